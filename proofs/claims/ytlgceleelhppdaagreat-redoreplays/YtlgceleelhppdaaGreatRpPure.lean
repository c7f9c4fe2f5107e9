
/- What the document's Replay makes of pages that rise is what Replay makes. -/
import Derived.Test.YtlgceleelhppdaaGreatRpFind
namespace Go.Proofs.YtlgceleelhppdaaGreat
open Go.RowKit

theorem fnd_rise (ps : List (Int × Nd)) (x : Int) (h : (ps.map (·.1)).Pairwise (· < ·)) : fdN (fnd ps x) = nodeP ps x ∧ fdB (fnd ps x) = hasP ps x := by
  induction ps with
  | nil => exact ⟨rfl, rfl⟩
  | cons s l ih =>
    rw [List.map_cons, List.pairwise_cons] at h
    have hi := ih h.2
    by_cases h1 : s.1 < x
    · have e : ahP (s :: l) x = ahP l x + 1 := if_pos h1
      have eh : hasP (s :: l) x = hasP l x := by unfold hasP; rw [e, List.getElem?_cons_succ]
      have en : nodeP (s :: l) x = nodeP l x := by unfold nodeP; rw [eh, e, List.getElem?_cons_succ]
      have ef : fnd (s :: l) x = fnd l x := by unfold fnd; rw [List.find?_cons_of_neg (by simp; omega)]
      rw [ef, en, eh]
      exact hi
    · have e : ahP (s :: l) x = 0 := if_neg h1
      by_cases h2 : s.1 = x
      · have eh : hasP (s :: l) x = true := by unfold hasP; rw [e, List.getElem?_cons_zero]; simpa using h2
        have en : nodeP (s :: l) x = s.2 := by unfold nodeP; rw [eh, e, List.getElem?_cons_zero]; rfl
        have ef : fnd (s :: l) x = some s := by unfold fnd; rw [List.find?_cons_of_pos (by simpa using h2)]
        rw [ef, en, eh]
        exact ⟨rfl, rfl⟩
      · have eh : hasP (s :: l) x = false := by unfold hasP; rw [e, List.getElem?_cons_zero]; simpa using h2
        have en : nodeP (s :: l) x = zn := by unfold nodeP; rw [eh]; rfl
        have ef : fnd (s :: l) x = none := by
          unfold fnd
          rw [List.find?_eq_none]
          intro t ht
          rcases List.mem_cons.1 ht with rfl | ht
          · simpa using h2
          · have := h.1 t.1 (List.mem_map.2 ⟨t, ht, rfl⟩)
            simp
            omega
        rw [ef, en, eh]
        exact ⟨rfl, rfl⟩
/-- Pages with a page's node. -/
def wthF (x : Int) (n : Nd) : Bool → List (Int × Nd) → List (Int × Nd)
  | put, [] => if put = true then [] else [(x, n)]
  | put, s :: l => (if put = false ∧ x ≤ s.1 then [(x, n)] else []) ++ ((if s.1 ≠ x then [s] else []) ++ wthF x n (put || decide (x ≤ s.1)) l)
theorem wth_true (x : Int) (n : Nd) (l : List (Int × Nd)) (h : ∀ s ∈ l, x < s.1) : wthF x n true l = l := by
  induction l with
  | nil => rfl
  | cons s l ih =>
    have := h s (by simp)
    simp only [wthF, Bool.true_or]
    rw [ih (fun t ht => h t (by simp [ht])), if_neg (by simp), if_pos (by omega)]
    rfl
theorem wth_rise (ps : List (Int × Nd)) (x : Int) (n : Nd) (h : (ps.map (·.1)).Pairwise (· < ·)) : wthF x n false ps = if hasP ps x = true then ps.set (ahP ps x) (x, n) else ps.take (ahP ps x) ++ (x, n) :: ps.drop (ahP ps x) := by
  induction ps with
  | nil => rfl
  | cons s l ih =>
    rw [List.map_cons, List.pairwise_cons] at h
    have hi := ih h.2
    have hg : ∀ t ∈ l, s.1 < t.1 := fun t ht => h.1 t.1 (List.mem_map.2 ⟨t, ht, rfl⟩)
    by_cases h1 : s.1 < x
    · have e : ahP (s :: l) x = ahP l x + 1 := if_pos h1
      have eh : hasP (s :: l) x = hasP l x := by unfold hasP; rw [e, List.getElem?_cons_succ]
      simp only [wthF, Bool.false_or]
      rw [decide_eq_false (show ¬ x ≤ s.1 by omega), hi, if_neg (by omega), if_pos (by omega), eh, e]
      split <;> simp
    · have e : ahP (s :: l) x = 0 := if_neg h1
      simp only [wthF, Bool.false_or]
      rw [decide_eq_true (show x ≤ s.1 by omega), wth_true x n l (fun t ht => by have := hg t ht; omega), if_pos (by simp; omega), e]
      by_cases h2 : s.1 = x
      · have eh : hasP (s :: l) x = true := by unfold hasP; rw [e, List.getElem?_cons_zero]; simpa using h2
        rw [eh, if_neg (by simp [h2]), if_pos rfl]
        rfl
      · have eh : hasP (s :: l) x = false := by unfold hasP; rw [e, List.getElem?_cons_zero]; simpa using h2
        rw [eh, if_pos h2, if_neg (by simp)]
        rfl
def skipB (r : Rec) : Bool := idleB r.kind && rok r
theorem has_zero {ps : List (Int × Nd)} {x : Int} (h : PsOk ps) (hx : x ≤ 0) : hasP ps x = false := by
  unfold hasP
  split
  · rfl
  · rename_i s hs
    have := h.2 s.1 (List.mem_map.2 ⟨s, List.mem_of_getElem? hs, rfl⟩)
    simp
    omega
theorem skip_page {r : Rec} (h : skipB r = true) : r.page = 0 := by
  unfold skipB at h
  rw [Bool.and_eq_true] at h
  obtain ⟨h1, h2⟩ := h
  unfold idleB at h1
  unfold rok suitB at h2
  simp only [Bool.or_eq_true, beq_iff_eq, Bool.and_eq_true] at h1 h2
  have h3 := h2.2.2
  rcases h1 with e | e <;> simp [e] at h3 <;> omega
theorem skip_step {ps : List (Int × Nd)} {r : Rec} (h : skipB r = true) (hp : PsOk ps) : rpE ps r = 0 ∧ rpP ps r = ps := by
  have hb := has_zero hp (x := r.page) (by rw [skip_page h]; omega)
  have h' := h
  unfold skipB at h'
  rw [Bool.and_eq_true] at h'
  have hpre : preE (nodeP ps r.page) false r = 1 := by rw [pre_need h'.2 (by simp), need_idle h'.1]
  refine rp_arg hb rfl ?_
  exact (ap_err hpre (by decide)).2.2
theorem ap_one {n : Nd} {b : Bool} {r : Rec} (h : apE n b r = 1) : skipB r = true := by
  have hp : preE n b r = 1 := by
    unfold apE at h
    by_cases e : preE n b r = 0
    · rw [if_pos e] at h
      split at h
      · omega
      · split at h <;> omega
    · rw [if_neg e] at h; exact h
  cases hr : rok r
  · rw [pre_rec hr] at hp; omega
  · unfold skipB
    rw [hr, Bool.and_true]
    cases hi : idleB r.kind
    · have hk := rok_kind hr hi
      by_cases hn : b = true → rightB n = true
      · rw [pre_need hr hn] at hp
        rcases hk with e | e
        · rw [need_four b e] at hp; omega
        · rw [need_page e] at hp; split at hp <;> omega
      · have hbt : b = true := by
          cases b
          · exact absurd (fun h => by cases h) hn
          · rfl
        subst hbt
        have : rightB n = false := by
          cases hh : rightB n
          · rfl
          · exact absurd (fun _ => hh) hn
        rw [pre_node hr this] at hp; omega
    · rfl
theorem go_step {ps : List (Int × Nd)} {r : Rec} (h : skipB r = false) (hp : PsOk ps) : rpE ps r = apE (fdN (fnd ps r.page)) (fdB (fnd ps r.page)) r ∧ (apE (fdN (fnd ps r.page)) (fdB (fnd ps r.page)) r = 0 → rpP ps r = wthF r.page (apN (fdN (fnd ps r.page)) (fdB (fnd ps r.page)) r) false ps) := by
  obtain ⟨e1, e2⟩ := fnd_rise ps r.page hp.1
  rw [e1, e2, wth_rise _ _ _ hp.1]
  have hne : apE (nodeP ps r.page) (hasP ps r.page) r ≠ 1 := fun e => by rw [ap_one e] at h; cases h
  refine ⟨by unfold rpE; rw [if_neg hne], fun h0 => ?_⟩
  cases hb : hasP ps r.page
  · rw [hb] at h0
    rw [(rp_ins hb rfl h0).2, if_neg (by simp)]
  · rw [hb] at h0
    rw [(rp_set hb rfl h0).2, if_pos rfl]
end Go.Proofs.YtlgceleelhppdaaGreat
