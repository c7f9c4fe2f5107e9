
/- RdYes, RdPs, RdRep. -/
import Derived.Test.YtnckmajfmkkpgaaGreatBB31
/- A record whose page is among the pages. -/
namespace Go.Proofs.YtnckmajfmkkpgaaGreat
open Go.RowKit Go.Lib

theorem has_at {ls : List Sl} {x : Int} (h : hasB ls x = true) : ∃ s, ls[ahead ls x]? = some s ∧ s.page = x := by
  unfold hasB at h
  split at h
  · cases h
  · rename_i s hs
    exact ⟨s, hs, by simpa using h⟩
end Go.Proofs.YtnckmajfmkkpgaaGreat

/- Pages rise, and stay so. -/
namespace Go.Proofs.YtnckmajfmkkpgaaGreat
open Go.RowKit Go.Lib

/-- Pages that rise from 1 to 4096. -/
def PsOk (ps : List (Int × Nd)) : Prop := (ps.map (·.1)).Pairwise (· < ·) ∧ ∀ x ∈ ps.map (·.1), 1 ≤ x ∧ x ≤ 4096
theorem pw_few (l : List Int) (lo : Int) (hp : l.Pairwise (· < ·)) (h : ∀ x ∈ l, lo ≤ x ∧ x ≤ 4096) : (l.length : Int) ≤ max 0 (4097 - lo) := by
  induction l generalizing lo with
  | nil => simp; omega
  | cons a l ih =>
    have ha := h a (by simp)
    rw [List.pairwise_cons] at hp
    have := ih (a + 1) hp.2 (fun x hx => ⟨by have := hp.1 x hx; omega, (h x (by simp [hx])).2⟩)
    simp only [List.length_cons]
    omega
theorem PsOk.few {ps : List (Int × Nd)} (h : PsOk ps) : ps.length ≤ 4096 := by
  have := pw_few _ 1 h.1 h.2
  simp at this
  omega
theorem PsOk.rise {ls : List Sl} (h : PsOk (psOf ls)) : Rise ls := by
  intro i j s t hij hi hj
  have h1 := List.pairwise_iff_getElem.1 h.1
  obtain ⟨hi1, hi2⟩ := List.getElem?_eq_some_iff.1 hi
  obtain ⟨hj1, hj2⟩ := List.getElem?_eq_some_iff.1 hj
  have := h1 i j (by simp [psOf]; exact hi1) (by simp [psOf]; exact hj1) hij
  simp [psOf] at this
  rw [hi2, hj2] at this
  exact this
theorem ps_length (ls : List Sl) : (psOf ls).length = ls.length := by simp [psOf]
theorem ari_ok (x : Int) (ps : List (Int × Nd)) (h : ariB x ps = true) : (ps.map (·.1)).Pairwise (· < ·) ∧ (∀ y ∈ ps.map (·.1), x < y ∧ y ≤ 4096) ∧ ∀ p ∈ ps, rightB p.2 = true := by
  induction ps generalizing x with
  | nil => exact ⟨List.Pairwise.nil, (fun y hy => by cases hy), (fun p hp => by cases hp)⟩
  | cons p l ih =>
    obtain ⟨y, n⟩ := p
    simp only [ariB, Bool.and_eq_true, decide_eq_true_eq] at h
    obtain ⟨⟨⟨h1, h2⟩, h3⟩, h4⟩ := h
    obtain ⟨k1, k2, k3⟩ := ih y h4
    refine ⟨?_, ?_, ?_⟩
    · rw [List.map_cons, List.pairwise_cons]
      exact ⟨fun z hz => (k2 z hz).1, k1⟩
    · intro z hz
      rw [List.map_cons, List.mem_cons] at hz
      rcases hz with rfl | hz
      · exact ⟨h1, h2⟩
      · have := k2 z hz; exact ⟨by omega, this.2⟩
    · intro q hq
      rcases List.mem_cons.1 hq with rfl | hq
      · exact h3
      · exact k3 q hq
theorem ari_psok {ps : List (Int × Nd)} (h : ariB 0 ps = true) : PsOk ps := by
  obtain ⟨h1, h2, _⟩ := ari_ok 0 ps h
  exact ⟨h1, fun x hx => by have := h2 x hx; omega⟩
theorem ins_pw (l : List (Int × Nd)) (x : Int) (n : Nd) (hp : (l.map (·.1)).Pairwise (· < ·)) (hb : hasP l x = false) : ((l.take (ahP l x) ++ (x, n) :: l.drop (ahP l x)).map (·.1)).Pairwise (· < ·) := by
  induction l with
  | nil => simp [ahP]
  | cons s l ih =>
    rw [List.map_cons, List.pairwise_cons] at hp
    by_cases h : s.1 < x
    · have e : ahP (s :: l) x = ahP l x + 1 := if_pos h
      have hb' : hasP l x = false := by
        unfold hasP at hb ⊢
        rw [e, List.getElem?_cons_succ] at hb
        exact hb
      rw [e, List.take_succ_cons, List.drop_succ_cons, List.cons_append, List.map_cons, List.pairwise_cons]
      refine ⟨?_, ih hp.2 hb'⟩
      intro y hy
      simp only [List.map_append, List.map_cons, List.mem_append, List.mem_cons] at hy
      rcases hy with hy | rfl | hy
      · rw [List.map_take] at hy; exact hp.1 y (List.mem_of_mem_take hy)
      · exact h
      · rw [List.map_drop] at hy; exact hp.1 y (List.mem_of_mem_drop hy)
    · have e : ahP (s :: l) x = 0 := if_neg h
      have hne : s.1 ≠ x := by
        unfold hasP at hb
        rw [e, List.getElem?_cons_zero] at hb
        simpa using hb
      rw [e, List.take_zero, List.drop_zero, List.nil_append, List.map_cons, List.pairwise_cons]
      refine ⟨?_, by rw [List.map_cons, List.pairwise_cons]; exact hp⟩
      intro y hy
      rw [List.map_cons, List.mem_cons] at hy
      rcases hy with rfl | hy
      · omega
      · have := hp.1 y hy; omega
theorem page_in {n : Nd} {b : Bool} {r : Rec} (h : apE n b r = 0) : 1 ≤ r.page ∧ r.page ≤ 4096 := by
  have hp : preE n b r = 0 := by
    unfold apE at h
    by_cases e : preE n b r = 0
    · exact e
    · rw [if_neg e] at h; exact absurd h e
  obtain ⟨h1, _, h3⟩ := pre_ok hp
  unfold rok suitB at h1
  simp only [Bool.and_eq_true] at h1
  have h2 := h1.2.2
  have hk : r.kind = 4 ∨ r.kind = 2 ∨ r.kind = 3 ∨ r.kind = 5 ∨ r.kind = 6 := by
    unfold needE at h3
    by_cases e4 : r.kind = 4
    · exact .inl e4
    · rw [if_neg e4] at h3
      by_cases e : r.kind = 2 ∨ r.kind = 3 ∨ r.kind = 5 ∨ r.kind = 6
      · exact .inr e
      · rw [if_neg e] at h3; cases h3
  have hg : pgB r.page = true := by
    rcases hk with e | e | e | e | e <;> simp [e] at h2 <;> exact h2.2.1
  unfold pgB wthB at hg
  simpa using hg
theorem PsOk.step {ps : List (Int × Nd)} (h : PsOk ps) (r : Rec) (h0 : rpE ps r = 0) : PsOk (rpP ps r) := by
  by_cases e1 : apE (nodeP ps r.page) (hasP ps r.page) r = 1
  · rw [(rp_arg rfl rfl e1).2]; exact h
  · have e0 : apE (nodeP ps r.page) (hasP ps r.page) r = 0 := by unfold rpE at h0; rwa [if_neg e1] at h0
    have hpg := page_in e0
    cases hb : hasP ps r.page
    · rw [hb] at e0
      rw [(rp_ins hb rfl e0).2]
      refine ⟨ins_pw ps r.page _ h.1 hb, ?_⟩
      intro x hx
      simp only [List.map_append, List.map_cons, List.mem_append, List.mem_cons] at hx
      rcases hx with hx | rfl | hx
      · rw [List.map_take] at hx; exact h.2 x (List.mem_of_mem_take hx)
      · exact hpg
      · rw [List.map_drop] at hx; exact h.2 x (List.mem_of_mem_drop hx)
    · rw [hb] at e0
      rw [(rp_set hb rfl e0).2]
      have hm : (ps.set (ahP ps r.page) (r.page, apN (nodeP ps r.page) true r)).map (·.1) = ps.map (·.1) := by
        rw [List.map_set]
        unfold hasP at hb
        split at hb
        · cases hb
        · rename_i s hs
          have e : s.1 = r.page := by simpa using hb
          apply List.ext_getElem?
          intro k
          rw [List.getElem?_set]
          split
          · rename_i hk
            subst hk
            obtain ⟨h5, h6⟩ := List.getElem?_eq_some_iff.1 hs
            rw [if_pos (by simpa using h5), List.getElem?_map, hs]
            exact congrArg some e.symm
          · rfl
      unfold PsOk
      rw [hm]
      exact h
/-- What records make of pages, one behind the other. -/
def rplP : List (Int × Nd) → List Rec → List (Int × Nd) × Int
  | ps, [] => (ps, 0)
  | ps, r :: rs => if rpE ps r = 0 then rplP (rpP ps r) rs else ([], rpE ps r)
def rplA (ps : List (Int × Nd)) (rs : List Rec) : List (Int × Nd) × Int := if ariB 0 ps = true then rplP ps rs else ([], 70)
theorem rpl_next {rs : List Rec} {k : Nat} {r : Rec} (ps : List (Int × Nd)) (h : rs[k]? = some r) : rplP ps (rs.drop k) = if rpE ps r = 0 then rplP (rpP ps r) (rs.drop (k + 1)) else ([], rpE ps r) := by
  have hj := (List.getElem?_eq_some_iff.1 h).1
  rw [List.drop_eq_getElem_cons hj, (List.getElem?_eq_some_iff.1 h).2]
  rfl
end Go.Proofs.YtnckmajfmkkpgaaGreat

/- Replay. -/
namespace Go.Proofs.YtnckmajfmkkpgaaGreat
open Go.RowKit

/-- What Replay tells. -/
def RplOut (w : World) (o : List (Int × Nd) × Int) (e : Ending) (w' : World) : Prop := ∃ a' c' ls', e = .returned (.tuple #[.slice a' ls'.length c', .int .i64 o.2]) ∧ Sv w' (.slice a' ls'.length c') ls' ∧ psOf ls' = o.1 ∧ Fr (fun _ => False) w w'
theorem rpl_nil {w W : World} {o : List (Int × Nd) × Int} {err : Int} (h : o = ([], err)) (f : Fr (fun _ => False) w W) : RplOut w o (.returned (.tuple #[.slice none 0 0, .int .i64 err])) W := by
  subst h
  exact ⟨none, 0, [], rfl, ⟨Has.nil _ _, (fun s hs => by cases hs), (fun s hs => by cases hs)⟩, rfl, f⟩
end Go.Proofs.YtnckmajfmkkpgaaGreat
