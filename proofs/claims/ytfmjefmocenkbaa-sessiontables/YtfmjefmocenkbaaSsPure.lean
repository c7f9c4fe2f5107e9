
/- Tables of requests, as plain lists. -/
import Derived.Test.YtfmjefmocenkbaaSsMap
namespace Go.Proofs.Ytfmjefmocenkbaa
open Go.RowKit

/-- Requests that wait: numbers and LSNs. -/
abbrev Wt := List (Int × Int)
def lk : Wt → Int → Option Int
  | [], _ => none
  | p :: t, x => if x = p.1 then some p.2 else lk t x
def ltB (p q : Int × Int) : Bool := decide (p.2 < q.2) || (decide (p.2 = q.2) && decide (p.1 < q.1))
def ins (p : Int × Int) : Wt → Wt
  | [] => [p]
  | q :: t => if ltB p q = true then p :: q :: t else q :: ins p t
def rng (x : Int) : Bool := decide (1 ≤ x) && decide (x ≤ 1099511627776)
structure Ok (L : Wt) : Prop where
  sorted : L.Pairwise (fun p q => ltB p q = true)
  nd : (L.map Prod.fst).Nodup
  rg : ∀ p ∈ L, rng p.1 = true ∧ rng p.2 = true
theorem rng_iff {x : Int} : rng x = true ↔ 1 ≤ x ∧ x ≤ 1099511627776 := by simp [rng]
theorem rng_wf {x : Int} (h : rng x = true) : wfK x := by rw [rng_iff] at h; exact wfK_of (by omega)
theorem Ok.nil : Ok [] := ⟨List.Pairwise.nil, List.nodup_nil, (fun _ h => by cases h)⟩
theorem lk_none {L : Wt} {x : Int} : lk L x = none ↔ x ∉ L.map Prod.fst := by
  induction L with
  | nil => simp [lk]
  | cons p t ih =>
    simp only [lk, List.map_cons, List.mem_cons, not_or]
    by_cases h : x = p.1
    · simp [h]
    · simp [h, ih]
theorem lk_mem {L : Wt} {x l : Int} (h : lk L x = some l) : (x, l) ∈ L := by
  induction L with
  | nil => cases h
  | cons p t ih =>
    simp only [lk] at h
    by_cases e : x = p.1
    · rw [if_pos e] at h; cases h; rw [e]; exact List.mem_cons_self ..
    · rw [if_neg e] at h; exact List.mem_cons_of_mem _ (ih h)
theorem lk_of {L : Wt} (nd : (L.map Prod.fst).Nodup) {p : Int × Int} (h : p ∈ L) : lk L p.1 = some p.2 := by
  induction L with
  | nil => cases h
  | cons q t ih =>
    simp only [List.map_cons, List.nodup_cons] at nd
    simp only [lk]
    rcases List.mem_cons.1 h with rfl | h
    · rw [if_pos rfl]
    · rw [if_neg (fun e => nd.1 (by rw [← e]; exact List.mem_map.2 ⟨p, h, rfl⟩))]
      exact ih nd.2 h
theorem ltB_irr (p : Int × Int) : ltB p p = false := by simp [ltB]
theorem ltB_trans {p q r : Int × Int} (h : ltB p q = true) (k : ltB q r = true) : ltB p r = true := by
  simp [ltB] at *; omega
theorem ltB_tri {p q : Int × Int} (h : ltB p q = false) (hne : p.1 ≠ q.1) : ltB q p = true := by
  simp [ltB] at *; omega
theorem ins_perm (p : Int × Int) (L : Wt) : (ins p L).Perm (p :: L) := by
  induction L with
  | nil => exact List.Perm.refl _
  | cons q t ih =>
    simp only [ins]
    split
    · exact List.Perm.refl _
    · exact (List.Perm.cons q ih).trans (List.Perm.swap p q t)
theorem ins_len (p : Int × Int) (L : Wt) : (ins p L).length = L.length + 1 := (ins_perm p L).length_eq
theorem ins_ok {L : Wt} (h : Ok L) {p : Int × Int} (hn : lk L p.1 = none) (hr : rng p.1 = true ∧ rng p.2 = true) : Ok (ins p L) := by
  have hm := lk_none.1 hn
  refine ⟨?_, ?_, fun q hq => ?_⟩
  · have hs := h.sorted
    clear hn hr h
    induction L with
    | nil => exact List.pairwise_cons.2 ⟨(fun _ h => by cases h), List.Pairwise.nil⟩
    | cons q t ih =>
      simp only [List.map_cons, List.mem_cons, not_or] at hm
      rw [List.pairwise_cons] at hs
      simp only [ins]
      split
      · rename_i hlt
        refine List.pairwise_cons.2 ⟨fun r hr => ?_, List.pairwise_cons.2 hs⟩
        rcases List.mem_cons.1 hr with rfl | hr
        · exact hlt
        · exact ltB_trans hlt (hs.1 r hr)
      · rename_i hlt
        refine List.pairwise_cons.2 ⟨fun r hr => ?_, ih hm.2 hs.2⟩
        rcases List.mem_cons.1 ((ins_perm p t).mem_iff.1 hr) with rfl | hr
        · exact ltB_tri (by simpa using hlt) hm.1
        · exact hs.1 r hr
  · refine ((ins_perm p L).map Prod.fst).nodup_iff.2 ?_
    exact List.nodup_cons.2 ⟨hm, h.nd⟩
  · rcases List.mem_cons.1 ((ins_perm p L).mem_iff.1 hq) with rfl | hq
    · exact hr
    · exact h.rg q hq
theorem lk_ext {L M : Wt} (hL : (L.map Prod.fst).Nodup) (hM : (M.map Prod.fst).Nodup) (h : ∀ p, p ∈ L ↔ p ∈ M) (x : Int) : lk L x = lk M x := by
  cases hl : lk L x with
  | some l => exact (lk_of hM ((h _).1 (lk_mem hl))).symm
  | none =>
    cases hm : lk M x with
    | none => rfl
    | some l => have := lk_of hL ((h _).2 (lk_mem hm)); simp only at this; rw [hl] at this; exact this
theorem lk_ins {L : Wt} (h : Ok L) {p : Int × Int} (hn : lk L p.1 = none) (hr : rng p.1 = true ∧ rng p.2 = true) (x : Int) : lk (ins p L) x = if x = p.1 then some p.2 else lk L x := by
  rw [lk_ext (M := p :: L) (ins_ok h hn hr).nd (List.nodup_cons.2 ⟨lk_none.1 hn, h.nd⟩) (fun q => (ins_perm p L).mem_iff) x]
  rfl
/-- Those that settle, and those that stay. -/
def tkL (c : Int) (L : Wt) : Wt := L.filter fun p => decide (p.2 ≤ c)
def rsL (c : Int) (L : Wt) : Wt := L.filter fun p => !decide (p.2 ≤ c)
def tkR (c : Int) (L : Wt) : List Int := (tkL c L).map Prod.fst
theorem nodup_sub {A B : Wt} (h : A.Sublist B) (nd : (B.map Prod.fst).Nodup) : (A.map Prod.fst).Nodup := nd.sublist (h.map _)
theorem rs_ok {L : Wt} (h : Ok L) (c : Int) : Ok (rsL c L) := ⟨h.sorted.sublist List.filter_sublist, nodup_sub List.filter_sublist h.nd, fun p hp => h.rg p (List.mem_filter.1 hp).1⟩
theorem tk_len (c : Int) (L : Wt) : (tkR c L).length + (rsL c L).length = L.length := by
  simp only [tkR, tkL, rsL, List.length_map]
  induction L with
  | nil => rfl
  | cons p t ih =>
    by_cases h : p.2 ≤ c
    · simp [h]; omega
    · simp [h]; omega
theorem mem_tkR {c : Int} {L : Wt} {x : Int} : x ∈ tkR c L ↔ ∃ l, (x, l) ∈ L ∧ l ≤ c := by
  simp only [tkR, tkL, List.mem_map, List.mem_filter, decide_eq_true_eq]
  constructor
  · rintro ⟨⟨a, b⟩, ⟨h1, h2⟩, rfl⟩; exact ⟨b, h1, h2⟩
  · rintro ⟨l, h1, h2⟩; exact ⟨(x, l), ⟨h1, h2⟩, rfl⟩
theorem lk_rs {L : Wt} (h : Ok L) (c x : Int) : lk (rsL c L) x = if x ∈ tkR c L then none else lk L x := by
  have hnd := (rs_ok h c).nd
  by_cases hx : x ∈ tkR c L
  · rw [if_pos hx, lk_none]
    intro hm
    obtain ⟨l, h1, h2⟩ := mem_tkR.1 hx
    obtain ⟨p, hp, rfl⟩ := List.mem_map.1 hm
    obtain ⟨h3, h4⟩ := List.mem_filter.1 hp
    have e1 := lk_of h.nd h1
    have e2 := lk_of h.nd h3
    simp only at e1
    rw [e1] at e2
    simp only [Option.some.injEq] at e2
    simp only [Bool.not_eq_eq_eq_not, Bool.not_true, decide_eq_false_iff_not] at h4
    omega
  · rw [if_neg hx]
    cases hl : lk L x with
    | none => rw [lk_none] at hl ⊢; intro hm; obtain ⟨p, hp, rfl⟩ := List.mem_map.1 hm; exact hl (List.mem_map.2 ⟨p, (List.mem_filter.1 hp).1, rfl⟩)
    | some l =>
      have hm := lk_mem hl
      refine lk_of (p := (x, l)) hnd (List.mem_filter.2 ⟨hm, ?_⟩)
      have : ¬ l ≤ c := fun e => hx (mem_tkR.2 ⟨l, hm, e⟩)
      simpa using this
/-- What sorting makes of the keys is just that list. -/
def leK (L : Wt) (x y : Int) : Prop := ltB ((y, (lk L y).getD 0)) ((x, (lk L x).getD 0)) = false
theorem tk_sorted {L : Wt} (h : Ok L) (c : Int) : (tkR c L).Pairwise (fun x y => ltB (x, (lk L x).getD 0) (y, (lk L y).getD 0) = true) := by
  unfold tkR
  rw [List.pairwise_map]
  refine (h.sorted.sublist (List.filter_sublist (p := fun p => decide (p.2 ≤ c)))).imp_of_mem fun {p q} hp hq hlt => ?_
  rw [lk_of h.nd (List.mem_filter.1 hp).1, lk_of h.nd (List.mem_filter.1 hq).1]
  exact hlt
theorem tk_nodup {L : Wt} (h : Ok L) (c : Int) : (tkR c L).Nodup := nodup_sub List.filter_sublist h.nd
theorem sort_uniq {f : Int → Int × Int} (hf : ∀ x, (f x).1 = x) : ∀ {a b : List Int}, a.Perm b → a.Pairwise (fun x y => ltB (f y) (f x) = false) → b.Pairwise (fun x y => ltB (f x) (f y) = true) → a = b
  | [], _, hp, _, _ => (List.nil_perm.1 hp).symm ▸ rfl
  | x :: a, b, hp, ha, hb => by
    cases b with
    | nil => exact absurd hp.length_eq (by simp)
    | cons y b =>
      rw [List.pairwise_cons] at ha hb
      have hxy : x = y := by
        have hxm : x ∈ y :: b := hp.mem_iff.1 (List.mem_cons_self ..)
        have hym : y ∈ x :: a := hp.mem_iff.2 (List.mem_cons_self ..)
        rcases List.mem_cons.1 hxm with e | hxb
        · exact e
        · rcases List.mem_cons.1 hym with e | hya
          · exact e.symm
          · have h1 := hb.1 x hxb
            have h2 := ha.1 y hya
            rw [h1] at h2
            cases h2
      subst hxy
      have hp' : a.Perm b := (List.perm_cons x).1 hp
      rw [sort_uniq hf hp' ha.2 hb.2]
theorem keys_perm {L : Wt} (h : Ok L) (c : Int) {ss : List Int} (nd : ss.Nodup) (hm : ∀ x, x ∈ ss ↔ ∃ l, lk L x = some l ∧ l ≤ c) : ss.Perm (tkR c L) := by
  refine (List.perm_ext_iff_of_nodup nd (tk_nodup h c)).2 fun x => ?_
  rw [hm x, mem_tkR]
  constructor
  · rintro ⟨l, h1, h2⟩; exact ⟨l, lk_mem h1, h2⟩
  · rintro ⟨l, h1, h2⟩; exact ⟨l, lk_of h.nd h1, h2⟩
end Go.Proofs.Ytfmjefmocenkbaa
