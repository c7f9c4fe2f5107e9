
/- The plain mathematics of maps as rising lists of entries. -/
import Derived.Test.YtdlnflcjodpkiaaGreatFdRec
namespace Go.Proofs.YtdlnflcjodpkiaaGreat
open Go.RowKit

abbrev En := ByteArray × ByteArray
/-- The order of two texts. -/
def cp (a b : ByteArray) : Int := cpl (bsOf a) (bsOf b)
theorem cp_refl (a : ByteArray) : cp a a = 0 := cpl_refl _
theorem cp_neg (a b : ByteArray) : cp b a = -cp a b := cpl_neg _ _
theorem cp_vals (a b : ByteArray) : cp a b = -1 ∨ cp a b = 0 ∨ cp a b = 1 := cpl_vals _ _
theorem cp_eq {a b : ByteArray} (h : cp a b = 0) : a = b := bs_inj ((cpl_eq _ _).1 h)
theorem cp_trans {a b c : ByteArray} (h1 : cp a b ≤ 0) (h2 : cp b c ≤ 0) : cp a c ≤ 0 := cpl_trans _ _ _ h1 h2
theorem cp_ne {a b : ByteArray} (h : cp a b < 0) : a ≠ b := fun e => by rw [e, cp_refl] at h; omega
theorem cp_lt_trans {a b c : ByteArray} (h1 : cp a b < 0) (h2 : cp b c < 0) : cp a c < 0 := by
  rcases Int.lt_or_eq_of_le (cp_trans (Int.le_of_lt h1) (Int.le_of_lt h2)) with h | h
  · exact h
  · have e := cp_eq h
    subst e
    have := cp_neg a b
    omega
/-- Keys that rise. -/
def Ris (L : List En) : Prop := L.Pairwise (fun x y => cp x.1 y.1 < 0)
def fnd (L : List En) (k : ByteArray) : Option En := L.find? (fun e => decide (e.1 = k))
theorem fnd_key {L : List En} {k : ByteArray} {e : En} (h : fnd L k = some e) : e.1 = k ∧ e ∈ L := by
  have := List.find?_some h
  exact ⟨by simpa using this, List.mem_of_find?_eq_some h⟩
theorem fnd_mem {L : List En} (hr : Ris L) {e : En} (h : e ∈ L) : fnd L e.1 = some e := by
  induction L with
  | nil => cases h
  | cons x m ih =>
    obtain ⟨h1, h2⟩ := List.pairwise_cons.1 hr
    unfold fnd
    rw [List.find?_cons]
    rcases List.mem_cons.1 h with rfl | h'
    · simp
    · have := cp_ne (h1 e h')
      rw [show decide (x.1 = e.1) = false by simpa using this]
      exact ih h2 h'
theorem fnd_some {L : List En} {k : ByteArray} : (fnd L k).isSome = true ↔ ∃ e ∈ L, e.1 = k := by
  unfold fnd
  rw [List.find?_isSome]
  simp
/-- What a write leaves: put tells that nothing is to be put any more. -/
def wthG (k v : ByteArray) : Bool → List En → List En
  | p, [] => if p = true then [] else [(k, v)]
  | p, e :: m => (if p = false ∧ ¬ cp e.1 k < 0 then [(k, v)] else []) ++ ((if e.1 = k then [] else [e]) ++ wthG k v (p || !decide (cp e.1 k < 0)) m)
theorem wthG_true (k v : ByteArray) (L : List En) : wthG k v true L = L.filter (fun e => decide (e.1 ≠ k)) := by
  induction L with
  | nil => rfl
  | cons e m ih =>
    show (if true = false ∧ _ then _ else _) ++ _ = _
    rw [if_neg (by simp)]
    simp only [Bool.true_or, ih, List.nil_append]
    by_cases h : e.1 = k <;> simp [h]
theorem filter_all {α : Type} {p : α → Bool} {L : List α} (h : ∀ x ∈ L, p x = true) : L.filter p = L := List.filter_eq_self.2 h
/-- A put: what is ahead, the entry, what is behind. -/
theorem wthG_false {k v : ByteArray} {L : List En} (hr : Ris L) : wthG k v false L = L.filter (fun e => decide (cp e.1 k < 0)) ++ (k, v) :: L.filter (fun e => decide (0 < cp e.1 k)) := by
  induction L with
  | nil => rfl
  | cons e m ih =>
    obtain ⟨h1, h2⟩ := List.pairwise_cons.1 hr
    show (if false = false ∧ _ then _ else _) ++ ((if e.1 = k then [] else [e]) ++ wthG k v (false || !decide (cp e.1 k < 0)) m) = _
    by_cases hl : cp e.1 k < 0
    · rw [if_neg (by simp [hl]), if_neg (cp_ne hl)]
      have h0 : ¬ 0 < cp e.1 k := by omega
      simp only [hl, h0, decide_true, Bool.not_true, Bool.or_false, ih h2, List.nil_append, List.filter_cons_of_pos, decide_false, List.cons_append, Bool.false_eq_true, not_false_eq_true, List.filter_cons_of_neg]
    · rw [if_pos ⟨rfl, hl⟩]
      have hm : ∀ x ∈ m, 0 < cp x.1 k := fun x hx => by
        have h3 := h1 x hx
        have h4 : cp k e.1 ≤ 0 := by have := cp_neg e.1 k; omega
        have h5 : cp k x.1 ≤ 0 := cp_trans h4 (by omega)
        have h6 := cp_neg k x.1
        rcases Int.lt_or_eq_of_le h5 with h | h
        · omega
        · exfalso
          have hk := cp_eq h
          rw [← hk] at h3
          omega
      have hm1 : m.filter (fun e => decide (cp e.1 k < 0)) = [] := List.filter_eq_nil_iff.2 (fun x hx => by have := hm x hx; simp; omega)
      have hm2 : m.filter (fun e => decide (0 < cp e.1 k)) = m := filter_all (fun x hx => by simpa using hm x hx)
      have hm3 : m.filter (fun e => decide (e.1 ≠ k)) = m := filter_all (fun x hx => by have := hm x hx; simp; intro e; rw [e, cp_refl] at this; omega)
      simp only [hl, decide_false, Bool.not_false, Bool.or_true, wthG_true, hm3, Bool.false_eq_true, not_false_eq_true, List.filter_cons_of_neg, hm1, List.nil_append, List.singleton_append]
      by_cases he : e.1 = k
      · rw [if_pos he]
        have : ¬ 0 < cp e.1 k := by rw [he, cp_refl]; omega
        simp [this, hm2]
      · rw [if_neg he]
        have : 0 < cp e.1 k := by
          rcases cp_vals e.1 k with h | h | h
          · omega
          · exact absurd (cp_eq h) he
          · omega
        simp [this, hm2]
theorem ris_filter {L : List En} (hr : Ris L) (p : En → Bool) : Ris (L.filter p) := hr.filter _
theorem ris_wth {k v : ByteArray} {L : List En} (hr : Ris L) (p : Bool) : Ris (wthG k v p L) := by
  cases p with
  | true => rw [wthG_true]; exact ris_filter hr _
  | false =>
    rw [wthG_false hr]
    refine List.pairwise_append.2 ⟨ris_filter hr _, List.pairwise_cons.2 ⟨fun x hx => ?_, ris_filter hr _⟩, fun x hx y hy => ?_⟩
    · have := (List.mem_filter.1 hx).2
      have h2 := cp_neg k x.1
      simp at this
      show cp k x.1 < 0
      omega
    · have h1 := (List.mem_filter.1 hx).2
      simp at h1
      rcases List.mem_cons.1 hy with rfl | hy
      · exact h1
      · have h2 := (List.mem_filter.1 hy).2
        simp at h2
        have := cp_neg k y.1
        exact cp_lt_trans h1 (by omega)
theorem mem_wth {k v : ByteArray} {L : List En} (hr : Ris L) (p : Bool) (e : En) : e ∈ wthG k v p L ↔ (e ∈ L ∧ e.1 ≠ k) ∨ (p = false ∧ e = (k, v)) := by
  cases p with
  | true => rw [wthG_true, List.mem_filter]; simp
  | false =>
    rw [wthG_false hr, List.mem_append, List.mem_cons, List.mem_filter, List.mem_filter]
    constructor
    · rintro (⟨h1, h2⟩ | h | ⟨h1, h2⟩)
      · simp at h2; exact .inl ⟨h1, cp_ne h2⟩
      · exact .inr ⟨rfl, h⟩
      · simp at h2; exact .inl ⟨h1, fun e => by rw [e, cp_refl] at h2; omega⟩
    · rintro (⟨h1, h2⟩ | ⟨_, h⟩)
      · rcases cp_vals e.1 k with h | h | h
        · exact .inl ⟨h1, by simp; omega⟩
        · exact absurd (cp_eq h) h2
        · exact .inr (.inr ⟨h1, by simp; omega⟩)
      · exact .inr (.inl h)
theorem fnd_iff {L : List En} (hr : Ris L) {k : ByteArray} {e : En} : fnd L k = some e ↔ e ∈ L ∧ e.1 = k := by
  constructor
  · intro h; exact ⟨(fnd_key h).2, (fnd_key h).1⟩
  · rintro ⟨h, rfl⟩; exact fnd_mem hr h
theorem fnd_wth {k v : ByteArray} {L : List En} (hr : Ris L) (p : Bool) (x : ByteArray) : fnd (wthG k v p L) x = if x = k then (if p = true then none else some (k, v)) else fnd L x := by
  have hr2 := ris_wth (k := k) (v := v) hr p
  by_cases hx : x = k
  · rw [if_pos hx]
    subst hx
    cases p with
    | true =>
      rw [if_pos rfl]
      cases hf : fnd (wthG x v true L) x with
      | none => rfl
      | some e =>
        obtain ⟨h1, h2⟩ := (fnd_iff hr2).1 hf
        rcases (mem_wth hr true e).1 h1 with ⟨_, h⟩ | ⟨h, _⟩
        · exact absurd h2 h
        · cases h
    | false =>
      rw [if_neg (by simp)]
      exact (fnd_iff hr2).2 ⟨(mem_wth hr false _).2 (.inr ⟨rfl, rfl⟩), rfl⟩
  · rw [if_neg hx]
    cases hf : fnd L x with
    | none =>
      cases hg : fnd (wthG k v p L) x with
      | none => rfl
      | some e =>
        obtain ⟨h1, h2⟩ := (fnd_iff hr2).1 hg
        rcases (mem_wth hr p e).1 h1 with ⟨h, _⟩ | ⟨_, h⟩
        · have := (fnd_iff hr).2 ⟨h, h2⟩; rw [hf] at this; cases this
        · subst h; exact absurd h2.symm hx
    | some e =>
      obtain ⟨h1, h2⟩ := (fnd_iff hr).1 hf
      exact (fnd_iff hr2).2 ⟨(mem_wth hr p e).2 (.inl ⟨h1, fun h => hx (by rw [← h2, h])⟩), h2⟩
/-- Two lists that rise and have the same entries are one. -/
theorem ris_ext {L M : List En} (hl : Ris L) (hm : Ris M) (h : ∀ e, e ∈ L ↔ e ∈ M) : L = M := by
  induction L generalizing M with
  | nil =>
    cases M with
    | nil => rfl
    | cons y n => have := (h y).2 (by simp); cases this
  | cons x l ih =>
    cases M with
    | nil => have := (h x).1 (by simp); cases this
    | cons y n =>
      obtain ⟨a1, a2⟩ := List.pairwise_cons.1 hl
      obtain ⟨b1, b2⟩ := List.pairwise_cons.1 hm
      have hxy : x = y := by
        rcases List.mem_cons.1 ((h x).1 (by simp)) with e | e
        · exact e
        · rcases List.mem_cons.1 ((h y).2 (by simp)) with e' | e'
          · exact e'.symm
          · have c1 := a1 y e'
            have c2 := b1 x e
            have := cp_neg x.1 y.1
            omega
      subst hxy
      rw [ih a2 b2 (fun e => ?_)]
      constructor
      · intro he
        rcases List.mem_cons.1 ((h e).1 (by simp [he])) with e' | e'
        · subst e'; exact absurd rfl (cp_ne (a1 e he))
        · exact e'
      · intro he
        rcases List.mem_cons.1 ((h e).2 (by simp [he])) with e' | e'
        · subst e'; exact absurd rfl (cp_ne (b1 e he))
        · exact e'
theorem len_wth {k v : ByteArray} {L : List En} (hr : Ris L) (p : Bool) : (wthG k v p L).length = (if p = true then 0 else 1) + (if (fnd L k).isSome = true then L.length - 1 else L.length) := by
  have key : (L.filter (fun e => decide (e.1 ≠ k))).length = if (fnd L k).isSome = true then L.length - 1 else L.length := by
    clear p
    induction L with
    | nil => rfl
    | cons e m ih =>
      obtain ⟨h1, h2⟩ := List.pairwise_cons.1 hr
      unfold fnd at ih ⊢
      rw [List.find?_cons]
      by_cases h : e.1 = k
      · subst h
        have : m.filter (fun x => decide (x.1 ≠ e.1)) = m := filter_all (fun x hx => by have := cp_ne (h1 x hx); simp; exact fun e => this e.symm)
        simp only [ne_eq, not_true_eq_false, decide_false, Bool.false_eq_true, not_false_eq_true, List.filter_cons_of_neg, decide_true, Option.isSome_some, if_true, List.length_cons]
        rw [this]; omega
      · rw [show decide (e.1 = k) = false by simpa using h]
        have := ih h2
        simp only [ne_eq, h, not_false_eq_true, decide_true, List.filter_cons_of_pos, List.length_cons, this]
        split
        · rename_i hs
          have : 0 < m.length := by
            cases m with
            | nil => simp at hs
            | cons _ _ => simp
          omega
        · rfl
  cases p with
  | true => rw [wthG_true, key]; simp
  | false =>
    rw [← key, wthG_false hr]
    have : ∀ M : List En, (M.filter (fun e => decide (cp e.1 k < 0))).length + (M.filter (fun e => decide (0 < cp e.1 k))).length = (M.filter (fun e => decide (e.1 ≠ k))).length := by
      intro M
      induction M with
      | nil => rfl
      | cons e m ih =>
        rcases cp_vals e.1 k with h | h | h
        · have h2 : e.1 ≠ k := cp_ne (by omega)
          simp only [h, h2, ne_eq, not_false_eq_true, decide_true, List.filter_cons_of_pos, List.length_cons, ← ih, show decide ((-1 : Int) < 0) = true from rfl, show decide ((0 : Int) < -1) = false from rfl, Bool.false_eq_true, List.filter_cons_of_neg]
          omega
        · have h2 := cp_eq h
          have h3 : ¬ cp e.1 k < 0 := by omega
          have h4 : ¬ 0 < cp e.1 k := by omega
          rw [List.filter_cons_of_neg (by simpa using h3), List.filter_cons_of_neg (by simpa using h4), List.filter_cons_of_neg (by simpa using h2)]
          exact ih
        · have h2 : e.1 ≠ k := fun e' => by rw [e', cp_refl] at h; omega
          simp only [h, h2, ne_eq, not_false_eq_true, decide_true, List.filter_cons_of_pos, List.length_cons, ← ih, show decide ((1 : Int) < 0) = false from rfl, show decide ((0 : Int) < 1) = true from rfl, Bool.false_eq_true, List.filter_cons_of_neg]
          omega
    have h5 := this L
    rw [List.length_append, List.length_cons]
    simp only [Bool.false_eq_true, if_false]
    rw [← h5]
    have h6 : ∀ a b c : Nat, c = b → a + (b + 1) = 1 + (a + c) := fun a b c h => by omega
    exact h6 _ _ _ rfl
/-- A write of a commit, and what is left behind many. -/
def wth (L : List En) (r : Rec) : List En := wthG r.key r.val (decide (r.other ≠ 1)) L
def beh (hs : List Rec) : List En := hs.foldl wth []
theorem ris_foldl {L : List En} (hr : Ris L) (hs : List Rec) : Ris (hs.foldl wth L) := by
  induction hs generalizing L with
  | nil => exact hr
  | cons r m ih => exact ih (ris_wth hr _)
theorem ris_beh (hs : List Rec) : Ris (beh hs) := ris_foldl List.Pairwise.nil hs
theorem beh_snoc (hs : List Rec) (r : Rec) : beh (hs ++ [r]) = wth (beh hs) r := by unfold beh; rw [List.foldl_append]; rfl
/-- Which records count. -/
def comB (r : Rec) : Bool := decide (r.kind = 7) && (wthB r.lsn 1 1099511627776 && (wthB r.ep 0 1099511627776 && ((r.page == 0) && (((r.other == 1 && valB r.val) || (r.other == 2 && emp r.val)) && (wthB r.req 1 1099511627776 && keyB r.key)))))
def hist (ls : List Rec) : List Rec := ls.filter comB
theorem len_wth_le (L : List En) (hr : Ris L) (r : Rec) : (wth L r).length ≤ L.length + 1 := by
  unfold wth
  rw [len_wth hr]
  split <;> split <;> omega
theorem len_beh (hs : List Rec) : (beh hs).length ≤ hs.length := by
  have : ∀ (L : List En), Ris L → (hs.foldl wth L).length ≤ L.length + hs.length := by
    induction hs with
    | nil => intro L _; simp
    | cons r m ih =>
      intro L hr
      have h1 := ih (wth L r) (ris_wth hr _)
      have h2 := len_wth_le L hr r
      simp only [List.foldl_cons, List.length_cons]
      omega
  have h0 := this [] List.Pairwise.nil
  unfold beh
  simpa using h0
end Go.Proofs.YtdlnflcjodpkiaaGreat
