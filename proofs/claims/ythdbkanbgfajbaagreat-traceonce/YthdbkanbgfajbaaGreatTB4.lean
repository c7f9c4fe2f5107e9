
/- FdPure, FdH0, FdDel. -/
import Derived.Test.YthdbkanbgfajbaaGreatTB3
/- The plain mathematics of maps as rising lists of entries. -/
namespace Go.Proofs.YthdbkanbgfajbaaGreat
open Go.RowKit

abbrev En := ByteArray × ByteArray
/-- The order of two texts. -/
def cp (a b : ByteArray) : Int := cpl (bsOf a) (bsOf b)
theorem cp_refl (a : ByteArray) : cp a a = 0 := cpl_refl _
theorem cp_neg (a b : ByteArray) : cp b a = -cp a b := cpl_neg _ _
theorem cp_vals (a b : ByteArray) : cp a b = -1 ∨ cp a b = 0 ∨ cp a b = 1 := cpl_vals _ _
theorem cp_eq {a b : ByteArray} (h : cp a b = 0) : a = b := bs_inj ((cpl_eq _ _).1 h)
theorem cp_trans {a b c : ByteArray} (h1 : cp a b ≤ 0) (h2 : cp b c ≤ 0) : cp a c ≤ 0 := cpl_trans _ _ _ h1 h2
theorem cp_ne {a b : ByteArray} (h : cp a b < 0) : a ≠ b := fun e => by rw [e, cp_refl] at h; omega
theorem cp_lt_trans {a b c : ByteArray} (h1 : cp a b < 0) (h2 : cp b c < 0) : cp a c < 0 := by
  rcases Int.lt_or_eq_of_le (cp_trans (Int.le_of_lt h1) (Int.le_of_lt h2)) with h | h
  · exact h
  · have e := cp_eq h
    subst e
    have := cp_neg a b
    omega
/-- Keys that rise. -/
def Ris (L : List En) : Prop := L.Pairwise (fun x y => cp x.1 y.1 < 0)
def fnd (L : List En) (k : ByteArray) : Option En := L.find? (fun e => decide (e.1 = k))
theorem fnd_key {L : List En} {k : ByteArray} {e : En} (h : fnd L k = some e) : e.1 = k ∧ e ∈ L := by
  have := List.find?_some h
  exact ⟨by simpa using this, List.mem_of_find?_eq_some h⟩
theorem fnd_mem {L : List En} (hr : Ris L) {e : En} (h : e ∈ L) : fnd L e.1 = some e := by
  induction L with
  | nil => cases h
  | cons x m ih =>
    obtain ⟨h1, h2⟩ := List.pairwise_cons.1 hr
    unfold fnd
    rw [List.find?_cons]
    rcases List.mem_cons.1 h with rfl | h'
    · simp
    · have := cp_ne (h1 e h')
      rw [show decide (x.1 = e.1) = false by simpa using this]
      exact ih h2 h'
theorem fnd_some {L : List En} {k : ByteArray} : (fnd L k).isSome = true ↔ ∃ e ∈ L, e.1 = k := by
  unfold fnd
  rw [List.find?_isSome]
  simp
/-- What a write leaves: put tells that nothing is to be put any more. -/
def wthG (k v : ByteArray) : Bool → List En → List En
  | p, [] => if p = true then [] else [(k, v)]
  | p, e :: m => (if p = false ∧ ¬ cp e.1 k < 0 then [(k, v)] else []) ++ ((if e.1 = k then [] else [e]) ++ wthG k v (p || !decide (cp e.1 k < 0)) m)
theorem wthG_true (k v : ByteArray) (L : List En) : wthG k v true L = L.filter (fun e => decide (e.1 ≠ k)) := by
  induction L with
  | nil => rfl
  | cons e m ih =>
    show (if true = false ∧ _ then _ else _) ++ _ = _
    rw [if_neg (by simp)]
    simp only [Bool.true_or, ih, List.nil_append]
    by_cases h : e.1 = k <;> simp [h]
theorem filter_all {α : Type} {p : α → Bool} {L : List α} (h : ∀ x ∈ L, p x = true) : L.filter p = L := List.filter_eq_self.2 h
/-- A put: what is ahead, the entry, what is behind. -/
theorem wthG_false {k v : ByteArray} {L : List En} (hr : Ris L) : wthG k v false L = L.filter (fun e => decide (cp e.1 k < 0)) ++ (k, v) :: L.filter (fun e => decide (0 < cp e.1 k)) := by
  induction L with
  | nil => rfl
  | cons e m ih =>
    obtain ⟨h1, h2⟩ := List.pairwise_cons.1 hr
    show (if false = false ∧ _ then _ else _) ++ ((if e.1 = k then [] else [e]) ++ wthG k v (false || !decide (cp e.1 k < 0)) m) = _
    by_cases hl : cp e.1 k < 0
    · rw [if_neg (by simp [hl]), if_neg (cp_ne hl)]
      have h0 : ¬ 0 < cp e.1 k := by omega
      simp only [hl, h0, decide_true, Bool.not_true, Bool.or_false, ih h2, List.nil_append, List.filter_cons_of_pos, decide_false, List.cons_append, Bool.false_eq_true, not_false_eq_true, List.filter_cons_of_neg]
    · rw [if_pos ⟨rfl, hl⟩]
      have hm : ∀ x ∈ m, 0 < cp x.1 k := fun x hx => by
        have h3 := h1 x hx
        have h4 : cp k e.1 ≤ 0 := by have := cp_neg e.1 k; omega
        have h5 : cp k x.1 ≤ 0 := cp_trans h4 (by omega)
        have h6 := cp_neg k x.1
        rcases Int.lt_or_eq_of_le h5 with h | h
        · omega
        · exfalso
          have hk := cp_eq h
          rw [← hk] at h3
          omega
      have hm1 : m.filter (fun e => decide (cp e.1 k < 0)) = [] := List.filter_eq_nil_iff.2 (fun x hx => by have := hm x hx; simp; omega)
      have hm2 : m.filter (fun e => decide (0 < cp e.1 k)) = m := filter_all (fun x hx => by simpa using hm x hx)
      have hm3 : m.filter (fun e => decide (e.1 ≠ k)) = m := filter_all (fun x hx => by have := hm x hx; simp; intro e; rw [e, cp_refl] at this; omega)
      simp only [hl, decide_false, Bool.not_false, Bool.or_true, wthG_true, hm3, Bool.false_eq_true, not_false_eq_true, List.filter_cons_of_neg, hm1, List.nil_append, List.singleton_append]
      by_cases he : e.1 = k
      · rw [if_pos he]
        have : ¬ 0 < cp e.1 k := by rw [he, cp_refl]; omega
        simp [this, hm2]
      · rw [if_neg he]
        have : 0 < cp e.1 k := by
          rcases cp_vals e.1 k with h | h | h
          · omega
          · exact absurd (cp_eq h) he
          · omega
        simp [this, hm2]
theorem ris_filter {L : List En} (hr : Ris L) (p : En → Bool) : Ris (L.filter p) := hr.filter _
theorem ris_wth {k v : ByteArray} {L : List En} (hr : Ris L) (p : Bool) : Ris (wthG k v p L) := by
  cases p with
  | true => rw [wthG_true]; exact ris_filter hr _
  | false =>
    rw [wthG_false hr]
    refine List.pairwise_append.2 ⟨ris_filter hr _, List.pairwise_cons.2 ⟨fun x hx => ?_, ris_filter hr _⟩, fun x hx y hy => ?_⟩
    · have := (List.mem_filter.1 hx).2
      have h2 := cp_neg k x.1
      simp at this
      show cp k x.1 < 0
      omega
    · have h1 := (List.mem_filter.1 hx).2
      simp at h1
      rcases List.mem_cons.1 hy with rfl | hy
      · exact h1
      · have h2 := (List.mem_filter.1 hy).2
        simp at h2
        have := cp_neg k y.1
        exact cp_lt_trans h1 (by omega)
theorem mem_wth {k v : ByteArray} {L : List En} (hr : Ris L) (p : Bool) (e : En) : e ∈ wthG k v p L ↔ (e ∈ L ∧ e.1 ≠ k) ∨ (p = false ∧ e = (k, v)) := by
  cases p with
  | true => rw [wthG_true, List.mem_filter]; simp
  | false =>
    rw [wthG_false hr, List.mem_append, List.mem_cons, List.mem_filter, List.mem_filter]
    constructor
    · rintro (⟨h1, h2⟩ | h | ⟨h1, h2⟩)
      · simp at h2; exact .inl ⟨h1, cp_ne h2⟩
      · exact .inr ⟨rfl, h⟩
      · simp at h2; exact .inl ⟨h1, fun e => by rw [e, cp_refl] at h2; omega⟩
    · rintro (⟨h1, h2⟩ | ⟨_, h⟩)
      · rcases cp_vals e.1 k with h | h | h
        · exact .inl ⟨h1, by simp; omega⟩
        · exact absurd (cp_eq h) h2
        · exact .inr (.inr ⟨h1, by simp; omega⟩)
      · exact .inr (.inl h)
theorem fnd_iff {L : List En} (hr : Ris L) {k : ByteArray} {e : En} : fnd L k = some e ↔ e ∈ L ∧ e.1 = k := by
  constructor
  · intro h; exact ⟨(fnd_key h).2, (fnd_key h).1⟩
  · rintro ⟨h, rfl⟩; exact fnd_mem hr h
theorem fnd_wth {k v : ByteArray} {L : List En} (hr : Ris L) (p : Bool) (x : ByteArray) : fnd (wthG k v p L) x = if x = k then (if p = true then none else some (k, v)) else fnd L x := by
  have hr2 := ris_wth (k := k) (v := v) hr p
  by_cases hx : x = k
  · rw [if_pos hx]
    subst hx
    cases p with
    | true =>
      rw [if_pos rfl]
      cases hf : fnd (wthG x v true L) x with
      | none => rfl
      | some e =>
        obtain ⟨h1, h2⟩ := (fnd_iff hr2).1 hf
        rcases (mem_wth hr true e).1 h1 with ⟨_, h⟩ | ⟨h, _⟩
        · exact absurd h2 h
        · cases h
    | false =>
      rw [if_neg (by simp)]
      exact (fnd_iff hr2).2 ⟨(mem_wth hr false _).2 (.inr ⟨rfl, rfl⟩), rfl⟩
  · rw [if_neg hx]
    cases hf : fnd L x with
    | none =>
      cases hg : fnd (wthG k v p L) x with
      | none => rfl
      | some e =>
        obtain ⟨h1, h2⟩ := (fnd_iff hr2).1 hg
        rcases (mem_wth hr p e).1 h1 with ⟨h, _⟩ | ⟨_, h⟩
        · have := (fnd_iff hr).2 ⟨h, h2⟩; rw [hf] at this; cases this
        · subst h; exact absurd h2.symm hx
    | some e =>
      obtain ⟨h1, h2⟩ := (fnd_iff hr).1 hf
      exact (fnd_iff hr2).2 ⟨(mem_wth hr p e).2 (.inl ⟨h1, fun h => hx (by rw [← h2, h])⟩), h2⟩
/-- Two lists that rise and have the same entries are one. -/
theorem ris_ext {L M : List En} (hl : Ris L) (hm : Ris M) (h : ∀ e, e ∈ L ↔ e ∈ M) : L = M := by
  induction L generalizing M with
  | nil =>
    cases M with
    | nil => rfl
    | cons y n => have := (h y).2 (by simp); cases this
  | cons x l ih =>
    cases M with
    | nil => have := (h x).1 (by simp); cases this
    | cons y n =>
      obtain ⟨a1, a2⟩ := List.pairwise_cons.1 hl
      obtain ⟨b1, b2⟩ := List.pairwise_cons.1 hm
      have hxy : x = y := by
        rcases List.mem_cons.1 ((h x).1 (by simp)) with e | e
        · exact e
        · rcases List.mem_cons.1 ((h y).2 (by simp)) with e' | e'
          · exact e'.symm
          · have c1 := a1 y e'
            have c2 := b1 x e
            have := cp_neg x.1 y.1
            omega
      subst hxy
      rw [ih a2 b2 (fun e => ?_)]
      constructor
      · intro he
        rcases List.mem_cons.1 ((h e).1 (by simp [he])) with e' | e'
        · subst e'; exact absurd rfl (cp_ne (a1 e he))
        · exact e'
      · intro he
        rcases List.mem_cons.1 ((h e).2 (by simp [he])) with e' | e'
        · subst e'; exact absurd rfl (cp_ne (b1 e he))
        · exact e'
theorem len_wth {k v : ByteArray} {L : List En} (hr : Ris L) (p : Bool) : (wthG k v p L).length = (if p = true then 0 else 1) + (if (fnd L k).isSome = true then L.length - 1 else L.length) := by
  have key : (L.filter (fun e => decide (e.1 ≠ k))).length = if (fnd L k).isSome = true then L.length - 1 else L.length := by
    clear p
    induction L with
    | nil => rfl
    | cons e m ih =>
      obtain ⟨h1, h2⟩ := List.pairwise_cons.1 hr
      unfold fnd at ih ⊢
      rw [List.find?_cons]
      by_cases h : e.1 = k
      · subst h
        have : m.filter (fun x => decide (x.1 ≠ e.1)) = m := filter_all (fun x hx => by have := cp_ne (h1 x hx); simp; exact fun e => this e.symm)
        simp only [ne_eq, not_true_eq_false, decide_false, Bool.false_eq_true, not_false_eq_true, List.filter_cons_of_neg, decide_true, Option.isSome_some, if_true, List.length_cons]
        rw [this]; omega
      · rw [show decide (e.1 = k) = false by simpa using h]
        have := ih h2
        simp only [ne_eq, h, not_false_eq_true, decide_true, List.filter_cons_of_pos, List.length_cons, this]
        split
        · rename_i hs
          have : 0 < m.length := by
            cases m with
            | nil => simp at hs
            | cons _ _ => simp
          omega
        · rfl
  cases p with
  | true => rw [wthG_true, key]; simp
  | false =>
    rw [← key, wthG_false hr]
    have : ∀ M : List En, (M.filter (fun e => decide (cp e.1 k < 0))).length + (M.filter (fun e => decide (0 < cp e.1 k))).length = (M.filter (fun e => decide (e.1 ≠ k))).length := by
      intro M
      induction M with
      | nil => rfl
      | cons e m ih =>
        rcases cp_vals e.1 k with h | h | h
        · have h2 : e.1 ≠ k := cp_ne (by omega)
          simp only [h, h2, ne_eq, not_false_eq_true, decide_true, List.filter_cons_of_pos, List.length_cons, ← ih, show decide ((-1 : Int) < 0) = true from rfl, show decide ((0 : Int) < -1) = false from rfl, Bool.false_eq_true, List.filter_cons_of_neg]
          omega
        · have h2 := cp_eq h
          have h3 : ¬ cp e.1 k < 0 := by omega
          have h4 : ¬ 0 < cp e.1 k := by omega
          rw [List.filter_cons_of_neg (by simpa using h3), List.filter_cons_of_neg (by simpa using h4), List.filter_cons_of_neg (by simpa using h2)]
          exact ih
        · have h2 : e.1 ≠ k := fun e' => by rw [e', cp_refl] at h; omega
          simp only [h, h2, ne_eq, not_false_eq_true, decide_true, List.filter_cons_of_pos, List.length_cons, ← ih, show decide ((1 : Int) < 0) = false from rfl, show decide ((0 : Int) < 1) = true from rfl, Bool.false_eq_true, List.filter_cons_of_neg]
          omega
    have h5 := this L
    rw [List.length_append, List.length_cons]
    simp only [Bool.false_eq_true, if_false]
    rw [← h5]
    have h6 : ∀ a b c : Nat, c = b → a + (b + 1) = 1 + (a + c) := fun a b c h => by omega
    exact h6 _ _ _ rfl
/-- A write of a commit, and what is left behind many. -/
def wth (L : List En) (r : Rec) : List En := wthG r.key r.val (decide (r.other ≠ 1)) L
def beh (hs : List Rec) : List En := hs.foldl wth []
theorem ris_foldl {L : List En} (hr : Ris L) (hs : List Rec) : Ris (hs.foldl wth L) := by
  induction hs generalizing L with
  | nil => exact hr
  | cons r m ih => exact ih (ris_wth hr _)
theorem ris_beh (hs : List Rec) : Ris (beh hs) := ris_foldl List.Pairwise.nil hs
theorem beh_snoc (hs : List Rec) (r : Rec) : beh (hs ++ [r]) = wth (beh hs) r := by unfold beh; rw [List.foldl_append]; rfl
/-- Which records count. -/
def comB (r : Rec) : Bool := decide (r.kind = 7) && (wthB r.lsn 1 1099511627776 && (wthB r.ep 0 1099511627776 && ((r.page == 0) && (((r.other == 1 && valB r.val) || (r.other == 2 && emp r.val)) && (wthB r.req 1 1099511627776 && keyB r.key)))))
def hist (ls : List Rec) : List Rec := ls.filter comB
theorem len_wth_le (L : List En) (hr : Ris L) (r : Rec) : (wth L r).length ≤ L.length + 1 := by
  unfold wth
  rw [len_wth hr]
  split <;> split <;> omega
theorem len_beh (hs : List Rec) : (beh hs).length ≤ hs.length := by
  have : ∀ (L : List En), Ris L → (hs.foldl wth L).length ≤ L.length + hs.length := by
    induction hs with
    | nil => intro L _; simp
    | cons r m ih =>
      intro L hr
      have h1 := ih (wth L r) (ris_wth hr _)
      have h2 := len_wth_le L hr r
      simp only [List.foldl_cons, List.length_cons]
      omega
  have h0 := this [] List.Pairwise.nil
  unfold beh
  simpa using h0
end Go.Proofs.YthdbkanbgfajbaaGreat

/- The history of records, on both sides. -/
namespace Go.Proofs.YthdbkanbgfajbaaGreat
open Go.RowKit

theorem infoRec : (Tryz.prog.info? 44).map (fun i => (i.zero, i.size, i.bytes)) = some (some (.agg #[.int .i64 0, .int .i64 0, .int .i64 0, .int .i64 0, .int .i64 0, .int .i64 0, .string ⟨#[]⟩, .string ⟨#[]⟩]), 8, 80) := by kernel_rfl
theorem take_snocH {α : Type} {l : List α} {k : Nat} {r : α} (h : l[k]? = some r) : l.take (k + 1) = l.take k ++ [r] := by
  rw [List.take_add_one, h]; rfl
theorem hist_yes {ls : List Rec} {k : Nat} {r : Rec} (h : ls[k]? = some r) (hc : comB r = true) : hist (ls.take (k + 1)) = hist (ls.take k) ++ [r] := by
  unfold hist; rw [take_snocH h, List.filter_append, List.filter_cons_of_pos (by simpa using hc)]; rfl
theorem hist_no {ls : List Rec} {k : Nat} {r : Rec} (h : ls[k]? = some r) (hc : comB r = false) : hist (ls.take (k + 1)) = hist (ls.take k) := by
  unfold hist; rw [take_snocH h, List.filter_append, List.filter_cons_of_neg (by simp [hc])]; simp
theorem hist_len (ls : List Rec) : (hist ls).length ≤ ls.length := List.length_filter_le _ _
theorem comB_kind {r : Rec} (h : r.kind ≠ 7) : comB r = false := by unfold comB; simp [h]
theorem Recs.of {w : World} {v : Value} {ls : List Rec} (h : Has w 8 v ls.length (ls.flatMap recC)) : ∃ a c, v = .slice a ls.length c ∧ Recs w a c ls := by
  obtain ⟨a, c, rfl, h1, h2⟩ := h.slice
  refine ⟨a, c, rfl, h1, by unfold maxLen at h2; omega, ?_⟩
  by_cases h0 : ls.length = 0
  · exact .inl (List.eq_nil_of_length_eq_zero h0)
  · obtain ⟨g, cap, hv, hg, _⟩ := h.form (by omega)
    simp only [Value.slice.injEq, true_and] at hv
    obtain ⟨rfl, rfl⟩ := hv
    refine .inr ⟨g, 0, rfl, hg, fun i e he => ?_⟩
    have hr := h.elem recC_length he
    rw [Nat.zero_add]
    exact hr
set_option maxRecDepth 100000 in
set_option maxHeartbeats 2000000 in
/-- record.Check of a commit. -/
theorem check7 (lsn ep page other req : Int) (key val : ByteArray) (w : World) : Calls Tryz.prog 29 #[.agg #[.int .i64 lsn, .int .i64 ep, .int .i64 7, .int .i64 page, .int .i64 other, .int .i64 req, .string key, .string val]] w fun e w' => e = .returned (.int .i64 (if comB ⟨lsn, ep, 7, page, other, req, key, val⟩ = true then 0 else 90)) ∧ Fr (fun _ => False) w w' := by
  have hs := suits_commit lsn ep page other req key val
  have HR : Hid (comB ⟨lsn, ep, 7, page, other, req, key, val⟩ = (wthB lsn 1 1099511627776 && (wthB ep 0 1099511627776 && ((page == 0) && (((other == 1 && valB val) || (other == 2 && emp val)) && (wthB req 1 1099511627776 && keyB key)))))) := by show _ = _; unfold comB; simp
  rw [HR.out]
  clear HR
  generalize ((page == 0) && (((other == 1 && valB val) || (other == 2 && emp val)) && (wthB req 1 1099511627776 && keyB key))) = b at *
  go_enter Tryz.func29, Tryz.ntmps29
  go_wp2_with (first | (go_at_call 36; refine (rwithin_any _ _ _ _).mono ?_; rintro e w' ⟨rfl, rfl⟩) | (go_at_call 37; refine (hs _).mono ?_; rintro e w9 ⟨rfl, f9⟩))
  all_goals go_ret
  all_goals refine ⟨ret_int ?_, by first | exact Fr.box w _ | exact (Fr.box w _).seq' f9⟩
  all_goals simp_all
/-- What a call leaves that answers a list of records of its own. -/
def RcOut (w : World) (ls : List Rec) (e : Ending) (w' : World) : Prop := ∃ a c, e = .returned (.slice a ls.length c) ∧ Recs w' a c ls ∧ (∀ g, (Value.slice a ls.length c).ownBlock = some g → w.heap.size ≤ g) ∧ Fr (fun _ => False) w w'
end Go.Proofs.YthdbkanbgfajbaaGreat

/- slices.Clone, IndexFunc and DeleteFunc at records: what is no commit is struck. -/
namespace Go.Proofs.YthdbkanbgfajbaaGreat
open Go.RowKit

set_option maxRecDepth 100000 in
set_option maxHeartbeats 2000000 in
/-- fold.isNoCommit. -/
theorem noCommit_any (lsn ep kind page other req : Int) (key val : ByteArray) (w : World) : Calls Tryz.prog 22 #[.agg #[.int .i64 lsn, .int .i64 ep, .int .i64 kind, .int .i64 page, .int .i64 other, .int .i64 req, .string key, .string val]] w fun e w' => e = .returned (.bool (!comB ⟨lsn, ep, kind, page, other, req, key, val⟩)) ∧ Fr (fun _ => False) w w' := by
  have f0 := Fr.box w (.cells #[.int .i64 lsn, .int .i64 ep, .int .i64 kind, .int .i64 page, .int .i64 other, .int .i64 req, .string key, .string val] 44)
  by_cases h7 : kind = 7
  · subst h7
    have hck := check7 lsn ep page other req key val
    cases hcb : comB ⟨lsn, ep, 7, page, other, req, key, val⟩ with
    | true =>
      rw [hcb] at hck
      simp only [if_true] at hck
      clear hcb
      go_enter Tryz.func22, Tryz.ntmps22
      go_wp2_with (go_at_call 29; refine (hck _).mono ?_; rintro e w3 ⟨rfl, f3⟩)
      go_ret
      exact ⟨rfl, f0.seq' f3⟩
    | false =>
      rw [hcb] at hck
      simp only [Bool.false_eq_true, if_false] at hck
      clear hcb
      go_enter Tryz.func22, Tryz.ntmps22
      go_wp2_with (go_at_call 29; refine (hck _).mono ?_; rintro e w3 ⟨rfl, f3⟩)
      go_ret
      exact ⟨rfl, f0.seq' f3⟩
  · have h7' : (kind == 7) = false := by simpa using h7
    have h7'' : (kind != 7) = true := by simpa using h7
    have HC : Hid (comB ⟨lsn, ep, kind, page, other, req, key, val⟩ = false) := comB_kind h7
    clear h7
    go_enter Tryz.func22, Tryz.ntmps22
    go_wp2
    go_ret
    exact ⟨by rw [HC.out]; rfl, f0⟩

theorem recs_range {w : World} {b off : Nat} : ∀ {ls : List Rec}, (∀ i r, ls[i]? = some r → w.rangeAt b (off + i * 8) (recC r)) → w.rangeAt b off (ls.flatMap recC) := by
  intro ls h j v hv
  have hl := (List.getElem?_eq_some_iff.1 hv).1
  rw [flat_length recC_length] at hl
  have hi : j / 8 < ls.length := by omega
  have hx := List.getElem?_eq_getElem hi
  have hjj : j = j / 8 * 8 + j % 8 := by omega
  have h2 := flat_get recC_length ls (j / 8) _ hx (j % 8) (by omega)
  rw [← hjj, hv] at h2
  have := h (j / 8) _ hx (j % 8) v h2.symm
  rw [show off + j = off + j / 8 * 8 + j % 8 by omega]
  exact this
theorem Recs.from {w : World} {a : Option Addr} {cap : Nat} {ls : List Rec} (h : Recs w a cap ls) : From w a (ls.flatMap recC) := by
  rcases h.at_ with h0 | ⟨b, off, rfl, hb, hc⟩
  · exact .inl (by rw [h0]; rfl)
  · exact .inr ⟨b, off, rfl, recs_range hc⟩
theorem recCs_one (ls : List Rec) : ∀ u ∈ ls.flatMap recC, u.oneCell' = true := by
  intro u hu
  obtain ⟨r, _, h⟩ := List.mem_flatMap.1 hu
  exact recC_one r u h
theorem has_emptyR (w : World) (size : Nat) (e : TypeId) : Has (w.alloc (.cells #[] e)) size (.slice (some ⟨w.heap.size, 0, none⟩) 0 0) 0 [] :=
  ⟨by simp, .inr ⟨_, _, rfl, by simp, Nat.le_refl _, by decide, (fun j hj => by omega), (fun j v hv => by cases hv)⟩⟩
/-- Records of a call's own. -/
def RhOut (w : World) (ls : List Rec) (e : Ending) (w' : World) : Prop := ∃ a c, e = .returned (.slice a ls.length c) ∧ Has w' 8 (.slice a ls.length c) ls.length (ls.flatMap recC) ∧ Fr (fun _ => False) w w' ∧ ∀ k, (Value.slice a ls.length c).ownBlock = some k → w.heap.size ≤ k
set_option maxRecDepth 100000 in
set_option maxHeartbeats 1000000 in
theorem cloneR (a : Option Addr) (n c : Nat) (ls : List Rec) (w : World) (h : Recs w a c ls) (hn : n = ls.length) (hs : ls.length ≤ 1000000) : Calls Tryz.prog 21 #[.slice a n c] w fun e w' => RhOut w ls e w' := by
  obtain ⟨i0, hi, hz0, hz1, hz2⟩ := info_parts infoRec
  have hq := fun W => Lib.run_eql_slice_nil (P := Tryz.prog) W 37 44 a n c 0 0 Tryz.underlying37
  have hsl : (ls.flatMap recC).length = ls.length * 8 := flat_length recC_length ls
  cases a with
  | none =>
    have hl : ls = [] := by
      rcases h.at_ with h | ⟨_, _, h, _⟩
      · exact h
      · cases h
    subst hl
    obtain rfl : n = 0 := by simpa using hn
    clear hn hsl hs h
    go_enter Tryz.func21, Tryz.ntmps21
    go_wp2
    go_ret
    exact ⟨none, 0, rfl, Has.nil _ _, Fr.refl _ _, fun k hk => by cases hk⟩
  | some x =>
    have HE : Hid (Has (w.alloc (.cells #[] 44)) 8 (.slice (some ⟨w.heap.size, 0, none⟩) 0 0) 0 []) := has_emptyR w 8 _
    have f1 : Fr (fun _ => False) w (w.alloc (.cells #[] 44)) := (Fr.refl _ _).alloc _
    have hr1 := (h.same f1).from
    have HN : Hid (n = ls.length) := hn
    have HSL : Hid ((ls.flatMap recC).length = ls.length * 8) := hsl
    have hs' : n ≤ 1000000 := by omega
    clear hn hs hsl h
    go_enter Tryz.func21, Tryz.ntmps21
    go_wp2_with (at_builtin; refine wpList_append_has _ rfl _ _ 37 37 44 44 rfl i0 _ 8 80 Tryz.underlying37 Tryz.underlying37 hi hz0 hz1 hz2 rfl (by omega) (.slice (some ⟨w.heap.size, 0, none⟩) 0 0) 0 [] rfl HE.out (some x) n c (ls.flatMap recC) rfl (by rw [HSL.out, HN.out]) hr1 (recCs_one ls) (by unfold maxLen; omega) (by omega) ?_; intro am cm w2 hown hfr hat)
    go_ret
    rw [Nat.zero_add, List.nil_append] at hown
    rw [Nat.zero_add] at hat
    rw [HN.out] at hown hat
    have F : Fr (fun _ => False) w w2 := f1.trans hfr (by
      rintro i hi ⟨e, _⟩
      simp [Value.ownBlock] at e
      omega)
    have hnew : ∀ k, (Value.slice am ls.length cm).ownBlock = some k → w.heap.size ≤ k := fun k hk => by
      rw [hk] at hat
      rcases hat with e | e <;> simp [Value.ownBlock] at e <;> omega
    exact ⟨am, cm, by rw [← HN.out]; rfl, hown, F, hnew⟩
/-- Where the first is that is no commit. -/
def IxO (ls : List Rec) (z : Int) : Prop := (z = -1 ∧ hist ls = ls) ∨ ∃ k : Nat, z = k ∧ k < ls.length ∧ hist (ls.take (k + 1)) = ls.take k
set_option maxRecDepth 100000 in
set_option maxHeartbeats 4000000 in
theorem idxNo_any (a : Option Addr) (n c : Nat) (hs : List Rec) (hn : n = hs.length) (w : World) (r : Recs w a c hs) :
    Calls Tryz.prog 28 #[.slice a n c, .func (.func 22) #[] #[]] w fun e w' => (∃ z : Int, e = .returned (.int .i64 z) ∧ IxO hs z) ∧ Fr (fun _ => False) w w' := by
  have hl1 : n ≤ c := by rw [hn]; exact r.le
  have hm2 := r.max
  have HS1 : Hid (∀ W, Fr (fun _ => False) w W → Recs W a c hs) := fun W f => r.same f
  have HN : Hid (n = hs.length) := hn
  clear r hn
  go_enter Tryz.func28, Tryz.ntmps28
  go_wp2
  go_loopw [8] (fun i wr => ∃ k : Nat, k ≤ n ∧ i = .int .i64 k ∧ Hid (hist (hs.take k) = hs.take k) ∧ Fr (fun _ => False) w wr) (fun i _ => n - (intOf i).toNat)
  case atStart => exact ⟨0, by omega, rfl, (show _ = _ from rfl), Fr.refl _ _⟩
  case round =>
    obtain ⟨k, hk, rfl, HE, F⟩ := hrel
    by_cases hlt : k < n
    · obtain ⟨r, hr⟩ : ∃ r, hs[k]? = some r := ⟨_, List.getElem?_eq_getElem (by have := HN.out; omega)⟩
      obtain ⟨b1, o1, rfl, hb1, hcc1⟩ := (HS1.out _ F).some (by have := HN.out; omega)
      obtain ⟨q0, q1, q2, q3, q4, q5, q6, q7⟩ := rec_range (hcc1 k r hr)
      have hki : (k : Int) < (n : Int) := by omega
      have HY : Hid (comB r = true → hist (hs.take (k + 1)) = hs.take (k + 1)) := fun h => by
        rw [hist_yes hr h, HE.out, take_snocH hr]
      have HNO : Hid (comB r = false → hist (hs.take (k + 1)) = hs.take k) := fun h => by rw [hist_no hr h, HE.out]
      obtain ⟨lsn, ep, kind, page, other, req, key, val⟩ := r
      dsimp only at q0 q1 q2 q3 q4 q5 q6 q7
      have hp := noCommit_any lsn ep kind page other req key val wr
      clear hr hcc1
      cases hq : comB ⟨lsn, ep, kind, page, other, req, key, val⟩ with
      | false =>
        have HP : Hid (IxO hs (k : Int)) := .inr ⟨k, rfl, by have := HN.out; omega, HNO.out hq⟩
        rw [hq] at hp
        simp only [Bool.not_false] at hp
        clear HY HNO hq
        go_wp2_with fail
        refine hp.mono ?_
        rintro e w3 ⟨rfl, f3⟩
        clear hp
        go_wp2
        go_ret
        exact ⟨⟨_, rfl, HP.out⟩, F.seq' f3⟩
      | true =>
        have HN3 : Hid (hist (hs.take (k + 1)) = hs.take (k + 1)) := HY.out hq
        rw [hq] at hp
        simp only [Bool.not_true] at hp
        clear HY HNO hq
        go_wp2_with fail
        refine hp.mono ?_
        rintro e w3 ⟨rfl, f3⟩
        clear hp
        go_wp2
        go_roundw
        case rel => exact ⟨k + 1, by omega, by go_num, HN3, F.seq' f3⟩
        case measure => simp [intOf]; omega
    · obtain rfl : k = n := by omega
      have HP : Hid (IxO hs (-1)) := .inl ⟨rfl, by have h := HE.out; rw [HN.out, List.take_length] at h; exact h⟩
      go_wp2
      go_ret
      exact ⟨⟨_, rfl, HP.out⟩, F⟩
end Go.Proofs.YthdbkanbgfajbaaGreat
