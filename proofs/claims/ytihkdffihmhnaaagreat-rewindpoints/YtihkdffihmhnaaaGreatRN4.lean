
/- BkEnt, BkGet, BkGet2. -/
import Derived.Test.YtihkdffihmhnaaaGreatBkLv
/- The entries of leaves, as the iterator entriesOf gives them. -/
namespace Go.Proofs.YtihkdffihmhnaaaGreat
open Go.RowKit Go.Shelf
attribute [local go_sem] Oper.semAt_some

/-- The entries of a node, and of leaves. -/
def ndE (n : Nd) : List (ByteArray × ByteArray) := n.keys.zip n.vals
def lvE (sp : List Spt) : List (ByteArray × ByteArray) := sp.flatMap (fun s => ndE s.nd)
theorem lvE_next {sp : List Spt} {k : Nat} {s : Spt} (h : sp[k]? = some s) : lvE (sp.drop k) = ndE s.nd ++ lvE (sp.drop (k + 1)) := by
  have hj := (List.getElem?_eq_some_iff.1 h).1
  rw [List.drop_eq_getElem_cons hj, (List.getElem?_eq_some_iff.1 h).2]
  rfl
theorem ndE_next {n : Nd} {k : Nat} (hk : k < n.keys.length) (hv : k < n.vals.length) : (ndE n).drop k = (n.keys.getD k ByteArray.empty, n.vals.getD k ByteArray.empty) :: (ndE n).drop (k + 1) := by
  unfold ndE
  rw [List.drop_eq_getElem_cons (by simp; omega)]
  simp [List.getD_eq_getElem?_getD, hk, hv]
end Go.Proofs.YtihkdffihmhnaaaGreat

/- The value of a key among a tree's entries. -/
namespace Go.Proofs.YtihkdffihmhnaaaGreat
open Go.RowKit Go.Shelf
attribute [local go_sem] Oper.semAt_some

theorem isRow_lev {l : List Spt} {lev : Int} (h : isRowB l lev = true) : ∀ s ∈ l, s.nd.lev = lev := by
  induction l with
  | nil => intro s hs; cases hs
  | cons t l ih =>
    simp only [isRowB, Bool.and_eq_true, beq_iff_eq] at h
    intro s hs
    rcases List.mem_cons.1 hs with rfl | hs
    · exact h.1
    · exact ih h.2.2.2.2 s hs
theorem bel_ne {r ab : List Spt} (h : belB r ab = true) (hab : ab = [] ∨ ∃ s ∈ ab, s.nd.kids ≠ []) : r ≠ [] := by
  rintro rfl
  unfold belB at h
  rcases hab with rfl | ⟨s, hs, hk⟩
  · simp at h
  · rw [if_neg (by rintro rfl; cases hs)] at h
    have := List.all_eq_true.1 h s hs
    cases he : s.nd.kids with
    | nil => exact hk he
    | cons y ys => rw [he] at this; simp [klB, kl1B, sm] at this
theorem end_leaf {ls : List Sl} (hR : ∀ t ∈ ls, Rt t.nd) (k : Nat) : ∀ (x : Int) (ab : List Spt), (ab = [] ∨ ∃ s ∈ ab, s.nd.kids ≠ []) → chkF ab (rowsF ls (k + 1) x) = true → ∀ s ∈ endF ab (rowsF ls (k + 1) x), s.nd.lev = 0 := by
  induction k with
  | zero =>
    intro x ab hab h
    have e : nxt (rowsF ls 0) (rowS ls ls.length x ByteArray.empty) = [] := by
      cases hr : rowS ls ls.length x ByteArray.empty with
      | nil => rfl
      | cons s r =>
        cases hk : s.nd.kids with
        | nil => exact nxt_leaf _ _ hk
        | cons y ys => rw [nxt_kid _ _ hk]; rfl
    have e2 : rowsF ls (0 + 1) x = [(((0 : Nat) : Int), rowS ls ls.length x ByteArray.empty)] := by
      show _ :: nxt _ _ = _
      rw [e]
    rw [e2] at h ⊢
    simp only [chkF, endF, Bool.and_eq_true] at h ⊢
    intro s hs
    have := isRow_lev h.1.1 s hs
    simpa using this
  | succ k ih =>
    intro x ab hab h
    have e2 : rowsF ls (k + 1 + 1) x = (((k + 1 : Nat) : Int), rowS ls ls.length x ByteArray.empty) :: nxt (rowsF ls (k + 1)) (rowS ls ls.length x ByteArray.empty) := rfl
    rw [e2] at h ⊢
    simp only [chkF, endF, Bool.and_eq_true] at h ⊢
    have hne := bel_ne h.1.2 hab
    have hlv := isRow_lev h.1.1
    have hmem := rowS_mem (ls := ls) ls.length x ByteArray.empty
    generalize rowS ls ls.length x ByteArray.empty = r at *
    cases r with
    | nil => exact absurd rfl hne
    | cons s r =>
      obtain ⟨t, ht, e, _⟩ := hmem s (by simp)
      have rt := hR t ht
      rw [← e] at rt
      have hl := hlv s (by simp)
      obtain ⟨h1, _⟩ := rt.inner (by omega)
      cases hk : s.nd.kids with
      | nil => rw [hk] at h1; simp at h1
      | cons y ys =>
        have h3 := h.2
        rw [nxt_kid _ _ hk] at h3 ⊢
        exact ih y (s :: r) (.inr ⟨s, by simp, by rw [hk]; simp⟩) h3
theorem leaves_in {ls : List Sl} {sp : List Spt} (h : leavesF ls = some sp) : ∀ s ∈ sp, s.nd.lev = 0 ∧ Rt s.nd := by
  unfold leavesF at h
  by_cases h1 : ariB 0 (psOf ls) = true
  · rw [if_pos h1] at h
    by_cases h2 : chkF [] (lvR ls) = true
    · rw [if_pos h2] at h
      obtain rfl := Option.some.inj h
      have hri := (ari_ok 0 _ h1).2.2
      have hR : ∀ t ∈ ls, Rt t.nd := fun t ht => (right_iff _).1 (hri (t.page, t.nd) (List.mem_map.2 ⟨t, ht, rfl⟩))
      have ht : 0 ≤ topF ls := by
        unfold topF
        cases hh : hasB ls 1
        · simp
        · obtain ⟨s, hs, _⟩ := has_some hh
          rw [hs]
          simpa using (hR s (List.mem_of_getElem? hs)).lev0
      obtain ⟨k, hk⟩ : ∃ k : Nat, (topF ls + 1).toNat = k + 1 := ⟨(topF ls).toNat, by omega⟩
      intro s hs
      unfold lvR at h2 hs
      rw [hk] at h2 hs
      refine ⟨end_leaf hR k 1 [] (.inl rfl) h2 s hs, ?_⟩
      rcases end_mem (l := rowsF ls (k + 1) 1) with e | ⟨y, hy, e⟩
      · rw [e] at hs; cases hs
      · rw [← e] at hs
        obtain ⟨t, ht, e1, _⟩ := rowsF_mem _ _ y hy s hs
        rw [e1]; exact hR t ht
    · rw [if_neg h2] at h; cases h
  · rw [if_neg h1] at h; cases h
/-- The entries of pages: none, where they are no tree. -/
def treeE (ls : List Sl) : List (ByteArray × ByteArray) := lvE ((leavesF ls).getD [])
theorem lv_both {ls : List Sl} {w w' : World} {e : Ending} (h : LvOut ls w e w') : ∃ a n c b, e = .returned (.tuple #[.slice a n c, .bool b]) ∧ b = (leavesF ls).isSome ∧ n = ((leavesF ls).getD []).length ∧ Spots w' a c ((leavesF ls).getD []) ∧ (∀ s ∈ (leavesF ls).getD [], s.nd.keys.length ≤ s.nd.vals.length ∧ ∃ t ∈ ls, s.nd = t.nd ∧ s.pt = t.pt) ∧ Fr (fun _ => False) w w' := by
  obtain ⟨f, ⟨h1, rfl⟩ | ⟨sp, a, n, c, h1, hn, rfl, hs, hmm⟩⟩ := h
  · exact ⟨none, 0, 0, false, rfl, by rw [h1]; rfl, by rw [h1]; rfl, by rw [h1]; exact ⟨Nat.le_refl _, by omega, .inl rfl, (fun s hs => by cases hs)⟩, (by rw [h1]; intro s hs; cases hs), f⟩
  · refine ⟨a, n, c, true, rfl, by rw [h1]; rfl, by rw [h1]; exact hn, by rw [h1]; exact hs, ?_, f⟩
    rw [h1]
    intro s hs'
    obtain ⟨h2, h3⟩ := leaves_in h1 s hs'
    have := (h3.leaf h2).1
    exact ⟨by omega, hmm s hs'⟩
/-- Rows of pages lie in no block of one cell. -/
theorem Spots.wide {W : World} {a : Option Addr} {c b off : Nat} {sp : List Spt} (h : Spots W a c sp) (hne : sp ≠ []) (ha : a = Option.some ⟨b, off, none⟩) {B : Nat} {v : Value} {t : TypeId} (hB : W.heap[B]? = Option.some (.cells #[v] t (0, 0))) : b ≠ B := by
  rintro rfl
  rcases h.at_ with h0 | ⟨b', off', e, _, hc⟩
  · exact hne h0
  · rw [ha] at e
    cases e
    obtain ⟨s, r, rfl⟩ := List.exists_cons_of_ne_nil hne
    have := (hc 0 s rfl) 8 _ rfl
    rw [World.cell?] at this
    simp [hB] at this
/-- Leaves are read on, while nothing of the pages is written, nor their own row. -/
theorem Spots.on {V W : World} {R : Nat → Prop} {a pa : Option Addr} {c pc : Nat} {sp : List Spt} {ls : List Sl} (h : Spots V a c sp) (f : Fr (fun k => ¬ R k) V W) (hS : Slots W pa pc ls) (hm : ∀ s ∈ sp, ∃ t ∈ ls, s.nd = t.nd ∧ s.pt = t.pt) (hR : ∀ b off, sp ≠ [] → a = Option.some ⟨b, off, none⟩ → R b) : Spots W a c sp := by
  refine ⟨h.le, h.max, ?_, fun s hs => by obtain ⟨t, ht, e1, e2⟩ := hm s hs; rw [e1, e2]; exact hS.nod t ht⟩
  by_cases h0 : sp = []
  · exact .inl h0
  · rcases h.at_ with h1 | ⟨b, off, rfl, hb, hc⟩
    · exact .inl h1
    · exact .inr ⟨b, off, rfl, Nat.lt_of_lt_of_le hb f.size, fun i r hr => range_fr (hc i r hr) f (fun e => e (hR b off h0 rfl))⟩
end Go.Proofs.YtihkdffihmhnaaaGreat

/- Get. -/
namespace Go.Proofs.YtihkdffihmhnaaaGreat
open Go.RowKit Go.Shelf
attribute [local go_sem] Oper.semAt_some

def fndE (es : List (ByteArray × ByteArray)) (k : ByteArray) : Option (ByteArray × ByteArray) := es.find? (fun e => e.1.toList == k.toList)
def geV (o : Option (ByteArray × ByteArray)) : ByteArray := match o with | none => ⟨#[]⟩ | some e => e.2
structure GtI (w : World) (k : ByteArray) (L pre : List (ByteArray × ByteArray)) (W : World) : Prop where
  pre_ : pre <+: L
  no : fndE pre k = none
  fr : Fr (fun _ => False) w W
  b3 : W.heap[w.heap.size]? = some (.cells #[.string k] 9 (0, 0))
  b4 : W.heap[w.heap.size + 1]? = some (.cells #[.string ⟨#[]⟩] 9 (0, 0))
  b5 : W.heap[w.heap.size + 2]? = some (.cells #[.bool false] 4 (0, 0))
structure GtX (w : World) (k : ByteArray) (L : List (ByteArray × ByteArray)) (c : Code) (pre : List (ByteArray × ByteArray)) (W : World) : Prop where
  ret : c = .ret
  fr : Fr (fun _ => False) w W
  hit : ∃ x, fndE L k = some x ∧ W.heap[w.heap.size + 1]? = some (.cells #[.string x.2] 9 (0, 0))
  b5 : W.heap[w.heap.size + 2]? = some (.cells #[.bool true] 4 (0, 0))
theorem two_cells {W : World} {b : Nat} {t : TypeId} {c0 c1 : Value} (h : W.heap[b]? = some (.cells #[c0, c1] t (0, 0))) : W.cell? ⟨b, 0, none⟩ = some c0 ∧ W.cell? ⟨b, 1, none⟩ = some c1 := by
  constructor <;> simp [World.cell?, h]
end Go.Proofs.YtihkdffihmhnaaaGreat
