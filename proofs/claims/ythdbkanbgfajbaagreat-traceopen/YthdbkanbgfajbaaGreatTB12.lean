
/- FdWith, FdRGiv. -/
import Derived.Test.YthdbkanbgfajbaaGreatTB11
import Derived.Test.YthdbkanbgfajbaaGreatTB10
/- The document's own map behind writes. -/
namespace Go.Proofs.YthdbkanbgfajbaaGreat
open Go.RowKit Go.Shelf

theorem wthG_cons (k v : ByteArray) (p : Bool) (e : En) (m : List En) : wthG k v p (e :: m) = (if p = false ∧ ¬ cp e.1 k < 0 then [(k, v)] else []) ++ ((if e.1 = k then [] else [e]) ++ wthG k v (p || !decide (cp e.1 k < 0)) m) := rfl
theorem drop_at' {L : List En} {k : Nat} {e : En} (h : L[k]? = some e) : L.drop k = e :: L.drop (k + 1) := by
  have hj := (List.getElem?_eq_some_iff.1 h).1
  rw [List.drop_eq_getElem_cons hj, (List.getElem?_eq_some_iff.1 h).2]
/-- A row that grows: its memory is new. -/
structure Acc (w0 W : World) (a : Option Addr) (n c : Nat) (L : List En) : Prop where
  n_ : n = L.length
  has : Has W 2 (.slice a n c) n (L.flatMap enC)
  own : ∀ g, (Value.slice a n c).ownBlock = some g → w0.heap.size ≤ g
theorem Acc.same {w0 W W' : World} {a : Option Addr} {n c : Nat} {L : List En} (h : Acc w0 W a n c L) (f : Fr (fun _ => False) W W') : Acc w0 W' a n c L := ⟨h.n_, h.has.fr f (fun _ _ f => f), h.own⟩
theorem Acc.nil (w0 W : World) : Acc w0 W none 0 0 [] := ⟨rfl, Has.nil _ _, (fun g e => by cases e)⟩
theorem Acc.next {w0 W W8 : World} {a a4 : Option Addr} {n c c4 : Nat} {L : List En} {x : En} (h : Acc w0 W a n c L) (hz : w0.heap.size ≤ W.heap.size) (ht : Has W8 2 (.slice a4 (n + 1) c4) (n + 1) (L.flatMap enC ++ enC x)) (hat : (Value.slice a4 (n + 1) c4).ownBlock = (Value.slice a n c).ownBlock ∨ (Value.slice a4 (n + 1) c4).ownBlock = some W.heap.size) : Acc w0 W8 a4 (n + 1) c4 (L ++ [x]) :=
  ⟨by rw [h.n_]; simp, by rw [List.flatMap_append]; simpa using ht, fun g e => by
    rcases hat with h1 | h1
    · rw [h1] at e; exact h.own g e
    · rw [h1] at e; simp at e; omega⟩
theorem Acc.fr {w0 W W8 : World} {a : Option Addr} {n c : Nat} {L : List En} (h : Acc w0 W a n c L) (f0 : Fr (fun _ => False) w0 W) (f : Fr (fun k => (Value.slice a n c).ownBlock = some k ∧ 0 < 1) W W8) : Fr (fun _ => False) w0 W8 := f0.trans f (fun i hi e => by have := h.own i e.1; omega)
theorem Acc.out {w0 W : World} {a : Option Addr} {n c : Nat} {L : List En} (h : Acc w0 W a n c L) (f : Fr (fun _ => False) w0 W) : EnOut w0 L (.returned (.slice a n c)) W := by
  obtain ⟨h1, h2, h3⟩ := h
  subst h1
  obtain ⟨a2, c2, e, hr⟩ := Ens.of h2
  simp only [Value.slice.injEq, true_and] at e
  obtain ⟨rfl, rfl⟩ := e
  exact ⟨_, _, rfl, hr, own_at h3, f⟩
theorem en_from (w : World) (x y : ByteArray) : From (w.alloc (.cells #[.string x, .string y] 107)) (some ⟨w.heap.size, 0, none⟩) (enC (x, y)) := .inr ⟨_, _, rfl, range_block (heap_alloc_new w (.cells #[.string x, .string y] 107)) (xs := enC (x, y)) (o := 0) (fun j u hu => by rw [Nat.zero_add]; simpa [enC] using hu)⟩

end Go.Proofs.YthdbkanbgfajbaaGreat

/- What the document's own Given gives of a map. -/
namespace Go.Proofs.YthdbkanbgfajbaaGreat
open Go.RowKit Go.Shelf

theorem fnd_take_yes {L : List En} (hr : Ris L) {k : Nat} {e : En} (h : L[k]? = some e) : fnd (L.take k) e.1 = none ∧ fnd (L.take (k + 1)) e.1 = some e := by
  have h1 : fnd (L.take k) e.1 = none := by
    cases hf : fnd (L.take k) e.1 with
    | none => rfl
    | some x =>
      exfalso
      obtain ⟨h2, h3⟩ := fnd_key hf
      have hp : (L.take (k + 1)).Pairwise (fun x y => cp x.1 y.1 < 0) := hr.sublist (List.take_sublist _ _)
      rw [take_snocH h] at hp
      have := (List.pairwise_append.1 hp).2.2 x h3 e (by simp)
      rw [h2, cp_refl] at this
      omega
  refine ⟨h1, ?_⟩
  rw [take_snocH h]
  unfold fnd at h1 ⊢
  rw [List.find?_append, h1]
  simp
theorem fnd_take_no {L : List En} {k : Nat} {e : En} {key : ByteArray} (h : L[k]? = some e) (hn : e.1 ≠ key) : fnd (L.take (k + 1)) key = fnd (L.take k) key := by
  rw [take_snocH h]
  unfold fnd
  rw [List.find?_append, List.find?_cons, show decide (e.1 = key) = false by simpa using hn]
  simp
theorem givF_fnd {o : Opn} (h : o.kind ≠ 4) {A B : List En} (hf : fnd A o.key = fnd B o.key) : givF o A = givF o B := by unfold givF; rw [if_neg h, if_neg h, hf]
/-- Between two rounds of Given: the operation's block, the answer's, the result's. -/
structure GvR (w : World) (o : Opn) (W : World) (f : Bool) (v : ByteArray) (u : Value) : Prop where
  fr : Fr (fun _ => False) w W
  b0 : W.heap[w.heap.size]? = some (.cells #[.int .i64 o.kind, .string o.key, .string o.val] 30 (0, 0))
  b1 : W.heap[w.heap.size + 1]? = some (.cells #[.bool false, .string ⟨#[]⟩, .slice none 0 0] 47 (0, 0))
  b2 : W.heap[w.heap.size + 2]? = some (.cells #[.bool f, .string v, u] 47 (0, 0))
theorem GvR.on {w : World} {o : Opn} {W W' : World} {f : Bool} {v : ByteArray} {u : Value} {S : Nat → Prop} (h : GvR w o W f v u) (fr : Fr S W W') (h1 : ∀ k, k < w.heap.size + 3 → ¬ S k) : GvR w o W' f v u :=
  ⟨h.fr.trans fr (fun i hi e => h1 i (by omega) e), fr.blk h.b0 (h1 _ (by omega)), fr.blk h.b1 (h1 _ (by omega)), fr.blk h.b2 (h1 _ (by omega))⟩
theorem GvR.same {w : World} {o : Opn} {W W' : World} {f : Bool} {v : ByteArray} {u : Value} (h : GvR w o W f v u) (fr : Fr (fun _ => False) W W') : GvR w o W' f v u := h.on fr (fun _ _ f => f)
theorem set_first {W : World} {B : Nat} {c0 c1 c2 : Value} {t : TypeId} (h : W.heap[B]? = some (.cells #[c0, c1, c2] t (0, 0))) (u : Value) : (W.setCell ⟨B, 0, none⟩ u).heap[B]? = some (.cells #[u, c1, c2] t (0, 0)) := by
  obtain ⟨hlt, he⟩ := Array.getElem?_eq_some_iff.1 h
  show (W.heap.modify B _)[B]? = _
  rw [Array.getElem?_eq_getElem (by rw [Array.size_modify]; exact hlt), Array.getElem_modify_self, he]
  rfl
theorem set_second {W : World} {B : Nat} {c0 c1 c2 : Value} {t : TypeId} (h : W.heap[B]? = some (.cells #[c0, c1, c2] t (0, 0))) (u : Value) : (W.setCell ⟨B, 1, none⟩ u).heap[B]? = some (.cells #[c0, u, c2] t (0, 0)) := by
  obtain ⟨hlt, he⟩ := Array.getElem?_eq_some_iff.1 h
  show (W.heap.modify B _)[B]? = _
  rw [Array.getElem?_eq_getElem (by rw [Array.size_modify]; exact hlt), Array.getElem_modify_self, he]
  rfl
end Go.Proofs.YthdbkanbgfajbaaGreat
