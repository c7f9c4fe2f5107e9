
/- Structs of two cells; what a round leaves of what an iterator holds. -/
import Derived.Test.YtimpoincnfiibaaShOver
import Derived.Test.YtimpoincnfiibaaShWlFrom
namespace Go.Proofs.Ytimpoincnfiibaa
open Go.RowKit

/-- A struct of two cells. -/
def Two (w : World) (b : Nat) (t : TypeId) (x y : Value) : Prop := w.heap[b]? = some (.cells #[x, y] t (0, 0))
theorem Two.cells {w : World} {b : Nat} {t : TypeId} {x y : Value} (h : Two w b t x y) : w.cell? ⟨b, 0, none⟩ = some x ∧ w.cell? ⟨b, 1, none⟩ = some y ∧ w.frozen? ⟨b, 0, none⟩ = false ∧ w.frozen? ⟨b, 1, none⟩ = false := by
  unfold Two at h
  refine ⟨?_, ?_, ?_, ?_⟩ <;> simp [World.cell?, World.frozen?, h]
theorem Two.lt {w : World} {b : Nat} {t : TypeId} {x y : Value} (h : Two w b t x y) : b < w.heap.size := (Array.getElem?_eq_some_iff.1 h).1
theorem Two.fr {S : Nat → Prop} {w w' : World} {b : Nat} {t : TypeId} {x y : Value} (h : Two w b t x y) (f : Fr S w w') (hn : ¬ S b) : Two w' b t x y := by
  unfold Two; rw [f.block b h.lt hn]; exact h
theorem Two.new (w : World) (t : TypeId) (x y : Value) : Two (w.alloc (.cells #[x, y] t)) w.heap.size t x y := heap_alloc_new w _
theorem Two.set0 {w : World} {b : Nat} {t : TypeId} {x y : Value} (h : Two w b t x y) (u : Value) : Two (w.setCell ⟨b, 0, none⟩ u) b t u y := by
  have hlt := h.lt
  have h' : w.heap[b] = .cells #[x, y] t (0, 0) := by unfold Two at h; simpa [Array.getElem?_eq_getElem hlt] using h
  show (w.heap.modify b _)[b]? = _
  rw [Array.getElem?_eq_getElem (by rw [Array.size_modify]; exact hlt), Array.getElem_modify_self, h']
  rfl
theorem Two.set1 {w : World} {b : Nat} {t : TypeId} {x y : Value} (h : Two w b t x y) (u : Value) : Two (w.setCell ⟨b, 1, none⟩ u) b t x u := by
  have hlt := h.lt
  have h' : w.heap[b] = .cells #[x, y] t (0, 0) := by unfold Two at h; simpa [Array.getElem?_eq_getElem hlt] using h
  show (w.heap.modify b _)[b]? = _
  rw [Array.getElem?_eq_getElem (by rw [Array.size_modify]; exact hlt), Array.getElem_modify_self, h']
  rfl
theorem Two.fin {w : World} {b : Nat} {t : TypeId} {x y : Value} (h : Two w b t x y) (u v : Value) :
    Two ((w.setCell ⟨b, 0, none⟩ u).setCell ⟨b, 1, none⟩ v) b t u v ∧ Fr (fun i => i = b) w ((w.setCell ⟨b, 0, none⟩ u).setCell ⟨b, 1, none⟩ v) :=
  ⟨(h.set0 u).set1 v, ((Fr.refl (fun i => i = b) w).setCell (p := ⟨b, 0, none⟩) (fun _ => rfl) u).setCell (p := ⟨b, 1, none⟩) (fun _ => rfl) v⟩

theorem Two.keep {w : World} {b b' : Nat} {t : TypeId} {x y : Value} (h : Two w b t x y) (hne : b ≠ b') (u v : Value) : Two ((w.setCell ⟨b', 0, none⟩ u).setCell ⟨b', 1, none⟩ v) b t x y :=
  h.fr (((Fr.refl (fun i => i = b') w).setCell (p := ⟨b', 0, none⟩) (fun _ => rfl) u).setCell (p := ⟨b', 1, none⟩) (fun _ => rfl) v) hne
theorem Two.fst {w : World} {b : Nat} {t : TypeId} {x y : Value} (h : Two w b t x y) : w.cell? ⟨b, 0, none⟩ = some x ∧ w.cell? ⟨b, 1, none⟩ = some y := ⟨h.cells.1, h.cells.2.1⟩
/-- What a round leaves of what an iterator holds. -/
theorem Tend.on {α : Type} {R : Nat → Prop} {T : World → Nat → Prop} {J : List α → World → Prop} {X : Nat} (h : Tend R T J X) {pre : List α} {w A B C : World} (hA : J pre A) (f : Fr (fun _ => False) A B) (g : Fr (T B) B C) (hw : Fr (fun k => ¬ R k) w A) : Fr (fun k => ¬ R k) w C ∧ ∀ k, A.heap.size ≤ k → k < B.heap.size → C.heap[k]? = B.heap[k]? :=
  ⟨(hw.trans f (fun _ _ f => f.elim)).trans g (fun i _ e => h.apart pre A i hA (h.back pre A B i hA f e)), fun k hk hk2 => g.block k hk2 (fun e => by have := h.old pre A k hA (h.back pre A B k hA f e); omega)⟩
end Go.Proofs.Ytimpoincnfiibaa
