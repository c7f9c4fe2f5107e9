
/- What 'make' lays. -/
import Derived.Test.YtkmjmbpdmgoknaaGen
namespace Go.Proofs.Ytkmjmbpdmgoknaa
open Go.RowKit

theorem made_flat {z : Array Value} {size : Nat} (hz : z.size = size) (hp : 0 < size) (n : Nat) : (madeCells z (n * size)).toList = (List.replicate n ()).flatMap (fun _ => z.toList) := by
  have hf : ∀ x : Unit, (z.toList).length = size := fun _ => by simpa using hz
  apply List.ext_getElem?
  intro k
  by_cases hk : k < n * size
  · have hd : k / size < n := (Nat.div_lt_iff_lt_mul hp).2 hk
    have hm : k % size < size := Nat.mod_lt _ hp
    have hk2 : k = k / size * size + k % size := by rw [Nat.mul_comm]; exact (Nat.div_add_mod k size).symm
    have e := flat_get (f := fun _ : Unit => z.toList) (size := size) (fun _ => hf ()) (List.replicate n ()) (k / size) () (by simp [hd]) (k % size) hm
    rw [← hk2] at e
    rw [e]
    have hlt : k % z.size < z.size := by rw [hz]; exact hm
    simp only [madeCells, Array.toList_map, List.getElem?_map, Array.getElem?_toList, Array.getElem?_range, hk, if_true, Option.map_some]
    rw [hz] at hlt ⊢
    rw [Array.getElem?_eq_getElem (by rw [hz]; exact hlt)]
    congr 1
    exact getElem!_pos z (k % size) (by rw [hz]; exact hlt)
  · rw [List.getElem?_eq_none, List.getElem?_eq_none]
    · rw [flat_length (size := size) (fun _ => hf ())]; simp; omega
    · rw [Array.length_toList, size_madeCells]; omega
theorem replicate_flat {α : Type} (f : α → List Value) (x : α) (n : Nat) : (List.replicate n ()).flatMap (fun _ => f x) = (List.replicate n x).flatMap f := by
  induction n with
  | zero => rfl
  | succ n ih => rw [List.replicate_succ, List.replicate_succ, List.flatMap_cons, List.flatMap_cons, ih]
theorem ownsRow.has {w : World} {base : Nat} {e : TypeId} {size : Nat} {v : Value} {n : Nat} {xs : List Value} (h : w.ownsRow base e size v n xs) : Has w size v n xs := by
  refine ⟨h.1, ?_⟩
  rcases h.2 with h2 | ⟨g, cap, cur, rfl, hg, hh, hnc, hcm, hcs, htake⟩
  · exact .inl h2
  · refine .inr ⟨g, cap, rfl, lt_of_block hh, hnc, hcm, there_block hh (by omega), range_block hh (fun j u hu => ?_)⟩
    rw [← htake, List.getElem?_take] at hu
    rw [Nat.zero_add]
    split at hu
    · simpa using hu
    · cases hu
theorem flat_length' {α : Type} {f : α → List Value} {x : α} {size : Nat} (n : Nat) (hl : (f x).length = size) : ((List.replicate n x).flatMap f).length = size * n := by
  induction n with
  | zero => simp
  | succ n ih => rw [List.replicate_succ, List.flatMap_cons, List.length_append, hl, ih, Nat.mul_succ]; omega
theorem Has.made {α : Type} (f : α → List Value) (x : α) {size : Nat} (hp : 0 < size) {z : Value} (hz : z.cells.toList = f x) (hl : (f x).length = size) (n : Nat) (hn : n ≤ maxLen) (w : World) (e : TypeId) :
    Has (w.alloc (.cells (madeCells z.cells (n * size)) e)) size (.slice (some ⟨w.heap.size, 0, none⟩) n n) n ((List.replicate n x).flatMap f) := by
  have hs : z.cells.size = size := by rw [← hl, ← hz]; simp
  have hb := heap_alloc_new w (.cells (madeCells z.cells (n * size)) e)
  refine ⟨by rw [flat_length' n hl, Nat.mul_comm], .inr ⟨_, _, rfl, by simp, Nat.le_refl _, hn, there_block hb (by rw [size_madeCells]; omega), range_block hb (fun j u hu => ?_)⟩⟩
  rw [Nat.zero_add, ← Array.getElem?_toList, made_flat hs hp, hz, replicate_flat]
  exact hu
end Go.Proofs.Ytkmjmbpdmgoknaa
