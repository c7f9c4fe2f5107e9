
/- Rows of truth values. -/
import Derived.Test.YtgilemiejemgkaaMade
namespace Go.Proofs.Ytgilemiejemgkaa
open Go.RowKit

/-- A slice of n truth values at block g. -/
def Bl (w : World) (g n : Nat) (V : List Bool) : Prop := Has w 1 (.slice (some ⟨g, 0, none⟩) n n) n (V.map Value.bool)
theorem Bl.len {w : World} {g n : Nat} {V : List Bool} (h : Bl w g n V) : V.length = n := by have := h.1; simpa using this
theorem Bl.lt {w : World} {g n : Nat} {V : List Bool} (h : Bl w g n V) : g < w.heap.size := Has.lt h rfl
theorem Bl.fr {S : Nat → Prop} {w w' : World} {g n : Nat} {V : List Bool} (h : Bl w g n V) (f : Fr S w w') (hn : ¬ S g) : Bl w' g n V := Has.fr h f (fun k hk => by simp [Value.ownBlock] at hk; rwa [← hk])
theorem Bl.same {w w' : World} {g n : Nat} {V : List Bool} (h : Bl w g n V) (f : Fr (fun _ => False) w w') : Bl w' g n V := h.fr f (fun f => f)
theorem Bl.at_ {w : World} {g n : Nat} {V : List Bool} (h : Bl w g n V) {k : Nat} (hk : k < n) : w.cell? ⟨g, k, none⟩ = some (.bool (V.getD k false)) ∧ w.frozen? ⟨g, k, none⟩ = false ∧ ∀ x, Bl (w.setCell ⟨g, k, none⟩ (.bool x)) g n (V.set k x) := by
  have hl := h.len
  obtain ⟨g', cap, hv, hg, hnc, hcm, hth, hra⟩ := Has.form h (by omega)
  simp only [Value.slice.injEq, Option.some.injEq, Addr.mk.injEq, and_true, true_and] at hv
  obtain ⟨rfl, rfl⟩ := hv
  have h1 := hra k (.bool (V.getD k false)) (by rw [List.getElem?_map, List.getD_eq_getElem?_getD, List.getElem?_eq_getElem (by omega)]; rfl)
  have h2 := (hth k (by omega)).2
  rw [Nat.zero_add] at h1 h2
  refine ⟨h1, h2, fun x => ?_⟩
  have := Has.set h k [.bool x] (by simp; omega)
  have e : (V.map Value.bool).take k ++ [.bool x] ++ (V.map Value.bool).drop (k + [Value.bool x].length) = (V.set k x).map Value.bool := by
    rw [List.set_eq_take_append_cons_drop, if_pos (by omega), List.map_append, List.map_cons, List.map_take, List.map_drop, List.append_assoc]; rfl
  rw [e] at this
  exact this
theorem infob : (Try.prog.info? 4).map (fun i => (i.zero, i.size, i.bytes)) = some (some (.bool false), 1, 1) := by kernel_rfl
theorem bl_made (w : World) (n : Nat) (hn : n ≤ maxLen) : Bl (w.alloc (.cells (madeCells (Value.bool false).cells (n * 1)) 4)) w.heap.size n (List.replicate n false) := by
  have := Has.made (fun x => [Value.bool x]) false (size := 1) (by omega) (z := .bool false) (by simp [Value.cells]) rfl n hn w 4
  unfold Bl
  have e : (List.replicate n false).flatMap (fun x => [Value.bool x]) = (List.replicate n false).map Value.bool := by
    rw [List.flatMap_def]; simp
  rwa [e] at this
end Go.Proofs.Ytgilemiejemgkaa
