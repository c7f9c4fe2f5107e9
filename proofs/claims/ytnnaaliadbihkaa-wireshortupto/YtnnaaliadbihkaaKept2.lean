/- Kept items, one by one. -/
import Derived.Test.YtnnaaliadbihkaaKept
namespace Go.Proofs.Ytnnaaliadbihkaa
open Go.RowKit

theorem kept_wf {its : List It} (h : ∀ i, i < its.length → itWf (its.getD i itD)) (j : Nat) (hj : j < (kept its).length) : itWf ((kept its).getD j itD) := by
  have hm : (kept its).getD j itD ∈ kept its := by
    rw [List.getD_eq_getElem?_getD, List.getElem?_eq_getElem hj]; exact List.getElem_mem hj
  have hm2 := (List.mem_filter.mp hm).1
  obtain ⟨i, hi, he⟩ := List.getElem_of_mem hm2
  have := h i hi
  rw [List.getD_eq_getElem?_getD, List.getElem?_eq_getElem hi, Option.getD_some, he] at this
  exact this
theorem outs_drop (K : List It) (j : Nat) (hj : j < K.length) : outs (K.drop j) = outIt (K.getD j itD) ++ outs (K.drop (j + 1)) := by
  rw [List.drop_eq_getElem_cons hj, List.getD_eq_getElem?_getD, List.getElem?_eq_getElem hj]; rfl
/-- A kept item's cells. -/
theorem kept_cells {w : World} {base g n c : Nat} {K : List It} (h : w.ownsRow base 27 3 (.slice (some ⟨g, 0, none⟩) n c) n (itsCells K)) (hn : n = K.length) (j : Nat) (hj : j < K.length) :
    w.cell? ⟨g, j * 3, none⟩ = some (.int .i64 (K.getD j itD).1) ∧ w.cell? ⟨g, j * 3 + 1, none⟩ = some (.int .i64 (K.getD j itD).2.1) ∧ w.cell? ⟨g, j * 3 + 2, none⟩ = some (.string (K.getD j itD).2.2) := by
  subst hn
  have q : ∀ t, t < 3 → w.cell? ⟨g, j * 3 + t, none⟩ = (itCells (K.getD j itD))[t]? := fun t ht => by
    rw [h.cellAt _ (by omega), itsCells_get K j t hj ht]
  exact ⟨q 0 (by omega), q 1 (by omega), q 2 (by omega)⟩
end Go.Proofs.Ytnnaaliadbihkaa
