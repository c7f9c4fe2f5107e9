
/- KBet, KAbv. -/
import Derived.Test.YtcmkpmilnplhmaaWT2
import Derived.Lib.BufferWrite
import Derived.Lib.UnsafeStr
import Derived.Laws.MakeOwn
/- What strings.Clone and key.Between tell, and what the document's own Between tells. -/
namespace Go.Proofs.Ytcmkpmilnplhmaa
open Go.RowKit

theorem Fr.seq {a b c : World} (h : Fr (fun _ => False) a b) (k : Fr (fun _ => False) b c) : Fr (fun _ => False) a c := h.trans k (fun _ _ f => f)
end Go.Proofs.Ytcmkpmilnplhmaa

/- What key.Above tells, and what the document's own Above tells. -/
namespace Go.Proofs.Ytcmkpmilnplhmaa
open Go.RowKit

theorem bytes_cell (s : ByteArray) (c : Nat) (w : World) (t : TypeId) (fr : Nat × Nat) (j : Nat) (h : j < s.size) : (w.alloc (.cells (bytesRow s c) t fr)).cell? ⟨w.heap.size, j, none⟩ = some (.int .u8 ((bsOf s).getD j 0 : Nat)) := by
  rw [cell_of_row _ _ j _ t fr (heap_alloc_new w _)]
  unfold bytesRow
  rw [Array.getElem?_append_left (by simpa using h)]
  have h' : j < s.data.size := h
  rw [← bs_at s j h, Array.getElem?_map, Array.getElem?_eq_getElem h']
  rfl
theorem low_take (l : List Nat) (k : Nat) (h : k < l.length) : low (l.take (k + 1)) = if l.getD k 0 < 255 then k + 1 else low (l.take k) := by
  rw [take_snoc l k h, low_snoc]
  simp only [List.length_take, Nat.min_eq_left (Nat.le_of_lt h)]
/-- What Above tells. -/
def abv (s : ByteArray) : ByteArray := if low (bsOf s) = 0 then ⟨#[]⟩ else strOf (up (bsOf s))
def abvB (s : ByteArray) : Bool := decide (low (bsOf s) ≠ 0)
theorem abv_no {s : ByteArray} (h : low (bsOf s) = 0) : abv s = ⟨#[]⟩ ∧ abvB s = false := ⟨if_pos h, by simp [abvB, h]⟩
theorem abv_yes {s : ByteArray} (h : low (bsOf s) ≠ 0) : abv s = strOf (up (bsOf s)) ∧ abvB s = true := ⟨if_neg h, by simp [abvB, h]⟩
theorem ret_sb {a b : ByteArray} {x y : Bool} (h : a = b ∧ x = y) : Ending.returned (.tuple #[.string a, .bool x]) = .returned (.tuple #[.string b, .bool y]) := by rw [h.1, h.2]

/-- What '[]byte(..)' of a text's beginning lays. -/
theorem bytes_of (s : ByteArray) (p : Nat) (hs : s.size ≤ 140737488351232) (hp : p < s.size) (w : World) : ∃ cap C fr, (convert 9 23 (.string (s.extract 0 (p + 1)))).run Try.prog w = .ok (.slice (some ⟨w.heap.size, 0, none⟩) (p + 1) cap) (w.drew.alloc (.cells C 5 fr)) ∧
    p + 1 ≤ C.size ∧ p + 1 ≤ cap ∧ cap ≤ maxLen ∧ C.size < fr.1 + 1 ∧ fr.1 ≤ fr.2 ∧ ∀ j, j < p + 1 → C[j]? = some (.int .u8 ((bsOf s).getD j 0 : Nat)) := by
  have h := run_bytes_of_string (P := Try.prog) w 9 23 5 (s.extract 0 (p + 1)) Try.underlying9 Try.underlying23 Try.underlying5
  have hz : (s.extract 0 (p + 1)).size = p + 1 := by simp [ByteArray.size_extract]; omega
  rw [hz] at h
  have hC : ∀ c, p + 1 ≤ (bytesRow (s.extract 0 (p + 1)) c).size := fun c => by
    have : (s.extract 0 (p + 1)).data.size = p + 1 := hz
    simp only [bytesRow, Array.size_append, Array.size_map, this]; omega
  refine ⟨_, _, _, h, hC _, ?_, grownCap_le_maxLen _ _ _ _ (by unfold maxLen; omega), by simp, by simp, fun j hj => ?_⟩
  · exact grownCap_ge _ _ _ _
  · unfold bytesRow
    have hz' : (s.extract 0 (p + 1)).data.size = p + 1 := hz
    rw [Array.getElem?_append_left (by simp only [Array.size_map, hz']; exact hj), Array.getElem?_map, Array.getElem?_eq_getElem (by rw [hz']; exact hj)]
    have := bs_at (s.extract 0 (p + 1)) j (by rw [hz]; exact hj)
    rw [bs_extract] at this
    have e : ((bsOf s).take (p + 1)).getD j 0 = (bsOf s).getD j 0 := by
      rw [List.getD_eq_getElem?_getD, List.getD_eq_getElem?_getD, List.getElem?_take, if_pos hj]
    rw [e] at this
    rw [← this]; rfl

theorem row_one (w : World) (x : Nat) (z : Int) (hx : x < 256) (hz : z = (x : Int)) : Row (w.alloc (.cells #[.int .u8 z] 5)) (some ⟨w.heap.size, 0, none⟩) 1 [x] := by
  subst hz
  refine ⟨by simp, by omega, by simp, (fun y hy => by simp at hy; omega), .inr ⟨w.heap.size, 0, rfl, by simp, fun i hi => ?_⟩⟩
  have : i = 0 := by simpa using hi
  subst this
  simp
theorem up_at (l : List Nat) (k : Nat) (h : low l = k + 1) : up l = l.take k ++ [l.getD k 0 + 1] := by unfold up; rw [h]; rfl

end Go.Proofs.Ytcmkpmilnplhmaa
