/- latticelaw02.speaks answers true. -/
import Derived.Test.YtnnaaliadbihkabSeal
import Derived.Test.YtnnaaliadbihkabRefNum
import Derived.Lib.SlBytesConst
namespace Go.Proofs.Ytnnaaliadbihkab
open Go.RowKit Crcm

theorem crc9 : crc [49, 50, 51, 52, 53, 54, 55, 56, 57] = 3421780262 := by decide +kernel

set_option maxHeartbeats 1000000 in
theorem speaks_any (w : World) : Calls Try.prog 12 #[] w fun e w' => e = .returned (.bool true) ∧ Fr (fun _ => False) w w' := by
  have kc := fun (w : World) (C : Array Value) (n c : Nat) => Lib.run_convert_bytes_const (P := Try.prog) w 22 5 C n c Try.underlying22 Try.underlying5
  have oab : octs [97, 98] := by intro x hx; simp at hx; omega
  have r1 : Row (w.alloc (.cells #[.int .u8 97, .int .u8 98] 5 (2, 3))) (some ⟨w.heap.size, 0, none⟩) 2 [97, 98] := row_lit (l := [97, 98]) oab (by simp) (heap_alloc_new w _)
  go_enter Try.func12, Try.ntmps12
  go_wp2_with fail
  refine (seal_any (some ⟨w.heap.size, 0, none⟩) 2 2 [97, 98] rfl (by simp) _ r1).mono ?_
  rintro e w2 ⟨v2, rfl, m2⟩
  have hl : octs ([97, 98] ++ le4 (crc [97, 98])) := fun x hx => by
    rcases List.mem_append.mp hx with h | h
    · exact oab x h
    · exact le4_octs _ x h
  obtain ⟨a2, c2, hv2, hr2⟩ := m2.own.row hl (by simp [le4])
  have h6 : ([97, 98] ++ le4 (crc [97, 98])).length = 6 := by simp [le4]
  rw [h6] at hv2
  rw [hv2]
  go_wp2_with fail
  refine (open_ok a2 6 2 c2 ([97, 98] ++ le4 (crc [97, 98])) h6.symm rfl _ hr2 ?_).mono ?_
  · show val (le4 (crc [97, 98])) = crc [97, 98]
    exact val_le4 _ (crc_lt oab)
  rintro e w3 ⟨v3, rfl, m3⟩
  have m3' : Mine w3 w2.heap.size v3 [97, 98] := m3.own
  obtain ⟨a3, c3, hv3, hr3⟩ := m3'.row oab (by simp)
  rw [hv3]
  have o9 : octs [49, 50, 51, 52, 53, 54, 55, 56, 57] := by intro x hx; simp at hx; omega
  have r9 : Row (w3.alloc (.cells #[.int .u8 49, .int .u8 50, .int .u8 51, .int .u8 52, .int .u8 53, .int .u8 54, .int .u8 55, .int .u8 56, .int .u8 57] 5 (9, 10))) (some ⟨w3.heap.size, 0, none⟩) 9 [49, 50, 51, 52, 53, 54, 55, 56, 57] := row_lit (l := [49, 50, 51, 52, 53, 54, 55, 56, 57]) o9 (by simp) (heap_alloc_new w3 _)
  have r5 : Row (w3.alloc (.cells #[.int .u8 49, .int .u8 50, .int .u8 51, .int .u8 52, .int .u8 53, .int .u8 54, .int .u8 55, .int .u8 56, .int .u8 57] 5 (9, 10))) a3 c3 [97, 98] := hr3.same ((Fr.refl (fun _ => False) w3).alloc _)
  have f0 : Fr (fun _ => False) w (w3.alloc (.cells #[.int .u8 49, .int .u8 50, .int .u8 51, .int .u8 52, .int .u8 53, .int .u8 54, .int .u8 55, .int .u8 56, .int .u8 57] 5 (9, 10))) := (((Fr.refl (fun _ => False) w).alloc _).false_trans (m2.fr.false_trans m3.fr)).alloc _
  have hcv := run_str (P := Try.prog) (src := 22) (dst := 9) Try.underlying22 Try.underlying5 Try.underlying9 r5 2 rfl
  have hs2 : strOf [97, 98] = ⟨#[97, 98]⟩ := rfl
  rw [hs2] at hcv
  clear hs2 m2 m3 m3' r5 hr3 hv3 hl hr2 hv2 h6
  go_wp2_with fail
  refine (sum_any (some ⟨w3.heap.size, 0, none⟩) 9 9 [49, 50, 51, 52, 53, 54, 55, 56, 57] rfl _ r9).mono ?_
  rintro e w5 ⟨rfl, rfl⟩
  rw [crc9]
  go_wp2
  go_ret
  exact ⟨rfl, f0⟩
end Go.Proofs.Ytnnaaliadbihkab
