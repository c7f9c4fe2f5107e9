
/- latticelaw08.speaks answers true. -/
import Derived.Test.YtgilemiejemgkaaAlMap3
namespace Go.Proofs.Ytgilemiejemgkaa
open Go.RowKit

theorem least_at {L : List Nat} {k j : Nat} (h : least L k) (h0 : bitOf L j = false) (h1 : ∀ i, i < j → bitOf L i = true) : k = j := by
  rcases Nat.lt_trichotomy k j with h2 | h2 | h2
  · have := h1 k h2
    rw [h.1] at this; cases this
  · exact h2
  · have := h.2 j h2
    rw [h0] at this; cases this
/-- A Take of which the least free page is known. -/
theorem TakeOut.is {b most : Nat} {L : List Nat} {w w' : World} {e : Ending} (h : TakeOut b most L w e w') (j : Nat) (hj : j < most) (h0 : bitOf L j = false) (h1 : ∀ i, i < j → bitOf L i = true) :
    e = .returned (.tuple #[.int .i64 ((j : Int) + 1), .int .i64 0]) ∧ Mp w' b most (turned L j) ∧ Fr (fun i => i = b) w w' := by
  rcases h with ⟨_, _, hall⟩ | ⟨k, _, hl, h2, h3, h4⟩
  · have := hall j hj
    rw [h0] at this; cases this
  · obtain rfl := least_at hl h0 h1
    exact ⟨h2, h3, h4⟩
def spL1 : List Nat := turned zeroL 0
def spL2 : List Nat := turned spL1 1
def spL3 : List Nat := setL 9 spL2 false 1
def spL4 : List Nat := turned spL3 0
def spL5 : List Nat := setL 9 spL4 true 9
set_option maxRecDepth 100000 in
theorem sp1 : bitOf spL1 0 = true ∧ bitOf spL1 1 = false := by decide +kernel
set_option maxRecDepth 100000 in
theorem sp2 : setE 9 spL2 false 1 = 0 ∧ bitOf spL3 0 = false := by decide +kernel
set_option maxRecDepth 100000 in
theorem sp3 : setE 9 spL4 true 9 = 0 ∧ cnt spL5 9 = 3 ∧ spL5.take ((9 + 7) / 8) = [3, 1] := by decide +kernel
set_option maxRecDepth 100000 in
set_option maxHeartbeats 2000000 in
theorem aspeaks_any (w : World) : Calls Try.prog 9 #[] w fun e w' => e = .returned (.bool true) ∧ Fr (fun _ => False) w w' := by
  have S1 : Hid (bitOf spL1 0 = true ∧ bitOf spL1 1 = false) := sp1
  have S2 : Hid (setE 9 spL2 false 1 = 0 ∧ bitOf spL3 0 = false) := sp2
  have S3 : Hid (setE 9 spL4 true 9 = 0 ∧ cnt spL5 9 = 3 ∧ spL5.take ((9 + 7) / 8) = [3, 1]) := sp3
  go_enter Try.func9, Try.ntmps9
  go_wp2_with fail
  refine (anew_ok 9 (by omega) (by omega) _).mono ?_
  rintro e w1 ⟨rfl, h1, f1⟩
  have hb : w.heap.size ≤ w.heap.size := Nat.le_refl _
  generalize hbn : w.heap.size = b at h1 ⊢
  rw [hbn] at hb
  have HB : Hid (w.heap.size = b) := hbn
  clear hbn
  go_wp2_with fail
  refine (take_any b 9 _ _ h1).mono ?_
  rintro e w2 ht
  obtain ⟨rfl, h2, f2⟩ := ht.is 0 (by omega) (zero_bits 0) (fun i hi => by omega)
  rw [show turned zeroL 0 = spL1 from rfl] at h2
  clear ht
  go_wp2_with fail
  refine (take_any b 9 _ _ h2).mono ?_
  rintro e w3 ht
  obtain ⟨rfl, h3, f3⟩ := ht.is 1 (by omega) S1.out.2 (fun i hi => by rw [show i = 0 by omega]; exact S1.out.1)
  rw [show turned spL1 1 = spL2 from rfl] at h3
  clear ht
  go_wp2_with fail
  refine (free_any b 9 _ _ h3 1).mono ?_
  rw [S2.out.1]
  rintro e w4 ⟨rfl, h4, f4⟩
  rw [show setL 9 spL2 false 1 = spL3 from rfl] at h4
  go_wp2_with fail
  refine (take_any b 9 _ _ h4).mono ?_
  rintro e w5 ht
  obtain ⟨rfl, h5, f5⟩ := ht.is 0 (by omega) S2.out.2 (fun i hi => by omega)
  rw [show turned spL3 0 = spL4 from rfl] at h5
  clear ht
  go_wp2_with fail
  refine (mark_any b 9 _ _ h5 9).mono ?_
  rw [S3.out.1]
  rintro e w6 ⟨rfl, h6, f6⟩
  rw [show setL 9 spL4 true 9 = spL5 from rfl] at h6
  go_wp2_with fail
  refine (used_any b 9 _ _ h6).mono ?_
  rw [S3.out.2.1]
  rintro e w7 ⟨rfl, f7⟩
  have h7 := h6.same f7
  go_wp2_with fail
  refine (mbytes_any b 9 _ _ h7).mono ?_
  rw [S3.out.2.2]
  rintro e w8 ⟨a8, c8, rfl, r8, f8⟩
  have cv := run_str (P := Try.prog) (src := 41) (dst := 9) Try.underlying41 Try.underlying5 Try.underlying9 r8 2 rfl
  have sa : strOf [3, 1] = ⟨#[3, 1]⟩ := by decide +kernel
  rw [sa] at cv
  clear sa r8
  go_wp2
  go_ret
  have hS : ∀ i, i = b → w.heap.size ≤ i := fun i e => by rw [e, HB.out]; exact Nat.le_refl _
  exact ⟨rfl, ((((((f1.above f2 hS).above f3 hS).above f4 hS).above f5 hS).above f6 hS).false_trans f7).false_trans f8⟩
end Go.Proofs.Ytgilemiejemgkaa
