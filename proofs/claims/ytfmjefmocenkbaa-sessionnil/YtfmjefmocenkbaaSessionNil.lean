
/- A nil table knows no request and takes none, a nil session reads nothing and has no floors, whatever numbers are handed in, and the example speaks; with no condition but those of the statement's own form. -/
import Derived.Test.YtfmjefmocenkbaaArgs
import Derived.Test.YtfmjefmocenkbaaSsSpk
namespace Go.Proofs.Ytfmjefmocenkbaa.sessionNil
open Go.ChangeShapes Go.WideShapes Go.ChangeAt Go.RowKit
open Go.ChangeMaps (open_string shut_string)
set_option linter.unusedVariables false

theorem own : ownKnob Try.prog.godebug = none := by kernel_rfl
theorem laidOut : laidOutB Try.prog = true := by kernel_rfl
theorem bytes8 : Try.prog.bytesOf 5 = 1 := by kernel_rfl

open Go.RowKit
set_option maxRecDepth 100000 in
set_option maxHeartbeats 16000000 in
theorem walk (w : World) (a : Int) (_ : (Lit.int .i64 a).wf = true) (b : Int) (_ : (Lit.int .i64 b).wf = true) :
    Calls Try.prog 7 #[.int .i64 a, .int .i64 b] w fun e w' => e = .returned (.bool true) ∧ Fr (fun _ => False) w w' := by
  have HSP : Hid (∀ W, Calls Try.prog 19 #[] W fun e w' => e = .returned (.bool true) ∧ Fr (fun _ => False) W w') := ssspk_any
  have HWA : Hid (∀ W, Calls Try.prog 9 #[.pointer none, .int .i64 a, .int .i64 b] W fun e w' => e = .returned (.int .i64 (if (rng a && rng b) = true then 5 else 1)) ∧ w' = W) := wait_nil a b
  have HSTT : Hid (∀ W, Calls Try.prog 16 #[.pointer none, .int .i64 a] W fun e w' => e = .returned (.int .i64 0) ∧ w' = W) := state_nil a
  have HSE : Hid (∀ W, Calls Try.prog 12 #[.pointer none, .int .i64 a] W fun e w' => e = .returned (.slice none 0 0) ∧ Fr (fun _ => False) W w') := settle_nil a
  have HFL : Hid (∀ W, Calls Try.prog 25 #[.pointer none, .int .i64 a] W fun e w' => e = .returned (.int .i64 0) ∧ W = w') := floor_nil a
  have HAG : Hid (∀ W, Calls Try.prog 21 #[.pointer none, .int .i64 a] W fun e w' => e = .returned (.int .i64 (if ndB a = true then 7 else 1)) ∧ W = w') := again_nil a
  obtain ⟨rd, hrd⟩ : ∃ rd, rd = rdE a b := ⟨_, rfl⟩
  have hrd2 : rd = 0 ∨ rd = 1 := by rw [hrd]; unfold rdE; split <;> simp
  have HRD : Hid (∀ W, Calls Try.prog 23 #[.pointer none, .int .i64 a, .int .i64 b] W fun e w' => e = .returned (.tuple #[.bool false, .int .i64 rd]) ∧ W = w') := by rw [hrd]; exact read_nil a b
  clear hrd
  rcases hrd2 with rfl | rfl
  · rcases (by omega : a < 0 ∨ a = 0 ∨ 1099511627776 < a ∨ (1 ≤ a ∧ a ≤ 6) ∨ (7 ≤ a ∧ a ≤ 1099511627776)) with ha | ha | ha | ha | ha
    · have d1 : decide (a < 1) = true := by simp; omega
      have d5 : decide (a < 0) = true := by simp; omega
      have d6 : decide (6 < a) = false := by simp; omega
      have d2 : decide (1099511627776 < a) = false := by simp; omega
      rw [show (if (rng a && rng b) = true then (5 : Int) else 1) = 1 from if_neg (by simp [rng]; omega)] at HWA
      rw [show (if ndB a = true then (7 : Int) else 1) = 1 from if_neg (by simp [ndB, inB]; omega)] at HAG
      clear ha
      go_enter Try.func7, Try.ntmps7
      go_wp2_with fail
      refine (HRD.out _).mono ?_
      rintro r w1 ⟨rfl, rfl⟩
      go_wp2_with fail
      refine (HWA.out _).mono ?_
      rintro r w2 ⟨rfl, rfl⟩
      go_wp2_with fail
      refine (HSTT.out _).mono ?_
      rintro r w3 ⟨rfl, rfl⟩
      go_wp2_with fail
      refine (HSE.out _).mono ?_
      rintro r w4 ⟨rfl, f4⟩
      go_wp2_with fail
      refine (leave_nil _).mono ?_
      rintro r w5 ⟨rfl, f5⟩
      go_wp2_with fail
      refine (waiting_nil _).mono ?_
      rintro r w6 ⟨rfl, rfl⟩
      go_wp2_with fail
      refine (HFL.out _).mono ?_
      rintro r w7 ⟨rfl, rfl⟩
      go_wp2_with fail
      refine (HAG.out _).mono ?_
      rintro r w8 ⟨rfl, rfl⟩
      go_wp2_with fail
      refine (HSP.out _).mono ?_
      rintro r w9 ⟨rfl, f9⟩
      go_wp2
      go_ret
      exact ⟨by simp, (f4.seq' f5).seq' f9⟩
    · subst ha
      rw [show (if (rng 0 && rng b) = true then (5 : Int) else 1) = 1 from if_neg (by simp [rng])] at HWA
      rw [show (if ndB 0 = true then (7 : Int) else 1) = 7 from if_pos (by decide)] at HAG
      go_enter Try.func7, Try.ntmps7
      go_wp2_with fail
      refine (HRD.out _).mono ?_
      rintro r w1 ⟨rfl, rfl⟩
      go_wp2_with fail
      refine (HWA.out _).mono ?_
      rintro r w2 ⟨rfl, rfl⟩
      go_wp2_with fail
      refine (HSTT.out _).mono ?_
      rintro r w3 ⟨rfl, rfl⟩
      go_wp2_with fail
      refine (HSE.out _).mono ?_
      rintro r w4 ⟨rfl, f4⟩
      go_wp2_with fail
      refine (leave_nil _).mono ?_
      rintro r w5 ⟨rfl, f5⟩
      go_wp2_with fail
      refine (waiting_nil _).mono ?_
      rintro r w6 ⟨rfl, rfl⟩
      go_wp2_with fail
      refine (HFL.out _).mono ?_
      rintro r w7 ⟨rfl, rfl⟩
      go_wp2_with fail
      refine (HAG.out _).mono ?_
      rintro r w8 ⟨rfl, rfl⟩
      go_wp2_with fail
      refine (HSP.out _).mono ?_
      rintro r w9 ⟨rfl, f9⟩
      go_wp2
      go_ret
      exact ⟨by simp, (f4.seq' f5).seq' f9⟩
    · have d1 : decide (a < 1) = false := by simp; omega
      have d5 : decide (a < 0) = false := by simp; omega
      have d6 : decide (6 < a) = true := by simp; omega
      have d2 : decide (1099511627776 < a) = true := by simp; omega
      rw [show (if (rng a && rng b) = true then (5 : Int) else 1) = 1 from if_neg (by simp [rng]; omega)] at HWA
      rw [show (if ndB a = true then (7 : Int) else 1) = 1 from if_neg (by simp [ndB, inB]; omega)] at HAG
      clear ha
      go_enter Try.func7, Try.ntmps7
      go_wp2_with fail
      refine (HRD.out _).mono ?_
      rintro r w1 ⟨rfl, rfl⟩
      go_wp2_with fail
      refine (HWA.out _).mono ?_
      rintro r w2 ⟨rfl, rfl⟩
      go_wp2_with fail
      refine (HSTT.out _).mono ?_
      rintro r w3 ⟨rfl, rfl⟩
      go_wp2_with fail
      refine (HSE.out _).mono ?_
      rintro r w4 ⟨rfl, f4⟩
      go_wp2_with fail
      refine (leave_nil _).mono ?_
      rintro r w5 ⟨rfl, f5⟩
      go_wp2_with fail
      refine (waiting_nil _).mono ?_
      rintro r w6 ⟨rfl, rfl⟩
      go_wp2_with fail
      refine (HFL.out _).mono ?_
      rintro r w7 ⟨rfl, rfl⟩
      go_wp2_with fail
      refine (HAG.out _).mono ?_
      rintro r w8 ⟨rfl, rfl⟩
      go_wp2_with fail
      refine (HSP.out _).mono ?_
      rintro r w9 ⟨rfl, f9⟩
      go_wp2
      go_ret
      exact ⟨by simp, (f4.seq' f5).seq' f9⟩
    · rcases (by omega : b < 1 ∨ 1099511627776 < b ∨ (1 ≤ b ∧ b ≤ 1099511627776)) with hb | hb | hb
      · have d1 : decide (a < 1) = false := by simp; omega
        have d5 : decide (a < 0) = false := by simp; omega
        have d6 : decide (6 < a) = false := by simp; omega
        have d2 : decide (1099511627776 < a) = false := by simp; omega
        have d3 : decide (b < 1) = true := by simp; omega
        have d4 : decide (1099511627776 < b) = false := by simp; omega
        rw [show (if (rng a && rng b) = true then (5 : Int) else 1) = 1 from if_neg (by simp [rng]; omega)] at HWA
        rw [show (if ndB a = true then (7 : Int) else 1) = 7 from if_pos (by simp [ndB, inB]; omega)] at HAG
        clear ha hb
        go_enter Try.func7, Try.ntmps7
        go_wp2_with fail
        refine (HRD.out _).mono ?_
        rintro r w1 ⟨rfl, rfl⟩
        go_wp2_with fail
        refine (HWA.out _).mono ?_
        rintro r w2 ⟨rfl, rfl⟩
        go_wp2_with fail
        refine (HSTT.out _).mono ?_
        rintro r w3 ⟨rfl, rfl⟩
        go_wp2_with fail
        refine (HSE.out _).mono ?_
        rintro r w4 ⟨rfl, f4⟩
        go_wp2_with fail
        refine (leave_nil _).mono ?_
        rintro r w5 ⟨rfl, f5⟩
        go_wp2_with fail
        refine (waiting_nil _).mono ?_
        rintro r w6 ⟨rfl, rfl⟩
        go_wp2_with fail
        refine (HFL.out _).mono ?_
        rintro r w7 ⟨rfl, rfl⟩
        go_wp2_with fail
        refine (HAG.out _).mono ?_
        rintro r w8 ⟨rfl, rfl⟩
        go_wp2_with fail
        refine (HSP.out _).mono ?_
        rintro r w9 ⟨rfl, f9⟩
        go_wp2
        go_ret
        exact ⟨by simp, (f4.seq' f5).seq' f9⟩
      · have d1 : decide (a < 1) = false := by simp; omega
        have d5 : decide (a < 0) = false := by simp; omega
        have d6 : decide (6 < a) = false := by simp; omega
        have d2 : decide (1099511627776 < a) = false := by simp; omega
        have d3 : decide (b < 1) = false := by simp; omega
        have d4 : decide (1099511627776 < b) = true := by simp; omega
        rw [show (if (rng a && rng b) = true then (5 : Int) else 1) = 1 from if_neg (by simp [rng]; omega)] at HWA
        rw [show (if ndB a = true then (7 : Int) else 1) = 7 from if_pos (by simp [ndB, inB]; omega)] at HAG
        clear ha hb
        go_enter Try.func7, Try.ntmps7
        go_wp2_with fail
        refine (HRD.out _).mono ?_
        rintro r w1 ⟨rfl, rfl⟩
        go_wp2_with fail
        refine (HWA.out _).mono ?_
        rintro r w2 ⟨rfl, rfl⟩
        go_wp2_with fail
        refine (HSTT.out _).mono ?_
        rintro r w3 ⟨rfl, rfl⟩
        go_wp2_with fail
        refine (HSE.out _).mono ?_
        rintro r w4 ⟨rfl, f4⟩
        go_wp2_with fail
        refine (leave_nil _).mono ?_
        rintro r w5 ⟨rfl, f5⟩
        go_wp2_with fail
        refine (waiting_nil _).mono ?_
        rintro r w6 ⟨rfl, rfl⟩
        go_wp2_with fail
        refine (HFL.out _).mono ?_
        rintro r w7 ⟨rfl, rfl⟩
        go_wp2_with fail
        refine (HAG.out _).mono ?_
        rintro r w8 ⟨rfl, rfl⟩
        go_wp2_with fail
        refine (HSP.out _).mono ?_
        rintro r w9 ⟨rfl, f9⟩
        go_wp2
        go_ret
        exact ⟨by simp, (f4.seq' f5).seq' f9⟩
      · have d1 : decide (a < 1) = false := by simp; omega
        have d5 : decide (a < 0) = false := by simp; omega
        have d6 : decide (6 < a) = false := by simp; omega
        have d2 : decide (1099511627776 < a) = false := by simp; omega
        have d3 : decide (b < 1) = false := by simp; omega
        have d4 : decide (1099511627776 < b) = false := by simp; omega
        rw [show (if (rng a && rng b) = true then (5 : Int) else 1) = 5 from if_pos (by simp [rng]; omega)] at HWA
        rw [show (if ndB a = true then (7 : Int) else 1) = 7 from if_pos (by simp [ndB, inB]; omega)] at HAG
        clear ha hb
        go_enter Try.func7, Try.ntmps7
        go_wp2_with fail
        refine (HRD.out _).mono ?_
        rintro r w1 ⟨rfl, rfl⟩
        go_wp2_with fail
        refine (HWA.out _).mono ?_
        rintro r w2 ⟨rfl, rfl⟩
        go_wp2_with fail
        refine (HSTT.out _).mono ?_
        rintro r w3 ⟨rfl, rfl⟩
        go_wp2_with fail
        refine (HSE.out _).mono ?_
        rintro r w4 ⟨rfl, f4⟩
        go_wp2_with fail
        refine (leave_nil _).mono ?_
        rintro r w5 ⟨rfl, f5⟩
        go_wp2_with fail
        refine (waiting_nil _).mono ?_
        rintro r w6 ⟨rfl, rfl⟩
        go_wp2_with fail
        refine (HFL.out _).mono ?_
        rintro r w7 ⟨rfl, rfl⟩
        go_wp2_with fail
        refine (HAG.out _).mono ?_
        rintro r w8 ⟨rfl, rfl⟩
        go_wp2_with fail
        refine (HSP.out _).mono ?_
        rintro r w9 ⟨rfl, f9⟩
        go_wp2
        go_ret
        exact ⟨by simp, (f4.seq' f5).seq' f9⟩
    · rcases (by omega : b < 1 ∨ 1099511627776 < b ∨ (1 ≤ b ∧ b ≤ 1099511627776)) with hb | hb | hb
      · have d1 : decide (a < 1) = false := by simp; omega
        have d5 : decide (a < 0) = false := by simp; omega
        have d6 : decide (6 < a) = true := by simp; omega
        have d2 : decide (1099511627776 < a) = false := by simp; omega
        have d3 : decide (b < 1) = true := by simp; omega
        have d4 : decide (1099511627776 < b) = false := by simp; omega
        rw [show (if (rng a && rng b) = true then (5 : Int) else 1) = 1 from if_neg (by simp [rng]; omega)] at HWA
        rw [show (if ndB a = true then (7 : Int) else 1) = 1 from if_neg (by simp [ndB, inB]; omega)] at HAG
        clear ha hb
        go_enter Try.func7, Try.ntmps7
        go_wp2_with fail
        refine (HRD.out _).mono ?_
        rintro r w1 ⟨rfl, rfl⟩
        go_wp2_with fail
        refine (HWA.out _).mono ?_
        rintro r w2 ⟨rfl, rfl⟩
        go_wp2_with fail
        refine (HSTT.out _).mono ?_
        rintro r w3 ⟨rfl, rfl⟩
        go_wp2_with fail
        refine (HSE.out _).mono ?_
        rintro r w4 ⟨rfl, f4⟩
        go_wp2_with fail
        refine (leave_nil _).mono ?_
        rintro r w5 ⟨rfl, f5⟩
        go_wp2_with fail
        refine (waiting_nil _).mono ?_
        rintro r w6 ⟨rfl, rfl⟩
        go_wp2_with fail
        refine (HFL.out _).mono ?_
        rintro r w7 ⟨rfl, rfl⟩
        go_wp2_with fail
        refine (HAG.out _).mono ?_
        rintro r w8 ⟨rfl, rfl⟩
        go_wp2_with fail
        refine (HSP.out _).mono ?_
        rintro r w9 ⟨rfl, f9⟩
        go_wp2
        go_ret
        exact ⟨by simp, (f4.seq' f5).seq' f9⟩
      · have d1 : decide (a < 1) = false := by simp; omega
        have d5 : decide (a < 0) = false := by simp; omega
        have d6 : decide (6 < a) = true := by simp; omega
        have d2 : decide (1099511627776 < a) = false := by simp; omega
        have d3 : decide (b < 1) = false := by simp; omega
        have d4 : decide (1099511627776 < b) = true := by simp; omega
        rw [show (if (rng a && rng b) = true then (5 : Int) else 1) = 1 from if_neg (by simp [rng]; omega)] at HWA
        rw [show (if ndB a = true then (7 : Int) else 1) = 1 from if_neg (by simp [ndB, inB]; omega)] at HAG
        clear ha hb
        go_enter Try.func7, Try.ntmps7
        go_wp2_with fail
        refine (HRD.out _).mono ?_
        rintro r w1 ⟨rfl, rfl⟩
        go_wp2_with fail
        refine (HWA.out _).mono ?_
        rintro r w2 ⟨rfl, rfl⟩
        go_wp2_with fail
        refine (HSTT.out _).mono ?_
        rintro r w3 ⟨rfl, rfl⟩
        go_wp2_with fail
        refine (HSE.out _).mono ?_
        rintro r w4 ⟨rfl, f4⟩
        go_wp2_with fail
        refine (leave_nil _).mono ?_
        rintro r w5 ⟨rfl, f5⟩
        go_wp2_with fail
        refine (waiting_nil _).mono ?_
        rintro r w6 ⟨rfl, rfl⟩
        go_wp2_with fail
        refine (HFL.out _).mono ?_
        rintro r w7 ⟨rfl, rfl⟩
        go_wp2_with fail
        refine (HAG.out _).mono ?_
        rintro r w8 ⟨rfl, rfl⟩
        go_wp2_with fail
        refine (HSP.out _).mono ?_
        rintro r w9 ⟨rfl, f9⟩
        go_wp2
        go_ret
        exact ⟨by simp, (f4.seq' f5).seq' f9⟩
      · have d1 : decide (a < 1) = false := by simp; omega
        have d5 : decide (a < 0) = false := by simp; omega
        have d6 : decide (6 < a) = true := by simp; omega
        have d2 : decide (1099511627776 < a) = false := by simp; omega
        have d3 : decide (b < 1) = false := by simp; omega
        have d4 : decide (1099511627776 < b) = false := by simp; omega
        rw [show (if (rng a && rng b) = true then (5 : Int) else 1) = 5 from if_pos (by simp [rng]; omega)] at HWA
        rw [show (if ndB a = true then (7 : Int) else 1) = 1 from if_neg (by simp [ndB, inB]; omega)] at HAG
        clear ha hb
        go_enter Try.func7, Try.ntmps7
        go_wp2_with fail
        refine (HRD.out _).mono ?_
        rintro r w1 ⟨rfl, rfl⟩
        go_wp2_with fail
        refine (HWA.out _).mono ?_
        rintro r w2 ⟨rfl, rfl⟩
        go_wp2_with fail
        refine (HSTT.out _).mono ?_
        rintro r w3 ⟨rfl, rfl⟩
        go_wp2_with fail
        refine (HSE.out _).mono ?_
        rintro r w4 ⟨rfl, f4⟩
        go_wp2_with fail
        refine (leave_nil _).mono ?_
        rintro r w5 ⟨rfl, f5⟩
        go_wp2_with fail
        refine (waiting_nil _).mono ?_
        rintro r w6 ⟨rfl, rfl⟩
        go_wp2_with fail
        refine (HFL.out _).mono ?_
        rintro r w7 ⟨rfl, rfl⟩
        go_wp2_with fail
        refine (HAG.out _).mono ?_
        rintro r w8 ⟨rfl, rfl⟩
        go_wp2_with fail
        refine (HSP.out _).mono ?_
        rintro r w9 ⟨rfl, f9⟩
        go_wp2
        go_ret
        exact ⟨by simp, (f4.seq' f5).seq' f9⟩
  · rcases (by omega : a < 0 ∨ a = 0 ∨ 1099511627776 < a ∨ (1 ≤ a ∧ a ≤ 6) ∨ (7 ≤ a ∧ a ≤ 1099511627776)) with ha | ha | ha | ha | ha
    · have d1 : decide (a < 1) = true := by simp; omega
      have d5 : decide (a < 0) = true := by simp; omega
      have d6 : decide (6 < a) = false := by simp; omega
      have d2 : decide (1099511627776 < a) = false := by simp; omega
      rw [show (if (rng a && rng b) = true then (5 : Int) else 1) = 1 from if_neg (by simp [rng]; omega)] at HWA
      rw [show (if ndB a = true then (7 : Int) else 1) = 1 from if_neg (by simp [ndB, inB]; omega)] at HAG
      clear ha
      go_enter Try.func7, Try.ntmps7
      go_wp2_with fail
      refine (HRD.out _).mono ?_
      rintro r w1 ⟨rfl, rfl⟩
      go_wp2_with fail
      refine (HWA.out _).mono ?_
      rintro r w2 ⟨rfl, rfl⟩
      go_wp2_with fail
      refine (HSTT.out _).mono ?_
      rintro r w3 ⟨rfl, rfl⟩
      go_wp2_with fail
      refine (HSE.out _).mono ?_
      rintro r w4 ⟨rfl, f4⟩
      go_wp2_with fail
      refine (leave_nil _).mono ?_
      rintro r w5 ⟨rfl, f5⟩
      go_wp2_with fail
      refine (waiting_nil _).mono ?_
      rintro r w6 ⟨rfl, rfl⟩
      go_wp2_with fail
      refine (HFL.out _).mono ?_
      rintro r w7 ⟨rfl, rfl⟩
      go_wp2_with fail
      refine (HAG.out _).mono ?_
      rintro r w8 ⟨rfl, rfl⟩
      go_wp2_with fail
      refine (HSP.out _).mono ?_
      rintro r w9 ⟨rfl, f9⟩
      go_wp2
      go_ret
      exact ⟨by simp, (f4.seq' f5).seq' f9⟩
    · subst ha
      rw [show (if (rng 0 && rng b) = true then (5 : Int) else 1) = 1 from if_neg (by simp [rng])] at HWA
      rw [show (if ndB 0 = true then (7 : Int) else 1) = 7 from if_pos (by decide)] at HAG
      go_enter Try.func7, Try.ntmps7
      go_wp2_with fail
      refine (HRD.out _).mono ?_
      rintro r w1 ⟨rfl, rfl⟩
      go_wp2_with fail
      refine (HWA.out _).mono ?_
      rintro r w2 ⟨rfl, rfl⟩
      go_wp2_with fail
      refine (HSTT.out _).mono ?_
      rintro r w3 ⟨rfl, rfl⟩
      go_wp2_with fail
      refine (HSE.out _).mono ?_
      rintro r w4 ⟨rfl, f4⟩
      go_wp2_with fail
      refine (leave_nil _).mono ?_
      rintro r w5 ⟨rfl, f5⟩
      go_wp2_with fail
      refine (waiting_nil _).mono ?_
      rintro r w6 ⟨rfl, rfl⟩
      go_wp2_with fail
      refine (HFL.out _).mono ?_
      rintro r w7 ⟨rfl, rfl⟩
      go_wp2_with fail
      refine (HAG.out _).mono ?_
      rintro r w8 ⟨rfl, rfl⟩
      go_wp2_with fail
      refine (HSP.out _).mono ?_
      rintro r w9 ⟨rfl, f9⟩
      go_wp2
      go_ret
      exact ⟨by simp, (f4.seq' f5).seq' f9⟩
    · have d1 : decide (a < 1) = false := by simp; omega
      have d5 : decide (a < 0) = false := by simp; omega
      have d6 : decide (6 < a) = true := by simp; omega
      have d2 : decide (1099511627776 < a) = true := by simp; omega
      rw [show (if (rng a && rng b) = true then (5 : Int) else 1) = 1 from if_neg (by simp [rng]; omega)] at HWA
      rw [show (if ndB a = true then (7 : Int) else 1) = 1 from if_neg (by simp [ndB, inB]; omega)] at HAG
      clear ha
      go_enter Try.func7, Try.ntmps7
      go_wp2_with fail
      refine (HRD.out _).mono ?_
      rintro r w1 ⟨rfl, rfl⟩
      go_wp2_with fail
      refine (HWA.out _).mono ?_
      rintro r w2 ⟨rfl, rfl⟩
      go_wp2_with fail
      refine (HSTT.out _).mono ?_
      rintro r w3 ⟨rfl, rfl⟩
      go_wp2_with fail
      refine (HSE.out _).mono ?_
      rintro r w4 ⟨rfl, f4⟩
      go_wp2_with fail
      refine (leave_nil _).mono ?_
      rintro r w5 ⟨rfl, f5⟩
      go_wp2_with fail
      refine (waiting_nil _).mono ?_
      rintro r w6 ⟨rfl, rfl⟩
      go_wp2_with fail
      refine (HFL.out _).mono ?_
      rintro r w7 ⟨rfl, rfl⟩
      go_wp2_with fail
      refine (HAG.out _).mono ?_
      rintro r w8 ⟨rfl, rfl⟩
      go_wp2_with fail
      refine (HSP.out _).mono ?_
      rintro r w9 ⟨rfl, f9⟩
      go_wp2
      go_ret
      exact ⟨by simp, (f4.seq' f5).seq' f9⟩
    · rcases (by omega : b < 1 ∨ 1099511627776 < b ∨ (1 ≤ b ∧ b ≤ 1099511627776)) with hb | hb | hb
      · have d1 : decide (a < 1) = false := by simp; omega
        have d5 : decide (a < 0) = false := by simp; omega
        have d6 : decide (6 < a) = false := by simp; omega
        have d2 : decide (1099511627776 < a) = false := by simp; omega
        have d3 : decide (b < 1) = true := by simp; omega
        have d4 : decide (1099511627776 < b) = false := by simp; omega
        rw [show (if (rng a && rng b) = true then (5 : Int) else 1) = 1 from if_neg (by simp [rng]; omega)] at HWA
        rw [show (if ndB a = true then (7 : Int) else 1) = 7 from if_pos (by simp [ndB, inB]; omega)] at HAG
        clear ha hb
        go_enter Try.func7, Try.ntmps7
        go_wp2_with fail
        refine (HRD.out _).mono ?_
        rintro r w1 ⟨rfl, rfl⟩
        go_wp2_with fail
        refine (HWA.out _).mono ?_
        rintro r w2 ⟨rfl, rfl⟩
        go_wp2_with fail
        refine (HSTT.out _).mono ?_
        rintro r w3 ⟨rfl, rfl⟩
        go_wp2_with fail
        refine (HSE.out _).mono ?_
        rintro r w4 ⟨rfl, f4⟩
        go_wp2_with fail
        refine (leave_nil _).mono ?_
        rintro r w5 ⟨rfl, f5⟩
        go_wp2_with fail
        refine (waiting_nil _).mono ?_
        rintro r w6 ⟨rfl, rfl⟩
        go_wp2_with fail
        refine (HFL.out _).mono ?_
        rintro r w7 ⟨rfl, rfl⟩
        go_wp2_with fail
        refine (HAG.out _).mono ?_
        rintro r w8 ⟨rfl, rfl⟩
        go_wp2_with fail
        refine (HSP.out _).mono ?_
        rintro r w9 ⟨rfl, f9⟩
        go_wp2
        go_ret
        exact ⟨by simp, (f4.seq' f5).seq' f9⟩
      · have d1 : decide (a < 1) = false := by simp; omega
        have d5 : decide (a < 0) = false := by simp; omega
        have d6 : decide (6 < a) = false := by simp; omega
        have d2 : decide (1099511627776 < a) = false := by simp; omega
        have d3 : decide (b < 1) = false := by simp; omega
        have d4 : decide (1099511627776 < b) = true := by simp; omega
        rw [show (if (rng a && rng b) = true then (5 : Int) else 1) = 1 from if_neg (by simp [rng]; omega)] at HWA
        rw [show (if ndB a = true then (7 : Int) else 1) = 7 from if_pos (by simp [ndB, inB]; omega)] at HAG
        clear ha hb
        go_enter Try.func7, Try.ntmps7
        go_wp2_with fail
        refine (HRD.out _).mono ?_
        rintro r w1 ⟨rfl, rfl⟩
        go_wp2_with fail
        refine (HWA.out _).mono ?_
        rintro r w2 ⟨rfl, rfl⟩
        go_wp2_with fail
        refine (HSTT.out _).mono ?_
        rintro r w3 ⟨rfl, rfl⟩
        go_wp2_with fail
        refine (HSE.out _).mono ?_
        rintro r w4 ⟨rfl, f4⟩
        go_wp2_with fail
        refine (leave_nil _).mono ?_
        rintro r w5 ⟨rfl, f5⟩
        go_wp2_with fail
        refine (waiting_nil _).mono ?_
        rintro r w6 ⟨rfl, rfl⟩
        go_wp2_with fail
        refine (HFL.out _).mono ?_
        rintro r w7 ⟨rfl, rfl⟩
        go_wp2_with fail
        refine (HAG.out _).mono ?_
        rintro r w8 ⟨rfl, rfl⟩
        go_wp2_with fail
        refine (HSP.out _).mono ?_
        rintro r w9 ⟨rfl, f9⟩
        go_wp2
        go_ret
        exact ⟨by simp, (f4.seq' f5).seq' f9⟩
      · have d1 : decide (a < 1) = false := by simp; omega
        have d5 : decide (a < 0) = false := by simp; omega
        have d6 : decide (6 < a) = false := by simp; omega
        have d2 : decide (1099511627776 < a) = false := by simp; omega
        have d3 : decide (b < 1) = false := by simp; omega
        have d4 : decide (1099511627776 < b) = false := by simp; omega
        rw [show (if (rng a && rng b) = true then (5 : Int) else 1) = 5 from if_pos (by simp [rng]; omega)] at HWA
        rw [show (if ndB a = true then (7 : Int) else 1) = 7 from if_pos (by simp [ndB, inB]; omega)] at HAG
        clear ha hb
        go_enter Try.func7, Try.ntmps7
        go_wp2_with fail
        refine (HRD.out _).mono ?_
        rintro r w1 ⟨rfl, rfl⟩
        go_wp2_with fail
        refine (HWA.out _).mono ?_
        rintro r w2 ⟨rfl, rfl⟩
        go_wp2_with fail
        refine (HSTT.out _).mono ?_
        rintro r w3 ⟨rfl, rfl⟩
        go_wp2_with fail
        refine (HSE.out _).mono ?_
        rintro r w4 ⟨rfl, f4⟩
        go_wp2_with fail
        refine (leave_nil _).mono ?_
        rintro r w5 ⟨rfl, f5⟩
        go_wp2_with fail
        refine (waiting_nil _).mono ?_
        rintro r w6 ⟨rfl, rfl⟩
        go_wp2_with fail
        refine (HFL.out _).mono ?_
        rintro r w7 ⟨rfl, rfl⟩
        go_wp2_with fail
        refine (HAG.out _).mono ?_
        rintro r w8 ⟨rfl, rfl⟩
        go_wp2_with fail
        refine (HSP.out _).mono ?_
        rintro r w9 ⟨rfl, f9⟩
        go_wp2
        go_ret
        exact ⟨by simp, (f4.seq' f5).seq' f9⟩
    · rcases (by omega : b < 1 ∨ 1099511627776 < b ∨ (1 ≤ b ∧ b ≤ 1099511627776)) with hb | hb | hb
      · have d1 : decide (a < 1) = false := by simp; omega
        have d5 : decide (a < 0) = false := by simp; omega
        have d6 : decide (6 < a) = true := by simp; omega
        have d2 : decide (1099511627776 < a) = false := by simp; omega
        have d3 : decide (b < 1) = true := by simp; omega
        have d4 : decide (1099511627776 < b) = false := by simp; omega
        rw [show (if (rng a && rng b) = true then (5 : Int) else 1) = 1 from if_neg (by simp [rng]; omega)] at HWA
        rw [show (if ndB a = true then (7 : Int) else 1) = 1 from if_neg (by simp [ndB, inB]; omega)] at HAG
        clear ha hb
        go_enter Try.func7, Try.ntmps7
        go_wp2_with fail
        refine (HRD.out _).mono ?_
        rintro r w1 ⟨rfl, rfl⟩
        go_wp2_with fail
        refine (HWA.out _).mono ?_
        rintro r w2 ⟨rfl, rfl⟩
        go_wp2_with fail
        refine (HSTT.out _).mono ?_
        rintro r w3 ⟨rfl, rfl⟩
        go_wp2_with fail
        refine (HSE.out _).mono ?_
        rintro r w4 ⟨rfl, f4⟩
        go_wp2_with fail
        refine (leave_nil _).mono ?_
        rintro r w5 ⟨rfl, f5⟩
        go_wp2_with fail
        refine (waiting_nil _).mono ?_
        rintro r w6 ⟨rfl, rfl⟩
        go_wp2_with fail
        refine (HFL.out _).mono ?_
        rintro r w7 ⟨rfl, rfl⟩
        go_wp2_with fail
        refine (HAG.out _).mono ?_
        rintro r w8 ⟨rfl, rfl⟩
        go_wp2_with fail
        refine (HSP.out _).mono ?_
        rintro r w9 ⟨rfl, f9⟩
        go_wp2
        go_ret
        exact ⟨by simp, (f4.seq' f5).seq' f9⟩
      · have d1 : decide (a < 1) = false := by simp; omega
        have d5 : decide (a < 0) = false := by simp; omega
        have d6 : decide (6 < a) = true := by simp; omega
        have d2 : decide (1099511627776 < a) = false := by simp; omega
        have d3 : decide (b < 1) = false := by simp; omega
        have d4 : decide (1099511627776 < b) = true := by simp; omega
        rw [show (if (rng a && rng b) = true then (5 : Int) else 1) = 1 from if_neg (by simp [rng]; omega)] at HWA
        rw [show (if ndB a = true then (7 : Int) else 1) = 1 from if_neg (by simp [ndB, inB]; omega)] at HAG
        clear ha hb
        go_enter Try.func7, Try.ntmps7
        go_wp2_with fail
        refine (HRD.out _).mono ?_
        rintro r w1 ⟨rfl, rfl⟩
        go_wp2_with fail
        refine (HWA.out _).mono ?_
        rintro r w2 ⟨rfl, rfl⟩
        go_wp2_with fail
        refine (HSTT.out _).mono ?_
        rintro r w3 ⟨rfl, rfl⟩
        go_wp2_with fail
        refine (HSE.out _).mono ?_
        rintro r w4 ⟨rfl, f4⟩
        go_wp2_with fail
        refine (leave_nil _).mono ?_
        rintro r w5 ⟨rfl, f5⟩
        go_wp2_with fail
        refine (waiting_nil _).mono ?_
        rintro r w6 ⟨rfl, rfl⟩
        go_wp2_with fail
        refine (HFL.out _).mono ?_
        rintro r w7 ⟨rfl, rfl⟩
        go_wp2_with fail
        refine (HAG.out _).mono ?_
        rintro r w8 ⟨rfl, rfl⟩
        go_wp2_with fail
        refine (HSP.out _).mono ?_
        rintro r w9 ⟨rfl, f9⟩
        go_wp2
        go_ret
        exact ⟨by simp, (f4.seq' f5).seq' f9⟩
      · have d1 : decide (a < 1) = false := by simp; omega
        have d5 : decide (a < 0) = false := by simp; omega
        have d6 : decide (6 < a) = true := by simp; omega
        have d2 : decide (1099511627776 < a) = false := by simp; omega
        have d3 : decide (b < 1) = false := by simp; omega
        have d4 : decide (1099511627776 < b) = false := by simp; omega
        rw [show (if (rng a && rng b) = true then (5 : Int) else 1) = 5 from if_pos (by simp [rng]; omega)] at HWA
        rw [show (if ndB a = true then (7 : Int) else 1) = 1 from if_neg (by simp [ndB, inB]; omega)] at HAG
        clear ha hb
        go_enter Try.func7, Try.ntmps7
        go_wp2_with fail
        refine (HRD.out _).mono ?_
        rintro r w1 ⟨rfl, rfl⟩
        go_wp2_with fail
        refine (HWA.out _).mono ?_
        rintro r w2 ⟨rfl, rfl⟩
        go_wp2_with fail
        refine (HSTT.out _).mono ?_
        rintro r w3 ⟨rfl, rfl⟩
        go_wp2_with fail
        refine (HSE.out _).mono ?_
        rintro r w4 ⟨rfl, f4⟩
        go_wp2_with fail
        refine (leave_nil _).mono ?_
        rintro r w5 ⟨rfl, f5⟩
        go_wp2_with fail
        refine (waiting_nil _).mono ?_
        rintro r w6 ⟨rfl, rfl⟩
        go_wp2_with fail
        refine (HFL.out _).mono ?_
        rintro r w7 ⟨rfl, rfl⟩
        go_wp2_with fail
        refine (HAG.out _).mono ?_
        rintro r w8 ⟨rfl, rfl⟩
        go_wp2_with fail
        refine (HSP.out _).mono ?_
        rintro r w9 ⟨rfl, f9⟩
        go_wp2
        go_ret
        exact ⟨by simp, (f4.seq' f5).seq' f9⟩

set_option maxRecDepth 100000 in
theorem lifted (os : Os) (started : os.Started) (H : Type) (enc : TypeId × Value → H) :
    ReturnsInHanded {} Try.checked os 7 .any (Rows.sessionNilSpec.pre6 enc Try.prog Try.f7 Rows.sessionNilRow.domain false) (Rows.sessionNilSpec.post enc Try.prog Try.f7 false true false false) := by
  refine returnsInHanded_of_change_sized (C := Try.checked) own started (by kernel_rfl) Try.func7
    (ChangeSpec.witness6 (enc := enc) (C := Try.checked) false ⟨#[], #[.int .i64 0, .int .i64 0], []⟩ 8 (by kernel_rfl) (by kernel_rfl) (by kernel_rfl) (by kernel_rfl)) ?_
  intro W base args ds gs before hval0 hW hcnd hsz0 _
  have hsz : (DataW.weightsEach Try.prog (Try.f7.params.toList ++ Rows.sessionNilSpec.plain.varTypes Try.prog) (ds ++ gs)).all (· ≤ reachBytes) = true := hsz0
  clear hsz0
  have hval : ∀ (j : Nat) t v, Try.f7.params[j]? = some t → args[j]? = some v → Value.okWide Try.prog W .any base t v := hval0
  have hW' := hW
  obtain ⟨p, q, hA0, hV, rfl, hfz, hnd⟩ := hW
  have hA : DataW.TrodAll enc Try.prog W 0 (fun _ => true) true Try.f7.params.toList args.toList ds p := hA0
  rw [Try.params7] at hA hval hsz
  obtain ⟨v0, vs0, d0, ds0, p0, q0, hargs, rfl, rfl, h0, r0⟩ := trodAll_cons hA
  obtain ⟨v1, vs1, d1, ds1, p1, q1, rfl, rfl, rfl, h1, r1⟩ := trodAll_cons r0
  obtain ⟨rfl, rfl, rfl⟩ := trodAll_nil r1
  obtain rfl : args = #[v0, v1] := by cases args; simp_all
  obtain ⟨rfl, rfl⟩ := trodVars_none hV
  obtain ⟨a0, rfl, rfl, rfl, w0⟩ := open_int Try.underlying3 (hval 0 3 v0 rfl rfl) h0
  obtain ⟨a1, rfl, rfl, rfl, w1⟩ := open_int Try.underlying3 (hval 1 3 v1 rfl rfl) h1
  clear hA0 hval0
  refine (walk W a0 w0 a1 w1).mono fun e W' ⟨he, fr⟩ => ?_
  have bel : Below W.heap.size W W' := fr.below (Nat.le_refl _) (fun _ f => f.elim)
  subst he
  exact ⟨_, rfl, _, _, _, [], _, [], hW', trodAll_mk1 (shut_bool Try.underlying4 _), (trodAll_cons_mk (shut_int Try.underlying3 w0) (trodAll_cons_mk (shut_int Try.underlying3 w1) trodAll_mk0)), rfl, bel.frame _, fun h => by cases h⟩

theorem proved : Rows.SessionNilSaid :=
  OpenClaim.holds_of_wide 7 Try.f7 rfl rfl rfl rfl rfl rfl rfl ⟨rfl, rfl, rfl, rfl, rfl⟩ rfl rfl rfl rfl rfl (by kernel_rfl) Try.func7 (by kernel_rfl)
    (of_decide_eq_true (by kernel_rfl)) (by unfold Func.isWrapper; first | (rw [if_pos (by decide +kernel)]; kernel_rfl) | (rw [if_neg (by decide +kernel)]; exact ⟨rfl, rfl⟩))
    (fun os started H enc _ => lifted os started H enc)
end Go.Proofs.Ytfmjefmocenkbaa.sessionNil
namespace Go.Proofs.Ytfmjefmocenkbaa
theorem sessionNil_holds : Rows.SessionNilSaid := sessionNil.proved
#print axioms sessionNil_holds
end Go.Proofs.Ytfmjefmocenkbaa
