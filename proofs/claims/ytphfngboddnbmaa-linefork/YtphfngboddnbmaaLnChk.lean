
/- What Check tells. -/
import Derived.Test.YtphfngboddnbmaaLnRis
namespace Go.Proofs.Ytphfngboddnbmaa
open Go.RowKit
open Go.Proofs.Ytphfngboddnbmaa.Ln

def ckE (ms : List Mk) (last : Int) : Int := if linB ms last then 0 else 4
theorem ckE_no {ms : List Mk} {last : Int} (h : linB ms last = false) : ckE ms last = 4 := by unfold ckE; rw [h]; rfl
theorem ckE_yes {ms : List Mk} {last : Int} (h : linB ms last = true) : ckE ms last = 0 := by unfold ckE; rw [h]; rfl
def lnV (a : Option Addr) (n c : Nat) (last : Int) : Value := .agg #[.slice a n c, .int .i64 last]
set_option maxRecDepth 100000 in
set_option maxHeartbeats 4000000 in
theorem check_any (a : Option Addr) (n c : Nat) (ms : List Mk) (last : Int) (hn : n = ms.length) (w : World) (h : Mks w a c ms) : Calls Try.prog 14 #[.agg #[.slice a n c, .int .i64 last]] w fun e w' => e = .returned (.int .i64 (ckE ms last)) ∧ Fr (fun _ => False) w w' := by
  subst hn
  have hnum := fun W => isNumber_any last W
  have F1 : Fr (fun _ => False) w (w.alloc (.cells #[.slice a ms.length c, .int .i64 last] 24)) := Fr.box _ _
  have hris := rises_any a ms.length c ms last rfl _ (h.same F1)
  obtain ⟨x0, x1, _⟩ := (Two.new w 24 (.slice a ms.length c) (.int .i64 last)).cells
  have HL : Hid (linB ms last = (numB last && ((decide (last = 0) == decide (ms.length = 0)) && risB last (-1, 0) true ms))) := rfl
  have hle := h.le
  have hmx := h.max
  clear h
  obtain ⟨R, hR⟩ : ∃ R, R = risB last (-1, 0) true ms := ⟨_, rfl⟩
  rw [← hR] at hris HL
  clear hR
  cases cn : numB last
  · rw [cn] at hnum
    have HR : Hid (ckE ms last = 4) := ckE_no (by rw [HL.out, cn]; rfl)
    clear cn HL hris
    go_enter Try.func14, Try.ntmps14
    go_wp2_with fail
    refine (hnum _).mono ?_
    rintro e w2 ⟨rfl, rfl⟩
    go_wp2
    go_ret
    exact ⟨ret_int HR.out.symm, F1⟩
  · rw [cn] at hnum
    by_cases c1 : last = 0
    · have d1 : (last == 0) = true := by rw [c1]; rfl
      have HC1 : Hid (last = 0) := c1
      clear c1
      by_cases c2 : ms.length = 0
      · have d2 : ((ms.length : Int) == 0) = true := by rw [c2]; rfl
        have d3 : decide ((ms.length : Int) = 0) = true := by rw [c2]; rfl
        have HC2 : Hid (ms.length = 0) := c2
        clear c2
        cases R
        · have HR : Hid (ckE ms last = 4) := ckE_no (by rw [HL.out, cn, decide_eq_true HC1.out, decide_eq_true HC2.out]; rfl)
          clear cn HL
          go_enter Try.func14, Try.ntmps14
          go_wp2_with fail
          refine (hnum _).mono ?_
          rintro e w2 ⟨rfl, rfl⟩
          go_wp2_with fail
          refine hris.mono ?_
          rintro e w3 ⟨rfl, f3⟩
          go_wp2
          go_ret
          exact ⟨ret_int HR.out.symm, F1.seq' f3⟩
        · have HR : Hid (ckE ms last = 0) := ckE_yes (by rw [HL.out, cn, decide_eq_true HC1.out, decide_eq_true HC2.out]; rfl)
          clear cn HL
          go_enter Try.func14, Try.ntmps14
          go_wp2_with fail
          refine (hnum _).mono ?_
          rintro e w2 ⟨rfl, rfl⟩
          go_wp2_with fail
          refine hris.mono ?_
          rintro e w3 ⟨rfl, f3⟩
          go_wp2
          go_ret
          exact ⟨ret_int HR.out.symm, F1.seq' f3⟩
      · have d2 : ((ms.length : Int) == 0) = false := by rw [beq_eq_false_iff_ne]; omega
        have d3 : decide ((ms.length : Int) = 0) = false := by exact decide_eq_false (by omega)
        have HC2 : Hid (¬ ms.length = 0) := c2
        clear c2
        have HR : Hid (ckE ms last = 4) := ckE_no (by rw [HL.out, cn, decide_eq_true HC1.out, decide_eq_false HC2.out]; rfl)
        clear cn HL hris
        go_enter Try.func14, Try.ntmps14
        go_wp2_with fail
        refine (hnum _).mono ?_
        rintro e w2 ⟨rfl, rfl⟩
        go_wp2
        go_ret
        exact ⟨ret_int HR.out.symm, F1⟩
    · have d1 : (last == 0) = false := by rw [beq_eq_false_iff_ne]; exact c1
      have HC1 : Hid (¬ last = 0) := c1
      clear c1
      by_cases c2 : ms.length = 0
      · have d2 : ((ms.length : Int) == 0) = true := by rw [c2]; rfl
        have d3 : decide ((ms.length : Int) = 0) = true := by rw [c2]; rfl
        have HC2 : Hid (ms.length = 0) := c2
        clear c2
        have HR : Hid (ckE ms last = 4) := ckE_no (by rw [HL.out, cn, decide_eq_false HC1.out, decide_eq_true HC2.out]; rfl)
        clear cn HL hris
        go_enter Try.func14, Try.ntmps14
        go_wp2_with fail
        refine (hnum _).mono ?_
        rintro e w2 ⟨rfl, rfl⟩
        go_wp2
        go_ret
        exact ⟨ret_int HR.out.symm, F1⟩
      · have d2 : ((ms.length : Int) == 0) = false := by rw [beq_eq_false_iff_ne]; omega
        have d3 : decide ((ms.length : Int) = 0) = false := by exact decide_eq_false (by omega)
        have HC2 : Hid (¬ ms.length = 0) := c2
        clear c2
        cases R
        · have HR : Hid (ckE ms last = 4) := ckE_no (by rw [HL.out, cn, decide_eq_false HC1.out, decide_eq_false HC2.out]; rfl)
          clear cn HL
          go_enter Try.func14, Try.ntmps14
          go_wp2_with fail
          refine (hnum _).mono ?_
          rintro e w2 ⟨rfl, rfl⟩
          go_wp2_with fail
          refine hris.mono ?_
          rintro e w3 ⟨rfl, f3⟩
          go_wp2
          go_ret
          exact ⟨ret_int HR.out.symm, F1.seq' f3⟩
        · have HR : Hid (ckE ms last = 0) := ckE_yes (by rw [HL.out, cn, decide_eq_false HC1.out, decide_eq_false HC2.out]; rfl)
          clear cn HL
          go_enter Try.func14, Try.ntmps14
          go_wp2_with fail
          refine (hnum _).mono ?_
          rintro e w2 ⟨rfl, rfl⟩
          go_wp2_with fail
          refine hris.mono ?_
          rintro e w3 ⟨rfl, f3⟩
          go_wp2
          go_ret
          exact ⟨ret_int HR.out.symm, F1.seq' f3⟩
end Go.Proofs.Ytphfngboddnbmaa
