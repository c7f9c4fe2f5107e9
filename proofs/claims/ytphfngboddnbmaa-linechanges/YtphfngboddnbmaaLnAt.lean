
/- What At, Fork and Newer tell. -/
import Derived.Test.YtphfngboddnbmaaLnRef
import Derived.Test.YtphfngboddnbmaaLnUp
namespace Go.Proofs.Ytphfngboddnbmaa
open Go.RowKit
open Go.Proofs.Ytphfngboddnbmaa.Ln

def rcE (ms : List Mk) (last x : Int) : Int := if linB ms last then (if 0 ≤ x ∧ x ≤ last then 0 else 6) else 4
def atN (ms : List Mk) (last x : Int) : Int := if linB ms last then (if 0 ≤ x ∧ x ≤ last then epF ms x else 0) else 0
theorem rcE_no {ms : List Mk} {last x : Int} (h : linB ms last = false) : rcE ms last x = 4 ∧ atN ms last x = 0 := by unfold rcE atN; rw [h]; exact ⟨rfl, rfl⟩
theorem rcE_out {ms : List Mk} {last x : Int} (h : linB ms last = true) (hx : ¬ (0 ≤ x ∧ x ≤ last)) : rcE ms last x = 6 ∧ atN ms last x = 0 := by unfold rcE atN; rw [h, if_neg hx, if_neg hx]; exact ⟨rfl, rfl⟩
theorem rcE_in {ms : List Mk} {last x : Int} (h : linB ms last = true) (hx : 0 ≤ x ∧ x ≤ last) : rcE ms last x = 0 ∧ atN ms last x = epF ms x := by unfold rcE atN; rw [h, if_pos hx, if_pos hx]; exact ⟨rfl, rfl⟩
set_option maxRecDepth 100000 in
set_option maxHeartbeats 4000000 in
theorem reaches_any (a : Option Addr) (n c : Nat) (ms : List Mk) (last x : Int) (hn : n = ms.length) (w : World) (h : Mks w a c ms) : Calls Try.prog 23 #[.agg #[.slice a n c, .int .i64 last], .int .i64 x] w fun e w' => e = .returned (.int .i64 (rcE ms last x)) ∧ Fr (fun _ => False) w w' := by
  subst hn
  have F1 : Fr (fun _ => False) w (w.alloc (.cells #[.slice a ms.length c, .int .i64 last] 24)) := Fr.box _ _
  have hck := check_any a ms.length c ms last rfl _ (h.same F1)
  have HT : Hid (Two (w.alloc (.cells #[.slice a ms.length c, .int .i64 last] 24)) w.heap.size 24 (.slice a ms.length c) (.int .i64 last)) := Two.new w _ _ _
  clear h
  cases cl : linB ms last
  · rw [ckE_no cl] at hck
    have HR : Hid (rcE ms last x = 4) := (rcE_no cl).1
    clear cl
    go_enter Try.func23, Try.ntmps23
    go_wp2_with fail
    refine hck.mono ?_
    rintro e w1 ⟨rfl, f1⟩
    go_wp2
    go_ret
    exact ⟨ret_int HR.out.symm, F1.seq' f1⟩
  · rw [ckE_yes cl] at hck
    by_cases h0 : 0 ≤ x
    · have d0 : decide (x < 0) = false := decide_eq_false (by omega)
      by_cases h1 : x ≤ last
      · have d1 : decide (last < x) = false := decide_eq_false (by omega)
        have HR : Hid (rcE ms last x = 0) := (rcE_in cl ⟨h0, h1⟩).1
        clear cl
        go_enter Try.func23, Try.ntmps23
        go_wp2_with fail
        refine hck.mono ?_
        rintro e w1 ⟨rfl, f1⟩
        obtain ⟨x0, x1, _⟩ := (HT.out.fr f1 (fun f => f)).cells
        go_wp2
        go_ret
        exact ⟨ret_int HR.out.symm, F1.seq' f1⟩
      · have d1 : decide (last < x) = true := decide_eq_true (by omega)
        have HR : Hid (rcE ms last x = 6) := (rcE_out cl (fun h => h1 h.2)).1
        clear cl h1
        go_enter Try.func23, Try.ntmps23
        go_wp2_with fail
        refine hck.mono ?_
        rintro e w1 ⟨rfl, f1⟩
        obtain ⟨x0, x1, _⟩ := (HT.out.fr f1 (fun f => f)).cells
        go_wp2
        go_ret
        exact ⟨ret_int HR.out.symm, F1.seq' f1⟩
    · have d0 : decide (x < 0) = true := decide_eq_true (by omega)
      have HR : Hid (rcE ms last x = 6) := (rcE_out cl (fun h => h0 h.1)).1
      clear cl h0
      go_enter Try.func23, Try.ntmps23
      go_wp2_with fail
      refine hck.mono ?_
      rintro e w1 ⟨rfl, f1⟩
      go_wp2
      go_ret
      exact ⟨ret_int HR.out.symm, F1.seq' f1⟩
theorem ret_two {k k' : IntKind} {a b c d : Int} (h : a = b) (h' : c = d) : Ending.returned (.tuple #[.int k a, .int k' c]) = .returned (.tuple #[.int k b, .int k' d]) := by rw [h, h']
theorem ret_bi {k' : IntKind} {a b : Bool} {c d : Int} (h : a = b) (h' : c = d) : Ending.returned (.tuple #[.bool a, .int k' c]) = .returned (.tuple #[.bool b, .int k' d]) := by rw [h, h']
set_option maxRecDepth 100000 in
set_option maxHeartbeats 4000000 in
theorem at_any (a : Option Addr) (n c : Nat) (ms : List Mk) (last x : Int) (hn : n = ms.length) (w : World) (h : Mks w a c ms) : Calls Try.prog 7 #[.agg #[.slice a n c, .int .i64 last], .int .i64 x] w fun e w' => e = .returned (.tuple #[.int .i64 (atN ms last x), .int .i64 (rcE ms last x)]) ∧ Fr (fun _ => False) w w' := by
  subst hn
  have F1 : Fr (fun _ => False) w (w.alloc (.cells #[.slice a ms.length c, .int .i64 last] 24)) := Fr.box _ _
  have hrc := reaches_any a ms.length c ms last x rfl _ (h.same F1)
  have HT : Hid (Two (w.alloc (.cells #[.slice a ms.length c, .int .i64 last] 24)) w.heap.size 24 (.slice a ms.length c) (.int .i64 last)) := Two.new w _ _ _
  have no : ∀ E, rcE ms last x = E → atN ms last x = 0 → (E != 0) = true → Calls Try.prog 7 #[.agg #[.slice a ms.length c, .int .i64 last], .int .i64 x] w fun e w' => e = .returned (.tuple #[.int .i64 (atN ms last x), .int .i64 (rcE ms last x)]) ∧ Fr (fun _ => False) w w' := by
    intro E hE hA hb
    rw [hE] at hrc ⊢
    rw [hA]
    clear hE hA h
    go_enter Try.func7, Try.ntmps7
    go_wp2_with fail
    refine hrc.mono ?_
    rintro e w1 ⟨rfl, f1⟩
    go_wp2
    go_ret2
    exact ⟨rfl, F1.seq' f1⟩
  cases cl : linB ms last
  · exact no 4 (rcE_no cl).1 (rcE_no cl).2 rfl
  · by_cases hx : 0 ≤ x ∧ x ≤ last
    · have hep := fun W (f : Fr (fun _ => False) w W) => epochAt_any a ms.length c ms last x rfl (linB_right cl) hx.1 (by have := (linB_right cl).last1; omega) W (h.same f)
      rw [(rcE_in cl hx).1] at hrc ⊢
      rw [(rcE_in cl hx).2]
      clear no cl hx h
      go_enter Try.func7, Try.ntmps7
      go_wp2_with fail
      refine hrc.mono ?_
      rintro e w1 ⟨rfl, f1⟩
      obtain ⟨x0, x1, _⟩ := (HT.out.fr f1 (fun f => f)).cells
      have F2 := F1.seq' f1
      go_wp2_with fail
      refine (hep _ F2).mono ?_
      rintro e w2 ⟨rfl, f2⟩
      go_wp2
      go_ret2
      exact ⟨rfl, F2.seq' f2⟩
    · exact no 6 (rcE_out cl hx).1 (rcE_out cl hx).2 rfl
set_option maxRecDepth 100000 in
set_option maxHeartbeats 4000000 in
theorem rat_any (a : Option Addr) (n c : Nat) (ms : List Mk) (last x : Int) (hn : n = ms.length) (w : World) (h : Mks w a c ms) : Calls Try.prog 8 #[.agg #[.slice a n c, .int .i64 last], .int .i64 x] w fun e w' => e = .returned (.tuple #[.int .i64 (atN ms last x), .int .i64 (rcE ms last x)]) ∧ Fr (fun _ => False) w w' := by
  subst hn
  have F1 : Fr (fun _ => False) w (w.alloc (.cells #[.slice a ms.length c, .int .i64 last] 30)) := Fr.box _ _
  have hck := rright_any a ms.length c ms last rfl _ (h.same F1)
  have HT : Hid (Two (w.alloc (.cells #[.slice a ms.length c, .int .i64 last] 30)) w.heap.size 30 (.slice a ms.length c) (.int .i64 last)) := Two.new w _ _ _
  have hep := fun W (f : Fr (fun _ => False) w W) => repoch_any a ms.length c ms last x rfl W (h.same f)
  clear h
  cases cl : linB ms last
  · rw [cl] at hck
    rw [(rcE_no cl).1, (rcE_no cl).2]
    clear cl
    go_enter Try.func8, Try.ntmps8
    go_wp2_with fail
    refine hck.mono ?_
    rintro e w1 ⟨rfl, f1⟩
    go_wp2
    go_ret2
    exact ⟨rfl, F1.seq' f1⟩
  · rw [cl] at hck
    by_cases h0 : 0 ≤ x
    · have d0 : decide (x < 0) = false := decide_eq_false (by omega)
      by_cases h1 : x ≤ last
      · have d1 : decide (last < x) = false := decide_eq_false (by omega)
        rw [(rcE_in cl ⟨h0, h1⟩).1, (rcE_in cl ⟨h0, h1⟩).2]
        clear cl
        go_enter Try.func8, Try.ntmps8
        go_wp2_with fail
        refine hck.mono ?_
        rintro e w1 ⟨rfl, f1⟩
        obtain ⟨x0, x1, _⟩ := (HT.out.fr f1 (fun f => f)).cells
        have F2 := F1.seq' f1
        go_wp2_with fail
        refine (hep _ F2).mono ?_
        rintro e w2 ⟨rfl, f2⟩
        go_wp2
        go_ret2
        exact ⟨rfl, F2.seq' f2⟩
      · have d1 : decide (last < x) = true := decide_eq_true (by omega)
        rw [(rcE_out cl (fun h => h1 h.2)).1, (rcE_out cl (fun h => h1 h.2)).2]
        clear cl h1
        go_enter Try.func8, Try.ntmps8
        go_wp2_with fail
        refine hck.mono ?_
        rintro e w1 ⟨rfl, f1⟩
        obtain ⟨x0, x1, _⟩ := (HT.out.fr f1 (fun f => f)).cells
        go_wp2
        go_ret2
        exact ⟨rfl, F1.seq' f1⟩
    · have d0 : decide (x < 0) = true := decide_eq_true (by omega)
      rw [(rcE_out cl (fun h => h0 h.1)).1, (rcE_out cl (fun h => h0 h.1)).2]
      clear cl h0
      go_enter Try.func8, Try.ntmps8
      go_wp2_with fail
      refine hck.mono ?_
      rintro e w1 ⟨rfl, f1⟩
      go_wp2
      go_ret2
      exact ⟨rfl, F1.seq' f1⟩
end Go.Proofs.Ytphfngboddnbmaa
