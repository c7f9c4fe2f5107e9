
/- Marks that are the same. -/
import Derived.Test.YtphfngboddnbmaaLnRGro
import Derived.Test.YtphfngboddnbmaaLnSpk
namespace Go.Proofs.Ytphfngboddnbmaa
open Go.RowKit
open Go.Proofs.Ytphfngboddnbmaa.Ln

theorem neq_mk (x y : Int) (w : World) : (binOp .neq 53 (.agg #[.int .i64 x, .int .i64 y]) (.agg #[.int .i64 x, .int .i64 y])).run Try.prog w = .ok (.bool false) w := by
  have hf : Try.prog.stoodInHeld 53 = false := by kernel_rfl
  have hu : Try.prog.underlying 53 = some (.struct (Try.prog.fieldsOf 53)) := by kernel_rfl
  rw [run_neq_struct, run_equalIn_struct _ _ _ _ _ hu hf]
  simp [Op.eqFields, go_sem]
set_option maxRecDepth 100000 in
set_option maxHeartbeats 4000000 in
theorem plain_marks (a a' : Option Addr) (n n' c c' : Nat) (ms : List Mk) (hn : n = ms.length) (hn' : n' = ms.length) (w : World) (h : Mks w a c ms) (h' : Mks w a' c' ms) : Calls Try.prog 22 #[.slice a n c, .slice a' n' c'] w fun e w' => e = .returned (.bool true) ∧ Fr (fun _ => False) w w' := by
  subst hn
  subst hn'
  have hle := h.le
  have hmx := h.max
  have hle' := h'.le
  have hmx' := h'.max
  have HS : Hid (∀ W, Fr (fun _ => False) w W → Mks W a c ms) := fun W f => h.same f
  have HS' : Hid (∀ W, Fr (fun _ => False) w W → Mks W a' c' ms) := fun W f => h'.same f
  clear h h'
  go_enter Try.func22, Try.ntmps22
  go_wp2
  go_loopw [13] (fun i wr => ∃ (k : Nat), k ≤ ms.length ∧ i = .int .i64 k ∧ Hid (Fr (fun _ => False) w wr)) (fun i _ => ms.length - (intOf i).toNat)
  case atStart => exact ⟨0, by omega, rfl, Fr.refl _ _⟩
  case round =>
    obtain ⟨k, hk, rfl, HF⟩ := hrel
    by_cases hlt : k < ms.length
    · obtain ⟨m, hm⟩ : ∃ m, ms[k]? = some m := ⟨_, List.getElem?_eq_getElem hlt⟩
      obtain ⟨b, off, rfl, hb, hc⟩ := (HS.out _ HF.out).some (by omega)
      obtain ⟨b', off', rfl, hb', hc'⟩ := (HS'.out _ HF.out).some (by omega)
      obtain ⟨q0, q1⟩ := mk_range (hc k m hm)
      obtain ⟨p0, p1⟩ := mk_range (hc' k m hm)
      have hki : (k : Int) < (ms.length : Int) := by omega
      have hne := neq_mk m.1 m.2
      clear hm hc hc'
      go_wp2_with fail
      go_quiet (fail)
      go_wp2
      go_roundw
      case rel => exact ⟨k + 1, by omega, by go_num, Fr.drewN HF.out _⟩
      case measure => simp [intOf]; omega
    · have hki : decide ((k : Int) < (ms.length : Int)) = false := decide_eq_false (by omega)
      go_wp2
      go_ret
      exact ⟨rfl, HF.out⟩
set_option maxRecDepth 100000 in
set_option maxHeartbeats 4000000 in
theorem same_any (a a' : Option Addr) (n n' c c' : Nat) (ms : List Mk) (last : Int) (hn : n = ms.length) (hn' : n' = ms.length) (w : World) (h : Mks w a c ms) (h' : Mks w a' c' ms) : Calls Try.prog 21 #[.agg #[.slice a n c, .int .i64 last], .agg #[.slice a' n' c', .int .i64 last]] w fun e w' => e = .returned (.bool true) ∧ Fr (fun _ => False) w w' := by
  subst hn
  subst hn'
  have f1 : Fr (fun _ => False) w ((w.alloc (.cells #[.slice a ms.length c, .int .i64 last] 24)).alloc (.cells #[.slice a' ms.length c', .int .i64 last] 30)) := (Fr.box _ _).alloc _
  have T1 : Two ((w.alloc (.cells #[.slice a ms.length c, .int .i64 last] 24)).alloc (.cells #[.slice a' ms.length c', .int .i64 last] 30)) w.heap.size 24 (.slice a ms.length c) (.int .i64 last) := (Two.new w _ _ _).fr (Fr.box _ _) (fun f => f)
  have T2 := Two.new (w.alloc (.cells #[.slice a ms.length c, .int .i64 last] 24)) 30 (.slice a' ms.length c') (.int .i64 last)
  rw [World.size_alloc] at T2
  obtain ⟨x0, x1, _⟩ := T1.cells
  obtain ⟨y0, y1, _⟩ := T2.cells
  have hp := plain_marks a a' _ _ c c' ms rfl rfl _ (h.same f1) (h'.same f1)
  generalize ms.length = n at *
  clear h h' T1 T2
  go_enter Try.func21, Try.ntmps21
  go_wp2_with fail
  refine hp.mono ?_
  rintro e w2 ⟨rfl, f2⟩
  go_wp2
  go_ret
  exact ⟨rfl, f1.seq' f2⟩
end Go.Proofs.Ytphfngboddnbmaa
