
/- What a nil pool's calls tell, but for Pages. -/
import Derived.Test.YtneniagingoleaaPlSpeak
import Derived.Laws.IdiomRangeMap
namespace Go.Proofs.Ytneniagingoleaa
open Go.RowKit

section
variable (w : World)
theorem look_n2 (x : Int) (hx : wfK x) (W : World) : (Instr.lookup 52 (.map none) (.int .i64 x) true).run Try.prog W = .ok (.tuple #[.agg #[.int .i64 0, .int .i64 0, .int .i64 0, .int .i64 0], .bool false]) W :=
  Maps.look_nil true keyed3 Try.underlying52 (zeroH W) (key3 hx)
theorem look_n1 (x : Int) (hx : wfK x) (W : World) : (Instr.lookup 52 (.map none) (.int .i64 x) false).run Try.prog W = .ok (.agg #[.int .i64 0, .int .i64 0, .int .i64 0, .int .i64 0]) W :=
  Maps.look_nil false keyed3 Try.underlying52 (zeroH W) (key3 hx)
theorem all_n : Calls Try.prog 29 #[.pointer none] w fun e w' => e = .returned (.map none) ∧ w = w' := (all_nil w).mono (fun _ _ h => ⟨h.1, h.2.symm⟩)
set_option maxRecDepth 100000 in
set_option maxHeartbeats 1000000 in
theorem idle_n : Calls Try.prog 37 #[.pointer none] w fun e w' => e = .returned (.int .i64 0) ∧ Fr (fun _ => False) w w' := by
  have hal := all_n w
  have hrg := run_range_nilMap (P := Try.prog) w 52 3 66 Try.underlying52
  have hnx : ∀ ty, (Instr.next (.pointer (some ⟨w.heap.size, 0, none⟩)) false ty).run Try.prog (w.alloc (.mapIter none 0 #[] 0)) = _ := fun ty => run_next_nilMap w ty 0 0 #[]
  go_enter Try.func37, Try.ntmps37
  go_wp2_with (go_at_call 29; refine hal.mono ?_; rintro e w' ⟨rfl, rfl⟩)
  refine wp_loop_rounds 1 ?_
  rw [rounds_succ]
  go_wp2
  go_ret
  exact ⟨rfl, Fr.box w _⟩
set_option maxRecDepth 100000 in
set_option maxHeartbeats 1000000 in
theorem oldest_n : Calls Try.prog 11 #[.pointer none] w fun e w' => e = .returned (.tuple #[.int .i64 0, .bool false]) ∧ Fr (fun _ => False) w w' := by
  have hal := all_n w
  have hrg := run_range_nilMap (P := Try.prog) w 52 3 66 Try.underlying52
  have hnx : ∀ ty, (Instr.next (.pointer (some ⟨w.heap.size, 0, none⟩)) false ty).run Try.prog (w.alloc (.mapIter none 0 #[] 0)) = _ := fun ty => run_next_nilMap w ty 0 0 #[]
  go_enter Try.func11, Try.ntmps11
  go_wp2_with (go_at_call 29; refine hal.mono ?_; rintro e w' ⟨rfl, rfl⟩)
  refine wp_loop_rounds 1 ?_
  rw [rounds_succ]
  go_wp2
  go_ret2
  exact ⟨rfl, Fr.box w _⟩
def nilG (x : Int) : Int := if 1 ≤ x ∧ x ≤ 4096 then 5 else 1
set_option maxRecDepth 100000 in
set_option maxHeartbeats 1000000 in
theorem get_n (x : Int) (hx : wfK x) : Calls Try.prog 18 #[.pointer none, .int .i64 x] w fun e w' => e = .returned (.tuple #[.agg #[.bool false, .bool false, .int .i64 0, .int .i64 0], .int .i64 (nilG x)]) ∧ Fr (fun _ => False) w w' := by
  have hwi := within_at x 1 4096 (w.alloc (.cells #[.bool false, .bool false, .int .i64 0, .int .i64 0] 43))
  by_cases hx12 : 1 ≤ x ∧ x ≤ 4096
  · rw [decide_eq_true hx12] at hwi
    have e1 : nilG x = 5 := if_pos hx12
    rw [e1]
    have hal := all_n (w.alloc (.cells #[.bool false, .bool false, .int .i64 0, .int .i64 0] 43))
    have hlk := look_n2 x hx (w.alloc (.cells #[.bool false, .bool false, .int .i64 0, .int .i64 0] 43))
    have F2 : Fr (fun _ => False) w (((w.alloc (.cells #[.bool false, .bool false, .int .i64 0, .int .i64 0] 43)).alloc (.cells #[.int .i64 0, .int .i64 0, .int .i64 0, .int .i64 0] 66)).alloc (.cells #[.bool false, .bool false, .int .i64 0, .int .i64 0] 43)) := ((Fr.box w _).alloc _).alloc _
    have hA : (((w.alloc (.cells #[.bool false, .bool false, .int .i64 0, .int .i64 0] 43)).alloc (.cells #[.int .i64 0, .int .i64 0, .int .i64 0, .int .i64 0] 66)).alloc (.cells #[.bool false, .bool false, .int .i64 0, .int .i64 0] 43)).heap[w.heap.size]? = some (.cells #[.bool false, .bool false, .int .i64 0, .int .i64 0] 43 (0, 0)) := (Fr.box _ _).keep ((Fr.box _ _).keep (heap_alloc_new w _) (fun f => f)) (fun f => f)
    have hem := empty_nil (((w.alloc (.cells #[.bool false, .bool false, .int .i64 0, .int .i64 0] 43)).alloc (.cells #[.int .i64 0, .int .i64 0, .int .i64 0, .int .i64 0] 66)).alloc (.cells #[.bool false, .bool false, .int .i64 0, .int .i64 0] 43))
    obtain ⟨A, hAd⟩ : ∃ A, A = w.heap.size := ⟨_, rfl⟩
    have HAW : Hid (w.heap.size = A) := hAd.symm
    rw [← hAd] at hA
    clear hx12 e1 hAd
    go_enter Try.func18, Try.ntmps18
    go_wp2_with (first
      | (go_at_call 23; refine hwi.mono ?_; rintro e w' ⟨rfl, rfl⟩)
      | (go_at_call 29; refine hal.mono ?_; rintro e w' ⟨rfl, rfl⟩)
      | (go_at_call 36; refine hem.mono ?_; rintro e w3 ⟨rfl, f3⟩))
    refine (idle_n _).mono ?_
    rintro e w4 ⟨rfl, f4⟩
    rw [HAW.out]
    have F4 := (F2.seq' f3).seq' f4
    have hA4 := f4.keep (f3.keep hA (fun f => f)) (fun f => f)
    obtain ⟨⟨a0, a1, a2, a3⟩, za⟩ := four_cells hA4
    have za0 := za 0; have za1 := za 1; have za2 := za 2; have za3 := za 3
    clear za hem hal hlk hwi F2 f3 f4 hA
    go_wp2
    obtain ⟨hq, ff⟩ := fin4 hA4 (.bool false) (.bool false) (.int .i64 0) (.int .i64 0)
    have Ff := F4.trans ff (S := fun _ => False) (fun i hi e => by have := HAW.out; omega)
    generalize (((w4.setCell ⟨A, 0, none⟩ (.bool false)).setCell ⟨A, 1, none⟩ (.bool false)).setCell ⟨A, 2, none⟩ (.int .i64 0)).setCell ⟨A, 3, none⟩ (.int .i64 0) = Wf at hq Ff ⊢
    obtain ⟨⟨q0, q1, q2, q3⟩, _⟩ := four_cells hq
    exact bodyPost_ret (v := .tuple #[.agg #[.bool false, .bool false, .int .i64 0, .int .i64 0], .int .i64 5]) (by simp [results, Try.results18, go_sem, q0, q1, q2, q3]) rfl ⟨rfl, Ff⟩
  · rw [decide_eq_false hx12] at hwi
    have e1 : nilG x = 1 := if_neg hx12
    rw [e1]
    clear hx12 e1
    go_enter Try.func18, Try.ntmps18
    go_wp2_with (go_at_call 23; refine hwi.mono ?_; rintro e w' ⟨rfl, rfl⟩)
    exact bodyPost_ret (v := .tuple #[.agg #[.bool false, .bool false, .int .i64 0, .int .i64 0], .int .i64 1]) (by simp [results, Try.results18, go_sem]) rfl ⟨rfl, Fr.box w _⟩
set_option maxRecDepth 100000 in
set_option maxHeartbeats 1000000 in
theorem clean_n (x : Int) (hx : wfK x) : Calls Try.prog 21 #[.pointer none, .int .i64 x] w fun e w' => e = .returned (.tuple #[.int .i64 0, .int .i64 6]) ∧ Fr (fun _ => False) w w' := by
  have hal := all_n w
  have hlk := look_n2 x hx w
  go_enter Try.func21, Try.ntmps21
  go_wp2_with (go_at_call 29; refine hal.mono ?_; rintro e w' ⟨rfl, rfl⟩)
  go_ret2
  exact ⟨rfl, Fr.box w _⟩
set_option maxRecDepth 100000 in
set_option maxHeartbeats 1000000 in
theorem pinned_n (x : Int) (hx : wfK x) : Calls Try.prog 39 #[.pointer none, .int .i64 x] w fun e w' => e = .returned (.tuple #[.agg #[.int .i64 0, .int .i64 0, .int .i64 0, .int .i64 0], .int .i64 6]) ∧ Fr (fun _ => False) w w' := by
  have hal := all_n (w.alloc (.cells #[.int .i64 0, .int .i64 0, .int .i64 0, .int .i64 0] 66))
  have hlk := look_n2 x hx (w.alloc (.cells #[.int .i64 0, .int .i64 0, .int .i64 0, .int .i64 0] 66))
  go_enter Try.func39, Try.ntmps39
  go_wp2_with (go_at_call 29; refine hal.mono ?_; rintro e w' ⟨rfl, rfl⟩)
  refine bodyPost_ret (v := .tuple #[.agg #[.int .i64 0, .int .i64 0, .int .i64 0, .int .i64 0], .int .i64 6]) (by simp [results, Try.results39, go_sem]) rfl ⟨rfl, ?_⟩
  repeat (first | exact Fr.refl _ _ | apply Fr.alloc)
set_option maxRecDepth 100000 in
set_option maxHeartbeats 1000000 in
theorem unpin_n (x : Int) (hx : wfK x) : Calls Try.prog 19 #[.pointer none, .int .i64 x] w fun e w' => e = .returned (.int .i64 6) ∧ Fr (fun _ => False) w w' := by
  go_enter Try.func19, Try.ntmps19
  go_wp2_with fail
  refine (pinned_n w x hx).mono ?_
  rintro e w1 ⟨rfl, f1⟩
  go_wp2
  go_ret
  exact ⟨rfl, f1.alloc _⟩
def nilD (l : Int) : Int := if 1 ≤ l ∧ l ≤ 1099511627776 then 6 else 1
set_option maxRecDepth 100000 in
set_option maxHeartbeats 1000000 in
theorem dirty_n (x l : Int) (hx : wfK x) : Calls Try.prog 20 #[.pointer none, .int .i64 x, .int .i64 l] w fun e w' => e = .returned (.int .i64 (nilD l)) ∧ Fr (fun _ => False) w w' := by
  have hwi := within_at l 1 1099511627776 w
  by_cases hl : 1 ≤ l ∧ l ≤ 1099511627776
  · rw [decide_eq_true hl] at hwi
    have e1 : nilD l = 6 := if_pos hl
    rw [e1]
    clear hl e1
    go_enter Try.func20, Try.ntmps20
    go_wp2_with (go_at_call 23; refine hwi.mono ?_; rintro e w' ⟨rfl, rfl⟩)
    refine (pinned_n w x hx).mono ?_
    rintro e w1 ⟨rfl, f1⟩
    go_wp2
    go_ret
    exact ⟨rfl, f1.alloc _⟩
  · rw [decide_eq_false hl] at hwi
    have e1 : nilD l = 1 := if_neg hl
    rw [e1]
    clear hl e1
    go_enter Try.func20, Try.ntmps20
    go_wp2_with (go_at_call 23; refine hwi.mono ?_; rintro e w' ⟨rfl, rfl⟩)
    go_ret
    exact ⟨rfl, Fr.refl _ _⟩
set_option maxRecDepth 100000 in
set_option maxHeartbeats 1000000 in
theorem pins_n (x : Int) (hx : wfK x) : Calls Try.prog 16 #[.pointer none, .int .i64 x] w fun e w' => e = .returned (.int .i64 0) ∧ w = w' := by
  have hal := all_n w
  have hlk := look_n1 x hx w
  have hfd := fun W => run_pins 0 0 0 0 W
  go_enter Try.func16, Try.ntmps16
  go_wp2_with (go_at_call 29; refine hal.mono ?_; rintro e w' ⟨rfl, rfl⟩)
  go_ret
  exact ⟨rfl, rfl⟩
end
end Go.Proofs.Ytneniagingoleaa
