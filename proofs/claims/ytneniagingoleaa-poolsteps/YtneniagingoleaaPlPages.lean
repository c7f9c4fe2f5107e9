
/- A nil pool's Pages: the library's maps.Keys, slices.Collect and slices.SortFunc at a nil map. -/
import Derived.Test.YtneniagingoleaaPlNil
import Derived.Shelf.SlIterI.Nil
namespace Go.Proofs.Ytneniagingoleaa
open Go.Shelf Go.RowKit Go.Maps Go.Sort

def renK : Ren := ⟨fun k => if k = 7 then 32 else if k = 8 then 43 else if k = 10 then 45 else if k = 11 then 47 else 0, fun k => if k = 0 then 0 else if k = 3 then 66 else if k = 4 then 4 else if k = 23 then 52 else if k = 24 then 37 else if k = 26 then 3 else if k = 27 then 70 else if k = 28 then 71 else if k = 33 then 81 else 0, fun g => g⟩
theorem laysK : SlLaysZI.n7 Try.prog renK := {
  mixed := by kernel_rfl
  f7 := ⟨Try.f32.name, by kernel_rfl, Try.func32.trans (congrArg some (by kernel_rfl))⟩
  f10 := ⟨Try.f45.name, by kernel_rfl, Try.func45.trans (congrArg some (by kernel_rfl))⟩
  t0 := Try.underlying0
  a0 := Try.isAgg0
  z0 := Try.sizeOf0
  v0 := Try.zeroValue0
  t4 := Try.underlying4
  a4 := Try.isAgg4
  z4 := Try.sizeOf4
  v4 := Try.zeroValue4
  t23 := Try.underlying52
  a23 := Try.isAgg52
  z23 := Try.sizeOf52
  v23 := Try.zeroValue52
  t26 := Try.underlying3
  a26 := Try.isAgg3
  z26 := Try.sizeOf3
  v26 := Try.zeroValue3
  t27 := Try.underlying70
  a27 := Try.isAgg70
  z27 := Try.sizeOf70
  v27 := Try.zeroValue70
  t28 := Try.underlying71
  a28 := Try.isAgg71
  z28 := Try.sizeOf71
  v28 := Try.zeroValue71
  t33 := Try.underlying81
  a33 := Try.isAgg81
  z33 := Try.sizeOf81
  v33 := Try.zeroValue81 }
theorem laysC : SlLaysZI.n8 Try.prog renK := {
  mixed := by kernel_rfl
  f8 := ⟨Try.f43.name, by kernel_rfl, Try.func43.trans (congrArg some (by kernel_rfl))⟩
  f11 := ⟨Try.f47.name, by kernel_rfl, Try.func47.trans (congrArg some (by kernel_rfl))⟩
  t0 := Try.underlying0
  a0 := Try.isAgg0
  z0 := Try.sizeOf0
  v0 := Try.zeroValue0
  t24 := Try.underlying37
  a24 := Try.isAgg37
  z24 := Try.sizeOf37
  v24 := Try.zeroValue37
  t26 := Try.underlying3
  a26 := Try.isAgg3
  z26 := Try.sizeOf3
  v26 := Try.zeroValue3
  t28 := Try.underlying71
  a28 := Try.isAgg71
  z28 := Try.sizeOf71
  v28 := Try.zeroValue71
  i26 := by kernel_rfl }

section
variable (w : World)
theorem keys_n : Calls Try.prog 32 #[.map none] w fun e w' => e = .returned (.func (.func 45) #[] #[.pointer (some ⟨w.heap.size, 0, none⟩)]) ∧ w' = w.alloc (.cells #[.map none] 52) :=
  callsIn_wide.1 (AnyZI.keys_in laysK Fence.wide 1 trivial rfl none w)
theorem collect_n (B : Nat) (hB : B < w.heap.size) (hc : w.cell? ⟨B, 0, none⟩ = some (.map none)) : Calls Try.prog 43 #[.func (.func 45) #[] #[.pointer (some ⟨B, 0, none⟩)]] w fun e w' => e = .returned (.slice none 0 0) ∧ Fr (fun _ => False) w w' := by
  refine (callsIn_wide.1 (AnyZI.collect_in laysC Fence.wide 3 trivial trivial rfl (by omega) 45 #[.pointer (some ⟨B, 0, none⟩)] trivial (laysK.f10.enters rfl) (fun ss => ss = []) 0 (by decide) (by decide) w (AnyZI.keys_gives_nil { laysK with } Fence.wide _ trivial rfl B w hB hc))).mono ?_
  rintro e w' ⟨v, ss, rfl, hS, _, hnil, hb⟩
  exact ⟨by rw [hnil.2 hS], Fr.of_below hb (fun k hk _ => hk)⟩
theorem ins_n (c : Value) : Calls Try.prog 50 #[.slice none 0 0, .int .i64 0, .int .i64 0, c] w fun e w' => e = .returned (.tuple #[]) ∧ Fr (fun _ => False) w w' := by
  go_enter Try.func50, Try.ntmps50
  go_wp2
  refine wp_loop_rounds 1 ?_
  rw [rounds_succ]
  go_wp2
  go_end0
  exact ⟨rfl, Fr.refl _ w⟩
set_option maxRecDepth 20000 in
theorem len64_n : Calls Try.prog 59 #[.int .u64 0] w fun e w' => e = .returned (.int .i64 0) ∧ Fr (fun _ => False) w w' := by
  go_enter Try.func59, Try.ntmps59
  go_wp2
  go_ret
  refine ⟨?_, Fr.refl _ w⟩
  simp [go_sem]
  kernel_rfl
theorem len_n : Calls Try.prog 49 #[.int .u64 0] w fun e w' => e = .returned (.int .i64 0) ∧ Fr (fun _ => False) w w' := by
  have hl := len64_n w
  go_enter Try.func49, Try.ntmps49
  go_wp2_with (go_at_call 59; refine hl.mono ?_; rintro e w' ⟨rfl, f1⟩)
  go_ret
  exact ⟨rfl, f1⟩
set_option maxRecDepth 100000 in
set_option maxHeartbeats 1000000 in
theorem pdq_n (c : Value) : Calls Try.prog 48 #[.slice none 0 0, .int .i64 0, .int .i64 0, .int .i64 0, c] w fun e w' => e = .returned (.tuple #[]) ∧ Fr (fun _ => False) w w' := by
  have hi := ins_n w c
  go_enter Try.func48, Try.ntmps48
  go_wp2
  refine wp_loop_rounds 1 ?_
  rw [rounds_succ]
  go_wp2_with (go_at_call 50; refine hi.mono ?_; rintro e w' ⟨rfl, f1⟩)
  refine bodyPost_ret (results_none rfl _ _ _) rfl ?_
  exact ⟨rfl, f1⟩
theorem sort_n (c : Value) : Calls Try.prog 44 #[.slice none 0 0, c] w fun e w' => e = .returned (.tuple #[]) ∧ Fr (fun _ => False) w w' := by
  have hl := len_n w
  go_enter Try.func44, Try.ntmps44
  go_wp2_with (go_at_call 49; refine hl.mono ?_; rintro e w1 ⟨rfl, f1⟩)
  refine (pdq_n w1 c).mono ?_
  rintro e w2 ⟨rfl, f2⟩
  go_wp2
  go_end0
  exact ⟨rfl, f1.seq' f2⟩
theorem sorted_n (c : Value) (B : Nat) (hB : B < w.heap.size) (hc : w.cell? ⟨B, 0, none⟩ = some (.map none)) : Calls Try.prog 31 #[.func (.func 45) #[] #[.pointer (some ⟨B, 0, none⟩)], c] w fun e w' => e = .returned (.slice none 0 0) ∧ Fr (fun _ => False) w w' := by
  have hl := collect_n w B hB hc
  go_enter Try.func31, Try.ntmps31
  go_wp2_with (go_at_call 43; refine hl.mono ?_; rintro e w1 ⟨rfl, f1⟩)
  refine (sort_n w1 c).mono ?_
  rintro e w2 ⟨rfl, f2⟩
  go_wp2
  go_ret
  exact ⟨rfl, f1.seq' f2⟩
theorem one_cell_n {w : World} {b : Nat} {t : TypeId} {c : Value} (h : w.heap[b]? = some (.cells #[c] t (0, 0))) : w.cell? ⟨b, 0, none⟩ = some c := by simp [World.cell?, h]
theorem pages_n : Calls Try.prog 14 #[.pointer none] w fun e w' => e = .returned (.slice none 0 0) ∧ Fr (fun _ => False) w w' := by
  have hal := all_n w
  go_enter Try.func14, Try.ntmps14
  go_wp2_with (first
      | (go_at_call 29; refine hal.mono ?_; rintro e w' ⟨rfl, rfl⟩)
      | (go_at_call 32; refine (keys_n _).mono ?_; rintro e w' ⟨rfl, rfl⟩))
  have h2 : ((w.alloc (.cells #[.map none] 52)).alloc (.cells #[.map none] 52)).heap[w.heap.size + 1]? = some (.cells #[.map none] 52 (0, 0)) := by
    have := heap_alloc_new (w.alloc (.cells #[.map none] 52)) (.cells #[.map none] 52)
    simpa using this
  refine (sorted_n _ _ (w.heap.size + 1) (lt_of_block h2) (one_cell_n h2)).mono ?_
  rintro e w' ⟨rfl, f1⟩
  go_wp2
  go_ret
  exact ⟨rfl, ((Fr.box w _).alloc _).seq' f1⟩

