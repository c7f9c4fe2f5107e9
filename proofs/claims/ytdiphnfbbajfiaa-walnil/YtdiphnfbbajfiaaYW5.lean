
/- WlNil. -/
import Derived.Test.YtdiphnfbbajfiaaYW1
/- What a nil log does. -/
namespace Go.Proofs.Ytdiphnfbbajfiaa
open Go.RowKit Crcm

set_option maxRecDepth 100000 in
set_option maxHeartbeats 400000 in
theorem reaches_nil (n : Int) (w : World) : Calls Try.prog 52 #[.pointer none, .int .i64 n] w fun e w' => e = .returned (.bool (n == 0)) ∧ w' = w := by
  by_cases h0 : 0 ≤ n
  · go_enter Try.func52, Try.ntmps52
    go_wp2_with (go_at_call 49; refine (next_nil _).mono ?_; rintro e w' ⟨rfl, rfl⟩)
    all_goals go_ret
    all_goals refine ⟨ret_bool ?_, rfl⟩
    all_goals (rw [Bool.eq_iff_iff]; simp; try omega)
  · have hf : (n == 0) = false := by rw [beq_eq_false_iff_ne]; omega
    rw [hf]
    go_enter Try.func52, Try.ntmps52
    go_wp2_with (go_at_call 49; refine (next_nil _).mono ?_; rintro e w' ⟨rfl, rfl⟩)
    go_ret
    exact ⟨rfl, rfl⟩
set_option maxRecDepth 100000 in
set_option maxHeartbeats 400000 in
theorem flushed_nil (w : World) : Calls Try.prog 25 #[.pointer none] w fun e w' => e = .returned (.int .i64 0) ∧ w' = w := by
  go_enter Try.func25, Try.ntmps25
  go_wp2
  go_ret
  exact ⟨rfl, rfl⟩
set_option maxRecDepth 100000 in
set_option maxHeartbeats 400000 in
theorem cut_nil (n : Int) (w : World) : Calls Try.prog 27 #[.pointer none, .int .i64 n] w fun e w' => e = .returned (.int .i64 (if n = 0 then 0 else 1)) ∧ w' = w := by
  by_cases h0 : n = 0
  · subst h0
    go_enter Try.func27, Try.ntmps27
    go_wp2_with (go_at_call 52; refine (reaches_nil _ _).mono ?_; rintro e w' ⟨rfl, rfl⟩)
    go_ret
    exact ⟨rfl, rfl⟩
  · rw [if_neg h0]
    have hb : (n == 0) = false := by simpa using h0
    go_enter Try.func27, Try.ntmps27
    go_wp2_with (go_at_call 52; refine (reaches_nil _ _).mono ?_; rintro e w' ⟨rfl, rfl⟩)
    go_ret
    exact ⟨rfl, rfl⟩
set_option maxRecDepth 100000 in
set_option maxHeartbeats 400000 in
theorem flush_nil (n : Int) (w : World) : Calls Try.prog 30 #[.pointer none, .int .i64 n] w fun e w' => e = .returned (.int .i64 (if n = 0 then 0 else 1)) ∧ w' = w := by
  by_cases h0 : n = 0
  · subst h0
    go_enter Try.func30, Try.ntmps30
    go_wp2_with (go_at_call 52; refine (reaches_nil _ _).mono ?_; rintro e w' ⟨rfl, rfl⟩)
    go_ret
    exact ⟨rfl, rfl⟩
  · rw [if_neg h0]
    have hb : (n == 0) = false := by simpa using h0
    go_enter Try.func30, Try.ntmps30
    go_wp2_with (go_at_call 52; refine (reaches_nil _ _).mono ?_; rintro e w' ⟨rfl, rfl⟩)
    go_ret
    exact ⟨rfl, rfl⟩
set_option maxRecDepth 100000 in
set_option maxHeartbeats 1000000 in
theorem get_nil (n : Int) (w : World) : Calls Try.prog 29 #[.pointer none, .int .i64 n] w fun e w' => e = .returned (.tuple #[.agg #[.int .i64 0, .int .i64 0, .int .i64 0, .int .i64 0, .int .i64 0, .int .i64 0, .string ⟨#[]⟩, .string ⟨#[]⟩], .int .i64 6]) ∧ Fr (fun _ => False) w w' := by
  have fr := Fr.refl (fun _ => False) (w.alloc (.cells #[.int .i64 0, .int .i64 0, .int .i64 0, .int .i64 0, .int .i64 0, .int .i64 0, .string ⟨#[]⟩, .string ⟨#[]⟩] 23))
  obtain ⟨⟨z0, z1, z2, z3, z4, z5, z6, z7⟩, zz⟩ := rec_cells (rec_at w _ _ fr)
  have x0 := zz 0; have x1 := zz 1; have x2 := zz 2; have x3 := zz 3; have x4 := zz 4; have x5 := zz 5; have x6 := zz 6; have x7 := zz 7
  clear zz
  by_cases h0 : n = 0
  · subst h0
    go_enter Try.func29, Try.ntmps29
    go_wp2_with (go_at_call 52; refine (reaches_nil _ _).mono ?_; rintro e w' ⟨rfl, rfl⟩)
    exact bodyPost_ret (v := .tuple #[.agg #[.int .i64 0, .int .i64 0, .int .i64 0, .int .i64 0, .int .i64 0, .int .i64 0, .string ⟨#[]⟩, .string ⟨#[]⟩], .int .i64 6]) (by simp [results, Try.results29, go_sem, z0, z1, z2, z3, z4, z5, z6, z7]) rfl ⟨rfl, Fr.box w _⟩
  · have hb : (n == 0) = false := by simpa using h0
    clear h0
    go_enter Try.func29, Try.ntmps29
    go_wp2_with (go_at_call 52; refine (reaches_nil _ _).mono ?_; rintro e w' ⟨rfl, rfl⟩)
    exact bodyPost_ret (v := .tuple #[.agg #[.int .i64 0, .int .i64 0, .int .i64 0, .int .i64 0, .int .i64 0, .int .i64 0, .string ⟨#[]⟩, .string ⟨#[]⟩], .int .i64 6]) (by simp [results, Try.results29, go_sem, z0, z1, z2, z3, z4, z5, z6, z7]) rfl ⟨rfl, Fr.box w _⟩
set_option maxRecDepth 100000 in
set_option maxHeartbeats 400000 in
theorem clone_nil (w : World) : Calls Try.prog 53 #[.slice none 0 0] w fun e w' => e = .returned (.slice none 0 0) ∧ w' = w := by
  have hn := fun W => Lib.run_eql_slice_nil (P := Try.prog) W
  go_enter Try.func53, Try.ntmps53
  go_wp2
  go_ret
  exact ⟨rfl, rfl⟩
set_option maxRecDepth 100000 in
set_option maxHeartbeats 1000000 in
theorem from_nil (n : Int) (hb : -9223372036854775808 ≤ n ∧ n ≤ 9223372036854775807) (w : World) : Calls Try.prog 24 #[.pointer none, .int .i64 n, .int .i64 9] w fun e w' => e = .returned (.slice none 0 0) ∧ w' = w := by
  by_cases h1 : n ≤ 1
  · have e1 : max n 1 = 1 := by omega
    go_enter Try.func24, Try.ntmps24
    go_wp2_with (first | (go_at_call 52; refine (reaches_nil _ _).mono ?_; rintro e w' ⟨rfl, rfl⟩) | (go_at_call 51; refine (all_nil _).mono ?_; rintro e w' ⟨rfl, rfl⟩) | (go_at_call 53; refine (clone_nil _).mono ?_; rintro e w' ⟨rfl, rfl⟩))
    all_goals go_ret
    all_goals exact ⟨rfl, rfl⟩
  · have e1 : max n 1 = n := by omega
    have e2 : IntKind.i64.wrap (n - 1) = n - 1 := by simp [IntKind.wrap, IntKind.bits, IntKind.signed]; omega
    have e3 : (n - 1 == 0) = false := by rw [beq_eq_false_iff_ne]; omega
    go_enter Try.func24, Try.ntmps24
    go_wp2_with (first | (go_at_call 52; refine (reaches_nil _ _).mono ?_; rintro e w' ⟨rfl, rfl⟩) | (go_at_call 51; refine (all_nil _).mono ?_; rintro e w' ⟨rfl, rfl⟩))
    all_goals go_ret
    all_goals exact ⟨rfl, rfl⟩
set_option maxRecDepth 100000 in
set_option maxHeartbeats 1000000 in
theorem append_wnil (r : Rec) (w : World) : Calls Try.prog 19 #[.pointer none, (.agg #[.int .i64 r.lsn, .int .i64 r.ep, .int .i64 r.kind, .int .i64 r.page, .int .i64 r.other, .int .i64 r.req, .string r.key, .string r.val])] w fun e w' => e = .returned (.tuple #[.int .i64 0, .int .i64 (if rok (nx [] r) = true then (if r.ep < 0 then 100 else 5) else 90)]) ∧ Fr (fun _ => False) w w' := by
  have f0 := Fr.box w (.cells #[.int .i64 r.lsn, .int .i64 r.ep, .int .i64 r.kind, .int .i64 r.page, .int .i64 r.other, .int .i64 r.req, .string r.key, .string r.val] 23)
  obtain ⟨rn, hrn⟩ : ∃ rn, rn = nx [] r := ⟨_, rfl⟩
  obtain ⟨W1, hW1⟩ : ∃ W, W = w.alloc (.cells #[.int .i64 1, .int .i64 r.ep, .int .i64 r.kind, .int .i64 r.page, .int .i64 r.other, .int .i64 r.req, .string r.key, .string r.val] 23) := ⟨_, rfl⟩
  have HW1 : Hid (w.alloc (.cells #[.int .i64 1, .int .i64 r.ep, .int .i64 r.kind, .int .i64 r.page, .int .i64 r.other, .int .i64 r.req, .string r.key, .string r.val] 23) = W1) := hW1.symm
  have F1 : Fr (fun _ => False) w W1 := by rw [hW1]; exact Fr.box w _
  have HB : Hid (∀ W, Fr (fun _ => False) W1 W → (W.cell? ⟨w.heap.size, 0, none⟩ = some (.int .i64 rn.lsn) ∧ W.cell? ⟨w.heap.size, 1, none⟩ = some (.int .i64 rn.ep) ∧ W.cell? ⟨w.heap.size, 2, none⟩ = some (.int .i64 rn.kind) ∧ W.cell? ⟨w.heap.size, 3, none⟩ = some (.int .i64 rn.page) ∧ W.cell? ⟨w.heap.size, 4, none⟩ = some (.int .i64 rn.other) ∧ W.cell? ⟨w.heap.size, 5, none⟩ = some (.int .i64 rn.req) ∧ W.cell? ⟨w.heap.size, 6, none⟩ = some (.string rn.key) ∧ W.cell? ⟨w.heap.size, 7, none⟩ = some (.string rn.val))) := fun W f => by
    rw [hW1] at f
    rw [hrn]
    exact (rec_cells (rec_at w _ _ f)).1
  have hck := rec_check rn W1
  have HRV : Hid ((Value.agg #[.int .i64 rn.lsn, .int .i64 rn.ep, .int .i64 rn.kind, .int .i64 rn.page, .int .i64 rn.other, .int .i64 rn.req, .string rn.key, .string rn.val]) = .agg #[.int .i64 1, .int .i64 r.ep, .int .i64 r.kind, .int .i64 r.page, .int .i64 r.other, .int .i64 r.req, .string r.key, .string r.val]) := by show _ = _; rw [hrn]; rfl
  have HEP : Hid (r.ep = rn.ep) := by show _ = _; rw [hrn]; rfl
  obtain ⟨X, hX⟩ : ∃ X : Int, X = if rok (nx [] r) = true then (if r.ep < 0 then 100 else 5) else 90 := ⟨_, rfl⟩
  rw [← hX]
  rw [← hrn, HEP.out] at hX
  clear hW1 hrn
  by_cases hok : rok rn = true
  · have HE : Hid (erec rn = 0) := erec_yes hok
    rw [HE.out] at hck
    rw [if_pos hok] at hX
    have hrf := fun W => refusal_nil rn W
    rw [← hX] at hrf
    have heb : (X != 0) = true := by rw [hX]; split <;> decide
    clear hX hok
    go_enter Try.func19, Try.ntmps19
    go_wp2_with fail
    refine (next_nil _).mono ?_
    rintro e w' ⟨rfl, rfl⟩
    go_wp2_with fail
    rw [HW1.out, ← HRV.out]
    refine hck.mono ?_
    rintro e w2 ⟨rfl, f2⟩
    obtain ⟨c0, c1, c2, c3, c4, c5, c6, c7⟩ := HB.out _ f2
    go_wp2_with fail
    refine (hrf _).mono ?_
    rintro e w3 ⟨rfl, f3⟩
    go_wp2
    go_ret2
    exact ⟨rfl, F1.seq' (f2.seq' f3)⟩
  · have hokf : rok rn = false := by simpa using hok
    have HE : Hid (erec rn = 90) := erec_no hokf
    rw [HE.out] at hck
    rw [if_neg hok] at hX
    subst hX
    clear hok hokf
    go_enter Try.func19, Try.ntmps19
    go_wp2_with fail
    refine (next_nil _).mono ?_
    rintro e w' ⟨rfl, rfl⟩
    go_wp2_with fail
    rw [HW1.out, ← HRV.out]
    refine hck.mono ?_
    rintro e w2 ⟨rfl, f2⟩
    go_wp2
    go_ret2
    exact ⟨rfl, F1.seq' f2⟩
end Go.Proofs.Ytdiphnfbbajfiaa
