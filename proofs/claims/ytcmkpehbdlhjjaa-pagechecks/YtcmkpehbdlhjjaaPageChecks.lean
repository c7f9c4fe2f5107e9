
/- PageChecks, for every node: page.Check tells whether it is right, and page.Size how large it is, as the document own Check and Size do, and the call answers true; no condition. -/
import Derived.Test.YtcmkpehbdlhjjaaArgs
import Derived.Test.YtcmkpehbdlhjjaaPgSpeak
import Derived.Test.YtcmkpehbdlhjjaaPgRef3
import Derived.Test.YtcmkpehbdlhjjaaPgArg
namespace Go.Proofs.Ytcmkpehbdlhjjaa.pageChecks
open Go.ChangeShapes Go.WideShapes Go.ChangeAt Go.RowKit
open Go.ChangeMaps (open_string shut_string)
set_option linter.unusedVariables false

theorem own : ownKnob Try.prog.godebug = none := by kernel_rfl
theorem laidOut : laidOutB Try.prog = true := by kernel_rfl
theorem bytes8 : Try.prog.bytesOf 5 = 1 := by kernel_rfl


set_option maxRecDepth 100000 in
set_option maxHeartbeats 2000000 in
theorem walk (w : World) (n0' : Nd) (np0 : Pt) (nd0 : Nod w n0' np0) :
    Calls Try.prog 3 #[(.agg #[.int .i64 n0'.lev, .int .i64 n0'.lsn, .int .i64 n0'.rgt, .string n0'.high, .slice np0.k n0'.keys.length np0.kc, .slice np0.v n0'.vals.length np0.vc, .slice np0.i n0'.kids.length np0.ic])] w fun e w' => e = .returned (.bool true) ∧ Fr (fun _ => False) w w' := by
  have f0 := Fr.box w (.cells #[.int .i64 n0'.lev, .int .i64 n0'.lsn, .int .i64 n0'.rgt, .string n0'.high, .slice np0.k n0'.keys.length np0.kc, .slice np0.v n0'.vals.length np0.vc, .slice np0.i n0'.kids.length np0.ic] 25)
  have HB : Hid (∀ W, Fr (fun _ => False) (w.alloc (.cells #[.int .i64 n0'.lev, .int .i64 n0'.lsn, .int .i64 n0'.rgt, .string n0'.high, .slice np0.k n0'.keys.length np0.kc, .slice np0.v n0'.vals.length np0.vc, .slice np0.i n0'.kids.length np0.ic] 25)) W → W.cell? ⟨w.heap.size, 0, none⟩ = some (.int .i64 n0'.lev) ∧ W.cell? ⟨w.heap.size, 1, none⟩ = some (.int .i64 n0'.lsn) ∧ W.cell? ⟨w.heap.size, 2, none⟩ = some (.int .i64 n0'.rgt) ∧ W.cell? ⟨w.heap.size, 3, none⟩ = some (.string n0'.high) ∧ W.cell? ⟨w.heap.size, 4, none⟩ = some (.slice np0.k n0'.keys.length np0.kc) ∧ W.cell? ⟨w.heap.size, 5, none⟩ = some (.slice np0.v n0'.vals.length np0.vc) ∧ W.cell? ⟨w.heap.size, 6, none⟩ = some (.slice np0.i n0'.kids.length np0.ic)) := fun W f => box_cells (box_at w n0' np0 25 f)
  have fr0 := (Fr.refl (fun _ => False) (w.alloc (.cells #[.int .i64 n0'.lev, .int .i64 n0'.lsn, .int .i64 n0'.rgt, .string n0'.high, .slice np0.k n0'.keys.length np0.kc, .slice np0.v n0'.vals.length np0.vc, .slice np0.i n0'.kids.length np0.ic] 25))).drew
  have q0 := HB.out _ fr0
  have hN := nd0.same (f0.seq' fr0)
  go_enter Try.func3, Try.ntmps3
  go_wp2_with fail
  go_region_held3 (fun W => W.cell? ⟨w.heap.size, 0, none⟩ = some (.int .i64 n0'.lev) ∧ W.cell? ⟨w.heap.size, 1, none⟩ = some (.int .i64 n0'.lsn) ∧ W.cell? ⟨w.heap.size, 2, none⟩ = some (.int .i64 n0'.rgt) ∧ W.cell? ⟨w.heap.size, 3, none⟩ = some (.string n0'.high) ∧ W.cell? ⟨w.heap.size, 4, none⟩ = some (.slice np0.k n0'.keys.length np0.kc) ∧ W.cell? ⟨w.heap.size, 5, none⟩ = some (.slice np0.v n0'.vals.length np0.vc) ∧ W.cell? ⟨w.heap.size, 6, none⟩ = some (.slice np0.i n0'.kids.length np0.ic))
    (first | with_reducible exact q0 | with_reducible exact q1 | with_reducible exact q2 | with_reducible exact q3 | with_reducible exact q4 | with_reducible exact q5)
    (first
      | (go_at_call 9; refine (check_any n0' np0 _ hN).mono ?_; rintro e w1 ⟨rfl, m1⟩; have fr1 := fr0.seq' m1; have q1 := HB.out _ fr1; have hN1 := nd0.same (f0.seq' fr1))
      | (go_at_call 10; refine (rcheckN_any n0' np0 _ hN1).mono ?_; rintro e w2 ⟨rfl, m2⟩; have fr2 := fr1.seq' m2; have q2 := HB.out _ fr2; have hN2 := nd0.same (f0.seq' fr2))
      | (go_at_call 11; refine (size_any n0' np0 _ hN2).mono ?_; rintro e w3 ⟨rfl, m3⟩; have fr3 := fr2.seq' m3; have q3 := HB.out _ fr3; have hN3 := nd0.same (f0.seq' fr3))
      | (go_at_call 12; refine (rsize_any n0' np0 _ hN3).mono ?_; rintro e w4 ⟨rfl, m4⟩; have fr4 := fr3.seq' m4; have q4 := HB.out _ fr4)
      | (go_at_call 13; refine (pspeaks_any _).mono ?_; rintro e w5 ⟨rfl, m5⟩; have fr5 := fr4.seq' m5; have q5 := HB.out _ fr5))
  go_wp2
  go_ret
  exact ⟨rfl, f0.seq' fr5⟩

set_option maxRecDepth 100000 in
theorem lifted (os : Os) (started : os.Started) (H : Type) (enc : TypeId × Value → H) :
    ReturnsInHanded {} Try.checked os 3 .any (Rows.pageChecksSpec.pre6 enc Try.prog Try.f3 Rows.pageChecksRow.domain false) (Rows.pageChecksSpec.post enc Try.prog Try.f3 false true false false) := by
  refine returnsInHanded_of_change_sized (C := Try.checked) own started (by kernel_rfl) Try.func3
    (ChangeSpec.witness6 (enc := enc) (C := Try.checked) false ⟨#[], #[.agg #[.int .i64 0, .int .i64 0, .int .i64 0, .string ByteArray.empty, .slice none 0 0, .slice none 0 0, .slice none 0 0]], []⟩ 8 (by kernel_rfl) (by kernel_rfl) (by kernel_rfl) (by kernel_rfl)) ?_
  intro W base args ds gs before hval0 hW hcnd hsz0 _
  have hsz : (DataW.weightsEach Try.prog (Try.f3.params.toList ++ Rows.pageChecksSpec.plain.varTypes Try.prog) (ds ++ gs)).all (· ≤ reachBytes) = true := hsz0
  clear hsz0
  have hval : ∀ (j : Nat) t v, Try.f3.params[j]? = some t → args[j]? = some v → Value.okWide Try.prog W .any base t v := hval0
  have hW' := hW
  obtain ⟨p, q, hA0, hV, rfl, hfz, hnd⟩ := hW
  have hA : DataW.TrodAll enc Try.prog W 0 (fun _ => true) true Try.f3.params.toList args.toList ds p := hA0
  rw [Try.params3] at hA hval hsz
  obtain ⟨v0, vs0, d0, ds0, p0, q0, hargs, rfl, rfl, h0, r0⟩ := trodAll_cons hA
  obtain ⟨rfl, rfl, rfl⟩ := trodAll_nil r0
  obtain rfl : args = #[v0] := by cases args; simp_all
  obtain ⟨rfl, rfl⟩ := trodVars_none hV
  have k0 := h0
  have lt0 : ∀ x ∈ p0, x.block < W.heap.size := by obtain ⟨m, hm⟩ := k0; exact DataW.trod_lt m _ _ _ hm
  obtain ⟨n0, np0, rfl, nd0⟩ := node_open (hval 0 25 v0 rfl rfl) h0 (fun z hz => by simpa using List.all_eq_true.1 hsz z (DataW.weights_mem_each (j := 0) rfl rfl z hz))
  clear hA0 hval0
  refine (walk W n0 np0 nd0).mono fun e W' ⟨he, fr⟩ => ?_
  have bel : Below W.heap.size W W' := fr.below (Nat.le_refl _) (fun _ f => f.elim)
  subst he
  exact ⟨_, rfl, _, _, _, [], _, [], hW', trodAll_mk1 (shut_bool Try.underlying4 _), (trodAll_cons_mk (Below.trod laidOut (by kernel_rfl) (of_decide_eq_true (by kernel_rfl)) k0 bel lt0) trodAll_mk0), rfl, bel.frame _, fun h => by cases h⟩

theorem proved : Rows.PageChecksSaid :=
  OpenClaim.holds_of_wide 3 Try.f3 rfl rfl rfl rfl rfl rfl rfl ⟨rfl, rfl, rfl, rfl, rfl⟩ rfl rfl rfl rfl rfl (by kernel_rfl) Try.func3 (by kernel_rfl)
    (of_decide_eq_true (by kernel_rfl)) (by unfold Func.isWrapper; first | (rw [if_pos (by decide +kernel)]; kernel_rfl) | (rw [if_neg (by decide +kernel)]; exact ⟨rfl, rfl⟩))
    (fun os started H enc _ => lifted os started H enc)
end Go.Proofs.Ytcmkpehbdlhjjaa.pageChecks
namespace Go.Proofs.Ytcmkpehbdlhjjaa
theorem pageChecks_holds : Rows.PageChecksSaid := pageChecks.proved
#print axioms pageChecks_holds
end Go.Proofs.Ytcmkpehbdlhjjaa
