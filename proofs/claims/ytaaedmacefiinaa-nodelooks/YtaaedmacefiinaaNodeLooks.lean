
/- For every node and every text latticelaw07.NodeLooks answers true: Get, Kid and Further tell what the document says (7.1); no condition. -/
import Derived.Test.YtaaedmacefiinaaZN8
namespace Go.Proofs.Ytaaedmacefiinaa.nodeLooks
open Go.ChangeShapes Go.WideShapes Go.ChangeAt Go.RowKit
open Go.ChangeMaps (open_string shut_string)
set_option linter.unusedVariables false

theorem own : ownKnob Try.prog.godebug = none := by kernel_rfl
theorem laidOut : laidOutB Try.prog = true := by kernel_rfl
theorem bytes8 : Try.prog.bytesOf 5 = 1 := by kernel_rfl

set_option maxRecDepth 100000 in
set_option maxHeartbeats 4000000 in
theorem walk (w : World) (n : Nd) (p : Pt) (nd0 : Nod w n p) (k : ByteArray) (z1 : k.size ≤ 140737488351232) :
    Calls Try.prog 5 #[(.agg #[.int .i64 n.lev, .int .i64 n.lsn, .int .i64 n.rgt, .string n.high, .slice p.k n.keys.length p.kc, .slice p.v n.vals.length p.vc, .slice p.i n.kids.length p.ic]), .string k] w fun e w' => e = .returned (.bool true) ∧ Fr (fun _ => False) w w' := by
  have f0 := Fr.box w (.cells #[.int .i64 n.lev, .int .i64 n.lsn, .int .i64 n.rgt, .string n.high, .slice p.k n.keys.length p.kc, .slice p.v n.vals.length p.vc, .slice p.i n.kids.length p.ic] 25)
  have HB : Hid (∀ W, Fr (fun _ => False) (w.alloc (.cells #[.int .i64 n.lev, .int .i64 n.lsn, .int .i64 n.rgt, .string n.high, .slice p.k n.keys.length p.kc, .slice p.v n.vals.length p.vc, .slice p.i n.kids.length p.ic] 25)) W → W.cell? ⟨w.heap.size, 0, none⟩ = some (.int .i64 n.lev) ∧ W.cell? ⟨w.heap.size, 1, none⟩ = some (.int .i64 n.lsn) ∧ W.cell? ⟨w.heap.size, 2, none⟩ = some (.int .i64 n.rgt) ∧ W.cell? ⟨w.heap.size, 3, none⟩ = some (.string n.high) ∧ W.cell? ⟨w.heap.size, 4, none⟩ = some (.slice p.k n.keys.length p.kc) ∧ W.cell? ⟨w.heap.size, 5, none⟩ = some (.slice p.v n.vals.length p.vc) ∧ W.cell? ⟨w.heap.size, 6, none⟩ = some (.slice p.i n.kids.length p.ic)) := fun W f => box_cells (box_at w n p 25 f)
  have hk : k.size ≤ maxLen := Nat.le_trans z1 (by decide)
  have hh := high_le nd0
  have g1 := fun W hW => get_any n p k hk W hW
  have g2 := fun W hW => rget_any n p k hk W hW
  have g3 := fun W hW => kid_any n p k hk W hW
  have g4 := fun W hW => rkid_any n p k hk W hW
  have g5 := fun W => further_any n p k hh hk W
  have g6 := fun W => rfurther_any n p k hh hk W
  generalize getV n k = gv at *
  generalize getB n k = gb at *
  generalize askE n k 0 0 1 = ge at *
  generalize kidV n k = kv at *
  generalize askE n k 0 0 2 = ke at *
  generalize fthB n k = fb at *
  have hbe : (gv.toList == gv.toList) = true := by simp
  go_enter Try.func5, Try.ntmps5
  go_wp2_with fail
  refine (g1 _ (nd0.same f0)).mono ?_
  rintro e w1 ⟨rfl, f1⟩
  obtain ⟨c0, c1, c2, c3, c4, c5, c6⟩ := HB.out _ f1
  go_wp2_with fail
  refine (g2 _ (nd0.same (f0.seq' f1))).mono ?_
  rintro e w2 ⟨rfl, f2⟩
  clear c0 c1 c2 c3 c4 c5 c6
  have F2 := f1.seq' f2
  obtain ⟨c0, c1, c2, c3, c4, c5, c6⟩ := HB.out _ F2
  go_wp2_with fail
  refine (g3 _ (nd0.same (f0.seq' F2))).mono ?_
  rintro e w3 ⟨rfl, f3⟩
  clear c0 c1 c2 c3 c4 c5 c6
  have F3 := F2.seq' f3
  obtain ⟨c0, c1, c2, c3, c4, c5, c6⟩ := HB.out _ F3
  go_wp2_with fail
  refine (g4 _ (nd0.same (f0.seq' F3))).mono ?_
  rintro e w4 ⟨rfl, f4⟩
  clear c0 c1 c2 c3 c4 c5 c6
  have fr0 := (F3.seq' f4).drew
  have q0 := HB.out _ fr0
  go_wp2_with fail
  go_region_held3 (fun W => W.cell? ⟨w.heap.size, 0, none⟩ = some (.int .i64 n.lev) ∧ W.cell? ⟨w.heap.size, 1, none⟩ = some (.int .i64 n.lsn) ∧ W.cell? ⟨w.heap.size, 2, none⟩ = some (.int .i64 n.rgt) ∧ W.cell? ⟨w.heap.size, 3, none⟩ = some (.string n.high) ∧ W.cell? ⟨w.heap.size, 4, none⟩ = some (.slice p.k n.keys.length p.kc) ∧ W.cell? ⟨w.heap.size, 5, none⟩ = some (.slice p.v n.vals.length p.vc) ∧ W.cell? ⟨w.heap.size, 6, none⟩ = some (.slice p.i n.kids.length p.ic))
    (first | with_reducible exact q0 | with_reducible exact q1 | with_reducible exact q2 | with_reducible exact q3)
    (first
      | (go_at_call 22; refine (g5 _).mono ?_; rintro e w5 ⟨rfl, m1⟩; have fr1 := fr0.seq' m1; have q1 := HB.out _ fr1)
      | (go_at_call 23; refine (g6 _).mono ?_; rintro e w6 ⟨rfl, m2⟩; have fr2 := fr1.seq' m2; have q2 := HB.out _ fr2)
      | (go_at_call 24; refine (nspeaks_any _).mono ?_; rintro e w7 ⟨rfl, m3⟩; have fr3 := fr2.seq' m3; have q3 := HB.out _ fr3))
  go_wp2
  go_ret
  exact ⟨rfl, f0.seq' fr3⟩

set_option maxRecDepth 100000 in
theorem lifted (os : Os) (started : os.Started) (H : Type) (enc : TypeId × Value → H) :
    ReturnsInHanded {} Try.checked os 5 .any (Rows.nodeLooksSpec.pre6 enc Try.prog Try.f5 Rows.nodeLooksRow.domain false) (Rows.nodeLooksSpec.post enc Try.prog Try.f5 false true false false) := by
  refine returnsInHanded_of_change_sized (C := Try.checked) own started (by kernel_rfl) Try.func5
    (ChangeSpec.witness6 (enc := enc) (C := Try.checked) false ⟨#[], #[.agg #[.int .i64 0, .int .i64 0, .int .i64 0, .string ByteArray.empty, .slice none 0 0, .slice none 0 0, .slice none 0 0], .string ByteArray.empty], []⟩ 8 (by kernel_rfl) (by kernel_rfl) (by kernel_rfl) (by kernel_rfl)) ?_
  intro W base args ds gs before hval0 hW hcnd hsz0 _
  have hsz : (DataW.weightsEach Try.prog (Try.f5.params.toList ++ Rows.nodeLooksSpec.plain.varTypes Try.prog) (ds ++ gs)).all (· ≤ reachBytes) = true := hsz0
  clear hsz0
  have hval : ∀ (j : Nat) t v, Try.f5.params[j]? = some t → args[j]? = some v → Value.okWide Try.prog W .any base t v := hval0
  have hW' := hW
  obtain ⟨p, q, hA0, hV, rfl, hfz, hnd⟩ := hW
  have hA : DataW.TrodAll enc Try.prog W 0 (fun _ => true) true Try.f5.params.toList args.toList ds p := hA0
  rw [Try.params5] at hA hval hsz
  obtain ⟨v0, vs0, d0, ds0, p0, q0, hargs, rfl, rfl, h0, r0⟩ := trodAll_cons hA
  obtain ⟨v1, vs1, d1, ds1, p1, q1, rfl, rfl, rfl, h1, r1⟩ := trodAll_cons r0
  obtain ⟨rfl, rfl, rfl⟩ := trodAll_nil r1
  obtain rfl : args = #[v0, v1] := by cases args; simp_all
  obtain ⟨rfl, rfl⟩ := trodVars_none hV
  have k0 := h0
  have lt0 : ∀ x ∈ p0, x.block < W.heap.size := by obtain ⟨m, hm⟩ := k0; exact DataW.trod_lt m _ _ _ hm
  obtain ⟨n0, np0, rfl, nd0⟩ := node_open (hval 0 25 v0 rfl rfl) h0 (fun z hz => by simpa using List.all_eq_true.1 hsz z (DataW.weights_mem_each (j := 0) rfl rfl z hz))
  obtain ⟨s1, rfl, rfl, rfl, w1⟩ := open_string Try.underlying9 (hval 1 9 v1 rfl rfl) h1
  have z1 : s1.size ≤ 140737488351232 := by
    have := sized_string hsz (j := 1) (t := 9) rfl rfl
    simpa [reachBytes] using this
  clear hA0 hval0
  refine (walk W n0 np0 nd0 s1 z1).mono fun e W' ⟨he, fr⟩ => ?_
  have bel : Below W.heap.size W W' := fr.below (Nat.le_refl _) (fun _ f => f.elim)
  subst he
  exact ⟨_, rfl, _, _, _, [], _, [], hW', trodAll_mk1 (shut_bool Try.underlying4 _), (trodAll_cons_mk (Below.trod laidOut (by kernel_rfl) (of_decide_eq_true (by kernel_rfl)) k0 bel lt0) (trodAll_cons_mk (shut_string Try.underlying9 w1) trodAll_mk0)), rfl, bel.frame _, fun h => by cases h⟩

theorem proved : Rows.NodeLooksSaid :=
  OpenClaim.holds_of_wide 5 Try.f5 rfl rfl rfl rfl rfl rfl rfl ⟨rfl, rfl, rfl, rfl, rfl⟩ rfl rfl rfl rfl rfl (by kernel_rfl) Try.func5 (by kernel_rfl)
    (of_decide_eq_true (by kernel_rfl)) (by unfold Func.isWrapper; first | (rw [if_pos (by decide +kernel)]; kernel_rfl) | (rw [if_neg (by decide +kernel)]; exact ⟨rfl, rfl⟩))
    (fun os started H enc _ => lifted os started H enc)
end Go.Proofs.Ytaaedmacefiinaa.nodeLooks
namespace Go.Proofs.Ytaaedmacefiinaa
theorem nodeLooks_holds : Rows.NodeLooksSaid := nodeLooks.proved
#print axioms nodeLooks_holds
end Go.Proofs.Ytaaedmacefiinaa
