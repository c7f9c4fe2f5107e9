
/- For every node, every text and every number latticelaw07.NodePosts answers true: Post makes of an inner node what the document says, or tells why not (7.2); no condition. -/
import Derived.Test.YtaaedmacefiinaaZQ1
namespace Go.Proofs.Ytaaedmacefiinaa.nodePosts
open Go.ChangeShapes Go.WideShapes Go.ChangeAt Go.RowKit
open Go.ChangeMaps (open_string shut_string)
set_option linter.unusedVariables false

theorem own : ownKnob Try.prog.godebug = none := by kernel_rfl
theorem laidOut : laidOutB Try.prog = true := by kernel_rfl
theorem bytes8 : Try.prog.bytesOf 5 = 1 := by kernel_rfl

set_option maxRecDepth 100000 in
set_option maxHeartbeats 4000000 in
theorem walk (w : World) (n : Nd) (p : Pt) (nd0 : Nod w n p) (k : ByteArray) (z1 : k.size ≤ 140737488351232) (kid : Int) (w2' : (Lit.int .i64 kid).wf = true) :
    Calls Try.prog 7 #[(.agg #[.int .i64 n.lev, .int .i64 n.lsn, .int .i64 n.rgt, .string n.high, .slice p.k n.keys.length p.kc, .slice p.v n.vals.length p.vc, .slice p.i n.kids.length p.ic]), .string k, .int .i64 kid] w fun e w' => e = .returned (.bool true) ∧ Fr (fun _ => False) w w' := by
  clear w2'
  have f0 := Fr.box w (.cells #[.int .i64 n.lev, .int .i64 n.lsn, .int .i64 n.rgt, .string n.high, .slice p.k n.keys.length p.kc, .slice p.v n.vals.length p.vc, .slice p.i n.kids.length p.ic] 25)
  have HB : Hid (∀ W, Fr (fun _ => False) (w.alloc (.cells #[.int .i64 n.lev, .int .i64 n.lsn, .int .i64 n.rgt, .string n.high, .slice p.k n.keys.length p.kc, .slice p.v n.vals.length p.vc, .slice p.i n.kids.length p.ic] 25)) W → W.cell? ⟨w.heap.size, 0, none⟩ = some (.int .i64 n.lev) ∧ W.cell? ⟨w.heap.size, 1, none⟩ = some (.int .i64 n.lsn) ∧ W.cell? ⟨w.heap.size, 2, none⟩ = some (.int .i64 n.rgt) ∧ W.cell? ⟨w.heap.size, 3, none⟩ = some (.string n.high) ∧ W.cell? ⟨w.heap.size, 4, none⟩ = some (.slice p.k n.keys.length p.kc) ∧ W.cell? ⟨w.heap.size, 5, none⟩ = some (.slice p.v n.vals.length p.vc) ∧ W.cell? ⟨w.heap.size, 6, none⟩ = some (.slice p.i n.kids.length p.ic)) := fun W f => box_cells (box_at w n p 25 f)
  have hk : k.size ≤ maxLen := Nat.le_trans z1 (by decide)
  have g1 := fun W hW => post_any n p k kid hk W hW
  have g2 := fun W hW => rpost_any n p k kid hk W hW
  generalize okN (postE n k kid) (postN n k kid) = a at *
  generalize postE n k kid = pe at *
  go_enter Try.func7, Try.ntmps7
  go_wp2_with fail
  refine (g1 _ (nd0.same f0)).mono ?_
  rintro e w1 ⟨p1, rfl, nd1, f1⟩
  clear g1
  have x1 := Fr.box w1 (.cells #[.int .i64 a.lev, .int .i64 a.lsn, .int .i64 a.rgt, .string a.high, .slice p1.k a.keys.length p1.kc, .slice p1.v a.vals.length p1.vc, .slice p1.i a.kids.length p1.ic] 25)
  have HB1 : Hid (∀ W, Fr (fun _ => False) (w1.alloc (.cells #[.int .i64 a.lev, .int .i64 a.lsn, .int .i64 a.rgt, .string a.high, .slice p1.k a.keys.length p1.kc, .slice p1.v a.vals.length p1.vc, .slice p1.i a.kids.length p1.ic] 25)) W → W.cell? ⟨w1.heap.size, 0, none⟩ = some (.int .i64 a.lev) ∧ W.cell? ⟨w1.heap.size, 1, none⟩ = some (.int .i64 a.lsn) ∧ W.cell? ⟨w1.heap.size, 2, none⟩ = some (.int .i64 a.rgt) ∧ W.cell? ⟨w1.heap.size, 3, none⟩ = some (.string a.high) ∧ W.cell? ⟨w1.heap.size, 4, none⟩ = some (.slice p1.k a.keys.length p1.kc) ∧ W.cell? ⟨w1.heap.size, 5, none⟩ = some (.slice p1.v a.vals.length p1.vc) ∧ W.cell? ⟨w1.heap.size, 6, none⟩ = some (.slice p1.i a.kids.length p1.ic)) := fun W f => box_cells (box_at w1 a p1 25 f)
  have F1 := f1.seq' x1
  obtain ⟨c0, c1, c2, c3, c4, c5, c6⟩ := HB.out _ F1
  go_wp2_with fail
  refine (g2 _ (nd0.same (f0.seq' F1))).mono ?_
  rintro e w2 ⟨p2, rfl, nd2, f2⟩
  clear g2 c0 c1 c2 c3 c4 c5 c6
  have x2 := Fr.box w2 (.cells #[.int .i64 a.lev, .int .i64 a.lsn, .int .i64 a.rgt, .string a.high, .slice p2.k a.keys.length p2.kc, .slice p2.v a.vals.length p2.vc, .slice p2.i a.kids.length p2.ic] 25)
  have L2 := f2.seq' x2
  have F2 := F1.seq' L2
  have hp1 := plain_same a p1 p2 _ ((nd1.same x1).same L2) (nd2.same x2)
  obtain ⟨c0, c1, c2, c3, c4, c5, c6⟩ := HB1.out _ L2
  go_wp2_with fail
  refine hp1.mono ?_
  rintro e w5 ⟨rfl, f5⟩
  go_wp2_with fail
  refine (nspeaks_any _).mono ?_
  rintro e w7 ⟨rfl, f7⟩
  go_wp2
  go_ret
  exact ⟨rfl, (f0.seq' F2).seq' (f5.seq' f7)⟩

set_option maxRecDepth 100000 in
theorem lifted (os : Os) (started : os.Started) (H : Type) (enc : TypeId × Value → H) :
    ReturnsInHanded {} Try.checked os 7 .any (Rows.nodePostsSpec.pre6 enc Try.prog Try.f7 Rows.nodePostsRow.domain false) (Rows.nodePostsSpec.post enc Try.prog Try.f7 false true false false) := by
  refine returnsInHanded_of_change_sized (C := Try.checked) own started (by kernel_rfl) Try.func7
    (ChangeSpec.witness6 (enc := enc) (C := Try.checked) false ⟨#[], #[.agg #[.int .i64 0, .int .i64 0, .int .i64 0, .string ByteArray.empty, .slice none 0 0, .slice none 0 0, .slice none 0 0], .string ByteArray.empty, .int .i64 0], []⟩ 8 (by kernel_rfl) (by kernel_rfl) (by kernel_rfl) (by kernel_rfl)) ?_
  intro W base args ds gs before hval0 hW hcnd hsz0 _
  have hsz : (DataW.weightsEach Try.prog (Try.f7.params.toList ++ Rows.nodePostsSpec.plain.varTypes Try.prog) (ds ++ gs)).all (· ≤ reachBytes) = true := hsz0
  clear hsz0
  have hval : ∀ (j : Nat) t v, Try.f7.params[j]? = some t → args[j]? = some v → Value.okWide Try.prog W .any base t v := hval0
  have hW' := hW
  obtain ⟨p, q, hA0, hV, rfl, hfz, hnd⟩ := hW
  have hA : DataW.TrodAll enc Try.prog W 0 (fun _ => true) true Try.f7.params.toList args.toList ds p := hA0
  rw [Try.params7] at hA hval hsz
  obtain ⟨v0, vs0, d0, ds0, p0, q0, hargs, rfl, rfl, h0, r0⟩ := trodAll_cons hA
  obtain ⟨v1, vs1, d1, ds1, p1, q1, rfl, rfl, rfl, h1, r1⟩ := trodAll_cons r0
  obtain ⟨v2, vs2, d2, ds2, p2, q2, rfl, rfl, rfl, h2, r2⟩ := trodAll_cons r1
  obtain ⟨rfl, rfl, rfl⟩ := trodAll_nil r2
  obtain rfl : args = #[v0, v1, v2] := by cases args; simp_all
  obtain ⟨rfl, rfl⟩ := trodVars_none hV
  have k0 := h0
  have lt0 : ∀ x ∈ p0, x.block < W.heap.size := by obtain ⟨m, hm⟩ := k0; exact DataW.trod_lt m _ _ _ hm
  obtain ⟨n0, np0, rfl, nd0⟩ := node_open (hval 0 25 v0 rfl rfl) h0 (fun z hz => by simpa using List.all_eq_true.1 hsz z (DataW.weights_mem_each (j := 0) rfl rfl z hz))
  obtain ⟨s1, rfl, rfl, rfl, w1⟩ := open_string Try.underlying9 (hval 1 9 v1 rfl rfl) h1
  have z1 : s1.size ≤ 140737488351232 := by
    have := sized_string hsz (j := 1) (t := 9) rfl rfl
    simpa [reachBytes] using this
  obtain ⟨a2, rfl, rfl, rfl, w2⟩ := open_int Try.underlying3 (hval 2 3 v2 rfl rfl) h2
  clear hA0 hval0
  refine (walk W n0 np0 nd0 s1 z1 a2 w2).mono fun e W' ⟨he, fr⟩ => ?_
  have bel : Below W.heap.size W W' := fr.below (Nat.le_refl _) (fun _ f => f.elim)
  subst he
  exact ⟨_, rfl, _, _, _, [], _, [], hW', trodAll_mk1 (shut_bool Try.underlying4 _), (trodAll_cons_mk (Below.trod laidOut (by kernel_rfl) (of_decide_eq_true (by kernel_rfl)) k0 bel lt0) (trodAll_cons_mk (shut_string Try.underlying9 w1) (trodAll_cons_mk (shut_int Try.underlying3 w2) trodAll_mk0))), rfl, bel.frame _, fun h => by cases h⟩

theorem proved : Rows.NodePostsSaid :=
  OpenClaim.holds_of_wide 7 Try.f7 rfl rfl rfl rfl rfl rfl rfl ⟨rfl, rfl, rfl, rfl, rfl⟩ rfl rfl rfl rfl rfl (by kernel_rfl) Try.func7 (by kernel_rfl)
    (of_decide_eq_true (by kernel_rfl)) (by unfold Func.isWrapper; first | (rw [if_pos (by decide +kernel)]; kernel_rfl) | (rw [if_neg (by decide +kernel)]; exact ⟨rfl, rfl⟩))
    (fun os started H enc _ => lifted os started H enc)
end Go.Proofs.Ytaaedmacefiinaa.nodePosts
namespace Go.Proofs.Ytaaedmacefiinaa
theorem nodePosts_holds : Rows.NodePostsSaid := nodePosts.proved
#print axioms nodePosts_holds
end Go.Proofs.Ytaaedmacefiinaa
