
/- For every node latticelaw06.PageEncodes answers true: page.Encode gives the document's page, byte by byte, or its error (6.2); no condition. -/
import Derived.Test.YtaaedmacefiinaaArgs
import Derived.Test.YtaaedmacefiinaaPgREnc3
import Derived.Test.YtaaedmacefiinaaPgEnc3
import Derived.Test.YtaaedmacefiinaaPgSpeak
import Derived.Test.YtaaedmacefiinaaPgArg
namespace Go.Proofs.Ytaaedmacefiinaa.pageEncodes
open Go.ChangeShapes Go.WideShapes Go.ChangeAt Go.RowKit
open Go.ChangeMaps (open_string shut_string)
set_option linter.unusedVariables false

theorem own : ownKnob Try.prog.godebug = none := by kernel_rfl
theorem laidOut : laidOutB Try.prog = true := by kernel_rfl
theorem bytes8 : Try.prog.bytesOf 5 = 1 := by kernel_rfl

theorem str0 : strOf [] = ⟨#[]⟩ := rfl
set_option maxRecDepth 100000 in
set_option maxHeartbeats 2000000 in
theorem walk (w : World) (n : Nd) (p : Pt) (nd0 : Nod w n p) :
    Calls Try.prog 3 #[(.agg #[.int .i64 n.lev, .int .i64 n.lsn, .int .i64 n.rgt, .string n.high, .slice p.k n.keys.length p.kc, .slice p.v n.vals.length p.vc, .slice p.i n.kids.length p.ic])] w fun e w' => e = .returned (.bool true) ∧ Fr (fun _ => False) w w' := by
  have f0 := Fr.box w (.cells #[.int .i64 n.lev, .int .i64 n.lsn, .int .i64 n.rgt, .string n.high, .slice p.k n.keys.length p.kc, .slice p.v n.vals.length p.vc, .slice p.i n.kids.length p.ic] 25)
  have HB : Hid (∀ W, Fr (fun _ => False) (w.alloc (.cells #[.int .i64 n.lev, .int .i64 n.lsn, .int .i64 n.rgt, .string n.high, .slice p.k n.keys.length p.kc, .slice p.v n.vals.length p.vc, .slice p.i n.kids.length p.ic] 25)) W → W.cell? ⟨w.heap.size, 0, none⟩ = some (.int .i64 n.lev) ∧ W.cell? ⟨w.heap.size, 1, none⟩ = some (.int .i64 n.lsn) ∧ W.cell? ⟨w.heap.size, 2, none⟩ = some (.int .i64 n.rgt) ∧ W.cell? ⟨w.heap.size, 3, none⟩ = some (.string n.high) ∧ W.cell? ⟨w.heap.size, 4, none⟩ = some (.slice p.k n.keys.length p.kc) ∧ W.cell? ⟨w.heap.size, 5, none⟩ = some (.slice p.v n.vals.length p.vc) ∧ W.cell? ⟨w.heap.size, 6, none⟩ = some (.slice p.i n.kids.length p.ic)) := fun W f => box_cells (box_at w n p 25 f)
  by_cases hr : rightB n = true
  · have R : Hid (Rt n) := (right_iff n).1 hr
    clear hr
    go_enter Try.func3, Try.ntmps3
    go_wp2_with fail
    refine (encode_yes n p _ (nd0.same f0) R.out).mono ?_
    rintro e w2 ⟨g, rfl, A1, hg, f1⟩
    have hro : Row w2 (some ⟨g, 0, none⟩) 256 (pg n) := by
      have := A1.row (pg_octs n) 256 (by omega) 256 (by omega) (by omega)
      rwa [List.take_of_length_le (by rw [A1.length]; omega)] at this
    have HL : Hid ((pg n).length = 256) := A1.length
    clear A1 hg
    obtain ⟨c0, c1, c2, c3, c4, c5, c6⟩ := HB.out _ f1
    go_wp2_with fail
    refine (rencode_yes n p _ (nd0.same (f0.seq' f1)) R.out).mono ?_
    rintro e w3 ⟨a3, k3, rfl, r3, f3⟩
    have hro3 := hro.same f3
    have cvx := run_str (P := Try.prog) (src := 26) (dst := 9) Try.underlying26 Try.underlying5 Try.underlying9 hro3 256 HL.out.symm
    have cvy := run_str (P := Try.prog) (src := 26) (dst := 9) Try.underlying26 Try.underlying5 Try.underlying9 r3 256 HL.out.symm
    clear c0 c1 c2 c3 c4 c5 c6
    go_wp2_with fail
    refine (pspeaks_any _).mono ?_
    rintro e w7 ⟨rfl, f7⟩
    go_wp2
    go_ret
    exact ⟨rfl, (f0.seq' f1).seq' (f3.seq' f7)⟩
  · have HR : Hid (rightB n = false) := by show _ = _; simpa using hr
    clear hr
    go_enter Try.func3, Try.ntmps3
    go_wp2_with fail
    refine (encode_no n p _ (nd0.same f0) HR.out).mono ?_
    rintro e w2 ⟨rfl, f1⟩
    obtain ⟨c0, c1, c2, c3, c4, c5, c6⟩ := HB.out _ f1
    go_wp2_with fail
    refine (rencode_no n p _ (nd0.same (f0.seq' f1)) HR.out).mono ?_
    rintro e w3 ⟨rfl, f3⟩
    have cv := run_str (P := Try.prog) (src := 26) (dst := 9) Try.underlying26 Try.underlying5 Try.underlying9 (row_nil w3 none) 0 rfl
    rw [str0] at cv
    clear c0 c1 c2 c3 c4 c5 c6
    go_wp2_with fail
    refine (pspeaks_any _).mono ?_
    rintro e w7 ⟨rfl, f7⟩
    go_wp2
    go_ret
    exact ⟨rfl, (f0.seq' f1).seq' (f3.seq' f7)⟩

set_option maxRecDepth 100000 in
theorem lifted (os : Os) (started : os.Started) (H : Type) (enc : TypeId × Value → H) :
    ReturnsInHanded {} Try.checked os 3 .any (Rows.pageEncodesSpec.pre6 enc Try.prog Try.f3 Rows.pageEncodesRow.domain false) (Rows.pageEncodesSpec.post enc Try.prog Try.f3 false true false false) := by
  refine returnsInHanded_of_change_sized (C := Try.checked) own started (by kernel_rfl) Try.func3
    (ChangeSpec.witness6 (enc := enc) (C := Try.checked) false ⟨#[], #[.agg #[.int .i64 0, .int .i64 0, .int .i64 0, .string ByteArray.empty, .slice none 0 0, .slice none 0 0, .slice none 0 0]], []⟩ 8 (by kernel_rfl) (by kernel_rfl) (by kernel_rfl) (by kernel_rfl)) ?_
  intro W base args ds gs before hval0 hW hcnd hsz0 _
  have hsz : (DataW.weightsEach Try.prog (Try.f3.params.toList ++ Rows.pageEncodesSpec.plain.varTypes Try.prog) (ds ++ gs)).all (· ≤ reachBytes) = true := hsz0
  clear hsz0
  have hval : ∀ (j : Nat) t v, Try.f3.params[j]? = some t → args[j]? = some v → Value.okWide Try.prog W .any base t v := hval0
  have hW' := hW
  obtain ⟨p, q, hA0, hV, rfl, hfz, hnd⟩ := hW
  have hA : DataW.TrodAll enc Try.prog W 0 (fun _ => true) true Try.f3.params.toList args.toList ds p := hA0
  rw [Try.params3] at hA hval hsz
  obtain ⟨v0, vs0, d0, ds0, p0, q0, hargs, rfl, rfl, h0, r0⟩ := trodAll_cons hA
  obtain ⟨rfl, rfl, rfl⟩ := trodAll_nil r0
  obtain rfl : args = #[v0] := by cases args; simp_all
  obtain ⟨rfl, rfl⟩ := trodVars_none hV
  have k0 := h0
  have lt0 : ∀ x ∈ p0, x.block < W.heap.size := by obtain ⟨m, hm⟩ := k0; exact DataW.trod_lt m _ _ _ hm
  obtain ⟨n0, np0, rfl, nd0⟩ := node_open (hval 0 25 v0 rfl rfl) h0 (fun z hz => by simpa using List.all_eq_true.1 hsz z (DataW.weights_mem_each (j := 0) rfl rfl z hz))
  clear hA0 hval0
  refine (walk W n0 np0 nd0).mono fun e W' ⟨he, fr⟩ => ?_
  have bel : Below W.heap.size W W' := fr.below (Nat.le_refl _) (fun _ f => f.elim)
  subst he
  exact ⟨_, rfl, _, _, _, [], _, [], hW', trodAll_mk1 (shut_bool Try.underlying4 _), (trodAll_cons_mk (Below.trod laidOut (by kernel_rfl) (of_decide_eq_true (by kernel_rfl)) k0 bel lt0) trodAll_mk0), rfl, bel.frame _, fun h => by cases h⟩

theorem proved : Rows.PageEncodesSaid :=
  OpenClaim.holds_of_wide 3 Try.f3 rfl rfl rfl rfl rfl rfl rfl ⟨rfl, rfl, rfl, rfl, rfl⟩ rfl rfl rfl rfl rfl (by kernel_rfl) Try.func3 (by kernel_rfl)
    (of_decide_eq_true (by kernel_rfl)) (by unfold Func.isWrapper; first | (rw [if_pos (by decide +kernel)]; kernel_rfl) | (rw [if_neg (by decide +kernel)]; exact ⟨rfl, rfl⟩))
    (fun os started H enc _ => lifted os started H enc)
end Go.Proofs.Ytaaedmacefiinaa.pageEncodes
namespace Go.Proofs.Ytaaedmacefiinaa
theorem pageEncodes_holds : Rows.PageEncodesSaid := pageEncodes.proved
#print axioms pageEncodes_holds
end Go.Proofs.Ytaaedmacefiinaa
