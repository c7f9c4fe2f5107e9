
/- PageTurned, for every node and number: where page.Encode gives a page, the page with the bit of that number turned is told to be wrong by page.Decode, with a node of zeros, and the call answers true; no condition. -/
import Derived.Test.YtcmkpehbdlhjjaaArgs
import Derived.Test.YtcmkpehbdlhjjaaPgTurn
import Derived.Test.YtcmkpehbdlhjjaaPgArg
import Derived.Deep.DeepCutAuto
namespace Go.Proofs.Ytcmkpehbdlhjjaa.pageTurned
open Go.ChangeShapes Go.WideShapes Go.ChangeAt Go.RowKit
open Go.ChangeMaps (open_string shut_string)
set_option linter.unusedVariables false

theorem own : ownKnob Try.prog.godebug = none := by kernel_rfl
theorem laidOut : laidOutB Try.prog = true := by kernel_rfl
theorem bytes8 : Try.prog.bytesOf 5 = 1 := by kernel_rfl

open Go.Proofs.Ytcmkpehbdlhjjaa.Crcm

set_option maxRecDepth 100000 in
set_option maxHeartbeats 2000000 in
theorem walk (w : World) (n : Nd) (p : Pt) (nd0 : Nod w n p) (a1 : Int) (w1 : (Lit.int .i64 a1).wf = true) :
    Calls Try.prog 7 #[(.agg #[.int .i64 n.lev, .int .i64 n.lsn, .int .i64 n.rgt, .string n.high, .slice p.k n.keys.length p.kc, .slice p.v n.vals.length p.vc, .slice p.i n.kids.length p.ic]), .int .i64 a1] w fun e w' => e = .returned (.bool true) ∧ Fr (fun _ => False) w w' := by
  have f0 := Fr.box w (.cells #[.int .i64 n.lev, .int .i64 n.lsn, .int .i64 n.rgt, .string n.high, .slice p.k n.keys.length p.kc, .slice p.v n.vals.length p.vc, .slice p.i n.kids.length p.ic] 25)
  by_cases hr : rightB n = true
  · have R : Hid (Rt n) := (right_iff n).1 hr
    have hb1 := bounds_i64 w1
    clear hr w1
    go_enter Try.func7, Try.ntmps7
    go_wp2_with fail
    refine (encode_yes n p _ (nd0.same f0) R.out).mono ?_
    rintro e w2 ⟨g, rfl, A1, hg, f1⟩
    obtain ⟨B, hB⟩ : ∃ B : Bool, B = decide (a1 < 0 ∨ 2048 ≤ a1) := ⟨_, rfl⟩
    have HB : Hid (B = decide (a1 < 0 ∨ 2048 ≤ a1)) := hB
    clear hB
    go_upto_region 4 with fail
    go_cut [30] (fun b wc => b = .bool B ∧ w2 = wc)
    case first =>
      by_cases hneg : a1 < 0
      · have hBt : B = true := by rw [HB.out]; exact decide_eq_true (Or.inl hneg)
        subst hBt
        go_wp2
        go_meet
        exact ⟨rfl, rfl⟩
      · have hn0 : decide (a1 < 0) = false := decide_eq_false hneg
        by_cases hbig : 2048 ≤ a1
        · have hb0 : decide (2048 ≤ a1) = true := decide_eq_true hbig
          have hBt : B = true := by rw [HB.out]; exact decide_eq_true (Or.inr hbig)
          subst hBt
          go_wp2
          go_meet
          exact ⟨by simp, rfl⟩
        · have hb0 : decide (2048 ≤ a1) = false := decide_eq_false hbig
          have hBf : B = false := by rw [HB.out]; exact decide_eq_false (by omega)
          subst hBf
          go_wp2
          go_meet
          exact ⟨by simp, rfl⟩
    case rest =>
    obtain ⟨rfl, rfl⟩ := hcut
    go_upto_if 30 with fail
    go_cut [1] (fun t wc => ∃ k : Nat, t = .int .i64 k ∧ k < 2048 ∧ w2 = wc)
    case first =>
      cases B
      · have hno : ¬ (a1 < 0 ∨ 2048 ≤ a1) := of_decide_eq_false HB.out.symm
        go_wp2
        go_meet
        exact ⟨a1.toNat, val_int (by omega), by omega, rfl⟩
      · go_wp2
        go_meet
        exact ⟨0, rfl, by omega, rfl⟩
    case rest =>
    obtain ⟨k, rfl, hk, rfl⟩ := hcut
    clear hb1 HB
    have hj : k / 8 < 256 := by omega
    have hm8 : k % 8 < 8 := Nat.mod_lt _ (by omega)
    have hcell := arr_at A1 (k / 8) hj
    have hfz := arr_froz A1 (k / 8) hj
    have hxl := octs_getD (pg_octs n) (k / 8)
    obtain ⟨x, hx⟩ : ∃ x, x = (pg n).getD (k / 8) 0 := ⟨_, rfl⟩
    rw [← hx] at hcell hxl
    have hyl := xor_small hxl hm8
    have A2 := A1.put (k / 8) (x ^^^ 2 ^ (k % 8)) hj
    have hdn := dec_turned n A1.length (k / 8) (k % 8) hj hm8
    rw [← hx] at hdn
    have ho2 := tocts_set (pg_octs n) (k / 8) _ hyl
    have hro : Row (w2.setCell ⟨g, k / 8, none⟩ (.int .u8 ((x ^^^ 2 ^ (k % 8) : Nat) : Int))) (some ⟨g, 0, none⟩) 256 ((pg n).set (k / 8) (x ^^^ 2 ^ (k % 8))) := by
      have := A2.row ho2 256 (by omega) 256 (by omega) (by omega)
      rwa [List.take_of_length_le (by rw [A2.length]; omega)] at this
    have HL2 : Hid (((pg n).set (k / 8) (x ^^^ 2 ^ (k % 8))).length = 256) := A2.length
    have HDN : Hid (decF ((pg n).set (k / 8) (x ^^^ 2 ^ (k % 8))) = none) := hdn
    have hgw : w.heap.size + 1 ≤ g := by simpa using hg
    have f2 : Fr (fun _ => False) w (w2.setCell ⟨g, k / 8, none⟩ (.int .u8 ((x ^^^ 2 ^ (k % 8) : Nat) : Int))) := (f0.seq' f1).setCell (p := ⟨g, k / 8, none⟩) (fun h => absurd h (Nat.not_lt_of_le (Nat.le_of_succ_le hgw))) _
    have i0 : (0 : Int) ≤ (k : Int) / 8 := by omega
    have i1 : (k : Int) / 8 < 256 := by omega
    clear hdn ho2 A2 A1 hx hyl
    go_wp2_with fail
    rw [tturn_cell x _ hxl hm8]
    refine (decode_none (some ⟨g, 0, none⟩) 256 _ HL2.out _ hro HDN.out).mono ?_
    rintro e w3 ⟨p3, rfl, nd3, f3⟩
    go_wp2_with fail
    refine (plain_same zn p3 zp _ (nd3.same (Fr.box _ _)) (zn_nod _)).mono ?_
    rintro e w4 ⟨rfl, f4⟩
    go_wp2_with fail
    refine (pspeaks_any _).mono ?_
    rintro e w5 ⟨rfl, f5⟩
    go_wp2
    go_ret
    exact ⟨rfl, f2.seq' (f3.seq' (((Fr.box _ _).seq' f4).seq' f5))⟩
  · have hr' : rightB n = false := by simpa using hr
    clear hr w1
    have HR : Hid (rightB n = false) := hr'
    clear hr'
    go_enter Try.func7, Try.ntmps7
    go_wp2_with fail
    refine (encode_no n p _ (nd0.same f0) HR.out).mono ?_
    rintro e w2 ⟨rfl, f1⟩
    go_wp2_with fail
    refine (pspeaks_any _).mono ?_
    rintro e w3 ⟨rfl, f3⟩
    go_wp2
    go_ret
    exact ⟨rfl, f0.seq' (f1.seq' f3)⟩

set_option maxRecDepth 100000 in
theorem lifted (os : Os) (started : os.Started) (H : Type) (enc : TypeId × Value → H) :
    ReturnsInHanded {} Try.checked os 7 .any (Rows.pageTurnedSpec.pre6 enc Try.prog Try.f7 Rows.pageTurnedRow.domain false) (Rows.pageTurnedSpec.post enc Try.prog Try.f7 false true false false) := by
  refine returnsInHanded_of_change_sized (C := Try.checked) own started (by kernel_rfl) Try.func7
    (ChangeSpec.witness6 (enc := enc) (C := Try.checked) false ⟨#[], #[.agg #[.int .i64 0, .int .i64 0, .int .i64 0, .string ByteArray.empty, .slice none 0 0, .slice none 0 0, .slice none 0 0], .int .i64 0], []⟩ 8 (by kernel_rfl) (by kernel_rfl) (by kernel_rfl) (by kernel_rfl)) ?_
  intro W base args ds gs before hval0 hW hcnd hsz0 _
  have hsz : (DataW.weightsEach Try.prog (Try.f7.params.toList ++ Rows.pageTurnedSpec.plain.varTypes Try.prog) (ds ++ gs)).all (· ≤ reachBytes) = true := hsz0
  clear hsz0
  have hval : ∀ (j : Nat) t v, Try.f7.params[j]? = some t → args[j]? = some v → Value.okWide Try.prog W .any base t v := hval0
  have hW' := hW
  obtain ⟨p, q, hA0, hV, rfl, hfz, hnd⟩ := hW
  have hA : DataW.TrodAll enc Try.prog W 0 (fun _ => true) true Try.f7.params.toList args.toList ds p := hA0
  rw [Try.params7] at hA hval hsz
  obtain ⟨v0, vs0, d0, ds0, p0, q0, hargs, rfl, rfl, h0, r0⟩ := trodAll_cons hA
  obtain ⟨v1, vs1, d1, ds1, p1, q1, rfl, rfl, rfl, h1, r1⟩ := trodAll_cons r0
  obtain ⟨rfl, rfl, rfl⟩ := trodAll_nil r1
  obtain rfl : args = #[v0, v1] := by cases args; simp_all
  obtain ⟨rfl, rfl⟩ := trodVars_none hV
  have k0 := h0
  have lt0 : ∀ x ∈ p0, x.block < W.heap.size := by obtain ⟨m, hm⟩ := k0; exact DataW.trod_lt m _ _ _ hm
  obtain ⟨n0, np0, rfl, nd0⟩ := node_open (hval 0 25 v0 rfl rfl) h0 (fun z hz => by simpa using List.all_eq_true.1 hsz z (DataW.weights_mem_each (j := 0) rfl rfl z hz))
  obtain ⟨a1, rfl, rfl, rfl, w1⟩ := open_int Try.underlying3 (hval 1 3 v1 rfl rfl) h1
  clear hA0 hval0
  refine (walk W n0 np0 nd0 a1 w1).mono fun e W' ⟨he, fr⟩ => ?_
  have bel : Below W.heap.size W W' := fr.below (Nat.le_refl _) (fun _ f => f.elim)
  subst he
  exact ⟨_, rfl, _, _, _, [], _, [], hW', trodAll_mk1 (shut_bool Try.underlying4 _), (trodAll_cons_mk (Below.trod laidOut (by kernel_rfl) (of_decide_eq_true (by kernel_rfl)) k0 bel lt0) (trodAll_cons_mk (shut_int Try.underlying3 w1) trodAll_mk0)), rfl, bel.frame _, fun h => by cases h⟩

theorem proved : Rows.PageTurnedSaid :=
  OpenClaim.holds_of_wide 7 Try.f7 rfl rfl rfl rfl rfl rfl rfl ⟨rfl, rfl, rfl, rfl, rfl⟩ rfl rfl rfl rfl rfl (by kernel_rfl) Try.func7 (by kernel_rfl)
    (of_decide_eq_true (by kernel_rfl)) (by unfold Func.isWrapper; first | (rw [if_pos (by decide +kernel)]; kernel_rfl) | (rw [if_neg (by decide +kernel)]; exact ⟨rfl, rfl⟩))
    (fun os started H enc _ => lifted os started H enc)
end Go.Proofs.Ytcmkpehbdlhjjaa.pageTurned
namespace Go.Proofs.Ytcmkpehbdlhjjaa
theorem pageTurned_holds : Rows.PageTurnedSaid := pageTurned.proved
#print axioms pageTurned_holds
end Go.Proofs.Ytcmkpehbdlhjjaa
