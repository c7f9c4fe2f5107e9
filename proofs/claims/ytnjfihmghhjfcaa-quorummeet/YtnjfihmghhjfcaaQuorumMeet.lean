
/- Of any number of nodes and any two sets, where both are majorities Meet tells a node that is in both, and the examples speak; with no condition but those of the statement's own form. -/
import Derived.Test.YtnjfihmghhjfcaaArgs
import Derived.Test.YtnjfihmghhjfcaaQuSpk
import Derived.Test.YtnjfihmghhjfcaaQuRef
namespace Go.Proofs.Ytnjfihmghhjfcaa.quorumMeet
open Go.ChangeShapes Go.WideShapes Go.ChangeAt Go.RowKit
open Go.ChangeMaps (open_string shut_string)
set_option linter.unusedVariables false

theorem own : ownKnob Try.prog.godebug = none := by kernel_rfl
theorem laidOut : laidOutB Try.prog = true := by kernel_rfl
theorem bytes8 : Try.prog.bytesOf 5 = 1 := by kernel_rfl

open Go.RowKit
open Go.Proofs.Ytnjfihmghhjfcaa.Qu
set_option maxRecDepth 100000 in
set_option maxHeartbeats 4000000 in
theorem walk (w : World) (n : Int) (w0 : (Lit.int .i64 n).wf = true) (a : Int) (w1 : (Lit.int .i64 a).wf = true) (b : Int) (w2 : (Lit.int .i64 b).wf = true) :
    Calls Try.prog 5 #[.int .i64 n, .int .i64 a, .int .i64 b] w fun e w' => e = .returned (.bool true) ∧ Fr (fun _ => False) w w' := by
  have ha : Hid (∀ W, Calls Try.prog 10 #[.int .i64 n, .int .i64 a] W fun e w' => e = .returned (.tuple #[.bool (hasM n a), .int .i64 (lookE n [a])]) ∧ Fr (fun _ => False) W w') := has_any n a
  have hb : Hid (∀ W, Calls Try.prog 10 #[.int .i64 n, .int .i64 b] W fun e w' => e = .returned (.tuple #[.bool (hasM n b), .int .i64 (lookE n [b])]) ∧ Fr (fun _ => False) W w') := has_any n b
  have hm : Hid (∀ W, Calls Try.prog 12 #[.int .i64 n, .int .i64 a, .int .i64 b] W fun e w' => e = .returned (.tuple #[.int .i64 (meetI n a b), .bool (meetB n a b), .int .i64 (lookE n [a, b])]) ∧ Fr (fun _ => False) W w') := meet_any n a b
  have HSP : Hid (∀ W, Calls Try.prog 15 #[] W fun e w' => e = .returned (.bool true) ∧ Fr (fun _ => False) W w') := quspk_any
  clear w0 w1 w2
  by_cases ea : lookE n [a] = 0
  · by_cases eb : lookE n [b] = 0
    · cases xa : hasM n a with
      | false =>
        rw [xa, ea] at ha
        rw [eb] at hb
        clear xa ea eb hm
        go_enter Try.func5, Try.ntmps5
        go_wp2_with fail
        refine (ha.out _).mono ?_
        rintro e w1 ⟨rfl, f1⟩
        go_wp2_with fail
        refine (hb.out _).mono ?_
        rintro e w2 ⟨rfl, f2⟩
        go_wp2_with fail
        refine (HSP.out _).mono ?_
        rintro e w3 ⟨rfl, f3⟩
        go_wp2
        go_ret
        exact ⟨rfl, (f1.seq' f2).seq' f3⟩
      | true =>
        cases xb : hasM n b with
        | false =>
          rw [xa, ea] at ha
          rw [xb, eb] at hb
          clear xa xb ea eb hm
          go_enter Try.func5, Try.ntmps5
          go_wp2_with fail
          refine (ha.out _).mono ?_
          rintro e w1 ⟨rfl, f1⟩
          go_wp2_with fail
          refine (hb.out _).mono ?_
          rintro e w2 ⟨rfl, f2⟩
          go_wp2_with fail
          refine (HSP.out _).mono ?_
          rintro e w3 ⟨rfl, f3⟩
          go_wp2
          go_ret
          exact ⟨rfl, (f1.seq' f2).seq' f3⟩
        | true =>
          obtain ⟨i, m1, m2, m3, m4, m5, m6⟩ := maj_meet xa xb
          obtain ⟨k1, k2, k3⟩ := look_ok ea
          obtain ⟨_, _, k4⟩ := look_ok eb
          obtain ⟨s1, s2⟩ := sB_lt k2 (k3 a (by simp))
          obtain ⟨s3, s4⟩ := sB_lt k2 (k4 b (by simp))
          have hia : Hid (∀ W, Calls Try.prog 16 #[.int .i64 a, .int .i64 i] W fun e w' => e = .returned (.bool true) ∧ w' = W) := fun W => by
            have := rin_any a i s1 s2 (by omega) (by omega) W
            rw [Int.toNat_natCast, m4] at this; exact this
          have hib : Hid (∀ W, Calls Try.prog 16 #[.int .i64 b, .int .i64 i] W fun e w' => e = .returned (.bool true) ∧ w' = W) := fun W => by
            have := rin_any b i s3 s4 (by omega) (by omega) W
            rw [Int.toNat_natCast, m5] at this; exact this
          rw [xa, ea] at ha
          rw [xb, eb] at hb
          rw [m1, m2, m3] at hm
          clear xa xb ea eb m1 m2 m3 m4 m5 k3 k4
          go_enter Try.func5, Try.ntmps5
          go_wp2_with fail
          refine (ha.out _).mono ?_
          rintro e w1 ⟨rfl, f1⟩
          go_wp2_with fail
          refine (hb.out _).mono ?_
          rintro e w2 ⟨rfl, f2⟩
          go_wp2_with fail
          refine (hm.out _).mono ?_
          rintro e w3 ⟨rfl, f3⟩
          go_wp2_with fail
          refine (hia.out _).mono ?_
          rintro e w4 ⟨rfl, rfl⟩
          go_wp2_with fail
          refine (hib.out _).mono ?_
          rintro e w5 ⟨rfl, rfl⟩
          go_wp2_with fail
          refine (HSP.out _).mono ?_
          rintro e w6 ⟨rfl, f6⟩
          go_wp2
          go_ret
          exact ⟨rfl, ((f1.seq' f2).seq' f3).seq' f6⟩
    · rw [ea] at ha
      clear ea hm
      go_enter Try.func5, Try.ntmps5
      go_wp2_with fail
      refine (ha.out _).mono ?_
      rintro e w1 ⟨rfl, f1⟩
      go_wp2_with fail
      refine (hb.out _).mono ?_
      rintro e w2 ⟨rfl, f2⟩
      go_wp2_with fail
      refine (HSP.out _).mono ?_
      rintro e w3 ⟨rfl, f3⟩
      go_wp2
      go_ret
      exact ⟨rfl, (f1.seq' f2).seq' f3⟩
  · clear hm
    go_enter Try.func5, Try.ntmps5
    go_wp2_with fail
    refine (ha.out _).mono ?_
    rintro e w1 ⟨rfl, f1⟩
    go_wp2_with fail
    refine (hb.out _).mono ?_
    rintro e w2 ⟨rfl, f2⟩
    go_wp2_with fail
    refine (HSP.out _).mono ?_
    rintro e w3 ⟨rfl, f3⟩
    go_wp2
    go_ret
    exact ⟨rfl, (f1.seq' f2).seq' f3⟩

set_option maxRecDepth 100000 in
theorem lifted (os : Os) (started : os.Started) (H : Type) (enc : TypeId × Value → H) :
    ReturnsInHanded {} Try.checked os 5 .any (Rows.quorumMeetSpec.pre6 enc Try.prog Try.f5 Rows.quorumMeetRow.domain false) (Rows.quorumMeetSpec.post enc Try.prog Try.f5 false true false false) := by
  refine returnsInHanded_of_change_sized (C := Try.checked) own started (by kernel_rfl) Try.func5
    (ChangeSpec.witness6 (enc := enc) (C := Try.checked) false ⟨#[], #[.int .i64 0, .int .i64 0, .int .i64 0], []⟩ 8 (by kernel_rfl) (by kernel_rfl) (by kernel_rfl) (by kernel_rfl)) ?_
  intro W base args ds gs before hval0 hW hcnd hsz0 _
  have hsz : (DataW.weightsEach Try.prog (Try.f5.params.toList ++ Rows.quorumMeetSpec.plain.varTypes Try.prog) (ds ++ gs)).all (· ≤ reachBytes) = true := hsz0
  clear hsz0
  have hval : ∀ (j : Nat) t v, Try.f5.params[j]? = some t → args[j]? = some v → Value.okWide Try.prog W .any base t v := hval0
  have hW' := hW
  obtain ⟨p, q, hA0, hV, rfl, hfz, hnd⟩ := hW
  have hA : DataW.TrodAll enc Try.prog W 0 (fun _ => true) true Try.f5.params.toList args.toList ds p := hA0
  rw [Try.params5] at hA hval hsz
  obtain ⟨v0, vs0, d0, ds0, p0, q0, hargs, rfl, rfl, h0, r0⟩ := trodAll_cons hA
  obtain ⟨v1, vs1, d1, ds1, p1, q1, rfl, rfl, rfl, h1, r1⟩ := trodAll_cons r0
  obtain ⟨v2, vs2, d2, ds2, p2, q2, rfl, rfl, rfl, h2, r2⟩ := trodAll_cons r1
  obtain ⟨rfl, rfl, rfl⟩ := trodAll_nil r2
  obtain rfl : args = #[v0, v1, v2] := by cases args; simp_all
  obtain ⟨rfl, rfl⟩ := trodVars_none hV
  obtain ⟨a0, rfl, rfl, rfl, w0⟩ := open_int Try.underlying3 (hval 0 3 v0 rfl rfl) h0
  obtain ⟨a1, rfl, rfl, rfl, w1⟩ := open_int Try.underlying3 (hval 1 3 v1 rfl rfl) h1
  obtain ⟨a2, rfl, rfl, rfl, w2⟩ := open_int Try.underlying3 (hval 2 3 v2 rfl rfl) h2
  clear hA0 hval0
  refine (walk W a0 w0 a1 w1 a2 w2).mono fun e W' ⟨he, fr⟩ => ?_
  have bel : Below W.heap.size W W' := fr.below (Nat.le_refl _) (fun _ f => f.elim)
  subst he
  exact ⟨_, rfl, _, _, _, [], _, [], hW', trodAll_mk1 (shut_bool Try.underlying4 _), (trodAll_cons_mk (shut_int Try.underlying3 w0) (trodAll_cons_mk (shut_int Try.underlying3 w1) (trodAll_cons_mk (shut_int Try.underlying3 w2) trodAll_mk0))), rfl, bel.frame _, fun h => by cases h⟩

theorem proved : Rows.QuorumMeetSaid :=
  OpenClaim.holds_of_wide 5 Try.f5 rfl rfl rfl rfl rfl rfl rfl ⟨rfl, rfl, rfl, rfl, rfl⟩ rfl rfl rfl rfl rfl (by kernel_rfl) Try.func5 (by kernel_rfl)
    (of_decide_eq_true (by kernel_rfl)) (by unfold Func.isWrapper; first | (rw [if_pos (by decide +kernel)]; kernel_rfl) | (rw [if_neg (by decide +kernel)]; exact ⟨rfl, rfl⟩))
    (fun os started H enc _ => lifted os started H enc)
end Go.Proofs.Ytnjfihmghhjfcaa.quorumMeet
namespace Go.Proofs.Ytnjfihmghhjfcaa
theorem quorumMeet_holds : Rows.QuorumMeetSaid := quorumMeet.proved
#print axioms quorumMeet_holds
end Go.Proofs.Ytnjfihmghhjfcaa
