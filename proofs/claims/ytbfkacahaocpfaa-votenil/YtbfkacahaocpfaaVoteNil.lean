
/- A nil voter votes for nobody, sees nothing, cannot stand and has the promise of none, a nil tally counts nothing, whatever numbers are handed in, and the example speaks; with no condition but those of the statement's own form. -/
import Derived.Test.YtbfkacahaocpfaaArgs
import Derived.Test.YtbfkacahaocpfaaVtSpk
namespace Go.Proofs.Ytbfkacahaocpfaa.voteNil
open Go.ChangeShapes Go.WideShapes Go.ChangeAt Go.RowKit
open Go.ChangeMaps (open_string shut_string)
set_option linter.unusedVariables false

theorem own : ownKnob Try.prog.godebug = none := by kernel_rfl
theorem laidOut : laidOutB Try.prog = true := by kernel_rfl
theorem bytes8 : Try.prog.bytesOf 5 = 1 := by kernel_rfl

open Go.RowKit
open Go.Proofs.Ytbfkacahaocpfaa.Qu
set_option maxRecDepth 100000 in
set_option maxHeartbeats 8000000 in
theorem walk (w : World) (frm : Int) (_ : (Lit.int .i64 frm).wf = true) (ep : Int) (_ : (Lit.int .i64 ep).wf = true) :
    Calls Try.prog 7 #[.int .i64 frm, .int .i64 ep] w fun e w' => e = .returned (.bool true) ∧ Fr (fun _ => False) w w' := by
  have HSP : Hid (∀ W, Calls Try.prog 14 #[] W fun e w' => e = .returned (.bool true) ∧ Fr (fun _ => False) W w') := vtspk_any
  have hq := fun W => eql_prom 0 (-1) 0 (-1) W
  rw [show decide ((0 : Int) = 0 ∧ (-1 : Int) = -1) = true by decide] at hq
  have HST : Hid (∀ W, Calls Try.prog 21 #[.pointer none, .int .i64 frm] W fun r w' => r = .returned (.tuple #[.int .i64 0, .int .i64 (if nodB frm = true then 7 else 1)]) ∧ w' = W) := stand_nil frm
  have HAS : Hid (∀ W, Calls Try.prog 17 #[.pointer none, .int .i64 frm, .int .i64 ep, .agg #[.int .i64 0, .int .i64 0], .agg #[.int .i64 0, .int .i64 0]] W fun r w' => r = .returned (.bool false) ∧ Fr (fun _ => False) W w') := ask_nil frm ep 0 0 0 0
  by_cases g1 : frm < 0
  · rw [show nodB frm = false by simp [nodB]; omega] at HST
    go_enter Try.func7, Try.ntmps7
    go_wp2_with fail
    refine (HST.out _).mono ?_
    rintro r w1 ⟨rfl, rfl⟩
    go_wp2_with fail
    refine (HAS.out _).mono ?_
    rintro r w2 ⟨rfl, f2⟩
    go_wp2_with fail
    refine (see_nil ep _).mono ?_
    rintro r w3 ⟨rfl, rfl⟩
    go_wp2_with fail
    refine (prom_nil _).mono ?_
    rintro r w4 ⟨rfl, f4⟩
    go_wp2_with fail
    refine (tvote_nil frm ep _).mono ?_
    rintro r w5 ⟨rfl, rfl⟩
    go_wp2_with fail
    refine (won_nil _).mono ?_
    rintro r w6 ⟨rfl, rfl⟩
    go_wp2_with fail
    refine (epoch_nil _).mono ?_
    rintro r w7 ⟨rfl, rfl⟩
    go_wp2_with fail
    refine (HSP.out _).mono ?_
    rintro r w8 ⟨rfl, f8⟩
    go_wp2
    go_ret
    exact ⟨by simp, (f2.seq' f4).seq' f8⟩
  · have g1' : decide (frm < 0) = false := by simpa using g1
    by_cases g2 : 6 < frm
    · rw [show nodB frm = false by simp [nodB]; omega] at HST
      go_enter Try.func7, Try.ntmps7
      go_wp2_with fail
      refine (HST.out _).mono ?_
      rintro r w1 ⟨rfl, rfl⟩
      go_wp2_with fail
      refine (HAS.out _).mono ?_
      rintro r w2 ⟨rfl, f2⟩
      go_wp2_with fail
      refine (see_nil ep _).mono ?_
      rintro r w3 ⟨rfl, rfl⟩
      go_wp2_with fail
      refine (prom_nil _).mono ?_
      rintro r w4 ⟨rfl, f4⟩
      go_wp2_with fail
      refine (tvote_nil frm ep _).mono ?_
      rintro r w5 ⟨rfl, rfl⟩
      go_wp2_with fail
      refine (won_nil _).mono ?_
      rintro r w6 ⟨rfl, rfl⟩
      go_wp2_with fail
      refine (epoch_nil _).mono ?_
      rintro r w7 ⟨rfl, rfl⟩
      go_wp2_with fail
      refine (HSP.out _).mono ?_
      rintro r w8 ⟨rfl, f8⟩
      go_wp2
      go_ret
      exact ⟨by simp, (f2.seq' f4).seq' f8⟩
    · have g2' : decide (6 < frm) = false := by simpa using g2
      rw [show nodB frm = true by simp [nodB]; omega] at HST
      go_enter Try.func7, Try.ntmps7
      go_wp2_with fail
      refine (HST.out _).mono ?_
      rintro r w1 ⟨rfl, rfl⟩
      go_wp2_with fail
      refine (HAS.out _).mono ?_
      rintro r w2 ⟨rfl, f2⟩
      go_wp2_with fail
      refine (see_nil ep _).mono ?_
      rintro r w3 ⟨rfl, rfl⟩
      go_wp2_with fail
      refine (prom_nil _).mono ?_
      rintro r w4 ⟨rfl, f4⟩
      go_wp2_with fail
      refine (tvote_nil frm ep _).mono ?_
      rintro r w5 ⟨rfl, rfl⟩
      go_wp2_with fail
      refine (won_nil _).mono ?_
      rintro r w6 ⟨rfl, rfl⟩
      go_wp2_with fail
      refine (epoch_nil _).mono ?_
      rintro r w7 ⟨rfl, rfl⟩
      go_wp2_with fail
      refine (HSP.out _).mono ?_
      rintro r w8 ⟨rfl, f8⟩
      go_wp2
      go_ret
      exact ⟨by simp, (f2.seq' f4).seq' f8⟩

set_option maxRecDepth 100000 in
theorem lifted (os : Os) (started : os.Started) (H : Type) (enc : TypeId × Value → H) :
    ReturnsInHanded {} Try.checked os 7 .any (Rows.voteNilSpec.pre6 enc Try.prog Try.f7 Rows.voteNilRow.domain false) (Rows.voteNilSpec.post enc Try.prog Try.f7 false true false false) := by
  refine returnsInHanded_of_change_sized (C := Try.checked) own started (by kernel_rfl) Try.func7
    (ChangeSpec.witness6 (enc := enc) (C := Try.checked) false ⟨#[], #[.int .i64 0, .int .i64 0], []⟩ 8 (by kernel_rfl) (by kernel_rfl) (by kernel_rfl) (by kernel_rfl)) ?_
  intro W base args ds gs before hval0 hW hcnd hsz0 _
  have hsz : (DataW.weightsEach Try.prog (Try.f7.params.toList ++ Rows.voteNilSpec.plain.varTypes Try.prog) (ds ++ gs)).all (· ≤ reachBytes) = true := hsz0
  clear hsz0
  have hval : ∀ (j : Nat) t v, Try.f7.params[j]? = some t → args[j]? = some v → Value.okWide Try.prog W .any base t v := hval0
  have hW' := hW
  obtain ⟨p, q, hA0, hV, rfl, hfz, hnd⟩ := hW
  have hA : DataW.TrodAll enc Try.prog W 0 (fun _ => true) true Try.f7.params.toList args.toList ds p := hA0
  rw [Try.params7] at hA hval hsz
  obtain ⟨v0, vs0, d0, ds0, p0, q0, hargs, rfl, rfl, h0, r0⟩ := trodAll_cons hA
  obtain ⟨v1, vs1, d1, ds1, p1, q1, rfl, rfl, rfl, h1, r1⟩ := trodAll_cons r0
  obtain ⟨rfl, rfl, rfl⟩ := trodAll_nil r1
  obtain rfl : args = #[v0, v1] := by cases args; simp_all
  obtain ⟨rfl, rfl⟩ := trodVars_none hV
  obtain ⟨a0, rfl, rfl, rfl, w0⟩ := open_int Try.underlying3 (hval 0 3 v0 rfl rfl) h0
  obtain ⟨a1, rfl, rfl, rfl, w1⟩ := open_int Try.underlying3 (hval 1 3 v1 rfl rfl) h1
  clear hA0 hval0
  refine (walk W a0 w0 a1 w1).mono fun e W' ⟨he, fr⟩ => ?_
  have bel : Below W.heap.size W W' := fr.below (Nat.le_refl _) (fun _ f => f.elim)
  subst he
  exact ⟨_, rfl, _, _, _, [], _, [], hW', trodAll_mk1 (shut_bool Try.underlying4 _), (trodAll_cons_mk (shut_int Try.underlying3 w0) (trodAll_cons_mk (shut_int Try.underlying3 w1) trodAll_mk0)), rfl, bel.frame _, fun h => by cases h⟩

theorem proved : Rows.VoteNilSaid :=
  OpenClaim.holds_of_wide 7 Try.f7 rfl rfl rfl rfl rfl rfl rfl ⟨rfl, rfl, rfl, rfl, rfl⟩ rfl rfl rfl rfl rfl (by kernel_rfl) Try.func7 (by kernel_rfl)
    (of_decide_eq_true (by kernel_rfl)) (by unfold Func.isWrapper; first | (rw [if_pos (by decide +kernel)]; kernel_rfl) | (rw [if_neg (by decide +kernel)]; exact ⟨rfl, rfl⟩))
    (fun os started H enc _ => lifted os started H enc)
end Go.Proofs.Ytbfkacahaocpfaa.voteNil
namespace Go.Proofs.Ytbfkacahaocpfaa
theorem voteNil_holds : Rows.VoteNilSaid := voteNil.proved
#print axioms voteNil_holds
end Go.Proofs.Ytbfkacahaocpfaa
