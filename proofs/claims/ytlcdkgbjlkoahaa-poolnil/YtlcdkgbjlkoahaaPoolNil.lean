
/- For every page and LSN latticelaw11.PoolNil answers true: a nil pool has no frames and holds nothing; no condition. -/
import Derived.Test.YtlcdkgbjlkoahaaArgs
import Derived.Test.YtlcdkgbjlkoahaaPlPages
namespace Go.Proofs.Ytlcdkgbjlkoahaa.poolNil
open Go.ChangeShapes Go.WideShapes Go.ChangeAt Go.RowKit
open Go.ChangeMaps (open_string shut_string)
set_option linter.unusedVariables false

theorem own : ownKnob Try.prog.godebug = none := by kernel_rfl
theorem laidOut : laidOutB Try.prog = true := by kernel_rfl
theorem bytes8 : Try.prog.bytesOf 5 = 1 := by kernel_rfl

theorem nilD_ne (l : Int) : nilD l ≠ 0 := by unfold nilD; split <;> decide
set_option maxRecDepth 100000 in
set_option maxHeartbeats 4000000 in
theorem walk (w : World) (a0 : Int) (w0 : (Lit.int .i64 a0).wf = true) (a1 : Int) (w1 : (Lit.int .i64 a1).wf = true) :
    Calls Try.prog 6 #[.int .i64 a0, .int .i64 a1] w fun e w' => e = .returned (.bool true) ∧ Fr (fun _ => False) w w' := by
  have hx : wfK a0 := w0
  have hd := nilD_ne a1
  have hb : (nilD a1 != 0) = true := by simpa using hd
  by_cases hp : 1 ≤ a0 ∧ a0 ≤ 4096
  · have e1 : nilG a0 = 5 := if_pos hp
    have h1 : ¬ a0 < 1 := by omega
    have h2 : ¬ 4096 < a0 := by omega
    clear w0 w1
    go_enter Try.func6, Try.ntmps6
    go_wp2_with fail
    refine (get_n _ a0 hx).mono ?_
    rw [e1]
    rintro e w1 ⟨rfl, f1⟩
    go_wp2_with fail
    refine (clean_n _ a0 hx).mono ?_
    rintro e w2 ⟨rfl, f2⟩
    go_wp2_with fail
    refine (oldest_n _).mono ?_
    rintro e w3 ⟨rfl, f3⟩
    have F3 := ((f1.alloc _).seq' f2).seq' f3
    clear f1 f2 f3
    go_wp2_with fail
    refine (unpin_n _ a0 hx).mono ?_
    rintro e w4 ⟨rfl, f4⟩
    have F4 := F3.seq' f4
    clear F3 f4
    go_wp2_with fail
    refine (dirty_n _ a0 a1 hx).mono ?_
    rintro e w5 ⟨rfl, f5⟩
    have F5 := F4.seq' f5
    clear F4 f5
    go_wp2_with fail
    refine (pages_n _).mono ?_
    rintro e w6 ⟨rfl, f6⟩
    have F6 := F5.seq' f6
    clear F5 f6
    go_wp2_with fail
    refine (pins_n _ a0 hx).mono ?_
    rintro e w7 ⟨rfl, rfl⟩
    go_wp2_with fail
    refine (pspeaks_any _).mono ?_
    rintro e w8 ⟨rfl, f8⟩
    have F8 := F6.seq' f8
    go_wp2
    go_ret
    exact ⟨rfl, F8⟩
  · by_cases h1 : a0 < 1
    · have e1 : nilG a0 = 1 := if_neg hp
      clear w0 w1
      go_enter Try.func6, Try.ntmps6
      go_wp2_with fail
      refine (get_n _ a0 hx).mono ?_
      rw [e1]
      rintro e w1 ⟨rfl, f1⟩
      go_wp2_with fail
      refine (clean_n _ a0 hx).mono ?_
      rintro e w2 ⟨rfl, f2⟩
      go_wp2_with fail
      refine (oldest_n _).mono ?_
      rintro e w3 ⟨rfl, f3⟩
      have F3 := ((f1.alloc _).seq' f2).seq' f3
      clear f1 f2 f3
      go_wp2_with fail
      refine (unpin_n _ a0 hx).mono ?_
      rintro e w4 ⟨rfl, f4⟩
      have F4 := F3.seq' f4
      clear F3 f4
      go_wp2_with fail
      refine (dirty_n _ a0 a1 hx).mono ?_
      rintro e w5 ⟨rfl, f5⟩
      have F5 := F4.seq' f5
      clear F4 f5
      go_wp2_with fail
      refine (pages_n _).mono ?_
      rintro e w6 ⟨rfl, f6⟩
      have F6 := F5.seq' f6
      clear F5 f6
      go_wp2_with fail
      refine (pins_n _ a0 hx).mono ?_
      rintro e w7 ⟨rfl, rfl⟩
      go_wp2_with fail
      refine (pspeaks_any _).mono ?_
      rintro e w8 ⟨rfl, f8⟩
      have F8 := F6.seq' f8
      go_wp2
      go_ret
      exact ⟨rfl, F8⟩
    · have h2 : 4096 < a0 := by omega
      have e1 : nilG a0 = 1 := if_neg hp
      clear w0 w1
      go_enter Try.func6, Try.ntmps6
      go_wp2_with fail
      refine (get_n _ a0 hx).mono ?_
      rw [e1]
      rintro e w1 ⟨rfl, f1⟩
      go_wp2_with fail
      refine (clean_n _ a0 hx).mono ?_
      rintro e w2 ⟨rfl, f2⟩
      go_wp2_with fail
      refine (oldest_n _).mono ?_
      rintro e w3 ⟨rfl, f3⟩
      have F3 := ((f1.alloc _).seq' f2).seq' f3
      clear f1 f2 f3
      go_wp2_with fail
      refine (unpin_n _ a0 hx).mono ?_
      rintro e w4 ⟨rfl, f4⟩
      have F4 := F3.seq' f4
      clear F3 f4
      go_wp2_with fail
      refine (dirty_n _ a0 a1 hx).mono ?_
      rintro e w5 ⟨rfl, f5⟩
      have F5 := F4.seq' f5
      clear F4 f5
      go_wp2_with fail
      refine (pages_n _).mono ?_
      rintro e w6 ⟨rfl, f6⟩
      have F6 := F5.seq' f6
      clear F5 f6
      go_wp2_with fail
      refine (pins_n _ a0 hx).mono ?_
      rintro e w7 ⟨rfl, rfl⟩
      go_wp2_with fail
      refine (pspeaks_any _).mono ?_
      rintro e w8 ⟨rfl, f8⟩
      have F8 := F6.seq' f8
      go_wp2
      go_ret
      exact ⟨rfl, F8⟩

set_option maxRecDepth 100000 in
theorem lifted (os : Os) (started : os.Started) (H : Type) (enc : TypeId × Value → H) :
    ReturnsInHanded {} Try.checked os 6 .any (Rows.poolNilSpec.pre6 enc Try.prog Try.f6 Rows.poolNilRow.domain false) (Rows.poolNilSpec.post enc Try.prog Try.f6 false true false false) := by
  refine returnsInHanded_of_change_sized (C := Try.checked) own started (by kernel_rfl) Try.func6
    (ChangeSpec.witness6 (enc := enc) (C := Try.checked) false ⟨#[], #[.int .i64 0, .int .i64 0], []⟩ 8 (by kernel_rfl) (by kernel_rfl) (by kernel_rfl) (by kernel_rfl)) ?_
  intro W base args ds gs before hval0 hW hcnd hsz0 _
  have hsz : (DataW.weightsEach Try.prog (Try.f6.params.toList ++ Rows.poolNilSpec.plain.varTypes Try.prog) (ds ++ gs)).all (· ≤ reachBytes) = true := hsz0
  clear hsz0
  have hval : ∀ (j : Nat) t v, Try.f6.params[j]? = some t → args[j]? = some v → Value.okWide Try.prog W .any base t v := hval0
  have hW' := hW
  obtain ⟨p, q, hA0, hV, rfl, hfz, hnd⟩ := hW
  have hA : DataW.TrodAll enc Try.prog W 0 (fun _ => true) true Try.f6.params.toList args.toList ds p := hA0
  rw [Try.params6] at hA hval hsz
  obtain ⟨v0, vs0, d0, ds0, p0, q0, hargs, rfl, rfl, h0, r0⟩ := trodAll_cons hA
  obtain ⟨v1, vs1, d1, ds1, p1, q1, rfl, rfl, rfl, h1, r1⟩ := trodAll_cons r0
  obtain ⟨rfl, rfl, rfl⟩ := trodAll_nil r1
  obtain rfl : args = #[v0, v1] := by cases args; simp_all
  obtain ⟨rfl, rfl⟩ := trodVars_none hV
  obtain ⟨a0, rfl, rfl, rfl, w0⟩ := open_int Try.underlying3 (hval 0 3 v0 rfl rfl) h0
  obtain ⟨a1, rfl, rfl, rfl, w1⟩ := open_int Try.underlying3 (hval 1 3 v1 rfl rfl) h1
  clear hA0 hval0
  refine (walk W a0 w0 a1 w1).mono fun e W' ⟨he, fr⟩ => ?_
  have bel : Below W.heap.size W W' := fr.below (Nat.le_refl _) (fun _ f => f.elim)
  subst he
  exact ⟨_, rfl, _, _, _, [], _, [], hW', trodAll_mk1 (shut_bool Try.underlying4 _), (trodAll_cons_mk (shut_int Try.underlying3 w0) (trodAll_cons_mk (shut_int Try.underlying3 w1) trodAll_mk0)), rfl, bel.frame _, fun h => by cases h⟩

theorem proved : Rows.PoolNilSaid :=
  OpenClaim.holds_of_wide 6 Try.f6 rfl rfl rfl rfl rfl rfl rfl ⟨rfl, rfl, rfl, rfl, rfl⟩ rfl rfl rfl rfl rfl (by kernel_rfl) Try.func6 (by kernel_rfl)
    (of_decide_eq_true (by kernel_rfl)) (by unfold Func.isWrapper; first | (rw [if_pos (by decide +kernel)]; kernel_rfl) | (rw [if_neg (by decide +kernel)]; exact ⟨rfl, rfl⟩))
    (fun os started H enc _ => lifted os started H enc)
end Go.Proofs.Ytlcdkgbjlkoahaa.poolNil
namespace Go.Proofs.Ytlcdkgbjlkoahaa
theorem poolNil_holds : Rows.PoolNilSaid := poolNil.proved
#print axioms poolNil_holds
end Go.Proofs.Ytlcdkgbjlkoahaa
