
/- Of any numbers, Commit tells the greatest LSN that a majority has, as the document defines it, or the same error, and the examples speak; with no condition but those of the statement's own form. -/
import Derived.Test.YtnjfihmghhjfcaaArgs
import Derived.Test.YtnjfihmghhjfcaaQuSpk
import Derived.Test.YtnjfihmghhjfcaaQuArg
namespace Go.Proofs.Ytnjfihmghhjfcaa.quorumCommits
open Go.ChangeShapes Go.WideShapes Go.ChangeAt Go.RowKit
open Go.ChangeMaps (open_string shut_string)
set_option linter.unusedVariables false

theorem own : ownKnob Try.prog.godebug = none := by kernel_rfl
theorem laidOut : laidOutB Try.prog = true := by kernel_rfl
theorem bytes8 : Try.prog.bytesOf 5 = 1 := by kernel_rfl

open Go.RowKit
open Go.Proofs.Ytnjfihmghhjfcaa.Qu
set_option maxRecDepth 100000 in
set_option maxHeartbeats 4000000 in
theorem walk (w : World) (a0 : Option Addr) (len0 cap0 : Nat) (xs : List Int) (hl0 : len0 = xs.length) (_hb : xs.length ≤ 17592186043904) (hr0 : Is w a0 cap0 xs) (_hw : ∀ x ∈ xs, wfI x) :
    Calls Try.prog 4 #[.slice a0 len0 cap0] w fun e w' => e = .returned (.bool true) ∧ Fr (fun _ => False) w w' := by
  have h1 := commit_any a0 len0 cap0 xs hl0 w hr0
  have h2 : Hid (∀ W, Fr (fun _ => False) w W → Calls Try.prog 19 #[.slice a0 len0 cap0] W fun e w' => e = .returned (.tuple #[.int .i64 (comN xs), .int .i64 (comE xs)]) ∧ w' = W) := fun W f => by
    have := rcommit_any a0 len0 cap0 xs hl0 W (hr0.same f)
    rw [rcom_eq] at this; exact this
  have HSP : Hid (∀ W, Calls Try.prog 15 #[] W fun e w' => e = .returned (.bool true) ∧ Fr (fun _ => False) W w') := quspk_any
  clear hl0 hr0 _hb _hw
  go_enter Try.func4, Try.ntmps4
  go_wp2_with fail
  refine h1.mono ?_
  rintro e w1 ⟨rfl, f1⟩
  go_wp2_with fail
  refine (h2.out _ f1).mono ?_
  rintro e w2 ⟨rfl, rfl⟩
  go_wp2_with fail
  refine (HSP.out _).mono ?_
  rintro e w3 ⟨rfl, f3⟩
  go_wp2
  go_ret
  exact ⟨by simp, f1.seq' f3⟩

set_option maxRecDepth 100000 in
theorem lifted (os : Os) (started : os.Started) (H : Type) (enc : TypeId × Value → H) :
    ReturnsInHanded {} Try.checked os 4 .any (Rows.quorumCommitsSpec.pre6 enc Try.prog Try.f4 Rows.quorumCommitsRow.domain false) (Rows.quorumCommitsSpec.post enc Try.prog Try.f4 false true false false) := by
  refine returnsInHanded_of_change_sized (C := Try.checked) own started (by kernel_rfl) Try.func4
    (ChangeSpec.witness6 (enc := enc) (C := Try.checked) false ⟨#[], #[.slice none 0 0], []⟩ 8 (by kernel_rfl) (by kernel_rfl) (by kernel_rfl) (by kernel_rfl)) ?_
  intro W base args ds gs before hval0 hW hcnd hsz0 _
  have hsz : (DataW.weightsEach Try.prog (Try.f4.params.toList ++ Rows.quorumCommitsSpec.plain.varTypes Try.prog) (ds ++ gs)).all (· ≤ reachBytes) = true := hsz0
  clear hsz0
  have hval : ∀ (j : Nat) t v, Try.f4.params[j]? = some t → args[j]? = some v → Value.okWide Try.prog W .any base t v := hval0
  have hW' := hW
  obtain ⟨p, q, hA0, hV, rfl, hfz, hnd⟩ := hW
  have hA : DataW.TrodAll enc Try.prog W 0 (fun _ => true) true Try.f4.params.toList args.toList ds p := hA0
  rw [Try.params4] at hA hval hsz
  obtain ⟨v0, vs0, d0, ds0, p0, q0, hargs, rfl, rfl, h0, r0⟩ := trodAll_cons hA
  obtain ⟨rfl, rfl, rfl⟩ := trodAll_nil r0
  obtain rfl : args = #[v0] := by cases args; simp_all
  obtain ⟨rfl, rfl⟩ := trodVars_none hV
  obtain ⟨a0, len0, cap0, rfl⟩ := okWide_slice Try.underlying28 (hval 0 28 v0 rfl rfl)
  have k0 := h0
  have lt0 : ∀ x ∈ p0, x.block < W.heap.size := by obtain ⟨m, hm⟩ := k0; exact DataW.trod_lt m _ _ _ hm
  have wz0 : ∀ z ∈ d0.weights Try.prog 28, z ≤ reachBytes := fun z hz => by simpa using List.all_eq_true.1 hsz z (DataW.weights_mem_each (j := 0) rfl rfl z hz)
  obtain ⟨xs0, hl0, hb0, hr0, hw0⟩ : ∃ xs : List Int, len0 = xs.length ∧ xs.length ≤ 17592186043904 ∧ Is W a0 cap0 xs ∧ ∀ x ∈ xs, wfI x := by
    obtain ⟨fuel, hf⟩ := h0
    exact ints_open hf wz0
  clear hA0 hval0
  refine (walk W a0 len0 cap0 xs0 hl0 hb0 hr0 hw0).mono fun e W' ⟨he, fr⟩ => ?_
  have bel : Below W.heap.size W W' := fr.below (Nat.le_refl _) (fun _ f => f.elim)
  subst he
  exact ⟨_, rfl, _, _, _, [], _, [], hW', trodAll_mk1 (shut_bool Try.underlying4 _), (trodAll_cons_mk (Below.trod laidOut (by kernel_rfl) (of_decide_eq_true (by kernel_rfl)) k0 bel lt0) trodAll_mk0), rfl, bel.frame _, fun h => by cases h⟩

theorem proved : Rows.QuorumCommitsSaid :=
  OpenClaim.holds_of_wide 4 Try.f4 rfl rfl rfl rfl rfl rfl rfl ⟨rfl, rfl, rfl, rfl, rfl⟩ rfl rfl rfl rfl rfl (by kernel_rfl) Try.func4 (by kernel_rfl)
    (of_decide_eq_true (by kernel_rfl)) (by unfold Func.isWrapper; first | (rw [if_pos (by decide +kernel)]; kernel_rfl) | (rw [if_neg (by decide +kernel)]; exact ⟨rfl, rfl⟩))
    (fun os started H enc _ => lifted os started H enc)
end Go.Proofs.Ytnjfihmghhjfcaa.quorumCommits
namespace Go.Proofs.Ytnjfihmghhjfcaa
theorem quorumCommits_holds : Rows.QuorumCommitsSaid := quorumCommits.proved
#print axioms quorumCommits_holds
end Go.Proofs.Ytnjfihmghhjfcaa
