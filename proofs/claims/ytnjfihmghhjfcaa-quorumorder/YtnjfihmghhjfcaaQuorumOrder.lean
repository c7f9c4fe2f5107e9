
/- Of any numbers, and of the same numbers turned around by any number of places, Commit tells the same, and the examples speak; with no condition but those of the statement's own form. -/
import Derived.Test.YtnjfihmghhjfcaaArgs
import Derived.Test.YtnjfihmghhjfcaaQuSpk
import Derived.Test.YtnjfihmghhjfcaaQuArg
import Derived.Test.YtnjfihmghhjfcaaQuPl
namespace Go.Proofs.Ytnjfihmghhjfcaa.quorumOrder
open Go.ChangeShapes Go.WideShapes Go.ChangeAt Go.RowKit
open Go.ChangeMaps (open_string shut_string)
set_option linter.unusedVariables false

theorem own : ownKnob Try.prog.godebug = none := by kernel_rfl
theorem laidOut : laidOutB Try.prog = true := by kernel_rfl
theorem bytes8 : Try.prog.bytesOf 5 = 1 := by kernel_rfl

open Go.RowKit
open Go.Proofs.Ytnjfihmghhjfcaa.Qu
set_option maxRecDepth 100000 in
set_option maxHeartbeats 4000000 in
theorem walk (w : World) (a0 : Option Addr) (len0 cap0 : Nat) (xs : List Int) (hl0 : len0 = xs.length) (hb0 : xs.length ≤ 17592186043904) (hr0 : Is w a0 cap0 xs) (_hw : ∀ x ∈ xs, wfI x) (by0 : Int) (w1 : (Lit.int .i64 by0).wf = true) :
    Calls Try.prog 7 #[.slice a0 len0 cap0, .int .i64 by0] w fun e w' => e = .returned (.bool true) ∧ Fr (fun _ => False) w w' := by
  have HSP : Hid (∀ W, Calls Try.prog 15 #[] W fun e w' => e = .returned (.bool true) ∧ Fr (fun _ => False) W w') := quspk_any
  have hle := hr0.le
  have hmx := hr0.max
  rw [← hl0] at hle hb0
  have hby := (show wfI by0 from w1).range
  clear w1 _hw
  by_cases h0 : len0 = 0
  · subst h0
    clear hl0 hr0
    go_enter Try.func7, Try.ntmps7
    go_wp2_with fail
    refine (HSP.out _).mono ?_
    rintro e w3 ⟨rfl, f3⟩
    go_wp2
    go_ret
    exact ⟨rfl, f3⟩
  · have h0' : ((len0 : Int) == 0) = false := by simp; omega
    have h0'' : decide ((len0 : Int) = 0) = false := by simp; omega
    by_cases h1 : by0 < 0
    · clear hl0 hr0
      go_enter Try.func7, Try.ntmps7
      go_wp2_with fail
      refine (HSP.out _).mono ?_
      rintro e w3 ⟨rfl, f3⟩
      go_wp2
      go_ret
      exact ⟨rfl, f3⟩
    · have h1' : decide (by0 < 0) = false := by simpa using h1
      have HC : Hid (∀ W, Fr (fun _ => False) w W → Calls Try.prog 18 #[.slice a0 len0 cap0] W fun e w' => e = .returned (.tuple #[.int .i64 (comN xs), .int .i64 (comE xs)]) ∧ Fr (fun _ => False) W w') := fun W f => commit_any a0 len0 cap0 xs hl0 W (hr0.same f)
      have HS : Hid (∀ W, Fr (fun _ => False) w W → Is W a0 cap0 xs) := fun W f => hr0.same f
      have HL : Hid (len0 = xs.length) := hl0
      obtain ⟨r, hr⟩ : ∃ r : Nat, r = (by0 % (len0 : Int)).toNat := ⟨_, rfl⟩
      have hm0 := Int.emod_nonneg by0 (show (len0 : Int) ≠ 0 by omega)
      have hm1 := Int.emod_lt_of_pos by0 (show (0 : Int) < (len0 : Int) by omega)
      have e1 : by0 % (len0 : Int) = (r : Int) := by omega
      have e2 : by0.tmod (len0 : Int) = (r : Int) := by rw [Int.tmod_eq_emod_of_nonneg (by omega)]; exact e1
      have hrl : r < len0 := by omega
      clear hr hm0 hm1 hl0 hr0
      go_enter Try.func7, Try.ntmps7
      go_wp2
      go_loopw [5, 21] (fun v i wr => ∃ k : Nat, k ≤ len0 ∧ i = .int .i64 k ∧ Hid (wr.ownsRow w.heap.size 3 1 v (turnK xs r k).length ((turnK xs r k).map zI)) ∧ Hid (Fr (fun _ => False) w wr)) (fun _ i _ => len0 - (intOf i).toNat)
      case atStart => exact ⟨0, by omega, rfl, own_nil _ _, Fr.refl _ _⟩
      case round =>
        obtain ⟨k, hk, rfl, HO, HR⟩ := hrel
        by_cases hlt : k < len0
        · obtain ⟨j, hj⟩ : ∃ j, j = (k + r) % len0 := ⟨_, rfl⟩
          have hjl : j < len0 := by rw [hj]; exact Nat.mod_lt _ (by omega)
          have e3 : ((k : Int) + (r : Int)) % (len0 : Int) = (j : Int) := by rw [hj]; simp
          have e4 : ((k : Int) + (r : Int)).tmod (len0 : Int) = (j : Int) := by rw [Int.tmod_eq_emod_of_nonneg (by omega)]; exact e3
          obtain ⟨x, hx⟩ : ∃ x, xs[j]? = some x := ⟨_, List.getElem?_eq_getElem (by have := HL.out; omega)⟩
          obtain ⟨b, off, rfl, hb, hc⟩ := (HS.out _ HR.out).some (by have := HL.out; omega)
          have q0 := hc j x hx
          have hts := turn_succ xs r k
          rw [← HL.out, ← hj, show xs.getD j 0 = x by rw [List.getD_eq_getElem?_getD, hx]; rfl] at hts
          have htl := turn_len xs r k
          obtain ⟨l, hl⟩ : ∃ l, l = turnK xs r k := ⟨_, rfl⟩
          rw [← hl] at HO hts htl
          obtain ⟨p0, c0, rfl, _⟩ := Ir.of HO.out
          obtain ⟨a', c', w', hrun, hown, fa⟩ := app_one x HO.out (by have := HR.out.size; omega) (by omega)
          have F2 : Hid (Fr (fun _ => False) w w') := HR.out.trans fa (fun i hi e => by omega)
          have HOW : Hid (w'.ownsRow w.heap.size 3 1 (.slice a' (l.length + 1) c') (turnK xs r (k + 1)).length ((turnK xs r (k + 1)).map zI)) := by rw [hts]; exact hown
          clear hown fa HO HR hts htl hl hj hx hc
          go_wp2_with (at_builtin; refine append_step rfl _ _ 28 rfl rfl rfl hrun ?_)
          refine ⟨⟨k + 1, by omega, by simp, HOW, F2⟩, by simp [intOf]; omega⟩
        · have hkn : k = len0 := by omega
          subst hkn
          obtain ⟨p, c, rfl, hir⟩ := Ir.of HO.out
          have hp : (turnK xs r k).Perm xs := by
            have := turn_perm xs r (by have := HL.out; omega)
            rwa [← HL.out] at this
          have HC2 : Hid (∀ W, Fr (fun _ => False) wr W → Calls Try.prog 18 #[.slice p (turnK xs r k).length c] W fun e w' => e = .returned (.tuple #[.int .i64 (comN xs), .int .i64 (comE xs)]) ∧ Fr (fun _ => False) W w') := fun W f => by
            have := commit_any p (turnK xs r k).length c _ rfl W (hir.is.same f)
            rw [(com_perm hp).1, (com_perm hp).2] at this; exact this
          clear hir hp HO
          generalize (turnK xs r k).length = tl at *
          go_wp2_with fail
          refine (HC.out _ HR.out).mono ?_
          rintro e w3 ⟨rfl, f3⟩
          go_wp2_with fail
          refine (HC2.out _ f3).mono ?_
          rintro e w4 ⟨rfl, f4⟩
          go_wp2_with fail
          refine (HSP.out _).mono ?_
          rintro e w5 ⟨rfl, f5⟩
          go_wp2
          go_ret
          exact ⟨by simp, ((HR.out.seq' f3).seq' f4).seq' f5⟩

set_option maxRecDepth 100000 in
theorem lifted (os : Os) (started : os.Started) (H : Type) (enc : TypeId × Value → H) :
    ReturnsInHanded {} Try.checked os 7 .any (Rows.quorumOrderSpec.pre6 enc Try.prog Try.f7 Rows.quorumOrderRow.domain false) (Rows.quorumOrderSpec.post enc Try.prog Try.f7 false true false false) := by
  refine returnsInHanded_of_change_sized (C := Try.checked) own started (by kernel_rfl) Try.func7
    (ChangeSpec.witness6 (enc := enc) (C := Try.checked) false ⟨#[], #[.slice none 0 0, .int .i64 0], []⟩ 8 (by kernel_rfl) (by kernel_rfl) (by kernel_rfl) (by kernel_rfl)) ?_
  intro W base args ds gs before hval0 hW hcnd hsz0 _
  have hsz : (DataW.weightsEach Try.prog (Try.f7.params.toList ++ Rows.quorumOrderSpec.plain.varTypes Try.prog) (ds ++ gs)).all (· ≤ reachBytes) = true := hsz0
  clear hsz0
  have hval : ∀ (j : Nat) t v, Try.f7.params[j]? = some t → args[j]? = some v → Value.okWide Try.prog W .any base t v := hval0
  have hW' := hW
  obtain ⟨p, q, hA0, hV, rfl, hfz, hnd⟩ := hW
  have hA : DataW.TrodAll enc Try.prog W 0 (fun _ => true) true Try.f7.params.toList args.toList ds p := hA0
  rw [Try.params7] at hA hval hsz
  obtain ⟨v0, vs0, d0, ds0, p0, q0, hargs, rfl, rfl, h0, r0⟩ := trodAll_cons hA
  obtain ⟨v1, vs1, d1, ds1, p1, q1, rfl, rfl, rfl, h1, r1⟩ := trodAll_cons r0
  obtain ⟨rfl, rfl, rfl⟩ := trodAll_nil r1
  obtain rfl : args = #[v0, v1] := by cases args; simp_all
  obtain ⟨rfl, rfl⟩ := trodVars_none hV
  obtain ⟨a0, len0, cap0, rfl⟩ := okWide_slice Try.underlying28 (hval 0 28 v0 rfl rfl)
  have k0 := h0
  have lt0 : ∀ x ∈ p0, x.block < W.heap.size := by obtain ⟨m, hm⟩ := k0; exact DataW.trod_lt m _ _ _ hm
  have wz0 : ∀ z ∈ d0.weights Try.prog 28, z ≤ reachBytes := fun z hz => by simpa using List.all_eq_true.1 hsz z (DataW.weights_mem_each (j := 0) rfl rfl z hz)
  obtain ⟨xs0, hl0, hb0, hr0, hw0⟩ : ∃ xs : List Int, len0 = xs.length ∧ xs.length ≤ 17592186043904 ∧ Is W a0 cap0 xs ∧ ∀ x ∈ xs, wfI x := by
    obtain ⟨fuel, hf⟩ := h0
    exact ints_open hf wz0
  obtain ⟨a1, rfl, rfl, rfl, w1⟩ := open_int Try.underlying3 (hval 1 3 v1 rfl rfl) h1
  clear hA0 hval0
  refine (walk W a0 len0 cap0 xs0 hl0 hb0 hr0 hw0 a1 w1).mono fun e W' ⟨he, fr⟩ => ?_
  have bel : Below W.heap.size W W' := fr.below (Nat.le_refl _) (fun _ f => f.elim)
  subst he
  exact ⟨_, rfl, _, _, _, [], _, [], hW', trodAll_mk1 (shut_bool Try.underlying4 _), (trodAll_cons_mk (Below.trod laidOut (by kernel_rfl) (of_decide_eq_true (by kernel_rfl)) k0 bel lt0) (trodAll_cons_mk (shut_int Try.underlying3 w1) trodAll_mk0)), rfl, bel.frame _, fun h => by cases h⟩

theorem proved : Rows.QuorumOrderSaid :=
  OpenClaim.holds_of_wide 7 Try.f7 rfl rfl rfl rfl rfl rfl rfl ⟨rfl, rfl, rfl, rfl, rfl⟩ rfl rfl rfl rfl rfl (by kernel_rfl) Try.func7 (by kernel_rfl)
    (of_decide_eq_true (by kernel_rfl)) (by unfold Func.isWrapper; first | (rw [if_pos (by decide +kernel)]; kernel_rfl) | (rw [if_neg (by decide +kernel)]; exact ⟨rfl, rfl⟩))
    (fun os started H enc _ => lifted os started H enc)
end Go.Proofs.Ytnjfihmghhjfcaa.quorumOrder
namespace Go.Proofs.Ytnjfihmghhjfcaa
theorem quorumOrder_holds : Rows.QuorumOrderSaid := quorumOrder.proved
#print axioms quorumOrder_holds
end Go.Proofs.Ytnjfihmghhjfcaa
