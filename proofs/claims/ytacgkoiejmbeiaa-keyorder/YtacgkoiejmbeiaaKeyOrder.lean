/- KeyOrder, for every three texts: key.Compare is one order (what it tells of two turned round is its negative, it is 0 just for the same text, and it goes on from two to three), and the call answers true; no condition. -/
import Derived.Test.YtacgkoiejmbeiaaArgs
import Derived.Test.YtacgkoiejmbeiaaKPlc
namespace Go.Proofs.Ytacgkoiejmbeiaa.keyOrder
open Go.ChangeShapes Go.WideShapes Go.ChangeAt Go.RowKit
open Go.ChangeMaps (open_string shut_string)
set_option linter.unusedVariables false

theorem own : ownKnob Try.prog.godebug = none := by kernel_rfl
theorem laidOut : laidOutB Try.prog = true := by kernel_rfl
theorem bytes8 : Try.prog.bytesOf 5 = 1 := by kernel_rfl

set_option maxHeartbeats 1000000 in
theorem walk (w : World) (s0 : ByteArray) (z0 : s0.size ≤ 140737488351232) (s1 : ByteArray) (z1 : s1.size ≤ 140737488351232) (s2 : ByteArray) (z2 : s2.size ≤ 140737488351232) :
    Calls Try.prog 6 #[.string s0, .string s1, .string s2] w fun e w' => e = .returned (.bool true) ∧ Fr (fun _ => False) w w' := by
  have m0 : s0.size ≤ maxLen := by unfold maxLen; omega
  have m1 : s1.size ≤ maxLen := by unfold maxLen; omega
  have m2 : s2.size ≤ maxLen := by unfold maxLen; omega
  have v1 := cpl_vals (bsOf s0) (bsOf s1)
  have v2 := cpl_vals (bsOf s1) (bsOf s2)
  have v3 := cpl_vals (bsOf s0) (bsOf s2)
  have t := cpl_trans (bsOf s0) (bsOf s1) (bsOf s2)
  have nn := cpl_neg (bsOf s0) (bsOf s1)
  have e0 : (s0.toList == s1.toList) = (cpl (bsOf s0) (bsOf s1) == 0) := by rw [str_beq, cpl_beq]
  have c1 := compare_any s0 s1 m0 m1
  have c2 := compare_any s1 s2 m1 m2
  have c3 := compare_any s0 s2 m0 m2
  have c4 := compare_any s1 s0 m1 m0
  rw [nn] at c4
  clear nn
  obtain ⟨x, hx⟩ : ∃ x, x = cpl (bsOf s0) (bsOf s1) := ⟨_, rfl⟩
  obtain ⟨y, hy⟩ : ∃ x, x = cpl (bsOf s1) (bsOf s2) := ⟨_, rfl⟩
  obtain ⟨z, hz⟩ : ∃ x, x = cpl (bsOf s0) (bsOf s2) := ⟨_, rfl⟩
  rw [← hx] at v1 t e0 c1 c4
  rw [← hy] at v2 t c2
  rw [← hz] at v3 t c3
  clear hx hy hz z0 z1 z2
  have x1 : -1 ≤ x := by omega
  have x2 : x ≤ 1 := by omega
  clear v1 v2 v3
  by_cases h : x ≤ 0 ∧ y ≤ 0
  · obtain ⟨h1, h2⟩ := h
    have h3 : z ≤ 0 := t h1 h2
    clear t
    go_enter Try.func6, Try.ntmps6
    go_wp2_with fail
    refine (c1 _).mono ?_
    rintro e w1 ⟨rfl, f1⟩
    go_wp2_with fail
    refine (c2 _).mono ?_
    rintro e w2 ⟨rfl, f2⟩
    go_wp2_with fail
    refine (c4 _).mono ?_
    rintro e w3 ⟨rfl, f3⟩
    go_wp2_with fail
    refine (c3 _).mono ?_
    rintro e w4 ⟨rfl, f4⟩
    go_wp2_with fail
    refine (kspeaks_any _).mono ?_
    rintro e w5 ⟨rfl, f5⟩
    go_wp2
    go_ret
    exact ⟨rfl, (f1.seq f2).seq ((f3.seq f4).seq f5)⟩
  · clear t
    by_cases h1 : x ≤ 0
    · have h2 : ¬ y ≤ 0 := by omega
      have h3 : decide (y ≤ 0) = false := by simpa using h2
      clear h
      go_enter Try.func6, Try.ntmps6
      go_wp2_with fail
      refine (c1 _).mono ?_
      rintro e w1 ⟨rfl, f1⟩
      go_wp2_with fail
      refine (c2 _).mono ?_
      rintro e w2 ⟨rfl, f2⟩
      go_wp2_with fail
      refine (c4 _).mono ?_
      rintro e w3 ⟨rfl, f3⟩
      go_wp2_with fail
      refine (kspeaks_any _).mono ?_
      rintro e w5 ⟨rfl, f5⟩
      go_wp2
      go_ret
      exact ⟨rfl, (f1.seq f2).seq (f3.seq f5)⟩
    · have h3 : decide (x ≤ 0) = false := by simpa using h1
      clear h
      go_enter Try.func6, Try.ntmps6
      go_wp2_with fail
      refine (c1 _).mono ?_
      rintro e w1 ⟨rfl, f1⟩
      go_wp2_with fail
      refine (c2 _).mono ?_
      rintro e w2 ⟨rfl, f2⟩
      go_wp2_with fail
      refine (c4 _).mono ?_
      rintro e w3 ⟨rfl, f3⟩
      go_wp2_with fail
      refine (kspeaks_any _).mono ?_
      rintro e w5 ⟨rfl, f5⟩
      go_wp2
      go_ret
      exact ⟨rfl, (f1.seq f2).seq (f3.seq f5)⟩

set_option maxRecDepth 100000 in
theorem lifted (os : Os) (started : os.Started) (H : Type) (enc : TypeId × Value → H) :
    ReturnsInHanded {} Try.checked os 6 .any (Rows.keyOrderSpec.pre6 enc Try.prog Try.f6 Rows.keyOrderRow.domain false) (Rows.keyOrderSpec.post enc Try.prog Try.f6 false true false false) := by
  refine returnsInHanded_of_change_sized (C := Try.checked) own started (by kernel_rfl) Try.func6
    (ChangeSpec.witness6 (enc := enc) (C := Try.checked) false ⟨#[], #[.string ByteArray.empty, .string ByteArray.empty, .string ByteArray.empty], []⟩ 8 (by kernel_rfl) (by kernel_rfl) (by kernel_rfl) (by kernel_rfl)) ?_
  intro W base args ds gs before hval0 hW hcnd hsz0 _
  have hsz : (DataW.weightsEach Try.prog (Try.f6.params.toList ++ Rows.keyOrderSpec.plain.varTypes Try.prog) (ds ++ gs)).all (· ≤ reachBytes) = true := hsz0
  clear hsz0
  have hval : ∀ (j : Nat) t v, Try.f6.params[j]? = some t → args[j]? = some v → Value.okWide Try.prog W .any base t v := hval0
  have hW' := hW
  obtain ⟨p, q, hA0, hV, rfl, hfz, hnd⟩ := hW
  have hA : DataW.TrodAll enc Try.prog W 0 (fun _ => true) true Try.f6.params.toList args.toList ds p := hA0
  rw [Try.params6] at hA hval hsz
  obtain ⟨v0, vs0, d0, ds0, p0, q0, hargs, rfl, rfl, h0, r0⟩ := trodAll_cons hA
  obtain ⟨v1, vs1, d1, ds1, p1, q1, rfl, rfl, rfl, h1, r1⟩ := trodAll_cons r0
  obtain ⟨v2, vs2, d2, ds2, p2, q2, rfl, rfl, rfl, h2, r2⟩ := trodAll_cons r1
  obtain ⟨rfl, rfl, rfl⟩ := trodAll_nil r2
  obtain rfl : args = #[v0, v1, v2] := by cases args; simp_all
  obtain ⟨rfl, rfl⟩ := trodVars_none hV
  obtain ⟨s0, rfl, rfl, rfl, w0⟩ := open_string Try.underlying9 (hval 0 9 v0 rfl rfl) h0
  have z0 : s0.size ≤ 140737488351232 := by
    have := sized_string hsz (j := 0) (t := 9) rfl rfl
    simpa [reachBytes] using this
  obtain ⟨s1, rfl, rfl, rfl, w1⟩ := open_string Try.underlying9 (hval 1 9 v1 rfl rfl) h1
  have z1 : s1.size ≤ 140737488351232 := by
    have := sized_string hsz (j := 1) (t := 9) rfl rfl
    simpa [reachBytes] using this
  obtain ⟨s2, rfl, rfl, rfl, w2⟩ := open_string Try.underlying9 (hval 2 9 v2 rfl rfl) h2
  have z2 : s2.size ≤ 140737488351232 := by
    have := sized_string hsz (j := 2) (t := 9) rfl rfl
    simpa [reachBytes] using this
  clear hA0 hval0
  refine (walk W s0 z0 s1 z1 s2 z2).mono fun e W' ⟨he, fr⟩ => ?_
  have bel : Below W.heap.size W W' := fr.below (Nat.le_refl _) (fun _ f => f.elim)
  subst he
  exact ⟨_, rfl, _, _, _, [], _, [], hW', trodAll_mk1 (shut_bool Try.underlying4 _), (trodAll_cons_mk (shut_string Try.underlying9 w0) (trodAll_cons_mk (shut_string Try.underlying9 w1) (trodAll_cons_mk (shut_string Try.underlying9 w2) trodAll_mk0))), rfl, bel.frame _, fun h => by cases h⟩

theorem proved : Rows.KeyOrderSaid :=
  OpenClaim.holds_of_wide 6 Try.f6 rfl rfl rfl rfl rfl rfl rfl ⟨rfl, rfl, rfl, rfl, rfl⟩ rfl rfl rfl rfl rfl (by kernel_rfl) Try.func6 (by kernel_rfl)
    (of_decide_eq_true (by kernel_rfl)) (by unfold Func.isWrapper; first | (rw [if_pos (by decide +kernel)]; kernel_rfl) | (rw [if_neg (by decide +kernel)]; exact ⟨rfl, rfl⟩))
    (fun os started H enc _ => lifted os started H enc)
end Go.Proofs.Ytacgkoiejmbeiaa.keyOrder
namespace Go.Proofs.Ytacgkoiejmbeiaa
theorem keyOrder_holds : Rows.KeyOrderSaid := keyOrder.proved
#print axioms keyOrder_holds
end Go.Proofs.Ytacgkoiejmbeiaa
