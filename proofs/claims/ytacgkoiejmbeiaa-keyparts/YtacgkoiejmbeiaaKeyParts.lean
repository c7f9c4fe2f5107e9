/- KeyParts, for every two texts: what key.Between tells is greater than the one, not greater than the other, one of its beginnings, and no shorter beginning is greater; where the one is not less it is an error; the call answers true; no condition. -/
import Derived.Test.YtacgkoiejmbeiaaArgs
import Derived.Test.YtacgkoiejmbeiaaKPlc
namespace Go.Proofs.Ytacgkoiejmbeiaa.keyParts
open Go.ChangeShapes Go.WideShapes Go.ChangeAt Go.RowKit
open Go.ChangeMaps (open_string shut_string)
set_option linter.unusedVariables false

theorem own : ownKnob Try.prog.godebug = none := by kernel_rfl
theorem laidOut : laidOutB Try.prog = true := by kernel_rfl
theorem bytes8 : Try.prog.bytesOf 5 = 1 := by kernel_rfl

theorem ext_size (b : ByteArray) (n : Nat) (h : n ≤ b.size) : (b.extract 0 n).size = n := by simp [ByteArray.size_extract]; omega
set_option maxHeartbeats 1000000 in
theorem walk (w : World) (s0 : ByteArray) (z0 : s0.size ≤ 140737488351232) (s1 : ByteArray) (z1 : s1.size ≤ 140737488351232) :
    Calls Try.prog 7 #[.string s0, .string s1] w fun e w' => e = .returned (.bool true) ∧ Fr (fun _ => False) w w' := by
  have m0 : s0.size ≤ maxLen := by unfold maxLen; omega
  have m1 : s1.size ≤ maxLen := by unfold maxLen; omega
  have rc := rcompare_any s0 s1 m0 m1
  by_cases hc : cpl (bsOf s0) (bsOf s1) = -1
  · have HC : Hid (cpl (bsOf s0) (bsOf s1) = -1) := hc
    have hg := cpl_take_gt _ _ hc
    have hn := cpl_take_le (bsOf s0) (bsOf s1) (cmn (bsOf s0) (bsOf s1)) (Nat.le_refl _)
    have hb : cpl ((bsOf s1).take (cmn (bsOf s0) (bsOf s1) + 1)) (bsOf s1) ≤ 0 := cpl_take_no (bsOf s1) (bsOf s1) _ (by rw [cpl_refl]; exact Int.le_refl 0)
    have bt := between_yes s0 s1 z0 z1 hc
    rw [hc] at rc
    rw [bsOf_length] at hg
    obtain ⟨n, hnn⟩ : ∃ n, n = cmn (bsOf s0) (bsOf s1) := ⟨_, rfl⟩
    rw [← hnn] at hg hn hb bt
    clear hnn hc
    obtain ⟨hg, hl⟩ := hg
    rw [← bs_extract] at hg hn hb
    have hsz := ext_size s1 (n + 1) (by omega)
    have q1 := rcompare_any (s1.extract 0 (n + 1)) s0 (by unfold maxLen; omega) m0
    have q2 := rcompare_any (s1.extract 0 (n + 1)) s1 (by unfold maxLen; omega) m1
    have q3 := rcompare_any (s1.extract 0 n) s0 (by unfold maxLen; rw [ext_size s1 n (by omega)]; omega) m0
    rw [hg] at q1
    obtain ⟨c2, hc2⟩ : ∃ c, c = cpl (bsOf (s1.extract 0 (n + 1))) (bsOf s1) := ⟨_, rfl⟩
    rw [← hc2] at hb q2
    obtain ⟨c3, hc3⟩ : ∃ c, c = cpl (bsOf (s1.extract 0 n)) (bsOf s0) := ⟨_, rfl⟩
    rw [← hc3] at hn q3
    clear hc2 hc3 hg
    have Q3 : Hid (∀ w, Calls Try.prog 15 #[.string (s1.extract 0 n), .string s0] w fun e w' => e = .returned (.int .i64 c3) ∧ Fr (fun _ => False) w w') := q3
    clear q3
    go_enter Try.func7, Try.ntmps7
    go_wp2_with fail
    refine (bt _).mono ?_
    rintro e w1 ⟨rfl, f1⟩
    go_wp2_with fail
    refine (rc _).mono ?_
    rintro e w2 ⟨rfl, f2⟩
    go_wp2_with fail
    refine (q1 _).mono ?_
    rintro e w3 ⟨rfl, f3⟩
    go_wp2_with fail
    refine (q2 _).mono ?_
    rintro e w4 ⟨rfl, f4⟩
    go_wp2_with fail
    refine (Q3.out _).mono ?_
    rintro e w5 ⟨rfl, f5⟩
    go_wp2_with fail
    refine (kspeaks_any _).mono ?_
    rintro e w6 ⟨rfl, f6⟩
    go_wp2
    go_ret
    exact ⟨rfl, (f1.seq f2).seq ((f3.seq f4).seq (f5.seq f6))⟩
  · have hc2 : 0 ≤ cpl (bsOf s0) (bsOf s1) := by
      have := cpl_vals (bsOf s0) (bsOf s1); omega
    have bt := between_no s0 s1 z0 z1 hc2
    obtain ⟨c, hcc⟩ : ∃ c, c = cpl (bsOf s0) (bsOf s1) := ⟨_, rfl⟩
    rw [← hcc] at hc2 rc
    clear hcc hc
    go_enter Try.func7, Try.ntmps7
    go_wp2_with fail
    refine (bt _).mono ?_
    rintro e w1 ⟨rfl, f1⟩
    go_wp2_with fail
    refine (rc _).mono ?_
    rintro e w2 ⟨rfl, f2⟩
    go_wp2_with fail
    refine (kspeaks_any _).mono ?_
    rintro e w6 ⟨rfl, f6⟩
    go_wp2
    go_ret
    exact ⟨rfl, (f1.seq f2).seq f6⟩

set_option maxRecDepth 100000 in
theorem lifted (os : Os) (started : os.Started) (H : Type) (enc : TypeId × Value → H) :
    ReturnsInHanded {} Try.checked os 7 .any (Rows.keyPartsSpec.pre6 enc Try.prog Try.f7 Rows.keyPartsRow.domain false) (Rows.keyPartsSpec.post enc Try.prog Try.f7 false true false false) := by
  refine returnsInHanded_of_change_sized (C := Try.checked) own started (by kernel_rfl) Try.func7
    (ChangeSpec.witness6 (enc := enc) (C := Try.checked) false ⟨#[], #[.string ByteArray.empty, .string ByteArray.empty], []⟩ 8 (by kernel_rfl) (by kernel_rfl) (by kernel_rfl) (by kernel_rfl)) ?_
  intro W base args ds gs before hval0 hW hcnd hsz0 _
  have hsz : (DataW.weightsEach Try.prog (Try.f7.params.toList ++ Rows.keyPartsSpec.plain.varTypes Try.prog) (ds ++ gs)).all (· ≤ reachBytes) = true := hsz0
  clear hsz0
  have hval : ∀ (j : Nat) t v, Try.f7.params[j]? = some t → args[j]? = some v → Value.okWide Try.prog W .any base t v := hval0
  have hW' := hW
  obtain ⟨p, q, hA0, hV, rfl, hfz, hnd⟩ := hW
  have hA : DataW.TrodAll enc Try.prog W 0 (fun _ => true) true Try.f7.params.toList args.toList ds p := hA0
  rw [Try.params7] at hA hval hsz
  obtain ⟨v0, vs0, d0, ds0, p0, q0, hargs, rfl, rfl, h0, r0⟩ := trodAll_cons hA
  obtain ⟨v1, vs1, d1, ds1, p1, q1, rfl, rfl, rfl, h1, r1⟩ := trodAll_cons r0
  obtain ⟨rfl, rfl, rfl⟩ := trodAll_nil r1
  obtain rfl : args = #[v0, v1] := by cases args; simp_all
  obtain ⟨rfl, rfl⟩ := trodVars_none hV
  obtain ⟨s0, rfl, rfl, rfl, w0⟩ := open_string Try.underlying9 (hval 0 9 v0 rfl rfl) h0
  have z0 : s0.size ≤ 140737488351232 := by
    have := sized_string hsz (j := 0) (t := 9) rfl rfl
    simpa [reachBytes] using this
  obtain ⟨s1, rfl, rfl, rfl, w1⟩ := open_string Try.underlying9 (hval 1 9 v1 rfl rfl) h1
  have z1 : s1.size ≤ 140737488351232 := by
    have := sized_string hsz (j := 1) (t := 9) rfl rfl
    simpa [reachBytes] using this
  clear hA0 hval0
  refine (walk W s0 z0 s1 z1).mono fun e W' ⟨he, fr⟩ => ?_
  have bel : Below W.heap.size W W' := fr.below (Nat.le_refl _) (fun _ f => f.elim)
  subst he
  exact ⟨_, rfl, _, _, _, [], _, [], hW', trodAll_mk1 (shut_bool Try.underlying4 _), (trodAll_cons_mk (shut_string Try.underlying9 w0) (trodAll_cons_mk (shut_string Try.underlying9 w1) trodAll_mk0)), rfl, bel.frame _, fun h => by cases h⟩

theorem proved : Rows.KeyPartsSaid :=
  OpenClaim.holds_of_wide 7 Try.f7 rfl rfl rfl rfl rfl rfl rfl ⟨rfl, rfl, rfl, rfl, rfl⟩ rfl rfl rfl rfl rfl (by kernel_rfl) Try.func7 (by kernel_rfl)
    (of_decide_eq_true (by kernel_rfl)) (by unfold Func.isWrapper; first | (rw [if_pos (by decide +kernel)]; kernel_rfl) | (rw [if_neg (by decide +kernel)]; exact ⟨rfl, rfl⟩))
    (fun os started H enc _ => lifted os started H enc)
end Go.Proofs.Ytacgkoiejmbeiaa.keyParts
namespace Go.Proofs.Ytacgkoiejmbeiaa
theorem keyParts_holds : Rows.KeyPartsSaid := keyParts.proved
#print axioms keyParts_holds
end Go.Proofs.Ytacgkoiejmbeiaa
