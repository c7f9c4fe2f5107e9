/- KeyPrefix, for every two texts: the second begins with the first just if it is not less than it and less than what key.Above tells, where that tells one; the call answers true; no condition. -/
import Derived.Test.YtacgkoiejmbeiaaArgs
import Derived.Test.YtacgkoiejmbeiaaKPlc
namespace Go.Proofs.Ytacgkoiejmbeiaa.keyPrefix
open Go.ChangeShapes Go.WideShapes Go.ChangeAt Go.RowKit
open Go.ChangeMaps (open_string shut_string)
set_option linter.unusedVariables false

theorem own : ownKnob Try.prog.godebug = none := by kernel_rfl
theorem laidOut : laidOutB Try.prog = true := by kernel_rfl
theorem bytes8 : Try.prog.bytesOf 5 = 1 := by kernel_rfl

theorem begins_iff (p s : ByteArray) : (p.size ≤ s.size ∧ (s.extract 0 p.size).toList = p.toList) ↔ ((bsOf p).length ≤ (bsOf s).length ∧ (bsOf s).take (bsOf p).length = bsOf p) := by
  rw [bsOf_length, bsOf_length, ← bs_extract]
  have e : (s.extract 0 p.size).toList = p.toList ↔ bsOf (s.extract 0 p.size) = bsOf p := by
    have := str_beq (s.extract 0 p.size) p
    rw [Bool.eq_iff_iff] at this
    simpa using this
  rw [e]
theorem up_octs (l : List Nat) (h : octs l) (h0 : low l ≠ 0) : octs (up l) := by
  have := low_at l h0
  intro x hx
  rcases List.mem_append.mp hx with k | k
  · exact octs_take h _ x k
  · simp only [List.mem_singleton] at k; omega
theorem bsOf_strOf (l : List Nat) (h : octs l) : bsOf (strOf l) = l := by
  have e : strOf (bsOf (strOf l)) = strOf l := strOf_bsOf _
  have := congrArg ByteArray.toList e
  have b := str_eq (bsOf_octs (strOf l)) h
  rw [this] at b
  simpa using b
theorem abv_size (s : ByteArray) : (abv s).size ≤ s.size + 1 := by
  by_cases h : low (bsOf s) = 0
  · rw [(abv_no h).1]; show 0 ≤ _; omega
  · rw [(abv_yes h).1]
    have : (strOf (up (bsOf s))).size = (up (bsOf s)).length := by
      rw [Lib.size_eq]; simp [strOf]
    rw [this]; simp [up, bsOf_length]; omega

set_option maxHeartbeats 1000000 in
theorem walk (w : World) (s0 : ByteArray) (z0 : s0.size ≤ 140737488351232) (s1 : ByteArray) (z1 : s1.size ≤ 140737488351232) :
    Calls Try.prog 8 #[.string s0, .string s1] w fun e w' => e = .returned (.bool true) ∧ Fr (fun _ => False) w w' := by
  have m0 : s0.size ≤ maxLen := by unfold maxLen; omega
  have m1 : s1.size ≤ maxLen := by unfold maxLen; omega
  have rc := rcompare_any s1 s0 m1 m0
  have rc2 := rcompare_any s1 (abv s0) m1 (by have := abv_size s0; unfold maxLen; omega)
  have hup := up_begins (bsOf s0) (bsOf s1) (bsOf_octs s1) (bsOf_octs s0)
  rw [← begins_iff] at hup
  have hb : abvB s0 = decide (low (bsOf s0) ≠ 0) := rfl
  have ha : low (bsOf s0) ≠ 0 → bsOf (abv s0) = up (bsOf s0) := fun h => by rw [(abv_yes h).1, bsOf_strOf _ (up_octs _ (bsOf_octs s0) h)]
  have hup2 : (s0.size ≤ s1.size ∧ (s1.extract 0 s0.size).toList = s0.toList) ↔ (0 ≤ cpl (bsOf s1) (bsOf s0) ∧ (abvB s0 = false ∨ cpl (bsOf s1) (bsOf (abv s0)) < 0)) := by
    rw [hup, hb]
    by_cases h : low (bsOf s0) = 0
    · simp [h]
    · rw [ha h]; simp [h]
  clear hup ha hb
  have ab := above_any s0 z0
  obtain ⟨u, hu⟩ : ∃ u, u = abv s0 := ⟨_, rfl⟩
  obtain ⟨ok, hok⟩ : ∃ u, u = abvB s0 := ⟨_, rfl⟩
  rw [← hu] at rc2 hup2 ab
  rw [← hok] at hup2 ab
  obtain ⟨c, hc⟩ : ∃ c, c = cpl (bsOf s1) (bsOf s0) := ⟨_, rfl⟩
  obtain ⟨d, hd⟩ : ∃ c, c = cpl (bsOf s1) (bsOf u) := ⟨_, rfl⟩
  rw [← hc] at rc hup2
  rw [← hd] at rc2 hup2
  clear hu hok hc hd
  have HU : Hid ((s0.size ≤ s1.size ∧ (s1.extract 0 s0.size).toList = s0.toList) ↔ (0 ≤ c ∧ (ok = false ∨ d < 0))) := hup2
  clear hup2
  obtain ⟨x, hx⟩ : ∃ x, x = ((s1.extract 0 s0.size).toList == s0.toList) := ⟨_, rfl⟩
  have HX : Hid ((s0.size ≤ s1.size ∧ x = true) ↔ (0 ≤ c ∧ (ok = false ∨ d < 0))) := by
    show _ ↔ _
    rw [← HU.out, hx]; simp
  have hx' : ((s1.extract 0 s0.size).toList == s0.toList) = x := hx.symm
  clear HU hx
  have H := HX.out
  clear HX
  by_cases a1 : s0.size ≤ s1.size
  · have a2 : (s0.size : Int) ≤ (s1.size : Int) := by omega
    by_cases b1 : 0 ≤ c
    · cases ok with
      | false =>
        have e : x = true := by simpa [a1, b1] using H
        subst e
        clear H
        go_enter Try.func8, Try.ntmps8
        go_wp2_with fail
        refine (ab _).mono ?_
        rintro e w1 ⟨rfl, f1⟩
        go_wp2_with fail
        refine (rc _).mono ?_
        rintro e w2 ⟨rfl, f2⟩
        go_wp2_with fail
        refine (kspeaks_any _).mono ?_
        rintro e w6 ⟨rfl, f6⟩
        go_wp2
        go_ret
        exact ⟨rfl, (f1.seq f2).seq f6⟩
      | true =>
        have e : x = decide (d < 0) := by
          have : x = true ↔ d < 0 := by simpa [a1, b1] using H
          rw [Bool.eq_iff_iff]; simpa using this
        subst e
        clear H
        go_enter Try.func8, Try.ntmps8
        go_wp2_with fail
        refine (ab _).mono ?_
        rintro e w1 ⟨rfl, f1⟩
        go_wp2_with fail
        refine (rc _).mono ?_
        rintro e w2 ⟨rfl, f2⟩
        go_wp2_with fail
        refine (rc2 _).mono ?_
        rintro e w3 ⟨rfl, f3⟩
        go_wp2_with fail
        refine (kspeaks_any _).mono ?_
        rintro e w6 ⟨rfl, f6⟩
        go_wp2
        go_ret
        exact ⟨rfl, (f1.seq f2).seq (f3.seq f6)⟩
    · have e : x = false := by
        have : ¬ x = true := by simpa [a1, b1] using H
        simpa using this
      subst e
      have b2 : decide (0 ≤ c) = false := by simpa using b1
      clear H
      go_enter Try.func8, Try.ntmps8
      go_wp2_with fail
      refine (ab _).mono ?_
      rintro e w1 ⟨rfl, f1⟩
      go_wp2_with fail
      refine (rc _).mono ?_
      rintro e w2 ⟨rfl, f2⟩
      go_wp2_with fail
      refine (kspeaks_any _).mono ?_
      rintro e w6 ⟨rfl, f6⟩
      go_wp2
      go_ret
      exact ⟨rfl, (f1.seq f2).seq f6⟩
  · have a2 : decide ((s0.size : Int) ≤ (s1.size : Int)) = false := by simp; omega
    have H2 : ¬ (0 ≤ c ∧ (ok = false ∨ d < 0)) := by
      rw [← H]; exact fun h => a1 h.1
    clear H
    by_cases b1 : 0 ≤ c
    · have H3 : ok = true ∧ ¬ d < 0 := by
        cases ok <;> simp_all
      obtain ⟨rfl, h4⟩ := H3
      clear H2
      have h5 : decide (d < 0) = false := by simpa using h4
      go_enter Try.func8, Try.ntmps8
      go_wp2_with fail
      refine (ab _).mono ?_
      rintro e w1 ⟨rfl, f1⟩
      go_wp2_with fail
      refine (rc _).mono ?_
      rintro e w2 ⟨rfl, f2⟩
      go_wp2_with fail
      refine (rc2 _).mono ?_
      rintro e w3 ⟨rfl, f3⟩
      go_wp2_with fail
      refine (kspeaks_any _).mono ?_
      rintro e w6 ⟨rfl, f6⟩
      go_wp2
      go_ret
      exact ⟨rfl, (f1.seq f2).seq (f3.seq f6)⟩
    · have b2 : decide (0 ≤ c) = false := by simpa using b1
      clear H2
      go_enter Try.func8, Try.ntmps8
      go_wp2_with fail
      refine (ab _).mono ?_
      rintro e w1 ⟨rfl, f1⟩
      go_wp2_with fail
      refine (rc _).mono ?_
      rintro e w2 ⟨rfl, f2⟩
      go_wp2_with fail
      refine (kspeaks_any _).mono ?_
      rintro e w6 ⟨rfl, f6⟩
      go_wp2
      go_ret
      exact ⟨rfl, (f1.seq f2).seq f6⟩

set_option maxRecDepth 100000 in
theorem lifted (os : Os) (started : os.Started) (H : Type) (enc : TypeId × Value → H) :
    ReturnsInHanded {} Try.checked os 8 .any (Rows.keyPrefixSpec.pre6 enc Try.prog Try.f8 Rows.keyPrefixRow.domain false) (Rows.keyPrefixSpec.post enc Try.prog Try.f8 false true false false) := by
  refine returnsInHanded_of_change_sized (C := Try.checked) own started (by kernel_rfl) Try.func8
    (ChangeSpec.witness6 (enc := enc) (C := Try.checked) false ⟨#[], #[.string ByteArray.empty, .string ByteArray.empty], []⟩ 8 (by kernel_rfl) (by kernel_rfl) (by kernel_rfl) (by kernel_rfl)) ?_
  intro W base args ds gs before hval0 hW hcnd hsz0 _
  have hsz : (DataW.weightsEach Try.prog (Try.f8.params.toList ++ Rows.keyPrefixSpec.plain.varTypes Try.prog) (ds ++ gs)).all (· ≤ reachBytes) = true := hsz0
  clear hsz0
  have hval : ∀ (j : Nat) t v, Try.f8.params[j]? = some t → args[j]? = some v → Value.okWide Try.prog W .any base t v := hval0
  have hW' := hW
  obtain ⟨p, q, hA0, hV, rfl, hfz, hnd⟩ := hW
  have hA : DataW.TrodAll enc Try.prog W 0 (fun _ => true) true Try.f8.params.toList args.toList ds p := hA0
  rw [Try.params8] at hA hval hsz
  obtain ⟨v0, vs0, d0, ds0, p0, q0, hargs, rfl, rfl, h0, r0⟩ := trodAll_cons hA
  obtain ⟨v1, vs1, d1, ds1, p1, q1, rfl, rfl, rfl, h1, r1⟩ := trodAll_cons r0
  obtain ⟨rfl, rfl, rfl⟩ := trodAll_nil r1
  obtain rfl : args = #[v0, v1] := by cases args; simp_all
  obtain ⟨rfl, rfl⟩ := trodVars_none hV
  obtain ⟨s0, rfl, rfl, rfl, w0⟩ := open_string Try.underlying9 (hval 0 9 v0 rfl rfl) h0
  have z0 : s0.size ≤ 140737488351232 := by
    have := sized_string hsz (j := 0) (t := 9) rfl rfl
    simpa [reachBytes] using this
  obtain ⟨s1, rfl, rfl, rfl, w1⟩ := open_string Try.underlying9 (hval 1 9 v1 rfl rfl) h1
  have z1 : s1.size ≤ 140737488351232 := by
    have := sized_string hsz (j := 1) (t := 9) rfl rfl
    simpa [reachBytes] using this
  clear hA0 hval0
  refine (walk W s0 z0 s1 z1).mono fun e W' ⟨he, fr⟩ => ?_
  have bel : Below W.heap.size W W' := fr.below (Nat.le_refl _) (fun _ f => f.elim)
  subst he
  exact ⟨_, rfl, _, _, _, [], _, [], hW', trodAll_mk1 (shut_bool Try.underlying4 _), (trodAll_cons_mk (shut_string Try.underlying9 w0) (trodAll_cons_mk (shut_string Try.underlying9 w1) trodAll_mk0)), rfl, bel.frame _, fun h => by cases h⟩

theorem proved : Rows.KeyPrefixSaid :=
  OpenClaim.holds_of_wide 8 Try.f8 rfl rfl rfl rfl rfl rfl rfl ⟨rfl, rfl, rfl, rfl, rfl⟩ rfl rfl rfl rfl rfl (by kernel_rfl) Try.func8 (by kernel_rfl)
    (of_decide_eq_true (by kernel_rfl)) (by unfold Func.isWrapper; first | (rw [if_pos (by decide +kernel)]; kernel_rfl) | (rw [if_neg (by decide +kernel)]; exact ⟨rfl, rfl⟩))
    (fun os started H enc _ => lifted os started H enc)
end Go.Proofs.Ytacgkoiejmbeiaa.keyPrefix
namespace Go.Proofs.Ytacgkoiejmbeiaa
theorem keyPrefix_holds : Rows.KeyPrefixSaid := keyPrefix.proved
#print axioms keyPrefix_holds
end Go.Proofs.Ytacgkoiejmbeiaa
