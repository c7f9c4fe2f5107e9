/- KeyLetters, for every two texts: key.Letters tells how many letters the first has and whether all are right as the document own Letters does, and of a right one with the second behind it as many as both have; the call answers true; no condition. -/
import Derived.Test.YtacgkoiejmbeiaaArgs
import Derived.Test.YtacgkoiejmbeiaaKPlc
import Derived.Test.YtacgkoiejmbeiaaKLet2
namespace Go.Proofs.Ytacgkoiejmbeiaa.keyLetters
open Go.ChangeShapes Go.WideShapes Go.ChangeAt Go.RowKit
open Go.ChangeMaps (open_string shut_string)
set_option linter.unusedVariables false

theorem own : ownKnob Try.prog.godebug = none := by kernel_rfl
theorem laidOut : laidOutB Try.prog = true := by kernel_rfl
theorem bytes8 : Try.prog.bytesOf 5 = 1 := by kernel_rfl

theorem bs_append (a b : ByteArray) : bsOf (a ++ b) = bsOf a ++ bsOf b := by
  unfold bsOf; rw [ByteArray.data_append, Array.toList_append, List.map_append]
set_option maxHeartbeats 1000000 in
theorem walk (w : World) (s0 : ByteArray) (z0 : s0.size ≤ 140737488351232) (s1 : ByteArray) (z1 : s1.size ≤ 140737488351232) :
    Calls Try.prog 9 #[.string s0, .string s1] w fun e w' => e = .returned (.bool true) ∧ Fr (fun _ => False) w w' := by
  have hsz : (s0 ++ s1).size = s0.size + s1.size := ByteArray.size_append
  have l0 := letters_any s0 (by omega)
  have l1 := letters_any s1 (by omega)
  have l2 := letters_any (s0 ++ s1) (by omega)
  have r0 := rletters_any s0 (by omega)
  have hadd := fun (w : World) => run_string_add_sum (P := Try.prog) w s0 s1 (by omega)
  have happ := lts_app (bsOf s0) (bsOf s1)
  rw [← bs_append] at happ
  have hle := lts_le (bsOf s0)
  have hle1 := lts_le (bsOf s1)
  have hpos := lts_pos (bsOf s0)
  rw [bsOf_length] at hle hle1
  have hem : bsOf s0 = [] ↔ s0.size = 0 := by rw [← List.length_eq_zero_iff, bsOf_length]
  obtain ⟨n, hn⟩ : ∃ n, n = (lts (bsOf s0)).1 := ⟨_, rfl⟩
  obtain ⟨ok, hok⟩ : ∃ n, n = (lts (bsOf s0)).2 := ⟨_, rfl⟩
  obtain ⟨k, hk⟩ : ∃ n, n = (lts (bsOf s1)).1 := ⟨_, rfl⟩
  obtain ⟨well, hwell⟩ : ∃ n, n = (lts (bsOf s1)).2 := ⟨_, rfl⟩
  obtain ⟨al, hal⟩ : ∃ n, n = (lts (bsOf (s0 ++ s1))).1 := ⟨_, rfl⟩
  obtain ⟨both, hboth⟩ : ∃ n, n = (lts (bsOf (s0 ++ s1))).2 := ⟨_, rfl⟩
  rw [← hn, ← hok] at l0 r0
  rw [← hk, ← hwell] at l1
  rw [← hal, ← hboth] at l2
  rw [← hok] at happ
  have h2 : ok = true → al = n + k ∧ both = well := fun h => by
    have := happ h
    rw [← hn, ← hk, ← hwell] at this
    rw [hal, hboth, this]; exact ⟨rfl, rfl⟩
  rw [← hn] at hle hpos
  rw [← hk] at hle1
  have hpos2 : 0 < n ↔ s0.size ≠ 0 := by rw [hpos, ne_eq, hem]
  have R0 : Hid (∀ w, Calls Try.prog 26 #[.string s0] w fun e w' => e = .returned (.tuple #[.int .i64 (n : Nat), .bool ok]) ∧ w' = w) := r0
  have L1 : Hid (∀ w, Calls Try.prog 25 #[.string s1] w fun e w' => e = .returned (.tuple #[.int .i64 (k : Nat), .bool well]) ∧ Fr (fun _ => False) w w') := l1
  have L2 : Hid (∀ w, Calls Try.prog 25 #[.string (s0 ++ s1)] w fun e w' => e = .returned (.tuple #[.int .i64 (al : Nat), .bool both]) ∧ Fr (fun _ => False) w w') := l2
  have H2 : Hid (ok = true → al = n + k ∧ both = well) := h2
  clear r0 l1 l2 h2 happ hn hok hk hwell hal hboth hpos hem hsz
  cases ok with
  | true =>
    obtain ⟨e1, e2⟩ := H2.out rfl
    subst e1 e2
    by_cases h0 : s0.size = 0
    · have hn0 : ¬ (0 : Int) < (n : Int) := by omega
      have he := bs_nil h0
      clear h0 hpos2
      go_enter Try.func9, Try.ntmps9
      go_wp2_with fail
      refine (l0 _).mono ?_
      rintro e w1 ⟨rfl, f1⟩
      go_wp2_with fail
      refine (R0.out _).mono ?_
      rintro e w2 ⟨rfl, rfl⟩
      go_wp2_with fail
      refine (L1.out _).mono ?_
      rintro e w3 ⟨rfl, f3⟩
      go_wp2_with fail
      refine (L2.out _).mono ?_
      rintro e w4 ⟨rfl, f4⟩
      go_wp2_with fail
      refine (kspeaks_any _).mono ?_
      rintro e w6 ⟨rfl, f6⟩
      go_wp2
      go_ret
      exact ⟨rfl, (f1.seq f3).seq (f4.seq f6)⟩
    · have hn0 : (0 : Int) < (n : Int) := by omega
      have he := bs_not_nil h0
      clear h0 hpos2
      go_enter Try.func9, Try.ntmps9
      go_wp2_with fail
      refine (l0 _).mono ?_
      rintro e w1 ⟨rfl, f1⟩
      go_wp2_with fail
      refine (R0.out _).mono ?_
      rintro e w2 ⟨rfl, rfl⟩
      go_wp2_with fail
      refine (L1.out _).mono ?_
      rintro e w3 ⟨rfl, f3⟩
      go_wp2_with fail
      refine (L2.out _).mono ?_
      rintro e w4 ⟨rfl, f4⟩
      go_wp2_with fail
      refine (kspeaks_any _).mono ?_
      rintro e w6 ⟨rfl, f6⟩
      go_wp2
      go_ret
      exact ⟨rfl, (f1.seq f3).seq (f4.seq f6)⟩
  | false =>
    clear H2
    by_cases h0 : s0.size = 0
    · have hn0 : ¬ (0 : Int) < (n : Int) := by omega
      have he := bs_nil h0
      clear h0 hpos2
      go_enter Try.func9, Try.ntmps9
      go_wp2_with fail
      refine (l0 _).mono ?_
      rintro e w1 ⟨rfl, f1⟩
      go_wp2_with fail
      refine (R0.out _).mono ?_
      rintro e w2 ⟨rfl, rfl⟩
      go_wp2_with fail
      refine (L1.out _).mono ?_
      rintro e w3 ⟨rfl, f3⟩
      go_wp2_with fail
      refine (L2.out _).mono ?_
      rintro e w4 ⟨rfl, f4⟩
      go_wp2_with fail
      refine (kspeaks_any _).mono ?_
      rintro e w6 ⟨rfl, f6⟩
      go_wp2
      go_ret
      exact ⟨rfl, (f1.seq f3).seq (f4.seq f6)⟩
    · have hn0 : (0 : Int) < (n : Int) := by omega
      have he := bs_not_nil h0
      clear h0 hpos2
      go_enter Try.func9, Try.ntmps9
      go_wp2_with fail
      refine (l0 _).mono ?_
      rintro e w1 ⟨rfl, f1⟩
      go_wp2_with fail
      refine (R0.out _).mono ?_
      rintro e w2 ⟨rfl, rfl⟩
      go_wp2_with fail
      refine (L1.out _).mono ?_
      rintro e w3 ⟨rfl, f3⟩
      go_wp2_with fail
      refine (L2.out _).mono ?_
      rintro e w4 ⟨rfl, f4⟩
      go_wp2_with fail
      refine (kspeaks_any _).mono ?_
      rintro e w6 ⟨rfl, f6⟩
      go_wp2
      go_ret
      exact ⟨rfl, (f1.seq f3).seq (f4.seq f6)⟩

set_option maxRecDepth 100000 in
theorem lifted (os : Os) (started : os.Started) (H : Type) (enc : TypeId × Value → H) :
    ReturnsInHanded {} Try.checked os 9 .any (Rows.keyLettersSpec.pre6 enc Try.prog Try.f9 Rows.keyLettersRow.domain false) (Rows.keyLettersSpec.post enc Try.prog Try.f9 false true false false) := by
  refine returnsInHanded_of_change_sized (C := Try.checked) own started (by kernel_rfl) Try.func9
    (ChangeSpec.witness6 (enc := enc) (C := Try.checked) false ⟨#[], #[.string ByteArray.empty, .string ByteArray.empty], []⟩ 8 (by kernel_rfl) (by kernel_rfl) (by kernel_rfl) (by kernel_rfl)) ?_
  intro W base args ds gs before hval0 hW hcnd hsz0 _
  have hsz : (DataW.weightsEach Try.prog (Try.f9.params.toList ++ Rows.keyLettersSpec.plain.varTypes Try.prog) (ds ++ gs)).all (· ≤ reachBytes) = true := hsz0
  clear hsz0
  have hval : ∀ (j : Nat) t v, Try.f9.params[j]? = some t → args[j]? = some v → Value.okWide Try.prog W .any base t v := hval0
  have hW' := hW
  obtain ⟨p, q, hA0, hV, rfl, hfz, hnd⟩ := hW
  have hA : DataW.TrodAll enc Try.prog W 0 (fun _ => true) true Try.f9.params.toList args.toList ds p := hA0
  rw [Try.params9] at hA hval hsz
  obtain ⟨v0, vs0, d0, ds0, p0, q0, hargs, rfl, rfl, h0, r0⟩ := trodAll_cons hA
  obtain ⟨v1, vs1, d1, ds1, p1, q1, rfl, rfl, rfl, h1, r1⟩ := trodAll_cons r0
  obtain ⟨rfl, rfl, rfl⟩ := trodAll_nil r1
  obtain rfl : args = #[v0, v1] := by cases args; simp_all
  obtain ⟨rfl, rfl⟩ := trodVars_none hV
  obtain ⟨s0, rfl, rfl, rfl, w0⟩ := open_string Try.underlying9 (hval 0 9 v0 rfl rfl) h0
  have z0 : s0.size ≤ 140737488351232 := by
    have := sized_string hsz (j := 0) (t := 9) rfl rfl
    simpa [reachBytes] using this
  obtain ⟨s1, rfl, rfl, rfl, w1⟩ := open_string Try.underlying9 (hval 1 9 v1 rfl rfl) h1
  have z1 : s1.size ≤ 140737488351232 := by
    have := sized_string hsz (j := 1) (t := 9) rfl rfl
    simpa [reachBytes] using this
  clear hA0 hval0
  refine (walk W s0 z0 s1 z1).mono fun e W' ⟨he, fr⟩ => ?_
  have bel : Below W.heap.size W W' := fr.below (Nat.le_refl _) (fun _ f => f.elim)
  subst he
  exact ⟨_, rfl, _, _, _, [], _, [], hW', trodAll_mk1 (shut_bool Try.underlying4 _), (trodAll_cons_mk (shut_string Try.underlying9 w0) (trodAll_cons_mk (shut_string Try.underlying9 w1) trodAll_mk0)), rfl, bel.frame _, fun h => by cases h⟩

theorem proved : Rows.KeyLettersSaid :=
  OpenClaim.holds_of_wide 9 Try.f9 rfl rfl rfl rfl rfl rfl rfl ⟨rfl, rfl, rfl, rfl, rfl⟩ rfl rfl rfl rfl rfl (by kernel_rfl) Try.func9 (by kernel_rfl)
    (of_decide_eq_true (by kernel_rfl)) (by unfold Func.isWrapper; first | (rw [if_pos (by decide +kernel)]; kernel_rfl) | (rw [if_neg (by decide +kernel)]; exact ⟨rfl, rfl⟩))
    (fun os started H enc _ => lifted os started H enc)
end Go.Proofs.Ytacgkoiejmbeiaa.keyLetters
namespace Go.Proofs.Ytacgkoiejmbeiaa
theorem keyLetters_holds : Rows.KeyLettersSaid := keyLetters.proved
#print axioms keyLetters_holds
end Go.Proofs.Ytacgkoiejmbeiaa
