/- KeyPlaces, for every list of texts and every text: key.Place tells the place and whether it is there as the document own Place does, and the call answers true; no condition. -/
import Derived.Test.YtacgkoiejmbeiaaArgs
import Derived.Test.YtacgkoiejmbeiaaKPlc
import Derived.Test.YtacgkoiejmbeiaaKStrArg
namespace Go.Proofs.Ytacgkoiejmbeiaa.keyPlaces
open Go.ChangeShapes Go.WideShapes Go.ChangeAt Go.RowKit
open Go.ChangeMaps (open_string shut_string)
set_option linter.unusedVariables false

theorem own : ownKnob Try.prog.godebug = none := by kernel_rfl
theorem laidOut : laidOutB Try.prog = true := by kernel_rfl
theorem bytes8 : Try.prog.bytesOf 5 = 1 := by kernel_rfl

set_option maxHeartbeats 1000000 in
theorem walk (w : World) (a0 : Option Addr) (len0 cap0 : Nat) (ls0 : List ByteArray) (hl0 : len0 = ls0.length) (hr0 : Strs w a0 cap0 ls0) (s1 : ByteArray) (z1 : s1.size ≤ 140737488351232) :
    Calls Try.prog 5 #[.slice a0 len0 cap0, .string s1] w fun e w' => e = .returned (.bool true) ∧ Fr (fun _ => False) w w' := by
  subst hl0
  have m1 : s1.size ≤ maxLen := by unfold maxLen; omega
  have c1 := place_any a0 _ cap0 ls0 rfl s1 m1 w hr0
  obtain ⟨n, hn⟩ : ∃ n, n = (plc (bsOf s1) ls0).1 := ⟨_, rfl⟩
  obtain ⟨b, hb⟩ : ∃ n, n = (plc (bsOf s1) ls0).2 := ⟨_, rfl⟩
  have HN : Hid (n = (plc (bsOf s1) ls0).1) := hn
  have HB : Hid (b = (plc (bsOf s1) ls0).2) := hb
  rw [← hn, ← hb] at c1
  clear hn hb
  go_enter Try.func5, Try.ntmps5
  go_wp2_with fail
  refine c1.mono ?_
  rintro e w1 ⟨rfl, f1⟩
  go_wp2_with fail
  refine (rplace_any a0 _ cap0 ls0 rfl s1 m1 w1 (hr0.same f1)).mono ?_
  rw [← HN.out, ← HB.out]
  rintro e w2 ⟨rfl, f2⟩
  go_wp2_with fail
  refine (kspeaks_any _).mono ?_
  rintro e w6 ⟨rfl, f6⟩
  go_wp2
  go_ret
  exact ⟨rfl, (f1.seq f2).seq f6⟩

set_option maxRecDepth 100000 in
theorem lifted (os : Os) (started : os.Started) (H : Type) (enc : TypeId × Value → H) :
    ReturnsInHanded {} Try.checked os 5 .any (Rows.keyPlacesSpec.pre6 enc Try.prog Try.f5 Rows.keyPlacesRow.domain false) (Rows.keyPlacesSpec.post enc Try.prog Try.f5 false true false false) := by
  refine returnsInHanded_of_change_sized (C := Try.checked) own started (by kernel_rfl) Try.func5
    (ChangeSpec.witness6 (enc := enc) (C := Try.checked) false ⟨#[], #[.slice none 0 0, .string ByteArray.empty], []⟩ 8 (by kernel_rfl) (by kernel_rfl) (by kernel_rfl) (by kernel_rfl)) ?_
  intro W base args ds gs before hval0 hW hcnd hsz0 _
  have hsz : (DataW.weightsEach Try.prog (Try.f5.params.toList ++ Rows.keyPlacesSpec.plain.varTypes Try.prog) (ds ++ gs)).all (· ≤ reachBytes) = true := hsz0
  clear hsz0
  have hval : ∀ (j : Nat) t v, Try.f5.params[j]? = some t → args[j]? = some v → Value.okWide Try.prog W .any base t v := hval0
  have hW' := hW
  obtain ⟨p, q, hA0, hV, rfl, hfz, hnd⟩ := hW
  have hA : DataW.TrodAll enc Try.prog W 0 (fun _ => true) true Try.f5.params.toList args.toList ds p := hA0
  rw [Try.params5] at hA hval hsz
  obtain ⟨v0, vs0, d0, ds0, p0, q0, hargs, rfl, rfl, h0, r0⟩ := trodAll_cons hA
  obtain ⟨v1, vs1, d1, ds1, p1, q1, rfl, rfl, rfl, h1, r1⟩ := trodAll_cons r0
  obtain ⟨rfl, rfl, rfl⟩ := trodAll_nil r1
  obtain rfl : args = #[v0, v1] := by cases args; simp_all
  obtain ⟨rfl, rfl⟩ := trodVars_none hV
  obtain ⟨a0, len0, cap0, rfl⟩ := okWide_slice Try.underlying34 (hval 0 34 v0 rfl rfl)
  have k0 := h0
  have lt0 : ∀ x ∈ p0, x.block < W.heap.size := by obtain ⟨m, hm⟩ := k0; exact DataW.trod_lt m _ _ _ hm
  obtain ⟨ls0, hl0, hr0⟩ : ∃ ls : List ByteArray, len0 = ls.length ∧ Strs W a0 cap0 ls := by
    obtain ⟨fuel, hf⟩ := h0
    exact strs_open Try.underlying34 Try.underlying9 (by kernel_rfl) hf
  obtain ⟨s1, rfl, rfl, rfl, w1⟩ := open_string Try.underlying9 (hval 1 9 v1 rfl rfl) h1
  have z1 : s1.size ≤ 140737488351232 := by
    have := sized_string hsz (j := 1) (t := 9) rfl rfl
    simpa [reachBytes] using this
  clear hA0 hval0
  refine (walk W a0 len0 cap0 ls0 hl0 hr0 s1 z1).mono fun e W' ⟨he, fr⟩ => ?_
  have bel : Below W.heap.size W W' := fr.below (Nat.le_refl _) (fun _ f => f.elim)
  subst he
  exact ⟨_, rfl, _, _, _, [], _, [], hW', trodAll_mk1 (shut_bool Try.underlying4 _), (trodAll_cons_mk (Below.trod laidOut (by kernel_rfl) (of_decide_eq_true (by kernel_rfl)) k0 bel lt0) (trodAll_cons_mk (shut_string Try.underlying9 w1) trodAll_mk0)), rfl, bel.frame _, fun h => by cases h⟩

theorem proved : Rows.KeyPlacesSaid :=
  OpenClaim.holds_of_wide 5 Try.f5 rfl rfl rfl rfl rfl rfl rfl ⟨rfl, rfl, rfl, rfl, rfl⟩ rfl rfl rfl rfl rfl (by kernel_rfl) Try.func5 (by kernel_rfl)
    (of_decide_eq_true (by kernel_rfl)) (by unfold Func.isWrapper; first | (rw [if_pos (by decide +kernel)]; kernel_rfl) | (rw [if_neg (by decide +kernel)]; exact ⟨rfl, rfl⟩))
    (fun os started H enc _ => lifted os started H enc)
end Go.Proofs.Ytacgkoiejmbeiaa.keyPlaces
namespace Go.Proofs.Ytacgkoiejmbeiaa
theorem keyPlaces_holds : Rows.KeyPlacesSaid := keyPlaces.proved
#print axioms keyPlaces_holds
end Go.Proofs.Ytacgkoiejmbeiaa
