/- For every two numbers and every text latticelaw01.WireNil answers true: a nil writer writes nothing, a nil reader has nothing (1.3, R6); no condition. -/
import Derived.Test.YtnnaaliadbihkaaArgs
import Derived.Test.YtnnaaliadbihkaaNilRef
namespace Go.Proofs.Ytnnaaliadbihkaa.wireNil
open Go.ChangeShapes Go.WideShapes Go.ChangeAt Go.RowKit
open Go.ChangeMaps (open_string shut_string)
set_option linter.unusedVariables false

theorem own : ownKnob Try.prog.godebug = none := by kernel_rfl
theorem laidOut : laidOutB Try.prog = true := by kernel_rfl
theorem bytes8 : Try.prog.bytesOf 5 = 1 := by kernel_rfl

theorem cond_true {a b : Int} : cond true a b = a := rfl
theorem cond_false {a b : Int} : cond false a b = b := rfl

set_option maxHeartbeats 2000000 in
theorem core (w : World) (n size : Int) (s : ByteArray) (hb : -9223372036854775808 ≤ n ∧ n ≤ 9223372036854775807) (fb sb : Bool) (hf : fitB n size = fb) (hs : sizedB size = sb) (tv rv : Int)
    (ht : ∀ W, Calls Try.prog 10 #[.pointer none, .string s] W fun e w' => e = .returned (.int .i64 tv) ∧ w' = W)
    (hr : ∀ W, Calls Try.prog 18 #[.pointer none, .int .i64 n] W fun e w' => e = .returned (.tuple #[.string ⟨#[]⟩, .int .i64 rv]) ∧ w' = W)
    (htv : (tv = 2 ∧ (65535 : Int) < s.size) ∨ (tv = 7 ∧ (s.size : Int) ≤ 65535)) (hrv : (rv = 1 ∧ n < 0) ∨ (rv = 10 ∧ 0 ≤ n)) :
    Calls Try.prog 7 #[.int .i64 n, .int .i64 size, .string s] w fun e w' => e = .returned (.bool true) ∧ Fr (fun _ => False) w w' := by
  have HT : Hid (∀ W, Calls Try.prog 10 #[.pointer none, .string s] W fun e w' => e = .returned (.int .i64 tv) ∧ w' = W) := ht
  have HR : Hid (∀ W, Calls Try.prog 18 #[.pointer none, .int .i64 n] W fun e w' => e = .returned (.tuple #[.string ⟨#[]⟩, .int .i64 rv]) ∧ w' = W) := hr
  have HF : Hid (fitB n size = fb) := hf
  have HS : Hid (sizedB size = sb) := hs
  have HB : Hid (-9223372036854775808 ≤ n ∧ n ≤ 9223372036854775807) := hb
  clear ht hr hf hs hb
  rcases htv with ⟨rfl, h1⟩ | ⟨rfl, h1⟩ <;> rcases hrv with ⟨rfl, h2⟩ | ⟨rfl, h2⟩ <;> cases fb <;> cases sb
  all_goals
    go_enter Try.func7, Try.ntmps7
    go_wp2_with fail
    refine (wnum_nil_any n size HB.out _).mono ?_
    rw [HF.out]
    first | rw [cond_true] | rw [cond_false]
    rintro e w1 ⟨rfl, rfl⟩
    go_wp2_with fail
    refine (HT.out _).mono ?_
    rintro e w1 ⟨rfl, rfl⟩
    go_wp2_with fail
    refine (rnum_nil_any size _).mono ?_
    rw [HS.out]
    first | rw [cond_true] | rw [cond_false]
    rintro e w1 ⟨rfl, rfl⟩
    go_wp2_with fail
    refine (HR.out _).mono ?_
    rintro e w1 ⟨rfl, rfl⟩
    go_wp2_with fail
    refine (refFits_any n size _).mono ?_
    rw [HF.out]
    rintro e w1 ⟨rfl, rfl⟩
    go_wp2_with fail
    refine (refSized_any size _).mono ?_
    rw [HS.out]
    rintro e w1 ⟨rfl, rfl⟩
    go_wp2_with fail
    refine (bytes_nil _).mono ?_
    rintro e w1 ⟨rfl, rfl⟩
    go_wp2_with fail
    refine (left_nil _).mono ?_
    rintro e w1 ⟨rfl, rfl⟩
    go_wp2_with fail
    refine (end_nil _).mono ?_
    rintro e w1 ⟨rfl, rfl⟩
    go_wp2_with fail
    refine (speaks_any _).mono ?_
    rintro e w2 ⟨rfl, f2⟩
    go_wp2
    go_ret
    exact ⟨rfl, f2⟩

theorem walk (w : World) (a0 : Int) (w0 : (Lit.int .i64 a0).wf = true) (a1 : Int) (w1 : (Lit.int .i64 a1).wf = true) (s2 : ByteArray) (z2 : s2.size ≤ 140737488351232) :
    Calls Try.prog 7 #[.int .i64 a0, .int .i64 a1, .string s2] w fun e w' => e = .returned (.bool true) ∧ Fr (fun _ => False) w w' := by
  have hb := bounds_i64 w0
  by_cases hl : 65535 < s2.size
  · by_cases hn : a0 < 0
    · exact core w a0 a1 s2 hb _ _ rfl rfl 2 1 (fun W => text_long none s2 hl W) (fun W => rtext_arg none a0 hn W) (.inl ⟨rfl, by omega⟩) (.inl ⟨rfl, hn⟩)
    · exact core w a0 a1 s2 hb _ _ rfl rfl 2 10 (fun W => text_long none s2 hl W) (fun W => rtext_nil a0 hn W) (.inl ⟨rfl, by omega⟩) (.inr ⟨rfl, by omega⟩)
  · by_cases hn : a0 < 0
    · exact core w a0 a1 s2 hb _ _ rfl rfl 7 1 (fun W => text_nil s2 (by omega) W) (fun W => rtext_arg none a0 hn W) (.inr ⟨rfl, by omega⟩) (.inl ⟨rfl, hn⟩)
    · exact core w a0 a1 s2 hb _ _ rfl rfl 7 10 (fun W => text_nil s2 (by omega) W) (fun W => rtext_nil a0 hn W) (.inr ⟨rfl, by omega⟩) (.inr ⟨rfl, by omega⟩)

set_option maxRecDepth 100000 in
theorem lifted (os : Os) (started : os.Started) (H : Type) (enc : TypeId × Value → H) :
    ReturnsInHanded {} Try.checked os 7 .any (Rows.wireNilSpec.pre6 enc Try.prog Try.f7 Rows.wireNilRow.domain false) (Rows.wireNilSpec.post enc Try.prog Try.f7 false true false false) := by
  refine returnsInHanded_of_change_sized (C := Try.checked) own started (by kernel_rfl) Try.func7
    (ChangeSpec.witness6 (enc := enc) (C := Try.checked) false ⟨#[], #[.int .i64 0, .int .i64 0, .string ByteArray.empty], []⟩ 8 (by kernel_rfl) (by kernel_rfl) (by kernel_rfl) (by kernel_rfl)) ?_
  intro W base args ds gs before hval0 hW hcnd hsz0 _
  have hsz : (DataW.weightsEach Try.prog (Try.f7.params.toList ++ Rows.wireNilSpec.plain.varTypes Try.prog) (ds ++ gs)).all (· ≤ reachBytes) = true := hsz0
  clear hsz0
  have hval : ∀ (j : Nat) t v, Try.f7.params[j]? = some t → args[j]? = some v → Value.okWide Try.prog W .any base t v := hval0
  have hW' := hW
  obtain ⟨p, q, hA0, hV, rfl, hfz, hnd⟩ := hW
  have hA : DataW.TrodAll enc Try.prog W 0 (fun _ => true) true Try.f7.params.toList args.toList ds p := hA0
  rw [Try.params7] at hA hval hsz
  obtain ⟨v0, vs0, d0, ds0, p0, q0, hargs, rfl, rfl, h0, r0⟩ := trodAll_cons hA
  obtain ⟨v1, vs1, d1, ds1, p1, q1, rfl, rfl, rfl, h1, r1⟩ := trodAll_cons r0
  obtain ⟨v2, vs2, d2, ds2, p2, q2, rfl, rfl, rfl, h2, r2⟩ := trodAll_cons r1
  obtain ⟨rfl, rfl, rfl⟩ := trodAll_nil r2
  obtain rfl : args = #[v0, v1, v2] := by cases args; simp_all
  obtain ⟨rfl, rfl⟩ := trodVars_none hV
  obtain ⟨a0, rfl, rfl, rfl, w0⟩ := open_int Try.underlying3 (hval 0 3 v0 rfl rfl) h0
  obtain ⟨a1, rfl, rfl, rfl, w1⟩ := open_int Try.underlying3 (hval 1 3 v1 rfl rfl) h1
  obtain ⟨s2, rfl, rfl, rfl, w2⟩ := open_string Try.underlying9 (hval 2 9 v2 rfl rfl) h2
  have z2 : s2.size ≤ 140737488351232 := by
    have := sized_string hsz (j := 2) (t := 9) rfl rfl
    simpa [reachBytes] using this
  clear hA0 hval0
  refine (walk W a0 w0 a1 w1 s2 z2).mono fun e W' ⟨he, fr⟩ => ?_
  have bel : Below W.heap.size W W' := fr.below (Nat.le_refl _) (fun _ f => f.elim)
  subst he
  exact ⟨_, rfl, _, _, _, [], _, [], hW', trodAll_mk1 (shut_bool Try.underlying4 _), (trodAll_cons_mk (shut_int Try.underlying3 w0) (trodAll_cons_mk (shut_int Try.underlying3 w1) (trodAll_cons_mk (shut_string Try.underlying9 w2) trodAll_mk0))), rfl, bel.frame _, fun h => by cases h⟩

theorem proved : Rows.WireNilSaid :=
  OpenClaim.holds_of_wide 7 Try.f7 rfl rfl rfl rfl rfl rfl rfl ⟨rfl, rfl, rfl, rfl, rfl⟩ rfl rfl rfl rfl rfl (by kernel_rfl) Try.func7 (by kernel_rfl)
    (of_decide_eq_true (by kernel_rfl)) (by unfold Func.isWrapper; first | (rw [if_pos (by decide +kernel)]; kernel_rfl) | (rw [if_neg (by decide +kernel)]; exact ⟨rfl, rfl⟩))
    (fun os started H enc _ => lifted os started H enc)
end Go.Proofs.Ytnnaaliadbihkaa.wireNil
namespace Go.Proofs.Ytnnaaliadbihkaa
theorem wireNil_holds : Rows.WireNilSaid := wireNil.proved
#print axioms wireNil_holds
end Go.Proofs.Ytnnaaliadbihkaa
