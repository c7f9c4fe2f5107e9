
/- For any two rows of records and any request, fold.Extends, fold.Once and fold.Place answer as the document's own, and the example speaks; with no condition but those of the statement's own form. -/
import Derived.Test.YtdlnflcjodpkiaaGreatArgs
import Derived.Test.YtdlnflcjodpkiaaGreatFdSpk
import Derived.Test.YtdlnflcjodpkiaaGreatFdArg
import Derived.Test.YtdlnflcjodpkiaaGreatFdRExt
import Derived.Test.YtdlnflcjodpkiaaGreatFdROnce
namespace Go.Proofs.YtdlnflcjodpkiaaGreat.foldHolds
open Go.ChangeShapes Go.WideShapes Go.ChangeAt Go.RowKit
open Go.ChangeMaps (open_string shut_string)
set_option linter.unusedVariables false

theorem own : ownKnob Tryz.prog.godebug = none := by kernel_rfl
theorem laidOut : laidOutB Tryz.prog = true := by kernel_rfl
theorem bytes8 : Tryz.prog.bytesOf 5 = 1 := by kernel_rfl

open Go.RowKit Go.Shelf
set_option maxRecDepth 100000 in
set_option maxHeartbeats 4000000 in
theorem walk (w : World) (a0 : Option Addr) (len0 cap0 : Nat) (ls : List Rec) (hl0 : len0 = ls.length) (hb0 : len0 * 80 ≤ 140737488355328) (hr0 : Recs w a0 cap0 ls) (hz0 : ∀ r ∈ ls, r.key.size ≤ 140737488351232 ∧ r.val.size ≤ 140737488351232)
    (a1 : Option Addr) (len1 cap1 : Nat) (ms : List Rec) (hl1 : len1 = ms.length) (hb1 : len1 * 80 ≤ 140737488355328) (hr1 : Recs w a1 cap1 ms) (hz1 : ∀ r ∈ ms, r.key.size ≤ 140737488351232 ∧ r.val.size ≤ 140737488351232) (a2 : Int) (w2 : (Lit.int .i64 a2).wf = true) :
    Calls Tryz.prog 5 #[.slice a0 len0 cap0, .slice a1 len1 cap1, .int .i64 a2] w fun e w' => e = .returned (.bool true) ∧ Fr (fun _ => False) w w' := by
  have HSP : Hid (∀ W, Calls Tryz.prog 13 #[] W fun e w' => e = .returned (.bool true) ∧ Fr (fun _ => False) W w') := speaks_any
  by_cases hbig : 2000 < len0
  · have hle := hr0.le
    have hmx := hr0.max
    have hle1 := hr1.le
    have hmx1 := hr1.max
    clear hr0 hz0 w2 hr1 hz1 hl0
    go_enter Tryz.func5, Tryz.ntmps5
    go_wp2_with (go_at_call 13; refine (HSP.out _).mono ?_; rintro e w2 ⟨rfl, f2⟩)
    go_ret
    exact ⟨rfl, f2⟩
  by_cases hbig1 : 2000 < len1
  · have hle := hr0.le
    have hmx := hr0.max
    have hle1 := hr1.le
    have hmx1 := hr1.max
    clear hr0 hz0 w2 hr1 hz1 hl0 hl1
    go_enter Tryz.func5, Tryz.ntmps5
    go_wp2_with (go_at_call 13; refine (HSP.out _).mono ?_; rintro e w2 ⟨rfl, f2⟩)
    go_ret
    exact ⟨rfl, f2⟩
  have hf : len0 ≤ 2000 := by omega
  have hf1 : len1 ≤ 2000 := by omega
  obtain ⟨pk, pb, HP, HRP⟩ : ∃ (pk : Nat) (pb : Bool), Hid (∀ W, Fr (fun _ => False) w W → Calls Tryz.prog 23 #[.slice a0 len0 cap0, .int .i64 a2] W fun e w' => e = .returned (.tuple #[.int .i64 pk, .bool pb]) ∧ Fr (fun _ => False) W w') ∧ Hid (∀ W, Fr (fun _ => False) w W → Calls Tryz.prog 24 #[.slice a0 len0 cap0, .int .i64 a2] W fun e w' => e = .returned (.tuple #[.int .i64 pk, .bool pb]) ∧ Fr (fun _ => False) W w') :=
    ⟨_, _, fun W f => place_any a0 len0 cap0 ls hl0 (by omega) a2 W (hr0.same f), fun W f => rplace_any a0 len0 cap0 ls hl0 (by omega) a2 W (hr0.same f)⟩
  obtain ⟨xb, HX, HRX⟩ : ∃ (xb : Bool), Hid (∀ W, Fr (fun _ => False) w W → Calls Tryz.prog 25 #[.slice a0 len0 cap0, .slice a1 len1 cap1] W fun e w' => e = .returned (.bool xb) ∧ Fr (fun _ => False) W w') ∧ Hid (∀ W, Fr (fun _ => False) w W → Calls Tryz.prog 26 #[.slice a0 len0 cap0, .slice a1 len1 cap1] W fun e w' => e = .returned (.bool xb) ∧ Fr (fun _ => False) W w') :=
    ⟨_, fun W f => extends_any a0 a1 len0 len1 cap0 cap1 ls ms hl0 hl1 (by omega) (by omega) W (hr0.same f) (hr1.same f), fun W f => rextends_any a0 a1 len0 len1 cap0 cap1 ls ms hl0 hl1 (by omega) (by omega) W (hr0.same f) (hr1.same f)⟩
  obtain ⟨ob, HO, HRO⟩ : ∃ (ob : Bool), Hid (∀ W, Fr (fun _ => False) w W → Calls Tryz.prog 27 #[.slice a0 len0 cap0] W fun e w' => e = .returned (.bool ob) ∧ Fr (fun _ => False) W w') ∧ Hid (∀ W, Fr (fun _ => False) w W → Calls Tryz.prog 28 #[.slice a0 len0 cap0] W fun e w' => e = .returned (.bool ob) ∧ Fr (fun _ => False) W w') :=
    ⟨_, fun W f => once_any a0 len0 cap0 ls hl0 (by omega) W (hr0.same f), fun W f => ronce_any a0 len0 cap0 ls hl0 (by omega) W (hr0.same f)⟩
  have hle := hr0.le
  have hmx := hr0.max
  have hle1 := hr1.le
  have hmx1 := hr1.max
  clear hr0 hz0 hr1 hz1 w2 hl0 hl1
  have HF0 : Hid (Fr (fun _ => False) w w) := Fr.refl _ _
  go_enter Tryz.func5, Tryz.ntmps5
  have h1 := HP.out w HF0.out
  go_wp2_with fail
  refine h1.mono ?_
  rintro e w1 ⟨rfl, f1⟩
  have HF1 : Hid (Fr (fun _ => False) w w1) := f1
  have h2 := HRP.out w1 f1
  clear f1 h1 HP HRP
  go_wp2_with fail
  refine h2.mono ?_
  rintro e w2 ⟨rfl, f2⟩
  have HF2 : Hid (Fr (fun _ => False) w w2) := HF1.out.seq' f2
  have h3 := HX.out w2 HF2.out
  clear f2 h2 HX HF1
  go_wp2_with fail
  refine h3.mono ?_
  rintro e w3 ⟨rfl, f3⟩
  have HF3 : Hid (Fr (fun _ => False) w w3) := HF2.out.seq' f3
  have h4 := HRX.out w3 HF3.out
  clear f3 h3 HRX HF2
  go_wp2_with fail
  refine h4.mono ?_
  rintro e w4 ⟨rfl, f4⟩
  have HF4 : Hid (Fr (fun _ => False) w w4) := HF3.out.seq' f4
  have h5 := HO.out w4 HF4.out
  clear f4 h4 HO HF3
  go_wp2_with fail
  refine h5.mono ?_
  rintro e w5 ⟨rfl, f5⟩
  have HF5 : Hid (Fr (fun _ => False) w w5) := HF4.out.seq' f5
  have h6 := HRO.out w5 HF5.out
  clear f5 h5 HRO HF4
  go_wp2_with fail
  refine h6.mono ?_
  rintro e w6 ⟨rfl, f6⟩
  have HF6 : Hid (Fr (fun _ => False) w w6) := HF5.out.seq' f6
  have hsp := HSP.out w6
  clear f6 h6 HF5
  go_wp2_with fail
  refine hsp.mono ?_
  rintro e w8 ⟨rfl, f8⟩
  have HF8 : Hid (Fr (fun _ => False) w w8) := HF6.out.seq' f8
  clear f8 hsp HF6
  go_wp2_with fail
  go_ret
  exact ⟨rfl, HF8.out⟩

set_option maxRecDepth 100000 in
theorem lifted (os : Os) (started : os.Started) (H : Type) (enc : TypeId × Value → H) :
    ReturnsInHanded {} Tryz.checked os 5 .any (Rows.foldHoldsSpec.pre6 enc Tryz.prog Tryz.f5 Rows.foldHoldsRow.domain false) (Rows.foldHoldsSpec.post enc Tryz.prog Tryz.f5 false true false false) := by
  refine returnsInHanded_of_change_sized (C := Tryz.checked) own started (by kernel_rfl) Tryz.func5
    (ChangeSpec.witness6 (enc := enc) (C := Tryz.checked) false ⟨#[], #[.slice none 0 0, .slice none 0 0, .int .i64 0], []⟩ 8 (by kernel_rfl) (by kernel_rfl) (by kernel_rfl) (by kernel_rfl)) ?_
  intro W base args ds gs before hval0 hW hcnd hsz0 _
  have hsz : (DataW.weightsEach Tryz.prog (Tryz.f5.params.toList ++ Rows.foldHoldsSpec.plain.varTypes Tryz.prog) (ds ++ gs)).all (· ≤ reachBytes) = true := hsz0
  clear hsz0
  have hval : ∀ (j : Nat) t v, Tryz.f5.params[j]? = some t → args[j]? = some v → Value.okWide Tryz.prog W .any base t v := hval0
  have hW' := hW
  obtain ⟨p, q, hA0, hV, rfl, hfz, hnd⟩ := hW
  have hA : DataW.TrodAll enc Tryz.prog W 0 (fun _ => true) true Tryz.f5.params.toList args.toList ds p := hA0
  rw [Tryz.params5] at hA hval hsz
  obtain ⟨v0, vs0, d0, ds0, p0, q0, hargs, rfl, rfl, h0, r0⟩ := trodAll_cons hA
  obtain ⟨v1, vs1, d1, ds1, p1, q1, rfl, rfl, rfl, h1, r1⟩ := trodAll_cons r0
  obtain ⟨v2, vs2, d2, ds2, p2, q2, rfl, rfl, rfl, h2, r2⟩ := trodAll_cons r1
  obtain ⟨rfl, rfl, rfl⟩ := trodAll_nil r2
  obtain rfl : args = #[v0, v1, v2] := by cases args; simp_all
  obtain ⟨rfl, rfl⟩ := trodVars_none hV
  obtain ⟨a0, len0, cap0, rfl⟩ := okWide_slice Tryz.underlying22 (hval 0 22 v0 rfl rfl)
  have k0 := h0
  have lt0 : ∀ x ∈ p0, x.block < W.heap.size := by obtain ⟨m, hm⟩ := k0; exact DataW.trod_lt m _ _ _ hm
  have wz0 : ∀ z ∈ d0.weights Tryz.prog 22, z ≤ reachBytes := fun z hz => by simpa using List.all_eq_true.1 hsz z (DataW.weights_mem_each (j := 0) rfl rfl z hz)
  obtain ⟨ls0, hl0, hb0, hr0, hz0⟩ : ∃ ls : List Rec, len0 = ls.length ∧ len0 * 80 ≤ 140737488355328 ∧ Recs W a0 cap0 ls ∧ ∀ r ∈ ls, r.key.size ≤ 140737488351232 ∧ r.val.size ≤ 140737488351232 := by
    obtain ⟨fuel, hf⟩ := h0
    exact recs_open2 hf wz0
  obtain ⟨a1, len1, cap1, rfl⟩ := okWide_slice Tryz.underlying22 (hval 1 22 v1 rfl rfl)
  have k1 := h1
  have lt1 : ∀ x ∈ p1, x.block < W.heap.size := by obtain ⟨m, hm⟩ := k1; exact DataW.trod_lt m _ _ _ hm
  have wz1 : ∀ z ∈ d1.weights Tryz.prog 22, z ≤ reachBytes := fun z hz => by simpa using List.all_eq_true.1 hsz z (DataW.weights_mem_each (j := 1) rfl rfl z hz)
  obtain ⟨ls1, hl1, hb1, hr1, hz1⟩ : ∃ ls : List Rec, len1 = ls.length ∧ len1 * 80 ≤ 140737488355328 ∧ Recs W a1 cap1 ls ∧ ∀ r ∈ ls, r.key.size ≤ 140737488351232 ∧ r.val.size ≤ 140737488351232 := by
    obtain ⟨fuel, hf⟩ := h1
    exact recs_open2 hf wz1
  obtain ⟨a2, rfl, rfl, rfl, w2⟩ := open_int Tryz.underlying3 (hval 2 3 v2 rfl rfl) h2
  clear hA0 hval0
  refine (walk W a0 len0 cap0 ls0 hl0 hb0 hr0 hz0 a1 len1 cap1 ls1 hl1 hb1 hr1 hz1 a2 w2).mono fun e W' ⟨he, fr⟩ => ?_
  have bel : Below W.heap.size W W' := fr.below (Nat.le_refl _) (fun _ f => f.elim)
  subst he
  exact ⟨_, rfl, _, _, _, [], _, [], hW', trodAll_mk1 (shut_bool Tryz.underlying4 _), (trodAll_cons_mk (Below.trod laidOut (by kernel_rfl) (of_decide_eq_true (by kernel_rfl)) k0 bel lt0) (trodAll_cons_mk (Below.trod laidOut (by kernel_rfl) (of_decide_eq_true (by kernel_rfl)) k1 bel lt1) (trodAll_cons_mk (shut_int Tryz.underlying3 w2) trodAll_mk0))), rfl, bel.frame _, fun h => by cases h⟩

theorem proved : Rows.FoldHoldsSaid :=
  OpenClaim.holds_of_wide 5 Tryz.f5 rfl rfl rfl rfl rfl rfl rfl ⟨rfl, rfl, rfl, rfl, rfl⟩ rfl rfl rfl rfl rfl (by kernel_rfl) Tryz.func5 (by kernel_rfl)
    (of_decide_eq_true (by kernel_rfl)) (by unfold Func.isWrapper; first | (rw [if_pos (by decide +kernel)]; kernel_rfl) | (rw [if_neg (by decide +kernel)]; exact ⟨rfl, rfl⟩))
    (fun os started H enc _ => lifted os started H enc)
end Go.Proofs.YtdlnflcjodpkiaaGreat.foldHolds
namespace Go.Proofs.YtdlnflcjodpkiaaGreat
theorem foldHolds_holds : Rows.FoldHoldsSaid := foldHolds.proved
#print axioms foldHolds_holds
end Go.Proofs.YtdlnflcjodpkiaaGreat
