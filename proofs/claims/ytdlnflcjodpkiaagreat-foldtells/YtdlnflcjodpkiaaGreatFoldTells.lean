
/- For any records and any number, fold.History and fold.Behind answer as the document's own, and the example speaks; with no condition but those of the statement's own form. -/
import Derived.Test.YtdlnflcjodpkiaaGreatArgs
import Derived.Test.YtdlnflcjodpkiaaGreatFdSpk
import Derived.Test.YtdlnflcjodpkiaaGreatFdArg
import Derived.Test.YtdlnflcjodpkiaaGreatFdRBeh
namespace Go.Proofs.YtdlnflcjodpkiaaGreat.foldTells
open Go.ChangeShapes Go.WideShapes Go.ChangeAt Go.RowKit
open Go.ChangeMaps (open_string shut_string)
set_option linter.unusedVariables false

theorem own : ownKnob Tryz.prog.godebug = none := by kernel_rfl
theorem laidOut : laidOutB Tryz.prog = true := by kernel_rfl
theorem bytes8 : Tryz.prog.bytesOf 5 = 1 := by kernel_rfl

open Go.RowKit Go.Shelf
set_option maxRecDepth 100000 in
set_option maxHeartbeats 4000000 in
theorem walk (w : World) (a0 : Option Addr) (len0 cap0 : Nat) (ls : List Rec) (hl0 : len0 = ls.length) (hb0 : len0 * 80 ≤ 140737488355328) (hr0 : Recs w a0 cap0 ls) (hz0 : ∀ r ∈ ls, r.key.size ≤ 140737488351232 ∧ r.val.size ≤ 140737488351232) (a1 : Int) (w1 : (Lit.int .i64 a1).wf = true) :
    Calls Tryz.prog 3 #[.slice a0 len0 cap0, .int .i64 a1] w fun e w' => e = .returned (.bool true) ∧ Fr (fun _ => False) w w' := by
  have HSP : Hid (∀ W, Calls Tryz.prog 13 #[] W fun e w' => e = .returned (.bool true) ∧ Fr (fun _ => False) W w') := speaks_any
  by_cases hbig : 2000 < len0
  · have hle := hr0.le
    have hmx := hr0.max
    clear hr0 hz0 w1 hl0
    go_enter Tryz.func3, Tryz.ntmps3
    go_wp2_with (go_at_call 13; refine (HSP.out _).mono ?_; rintro e w2 ⟨rfl, f2⟩)
    go_ret
    exact ⟨rfl, f2⟩
  have hf : len0 ≤ 2000 := by omega
  obtain ⟨L, err, HB, HRB⟩ : ∃ L err, Hid (∀ W, Fr (fun _ => False) w W → Calls Tryz.prog 14 #[.slice a0 len0 cap0, .int .i64 a1] W (BhOut W L err)) ∧ Hid (∀ W, Fr (fun _ => False) w W → Calls Tryz.prog 15 #[.slice a0 len0 cap0, .int .i64 a1] W (BhOut W L err)) := by
    by_cases hq : 0 ≤ a1 ∧ a1 ≤ (hist ls).length
    · obtain ⟨q, rfl⟩ := Int.eq_ofNat_of_zero_le hq.1
      refine ⟨_, _, fun W f => behind_ok a0 len0 cap0 ls hl0 (by omega) q (by omega) W (hr0.same f), fun W f => rbehind_ok a0 len0 cap0 ls hl0 (by omega) q (by omega) W (hr0.same f)⟩
    · exact ⟨_, _, fun W f => behind_no a0 len0 cap0 ls hl0 (by omega) a1 (by omega) W (hr0.same f), fun W f => rbehind_no a0 len0 cap0 ls hl0 (by omega) a1 (by omega) W (hr0.same f)⟩
  have HH : Hid (∀ W, Fr (fun _ => False) w W → Calls Tryz.prog 17 #[.slice a0 len0 cap0] W (RcOut W (hist ls))) := fun W f => history_any a0 len0 cap0 ls hl0 (by omega) W (hr0.same f)
  have HRH : Hid (∀ W, Fr (fun _ => False) w W → Calls Tryz.prog 18 #[.slice a0 len0 cap0] W (RcOut W (hist ls))) := fun W f => rhistory_any a0 len0 cap0 ls hl0 (by omega) W (hr0.same f)
  obtain ⟨M, hM⟩ : ∃ M, M = hist ls := ⟨_, rfl⟩
  rw [← hM] at HH HRH
  have hle := hr0.le
  have hmx := hr0.max
  have HPR : Hid (∀ b1 b2 d1 d2 W, Recs W b1 d1 M → Recs W b2 d2 M → Calls Tryz.prog 16 #[.slice b1 M.length d1, .slice b2 M.length d2] W fun e w' => e = .returned (.bool true) ∧ Fr (fun _ => False) W w') := fun b1 b2 d1 d2 W h1 h2 => plain_recs b1 b2 _ _ d1 d2 M rfl rfl W h1 h2
  have HPE : Hid (∀ b1 b2 d1 d2 W, Ens W b1 d1 L → Ens W b2 d2 L → Calls Tryz.prog 19 #[.slice b1 L.length d1, .slice b2 L.length d2] W fun e w' => e = .returned (.bool true) ∧ Fr (fun _ => False) W w') := fun b1 b2 d1 d2 W h1 h2 => ents_same b1 b2 _ _ d1 d2 L rfl rfl W h1 h2
  clear hr0 hz0 w1 hl0 hM
  have HF0 : Hid (Fr (fun _ => False) w w) := Fr.refl _ _
  go_enter Tryz.func3, Tryz.ntmps3
  have hb := HB.out w HF0.out
  go_wp2_with fail
  refine hb.mono ?_
  rintro e w2 ⟨b2, c2, rfl, e2, _, f2⟩
  have HE2 : Hid (Ens w2 b2 c2 L) := e2
  have HF2 : Hid (Fr (fun _ => False) w w2) := f2
  have hrb := HRB.out w2 f2
  clear e2 f2 hb HB
  go_wp2_with fail
  refine hrb.mono ?_
  rintro e w3 ⟨b3, c3, rfl, e3, _, f3⟩
  have HE3 : Hid (Ens w3 b3 c3 L) := e3
  have HE2b : Hid (Ens w3 b2 c2 L) := HE2.out.same f3
  have HF3 : Hid (Fr (fun _ => False) w w3) := HF2.out.seq' f3
  have hh := HH.out w3 HF3.out
  clear e3 f3 hrb HRB HE2 HF2
  go_wp2_with fail
  refine hh.mono ?_
  rintro e w4 ⟨b4, c4, rfl, r4, _, f4⟩
  have HR4 : Hid (Recs w4 b4 c4 M) := r4
  have HF4 : Hid (Fr (fun _ => False) w w4) := HF3.out.seq' f4
  have HE2c : Hid (Ens w4 b2 c2 L) := HE2b.out.same f4
  have HE3c : Hid (Ens w4 b3 c3 L) := HE3.out.same f4
  have hrh := HRH.out w4 HF4.out
  clear r4 f4 hh HH HE2b HE3 HF3
  go_wp2_with fail
  refine hrh.mono ?_
  rintro e w5 ⟨b5, c5, rfl, r5, _, f5⟩
  have HF5 : Hid (Fr (fun _ => False) w w5) := HF4.out.seq' f5
  have HE2d : Hid (Ens w5 b2 c2 L) := HE2c.out.same f5
  have HE3d : Hid (Ens w5 b3 c3 L) := HE3c.out.same f5
  have hpr := HPR.out _ _ _ _ w5 (HR4.out.same f5) r5
  clear r5 f5 hrh HRH HE2c HE3c HF4 HR4 HPR
  go_wp2_with fail
  refine hpr.mono ?_
  rintro e w6 ⟨rfl, f6⟩
  have HF6 : Hid (Fr (fun _ => False) w w6) := HF5.out.seq' f6
  have hpe := HPE.out _ _ _ _ w6 (HE2d.out.same f6) (HE3d.out.same f6)
  clear f6 hpr HE2d HE3d HF5 HPE
  go_wp2_with fail
  refine hpe.mono ?_
  rintro e w7 ⟨rfl, f7⟩
  have HF7 : Hid (Fr (fun _ => False) w w7) := HF6.out.seq' f7
  have hsp := HSP.out w7
  clear f7 hpe HF6
  go_wp2_with fail
  refine hsp.mono ?_
  rintro e w8 ⟨rfl, f8⟩
  have HF8 : Hid (Fr (fun _ => False) w w8) := HF7.out.seq' f8
  clear f8 hsp HF7
  go_wp2_with fail
  go_ret
  exact ⟨rfl, HF8.out⟩

set_option maxRecDepth 100000 in
theorem lifted (os : Os) (started : os.Started) (H : Type) (enc : TypeId × Value → H) :
    ReturnsInHanded {} Tryz.checked os 3 .any (Rows.foldTellsSpec.pre6 enc Tryz.prog Tryz.f3 Rows.foldTellsRow.domain false) (Rows.foldTellsSpec.post enc Tryz.prog Tryz.f3 false true false false) := by
  refine returnsInHanded_of_change_sized (C := Tryz.checked) own started (by kernel_rfl) Tryz.func3
    (ChangeSpec.witness6 (enc := enc) (C := Tryz.checked) false ⟨#[], #[.slice none 0 0, .int .i64 0], []⟩ 8 (by kernel_rfl) (by kernel_rfl) (by kernel_rfl) (by kernel_rfl)) ?_
  intro W base args ds gs before hval0 hW hcnd hsz0 _
  have hsz : (DataW.weightsEach Tryz.prog (Tryz.f3.params.toList ++ Rows.foldTellsSpec.plain.varTypes Tryz.prog) (ds ++ gs)).all (· ≤ reachBytes) = true := hsz0
  clear hsz0
  have hval : ∀ (j : Nat) t v, Tryz.f3.params[j]? = some t → args[j]? = some v → Value.okWide Tryz.prog W .any base t v := hval0
  have hW' := hW
  obtain ⟨p, q, hA0, hV, rfl, hfz, hnd⟩ := hW
  have hA : DataW.TrodAll enc Tryz.prog W 0 (fun _ => true) true Tryz.f3.params.toList args.toList ds p := hA0
  rw [Tryz.params3] at hA hval hsz
  obtain ⟨v0, vs0, d0, ds0, p0, q0, hargs, rfl, rfl, h0, r0⟩ := trodAll_cons hA
  obtain ⟨v1, vs1, d1, ds1, p1, q1, rfl, rfl, rfl, h1, r1⟩ := trodAll_cons r0
  obtain ⟨rfl, rfl, rfl⟩ := trodAll_nil r1
  obtain rfl : args = #[v0, v1] := by cases args; simp_all
  obtain ⟨rfl, rfl⟩ := trodVars_none hV
  obtain ⟨a0, len0, cap0, rfl⟩ := okWide_slice Tryz.underlying22 (hval 0 22 v0 rfl rfl)
  have k0 := h0
  have lt0 : ∀ x ∈ p0, x.block < W.heap.size := by obtain ⟨m, hm⟩ := k0; exact DataW.trod_lt m _ _ _ hm
  have wz0 : ∀ z ∈ d0.weights Tryz.prog 22, z ≤ reachBytes := fun z hz => by simpa using List.all_eq_true.1 hsz z (DataW.weights_mem_each (j := 0) rfl rfl z hz)
  obtain ⟨ls0, hl0, hb0, hr0, hz0⟩ : ∃ ls : List Rec, len0 = ls.length ∧ len0 * 80 ≤ 140737488355328 ∧ Recs W a0 cap0 ls ∧ ∀ r ∈ ls, r.key.size ≤ 140737488351232 ∧ r.val.size ≤ 140737488351232 := by
    obtain ⟨fuel, hf⟩ := h0
    exact recs_open2 hf wz0
  obtain ⟨a1, rfl, rfl, rfl, w1⟩ := open_int Tryz.underlying3 (hval 1 3 v1 rfl rfl) h1
  clear hA0 hval0
  refine (walk W a0 len0 cap0 ls0 hl0 hb0 hr0 hz0 a1 w1).mono fun e W' ⟨he, fr⟩ => ?_
  have bel : Below W.heap.size W W' := fr.below (Nat.le_refl _) (fun _ f => f.elim)
  subst he
  exact ⟨_, rfl, _, _, _, [], _, [], hW', trodAll_mk1 (shut_bool Tryz.underlying4 _), (trodAll_cons_mk (Below.trod laidOut (by kernel_rfl) (of_decide_eq_true (by kernel_rfl)) k0 bel lt0) (trodAll_cons_mk (shut_int Tryz.underlying3 w1) trodAll_mk0)), rfl, bel.frame _, fun h => by cases h⟩

theorem proved : Rows.FoldTellsSaid :=
  OpenClaim.holds_of_wide 3 Tryz.f3 rfl rfl rfl rfl rfl rfl rfl ⟨rfl, rfl, rfl, rfl, rfl⟩ rfl rfl rfl rfl rfl (by kernel_rfl) Tryz.func3 (by kernel_rfl)
    (of_decide_eq_true (by kernel_rfl)) (by unfold Func.isWrapper; first | (rw [if_pos (by decide +kernel)]; kernel_rfl) | (rw [if_neg (by decide +kernel)]; exact ⟨rfl, rfl⟩))
    (fun os started H enc _ => lifted os started H enc)
end Go.Proofs.YtdlnflcjodpkiaaGreat.foldTells
namespace Go.Proofs.YtdlnflcjodpkiaaGreat
theorem foldTells_holds : Rows.FoldTellsSaid := foldTells.proved
#print axioms foldTells_holds
end Go.Proofs.YtdlnflcjodpkiaaGreat
