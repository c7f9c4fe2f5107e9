
/- For any timeline and any two numbers, line.Cut and line.Grow answer as the document's own, and the example speaks; with no condition but those of the statement's own form. -/
import Derived.Test.YtphfngboddnbmaaArgs
import Derived.Test.YtphfngboddnbmaaLnPl
import Derived.Test.YtphfngboddnbmaaLnArg
namespace Go.Proofs.Ytphfngboddnbmaa.lineChanges
open Go.ChangeShapes Go.WideShapes Go.ChangeAt Go.RowKit
open Go.ChangeMaps (open_string shut_string)
set_option linter.unusedVariables false

theorem own : ownKnob Try.prog.godebug = none := by kernel_rfl
theorem laidOut : laidOutB Try.prog = true := by kernel_rfl
theorem bytes8 : Try.prog.bytesOf 5 = 1 := by kernel_rfl

open Go.RowKit Go.Proofs.Ytphfngboddnbmaa.Ln
set_option maxRecDepth 100000 in
set_option maxHeartbeats 8000000 in
theorem walk (w : World) (a : Option Addr) (c : Nat) (ms : List Mk) (last : Int) (h : Mks w a c ms) (x : Int) (wf : (Lit.int .i64 x).wf = true) (ep : Int) (wf2 : (Lit.int .i64 ep).wf = true) :
    Calls Try.prog 4 #[.agg #[.slice a ms.length c, .int .i64 last], .int .i64 x, .int .i64 ep] w fun e w' => e = .returned (.bool true) ∧ Fr (fun _ => False) w w' := by
  have HSP : Hid (∀ W, Calls Try.prog 16 #[] W fun e w' => e = .returned (.bool true) ∧ Fr (fun _ => False) W w') := speaks_any
  have HSM : Hid (∀ (t : List Mk) (l : Int) (b b' : Option Addr) (d d' : Nat) (W : World), Mks W b d t → Mks W b' d' t → Calls Try.prog 21 #[.agg #[.slice b t.length d, .int .i64 l], .agg #[.slice b' t.length d', .int .i64 l]] W fun e w' => e = .returned (.bool true) ∧ Fr (fun _ => False) W w') := fun t l b b' d d' W h1 h2 => same_any b b' _ _ d d' t l rfl rfl W h1 h2
  have HCU : Hid (∀ W, Fr (fun _ => False) w W → Calls Try.prog 17 #[.agg #[.slice a ms.length c, .int .i64 last], .int .i64 x] W fun e w' => LnOut W (cutM ms last x) (cutL ms last x) (rcE ms last x) e w') := fun W f => cut_any a _ c ms last x rfl W (h.same f)
  have HRC : Hid (∀ W, Fr (fun _ => False) w W → Calls Try.prog 18 #[.agg #[.slice a ms.length c, .int .i64 last], .int .i64 x] W fun e w' => LnOut W (cutM ms last x) (cutL ms last x) (rcE ms last x) e w') := fun W f => rcut_any a _ c ms last x rfl W (h.same f)
  have HGR : Hid (∀ W, Fr (fun _ => False) w W → Calls Try.prog 19 #[.agg #[.slice a ms.length c, .int .i64 last], .int .i64 ep, .int .i64 x] W fun e w' => LnOut W (groM ms last ep x) (groL ms last ep x) (groE ms last ep x) e w') := fun W f => grow_any a _ c ms last ep x rfl W (h.same f)
  have HRG : Hid (∀ W, Fr (fun _ => False) w W → Calls Try.prog 20 #[.agg #[.slice a ms.length c, .int .i64 last], .int .i64 ep, .int .i64 x] W fun e w' => LnOut W (groM ms last ep x) (groL ms last ep x) (groE ms last ep x) e w') := fun W f => rgrow_any a _ c ms last ep x rfl W (h.same f)
  have HRF : Hid (∀ W, Calls Try.prog 9 #[.agg #[.slice a ms.length c, .int .i64 last]] W fun e w' => e = .returned (.agg #[.slice a ms.length c, .int .i64 last]) ∧ Fr (fun _ => False) W w') := ref_any a _ c last
  have F1 : Fr (fun _ => False) w (w.alloc (.cells #[.slice a ms.length c, .int .i64 last] 24)) := Fr.box _ _
  have T0 := Two.new w 24 (.slice a ms.length c) (.int .i64 last)
  have HT0 : Hid (∀ W, Fr (fun _ => False) (w.alloc (.cells #[.slice a ms.length c, .int .i64 last] 24)) W → Two W w.heap.size 24 (.slice a ms.length c) (.int .i64 last)) := fun W f => T0.fr f (fun f => f)
  obtain ⟨x0, x1, _⟩ := T0.cells
  generalize cutM ms last x = C at *
  generalize cutL ms last x = cl at *
  generalize rcE ms last x = ce at *
  generalize groM ms last ep x = G at *
  generalize groL ms last ep x = gl at *
  generalize groE ms last ep x = ge at *
  generalize ms.length = n at *
  have hcu := HCU.out _ F1
  clear h wf wf2 T0
  go_enter Try.func4, Try.ntmps4
  go_wp2_with fail
  generalize w.alloc (.cells #[.slice a n c, .int .i64 last] 24) = V at *
  have HF1 : Hid (Fr (fun _ => False) w V) := F1
  refine hcu.mono ?_
  rintro e w1 ⟨a1, c1, rfl, m1, f1⟩
  clear hcu x0 x1 F1
  have b1 : Fr (fun _ => False) w1 (w1.alloc (.cells #[.slice a1 C.length c1, .int .i64 cl] 24)) := Fr.box _ _
  have G1 := f1.seq' b1
  have T1 := Two.new w1 24 (.slice a1 C.length c1) (.int .i64 cl)
  have HM1 : Hid (Mks (w1.alloc (.cells #[.slice a1 C.length c1, .int .i64 cl] 24)) a1 c1 C) := m1.same b1
  have HT1 : Hid (Two (w1.alloc (.cells #[.slice a1 C.length c1, .int .i64 cl] 24)) w1.heap.size 24 (.slice a1 C.length c1) (.int .i64 cl)) := T1
  obtain ⟨x0, x1, _⟩ := (HT0.out _ G1).cells
  clear m1 f1 b1 T1
  go_wp2_with fail
  generalize w1.alloc (.cells #[.slice a1 C.length c1, .int .i64 cl] 24) = W1 at *
  generalize w1.heap.size = B1 at *
  refine (HRF.out _).mono ?_
  rintro e w2 ⟨rfl, f2⟩
  have G2 := G1.seq' f2
  clear x0 x1
  go_wp2_with fail
  refine (HRC.out _ (HF1.out.seq' G2)).mono ?_
  rintro e w3 ⟨a3, c3, rfl, m3, f3⟩
  have b3 : Fr (fun _ => False) w3 (w3.alloc (.cells #[.slice a3 C.length c3, .int .i64 cl] 30)) := Fr.box _ _
  have K3 := (f2.seq' f3).seq' b3
  have G3 := G1.seq' K3
  have HM3 : Hid (Mks (w3.alloc (.cells #[.slice a3 C.length c3, .int .i64 cl] 30)) a3 c3 C) := m3.same b3
  have HT3 : Hid (Two (w3.alloc (.cells #[.slice a3 C.length c3, .int .i64 cl] 30)) w3.heap.size 30 (.slice a3 C.length c3) (.int .i64 cl)) := Two.new _ _ _ _
  obtain ⟨x0, x1, _⟩ := (HT0.out _ G3).cells
  clear m3 f2 f3 b3 G1 G2
  go_wp2_with fail
  generalize w3.alloc (.cells #[.slice a3 C.length c3, .int .i64 cl] 30) = W3 at *
  generalize w3.heap.size = B3 at *
  refine (HGR.out _ (HF1.out.seq' G3)).mono ?_
  rintro e w4 ⟨a4, c4, rfl, m4, f4⟩
  have b4 : Fr (fun _ => False) w4 (w4.alloc (.cells #[.slice a4 G.length c4, .int .i64 gl] 24)) := Fr.box _ _
  have K4 := f4.seq' b4
  have G4 := G3.seq' K4
  have HM4 : Hid (Mks (w4.alloc (.cells #[.slice a4 G.length c4, .int .i64 gl] 24)) a4 c4 G) := m4.same b4
  have HT4 : Hid (Two (w4.alloc (.cells #[.slice a4 G.length c4, .int .i64 gl] 24)) w4.heap.size 24 (.slice a4 G.length c4) (.int .i64 gl)) := Two.new _ _ _ _
  clear x0 x1 m4 f4 b4 G3
  obtain ⟨x0, x1, _⟩ := (HT0.out _ G4).cells
  go_wp2_with fail
  generalize w4.alloc (.cells #[.slice a4 G.length c4, .int .i64 gl] 24) = W4 at *
  generalize w4.heap.size = B4 at *
  refine (HRF.out _).mono ?_
  rintro e w5 ⟨rfl, f5⟩
  have G5 := G4.seq' f5
  clear x0 x1
  go_wp2_with fail
  refine (HRG.out _ (HF1.out.seq' G5)).mono ?_
  rintro e w6 ⟨a6, c6, rfl, m6, f6⟩
  have b6 : Fr (fun _ => False) w6 (w6.alloc (.cells #[.slice a6 G.length c6, .int .i64 gl] 30)) := Fr.box _ _
  have K6 := (f5.seq' f6).seq' b6
  have G6 := G4.seq' K6
  have K46 := K4.seq' K6
  have K36 := K3.seq' K46
  have M6 := m6.same b6
  have T6 : Two (w6.alloc (.cells #[.slice a6 G.length c6, .int .i64 gl] 30)) w6.heap.size 30 (.slice a6 G.length c6) (.int .i64 gl) := Two.new _ _ _ _
  have HM6 : Hid (Mks (w6.alloc (.cells #[.slice a6 G.length c6, .int .i64 gl] 30)) a6 c6 G) := M6
  have HT6 : Hid (Two (w6.alloc (.cells #[.slice a6 G.length c6, .int .i64 gl] 30)) w6.heap.size 30 (.slice a6 G.length c6) (.int .i64 gl)) := T6
  obtain ⟨x0, x1, _⟩ := (HT1.out.fr K36 (fun f => f)).cells
  obtain ⟨y0, y1, _⟩ := (HT3.out.fr K46 (fun f => f)).cells
  have hs1 := HSM.out C cl _ _ _ _ _ (HM1.out.same K36) (HM3.out.same K46)
  clear m6 f5 f6 b6 G4 G5 M6 T6
  go_wp2_with fail
  generalize w6.alloc (.cells #[.slice a6 G.length c6, .int .i64 gl] 30) = W6 at *
  generalize w6.heap.size = B6 at *
  refine hs1.mono ?_
  rintro e w7 ⟨rfl, f7⟩
  clear x0 x1 y0 y1 hs1
  obtain ⟨x0, x1, _⟩ := (HT4.out.fr (K6.seq' f7) (fun f => f)).cells
  obtain ⟨y0, y1, _⟩ := (HT6.out.fr f7 (fun f => f)).cells
  go_wp2_with fail
  refine (HSM.out G gl _ _ _ _ _ (HM4.out.same (K6.seq' f7)) (HM6.out.same f7)).mono ?_
  rintro e w8 ⟨rfl, f8⟩
  clear x0 x1 y0 y1
  go_wp2_with fail
  refine (HSP.out _).mono ?_
  rintro e w9 ⟨rfl, f9⟩
  go_wp2
  go_ret
  exact ⟨by simp, HF1.out.seq' (((G6.seq' f7).seq' f8).seq' f9)⟩

set_option maxRecDepth 100000 in
theorem lifted (os : Os) (started : os.Started) (H : Type) (enc : TypeId × Value → H) :
    ReturnsInHanded {} Try.checked os 4 .any (Rows.lineChangesSpec.pre6 enc Try.prog Try.f4 Rows.lineChangesRow.domain false) (Rows.lineChangesSpec.post enc Try.prog Try.f4 false true false false) := by
  refine returnsInHanded_of_change_sized (C := Try.checked) own started (by kernel_rfl) Try.func4
    (ChangeSpec.witness6 (enc := enc) (C := Try.checked) false ⟨#[], #[.agg #[.slice none 0 0, .int .i64 0], .int .i64 0, .int .i64 0], []⟩ 8 (by kernel_rfl) (by kernel_rfl) (by kernel_rfl) (by kernel_rfl)) ?_
  intro W base args ds gs before hval0 hW hcnd hsz0 _
  have hsz : (DataW.weightsEach Try.prog (Try.f4.params.toList ++ Rows.lineChangesSpec.plain.varTypes Try.prog) (ds ++ gs)).all (· ≤ reachBytes) = true := hsz0
  clear hsz0
  have hval : ∀ (j : Nat) t v, Try.f4.params[j]? = some t → args[j]? = some v → Value.okWide Try.prog W .any base t v := hval0
  have hW' := hW
  obtain ⟨p, q, hA0, hV, rfl, hfz, hnd⟩ := hW
  have hA : DataW.TrodAll enc Try.prog W 0 (fun _ => true) true Try.f4.params.toList args.toList ds p := hA0
  rw [Try.params4] at hA hval hsz
  obtain ⟨v0, vs0, d0, ds0, p0, q0, hargs, rfl, rfl, h0, r0⟩ := trodAll_cons hA
  obtain ⟨v1, vs1, d1, ds1, p1, q1, rfl, rfl, rfl, h1, r1⟩ := trodAll_cons r0
  obtain ⟨v2, vs2, d2, ds2, p2, q2, rfl, rfl, rfl, h2, r2⟩ := trodAll_cons r1
  obtain ⟨rfl, rfl, rfl⟩ := trodAll_nil r2
  obtain rfl : args = #[v0, v1, v2] := by cases args; simp_all
  obtain ⟨rfl, rfl⟩ := trodVars_none hV
  have k0 := h0
  have lt0 : ∀ x ∈ p0, x.block < W.heap.size := by obtain ⟨m, hm⟩ := k0; exact DataW.trod_lt m _ _ _ hm
  obtain ⟨ta0, tc0, tm0, tl0, rfl, th0⟩ := line_open (hval 0 24 v0 rfl rfl) h0
  obtain ⟨a1, rfl, rfl, rfl, w1⟩ := open_int Try.underlying3 (hval 1 3 v1 rfl rfl) h1
  obtain ⟨a2, rfl, rfl, rfl, w2⟩ := open_int Try.underlying3 (hval 2 3 v2 rfl rfl) h2
  clear hA0 hval0
  refine (walk W ta0 tc0 tm0 tl0 th0 a1 w1 a2 w2).mono fun e W' ⟨he, fr⟩ => ?_
  have bel : Below W.heap.size W W' := fr.below (Nat.le_refl _) (fun _ f => f.elim)
  subst he
  exact ⟨_, rfl, _, _, _, [], _, [], hW', trodAll_mk1 (shut_bool Try.underlying4 _), (trodAll_cons_mk (Below.trod laidOut (by kernel_rfl) (of_decide_eq_true (by kernel_rfl)) k0 bel lt0) (trodAll_cons_mk (shut_int Try.underlying3 w1) (trodAll_cons_mk (shut_int Try.underlying3 w2) trodAll_mk0))), rfl, bel.frame _, fun h => by cases h⟩

theorem proved : Rows.LineChangesSaid :=
  OpenClaim.holds_of_wide 4 Try.f4 rfl rfl rfl rfl rfl rfl rfl ⟨rfl, rfl, rfl, rfl, rfl⟩ rfl rfl rfl rfl rfl (by kernel_rfl) Try.func4 (by kernel_rfl)
    (of_decide_eq_true (by kernel_rfl)) (by unfold Func.isWrapper; first | (rw [if_pos (by decide +kernel)]; kernel_rfl) | (rw [if_neg (by decide +kernel)]; exact ⟨rfl, rfl⟩))
    (fun os started H enc _ => lifted os started H enc)
end Go.Proofs.Ytphfngboddnbmaa.lineChanges
namespace Go.Proofs.Ytphfngboddnbmaa
theorem lineChanges_holds : Rows.LineChangesSaid := lineChanges.proved
#print axioms lineChanges_holds
end Go.Proofs.Ytphfngboddnbmaa
