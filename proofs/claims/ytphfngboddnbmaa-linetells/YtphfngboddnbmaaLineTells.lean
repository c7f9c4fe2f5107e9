
/- For any two timelines and any LSN, line.Check, At, Fork and Newer answer as the document's own, and the example speaks; with no condition but those of the statement's own form. -/
import Derived.Test.YtphfngboddnbmaaArgs
import Derived.Test.YtphfngboddnbmaaLnSpk
import Derived.Test.YtphfngboddnbmaaLnArg
namespace Go.Proofs.Ytphfngboddnbmaa.lineTells
open Go.ChangeShapes Go.WideShapes Go.ChangeAt Go.RowKit
open Go.ChangeMaps (open_string shut_string)
set_option linter.unusedVariables false

theorem own : ownKnob Try.prog.godebug = none := by kernel_rfl
theorem laidOut : laidOutB Try.prog = true := by kernel_rfl
theorem bytes8 : Try.prog.bytesOf 5 = 1 := by kernel_rfl

open Go.RowKit Go.Proofs.Ytphfngboddnbmaa.Ln
set_option maxRecDepth 100000 in
set_option maxHeartbeats 8000000 in
theorem walk (w : World) (a : Option Addr) (c : Nat) (ms : List Mk) (last : Int) (h : Mks w a c ms) (a' : Option Addr) (c' : Nat) (ns : List Mk) (lst : Int) (h' : Mks w a' c' ns) (x : Int) (wf : (Lit.int .i64 x).wf = true) :
    Calls Try.prog 3 #[.agg #[.slice a ms.length c, .int .i64 last], .agg #[.slice a' ns.length c', .int .i64 lst], .int .i64 x] w fun e w' => e = .returned (.bool true) ∧ Fr (fun _ => False) w w' := by
  obtain ⟨T1, T2, F1⟩ := two_boxes w 24 (.slice a ms.length c) (.int .i64 last) (.slice a' ns.length c') (.int .i64 lst)
  have HSP : Hid (∀ W, Calls Try.prog 16 #[] W fun e w' => e = .returned (.bool true) ∧ Fr (fun _ => False) W w') := speaks_any
  have HAT : Hid (∀ W, Fr (fun _ => False) w W → Calls Try.prog 7 #[.agg #[.slice a ms.length c, .int .i64 last], .int .i64 x] W fun e w' => e = .returned (.tuple #[.int .i64 (atN ms last x), .int .i64 (rcE ms last x)]) ∧ Fr (fun _ => False) W w') := fun W f => at_any a _ c ms last x rfl W (h.same f)
  have HRA : Hid (∀ W, Fr (fun _ => False) w W → Calls Try.prog 8 #[.agg #[.slice a ms.length c, .int .i64 last], .int .i64 x] W fun e w' => e = .returned (.tuple #[.int .i64 (atN ms last x), .int .i64 (rcE ms last x)]) ∧ Fr (fun _ => False) W w') := fun W f => rat_any a _ c ms last x rfl W (h.same f)
  have HFK : Hid (∀ W, Fr (fun _ => False) w W → Calls Try.prog 10 #[.agg #[.slice a ms.length c, .int .i64 last], .agg #[.slice a' ns.length c', .int .i64 lst]] W fun e w' => e = .returned (.tuple #[.int .i64 (fkN ms last ns lst), .int .i64 (arE ms last ns lst)]) ∧ Fr (fun _ => False) W w') := fun W f => fork_any a a' _ _ c c' ms ns last lst rfl rfl W (h.same f) (h'.same f)
  have HRF : Hid (∀ W, Fr (fun _ => False) w W → Calls Try.prog 11 #[.agg #[.slice a ms.length c, .int .i64 last], .agg #[.slice a' ns.length c', .int .i64 lst]] W fun e w' => e = .returned (.tuple #[.int .i64 (fkN ms last ns lst), .int .i64 (arE ms last ns lst)]) ∧ Fr (fun _ => False) W w') := fun W f => rfork_any a a' _ _ c c' ms ns last lst rfl rfl W (h.same f) (h'.same f)
  have HNW : Hid (∀ W, Fr (fun _ => False) w W → Calls Try.prog 12 #[.agg #[.slice a ms.length c, .int .i64 last], .agg #[.slice a' ns.length c', .int .i64 lst]] W fun e w' => e = .returned (.tuple #[.bool (nwB ms last ns lst), .int .i64 (arE ms last ns lst)]) ∧ Fr (fun _ => False) W w') := fun W f => newer_any a a' _ _ c c' ms ns last lst rfl rfl W (h.same f) (h'.same f)
  have HRN : Hid (∀ W, Fr (fun _ => False) w W → Calls Try.prog 13 #[.agg #[.slice a ms.length c, .int .i64 last], .agg #[.slice a' ns.length c', .int .i64 lst]] W fun e w' => e = .returned (.tuple #[.bool (nwB ms last ns lst), .int .i64 (arE ms last ns lst)]) ∧ Fr (fun _ => False) W w') := fun W f => rnewer_any a a' _ _ c c' ms ns last lst rfl rfl W (h.same f) (h'.same f)
  have HCK : Hid (∀ W, Fr (fun _ => False) w W → Calls Try.prog 14 #[.agg #[.slice a ms.length c, .int .i64 last]] W fun e w' => e = .returned (.int .i64 (ckE ms last)) ∧ Fr (fun _ => False) W w') := fun W f => check_any a _ c ms last rfl W (h.same f)
  have HRR : Hid (∀ W, Fr (fun _ => False) w W → Calls Try.prog 15 #[.agg #[.slice a ms.length c, .int .i64 last]] W fun e w' => e = .returned (.bool (linB ms last)) ∧ Fr (fun _ => False) W w') := fun W f => rright_any a _ c ms last rfl W (h.same f)
  have HR1 : Hid (∀ W, Calls Try.prog 9 #[.agg #[.slice a ms.length c, .int .i64 last]] W fun e w' => e = .returned (.agg #[.slice a ms.length c, .int .i64 last]) ∧ Fr (fun _ => False) W w') := ref_any a _ c last
  have HR2 : Hid (∀ W, Calls Try.prog 9 #[.agg #[.slice a' ns.length c', .int .i64 lst]] W fun e w' => e = .returned (.agg #[.slice a' ns.length c', .int .i64 lst]) ∧ Fr (fun _ => False) W w') := ref_any a' _ c' lst
  have HQ : Hid (∀ W, Fr (fun _ => False) ((w.alloc (.cells #[.slice a ms.length c, .int .i64 last] 24)).alloc (.cells #[.slice a' ns.length c', .int .i64 lst] 24)) W → (W.cell? ⟨w.heap.size, 0, none⟩ = some (.slice a ms.length c) ∧ W.cell? ⟨w.heap.size, 1, none⟩ = some (.int .i64 last)) ∧ W.cell? ⟨w.heap.size + 1, 0, none⟩ = some (.slice a' ns.length c') ∧ W.cell? ⟨w.heap.size + 1, 1, none⟩ = some (.int .i64 lst)) := fun W f => ⟨⟨(T1.fr f (fun f => f)).cells.1, (T1.fr f (fun f => f)).cells.2.1⟩, (T2.fr f (fun f => f)).cells.1, (T2.fr f (fun f => f)).cells.2.1⟩
  have HCL : Hid ((ckE ms last == 0) = linB ms last) := by
    show _ = _
    cases cl : linB ms last
    · rw [ckE_no cl]; rfl
    · rw [ckE_yes cl]; rfl
  generalize atN ms last x = p1 at *
  generalize rcE ms last x = p2 at *
  generalize fkN ms last ns lst = p3 at *
  generalize arE ms last ns lst = p4 at *
  generalize nwB ms last ns lst = p5 at *
  generalize ckE ms last = p6 at *
  generalize linB ms last = p7 at *
  generalize ms.length = n at *
  generalize ns.length = n' at *
  have hat := HAT.out _ F1
  obtain ⟨x0, x1, _⟩ := T1.cells
  obtain ⟨y0, y1, _⟩ := T2.cells
  clear h h' wf T1 T2
  go_enter Try.func3, Try.ntmps3
  go_wp2_with fail
  generalize ((w.alloc (.cells #[.slice a n c, .int .i64 last] 24)).alloc (.cells #[.slice a' n' c', .int .i64 lst] 24)) = V at *
  have HF1 : Hid (Fr (fun _ => False) w V) := F1
  refine hat.mono ?_
  rintro e w1 ⟨rfl, f1⟩
  clear hat x0 x1 y0 y1 F1
  obtain ⟨⟨x0, x1⟩, y0, y1⟩ := HQ.out _ f1
  go_wp2_with fail
  refine (HR1.out _).mono ?_
  rintro e w2 ⟨rfl, f2⟩
  have G2 := f1.seq' f2
  clear x0 x1 y0 y1 f1 f2
  go_wp2_with fail
  refine (HRA.out _ (HF1.out.seq' G2)).mono ?_
  rintro e w3 ⟨rfl, f3⟩
  have G3 := G2.seq' f3
  clear G2 f3
  obtain ⟨⟨x0, x1⟩, y0, y1⟩ := HQ.out _ G3
  go_wp2_with fail
  refine (HFK.out _ (HF1.out.seq' G3)).mono ?_
  rintro e w4 ⟨rfl, f4⟩
  have G4 := (G3.seq' f4).drew
  have q4 := HQ.out _ G4
  clear G3 f4 x0 x1 y0 y1
  have r1 := HR1.out w4.drew
  go_wp2_with fail
  go_region_held3 (fun W => (W.cell? ⟨w.heap.size, 0, none⟩ = some (.slice a n c) ∧ W.cell? ⟨w.heap.size, 1, none⟩ = some (.int .i64 last)) ∧ W.cell? ⟨w.heap.size + 1, 0, none⟩ = some (.slice a' n' c') ∧ W.cell? ⟨w.heap.size + 1, 1, none⟩ = some (.int .i64 lst))
    (first | with_reducible exact q4 | with_reducible exact q5 | with_reducible exact q6 | with_reducible exact q7 | fail)
    (first
      | (go_at_call 9; refine r1.mono ?_; rintro e w5 ⟨rfl, f5⟩; clear r1; have G5 := G4.seq' f5; have q5 := HQ.out _ G5; have r2 := HR2.out w5)
      | (go_at_call 9; refine r2.mono ?_; rintro e w6 ⟨rfl, f6⟩; clear r2; have G6 := G5.seq' f6; have q6 := HQ.out _ G6; have r3 := HRF.out _ (HF1.out.seq' G6))
      | (go_at_call 11; refine r3.mono ?_; rintro e w7 ⟨rfl, f7⟩; clear r3; have G7 := G6.seq' f7; have q7 := HQ.out _ G7))
  clear q4 q5 q6 G4 G5 G6 f5 f6 f7
  obtain ⟨⟨x0, x1⟩, y0, y1⟩ := q7
  go_wp2_with fail
  refine (HNW.out _ (HF1.out.seq' G7)).mono ?_
  rintro e w8 ⟨rfl, f8⟩
  have G8 := (G7.seq' f8).drew
  have q8 := HQ.out _ G8
  clear G7 f8 x0 x1 y0 y1
  have r1 := HR1.out w8.drew
  go_wp2_with fail
  go_region_held3 (fun W => (W.cell? ⟨w.heap.size, 0, none⟩ = some (.slice a n c) ∧ W.cell? ⟨w.heap.size, 1, none⟩ = some (.int .i64 last)) ∧ W.cell? ⟨w.heap.size + 1, 0, none⟩ = some (.slice a' n' c') ∧ W.cell? ⟨w.heap.size + 1, 1, none⟩ = some (.int .i64 lst))
    (first | with_reducible exact q8 | with_reducible exact q9 | with_reducible exact q10 | with_reducible exact q11 | fail)
    (first
      | (go_at_call 9; refine r1.mono ?_; rintro e w9 ⟨rfl, f9⟩; clear r1; have G9 := G8.seq' f9; have q9 := HQ.out _ G9; have r2 := HR2.out w9)
      | (go_at_call 9; refine r2.mono ?_; rintro e w10 ⟨rfl, f10⟩; clear r2; have G10 := G9.seq' f10; have q10 := HQ.out _ G10; have r3 := HRN.out _ (HF1.out.seq' G10))
      | (go_at_call 13; refine r3.mono ?_; rintro e w11 ⟨rfl, f11⟩; clear r3; have G11 := G10.seq' f11; have q11 := HQ.out _ G11))
  clear q8 q9 q10 q11 G8 G9 G10 f9 f10 f11
  have G12 := G11.drew
  have q12 := HQ.out _ G12
  have r1 := HCK.out _ (HF1.out.seq' G12)
  have hcl := HCL.out
  clear G11
  go_wp2_with fail
  go_region_held3 (fun W => (W.cell? ⟨w.heap.size, 0, none⟩ = some (.slice a n c) ∧ W.cell? ⟨w.heap.size, 1, none⟩ = some (.int .i64 last)) ∧ W.cell? ⟨w.heap.size + 1, 0, none⟩ = some (.slice a' n' c') ∧ W.cell? ⟨w.heap.size + 1, 1, none⟩ = some (.int .i64 lst))
    (first | with_reducible exact q12 | with_reducible exact q13 | with_reducible exact q14 | with_reducible exact q15 | with_reducible exact q16 | fail)
    (first
      | (go_at_call 14; refine r1.mono ?_; rintro e w13 ⟨rfl, f13⟩; clear r1; have G13 := G12.seq' f13; have q13 := HQ.out _ G13; have r2 := HR1.out w13)
      | (go_at_call 9; refine r2.mono ?_; rintro e w14 ⟨rfl, f14⟩; clear r2; have G14 := G13.seq' f14; have q14 := HQ.out _ G14; have r3 := HRR.out _ (HF1.out.seq' G14))
      | (go_at_call 15; refine r3.mono ?_; rintro e w15 ⟨rfl, f15⟩; clear r3; have G15 := G14.seq' f15; have q15 := HQ.out _ G15; have r4 := HSP.out w15)
      | (go_at_call 16; refine r4.mono ?_; rintro e w16 ⟨rfl, f16⟩; clear r4; have G16 := G15.seq' f16; have q16 := HQ.out _ G16))
  go_wp2
  go_ret
  exact ⟨by simp, HF1.out.seq' G16⟩

set_option maxRecDepth 100000 in
theorem lifted (os : Os) (started : os.Started) (H : Type) (enc : TypeId × Value → H) :
    ReturnsInHanded {} Try.checked os 3 .any (Rows.lineTellsSpec.pre6 enc Try.prog Try.f3 Rows.lineTellsRow.domain false) (Rows.lineTellsSpec.post enc Try.prog Try.f3 false true false false) := by
  refine returnsInHanded_of_change_sized (C := Try.checked) own started (by kernel_rfl) Try.func3
    (ChangeSpec.witness6 (enc := enc) (C := Try.checked) false ⟨#[], #[.agg #[.slice none 0 0, .int .i64 0], .agg #[.slice none 0 0, .int .i64 0], .int .i64 0], []⟩ 8 (by kernel_rfl) (by kernel_rfl) (by kernel_rfl) (by kernel_rfl)) ?_
  intro W base args ds gs before hval0 hW hcnd hsz0 _
  have hsz : (DataW.weightsEach Try.prog (Try.f3.params.toList ++ Rows.lineTellsSpec.plain.varTypes Try.prog) (ds ++ gs)).all (· ≤ reachBytes) = true := hsz0
  clear hsz0
  have hval : ∀ (j : Nat) t v, Try.f3.params[j]? = some t → args[j]? = some v → Value.okWide Try.prog W .any base t v := hval0
  have hW' := hW
  obtain ⟨p, q, hA0, hV, rfl, hfz, hnd⟩ := hW
  have hA : DataW.TrodAll enc Try.prog W 0 (fun _ => true) true Try.f3.params.toList args.toList ds p := hA0
  rw [Try.params3] at hA hval hsz
  obtain ⟨v0, vs0, d0, ds0, p0, q0, hargs, rfl, rfl, h0, r0⟩ := trodAll_cons hA
  obtain ⟨v1, vs1, d1, ds1, p1, q1, rfl, rfl, rfl, h1, r1⟩ := trodAll_cons r0
  obtain ⟨v2, vs2, d2, ds2, p2, q2, rfl, rfl, rfl, h2, r2⟩ := trodAll_cons r1
  obtain ⟨rfl, rfl, rfl⟩ := trodAll_nil r2
  obtain rfl : args = #[v0, v1, v2] := by cases args; simp_all
  obtain ⟨rfl, rfl⟩ := trodVars_none hV
  have k0 := h0
  have lt0 : ∀ x ∈ p0, x.block < W.heap.size := by obtain ⟨m, hm⟩ := k0; exact DataW.trod_lt m _ _ _ hm
  obtain ⟨ta0, tc0, tm0, tl0, rfl, th0⟩ := line_open (hval 0 24 v0 rfl rfl) h0
  have k1 := h1
  have lt1 : ∀ x ∈ p1, x.block < W.heap.size := by obtain ⟨m, hm⟩ := k1; exact DataW.trod_lt m _ _ _ hm
  obtain ⟨ta1, tc1, tm1, tl1, rfl, th1⟩ := line_open (hval 1 24 v1 rfl rfl) h1
  obtain ⟨a2, rfl, rfl, rfl, w2⟩ := open_int Try.underlying3 (hval 2 3 v2 rfl rfl) h2
  clear hA0 hval0
  refine (walk W ta0 tc0 tm0 tl0 th0 ta1 tc1 tm1 tl1 th1 a2 w2).mono fun e W' ⟨he, fr⟩ => ?_
  have bel : Below W.heap.size W W' := fr.below (Nat.le_refl _) (fun _ f => f.elim)
  subst he
  exact ⟨_, rfl, _, _, _, [], _, [], hW', trodAll_mk1 (shut_bool Try.underlying4 _), (trodAll_cons_mk (Below.trod laidOut (by kernel_rfl) (of_decide_eq_true (by kernel_rfl)) k0 bel lt0) (trodAll_cons_mk (Below.trod laidOut (by kernel_rfl) (of_decide_eq_true (by kernel_rfl)) k1 bel lt1) (trodAll_cons_mk (shut_int Try.underlying3 w2) trodAll_mk0))), rfl, bel.frame _, fun h => by cases h⟩

theorem proved : Rows.LineTellsSaid :=
  OpenClaim.holds_of_wide 3 Try.f3 rfl rfl rfl rfl rfl rfl rfl ⟨rfl, rfl, rfl, rfl, rfl⟩ rfl rfl rfl rfl rfl (by kernel_rfl) Try.func3 (by kernel_rfl)
    (of_decide_eq_true (by kernel_rfl)) (by unfold Func.isWrapper; first | (rw [if_pos (by decide +kernel)]; kernel_rfl) | (rw [if_neg (by decide +kernel)]; exact ⟨rfl, rfl⟩))
    (fun os started H enc _ => lifted os started H enc)
end Go.Proofs.Ytphfngboddnbmaa.lineTells
namespace Go.Proofs.Ytphfngboddnbmaa
theorem lineTells_holds : Rows.LineTellsSaid := lineTells.proved
#print axioms lineTells_holds
end Go.Proofs.Ytphfngboddnbmaa
