
/- Of any two timelines, the program and the document tell the same fork, whether something must be cut, and the same error, and the example speaks; with no condition but those of the statement's own form. -/
import Derived.Test.YtihkdffihmhnaaaGreatBB9
import Derived.Test.YtihkdffihmhnaaaGreatRwPt
import Derived.Test.YtihkdffihmhnaaaGreatRN8
namespace Go.Proofs.YtihkdffihmhnaaaGreat.rewindPoints
open Go.ChangeShapes Go.WideShapes Go.ChangeAt Go.RowKit
open Go.ChangeMaps (open_string shut_string)
set_option linter.unusedVariables false

theorem own : ownKnob Tryz.prog.godebug = none := by kernel_rfl
theorem laidOut : laidOutB Tryz.prog = true := by kernel_rfl
theorem bytes8 : Tryz.prog.bytesOf 5 = 1 := by kernel_rfl

open Go.RowKit
open Go.Proofs.YtihkdffihmhnaaaGreat.Ln (Mk Mks fkN arE two_boxes line_open)
set_option maxRecDepth 100000 in
set_option maxHeartbeats 8000000 in
theorem walk (w : World) (a : Option Addr) (c : Nat) (ms : List Mk) (last : Int) (h : Mks w a c ms) (a' : Option Addr) (c' : Nat) (ns : List Mk) (lst : Int) (h' : Mks w a' c' ns) :
    Calls Tryz.prog 6 #[.agg #[.slice a ms.length c, .int .i64 last], .agg #[.slice a' ns.length c', .int .i64 lst]] w fun e w' => e = .returned (.bool true) ∧ Fr (fun _ => False) w w' := by
  obtain ⟨T1, T2, F1⟩ := two_boxes w 67 (.slice a ms.length c) (.int .i64 last) (.slice a' ns.length c') (.int .i64 lst)
  have HSP : Hid (∀ W, Calls Tryz.prog 28 #[] W fun e w' => e = .returned (.bool true) ∧ Fr (fun _ => False) W w') := rwspk_any
  have hpt := point_any a a' _ _ c c' ms ns last lst rfl rfl _ (h.same F1) (h'.same F1)
  have HRP : Hid (∀ W, Fr (fun _ => False) w W → Calls Tryz.prog 27 #[.agg #[.slice a ms.length c, .int .i64 last], .agg #[.slice a' ns.length c', .int .i64 lst]] W fun e w' => e = .returned (.tuple #[.int .i64 (ptN ms last ns lst), .bool (ptB ms last ns lst), .int .i64 (arE ms last ns lst)]) ∧ Fr (fun _ => False) W w') := fun W f => rpoint_any a a' _ _ c c' ms ns last lst rfl rfl W (h.same f) (h'.same f)
  obtain ⟨x0, x1, _⟩ := T1.cells
  obtain ⟨y0, y1, _⟩ := T2.cells
  have HT1 : Hid (∀ W, Fr (fun _ => False) ((w.alloc (.cells #[.slice a ms.length c, .int .i64 last] 67)).alloc (.cells #[.slice a' ns.length c', .int .i64 lst] 67)) W → Ln.Two W w.heap.size 67 (.slice a ms.length c) (.int .i64 last) ∧ Ln.Two W (w.heap.size + 1) 67 (.slice a' ns.length c') (.int .i64 lst)) := fun W f => ⟨T1.fr f (fun f => f), T2.fr f (fun f => f)⟩
  have HF1 : Hid (Fr (fun _ => False) w ((w.alloc (.cells #[.slice a ms.length c, .int .i64 last] 67)).alloc (.cells #[.slice a' ns.length c', .int .i64 lst] 67))) := F1
  generalize ptN ms last ns lst = pn at *
  generalize ptB ms last ns lst = pb at *
  generalize arE ms last ns lst = ae at *
  generalize ms.length = n at *
  generalize ns.length = n' at *
  clear h h' T1 T2 F1
  go_enter Tryz.func6, Tryz.ntmps6
  go_wp2_with fail
  generalize ((w.alloc (.cells #[.slice a n c, .int .i64 last] 67)).alloc (.cells #[.slice a' n' c', .int .i64 lst] 67)) = V at *
  refine hpt.mono ?_
  rintro e w1 ⟨rfl, f1⟩
  clear hpt x0 x1 y0 y1
  obtain ⟨T1, T2⟩ := HT1.out _ f1
  obtain ⟨x0, x1, _⟩ := T1.cells
  obtain ⟨y0, y1, _⟩ := T2.cells
  have HG1 : Hid (Fr (fun _ => False) w w1) := HF1.out.seq' f1
  clear T1 T2 f1
  go_wp2_with fail
  refine (HRP.out _ HG1.out).mono ?_
  rintro e w2 ⟨rfl, f2⟩
  have HG2 : Hid (Fr (fun _ => False) w w2) := HG1.out.seq' f2
  clear f2 x0 x1 y0 y1
  go_wp2_with fail
  refine (HSP.out _).mono ?_
  rintro e w3 ⟨rfl, f3⟩
  go_wp2
  go_ret
  exact ⟨rfl, HG2.out.seq' f3⟩

set_option maxRecDepth 100000 in
theorem lifted (os : Os) (started : os.Started) (H : Type) (enc : TypeId × Value → H) :
    ReturnsInHanded {} Tryz.checked os 6 .any (Rows.rewindPointsSpec.pre6 enc Tryz.prog Tryz.f6 Rows.rewindPointsRow.domain false) (Rows.rewindPointsSpec.post enc Tryz.prog Tryz.f6 false true false false) := by
  refine returnsInHanded_of_change_sized (C := Tryz.checked) own started (by kernel_rfl) Tryz.func6
    (ChangeSpec.witness6 (enc := enc) (C := Tryz.checked) false ⟨#[], #[.agg #[.slice none 0 0, .int .i64 0], .agg #[.slice none 0 0, .int .i64 0]], []⟩ 8 (by kernel_rfl) (by kernel_rfl) (by kernel_rfl) (by kernel_rfl)) ?_
  intro W base args ds gs before hval0 hW hcnd hsz0 _
  have hsz : (DataW.weightsEach Tryz.prog (Tryz.f6.params.toList ++ Rows.rewindPointsSpec.plain.varTypes Tryz.prog) (ds ++ gs)).all (· ≤ reachBytes) = true := hsz0
  clear hsz0
  have hval : ∀ (j : Nat) t v, Tryz.f6.params[j]? = some t → args[j]? = some v → Value.okWide Tryz.prog W .any base t v := hval0
  have hW' := hW
  obtain ⟨p, q, hA0, hV, rfl, hfz, hnd⟩ := hW
  have hA : DataW.TrodAll enc Tryz.prog W 0 (fun _ => true) true Tryz.f6.params.toList args.toList ds p := hA0
  rw [Tryz.params6] at hA hval hsz
  obtain ⟨v0, vs0, d0, ds0, p0, q0, hargs, rfl, rfl, h0, r0⟩ := trodAll_cons hA
  obtain ⟨v1, vs1, d1, ds1, p1, q1, rfl, rfl, rfl, h1, r1⟩ := trodAll_cons r0
  obtain ⟨rfl, rfl, rfl⟩ := trodAll_nil r1
  obtain rfl : args = #[v0, v1] := by cases args; simp_all
  obtain ⟨rfl, rfl⟩ := trodVars_none hV
  have k0 := h0
  have lt0 : ∀ x ∈ p0, x.block < W.heap.size := by obtain ⟨m, hm⟩ := k0; exact DataW.trod_lt m _ _ _ hm
  obtain ⟨ta0, tc0, tm0, tl0, rfl, th0⟩ := line_open (hval 0 67 v0 rfl rfl) h0
  have k1 := h1
  have lt1 : ∀ x ∈ p1, x.block < W.heap.size := by obtain ⟨m, hm⟩ := k1; exact DataW.trod_lt m _ _ _ hm
  obtain ⟨ta1, tc1, tm1, tl1, rfl, th1⟩ := line_open (hval 1 67 v1 rfl rfl) h1
  clear hA0 hval0
  refine (walk W ta0 tc0 tm0 tl0 th0 ta1 tc1 tm1 tl1 th1).mono fun e W' ⟨he, fr⟩ => ?_
  have bel : Below W.heap.size W W' := fr.below (Nat.le_refl _) (fun _ f => f.elim)
  subst he
  exact ⟨_, rfl, _, _, _, [], _, [], hW', trodAll_mk1 (shut_bool Tryz.underlying4 _), (trodAll_cons_mk (Below.trod laidOut (by kernel_rfl) (of_decide_eq_true (by kernel_rfl)) k0 bel lt0) (trodAll_cons_mk (Below.trod laidOut (by kernel_rfl) (of_decide_eq_true (by kernel_rfl)) k1 bel lt1) trodAll_mk0)), rfl, bel.frame _, fun h => by cases h⟩

theorem proved : Rows.RewindPointsSaid :=
  OpenClaim.holds_of_wide 6 Tryz.f6 rfl rfl rfl rfl rfl rfl rfl ⟨rfl, rfl, rfl, rfl, rfl⟩ rfl rfl rfl rfl rfl (by kernel_rfl) Tryz.func6 (by kernel_rfl)
    (of_decide_eq_true (by kernel_rfl)) (by unfold Func.isWrapper; first | (rw [if_pos (by decide +kernel)]; kernel_rfl) | (rw [if_neg (by decide +kernel)]; exact ⟨rfl, rfl⟩))
    (fun os started H enc _ => lifted os started H enc)
end Go.Proofs.YtihkdffihmhnaaaGreat.rewindPoints
namespace Go.Proofs.YtihkdffihmhnaaaGreat
theorem rewindPoints_holds : Rows.RewindPointsSaid := rewindPoints.proved
#print axioms rewindPoints_holds
end Go.Proofs.YtihkdffihmhnaaaGreat
