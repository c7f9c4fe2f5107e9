
/- For any two timelines: up to the fork that line.Fork tells both are the same, behind it they are not, it is the same both ways, and the example speaks; with no condition but those of the statement's own form. -/
import Derived.Test.YtphfngboddnbmaaArgs
import Derived.Test.YtphfngboddnbmaaLnLaw
import Derived.Test.YtphfngboddnbmaaLnArg
namespace Go.Proofs.Ytphfngboddnbmaa.lineFork
open Go.ChangeShapes Go.WideShapes Go.ChangeAt Go.RowKit
open Go.ChangeMaps (open_string shut_string)
set_option linter.unusedVariables false

theorem own : ownKnob Try.prog.godebug = none := by kernel_rfl
theorem laidOut : laidOutB Try.prog = true := by kernel_rfl
theorem bytes8 : Try.prog.bytesOf 5 = 1 := by kernel_rfl

open Go.RowKit Go.Proofs.Ytphfngboddnbmaa.Ln
set_option maxRecDepth 100000 in
set_option maxHeartbeats 8000000 in
theorem walk (w : World) (a : Option Addr) (c : Nat) (ms : List Mk) (last : Int) (h : Mks w a c ms) (a' : Option Addr) (c' : Nat) (ns : List Mk) (lst : Int) (h' : Mks w a' c' ns) :
    Calls Try.prog 5 #[.agg #[.slice a ms.length c, .int .i64 last], .agg #[.slice a' ns.length c', .int .i64 lst]] w fun e w' => e = .returned (.bool true) ∧ Fr (fun _ => False) w w' := by
  obtain ⟨T1, T2, F1⟩ := two_boxes w 24 (.slice a ms.length c) (.int .i64 last) (.slice a' ns.length c') (.int .i64 lst)
  have HSP : Hid (∀ W, Calls Try.prog 16 #[] W fun e w' => e = .returned (.bool true) ∧ Fr (fun _ => False) W w') := speaks_any
  have HFK : Hid (∀ W, Fr (fun _ => False) w W → Calls Try.prog 10 #[.agg #[.slice a ms.length c, .int .i64 last], .agg #[.slice a' ns.length c', .int .i64 lst]] W fun e w' => e = .returned (.tuple #[.int .i64 (fkN ms last ns lst), .int .i64 (arE ms last ns lst)]) ∧ Fr (fun _ => False) W w') := fun W f => fork_any a a' _ _ c c' ms ns last lst rfl rfl W (h.same f) (h'.same f)
  have HFB : Hid (∀ W, Fr (fun _ => False) w W → Calls Try.prog 10 #[.agg #[.slice a' ns.length c', .int .i64 lst], .agg #[.slice a ms.length c, .int .i64 last]] W fun e w' => e = .returned (.tuple #[.int .i64 (fkN ms last ns lst), .int .i64 (arE ms last ns lst)]) ∧ Fr (fun _ => False) W w') := fun W f => by
    have := fork_any a' a _ _ c' c ns ms lst last rfl rfl W (h'.same f) (h.same f)
    rw [(both_comm ms last ns lst).1, (both_comm ms last ns lst).2] at this
    exact this
  have HQ : Hid (∀ W, Fr (fun _ => False) ((w.alloc (.cells #[.slice a ms.length c, .int .i64 last] 24)).alloc (.cells #[.slice a' ns.length c', .int .i64 lst] 24)) W → (W.cell? ⟨w.heap.size, 0, none⟩ = some (.slice a ms.length c) ∧ W.cell? ⟨w.heap.size, 1, none⟩ = some (.int .i64 last)) ∧ W.cell? ⟨w.heap.size + 1, 0, none⟩ = some (.slice a' ns.length c') ∧ W.cell? ⟨w.heap.size + 1, 1, none⟩ = some (.int .i64 lst)) := fun W f => ⟨⟨(T1.fr f (fun f => f)).cells.1, (T1.fr f (fun f => f)).cells.2.1⟩, (T2.fr f (fun f => f)).cells.1, (T2.fr f (fun f => f)).cells.2.1⟩
  obtain ⟨x0, x1, _⟩ := T1.cells
  obtain ⟨y0, y1, _⟩ := T2.cells
  cases cl : (linB ms last && linB ns lst)
  · rw [(arE_no cl).1, (arE_no cl).2] at HFK HFB
    have h1 := HFK.out _ F1
    generalize ms.length = n at *
    generalize ns.length = n' at *
    clear h h' T1 T2 cl
    go_enter Try.func5, Try.ntmps5
    go_wp2_with fail
    generalize ((w.alloc (.cells #[.slice a n c, .int .i64 last] 24)).alloc (.cells #[.slice a' n' c', .int .i64 lst] 24)) = V at *
    have HF1 : Hid (Fr (fun _ => False) w V) := F1
    refine h1.mono ?_
    rintro e w1 ⟨rfl, f1⟩
    clear h1 x0 x1 y0 y1
    obtain ⟨⟨x0, x1⟩, y0, y1⟩ := HQ.out _ f1
    go_wp2_with fail
    refine (HFB.out _ (HF1.out.seq' f1)).mono ?_
    rintro e w2 ⟨rfl, f2⟩
    go_wp2_with fail
    refine (HSP.out _).mono ?_
    rintro e w3 ⟨rfl, f3⟩
    go_wp2
    go_ret
    exact ⟨by simp, HF1.out.seq' ((f1.seq' f2).seq' f3)⟩
  · obtain ⟨f, C, hf, g0, g1, g2, g3, ⟨i1, i2, i3⟩, ⟨j1, j2, j3⟩, hne⟩ := fork_all cl
    rw [(arE_yes cl).1, hf] at HFK HFB
    have HC1 : Hid (∀ W, Fr (fun _ => False) w W → Calls Try.prog 17 #[.agg #[.slice a ms.length c, .int .i64 last], .int .i64 f] W fun e w' => LnOut W C f 0 e w') := fun W k => by
      have := cut_any a _ c ms last f rfl W (h.same k)
      rw [i1, i2, i3] at this; exact this
    have HC2 : Hid (∀ W, Fr (fun _ => False) w W → Calls Try.prog 17 #[.agg #[.slice a' ns.length c', .int .i64 lst], .int .i64 f] W fun e w' => LnOut W C f 0 e w') := fun W k => by
      have := cut_any a' _ c' ns lst f rfl W (h'.same k)
      rw [j1, j2, j3] at this; exact this
    have HA1 : Hid (∀ W, Fr (fun _ => False) w W → Calls Try.prog 7 #[.agg #[.slice a ms.length c, .int .i64 last], .int .i64 (f + 1)] W fun e w' => e = .returned (.tuple #[.int .i64 (atN ms last (f + 1)), .int .i64 (rcE ms last (f + 1))]) ∧ Fr (fun _ => False) W w') := fun W k => at_any a _ c ms last (f + 1) rfl W (h.same k)
    have HA2 : Hid (∀ W, Fr (fun _ => False) w W → Calls Try.prog 7 #[.agg #[.slice a' ns.length c', .int .i64 lst], .int .i64 (f + 1)] W fun e w' => e = .returned (.tuple #[.int .i64 (atN ns lst (f + 1)), .int .i64 (rcE ns lst (f + 1))]) ∧ Fr (fun _ => False) W w') := fun W k => at_any a' _ c' ns lst (f + 1) rfl W (h'.same k)
    have HSM : Hid (∀ (b b' : Option Addr) (d d' : Nat) (W : World), Mks W b d C → Mks W b' d' C → Calls Try.prog 22 #[.slice b C.length d, .slice b' C.length d'] W fun e w' => e = .returned (.bool true) ∧ Fr (fun _ => False) W w') := fun b b' d d' W h1 h2 => plain_marks b b' _ _ d d' C rfl rfl W h1 h2
    generalize atN ms last (f + 1) = p at *
    generalize atN ns lst (f + 1) = q at *
    generalize rcE ms last (f + 1) = pe at *
    generalize rcE ns lst (f + 1) = qe at *
    have h1 := HFK.out _ F1
    generalize ms.length = n at *
    generalize ns.length = n' at *
    have HNE : Hid (f < last → f < lst → p ≠ q) := hne
    have d0 : decide (f < 0) = false := decide_eq_false (by omega)
    have d1 : decide (last < f) = false := decide_eq_false (by omega)
    have d2 : decide (lst < f) = false := decide_eq_false (by omega)
    clear h h' T1 T2 cl hf hne i1 i2 i3 j1 j2 j3
    go_enter Try.func5, Try.ntmps5
    go_wp2_with fail
    generalize ((w.alloc (.cells #[.slice a n c, .int .i64 last] 24)).alloc (.cells #[.slice a' n' c', .int .i64 lst] 24)) = V at *
    have HF1 : Hid (Fr (fun _ => False) w V) := F1
    refine h1.mono ?_
    rintro e w1 ⟨rfl, f1⟩
    clear h1 x0 x1 y0 y1
    obtain ⟨⟨x0, x1⟩, y0, y1⟩ := HQ.out _ f1
    go_wp2_with fail
    refine (HFB.out _ (HF1.out.seq' f1)).mono ?_
    rintro e w2 ⟨rfl, f2⟩
    have G2 := f1.seq' f2
    clear x0 x1 y0 y1 f1 f2
    obtain ⟨⟨x0, x1⟩, y0, y1⟩ := HQ.out _ G2
    go_wp2_with fail
    refine (HC1.out _ (HF1.out.seq' G2)).mono ?_
    rintro e w3 ⟨a3, c3, rfl, m3, f3⟩
    have b3 : Fr (fun _ => False) w3 (w3.alloc (.cells #[.slice a3 C.length c3, .int .i64 f] 24)) := Fr.box _ _
    have G3 := (G2.seq' f3).seq' b3
    have HM3 : Hid (Mks (w3.alloc (.cells #[.slice a3 C.length c3, .int .i64 f] 24)) a3 c3 C) := m3.same b3
    have HT3 : Hid (Two (w3.alloc (.cells #[.slice a3 C.length c3, .int .i64 f] 24)) w3.heap.size 24 (.slice a3 C.length c3) (.int .i64 f)) := Two.new _ _ _ _
    clear x0 x1 y0 y1 G2 f3 m3 b3
    obtain ⟨⟨x0, x1⟩, y0, y1⟩ := HQ.out _ G3
    go_wp2_with fail
    generalize w3.alloc (.cells #[.slice a3 C.length c3, .int .i64 f] 24) = W3 at *
    generalize w3.heap.size = B3 at *
    refine (HC2.out _ (HF1.out.seq' G3)).mono ?_
    rintro e w4 ⟨a4, c4, rfl, m4, f4⟩
    have b4 : Fr (fun _ => False) w4 (w4.alloc (.cells #[.slice a4 C.length c4, .int .i64 f] 24)) := Fr.box _ _
    have K4 := f4.seq' b4
    have G4 := G3.seq' K4
    have hp := HSM.out _ _ _ _ _ (HM3.out.same K4) (m4.same b4)
    obtain ⟨u0, u1, _⟩ := (HT3.out.fr K4 (fun f => f)).cells
    obtain ⟨v0, v1, _⟩ := (Two.new w4 24 (.slice a4 C.length c4) (.int .i64 f)).cells
    clear x0 x1 y0 y1 G3 f4 m4 b4 K4
    go_wp2_with fail
    generalize w4.alloc (.cells #[.slice a4 C.length c4, .int .i64 f] 24) = W4 at *
    generalize w4.heap.size = B4 at *
    refine hp.mono ?_
    rintro e w5 ⟨rfl, f5⟩
    have G5 := G4.seq' f5
    clear hp u0 u1 v0 v1 G4 f5
    obtain ⟨⟨x0, x1⟩, y0, y1⟩ := HQ.out _ G5
    by_cases k1 : f < last
    · have k1' : decide (f < last) = true := decide_eq_true k1
      by_cases k2 : f < lst
      · have k2' : decide (f < lst) = true := decide_eq_true k2
        have hpq : (p != q) = true := by rw [bne_iff_ne]; exact HNE.out k1 k2
        have hw : IntKind.i64.wrap (f + 1) = f + 1 := by simp [IntKind.wrap, IntKind.bits, IntKind.signed]; omega
        go_wp2_with fail
        refine (HA1.out _ (HF1.out.seq' G5)).mono ?_
        rintro e w6 ⟨rfl, f6⟩
        have G6 := G5.seq' f6
        clear x0 x1 y0 y1 G5 f6
        obtain ⟨⟨x0, x1⟩, y0, y1⟩ := HQ.out _ G6
        go_wp2_with fail
        refine (HA2.out _ (HF1.out.seq' G6)).mono ?_
        rintro e w7 ⟨rfl, f7⟩
        go_wp2_with fail
        refine (HSP.out _).mono ?_
        rintro e w8 ⟨rfl, f8⟩
        go_wp2
        go_ret
        exact ⟨by simp, HF1.out.seq' ((G6.seq' f7).seq' f8)⟩
      · have k2' : decide (f < lst) = false := decide_eq_false k2
        go_wp2_with fail
        refine (HSP.out _).mono ?_
        rintro e w8 ⟨rfl, f8⟩
        go_wp2
        go_ret
        exact ⟨by simp, HF1.out.seq' (G5.seq' f8)⟩
    · have k1' : decide (f < last) = false := decide_eq_false k1
      go_wp2_with fail
      refine (HSP.out _).mono ?_
      rintro e w8 ⟨rfl, f8⟩
      go_wp2
      go_ret
      exact ⟨by simp, HF1.out.seq' (G5.seq' f8)⟩

set_option maxRecDepth 100000 in
theorem lifted (os : Os) (started : os.Started) (H : Type) (enc : TypeId × Value → H) :
    ReturnsInHanded {} Try.checked os 5 .any (Rows.lineForkSpec.pre6 enc Try.prog Try.f5 Rows.lineForkRow.domain false) (Rows.lineForkSpec.post enc Try.prog Try.f5 false true false false) := by
  refine returnsInHanded_of_change_sized (C := Try.checked) own started (by kernel_rfl) Try.func5
    (ChangeSpec.witness6 (enc := enc) (C := Try.checked) false ⟨#[], #[.agg #[.slice none 0 0, .int .i64 0], .agg #[.slice none 0 0, .int .i64 0]], []⟩ 8 (by kernel_rfl) (by kernel_rfl) (by kernel_rfl) (by kernel_rfl)) ?_
  intro W base args ds gs before hval0 hW hcnd hsz0 _
  have hsz : (DataW.weightsEach Try.prog (Try.f5.params.toList ++ Rows.lineForkSpec.plain.varTypes Try.prog) (ds ++ gs)).all (· ≤ reachBytes) = true := hsz0
  clear hsz0
  have hval : ∀ (j : Nat) t v, Try.f5.params[j]? = some t → args[j]? = some v → Value.okWide Try.prog W .any base t v := hval0
  have hW' := hW
  obtain ⟨p, q, hA0, hV, rfl, hfz, hnd⟩ := hW
  have hA : DataW.TrodAll enc Try.prog W 0 (fun _ => true) true Try.f5.params.toList args.toList ds p := hA0
  rw [Try.params5] at hA hval hsz
  obtain ⟨v0, vs0, d0, ds0, p0, q0, hargs, rfl, rfl, h0, r0⟩ := trodAll_cons hA
  obtain ⟨v1, vs1, d1, ds1, p1, q1, rfl, rfl, rfl, h1, r1⟩ := trodAll_cons r0
  obtain ⟨rfl, rfl, rfl⟩ := trodAll_nil r1
  obtain rfl : args = #[v0, v1] := by cases args; simp_all
  obtain ⟨rfl, rfl⟩ := trodVars_none hV
  have k0 := h0
  have lt0 : ∀ x ∈ p0, x.block < W.heap.size := by obtain ⟨m, hm⟩ := k0; exact DataW.trod_lt m _ _ _ hm
  obtain ⟨ta0, tc0, tm0, tl0, rfl, th0⟩ := line_open (hval 0 24 v0 rfl rfl) h0
  have k1 := h1
  have lt1 : ∀ x ∈ p1, x.block < W.heap.size := by obtain ⟨m, hm⟩ := k1; exact DataW.trod_lt m _ _ _ hm
  obtain ⟨ta1, tc1, tm1, tl1, rfl, th1⟩ := line_open (hval 1 24 v1 rfl rfl) h1
  clear hA0 hval0
  refine (walk W ta0 tc0 tm0 tl0 th0 ta1 tc1 tm1 tl1 th1).mono fun e W' ⟨he, fr⟩ => ?_
  have bel : Below W.heap.size W W' := fr.below (Nat.le_refl _) (fun _ f => f.elim)
  subst he
  exact ⟨_, rfl, _, _, _, [], _, [], hW', trodAll_mk1 (shut_bool Try.underlying4 _), (trodAll_cons_mk (Below.trod laidOut (by kernel_rfl) (of_decide_eq_true (by kernel_rfl)) k0 bel lt0) (trodAll_cons_mk (Below.trod laidOut (by kernel_rfl) (of_decide_eq_true (by kernel_rfl)) k1 bel lt1) trodAll_mk0)), rfl, bel.frame _, fun h => by cases h⟩

theorem proved : Rows.LineForkSaid :=
  OpenClaim.holds_of_wide 5 Try.f5 rfl rfl rfl rfl rfl rfl rfl ⟨rfl, rfl, rfl, rfl, rfl⟩ rfl rfl rfl rfl rfl (by kernel_rfl) Try.func5 (by kernel_rfl)
    (of_decide_eq_true (by kernel_rfl)) (by unfold Func.isWrapper; first | (rw [if_pos (by decide +kernel)]; kernel_rfl) | (rw [if_neg (by decide +kernel)]; exact ⟨rfl, rfl⟩))
    (fun os started H enc _ => lifted os started H enc)
end Go.Proofs.Ytphfngboddnbmaa.lineFork
namespace Go.Proofs.Ytphfngboddnbmaa
theorem lineFork_holds : Rows.LineForkSaid := lineFork.proved
#print axioms lineFork_holds
end Go.Proofs.Ytphfngboddnbmaa
