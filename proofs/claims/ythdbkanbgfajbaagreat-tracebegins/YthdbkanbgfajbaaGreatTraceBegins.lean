
/- For any trace and any number, trace.Check of a beginning of the trace tells no broken rule where the whole trace has none or breaks its first one behind that beginning, and otherwise the same rule and step, and the small cases come true; no condition but those of the statement's own form. -/
import Derived.Test.YthdbkanbgfajbaaGreatTB3
import Derived.Test.YthdbkanbgfajbaaGreatTB27
import Derived.Test.YthdbkanbgfajbaaGreatTB24
namespace Go.Proofs.YthdbkanbgfajbaaGreat.traceBegins
open Go.ChangeShapes Go.WideShapes Go.ChangeAt Go.RowKit
open Go.ChangeMaps (open_string shut_string)
set_option linter.unusedVariables false

theorem own : ownKnob Tryz.prog.godebug = none := by kernel_rfl
theorem laidOut : laidOutB Tryz.prog = true := by kernel_rfl
theorem bytes8 : Tryz.prog.bytesOf 5 = 1 := by kernel_rfl

open Go.RowKit
theorem val_int {n : Int} (h : 0 ≤ n) : (Value.int .i64 n) = .int .i64 (n.toNat : Nat) := by rw [Int.toNat_of_nonneg h]
set_option maxRecDepth 100000 in
set_option maxHeartbeats 8000000 in
theorem walk (w : World) (a0 : Option Addr) (len0 cap0 : Nat) (l : List Sn) (hl0 : len0 = l.length) (hr0 : Sns w w.heap.size a0 cap0 l) (hw0 : ∀ s ∈ l, SnWf s) (hz0 : ∀ s ∈ l, s.ans.length * 72 ≤ reachBytes ∧ s.H.length * 80 ≤ reachBytes) (hb0 : len0 * 160 ≤ reachBytes) (n : Int) (w1 : (Lit.int .i64 n).wf = true) :
    Calls Tryz.prog 3 #[.slice a0 len0 cap0, .int .i64 n] w fun e w' => e = .returned (.bool true) ∧ Fr (fun _ => False) w w' := by
  have HSP : Hid (∀ W, Calls Tryz.prog 7 #[] W fun e w' => e = .returned (.bool true) ∧ Fr (fun _ => False) W w') := tspeaks_any
  have hlg := large_any a0 len0 cap0 l hl0 hz0 w hr0
  have hle : len0 ≤ cap0 := by rw [hl0]; exact hr0.le
  have hmx := hr0.max
  have HR : Hid (Sns w w.heap.size a0 cap0 l) := hr0
  have HW : Hid (∀ s ∈ l, SnWf s) := hw0
  have HN : Hid (len0 = l.length) := hl0
  clear hr0 hw0 hz0 hl0 hb0 w1
  go_enter Tryz.func3, Tryz.ntmps3
  go_wp2_with fail
  refine hlg.mono ?_
  rintro e w2 ⟨b, rfl, hb, f2⟩
  cases b with
  | true =>
    clear hlg
    go_wp2_with (go_at_call 7; refine (HSP.out _).mono ?_; rintro e w3 ⟨rfl, f3⟩)
    go_ret
    exact ⟨rfl, f2.seq' f3⟩
  | false =>
    have HS : Hid (Small l) := small_of HW.out (hb rfl)
    have hl3 : len0 ≤ 300 := by have := (hb rfl).1; have := HN.out; omega
    have HF2 : Hid (Fr (fun _ => False) w w2) := f2
    have HC : Hid (∀ W, Fr (fun _ => False) w W → Calls Tryz.prog 8 #[.slice a0 len0 cap0] W (ChkE W l)) := fun W f => check_any a0 len0 cap0 l HN.out HS.out W f.size (HR.out.same f)
    have HC2 : Hid (∀ (m : Nat) W, m ≤ len0 → Fr (fun _ => False) w W → Calls Tryz.prog 8 #[.slice a0 m cap0] W (ChkE W (l.take m))) := fun m W hm f => check_any a0 m cap0 (l.take m) (by rw [List.length_take]; have := HN.out; omega) (HS.out.take m) W f.size ((HR.out.take m).same f)
    unfold ChkE at HC HC2
    clear hlg hb f2
    obtain ⟨B, hB⟩ : ∃ B : Bool, B = decide (n < 0 ∨ (len0 : Int) < n) := ⟨_, rfl⟩
    have HB : Hid (B = decide (n < 0 ∨ (len0 : Int) < n)) := hB
    clear hB
    go_upto_region 3 with fail
    go_cut [21] (fun b wc => b = .bool B ∧ w2 = wc)
    case first =>
      by_cases hneg : n < 0
      · have hBt : B = true := by rw [HB.out]; exact decide_eq_true (Or.inl hneg)
        subst hBt
        go_wp2
        go_meet
        exact ⟨rfl, rfl⟩
      · have hn0 : decide (n < 0) = false := decide_eq_false hneg
        by_cases hbig : (len0 : Int) < n
        · have hBt : B = true := by rw [HB.out]; exact decide_eq_true (Or.inr hbig)
          subst hBt
          go_wp2
          go_meet
          exact ⟨rfl, rfl⟩
        · have hBf : B = false := by rw [HB.out]; exact decide_eq_false (by omega)
          subst hBf
          go_wp2
          go_meet
          exact ⟨by simp, rfl⟩
    case rest =>
    obtain ⟨rfl, rfl⟩ := hcut
    go_upto_if 21 with fail
    go_cut [1] (fun t wc => ∃ m : Nat, t = .int .i64 m ∧ m ≤ len0 ∧ w2 = wc)
    case first =>
      cases B
      · have hno : ¬ (n < 0 ∨ (len0 : Int) < n) := of_decide_eq_false HB.out.symm
        go_wp2
        go_meet
        exact ⟨n.toNat, val_int (by omega), by omega, rfl⟩
      · go_wp2
        go_meet
        exact ⟨len0, rfl, by omega, rfl⟩
    case rest =>
    obtain ⟨m, rfl, hm, rfl⟩ := hcut
    clear HB
    have hc1 := HC.out w2 HF2.out
    go_wp2_with fail
    refine hc1.mono ?_
    rintro e w3 ⟨a, i, rfl, hk1, f3⟩
    have HF3 : Hid (Fr (fun _ => False) w w3) := HF2.out.seq' f3
    have hc2 := HC2.out m w3 hm HF3.out
    have HK1 : Hid (ChkO l a i) := hk1
    clear hc1 f3 hk1 HF2 HC
    go_wp2_with fail
    refine hc2.mono ?_
    rintro e w4 ⟨b, k, rfl, hk2, f4⟩
    have HF4 : Hid (Fr (fun _ => False) w w4) := HF3.out.seq' f4
    have HBG : Hid (((a = 0 ∨ (m : Int) ≤ i) → b = 0 ∧ k = 0) ∧ (¬ (a = 0 ∨ (m : Int) ≤ i) → b = a ∧ k = i)) := begins (by have := HN.out; omega) HK1.out hk2
    clear hc2 f4 hk2 HK1 HF3 HC2
    by_cases ha : a = 0
    · subst ha
      obtain ⟨rfl, rfl⟩ := HBG.out.1 (.inl rfl)
      clear HBG
      go_wp2_with (go_at_call 7; refine (HSP.out _).mono ?_; rintro e w5 ⟨rfl, f5⟩)
      go_ret
      exact ⟨rfl, HF4.out.seq' f5⟩
    · have ha' : (a == 0) = false := by simpa using ha
      by_cases hi : (m : Int) ≤ i
      · obtain ⟨rfl, rfl⟩ := HBG.out.1 (.inr hi)
        clear HBG ha
        go_wp2_with (go_at_call 7; refine (HSP.out _).mono ?_; rintro e w5 ⟨rfl, f5⟩)
        go_ret
        exact ⟨rfl, HF4.out.seq' f5⟩
      · obtain ⟨rfl, rfl⟩ := HBG.out.2 (by omega)
        clear HBG ha
        go_wp2_with (go_at_call 7; refine (HSP.out _).mono ?_; rintro e w5 ⟨rfl, f5⟩)
        go_ret
        exact ⟨rfl, HF4.out.seq' f5⟩

set_option maxRecDepth 100000 in
theorem lifted (os : Os) (started : os.Started) (H : Type) (enc : TypeId × Value → H) :
    ReturnsInHanded {} Tryz.checked os 3 .any (Rows.traceBeginsSpec.pre6 enc Tryz.prog Tryz.f3 Rows.traceBeginsRow.domain false) (Rows.traceBeginsSpec.post enc Tryz.prog Tryz.f3 false true false false) := by
  refine returnsInHanded_of_change_sized (C := Tryz.checked) own started (by kernel_rfl) Tryz.func3
    (ChangeSpec.witness6 (enc := enc) (C := Tryz.checked) false ⟨#[], #[.slice none 0 0, .int .i64 0], []⟩ 8 (by kernel_rfl) (by kernel_rfl) (by kernel_rfl) (by kernel_rfl)) ?_
  intro W base args ds gs before hval0 hW hcnd hsz0 _
  have hsz : (DataW.weightsEach Tryz.prog (Tryz.f3.params.toList ++ Rows.traceBeginsSpec.plain.varTypes Tryz.prog) (ds ++ gs)).all (· ≤ reachBytes) = true := hsz0
  clear hsz0
  have hval : ∀ (j : Nat) t v, Tryz.f3.params[j]? = some t → args[j]? = some v → Value.okWide Tryz.prog W .any base t v := hval0
  have hW' := hW
  obtain ⟨p, q, hA0, hV, rfl, hfz, hnd⟩ := hW
  have hA : DataW.TrodAll enc Tryz.prog W 0 (fun _ => true) true Tryz.f3.params.toList args.toList ds p := hA0
  rw [Tryz.params3] at hA hval hsz
  obtain ⟨v0, vs0, d0, ds0, p0, q0, hargs, rfl, rfl, h0, r0⟩ := trodAll_cons hA
  obtain ⟨v1, vs1, d1, ds1, p1, q1, rfl, rfl, rfl, h1, r1⟩ := trodAll_cons r0
  obtain ⟨rfl, rfl, rfl⟩ := trodAll_nil r1
  obtain rfl : args = #[v0, v1] := by cases args; simp_all
  obtain ⟨rfl, rfl⟩ := trodVars_none hV
  obtain ⟨a0, len0, cap0, rfl⟩ := okWide_slice Tryz.underlying22 (hval 0 22 v0 rfl rfl)
  have k0 := h0
  have lt0 : ∀ x ∈ p0, x.block < W.heap.size := by obtain ⟨m, hm⟩ := k0; exact DataW.trod_lt m _ _ _ hm
  have wz0 : ∀ z ∈ d0.weights Tryz.prog 22, z ≤ reachBytes := fun z hz => by simpa using List.all_eq_true.1 hsz z (DataW.weights_mem_each (j := 0) rfl rfl z hz)
  obtain ⟨ls0, hl0, hr0, hw0, hz0, hb0⟩ : ∃ ls : List Sn, len0 = ls.length ∧ Sns W W.heap.size a0 cap0 ls ∧ (∀ s ∈ ls, SnWf s) ∧ (∀ s ∈ ls, s.ans.length * 72 ≤ reachBytes ∧ s.H.length * 80 ≤ reachBytes) ∧ len0 * 160 ≤ reachBytes := by
    obtain ⟨fuel, hf⟩ := h0
    exact sns_open hf wz0
  obtain ⟨a1, rfl, rfl, rfl, w1⟩ := open_int Tryz.underlying3 (hval 1 3 v1 rfl rfl) h1
  clear hA0 hval0
  refine (walk W a0 len0 cap0 ls0 hl0 hr0 hw0 hz0 hb0 a1 w1).mono fun e W' ⟨he, fr⟩ => ?_
  have bel : Below W.heap.size W W' := fr.below (Nat.le_refl _) (fun _ f => f.elim)
  subst he
  exact ⟨_, rfl, _, _, _, [], _, [], hW', trodAll_mk1 (shut_bool Tryz.underlying4 _), (trodAll_cons_mk (Below.trod laidOut (by kernel_rfl) (of_decide_eq_true (by kernel_rfl)) k0 bel lt0) (trodAll_cons_mk (shut_int Tryz.underlying3 w1) trodAll_mk0)), rfl, bel.frame _, fun h => by cases h⟩

theorem proved : Rows.TraceBeginsSaid :=
  OpenClaim.holds_of_wide 3 Tryz.f3 rfl rfl rfl rfl rfl rfl rfl ⟨rfl, rfl, rfl, rfl, rfl⟩ rfl rfl rfl rfl rfl (by kernel_rfl) Tryz.func3 (by kernel_rfl)
    (of_decide_eq_true (by kernel_rfl)) (by unfold Func.isWrapper; first | (rw [if_pos (by decide +kernel)]; kernel_rfl) | (rw [if_neg (by decide +kernel)]; exact ⟨rfl, rfl⟩))
    (fun os started H enc _ => lifted os started H enc)
end Go.Proofs.YthdbkanbgfajbaaGreat.traceBegins
namespace Go.Proofs.YthdbkanbgfajbaaGreat
theorem traceBegins_holds : Rows.TraceBeginsSaid := traceBegins.proved
#print axioms traceBegins_holds
end Go.Proofs.YthdbkanbgfajbaaGreat
