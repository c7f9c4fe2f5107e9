
/- Of any numbers, a majority has what Commit tells and none has more, and where numbers become greater it is not less, and the examples speak; with no condition but those of the statement's own form. -/
import Derived.Test.YtnjfihmghhjfcaaArgs
import Derived.Test.YtnjfihmghhjfcaaQuSpk
import Derived.Test.YtnjfihmghhjfcaaQuArg
import Derived.Test.YtnjfihmghhjfcaaQuPl
namespace Go.Proofs.Ytnjfihmghhjfcaa.quorumGrows
open Go.ChangeShapes Go.WideShapes Go.ChangeAt Go.RowKit
open Go.ChangeMaps (open_string shut_string)
set_option linter.unusedVariables false

theorem own : ownKnob Try.prog.godebug = none := by kernel_rfl
theorem laidOut : laidOutB Try.prog = true := by kernel_rfl
theorem bytes8 : Try.prog.bytesOf 5 = 1 := by kernel_rfl

open Go.RowKit
open Go.Proofs.Ytnjfihmghhjfcaa.Qu
set_option maxRecDepth 100000 in
set_option maxHeartbeats 8000000 in
theorem walk (w : World) (a0 : Option Addr) (len0 cap0 : Nat) (xs : List Int) (hl0 : len0 = xs.length) (hb0 : xs.length ≤ 17592186043904) (hr0 : Is w a0 cap0 xs) (_hw : ∀ x ∈ xs, wfI x)
    (a1 : Option Addr) (len1 cap1 : Nat) (ys : List Int) (hl1 : len1 = ys.length) (hb1 : ys.length ≤ 17592186043904) (hr1 : Is w a1 cap1 ys) (_hw1 : ∀ x ∈ ys, wfI x) :
    Calls Try.prog 6 #[.slice a0 len0 cap0, .slice a1 len1 cap1] w fun e w' => e = .returned (.bool true) ∧ Fr (fun _ => False) w w' := by
  have HSP : Hid (∀ W, Calls Try.prog 15 #[] W fun e w' => e = .returned (.bool true) ∧ Fr (fun _ => False) W w') := quspk_any
  have hle := hr0.le
  have hmx := hr0.max
  have hle1 := hr1.le
  have hmx1 := hr1.max
  rw [← hl0] at hle hb0
  rw [← hl1] at hle1 hb1
  have hc1 := commit_any a0 len0 cap0 xs hl0 w hr0
  clear _hw _hw1
  by_cases he : comE xs = 0
  · obtain ⟨nk, _⟩ := com_ok he
    have h7 : 1 ≤ len0 ∧ len0 ≤ 7 := by have := nOk_iff.1 nk; omega
    obtain ⟨h70, h71⟩ := h7
    obtain ⟨_, k2, k3, _⟩ := com_facts he
    have K2 : Hid (xs.length < 2 * cntG xs (comN xs)) := k2
    have K3 : Hid (2 * xs.countP (fun b => decide (comN xs < b)) ≤ xs.length) := by
      show _ ≤ _
      rw [cnt_above]
      refine Nat.not_lt.1 fun h => ?_
      have := k3 _ h
      omega
    obtain ⟨g1, g2⟩ := com_grows ys he
    have G1 : Hid (comE (moreK xs ys xs.length) = 0) := g1
    have G2 : Hid (comN xs ≤ comN (moreK xs ys xs.length)) := g2
    have HS : Hid (∀ W, Fr (fun _ => False) w W → Is W a0 cap0 xs) := fun W f => hr0.same f
    have HS1 : Hid (∀ W, Fr (fun _ => False) w W → Is W a1 cap1 ys) := fun W f => hr1.same f
    have HL : Hid (len0 = xs.length) := hl0
    have HL1 : Hid (len1 = ys.length) := hl1
    rw [he] at hc1
    have HN : Hid (∃ n, n = comN xs) := ⟨_, rfl⟩
    obtain ⟨n, hn⟩ := HN.out
    rw [← hn] at hc1 K2 K3 G2
    clear nk k2 k3 g1 g2 he hl0 hl1 hr0 hr1 HN hn
    go_enter Try.func6, Try.ntmps6
    go_wp2_with (go_at_call 18; refine hc1.mono ?_; rintro e w1 ⟨rfl, f1⟩)
    have F1 : Hid (Fr (fun _ => False) w w1) := f1
    clear f1 hc1
    go_loopw [7, 8, 9, 28] (fun x y v i wr => ∃ (k h ab : Nat), k ≤ len0 ∧ h ≤ k ∧ ab ≤ k ∧ i = .int .i64 k ∧ x = .int .i64 h ∧ y = .int .i64 ab ∧ Hid (h = cntG (xs.take k) n) ∧ Hid (ab = (xs.take k).countP (fun b => decide (n < b))) ∧ Hid (wr.ownsRow w.heap.size 3 1 v (moreK xs ys k).length ((moreK xs ys k).map zI)) ∧ Hid (Fr (fun _ => False) w wr)) (fun _ _ _ i _ => len0 - (intOf i).toNat)
    case atStart => exact ⟨0, 0, 0, by omega, by omega, by omega, rfl, rfl, rfl, by show _ = _; simp [cntG], by show _ = _; simp, own_nil _ _, F1⟩
    case round =>
      obtain ⟨k, h, ab, hk, hhk, hak, rfl, rfl, rfl, HH, HA, HO, HR⟩ := hrel
      by_cases hlt : k < len0
      · obtain ⟨x, hx⟩ : ∃ x, xs[k]? = some x := ⟨_, List.getElem?_eq_getElem (by have := HL.out; omega)⟩
        obtain ⟨b, off, rfl, hb, hc⟩ := (HS.out _ HR.out).some (by have := HL.out; omega)
        have q0 := hc k x hx
        have hxg : xs.getD k 0 = x := by rw [List.getD_eq_getElem?_getD, hx]; rfl
        have htk := take_getD (show k < xs.length by have := HL.out; omega)
        rw [hxg] at htk
        have HH2 : Hid (cntG (xs.take (k + 1)) n = h + (if n ≤ x then 1 else 0)) := by
          show _ = _
          rw [htk, HH.out]
          unfold cntG
          rw [List.countP_append]
          simp [List.countP_cons]
        have HA2 : Hid ((xs.take (k + 1)).countP (fun b => decide (n < b)) = ab + (if n < x then 1 else 0)) := by
          show _ = _
          rw [htk, HA.out, List.countP_append]
          simp [List.countP_cons]
        have hms := more_succ xs ys k
        rw [hxg] at hms
        have hml := more_len xs ys k
        obtain ⟨l, hl⟩ : ∃ l, l = moreK xs ys k := ⟨_, rfl⟩
        rw [← hl] at HO hms hml
        obtain ⟨p0, c0, rfl, _⟩ := Ir.of HO.out
        obtain ⟨y, hy⟩ : ∃ y, y = moreN x ys[k]? := ⟨_, rfl⟩
        rw [← hy] at hms
        obtain ⟨a', c', w', hrun, hown, fa⟩ := app_one y HO.out (by have := HR.out.size; omega) (by omega)
        have F2 : Hid (Fr (fun _ => False) w w') := HR.out.trans fa (fun i hi e => by omega)
        have HOW : Hid (w'.ownsRow w.heap.size 3 1 (.slice a' (l.length + 1) c') (moreK xs ys (k + 1)).length ((moreK xs ys (k + 1)).map zI)) := by rw [hms]; exact hown
        have HS1' := HS1.out _ HR.out
        clear hown fa HO HR hms hml hl hx hc hxg htk HH HA
        have fin : Hid (∀ (h' ab' : Nat), h' = h + (if n ≤ x then 1 else 0) → ab' = ab + (if n < x then 1 else 0) → ∃ (k' h ab : Nat), k' ≤ len0 ∧ h ≤ k' ∧ ab ≤ k' ∧ Value.int .i64 ((k : Int) + 1) = .int .i64 k' ∧ Value.int .i64 (h' : Int) = .int .i64 h ∧ Value.int .i64 (ab' : Int) = .int .i64 ab ∧ Hid (h = cntG (xs.take k') n) ∧ Hid (ab = (xs.take k').countP (fun b => decide (n < b))) ∧ Hid (w'.ownsRow w.heap.size 3 1 (.slice a' (l.length + 1) c') (moreK xs ys k').length ((moreK xs ys k').map zI)) ∧ Hid (Fr (fun _ => False) w w')) := fun h' ab' e1 e2 =>
          ⟨k + 1, h', ab', by omega, by rw [e1]; split <;> omega, by rw [e2]; split <;> omega, by simp, rfl, rfl, by show _ = _; rw [HH2.out, e1], by show _ = _; rw [HA2.out, e2], HOW, F2⟩
        by_cases g1 : n ≤ x
        · by_cases g2 : n < x
          · by_cases g3 : k < len1
            · obtain ⟨m, hm⟩ : ∃ m, ys[k]? = some m := ⟨_, List.getElem?_eq_getElem (by have := HL1.out; omega)⟩
              obtain ⟨b1, off1, rfl, hb1, hc1⟩ := HS1'.some (by have := HL1.out; omega)
              have q1 := hc1 k m hm
              rw [hm] at hy
              have g3' : (k : Int) < (len1 : Int) := by omega
              clear hc1 hm HS1'
              by_cases g4 : x < m
              · by_cases g5 : m ≤ 1099511627776
                · have hym : y = m := by rw [hy]; unfold moreN; simp only; rw [if_pos ⟨g4, g5⟩]
                  subst hym
                  clear hy
                  go_wp2_with (at_builtin; refine append_step rfl _ _ 28 rfl rfl rfl hrun ?_)
                  refine ⟨?_, by simp [intOf]; omega⟩
                  have := fin.out (h + 1) (ab + 1) (by rw [if_pos g1]) (by rw [if_pos g2])
                  simpa using this
                · have g5' : decide (m ≤ 1099511627776) = false := by simpa using g5
                  have hym : y = x := by rw [hy]; unfold moreN; simp only; rw [if_neg (fun e => g5 e.2)]
                  subst hym
                  clear hy
                  go_wp2_with (at_builtin; refine append_step rfl _ _ 28 rfl rfl rfl hrun ?_)
                  refine ⟨?_, by simp [intOf]; omega⟩
                  have := fin.out (h + 1) (ab + 1) (by rw [if_pos g1]) (by rw [if_pos g2])
                  simpa using this
              · have g4' : decide (x < m) = false := by simpa using g4
                have hym : y = x := by rw [hy]; unfold moreN; simp only; rw [if_neg (fun e => g4 e.1)]
                subst hym
                clear hy
                go_wp2_with (at_builtin; refine append_step rfl _ _ 28 rfl rfl rfl hrun ?_)
                refine ⟨?_, by simp [intOf]; omega⟩
                have := fin.out (h + 1) (ab + 1) (by rw [if_pos g1]) (by rw [if_pos g2])
                simpa using this
            · have g3' : decide ((k : Int) < (len1 : Int)) = false := by simp; omega
              rw [List.getElem?_eq_none (by have := HL1.out; omega)] at hy
              clear HS1'
              have hym : y = x := hy
              subst hym
              clear hy
              go_wp2_with (at_builtin; refine append_step rfl _ _ 28 rfl rfl rfl hrun ?_)
              refine ⟨?_, by simp [intOf]; omega⟩
              have := fin.out (h + 1) (ab + 1) (by rw [if_pos g1]) (by rw [if_pos g2])
              simpa using this
          · have g2' : decide (n < x) = false := by simpa using g2
            by_cases g3 : k < len1
            · obtain ⟨m, hm⟩ : ∃ m, ys[k]? = some m := ⟨_, List.getElem?_eq_getElem (by have := HL1.out; omega)⟩
              obtain ⟨b1, off1, rfl, hb1, hc1⟩ := HS1'.some (by have := HL1.out; omega)
              have q1 := hc1 k m hm
              rw [hm] at hy
              have g3' : (k : Int) < (len1 : Int) := by omega
              clear hc1 hm HS1'
              by_cases g4 : x < m
              · by_cases g5 : m ≤ 1099511627776
                · have hym : y = m := by rw [hy]; unfold moreN; simp only; rw [if_pos ⟨g4, g5⟩]
                  subst hym
                  clear hy
                  go_wp2_with (at_builtin; refine append_step rfl _ _ 28 rfl rfl rfl hrun ?_)
                  refine ⟨?_, by simp [intOf]; omega⟩
                  have := fin.out (h + 1) ab (by rw [if_pos g1]) (by rw [if_neg g2]; rfl)
                  simpa using this
                · have g5' : decide (m ≤ 1099511627776) = false := by simpa using g5
                  have hym : y = x := by rw [hy]; unfold moreN; simp only; rw [if_neg (fun e => g5 e.2)]
                  subst hym
                  clear hy
                  go_wp2_with (at_builtin; refine append_step rfl _ _ 28 rfl rfl rfl hrun ?_)
                  refine ⟨?_, by simp [intOf]; omega⟩
                  have := fin.out (h + 1) ab (by rw [if_pos g1]) (by rw [if_neg g2]; rfl)
                  simpa using this
              · have g4' : decide (x < m) = false := by simpa using g4
                have hym : y = x := by rw [hy]; unfold moreN; simp only; rw [if_neg (fun e => g4 e.1)]
                subst hym
                clear hy
                go_wp2_with (at_builtin; refine append_step rfl _ _ 28 rfl rfl rfl hrun ?_)
                refine ⟨?_, by simp [intOf]; omega⟩
                have := fin.out (h + 1) ab (by rw [if_pos g1]) (by rw [if_neg g2]; rfl)
                simpa using this
            · have g3' : decide ((k : Int) < (len1 : Int)) = false := by simp; omega
              rw [List.getElem?_eq_none (by have := HL1.out; omega)] at hy
              clear HS1'
              have hym : y = x := hy
              subst hym
              clear hy
              go_wp2_with (at_builtin; refine append_step rfl _ _ 28 rfl rfl rfl hrun ?_)
              refine ⟨?_, by simp [intOf]; omega⟩
              have := fin.out (h + 1) ab (by rw [if_pos g1]) (by rw [if_neg g2]; rfl)
              simpa using this
        · have g1' : decide (n ≤ x) = false := by simpa using g1
          have g2 : ¬ n < x := by omega
          have g2' : decide (n < x) = false := by simpa using g2
          by_cases g3 : k < len1
          · obtain ⟨m, hm⟩ : ∃ m, ys[k]? = some m := ⟨_, List.getElem?_eq_getElem (by have := HL1.out; omega)⟩
            obtain ⟨b1, off1, rfl, hb1, hc1⟩ := HS1'.some (by have := HL1.out; omega)
            have q1 := hc1 k m hm
            rw [hm] at hy
            have g3' : (k : Int) < (len1 : Int) := by omega
            clear hc1 hm HS1'
            by_cases g4 : x < m
            · by_cases g5 : m ≤ 1099511627776
              · have hym : y = m := by rw [hy]; unfold moreN; simp only; rw [if_pos ⟨g4, g5⟩]
                subst hym
                clear hy
                go_wp2_with (at_builtin; refine append_step rfl _ _ 28 rfl rfl rfl hrun ?_)
                refine ⟨?_, by simp [intOf]; omega⟩
                have := fin.out h ab (by rw [if_neg g1]; rfl) (by rw [if_neg g2]; rfl)
                simpa using this
              · have g5' : decide (m ≤ 1099511627776) = false := by simpa using g5
                have hym : y = x := by rw [hy]; unfold moreN; simp only; rw [if_neg (fun e => g5 e.2)]
                subst hym
                clear hy
                go_wp2_with (at_builtin; refine append_step rfl _ _ 28 rfl rfl rfl hrun ?_)
                refine ⟨?_, by simp [intOf]; omega⟩
                have := fin.out h ab (by rw [if_neg g1]; rfl) (by rw [if_neg g2]; rfl)
                simpa using this
            · have g4' : decide (x < m) = false := by simpa using g4
              have hym : y = x := by rw [hy]; unfold moreN; simp only; rw [if_neg (fun e => g4 e.1)]
              subst hym
              clear hy
              go_wp2_with (at_builtin; refine append_step rfl _ _ 28 rfl rfl rfl hrun ?_)
              refine ⟨?_, by simp [intOf]; omega⟩
              have := fin.out h ab (by rw [if_neg g1]; rfl) (by rw [if_neg g2]; rfl)
              simpa using this
          · have g3' : decide ((k : Int) < (len1 : Int)) = false := by simp; omega
            rw [List.getElem?_eq_none (by have := HL1.out; omega)] at hy
            clear HS1'
            have hym : y = x := hy
            subst hym
            clear hy
            go_wp2_with (at_builtin; refine append_step rfl _ _ 28 rfl rfl rfl hrun ?_)
            refine ⟨?_, by simp [intOf]; omega⟩
            have := fin.out h ab (by rw [if_neg g1]; rfl) (by rw [if_neg g2]; rfl)
            simpa using this
      · have hkn : k = len0 := by omega
        subst hkn
        obtain ⟨p, c, rfl, hir⟩ := Ir.of HO.out
        have HC2 : Hid (∀ W, Fr (fun _ => False) wr W → Calls Try.prog 18 #[.slice p (moreK xs ys k).length c] W fun e w' => e = .returned (.tuple #[.int .i64 (comN (moreK xs ys k)), .int .i64 0]) ∧ Fr (fun _ => False) W w') := fun W f => by
          have := commit_any p (moreK xs ys k).length c _ rfl W (hir.is.same f)
          have g1 := G1.out
          rw [← HL.out] at g1
          rw [g1] at this; exact this
        have hg2 := G2.out
        rw [← HL.out] at hg2
        have z1 : (k : Int) < 2 * h := by
          have h1 := HH.out
          have h2 := K2.out
          have h3 := HL.out
          rw [h3, List.take_length] at h1
          omega
        have z2 : 2 * (ab : Int) ≤ k := by
          have h1 := HA.out
          have h2 := K3.out
          have h3 := HL.out
          rw [h3, List.take_length] at h1
          omega
        clear hir HO HH HA
        generalize (moreK xs ys k).length = tl at *
        generalize comN (moreK xs ys k) = m at *
        go_wp2_with fail
        refine (HC2.out _ (Fr.refl _ _)).mono ?_
        rintro e w3 ⟨rfl, f3⟩
        go_wp2_with fail
        refine (HSP.out _).mono ?_
        rintro e w5 ⟨rfl, f5⟩
        go_wp2
        go_ret
        exact ⟨by simp, (HR.out.seq' f3).seq' f5⟩
  · rw [show comN xs = 0 by
      unfold comN
      rw [if_neg]
      intro e
      exact he (by unfold comE; rw [if_pos e])] at hc1
    clear hl0 hl1 hr0 hr1
    go_enter Try.func6, Try.ntmps6
    go_wp2_with fail
    refine hc1.mono ?_
    rintro e w1 ⟨rfl, f1⟩
    go_wp2_with fail
    refine (HSP.out _).mono ?_
    rintro e w3 ⟨rfl, f3⟩
    go_wp2
    go_ret
    exact ⟨rfl, f1.seq' f3⟩

set_option maxRecDepth 100000 in
theorem lifted (os : Os) (started : os.Started) (H : Type) (enc : TypeId × Value → H) :
    ReturnsInHanded {} Try.checked os 6 .any (Rows.quorumGrowsSpec.pre6 enc Try.prog Try.f6 Rows.quorumGrowsRow.domain false) (Rows.quorumGrowsSpec.post enc Try.prog Try.f6 false true false false) := by
  refine returnsInHanded_of_change_sized (C := Try.checked) own started (by kernel_rfl) Try.func6
    (ChangeSpec.witness6 (enc := enc) (C := Try.checked) false ⟨#[], #[.slice none 0 0, .slice none 0 0], []⟩ 8 (by kernel_rfl) (by kernel_rfl) (by kernel_rfl) (by kernel_rfl)) ?_
  intro W base args ds gs before hval0 hW hcnd hsz0 _
  have hsz : (DataW.weightsEach Try.prog (Try.f6.params.toList ++ Rows.quorumGrowsSpec.plain.varTypes Try.prog) (ds ++ gs)).all (· ≤ reachBytes) = true := hsz0
  clear hsz0
  have hval : ∀ (j : Nat) t v, Try.f6.params[j]? = some t → args[j]? = some v → Value.okWide Try.prog W .any base t v := hval0
  have hW' := hW
  obtain ⟨p, q, hA0, hV, rfl, hfz, hnd⟩ := hW
  have hA : DataW.TrodAll enc Try.prog W 0 (fun _ => true) true Try.f6.params.toList args.toList ds p := hA0
  rw [Try.params6] at hA hval hsz
  obtain ⟨v0, vs0, d0, ds0, p0, q0, hargs, rfl, rfl, h0, r0⟩ := trodAll_cons hA
  obtain ⟨v1, vs1, d1, ds1, p1, q1, rfl, rfl, rfl, h1, r1⟩ := trodAll_cons r0
  obtain ⟨rfl, rfl, rfl⟩ := trodAll_nil r1
  obtain rfl : args = #[v0, v1] := by cases args; simp_all
  obtain ⟨rfl, rfl⟩ := trodVars_none hV
  obtain ⟨a0, len0, cap0, rfl⟩ := okWide_slice Try.underlying28 (hval 0 28 v0 rfl rfl)
  have k0 := h0
  have lt0 : ∀ x ∈ p0, x.block < W.heap.size := by obtain ⟨m, hm⟩ := k0; exact DataW.trod_lt m _ _ _ hm
  have wz0 : ∀ z ∈ d0.weights Try.prog 28, z ≤ reachBytes := fun z hz => by simpa using List.all_eq_true.1 hsz z (DataW.weights_mem_each (j := 0) rfl rfl z hz)
  obtain ⟨xs0, hl0, hb0, hr0, hw0⟩ : ∃ xs : List Int, len0 = xs.length ∧ xs.length ≤ 17592186043904 ∧ Is W a0 cap0 xs ∧ ∀ x ∈ xs, wfI x := by
    obtain ⟨fuel, hf⟩ := h0
    exact ints_open hf wz0
  obtain ⟨a1, len1, cap1, rfl⟩ := okWide_slice Try.underlying28 (hval 1 28 v1 rfl rfl)
  have k1 := h1
  have lt1 : ∀ x ∈ p1, x.block < W.heap.size := by obtain ⟨m, hm⟩ := k1; exact DataW.trod_lt m _ _ _ hm
  have wz1 : ∀ z ∈ d1.weights Try.prog 28, z ≤ reachBytes := fun z hz => by simpa using List.all_eq_true.1 hsz z (DataW.weights_mem_each (j := 1) rfl rfl z hz)
  obtain ⟨xs1, hl1, hb1, hr1, hw1⟩ : ∃ xs : List Int, len1 = xs.length ∧ xs.length ≤ 17592186043904 ∧ Is W a1 cap1 xs ∧ ∀ x ∈ xs, wfI x := by
    obtain ⟨fuel, hf⟩ := h1
    exact ints_open hf wz1
  clear hA0 hval0
  refine (walk W a0 len0 cap0 xs0 hl0 hb0 hr0 hw0 a1 len1 cap1 xs1 hl1 hb1 hr1 hw1).mono fun e W' ⟨he, fr⟩ => ?_
  have bel : Below W.heap.size W W' := fr.below (Nat.le_refl _) (fun _ f => f.elim)
  subst he
  exact ⟨_, rfl, _, _, _, [], _, [], hW', trodAll_mk1 (shut_bool Try.underlying4 _), (trodAll_cons_mk (Below.trod laidOut (by kernel_rfl) (of_decide_eq_true (by kernel_rfl)) k0 bel lt0) (trodAll_cons_mk (Below.trod laidOut (by kernel_rfl) (of_decide_eq_true (by kernel_rfl)) k1 bel lt1) trodAll_mk0)), rfl, bel.frame _, fun h => by cases h⟩

theorem proved : Rows.QuorumGrowsSaid :=
  OpenClaim.holds_of_wide 6 Try.f6 rfl rfl rfl rfl rfl rfl rfl ⟨rfl, rfl, rfl, rfl, rfl⟩ rfl rfl rfl rfl rfl (by kernel_rfl) Try.func6 (by kernel_rfl)
    (of_decide_eq_true (by kernel_rfl)) (by unfold Func.isWrapper; first | (rw [if_pos (by decide +kernel)]; kernel_rfl) | (rw [if_neg (by decide +kernel)]; exact ⟨rfl, rfl⟩))
    (fun os started H enc _ => lifted os started H enc)
end Go.Proofs.Ytnjfihmghhjfcaa.quorumGrows
namespace Go.Proofs.Ytnjfihmghhjfcaa
theorem quorumGrows_holds : Rows.QuorumGrowsSaid := quorumGrows.proved
#print axioms quorumGrows_holds
end Go.Proofs.Ytnjfihmghhjfcaa
