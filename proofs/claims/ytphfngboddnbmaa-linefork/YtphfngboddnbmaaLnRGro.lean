
/- The document's Grow. -/
import Derived.Test.YtphfngboddnbmaaLnGro
namespace Go.Proofs.Ytphfngboddnbmaa
open Go.RowKit
open Go.Proofs.Ytphfngboddnbmaa.Ln
set_option maxRecDepth 100000 in
set_option maxHeartbeats 8000000 in
theorem rgrow_any (a : Option Addr) (k c : Nat) (ms : List Mk) (last ep n : Int) (hk : k = ms.length) (w : World) (h : Mks w a c ms) : Calls Try.prog 20 #[.agg #[.slice a k c, .int .i64 last], .int .i64 ep, .int .i64 n] w fun e w' => LnOut w (groM ms last ep n) (groL ms last ep n) (groE ms last ep n) e w' := by
  subst hk
  obtain ⟨i0, hi, hz0, hz1, hz2⟩ := info_parts infoMark
  obtain ⟨T1, T2, F1⟩ := two_boxes w 30 (.slice a ms.length c) (.int .i64 last) (.slice none 0 0) (.int .i64 0)
  have hck := rright_any a ms.length c ms last rfl _ (h.same F1)
  have hnm := fun W => rin_any ep W
  obtain ⟨x0, x1, _⟩ := T1.cells
  have HT1 : Hid (∀ W, Fr (fun _ => False) ((w.alloc (.cells #[.slice a ms.length c, .int .i64 last] 30)).alloc (.cells #[.slice none 0 0, .int .i64 0] 30)) W → Two W w.heap.size 30 (.slice a ms.length c) (.int .i64 last)) := fun W f => T1.fr f (fun f => f)
  have HT2 : Hid (∀ W, Fr (fun _ => False) ((w.alloc (.cells #[.slice a ms.length c, .int .i64 last] 30)).alloc (.cells #[.slice none 0 0, .int .i64 0] 30)) W → Two W (w.heap.size + 1) 30 (.slice none 0 0) (.int .i64 0)) := fun W f => T2.fr f (fun f => f)
  clear T1 T2
  cases cl : linB ms last
  · rw [cl] at hck
    rw [(gro_no (gro_form cl) (by omega)).1, (gro_no (gro_form cl) (by omega)).2, gro_form cl]
    clear cl h hnm
    go_enter Try.func20, Try.ntmps20
    go_wp2_with fail
    generalize ((w.alloc (.cells #[.slice a ms.length c, .int .i64 last] 30)).alloc (.cells #[.slice none 0 0, .int .i64 0] 30)) = V at *
    refine hck.mono ?_
    rintro e w1 ⟨rfl, f1⟩
    obtain ⟨t1, f2⟩ := (HT2.out _ f1).fin (.slice none 0 0) (.int .i64 0)
    obtain ⟨z0, z1, z2, z3⟩ := (HT2.out _ f1).cells
    obtain ⟨s0, s1, _⟩ := t1.cells
    go_wp2
    refine bodyPost_ret (v := .tuple #[.agg #[.slice none 0 0, .int .i64 0], .int .i64 4]) (by simp [results, Try.results20, go_sem, s0, s1]) rfl ?_
    exact ⟨none, 0, rfl, Mks.nil _ _, (F1.seq' f1).trans f2 (fun i hi e => by omega)⟩
  · rw [cl] at hck
    have R := linB_right cl
    have hl0 := R.last0
    have hl1 := R.last1
    have hll := right_len R
    cases cg : groOk last ep n
    · rw [(gro_no (gro_arg cl cg) (by omega)).1, (gro_no (gro_arg cl cg) (by omega)).2, gro_arg cl cg]
      have hd : decide (n < 0) = true ∨ (decide (n < 0) = false ∧ ¬ n < 0 ∧ (1099511627776 < last + n)) ∨ (decide (n < 0) = false ∧ ¬ n < 0 ∧ (last + n ≤ 1099511627776) ∧ numB ep = false) := by
        by_cases h0 : n < 0
        · exact .inl (decide_eq_true h0)
        · by_cases h1 : 1099511627776 < last + n
          · exact .inr (.inl ⟨decide_eq_false h0, h0, h1⟩)
          · refine .inr (.inr ⟨decide_eq_false h0, h0, by omega, ?_⟩)
            unfold groOk at cg
            rw [decide_eq_true (by omega), decide_eq_true (by omega)] at cg
            simpa using cg
      clear cl cg h R
      rcases hd with d0 | ⟨d0, d1, d2⟩ | ⟨d0, d1, d2, d3⟩
      · clear hnm
        go_enter Try.func20, Try.ntmps20
        go_wp2_with fail
        generalize ((w.alloc (.cells #[.slice a ms.length c, .int .i64 last] 30)).alloc (.cells #[.slice none 0 0, .int .i64 0] 30)) = V at *
        refine hck.mono ?_
        rintro e w1 ⟨rfl, f1⟩
        obtain ⟨u0, u1, _⟩ := (HT1.out _ f1).cells
        obtain ⟨t1, f2⟩ := (HT2.out _ f1).fin (.slice none 0 0) (.int .i64 0)
        obtain ⟨z0, z1, z2, z3⟩ := (HT2.out _ f1).cells
        obtain ⟨s0, s1, _⟩ := t1.cells
        go_wp2
        refine bodyPost_ret (v := .tuple #[.agg #[.slice none 0 0, .int .i64 0], .int .i64 1]) (by simp [results, Try.results20, go_sem, s0, s1]) rfl ?_
        exact ⟨none, 0, rfl, Mks.nil _ _, (F1.seq' f1).trans f2 (fun i hi e => by omega)⟩
      · have d3 : decide (1099511627776 < n) = true ∨ decide (1099511627776 < n) = false := by cases decide (1099511627776 < n) <;> simp
        rcases d3 with d3 | d3
        · clear hnm
          go_enter Try.func20, Try.ntmps20
          go_wp2_with fail
          generalize ((w.alloc (.cells #[.slice a ms.length c, .int .i64 last] 30)).alloc (.cells #[.slice none 0 0, .int .i64 0] 30)) = V at *
          refine hck.mono ?_
          rintro e w1 ⟨rfl, f1⟩
          obtain ⟨u0, u1, _⟩ := (HT1.out _ f1).cells
          obtain ⟨t1, f2⟩ := (HT2.out _ f1).fin (.slice none 0 0) (.int .i64 0)
          obtain ⟨z0, z1, z2, z3⟩ := (HT2.out _ f1).cells
          obtain ⟨s0, s1, _⟩ := t1.cells
          go_wp2
          refine bodyPost_ret (v := .tuple #[.agg #[.slice none 0 0, .int .i64 0], .int .i64 1]) (by simp [results, Try.results20, go_sem, s0, s1]) rfl ?_
          exact ⟨none, 0, rfl, Mks.nil _ _, (F1.seq' f1).trans f2 (fun i hi e => by omega)⟩
        · have d4 : n ≤ 1099511627776 := by simpa using d3
          have d5 : IntKind.i64.wrap (last + n) = last + n := by simp [IntKind.wrap, IntKind.bits, IntKind.signed]; omega
          have d6 : decide (1099511627776 < last + n) = true := decide_eq_true d2
          clear hnm
          go_enter Try.func20, Try.ntmps20
          go_wp2_with fail
          generalize ((w.alloc (.cells #[.slice a ms.length c, .int .i64 last] 30)).alloc (.cells #[.slice none 0 0, .int .i64 0] 30)) = V at *
          refine hck.mono ?_
          rintro e w1 ⟨rfl, f1⟩
          obtain ⟨u0, u1, _⟩ := (HT1.out _ f1).cells
          obtain ⟨t1, f2⟩ := (HT2.out _ f1).fin (.slice none 0 0) (.int .i64 0)
          obtain ⟨z0, z1, z2, z3⟩ := (HT2.out _ f1).cells
          obtain ⟨s0, s1, _⟩ := t1.cells
          go_wp2
          refine bodyPost_ret (v := .tuple #[.agg #[.slice none 0 0, .int .i64 0], .int .i64 1]) (by simp [results, Try.results20, go_sem, s0, s1]) rfl ?_
          exact ⟨none, 0, rfl, Mks.nil _ _, (F1.seq' f1).trans f2 (fun i hi e => by omega)⟩
      · rw [d3] at hnm
        have d4 : decide (1099511627776 < n) = false := decide_eq_false (by omega)
        have d5 : IntKind.i64.wrap (last + n) = last + n := by simp [IntKind.wrap, IntKind.bits, IntKind.signed]; omega
        have d6 : decide (1099511627776 < last + n) = false := decide_eq_false (by omega)
        clear d1 d2
        go_enter Try.func20, Try.ntmps20
        go_wp2_with fail
        generalize ((w.alloc (.cells #[.slice a ms.length c, .int .i64 last] 30)).alloc (.cells #[.slice none 0 0, .int .i64 0] 30)) = V at *
        refine hck.mono ?_
        rintro e w1 ⟨rfl, f1⟩
        obtain ⟨u0, u1, _⟩ := (HT1.out _ f1).cells
        obtain ⟨t1, f2⟩ := (HT2.out _ f1).fin (.slice none 0 0) (.int .i64 0)
        obtain ⟨z0, z1, z2, z3⟩ := (HT2.out _ f1).cells
        obtain ⟨s0, s1, _⟩ := t1.cells
        go_wp2_with fail
        refine (hnm _).mono ?_
        rintro e w2 ⟨rfl, rfl⟩
        go_wp2
        refine bodyPost_ret (v := .tuple #[.agg #[.slice none 0 0, .int .i64 0], .int .i64 1]) (by simp [results, Try.results20, go_sem, s0, s1]) rfl ?_
        exact ⟨none, 0, rfl, Mks.nil _ _, (F1.seq' f1).trans f2 (fun i hi e => by omega)⟩
    · obtain ⟨d1, d2, d3⟩ := gro_parts cg
      have d0 : decide (n < 0) = false := decide_eq_false (by omega)
      rw [d3] at hnm
      have hep := fun W (f : Fr (fun _ => False) w W) => repoch_any a ms.length c ms last last rfl W (h.same f)
      obtain ⟨e0, he0⟩ : ∃ x, x = epF ms last := ⟨_, rfl⟩
      rw [← he0] at hep
      have d4 : decide (1099511627776 < n) = false := decide_eq_false (by omega)
      have d5 : IntKind.i64.wrap (last + n) = last + n := by simp [IntKind.wrap, IntKind.bits, IntKind.signed]; omega
      have d6 : decide (1099511627776 < last + n) = false := decide_eq_false (by omega)
      by_cases hs : ep < e0
      · have ds : decide (ep < e0) = true := decide_eq_true hs
        rw [he0] at hs
        rw [(gro_no (gro_state cl cg hs) (by omega)).1, (gro_no (gro_state cl cg hs) (by omega)).2, gro_state cl cg hs]
        clear cl cg h R he0 hs d1 d2
        go_enter Try.func20, Try.ntmps20
        go_wp2_with fail
        generalize ((w.alloc (.cells #[.slice a ms.length c, .int .i64 last] 30)).alloc (.cells #[.slice none 0 0, .int .i64 0] 30)) = V at *
        refine hck.mono ?_
        rintro e w1 ⟨rfl, f1⟩
        obtain ⟨u0, u1, _⟩ := (HT1.out _ f1).cells
        go_wp2_with fail
        refine (hnm _).mono ?_
        rintro e w2 ⟨rfl, rfl⟩
        go_wp2_with fail
        refine (hep _ (F1.seq' f1)).mono ?_
        rintro e w3 ⟨rfl, f3⟩
        have G3 := f1.seq' f3
        obtain ⟨t1, f2⟩ := (HT2.out _ G3).fin (.slice none 0 0) (.int .i64 0)
        obtain ⟨z0, z1, z2, z3⟩ := (HT2.out _ G3).cells
        obtain ⟨s0, s1, _⟩ := t1.cells
        go_wp2
        refine bodyPost_ret (v := .tuple #[.agg #[.slice none 0 0, .int .i64 0], .int .i64 7]) (by simp [results, Try.results20, go_sem, s0, s1]) rfl ?_
        exact ⟨none, 0, rfl, Mks.nil _ _, (F1.seq' G3).trans f2 (fun i hi e => by omega)⟩
      · have ds : decide (ep < e0) = false := decide_eq_false hs
        have hs' := hs
        rw [he0] at hs'
        rw [(gro_yes (gro_ok cl cg hs')).1, (gro_yes (gro_ok cl cg hs')).2, gro_ok cl cg hs']
        obtain ⟨G, hG, hGF⟩ := groF_if ms last ep n
        rw [← he0] at hG
        rw [hGF]
        have HG : Hid (G = decide (0 < n ∧ (last = 0 ∨ e0 < ep))) := hG
        have HNON : Hid (last = 0 ↔ ms = []) := R.none
        have HM : Hid (∀ W, Fr (fun _ => False) w W → Mks W a c ms) := fun W f => h.same f
        have HEE : Hid (e0 ≤ ep) := by show _ ≤ _; omega
        have HD1 : Hid (0 ≤ n) := d1
        have hcx := h.max
        have hcle := h.le
        have hwl : IntKind.i64.wrap (last + n) = last + n := by simp [IntKind.wrap, IntKind.bits, IntKind.signed]; omega
        have hwl1 : IntKind.i64.wrap (last + 1) = last + 1 := by simp [IntKind.wrap, IntKind.bits, IntKind.signed]; omega
        clear cl cg h R he0 hs hs' hG hGF
        go_enter Try.func20, Try.ntmps20
        go_wp2_with fail
        generalize ((w.alloc (.cells #[.slice a ms.length c, .int .i64 last] 30)).alloc (.cells #[.slice none 0 0, .int .i64 0] 30)) = V at *
        refine hck.mono ?_
        rintro e w1 ⟨rfl, f1⟩
        clear hck x0 x1
        obtain ⟨u0, u1, _⟩ := (HT1.out _ f1).cells
        go_wp2_with fail
        refine (hnm _).mono ?_
        rintro e w2 ⟨rfl, rfl⟩
        clear hnm
        go_wp2_with fail
        refine (hep _ (F1.seq' f1)).mono ?_
        rintro e w3 ⟨rfl, f3⟩
        have G3 := f1.seq' f3
        clear hep u0 u1 f1 f3
        obtain ⟨u0, u1, _⟩ := (HT1.out _ G3).cells
        have HG3 : Hid (Fr (fun _ => False) V w3) := G3
        have HZ : Hid (w.heap.size + 1 < w3.heap.size) := (HT2.out _ G3).lt
        have hM4 := (HM.out _ (F1.seq' HG3.out)).same (Fr.box w3 (.cells #[.slice none 0 0, .int .i64 (last + n)] 30))
        have HL3 : Hid (Lay w3.heap.size (w3.alloc (.cells #[.slice none 0 0, .int .i64 (last + n)] 30)) w3.heap.size 30 none 0 [] (last + n)) := lay_new w3 _ _
        have HNW : Hid (From (w3.alloc (.cells #[.slice none 0 0, .int .i64 (last + n)] 30)) a (ms.flatMap mkC)) := hM4.from
        have HF4 : Hid (Fr (fun _ => False) w3 (w3.alloc (.cells #[.slice none 0 0, .int .i64 (last + n)] 30))) := Fr.box _ _
        clear hM4
        obtain ⟨y0, y1, _⟩ := ((HT1.out _ HG3.out).fr HF4.out (fun f => f)).cells
        obtain ⟨v0, v1, v2, v3⟩ := HL3.out.box.cells
        go_wp2_with (at_builtin; refine Hid.out (?_ : Hid _))
        unfold Hid
        refine wpList_append_has _ rfl _ _ 22 22 53 53 rfl i0 _ 2 16 Try.underlying22 Try.underlying22 hi hz0 hz1 hz2 rfl (by omega) (.slice none 0 0) 0 [] rfl HL3.out.has a ms.length c (ms.flatMap mkC) rfl (mkCs_len ms) HNW.out (mkCs_one ms) (by unfold maxLen; omega) (by omega) ?_
        intro am cm w6 hown hfr hat
        obtain ⟨LP, FP⟩ := HL3.out.app (ns := ms) hown hfr hat
        obtain ⟨hc0, _, hsf, _⟩ := (HL3.out.box.fr hfr (fun e => (HL3.out.own _ e.1).1 rfl)).cells
        have hz : ([] : List Mk).length + ms.length = ms.length := Nat.zero_add _
        rw [hz] at LP FP
        rw [Nat.zero_add]
        have HLP : Hid (Lay w3.heap.size (w6.setCell ⟨w3.heap.size, 0, none⟩ (.slice am ms.length cm)) w3.heap.size 30 am cm ms (last + n)) := LP
        have HFP : Hid (Fr (fun _ => False) w3 (w6.setCell ⟨w3.heap.size, 0, none⟩ (.slice am ms.length cm))) := HF4.out.trans FP (fun i hi e => by omega)
        clear LP FP hown hfr hat u0 u1 v0 v1 v2 v3 y0 y1 hz
        go_upto_region 10 with fail
        obtain ⟨wc, hwc⟩ : ∃ W, W = w6.setCell ⟨w3.heap.size, 0, none⟩ (.slice am ms.length cm) := ⟨_, rfl⟩
        rw [← hwc] at HLP HFP ⊢
        clear hwc
        have HLC := HLP
        have HFC := HFP
        clear HLP HFP
        have HL4 : Hid (Lay w3.heap.size wc w3.heap.size 30 am cm ms (last + n)) := HLC
        obtain ⟨u0, u1, _⟩ := ((HT1.out _ HG3.out).fr HFC.out (fun f => f)).cells
        go_cut [64] (fun b wd => b = .bool G ∧ wc = wd)
        case first =>
          by_cases k0 : 0 < n
          · have j0 : decide (0 < n) = true := decide_eq_true k0
            by_cases k1 : last = 0
            · have j1 : ((ms.length : Int) == 0) = true := by rw [HNON.out.1 k1]; rfl
              have j1' : decide (ms.length = 0) = true := by rw [HNON.out.1 k1]; rfl
              have hG : G = true := by rw [HG.out]; exact decide_eq_true ⟨k0, .inl k1⟩
              clear k1
              go_wp2
              go_meet
              exact ⟨by rw [hG], rfl⟩
            · have j1 : ((ms.length : Int) == 0) = false := by rw [beq_eq_false_iff_ne]; intro e; exact k1 (HNON.out.2 (List.length_eq_zero_iff.1 (by omega)))
              have j1' : decide (ms.length = 0) = false := decide_eq_false (fun e => k1 (HNON.out.2 (List.length_eq_zero_iff.1 e)))
              by_cases k2 : e0 < ep
              · have j2 : (ep != e0) = true := by rw [bne_iff_ne]; omega
                have hG : G = true := by rw [HG.out]; exact decide_eq_true ⟨k0, .inr k2⟩
                go_wp2
                go_meet
                exact ⟨by rw [hG], rfl⟩
              · have j2 : (ep != e0) = false := by rw [show ep = e0 by have := HEE.out; omega]; simp
                have hG : G = false := by rw [HG.out]; exact decide_eq_false (fun h => h.2.elim k1 k2)
                go_wp2
                go_meet
                exact ⟨by rw [hG], rfl⟩
          · have j0 : decide (0 < n) = false := decide_eq_false k0
            have hG : G = false := by rw [HG.out]; exact decide_eq_false (fun h => k0 h.1)
            go_wp2
            go_meet
            exact ⟨by rw [hG], rfl⟩
        case rest =>
        obtain ⟨rfl, rfl⟩ := hcut
        have HFC2 : Hid (Fr (fun _ => False) w3 wc) := HFC
        cases G
        · obtain ⟨v0, v1, _⟩ := HL4.out.box.cells
          have T3 := (HT2.out _ HG3.out).fr HFC2.out (fun f => f)
          obtain ⟨z0, z1, z2, z3⟩ := T3.cells
          obtain ⟨t1, f4⟩ := T3.fin (.slice am ms.length cm) (.int .i64 (last + n))
          obtain ⟨s0, s1, _⟩ := t1.cells
          have HFE : Hid (Fr (fun _ => False) w ((wc.setCell ⟨w.heap.size + 1, 0, none⟩ (.slice am ms.length cm)).setCell ⟨w.heap.size + 1, 1, none⟩ (.int .i64 (last + n)))) := ((F1.seq' HG3.out).seq' HFC2.out).trans f4 (fun i hi e => by omega)
          have HME : Hid (Mks ((wc.setCell ⟨w.heap.size + 1, 0, none⟩ (.slice am ms.length cm)).setCell ⟨w.heap.size + 1, 1, none⟩ (.int .i64 (last + n))) am cm ms) := (HL4.out.has.fr f4 (fun k hk e => by have := (HL4.out.own k hk).2; have := HZ.out; omega)).mks rfl
          clear t1 f4 T3 HG
          go_wp2
          refine bodyPost_ret (v := .tuple #[.agg #[.slice am ms.length cm, .int .i64 (last + n)], .int .i64 0]) (by simp [results, Try.results20, go_sem, s0, s1]) rfl ?_
          exact ⟨am, cm, rfl, HME.out, HFE.out⟩
        · obtain ⟨v0, v1, _⟩ := HL4.out.box.cells
          have fb : Fr (fun _ => False) wc (wc.alloc (.cells #[.int .i64 ep, .int .i64 (last + 1)] 53)) := Fr.box _ _
          have HL5 : Hid (Lay w3.heap.size (wc.alloc (.cells #[.int .i64 ep, .int .i64 (last + 1)] 53)) w3.heap.size 30 am cm ms (last + n)) := HL4.out.same fb
          have hnews := from_mark wc (ep, last + 1) 53
          have HF5 : Hid (Fr (fun _ => False) w3 (wc.alloc (.cells #[.int .i64 ep, .int .i64 (last + 1)] 53))) := HFC2.out.seq' fb
          clear fb HG
          go_wp2_with (at_builtin; refine Hid.out (?_ : Hid _))
          unfold Hid
          refine wpList_append_has _ rfl _ _ 22 22 53 53 rfl i0 _ 2 16 Try.underlying22 Try.underlying22 hi hz0 hz1 hz2 rfl (by omega) (.slice am ms.length cm) ms.length (ms.flatMap mkC) rfl HL5.out.has (some ⟨wc.heap.size, 0, none⟩) 1 1 (mkC (ep, last + 1)) rfl rfl hnews (mkC_one _) (by unfold maxLen; omega) (by omega) ?_
          intro an cn w6 hown hfr hat
          obtain ⟨LP, FP⟩ := HL5.out.put (m := (ep, last + 1)) hown hfr hat
          have HLP : Hid _ := LP
          obtain ⟨_, _, hsf, _⟩ := (HL5.out.box.fr hfr (fun e => (HL5.out.own _ e.1).1 rfl)).cells
          have hln : (ms ++ [(ep, last + 1)]).length = ms.length + 1 := by simp
          have HF6 : Hid (Fr (fun _ => False) w3 (w6.setCell ⟨w3.heap.size, 0, none⟩ (.slice an (ms.length + 1) cn))) := HF5.out.trans FP (fun i hi e => by omega)
          clear LP FP hown hfr hat v0 v1
          obtain ⟨v0, v1, _⟩ := HLP.out.box.cells
          rw [hln] at v0
          have T3 := (HT2.out _ HG3.out).fr HF6.out (fun f => f)
          obtain ⟨z0, z1, z2, z3⟩ := T3.cells
          obtain ⟨t1, f4⟩ := T3.fin (.slice an (ms.length + 1) cn) (.int .i64 (last + n))
          obtain ⟨s0, s1, _⟩ := t1.cells
          have HFE := ((F1.seq' HG3.out).seq' HF6.out).trans f4 (fun i hi e => by omega)
          have HME := (HLP.out.has.fr f4 (fun k hk e => by have := (HLP.out.own k hk).2; have := HZ.out; omega)).mks rfl
          have HLN : Hid ((ms ++ [(ep, last + 1)]).length = ms.length + 1) := hln
          have HFE' : Hid _ := HFE
          have HME' : Hid _ := HME
          clear HFE HME t1 f4 T3 hln
          go_wp2
          refine bodyPost_ret (v := .tuple #[.agg #[.slice an (ms.length + 1) cn, .int .i64 (last + n)], .int .i64 0]) (by simp [results, Try.results20, go_sem, s0, s1]) rfl ?_
          exact ⟨an, cn, by rw [HLN.out], HME'.out, HFE'.out⟩
end Go.Proofs.Ytphfngboddnbmaa
