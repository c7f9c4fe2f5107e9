
/- A timeline that goes on. -/
import Derived.Test.YtphfngboddnbmaaLnRCut
namespace Go.Proofs.Ytphfngboddnbmaa
open Go.RowKit
open Go.Proofs.Ytphfngboddnbmaa.Ln

/-- May a timeline go on so? -/
def groOk (last ep n : Int) : Bool := decide (0 ≤ n) && (decide (last + n ≤ 1099511627776) && numB ep)
def groE (ms : List Mk) (last ep n : Int) : Int := if linB ms last then (if groOk last ep n then (if ep < epF ms last then 7 else 0) else 1) else 4
def groM (ms : List Mk) (last ep n : Int) : List Mk := if groE ms last ep n = 0 then groF ms last ep n else []
def groL (ms : List Mk) (last ep n : Int) : Int := if groE ms last ep n = 0 then last + n else 0
theorem gro_no {ms : List Mk} {last ep n E : Int} (h : groE ms last ep n = E) (hE : E ≠ 0) : groM ms last ep n = [] ∧ groL ms last ep n = 0 := by unfold groM groL; rw [h, if_neg hE, if_neg hE]; exact ⟨rfl, rfl⟩
theorem gro_yes {ms : List Mk} {last ep n : Int} (h : groE ms last ep n = 0) : groM ms last ep n = groF ms last ep n ∧ groL ms last ep n = last + n := by unfold groM groL; rw [if_pos h, if_pos h]; exact ⟨rfl, rfl⟩
theorem gro_form {ms : List Mk} {last ep n : Int} (h : linB ms last = false) : groE ms last ep n = 4 := by unfold groE; rw [h]; rfl
theorem gro_arg {ms : List Mk} {last ep n : Int} (h : linB ms last = true) (h2 : groOk last ep n = false) : groE ms last ep n = 1 := by unfold groE; rw [h, h2]; rfl
theorem gro_state {ms : List Mk} {last ep n : Int} (h : linB ms last = true) (h2 : groOk last ep n = true) (h3 : ep < epF ms last) : groE ms last ep n = 7 := by unfold groE; rw [h, h2, if_pos h3]; rfl
theorem gro_ok {ms : List Mk} {last ep n : Int} (h : linB ms last = true) (h2 : groOk last ep n = true) (h3 : ¬ ep < epF ms last) : groE ms last ep n = 0 := by unfold groE; rw [h, h2, if_neg h3]; rfl
theorem gro_parts {last ep n : Int} (h : groOk last ep n = true) : 0 ≤ n ∧ last + n ≤ 1099511627776 ∧ numB ep = true := by
  simp only [groOk, Bool.and_eq_true, decide_eq_true_eq] at h
  exact h
theorem groF_if (ms : List Mk) (last ep n : Int) : ∃ G : Bool, G = decide (0 < n ∧ (last = 0 ∨ epF ms last < ep)) ∧ groF ms last ep n = if G then ms ++ [(ep, last + 1)] else ms := by
  refine ⟨_, rfl, ?_⟩
  unfold groF
  by_cases h : 0 < n ∧ (last = 0 ∨ epF ms last < ep)
  · rw [if_pos h, decide_eq_true h]; rfl
  · rw [if_neg h, decide_eq_false h]; rfl
set_option maxRecDepth 100000 in
set_option maxHeartbeats 8000000 in
theorem grow_any (a : Option Addr) (k c : Nat) (ms : List Mk) (last ep n : Int) (hk : k = ms.length) (w : World) (h : Mks w a c ms) : Calls Try.prog 19 #[.agg #[.slice a k c, .int .i64 last], .int .i64 ep, .int .i64 n] w fun e w' => LnOut w (groM ms last ep n) (groL ms last ep n) (groE ms last ep n) e w' := by
  subst hk
  obtain ⟨i0, hi, hz0, hz1, hz2⟩ := info_parts infoMark
  obtain ⟨T1, T2, F1⟩ := two_boxes w 24 (.slice a ms.length c) (.int .i64 last) (.slice none 0 0) (.int .i64 0)
  have hck := check_any a ms.length c ms last rfl _ (h.same F1)
  have hnm := fun W => isNumber_any ep W
  obtain ⟨x0, x1, _⟩ := T1.cells
  have HT1 : Hid (∀ W, Fr (fun _ => False) ((w.alloc (.cells #[.slice a ms.length c, .int .i64 last] 24)).alloc (.cells #[.slice none 0 0, .int .i64 0] 24)) W → Two W w.heap.size 24 (.slice a ms.length c) (.int .i64 last)) := fun W f => T1.fr f (fun f => f)
  have HT2 : Hid (∀ W, Fr (fun _ => False) ((w.alloc (.cells #[.slice a ms.length c, .int .i64 last] 24)).alloc (.cells #[.slice none 0 0, .int .i64 0] 24)) W → Two W (w.heap.size + 1) 24 (.slice none 0 0) (.int .i64 0)) := fun W f => T2.fr f (fun f => f)
  clear T1 T2
  cases cl : linB ms last
  · rw [ckE_no cl] at hck
    rw [(gro_no (gro_form cl) (by omega)).1, (gro_no (gro_form cl) (by omega)).2, gro_form cl]
    clear cl h hnm
    go_enter Try.func19, Try.ntmps19
    go_wp2_with fail
    generalize ((w.alloc (.cells #[.slice a ms.length c, .int .i64 last] 24)).alloc (.cells #[.slice none 0 0, .int .i64 0] 24)) = V at *
    refine hck.mono ?_
    rintro e w1 ⟨rfl, f1⟩
    obtain ⟨t1, f2⟩ := (HT2.out _ f1).fin (.slice none 0 0) (.int .i64 0)
    obtain ⟨z0, z1, z2, z3⟩ := (HT2.out _ f1).cells
    obtain ⟨s0, s1, _⟩ := t1.cells
    go_wp2
    refine bodyPost_ret (v := .tuple #[.agg #[.slice none 0 0, .int .i64 0], .int .i64 4]) (by simp [results, Try.results19, go_sem, s0, s1]) rfl ?_
    exact ⟨none, 0, rfl, Mks.nil _ _, (F1.seq' f1).trans f2 (fun i hi e => by omega)⟩
  · rw [ckE_yes cl] at hck
    have R := linB_right cl
    have hl0 := R.last0
    have hl1 := R.last1
    have hll := right_len R
    cases cg : groOk last ep n
    · rw [(gro_no (gro_arg cl cg) (by omega)).1, (gro_no (gro_arg cl cg) (by omega)).2, gro_arg cl cg]
      have hd : decide (n < 0) = true ∨ (decide (n < 0) = false ∧ ¬ n < 0 ∧ (1099511627776 < last + n)) ∨ (decide (n < 0) = false ∧ ¬ n < 0 ∧ (last + n ≤ 1099511627776) ∧ numB ep = false) := by
        by_cases h0 : n < 0
        · exact .inl (decide_eq_true h0)
        · by_cases h1 : 1099511627776 < last + n
          · exact .inr (.inl ⟨decide_eq_false h0, h0, h1⟩)
          · refine .inr (.inr ⟨decide_eq_false h0, h0, by omega, ?_⟩)
            unfold groOk at cg
            rw [decide_eq_true (by omega), decide_eq_true (by omega)] at cg
            simpa using cg
      clear cl cg h R
      rcases hd with d0 | ⟨d0, d1, d2⟩ | ⟨d0, d1, d2, d3⟩
      · clear hnm
        go_enter Try.func19, Try.ntmps19
        go_wp2_with fail
        generalize ((w.alloc (.cells #[.slice a ms.length c, .int .i64 last] 24)).alloc (.cells #[.slice none 0 0, .int .i64 0] 24)) = V at *
        refine hck.mono ?_
        rintro e w1 ⟨rfl, f1⟩
        obtain ⟨u0, u1, _⟩ := (HT1.out _ f1).cells
        obtain ⟨t1, f2⟩ := (HT2.out _ f1).fin (.slice none 0 0) (.int .i64 0)
        obtain ⟨z0, z1, z2, z3⟩ := (HT2.out _ f1).cells
        obtain ⟨s0, s1, _⟩ := t1.cells
        go_wp2
        refine bodyPost_ret (v := .tuple #[.agg #[.slice none 0 0, .int .i64 0], .int .i64 1]) (by simp [results, Try.results19, go_sem, s0, s1]) rfl ?_
        exact ⟨none, 0, rfl, Mks.nil _ _, (F1.seq' f1).trans f2 (fun i hi e => by omega)⟩
      · have d5 : IntKind.i64.wrap (1099511627776 - last) = 1099511627776 - last := by simp [IntKind.wrap, IntKind.bits, IntKind.signed]; omega
        have d6 : decide (1099511627776 - last < n) = true := decide_eq_true (by omega)
        clear hnm
        go_enter Try.func19, Try.ntmps19
        go_wp2_with fail
        generalize ((w.alloc (.cells #[.slice a ms.length c, .int .i64 last] 24)).alloc (.cells #[.slice none 0 0, .int .i64 0] 24)) = V at *
        refine hck.mono ?_
        rintro e w1 ⟨rfl, f1⟩
        obtain ⟨u0, u1, _⟩ := (HT1.out _ f1).cells
        obtain ⟨t1, f2⟩ := (HT2.out _ f1).fin (.slice none 0 0) (.int .i64 0)
        obtain ⟨z0, z1, z2, z3⟩ := (HT2.out _ f1).cells
        obtain ⟨s0, s1, _⟩ := t1.cells
        go_wp2
        refine bodyPost_ret (v := .tuple #[.agg #[.slice none 0 0, .int .i64 0], .int .i64 1]) (by simp [results, Try.results19, go_sem, s0, s1]) rfl ?_
        exact ⟨none, 0, rfl, Mks.nil _ _, (F1.seq' f1).trans f2 (fun i hi e => by omega)⟩
      · rw [d3] at hnm
        have d5 : IntKind.i64.wrap (1099511627776 - last) = 1099511627776 - last := by simp [IntKind.wrap, IntKind.bits, IntKind.signed]; omega
        have d6 : decide (1099511627776 - last < n) = false := decide_eq_false (by omega)
        clear d1 d2
        go_enter Try.func19, Try.ntmps19
        go_wp2_with fail
        generalize ((w.alloc (.cells #[.slice a ms.length c, .int .i64 last] 24)).alloc (.cells #[.slice none 0 0, .int .i64 0] 24)) = V at *
        refine hck.mono ?_
        rintro e w1 ⟨rfl, f1⟩
        obtain ⟨u0, u1, _⟩ := (HT1.out _ f1).cells
        obtain ⟨t1, f2⟩ := (HT2.out _ f1).fin (.slice none 0 0) (.int .i64 0)
        obtain ⟨z0, z1, z2, z3⟩ := (HT2.out _ f1).cells
        obtain ⟨s0, s1, _⟩ := t1.cells
        go_wp2_with fail
        refine (hnm _).mono ?_
        rintro e w2 ⟨rfl, rfl⟩
        go_wp2
        refine bodyPost_ret (v := .tuple #[.agg #[.slice none 0 0, .int .i64 0], .int .i64 1]) (by simp [results, Try.results19, go_sem, s0, s1]) rfl ?_
        exact ⟨none, 0, rfl, Mks.nil _ _, (F1.seq' f1).trans f2 (fun i hi e => by omega)⟩
    · obtain ⟨d1, d2, d3⟩ := gro_parts cg
      have d0 : decide (n < 0) = false := decide_eq_false (by omega)
      rw [d3] at hnm
      have hep := fun W (f : Fr (fun _ => False) w W) => epochAt_any a ms.length c ms last last rfl R R.last0 R.last1 W (h.same f)
      obtain ⟨e0, he0⟩ : ∃ x, x = epF ms last := ⟨_, rfl⟩
      rw [← he0] at hep
      have d5 : IntKind.i64.wrap (1099511627776 - last) = 1099511627776 - last := by simp [IntKind.wrap, IntKind.bits, IntKind.signed]; omega
      have d6 : decide (1099511627776 - last < n) = false := decide_eq_false (by omega)
      by_cases hs : ep < e0
      · have ds : decide (ep < e0) = true := decide_eq_true hs
        rw [he0] at hs
        rw [(gro_no (gro_state cl cg hs) (by omega)).1, (gro_no (gro_state cl cg hs) (by omega)).2, gro_state cl cg hs]
        clear cl cg h R he0 hs d1 d2
        go_enter Try.func19, Try.ntmps19
        go_wp2_with fail
        generalize ((w.alloc (.cells #[.slice a ms.length c, .int .i64 last] 24)).alloc (.cells #[.slice none 0 0, .int .i64 0] 24)) = V at *
        refine hck.mono ?_
        rintro e w1 ⟨rfl, f1⟩
        obtain ⟨u0, u1, _⟩ := (HT1.out _ f1).cells
        go_wp2_with fail
        refine (hnm _).mono ?_
        rintro e w2 ⟨rfl, rfl⟩
        go_wp2_with fail
        refine (hep _ (F1.seq' f1)).mono ?_
        rintro e w3 ⟨rfl, f3⟩
        have G3 := f1.seq' f3
        obtain ⟨t1, f2⟩ := (HT2.out _ G3).fin (.slice none 0 0) (.int .i64 0)
        obtain ⟨z0, z1, z2, z3⟩ := (HT2.out _ G3).cells
        obtain ⟨s0, s1, _⟩ := t1.cells
        go_wp2
        refine bodyPost_ret (v := .tuple #[.agg #[.slice none 0 0, .int .i64 0], .int .i64 7]) (by simp [results, Try.results19, go_sem, s0, s1]) rfl ?_
        exact ⟨none, 0, rfl, Mks.nil _ _, (F1.seq' G3).trans f2 (fun i hi e => by omega)⟩
      · have ds : decide (ep < e0) = false := decide_eq_false hs
        have hs' := hs
        rw [he0] at hs'
        rw [(gro_yes (gro_ok cl cg hs')).1, (gro_yes (gro_ok cl cg hs')).2, gro_ok cl cg hs']
        obtain ⟨G, hG, hGF⟩ := groF_if ms last ep n
        rw [← he0] at hG
        rw [hGF]
        have HG : Hid (G = decide (0 < n ∧ (last = 0 ∨ e0 < ep))) := hG
        have HNON : Hid (last = 0 ↔ ms = []) := R.none
        have HM : Hid (∀ W, Fr (fun _ => False) w W → Mks W a c ms) := fun W f => h.same f
        have HEE : Hid (e0 ≤ ep) := by show _ ≤ _; omega
        have HD1 : Hid (0 ≤ n) := d1
        have hcx := h.max
        have hcle := h.le
        have hwl : IntKind.i64.wrap (last + n) = last + n := by simp [IntKind.wrap, IntKind.bits, IntKind.signed]; omega
        have hwl1 : IntKind.i64.wrap (last + 1) = last + 1 := by simp [IntKind.wrap, IntKind.bits, IntKind.signed]; omega
        clear cl cg h R he0 hs hs' hG hGF
        go_enter Try.func19, Try.ntmps19
        go_wp2_with fail
        generalize ((w.alloc (.cells #[.slice a ms.length c, .int .i64 last] 24)).alloc (.cells #[.slice none 0 0, .int .i64 0] 24)) = V at *
        refine hck.mono ?_
        rintro e w1 ⟨rfl, f1⟩
        clear hck x0 x1
        obtain ⟨u0, u1, _⟩ := (HT1.out _ f1).cells
        go_wp2_with fail
        refine (hnm _).mono ?_
        rintro e w2 ⟨rfl, rfl⟩
        clear hnm
        go_wp2_with fail
        refine (hep _ (F1.seq' f1)).mono ?_
        rintro e w3 ⟨rfl, f3⟩
        have G3 := f1.seq' f3
        clear hep u0 u1 f1 f3
        obtain ⟨u0, u1, _⟩ := (HT1.out _ G3).cells
        have HG3 : Hid (Fr (fun _ => False) V w3) := G3
        have HZ : Hid (w.heap.size + 1 < w3.heap.size) := (HT2.out _ G3).lt
        go_upto_region 9 with fail
        go_cut [10] (fun p wc => ∃ (X : Nat) (am : Option Addr) (cm : Nat), p = .pointer (some ⟨X, 0, none⟩) ∧ Hid (Lay w3.heap.size wc X 24 am cm ms (last + n)) ∧ Hid (Fr (fun _ => False) w3 wc))
        case first =>
          have hcl : Hid (∀ W, Fr (fun _ => False) V W → Calls Try.prog 31 #[.slice a ms.length c] W fun e w' => MkOut W ms e w') := fun W f => cloneM a ms.length c ms W (HM.out _ (F1.seq' f)) rfl hll
          have G4 := HG3.out.drew
          have q1 := (HT1.out _ G4).fst
          have r1 := hcl.out _ G4
          have fa : Fr (fun _ => False) w3 (w3.alloc (.cells #[.slice none 0 0, .int .i64 0] 24)).drew := (Fr.box w3 _).drew
          have G5 := HG3.out.seq' fa
          have q2 := (HT1.out _ G5).fst
          have r2 := hcl.out _ G5
          have ta : Two (w3.alloc (.cells #[.slice none 0 0, .int .i64 0] 24)).drew w3.heap.size 24 (.slice none 0 0) (.int .i64 0) := (Two.new w3 _ _ _).fr (Fr.drew (Fr.refl (fun _ => False) _)) (fun f => f)
          clear u0 u1
          go_region_held3 (fun W => W.cell? ⟨w.heap.size, 0, none⟩ = some (.slice a ms.length c) ∧ W.cell? ⟨w.heap.size, 1, none⟩ = some (.int .i64 last))
            (first | with_reducible exact q1 | with_reducible exact q2 | with_reducible exact q3 | with_reducible exact q4 | with_reducible exact q5 | fail)
            (first
              | (go_at_call 31; refine r1.mono ?_; rintro e w5 ⟨am, cm, rfl, hown, f5, hnew⟩; have G6 := G4.seq' f5; have q3 := (HT1.out _ G6).fst; have q4 := ((HT1.out _ G6).fr (Fr.box w5 (.cells #[.slice none 0 0, .int .i64 0] 24)) (fun f => f)).fst; have q5 := ((HT1.out _ G6).fr (Fr.box w5 (.cells #[.slice am ms.length cm, .int .i64 (last + n)] 24)) (fun f => f)).fst)
              | (go_at_call 31; refine r2.mono ?_; rintro e w5 ⟨am, cm, rfl, hown, f5, hnew⟩; have G6 := G5.seq' f5; have q3 := (HT1.out _ G6).fst; have tb := ta.fr f5 (fun f => f); obtain ⟨z0, z1, z2, z3⟩ := tb.cells; have q4 := ((HT1.out _ G6).keep (b' := w3.heap.size) (by have := HZ.out; omega) (.slice am ms.length cm) (.int .i64 (last + n))).fst))
          · have f6 : Fr (fun _ => False) w5 (w5.alloc (.cells #[.slice am ms.length cm, .int .i64 (last + n)] 24)) := Fr.box _ _
            have hz5 := f5.size
            have hz5' : w3.heap.size ≤ w5.heap.size := hz5
            have L : Lay w3.heap.size (w5.alloc (.cells #[.slice am ms.length cm, .int .i64 (last + n)] 24)) w5.heap.size 24 am cm ms (last + n) := ⟨hown.fr f6 (fun _ _ f => f), Two.new _ _ _ _, fun k hk => ⟨by have := hown.lt hk; omega, hnew k hk⟩, hz5'⟩
            have FF : Fr (fun _ => False) w3 (w5.alloc (.cells #[.slice am ms.length cm, .int .i64 (last + n)] 24)) := ((Fr.drew (Fr.refl (fun _ => False) w3)).seq' f5).seq' f6
            clear q1 q2 q3 q4
            go_wp2
            go_meet
            exact ⟨_, am, cm, rfl, L, FF⟩
          · obtain ⟨tc, f6⟩ := tb.fin (.slice am ms.length cm) (.int .i64 (last + n))
            have hnew' : ∀ k, (Value.slice am ms.length cm).ownBlock = some k → w3.heap.size + 1 ≤ k := fun k hk => by have := hnew k hk; have hz : (w3.alloc (.cells #[.slice none 0 0, .int .i64 0] 24)).drew.heap.size = w3.heap.size + 1 := World.size_alloc _ _; omega
            have L : Lay w3.heap.size ((w5.setCell ⟨w3.heap.size, 0, none⟩ (.slice am ms.length cm)).setCell ⟨w3.heap.size, 1, none⟩ (.int .i64 (last + n))) w3.heap.size 24 am cm ms (last + n) := ⟨hown.fr f6 (fun k hk e => by have := hnew' k hk; omega), tc, fun k hk => by have := hnew' k hk; omega, Nat.le_refl _⟩
            have FF : Fr (fun _ => False) w3 ((w5.setCell ⟨w3.heap.size, 0, none⟩ (.slice am ms.length cm)).setCell ⟨w3.heap.size, 1, none⟩ (.int .i64 (last + n))) := (fa.seq' f5).trans f6 (fun i hi e => by omega)
            clear q1 q2 q3 q4
            go_wp2
            go_meet
            exact ⟨_, am, cm, rfl, L, FF⟩
        case rest =>
        obtain ⟨X, am, cm, rfl, HLC, HFC⟩ := hcut
        clear u0 u1
        have HL4 : Hid (Lay w3.heap.size wc X 24 am cm ms (last + n)) := HLC
        obtain ⟨u0, u1, _⟩ := ((HT1.out _ HG3.out).fr HFC.out (fun f => f)).cells
        go_upto_region 10 with fail
        go_cut [59] (fun b wd => b = .bool G ∧ wc = wd)
        case first =>
          by_cases k0 : 0 < n
          · have j0 : decide (0 < n) = true := decide_eq_true k0
            by_cases k1 : last = 0
            · have j1 : (last == 0) = true := by rw [k1]; rfl
              have hG : G = true := by rw [HG.out]; exact decide_eq_true ⟨k0, .inl k1⟩
              clear k1
              go_wp2
              go_meet
              exact ⟨by rw [hG], rfl⟩
            · have j1 : (last == 0) = false := by rw [beq_eq_false_iff_ne]; exact k1
              by_cases k2 : e0 < ep
              · have j2 : decide (e0 < ep) = true := decide_eq_true k2
                have hG : G = true := by rw [HG.out]; exact decide_eq_true ⟨k0, .inr k2⟩
                go_wp2
                go_meet
                exact ⟨by rw [hG], rfl⟩
              · have j2 : decide (e0 < ep) = false := decide_eq_false k2
                have hG : G = false := by rw [HG.out]; exact decide_eq_false (fun h => h.2.elim k1 k2)
                go_wp2
                go_meet
                exact ⟨by rw [hG], rfl⟩
          · have j0 : decide (0 < n) = false := decide_eq_false k0
            have hG : G = false := by rw [HG.out]; exact decide_eq_false (fun h => k0 h.1)
            go_wp2
            go_meet
            exact ⟨by rw [hG], rfl⟩
        case rest =>
        obtain ⟨rfl, rfl⟩ := hcut
        have HFC2 : Hid (Fr (fun _ => False) w3 wc) := HFC
        cases G
        · obtain ⟨v0, v1, _⟩ := HL4.out.box.cells
          have T3 := (HT2.out _ HG3.out).fr HFC2.out (fun f => f)
          obtain ⟨z0, z1, z2, z3⟩ := T3.cells
          obtain ⟨t1, f4⟩ := T3.fin (.slice am ms.length cm) (.int .i64 (last + n))
          obtain ⟨s0, s1, _⟩ := t1.cells
          have HFE : Hid (Fr (fun _ => False) w ((wc.setCell ⟨w.heap.size + 1, 0, none⟩ (.slice am ms.length cm)).setCell ⟨w.heap.size + 1, 1, none⟩ (.int .i64 (last + n)))) := ((F1.seq' HG3.out).seq' HFC2.out).trans f4 (fun i hi e => by omega)
          have HME : Hid (Mks ((wc.setCell ⟨w.heap.size + 1, 0, none⟩ (.slice am ms.length cm)).setCell ⟨w.heap.size + 1, 1, none⟩ (.int .i64 (last + n))) am cm ms) := (HL4.out.has.fr f4 (fun k hk e => by have := (HL4.out.own k hk).2; have := HZ.out; omega)).mks rfl
          clear t1 f4 T3 HG
          go_wp2
          refine bodyPost_ret (v := .tuple #[.agg #[.slice am ms.length cm, .int .i64 (last + n)], .int .i64 0]) (by simp [results, Try.results19, go_sem, s0, s1]) rfl ?_
          exact ⟨am, cm, rfl, HME.out, HFE.out⟩
        · obtain ⟨v0, v1, _⟩ := HL4.out.box.cells
          have fb : Fr (fun _ => False) wc (wc.alloc (.cells #[.int .i64 ep, .int .i64 (last + 1)] 53)) := Fr.box _ _
          have HL5 : Hid (Lay w3.heap.size (wc.alloc (.cells #[.int .i64 ep, .int .i64 (last + 1)] 53)) X 24 am cm ms (last + n)) := HL4.out.same fb
          have hnews := from_mark wc (ep, last + 1) 53
          have HF5 : Hid (Fr (fun _ => False) w3 (wc.alloc (.cells #[.int .i64 ep, .int .i64 (last + 1)] 53))) := HFC2.out.seq' fb
          clear fb HG
          go_wp2_with (at_builtin; refine Hid.out (?_ : Hid _))
          unfold Hid
          refine wpList_append_has _ rfl _ _ 22 22 53 53 rfl i0 _ 2 16 Try.underlying22 Try.underlying22 hi hz0 hz1 hz2 rfl (by omega) (.slice am ms.length cm) ms.length (ms.flatMap mkC) rfl HL5.out.has (some ⟨wc.heap.size, 0, none⟩) 1 1 (mkC (ep, last + 1)) rfl rfl hnews (mkC_one _) (by unfold maxLen; omega) (by omega) ?_
          intro an cn w6 hown hfr hat
          obtain ⟨LP, FP⟩ := HL5.out.put (m := (ep, last + 1)) hown hfr hat
          have HLP : Hid _ := LP
          obtain ⟨_, _, hsf, _⟩ := (HL5.out.box.fr hfr (fun e => (HL5.out.own _ e.1).1 rfl)).cells
          have hln : (ms ++ [(ep, last + 1)]).length = ms.length + 1 := by simp
          have HF6 : Hid (Fr (fun _ => False) w3 (w6.setCell ⟨X, 0, none⟩ (.slice an (ms.length + 1) cn))) := HF5.out.trans FP (fun i hi e => by omega)
          clear LP FP hown hfr hat v0 v1
          obtain ⟨v0, v1, _⟩ := HLP.out.box.cells
          rw [hln] at v0
          have T3 := (HT2.out _ HG3.out).fr HF6.out (fun f => f)
          obtain ⟨z0, z1, z2, z3⟩ := T3.cells
          obtain ⟨t1, f4⟩ := T3.fin (.slice an (ms.length + 1) cn) (.int .i64 (last + n))
          obtain ⟨s0, s1, _⟩ := t1.cells
          have HFE := ((F1.seq' HG3.out).seq' HF6.out).trans f4 (fun i hi e => by omega)
          have HME := (HLP.out.has.fr f4 (fun k hk e => by have := (HLP.out.own k hk).2; have := HZ.out; omega)).mks rfl
          have HLN : Hid ((ms ++ [(ep, last + 1)]).length = ms.length + 1) := hln
          have HFE' : Hid _ := HFE
          have HME' : Hid _ := HME
          clear HFE HME t1 f4 T3 hln
          go_wp2
          refine bodyPost_ret (v := .tuple #[.agg #[.slice an (ms.length + 1) cn, .int .i64 (last + n)], .int .i64 0]) (by simp [results, Try.results19, go_sem, s0, s1]) rfl ?_
          exact ⟨an, cn, by rw [HLN.out], HME'.out, HFE'.out⟩
end Go.Proofs.Ytphfngboddnbmaa
