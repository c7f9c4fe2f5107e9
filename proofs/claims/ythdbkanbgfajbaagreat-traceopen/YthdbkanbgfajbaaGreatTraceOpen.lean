
/- For any trace that breaks no rule and any beginning of it, trace.Open tells the numbers of the calls that were made in that beginning and have no answer in it, each once, in the order in which they were made, and the small cases come true; no condition but those of the statement's own form. -/
import Derived.Test.YthdbkanbgfajbaaGreatTB3
import Derived.Test.YthdbkanbgfajbaaGreatTB27
import Derived.Test.YthdbkanbgfajbaaGreatTB24
namespace Go.Proofs.YthdbkanbgfajbaaGreat.traceOpen
open Go.ChangeShapes Go.WideShapes Go.ChangeAt Go.RowKit
open Go.ChangeMaps (open_string shut_string)
set_option linter.unusedVariables false

theorem own : ownKnob Tryz.prog.godebug = none := by kernel_rfl
theorem laidOut : laidOutB Tryz.prog = true := by kernel_rfl
theorem bytes8 : Tryz.prog.bytesOf 5 = 1 := by kernel_rfl

open Go.RowKit
theorem val_int {n : Int} (h : 0 ≤ n) : (Value.int .i64 n) = .int .i64 (n.toNat : Nat) := by rw [Int.toNat_of_nonneg h]
theorem own_nil (w : World) (B : Nat) : w.ownsRow B 3 1 (.slice none 0 0) ([] : List Int).length (([] : List Int).map zI) := ⟨by simp, .inl ⟨rfl, rfl⟩⟩
/-- No step of these made this call. -/
def noMade (l : List Sn) (q : Int) : Bool := l.all fun t => !(t.kind == 1 && t.creq == q)
/-- What the statement's own walk knows of a call behind j steps, where the call is the k'th step's. -/
def opJ (m : List Sn) (k : Nat) (q : Int) (j : Nat) : Bool := noMade (m.take (min j k)) q && noAns (m.take j) q
theorem noAns_step {m : List Sn} {j : Nat} {t : Sn} (h : m[j]? = some t) (q : Int) : noAns (m.take (j + 1)) q = (noAns (m.take j) q && t.ans.all fun a => a.req != q) := by
  rw [take_one_sn h]; unfold noAns; rw [List.all_append]; simp
theorem noMade_step {m : List Sn} {j k : Nat} {t : Sn} (h : m[j]? = some t) (q : Int) : noMade (m.take (min (j + 1) k)) q = (noMade (m.take (min j k)) q && !decide (j < k ∧ t.kind = 1 ∧ t.creq = q)) := by
  by_cases hj : j < k
  · rw [show min (j + 1) k = j + 1 by omega, show min j k = j by omega, take_one_sn h]
    unfold noMade
    rw [List.all_append]
    congr 1
    by_cases h1 : t.kind = 1 <;> by_cases h2 : t.creq = q <;> simp [hj, h1, h2]
  · rw [show min (j + 1) k = min j k by omega]
    simp [hj]
theorem opJ_step {m : List Sn} {j k : Nat} {t : Sn} (h : m[j]? = some t) (q : Int) : opJ m k q (j + 1) = ((opJ m k q j && !decide (j < k ∧ t.kind = 1 ∧ t.creq = q)) && t.ans.all fun a => a.req != q) := by
  unfold opJ
  rw [noAns_step h, noMade_step h]
  cases noMade (m.take (min j k)) q <;> cases noAns (m.take j) q <;> simp
theorem noMade_ord {m : List Sn} {k : Nat} (hk : k ≤ m.length) (q : Int) : noMade (m.take k) q = decide (q ∉ ordL (m.take k)) := by
  rw [Bool.eq_iff_iff, decide_eq_true_eq, ordL_mem hk]
  unfold noMade
  rw [List.all_eq_true]
  constructor
  · rintro h ⟨i, t, hi, ht, h1, h2⟩
    have := h t (List.mem_of_getElem? (i := i) (by rw [List.getElem?_take_of_lt hi]; exact ht))
    simp [h1, h2] at this
  · intro h t ht
    obtain ⟨i, hi⟩ := List.getElem?_of_mem ht
    rw [List.getElem?_take] at hi
    split at hi
    · rename_i hik
      by_cases h1 : t.kind = 1 ∧ t.creq = q
      · exact absurd ⟨i, t, hik, hi, h1.1, h1.2⟩ h
      · by_cases h2 : t.kind = 1
        · have : t.creq ≠ q := fun e => h1 ⟨h2, e⟩
          simp [h2, this]
        · simp [h2]
    · cases hi
/-- The statement's row behind k steps. -/
def wantK (m : List Sn) (k : Nat) : List Int := (ordL (m.take k)).filter (noAns m)
theorem want_skip {m : List Sn} {k : Nat} {s : Sn} (h : m[k]? = some s) (hk : s.kind ≠ 1) : wantK m (k + 1) = wantK m k := by
  unfold wantK; rw [ordL_step h, if_neg (fun e => hk e.1)]
theorem want_step {m : List Sn} {k : Nat} {s : Sn} (h : m[k]? = some s) (hk : s.kind = 1) : wantK m (k + 1) = if opJ m k s.creq m.length = true then wantK m k ++ [s.creq] else wantK m k := by
  have hl : k < m.length := (List.getElem?_eq_some_iff.1 h).1
  have e : opJ m k s.creq m.length = (decide (s.creq ∉ ordL (m.take k)) && noAns m s.creq) := by
    unfold opJ
    rw [show min m.length k = k by omega, List.take_length, noMade_ord (by omega)]
  unfold wantK
  rw [ordL_step h, e]
  by_cases h1 : s.creq ∈ ordL (m.take k)
  · rw [if_neg (fun e => e.2 h1)]
    simp [h1]
  · rw [if_pos ⟨hk, h1⟩, List.filter_append]
    cases h2 : noAns m s.creq <;> simp [h1, h2]
theorem want_len (m : List Sn) : ∀ (k : Nat), k ≤ m.length → (wantK m k).length ≤ k
  | 0, _ => by simp [wantK, ordL]
  | k + 1, hk => by
    obtain ⟨s, h⟩ : ∃ s, m[k]? = some s := ⟨_, List.getElem?_eq_getElem (by omega)⟩
    have ih := want_len m k (by omega)
    by_cases hk1 : s.kind = 1
    · rw [want_step h hk1]
      split
      · rw [List.length_append]; simp; omega
      · omega
    · rw [want_skip h hk1]; omega
theorem opJ_zero (m : List Sn) (k : Nat) (q : Int) : opJ m k q 0 = true := by unfold opJ noMade noAns; simp
set_option maxRecDepth 100000 in
set_option maxHeartbeats 16000000 in
theorem walk (w : World) (a0 : Option Addr) (len0 cap0 : Nat) (l : List Sn) (hl0 : len0 = l.length) (hr0 : Sns w w.heap.size a0 cap0 l) (hw0 : ∀ s ∈ l, SnWf s) (hz0 : ∀ s ∈ l, s.ans.length * 72 ≤ reachBytes ∧ s.H.length * 80 ≤ reachBytes) (hb0 : len0 * 160 ≤ reachBytes) (n : Int) (w1 : (Lit.int .i64 n).wf = true) :
    Calls Tryz.prog 5 #[.slice a0 len0 cap0, .int .i64 n] w fun e w' => e = .returned (.bool true) ∧ Fr (fun _ => False) w w' := by
  have HSP : Hid (∀ W, Calls Tryz.prog 7 #[] W fun e w' => e = .returned (.bool true) ∧ Fr (fun _ => False) W w') := tspeaks_any
  have hlg := large_any a0 len0 cap0 l hl0 hz0 w hr0
  have hle : len0 ≤ cap0 := by rw [hl0]; exact hr0.le
  have hmx := hr0.max
  have HR : Hid (Sns w w.heap.size a0 cap0 l) := hr0
  have HW : Hid (∀ s ∈ l, SnWf s) := hw0
  have HN : Hid (len0 = l.length) := hl0
  clear hr0 hw0 hz0 hl0 hb0 w1
  go_enter Tryz.func5, Tryz.ntmps5
  go_wp2_with fail
  refine hlg.mono ?_
  rintro e w2 ⟨b, rfl, hb, f2⟩
  cases b with
  | true =>
    clear hlg
    go_wp2_with (go_at_call 7; refine (HSP.out _).mono ?_; rintro e w3 ⟨rfl, f3⟩)
    go_ret
    exact ⟨rfl, f2.seq' f3⟩
  | false =>
    have HS : Hid (Small l) := small_of HW.out (hb rfl)
    have hl3 : len0 ≤ 300 := by have := (hb rfl).1; have := HN.out; omega
    have HF2 : Hid (Fr (fun _ => False) w w2) := f2
    clear hlg hb f2
    have hc1 := check_any a0 len0 cap0 l HN.out HS.out w2 HF2.out.size (HR.out.same HF2.out)
    unfold ChkE at hc1
    go_wp2_with fail
    refine hc1.mono ?_
    rintro e w3 ⟨a, i, rfl, hk1, f3⟩
    have HF3 : Hid (Fr (fun _ => False) w w3) := HF2.out.seq' f3
    clear hc1 f3 HF2
    by_cases ha : a = 0
    · subst ha
      have HK : Hid (Keeps l l.length) := by
        rcases hk1 with ⟨_, _, h⟩ | ⟨h, _⟩
        · exact h
        · exact absurd rfl h
      clear hk1
      obtain ⟨B, hB⟩ : ∃ B : Bool, B = decide (n < 0 ∨ (len0 : Int) < n) := ⟨_, rfl⟩
      have HB : Hid (B = decide (n < 0 ∨ (len0 : Int) < n)) := hB
      clear hB
      go_upto_region 6 with fail
      go_cut [39] (fun b wc => b = .bool B ∧ w3 = wc)
      case first =>
        by_cases hneg : n < 0
        · have hBt : B = true := by rw [HB.out]; exact decide_eq_true (Or.inl hneg)
          subst hBt
          go_wp2
          go_meet
          exact ⟨rfl, rfl⟩
        · have hn0 : decide (n < 0) = false := decide_eq_false hneg
          by_cases hbig : (len0 : Int) < n
          · have hBt : B = true := by rw [HB.out]; exact decide_eq_true (Or.inr hbig)
            subst hBt
            go_wp2
            go_meet
            exact ⟨rfl, rfl⟩
          · have hBf : B = false := by rw [HB.out]; exact decide_eq_false (by omega)
            subst hBf
            go_wp2
            go_meet
            exact ⟨by simp, rfl⟩
      case rest =>
      obtain ⟨rfl, rfl⟩ := hcut
      go_upto_if 39 with fail
      go_cut [1] (fun t wc => ∃ m : Nat, t = .int .i64 m ∧ m ≤ len0 ∧ w3 = wc)
      case first =>
        cases B
        · have hno : ¬ (n < 0 ∨ (len0 : Int) < n) := of_decide_eq_false HB.out.symm
          go_wp2
          go_meet
          exact ⟨n.toNat, val_int (by omega), by omega, rfl⟩
        · go_wp2
          go_meet
          exact ⟨len0, rfl, by omega, rfl⟩
      case rest =>
      obtain ⟨nm, rfl, hm, rfl⟩ := hcut
      clear HB
      obtain ⟨m, hmm⟩ : ∃ m, m = l.take nm := ⟨_, rfl⟩
      have HM : Hid (Sns w w.heap.size a0 cap0 m) := by show Sns _ _ _ _ _; rw [hmm]; exact HR.out.take nm
      have HNM : Hid (nm = m.length) := by show _ = _; rw [hmm, List.length_take]; have := HN.out; omega
      have HMS : Hid (Small m) := by show Small m; rw [hmm]; exact HS.out.take nm
      have HMK : Hid (Keeps m m.length) := by
        show Keeps m m.length
        rw [← HNM.out, hmm, keeps_take (Nat.le_refl _)]
        exact HK.out.le (by have := HN.out; omega)
      clear hmm HK HR HS HN HW
      go_wp2
      go_loopw [8, 46] (fun v i wo => ∃ (k mm : Nat) (a' : Option Addr) (c' : Nat), k ≤ nm ∧ i = .int .i64 k ∧ v = .slice a' mm c' ∧ mm ≤ k ∧ Hid (mm = (wantK m k).length) ∧ Hid (wo.ownsRow w3.heap.size 3 1 (.slice a' mm c') (wantK m k).length ((wantK m k).map zI)) ∧ Hid (Fr (fun _ => False) w3 wo)) (fun _ i _ => nm - (intOf i).toNat)
      case atStart => exact ⟨0, 0, none, 0, by omega, rfl, rfl, by omega, rfl, own_nil _ _, Fr.refl _ _⟩
      case round =>
        obtain ⟨wo, rfl⟩ : ∃ x, x = wr := ⟨wr, rfl⟩
        obtain ⟨k, mm, a', c', hk, rfl, rfl, hmk, HL, HO, HF⟩ := hrel
        by_cases hlt : k < nm
        · obtain ⟨s, hsk⟩ : ∃ s, m[k]? = some s := ⟨_, List.getElem?_eq_getElem (by have := HNM.out; omega)⟩
          obtain ⟨g, o, rfl, hgB, hgw, hcc⟩ := (HM.out.same (HF3.out.seq' HF.out)).some (by have := HNM.out; omega)
          obtain ⟨c0, c1, c2, c3, c4, c5, c6, c7, c8, c9, c10, c11⟩ := sn_range (hcc k s hsk)
          have hki : (k : Int) < (nm : Int) := by omega
          have HSK : Hid (m[k]? = some s) := hsk
          have HBX : Hid ((wo.alloc (.cells (snC s) 39)).heap[wo.heap.size]? = some (.cells (snC s) 39 (0, 0))) := heap_alloc_new wo _
          have HFX : Hid (Fr (fun _ => False) w3 (wo.alloc (.cells (snC s) 39))) := HF.out.seq' (Fr.box _ _)
          have HOX : Hid ((wo.alloc (.cells (snC s) 39)).ownsRow w3.heap.size 3 1 (.slice a' mm c') (wantK m k).length ((wantK m k).map zI)) := row_fr HO.out (Fr.box _ _) (fun _ _ _ e => e)
          clear hsk hcc HO
          by_cases hs1 : s.kind = 1
          · have hs1' : (s.kind != 1) = false := by simpa using hs1
            have HS1 : Hid (s.kind = 1) := hs1
            obtain ⟨V, hV⟩ : ∃ V, V = wo.alloc (.cells (snC s) 39) := ⟨_, rfl⟩
            have HVV : Hid (V = wo.alloc (.cells (snC s) 39)) := hV
            rw [← hV] at HBX HFX HOX
            have HF0 : Hid (Fr (fun _ => False) V (wo.alloc (.cells (snC s) 39))) := by show Fr _ _ _; rw [hV]; exact Fr.refl _ _
            have HST : Hid (∀ W, Fr (fun _ => False) V W → W.cell? ⟨wo.heap.size, 4, none⟩ = some (.int .i64 s.creq) ∧ wo.heap.size < W.heap.size) := fun W f => by
              have h1 := (f.block _ (blk_lt HBX.out) (fun e => e)).trans HBX.out
              exact ⟨cell_blk h1 4, blk_lt h1⟩
            have HMV : Hid (∀ W, Fr (fun _ => False) V W → Sns W w.heap.size (some ⟨g, o, none⟩) cap0 m) := fun W f => HM.out.same ((HF3.out.seq' HFX.out).seq' f)
            clear hs1 HF hV
            unfold snC at HF0
            go_wp2
            go_loopw [11, 59] (fun ob i wq => ∃ (j : Nat) (B : Bool), j ≤ nm ∧ i = .int .i64 j ∧ ob = .bool B ∧ Hid (B = opJ m k s.creq j) ∧ Hid (Fr (fun _ => False) V wq)) (fun _ i _ => nm - (intOf i).toNat)
            case atStart => exact ⟨0, true, by omega, rfl, rfl, (opJ_zero m k s.creq).symm, HF0⟩
            case round =>
              obtain ⟨wq, rfl⟩ : ∃ x, x = wr := ⟨wr, rfl⟩
              obtain ⟨j, B, hj, rfl, rfl, HJB, HFQ⟩ := hrel
              clear HF0 c0 c1 c2 c3 c4 c5 c6 c7 c8 c9 c10 c11
              by_cases hlj : j < nm
              · obtain ⟨t, htj⟩ : ∃ t, m[j]? = some t := ⟨_, List.getElem?_eq_getElem (by have := HNM.out; omega)⟩
                obtain ⟨g', o', e', _, _, hcc⟩ := (HMV.out _ HFQ.out).some (by have := HNM.out; omega)
                simp only [Option.some.injEq, Addr.mk.injEq, and_true] at e'
                obtain ⟨rfl, rfl⟩ := e'
                obtain ⟨c0, c1, c2, c3, c4, c5, c6, c7, c8, c9, c10, c11⟩ := sn_range (hcc j t htj)
                obtain ⟨s4, hsw⟩ := HST.out _ HFQ.out
                have hji : (j : Int) < (nm : Int) := by omega
                obtain ⟨X, hX⟩ : ∃ X, X = decide (j < k ∧ t.kind = 1 ∧ t.creq = s.creq) := ⟨_, rfl⟩
                have HX : Hid (X = decide (j < k ∧ t.kind = 1 ∧ t.creq = s.creq)) := hX
                have HTJ : Hid (m[j]? = some t) := htj
                have HFT : Hid (Fr (fun _ => False) V (wq.alloc (.cells (snC t) 39))) := HFQ.out.seq' (Fr.box _ _)
                have HTB : Hid ((wq.alloc (.cells (snC t) 39)).heap[wq.heap.size]? = some (.cells (snC t) 39 (0, 0))) := heap_alloc_new wq _
                clear hX htj hcc
                go_upto_region 17 with fail
                go_cut [83] (fun b wc => b = .bool X ∧ (wq.alloc (.cells (snC t) 39)) = wc)
                case first =>
                  by_cases x1 : j < k
                  · have x1' : (j : Int) < (k : Int) := by omega
                    by_cases x2 : t.kind = 1
                    · have x2' : (t.kind == 1) = true := by simpa using x2
                      by_cases x3 : t.creq = s.creq
                      · have hXt : X = true := by rw [HX.out]; exact decide_eq_true ⟨x1, x2, x3⟩
                        have x3' : (t.creq == s.creq) = true := by simpa using x3
                        clear x3 x2
                        subst hXt
                        go_wp2
                        go_meet
                        exact ⟨rfl, rfl⟩
                      · have hXf : X = false := by rw [HX.out]; exact decide_eq_false (fun h => x3 h.2.2)
                        have x3' : (t.creq == s.creq) = false := by simpa using x3
                        clear x3 x2
                        subst hXf
                        go_wp2
                        go_meet
                        exact ⟨rfl, rfl⟩
                    · have hXf : X = false := by rw [HX.out]; exact decide_eq_false (fun h => x2 h.2.1)
                      have x2' : (t.kind == 1) = false := by simpa using x2
                      clear x2
                      subst hXf
                      go_wp2
                      go_meet
                      exact ⟨rfl, rfl⟩
                  · have hXf : X = false := by rw [HX.out]; exact decide_eq_false (fun h => x1 h.1)
                    have x1' : decide ((j : Int) < (k : Int)) = false := by simp; omega
                    have x1'' : decide (j < k) = false := decide_eq_false x1
                    subst hXf
                    go_wp2
                    go_meet
                    exact ⟨rfl, rfl⟩
                case rest =>
                obtain ⟨rfl, rfl⟩ := hcut
                go_upto_if 83 with fail
                go_cut [11] (fun b wc => b = .bool (B && !X) ∧ (wq.alloc (.cells (snC t) 39)) = wc)
                case first =>
                  cases X
                  · go_wp2
                    go_meet
                    exact ⟨by simp, rfl⟩
                  · go_wp2
                    go_meet
                    exact ⟨by simp, rfl⟩
                case rest =>
                obtain ⟨rfl, rfl⟩ := hcut
                clear c0 c1 c2 c3 c4 c5 c6 c7 c8 c9 c10 c11 s4 hsw
                obtain ⟨aa, haa⟩ : ∃ x, x = t.aa := ⟨_, rfl⟩
                have HAA : Hid (aa = t.aa) := haa
                obtain ⟨nt, hnt⟩ : ∃ x, x = t.ans.length := ⟨_, rfl⟩
                have HNT : Hid (nt = t.ans.length) := hnt
                have hal : nt ≤ t.ac := by rw [hnt]; exact ((HMV.out _ HFQ.out).ins t (List.mem_of_getElem? HTJ.out)).al
                have ham : t.ac ≤ 9223372036854775807 := ((HMV.out _ HFQ.out).ins t (List.mem_of_getElem? HTJ.out)).am
                obtain ⟨D, hD⟩ : ∃ D, D = (B && !X) := ⟨_, rfl⟩
                have HD : Hid (D = (opJ m k s.creq j && !decide (j < k ∧ t.kind = 1 ∧ t.creq = s.creq))) := by show _ = _; rw [hD, HJB.out, HX.out]
                rw [← hD]
                obtain ⟨T, hT⟩ : ∃ T, T = wq.alloc (.cells (snC t) 39) := ⟨_, rfl⟩
                rw [← hT] at HFT HTB ⊢
                obtain ⟨⟨d0, d1, d2, d3, d4, d5, d6, d7, d8, d9, d10, d11⟩, hdw⟩ := sn_cells HAA.out HTB.out
                rw [← HNT.out] at d10
                clear hD haa hnt hT HX HJB HTB
                go_wp2
                clear d0 d1 d2 d3 d4 d5 d6 d7 d8 d9 d10 d11 hdw
                go_loopw [11, 87] (fun ob i wz => ∃ (u : Nat) (C : Bool), u ≤ nt ∧ i = .int .i64 u ∧ ob = .bool C ∧ Hid (C = (D && (t.ans.take u).all fun a => a.req != s.creq)) ∧ Hid (Fr (fun _ => False) T wz)) (fun _ i _ => nt - (intOf i).toNat)
                case atStart => exact ⟨0, D, by omega, rfl, rfl, by simp [Hid], Fr.refl _ _⟩
                case round =>
                  obtain ⟨wz, rfl⟩ : ∃ x, x = wr := ⟨wr, rfl⟩
                  obtain ⟨u, C, hu, rfl, rfl, HC, HFZ⟩ := hrel
                  by_cases hlu : u < nt
                  · obtain ⟨x, hx⟩ : ∃ x, t.ans[u]? = some x := ⟨_, List.getElem?_eq_getElem (by have := HNT.out; omega)⟩
                    have hin := (HMV.out _ (HFT.out.seq' HFZ.out)).ins t (List.mem_of_getElem? HTJ.out)
                    obtain ⟨ga, oa, ea, _, hga, hcc⟩ : ∃ g o, t.aa = some ⟨g, o, none⟩ ∧ g < w.heap.size ∧ g < wz.heap.size ∧ ∀ i a, t.ans[i]? = some a → wz.rangeAt g (o + i * 6) (anC a).toList := by
                      rcases hin.at_ with h0 | h
                      · rw [h0] at hx; cases hx
                      · exact h
                    obtain ⟨q0, q1, q2, q3, q4, q5⟩ := an_range (hcc u x hx)
                    rw [← HAA.out] at ea
                    subst ea
                    obtain ⟨s4, hsw⟩ := HST.out _ (HFT.out.seq' HFZ.out)
                    have hui : (u : Int) < (nt : Int) := by omega
                    have HCN : Hid ((C && (x.req != s.creq)) = (D && (t.ans.take (u + 1)).all fun a => a.req != s.creq)) := by
                      show _ = _
                      rw [HC.out, take_an hx, List.all_append]
                      simp [Bool.and_assoc]
                    have HFY : Hid (Fr (fun _ => False) T (wz.alloc (.cells (anC x) 49))) := HFZ.out.seq' (Fr.box _ _)
                    clear hx hin hcc HC HFZ
                    unfold anC at HFY
                    cases C with
                    | false =>
                      go_wp2
                      go_roundw
                      case rel => exact ⟨u + 1, false, by omega, by go_num, rfl, HCN, HFY⟩
                      case measure => simp [intOf]; omega
                    | true =>
                      go_wp2
                      go_roundw
                      case rel => exact ⟨u + 1, (x.req != s.creq), by omega, by go_num, by simp, by show _ = _; rw [← HCN.out]; simp, HFY⟩
                      case measure => simp [intOf]; omega
                  · obtain rfl : u = nt := by omega
                    have HJ2 : Hid (C = opJ m k s.creq (j + 1)) := by
                      show _ = _
                      rw [opJ_step HTJ.out, ← HD.out, HC.out, HNT.out, List.take_length]
                    have HF5 : Hid (Fr (fun _ => False) V wz) := HFT.out.seq' HFZ.out
                    clear HC HFZ HD
                    go_wp2
                    go_roundw
                    case rel => exact ⟨j + 1, C, by omega, by go_num, rfl, HJ2, HF5⟩
                    case measure => simp [intOf]; omega
              · obtain rfl : j = nm := by omega
                have HWK : Hid (wantK m (k + 1) = if B = true then wantK m k ++ [s.creq] else wantK m k) := by
                  show _ = _
                  rw [want_step HSK.out HS1.out, HJB.out, HNM.out]
                have HOQ : Hid (wq.ownsRow w3.heap.size 3 1 (.slice a' mm c') (wantK m k).length ((wantK m k).map zI)) := row_fr HOX.out HFQ.out (fun _ _ _ e => e)
                have HF5 : Hid (Fr (fun _ => False) w3 wq) := HFX.out.seq' HFQ.out
                obtain ⟨s4, hsw⟩ := HST.out _ HFQ.out
                clear HJB HOX HFQ
                cases B with
                | false =>
                  have HL2 : Hid (mm = (wantK m (k + 1)).length) := by show _ = _; rw [HWK.out]; exact HL.out
                  have HO2 : Hid (wq.ownsRow w3.heap.size 3 1 (.slice a' mm c') (wantK m (k + 1)).length ((wantK m (k + 1)).map zI)) := by show World.ownsRow _ _ _ _ _ _ _; rw [HWK.out]; exact HOQ.out
                  clear HL HOQ HWK
                  go_wp2
                  go_roundw
                  case rel => exact ⟨k + 1, mm, a', c', by omega, by go_num, rfl, by omega, HL2, HO2, HF5⟩
                  case measure => simp [intOf]; omega
                | true =>
                  obtain ⟨a4, c4, w8, hrun, hown, f8⟩ := app_one s.creq HOQ.out (HF5.out.size) (by have := HL.out; omega)
                  have HL2 : Hid ((wantK m k).length + 1 = (wantK m (k + 1)).length) := by show _ = _; rw [HWK.out, if_pos rfl]; simp
                  have hlm : (wantK m k).length = mm := HL.out.symm
                  rw [hlm] at hrun hown HL2
                  have HO2 : Hid (w8.ownsRow w3.heap.size 3 1 (.slice a4 (mm + 1) c4) (wantK m (k + 1)).length ((wantK m (k + 1)).map zI)) := by
                    show World.ownsRow _ _ _ _ _ _ _
                    rw [HWK.out, if_pos rfl]; exact hown
                  have HF8 : Hid (Fr (fun _ => False) w3 w8) := HF5.out.trans f8 (fun i hi e => by omega)
                  clear HL HOQ HWK hown f8 hlm
                  go_wp2_with (at_builtin; refine append_step rfl _ _ 40 rfl rfl rfl hrun ?_)
                  go_roundw
                  case rel => exact ⟨k + 1, mm + 1, a4, c4, by omega, by go_num, rfl, by omega, HL2, HO2, HF8⟩
                  case measure => simp [intOf]; omega
          · have hs1' : (s.kind != 1) = true := by simpa using hs1
            have HWK : Hid (wantK m (k + 1) = wantK m k) := want_skip HSK.out hs1
            have HL2 : Hid (mm = (wantK m (k + 1)).length) := by show _ = _; rw [HWK.out]; exact HL.out
            have HO2 : Hid ((wo.alloc (.cells (snC s) 39)).ownsRow w3.heap.size 3 1 (.slice a' mm c') (wantK m (k + 1)).length ((wantK m (k + 1)).map zI)) := by show World.ownsRow _ _ _ _ _ _ _; rw [HWK.out]; exact HOX.out
            clear hs1 HL HOX HWK HF HBX
            unfold snC at HO2 HFX
            go_wp2
            go_roundw
            case rel => exact ⟨k + 1, mm, a', c', by omega, by go_num, rfl, by omega, HL2, HO2, HFX⟩
            case measure => simp [intOf]; omega
        · obtain rfl : k = nm := by omega
          have HOP : openL m = wantK m k := by
            rw [open_all HMK.out]
            unfold wantK
            rw [HNM.out, List.take_length]
          have HFW : Hid (Fr (fun _ => False) w wo) := HF3.out.seq' HF.out
          have hop := open_any a0 k cap0 m HNM.out HMS.out wo (HM.out.same HFW.out)
          unfold RowE at hop
          rw [HOP] at hop
          obtain ⟨p0, cp, e, hir⟩ := Ir.of HO.out
          simp only [Value.slice.injEq] at e
          obtain ⟨rfl, e2, rfl⟩ := e
          clear e2
          have HIR : Hid (Ir wo w3.heap.size a' c' (wantK m k)) := hir
          have HPL : Hid (∀ a c W, Ir W 0 a c (wantK m k) → Fr (fun _ => False) wo W → Calls Tryz.prog 12 #[.slice a (wantK m k).length c, .slice a' (wantK m k).length c'] W fun e w' => e = .returned (.bool true) ∧ Fr (fun _ => False) W w') := fun a c W h f => plain_ints a a' c c' 0 _ (wantK m k) W h (HIR.out.fr f (fun _ _ _ e => e))
          rw [← HL.out] at HPL hop
          clear hir HO HL HOP HF
          go_wp2_with fail
          refine hop.mono ?_
          rintro e w5 ⟨a5, c5, rfl, r5, f5⟩
          have hp := HPL.out a5 c5 w5 r5 f5
          have HF5 : Hid (Fr (fun _ => False) w w5) := HFW.out.seq' f5
          clear hop r5 f5 HPL
          go_wp2_with fail
          refine hp.mono ?_
          rintro e w6 ⟨rfl, f6⟩
          have HF6 : Hid (Fr (fun _ => False) w w6) := HF5.out.seq' f6
          clear hp f6 HF5
          go_wp2_with (go_at_call 7; refine (HSP.out _).mono ?_; rintro e w7 ⟨rfl, f7⟩)
          go_ret
          exact ⟨rfl, HF6.out.seq' f7⟩
    · have ha' : (a != 0) = true := by simpa using ha
      clear hk1 ha
      go_wp2_with (go_at_call 7; refine (HSP.out _).mono ?_; rintro e w4 ⟨rfl, f4⟩)
      go_ret
      exact ⟨rfl, HF3.out.seq' f4⟩

set_option maxRecDepth 100000 in
theorem lifted (os : Os) (started : os.Started) (H : Type) (enc : TypeId × Value → H) :
    ReturnsInHanded {} Tryz.checked os 5 .any (Rows.traceOpenSpec.pre6 enc Tryz.prog Tryz.f5 Rows.traceOpenRow.domain false) (Rows.traceOpenSpec.post enc Tryz.prog Tryz.f5 false true false false) := by
  refine returnsInHanded_of_change_sized (C := Tryz.checked) own started (by kernel_rfl) Tryz.func5
    (ChangeSpec.witness6 (enc := enc) (C := Tryz.checked) false ⟨#[], #[.slice none 0 0, .int .i64 0], []⟩ 8 (by kernel_rfl) (by kernel_rfl) (by kernel_rfl) (by kernel_rfl)) ?_
  intro W base args ds gs before hval0 hW hcnd hsz0 _
  have hsz : (DataW.weightsEach Tryz.prog (Tryz.f5.params.toList ++ Rows.traceOpenSpec.plain.varTypes Tryz.prog) (ds ++ gs)).all (· ≤ reachBytes) = true := hsz0
  clear hsz0
  have hval : ∀ (j : Nat) t v, Tryz.f5.params[j]? = some t → args[j]? = some v → Value.okWide Tryz.prog W .any base t v := hval0
  have hW' := hW
  obtain ⟨p, q, hA0, hV, rfl, hfz, hnd⟩ := hW
  have hA : DataW.TrodAll enc Tryz.prog W 0 (fun _ => true) true Tryz.f5.params.toList args.toList ds p := hA0
  rw [Tryz.params5] at hA hval hsz
  obtain ⟨v0, vs0, d0, ds0, p0, q0, hargs, rfl, rfl, h0, r0⟩ := trodAll_cons hA
  obtain ⟨v1, vs1, d1, ds1, p1, q1, rfl, rfl, rfl, h1, r1⟩ := trodAll_cons r0
  obtain ⟨rfl, rfl, rfl⟩ := trodAll_nil r1
  obtain rfl : args = #[v0, v1] := by cases args; simp_all
  obtain ⟨rfl, rfl⟩ := trodVars_none hV
  obtain ⟨a0, len0, cap0, rfl⟩ := okWide_slice Tryz.underlying22 (hval 0 22 v0 rfl rfl)
  have k0 := h0
  have lt0 : ∀ x ∈ p0, x.block < W.heap.size := by obtain ⟨m, hm⟩ := k0; exact DataW.trod_lt m _ _ _ hm
  have wz0 : ∀ z ∈ d0.weights Tryz.prog 22, z ≤ reachBytes := fun z hz => by simpa using List.all_eq_true.1 hsz z (DataW.weights_mem_each (j := 0) rfl rfl z hz)
  obtain ⟨ls0, hl0, hr0, hw0, hz0, hb0⟩ : ∃ ls : List Sn, len0 = ls.length ∧ Sns W W.heap.size a0 cap0 ls ∧ (∀ s ∈ ls, SnWf s) ∧ (∀ s ∈ ls, s.ans.length * 72 ≤ reachBytes ∧ s.H.length * 80 ≤ reachBytes) ∧ len0 * 160 ≤ reachBytes := by
    obtain ⟨fuel, hf⟩ := h0
    exact sns_open hf wz0
  obtain ⟨a1, rfl, rfl, rfl, w1⟩ := open_int Tryz.underlying3 (hval 1 3 v1 rfl rfl) h1
  clear hA0 hval0
  refine (walk W a0 len0 cap0 ls0 hl0 hr0 hw0 hz0 hb0 a1 w1).mono fun e W' ⟨he, fr⟩ => ?_
  have bel : Below W.heap.size W W' := fr.below (Nat.le_refl _) (fun _ f => f.elim)
  subst he
  exact ⟨_, rfl, _, _, _, [], _, [], hW', trodAll_mk1 (shut_bool Tryz.underlying4 _), (trodAll_cons_mk (Below.trod laidOut (by kernel_rfl) (of_decide_eq_true (by kernel_rfl)) k0 bel lt0) (trodAll_cons_mk (shut_int Tryz.underlying3 w1) trodAll_mk0)), rfl, bel.frame _, fun h => by cases h⟩

theorem proved : Rows.TraceOpenSaid :=
  OpenClaim.holds_of_wide 5 Tryz.f5 rfl rfl rfl rfl rfl rfl rfl ⟨rfl, rfl, rfl, rfl, rfl⟩ rfl rfl rfl rfl rfl (by kernel_rfl) Tryz.func5 (by kernel_rfl)
    (of_decide_eq_true (by kernel_rfl)) (by unfold Func.isWrapper; first | (rw [if_pos (by decide +kernel)]; kernel_rfl) | (rw [if_neg (by decide +kernel)]; exact ⟨rfl, rfl⟩))
    (fun os started H enc _ => lifted os started H enc)
end Go.Proofs.YthdbkanbgfajbaaGreat.traceOpen
namespace Go.Proofs.YthdbkanbgfajbaaGreat
theorem traceOpen_holds : Rows.TraceOpenSaid := traceOpen.proved
#print axioms traceOpen_holds
end Go.Proofs.YthdbkanbgfajbaaGreat
