
/- For any records, any mark and any records that are sent: what Take leaves ahead of the mark is what lay there, what it took lies there, and what it cut is cut at the first record whose epoch is another, and the example speaks; with no condition but those of the statement's own form. -/
import Derived.Test.YtnhmickolfbldaaSB8
import Derived.Test.YtnhmickolfbldaaShCutM
import Derived.Test.YtnhmickolfbldaaShSpk
import Derived.Test.YtnhmickolfbldaaShBoth
import Derived.Test.YtnhmickolfbldaaShArg
namespace Go.Proofs.Ytnhmickolfbldaa.shipCut
open Go.ChangeShapes Go.WideShapes Go.ChangeAt Go.RowKit
open Go.ChangeMaps (open_string shut_string)
set_option linter.unusedVariables false

theorem own : ownKnob Try.prog.godebug = none := by kernel_rfl
theorem laidOut : laidOutB Try.prog = true := by kernel_rfl
theorem bytes8 : Try.prog.bytesOf 5 = 1 := by kernel_rfl

open Go.RowKit
theorem neq_recs (r s : Rec) (h : r.ep ≠ s.ep) (w : World) : (binOp .neq 64 (.agg #[.int .i64 r.lsn, .int .i64 r.ep, .int .i64 r.kind, .int .i64 r.page, .int .i64 r.other, .int .i64 r.req, .string r.key, .string r.val]) (.agg #[.int .i64 s.lsn, .int .i64 s.ep, .int .i64 s.kind, .int .i64 s.page, .int .i64 s.other, .int .i64 s.req, .string s.key, .string s.val])).run Try.prog w = .ok (.bool true) w := by
  have hf : Try.prog.stoodInHeld 64 = false := by kernel_rfl
  have hu : Try.prog.underlying 64 = some (.struct (Try.prog.fieldsOf 64)) := by kernel_rfl
  rw [run_neq_struct, run_equalIn_struct _ _ _ _ _ hu hf]
  by_cases h1 : r.lsn = s.lsn <;> simp [Op.eqFields, go_sem, h, h1]
theorem recs_pre {W : World} {a : Option Addr} {c : Nat} {T : List Rec} (h : Recs W a c T) (m : Nat) : Recs W a c (T.take m) := by
  refine ⟨by have := h.le; rw [List.length_take]; omega, h.max, ?_⟩
  rcases h.at_ with e | ⟨b, o, e, hb, hc⟩
  · exact .inl (by rw [e, List.take_nil])
  · exact .inr ⟨b, o, e, hb, fun i r hr => hc i r (by rw [List.getElem?_take] at hr; split at hr; exact hr; cases hr)⟩
set_option maxRecDepth 100000 in
set_option maxHeartbeats 16000000 in
theorem walk (w : World) (a : Option Addr) (n c : Nat) (rs : List Rec) (hn : n = rs.length) (hb : n * 80 ≤ 140737488355328) (h : Recs w a c rs) (hz : ∀ r ∈ rs, r.key.size ≤ 140737488351232 ∧ r.val.size ≤ 140737488351232) (mk : Int × Int) (a' : Option Addr) (n' c' : Nat) (qs : List Rec) (hn' : n' = qs.length) (hb' : n' * 80 ≤ 140737488355328) (h' : Recs w a' c' qs) (hz' : ∀ r ∈ qs, r.key.size ≤ 140737488351232 ∧ r.val.size ≤ 140737488351232) :
    Calls Try.prog 6 #[.slice a n c, .agg #[.int .i64 mk.1, .int .i64 mk.2], .slice a' n' c'] w fun e w' => e = .returned (.bool true) ∧ Fr (fun _ => False) w w' := by
  obtain ⟨me, ml⟩ := mk
  dsimp only
  have HSP : Hid (∀ W, Calls Try.prog 14 #[] W fun e w' => e = .returned (.bool true) ∧ Fr (fun _ => False) W w') := shspk_any
  have f0 := Fr.box w (.cells #[.int .i64 me, .int .i64 ml] 24)
  have HT : Hid (∀ W, Fr (fun _ => False) (w.alloc (.cells #[.int .i64 me, .int .i64 ml] 24)) W → Two W w.heap.size 24 (.int .i64 me) (.int .i64 ml)) := fun W f => (Two.new w _ _ _).fr f (fun f => f)
  have hbo := both_any a n c rs hn _ (h.same f0)
  have HS : Hid (∀ W, Fr (fun _ => False) w W → Recs W a' c' qs) := fun W f => h'.same f
  have HQB : Hid (∀ b o, a' = some ⟨b, o, none⟩ → qs ≠ [] → b < w.heap.size) := fun b o ha hne => by
    rcases h'.at_ with h0 | ⟨b', o', e, hb, _⟩
    · exact absurd h0 hne
    · rw [ha] at e; cases e; exact hb
  have HTK : Hid (∀ W lb rv, Lg W lb rv (bthL rs) 0 → Recs W a' c' qs → (∀ k, lgS lb rv k → ∀ b o, a' = some ⟨b, o, none⟩ → qs ≠ [] → k ≠ b) → Calls Try.prog 10 #[.pointer (some ⟨lb, 0, none⟩), .agg #[.int .i64 me, .int .i64 ml], .slice a' n' c'] W (TkOut W lb rv (takeR (bthL rs) me ml qs))) := fun W lb rv hl hr ho => take_any lb rv _ me ml a' n' c' qs hn' (by omega) W hl (bth_wl rs) hr ho
  have HCF : Hid (((takeR (bthL rs) me ml qs).2.2.2 ≠ 0 → (takeR (bthL rs) me ml qs).2.1 = 0 ∧ (takeR (bthL rs) me ml qs).2.2.1 = false ∧ ((takeR (bthL rs) me ml qs).2.2.2 = 5 ∨ (takeR (bthL rs) me ml qs).1 = bthL rs)) ∧ ((takeR (bthL rs) me ml qs).2.2.2 = 0 → ∃ m : Nat, ml = (m : Int) ∧ m ≤ (bthL rs).length ∧ (takeR (bthL rs) me ml qs).2.1 ≤ ((takeR (bthL rs) me ml qs).1.length : Int) ∧ CtI (bthL rs) m (takeR (bthL rs) me ml qs).1 (takeR (bthL rs) me ml qs).2.2.1 qs ∧ (takeR (bthL rs) me ml qs).1.take m = (bthL rs).take m)) := cut_facts (bth_wl rs) me ml qs
  have HWL : Hid (Wl (bthL rs)) := bth_wl rs
  have HWT : Hid (Wl (takeR (bthL rs) me ml qs).1) := takeR_wl (bth_wl rs) me ml qs
  have HBO : Hid (∀ W e w', BoOut W rs e w' → ∃ rv rrv, e = .returned (.tuple #[.pointer (some ⟨W.heap.size, 0, none⟩), .pointer (some ⟨W.heap.size + 1, 0, none⟩)]) ∧ Bth W w' rv rrv (bthL rs)) := fun W e w' h => h
  have HQN : Hid (n' = qs.length ∧ n' ≤ c') := ⟨hn', by rw [hn']; exact h'.le⟩
  generalize takeR (bthL rs) me ml qs = t at *
  generalize bthL rs = L at *
  have hbL := HWL.out.big
  have hbT := HWT.out.big
  obtain ⟨x0, x1, _⟩ := (HT.out _ (Fr.refl _ _)).cells
  clear h h' hz hz' hb hb' hn hn'
  obtain ⟨T, n1, c1, e1⟩ := t
  dsimp only at *
  go_enter Try.func6, Try.ntmps6
  go_wp2_with fail
  generalize w.alloc (.cells #[.int .i64 me, .int .i64 ml] 24) = V at *
  refine hbo.mono ?_
  intro e w1 hout
  obtain ⟨rv, rrv, rfl, B⟩ := HBO.out V e w1 hout
  have zV := f0.size
  have hfa := from_lg 1 100000 (by omega) V.heap.size rv L 0 w1 B.lg hbL
  rw [frF_whole hbL] at hfa
  have HB : Hid (Bth V w1 rv rrv L) := B
  clear hbo hout B x0 x1
  go_wp2_with fail
  refine hfa.mono ?_
  rintro e w2 ⟨aB, cB, rfl, rB, nB, g2⟩
  have htk := HTK.out w2 V.heap.size rv (HB.out.lg.same g2) (HS.out _ ((f0.seq' HB.out.fr).seq' g2)) (fun k e b o hb hne => by
    have := HQB.out b o hb hne
    rcases e with e | e
    · omega
    · have := (HB.out.o1 k e).1; omega)
  obtain ⟨y0, y1, _⟩ := (HT.out _ (HB.out.fr.seq' g2)).cells
  have HG2 : Hid (Fr (fun _ => False) w1 w2) := g2
  have HRB2 : Hid (Recs w2 aB cB L) := rB
  have HNB : Hid (Nwr w1 aB L) := nB
  clear hfa g2 rB nB
  go_wp2_with fail
  refine htk.mono ?_
  rintro e w3 ⟨rfl, hto⟩
  dsimp only at hto ⊢
  obtain ⟨rv1, LT, OT, FT⟩ := lg_step (w := V) (HB.out.fr.seq' HG2.out) (fun k hk => by
    rcases hk with e | e
    · omega
    · have := (HB.out.o1 k e).1; omega) hto
  obtain ⟨_, _, fT, _⟩ := hto
  have HRB3 : Hid (Recs w3 aB cB L) := recs_fr HRB2.out fT (fun k b o hb hne hk => by
    have := HNB.out b o hb hne
    rcases hk with e | e
    · have := lt_of_block HB.out.lg.box; omega
    · have := HB.out.lg.has.lt e; omega)
  have hfa := from_lg 1 100000 (by omega) V.heap.size rv1 T 0 w3 LT hbT
  rw [frF_whole hbT] at hfa
  have HF3 : Hid (Fr (fun _ => False) V w3) := FT
  clear htk LT OT FT fT HNB HRB2 HG2 y0 y1 HTK HBO
  go_wp2_with fail
  refine hfa.mono ?_
  rintro e w4 ⟨aA, cA, rfl, rA, _, g4⟩
  have HF4 : Hid (Fr (fun _ => False) V w4) := HF3.out.seq' g4
  have HW4 : Hid (Fr (fun _ => False) w w4) := f0.seq' HF4.out
  have HRB : Hid (∀ W, Fr (fun _ => False) w4 W → Recs W aB cB L) := fun W f => (HRB3.out.same g4).same f
  have HRA : Hid (∀ W, Fr (fun _ => False) w4 W → Recs W aA cA T) := fun W f => rA.same f
  have HM : Hid (∀ W, Fr (fun _ => False) w4 W → Two W w.heap.size 24 (.int .i64 me) (.int .i64 ml)) := fun W f => HT.out _ (HF4.out.seq' f)
  have hlA := rA.le
  have hmA := rA.max
  have hlB := HRB3.out.le
  have hmB := HRB3.out.max
  clear hfa rA g4 HRB3 HF3 HB HT
  by_cases hE : e1 = 0
  rotate_left
  · obtain ⟨rfl, rfl, h5⟩ := HCF.out.1 hE
    have d0 : (e1 != 0) = true := by simp [hE]
    by_cases h55 : e1 = 5
    · have d5 : (e1 == 5) = true := by rw [h55]; rfl
      go_wp2_with fail
      refine (HSP.out _).mono ?_
      rintro e w5 ⟨rfl, g5⟩
      go_wp2
      go_ret
      exact ⟨rfl, HW4.out.seq' g5⟩
    · have d5 : (e1 == 5) = false := by simp [h55]
      obtain rfl := h5.resolve_left h55
      have hpl := plain_recs aB aA _ _ cB cA T rfl rfl w4 (HRB.out _ (Fr.refl _ _)) (HRA.out _ (Fr.refl _ _))
      go_wp2_with fail
      refine hpl.mono ?_
      rintro e w5 ⟨rfl, g5⟩
      go_wp2_with fail
      refine (HSP.out _).mono ?_
      rintro e w6 ⟨rfl, g6⟩
      go_wp2
      go_ret
      exact ⟨rfl, (HW4.out.seq' g5).seq' g6⟩
  · obtain ⟨m, hml, hmL, hn1, CI, hTm⟩ := HCF.out.2 hE
    subst hml
    subst hE
    have HCI : Hid (CtI L m T c1 qs) := CI
    have HTM : Hid (T.take m = L.take m) := hTm
    have hmT : m ≤ T.length := by have := CI.le; omega
    have dn : decide ((T.length : Int) < n1) = false := decide_eq_false (by omega)
    have dm : decide ((L.length : Int) < (m : Int)) = false := decide_eq_false (by omega)
    have dm2 : decide (L.length < m) = false := decide_eq_false (by omega)
    have dm3 : ¬ (L.length < m) := by omega
    have j1 : (m : Int) ≤ (cA : Int) := by omega
    have j2 : (m : Int) ≤ (cB : Int) := by omega
    have j3 : m ≤ cA := by omega
    have j4 : m ≤ cB := by omega
    have q1 := (HM.out _ (Fr.drew (Fr.refl _ w4))).fst
    clear CI hTm HCF
    have HPR : Hid (∀ (b1 b2 : Option Addr) (d1 d2 : Nat) W, Recs W b1 d1 T → Recs W b2 d2 L → Calls Try.prog 12 #[.slice b1 m d1, .slice b2 m d2] W fun e w' => e = .returned (.bool true) ∧ Fr (fun _ => False) W w') := fun b1 b2 d1 d2 W h1 h2 => plain_recs b1 b2 m m d1 d2 (T.take m) (by rw [List.length_take]; omega) (by rw [List.length_take]; omega) W (recs_pre h1 m) (by rw [HTM.out]; exact recs_pre h2 m)
    have fD : Fr (fun _ => False) w4 w4.drew := Fr.drew (Fr.refl _ _)
    have r1 := HPR.out aA aB cA cB _ (HRA.out _ fD) (HRB.out _ fD)
    have hAn : aA = none → m = 0 := fun e => by
      rcases (HRA.out _ fD).at_ with h0 | ⟨b, o, h0, _⟩
      · rw [h0] at hmT; simp at hmT; exact hmT
      · rw [e] at h0; cases h0
    go_upto_region 7 with fail
    go_cut [76] (fun t wc => t = .bool false ∧ Hid (Fr (fun _ => False) w4 wc))
    case first =>
      go_region_held3 (fun W => W.cell? ⟨w.heap.size, 0, none⟩ = some (.int .i64 me) ∧ W.cell? ⟨w.heap.size, 1, none⟩ = some (.int .i64 m))
        (first | with_reducible exact q1 | with_reducible exact q2 | fail)
        (first
          | (go_at_call 12; refine r1.mono ?_; rintro e w5 ⟨rfl, g5⟩; have G5 := fD.seq' g5; have q2 := (HM.out _ G5).fst))
      go_wp2
      go_meet
      exact ⟨rfl, G5⟩
    case rest =>
    obtain ⟨rfl, HFc⟩ := hcut
    have hqn := HQN.out.1
    have hqc := HQN.out.2
    have hqx : c' ≤ 9223372036854775807 := (HS.out _ HW4.out).max
    have HAT : Hid (T ≠ [] → ∃ b o, aA = some ⟨b, o, none⟩ ∧ ∀ W, Fr (fun _ => False) w4 W → b < W.heap.size ∧ ∀ (i : Nat) m, T[i]? = some m → W.rangeAt b (o + i * 8) (recC m)) := fun hne => by
      rcases (HRA.out _ (Fr.refl _ _)).at_ with h0 | ⟨b, o, e, _, _⟩
      · exact absurd h0 hne
      · refine ⟨b, o, e, fun W f => ?_⟩
        rcases (HRA.out W f).at_ with h0 | ⟨b', o', e', h1, h2⟩
        · exact absurd h0 hne
        · rw [e] at e'; cases e'; exact ⟨h1, h2⟩
    have HBT : Hid (L ≠ [] → ∃ b o, aB = some ⟨b, o, none⟩ ∧ ∀ W, Fr (fun _ => False) w4 W → b < W.heap.size ∧ ∀ (i : Nat) m, L[i]? = some m → W.rangeAt b (o + i * 8) (recC m)) := fun hne => by
      rcases (HRB.out _ (Fr.refl _ _)).at_ with h0 | ⟨b, o, e, _, _⟩
      · exact absurd h0 hne
      · refine ⟨b, o, e, fun W f => ?_⟩
        rcases (HRB.out W f).at_ with h0 | ⟨b', o', e', h1, h2⟩
        · exact absurd h0 hne
        · rw [e] at e'; cases e'; exact ⟨h1, h2⟩
    clear r1 q1 fD hAn dn dm dm2 dm3 HPR
    go_wp2
    go_loopw [79] (fun i wr => ∃ k : Nat, k ≤ n' ∧ i = .int .i64 k ∧ Hid (Fr (fun _ => False) w4 wr)) (fun i _ => n' - (intOf i).toNat)
    case atStart => exact ⟨0, by omega, rfl, HFc⟩
    case round =>
      obtain ⟨k, hk, rfl, HF⟩ := hrel
      by_cases hlt : k < n'
      · have hlt' : (k : Int) < (n' : Int) := by omega
        obtain ⟨r, hr⟩ : ∃ r, qs[k]? = some r := ⟨_, List.getElem?_eq_getElem (by omega)⟩
        obtain ⟨s, hs, hse⟩ := HCI.out.eps k r hr
        have hst := HS.out _ (HW4.out.seq' HF.out)
        obtain ⟨b, off, rfl, hb, hc⟩ : ∃ b off, a' = some ⟨b, off, none⟩ ∧ b < wr.heap.size ∧ ∀ (i : Nat) m, qs[i]? = some m → wr.rangeAt b (off + i * 8) (recC m) := by
          rcases hst.at_ with e | e
          · rw [e] at hr; simp at hr
          · exact e
        obtain ⟨z0, z1, z2, z3, z4, z5, z6, z7⟩ := rec_range (hc k r hr)
        have fB := Fr.box wr (.cells #[.int .i64 r.lsn, .int .i64 r.ep, .int .i64 r.kind, .int .i64 r.page, .int .i64 r.other, .int .i64 r.req, .string r.key, .string r.val] 64)
        obtain ⟨⟨d0, d1, d2, d3, d4, d5, d6, d7⟩, _⟩ := rec_cells (heap_alloc_new wr (.cells #[.int .i64 r.lsn, .int .i64 r.ep, .int .i64 r.kind, .int .i64 r.page, .int .i64 r.other, .int .i64 r.req, .string r.key, .string r.val] 64))
        have hTl := (List.getElem?_eq_some_iff.1 hs).1
        obtain ⟨bA, oA, rfl, hA⟩ := HAT.out (by intro e; rw [e] at hTl; simp at hTl)
        obtain ⟨hbA, hcA⟩ := hA _ (HF.out.seq' fB)
        obtain ⟨u, hu⟩ : ∃ u : Nat, u = m + k := ⟨_, rfl⟩
        rw [← hu] at hs hTl
        have hwu : IntKind.i64.wrap ((m : Int) + (k : Int)) = (u : Int) := by rw [hu]; simp [IntKind.wrap, IntKind.bits, IntKind.signed]; omega
        have hui : (u : Int) < (T.length : Int) := by omega
        obtain ⟨y0, y1, y2, y3, y4, y5, y6, y7⟩ := rec_range (hcA u s hs)
        have v01 := (HM.out _ (HF.out.seq' fB)).fst
        obtain ⟨v0, v1⟩ := v01
        have hne : (s.ep != r.ep) = false := by rw [hse]; simp
        have HFB : Hid (Fr (fun _ => False) w4 (wr.alloc (.cells #[.int .i64 r.lsn, .int .i64 r.ep, .int .i64 r.kind, .int .i64 r.page, .int .i64 r.other, .int .i64 r.req, .string r.key, .string r.val] 64))) := HF.out.seq' fB
        rw [hse] at y1
        clear hu hs hse hr hst hc hcA hA fB y0 y2 y3 y4 y5 y6 y7 hne
        go_wp2
        go_quiet (fail)
        go_wp2
        go_roundw
        case rel => exact ⟨k + 1, by omega, by go_num, Fr.drewN HFB.out _⟩
        case measure => simp [intOf]; omega
      · have hkk : decide ((k : Int) < (n' : Int)) = false := decide_eq_false (by omega)
        have hk2 : decide (k < n') = false := decide_eq_false (by omega)
        cases c1
        · have hLT : L.length ≤ T.length ∧ T.take L.length = L := by
            rcases HCI.out.no rfl with e | ⟨_, t, e⟩
            · rw [e]; exact ⟨Nat.le_refl _, List.take_length⟩
            · rw [← e]; exact ⟨by simp, by simp⟩
          obtain ⟨hLT1, hLT2⟩ := hLT
          have g1 : (L.length : Int) ≤ (T.length : Int) := by omega
          have g2 : (L.length : Int) ≤ (cA : Int) := by omega
          have g3 : L.length ≤ cA := by omega
          have g4 : decide (L.length ≤ T.length) = true := decide_eq_true hLT1
          have g5 : decide ((L.length : Int) ≤ (T.length : Int)) = true := decide_eq_true g1
          have hpl := plain_recs aA aB L.length L.length cA cB L rfl rfl wr (by have := recs_pre (HRA.out _ HF.out) L.length; rw [hLT2] at this; exact this) (HRB.out _ HF.out)
          clear hLT2
          go_wp2_with fail
          refine hpl.mono ?_
          rintro e w5 ⟨rfl, f5⟩
          go_wp2_with fail
          refine (HSP.out _).mono ?_
          rintro e w6 ⟨rfl, f6⟩
          go_wp2
          go_ret
          exact ⟨rfl, ((HW4.out.seq' HF.out).seq' f5).seq' f6⟩
        · obtain ⟨_, d, r, s, h1, h2, h3, h4, h5, h6⟩ := HCI.out.yes rfl
          have hdT := (List.getElem?_eq_some_iff.1 h3).1
          obtain ⟨bA, oA, rfl, hA⟩ := HAT.out (by intro e; rw [e] at hdT; simp at hdT)
          obtain ⟨bB, oB, rfl, hB⟩ := HBT.out (by intro e; rw [e] at h2; simp at h2)
          have HA : Hid (∀ W, Fr (fun _ => False) w4 W → bA < W.heap.size ∧ ∀ (i : Nat) m, T[i]? = some m → W.rangeAt bA (oA + i * 8) (recC m)) := hA
          have HB : Hid (∀ W, Fr (fun _ => False) w4 W → bB < W.heap.size ∧ ∀ (i : Nat) m, L[i]? = some m → W.rangeAt bB (oB + i * 8) (recC m)) := hB
          have H34 : Hid (T[d]? = some r ∧ L[d]? = some s ∧ r.ep ≠ s.ep ∧ T.take d = L.take d) := ⟨h3, h4, h5, h6⟩
          clear h3 h4 h5 h6 hA hB HAT HBT
          go_wp2
          go_loopw [116] (fun i wr => ∃ x : Nat, x ≤ d ∧ i = .int .i64 x ∧ Hid (Fr (fun _ => False) w4 wr)) (fun i _ => d - (intOf i).toNat)
          case atStart => exact ⟨0, by omega, rfl, HF⟩
          case round =>
            clear HF
            obtain ⟨x, hx, rfl, HF⟩ := hrel
            have p1 : (x : Int) < (T.length : Int) := by omega
            have p2 : (x : Int) < (L.length : Int) := by omega
            have p3 : decide ((x : Int) < (L.length : Int)) = true := decide_eq_true p2
            have p4 : x < L.length := by omega
            have p5 : x < T.length := by omega
            by_cases hxd : x < d
            · obtain ⟨y, hy⟩ : ∃ y, T[x]? = some y := ⟨_, List.getElem?_eq_getElem p5⟩
              have hyL : L[x]? = some y := by
                have := congrArg (fun l => l[x]?) H34.out.2.2.2
                simp only [List.getElem?_take, if_pos hxd] at this
                rw [← this]; exact hy
              obtain ⟨x0, x1, x2, x3, x4, x5, x6, x7⟩ := rec_range ((HA.out _ HF.out).2 x y hy)
              obtain ⟨y0, y1, y2, y3, y4, y5, y6, y7⟩ := rec_range ((HB.out _ HF.out).2 x y hyL)
              clear hy hyL
              go_wp2
              go_quiet (fail)
              go_wp2
              go_roundw
              case rel => exact ⟨x + 1, by omega, by go_num, Fr.drewN HF.out _⟩
              case measure => simp [intOf]; omega
            · obtain rfl : x = d := by omega
              obtain ⟨e3, e4, e5, e6⟩ := H34.out
              have HK : Hid (∀ W, Fr (fun _ => False) w4 W → W.cell? ⟨bA, oA + x * 8 + 1, none⟩ = some (.int .i64 r.ep) ∧ W.cell? ⟨bB, oB + x * 8 + 1, none⟩ = some (.int .i64 s.ep) ∧ W.cell? ⟨w.heap.size, 1, none⟩ = some (.int .i64 m)) := fun W f => by
                obtain ⟨_, x1, _⟩ := rec_range ((HA.out _ f).2 x r e3)
                obtain ⟨_, y1, _⟩ := rec_range ((HB.out _ f).2 x s e4)
                exact ⟨x1, y1, (HM.out _ f).fst.2⟩
              obtain ⟨x0, x1, x2, x3, x4, x5, x6, x7⟩ := rec_range ((HA.out _ HF.out).2 x r e3)
              obtain ⟨y0, y1, y2, y3, y4, y5, y6, y7⟩ := rec_range ((HB.out _ HF.out).2 x s e4)
              have hnq := fun W => neq_recs r s e5 W
              have HE5 : Hid (r.ep ≠ s.ep) := e5
              clear e3 e4 e5 e6
              go_upto_region 20 with fail
              go_cut [133] (fun t wc => t = .bool true ∧ Hid (Fr (fun _ => False) w4 wc))
              case first =>
                go_quiet (fail)
                go_wp2
                go_meet
                exact ⟨rfl, Fr.drewN HF.out _⟩
              case rest =>
              obtain ⟨rfl, HFd⟩ := hcut
              have f2 : (r.ep != s.ep) = true := by have := HE5.out; simp [this]
              have f3 : (r.ep == s.ep) = false := by have := HE5.out; simp [this]
              have f4 : (m : Int) ≤ (x : Int) := by omega
              have f5 : decide ((m : Int) ≤ (x : Int)) = true := decide_eq_true f4
              have f6 : decide (m ≤ x) = true := decide_eq_true h1
              have fD := HFd.out.seq' (Fr.drew (Fr.refl (fun _ => False) _))
              have q1 := HK.out _ fD
              have r1 := HSP.out wc.drew
              clear x0 x1 x2 x3 x4 x5 x6 x7 y0 y1 y2 y3 y4 y5 y6 y7 hnq
              go_wp2_with fail
              go_region_held3 (fun W => W.cell? ⟨bA, oA + x * 8 + 1, none⟩ = some (.int .i64 r.ep) ∧ W.cell? ⟨bB, oB + x * 8 + 1, none⟩ = some (.int .i64 s.ep) ∧ W.cell? ⟨w.heap.size, 1, none⟩ = some (.int .i64 m))
                (first | with_reducible exact q1 | with_reducible exact q2 | fail)
                (first
                  | (go_at_call 14; refine r1.mono ?_; rintro e w5 ⟨rfl, g5⟩; have G5 := fD.seq' g5; have q2 := HK.out _ G5))
              go_wp2
              go_ret
              exact ⟨by simp, HW4.out.seq' G5⟩

set_option maxRecDepth 100000 in
theorem lifted (os : Os) (started : os.Started) (H : Type) (enc : TypeId × Value → H) :
    ReturnsInHanded {} Try.checked os 6 .any (Rows.shipCutSpec.pre6 enc Try.prog Try.f6 Rows.shipCutRow.domain false) (Rows.shipCutSpec.post enc Try.prog Try.f6 false true false false) := by
  refine returnsInHanded_of_change_sized (C := Try.checked) own started (by kernel_rfl) Try.func6
    (ChangeSpec.witness6 (enc := enc) (C := Try.checked) false ⟨#[], #[.slice none 0 0, .agg #[.int .i64 0, .int .i64 0], .slice none 0 0], []⟩ 8 (by kernel_rfl) (by kernel_rfl) (by kernel_rfl) (by kernel_rfl)) ?_
  intro W base args ds gs before hval0 hW hcnd hsz0 _
  have hsz : (DataW.weightsEach Try.prog (Try.f6.params.toList ++ Rows.shipCutSpec.plain.varTypes Try.prog) (ds ++ gs)).all (· ≤ reachBytes) = true := hsz0
  clear hsz0
  have hval : ∀ (j : Nat) t v, Try.f6.params[j]? = some t → args[j]? = some v → Value.okWide Try.prog W .any base t v := hval0
  have hW' := hW
  obtain ⟨p, q, hA0, hV, rfl, hfz, hnd⟩ := hW
  have hA : DataW.TrodAll enc Try.prog W 0 (fun _ => true) true Try.f6.params.toList args.toList ds p := hA0
  rw [Try.params6] at hA hval hsz
  obtain ⟨v0, vs0, d0, ds0, p0, q0, hargs, rfl, rfl, h0, r0⟩ := trodAll_cons hA
  obtain ⟨v1, vs1, d1, ds1, p1, q1, rfl, rfl, rfl, h1, r1⟩ := trodAll_cons r0
  obtain ⟨v2, vs2, d2, ds2, p2, q2, rfl, rfl, rfl, h2, r2⟩ := trodAll_cons r1
  obtain ⟨rfl, rfl, rfl⟩ := trodAll_nil r2
  obtain rfl : args = #[v0, v1, v2] := by cases args; simp_all
  obtain ⟨rfl, rfl⟩ := trodVars_none hV
  obtain ⟨a0, len0, cap0, rfl⟩ := okWide_slice Try.underlying22 (hval 0 22 v0 rfl rfl)
  have k0 := h0
  have lt0 : ∀ x ∈ p0, x.block < W.heap.size := by obtain ⟨m, hm⟩ := k0; exact DataW.trod_lt m _ _ _ hm
  have wz0 : ∀ z ∈ d0.weights Try.prog 22, z ≤ reachBytes := fun z hz => by simpa using List.all_eq_true.1 hsz z (DataW.weights_mem_each (j := 0) rfl rfl z hz)
  obtain ⟨ls0, hl0, hb0, hr0, hz0⟩ : ∃ ls : List Rec, len0 = ls.length ∧ len0 * 80 ≤ 140737488355328 ∧ Recs W a0 cap0 ls ∧ ∀ r ∈ ls, r.key.size ≤ 140737488351232 ∧ r.val.size ≤ 140737488351232 := by
    obtain ⟨fuel, hf⟩ := h0
    exact recs_open2 hf wz0
  have k1 := h1
  have lt1 : ∀ x ∈ p1, x.block < W.heap.size := by obtain ⟨m, hm⟩ := k1; exact DataW.trod_lt m _ _ _ hm
  obtain ⟨mk1, rfl⟩ := mark_open (hval 1 24 v1 rfl rfl) h1
  obtain ⟨a2, len2, cap2, rfl⟩ := okWide_slice Try.underlying22 (hval 2 22 v2 rfl rfl)
  have k2 := h2
  have lt2 : ∀ x ∈ p2, x.block < W.heap.size := by obtain ⟨m, hm⟩ := k2; exact DataW.trod_lt m _ _ _ hm
  have wz2 : ∀ z ∈ d2.weights Try.prog 22, z ≤ reachBytes := fun z hz => by simpa using List.all_eq_true.1 hsz z (DataW.weights_mem_each (j := 2) rfl rfl z hz)
  obtain ⟨ls2, hl2, hb2, hr2, hz2⟩ : ∃ ls : List Rec, len2 = ls.length ∧ len2 * 80 ≤ 140737488355328 ∧ Recs W a2 cap2 ls ∧ ∀ r ∈ ls, r.key.size ≤ 140737488351232 ∧ r.val.size ≤ 140737488351232 := by
    obtain ⟨fuel, hf⟩ := h2
    exact recs_open2 hf wz2
  clear hA0 hval0
  refine (walk W a0 len0 cap0 ls0 hl0 hb0 hr0 hz0 mk1 a2 len2 cap2 ls2 hl2 hb2 hr2 hz2).mono fun e W' ⟨he, fr⟩ => ?_
  have bel : Below W.heap.size W W' := fr.below (Nat.le_refl _) (fun _ f => f.elim)
  subst he
  exact ⟨_, rfl, _, _, _, [], _, [], hW', trodAll_mk1 (shut_bool Try.underlying4 _), (trodAll_cons_mk (Below.trod laidOut (by kernel_rfl) (of_decide_eq_true (by kernel_rfl)) k0 bel lt0) (trodAll_cons_mk (Below.trod laidOut (by kernel_rfl) (of_decide_eq_true (by kernel_rfl)) k1 bel lt1) (trodAll_cons_mk (Below.trod laidOut (by kernel_rfl) (of_decide_eq_true (by kernel_rfl)) k2 bel lt2) trodAll_mk0))), rfl, bel.frame _, fun h => by cases h⟩

theorem proved : Rows.ShipCutSaid :=
  OpenClaim.holds_of_wide 6 Try.f6 rfl rfl rfl rfl rfl rfl rfl ⟨rfl, rfl, rfl, rfl, rfl⟩ rfl rfl rfl rfl rfl (by kernel_rfl) Try.func6 (by kernel_rfl)
    (of_decide_eq_true (by kernel_rfl)) (by unfold Func.isWrapper; first | (rw [if_pos (by decide +kernel)]; kernel_rfl) | (rw [if_neg (by decide +kernel)]; exact ⟨rfl, rfl⟩))
    (fun os started H enc _ => lifted os started H enc)
end Go.Proofs.Ytnhmickolfbldaa.shipCut
namespace Go.Proofs.Ytnhmickolfbldaa
theorem shipCut_holds : Rows.ShipCutSaid := shipCut.proved
#print axioms shipCut_holds
end Go.Proofs.Ytnhmickolfbldaa
