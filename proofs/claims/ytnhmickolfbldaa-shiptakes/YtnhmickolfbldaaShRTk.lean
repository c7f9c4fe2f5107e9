
/- The document's Take. -/
import Derived.Test.YtnhmickolfbldaaShRef
import Derived.Test.YtnhmickolfbldaaShTakeY
namespace Go.Proofs.Ytnhmickolfbldaa
open Go.RowKit Crcm

def RtOut (w : World) (lb : Nat) (rv : Value) (t : List Rec × Int × Bool × Int) (e : Ending) (w' : World) : Prop := e = .returned (.tuple #[.int .i64 t.2.1, .bool t.2.2.1, .int .i64 t.2.2.2]) ∧ RgTo w lb rv t.1 w'
theorem RgTo.refl {w : World} {lb : Nat} {rv : Value} {ls : List Rec} (h : Rlg w lb rv ls 0) : RgTo w lb rv ls w := ⟨rv, h, Fr.refl _ _, fun _ e => .inl e⟩
theorem RgTo.same {w w1 w2 : World} {lb : Nat} {rv : Value} {ls : List Rec} (h : RgTo w lb rv ls w1) (f : Fr (fun _ => False) w1 w2) : RgTo w lb rv ls w2 := by
  obtain ⟨rv', h1, h2, h3⟩ := h
  exact ⟨rv', h1.same f, h2.trans f (fun _ _ e => e.elim), h3⟩
theorem RgTo.then {w w1 w2 : World} {lb : Nat} {rv rv1 : Value} {ls : List Rec} (f : Fr (lgS lb rv) w w1) (o : Ow w rv rv1) (h : RgTo w1 lb rv1 ls w2) : RgTo w lb rv ls w2 := by
  obtain ⟨rv', h1, h2, h3⟩ := h
  refine ⟨rv', h1, f.trans h2 (fun i hi e => ?_), fun g e => ?_⟩
  · rcases e with e | e
    · exact .inl e
    · rcases o i e with o | o
      · exact .inr o
      · omega
  · rcases h3 g e with h | h
    · exact o g h
    · have := f.size; exact .inr (by omega)
theorem has_parts {ls : List Rec} {r : Rec} (h1 : 1 ≤ r.lsn) : (hasB ls r.ep r.lsn = true → (gtE ls r.lsn == 0) = true ∧ ((gtR ls r.lsn).ep == r.ep) = true) ∧ (hasB ls r.ep r.lsn = false → r.lsn ≤ ls.length → (gtE ls r.lsn == 0) = true ∧ ((gtR ls r.lsn).ep == r.ep) = false) ∧ (¬ r.lsn ≤ ls.length → (gtE ls r.lsn == 0) = false) := by
  refine ⟨fun h => ?_, fun h hl => ?_, fun h => ?_⟩
  · unfold hasB at h
    rw [Bool.and_eq_true] at h
    exact h
  · have he : gtE ls r.lsn = 0 := by unfold gtE; rw [if_pos ⟨h1, hl⟩]
    unfold hasB at h
    rw [he] at h ⊢
    exact ⟨rfl, by simpa using h⟩
  · have he : gtE ls r.lsn = 6 := by unfold gtE; rw [if_neg (fun e => h e.2)]
    rw [he]; rfl
set_option maxRecDepth 100000 in
set_option maxHeartbeats 8000000 in
theorem rtake_any (lb : Nat) (rv : Value) (ls : List Rec) (me ml : Int) (a : Option Addr) (n c : Nat) (rs : List Rec) (hn : n = rs.length) (w : World) (hl : Rlg w lb rv ls 0) (hw : Wl ls) (h : Recs w a c rs) (hoff : ∀ k, lgS lb rv k → ∀ b o, a = some ⟨b, o, none⟩ → rs ≠ [] → k ≠ b) :
    Calls Try.prog 11 #[.pointer (some ⟨lb, 0, none⟩), .agg #[.int .i64 me, .int .i64 ml], .slice a n c] w (RtOut w lb rv (takeR ls me ml rs)) := by
  have f0 := Fr.box w (.cells #[.int .i64 me, .int .i64 ml] 24)
  have HT : Hid (∀ W, Fr (fun _ => False) (w.alloc (.cells #[.int .i64 me, .int .i64 ml] 24)) W → Two W w.heap.size 24 (.int .i64 me) (.int .i64 ml)) := fun W f => (Two.new w _ _ _).fr f (fun f => f)
  have HS : Hid (∀ W, Fr (lgS lb rv) w W → Recs W a c rs) := fun W f => recs_fr h f (fun k b o ha hne e => hoff k e b o ha hne)
  have HN : Hid (n = rs.length) := hn
  have hle : n ≤ c := by rw [hn]; exact h.le
  have hmx := h.max
  have HFT : Hid ((∀ r ∈ rs, rok r = true) → 0 ≤ ml → ∀ W, Fr (fun _ => False) w W → Calls Try.prog 34 #[.pointer (some ⟨lb, 0, none⟩), .agg #[.int .i64 me, .int .i64 ml], .slice a n c] W fun e w' => e = .returned (.bool (decide ((ml = 0 ∨ hasB ls me ml = true) ∧ allB me ml rs = true))) ∧ Fr (fun _ => False) W w') := fun hr h0 W f => rfits_any lb rv ls 0 me ml h0 a n c rs hn hr W (hl.same f) hw.big (h.same f)
  have HL : Hid (Rlg w lb rv ls 0) := hl
  have HWL : Hid (Wl ls) := hw
  have HTK : Hid (takeR ls me ml rs = if lkE ls me ml rs = 0 then tkR ls ml false rs else (ls, 0, false, lkE ls me ml rs)) := rfl
  have HA0 : Hid (lkE ls me ml rs = 0 → Ahd ls me ml ∧ fits me ml rs) := fun e => ⟨ahd_of e, fits_of _ _ _ (lkE_zero e).2.2.2.1⟩
  have HLB : Hid (∀ k, lgS lb rv k → k < w.heap.size) := fun k e => by
    rcases e with e | e
    · rw [e]; exact lt_of_block hl.box
    · exact hl.has.lt e
  have END : Hid (∀ E, lkE ls me ml rs = E → E ≠ 0 → ∀ W, Fr (fun _ => False) w W → RtOut w lb rv (takeR ls me ml rs) (.returned (.tuple #[.int .i64 0, .bool false, .int .i64 E])) W) := fun E hE hne W f => by
    rw [HTK.out, hE, if_neg hne]
    exact ⟨rfl, (RgTo.refl HL.out).same f⟩
  clear h hl hw hn hoff
  go_enter Try.func11, Try.ntmps11
  go_wp2
  generalize w.alloc (.cells #[.int .i64 me, .int .i64 ml] 24) = V at *
  go_loopw [21] (fun i wr => ∃ (k : Nat), k ≤ n ∧ i = .int .i64 k ∧ Hid (∀ (i : Nat) r, rs[i]? = some r → i < k → rok r = true) ∧ Hid (Fr (fun _ => False) V wr)) (fun i _ => n - (intOf i).toNat)
  case atStart => exact ⟨0, by omega, rfl, (fun i r _ h => by omega), Fr.refl _ _⟩
  case round =>
    obtain ⟨k, hk, rfl, HK, HF⟩ := hrel
    have FW := f0.seq' HF.out
    by_cases hlt : k < n
    · obtain ⟨r, hr⟩ : ∃ r, rs[k]? = some r := ⟨_, List.getElem?_eq_getElem (by have := HN.out; omega)⟩
      obtain ⟨b, off, rfl, hb, hc⟩ := (HS.out _ (FW.widen (fun _ e => e.elim))).some (by have := HN.out; omega)
      obtain ⟨q0, q1, q2, q3, q4, q5, q6, q7⟩ := rec_range (hc k r hr)
      have hki : (k : Int) < (n : Int) := by omega
      have fB := Fr.box wr (.cells #[.int .i64 r.lsn, .int .i64 r.ep, .int .i64 r.kind, .int .i64 r.page, .int .i64 r.other, .int .i64 r.req, .string r.key, .string r.val] 64)
      obtain ⟨⟨d0, d1, d2, d3, d4, d5, d6, d7⟩, _⟩ := rec_cells (heap_alloc_new wr (.cells #[.int .i64 r.lsn, .int .i64 r.ep, .int .i64 r.kind, .int .i64 r.page, .int .i64 r.other, .int .i64 r.req, .string r.key, .string r.val] 64))
      have hck := right_any r
      have HR : Hid (rs[k]? = some r) := hr
      clear hc hr
      cases hok : rok r
      · rw [hok] at hck
        have HE : Hid (lkE ls me ml rs = 90) := lkE_bad (List.mem_of_getElem? HR.out) hok
        clear hok HK
        go_wp2_with fail
        refine (hck _).mono ?_
        rintro e w1 ⟨rfl, g1⟩
        go_wp2
        refine bodyPost_ret (v := .tuple #[.int .i64 0, .bool false, .int .i64 90]) (by simp [results, Try.results11, go_sem]) rfl ?_
        exact END.out 90 HE.out (by omega) _ ((FW.seq' fB).seq' g1)
      · rw [hok] at hck
        have HK2 : Hid (∀ (i : Nat) s, rs[i]? = some s → i < k + 1 → rok s = true) := fun i s hs hi => by
          rcases Nat.lt_or_ge i k with h | h
          · exact HK.out i s hs h
          · have : i = k := by omega
            subst this; rw [HR.out] at hs; cases hs; exact hok
        clear hok HK
        go_wp2_with fail
        refine (hck _).mono ?_
        rintro e w1 ⟨rfl, g1⟩
        have HF1 : Hid (Fr (fun _ => False) V w1) := (HF.out.seq' fB).seq' g1
        clear g1
        go_wp2
        go_roundw
        case rel => exact ⟨k + 1, by omega, by go_num, HK2, HF1⟩
        case measure => simp [intOf]; omega
    · have hki : decide ((k : Int) < (n : Int)) = false := decide_eq_false (by omega)
      have HALL : Hid (∀ r ∈ rs, rok r = true) := fun r hr => by
        obtain ⟨i, hi, he⟩ := List.getElem_of_mem hr
        exact HK.out i r (by rw [List.getElem?_eq_getElem hi, he]) (by have := HN.out; omega)
      have HE : Hid (lkE ls me ml rs = if ml < 0 then 90 else if (0 < ml ∧ hasB ls me ml = false) ∨ allB me ml rs = false then 200 else 0) := lkE_good HALL.out
      obtain ⟨x0, x1, _⟩ := (HT.out _ HF.out).cells
      clear HK
      by_cases h0 : ml < 0
      · have d0 : decide (ml < 0) = true := decide_eq_true h0
        have HE2 : Hid (lkE ls me ml rs = 90) := by show _ = _; rw [HE.out, if_pos h0]
        clear HE
        go_wp2
        refine bodyPost_ret (v := .tuple #[.int .i64 0, .bool false, .int .i64 90]) (by simp [results, Try.results11, go_sem]) rfl ?_
        exact END.out 90 HE2.out (by omega) _ FW
      · have d0 : decide (ml < 0) = false := decide_eq_false h0
        have hft := HFT.out HALL.out (by omega) _ FW
        by_cases hfit : (ml = 0 ∨ hasB ls me ml = true) ∧ allB me ml rs = true
        · rw [decide_eq_true hfit] at hft
          have HE2 : Hid (lkE ls me ml rs = 0) := by
            show _ = _
            rw [HE.out, if_neg h0, if_neg]
            rintro (h | h)
            · rcases hfit.1 with h1 | h1
              · omega
              · rw [h1] at h; cases h.2
            · rw [hfit.2] at h; cases h
          have HTOT : Hid (takeR ls me ml rs = tkR ls ml false rs) := by show _ = _; rw [HTK.out, if_pos HE2.out]
          obtain ⟨A0, A1⟩ := HA0.out HE2.out
          have HA : Hid (Ahd ls me ml) := A0
          have HFI : Hid (fits me ml rs) := A1
          generalize takeR ls me ml rs = t at *
          clear HE HE2 hfit h0 END HTK HFT A0 A1 HA0
          go_wp2_with fail
          refine hft.mono ?_
          rintro e w1 ⟨rfl, g1⟩
          have HF1 : Hid (Fr (fun _ => False) w w1) := FW.seq' g1
          clear x0 x1
          obtain ⟨x0, x1, _⟩ := (HT.out _ (HF.out.seq' g1)).cells
          clear hft g1 HF FW hlt hki
          rename World => W9
          go_wp2
          go_loopw [41, 11, 12] (fun i cv lv wr => ∃ (k : Nat) (ls' : List Rec) (last : Int) (cut : Bool) (rv' : Value) (e l : Int), k ≤ n ∧ i = .int .i64 k ∧ cv = .bool cut ∧ lv = .int .i64 last ∧ Hid (t = tkR ls' last cut (rs.drop k)) ∧ Hid (Wl ls') ∧ Hid (Rlg wr lb rv' ls' 0) ∧ Hid (Ow w rv rv') ∧ Hid (Fr (lgS lb rv) w wr) ∧ Hid (Ahd ls' e l) ∧ Hid (fits e l (rs.drop k))) (fun i _ _ _ => n - (intOf i).toNat)
          case atStart => exact ⟨0, ls, ml, false, rv, me, ml, by omega, rfl, rfl, rfl, HTOT, HWL, HL.out.same HF1.out, (fun _ e => .inl e), HF1.out.widen (fun _ e => e.elim), HA, HFI⟩
          case round =>
            obtain ⟨k, ls', last, cut, rv', e, l, hk, rfl, rfl, rfl, H1, H2, H3, H4, H5, H6, H7⟩ := hrel
            by_cases hlt : k < n
            · obtain ⟨r, hr⟩ : ∃ r, rs[k]? = some r := ⟨_, List.getElem?_eq_getElem (by have := HN.out; omega)⟩
              obtain ⟨b, off, rfl, hb, hc⟩ := (HS.out _ H5.out).some (by have := HN.out; omega)
              obtain ⟨q0, q1, q2, q3, q4, q5, q6, q7⟩ := rec_range (hc k r hr)
              have hki : (k : Int) < (n : Int) := by omega
              have hrok := HALL.out r (List.mem_of_getElem? hr)
              have hrr := rok_lsn hrok
              obtain ⟨hfr, hfn⟩ := fits_next hr H7.out
              obtain ⟨one1, one2⟩ := one_ahd H2.out H6.out hrok hfr
              have HNX : Hid (t = if oneE ls' r = 0 then tkR (oneL ls' r) r.lsn (cut || oneC ls' r) (rs.drop (k + 1)) else (oneL ls' r, 0, false, oneE ls' r)) := by show _ = _; rw [H1.out]; exact tkR_next hr
              have HO1 : Hid (oneE ls' r = 0 ∨ oneE ls' r = 5) := one1
              have HO2 : Hid (oneE ls' r = 0 → Ahd (oneL ls' r) r.ep r.lsn) := one2
              have HFN : Hid (fits r.ep r.lsn (rs.drop (k + 1))) := hfn
              have HWN : Hid (Wl (oneL ls' r)) := one_wl H2.out r
              have fB := Fr.box wr (.cells #[.int .i64 r.lsn, .int .i64 r.ep, .int .i64 r.kind, .int .i64 r.page, .int .i64 r.other, .int .i64 r.req, .string r.key, .string r.val] 64)
              obtain ⟨⟨d0, d1, d2, d3, d4, d5, d6, d7⟩, _⟩ := rec_cells (heap_alloc_new wr (.cells #[.int .i64 r.lsn, .int .i64 r.ep, .int .i64 r.kind, .int .i64 r.page, .int .i64 r.other, .int .i64 r.req, .string r.key, .string r.val] 64))
              have hget := rget_lg r.lsn lb rv' ls' 0 _ (H3.out.same fB) H2.out.big
              obtain ⟨p1, p2, p3⟩ := has_parts (ls := ls') hrr.1
              have HP1 : Hid _ := p1
              have HP2 : Hid _ := p2
              have HP3 : Hid _ := p3
              generalize gtR ls' r.lsn = gr at *
              generalize gtE ls' r.lsn = ge at *
              have HB1 : Hid (∀ W, Fr (fun _ => False) (wr.alloc (.cells #[.int .i64 r.lsn, .int .i64 r.ep, .int .i64 r.kind, .int .i64 r.page, .int .i64 r.other, .int .i64 r.req, .string r.key, .string r.val] 64)) W → W.heap[wr.heap.size]? = some (.cells #[.int .i64 r.lsn, .int .i64 r.ep, .int .i64 r.kind, .int .i64 r.page, .int .i64 r.other, .int .i64 r.req, .string r.key, .string r.val] 64 (0, 0))) := fun W f => rec_at wr _ _ f
              have HOL : Hid (∀ k, lgS lb rv' k → k < wr.heap.size) := fun k e => by
                rcases e with e | e
                · rw [e]; exact lt_of_block H3.out.box
                · exact H3.out.has.lt e
              clear hc hr one1 one2 hfn hfr p1 p2 p3 H1 H6 H7 hrok
              go_wp2_with fail
              refine hget.mono ?_
              rintro e2 w2 ⟨rfl, g2⟩
              have fC := Fr.box w2 (.cells #[.int .i64 gr.lsn, .int .i64 gr.ep, .int .i64 gr.kind, .int .i64 gr.page, .int .i64 gr.other, .int .i64 gr.req, .string gr.key, .string gr.val] 64)
              have G2 := (fB.seq' g2).seq' fC
              have HG2 : Hid (Fr (fun _ => False) wr (w2.alloc (.cells #[.int .i64 gr.lsn, .int .i64 gr.ep, .int .i64 gr.kind, .int .i64 gr.page, .int .i64 gr.other, .int .i64 gr.req, .string gr.key, .string gr.val] 64))) := G2
              have HRb := HB1.out _ (g2.seq' fC)
              obtain ⟨⟨e0, e1, e2', e3, e4, e5, e6, e7⟩, _⟩ := rec_cells (heap_alloc_new w2 (.cells #[.int .i64 gr.lsn, .int .i64 gr.ep, .int .i64 gr.kind, .int .i64 gr.page, .int .i64 gr.other, .int .i64 gr.req, .string gr.key, .string gr.val] 64))
              clear d0 d1 d2 d3 d4 d5 d6 d7
              obtain ⟨⟨d0, d1, d2, d3, d4, d5, d6, d7⟩, _⟩ := rec_cells HRb
              have R2 := H3.out.same G2
              have HR2 : Hid (Rlg (w2.alloc (.cells #[.int .i64 gr.lsn, .int .i64 gr.ep, .int .i64 gr.kind, .int .i64 gr.page, .int .i64 gr.other, .int .i64 gr.req, .string gr.key, .string gr.val] 64)) lb rv' ls' 0) := R2
              have HF2 : Hid (Fr (lgS lb rv) w (w2.alloc (.cells #[.int .i64 gr.lsn, .int .i64 gr.ep, .int .i64 gr.kind, .int .i64 gr.page, .int .i64 gr.other, .int .i64 gr.req, .string gr.key, .string gr.val] 64))) := H5.out.trans G2 (fun _ _ e => e.elim)
              clear g2 fC G2 R2 fB hget
              cases hb : hasB ls' r.ep r.lsn
              · by_cases hcut : r.lsn ≤ ls'.length
                · obtain ⟨k1, k2⟩ := HP2.out hb hcut
                  have hE : oneE ls' r = apE (ls'.take (r.lsn - 1).toNat) r := by unfold oneE; rw [hb, if_neg (by simp), if_pos hcut]
                  have hL : oneL ls' r = apL (ls'.take (r.lsn - 1).toNat) r := by unfold oneL; rw [hb, if_neg (by simp), if_pos hcut]
                  have hC : oneC ls' r = true := by unfold oneC; rw [hb]; exact decide_eq_true hcut
                  obtain ⟨m, hm'⟩ : ∃ m : Nat, r.lsn = (m : Int) + 1 := ⟨(r.lsn - 1).toNat, by omega⟩
                  have hmt : (r.lsn - 1).toNat = m := by omega
                  have hw1 : IntKind.i64.wrap (r.lsn - 1) = (m : Int) := by rw [hm']; simp [IntKind.wrap, IntKind.bits, IntKind.signed]; omega
                  rw [hmt] at hE hL
                  rw [hE] at HNX HO1 HO2
                  rw [hL] at HNX HO2 HWN
                  rw [hC] at HNX
                  have hcu := rcut_yes m lb rv' ls' 0 _ HR2.out H2.out (by omega) 0 (by omega)
                  have HWT : Hid (Wl (ls'.take m)) := wl_take H2.out m
                  have HAP : Hid (∀ W rv1, Rlg W lb rv1 (ls'.take m) 0 → Calls Try.prog 29 #[.pointer (some ⟨lb, 0, none⟩), (.agg #[.int .i64 r.lsn, .int .i64 r.ep, .int .i64 r.kind, .int .i64 r.page, .int .i64 r.other, .int .i64 r.req, .string r.key, .string r.val])] W fun e w' => e = .returned (.tuple #[.int .i64 (apN (ls'.take m) r), .int .i64 (apE (ls'.take m) r)]) ∧ RgTo W lb rv1 (apL (ls'.take m) r) w') := fun W rv1 hl => (rappend_lg r lb rv1 (ls'.take m) 0 W hl HWT.out).mono (fun e w' h => ⟨h.1, rg_of h.2⟩)
                  generalize apN (ls'.take m) r = an at *
                  generalize apE (ls'.take m) r = ae at *
                  generalize apL (ls'.take m) r = al at *
                  clear hb hcut hE hL hC hm' hmt HP1 HP2 HP3
                  go_wp2_with fail
                  refine hcu.mono ?_
                  rintro e3' w3 ⟨rfl, rv1, r1, f3, o1⟩
                  have hz3 := HG2.out.size
                  have hbx3 := (f3.block wr.heap.size (by have := (Array.getElem?_eq_some_iff.1 HRb).1; omega) (fun e => by have := HOL.out lb (.inl rfl); omega)).trans HRb
                  have F3 : Fr (lgS lb rv) w w3 := HF2.out.trans f3 (fun i hi e => .inl e)
                  have hzw := H5.out.size
                  have o3 : Ow w rv rv1 := fun g e => .inr (by have := o1 g e; omega)
                  clear d0 d1 d2 d3 d4 d5 d6 d7
                  obtain ⟨⟨d0, d1, d2, d3, d4, d5, d6, d7⟩, _⟩ := rec_cells hbx3
                  have hap := HAP.out _ _ r1
                  have HF3 : Hid (Fr (lgS lb rv) w w3) := F3
                  have HO3 : Hid (Ow w rv rv1) := o3
                  clear f3 o1 F3 o3 r1 hbx3 HAP e0 e1 e2' e3 e4 e5 e6 e7
                  go_wp2_with fail
                  refine hap.mono ?_
                  rintro e4 w4 ⟨rfl, hto⟩
                  obtain ⟨rv2, r2, F4, o4⟩ := RgTo.then HF3.out HO3.out hto
                  have HR4 : Hid (Rlg w4 lb rv2 al 0) := r2
                  have HF4 : Hid (Fr (lgS lb rv) w w4) := F4
                  have HO4 : Hid (Ow w rv rv2) := o4
                  clear hto r2 F4 o4 hap
                  by_cases hz : ae = 0
                  · subst hz
                    have HT4 : Hid (t = tkR al r.lsn true (rs.drop (k + 1))) := by show _ = _; rw [HNX.out, if_pos rfl, Bool.or_true]
                    have HA4 : Hid (Ahd al r.ep r.lsn) := HO2.out rfl
                    clear HNX HO1 HO2
                    go_wp2
                    go_roundw
                    case rel => exact ⟨k + 1, al, r.lsn, true, rv2, r.ep, r.lsn, by omega, by go_num, rfl, rfl, HT4, HWN, HR4, HO4, HF4, HA4, HFN⟩
                    case measure => simp [intOf]; omega
                  · have hz' : (ae != 0) = true := by simpa using hz
                    have HT4 : Hid (t = (al, 0, false, 5)) := by
                      show _ = _
                      rw [HNX.out, if_neg hz]
                      rcases HO1.out with h | h
                      · exact absurd h hz
                      · rw [h]
                    clear HNX HO1 HO2 hz
                    go_wp2
                    refine bodyPost_ret (v := .tuple #[.int .i64 0, .bool false, .int .i64 5]) (by simp [results, Try.results11, go_sem]) rfl ?_
                    rw [HT4.out]
                    exact ⟨rfl, rv2, HR4.out, HF4.out, HO4.out⟩
                · have k1 := HP3.out (by omega)
                  have hE : oneE ls' r = apE ls' r := by unfold oneE; rw [hb, if_neg (by simp), if_neg hcut]
                  have hL : oneL ls' r = apL ls' r := by unfold oneL; rw [hb, if_neg (by simp), if_neg hcut]
                  have hC : oneC ls' r = false := by unfold oneC; rw [hb]; exact decide_eq_false hcut
                  rw [hE] at HNX HO1 HO2
                  rw [hL] at HNX HO2 HWN
                  rw [hC] at HNX
                  have hap : Calls Try.prog 29 #[.pointer (some ⟨lb, 0, none⟩), (.agg #[.int .i64 r.lsn, .int .i64 r.ep, .int .i64 r.kind, .int .i64 r.page, .int .i64 r.other, .int .i64 r.req, .string r.key, .string r.val])] (w2.alloc (.cells #[.int .i64 gr.lsn, .int .i64 gr.ep, .int .i64 gr.kind, .int .i64 gr.page, .int .i64 gr.other, .int .i64 gr.req, .string gr.key, .string gr.val] 64)) fun e w' => e = .returned (.tuple #[.int .i64 (apN ls' r), .int .i64 (apE ls' r)]) ∧ RgTo (w2.alloc (.cells #[.int .i64 gr.lsn, .int .i64 gr.ep, .int .i64 gr.kind, .int .i64 gr.page, .int .i64 gr.other, .int .i64 gr.req, .string gr.key, .string gr.val] 64)) lb rv' (apL ls' r) w' := (rappend_lg r lb rv' ls' 0 _ HR2.out H2.out).mono (fun e w' h => ⟨h.1, rg_of h.2⟩)
                  generalize apN ls' r = an at *
                  generalize apE ls' r = ae at *
                  generalize apL ls' r = al at *
                  clear hb hcut hE hL hC HP1 HP2 HP3
                  go_wp2_with fail
                  refine hap.mono ?_
                  rintro e4 w4 ⟨rfl, hto⟩
                  obtain ⟨rv2, r2, F4, o4⟩ := RgTo.then HF2.out H4.out hto
                  have HR4 : Hid (Rlg w4 lb rv2 al 0) := r2
                  have HF4 : Hid (Fr (lgS lb rv) w w4) := F4
                  have HO4 : Hid (Ow w rv rv2) := o4
                  clear hto r2 F4 o4 hap
                  by_cases hz : ae = 0
                  · subst hz
                    have HT4 : Hid (t = tkR al r.lsn cut (rs.drop (k + 1))) := by show _ = _; rw [HNX.out, if_pos rfl, Bool.or_false]
                    have HA4 : Hid (Ahd al r.ep r.lsn) := HO2.out rfl
                    clear HNX HO1 HO2
                    go_wp2
                    go_roundw
                    case rel => exact ⟨k + 1, al, r.lsn, cut, rv2, r.ep, r.lsn, by omega, by go_num, rfl, rfl, HT4, HWN, HR4, HO4, HF4, HA4, HFN⟩
                    case measure => simp [intOf]; omega
                  · have hz' : (ae != 0) = true := by simpa using hz
                    have HT4 : Hid (t = (al, 0, false, 5)) := by
                      show _ = _
                      rw [HNX.out, if_neg hz]
                      rcases HO1.out with h | h
                      · exact absurd h hz
                      · rw [h]
                    clear HNX HO1 HO2 hz
                    go_wp2
                    refine bodyPost_ret (v := .tuple #[.int .i64 0, .bool false, .int .i64 5]) (by simp [results, Try.results11, go_sem]) rfl ?_
                    rw [HT4.out]
                    exact ⟨rfl, rv2, HR4.out, HF4.out, HO4.out⟩
              · obtain ⟨k1, k2⟩ := HP1.out hb
                have hE : oneE ls' r = 0 := by unfold oneE; rw [hb]; rfl
                have hL : oneL ls' r = ls' := by unfold oneL; rw [hb]; rfl
                have hC : oneC ls' r = false := by unfold oneC; rw [hb]; rfl
                have HT4 : Hid (t = tkR ls' r.lsn cut (rs.drop (k + 1))) := by show _ = _; rw [HNX.out, hE, hL, hC, if_pos rfl, Bool.or_false]
                have HA4 : Hid (Ahd ls' r.ep r.lsn) := by have := HO2.out hE; rw [hL] at this; exact this
                clear HNX HO1 HO2 hE hL hC HP1 HP2 HP3 hb HWN
                go_wp2
                go_roundw
                case rel => exact ⟨k + 1, ls', r.lsn, cut, rv', r.ep, r.lsn, by omega, by go_num, rfl, rfl, HT4, H2, HR2, H4, HF2, HA4, HFN⟩
                case measure => simp [intOf]; omega
            · have HR : Hid (t = (ls', last, cut, 0)) := by
                show _ = _
                rw [H1.out, List.drop_of_length_le (by have := HN.out; omega)]; rfl
              have HEND : Hid (RgTo w lb rv ls' wr) := ⟨rv', H3.out, H5.out, H4.out⟩
              clear H1 H2 H3 H4 H5 H6 H7
              go_wp2
              refine bodyPost_ret (v := .tuple #[.int .i64 last, .bool cut, .int .i64 0]) (by simp [results, Try.results11, go_sem]) rfl ?_
              rw [HR.out]
              exact ⟨rfl, HEND.out⟩
        · rw [decide_eq_false hfit] at hft
          have HE2 : Hid (lkE ls me ml rs = 200) := by
            show _ = _
            rw [HE.out, if_neg h0, if_pos]
            by_cases hb : allB me ml rs = true
            · refine .inl ?_
              have h1 : ¬ (ml = 0 ∨ hasB ls me ml = true) := fun e => hfit ⟨e, hb⟩
              refine ⟨by have : ml ≠ 0 := fun e => h1 (.inl e); omega, ?_⟩
              cases hh : hasB ls me ml
              · rfl
              · exact absurd (.inr hh) h1
            · exact .inr (by simpa using hb)
          clear HE hfit
          go_wp2_with fail
          refine hft.mono ?_
          rintro e w1 ⟨rfl, g1⟩
          go_wp2
          refine bodyPost_ret (v := .tuple #[.int .i64 0, .bool false, .int .i64 200]) (by simp [results, Try.results11, go_sem]) rfl ?_
          exact END.out 200 HE2.out (by omega) _ (FW.seq' g1)
end Go.Proofs.Ytnhmickolfbldaa
