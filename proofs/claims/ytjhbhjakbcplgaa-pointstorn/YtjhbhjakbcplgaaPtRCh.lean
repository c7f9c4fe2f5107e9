
/- What the document's Choose tells of two slots. -/
import Derived.Test.YtjhbhjakbcplgaaPtRDec
import Derived.Test.YtjhbhjakbcplgaaPtCh
namespace Go.Proofs.Ytjhbhjakbcplgaa
open Go.RowKit Crcm

theorem ptOf_num (l : List Nat) : ((ptOf l).2 = 0 ∧ 1 ≤ (ptOf l).1.num ∧ (ptOf l).1.num ≤ 1099511627776 ∧ ptB (ptOf l).1 = true) ∨ ((ptOf l).2 ≠ 0 ∧ (ptOf l).1 = ⟨0, 0, 0⟩) := by
  unfold ptOf
  split
  · rename_i h
    have := (ptB_iff _).1 h.2
    exact .inl ⟨rfl, this.num0, this.num1, h.2⟩
  · exact .inr ⟨by decide, rfl⟩
theorem decP_num (l : List Nat) : ((decP l).2 = 0 ∧ 1 ≤ (decP l).1.num ∧ (decP l).1.num ≤ 1099511627776 ∧ ptB (decP l).1 = true) ∨ ((decP l).2 ≠ 0 ∧ (decP l).1 = ⟨0, 0, 0⟩) := by
  unfold decP
  split
  · exact .inr ⟨by decide, rfl⟩
  · split
    · exact ptOf_num _
    · exact .inr ⟨by decide, rfl⟩
/-- What the document's Choose tells. -/
def rchs (d f : Pn × Int) : Pn × Int × Int := if d.2 ≠ 0 ∧ f.2 ≠ 0 then (⟨0, 0, 0⟩, 0, 6) else if d.2 = 0 ∧ (f.2 ≠ 0 ∨ f.1.num ≤ d.1.num) then (d.1, 0, 0) else (f.1, 1, 0)
theorem chStep_yes {c d : Pn × Int} {i : Int} (h1 : d.2 = 0) (h2 : c.1.num < d.1.num) : chStep c d i = (d.1, i) := if_pos ⟨h1, h2⟩
theorem chStep_no {c d : Pn × Int} {i : Int} (h : ¬ (d.2 = 0 ∧ c.1.num < d.1.num)) : chStep c d i = c := if_neg h
theorem chs_eq (la lb : List Nat) : chs la lb = rchs (decP la) (decP lb) := by
  have ha := decP_num la
  have hb := decP_num lb
  have hs : stA la lb 2 = chStep (chStep (⟨0, 0, 0⟩, 0) (decP la) 0) (decP lb) 1 := rfl
  unfold chs
  rw [hs]
  clear hs
  obtain ⟨d, hd⟩ : ∃ d, d = decP la := ⟨_, rfl⟩
  obtain ⟨f, hf⟩ : ∃ f, f = decP lb := ⟨_, rfl⟩
  rw [← hd] at ha ⊢
  rw [← hf] at hb ⊢
  clear hd hf
  obtain ⟨⟨d1, d2, d3⟩, de⟩ := d
  obtain ⟨⟨f1, f2, f3⟩, fe⟩ := f
  simp only at ha hb
  unfold rchs
  rcases ha with ⟨rfl, ha1, _⟩ | ⟨ha, hae⟩
  · rw [chStep_yes (c := (⟨0, 0, 0⟩, 0)) rfl (by simp only; omega)]
    rcases hb with ⟨rfl, hb1, _⟩ | ⟨hb, hbe⟩
    · by_cases h : d1 < f1
      · rw [chStep_yes rfl h]
        rw [if_neg (by simp only; omega), if_neg (by simp), if_neg (by simp; omega)]
      · rw [chStep_no (fun k => h k.2)]
        rw [if_neg (by simp only; omega), if_neg (by simp), if_pos ⟨rfl, .inr (by simp only; omega)⟩]
    · rw [chStep_no (fun k => hb k.1)]
      rw [if_neg (by simp only; omega), if_neg (by simp), if_pos ⟨rfl, .inl hb⟩]
  · rw [chStep_no (c := (⟨0, 0, 0⟩, 0)) (fun k => ha k.1)]
    rcases hb with ⟨rfl, hb1, _⟩ | ⟨hb, hbe⟩
    · rw [chStep_yes rfl (by simp only; omega)]
      rw [if_neg (by simp only; omega), if_neg (by simp), if_neg (fun k => ha k.1)]
    · rw [chStep_no (fun k => hb k.1)]
      rw [if_pos rfl, if_pos ⟨ha, hb⟩]
theorem chs_range (la lb : List Nat) : ((chs la lb).2.2 = 0 ∧ 1 ≤ (chs la lb).1.num ∧ (chs la lb).1.num ≤ 1099511627776 ∧ ptB (chs la lb).1 = true ∧ ((chs la lb).2.1 = 0 ∧ decP la = ((chs la lb).1, 0) ∨ (chs la lb).2.1 = 1 ∧ decP lb = ((chs la lb).1, 0))) ∨ ((chs la lb).2.2 = 6 ∧ (chs la lb).1 = ⟨0, 0, 0⟩ ∧ (chs la lb).2.1 = 0) := by
  have ha := decP_num la
  have hb := decP_num lb
  rw [chs_eq]
  unfold rchs
  split
  · exact .inr ⟨rfl, rfl, rfl⟩
  · rename_i hn
    split
    · rename_i h
      rcases ha with ⟨h1, h2, h3, h4⟩ | ⟨h1, _⟩
      · exact .inl ⟨rfl, h2, h3, h4, .inl ⟨rfl, by rw [← h1]⟩⟩
      · exact absurd h.1 h1
    · rename_i h
      rcases hb with ⟨h1, h2, h3, h4⟩ | ⟨h1, _⟩
      · exact .inl ⟨rfl, h2, h3, h4, .inr ⟨rfl, by rw [← h1]⟩⟩
      · exfalso
        by_cases h0 : (decP la).2 = 0
        · exact h ⟨h0, .inl h1⟩
        · exact hn ⟨h0, h1⟩

set_option maxRecDepth 100000 in
set_option maxHeartbeats 4000000 in
theorem rchoose_any (a b : Option Addr) (na nb ca cb : Nat) (la lb : List Nat) (hna : na = la.length) (hnb : nb = lb.length) (w : World) (hra : Row w a ca la) (hrb : Row w b cb lb) :
    Calls Try.prog 17 #[.slice a na ca, .slice b nb cb] w fun e w' => e = .returned (.tuple #[.agg #[.int .i64 (chs la lb).1.num, .int .i64 (chs la lb).1.lsn, .int .i64 (chs la lb).1.redo], .int .i64 (chs la lb).2.1, .int .i64 (chs la lb).2.2]) ∧ Fr (fun _ => False) w w' := by
  rw [chs_eq]
  obtain ⟨W0, hW0⟩ : ∃ W0, W0 = w.alloc (.cells #[.int .i64 0, .int .i64 0, .int .i64 0] 40) := ⟨_, rfl⟩
  have f0 : Fr (fun _ => False) w W0 := by rw [hW0]; exact Fr.box w _
  obtain ⟨z, hz⟩ : ∃ z, z = w.heap.size := ⟨_, rfl⟩
  have tz : Tri W0 z 40 0 0 0 := by rw [hW0, hz]; exact heap_alloc_new w _
  have HZL : Hid (w.heap.size ≤ z) := by show _ ≤ _; omega
  have HW : Hid (w.alloc (.cells #[.int .i64 0, .int .i64 0, .int .i64 0] 40) = W0) := hW0.symm
  have HZ' : Hid (w.heap.size = z) := hz.symm
  obtain ⟨⟨⟨d1, d2, d3⟩, de⟩, hd⟩ : ∃ d, d = decP la := ⟨_, rfl⟩
  obtain ⟨⟨⟨f1, f2, f3⟩, fe⟩, hf⟩ : ∃ d, d = decP lb := ⟨_, rfl⟩
  rw [← hd, ← hf]
  have HD : Hid (decP la = (⟨d1, d2, d3⟩, de)) := hd.symm
  have HE : Hid (decP lb = (⟨f1, f2, f3⟩, fe)) := hf.symm
  have ra := hra.same f0
  have HRB : Hid (Row w b cb lb) := hrb
  subst hna hnb
  obtain ⟨r, hr⟩ : ∃ r, r = rchs (⟨d1, d2, d3⟩, de) (⟨f1, f2, f3⟩, fe) := ⟨_, rfl⟩
  have HRS : Hid (r = rchs (⟨d1, d2, d3⟩, de) (⟨f1, f2, f3⟩, fe)) := hr
  rw [← hr]
  have HF0 : Hid (Fr (fun _ => False) w W0) := f0
  clear hW0 hz hra hrb hr hd hf f0
  go_enter Try.func17, Try.ntmps17
  go_upto_region 1 with fail
  rw [HW.out, HZ'.out]
  go_wp2_with fail
  refine (rdecode_any _ _ _ la rfl _ ra).mono ?_
  rw [HD.out]
  rintro e w1 ⟨rfl, g1⟩
  obtain ⟨p, hp⟩ : ∃ qq, qq = w1.heap.size := ⟨_, rfl⟩
  obtain ⟨W1, hW1⟩ : ∃ W1, W1 = w1.alloc (.cells #[.int .i64 d1, .int .i64 d2, .int .i64 d3] 40) := ⟨_, rfl⟩
  have fb : Fr (fun _ => False) w1 W1 := by rw [hW1]; exact Fr.box w1 _
  have tp : Tri W1 p 40 d1 d2 d3 := by rw [hW1, hp]; exact heap_alloc_new w1 _
  have HW1 : Hid (w1.alloc (.cells #[.int .i64 d1, .int .i64 d2, .int .i64 d3] 40) = W1) := hW1.symm
  have HP1 : Hid (w1.heap.size = p) := hp.symm
  have tz1 := (tz.fr g1 (fun f => f)).fr fb (fun f => f)
  have FF : Hid (Fr (fun _ => False) w W1) := HF0.out.seq' (g1.seq' fb)
  clear hW1 hp g1 fb HF0 tz ra
  have rb := HRB.out.same FF.out
  go_upto_region 2 with fail
  rw [HW1.out, HP1.out]
  go_wp2_with fail
  refine (rdecode_any _ _ _ lb rfl _ rb).mono ?_
  rw [HE.out]
  rintro e w2 ⟨rfl, g2⟩
  obtain ⟨q, hq⟩ : ∃ qq, qq = w2.heap.size := ⟨_, rfl⟩
  obtain ⟨W2, hW2⟩ : ∃ W2, W2 = w2.alloc (.cells #[.int .i64 f1, .int .i64 f2, .int .i64 f3] 40) := ⟨_, rfl⟩
  have fb : Fr (fun _ => False) w2 W2 := by rw [hW2]; exact Fr.box w2 _
  have tq : Tri W2 q 40 f1 f2 f3 := by rw [hW2, hq]; exact heap_alloc_new w2 _
  have HW2 : Hid (w2.alloc (.cells #[.int .i64 f1, .int .i64 f2, .int .i64 f3] 40) = W2) := hW2.symm
  have HQ2 : Hid (w2.heap.size = q) := hq.symm
  have tz2 := (tz1.fr g2 (fun f => f)).fr fb (fun f => f)
  have tp2 := (tp.fr g2 (fun f => f)).fr fb (fun f => f)
  have FF2 : Hid (Fr (fun _ => False) w W2) := FF.out.seq' (g2.seq' fb)
  clear hW2 hq g2 fb FF tz1 tp rb
  go_upto_region 3 with fail
  rw [HW2.out, HQ2.out]
  obtain ⟨x0, x1, x2, _, _, _⟩ := tp2.cells
  obtain ⟨y0, y1, y2, _, _, _⟩ := tq.cells
  obtain ⟨e0, e1, e2, k0, k1, k2⟩ := tz2.cells
  by_cases h1 : de = 0
  · subst h1
    by_cases h2 : fe = 0
    · subst h2
      by_cases h3 : f1 ≤ d1
      · have er : r = (⟨d1, d2, d3⟩, 0, 0) := by rw [HRS.out]; unfold rchs; rw [if_neg (by simp), if_pos ⟨rfl, .inr h3⟩]
        clear HRS
        subst er
        go_wp2
        obtain ⟨tf, ff⟩ := tz2.fin (d1) (d2) (d3)
        have fff : Fr (fun _ => False) w _ := FF2.out.trans ff (fun i hi e => by have := HZL.out; omega)
        generalize (((W2.setCell ⟨z, 0, none⟩ (.int .i64 (d1))).setCell ⟨z, 1, none⟩ (.int .i64 (d2))).setCell ⟨z, 2, none⟩ (.int .i64 (d3))) = Wf at tf fff ⊢
        obtain ⟨q0, q1, q2, _, _, _⟩ := tf.cells
        exact bodyPost_ret (v := .tuple #[.agg #[.int .i64 (d1), .int .i64 (d2), .int .i64 (d3)], .int .i64 0, .int .i64 0]) (by simp [results, Try.results17, go_sem, q0, q1, q2]) rfl ⟨rfl, fff⟩
      · have er : r = (⟨f1, f2, f3⟩, 1, 0) := by rw [HRS.out]; unfold rchs; rw [if_neg (by simp), if_neg (by simpa using h3)]
        clear HRS
        subst er
        go_wp2
        obtain ⟨tf, ff⟩ := tz2.fin (f1) (f2) (f3)
        have fff : Fr (fun _ => False) w _ := FF2.out.trans ff (fun i hi e => by have := HZL.out; omega)
        generalize (((W2.setCell ⟨z, 0, none⟩ (.int .i64 (f1))).setCell ⟨z, 1, none⟩ (.int .i64 (f2))).setCell ⟨z, 2, none⟩ (.int .i64 (f3))) = Wf at tf fff ⊢
        obtain ⟨q0, q1, q2, _, _, _⟩ := tf.cells
        exact bodyPost_ret (v := .tuple #[.agg #[.int .i64 (f1), .int .i64 (f2), .int .i64 (f3)], .int .i64 1, .int .i64 0]) (by simp [results, Try.results17, go_sem, q0, q1, q2]) rfl ⟨rfl, fff⟩
    · have er : r = (⟨d1, d2, d3⟩, 0, 0) := by rw [HRS.out]; unfold rchs; rw [if_neg (by simp), if_pos ⟨rfl, .inl h2⟩]
      have hne : (fe != 0) = true := by simpa using h2
      clear HRS h2
      subst er
      go_wp2
      obtain ⟨tf, ff⟩ := tz2.fin (d1) (d2) (d3)
      have fff : Fr (fun _ => False) w _ := FF2.out.trans ff (fun i hi e => by have := HZL.out; omega)
      generalize (((W2.setCell ⟨z, 0, none⟩ (.int .i64 (d1))).setCell ⟨z, 1, none⟩ (.int .i64 (d2))).setCell ⟨z, 2, none⟩ (.int .i64 (d3))) = Wf at tf fff ⊢
      obtain ⟨q0, q1, q2, _, _, _⟩ := tf.cells
      exact bodyPost_ret (v := .tuple #[.agg #[.int .i64 (d1), .int .i64 (d2), .int .i64 (d3)], .int .i64 0, .int .i64 0]) (by simp [results, Try.results17, go_sem, q0, q1, q2]) rfl ⟨rfl, fff⟩
  · have hne : (de != 0) = true := by simpa using h1
    have heq : (de == 0) = false := by simpa using h1
    by_cases h2 : fe = 0
    · subst h2
      have er : r = (⟨f1, f2, f3⟩, 1, 0) := by rw [HRS.out]; unfold rchs; rw [if_neg (by simp), if_neg (fun k => h1 k.1)]
      clear HRS h1
      subst er
      go_wp2
      obtain ⟨tf, ff⟩ := tz2.fin (f1) (f2) (f3)
      have fff : Fr (fun _ => False) w _ := FF2.out.trans ff (fun i hi e => by have := HZL.out; omega)
      generalize (((W2.setCell ⟨z, 0, none⟩ (.int .i64 (f1))).setCell ⟨z, 1, none⟩ (.int .i64 (f2))).setCell ⟨z, 2, none⟩ (.int .i64 (f3))) = Wf at tf fff ⊢
      obtain ⟨q0, q1, q2, _, _, _⟩ := tf.cells
      exact bodyPost_ret (v := .tuple #[.agg #[.int .i64 (f1), .int .i64 (f2), .int .i64 (f3)], .int .i64 1, .int .i64 0]) (by simp [results, Try.results17, go_sem, q0, q1, q2]) rfl ⟨rfl, fff⟩
    · have er : r = (⟨0, 0, 0⟩, 0, 6) := by rw [HRS.out]; unfold rchs; rw [if_pos ⟨h1, h2⟩]
      have hne2 : (fe != 0) = true := by simpa using h2
      clear HRS h1 h2
      subst er
      go_wp2
      obtain ⟨tf, ff⟩ := tz2.fin (0) (0) (0)
      have fff : Fr (fun _ => False) w _ := FF2.out.trans ff (fun i hi e => by have := HZL.out; omega)
      generalize (((W2.setCell ⟨z, 0, none⟩ (.int .i64 (0))).setCell ⟨z, 1, none⟩ (.int .i64 (0))).setCell ⟨z, 2, none⟩ (.int .i64 (0))) = Wf at tf fff ⊢
      obtain ⟨q0, q1, q2, _, _, _⟩ := tf.cells
      exact bodyPost_ret (v := .tuple #[.agg #[.int .i64 (0), .int .i64 (0), .int .i64 (0)], .int .i64 0, .int .i64 6]) (by simp [results, Try.results17, go_sem, q0, q1, q2]) rfl ⟨rfl, fff⟩
end Go.Proofs.Ytjhbhjakbcplgaa
