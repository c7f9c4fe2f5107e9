
/- What the document's Decode tells of any bytes; a promise's bytes are it. -/
import Derived.Test.YtbfkacahaocpfaaVcDec
import Derived.Test.YtbfkacahaocpfaaVcREnc
namespace Go.Proofs.Ytbfkacahaocpfaa
open Go.RowKit Crcm

theorem openD (m : List Nat) (h : m.length = 13) : opened m = if val (m.drop 9) = crc (m.take 9) then (m.take 9, 0) else ([], 20) := by
  unfold opened; rw [if_neg (by omega), h]
theorem val_one (x : Nat) : val [x] = x := by simp [val]
theorem num8_at (l : List Nat) (h : l.length = 9) : numS (l, 0) 8 = if 9223372036854775808 ≤ val (l.take 8) then (0, 1, (l, 1)) else ((val (l.take 8) : Int), 0, (l.drop 8, 0)) := by
  unfold numS
  rw [if_neg (by simp), if_neg (by simp), if_neg (by simp; omega)]
  rfl
theorem prOf_eq (l : List Nat) (h : l.length = 9) (ho : octs l) : prOf l = if (numS (l, 0) 8).2.1 = 0 ∧ rgtB (numS (l, 0) 8).1 (((l.getD 8 0 : Nat) : Int) - 1) = true then (((numS (l, 0) 8).1, ((l.getD 8 0 : Nat) : Int) - 1), 0) else ((0, 0), 4) := by
  unfold prOf
  simp only
  rw [num8_at l h]
  by_cases hv : 9223372036854775808 ≤ val (l.take 8)
  · rw [if_pos hv]
    have e2 : numS (l, 1) 1 = (0, 1, (l, 1)) := by
      unfold numS
      rw [if_neg (by simp), if_pos (by simp)]
    simp only [e2]
    rw [if_neg (by simp [endOf]), if_neg (by simp)]
  · rw [if_neg hv]
    have hd : l.drop 8 = [l.getD 8 0] := by
      rw [List.drop_eq_getElem_cons (by omega), List.drop_eq_nil_of_le (by omega), List.getD_eq_getElem?_getD, List.getElem?_eq_getElem (by omega)]; rfl
    have hb : l.getD 8 0 < 256 := by
      refine ho _ ?_
      rw [List.getD_eq_getElem?_getD, List.getElem?_eq_getElem (by omega)]
      exact List.getElem_mem _
    have e2 : numS (l.drop 8, 0) 1 = ((l.getD 8 0 : Int), 0, ([], 0)) := by
      rw [hd]
      unfold numS
      rw [if_neg (by simp), if_neg (by simp), if_neg (by simp), if_neg (by
        show ¬ 9223372036854775808 ≤ val [l.getD 8 0]
        rw [val_one]; omega)]
      show (((val [l.getD 8 0] : Nat) : Int), (0 : Int), (([] : List Nat), (0 : Int))) = _
      rw [val_one]
    simp only [e2]
    rw [show endOf [] 0 = 0 by rfl]
    simp only [true_and]
theorem take9 {l : List Nat} (_ : ¬ l.length < 13) : ((l.take 13).take 9).getD 8 0 = l.getD 8 0 := by
  rw [List.getD_eq_getElem?_getD, List.getD_eq_getElem?_getD, List.take_take, List.getElem?_take_of_lt (by omega)]
set_option maxRecDepth 100000 in
set_option maxHeartbeats 4000000 in
theorem rdecode_any (a : Option Addr) (n cap : Nat) (l : List Nat) (hn : n = l.length) (w : World) (hr : Row w a cap l) :
    Calls Try.prog 11 #[.slice a n cap] w fun e w' => e = .returned (.tuple #[.agg #[.int .i64 (decV l).1.1, .int .i64 (decV l).1.2], .int .i64 (decV l).2]) ∧ Fr (fun _ => False) w w' := by
  have hle := hr.le
  have hmx := hr.max
  have hoct := hr.byte
  obtain ⟨W0, hW0⟩ : ∃ W0, W0 = w.alloc (.cells #[.int .i64 0, .int .i64 0] 33) := ⟨_, rfl⟩
  have f0 : Fr (fun _ => False) w W0 := by rw [hW0]; exact Fr.box w _
  obtain ⟨z, hz⟩ : ∃ z, z = w.heap.size := ⟨_, rfl⟩
  have t0 := Two.new w 33 (.int .i64 0) (.int .i64 0)
  rw [← hW0, ← hz] at t0
  have hr1 := hr.same f0
  have HZ : Hid (z < W0.heap.size) := by show _ < _; rw [hW0, hz]; simp
  have HW : Hid (w.alloc (.cells #[.int .i64 0, .int .i64 0] 33) = W0) := hW0.symm
  have HZ' : Hid (w.heap.size = z) := hz.symm
  have FW : Hid (∀ W, Fr (fun i => i = z) W0 W → Fr (fun _ => False) w W) := fun W f => by
    have f2 : Fr (fun i => i = z) w W := (f0.mono (fun i _ f => f.elim) : Fr (fun i => i = z) w W0).trans f (fun i _ e => e)
    exact f2.mono (fun i hi e => by omega)
  subst hn
  clear hW0 hz f0 hr
  by_cases h13 : l.length < 13
  · have hd : decV l = ((0, 0), 10) := by unfold decV; rw [if_pos h13]
    rw [hd]
    clear hd hr1
    have h1 : (l.length : Int) < 13 := by omega
    obtain ⟨d0, d1, k0, k1⟩ := t0.cells
    go_enter Try.func11, Try.ntmps11
    go_upto_region 1 with fail
    rw [HW.out, HZ'.out]
    go_wp2
    obtain ⟨tf, ff⟩ := t0.fin (.int .i64 0) (.int .i64 0)
    have fff := FW.out _ (ff)
    generalize ((W0.setCell ⟨z, 0, none⟩ (.int .i64 0)).setCell ⟨z, 1, none⟩ (.int .i64 0)) = Wf at tf fff ⊢
    obtain ⟨q0, q1, _, _⟩ := tf.cells
    exact bodyPost_ret (v := .tuple #[.agg #[.int .i64 0, .int .i64 0], .int .i64 10]) (by simp [results, Try.results11, go_sem, q0, q1]) rfl ⟨rfl, fff⟩
  · have h1 : ¬ (l.length : Int) < 13 := by omega
    have h2 : (13 : Int) ≤ (cap : Int) := by omega
    have h9 : (9 : Int) ≤ (cap : Int) := by omega
    have r2 := hr1.take 13
    have HL : Hid ((l.take 13).length = 13) := by show _ = _; rw [List.length_take]; omega
    by_cases hg : val ((l.take 13).drop 9) = crc ((l.take 13).take 9)
    · rw [decV_ok h13 hg]
      have HG := hg
      have r24 := r2.take 9
      obtain ⟨b, off, rfl, hb, hcell⟩ : ∃ b off, a = some ⟨b, off, none⟩ ∧ b < W0.heap.size ∧ W0.cell? ⟨b, off + 8, none⟩ = some (.int .u8 ((l.getD 8 0 : Nat) : Int)) := by
        rcases hr1.at_ with h | ⟨b, off, h, hb, hc⟩
        · rw [h] at h13; simp at h13
        · exact ⟨b, off, h, hb, hc 8 (by omega)⟩
      have h8 : l.getD 8 0 < 256 := by
        refine hoct _ ?_
        rw [List.getD_eq_getElem?_getD, List.getElem?_eq_getElem (by omega)]
        exact List.getElem_mem _
      have hpe := prOf_eq ((l.take 13).take 9) (by rw [List.length_take, HL.out]; rfl) (octs_take r2.byte 9)
      rw [take9 h13] at hpe
      obtain ⟨g, hgg⟩ : ∃ g, g = l.getD 8 0 := ⟨_, rfl⟩
      rw [← hgg] at hpe hcell h8
      obtain ⟨m, hm⟩ : ∃ m, m = l.take 13 := ⟨_, rfl⟩
      rw [← hm] at r2 HL HG r24 hpe ⊢
      have HO : Hid (opened m = (m.take 9, 0)) := by show _ = _; rw [openD m HL.out, if_pos HG]
      clear hm HG hg h13 hr1 hgg hoct
      have HT : Hid ((m.take 9).length = 9) := by show _ = _; rw [List.length_take, HL.out]; rfl
      obtain ⟨q, hq⟩ : ∃ q, q = m.take 9 := ⟨_, rfl⟩
      rw [← hq] at HT HO r24 hpe ⊢
      clear hq
      obtain ⟨s1, hs1⟩ : ∃ s, s = numS (q, 0) 8 := ⟨_, rfl⟩
      obtain ⟨pt, hpt0⟩ : ∃ q', q' = prOf q := ⟨_, rfl⟩
      rw [← hs1, ← hpt0] at hpe
      rw [← hpt0]
      have H1 : Hid (numS (q, 0) 8 = s1) := hs1.symm
      obtain ⟨x1, ee, r1⟩ := s1
      have HPT : Hid (pt = if ee = 0 ∧ rgtB x1 ((g : Int) - 1) = true then ((x1, (g : Int) - 1), 0) else ((0, 0), 4)) := hpe
      have HB : Hid (b < W0.heap.size) := hb
      clear hpe hpt0 hs1 hb
      have hl1 : (8 : Int) < (l.length : Int) := by omega
      go_enter Try.func11, Try.ntmps11
      go_upto_region 1 with fail
      rw [HW.out, HZ'.out]
      go_wp2_with fail
      refine (refOpen_all _ 13 cap m HL.out.symm _ r2).mono ?_
      rw [HO.out]
      rintro e w1 ⟨ax, cx, rfl, _, f1⟩
      have t1 := t0.fr f1 (fun f => f)
      have r25 := r24.same f1
      have hcell1 := (f1.cell (p := ⟨b, off + 8, none⟩) HB.out (fun f => f)).trans hcell
      clear r24 r2 t0 hcell
      go_wp2_with fail
      obtain ⟨rb, hrb⟩ : ∃ rb, rb = w1.heap.size := ⟨_, rfl⟩
      obtain ⟨W1, hW1⟩ : ∃ W1, W1 = w1.alloc (.cells #[.slice (some ⟨b, off, none⟩) 9 cap, .int .i64 0] 86) := ⟨_, rfl⟩
      have fb1 : Fr (fun _ => False) w1 W1 := by rw [hW1]; exact Fr.box w1 _
      have rf1 : Rf W1 rb (some ⟨b, off, none⟩) cap q 0 := ⟨by rw [hW1, hrb, HT.out]; exact heap_alloc_new w1 _, r25.same fb1, .inr (fun b' o s e => by simp at e; have := HB.out; have := f1.size; omega)⟩
      have NE : Hid (rb ≠ z ∧ b ≠ rb ∧ W0.heap.size ≤ rb) := by have := HB.out; have := f1.size; have := HZ.out; exact ⟨by omega, by omega, by omega⟩
      have t2 := t1.fr fb1 (fun f => f)
      have hcell2 := (fb1.cell (p := ⟨b, off + 8, none⟩) (by have := HB.out; have := f1.size; show b < _; omega) (fun f => f)).trans hcell1
      have hbW1 : b < W1.heap.size := by have := HB.out; have := f1.size; have := fb1.size; omega
      have F1 : Hid (Fr (fun i => i = rb) W0 W1) := (f1.seq' fb1).mono (fun i _ f => f.elim)
      rw [← hW1, ← hrb]
      clear hW1 hrb fb1 f1 t1 r25 hcell1
      refine (fnum_all 8 rb _ cap (q, 0) _ rf1).mono ?_
      rw [H1.out]
      rintro e w4 ⟨rfl, a4, c4, rf4, f4, n4⟩
      have t5 := t2.fr f4 (fun e => NE.out.1 e.symm)
      have F4 : Hid (Fr (fun i => i = rb) W0 w4) := F1.out.trans f4 (fun i _ e => e)
      have hcell4 := (f4.cell (p := ⟨b, off + 8, none⟩) hbW1 (fun e => NE.out.2.1 e)).trans hcell2
      clear F1 f4 t2 rf1 n4 hcell2 hbW1
      obtain ⟨qq, hqq⟩ : ∃ qq, qq = w4.heap.size := ⟨_, rfl⟩
      obtain ⟨W4, hW4⟩ : ∃ W4, W4 = w4.alloc (.cells #[.int .i64 x1, .int .i64 ((g : Int) - 1)] 33) := ⟨_, rfl⟩
      have fb4 : Fr (fun _ => False) w4 W4 := by rw [hW4]; exact Fr.box w4 _
      have tq := Two.new w4 33 (.int .i64 x1) (.int .i64 ((g : Int) - 1))
      rw [← hW4, ← hqq] at tq
      have t6 := t5.fr fb4 (fun f => f)
      have HW4 : Hid (w4.alloc (.cells #[.int .i64 x1, .int .i64 ((g : Int) - 1)] 33) = W4) := hW4.symm
      have HQ4 : Hid (w4.heap.size = qq) := hqq.symm
      have FW4 : Hid (∀ W, Fr (fun i => i = z) W4 W → Fr (fun i => i = z) W0 W) := fun W f => by
        have f1 : Fr (fun i => i = z ∨ i = rb) W0 w4 := F4.out.mono (fun i _ e => .inr e)
        have f2 := (f1.trans fb4 (fun i _ f => f.elim)).trans f (fun i _ e => .inl e)
        exact f2.mono (fun i hi e => by have := NE.out; rcases e with e | e <;> omega)
      clear hW4 hqq fb4 t5 rf4 F4
      go_upto_region 9 with fail
      rw [HW4.out, HQ4.out]
      clear hcell4
      obtain ⟨c0, c1, _, _⟩ := tq.cells
      obtain ⟨d0, d1, k0, k1⟩ := t6.cells
      by_cases he : ee = 0
      · subst he
        have HRI : Hid (∀ W, Calls Try.prog 16 #[.agg #[.int .i64 x1, .int .i64 ((g : Int) - 1)]] W fun r w' => r = .returned (.bool (rgtB x1 ((g : Int) - 1))) ∧ Fr (fun _ => False) W w') := right_any x1 ((g : Int) - 1)
        cases hbb : rgtB x1 ((g : Int) - 1) with
        | true =>
          rw [hbb] at HPT HRI
          have ept : pt = ((x1, (g : Int) - 1), 0) := by rw [HPT.out]; simp
          clear HPT hbb
          subst ept
          go_wp2_with fail
          refine (HRI.out _).mono ?_
          rintro e w7 ⟨rfl, f7⟩
          have tz7 := t6.fr f7 (fun f => f)
          clear c0 c1 d0 d1 k0 k1
          obtain ⟨c0, c1, _, _⟩ := (tq.fr f7 (fun f => f)).cells
          obtain ⟨d0, d1, k0, k1⟩ := tz7.cells
          go_wp2
          obtain ⟨tf, ff⟩ := tz7.fin (.int .i64 x1) (.int .i64 ((g : Int) - 1))
          have fff := FW.out _ (FW4.out _ ((f7.mono (fun i _ f => f.elim) : Fr (fun i => i = z) W4 w7).trans ff (fun i _ e => e)))
          generalize ((w7.setCell ⟨z, 0, none⟩ (.int .i64 x1)).setCell ⟨z, 1, none⟩ (.int .i64 ((g : Int) - 1))) = Wf at tf fff ⊢
          obtain ⟨q0, q1, _, _⟩ := tf.cells
          exact bodyPost_ret (v := .tuple #[.agg #[.int .i64 x1, .int .i64 ((g : Int) - 1)], .int .i64 0]) (by simp [results, Try.results11, go_sem, q0, q1]) rfl ⟨rfl, fff⟩
        | false =>
          rw [hbb] at HPT HRI
          have ept : pt = ((0, 0), 4) := by rw [HPT.out]; simp
          clear HPT hbb
          subst ept
          go_wp2_with fail
          refine (HRI.out _).mono ?_
          rintro e w7 ⟨rfl, f7⟩
          have tz7 := t6.fr f7 (fun f => f)
          clear c0 c1 d0 d1 k0 k1
          obtain ⟨c0, c1, _, _⟩ := (tq.fr f7 (fun f => f)).cells
          obtain ⟨d0, d1, k0, k1⟩ := tz7.cells
          go_wp2
          obtain ⟨tf, ff⟩ := tz7.fin (.int .i64 0) (.int .i64 0)
          have fff := FW.out _ (FW4.out _ ((f7.mono (fun i _ f => f.elim) : Fr (fun i => i = z) W4 w7).trans ff (fun i _ e => e)))
          generalize ((w7.setCell ⟨z, 0, none⟩ (.int .i64 0)).setCell ⟨z, 1, none⟩ (.int .i64 0)) = Wf at tf fff ⊢
          obtain ⟨q0, q1, _, _⟩ := tf.cells
          exact bodyPost_ret (v := .tuple #[.agg #[.int .i64 0, .int .i64 0], .int .i64 4]) (by simp [results, Try.results11, go_sem, q0, q1]) rfl ⟨rfl, fff⟩
      · have ept : pt = ((0, 0), 4) := by rw [HPT.out]; simp [he]
        have hne : (ee != 0) = true := by simpa using he
        clear HPT he
        subst ept
        go_wp2
        obtain ⟨tf, ff⟩ := t6.fin (.int .i64 0) (.int .i64 0)
        have fff := FW.out _ (FW4.out _ ff)
        generalize ((W4.setCell ⟨z, 0, none⟩ (.int .i64 0)).setCell ⟨z, 1, none⟩ (.int .i64 0)) = Wf at tf fff ⊢
        obtain ⟨q0, q1, _, _⟩ := tf.cells
        exact bodyPost_ret (v := .tuple #[.agg #[.int .i64 0, .int .i64 0], .int .i64 4]) (by simp [results, Try.results11, go_sem, q0, q1]) rfl ⟨rfl, fff⟩
    · rw [decV_sum h13 hg]
      have HG := hg
      obtain ⟨m, hm⟩ : ∃ m, m = l.take 13 := ⟨_, rfl⟩
      rw [← hm] at r2 HL HG
      have HO : Hid (opened m = ([], 20)) := by show _ = _; rw [openD m HL.out, if_neg HG]
      clear hm HG hg h13 hr1
      go_enter Try.func11, Try.ntmps11
      go_upto_region 1 with fail
      rw [HW.out, HZ'.out]
      go_wp2_with fail
      refine (refOpen_all a 13 cap m HL.out.symm _ r2).mono ?_
      rw [HO.out]
      rintro e w1 ⟨ax, cx, rfl, _, f1⟩
      have t1 := t0.fr f1 (fun f => f)
      have F1 : Hid (∀ W, Fr (fun i => i = z) w1 W → Fr (fun i => i = z) W0 W) := fun W f => (f1.mono (fun i _ f => f.elim) : Fr (fun i => i = z) W0 w1).trans f (fun i _ e => e)
      clear t0 r2 f1
      obtain ⟨d0, d1, k0, k1⟩ := t1.cells
      go_wp2
      obtain ⟨tf, ff⟩ := t1.fin (.int .i64 0) (.int .i64 0)
      have fff := FW.out _ (F1.out _ ff)
      generalize ((w1.setCell ⟨z, 0, none⟩ (.int .i64 0)).setCell ⟨z, 1, none⟩ (.int .i64 0)) = Wf at tf fff ⊢
      obtain ⟨q0, q1, _, _⟩ := tf.cells
      exact bodyPost_ret (v := .tuple #[.agg #[.int .i64 0, .int .i64 0], .int .i64 20]) (by simp [results, Try.results11, go_sem, q0, q1]) rfl ⟨rfl, fff⟩
end Go.Proofs.Ytbfkacahaocpfaa
