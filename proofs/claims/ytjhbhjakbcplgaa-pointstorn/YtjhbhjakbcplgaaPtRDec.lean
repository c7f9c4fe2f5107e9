
/- What the document's Decode tells of any bytes. -/
import Derived.Test.YtjhbhjakbcplgaaPtDec2
namespace Go.Proofs.Ytjhbhjakbcplgaa
open Go.RowKit Crcm

theorem openD (m : List Nat) (h : m.length = 28) : opened m = if val (m.drop 24) = crc (m.take 24) then (m.take 24, 0) else ([], 20) := by
  unfold opened; rw [if_neg (by omega), h]
theorem near_trans {a b c : Option Addr} (h : Near a b) (k : Near b c) : Near a c := fun b' o sp e => by obtain ⟨o2, s2, h2⟩ := k b' o sp e; exact h b' o2 s2 h2

set_option maxRecDepth 100000 in
set_option maxHeartbeats 4000000 in
theorem rdecode_any (a : Option Addr) (n cap : Nat) (l : List Nat) (hn : n = l.length) (w : World) (hr : Row w a cap l) :
    Calls Try.prog 14 #[.slice a n cap] w fun e w' => e = .returned (.tuple #[.agg #[.int .i64 (decP l).1.num, .int .i64 (decP l).1.lsn, .int .i64 (decP l).1.redo], .int .i64 (decP l).2]) ∧ Fr (fun _ => False) w w' := by
  have hle := hr.le
  have hmx := hr.max
  obtain ⟨W0, hW0⟩ : ∃ W0, W0 = w.alloc (.cells #[.int .i64 0, .int .i64 0, .int .i64 0] 40) := ⟨_, rfl⟩
  have f0 : Fr (fun _ => False) w W0 := by rw [hW0]; exact Fr.box w _
  obtain ⟨z, hz⟩ : ∃ z, z = w.heap.size := ⟨_, rfl⟩
  have t0 : Tri W0 z 40 0 0 0 := by rw [hW0, hz]; exact heap_alloc_new w _
  have hr1 := hr.same f0
  have HZ : Hid (z < W0.heap.size) := by show _ < _; rw [hW0, hz]; simp
  have HW : Hid (w.alloc (.cells #[.int .i64 0, .int .i64 0, .int .i64 0] 40) = W0) := hW0.symm
  have HZ' : Hid (w.heap.size = z) := hz.symm
  have FW : Hid (∀ W, Fr (fun i => i = z) W0 W → Fr (fun _ => False) w W) := fun W f => by
    have f2 : Fr (fun i => i = z) w W := (f0.mono (fun i _ f => f.elim) : Fr (fun i => i = z) w W0).trans f (fun i _ e => e)
    exact f2.mono (fun i hi e => by omega)
  subst hn
  clear hW0 hz f0 hr
  by_cases h28 : l.length < 28
  · have hd : decP l = (⟨0, 0, 0⟩, 10) := by unfold decP; rw [if_pos h28]
    rw [hd]
    clear hd hr1
    have h1 : (l.length : Int) < 28 := by omega
    obtain ⟨d0, d1, d2, k0, k1, k2⟩ := t0.cells
    go_enter Try.func14, Try.ntmps14
    go_upto_region 1 with fail
    rw [HW.out, HZ'.out]
    go_wp2
    obtain ⟨tf, ff⟩ := t0.fin (0) (0) (0)
    have fff := FW.out _ (ff)
    generalize (((W0.setCell ⟨z, 0, none⟩ (.int .i64 (0))).setCell ⟨z, 1, none⟩ (.int .i64 (0))).setCell ⟨z, 2, none⟩ (.int .i64 (0))) = Wf at tf fff ⊢
    obtain ⟨q0, q1, q2, _, _, _⟩ := tf.cells
    exact bodyPost_ret (v := .tuple #[.agg #[.int .i64 (0), .int .i64 (0), .int .i64 (0)], .int .i64 10]) (by simp [results, Try.results14, go_sem, q0, q1, q2]) rfl ⟨rfl, fff⟩
  · have h1 : ¬ (l.length : Int) < 28 := by omega
    have h2 : (28 : Int) ≤ (cap : Int) := by omega
    have r2 := hr1.take 28
    have HL : Hid ((l.take 28).length = 28) := by show _ = _; rw [List.length_take]; omega
    by_cases hg : val ((l.take 28).drop 24) = crc ((l.take 28).take 24)
    · rw [decP_ok h28 hg]
      have HG := hg
      have r24 := r2.take 24
      obtain ⟨b, off, rfl, hb, _⟩ : ∃ b off, a = some ⟨b, off, none⟩ ∧ b < W0.heap.size ∧ True := by
        rcases hr1.at_ with h | ⟨b, off, h, hb, _⟩
        · rw [h] at h28; simp at h28
        · exact ⟨b, off, h, hb, trivial⟩
      obtain ⟨m, hm⟩ : ∃ m, m = l.take 28 := ⟨_, rfl⟩
      rw [← hm] at r2 HL HG r24 ⊢
      have HO : Hid (opened m = (m.take 24, 0)) := by show _ = _; rw [openD m HL.out, if_pos HG]
      clear hm HG hg h28 hr1
      have HT : Hid ((m.take 24).length = 24) := by show _ = _; rw [List.length_take, HL.out]; rfl
      obtain ⟨q, hq⟩ : ∃ q, q = m.take 24 := ⟨_, rfl⟩
      rw [← hq] at HT HO r24 ⊢
      clear hq
      have hpt : ptOf q = if (pnums q).2.2 = 0 ∧ ptB (pnums q).1 = true then ((pnums q).1, 0) else (⟨0, 0, 0⟩, 4) := by
        unfold ptOf
        by_cases h : (pnums q).2.2 = 0 ∧ ptB (pnums q).1 = true
        · rw [if_pos h, if_pos ⟨(end24 HT.out).2 h.1, h.2⟩]
        · rw [if_neg h, if_neg (fun k => h ⟨(end24 HT.out).1 k.1, k.2⟩)]
      have hrd := pnums_redo q
      obtain ⟨s1, hs1⟩ : ∃ s, s = numS (q, 0) 8 := ⟨_, rfl⟩
      obtain ⟨s2, hs2⟩ : ∃ s, s = numS s1.2.2 8 := ⟨_, rfl⟩
      obtain ⟨s3, hs3⟩ : ∃ s, s = numS s2.2.2 8 := ⟨_, rfl⟩
      have hp : pnums q = (⟨s1.1, s2.1, s3.1⟩, s3.2.2) := by rw [hs3, hs2, hs1]; rfl
      obtain ⟨pt, hpt0⟩ : ∃ q', q' = ptOf q := ⟨_, rfl⟩
      rw [hp] at hpt hrd
      rw [← hpt0] at hpt ⊢
      have H1 : Hid (numS (q, 0) 8 = s1) := hs1.symm
      have H2 : Hid (numS s1.2.2 8 = s2) := hs2.symm
      have H3 : Hid (numS s2.2.2 8 = s3) := hs3.symm
      obtain ⟨x1, e1, r1⟩ := s1
      obtain ⟨x2, e2, rs2⟩ := s2
      obtain ⟨x3, e3, r3⟩ := s3
      have HRD : Hid (x3 < 9223372036854775808) := hrd
      have HPT : Hid (pt = if r3.2 = 0 ∧ ptB ⟨x1, x2, x3⟩ = true then (⟨x1, x2, x3⟩, 0) else (⟨0, 0, 0⟩, 4)) := hpt
      have HB : Hid (b < W0.heap.size) := hb
      clear hpt hpt0 hp hs1 hs2 hs3 hrd hb
      have h3 : (24 : Int) ≤ (cap : Int) := by omega
      go_enter Try.func14, Try.ntmps14
      go_upto_region 1 with fail
      rw [HW.out, HZ'.out]
      go_wp2_with fail
      refine (refOpen_all _ 28 cap m HL.out.symm _ r2).mono ?_
      rw [HO.out]
      rintro e w1 ⟨ax, cx, rfl, _, f1⟩
      have t1 := t0.fr f1 (fun f => f)
      have r25 := r24.same f1
      clear r24 r2 t0
      go_wp2_with fail
      obtain ⟨rb, hrb⟩ : ∃ rb, rb = w1.heap.size := ⟨_, rfl⟩
      obtain ⟨W1, hW1⟩ : ∃ W1, W1 = w1.alloc (.cells #[.slice (some ⟨b, off, none⟩) 24 cap, .int .i64 0] 72) := ⟨_, rfl⟩
      have fb1 : Fr (fun _ => False) w1 W1 := by rw [hW1]; exact Fr.box w1 _
      have rf1 : Rf W1 rb (some ⟨b, off, none⟩) cap q 0 := ⟨by rw [hW1, hrb, HT.out]; exact heap_alloc_new w1 _, r25.same fb1, .inr (fun b' o s e => by simp at e; have := HB.out; have := f1.size; omega)⟩
      have NE : Hid (rb ≠ z ∧ b ≠ rb ∧ W0.heap.size ≤ rb) := by have := HB.out; have := f1.size; have := HZ.out; exact ⟨by omega, by omega, by omega⟩
      have t2 := t1.fr fb1 (fun f => f)
      have F1 : Hid (Fr (fun i => i = rb) W0 W1) := (f1.seq' fb1).mono (fun i _ f => f.elim)
      rw [← hW1, ← hrb]
      clear hW1 hrb fb1 f1 t1 r25
      refine (fnum_all 8 rb _ cap (q, 0) _ rf1).mono ?_
      rw [H1.out]
      rintro e w2 ⟨rfl, a2, c2, rf2, f2, n2⟩
      have t3 := t2.fr f2 (fun e => NE.out.1 e.symm)
      have F2 : Hid (Fr (fun i => i = rb) W0 w2) := F1.out.trans f2 (fun i _ e => e)
      clear F1 f2 t2 rf1
      go_wp2_with fail
      refine (fnum_all 8 rb _ c2 r1 _ rf2).mono ?_
      rw [H2.out]
      rintro e w3 ⟨rfl, a3, c3, rf3, f3, n3⟩
      have t4 := t3.fr f3 (fun e => NE.out.1 e.symm)
      have F3 : Hid (Fr (fun i => i = rb) W0 w3) := F2.out.trans f3 (fun i _ e => e)
      clear F2 f3 t3 rf2
      go_wp2_with fail
      refine (fnum_all 8 rb _ c3 rs2 _ rf3).mono ?_
      rw [H3.out]
      rintro e w4 ⟨rfl, a4, c4, rf4, f4, n4⟩
      have t5 := t4.fr f4 (fun e => NE.out.1 e.symm)
      have F4 : Hid (Fr (fun i => i = rb) W0 w4) := F3.out.trans f4 (fun i _ e => e)
      clear F3 f4 t4 rf3 n2 n3 n4
      obtain ⟨y0, y1, _, _⟩ := cell_of_two rf4.box
      have HBX := lt_of_block rf4.box
      have hz4 := lt_of_block t5
      obtain ⟨r3l, ee⟩ := r3
      obtain ⟨qq, hqq⟩ : ∃ qq, qq = w4.heap.size := ⟨_, rfl⟩
      obtain ⟨W4, hW4⟩ : ∃ W4, W4 = w4.alloc (.cells #[.int .i64 x1, .int .i64 x2, .int .i64 x3] 40) := ⟨_, rfl⟩
      have fb4 : Fr (fun _ => False) w4 W4 := by rw [hW4]; exact Fr.box w4 _
      have tq : Tri W4 qq 40 x1 x2 x3 := by rw [hW4, hqq]; exact heap_alloc_new w4 _
      have t6 := t5.fr fb4 (fun f => f)
      have bx : W4.heap[rb]? = some (.cells #[.slice a4 r3l.length c4, .int .i64 ee] 72 (0, 0)) := by rw [fb4.block rb HBX (fun f => f)]; exact rf4.box
      obtain ⟨u0, u1, _, _⟩ := cell_of_two bx
      have HW4 : Hid (w4.alloc (.cells #[.int .i64 x1, .int .i64 x2, .int .i64 x3] 40) = W4) := hW4.symm
      have HQ4 : Hid (w4.heap.size = qq) := hqq.symm
      have FW4 : Hid (∀ W, Fr (fun i => i = z) W4 W → Fr (fun i => i = z) W0 W) := fun W f => by
        have f1 : Fr (fun i => i = z ∨ i = rb) W0 w4 := F4.out.mono (fun i _ e => .inr e)
        have f2 := (f1.trans fb4 (fun i _ f => f.elim)).trans f (fun i _ e => .inl e)
        exact f2.mono (fun i hi e => by have := NE.out; rcases e with e | e <;> omega)
      clear hW4 hqq fb4 t5 y0 y1 rf4 HBX hz4 F4 bx
      go_upto_region 11 with fail
      rw [HW4.out, HQ4.out]
      obtain ⟨c0, c1, c2', _, _, _⟩ := tq.cells
      obtain ⟨d0, d1, d2, k0, k1, k2⟩ := t6.cells
      by_cases he : ee = 0
      · subst he
        obtain ⟨bb, hbb⟩ : ∃ bb, ptB ⟨x1, x2, x3⟩ = bb := ⟨_, rfl⟩
        have HBB : Hid (ptB ⟨x1, x2, x3⟩ = bb) := hbb
        rw [hbb] at HPT
        clear hbb
        cases bb with
        | true =>
          have ept : pt = (⟨x1, x2, x3⟩, 0) := by rw [HPT.out]; simp
          clear HPT
          subst ept
          go_wp2_with fail
          refine (rRight_any ⟨x1, x2, x3⟩ HRD.out _).mono ?_
          rw [HBB.out]
          rintro e w7 ⟨rfl, h7⟩
          have f7 : Fr (fun _ => False) W4 w7 := by rw [h7]; exact Fr.box W4 _
          clear h7
          have tq7 := tq.fr f7 (fun f => f)
          have tz7 := t6.fr f7 (fun f => f)
          clear c0 c1 c2' d0 d1 d2 k0 k1 k2
          obtain ⟨c0, c1, c2', _, _, _⟩ := tq7.cells
          obtain ⟨d0, d1, d2, k0, k1, k2⟩ := tz7.cells
          go_wp2
          obtain ⟨tf, ff⟩ := tz7.fin (x1) (x2) (x3)
          have fff := FW.out _ (FW4.out _ ((f7.mono (fun i _ f => f.elim) : Fr (fun i => i = z) W4 w7).trans ff (fun i _ e => e)))
          generalize (((w7.setCell ⟨z, 0, none⟩ (.int .i64 (x1))).setCell ⟨z, 1, none⟩ (.int .i64 (x2))).setCell ⟨z, 2, none⟩ (.int .i64 (x3))) = Wf at tf fff ⊢
          obtain ⟨q0, q1, q2, _, _, _⟩ := tf.cells
          exact bodyPost_ret (v := .tuple #[.agg #[.int .i64 (x1), .int .i64 (x2), .int .i64 (x3)], .int .i64 0]) (by simp [results, Try.results14, go_sem, q0, q1, q2]) rfl ⟨rfl, fff⟩
        | false =>
          have ept : pt = (⟨0, 0, 0⟩, 4) := by rw [HPT.out]; simp
          clear HPT
          subst ept
          go_wp2_with fail
          refine (rRight_any ⟨x1, x2, x3⟩ HRD.out _).mono ?_
          rw [HBB.out]
          rintro e w7 ⟨rfl, h7⟩
          have f7 : Fr (fun _ => False) W4 w7 := by rw [h7]; exact Fr.box W4 _
          clear h7
          have tq7 := tq.fr f7 (fun f => f)
          have tz7 := t6.fr f7 (fun f => f)
          clear c0 c1 c2' d0 d1 d2 k0 k1 k2
          obtain ⟨c0, c1, c2', _, _, _⟩ := tq7.cells
          obtain ⟨d0, d1, d2, k0, k1, k2⟩ := tz7.cells
          go_wp2
          obtain ⟨tf, ff⟩ := tz7.fin (0) (0) (0)
          have fff := FW.out _ (FW4.out _ ((f7.mono (fun i _ f => f.elim) : Fr (fun i => i = z) W4 w7).trans ff (fun i _ e => e)))
          generalize (((w7.setCell ⟨z, 0, none⟩ (.int .i64 (0))).setCell ⟨z, 1, none⟩ (.int .i64 (0))).setCell ⟨z, 2, none⟩ (.int .i64 (0))) = Wf at tf fff ⊢
          obtain ⟨q0, q1, q2, _, _, _⟩ := tf.cells
          exact bodyPost_ret (v := .tuple #[.agg #[.int .i64 (0), .int .i64 (0), .int .i64 (0)], .int .i64 4]) (by simp [results, Try.results14, go_sem, q0, q1, q2]) rfl ⟨rfl, fff⟩
      · have ept : pt = (⟨0, 0, 0⟩, 4) := by rw [HPT.out]; simp [he]
        have hne : (ee != 0) = true := by simpa using he
        clear HPT he
        subst ept
        go_wp2
        obtain ⟨tf, ff⟩ := t6.fin (0) (0) (0)
        have fff := FW.out _ (FW4.out _ ff)
        generalize (((W4.setCell ⟨z, 0, none⟩ (.int .i64 (0))).setCell ⟨z, 1, none⟩ (.int .i64 (0))).setCell ⟨z, 2, none⟩ (.int .i64 (0))) = Wf at tf fff ⊢
        obtain ⟨q0, q1, q2, _, _, _⟩ := tf.cells
        exact bodyPost_ret (v := .tuple #[.agg #[.int .i64 (0), .int .i64 (0), .int .i64 (0)], .int .i64 4]) (by simp [results, Try.results14, go_sem, q0, q1, q2]) rfl ⟨rfl, fff⟩
    · rw [decP_sum h28 hg]
      have HG := hg
      obtain ⟨m, hm⟩ : ∃ m, m = l.take 28 := ⟨_, rfl⟩
      rw [← hm] at r2 HL HG
      have HO : Hid (opened m = ([], 20)) := by show _ = _; rw [openD m HL.out, if_neg HG]
      clear hm HG hg h28 hr1
      go_enter Try.func14, Try.ntmps14
      go_upto_region 1 with fail
      rw [HW.out, HZ'.out]
      go_wp2_with fail
      refine (refOpen_all a 28 cap m HL.out.symm _ r2).mono ?_
      rw [HO.out]
      rintro e w1 ⟨ax, cx, rfl, _, f1⟩
      have t1 := t0.fr f1 (fun f => f)
      have F1 : Hid (∀ W, Fr (fun i => i = z) w1 W → Fr (fun i => i = z) W0 W) := fun W f => (f1.mono (fun i _ f => f.elim) : Fr (fun i => i = z) W0 w1).trans f (fun i _ e => e)
      clear t0 r2 f1
      obtain ⟨d0, d1, d2, k0, k1, k2⟩ := t1.cells
      go_wp2
      obtain ⟨tf, ff⟩ := t1.fin (0) (0) (0)
      have fff := FW.out _ (F1.out _ ff)
      generalize (((w1.setCell ⟨z, 0, none⟩ (.int .i64 (0))).setCell ⟨z, 1, none⟩ (.int .i64 (0))).setCell ⟨z, 2, none⟩ (.int .i64 (0))) = Wf at tf fff ⊢
      obtain ⟨q0, q1, q2, _, _, _⟩ := tf.cells
      exact bodyPost_ret (v := .tuple #[.agg #[.int .i64 (0), .int .i64 (0), .int .i64 (0)], .int .i64 20]) (by simp [results, Try.results14, go_sem, q0, q1, q2]) rfl ⟨rfl, fff⟩
end Go.Proofs.Ytjhbhjakbcplgaa
