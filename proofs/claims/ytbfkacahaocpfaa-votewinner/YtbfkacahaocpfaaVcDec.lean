
/- What Decode tells of bytes, in the program. -/
import Derived.Test.YtbfkacahaocpfaaVcEnc
import Derived.Deep.RegionHeld3
import Derived.Deep.DeepCutAuto
namespace Go.Proofs.Ytbfkacahaocpfaa
open Go.RowKit Crcm

theorem Rd.fr {S : Nat → Prop} {w w' : World} {rb cap : Nat} {a : Option Addr} {l : List Nat} {err : Int} (h : Rd w rb a cap l err) (f : Fr S w w') (h1 : ¬ S rb) (h2 : ∀ b off sp, a = some ⟨b, off, sp⟩ → ¬ S b) : Rd w' rb a cap l err :=
  ⟨by rw [f.block rb (lt_of_block h.box) h1]; exact h.box, h.row.fr f h2, h.far⟩
theorem Rf.fr {S : Nat → Prop} {w w' : World} {rb cap : Nat} {a : Option Addr} {l : List Nat} {err : Int} (h : Rf w rb a cap l err) (f : Fr S w w') (h1 : ¬ S rb) (h2 : ∀ b off sp, a = some ⟨b, off, sp⟩ → ¬ S b) : Rf w' rb a cap l err :=
  ⟨by rw [f.block rb (lt_of_block h.box) h1]; exact h.box, h.row.fr f h2, h.far⟩
theorem numS_lt (s : RS) (size : Int) : (numS s size).1 < 9223372036854775808 := by
  unfold numS
  split
  · simp
  · split
    · simp
    · split
      · simp
      · split
        · simp
        · rename_i h; simp only; omega
theorem numS_ge (s : RS) (size : Int) : 0 ≤ (numS s size).1 := by
  unfold numS
  split
  · simp
  · split
    · simp
    · split
      · simp
      · split
        · simp
        · simp only; omega
/-- The promise that nine bytes are, and what is told. -/
def prOf (l : List Nat) : (Int × Int) × Int :=
  let a := numS (l, 0) 8
  let b := numS a.2.2 1
  if endOf b.2.2.1 b.2.2.2 = 0 ∧ rgtB a.1 (b.1 - 1) = true then ((a.1, b.1 - 1), 0) else ((0, 0), 4)
/-- What Decode tells. -/
def decV (l : List Nat) : (Int × Int) × Int :=
  if l.length < 13 then ((0, 0), 10) else if val ((l.take 13).drop 9) = crc ((l.take 13).take 9) then prOf ((l.take 13).take 9) else ((0, 0), 20)
theorem decV_sum {l : List Nat} (h13 : ¬ l.length < 13) (hg : ¬ val ((l.take 13).drop 9) = crc ((l.take 13).take 9)) : decV l = ((0, 0), 20) := by unfold decV; rw [if_neg h13, if_neg hg]
theorem decV_ok {l : List Nat} (h13 : ¬ l.length < 13) (hg : val ((l.take 13).drop 9) = crc ((l.take 13).take 9)) : decV l = prOf ((l.take 13).take 9) := by unfold decV; rw [if_neg h13, if_pos hg]

set_option maxRecDepth 100000 in
set_option maxHeartbeats 4000000 in
theorem promiseOf_any (a : Option Addr) (n cap : Nat) (l : List Nat) (hn : n = l.length) (hl : l.length = 9) (w : World) (hr : Row w a cap l) :
    Calls Try.prog 36 #[.slice a n cap] w fun e w' => e = .returned (.tuple #[.agg #[.int .i64 (prOf l).1.1, .int .i64 (prOf l).1.2], .int .i64 (prOf l).2]) ∧ Fr (fun _ => False) w w' := by
  obtain ⟨pt, hpt0⟩ : ∃ q, q = prOf l := ⟨_, rfl⟩
  have hpt : pt = if endOf (numS (numS (l, 0) 8).2.2 1).2.2.1 (numS (numS (l, 0) 8).2.2 1).2.2.2 = 0 ∧ rgtB (numS (l, 0) 8).1 ((numS (numS (l, 0) 8).2.2 1).1 - 1) = true then (((numS (l, 0) 8).1, (numS (numS (l, 0) 8).2.2 1).1 - 1), 0) else ((0, 0), 4) := hpt0
  rw [← hpt0]
  obtain ⟨s1, hs1⟩ : ∃ s, s = numS (l, 0) 8 := ⟨_, rfl⟩
  rw [← hs1] at hpt
  obtain ⟨s2, hs2⟩ : ∃ s, s = numS s1.2.2 1 := ⟨_, rfl⟩
  rw [← hs2] at hpt
  have H1 : Hid (numS (l, 0) 8 = s1) := hs1.symm
  have H2 : Hid (numS s1.2.2 1 = s2) := hs2.symm
  have b0 : 0 ≤ s2.1 := by rw [hs2]; exact numS_ge _ _
  have b1 : s2.1 < 9223372036854775808 := by rw [hs2]; exact numS_lt _ _
  obtain ⟨x1, e1, r1⟩ := s1
  obtain ⟨x2, e2, r2⟩ := s2
  have HPT : Hid (pt = if endOf r2.1 r2.2 = 0 ∧ rgtB x1 (x2 - 1) = true then ((x1, x2 - 1), 0) else ((0, 0), 4)) := hpt
  simp only at b0 b1
  clear hpt hpt0 hs1 hs2
  subst hn
  have HL : Hid (l.length = 9) := hl
  clear hl
  have hr1 : Row (w.alloc (.cells #[.int .i64 0, .int .i64 0] 23)) a cap l := hr.same (Fr.box w _)
  have t0 := Two.new w 23 (.int .i64 0) (.int .i64 0)
  obtain ⟨W0, hW0⟩ : ∃ W0, W0 = w.alloc (.cells #[.int .i64 0, .int .i64 0] 23) := ⟨_, rfl⟩
  have f0 : Fr (fun _ => False) w W0 := by rw [hW0]; exact Fr.box w _
  obtain ⟨z, hz⟩ : ∃ z, z = w.heap.size := ⟨_, rfl⟩
  have hz1 : z < W0.heap.size := by rw [hW0, hz]; simp
  have HZ : Hid (z = w.heap.size ∧ z < W0.heap.size) := ⟨hz, hz1⟩
  have HW : Hid (w.alloc (.cells #[.int .i64 0, .int .i64 0] 23) = W0) := hW0.symm
  have HZ' : Hid (w.heap.size = z) := hz.symm
  rw [← hW0] at hr1 t0
  rw [← hz] at t0
  clear hW0 hz hz1 hr
  go_enter Try.func36, Try.ntmps36
  go_wp2_with fail
  rw [HW.out, HZ'.out]
  refine (of_any a _ cap l rfl _ hr1).mono ?_
  rintro e w1 ⟨rb, a1, c1, rfl, rd1, f1, hrb, ha1⟩
  have hrbl := lt_of_block rd1.box
  have NE : Hid (z ≠ rb ∧ W0.heap.size ≤ rb) := by
    have h1 := HZ.out.2
    exact ⟨by omega, hrb⟩
  have tz1 := t0.fr f1 (fun f => f)
  have F1 : Hid (Fr (fun i => i = rb) W0 w1) := f1.mono (fun i _ f => f.elim)
  clear ha1 hr1 hrbl hrb f1
  go_wp2_with fail
  refine (rnum_all 8 rb _ c1 (l, 0) _ rd1).mono ?_
  rw [H1.out]
  rintro e w2 ⟨rfl, a2, c2, rd2, f2, n2⟩
  have tz2 := tz1.fr f2 (fun e => NE.out.1 e)
  have F2 : Hid (Fr (fun i => i = rb) W0 w2) := F1.out.trans f2 (fun i _ e => e)
  clear F1 f2 tz1 rd1
  go_wp2_with fail
  refine (rnum_all 1 rb _ c2 r1 _ rd2).mono ?_
  rw [H2.out]
  rintro e w3 ⟨rfl, a3, c3, rd3, f3, n3⟩
  have tz3 := tz2.fr f3 (fun e => NE.out.1 e)
  have F3 : Hid (Fr (fun i => i = rb) W0 w3) := F2.out.trans f3 (fun i _ e => e)
  clear F2 f3 tz2 rd2
  obtain ⟨q, hq⟩ : ∃ q, q = w3.heap.size := ⟨_, rfl⟩
  obtain ⟨W1, hW1⟩ : ∃ W1, W1 = w3.alloc (.cells #[.int .i64 x1, .int .i64 (x2 - 1)] 23) := ⟨_, rfl⟩
  have fb := Fr.box w3 (.cells #[.int .i64 x1, .int .i64 (x2 - 1)] 23)
  have tq := Two.new w3 23 (.int .i64 x1) (.int .i64 (x2 - 1))
  rw [← hW1] at fb tq
  rw [← hq] at tq
  have rd4 := rd3.fr fb (fun f => f) (fun _ _ _ _ f => f)
  have tz4 := tz3.fr fb (fun f => f)
  have F4 : Hid (Fr (fun i => i = rb) W0 W1) := F3.out.trans fb (fun i _ e => e.elim)
  have HW1 : Hid (w3.alloc (.cells #[.int .i64 x1, .int .i64 (x2 - 1)] 23) = W1) := hW1.symm
  have HQ : Hid (w3.heap.size = q) := hq.symm
  clear F3 fb tz3 rd3 hW1 hq n2 n3
  go_wp2_with fail
  rw [HW1.out, HQ.out]
  refine (end_any rb _ c3 r2.1 r2.2 _ rd4).mono ?_
  rintro e w6 ⟨rfl, rfl⟩
  obtain ⟨ee, hee⟩ : ∃ ee, ee = endOf r2.1 r2.2 := ⟨_, rfl⟩
  have HPT2 : Hid (pt = if ee = 0 ∧ rgtB x1 (x2 - 1) = true then ((x1, x2 - 1), 0) else ((0, 0), 4)) := by show _ = _; rw [hee]; exact HPT.out
  rw [← hee]
  clear hee HPT H1 H2 rd4
  obtain ⟨c50, c51, g50, g51⟩ := tq.cells
  obtain ⟨d50, d51, k50, k51⟩ := tz4.cells
  have FW : Hid (∀ W, Fr (fun i => i = z) w6 W → Fr (fun _ => False) w W) := fun W f => by
    have f1 : Fr (fun i => i = z ∨ i = rb) w W0 := f0.mono (fun i _ f => f.elim)
    have f2 := (f1.trans F4.out (fun i _ e => .inr e)).trans f (fun i _ e => .inl e)
    have h1 := NE.out; have h2 := HZ.out; have h3 := f0.size
    exact f2.mono (fun i hi e => by rcases e with e | e <;> omega)
  clear F4 f0
  by_cases he : ee = 0
  · subst he
    have HRI : Hid (∀ W, Calls Try.prog 28 #[.agg #[.int .i64 x1, .int .i64 (x2 - 1)]] W fun r w' => r = .returned (.bool (rgtB x1 (x2 - 1))) ∧ Fr (fun _ => False) W w') := isRight_any x1 (x2 - 1)
    cases hbb : rgtB x1 (x2 - 1) with
    | true =>
      rw [hbb] at HRI HPT2
      have ept : pt = ((x1, x2 - 1), 0) := by rw [HPT2.out]; simp
      clear HPT2 hbb
      subst ept
      go_wp2_with fail
      refine (HRI.out _).mono ?_
      rintro e w7 ⟨rfl, f7⟩
      have tz7 := tz4.fr f7 (fun f => f)
      clear c50 c51 g50 g51 d50 d51 k50 k51
      obtain ⟨c50, c51, g50, g51⟩ := (tq.fr f7 (fun f => f)).cells
      obtain ⟨d50, d51, k50, k51⟩ := tz7.cells
      go_wp2
      obtain ⟨tf, ff⟩ := tz7.fin (.int .i64 x1) (.int .i64 (x2 - 1))
      have fff := FW.out _ ((f7.mono (fun i _ f => f.elim) : Fr (fun i => i = z) w6 w7).trans ff (fun i _ e => e))
      generalize ((w7.setCell ⟨z, 0, none⟩ (.int .i64 x1)).setCell ⟨z, 1, none⟩ (.int .i64 (x2 - 1))) = Wf at tf fff ⊢
      obtain ⟨q0, q1, _, _⟩ := tf.cells
      exact bodyPost_ret (v := .tuple #[.agg #[.int .i64 x1, .int .i64 (x2 - 1)], .int .i64 0]) (by simp [results, Try.results36, go_sem, q0, q1]) rfl ⟨rfl, fff⟩
    | false =>
      rw [hbb] at HRI HPT2
      have ept : pt = ((0, 0), 4) := by rw [HPT2.out]; simp
      clear HPT2 hbb
      subst ept
      go_wp2_with fail
      refine (HRI.out _).mono ?_
      rintro e w7 ⟨rfl, f7⟩
      have tz7 := tz4.fr f7 (fun f => f)
      clear c50 c51 g50 g51 d50 d51 k50 k51
      obtain ⟨c50, c51, g50, g51⟩ := (tq.fr f7 (fun f => f)).cells
      obtain ⟨d50, d51, k50, k51⟩ := tz7.cells
      go_wp2
      obtain ⟨tf, ff⟩ := tz7.fin (.int .i64 0) (.int .i64 0)
      have fff := FW.out _ ((f7.mono (fun i _ f => f.elim) : Fr (fun i => i = z) w6 w7).trans ff (fun i _ e => e))
      generalize ((w7.setCell ⟨z, 0, none⟩ (.int .i64 0)).setCell ⟨z, 1, none⟩ (.int .i64 0)) = Wf at tf fff ⊢
      obtain ⟨q0, q1, _, _⟩ := tf.cells
      exact bodyPost_ret (v := .tuple #[.agg #[.int .i64 0, .int .i64 0], .int .i64 4]) (by simp [results, Try.results36, go_sem, q0, q1]) rfl ⟨rfl, fff⟩
  · have ept : pt = ((0, 0), 4) := by rw [HPT2.out]; simp [he]
    have hne : (ee != 0) = true := by simpa using he
    clear HPT2 he
    subst ept
    go_wp2
    obtain ⟨tf, ff⟩ := tz4.fin (.int .i64 0) (.int .i64 0)
    have fff := FW.out _ ff
    generalize ((w6.setCell ⟨z, 0, none⟩ (.int .i64 0)).setCell ⟨z, 1, none⟩ (.int .i64 0)) = Wf at tf fff ⊢
    obtain ⟨q0, q1, _, _⟩ := tf.cells
    exact bodyPost_ret (v := .tuple #[.agg #[.int .i64 0, .int .i64 0], .int .i64 4]) (by simp [results, Try.results36, go_sem, q0, q1]) rfl ⟨rfl, fff⟩

set_option maxRecDepth 100000 in
set_option maxHeartbeats 2000000 in
theorem decode_any (a : Option Addr) (n cap : Nat) (l : List Nat) (hn : n = l.length) (w : World) (hr : Row w a cap l) :
    Calls Try.prog 10 #[.slice a n cap] w fun e w' => e = .returned (.tuple #[.agg #[.int .i64 (decV l).1.1, .int .i64 (decV l).1.2], .int .i64 (decV l).2]) ∧ Fr (fun _ => False) w w' := by
  have hle := hr.le
  have hmx := hr.max
  obtain ⟨W0, hW0⟩ : ∃ W0, W0 = w.alloc (.cells #[.int .i64 0, .int .i64 0] 23) := ⟨_, rfl⟩
  have f0 : Fr (fun _ => False) w W0 := by rw [hW0]; exact Fr.box w _
  obtain ⟨z, hz⟩ : ∃ z, z = w.heap.size := ⟨_, rfl⟩
  have t0 := Two.new w 23 (.int .i64 0) (.int .i64 0)
  rw [← hW0, ← hz] at t0
  have hr1 := hr.same f0
  have HZ : Hid (z < W0.heap.size) := by show _ < _; rw [hW0, hz]; simp
  have HW : Hid (w.alloc (.cells #[.int .i64 0, .int .i64 0] 23) = W0) := hW0.symm
  have HZ' : Hid (w.heap.size = z) := hz.symm
  have FW : Hid (∀ W, Fr (fun i => i = z) W0 W → Fr (fun _ => False) w W) := fun W f => by
    have f2 : Fr (fun i => i = z) w W := (f0.mono (fun i _ f => f.elim) : Fr (fun i => i = z) w W0).trans f (fun i _ e => e)
    exact f2.mono (fun i hi e => by omega)
  subst hn
  clear hW0 hz f0 hr
  by_cases h13 : l.length < 13
  · have hd : decV l = ((0, 0), 10) := by unfold decV; rw [if_pos h13]
    rw [hd]
    clear hd hr1
    have h1 : (l.length : Int) < 13 := by omega
    obtain ⟨d0, d1, k0, k1⟩ := t0.cells
    go_enter Try.func10, Try.ntmps10
    go_upto_region 1 with fail
    rw [HW.out, HZ'.out]
    go_wp2
    obtain ⟨tf, ff⟩ := t0.fin (.int .i64 0) (.int .i64 0)
    have fff := FW.out _ (ff)
    generalize ((W0.setCell ⟨z, 0, none⟩ (.int .i64 0)).setCell ⟨z, 1, none⟩ (.int .i64 0)) = Wf at tf fff ⊢
    obtain ⟨q0, q1, _, _⟩ := tf.cells
    exact bodyPost_ret (v := .tuple #[.agg #[.int .i64 0, .int .i64 0], .int .i64 10]) (by simp [results, Try.results10, go_sem, q0, q1]) rfl ⟨rfl, fff⟩
  · have h1 : ¬ (l.length : Int) < 13 := by omega
    have h2 : (13 : Int) ≤ (cap : Int) := by omega
    have r2 := hr1.take 13
    have HL : Hid ((l.take 13).length = 13) := by show _ = _; rw [List.length_take]; omega
    by_cases hg : val ((l.take 13).drop 9) = crc ((l.take 13).take 9)
    · rw [decV_ok h13 hg]
      have HG := hg
      obtain ⟨m, hm⟩ : ∃ m, m = l.take 13 := ⟨_, rfl⟩
      rw [← hm] at r2 HL HG ⊢
      have HD : Hid (val (m.drop 9) = crc (m.take 9)) := HG
      clear hm HG hg h13 hr1
      obtain ⟨x, hx⟩ : ∃ x, x = prOf (m.take 9) := ⟨_, rfl⟩
      have HX : Hid (prOf (m.take 9) = x) := hx.symm
      rw [← hx]
      clear hx
      go_enter Try.func10, Try.ntmps10
      go_upto_region 1 with fail
      rw [HW.out, HZ'.out]
      go_wp2_with fail
      refine (open_ok a 13 9 cap m HL.out.symm rfl _ r2 HD.out).mono ?_
      rintro e w1 ⟨v1, rfl, m1⟩
      have HT : Hid ((m.take 9).length = 9) := by show _ = _; rw [List.length_take, HL.out]; rfl
      obtain ⟨a1, c1, rfl, r3⟩ := m1.own.row (octs_take r2.byte 9) (by rw [HT.out]; omega)
      rw [HT.out]
      have t1 := t0.fr m1.fr (fun f => f)
      go_wp2_with fail
      refine (promiseOf_any a1 9 c1 _ HT.out.symm HT.out _ r3).mono ?_
      rw [HX.out]
      rintro e w2 ⟨rfl, f2⟩
      have t2 := t1.fr f2 (fun f => f)
      have F2 : Hid (∀ W, Fr (fun i => i = z) w2 W → Fr (fun i => i = z) W0 W) := fun W f => ((m1.fr.seq' f2).mono (fun i _ f => f.elim) : Fr (fun i => i = z) W0 w2).trans f (fun i _ e => e)
      clear t1 t0 m1 r2 r3 f2
      obtain ⟨d0, d1, k0, k1⟩ := t2.cells
      obtain ⟨⟨x1, x2⟩, xe⟩ := x
      go_wp2
      obtain ⟨tf, ff⟩ := t2.fin (.int .i64 x1) (.int .i64 x2)
      have fff := FW.out _ (F2.out _ ff)
      generalize ((w2.setCell ⟨z, 0, none⟩ (.int .i64 x1)).setCell ⟨z, 1, none⟩ (.int .i64 x2)) = Wf at tf fff ⊢
      obtain ⟨q0, q1, _, _⟩ := tf.cells
      exact bodyPost_ret (v := .tuple #[.agg #[.int .i64 x1, .int .i64 x2], .int .i64 xe]) (by simp [results, Try.results10, go_sem, q0, q1]) rfl ⟨rfl, fff⟩
    · rw [decV_sum h13 hg]
      have HG := hg
      obtain ⟨m, hm⟩ : ∃ m, m = l.take 13 := ⟨_, rfl⟩
      rw [← hm] at r2 HL HG
      have HD : Hid (val (m.drop 9) ≠ crc (m.take 9)) := HG
      clear hm HG hg h13 hr1
      go_enter Try.func10, Try.ntmps10
      go_upto_region 1 with fail
      rw [HW.out, HZ'.out]
      go_wp2_with fail
      refine (open_bad a 13 9 cap m HL.out.symm rfl _ r2 HD.out).mono ?_
      rintro e w1 ⟨rfl, f1⟩
      have t1 := t0.fr f1 (fun f => f)
      have F1 : Hid (∀ W, Fr (fun i => i = z) w1 W → Fr (fun i => i = z) W0 W) := fun W f => (f1.mono (fun i _ f => f.elim) : Fr (fun i => i = z) W0 w1).trans f (fun i _ e => e)
      clear t0 r2 f1
      obtain ⟨d0, d1, k0, k1⟩ := t1.cells
      go_wp2
      obtain ⟨tf, ff⟩ := t1.fin (.int .i64 0) (.int .i64 0)
      have fff := FW.out _ (F1.out _ ff)
      generalize ((w1.setCell ⟨z, 0, none⟩ (.int .i64 0)).setCell ⟨z, 1, none⟩ (.int .i64 0)) = Wf at tf fff ⊢
      obtain ⟨q0, q1, _, _⟩ := tf.cells
      exact bodyPost_ret (v := .tuple #[.agg #[.int .i64 0, .int .i64 0], .int .i64 20]) (by simp [results, Try.results10, go_sem, q0, q1]) rfl ⟨rfl, fff⟩
end Go.Proofs.Ytbfkacahaocpfaa
