
/- What Decode tells of any bytes, in the program and in the document. -/
import Derived.Test.YtjhbhjakbcplgaaPtDec
import Derived.Deep.DeepCutAuto
namespace Go.Proofs.Ytjhbhjakbcplgaa
open Go.RowKit Crcm

theorem numS_lt (s : RS) (size : Int) : (numS s size).1 < 9223372036854775808 := by
  unfold numS
  split
  · simp
  · split
    · simp
    · split
      · simp
      · split
        · simp
        · rename_i h; simp only; omega
theorem pnums_redo (l : List Nat) : (pnums l).1.redo < 9223372036854775808 := numS_lt _ _
theorem num8 {l : List Nat} {e : Int} : (numS (l, e) 8).2.2.2 = 0 → e = 0 ∧ (numS (l, e) 8).2.2.1 = l.drop 8 := by
  unfold numS
  rw [if_neg (by simp)]
  by_cases he : e = 0
  · subst he
    rw [if_neg (by simp)]
    split
    · simp
    · split
      · simp
      · intro _; exact ⟨rfl, rfl⟩
  · rw [if_pos he]; intro h; exact absurd h he
theorem end24 {l : List Nat} (h : l.length = 24) : endOf (pnums l).2.1 (pnums l).2.2 = 0 ↔ (pnums l).2.2 = 0 := by
  constructor
  · intro h; unfold endOf at h; split at h
    · assumption
    · exact absurd h (by assumption)
  · intro h0
    obtain ⟨e1, d1⟩ := num8 (l := (numS (numS (l, 0) 8).2.2 8).2.2.1) (e := (numS (numS (l, 0) 8).2.2 8).2.2.2) h0
    obtain ⟨e2, d2⟩ := num8 (l := (numS (l, 0) 8).2.2.1) (e := (numS (l, 0) 8).2.2.2) e1
    obtain ⟨e3, d3⟩ := num8 (l := l) (e := 0) e2
    have hl : (pnums l).2.1 = l.drop 24 := by
      show (numS (numS (numS (l, 0) 8).2.2 8).2.2 8).2.2.1 = _
      have d1' : (numS (numS (numS (l, 0) 8).2.2 8).2.2 8).2.2.1 = (numS (numS (l, 0) 8).2.2 8).2.2.1.drop 8 := d1
      have d2' : (numS (numS (l, 0) 8).2.2 8).2.2.1 = (numS (l, 0) 8).2.2.1.drop 8 := d2
      rw [d1', d2', d3, List.drop_drop, List.drop_drop]
    unfold endOf
    rw [if_pos h0, hl, if_pos (by simp; omega)]

theorem decP_sum {l : List Nat} (h28 : ¬ l.length < 28) (hg : ¬ val ((l.take 28).drop 24) = crc ((l.take 28).take 24)) : decP l = (⟨0, 0, 0⟩, 20) := by unfold decP; rw [if_neg h28, if_neg hg]
theorem decP_ok {l : List Nat} (h28 : ¬ l.length < 28) (hg : val ((l.take 28).drop 24) = crc ((l.take 28).take 24)) : decP l = ptOf ((l.take 28).take 24) := by unfold decP; rw [if_neg h28, if_pos hg]

set_option maxRecDepth 100000 in
set_option maxHeartbeats 2000000 in
theorem decode_any (a : Option Addr) (n cap : Nat) (l : List Nat) (hn : n = l.length) (w : World) (hr : Row w a cap l) :
    Calls Try.prog 13 #[.slice a n cap] w fun e w' => e = .returned (.tuple #[.agg #[.int .i64 (decP l).1.num, .int .i64 (decP l).1.lsn, .int .i64 (decP l).1.redo], .int .i64 (decP l).2]) ∧ Fr (fun _ => False) w w' := by
  have hle := hr.le
  have hmx := hr.max
  obtain ⟨W0, hW0⟩ : ∃ W0, W0 = w.alloc (.cells #[.int .i64 0, .int .i64 0, .int .i64 0] 34) := ⟨_, rfl⟩
  have f0 : Fr (fun _ => False) w W0 := by rw [hW0]; exact Fr.box w _
  obtain ⟨z, hz⟩ : ∃ z, z = w.heap.size := ⟨_, rfl⟩
  have t0 : Tri W0 z 34 0 0 0 := by rw [hW0, hz]; exact heap_alloc_new w _
  have hr1 := hr.same f0
  have HZ : Hid (z < W0.heap.size) := by show _ < _; rw [hW0, hz]; simp
  have HW : Hid (w.alloc (.cells #[.int .i64 0, .int .i64 0, .int .i64 0] 34) = W0) := hW0.symm
  have HZ' : Hid (w.heap.size = z) := hz.symm
  have FW : Hid (∀ W, Fr (fun i => i = z) W0 W → Fr (fun _ => False) w W) := fun W f => by
    have f2 : Fr (fun i => i = z) w W := (f0.mono (fun i _ f => f.elim) : Fr (fun i => i = z) w W0).trans f (fun i _ e => e)
    exact f2.mono (fun i hi e => by omega)
  subst hn
  clear hW0 hz f0 hr
  by_cases h28 : l.length < 28
  · have hd : decP l = (⟨0, 0, 0⟩, 10) := by unfold decP; rw [if_pos h28]
    rw [hd]
    clear hd hr1
    have h1 : (l.length : Int) < 28 := by omega
    obtain ⟨d0, d1, d2, k0, k1, k2⟩ := t0.cells
    go_enter Try.func13, Try.ntmps13
    go_upto_region 1 with fail
    rw [HW.out, HZ'.out]
    go_wp2
    obtain ⟨tf, ff⟩ := t0.fin (0) (0) (0)
    have fff := FW.out _ (ff)
    generalize (((W0.setCell ⟨z, 0, none⟩ (.int .i64 (0))).setCell ⟨z, 1, none⟩ (.int .i64 (0))).setCell ⟨z, 2, none⟩ (.int .i64 (0))) = Wf at tf fff ⊢
    obtain ⟨q0, q1, q2, _, _, _⟩ := tf.cells
    exact bodyPost_ret (v := .tuple #[.agg #[.int .i64 (0), .int .i64 (0), .int .i64 (0)], .int .i64 10]) (by simp [results, Try.results13, go_sem, q0, q1, q2]) rfl ⟨rfl, fff⟩
  · have h1 : ¬ (l.length : Int) < 28 := by omega
    have h2 : (28 : Int) ≤ (cap : Int) := by omega
    have r2 := hr1.take 28
    have HL : Hid ((l.take 28).length = 28) := by show _ = _; rw [List.length_take]; omega
    by_cases hg : val ((l.take 28).drop 24) = crc ((l.take 28).take 24)
    · rw [decP_ok h28 hg]
      have HG := hg
      obtain ⟨m, hm⟩ : ∃ m, m = l.take 28 := ⟨_, rfl⟩
      rw [← hm] at r2 HL HG ⊢
      have HD : Hid (val (m.drop 24) = crc (m.take 24)) := HG
      clear hm HG hg h28 hr1
      obtain ⟨x, hx⟩ : ∃ x, x = ptOf (m.take 24) := ⟨_, rfl⟩
      have HX : Hid (ptOf (m.take 24) = x) := hx.symm
      rw [← hx]
      clear hx
      go_enter Try.func13, Try.ntmps13
      go_upto_region 1 with fail
      rw [HW.out, HZ'.out]
      go_wp2_with fail
      refine (open_ok a 28 24 cap m HL.out.symm rfl _ r2 HD.out).mono ?_
      rintro e w1 ⟨v1, rfl, m1⟩
      have HT : Hid ((m.take 24).length = 24) := by show _ = _; rw [List.length_take, HL.out]; rfl
      obtain ⟨a1, c1, rfl, r3⟩ := m1.own.row (octs_take r2.byte 24) (by rw [HT.out]; omega)
      rw [HT.out]
      have t1 := t0.fr m1.fr (fun f => f)
      go_wp2_with fail
      refine (pointOf_any a1 24 c1 _ HT.out.symm HT.out _ r3).mono ?_
      rw [HX.out]
      rintro e w2 ⟨rfl, f2⟩
      have t2 := t1.fr f2 (fun f => f)
      have F2 : Hid (∀ W, Fr (fun i => i = z) w2 W → Fr (fun i => i = z) W0 W) := fun W f => ((m1.fr.seq' f2).mono (fun i _ f => f.elim) : Fr (fun i => i = z) W0 w2).trans f (fun i _ e => e)
      clear t1 t0 m1 r2 r3 f2
      obtain ⟨d0, d1, d2, k0, k1, k2⟩ := t2.cells
      obtain ⟨⟨x1, x2, x3⟩, xe⟩ := x
      go_wp2
      obtain ⟨tf, ff⟩ := t2.fin (x1) (x2) (x3)
      have fff := FW.out _ (F2.out _ ff)
      generalize (((w2.setCell ⟨z, 0, none⟩ (.int .i64 (x1))).setCell ⟨z, 1, none⟩ (.int .i64 (x2))).setCell ⟨z, 2, none⟩ (.int .i64 (x3))) = Wf at tf fff ⊢
      obtain ⟨q0, q1, q2, _, _, _⟩ := tf.cells
      exact bodyPost_ret (v := .tuple #[.agg #[.int .i64 (x1), .int .i64 (x2), .int .i64 (x3)], .int .i64 xe]) (by simp [results, Try.results13, go_sem, q0, q1, q2]) rfl ⟨rfl, fff⟩
    · rw [decP_sum h28 hg]
      have HG := hg
      obtain ⟨m, hm⟩ : ∃ m, m = l.take 28 := ⟨_, rfl⟩
      rw [← hm] at r2 HL HG
      have HD : Hid (val (m.drop 24) ≠ crc (m.take 24)) := HG
      clear hm HG hg h28 hr1
      go_enter Try.func13, Try.ntmps13
      go_upto_region 1 with fail
      rw [HW.out, HZ'.out]
      go_wp2_with fail
      refine (open_bad a 28 24 cap m HL.out.symm rfl _ r2 HD.out).mono ?_
      rintro e w1 ⟨rfl, f1⟩
      have t1 := t0.fr f1 (fun f => f)
      have F1 : Hid (∀ W, Fr (fun i => i = z) w1 W → Fr (fun i => i = z) W0 W) := fun W f => (f1.mono (fun i _ f => f.elim) : Fr (fun i => i = z) W0 w1).trans f (fun i _ e => e)
      clear t0 r2 f1
      obtain ⟨d0, d1, d2, k0, k1, k2⟩ := t1.cells
      go_wp2
      obtain ⟨tf, ff⟩ := t1.fin (0) (0) (0)
      have fff := FW.out _ (F1.out _ ff)
      generalize (((w1.setCell ⟨z, 0, none⟩ (.int .i64 (0))).setCell ⟨z, 1, none⟩ (.int .i64 (0))).setCell ⟨z, 2, none⟩ (.int .i64 (0))) = Wf at tf fff ⊢
      obtain ⟨q0, q1, q2, _, _, _⟩ := tf.cells
      exact bodyPost_ret (v := .tuple #[.agg #[.int .i64 (0), .int .i64 (0), .int .i64 (0)], .int .i64 20]) (by simp [results, Try.results13, go_sem, q0, q1, q2]) rfl ⟨rfl, fff⟩
end Go.Proofs.Ytjhbhjakbcplgaa
