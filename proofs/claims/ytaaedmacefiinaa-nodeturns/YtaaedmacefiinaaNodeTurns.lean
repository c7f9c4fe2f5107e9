
/- For every node and every two entries latticelaw07.NodeTurns answers true: two puts of unlike keys, and two deletes, come to the same in any order (7.2); no condition. -/
import Derived.Test.YtaaedmacefiinaaZM1
namespace Go.Proofs.Ytaaedmacefiinaa.nodeTurns
open Go.ChangeShapes Go.WideShapes Go.ChangeAt Go.RowKit
open Go.ChangeMaps (open_string shut_string)
set_option linter.unusedVariables false

theorem own : ownKnob Try.prog.godebug = none := by kernel_rfl
theorem laidOut : laidOutB Try.prog = true := by kernel_rfl
theorem bytes8 : Try.prog.bytesOf 5 = 1 := by kernel_rfl

set_option maxRecDepth 100000 in
set_option maxHeartbeats 8000000 in
theorem walk (w : World) (n : Nd) (p : Pt) (nd0 : Nod w n p) (a v : ByteArray) (za : a.size ≤ 140737488351232) (zv : v.size ≤ 140737488351232) (b u : ByteArray) (zb : b.size ≤ 140737488351232) (zu : u.size ≤ 140737488351232) :
    Calls Try.prog 11 #[(.agg #[.int .i64 n.lev, .int .i64 n.lsn, .int .i64 n.rgt, .string n.high, .slice p.k n.keys.length p.kc, .slice p.v n.vals.length p.vc, .slice p.i n.kids.length p.ic]), .agg #[.string a, .string v], .agg #[.string b, .string u]] w fun e w' => e = .returned (.bool true) ∧ Fr (fun _ => False) w w' := by
  have f0 : Fr (fun _ => False) w (((w.alloc (.cells #[.int .i64 n.lev, .int .i64 n.lsn, .int .i64 n.rgt, .string n.high, .slice p.k n.keys.length p.kc, .slice p.v n.vals.length p.vc, .slice p.i n.kids.length p.ic] 25)).alloc (.cells #[.string a, .string v] 62)).alloc (.cells #[.string b, .string u] 62)) := (((Fr.refl _ _).alloc _).alloc _).alloc _
  have HB : Hid (∀ W, Fr (fun _ => False) (((w.alloc (.cells #[.int .i64 n.lev, .int .i64 n.lsn, .int .i64 n.rgt, .string n.high, .slice p.k n.keys.length p.kc, .slice p.v n.vals.length p.vc, .slice p.i n.kids.length p.ic] 25)).alloc (.cells #[.string a, .string v] 62)).alloc (.cells #[.string b, .string u] 62)) W → (W.cell? ⟨w.heap.size, 0, none⟩ = some (.int .i64 n.lev) ∧ W.cell? ⟨w.heap.size, 1, none⟩ = some (.int .i64 n.lsn) ∧ W.cell? ⟨w.heap.size, 2, none⟩ = some (.int .i64 n.rgt) ∧ W.cell? ⟨w.heap.size, 3, none⟩ = some (.string n.high) ∧ W.cell? ⟨w.heap.size, 4, none⟩ = some (.slice p.k n.keys.length p.kc) ∧ W.cell? ⟨w.heap.size, 5, none⟩ = some (.slice p.v n.vals.length p.vc) ∧ W.cell? ⟨w.heap.size, 6, none⟩ = some (.slice p.i n.kids.length p.ic)) ∧ (W.cell? ⟨w.heap.size + 1, 0, none⟩ = some (.string a) ∧ W.cell? ⟨w.heap.size + 1, 1, none⟩ = some (.string v)) ∧ (W.cell? ⟨w.heap.size + 1 + 1, 0, none⟩ = some (.string b) ∧ W.cell? ⟨w.heap.size + 1 + 1, 1, none⟩ = some (.string u))) := fun W f => by
    have h0 := box_cells (box_at w n p 25 ((((Fr.refl _ _).alloc _).alloc _).seq' f))
    have h1 := heap_alloc_new (w.alloc (.cells #[.int .i64 n.lev, .int .i64 n.lsn, .int .i64 n.rgt, .string n.high, .slice p.k n.keys.length p.kc, .slice p.v n.vals.length p.vc, .slice p.i n.kids.length p.ic] 25)) (.cells #[.string a, .string v] 62)
    rw [show (w.alloc (.cells #[.int .i64 n.lev, .int .i64 n.lsn, .int .i64 n.rgt, .string n.high, .slice p.k n.keys.length p.kc, .slice p.v n.vals.length p.vc, .slice p.i n.kids.length p.ic] 25)).heap.size = w.heap.size + 1 by simp] at h1
    have h1' := (((Fr.refl (fun _ => False) _).alloc _).seq' f).blk h1 (fun f => f)
    have h2 := heap_alloc_new ((w.alloc (.cells #[.int .i64 n.lev, .int .i64 n.lsn, .int .i64 n.rgt, .string n.high, .slice p.k n.keys.length p.kc, .slice p.v n.vals.length p.vc, .slice p.i n.kids.length p.ic] 25)).alloc (.cells #[.string a, .string v] 62)) (.cells #[.string b, .string u] 62)
    rw [show ((w.alloc (.cells #[.int .i64 n.lev, .int .i64 n.lsn, .int .i64 n.rgt, .string n.high, .slice p.k n.keys.length p.kc, .slice p.v n.vals.length p.vc, .slice p.i n.kids.length p.ic] 25)).alloc (.cells #[.string a, .string v] 62)).heap.size = w.heap.size + 1 + 1 by simp] at h2
    have h2' := f.blk h2 (fun f => f)
    refine ⟨?_, ⟨?_, ?_⟩, ⟨?_, ?_⟩⟩
    · obtain ⟨q0, q1, q2, q3, q4, q5, q6⟩ := h0
      exact ⟨q0, q1, q2, q3, q4, q5, q6⟩
    · simp [World.cell?, h1']
    · simp [World.cell?, h1']
    · simp [World.cell?, h2']
    · simp [World.cell?, h2']
  have ha : a.size ≤ maxLen := Nat.le_trans za (by decide)
  have hb : b.size ≤ maxLen := Nat.le_trans zb (by decide)
  have HSB := str_beq a b
  by_cases hab : a = b
  · rw [decide_eq_true (by rw [hab])] at HSB
    clear hab
    go_enter Try.func11, Try.ntmps11
    go_wp2_with fail
    refine (nspeaks_any _).mono ?_
    rintro e w1 ⟨rfl, f1⟩
    go_wp2
    go_ret
    exact ⟨rfl, f0.seq' f1⟩
  rw [decide_eq_false (fun e => hab (bs_inj e))] at HSB
  have g1 := put_any n p a v ha _ (nd0.same f0)
  have g2 := fun W hW => put_any n p b u hb W hW
  have HP1 : Hid (putE n a v = 0 → askE n a (evalu v.size : Nat) 0 1 = 0 ∧ Rt (putN n a v)) := put_ok
  have HP2 : Hid (putE n b u = 0 → askE n b (evalu u.size : Nat) 0 1 = 0 ∧ Rt (putN n b u)) := put_ok
  by_cases he : putE n a v = 0
  case neg =>
    have hneb : (putE n a v != 0) = true := by simpa using he
    generalize okN (putE n a v) (putN n a v) = m1 at *
    generalize putE n a v = e1 at *
    generalize okN (putE n b u) (putN n b u) = m2 at *
    generalize putE n b u = e2 at *
    clear he hab HP1 HP2
    go_enter Try.func11, Try.ntmps11
    go_wp2_with fail
    refine g1.mono ?_
    rintro e w1 ⟨p1, rfl, nd1, f1⟩
    clear g1
    have x1 := Fr.box w1 (.cells #[.int .i64 m1.lev, .int .i64 m1.lsn, .int .i64 m1.rgt, .string m1.high, .slice p1.k m1.keys.length p1.kc, .slice p1.v m1.vals.length p1.vc, .slice p1.i m1.kids.length p1.ic] 25)
    have F1 := f1.seq' x1
    obtain ⟨⟨c0, c1, c2, c3, c4, c5, c6⟩, ⟨ca, cv⟩, ⟨cb, cu⟩⟩ := HB.out _ F1
    go_wp2_with fail
    refine (g2 _ (nd0.same (f0.seq' F1))).mono ?_
    rintro e w2 ⟨p2, rfl, nd2, f2⟩
    go_wp2_with fail
    refine (nspeaks_any _).mono ?_
    rintro e w3 ⟨rfl, f3⟩
    go_wp2
    go_ret
    exact ⟨rfl, ((f0.seq' F1).seq' (f2.alloc _)).seq' f3⟩
  by_cases hf : putE n b u = 0
  case neg =>
    have hneb : (putE n b u != 0) = true := by simpa using hf
    rw [he, okN_ok] at g1
    generalize putN n a v = m1 at *
    generalize okN (putE n b u) (putN n b u) = m2 at *
    generalize putE n b u = e2 at *
    clear hf hab HP1 HP2 he
    go_enter Try.func11, Try.ntmps11
    go_wp2_with fail
    refine g1.mono ?_
    rintro e w1 ⟨p1, rfl, nd1, f1⟩
    clear g1
    have x1 := Fr.box w1 (.cells #[.int .i64 m1.lev, .int .i64 m1.lsn, .int .i64 m1.rgt, .string m1.high, .slice p1.k m1.keys.length p1.kc, .slice p1.v m1.vals.length p1.vc, .slice p1.i m1.kids.length p1.ic] 25)
    have F1 := f1.seq' x1
    obtain ⟨⟨c0, c1, c2, c3, c4, c5, c6⟩, ⟨ca, cv⟩, ⟨cb, cu⟩⟩ := HB.out _ F1
    go_wp2_with fail
    refine (g2 _ (nd0.same (f0.seq' F1))).mono ?_
    rintro e w2 ⟨p2, rfl, nd2, f2⟩
    go_wp2_with fail
    refine (nspeaks_any _).mono ?_
    rintro e w3 ⟨rfl, f3⟩
    go_wp2
    go_ret
    exact ⟨rfl, ((f0.seq' F1).seq' (f2.alloc _)).seq' f3⟩
  obtain ⟨aA, rA⟩ := HP1.out he
  obtain ⟨aB, rB⟩ := HP2.out hf
  have r := (ask_ok aA).1
  have h0 := ask1_leaf aA
  have hlf := r.lf h0
  have hcm : putN (putN n a v) b u = putN (putN n b u) a v := put_put hlf a b v u hab
  have hEq : putE (putN n a v) b u = putE (putN n b u) a v := by
    unfold putE
    rw [ask_same rA r rfl rfl, ask_same rB r rfl rfl, aB, aA, if_pos rfl, if_pos rfl, hcm]
  have dA := ask_v0 aA
  have dB := ask_v0 aB
  have rDA := del_rt r h0 a
  have rDB := del_rt r h0 b
  have dBA : askE (delN n a) b 0 0 1 = 0 := by rw [ask_same rDA r rfl rfl]; exact dB
  have dAB : askE (delN n b) a 0 0 1 = 0 := by rw [ask_same rDB r rfl rfl]; exact dA
  have hdd : delN (delN n a) b = delN (delN n b) a := del_del hlf a b
  rw [he, okN_ok] at g1
  rw [hf, okN_ok] at g2
  have g3 := fun q W hW => put_any (putN n a v) q b u hb W hW
  have g4 := fun q W hW => put_any (putN n b u) q a v ha W hW
  rw [hEq, hcm] at g3
  have g5 := fun W hW => del_any n p a ha W hW
  rw [dA, okN_ok] at g5
  have g6 := fun W hW => del_any n p b hb W hW
  rw [dB, okN_ok] at g6
  have g7 := fun q W hW => del_any (delN n a) q b hb W hW
  rw [dBA, okN_ok, hdd] at g7
  have g8 := fun q W hW => del_any (delN n b) q a ha W hW
  rw [dAB, okN_ok] at g8
  generalize okN (putE (putN n b u) a v) (putN (putN n b u) a v) = x at *
  generalize putE (putN n b u) a v = xe at *
  generalize delN (delN n b) a = s at *
  generalize putN n a v = m1 at *
  generalize putN n b u = m2 at *
  generalize delN n a = da at *
  generalize delN n b = db at *
  clear hdd dAB dBA rDA rDB dA dB hEq hcm hlf h0 r aA aB rA rB HP1 HP2 he hf hab
  go_enter Try.func11, Try.ntmps11
  go_wp2_with fail
  refine g1.mono ?_
  rintro e w1 ⟨p1, rfl, nd1, f1⟩
  clear g1
  have x1 := Fr.box w1 (.cells #[.int .i64 m1.lev, .int .i64 m1.lsn, .int .i64 m1.rgt, .string m1.high, .slice p1.k m1.keys.length p1.kc, .slice p1.v m1.vals.length p1.vc, .slice p1.i m1.kids.length p1.ic] 25)
  have HB1 : Hid (∀ W, Fr (fun _ => False) (w1.alloc (.cells #[.int .i64 m1.lev, .int .i64 m1.lsn, .int .i64 m1.rgt, .string m1.high, .slice p1.k m1.keys.length p1.kc, .slice p1.v m1.vals.length p1.vc, .slice p1.i m1.kids.length p1.ic] 25)) W → W.cell? ⟨w1.heap.size, 0, none⟩ = some (.int .i64 m1.lev) ∧ W.cell? ⟨w1.heap.size, 1, none⟩ = some (.int .i64 m1.lsn) ∧ W.cell? ⟨w1.heap.size, 2, none⟩ = some (.int .i64 m1.rgt) ∧ W.cell? ⟨w1.heap.size, 3, none⟩ = some (.string m1.high) ∧ W.cell? ⟨w1.heap.size, 4, none⟩ = some (.slice p1.k m1.keys.length p1.kc) ∧ W.cell? ⟨w1.heap.size, 5, none⟩ = some (.slice p1.v m1.vals.length p1.vc) ∧ W.cell? ⟨w1.heap.size, 6, none⟩ = some (.slice p1.i m1.kids.length p1.ic)) := fun W f => box_cells (box_at w1 m1 p1 25 f)
  have F1 := f1.seq' x1
  obtain ⟨⟨c0, c1, c2, c3, c4, c5, c6⟩, ⟨ca, cv⟩, ⟨cb, cu⟩⟩ := HB.out _ F1
  go_wp2_with fail
  refine (g2 _ (nd0.same (f0.seq' F1))).mono ?_
  rintro e w2 ⟨p2, rfl, nd2, f2⟩
  clear g2 c0 c1 c2 c3 c4 c5 c6 ca cv cb cu
  have x2 := Fr.box w2 (.cells #[.int .i64 m2.lev, .int .i64 m2.lsn, .int .i64 m2.rgt, .string m2.high, .slice p2.k m2.keys.length p2.kc, .slice p2.v m2.vals.length p2.vc, .slice p2.i m2.kids.length p2.ic] 25)
  have HB2 : Hid (∀ W, Fr (fun _ => False) (w2.alloc (.cells #[.int .i64 m2.lev, .int .i64 m2.lsn, .int .i64 m2.rgt, .string m2.high, .slice p2.k m2.keys.length p2.kc, .slice p2.v m2.vals.length p2.vc, .slice p2.i m2.kids.length p2.ic] 25)) W → W.cell? ⟨w2.heap.size, 0, none⟩ = some (.int .i64 m2.lev) ∧ W.cell? ⟨w2.heap.size, 1, none⟩ = some (.int .i64 m2.lsn) ∧ W.cell? ⟨w2.heap.size, 2, none⟩ = some (.int .i64 m2.rgt) ∧ W.cell? ⟨w2.heap.size, 3, none⟩ = some (.string m2.high) ∧ W.cell? ⟨w2.heap.size, 4, none⟩ = some (.slice p2.k m2.keys.length p2.kc) ∧ W.cell? ⟨w2.heap.size, 5, none⟩ = some (.slice p2.v m2.vals.length p2.vc) ∧ W.cell? ⟨w2.heap.size, 6, none⟩ = some (.slice p2.i m2.kids.length p2.ic)) := fun W f => box_cells (box_at w2 m2 p2 25 f)
  have L2 := f2.seq' x2
  have F2 := F1.seq' L2
  obtain ⟨_, ⟨ca, cv⟩, ⟨cb, cu⟩⟩ := HB.out _ F2
  obtain ⟨d0, d1, d2, d3, d4, d5, d6⟩ := HB1.out _ L2
  go_wp2_with fail
  refine (g3 p1 _ ((nd1.same x1).same L2)).mono ?_
  rintro e w3 ⟨p3, rfl, nd3, f3⟩
  clear g3 d0 d1 d2 d3 d4 d5 d6 ca cv cb cu
  have x3 := Fr.box w3 (.cells #[.int .i64 x.lev, .int .i64 x.lsn, .int .i64 x.rgt, .string x.high, .slice p3.k x.keys.length p3.kc, .slice p3.v x.vals.length p3.vc, .slice p3.i x.kids.length p3.ic] 25)
  have HB3 : Hid (∀ W, Fr (fun _ => False) (w3.alloc (.cells #[.int .i64 x.lev, .int .i64 x.lsn, .int .i64 x.rgt, .string x.high, .slice p3.k x.keys.length p3.kc, .slice p3.v x.vals.length p3.vc, .slice p3.i x.kids.length p3.ic] 25)) W → W.cell? ⟨w3.heap.size, 0, none⟩ = some (.int .i64 x.lev) ∧ W.cell? ⟨w3.heap.size, 1, none⟩ = some (.int .i64 x.lsn) ∧ W.cell? ⟨w3.heap.size, 2, none⟩ = some (.int .i64 x.rgt) ∧ W.cell? ⟨w3.heap.size, 3, none⟩ = some (.string x.high) ∧ W.cell? ⟨w3.heap.size, 4, none⟩ = some (.slice p3.k x.keys.length p3.kc) ∧ W.cell? ⟨w3.heap.size, 5, none⟩ = some (.slice p3.v x.vals.length p3.vc) ∧ W.cell? ⟨w3.heap.size, 6, none⟩ = some (.slice p3.i x.kids.length p3.ic)) := fun W f => box_cells (box_at w3 x p3 25 f)
  have L3 := f3.seq' x3
  have F3 := F2.seq' L3
  obtain ⟨_, ⟨ca, cv⟩, ⟨cb, cu⟩⟩ := HB.out _ F3
  obtain ⟨d0, d1, d2, d3, d4, d5, d6⟩ := HB2.out _ L3
  go_wp2_with fail
  refine (g4 p2 _ ((nd2.same x2).same L3)).mono ?_
  rintro e w4 ⟨p4, rfl, nd4, f4⟩
  clear g4 d0 d1 d2 d3 d4 d5 d6 ca cv cb cu
  have x4 := Fr.box w4 (.cells #[.int .i64 x.lev, .int .i64 x.lsn, .int .i64 x.rgt, .string x.high, .slice p4.k x.keys.length p4.kc, .slice p4.v x.vals.length p4.vc, .slice p4.i x.kids.length p4.ic] 25)
  have L4 := f4.seq' x4
  have F4 := F3.seq' L4
  have hp1 := plain_same x p3 p4 _ ((nd3.same x3).same L4) (nd4.same x4)
  obtain ⟨d0, d1, d2, d3, d4, d5, d6⟩ := HB3.out _ L4
  go_wp2_with fail
  refine hp1.mono ?_
  rintro e w5 ⟨rfl, f5⟩
  clear hp1 d0 d1 d2 d3 d4 d5 d6
  have F5 := F4.seq' f5
  obtain ⟨⟨c0, c1, c2, c3, c4, c5, c6⟩, ⟨ca, cv⟩, ⟨cb, cu⟩⟩ := HB.out _ F5
  go_wp2_with fail
  refine (g5 _ (nd0.same (f0.seq' F5))).mono ?_
  rintro e w6 ⟨p6, rfl, nd6, f6⟩
  clear g5 c0 c1 c2 c3 c4 c5 c6 ca cv cb cu
  have x6 := Fr.box w6 (.cells #[.int .i64 da.lev, .int .i64 da.lsn, .int .i64 da.rgt, .string da.high, .slice p6.k da.keys.length p6.kc, .slice p6.v da.vals.length p6.vc, .slice p6.i da.kids.length p6.ic] 25)
  have HB6 : Hid (∀ W, Fr (fun _ => False) (w6.alloc (.cells #[.int .i64 da.lev, .int .i64 da.lsn, .int .i64 da.rgt, .string da.high, .slice p6.k da.keys.length p6.kc, .slice p6.v da.vals.length p6.vc, .slice p6.i da.kids.length p6.ic] 25)) W → W.cell? ⟨w6.heap.size, 0, none⟩ = some (.int .i64 da.lev) ∧ W.cell? ⟨w6.heap.size, 1, none⟩ = some (.int .i64 da.lsn) ∧ W.cell? ⟨w6.heap.size, 2, none⟩ = some (.int .i64 da.rgt) ∧ W.cell? ⟨w6.heap.size, 3, none⟩ = some (.string da.high) ∧ W.cell? ⟨w6.heap.size, 4, none⟩ = some (.slice p6.k da.keys.length p6.kc) ∧ W.cell? ⟨w6.heap.size, 5, none⟩ = some (.slice p6.v da.vals.length p6.vc) ∧ W.cell? ⟨w6.heap.size, 6, none⟩ = some (.slice p6.i da.kids.length p6.ic)) := fun W f => box_cells (box_at w6 da p6 25 f)
  have F6 := F5.seq' (f6.seq' x6)
  obtain ⟨⟨c0, c1, c2, c3, c4, c5, c6⟩, ⟨ca, cv⟩, ⟨cb, cu⟩⟩ := HB.out _ F6
  go_wp2_with fail
  refine (g6 _ (nd0.same (f0.seq' F6))).mono ?_
  rintro e w7 ⟨p7, rfl, nd7, f7⟩
  clear g6 c0 c1 c2 c3 c4 c5 c6 ca cv cb cu
  have x7 := Fr.box w7 (.cells #[.int .i64 db.lev, .int .i64 db.lsn, .int .i64 db.rgt, .string db.high, .slice p7.k db.keys.length p7.kc, .slice p7.v db.vals.length p7.vc, .slice p7.i db.kids.length p7.ic] 25)
  have HB7 : Hid (∀ W, Fr (fun _ => False) (w7.alloc (.cells #[.int .i64 db.lev, .int .i64 db.lsn, .int .i64 db.rgt, .string db.high, .slice p7.k db.keys.length p7.kc, .slice p7.v db.vals.length p7.vc, .slice p7.i db.kids.length p7.ic] 25)) W → W.cell? ⟨w7.heap.size, 0, none⟩ = some (.int .i64 db.lev) ∧ W.cell? ⟨w7.heap.size, 1, none⟩ = some (.int .i64 db.lsn) ∧ W.cell? ⟨w7.heap.size, 2, none⟩ = some (.int .i64 db.rgt) ∧ W.cell? ⟨w7.heap.size, 3, none⟩ = some (.string db.high) ∧ W.cell? ⟨w7.heap.size, 4, none⟩ = some (.slice p7.k db.keys.length p7.kc) ∧ W.cell? ⟨w7.heap.size, 5, none⟩ = some (.slice p7.v db.vals.length p7.vc) ∧ W.cell? ⟨w7.heap.size, 6, none⟩ = some (.slice p7.i db.kids.length p7.ic)) := fun W f => box_cells (box_at w7 db p7 25 f)
  have L7 := f7.seq' x7
  have F7 := F6.seq' L7
  obtain ⟨_, ⟨ca, cv⟩, ⟨cb, cu⟩⟩ := HB.out _ F7
  obtain ⟨d0, d1, d2, d3, d4, d5, d6⟩ := HB6.out _ L7
  go_wp2_with fail
  refine (g7 p6 _ ((nd6.same x6).same L7)).mono ?_
  rintro e w8 ⟨p8, rfl, nd8, f8⟩
  clear g7 d0 d1 d2 d3 d4 d5 d6 ca cv cb cu
  have x8 := Fr.box w8 (.cells #[.int .i64 s.lev, .int .i64 s.lsn, .int .i64 s.rgt, .string s.high, .slice p8.k s.keys.length p8.kc, .slice p8.v s.vals.length p8.vc, .slice p8.i s.kids.length p8.ic] 25)
  have HB8 : Hid (∀ W, Fr (fun _ => False) (w8.alloc (.cells #[.int .i64 s.lev, .int .i64 s.lsn, .int .i64 s.rgt, .string s.high, .slice p8.k s.keys.length p8.kc, .slice p8.v s.vals.length p8.vc, .slice p8.i s.kids.length p8.ic] 25)) W → W.cell? ⟨w8.heap.size, 0, none⟩ = some (.int .i64 s.lev) ∧ W.cell? ⟨w8.heap.size, 1, none⟩ = some (.int .i64 s.lsn) ∧ W.cell? ⟨w8.heap.size, 2, none⟩ = some (.int .i64 s.rgt) ∧ W.cell? ⟨w8.heap.size, 3, none⟩ = some (.string s.high) ∧ W.cell? ⟨w8.heap.size, 4, none⟩ = some (.slice p8.k s.keys.length p8.kc) ∧ W.cell? ⟨w8.heap.size, 5, none⟩ = some (.slice p8.v s.vals.length p8.vc) ∧ W.cell? ⟨w8.heap.size, 6, none⟩ = some (.slice p8.i s.kids.length p8.ic)) := fun W f => box_cells (box_at w8 s p8 25 f)
  have L8 := f8.seq' x8
  have F8 := F7.seq' L8
  obtain ⟨_, ⟨ca, cv⟩, ⟨cb, cu⟩⟩ := HB.out _ F8
  obtain ⟨d0, d1, d2, d3, d4, d5, d6⟩ := HB7.out _ L8
  go_wp2_with fail
  refine (g8 p7 _ ((nd7.same x7).same L8)).mono ?_
  rintro e w9 ⟨p9, rfl, nd9, f9⟩
  clear g8 d0 d1 d2 d3 d4 d5 d6 ca cv cb cu
  have x9 := Fr.box w9 (.cells #[.int .i64 s.lev, .int .i64 s.lsn, .int .i64 s.rgt, .string s.high, .slice p9.k s.keys.length p9.kc, .slice p9.v s.vals.length p9.vc, .slice p9.i s.kids.length p9.ic] 25)
  have L9 := f9.seq' x9
  have F9 := F8.seq' L9
  have hp2 := plain_same s p8 p9 _ ((nd8.same x8).same L9) (nd9.same x9)
  obtain ⟨d0, d1, d2, d3, d4, d5, d6⟩ := HB8.out _ L9
  go_wp2_with fail
  refine hp2.mono ?_
  rintro e wA ⟨rfl, fA⟩
  go_wp2_with fail
  refine (nspeaks_any _).mono ?_
  rintro e wB ⟨rfl, fB⟩
  go_wp2
  go_ret
  exact ⟨rfl, (f0.seq' F9).seq' (fA.seq' fB)⟩

set_option maxRecDepth 100000 in
theorem lifted (os : Os) (started : os.Started) (H : Type) (enc : TypeId × Value → H) :
    ReturnsInHanded {} Try.checked os 11 .any (Rows.nodeTurnsSpec.pre6 enc Try.prog Try.f11 Rows.nodeTurnsRow.domain false) (Rows.nodeTurnsSpec.post enc Try.prog Try.f11 false true false false) := by
  refine returnsInHanded_of_change_sized (C := Try.checked) own started (by kernel_rfl) Try.func11
    (ChangeSpec.witness6 (enc := enc) (C := Try.checked) false ⟨#[], #[.agg #[.int .i64 0, .int .i64 0, .int .i64 0, .string ByteArray.empty, .slice none 0 0, .slice none 0 0, .slice none 0 0], .agg #[.string ByteArray.empty, .string ByteArray.empty], .agg #[.string ByteArray.empty, .string ByteArray.empty]], []⟩ 8 (by kernel_rfl) (by kernel_rfl) (by kernel_rfl) (by kernel_rfl)) ?_
  intro W base args ds gs before hval0 hW hcnd hsz0 _
  have hsz : (DataW.weightsEach Try.prog (Try.f11.params.toList ++ Rows.nodeTurnsSpec.plain.varTypes Try.prog) (ds ++ gs)).all (· ≤ reachBytes) = true := hsz0
  clear hsz0
  have hval : ∀ (j : Nat) t v, Try.f11.params[j]? = some t → args[j]? = some v → Value.okWide Try.prog W .any base t v := hval0
  have hW' := hW
  obtain ⟨p, q, hA0, hV, rfl, hfz, hnd⟩ := hW
  have hA : DataW.TrodAll enc Try.prog W 0 (fun _ => true) true Try.f11.params.toList args.toList ds p := hA0
  rw [Try.params11] at hA hval hsz
  obtain ⟨v0, vs0, d0, ds0, p0, q0, hargs, rfl, rfl, h0, r0⟩ := trodAll_cons hA
  obtain ⟨v1, vs1, d1, ds1, p1, q1, rfl, rfl, rfl, h1, r1⟩ := trodAll_cons r0
  obtain ⟨v2, vs2, d2, ds2, p2, q2, rfl, rfl, rfl, h2, r2⟩ := trodAll_cons r1
  obtain ⟨rfl, rfl, rfl⟩ := trodAll_nil r2
  obtain rfl : args = #[v0, v1, v2] := by cases args; simp_all
  obtain ⟨rfl, rfl⟩ := trodVars_none hV
  have k0 := h0
  have lt0 : ∀ x ∈ p0, x.block < W.heap.size := by obtain ⟨m, hm⟩ := k0; exact DataW.trod_lt m _ _ _ hm
  obtain ⟨n0, np0, rfl, nd0⟩ := node_open (hval 0 25 v0 rfl rfl) h0 (fun z hz => by simpa using List.all_eq_true.1 hsz z (DataW.weights_mem_each (j := 0) rfl rfl z hz))
  have k1 := h1
  have lt1 : ∀ x ∈ p1, x.block < W.heap.size := by obtain ⟨m, hm⟩ := k1; exact DataW.trod_lt m _ _ _ hm
  obtain ⟨ea1, eb1, rfl, ez1, ey1⟩ := entry_open (hval 1 62 v1 rfl rfl) h1 (fun z hz => by simpa using List.all_eq_true.1 hsz z (DataW.weights_mem_each (j := 1) rfl rfl z hz))
  have k2 := h2
  have lt2 : ∀ x ∈ p2, x.block < W.heap.size := by obtain ⟨m, hm⟩ := k2; exact DataW.trod_lt m _ _ _ hm
  obtain ⟨ea2, eb2, rfl, ez2, ey2⟩ := entry_open (hval 2 62 v2 rfl rfl) h2 (fun z hz => by simpa using List.all_eq_true.1 hsz z (DataW.weights_mem_each (j := 2) rfl rfl z hz))
  clear hA0 hval0
  refine (walk W n0 np0 nd0 ea1 eb1 ez1 ey1 ea2 eb2 ez2 ey2).mono fun e W' ⟨he, fr⟩ => ?_
  have bel : Below W.heap.size W W' := fr.below (Nat.le_refl _) (fun _ f => f.elim)
  subst he
  exact ⟨_, rfl, _, _, _, [], _, [], hW', trodAll_mk1 (shut_bool Try.underlying4 _), (trodAll_cons_mk (Below.trod laidOut (by kernel_rfl) (of_decide_eq_true (by kernel_rfl)) k0 bel lt0) (trodAll_cons_mk (Below.trod laidOut (by kernel_rfl) (of_decide_eq_true (by kernel_rfl)) k1 bel lt1) (trodAll_cons_mk (Below.trod laidOut (by kernel_rfl) (of_decide_eq_true (by kernel_rfl)) k2 bel lt2) trodAll_mk0))), rfl, bel.frame _, fun h => by cases h⟩

theorem proved : Rows.NodeTurnsSaid :=
  OpenClaim.holds_of_wide 11 Try.f11 rfl rfl rfl rfl rfl rfl rfl ⟨rfl, rfl, rfl, rfl, rfl⟩ rfl rfl rfl rfl rfl (by kernel_rfl) Try.func11 (by kernel_rfl)
    (of_decide_eq_true (by kernel_rfl)) (by unfold Func.isWrapper; first | (rw [if_pos (by decide +kernel)]; kernel_rfl) | (rw [if_neg (by decide +kernel)]; exact ⟨rfl, rfl⟩))
    (fun os started H enc _ => lifted os started H enc)
end Go.Proofs.Ytaaedmacefiinaa.nodeTurns
namespace Go.Proofs.Ytaaedmacefiinaa
theorem nodeTurns_holds : Rows.NodeTurnsSaid := nodeTurns.proved
#print axioms nodeTurns_holds
end Go.Proofs.Ytaaedmacefiinaa
