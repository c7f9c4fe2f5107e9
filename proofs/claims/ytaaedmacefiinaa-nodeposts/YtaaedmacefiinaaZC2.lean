
/- NdCopy, NdOwn, NdRDel, NdDel. -/
import Derived.Test.YtaaedmacefiinaaZC1
/- What copied and fitting make. -/
namespace Go.Proofs.Ytaaedmacefiinaa
open Go.RowKit

/-- A node whose lists are the call's own. -/
def CpOut (n : Nd) (w : World) (e : Ending) (w' : World) : Prop :=
  ∃ ak ck av cv ai ci, e = .returned (.agg #[.int .i64 n.lev, .int .i64 n.lsn, .int .i64 n.rgt, .string n.high, .slice ak n.keys.length ck, .slice av n.vals.length cv, .slice ai n.kids.length ci]) ∧
    Has w' 1 (.slice ak n.keys.length ck) n.keys.length (strCells n.keys) ∧ Has w' 1 (.slice av n.vals.length cv) n.vals.length (strCells n.vals) ∧ Has w' 1 (.slice ai n.kids.length ci) n.kids.length (intCells n.kids) ∧
    (∀ g, (Value.slice ak n.keys.length ck).ownBlock = some g → w.heap.size ≤ g) ∧ (∀ g, (Value.slice av n.vals.length cv).ownBlock = some g → w.heap.size ≤ g) ∧ (∀ g, (Value.slice ai n.kids.length ci).ownBlock = some g → w.heap.size ≤ g) ∧
    (∀ g, (Value.slice ak n.keys.length ck).ownBlock = some g → (Value.slice av n.vals.length cv).ownBlock ≠ some g) ∧ (∀ g, (Value.slice ak n.keys.length ck).ownBlock = some g → (Value.slice ai n.kids.length ci).ownBlock ≠ some g) ∧ (∀ g, (Value.slice av n.vals.length cv).ownBlock = some g → (Value.slice ai n.kids.length ci).ownBlock ≠ some g) ∧
    Fr (fun _ => False) w w'
theorem wp_clS {o : Oper} {ac : Act} {w : World} {K : Act → World → Prop} {Q : Exit → Act → World → Prop} (x : Operand) (ts : Array TypeId) (ho : o.op = .call { callee := .value (.func 100), args := #[x], argTypes := ts }) {v : Value} (hx : ac.eval x = v)
    (h : Oper.upon Try.prog o ac K Q (.ok (.enter 100 #[v]) w)) : o.wp Try.prog ac w K Q := by
  have hr : (execOp ac.eval o).run Try.prog w = .ok (.enter 100 #[ac.eval x]) w := by
    unfold execOp
    simp only [ho]
    go_simp
    try simp [Act.eval]
  unfold Oper.wp
  rw [hr, hx]
  exact h
theorem wp_clI {o : Oper} {ac : Act} {w : World} {K : Act → World → Prop} {Q : Exit → Act → World → Prop} (x : Operand) (ts : Array TypeId) (ho : o.op = .call { callee := .value (.func 101), args := #[x], argTypes := ts }) {v : Value} (hx : ac.eval x = v)
    (h : Oper.upon Try.prog o ac K Q (.ok (.enter 101 #[v]) w)) : o.wp Try.prog ac w K Q := by
  have hr : (execOp ac.eval o).run Try.prog w = .ok (.enter 101 #[ac.eval x]) w := by
    unfold execOp
    simp only [ho]
    go_simp
    try simp [Act.eval]
  unfold Oper.wp
  rw [hr, hx]
  exact h
set_option maxRecDepth 100000 in
set_option maxHeartbeats 4000000 in
theorem copied_any (n : Nd) (p : Pt) (hk : n.keys.length ≤ 100000) (hv : n.vals.length ≤ 100000) (hi : n.kids.length ≤ 100000) (w : World) (h : Nod w n p) : Calls Try.prog 64 #[(.agg #[.int .i64 n.lev, .int .i64 n.lsn, .int .i64 n.rgt, .string n.high, .slice p.k n.keys.length p.kc, .slice p.v n.vals.length p.vc, .slice p.i n.kids.length p.ic])] w fun e w' => CpOut n w e w' := by
  have f0 : Fr (fun _ => False) w ((w.alloc (.cells #[.int .i64 n.lev, .int .i64 n.lsn, .int .i64 n.rgt, .string n.high, .slice p.k n.keys.length p.kc, .slice p.v n.vals.length p.vc, .slice p.i n.kids.length p.ic] 25)).alloc (.cells #[.int .i64 0, .int .i64 0, .int .i64 0, .string ⟨#[]⟩, .slice none 0 0, .slice none 0 0, .slice none 0 0] 25)) := ((Fr.refl _ _).alloc _).alloc _
  have HB : Hid (∀ W, Fr (fun _ => False) ((w.alloc (.cells #[.int .i64 n.lev, .int .i64 n.lsn, .int .i64 n.rgt, .string n.high, .slice p.k n.keys.length p.kc, .slice p.v n.vals.length p.vc, .slice p.i n.kids.length p.ic] 25)).alloc (.cells #[.int .i64 0, .int .i64 0, .int .i64 0, .string ⟨#[]⟩, .slice none 0 0, .slice none 0 0, .slice none 0 0] 25)) W → W.cell? ⟨w.heap.size, 0, none⟩ = some (.int .i64 n.lev) ∧ W.cell? ⟨w.heap.size, 1, none⟩ = some (.int .i64 n.lsn) ∧ W.cell? ⟨w.heap.size, 2, none⟩ = some (.int .i64 n.rgt) ∧ W.cell? ⟨w.heap.size, 3, none⟩ = some (.string n.high) ∧ W.cell? ⟨w.heap.size, 4, none⟩ = some (.slice p.k n.keys.length p.kc) ∧ W.cell? ⟨w.heap.size, 5, none⟩ = some (.slice p.v n.vals.length p.vc) ∧ W.cell? ⟨w.heap.size, 6, none⟩ = some (.slice p.i n.kids.length p.ic)) := fun W f => box_cells (box_at w n p 25 (((Fr.refl _ _).alloc _).seq' f))
  have HBB : Hid (∀ W, Fr (fun _ => False) ((w.alloc (.cells #[.int .i64 n.lev, .int .i64 n.lsn, .int .i64 n.rgt, .string n.high, .slice p.k n.keys.length p.kc, .slice p.v n.vals.length p.vc, .slice p.i n.kids.length p.ic] 25)).alloc (.cells #[.int .i64 0, .int .i64 0, .int .i64 0, .string ⟨#[]⟩, .slice none 0 0, .slice none 0 0, .slice none 0 0] 25)) W → W.heap[w.heap.size]? = some (.cells #[.int .i64 n.lev, .int .i64 n.lsn, .int .i64 n.rgt, .string n.high, .slice p.k n.keys.length p.kc, .slice p.v n.vals.length p.vc, .slice p.i n.kids.length p.ic] 25 (0, 0))) := fun W f => box_at w n p 25 (((Fr.refl _ _).alloc _).seq' f)
  have HRB : Hid (∀ W, Fr (fun _ => False) ((w.alloc (.cells #[.int .i64 n.lev, .int .i64 n.lsn, .int .i64 n.rgt, .string n.high, .slice p.k n.keys.length p.kc, .slice p.v n.vals.length p.vc, .slice p.i n.kids.length p.ic] 25)).alloc (.cells #[.int .i64 0, .int .i64 0, .int .i64 0, .string ⟨#[]⟩, .slice none 0 0, .slice none 0 0, .slice none 0 0] 25)) W → W.heap[w.heap.size + 1]? = some (.cells #[.int .i64 0, .int .i64 0, .int .i64 0, .string ⟨#[]⟩, .slice none 0 0, .slice none 0 0, .slice none 0 0] 25 (0, 0))) := fun W f => by
    refine f.blk ?_ (fun f => f)
    have := heap_alloc_new (w.alloc (.cells #[.int .i64 n.lev, .int .i64 n.lsn, .int .i64 n.rgt, .string n.high, .slice p.k n.keys.length p.kc, .slice p.v n.vals.length p.vc, .slice p.i n.kids.length p.ic] 25)) (.cells #[.int .i64 0, .int .i64 0, .int .i64 0, .string ⟨#[]⟩, .slice none 0 0, .slice none 0 0, .slice none 0 0] 25)
    rw [show (w.alloc (.cells #[.int .i64 n.lev, .int .i64 n.lsn, .int .i64 n.rgt, .string n.high, .slice p.k n.keys.length p.kc, .slice p.v n.vals.length p.vc, .slice p.i n.kids.length p.ic] 25)).heap.size = w.heap.size + 1 by simp] at this
    exact this
  have fr0 := (Fr.refl (fun _ => False) ((w.alloc (.cells #[.int .i64 n.lev, .int .i64 n.lsn, .int .i64 n.rgt, .string n.high, .slice p.k n.keys.length p.kc, .slice p.v n.vals.length p.vc, .slice p.i n.kids.length p.ic] 25)).alloc (.cells #[.int .i64 0, .int .i64 0, .int .i64 0, .string ⟨#[]⟩, .slice none 0 0, .slice none 0 0, .slice none 0 0] 25))).drew
  have q0 := HB.out _ fr0
  have hN := h.same (f0.seq' fr0)
  have HKL : Hid (n.keys.length ≤ 100000) := hk
  have HVL : Hid (n.vals.length ≤ 100000) := hv
  have HIL : Hid (n.kids.length ≤ 100000) := hi
  clear hk hv hi
  go_enter Try.func64, Try.ntmps64
  go_wp2_with fail
  obtain ⟨c0, c1, c2, c3, c4, c5, c6⟩ := q0
  go_region_law
    (first
      | (show (if Region.wanted { dst := some 5, op := .call { callee := .value (.func 100), args := _, argTypes := _ }, type := _, pos := _, after := _, guard := _ } _ = true then _ else _); refine step_of (by rfl) (wp_clS (.tmp 4) _ (by rfl) (by rfl) ?_); rw [Oper.upon_enter]; refine (clone_s p.k n.keys.length p.kc n.keys _ hN.keys rfl HKL.out).mono ?_; rintro en w1 ⟨a1, cc1, rfl, hs1, m1, o1⟩; have fr1 := fr0.seq' m1; obtain ⟨d0, d1, d2, d3, d4, d5, d6⟩ := HB.out _ fr1; have hN1 := h.same (f0.seq' fr1))
      | (show (if Region.wanted { dst := some 8, op := .call { callee := .value (.func 100), args := _, argTypes := _ }, type := _, pos := _, after := _, guard := _ } _ = true then _ else _); refine step_of (by rfl) (wp_clS (.tmp 7) _ (by rfl) (by rfl) ?_); rw [Oper.upon_enter]; refine (clone_s p.v n.vals.length p.vc n.vals _ hN1.vals rfl HVL.out).mono ?_; rintro en w2 ⟨a2, cc2, rfl, hs2, m2, o2⟩; have fr2 := fr1.seq' m2; obtain ⟨e0, e1, e2, e3, e4, e5, e6⟩ := HB.out _ fr2; have hN2 := h.same (f0.seq' fr2))
      | (show (if Region.wanted { dst := some 11, op := .call { callee := .value (.func 101), args := _, argTypes := _ }, type := _, pos := _, after := _, guard := _ } _ = true then _ else _); refine step_of (by rfl) (wp_clI (.tmp 10) _ (by rfl) (by rfl) ?_); rw [Oper.upon_enter]; refine (clone_i p.i n.kids.length p.ic n.kids _ hN2.kids rfl HIL.out).mono ?_; rintro en w3 ⟨a3, cc3, rfl, hs3, m3, o3⟩; have fr3 := fr2.seq' m3; obtain ⟨⟨g0, g1, g2, g3, g4, g5, g6⟩, rz⟩ := node_cells (HBB.out _ fr3); have z4 := rz 4; have z5 := rz 5; have z6 := rz 6))
  all_goals
    have hb3 := HBB.out _ fr3
    have hr3 := HRB.out _ fr3
    have hs1' := hs1.fr (m2.seq' m3) (fun _ _ f => f)
    have hs2' := hs2.fr m3 (fun _ _ f => f)
    have z1 : w.heap.size + 2 ≤ w1.heap.size := by have := fr1.size; simp at this; omega
    have z2 : w1.heap.size ≤ w2.heap.size := m2.size
    have l1 : ∀ g, (Value.slice a1 n.keys.length cc1).ownBlock = some g → w.heap.size + 1 < g ∧ g < w1.heap.size := fun g hg => ⟨by have := o1 g hg; simp at this; omega, hs1.lt hg⟩
    have l2 : ∀ g, (Value.slice a2 n.vals.length cc2).ownBlock = some g → w1.heap.size ≤ g ∧ g < w2.heap.size := fun g hg => ⟨o2 g hg, hs2.lt hg⟩
    have l3 : ∀ g, (Value.slice a3 n.kids.length cc3).ownBlock = some g → w2.heap.size ≤ g := fun g hg => o3 g hg
    have ffB : Fr (fun k => k = w.heap.size) w3 (((w3.setCell ⟨w.heap.size, 4, none⟩ (.slice a1 n.keys.length cc1)).setCell ⟨w.heap.size, 5, none⟩ (.slice a2 n.vals.length cc2)).setCell ⟨w.heap.size, 6, none⟩ (.slice a3 n.kids.length cc3)) := (((Fr.refl (fun k => k = w.heap.size) w3).setCell (p := ⟨w.heap.size, 4, none⟩) (fun _ => rfl) _).setCell (p := ⟨w.heap.size, 5, none⟩) (fun _ => rfl) _).setCell (p := ⟨w.heap.size, 6, none⟩) (fun _ => rfl) _
    have hb4 := node_setCell (j := 6) (node_setCell (j := 5) (node_setCell (j := 4) hb3 (.slice a1 n.keys.length cc1)) (.slice a2 n.vals.length cc2)) (.slice a3 n.kids.length cc3)
    have hr4 := ffB.blk hr3 (by omega)
    have F3 := f0.seq' fr3
    generalize ((w3.setCell ⟨w.heap.size, 4, none⟩ (.slice a1 n.keys.length cc1)).setCell ⟨w.heap.size, 5, none⟩ (.slice a2 n.vals.length cc2)).setCell ⟨w.heap.size, 6, none⟩ (.slice a3 n.kids.length cc3) = W4 at ffB hb4 hr4 ⊢
    obtain ⟨⟨t0, t1, t2, t3, t4, t5, t6⟩, _⟩ := node_cells (c0 := .int .i64 n.lev) (c1 := .int .i64 n.lsn) (c2 := .int .i64 n.rgt) (c3 := .string n.high) (c4 := .slice a1 n.keys.length cc1) (c5 := .slice a2 n.vals.length cc2) (c6 := .slice a3 n.kids.length cc3) hb4
    obtain ⟨⟨s0, s1, s2, s3, s4, s5, s6⟩, sz⟩ := node_cells hr4
    have y0 := sz 0; have y1 := sz 1; have y2 := sz 2; have y3 := sz 3; have y4 := sz 4; have y5 := sz 5; have y6 := sz 6
    clear c0 c1 c2 c3 c4 c5 c6 d0 d1 d2 d3 d4 d5 d6 e0 e1 e2 e3 e4 e5 e6 g0 g1 g2 g3 g4 g5 g6 rz z4 z5 z6 sz hN hN1 hN2
    go_wp2
    obtain ⟨hq, ff⟩ := fin7 hr4 (.int .i64 n.lev) (.int .i64 n.lsn) (.int .i64 n.rgt) (.string n.high) (.slice a1 n.keys.length cc1) (.slice a2 n.vals.length cc2) (.slice a3 n.kids.length cc3)
    have fff := (F3.trans ffB (S := fun _ => False) (fun i hi e => by omega)).trans ff (S := fun _ => False) (fun i hi e => by omega)
    have hsK := (hs1'.fr ffB (fun g hg e => by have := l1 g hg; omega)).fr ff (fun g hg e => by have := l1 g hg; omega)
    have hsV := (hs2'.fr ffB (fun g hg e => by have := l2 g hg; omega)).fr ff (fun g hg e => by have := l2 g hg; omega)
    have hsI := (hs3.fr ffB (fun g hg e => by have := l3 g hg; omega)).fr ff (fun g hg e => by have := l3 g hg; omega)
    generalize ((((((W4.setCell ⟨w.heap.size + 1, 0, none⟩ (.int .i64 n.lev)).setCell ⟨w.heap.size + 1, 1, none⟩ (.int .i64 n.lsn)).setCell ⟨w.heap.size + 1, 2, none⟩ (.int .i64 n.rgt)).setCell ⟨w.heap.size + 1, 3, none⟩ (.string n.high)).setCell ⟨w.heap.size + 1, 4, none⟩ (.slice a1 n.keys.length cc1)).setCell ⟨w.heap.size + 1, 5, none⟩ (.slice a2 n.vals.length cc2)).setCell ⟨w.heap.size + 1, 6, none⟩ (.slice a3 n.kids.length cc3) = Wf at hq fff hsK hsV hsI ⊢
    obtain ⟨⟨q0, q1, q2, q3, q4, q5, q6⟩, _⟩ := node_cells hq
    exact bodyPost_ret (v := .agg #[.int .i64 n.lev, .int .i64 n.lsn, .int .i64 n.rgt, .string n.high, .slice a1 n.keys.length cc1, .slice a2 n.vals.length cc2, .slice a3 n.kids.length cc3]) (by simp [results, Try.results64, go_sem, q0, q1, q2, q3, q4, q5, q6]) rfl
      ⟨a1, cc1, a2, cc2, a3, cc3, rfl, hsK, hsV, hsI, (fun g hg => by have := l1 g hg; omega), (fun g hg => by have := l2 g hg; omega), (fun g hg => by have := l3 g hg; omega), (fun g hg e => by have := l1 g hg; have := l2 g e; omega), (fun g hg e => by have := l1 g hg; have := l3 g e; omega), (fun g hg e => by have := l2 g hg; have := l3 g e; omega), fff⟩
end Go.Proofs.Ytaaedmacefiinaa
/- A node with lists of its own, changed in place. -/
namespace Go.Proofs.Ytaaedmacefiinaa
open Go.RowKit

/-- A node in its box at b, its lists in blocks behind b + 1, where the answer's box lies. -/
structure By (W0 w : World) (b : Nat) (n : Nd) (kv vv iv : Value) : Prop extends Bx W0 w b n kv vv iv where
  ok2 : ∀ g, kv.ownBlock = some g → b + 1 < g
  ov2 : ∀ g, vv.ownBlock = some g → b + 1 < g
  oi2 : ∀ g, iv.ownBlock = some g → b + 1 < g
section
variable {W0 w w1 : World} {b : Nat} {n : Nd} {kv vv iv : Value}
theorem By.same (h : By W0 w b n kv vv iv) (f : Fr (fun _ => False) w w1) : By W0 w1 b n kv vv iv := ⟨h.toBx.same f, h.ok2, h.ov2, h.oi2⟩
theorem own_up {v v' : Value} {lo : Nat} (ho : v'.ownBlock = v.ownBlock ∨ ∃ g, v'.ownBlock = some g ∧ w.heap.size ≤ g) (hl : lo < w.heap.size) (h : ∀ g, v.ownBlock = some g → lo < g) : ∀ g, v'.ownBlock = some g → lo < g := fun g e => by
  rcases ho with ho | ⟨g2, ho, hg⟩
  · rw [ho] at e; exact h g e
  · rw [ho] at e; simp at e; omega
theorem own_off {v v' u : Value} (ho : v'.ownBlock = v.ownBlock ∨ ∃ g, v'.ownBlock = some g ∧ w.heap.size ≤ g) (hu : ∀ g, u.ownBlock = some g → g < w.heap.size) (hn : ∀ g, v.ownBlock = some g → u.ownBlock ≠ some g) : ∀ g, v'.ownBlock = some g → u.ownBlock ≠ some g := fun g e e2 => by
  rcases ho with ho | ⟨g2, ho, hg⟩
  · rw [ho] at e; exact hn g e e2
  · rw [ho] at e; simp at e; have := hu g e2; omega
theorem By.newk {kv' : Value} {l : List ByteArray} (h : By W0 w b n kv vv iv) (hb : b + 1 < w.heap.size) (hh : Has w1 1 kv' l.length (strCells l)) (f : Fr (fun k => kv.ownBlock = some k) w w1) (ho : kv'.ownBlock = kv.ownBlock ∨ ∃ g, kv'.ownBlock = some g ∧ w.heap.size ≤ g) :
    w1.heap[b]? = some (.cells #[.int .i64 n.lev, .int .i64 n.lsn, .int .i64 n.rgt, .string n.high, kv, vv, iv] 25 (0, 0)) ∧ By W0 (w1.setCell ⟨b, 4, none⟩ kv') b { n with keys := l } kv' vv iv := by
  have hn := h.new
  have hB : w1.heap[b]? = some (.cells #[.int .i64 n.lev, .int .i64 n.lsn, .int .i64 n.rgt, .string n.high, kv, vv, iv] 25 (0, 0)) := by
    rw [f.block b (by omega) (fun e => by have := h.ok b e; omega)]; exact h.box
  have ff : Fr (fun k => k = b) w1 (w1.setCell ⟨b, 4, none⟩ kv') := (Fr.refl (fun k => k = b) w1).setCell (p := ⟨b, 4, none⟩) (fun _ => rfl) _
  have k2 := own_up ho hb h.ok2
  refine ⟨hB, ⟨⟨by rw [node_setCell hB]; rfl, hn, hh.fr ff (fun g e e2 => by have := k2 g e; omega), (h.vals.fr f (fun g e e2 => h.nkv g e2 e)).fr ff (fun g e e2 => by have := h.ov g e; omega), (h.kids.fr f (fun g e e2 => h.nki g e2 e)).fr ff (fun g e e2 => by have := h.oi g e; omega), (fun g e => by have := k2 g e; omega), h.ov, h.oi, own_off ho (fun g e => h.vals.lt e) h.nkv, own_off ho (fun g e => h.kids.lt e) h.nki, h.nvi, ?_⟩, k2, h.ov2, h.oi2⟩⟩
  exact (h.fr.trans f (S := fun _ => False) (fun i hi e => by have := h.ok i e; omega)).trans ff (S := fun _ => False) (fun i hi e => by omega)
theorem By.newv {vv' : Value} {l : List ByteArray} (h : By W0 w b n kv vv iv) (hb : b + 1 < w.heap.size) (hh : Has w1 1 vv' l.length (strCells l)) (f : Fr (fun k => vv.ownBlock = some k) w w1) (ho : vv'.ownBlock = vv.ownBlock ∨ ∃ g, vv'.ownBlock = some g ∧ w.heap.size ≤ g) :
    w1.heap[b]? = some (.cells #[.int .i64 n.lev, .int .i64 n.lsn, .int .i64 n.rgt, .string n.high, kv, vv, iv] 25 (0, 0)) ∧ By W0 (w1.setCell ⟨b, 5, none⟩ vv') b { n with vals := l } kv vv' iv := by
  have hn := h.new
  have hB : w1.heap[b]? = some (.cells #[.int .i64 n.lev, .int .i64 n.lsn, .int .i64 n.rgt, .string n.high, kv, vv, iv] 25 (0, 0)) := by
    rw [f.block b (by omega) (fun e => by have := h.ov b e; omega)]; exact h.box
  have ff : Fr (fun k => k = b) w1 (w1.setCell ⟨b, 5, none⟩ vv') := (Fr.refl (fun k => k = b) w1).setCell (p := ⟨b, 5, none⟩) (fun _ => rfl) _
  have k2 := own_up ho hb h.ov2
  refine ⟨hB, ⟨⟨by rw [node_setCell hB]; rfl, hn, (h.keys.fr f (fun g e e2 => h.nkv g e e2)).fr ff (fun g e e2 => by have := h.ok g e; omega), hh.fr ff (fun g e e2 => by have := k2 g e; omega), (h.kids.fr f (fun g e e2 => h.nvi g e2 e)).fr ff (fun g e e2 => by have := h.oi g e; omega), h.ok, (fun g e => by have := k2 g e; omega), h.oi, (fun g e e2 => own_off ho (fun g e => h.keys.lt e) (fun g e e2 => h.nkv g e2 e) g e2 e), h.nki, own_off ho (fun g e => h.kids.lt e) h.nvi, ?_⟩, h.ok2, k2, h.oi2⟩⟩
  exact (h.fr.trans f (S := fun _ => False) (fun i hi e => by have := h.ov i e; omega)).trans ff (S := fun _ => False) (fun i hi e => by omega)
theorem By.newi {iv' : Value} {l : List Int} (h : By W0 w b n kv vv iv) (hb : b + 1 < w.heap.size) (hh : Has w1 1 iv' l.length (intCells l)) (f : Fr (fun k => iv.ownBlock = some k) w w1) (ho : iv'.ownBlock = iv.ownBlock ∨ ∃ g, iv'.ownBlock = some g ∧ w.heap.size ≤ g) :
    w1.heap[b]? = some (.cells #[.int .i64 n.lev, .int .i64 n.lsn, .int .i64 n.rgt, .string n.high, kv, vv, iv] 25 (0, 0)) ∧ By W0 (w1.setCell ⟨b, 6, none⟩ iv') b { n with kids := l } kv vv iv' := by
  have hn := h.new
  have hB : w1.heap[b]? = some (.cells #[.int .i64 n.lev, .int .i64 n.lsn, .int .i64 n.rgt, .string n.high, kv, vv, iv] 25 (0, 0)) := by
    rw [f.block b (by omega) (fun e => by have := h.oi b e; omega)]; exact h.box
  have ff : Fr (fun k => k = b) w1 (w1.setCell ⟨b, 6, none⟩ iv') := (Fr.refl (fun k => k = b) w1).setCell (p := ⟨b, 6, none⟩) (fun _ => rfl) _
  have k2 := own_up ho hb h.oi2
  refine ⟨hB, ⟨⟨by rw [node_setCell hB]; rfl, hn, (h.keys.fr f (fun g e e2 => h.nki g e e2)).fr ff (fun g e e2 => by have := h.ok g e; omega), (h.vals.fr f (fun g e e2 => h.nvi g e e2)).fr ff (fun g e e2 => by have := h.ov g e; omega), hh.fr ff (fun g e e2 => by have := k2 g e; omega), h.ok, h.ov, (fun g e => by have := k2 g e; omega), h.nkv, (fun g e e2 => own_off ho (fun g e => h.keys.lt e) (fun g e e2 => h.nki g e2 e) g e2 e), (fun g e e2 => own_off ho (fun g e => h.vals.lt e) (fun g e e2 => h.nvi g e2 e) g e2 e), ?_⟩, h.ok2, h.ov2, k2⟩⟩
  exact (h.fr.trans f (S := fun _ => False) (fun i hi e => by have := h.oi i e; omega)).trans ff (S := fun _ => False) (fun i hi e => by omega)
/-- One of its values is stored anew. -/
theorem By.setv {i : Nat} (h : By W0 w b n kv vv iv) (hi : i < n.vals.length) (x : ByteArray) : ∃ g c, vv = .slice (some ⟨g, 0, none⟩) n.vals.length c ∧ (∃ u, w.cell? ⟨g, 0 + i, none⟩ = some u) ∧ w.frozen? ⟨g, 0 + i, none⟩ = false ∧ By W0 (w.setCell ⟨g, 0 + i, none⟩ (.string x)) b { n with vals := n.vals.set i x } kv vv iv := by
  obtain ⟨g, c, rfl, hg, h1, h2, h3, h4⟩ := h.vals.form (by omega)
  have hn := h.new
  have hgb := h.ov2 g rfl
  have hc := h3 i (by omega)
  have ff : Fr (fun k => k = g) w (w.setCell ⟨g, 0 + i, none⟩ (.string x)) := (Fr.refl (fun k => k = g) w).setCell (p := ⟨g, 0 + i, none⟩) (fun _ => rfl) _
  have hs := h.vals.set i [.string x] (by simp [strCells]; omega)
  have e : w.setCells g i [.string x] = w.setCell ⟨g, 0 + i, none⟩ (.string x) := by rw [Nat.zero_add]; rfl
  rw [e] at hs
  refine ⟨g, c, rfl, Option.isSome_iff_exists.1 hc.1, hc.2, ⟨⟨?_, hn, h.keys.fr ff (fun k e e2 => h.nkv k e (by rw [e2]; rfl)), ?_, h.kids.fr ff (fun k e e2 => h.nvi g rfl (by rw [← e2]; exact e)), h.ok, h.ov, h.oi, h.nkv, h.nki, h.nvi, h.fr.trans ff (S := fun _ => False) (fun i hi e => by omega)⟩, h.ok2, h.ov2, h.oi2⟩⟩
  · rw [ff.block b (lt_of_block h.box) (by omega)]; exact h.box
  · have : strCells (n.vals.set i x) = (strCells n.vals).take i ++ [.string x] ++ (strCells n.vals).drop (i + [Value.string x].length) := by
      rw [strCells, strCells, List.set_eq_take_append_cons_drop, if_pos hi]
      simp
    show Has _ 1 _ (n.vals.set i x).length (strCells (n.vals.set i x))
    rw [this, List.length_set]
    exact hs
/-- The end: the node is stored as the answer. -/
theorem By.done {w0 : World} {r0 r1 r2 r3 r4 r5 r6 : Value} (h : By w0 w w0.heap.size n kv vv iv) (sh : Short n) (hk : n.keys.length ≤ 100000) (hv : n.vals.length ≤ 100000) (hi : n.kids.length ≤ 100000) (hR : w.heap[w0.heap.size + 1]? = some (.cells #[r0, r1, r2, r3, r4, r5, r6] 25 (0, 0))) :
    ∃ p : Pt, (kv = .slice p.k n.keys.length p.kc ∧ vv = .slice p.v n.vals.length p.vc ∧ iv = .slice p.i n.kids.length p.ic) ∧
      (((((((w.setCell ⟨w0.heap.size + 1, 0, none⟩ (.int .i64 n.lev)).setCell ⟨w0.heap.size + 1, 1, none⟩ (.int .i64 n.lsn)).setCell ⟨w0.heap.size + 1, 2, none⟩ (.int .i64 n.rgt)).setCell ⟨w0.heap.size + 1, 3, none⟩ (.string n.high)).setCell ⟨w0.heap.size + 1, 4, none⟩ kv).setCell ⟨w0.heap.size + 1, 5, none⟩ vv).setCell ⟨w0.heap.size + 1, 6, none⟩ iv).heap[w0.heap.size + 1]? = some (.cells #[.int .i64 n.lev, .int .i64 n.lsn, .int .i64 n.rgt, .string n.high, kv, vv, iv] 25 (0, 0)) ∧
      Nod (((((((w.setCell ⟨w0.heap.size + 1, 0, none⟩ (.int .i64 n.lev)).setCell ⟨w0.heap.size + 1, 1, none⟩ (.int .i64 n.lsn)).setCell ⟨w0.heap.size + 1, 2, none⟩ (.int .i64 n.rgt)).setCell ⟨w0.heap.size + 1, 3, none⟩ (.string n.high)).setCell ⟨w0.heap.size + 1, 4, none⟩ kv).setCell ⟨w0.heap.size + 1, 5, none⟩ vv).setCell ⟨w0.heap.size + 1, 6, none⟩ iv) n p ∧
      Fr (fun _ => False) w0 (((((((w.setCell ⟨w0.heap.size + 1, 0, none⟩ (.int .i64 n.lev)).setCell ⟨w0.heap.size + 1, 1, none⟩ (.int .i64 n.lsn)).setCell ⟨w0.heap.size + 1, 2, none⟩ (.int .i64 n.rgt)).setCell ⟨w0.heap.size + 1, 3, none⟩ (.string n.high)).setCell ⟨w0.heap.size + 1, 4, none⟩ kv).setCell ⟨w0.heap.size + 1, 5, none⟩ vv).setCell ⟨w0.heap.size + 1, 6, none⟩ iv) := by
  obtain ⟨hq, ff⟩ := fin7 hR (.int .i64 n.lev) (.int .i64 n.lsn) (.int .i64 n.rgt) (.string n.high) kv vv iv
  generalize (((((((w.setCell ⟨w0.heap.size + 1, 0, none⟩ (.int .i64 n.lev)).setCell ⟨w0.heap.size + 1, 1, none⟩ (.int .i64 n.lsn)).setCell ⟨w0.heap.size + 1, 2, none⟩ (.int .i64 n.rgt)).setCell ⟨w0.heap.size + 1, 3, none⟩ (.string n.high)).setCell ⟨w0.heap.size + 1, 4, none⟩ kv).setCell ⟨w0.heap.size + 1, 5, none⟩ vv).setCell ⟨w0.heap.size + 1, 6, none⟩ iv) = Wf at hq ff ⊢
  obtain ⟨p, e1, e2, e3, nd⟩ := h.nod sh hk hv hi
  refine ⟨p, ⟨e1, e2, e3⟩, hq, nd_far nd ff (fun b off hx e => ?_), h.fr.trans ff (S := fun _ => False) (fun i hi e => by omega)⟩
  rcases hx with hx | hx | hx
  · have := h.ok2 b (by rw [e1, hx]; rfl); omega
  · have := h.ov2 b (by rw [e2, hx]; rfl); omega
  · have := h.oi2 b (by rw [e3, hx]; rfl); omega
end
/-- Whether a node that grew still fits. -/
def fitE (n : Nd) : Int := if rightB n = true then 0 else 5
set_option maxRecDepth 100000 in
set_option maxHeartbeats 2000000 in
theorem fitting_any (n : Nd) (p : Pt) (w : World) (h : Nod w n p) : Calls Try.prog 66 #[(.agg #[.int .i64 n.lev, .int .i64 n.lsn, .int .i64 n.rgt, .string n.high, .slice p.k n.keys.length p.kc, .slice p.v n.vals.length p.vc, .slice p.i n.kids.length p.ic])] w fun e w' => ∃ q : Pt, e = .returned (.tuple #[(.agg #[.int .i64 (okN (fitE n) n).lev, .int .i64 (okN (fitE n) n).lsn, .int .i64 (okN (fitE n) n).rgt, .string (okN (fitE n) n).high, .slice q.k (okN (fitE n) n).keys.length q.kc, .slice q.v (okN (fitE n) n).vals.length q.vc, .slice q.i (okN (fitE n) n).kids.length q.ic]), .int .i64 (fitE n)]) ∧ Nod w' (okN (fitE n) n) q ∧ Fr (fun _ => False) w w' ∧ (q = p ∨ q = zp) := by
  have f0 : Fr (fun _ => False) w ((w.alloc (.cells #[.int .i64 n.lev, .int .i64 n.lsn, .int .i64 n.rgt, .string n.high, .slice p.k n.keys.length p.kc, .slice p.v n.vals.length p.vc, .slice p.i n.kids.length p.ic] 25)).alloc (.cells #[.int .i64 0, .int .i64 0, .int .i64 0, .string ⟨#[]⟩, .slice none 0 0, .slice none 0 0, .slice none 0 0] 25)) := ((Fr.refl _ _).alloc _).alloc _
  have HB : Hid (∀ W, Fr (fun _ => False) ((w.alloc (.cells #[.int .i64 n.lev, .int .i64 n.lsn, .int .i64 n.rgt, .string n.high, .slice p.k n.keys.length p.kc, .slice p.v n.vals.length p.vc, .slice p.i n.kids.length p.ic] 25)).alloc (.cells #[.int .i64 0, .int .i64 0, .int .i64 0, .string ⟨#[]⟩, .slice none 0 0, .slice none 0 0, .slice none 0 0] 25)) W → W.cell? ⟨w.heap.size, 0, none⟩ = some (.int .i64 n.lev) ∧ W.cell? ⟨w.heap.size, 1, none⟩ = some (.int .i64 n.lsn) ∧ W.cell? ⟨w.heap.size, 2, none⟩ = some (.int .i64 n.rgt) ∧ W.cell? ⟨w.heap.size, 3, none⟩ = some (.string n.high) ∧ W.cell? ⟨w.heap.size, 4, none⟩ = some (.slice p.k n.keys.length p.kc) ∧ W.cell? ⟨w.heap.size, 5, none⟩ = some (.slice p.v n.vals.length p.vc) ∧ W.cell? ⟨w.heap.size, 6, none⟩ = some (.slice p.i n.kids.length p.ic)) := fun W f => box_cells (box_at w n p 25 (((Fr.refl _ _).alloc _).seq' f))
  have HRB : Hid (∀ W, Fr (fun _ => False) ((w.alloc (.cells #[.int .i64 n.lev, .int .i64 n.lsn, .int .i64 n.rgt, .string n.high, .slice p.k n.keys.length p.kc, .slice p.v n.vals.length p.vc, .slice p.i n.kids.length p.ic] 25)).alloc (.cells #[.int .i64 0, .int .i64 0, .int .i64 0, .string ⟨#[]⟩, .slice none 0 0, .slice none 0 0, .slice none 0 0] 25)) W → W.heap[w.heap.size + 1]? = some (.cells #[.int .i64 0, .int .i64 0, .int .i64 0, .string ⟨#[]⟩, .slice none 0 0, .slice none 0 0, .slice none 0 0] 25 (0, 0))) := fun W f => by
    refine f.blk ?_ (fun f => f)
    have := heap_alloc_new (w.alloc (.cells #[.int .i64 n.lev, .int .i64 n.lsn, .int .i64 n.rgt, .string n.high, .slice p.k n.keys.length p.kc, .slice p.v n.vals.length p.vc, .slice p.i n.kids.length p.ic] 25)) (.cells #[.int .i64 0, .int .i64 0, .int .i64 0, .string ⟨#[]⟩, .slice none 0 0, .slice none 0 0, .slice none 0 0] 25)
    rw [show (w.alloc (.cells #[.int .i64 n.lev, .int .i64 n.lsn, .int .i64 n.rgt, .string n.high, .slice p.k n.keys.length p.kc, .slice p.v n.vals.length p.vc, .slice p.i n.kids.length p.ic] 25)).heap.size = w.heap.size + 1 by simp] at this
    exact this
  have hc := check_any n p _ (h.same f0)
  unfold fitE
  cases hr : rightB n
  · rw [epage_no hr] at hc
    rw [if_neg (by simp)]
    clear hr
    go_enter Try.func66, Try.ntmps66
    go_wp2_with fail
    refine hc.mono ?_
    rintro e w1 ⟨rfl, f1⟩
    have hR6 := HRB.out _ f1
    obtain ⟨⟨s0, s1, s2, s3, s4, s5, s6⟩, sz⟩ := node_cells hR6
    have y0 := sz 0; have y1 := sz 1; have y2 := sz 2; have y3 := sz 3; have y4 := sz 4; have y5 := sz 5; have y6 := sz 6
    clear sz
    go_wp2
    obtain ⟨hq, ff⟩ := fin7 hR6 (.int .i64 0) (.int .i64 0) (.int .i64 0) (.string ⟨#[]⟩) (.slice none 0 0) (.slice none 0 0) (.slice none 0 0)
    have fff := (f0.seq' f1).trans ff (S := fun _ => False) (fun i hi e => by omega)
    generalize ((((((w1.setCell ⟨w.heap.size + 1, 0, none⟩ (.int .i64 0)).setCell ⟨w.heap.size + 1, 1, none⟩ (.int .i64 0)).setCell ⟨w.heap.size + 1, 2, none⟩ (.int .i64 0)).setCell ⟨w.heap.size + 1, 3, none⟩ (.string ⟨#[]⟩)).setCell ⟨w.heap.size + 1, 4, none⟩ (.slice none 0 0)).setCell ⟨w.heap.size + 1, 5, none⟩ (.slice none 0 0)).setCell ⟨w.heap.size + 1, 6, none⟩ (.slice none 0 0) = Wf at hq fff ⊢
    obtain ⟨⟨q0, q1, q2, q3, q4, q5, q6⟩, _⟩ := node_cells hq
    rw [okN_no (by omega)]
    exact bodyPost_ret (v := .tuple #[.agg #[.int .i64 0, .int .i64 0, .int .i64 0, .string ⟨#[]⟩, .slice none 0 0, .slice none 0 0, .slice none 0 0], .int .i64 5]) (by simp [results, Try.results66, go_sem, q0, q1, q2, q3, q4, q5, q6]) rfl ⟨zp, rfl, zn_nod _, fff, .inr rfl⟩
  · rw [epage_yes hr] at hc
    rw [if_pos rfl]
    clear hr
    go_enter Try.func66, Try.ntmps66
    go_wp2_with fail
    refine hc.mono ?_
    rintro e w1 ⟨rfl, f1⟩
    obtain ⟨c0, c1, c2, c3, c4, c5, c6⟩ := HB.out _ f1
    have hR6 := HRB.out _ f1
    obtain ⟨⟨s0, s1, s2, s3, s4, s5, s6⟩, sz⟩ := node_cells hR6
    have y0 := sz 0; have y1 := sz 1; have y2 := sz 2; have y3 := sz 3; have y4 := sz 4; have y5 := sz 5; have y6 := sz 6
    clear sz
    go_wp2
    obtain ⟨hq, ff⟩ := fin7 hR6 (.int .i64 n.lev) (.int .i64 n.lsn) (.int .i64 n.rgt) (.string n.high) (.slice p.k n.keys.length p.kc) (.slice p.v n.vals.length p.vc) (.slice p.i n.kids.length p.ic)
    have fff := (f0.seq' f1).trans ff (S := fun _ => False) (fun i hi e => by omega)
    generalize ((((((w1.setCell ⟨w.heap.size + 1, 0, none⟩ (.int .i64 n.lev)).setCell ⟨w.heap.size + 1, 1, none⟩ (.int .i64 n.lsn)).setCell ⟨w.heap.size + 1, 2, none⟩ (.int .i64 n.rgt)).setCell ⟨w.heap.size + 1, 3, none⟩ (.string n.high)).setCell ⟨w.heap.size + 1, 4, none⟩ (.slice p.k n.keys.length p.kc)).setCell ⟨w.heap.size + 1, 5, none⟩ (.slice p.v n.vals.length p.vc)).setCell ⟨w.heap.size + 1, 6, none⟩ (.slice p.i n.kids.length p.ic) = Wf at hq fff ⊢
    obtain ⟨⟨q0, q1, q2, q3, q4, q5, q6⟩, _⟩ := node_cells hq
    rw [okN_ok]
    exact bodyPost_ret (v := .tuple #[(.agg #[.int .i64 n.lev, .int .i64 n.lsn, .int .i64 n.rgt, .string n.high, .slice p.k n.keys.length p.kc, .slice p.v n.vals.length p.vc, .slice p.i n.kids.length p.ic]), .int .i64 0]) (by simp [results, Try.results66, go_sem, q0, q1, q2, q3, q4, q5, q6]) rfl ⟨p, rfl, h.same fff, fff, .inl rfl⟩
end Go.Proofs.Ytaaedmacefiinaa
/- What the document's Del makes. -/
namespace Go.Proofs.Ytaaedmacefiinaa
open Go.RowKit

/-- The first j entries without a key. -/
def delTo (n : Nd) (k : ByteArray) (j : Nat) : Nd := ⟨n.lev, n.lsn, n.rgt, n.high, erTo (plc (bsOf k) n.keys).2 (plc (bsOf k) n.keys).1 j n.keys, erTo (plc (bsOf k) n.keys).2 (plc (bsOf k) n.keys).1 j n.vals, []⟩
def delN (n : Nd) (k : ByteArray) : Nd := delTo n k n.keys.length
theorem delTo_hit {n : Nd} {k : ByteArray} {j : Nat} (hs : srt n.keys) (hj : j < n.keys.length) (hv : j < n.vals.length) (he : bsOf (n.keys.getD j ByteArray.empty) = bsOf k) : delTo n k (j + 1) = delTo n k j := by
  unfold delTo; rw [plc_at hs j hj he, erTo_hit _ _ hj, erTo_hit _ _ hv]
theorem delTo_miss {n : Nd} {k : ByteArray} {j : Nat} (hs : srt n.keys) (hj : j < n.keys.length) (hv : j < n.vals.length) (he : bsOf (n.keys.getD j ByteArray.empty) ≠ bsOf k) :
    delTo n k (j + 1) = { delTo n k j with keys := (delTo n k j).keys ++ [n.keys.getD j ByteArray.empty], vals := (delTo n k j).vals ++ [n.vals.getD j ByteArray.empty] } := by
  have hne : ¬ ((plc (bsOf k) n.keys).2 = true ∧ (plc (bsOf k) n.keys).1 = j) := fun e => he (by have := ((plc_pl (k := bsOf k) hs).eq e.1).2; rw [e.2] at this; exact this)
  unfold delTo; rw [erTo_miss _ _ _ _ ByteArray.empty hj hne, erTo_miss _ _ _ _ ByteArray.empty hv hne]
theorem delTo_short {n : Nd} {k : ByteArray} {j : Nat} (r : Rt n) (h0 : n.lev = 0) : Short (delTo n k j) :=
  ⟨by have := r.high; show n.high.size ≤ _; omega, fun s hs => Nat.le_trans (size_of_mem (fun i hi => (r.keys i hi).1.2) s (erTo_mem _ _ _ _ s hs)) (by omega), fun s hs => Nat.le_trans (size_of_mem (r.leaf h0).2.2 s (erTo_mem _ _ _ _ s hs)) (by omega)⟩
set_option maxRecDepth 100000 in
set_option maxHeartbeats 4000000 in
theorem rdel_any (n : Nd) (p : Pt) (k : ByteArray) (hk : k.size ≤ maxLen) (w : World) (h : Nod w n p) : Calls Try.prog 28 #[(.agg #[.int .i64 n.lev, .int .i64 n.lsn, .int .i64 n.rgt, .string n.high, .slice p.k n.keys.length p.kc, .slice p.v n.vals.length p.vc, .slice p.i n.kids.length p.ic]), .string k] w fun e w' => NdOut2 (okN (askE n k 0 0 1) (delN n k)) (askE n k 0 0 1) w e w' := by
  have f0 : Fr (fun _ => False) w ((w.alloc (.cells #[.int .i64 n.lev, .int .i64 n.lsn, .int .i64 n.rgt, .string n.high, .slice p.k n.keys.length p.kc, .slice p.v n.vals.length p.vc, .slice p.i n.kids.length p.ic] 25)).alloc (.cells #[.int .i64 0, .int .i64 0, .int .i64 0, .string ⟨#[]⟩, .slice none 0 0, .slice none 0 0, .slice none 0 0] 25)) := ((Fr.refl _ _).alloc _).alloc _
  have HB : Hid (∀ W, Fr (fun _ => False) ((w.alloc (.cells #[.int .i64 n.lev, .int .i64 n.lsn, .int .i64 n.rgt, .string n.high, .slice p.k n.keys.length p.kc, .slice p.v n.vals.length p.vc, .slice p.i n.kids.length p.ic] 25)).alloc (.cells #[.int .i64 0, .int .i64 0, .int .i64 0, .string ⟨#[]⟩, .slice none 0 0, .slice none 0 0, .slice none 0 0] 25)) W → W.cell? ⟨w.heap.size, 0, none⟩ = some (.int .i64 n.lev) ∧ W.cell? ⟨w.heap.size, 1, none⟩ = some (.int .i64 n.lsn) ∧ W.cell? ⟨w.heap.size, 2, none⟩ = some (.int .i64 n.rgt) ∧ W.cell? ⟨w.heap.size, 3, none⟩ = some (.string n.high) ∧ W.cell? ⟨w.heap.size, 4, none⟩ = some (.slice p.k n.keys.length p.kc) ∧ W.cell? ⟨w.heap.size, 5, none⟩ = some (.slice p.v n.vals.length p.vc) ∧ W.cell? ⟨w.heap.size, 6, none⟩ = some (.slice p.i n.kids.length p.ic)) := fun W f => box_cells (box_at w n p 25 (((Fr.refl _ _).alloc _).seq' f))
  have HRB : Hid (∀ W, Fr (fun _ => False) ((w.alloc (.cells #[.int .i64 n.lev, .int .i64 n.lsn, .int .i64 n.rgt, .string n.high, .slice p.k n.keys.length p.kc, .slice p.v n.vals.length p.vc, .slice p.i n.kids.length p.ic] 25)).alloc (.cells #[.int .i64 0, .int .i64 0, .int .i64 0, .string ⟨#[]⟩, .slice none 0 0, .slice none 0 0, .slice none 0 0] 25)) W → W.heap[w.heap.size + 1]? = some (.cells #[.int .i64 0, .int .i64 0, .int .i64 0, .string ⟨#[]⟩, .slice none 0 0, .slice none 0 0, .slice none 0 0] 25 (0, 0))) := fun W f => by
    refine f.blk ?_ (fun f => f)
    have := heap_alloc_new (w.alloc (.cells #[.int .i64 n.lev, .int .i64 n.lsn, .int .i64 n.rgt, .string n.high, .slice p.k n.keys.length p.kc, .slice p.v n.vals.length p.vc, .slice p.i n.kids.length p.ic] 25)) (.cells #[.int .i64 0, .int .i64 0, .int .i64 0, .string ⟨#[]⟩, .slice none 0 0, .slice none 0 0, .slice none 0 0] 25)
    rw [show (w.alloc (.cells #[.int .i64 n.lev, .int .i64 n.lsn, .int .i64 n.rgt, .string n.high, .slice p.k n.keys.length p.kc, .slice p.v n.vals.length p.vc, .slice p.i n.kids.length p.ic] 25)).heap.size = w.heap.size + 1 by simp] at this
    exact this
  have hh := high_le h
  have ha := asked_any n p k ⟨#[]⟩ 1 0 1 (by omega) hh hk _ (h.same f0)
  rw [show ((evalu (ByteArray.mk #[]).size : Nat) : Int) = 0 from rfl, show nuE 1 = 0 from rfl] at ha
  have HOK : Hid (askE n k 0 0 1 = 0 → Rt n ∧ n.lev = 0) := fun h => ⟨(ask_ok h).1, ask1_leaf h⟩
  generalize askE n k 0 0 1 = ae at *
  go_enter Try.func28, Try.ntmps28
  go_wp2_with fail
  refine ha.mono ?_
  rintro e w1 ⟨rfl, f1⟩
  clear ha
  obtain ⟨c0, c1, c2, c3, c4, c5, c6⟩ := HB.out _ f1
  by_cases hae : ae = 0
  · subst hae
    obtain ⟨hr, hlev⟩ := HOK.out rfl
    have HR : Hid (Rt n ∧ n.lev = 0) := ⟨hr, hlev⟩
    have HS : Hid (srt n.keys) := hr.srt
    have HVL : Hid (n.vals.length = n.keys.length) := (hr.leaf hlev).1
    have hfew := keys_few hr
    have hkl := h.keys.le
    have hkm := h.keys.max
    clear hr hlev HOK
    go_wp2_with fail
    refine (bare_any n p _).mono ?_
    rintro e w2 ⟨rfl, f2⟩
    clear c0 c1 c2 c3 c4 c5 c6
    have F2 := f1.seq' f2
    have hrb2 : w.heap.size + 1 < w2.heap.size := by have := F2.size; simp at this; omega
    have B0 : Bx w2 (w2.alloc (.cells #[.int .i64 n.lev, .int .i64 n.lsn, .int .i64 n.rgt, .string n.high, .slice none 0 0, .slice none 0 0, .slice none 0 0] 25)) w2.heap.size (delTo n k 0) (.slice none 0 0) (.slice none 0 0) (.slice none 0 0) := Bx.start w2 (delTo n k 0) (erTo_zero _ _ _) (erTo_zero _ _ _) rfl
    obtain ⟨c0, c1, c2, c3, c4, c5, c6⟩ := HB.out _ (F2.seq' B0.fr)
    go_wp2
    go_loopw [22] (fun i wr => ∃ (j : Nat) (m : Nd) (kv vv iv : Value), j ≤ n.keys.length ∧ i = .int .i64 j ∧ Bx w2 wr w2.heap.size m kv vv iv ∧ Hid (m = delTo n k j)) (fun i _ => n.keys.length - (intOf i).toNat)
    case atStart => exact ⟨0, _, _, _, _, by omega, rfl, B0, rfl⟩
    case round =>
      obtain ⟨j, m, kv, vv, iv, hj, rfl, B, HM⟩ := hrel
      clear B0 c0 c1 c2 c3 c4 c5 c6
      have F := F2.seq' B.fr
      have hN := h.same (f0.seq' F)
      obtain ⟨c0, c1, c2, c3, c4, c5, c6⟩ := HB.out _ F
      obtain ⟨⟨k0, k1, k2, k3, k4, k5, k6⟩, fz⟩ := node_cells B.box
      by_cases hlt : j < n.keys.length
      · obtain ⟨bk, ok, ek, hbk, hck⟩ := strs_some hN.keys hlt
        have hkc := hck j hlt
        have hvi : j < n.vals.length := by have := HVL.out; omega
        have hji : (j : Int) < (n.keys.length : Int) := by omega
        have hjv : (j : Int) < (n.vals.length : Int) := by omega
        have HSB := str_beq (n.keys.getD j ByteArray.empty) k
        have HML : Hid (m.keys.length ≤ 100000 ∧ m.vals.length ≤ 100000) := by
          rw [HM.out]
          exact ⟨Nat.le_trans (erTo_len _ _ _ _) (by omega), Nat.le_trans (erTo_len _ _ _ _) (by omega)⟩
        by_cases hke : bsOf (n.keys.getD j ByteArray.empty) = bsOf k
        · have HM2 : Hid (m = delTo n k (j + 1)) := by show _ = _; rw [delTo_hit HS.out hlt hvi hke]; exact HM.out
          rw [decide_eq_true hke] at HSB
          obtain ⟨y, hy⟩ : ∃ y, y = n.keys.getD j ByteArray.empty := ⟨_, rfl⟩
          rw [← hy] at hkc HSB
          clear hy hck hke
          rw [ek]
          go_wp2
          go_roundw
          case rel => exact ⟨j + 1, m, kv, vv, iv, by omega, by go_num, B, HM2⟩
          case measure => simp [intOf]; omega
        · have HM2 : Hid (delTo n k (j + 1) = { m with keys := m.keys ++ [n.keys.getD j ByteArray.empty], vals := m.vals ++ [n.vals.getD j ByteArray.empty] }) := by show _ = _; rw [delTo_miss HS.out hlt hvi hke, HM.out]
          rw [decide_eq_false hke] at HSB
          obtain ⟨y, hy⟩ : ∃ y, y = n.keys.getD j ByteArray.empty := ⟨_, rfl⟩
          obtain ⟨v, hv⟩ : ∃ v, v = n.vals.getD j ByteArray.empty := ⟨_, rfl⟩
          rw [← hy] at hkc HSB HM2
          rw [← hv] at HM2
          have HV : Hid (v = n.vals.getD j ByteArray.empty) := hv
          clear hy hv hck hke
          obtain ⟨a7, c7, w7, hap, q7, z7, B7⟩ := B.key y HML.out.1
          rw [ek]
          go_wp2_with (at_builtin; refine wpList_append_run rfl _ _ 22 22 rfl (by rfl) (by rfl) hap ?_)
          obtain ⟨W8, hW8⟩ : ∃ W, W = w7.setCell ⟨w2.heap.size, 4, none⟩ (.slice a7 (m.keys.length + 1) c7) := ⟨_, rfl⟩
          rw [← hW8] at B7 ⊢
          clear hW8 hap q7 z7 k0 k1 k2 k3 k4 k5 k6 fz c0 c1 c2 c3 c4 c5 c6 hkc hbk
          have F8 := F2.seq' B7.fr
          have hN8 := h.same (f0.seq' F8)
          obtain ⟨bw, ow, ew, hbw, hcw⟩ := strs_some hN8.vals hvi
          have hvc := hcw j hvi
          obtain ⟨d0, d1, d2, d3, d4, d5, d6⟩ := HB.out _ F8
          rw [ew] at d5
          rw [← HV.out] at hvc
          obtain ⟨⟨k0, k1, k2, k3, k4, k5, k6⟩, fz⟩ := node_cells B7.box
          obtain ⟨⟨p0, p1, p2, p3, p4, p5, p6⟩, pz⟩ := node_cells (B7.same (Fr.box W8 (.cells #[.string v] 9))).box
          obtain ⟨a9, c9, w9, hap, q9, z9, B9⟩ := (B7.same (Fr.refl (fun _ => False) W8).drew).val v HML.out.2
          clear hcw
          go_region_law
            (show (if Region.wanted { dst := _, op := .call { callee := .builtin .append, args := _, argTypes := _ }, type := _, pos := _, after := _, guard := _ } _ = true then _ else _); refine step_of (by rfl) (wp_append_run (.tmp 37) (.tmp 43) 22 22 (by rfl) (by rfl) (by rfl) hap ?_))
          all_goals
            obtain ⟨W10, hW10⟩ : ∃ W, W = w9.setCell ⟨w2.heap.size, 5, none⟩ (.slice a9 (m.vals.length + 1) c9) := ⟨_, rfl⟩
            rw [← hW10] at B9 ⊢
            clear hW10 hap q9 z9 k0 k1 k2 k3 k4 k5 k6 fz p0 p1 p2 p3 p4 p5 p6 pz d0 d1 d2 d3 d4 d5 d6 hvc hbw
            go_wp2
            go_roundw
            case rel => exact ⟨_, _, .int .i64 ((j : Int) + 1), ⟨j + 1, by omega, by go_num, _, ⟨_, _, _, B9⟩, HM2.out.symm⟩, rfl, rfl, rfl⟩
            case measure => simp [intOf]; omega
      · have HD : Hid (m = delN n k) := by
          show _ = _
          rw [HM.out, show j = n.keys.length by omega]; rfl
        obtain ⟨⟨s0, s1, s2, s3, s4, s5, s6⟩, sz⟩ := node_cells (HRB.out _ F)
        have y0 := sz 0; have y1 := sz 1; have y2 := sz 2; have y3 := sz 3; have y4 := sz 4; have y5 := sz 5; have y6 := sz 6
        obtain ⟨pf, ⟨e1, e2, e3⟩, hq, nd, ff⟩ := B.done (w1 := w) (rb := w.heap.size + 1) (by rw [HM.out]; exact delTo_short HR.out.1 HR.out.2) (by rw [HM.out]; exact Nat.le_trans (erTo_len _ _ _ _) (by omega)) (by rw [HM.out]; exact Nat.le_trans (erTo_len _ _ _ _) (by omega)) (by rw [HM.out]; exact Nat.zero_le _) (HRB.out _ F) (by omega) hrb2 (f0.seq' F2)
        subst e1; subst e2; subst e3
        clear sz
        go_wp2
        generalize ((((((wr.setCell ⟨w.heap.size + 1, 0, none⟩ (.int .i64 m.lev)).setCell ⟨w.heap.size + 1, 1, none⟩ (.int .i64 m.lsn)).setCell ⟨w.heap.size + 1, 2, none⟩ (.int .i64 m.rgt)).setCell ⟨w.heap.size + 1, 3, none⟩ (.string m.high)).setCell ⟨w.heap.size + 1, 4, none⟩ (.slice pf.k m.keys.length pf.kc)).setCell ⟨w.heap.size + 1, 5, none⟩ (.slice pf.v m.vals.length pf.vc)).setCell ⟨w.heap.size + 1, 6, none⟩ (.slice pf.i m.kids.length pf.ic) = Wf at hq nd ff ⊢
        obtain ⟨⟨q0, q1, q2, q3, q4, q5, q6⟩, _⟩ := node_cells hq
        rw [okN_ok, ← HD.out]
        exact bodyPost_ret (v := .tuple #[(.agg #[.int .i64 m.lev, .int .i64 m.lsn, .int .i64 m.rgt, .string m.high, .slice pf.k m.keys.length pf.kc, .slice pf.v m.vals.length pf.vc, .slice pf.i m.kids.length pf.ic]), .int .i64 0]) (by simp [results, Try.results28, go_sem, q0, q1, q2, q3, q4, q5, q6]) rfl ⟨pf, rfl, nd, ff⟩
  · have hne : (ae != 0) = true := by simpa using hae
    have HP0 : Hid (ae ≠ 0) := hae
    have hR6 := HRB.out _ f1
    obtain ⟨⟨s0, s1, s2, s3, s4, s5, s6⟩, sz⟩ := node_cells hR6
    have y0 := sz 0; have y1 := sz 1; have y2 := sz 2; have y3 := sz 3; have y4 := sz 4; have y5 := sz 5; have y6 := sz 6
    clear hae sz
    go_wp2
    obtain ⟨hq, ff⟩ := fin7 hR6 (.int .i64 0) (.int .i64 0) (.int .i64 0) (.string ⟨#[]⟩) (.slice none 0 0) (.slice none 0 0) (.slice none 0 0)
    have fff := (f0.seq' f1).trans ff (S := fun _ => False) (fun i hi e => by omega)
    generalize ((((((w1.setCell ⟨w.heap.size + 1, 0, none⟩ (.int .i64 0)).setCell ⟨w.heap.size + 1, 1, none⟩ (.int .i64 0)).setCell ⟨w.heap.size + 1, 2, none⟩ (.int .i64 0)).setCell ⟨w.heap.size + 1, 3, none⟩ (.string ⟨#[]⟩)).setCell ⟨w.heap.size + 1, 4, none⟩ (.slice none 0 0)).setCell ⟨w.heap.size + 1, 5, none⟩ (.slice none 0 0)).setCell ⟨w.heap.size + 1, 6, none⟩ (.slice none 0 0) = Wf at hq fff ⊢
    obtain ⟨⟨q0, q1, q2, q3, q4, q5, q6⟩, _⟩ := node_cells hq
    rw [okN_no HP0.out]
    exact bodyPost_ret (v := .tuple #[.agg #[.int .i64 0, .int .i64 0, .int .i64 0, .string ⟨#[]⟩, .slice none 0 0, .slice none 0 0, .slice none 0 0], .int .i64 ae]) (by simp [results, Try.results28, go_sem, q0, q1, q2, q3, q4, q5, q6]) rfl ⟨zp, rfl, zn_nod _, fff⟩
end Go.Proofs.Ytaaedmacefiinaa
/- What Del makes. -/
namespace Go.Proofs.Ytaaedmacefiinaa
open Go.RowKit

/-- The node is stored in its own box, with lists of its own. -/
theorem By.start {w w4 wc : World} {n : Nd} {kv vv iv r0 r1 r2 r3 r4 r5 r6 : Value} (hb : wc.heap[w.heap.size]? = some (.cells #[r0, r1, r2, r3, r4, r5, r6] 25 (0, 0))) (f : Fr (fun _ => False) w wc) (h4 : w.heap.size + 2 ≤ w4.heap.size)
    (hK : Has wc 1 kv n.keys.length (strCells n.keys)) (hV : Has wc 1 vv n.vals.length (strCells n.vals)) (hI : Has wc 1 iv n.kids.length (intCells n.kids))
    (oK : ∀ g, kv.ownBlock = some g → w4.heap.size ≤ g) (oV : ∀ g, vv.ownBlock = some g → w4.heap.size ≤ g) (oI : ∀ g, iv.ownBlock = some g → w4.heap.size ≤ g)
    (nkv : ∀ g, kv.ownBlock = some g → vv.ownBlock ≠ some g) (nki : ∀ g, kv.ownBlock = some g → iv.ownBlock ≠ some g) (nvi : ∀ g, vv.ownBlock = some g → iv.ownBlock ≠ some g) :
    By w (((((((wc.setCell ⟨w.heap.size, 0, none⟩ (.int .i64 n.lev)).setCell ⟨w.heap.size, 1, none⟩ (.int .i64 n.lsn)).setCell ⟨w.heap.size, 2, none⟩ (.int .i64 n.rgt)).setCell ⟨w.heap.size, 3, none⟩ (.string n.high)).setCell ⟨w.heap.size, 4, none⟩ kv).setCell ⟨w.heap.size, 5, none⟩ vv).setCell ⟨w.heap.size, 6, none⟩ iv) w.heap.size n kv vv iv ∧
    Fr (fun k => k = w.heap.size) wc (((((((wc.setCell ⟨w.heap.size, 0, none⟩ (.int .i64 n.lev)).setCell ⟨w.heap.size, 1, none⟩ (.int .i64 n.lsn)).setCell ⟨w.heap.size, 2, none⟩ (.int .i64 n.rgt)).setCell ⟨w.heap.size, 3, none⟩ (.string n.high)).setCell ⟨w.heap.size, 4, none⟩ kv).setCell ⟨w.heap.size, 5, none⟩ vv).setCell ⟨w.heap.size, 6, none⟩ iv) := by
  obtain ⟨hq, ff⟩ := fin7 hb (.int .i64 n.lev) (.int .i64 n.lsn) (.int .i64 n.rgt) (.string n.high) kv vv iv
  exact ⟨⟨⟨hq, Nat.le_refl _, hK.fr ff (fun g e e2 => by have := oK g e; omega), hV.fr ff (fun g e e2 => by have := oV g e; omega), hI.fr ff (fun g e e2 => by have := oI g e; omega), (fun g e => by have := oK g e; omega), (fun g e => by have := oV g e; omega), (fun g e => by have := oI g e; omega), nkv, nki, nvi, f.trans ff (S := fun _ => False) (fun i hi e => by omega)⟩, (fun g e => by have := oK g e; omega), (fun g e => by have := oV g e; omega), (fun g e => by have := oI g e; omega)⟩, ff⟩
theorem rt_short {n : Nd} (r : Rt n) (h0 : n.lev = 0) : Short n :=
  ⟨by have := r.high; omega, fun s hs => Nat.le_trans (size_of_mem (fun i hi => (r.keys i hi).1.2) s hs) (by omega), fun s hs => Nat.le_trans (size_of_mem (r.leaf h0).2.2 s hs) (by omega)⟩
theorem erTo_false {α : Type} (i j : Nat) (l : List α) (h : l.length ≤ j) : erTo false i j l = l := by unfold erTo; rw [if_neg (by simp), List.take_of_length_le h]
theorem erTo_true {α : Type} (i j : Nat) (l : List α) (h : l.length ≤ j) (hi : i < l.length) : erTo true i j l = l.eraseIdx i := by unfold erTo; rw [if_pos ⟨rfl, by omega⟩, List.take_of_length_le h]
theorem delN_none {n : Nd} {k : ByteArray} (r : Rt n) (h0 : n.lev = 0) (hf : (plc (bsOf k) n.keys).2 = false) : delN n k = n := by
  have hi : n.kids = [] := List.eq_nil_of_length_eq_zero (r.leaf h0).2.1
  unfold delN delTo
  rw [hf, erTo_false _ _ _ (Nat.le_refl _), erTo_false _ _ _ (by have := (r.leaf h0).1; omega), ← hi]
theorem delN_some {n : Nd} {k : ByteArray} {i : Nat} (r : Rt n) (h0 : n.lev = 0) (hi : i < n.keys.length) (hf : plc (bsOf k) n.keys = (i, true)) : delN n k = { n with keys := n.keys.eraseIdx i, vals := n.vals.eraseIdx i } := by
  have hi0 : n.kids = [] := List.eq_nil_of_length_eq_zero (r.leaf h0).2.1
  have hvl := (r.leaf h0).1
  unfold delN delTo
  rw [hf, erTo_true _ _ _ (Nat.le_refl _) hi, erTo_true _ _ _ (by omega) (by omega), ← hi0]
set_option maxRecDepth 100000 in
set_option maxHeartbeats 4000000 in
theorem del_any (n : Nd) (p : Pt) (k : ByteArray) (hk : k.size ≤ maxLen) (w : World) (h : Nod w n p) : Calls Try.prog 27 #[(.agg #[.int .i64 n.lev, .int .i64 n.lsn, .int .i64 n.rgt, .string n.high, .slice p.k n.keys.length p.kc, .slice p.v n.vals.length p.vc, .slice p.i n.kids.length p.ic]), .string k] w fun e w' => NdOut2 (okN (askE n k 0 0 1) (delN n k)) (askE n k 0 0 1) w e w' := by
  have f0 : Fr (fun _ => False) w ((w.alloc (.cells #[.int .i64 n.lev, .int .i64 n.lsn, .int .i64 n.rgt, .string n.high, .slice p.k n.keys.length p.kc, .slice p.v n.vals.length p.vc, .slice p.i n.kids.length p.ic] 25)).alloc (.cells #[.int .i64 0, .int .i64 0, .int .i64 0, .string ⟨#[]⟩, .slice none 0 0, .slice none 0 0, .slice none 0 0] 25)) := ((Fr.refl _ _).alloc _).alloc _
  have HB : Hid (∀ W, Fr (fun _ => False) ((w.alloc (.cells #[.int .i64 n.lev, .int .i64 n.lsn, .int .i64 n.rgt, .string n.high, .slice p.k n.keys.length p.kc, .slice p.v n.vals.length p.vc, .slice p.i n.kids.length p.ic] 25)).alloc (.cells #[.int .i64 0, .int .i64 0, .int .i64 0, .string ⟨#[]⟩, .slice none 0 0, .slice none 0 0, .slice none 0 0] 25)) W → W.cell? ⟨w.heap.size, 0, none⟩ = some (.int .i64 n.lev) ∧ W.cell? ⟨w.heap.size, 1, none⟩ = some (.int .i64 n.lsn) ∧ W.cell? ⟨w.heap.size, 2, none⟩ = some (.int .i64 n.rgt) ∧ W.cell? ⟨w.heap.size, 3, none⟩ = some (.string n.high) ∧ W.cell? ⟨w.heap.size, 4, none⟩ = some (.slice p.k n.keys.length p.kc) ∧ W.cell? ⟨w.heap.size, 5, none⟩ = some (.slice p.v n.vals.length p.vc) ∧ W.cell? ⟨w.heap.size, 6, none⟩ = some (.slice p.i n.kids.length p.ic)) := fun W f => box_cells (box_at w n p 25 (((Fr.refl _ _).alloc _).seq' f))
  have HBB : Hid (∀ W, Fr (fun _ => False) ((w.alloc (.cells #[.int .i64 n.lev, .int .i64 n.lsn, .int .i64 n.rgt, .string n.high, .slice p.k n.keys.length p.kc, .slice p.v n.vals.length p.vc, .slice p.i n.kids.length p.ic] 25)).alloc (.cells #[.int .i64 0, .int .i64 0, .int .i64 0, .string ⟨#[]⟩, .slice none 0 0, .slice none 0 0, .slice none 0 0] 25)) W → W.heap[w.heap.size]? = some (.cells #[.int .i64 n.lev, .int .i64 n.lsn, .int .i64 n.rgt, .string n.high, .slice p.k n.keys.length p.kc, .slice p.v n.vals.length p.vc, .slice p.i n.kids.length p.ic] 25 (0, 0))) := fun W f => box_at w n p 25 (((Fr.refl _ _).alloc _).seq' f)
  have HRB : Hid (∀ W, Fr (fun _ => False) ((w.alloc (.cells #[.int .i64 n.lev, .int .i64 n.lsn, .int .i64 n.rgt, .string n.high, .slice p.k n.keys.length p.kc, .slice p.v n.vals.length p.vc, .slice p.i n.kids.length p.ic] 25)).alloc (.cells #[.int .i64 0, .int .i64 0, .int .i64 0, .string ⟨#[]⟩, .slice none 0 0, .slice none 0 0, .slice none 0 0] 25)) W → W.heap[w.heap.size + 1]? = some (.cells #[.int .i64 0, .int .i64 0, .int .i64 0, .string ⟨#[]⟩, .slice none 0 0, .slice none 0 0, .slice none 0 0] 25 (0, 0))) := fun W f => by
    refine f.blk ?_ (fun f => f)
    have := heap_alloc_new (w.alloc (.cells #[.int .i64 n.lev, .int .i64 n.lsn, .int .i64 n.rgt, .string n.high, .slice p.k n.keys.length p.kc, .slice p.v n.vals.length p.vc, .slice p.i n.kids.length p.ic] 25)) (.cells #[.int .i64 0, .int .i64 0, .int .i64 0, .string ⟨#[]⟩, .slice none 0 0, .slice none 0 0, .slice none 0 0] 25)
    rw [show (w.alloc (.cells #[.int .i64 n.lev, .int .i64 n.lsn, .int .i64 n.rgt, .string n.high, .slice p.k n.keys.length p.kc, .slice p.v n.vals.length p.vc, .slice p.i n.kids.length p.ic] 25)).heap.size = w.heap.size + 1 by simp] at this
    exact this
  have hh := high_le h
  have fr0 := (Fr.refl (fun _ => False) ((w.alloc (.cells #[.int .i64 n.lev, .int .i64 n.lsn, .int .i64 n.rgt, .string n.high, .slice p.k n.keys.length p.kc, .slice p.v n.vals.length p.vc, .slice p.i n.kids.length p.ic] 25)).alloc (.cells #[.int .i64 0, .int .i64 0, .int .i64 0, .string ⟨#[]⟩, .slice none 0 0, .slice none 0 0, .slice none 0 0] 25))).drew
  have q0 := HB.out _ fr0
  have hN := h.same (f0.seq' fr0)
  have HA : Hid (firstE [rgE n, ekey k.size, suE n k 1] = askE n k 0 0 1) := ask_3 n k 1
  have HOK : Hid (askE n k 0 0 1 = 0 → Rt n ∧ n.lev = 0) := fun h => ⟨(ask_ok h).1, ask1_leaf h⟩
  generalize askE n k 0 0 1 = ae at *
  go_enter Try.func27, Try.ntmps27
  go_wp2_with fail
  go_region_held3 (fun W => W.cell? ⟨w.heap.size, 0, none⟩ = some (.int .i64 n.lev) ∧ W.cell? ⟨w.heap.size, 1, none⟩ = some (.int .i64 n.lsn) ∧ W.cell? ⟨w.heap.size, 2, none⟩ = some (.int .i64 n.rgt) ∧ W.cell? ⟨w.heap.size, 3, none⟩ = some (.string n.high) ∧ W.cell? ⟨w.heap.size, 4, none⟩ = some (.slice p.k n.keys.length p.kc) ∧ W.cell? ⟨w.heap.size, 5, none⟩ = some (.slice p.v n.vals.length p.vc) ∧ W.cell? ⟨w.heap.size, 6, none⟩ = some (.slice p.i n.kids.length p.ic))
    (first | with_reducible exact q0 | with_reducible exact q1 | with_reducible exact q3 | with_reducible exact q4)
    (first
      | (go_at_call 56; refine (checkNode_any n p _ hN).mono ?_; rintro e w1 ⟨rfl, m1⟩; have fr1 := fr0.seq' m1; have q1 := HB.out _ fr1)
      | (go_at_call 57; refine (kcheck_any k _).mono ?_; rintro e w2 ⟨rfl, rfl⟩)
      | (go_at_call 58; refine (suits_any n p k 1 (by omega) hh hk _).mono ?_; rintro e w3 ⟨rfl, m3⟩; have fr3 := fr1.seq' m3; have q3 := HB.out _ fr3; have fr4 := fr3.alloc (.cells #[.int .i64 (rgE n), .int .i64 (ekey k.size : Nat), .int .i64 (suE n k 1)] 27); have q4 := HB.out _ fr4)
      | (go_at_call 55; refine (first3 (rgE n) (ekey k.size : Nat) (suE n k 1) w3).mono ?_; rw [HA.out]; rintro e w5 ⟨rfl, rfl⟩))
  have hN4 := h.same (f0.seq' fr4)
  have F4 := f0.seq' fr4
  obtain ⟨c0, c1, c2, c3, c4, c5, c6⟩ := q4
  generalize w3.alloc (.cells #[.int .i64 (rgE n), .int .i64 (ekey k.size : Nat), .int .i64 (suE n k 1)] 27) = w4 at *
  clear q0 q1 q3
  by_cases hae : ae = 0
  · subst hae
    obtain ⟨r, hlev⟩ := HOK.out rfl
    have hfew := keys_few r
    have HR : Hid (Rt n ∧ n.lev = 0) := ⟨r, hlev⟩
    have HVL : Hid (n.vals.length = n.keys.length) := (r.leaf hlev).1
    have HSH : Hid (Short n) := rt_short r hlev
    have HLN : Hid (n.keys.length ≤ 100000 ∧ n.vals.length ≤ 100000 ∧ n.kids.length ≤ 100000) := ⟨by omega, by rw [(r.leaf hlev).1]; omega, by rw [(r.leaf hlev).2.1]; omega⟩
    have hcp := copied_any n p HLN.out.1 HLN.out.2.1 HLN.out.2.2 _ hN4
    have h42 : w.heap.size + 2 ≤ w4.heap.size := by have := fr4.size; simp at this; omega
    have hpl := plc_pl (k := bsOf k) r.srt
    clear r hlev HOK HA
    go_wp2_with fail
    refine hcp.mono ?_
    rintro e wc ⟨ak, ck, av, cv, ai, ci, rfl, hK, hV, hI, oK, oV, oI, nkv, nki, nvi, fc⟩
    clear c0 c1 c2 c3 c4 c5 c6
    have frc := fr4.seq' fc
    have hbc := HBB.out _ frc
    have hRc := HRB.out _ frc
    obtain ⟨Y, fY⟩ := By.start hbc (f0.seq' frc) h42 hK hV hI oK oV oI nkv nki nvi
    have hRY := fY.blk hRc (by omega)
    have hszY : w.heap.size + 1 < wc.heap.size := by have := fc.size; omega
    obtain ⟨⟨c0, c1, c2, c3, c4, c5, c6⟩, cz⟩ := node_cells hbc
    have y0 := cz 0; have y1 := cz 1; have y2 := cz 2; have y3 := cz 3; have y4 := cz 4; have y5 := cz 5; have y6 := cz 6
    have hszY2 := fY.size
    obtain ⟨WY, hWY⟩ : ∃ W, W = ((((((wc.setCell ⟨w.heap.size, 0, none⟩ (.int .i64 n.lev)).setCell ⟨w.heap.size, 1, none⟩ (.int .i64 n.lsn)).setCell ⟨w.heap.size, 2, none⟩ (.int .i64 n.rgt)).setCell ⟨w.heap.size, 3, none⟩ (.string n.high)).setCell ⟨w.heap.size, 4, none⟩ (.slice ak n.keys.length ck)).setCell ⟨w.heap.size, 5, none⟩ (.slice av n.vals.length cv)).setCell ⟨w.heap.size, 6, none⟩ (.slice ai n.kids.length ci) := ⟨_, rfl⟩
    rw [← hWY] at Y hRY hszY2
    have HWY : Hid (WY = ((((((wc.setCell ⟨w.heap.size, 0, none⟩ (.int .i64 n.lev)).setCell ⟨w.heap.size, 1, none⟩ (.int .i64 n.lsn)).setCell ⟨w.heap.size, 2, none⟩ (.int .i64 n.rgt)).setCell ⟨w.heap.size, 3, none⟩ (.string n.high)).setCell ⟨w.heap.size, 4, none⟩ (.slice ak n.keys.length ck)).setCell ⟨w.heap.size, 5, none⟩ (.slice av n.vals.length cv)).setCell ⟨w.heap.size, 6, none⟩ (.slice ai n.kids.length ci)) := hWY
    have hpc := place_any ak n.keys.length ck n.keys rfl k hk WY (CpS.strs Y.keys HSH.out.keys)
    clear hWY cz fY
    go_wp2_with fail
    rw [← HWY.out]
    obtain ⟨pi, pf, hpe⟩ : ∃ pi pf, plc (bsOf k) n.keys = (pi, pf) := ⟨_, _, rfl⟩
    have HPE : Hid (plc (bsOf k) n.keys = (pi, pf)) := hpe
    rw [hpe] at hpl hpc
    simp only at hpl hpc
    refine hpc.mono ?_
    rintro e w6 ⟨rfl, f6⟩
    have Y6 := Y.same f6
    have hR6 := f6.blk hRY (fun f => f)
    have hs6 : w.heap.size + 1 < w6.heap.size := by have := f6.size; omega
    clear c0 c1 c2 c3 c4 c5 c6 y0 y1 y2 y3 y4 y5 y6 hpc hpe hbc hRc hRY Y hK hV hI oK oV oI nkv nki nvi HWY
    obtain ⟨⟨d0, d1, d2, d3, d4, d5, d6⟩, _⟩ := node_cells Y6.box
    cases pf
    · have HD : Hid (delN n k = n) := delN_none HR.out.1 HR.out.2 (by rw [HPE.out])
      obtain ⟨⟨s0, s1, s2, s3, s4, s5, s6⟩, sz⟩ := node_cells hR6
      have y0 := sz 0; have y1 := sz 1; have y2 := sz 2; have y3 := sz 3; have y4 := sz 4; have y5 := sz 5; have y6 := sz 6
      obtain ⟨pf, ⟨e1, e2, e3⟩, hq, nd, ff⟩ := Y6.done HSH.out HLN.out.1 HLN.out.2.1 HLN.out.2.2 hR6
      simp only [Value.slice.injEq, true_and] at e1 e2 e3
      obtain ⟨rfl, rfl⟩ := e1
      obtain ⟨rfl, rfl⟩ := e2
      obtain ⟨rfl, rfl⟩ := e3
      clear sz
      go_wp2
      generalize ((((((w6.setCell ⟨w.heap.size + 1, 0, none⟩ (.int .i64 n.lev)).setCell ⟨w.heap.size + 1, 1, none⟩ (.int .i64 n.lsn)).setCell ⟨w.heap.size + 1, 2, none⟩ (.int .i64 n.rgt)).setCell ⟨w.heap.size + 1, 3, none⟩ (.string n.high)).setCell ⟨w.heap.size + 1, 4, none⟩ (.slice pf.k n.keys.length pf.kc)).setCell ⟨w.heap.size + 1, 5, none⟩ (.slice pf.v n.vals.length pf.vc)).setCell ⟨w.heap.size + 1, 6, none⟩ (.slice pf.i n.kids.length pf.ic) = Wf at hq nd ff ⊢
      obtain ⟨⟨q0, q1, q2, q3, q4, q5, q6⟩, _⟩ := node_cells hq
      rw [okN_ok, HD.out]
      exact bodyPost_ret (v := .tuple #[(.agg #[.int .i64 n.lev, .int .i64 n.lsn, .int .i64 n.rgt, .string n.high, .slice pf.k n.keys.length pf.kc, .slice pf.v n.vals.length pf.vc, .slice pf.i n.kids.length pf.ic]), .int .i64 0]) (by simp [results, Try.results27, go_sem, q0, q1, q2, q3, q4, q5, q6]) rfl ⟨pf, rfl, nd, ff⟩
    · have hpi := (hpl.eq rfl).1
      have HD : Hid (delN n k = { n with keys := n.keys.eraseIdx pi, vals := n.vals.eraseIdx pi }) := delN_some HR.out.1 HR.out.2 hpi HPE.out
      have hpv : pi < n.vals.length := by rw [HVL.out]; exact hpi
      have HLE : Hid ((n.keys.eraseIdx pi).length = n.keys.length - 1) := by show _ = _; rw [List.length_eraseIdx, if_pos hpi]
      have HLV : Hid ((n.vals.eraseIdx pi).length = n.vals.length - 1) := by show _ = _; rw [List.length_eraseIdx, if_pos hpv]
      have HSE : Hid (Short { n with keys := n.keys.eraseIdx pi, vals := n.vals.eraseIdx pi }) := ⟨HSH.out.high, fun s hs => HSH.out.keys s (List.mem_of_mem_eraseIdx hs), fun s hs => HSH.out.vals s (List.mem_of_mem_eraseIdx hs)⟩
      have hdl := delete_s _ n.keys pi w6 Y6.keys hpi
      rw [show (((pi + 1 : Nat)) : Int) = (pi : Int) + 1 by omega] at hdl
      have hpb : (pi : Int) + 1 ≤ 100000 := by omega
      clear hpl
      go_wp2_with fail
      refine hdl.mono ?_
      rintro e w7 ⟨a7, c7, rfl, h7, f7, o7⟩
      rw [← HLE.out] at h7 o7 ⊢
      obtain ⟨hb7, Y7⟩ := Y6.newk hs6 h7 f7 o7
      have hR7 := f7.blk hR6 (fun e => by have := Y6.ok2 _ e; omega)
      have hR8 := ((Fr.refl (fun k => k = w.heap.size) w7).setCell (p := ⟨w.heap.size, 4, none⟩) (fun _ => rfl) (.slice a7 (n.keys.eraseIdx pi).length c7)).blk hR7 (by omega)
      have hs7 : w.heap.size + 1 < w7.heap.size := by have := f7.size; omega
      have hs8 : w.heap.size + 1 < (w7.setCell ⟨w.heap.size, 4, none⟩ (.slice a7 (n.keys.eraseIdx pi).length c7)).heap.size := by simpa [World.setCell] using hs7
      clear d0 d1 d2 d3 d4 d5 d6
      obtain ⟨⟨d0, d1, d2, d3, d4, d5, d6⟩, dz⟩ := node_cells hb7
      have z4 := dz 4
      obtain ⟨W8, hW8⟩ : ∃ W, W = w7.setCell ⟨w.heap.size, 4, none⟩ (.slice a7 (n.keys.eraseIdx pi).length c7) := ⟨_, rfl⟩
      have HW8 : Hid (W8 = w7.setCell ⟨w.heap.size, 4, none⟩ (.slice a7 (n.keys.eraseIdx pi).length c7)) := hW8
      rw [← hW8] at Y7 hR8 hs8
      have hdv := delete_s _ n.vals pi W8 Y7.vals hpv
      rw [show (((pi + 1 : Nat)) : Int) = (pi : Int) + 1 by omega] at hdv
      clear dz hW8 hdl
      go_wp2_with fail
      rw [← HW8.out]
      refine hdv.mono ?_
      rintro e w9 ⟨a9, c9, rfl, h9, f9, o9⟩
      rw [← HLV.out] at h9 o9 ⊢
      obtain ⟨hb9, Y9⟩ := Y7.newv hs8 h9 f9 o9
      have hR9 := f9.blk hR8 (fun e => by have := Y7.ov2 _ e; omega)
      have hRA := ((Fr.refl (fun k => k = w.heap.size) w9).setCell (p := ⟨w.heap.size, 5, none⟩) (fun _ => rfl) (.slice a9 (n.vals.eraseIdx pi).length c9)).blk hR9 (by omega)
      clear d0 d1 d2 d3 d4 d5 d6 z4
      obtain ⟨⟨d0, d1, d2, d3, d4, d5, d6⟩, dz⟩ := node_cells hb9
      have z5 := dz 5
      obtain ⟨⟨s0, s1, s2, s3, s4, s5, s6⟩, sz⟩ := node_cells hR9
      have y0 := sz 0; have y1 := sz 1; have y2 := sz 2; have y3 := sz 3; have y4 := sz 4; have y5 := sz 5; have y6 := sz 6
      obtain ⟨pf, ⟨e1, e2, e3⟩, hq, nd, ff⟩ := Y9.done HSE.out (by show (n.keys.eraseIdx pi).length ≤ _; rw [HLE.out]; have := HLN.out.1; omega) (by show (n.vals.eraseIdx pi).length ≤ _; rw [HLV.out]; have := HLN.out.2.1; omega) HLN.out.2.2 hRA
      simp only [Value.slice.injEq, true_and] at e1 e2 e3
      obtain ⟨rfl, rfl⟩ := e1
      obtain ⟨rfl, rfl⟩ := e2
      obtain ⟨rfl, rfl⟩ := e3
      clear sz dz hdv
      simp only at hq nd ff
      go_wp2
      generalize (((((((w9.setCell ⟨w.heap.size, 5, none⟩ (.slice pf.v (n.vals.eraseIdx pi).length pf.vc)).setCell ⟨w.heap.size + 1, 0, none⟩ (.int .i64 n.lev)).setCell ⟨w.heap.size + 1, 1, none⟩ (.int .i64 n.lsn)).setCell ⟨w.heap.size + 1, 2, none⟩ (.int .i64 n.rgt)).setCell ⟨w.heap.size + 1, 3, none⟩ (.string n.high)).setCell ⟨w.heap.size + 1, 4, none⟩ (.slice pf.k (n.keys.eraseIdx pi).length pf.kc)).setCell ⟨w.heap.size + 1, 5, none⟩ (.slice pf.v (n.vals.eraseIdx pi).length pf.vc)).setCell ⟨w.heap.size + 1, 6, none⟩ (.slice pf.i n.kids.length pf.ic) = Wf at hq nd ff ⊢
      obtain ⟨⟨q0, q1, q2, q3, q4, q5, q6⟩, _⟩ := node_cells hq
      rw [okN_ok, HD.out]
      exact bodyPost_ret (v := .tuple #[.agg #[.int .i64 n.lev, .int .i64 n.lsn, .int .i64 n.rgt, .string n.high, .slice pf.k (n.keys.eraseIdx pi).length pf.kc, .slice pf.v (n.vals.eraseIdx pi).length pf.vc, .slice pf.i n.kids.length pf.ic], .int .i64 0]) (by simp [results, Try.results27, go_sem, q0, q1, q2, q3, q4, q5, q6]) rfl ⟨pf, rfl, nd, ff⟩
  · have hne : (ae != 0) = true := by simpa using hae
    have HP0 : Hid (ae ≠ 0) := hae
    have hR6 := HRB.out _ fr4
    obtain ⟨⟨s0, s1, s2, s3, s4, s5, s6⟩, sz⟩ := node_cells hR6
    have y0 := sz 0; have y1 := sz 1; have y2 := sz 2; have y3 := sz 3; have y4 := sz 4; have y5 := sz 5; have y6 := sz 6
    clear hae sz
    go_wp2
    obtain ⟨hq, ff⟩ := fin7 hR6 (.int .i64 0) (.int .i64 0) (.int .i64 0) (.string ⟨#[]⟩) (.slice none 0 0) (.slice none 0 0) (.slice none 0 0)
    have fff := (f0.seq' fr4).trans ff (S := fun _ => False) (fun i hi e => by omega)
    generalize ((((((w4.setCell ⟨w.heap.size + 1, 0, none⟩ (.int .i64 0)).setCell ⟨w.heap.size + 1, 1, none⟩ (.int .i64 0)).setCell ⟨w.heap.size + 1, 2, none⟩ (.int .i64 0)).setCell ⟨w.heap.size + 1, 3, none⟩ (.string ⟨#[]⟩)).setCell ⟨w.heap.size + 1, 4, none⟩ (.slice none 0 0)).setCell ⟨w.heap.size + 1, 5, none⟩ (.slice none 0 0)).setCell ⟨w.heap.size + 1, 6, none⟩ (.slice none 0 0) = Wf at hq fff ⊢
    obtain ⟨⟨q0, q1, q2, q3, q4, q5, q6⟩, _⟩ := node_cells hq
    rw [okN_no HP0.out]
    exact bodyPost_ret (v := .tuple #[.agg #[.int .i64 0, .int .i64 0, .int .i64 0, .string ⟨#[]⟩, .slice none 0 0, .slice none 0 0, .slice none 0 0], .int .i64 ae]) (by simp [results, Try.results27, go_sem, q0, q1, q2, q3, q4, q5, q6]) rfl ⟨zp, rfl, zn_nod _, fff⟩
end Go.Proofs.Ytaaedmacefiinaa
