
/- RdChange. -/
import Derived.Test.YtnckmajfmkkpgaaGreatBB24
import Derived.Test.YtnckmajfmkkpgaaGreatBB26
import Derived.Test.YtnckmajfmkkpgaaGreatBB25
import Derived.Test.YtnckmajfmkkpgaaGreatBB27
import Derived.Test.YtnckmajfmkkpgaaGreatBB18
import Derived.Deep.DeepCutAuto
/- What a record makes of its page's node. -/
namespace Go.Proofs.YtnckmajfmkkpgaaGreat
open Go.RowKit
set_option linter.unusedVariables false

theorem three_at (w : World) (A B C : Obj) {W : World} (f : Fr (fun _ => False) (((w.alloc A).alloc B).alloc C) W) : W.heap[w.heap.size]? = some A ∧ W.heap[w.heap.size + 1]? = some B ∧ W.heap[w.heap.size + 2]? = some C := by
  have h1 := heap_alloc_new w A
  have h2 := heap_alloc_new (w.alloc A) B
  have h3 := heap_alloc_new ((w.alloc A).alloc B) C
  rw [show (w.alloc A).heap.size = w.heap.size + 1 by simp] at h2
  rw [show ((w.alloc A).alloc B).heap.size = w.heap.size + 2 by simp] at h3
  exact ⟨(((Fr.refl (fun _ => False) (w.alloc A)).alloc B).alloc C |>.seq' f).blk h1 (fun f => f), (((Fr.refl (fun _ => False) ((w.alloc A).alloc B)).alloc C).seq' f).blk h2 (fun f => f), f.blk h3 (fun f => f)⟩
/-- A node as an answer of two: it is stored as the answer, at the block behind both boxes. -/
theorem ans_two {w w1 : World} {m : Nd} {q : Pt} {A B : Obj} (nd : Nod w1 m q) (f1 : Fr (fun _ => False) (((w.alloc A).alloc B).alloc (.cells #[.int .i64 0, .int .i64 0, .int .i64 0, .string ⟨#[]⟩, .slice none 0 0, .slice none 0 0, .slice none 0 0] 28)) w1) (hnw : Nw (((w.alloc A).alloc B).alloc (.cells #[.int .i64 0, .int .i64 0, .int .i64 0, .string ⟨#[]⟩, .slice none 0 0, .slice none 0 0, .slice none 0 0] 28)) q) :
    (((((((w1.setCell ⟨w.heap.size + 2, 0, none⟩ (.int .i64 m.lev)).setCell ⟨w.heap.size + 2, 1, none⟩ (.int .i64 m.lsn)).setCell ⟨w.heap.size + 2, 2, none⟩ (.int .i64 m.rgt)).setCell ⟨w.heap.size + 2, 3, none⟩ (.string m.high)).setCell ⟨w.heap.size + 2, 4, none⟩ (.slice q.k m.keys.length q.kc)).setCell ⟨w.heap.size + 2, 5, none⟩ (.slice q.v m.vals.length q.vc)).setCell ⟨w.heap.size + 2, 6, none⟩ (.slice q.i m.kids.length q.ic)).heap[w.heap.size + 2]? = some (.cells #[.int .i64 m.lev, .int .i64 m.lsn, .int .i64 m.rgt, .string m.high, .slice q.k m.keys.length q.kc, .slice q.v m.vals.length q.vc, .slice q.i m.kids.length q.ic] 28 (0, 0)) ∧
    Nod (((((((w1.setCell ⟨w.heap.size + 2, 0, none⟩ (.int .i64 m.lev)).setCell ⟨w.heap.size + 2, 1, none⟩ (.int .i64 m.lsn)).setCell ⟨w.heap.size + 2, 2, none⟩ (.int .i64 m.rgt)).setCell ⟨w.heap.size + 2, 3, none⟩ (.string m.high)).setCell ⟨w.heap.size + 2, 4, none⟩ (.slice q.k m.keys.length q.kc)).setCell ⟨w.heap.size + 2, 5, none⟩ (.slice q.v m.vals.length q.vc)).setCell ⟨w.heap.size + 2, 6, none⟩ (.slice q.i m.kids.length q.ic)) m q ∧
    Fr (fun _ => False) w (((((((w1.setCell ⟨w.heap.size + 2, 0, none⟩ (.int .i64 m.lev)).setCell ⟨w.heap.size + 2, 1, none⟩ (.int .i64 m.lsn)).setCell ⟨w.heap.size + 2, 2, none⟩ (.int .i64 m.rgt)).setCell ⟨w.heap.size + 2, 3, none⟩ (.string m.high)).setCell ⟨w.heap.size + 2, 4, none⟩ (.slice q.k m.keys.length q.kc)).setCell ⟨w.heap.size + 2, 5, none⟩ (.slice q.v m.vals.length q.vc)).setCell ⟨w.heap.size + 2, 6, none⟩ (.slice q.i m.kids.length q.ic)) ∧ Nw w q := by
  have hR := (three_at w A B _ f1).2.2
  obtain ⟨hq, ff⟩ := fin7 hR (.int .i64 m.lev) (.int .i64 m.lsn) (.int .i64 m.rgt) (.string m.high) (.slice q.k m.keys.length q.kc) (.slice q.v m.vals.length q.vc) (.slice q.i m.kids.length q.ic)
  have f0 : Fr (fun _ => False) w (((w.alloc A).alloc B).alloc (.cells #[.int .i64 0, .int .i64 0, .int .i64 0, .string ⟨#[]⟩, .slice none 0 0, .slice none 0 0, .slice none 0 0] 28)) := (((Fr.refl _ _).alloc _).alloc _).alloc _
  have hsz : (((w.alloc A).alloc B).alloc (.cells #[.int .i64 0, .int .i64 0, .int .i64 0, .string ⟨#[]⟩, .slice none 0 0, .slice none 0 0, .slice none 0 0] 28)).heap.size = w.heap.size + 3 := by simp
  have hfar : ∀ b off, (q.k = some ⟨b, off, none⟩ ∨ q.v = some ⟨b, off, none⟩ ∨ q.i = some ⟨b, off, none⟩) → w.heap.size + 3 ≤ b := fun b off hx => by have := hnw b off hx; rw [hsz] at this; exact this
  exact ⟨hq, nd_far nd ff (fun b off hx => by have := hfar b off hx; omega), (f0.seq' f1).trans ff (S := fun _ => False) (fun i hi e => by omega), fun b off hx => by have := hfar b off hx; omega⟩
/-- Why a record cannot be done, and what it makes. -/
def chE (n : Nd) (r : Rec) : Int := if r.kind = 2 then putE n r.key r.val else if r.kind = 3 then askE n r.key 0 0 1 else if r.kind = 5 then lrE n r.key (nuE r.other) else if r.kind = 6 then postE n r.key r.other else if (decF (bsOf r.val)).isSome = true then 0 else 60
def chN (n : Nd) (r : Rec) : Nd := if r.kind = 2 then okN (putE n r.key r.val) (putN n r.key r.val) else if r.kind = 3 then okN (askE n r.key 0 0 1) (delN n r.key) else if r.kind = 5 then okN (lrE n r.key (nuE r.other)) (leftN n r.key r.other) else if r.kind = 6 then okN (postE n r.key r.other) (postN n r.key r.other) else (decF (bsOf r.val)).getD zn
set_option maxRecDepth 100000 in
set_option maxHeartbeats 2000000 in
theorem change_2 (n : Nd) (p : Pt) (lsn ep page other req : Int) (key val : ByteArray) (hkz : key.size ≤ 140737488351232) (hvz : val.size ≤ 140737488351232) (w : World) (h : Nod w n p) : Calls Tryz.prog 57 #[(.agg #[.int .i64 n.lev, .int .i64 n.lsn, .int .i64 n.rgt, .string n.high, .slice p.k n.keys.length p.kc, .slice p.v n.vals.length p.vc, .slice p.i n.kids.length p.ic]), .agg #[.int .i64 lsn, .int .i64 ep, .int .i64 2, .int .i64 page, .int .i64 other, .int .i64 req, .string key, .string val]] w fun e w' => NdOut2 (okN (putE n key val) (putN n key val)) (putE n key val) w e w' := by
  have hk : key.size ≤ maxLen := Nat.le_trans hkz (by decide)
  have h0 := h.same (show Fr (fun _ => False) w (((w.alloc (.cells #[.int .i64 n.lev, .int .i64 n.lsn, .int .i64 n.rgt, .string n.high, .slice p.k n.keys.length p.kc, .slice p.v n.vals.length p.vc, .slice p.i n.kids.length p.ic] 28)).alloc (.cells #[.int .i64 lsn, .int .i64 ep, .int .i64 2, .int .i64 page, .int .i64 other, .int .i64 req, .string key, .string val] 35)).alloc (.cells #[.int .i64 0, .int .i64 0, .int .i64 0, .string ⟨#[]⟩, .slice none 0 0, .slice none 0 0, .slice none 0 0] 28)) from (((Fr.refl _ _).alloc _).alloc _).alloc _)
  have HT : Hid (∀ W, Fr (fun _ => False) (((w.alloc (.cells #[.int .i64 n.lev, .int .i64 n.lsn, .int .i64 n.rgt, .string n.high, .slice p.k n.keys.length p.kc, .slice p.v n.vals.length p.vc, .slice p.i n.kids.length p.ic] 28)).alloc (.cells #[.int .i64 lsn, .int .i64 ep, .int .i64 2, .int .i64 page, .int .i64 other, .int .i64 req, .string key, .string val] 35)).alloc (.cells #[.int .i64 0, .int .i64 0, .int .i64 0, .string ⟨#[]⟩, .slice none 0 0, .slice none 0 0, .slice none 0 0] 28)) W → W.heap[w.heap.size + 2]? = some (.cells #[.int .i64 0, .int .i64 0, .int .i64 0, .string ⟨#[]⟩, .slice none 0 0, .slice none 0 0, .slice none 0 0] 28 (0, 0))) := fun W f => (three_at w _ _ _ f).2.2
  have hc := put_any n p key val hk _ h0
  unfold NdOut2
  generalize (okN (putE n key val) (putN n key val)) = mo at *
  generalize (putE n key val) = fe at *
  skip
  go_enter Tryz.func57, Tryz.ntmps57
  go_wp2_with fail
  refine hc.mono ?_
  rintro e w1 ⟨q, rfl, nd, f1, hnw⟩
  obtain ⟨⟨s0, s1, s2, s3, s4, s5, s6⟩, sz⟩ := node_cells (HT.out _ f1)
  have y0 := sz 0; have y1 := sz 1; have y2 := sz 2; have y3 := sz 3; have y4 := sz 4; have y5 := sz 5; have y6 := sz 6
  clear sz
  obtain ⟨hq, ndf, fff, hn⟩ := ans_two nd f1 hnw
  go_wp2
  generalize ((((((w1.setCell ⟨w.heap.size + 2, 0, none⟩ (.int .i64 mo.lev)).setCell ⟨w.heap.size + 2, 1, none⟩ (.int .i64 mo.lsn)).setCell ⟨w.heap.size + 2, 2, none⟩ (.int .i64 mo.rgt)).setCell ⟨w.heap.size + 2, 3, none⟩ (.string mo.high)).setCell ⟨w.heap.size + 2, 4, none⟩ (.slice q.k mo.keys.length q.kc)).setCell ⟨w.heap.size + 2, 5, none⟩ (.slice q.v mo.vals.length q.vc)).setCell ⟨w.heap.size + 2, 6, none⟩ (.slice q.i mo.kids.length q.ic) = Wf at hq ndf fff ⊢
  obtain ⟨⟨q0, q1, q2, q3, q4, q5, q6⟩, _⟩ := node_cells hq
  exact bodyPost_ret (v := .tuple #[(.agg #[.int .i64 mo.lev, .int .i64 mo.lsn, .int .i64 mo.rgt, .string mo.high, .slice q.k mo.keys.length q.kc, .slice q.v mo.vals.length q.vc, .slice q.i mo.kids.length q.ic]), .int .i64 fe]) (by simp [results, Tryz.results57, go_sem, q0, q1, q2, q3, q4, q5, q6]) rfl ⟨q, rfl, ndf, fff, hn⟩
set_option maxRecDepth 100000 in
set_option maxHeartbeats 2000000 in
theorem change_3 (n : Nd) (p : Pt) (lsn ep page other req : Int) (key val : ByteArray) (hkz : key.size ≤ 140737488351232) (hvz : val.size ≤ 140737488351232) (w : World) (h : Nod w n p) : Calls Tryz.prog 57 #[(.agg #[.int .i64 n.lev, .int .i64 n.lsn, .int .i64 n.rgt, .string n.high, .slice p.k n.keys.length p.kc, .slice p.v n.vals.length p.vc, .slice p.i n.kids.length p.ic]), .agg #[.int .i64 lsn, .int .i64 ep, .int .i64 3, .int .i64 page, .int .i64 other, .int .i64 req, .string key, .string val]] w fun e w' => NdOut2 (okN (askE n key 0 0 1) (delN n key)) (askE n key 0 0 1) w e w' := by
  have hk : key.size ≤ maxLen := Nat.le_trans hkz (by decide)
  have h0 := h.same (show Fr (fun _ => False) w (((w.alloc (.cells #[.int .i64 n.lev, .int .i64 n.lsn, .int .i64 n.rgt, .string n.high, .slice p.k n.keys.length p.kc, .slice p.v n.vals.length p.vc, .slice p.i n.kids.length p.ic] 28)).alloc (.cells #[.int .i64 lsn, .int .i64 ep, .int .i64 3, .int .i64 page, .int .i64 other, .int .i64 req, .string key, .string val] 35)).alloc (.cells #[.int .i64 0, .int .i64 0, .int .i64 0, .string ⟨#[]⟩, .slice none 0 0, .slice none 0 0, .slice none 0 0] 28)) from (((Fr.refl _ _).alloc _).alloc _).alloc _)
  have HT : Hid (∀ W, Fr (fun _ => False) (((w.alloc (.cells #[.int .i64 n.lev, .int .i64 n.lsn, .int .i64 n.rgt, .string n.high, .slice p.k n.keys.length p.kc, .slice p.v n.vals.length p.vc, .slice p.i n.kids.length p.ic] 28)).alloc (.cells #[.int .i64 lsn, .int .i64 ep, .int .i64 3, .int .i64 page, .int .i64 other, .int .i64 req, .string key, .string val] 35)).alloc (.cells #[.int .i64 0, .int .i64 0, .int .i64 0, .string ⟨#[]⟩, .slice none 0 0, .slice none 0 0, .slice none 0 0] 28)) W → W.heap[w.heap.size + 2]? = some (.cells #[.int .i64 0, .int .i64 0, .int .i64 0, .string ⟨#[]⟩, .slice none 0 0, .slice none 0 0, .slice none 0 0] 28 (0, 0))) := fun W f => (three_at w _ _ _ f).2.2
  have hc := del_any n p key hk _ h0
  unfold NdOut2
  generalize (okN (askE n key 0 0 1) (delN n key)) = mo at *
  generalize (askE n key 0 0 1) = fe at *
  skip
  go_enter Tryz.func57, Tryz.ntmps57
  go_wp2_with fail
  refine hc.mono ?_
  rintro e w1 ⟨q, rfl, nd, f1, hnw⟩
  obtain ⟨⟨s0, s1, s2, s3, s4, s5, s6⟩, sz⟩ := node_cells (HT.out _ f1)
  have y0 := sz 0; have y1 := sz 1; have y2 := sz 2; have y3 := sz 3; have y4 := sz 4; have y5 := sz 5; have y6 := sz 6
  clear sz
  obtain ⟨hq, ndf, fff, hn⟩ := ans_two nd f1 hnw
  go_wp2
  generalize ((((((w1.setCell ⟨w.heap.size + 2, 0, none⟩ (.int .i64 mo.lev)).setCell ⟨w.heap.size + 2, 1, none⟩ (.int .i64 mo.lsn)).setCell ⟨w.heap.size + 2, 2, none⟩ (.int .i64 mo.rgt)).setCell ⟨w.heap.size + 2, 3, none⟩ (.string mo.high)).setCell ⟨w.heap.size + 2, 4, none⟩ (.slice q.k mo.keys.length q.kc)).setCell ⟨w.heap.size + 2, 5, none⟩ (.slice q.v mo.vals.length q.vc)).setCell ⟨w.heap.size + 2, 6, none⟩ (.slice q.i mo.kids.length q.ic) = Wf at hq ndf fff ⊢
  obtain ⟨⟨q0, q1, q2, q3, q4, q5, q6⟩, _⟩ := node_cells hq
  exact bodyPost_ret (v := .tuple #[(.agg #[.int .i64 mo.lev, .int .i64 mo.lsn, .int .i64 mo.rgt, .string mo.high, .slice q.k mo.keys.length q.kc, .slice q.v mo.vals.length q.vc, .slice q.i mo.kids.length q.ic]), .int .i64 fe]) (by simp [results, Tryz.results57, go_sem, q0, q1, q2, q3, q4, q5, q6]) rfl ⟨q, rfl, ndf, fff, hn⟩
set_option maxRecDepth 100000 in
set_option maxHeartbeats 2000000 in
theorem change_5 (n : Nd) (p : Pt) (lsn ep page other req : Int) (key val : ByteArray) (hkz : key.size ≤ 140737488351232) (hvz : val.size ≤ 140737488351232) (w : World) (h : Nod w n p) : Calls Tryz.prog 57 #[(.agg #[.int .i64 n.lev, .int .i64 n.lsn, .int .i64 n.rgt, .string n.high, .slice p.k n.keys.length p.kc, .slice p.v n.vals.length p.vc, .slice p.i n.kids.length p.ic]), .agg #[.int .i64 lsn, .int .i64 ep, .int .i64 5, .int .i64 page, .int .i64 other, .int .i64 req, .string key, .string val]] w fun e w' => NdOut2 (okN (lrE n key (nuE other)) (leftN n key other)) (lrE n key (nuE other)) w e w' := by
  have hk : key.size ≤ maxLen := Nat.le_trans hkz (by decide)
  have h0 := h.same (show Fr (fun _ => False) w (((w.alloc (.cells #[.int .i64 n.lev, .int .i64 n.lsn, .int .i64 n.rgt, .string n.high, .slice p.k n.keys.length p.kc, .slice p.v n.vals.length p.vc, .slice p.i n.kids.length p.ic] 28)).alloc (.cells #[.int .i64 lsn, .int .i64 ep, .int .i64 5, .int .i64 page, .int .i64 other, .int .i64 req, .string key, .string val] 35)).alloc (.cells #[.int .i64 0, .int .i64 0, .int .i64 0, .string ⟨#[]⟩, .slice none 0 0, .slice none 0 0, .slice none 0 0] 28)) from (((Fr.refl _ _).alloc _).alloc _).alloc _)
  have HT : Hid (∀ W, Fr (fun _ => False) (((w.alloc (.cells #[.int .i64 n.lev, .int .i64 n.lsn, .int .i64 n.rgt, .string n.high, .slice p.k n.keys.length p.kc, .slice p.v n.vals.length p.vc, .slice p.i n.kids.length p.ic] 28)).alloc (.cells #[.int .i64 lsn, .int .i64 ep, .int .i64 5, .int .i64 page, .int .i64 other, .int .i64 req, .string key, .string val] 35)).alloc (.cells #[.int .i64 0, .int .i64 0, .int .i64 0, .string ⟨#[]⟩, .slice none 0 0, .slice none 0 0, .slice none 0 0] 28)) W → W.heap[w.heap.size + 2]? = some (.cells #[.int .i64 0, .int .i64 0, .int .i64 0, .string ⟨#[]⟩, .slice none 0 0, .slice none 0 0, .slice none 0 0] 28 (0, 0))) := fun W f => (three_at w _ _ _ f).2.2
  have hc := nleft_any n p key other hkz hk _ h0
  unfold NdOut2
  generalize (okN (lrE n key (nuE other)) (leftN n key other)) = mo at *
  generalize (lrE n key (nuE other)) = fe at *
  skip
  go_enter Tryz.func57, Tryz.ntmps57
  go_wp2_with fail
  refine hc.mono ?_
  rintro e w1 ⟨q, rfl, nd, f1, hnw⟩
  obtain ⟨⟨s0, s1, s2, s3, s4, s5, s6⟩, sz⟩ := node_cells (HT.out _ f1)
  have y0 := sz 0; have y1 := sz 1; have y2 := sz 2; have y3 := sz 3; have y4 := sz 4; have y5 := sz 5; have y6 := sz 6
  clear sz
  obtain ⟨hq, ndf, fff, hn⟩ := ans_two nd f1 hnw
  go_wp2
  generalize ((((((w1.setCell ⟨w.heap.size + 2, 0, none⟩ (.int .i64 mo.lev)).setCell ⟨w.heap.size + 2, 1, none⟩ (.int .i64 mo.lsn)).setCell ⟨w.heap.size + 2, 2, none⟩ (.int .i64 mo.rgt)).setCell ⟨w.heap.size + 2, 3, none⟩ (.string mo.high)).setCell ⟨w.heap.size + 2, 4, none⟩ (.slice q.k mo.keys.length q.kc)).setCell ⟨w.heap.size + 2, 5, none⟩ (.slice q.v mo.vals.length q.vc)).setCell ⟨w.heap.size + 2, 6, none⟩ (.slice q.i mo.kids.length q.ic) = Wf at hq ndf fff ⊢
  obtain ⟨⟨q0, q1, q2, q3, q4, q5, q6⟩, _⟩ := node_cells hq
  exact bodyPost_ret (v := .tuple #[(.agg #[.int .i64 mo.lev, .int .i64 mo.lsn, .int .i64 mo.rgt, .string mo.high, .slice q.k mo.keys.length q.kc, .slice q.v mo.vals.length q.vc, .slice q.i mo.kids.length q.ic]), .int .i64 fe]) (by simp [results, Tryz.results57, go_sem, q0, q1, q2, q3, q4, q5, q6]) rfl ⟨q, rfl, ndf, fff, hn⟩
set_option maxRecDepth 100000 in
set_option maxHeartbeats 2000000 in
theorem change_6 (n : Nd) (p : Pt) (lsn ep page other req : Int) (key val : ByteArray) (hkz : key.size ≤ 140737488351232) (hvz : val.size ≤ 140737488351232) (w : World) (h : Nod w n p) : Calls Tryz.prog 57 #[(.agg #[.int .i64 n.lev, .int .i64 n.lsn, .int .i64 n.rgt, .string n.high, .slice p.k n.keys.length p.kc, .slice p.v n.vals.length p.vc, .slice p.i n.kids.length p.ic]), .agg #[.int .i64 lsn, .int .i64 ep, .int .i64 6, .int .i64 page, .int .i64 other, .int .i64 req, .string key, .string val]] w fun e w' => NdOut2 (okN (postE n key other) (postN n key other)) (postE n key other) w e w' := by
  have hk : key.size ≤ maxLen := Nat.le_trans hkz (by decide)
  have h0 := h.same (show Fr (fun _ => False) w (((w.alloc (.cells #[.int .i64 n.lev, .int .i64 n.lsn, .int .i64 n.rgt, .string n.high, .slice p.k n.keys.length p.kc, .slice p.v n.vals.length p.vc, .slice p.i n.kids.length p.ic] 28)).alloc (.cells #[.int .i64 lsn, .int .i64 ep, .int .i64 6, .int .i64 page, .int .i64 other, .int .i64 req, .string key, .string val] 35)).alloc (.cells #[.int .i64 0, .int .i64 0, .int .i64 0, .string ⟨#[]⟩, .slice none 0 0, .slice none 0 0, .slice none 0 0] 28)) from (((Fr.refl _ _).alloc _).alloc _).alloc _)
  have HT : Hid (∀ W, Fr (fun _ => False) (((w.alloc (.cells #[.int .i64 n.lev, .int .i64 n.lsn, .int .i64 n.rgt, .string n.high, .slice p.k n.keys.length p.kc, .slice p.v n.vals.length p.vc, .slice p.i n.kids.length p.ic] 28)).alloc (.cells #[.int .i64 lsn, .int .i64 ep, .int .i64 6, .int .i64 page, .int .i64 other, .int .i64 req, .string key, .string val] 35)).alloc (.cells #[.int .i64 0, .int .i64 0, .int .i64 0, .string ⟨#[]⟩, .slice none 0 0, .slice none 0 0, .slice none 0 0] 28)) W → W.heap[w.heap.size + 2]? = some (.cells #[.int .i64 0, .int .i64 0, .int .i64 0, .string ⟨#[]⟩, .slice none 0 0, .slice none 0 0, .slice none 0 0] 28 (0, 0))) := fun W f => (three_at w _ _ _ f).2.2
  have hc := post_any n p key other hk _ h0
  unfold NdOut2
  generalize (okN (postE n key other) (postN n key other)) = mo at *
  generalize (postE n key other) = fe at *
  skip
  go_enter Tryz.func57, Tryz.ntmps57
  go_wp2_with fail
  refine hc.mono ?_
  rintro e w1 ⟨q, rfl, nd, f1, hnw⟩
  obtain ⟨⟨s0, s1, s2, s3, s4, s5, s6⟩, sz⟩ := node_cells (HT.out _ f1)
  have y0 := sz 0; have y1 := sz 1; have y2 := sz 2; have y3 := sz 3; have y4 := sz 4; have y5 := sz 5; have y6 := sz 6
  clear sz
  obtain ⟨hq, ndf, fff, hn⟩ := ans_two nd f1 hnw
  go_wp2
  generalize ((((((w1.setCell ⟨w.heap.size + 2, 0, none⟩ (.int .i64 mo.lev)).setCell ⟨w.heap.size + 2, 1, none⟩ (.int .i64 mo.lsn)).setCell ⟨w.heap.size + 2, 2, none⟩ (.int .i64 mo.rgt)).setCell ⟨w.heap.size + 2, 3, none⟩ (.string mo.high)).setCell ⟨w.heap.size + 2, 4, none⟩ (.slice q.k mo.keys.length q.kc)).setCell ⟨w.heap.size + 2, 5, none⟩ (.slice q.v mo.vals.length q.vc)).setCell ⟨w.heap.size + 2, 6, none⟩ (.slice q.i mo.kids.length q.ic) = Wf at hq ndf fff ⊢
  obtain ⟨⟨q0, q1, q2, q3, q4, q5, q6⟩, _⟩ := node_cells hq
  exact bodyPost_ret (v := .tuple #[(.agg #[.int .i64 mo.lev, .int .i64 mo.lsn, .int .i64 mo.rgt, .string mo.high, .slice q.k mo.keys.length q.kc, .slice q.v mo.vals.length q.vc, .slice q.i mo.kids.length q.ic]), .int .i64 fe]) (by simp [results, Tryz.results57, go_sem, q0, q1, q2, q3, q4, q5, q6]) rfl ⟨q, rfl, ndf, fff, hn⟩
set_option maxRecDepth 100000 in
set_option maxHeartbeats 2000000 in
theorem change_4 (n : Nd) (p : Pt) (lsn ep kind page other req : Int) (key val : ByteArray) (hvz : val.size ≤ 140737488351232) (h2 : kind ≠ 2) (h3 : kind ≠ 3) (h5 : kind ≠ 5) (h6 : kind ≠ 6) (w : World) : Calls Tryz.prog 57 #[(.agg #[.int .i64 n.lev, .int .i64 n.lsn, .int .i64 n.rgt, .string n.high, .slice p.k n.keys.length p.kc, .slice p.v n.vals.length p.vc, .slice p.i n.kids.length p.ic]), .agg #[.int .i64 lsn, .int .i64 ep, .int .i64 kind, .int .i64 page, .int .i64 other, .int .i64 req, .string key, .string val]] w fun e w' => NdOut2 ((decF (bsOf val)).getD zn) (if (decF (bsOf val)).isSome = true then 0 else 60) w e w' := by
  obtain ⟨W0, hW0⟩ : ∃ W, W = (((w.alloc (.cells #[.int .i64 n.lev, .int .i64 n.lsn, .int .i64 n.rgt, .string n.high, .slice p.k n.keys.length p.kc, .slice p.v n.vals.length p.vc, .slice p.i n.kids.length p.ic] 28)).alloc (.cells #[.int .i64 lsn, .int .i64 ep, .int .i64 kind, .int .i64 page, .int .i64 other, .int .i64 req, .string key, .string val] 35)).alloc (.cells #[.int .i64 0, .int .i64 0, .int .i64 0, .string ⟨#[]⟩, .slice none 0 0, .slice none 0 0, .slice none 0 0] 28)) := ⟨_, rfl⟩
  have HW0 : Hid ((((w.alloc (.cells #[.int .i64 n.lev, .int .i64 n.lsn, .int .i64 n.rgt, .string n.high, .slice p.k n.keys.length p.kc, .slice p.v n.vals.length p.vc, .slice p.i n.kids.length p.ic] 28)).alloc (.cells #[.int .i64 lsn, .int .i64 ep, .int .i64 kind, .int .i64 page, .int .i64 other, .int .i64 req, .string key, .string val] 35)).alloc (.cells #[.int .i64 0, .int .i64 0, .int .i64 0, .string ⟨#[]⟩, .slice none 0 0, .slice none 0 0, .slice none 0 0] 28)) = W0) := hW0.symm
  have hT := three_at w _ _ _ (Fr.refl (fun _ => False) (((w.alloc (.cells #[.int .i64 n.lev, .int .i64 n.lsn, .int .i64 n.rgt, .string n.high, .slice p.k n.keys.length p.kc, .slice p.v n.vals.length p.vc, .slice p.i n.kids.length p.ic] 28)).alloc (.cells #[.int .i64 lsn, .int .i64 ep, .int .i64 kind, .int .i64 page, .int .i64 other, .int .i64 req, .string key, .string val] 35)).alloc (.cells #[.int .i64 0, .int .i64 0, .int .i64 0, .string ⟨#[]⟩, .slice none 0 0, .slice none 0 0, .slice none 0 0] 28)))
  rw [← hW0] at hT
  obtain ⟨a, c, w0, hcv, hr, f0⟩ := run_bytes val W0
  have hc := decode_dec (some a) val.size c (bsOf val) (bsOf_length val).symm w0 (hr hvz)
  unfold DecOut at hc
  unfold NdOut2
  generalize ((decF (bsOf val)).getD zn) = mo at *
  generalize (if (decF (bsOf val)).isSome = true then (0 : Int) else 60) = fe at *
  have b2 : (kind == 2) = false := by simpa using h2
  have b3 : (kind == 3) = false := by simpa using h3
  have b5 : (kind == 5) = false := by simpa using h5
  have b6 : (kind == 6) = false := by simpa using h6
  obtain ⟨⟨r0, r1, r2, r3, r4, r5, r6, r7⟩, _⟩ := rec_cells hT.2.1
  have HF0 : Hid (Fr (fun _ => False) (((w.alloc (.cells #[.int .i64 n.lev, .int .i64 n.lsn, .int .i64 n.rgt, .string n.high, .slice p.k n.keys.length p.kc, .slice p.v n.vals.length p.vc, .slice p.i n.kids.length p.ic] 28)).alloc (.cells #[.int .i64 lsn, .int .i64 ep, .int .i64 kind, .int .i64 page, .int .i64 other, .int .i64 req, .string key, .string val] 35)).alloc (.cells #[.int .i64 0, .int .i64 0, .int .i64 0, .string ⟨#[]⟩, .slice none 0 0, .slice none 0 0, .slice none 0 0] 28)) w0) := by rw [hW0] at f0; exact f0
  have HT : Hid (∀ W, Fr (fun _ => False) (((w.alloc (.cells #[.int .i64 n.lev, .int .i64 n.lsn, .int .i64 n.rgt, .string n.high, .slice p.k n.keys.length p.kc, .slice p.v n.vals.length p.vc, .slice p.i n.kids.length p.ic] 28)).alloc (.cells #[.int .i64 lsn, .int .i64 ep, .int .i64 kind, .int .i64 page, .int .i64 other, .int .i64 req, .string key, .string val] 35)).alloc (.cells #[.int .i64 0, .int .i64 0, .int .i64 0, .string ⟨#[]⟩, .slice none 0 0, .slice none 0 0, .slice none 0 0] 28)) W → W.heap[w.heap.size + 2]? = some (.cells #[.int .i64 0, .int .i64 0, .int .i64 0, .string ⟨#[]⟩, .slice none 0 0, .slice none 0 0, .slice none 0 0] 28 (0, 0))) := fun W f => (three_at w _ _ _ f).2.2
  clear h2 h3 h5 h6 hr hT hW0 f0 hvz
  go_enter Tryz.func57, Tryz.ntmps57
  go_upto_region 10 with fail
  rw [HW0.out]
  go_wp2_with fail
  refine hc.mono ?_
  rintro e w1 ⟨q, rfl, nd, f1, hnw⟩
  have F1 := HF0.out.seq' f1
  obtain ⟨⟨s0, s1, s2, s3, s4, s5, s6⟩, sz⟩ := node_cells (HT.out _ F1)
  have y0 := sz 0; have y1 := sz 1; have y2 := sz 2; have y3 := sz 3; have y4 := sz 4; have y5 := sz 5; have y6 := sz 6
  clear sz r0 r1 r2 r3 r4 r5 r6 r7 hcv hc
  obtain ⟨hq, ndf, fff, hn⟩ := ans_two nd F1 (hnw.back HF0.out.size)
  go_wp2
  generalize ((((((w1.setCell ⟨w.heap.size + 2, 0, none⟩ (.int .i64 mo.lev)).setCell ⟨w.heap.size + 2, 1, none⟩ (.int .i64 mo.lsn)).setCell ⟨w.heap.size + 2, 2, none⟩ (.int .i64 mo.rgt)).setCell ⟨w.heap.size + 2, 3, none⟩ (.string mo.high)).setCell ⟨w.heap.size + 2, 4, none⟩ (.slice q.k mo.keys.length q.kc)).setCell ⟨w.heap.size + 2, 5, none⟩ (.slice q.v mo.vals.length q.vc)).setCell ⟨w.heap.size + 2, 6, none⟩ (.slice q.i mo.kids.length q.ic) = Wf at hq ndf fff ⊢
  obtain ⟨⟨q0, q1, q2, q3, q4, q5, q6⟩, _⟩ := node_cells hq
  exact bodyPost_ret (v := .tuple #[(.agg #[.int .i64 mo.lev, .int .i64 mo.lsn, .int .i64 mo.rgt, .string mo.high, .slice q.k mo.keys.length q.kc, .slice q.v mo.vals.length q.vc, .slice q.i mo.kids.length q.ic]), .int .i64 fe]) (by simp [results, Tryz.results57, go_sem, q0, q1, q2, q3, q4, q5, q6]) rfl ⟨q, rfl, ndf, fff, hn⟩
theorem change_any (n : Nd) (p : Pt) (r : Rec) (hkz : r.key.size ≤ 140737488351232) (hvz : r.val.size ≤ 140737488351232) (w : World) (h : Nod w n p) : Calls Tryz.prog 57 #[(.agg #[.int .i64 n.lev, .int .i64 n.lsn, .int .i64 n.rgt, .string n.high, .slice p.k n.keys.length p.kc, .slice p.v n.vals.length p.vc, .slice p.i n.kids.length p.ic]), (.agg #[.int .i64 r.lsn, .int .i64 r.ep, .int .i64 r.kind, .int .i64 r.page, .int .i64 r.other, .int .i64 r.req, .string r.key, .string r.val])] w fun e w' => NdOut2 (chN n r) (chE n r) w e w' := by
  obtain ⟨lsn, ep, kind, page, other, req, key, val⟩ := r
  unfold chN chE
  dsimp only at hkz hvz ⊢
  by_cases h2 : kind = 2
  · subst h2; exact change_2 n p lsn ep page other req key val hkz hvz w h
  · rw [if_neg h2, if_neg h2]
    by_cases h3 : kind = 3
    · subst h3; exact change_3 n p lsn ep page other req key val hkz hvz w h
    · rw [if_neg h3, if_neg h3]
      by_cases h5 : kind = 5
      · subst h5; exact change_5 n p lsn ep page other req key val hkz hvz w h
      · rw [if_neg h5, if_neg h5]
        by_cases h6 : kind = 6
        · subst h6; exact change_6 n p lsn ep page other req key val hkz hvz w h
        · rw [if_neg h6, if_neg h6]
          exact change_4 n p lsn ep kind page other req key val hvz h2 h3 h5 h6 w
end Go.Proofs.YtnckmajfmkkpgaaGreat
