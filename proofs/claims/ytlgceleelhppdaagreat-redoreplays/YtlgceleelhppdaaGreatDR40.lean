
/- RdRef. -/
import Derived.Test.YtlgceleelhppdaaGreatDR29
import Derived.Test.YtlgceleelhppdaaGreatDR30
import Derived.Test.YtlgceleelhppdaaGreatDR25
import Derived.Test.YtlgceleelhppdaaGreatDR33
import Derived.Test.YtlgceleelhppdaaGreatDR34
import Derived.Test.YtlgceleelhppdaaGreatDR39
import Derived.Deep.DeepCutAuto
/- What the document's own Apply makes. -/
namespace Go.Proofs.YtlgceleelhppdaaGreat
open Go.RowKit
set_option linter.unusedVariables false

set_option maxRecDepth 100000 in
set_option maxHeartbeats 2000000 in
theorem rdone_2 (n : Nd) (p : Pt) (lsn ep page other req : Int) (key val : ByteArray) (hkz : key.size ≤ 140737488351232) (hvz : val.size ≤ 140737488351232) (w : World) (h : Nod w n p) : Calls Tryz.prog 36 #[(.agg #[.int .i64 n.lev, .int .i64 n.lsn, .int .i64 n.rgt, .string n.high, .slice p.k n.keys.length p.kc, .slice p.v n.vals.length p.vc, .slice p.i n.kids.length p.ic]), .agg #[.int .i64 lsn, .int .i64 ep, .int .i64 2, .int .i64 page, .int .i64 other, .int .i64 req, .string key, .string val]] w fun e w' => NdOut2 (okN (putE n key val) (putN n key val)) (putE n key val) w e w' := by
  have hk : key.size ≤ maxLen := Nat.le_trans hkz (by decide)
  have h0 := h.same (show Fr (fun _ => False) w (((w.alloc (.cells #[.int .i64 n.lev, .int .i64 n.lsn, .int .i64 n.rgt, .string n.high, .slice p.k n.keys.length p.kc, .slice p.v n.vals.length p.vc, .slice p.i n.kids.length p.ic] 34)).alloc (.cells #[.int .i64 lsn, .int .i64 ep, .int .i64 2, .int .i64 page, .int .i64 other, .int .i64 req, .string key, .string val] 48)).alloc (.cells #[.int .i64 0, .int .i64 0, .int .i64 0, .string ⟨#[]⟩, .slice none 0 0, .slice none 0 0, .slice none 0 0] 34)) from (((Fr.refl _ _).alloc _).alloc _).alloc _)
  have HT : Hid (∀ W, Fr (fun _ => False) (((w.alloc (.cells #[.int .i64 n.lev, .int .i64 n.lsn, .int .i64 n.rgt, .string n.high, .slice p.k n.keys.length p.kc, .slice p.v n.vals.length p.vc, .slice p.i n.kids.length p.ic] 34)).alloc (.cells #[.int .i64 lsn, .int .i64 ep, .int .i64 2, .int .i64 page, .int .i64 other, .int .i64 req, .string key, .string val] 48)).alloc (.cells #[.int .i64 0, .int .i64 0, .int .i64 0, .string ⟨#[]⟩, .slice none 0 0, .slice none 0 0, .slice none 0 0] 34)) W → W.heap[w.heap.size + 2]? = some (.cells #[.int .i64 0, .int .i64 0, .int .i64 0, .string ⟨#[]⟩, .slice none 0 0, .slice none 0 0, .slice none 0 0] 34 (0, 0))) := fun W f => (three_at w _ _ _ f).2.2
  have hc := rput_any n p key val hk _ h0
  unfold NdOut2
  generalize (okN (putE n key val) (putN n key val)) = mo at *
  generalize (putE n key val) = fe at *
  skip
  go_enter Tryz.func36, Tryz.ntmps36
  go_wp2_with fail
  refine hc.mono ?_
  rintro e w1 ⟨q, rfl, nd, f1, hnw⟩
  obtain ⟨⟨s0, s1, s2, s3, s4, s5, s6⟩, sz⟩ := node_cells (HT.out _ f1)
  have y0 := sz 0; have y1 := sz 1; have y2 := sz 2; have y3 := sz 3; have y4 := sz 4; have y5 := sz 5; have y6 := sz 6
  clear sz
  obtain ⟨hq, ndf, fff, hn⟩ := ans_two nd f1 hnw
  go_wp2
  generalize ((((((w1.setCell ⟨w.heap.size + 2, 0, none⟩ (.int .i64 mo.lev)).setCell ⟨w.heap.size + 2, 1, none⟩ (.int .i64 mo.lsn)).setCell ⟨w.heap.size + 2, 2, none⟩ (.int .i64 mo.rgt)).setCell ⟨w.heap.size + 2, 3, none⟩ (.string mo.high)).setCell ⟨w.heap.size + 2, 4, none⟩ (.slice q.k mo.keys.length q.kc)).setCell ⟨w.heap.size + 2, 5, none⟩ (.slice q.v mo.vals.length q.vc)).setCell ⟨w.heap.size + 2, 6, none⟩ (.slice q.i mo.kids.length q.ic) = Wf at hq ndf fff ⊢
  obtain ⟨⟨q0, q1, q2, q3, q4, q5, q6⟩, _⟩ := node_cells hq
  exact bodyPost_ret (v := .tuple #[(.agg #[.int .i64 mo.lev, .int .i64 mo.lsn, .int .i64 mo.rgt, .string mo.high, .slice q.k mo.keys.length q.kc, .slice q.v mo.vals.length q.vc, .slice q.i mo.kids.length q.ic]), .int .i64 fe]) (by simp [results, Tryz.results36, go_sem, q0, q1, q2, q3, q4, q5, q6]) rfl ⟨q, rfl, ndf, fff, hn⟩
set_option maxRecDepth 100000 in
set_option maxHeartbeats 2000000 in
theorem rdone_3 (n : Nd) (p : Pt) (lsn ep page other req : Int) (key val : ByteArray) (hkz : key.size ≤ 140737488351232) (hvz : val.size ≤ 140737488351232) (w : World) (h : Nod w n p) : Calls Tryz.prog 36 #[(.agg #[.int .i64 n.lev, .int .i64 n.lsn, .int .i64 n.rgt, .string n.high, .slice p.k n.keys.length p.kc, .slice p.v n.vals.length p.vc, .slice p.i n.kids.length p.ic]), .agg #[.int .i64 lsn, .int .i64 ep, .int .i64 3, .int .i64 page, .int .i64 other, .int .i64 req, .string key, .string val]] w fun e w' => NdOut2 (okN (askE n key 0 0 1) (delN n key)) (askE n key 0 0 1) w e w' := by
  have hk : key.size ≤ maxLen := Nat.le_trans hkz (by decide)
  have h0 := h.same (show Fr (fun _ => False) w (((w.alloc (.cells #[.int .i64 n.lev, .int .i64 n.lsn, .int .i64 n.rgt, .string n.high, .slice p.k n.keys.length p.kc, .slice p.v n.vals.length p.vc, .slice p.i n.kids.length p.ic] 34)).alloc (.cells #[.int .i64 lsn, .int .i64 ep, .int .i64 3, .int .i64 page, .int .i64 other, .int .i64 req, .string key, .string val] 48)).alloc (.cells #[.int .i64 0, .int .i64 0, .int .i64 0, .string ⟨#[]⟩, .slice none 0 0, .slice none 0 0, .slice none 0 0] 34)) from (((Fr.refl _ _).alloc _).alloc _).alloc _)
  have HT : Hid (∀ W, Fr (fun _ => False) (((w.alloc (.cells #[.int .i64 n.lev, .int .i64 n.lsn, .int .i64 n.rgt, .string n.high, .slice p.k n.keys.length p.kc, .slice p.v n.vals.length p.vc, .slice p.i n.kids.length p.ic] 34)).alloc (.cells #[.int .i64 lsn, .int .i64 ep, .int .i64 3, .int .i64 page, .int .i64 other, .int .i64 req, .string key, .string val] 48)).alloc (.cells #[.int .i64 0, .int .i64 0, .int .i64 0, .string ⟨#[]⟩, .slice none 0 0, .slice none 0 0, .slice none 0 0] 34)) W → W.heap[w.heap.size + 2]? = some (.cells #[.int .i64 0, .int .i64 0, .int .i64 0, .string ⟨#[]⟩, .slice none 0 0, .slice none 0 0, .slice none 0 0] 34 (0, 0))) := fun W f => (three_at w _ _ _ f).2.2
  have hc := rdel_any n p key hk _ h0
  unfold NdOut2
  generalize (okN (askE n key 0 0 1) (delN n key)) = mo at *
  generalize (askE n key 0 0 1) = fe at *
  skip
  go_enter Tryz.func36, Tryz.ntmps36
  go_wp2_with fail
  refine hc.mono ?_
  rintro e w1 ⟨q, rfl, nd, f1, hnw⟩
  obtain ⟨⟨s0, s1, s2, s3, s4, s5, s6⟩, sz⟩ := node_cells (HT.out _ f1)
  have y0 := sz 0; have y1 := sz 1; have y2 := sz 2; have y3 := sz 3; have y4 := sz 4; have y5 := sz 5; have y6 := sz 6
  clear sz
  obtain ⟨hq, ndf, fff, hn⟩ := ans_two nd f1 hnw
  go_wp2
  generalize ((((((w1.setCell ⟨w.heap.size + 2, 0, none⟩ (.int .i64 mo.lev)).setCell ⟨w.heap.size + 2, 1, none⟩ (.int .i64 mo.lsn)).setCell ⟨w.heap.size + 2, 2, none⟩ (.int .i64 mo.rgt)).setCell ⟨w.heap.size + 2, 3, none⟩ (.string mo.high)).setCell ⟨w.heap.size + 2, 4, none⟩ (.slice q.k mo.keys.length q.kc)).setCell ⟨w.heap.size + 2, 5, none⟩ (.slice q.v mo.vals.length q.vc)).setCell ⟨w.heap.size + 2, 6, none⟩ (.slice q.i mo.kids.length q.ic) = Wf at hq ndf fff ⊢
  obtain ⟨⟨q0, q1, q2, q3, q4, q5, q6⟩, _⟩ := node_cells hq
  exact bodyPost_ret (v := .tuple #[(.agg #[.int .i64 mo.lev, .int .i64 mo.lsn, .int .i64 mo.rgt, .string mo.high, .slice q.k mo.keys.length q.kc, .slice q.v mo.vals.length q.vc, .slice q.i mo.kids.length q.ic]), .int .i64 fe]) (by simp [results, Tryz.results36, go_sem, q0, q1, q2, q3, q4, q5, q6]) rfl ⟨q, rfl, ndf, fff, hn⟩
set_option maxRecDepth 100000 in
set_option maxHeartbeats 2000000 in
theorem rdone_5 (n : Nd) (p : Pt) (lsn ep page other req : Int) (key val : ByteArray) (hkz : key.size ≤ 140737488351232) (hvz : val.size ≤ 140737488351232) (w : World) (h : Nod w n p) : Calls Tryz.prog 36 #[(.agg #[.int .i64 n.lev, .int .i64 n.lsn, .int .i64 n.rgt, .string n.high, .slice p.k n.keys.length p.kc, .slice p.v n.vals.length p.vc, .slice p.i n.kids.length p.ic]), .agg #[.int .i64 lsn, .int .i64 ep, .int .i64 5, .int .i64 page, .int .i64 other, .int .i64 req, .string key, .string val]] w fun e w' => NdOut2 (okN (lrE n key (nuE other)) (leftN n key other)) (lrE n key (nuE other)) w e w' := by
  have hk : key.size ≤ maxLen := Nat.le_trans hkz (by decide)
  have h0 := h.same (show Fr (fun _ => False) w (((w.alloc (.cells #[.int .i64 n.lev, .int .i64 n.lsn, .int .i64 n.rgt, .string n.high, .slice p.k n.keys.length p.kc, .slice p.v n.vals.length p.vc, .slice p.i n.kids.length p.ic] 34)).alloc (.cells #[.int .i64 lsn, .int .i64 ep, .int .i64 5, .int .i64 page, .int .i64 other, .int .i64 req, .string key, .string val] 48)).alloc (.cells #[.int .i64 0, .int .i64 0, .int .i64 0, .string ⟨#[]⟩, .slice none 0 0, .slice none 0 0, .slice none 0 0] 34)) from (((Fr.refl _ _).alloc _).alloc _).alloc _)
  have HT : Hid (∀ W, Fr (fun _ => False) (((w.alloc (.cells #[.int .i64 n.lev, .int .i64 n.lsn, .int .i64 n.rgt, .string n.high, .slice p.k n.keys.length p.kc, .slice p.v n.vals.length p.vc, .slice p.i n.kids.length p.ic] 34)).alloc (.cells #[.int .i64 lsn, .int .i64 ep, .int .i64 5, .int .i64 page, .int .i64 other, .int .i64 req, .string key, .string val] 48)).alloc (.cells #[.int .i64 0, .int .i64 0, .int .i64 0, .string ⟨#[]⟩, .slice none 0 0, .slice none 0 0, .slice none 0 0] 34)) W → W.heap[w.heap.size + 2]? = some (.cells #[.int .i64 0, .int .i64 0, .int .i64 0, .string ⟨#[]⟩, .slice none 0 0, .slice none 0 0, .slice none 0 0] 34 (0, 0))) := fun W f => (three_at w _ _ _ f).2.2
  have hc := rleft_any n p key other hkz hk _ h0
  unfold NdOut2
  generalize (okN (lrE n key (nuE other)) (leftN n key other)) = mo at *
  generalize (lrE n key (nuE other)) = fe at *
  skip
  go_enter Tryz.func36, Tryz.ntmps36
  go_wp2_with fail
  refine hc.mono ?_
  rintro e w1 ⟨q, rfl, nd, f1, hnw⟩
  obtain ⟨⟨s0, s1, s2, s3, s4, s5, s6⟩, sz⟩ := node_cells (HT.out _ f1)
  have y0 := sz 0; have y1 := sz 1; have y2 := sz 2; have y3 := sz 3; have y4 := sz 4; have y5 := sz 5; have y6 := sz 6
  clear sz
  obtain ⟨hq, ndf, fff, hn⟩ := ans_two nd f1 hnw
  go_wp2
  generalize ((((((w1.setCell ⟨w.heap.size + 2, 0, none⟩ (.int .i64 mo.lev)).setCell ⟨w.heap.size + 2, 1, none⟩ (.int .i64 mo.lsn)).setCell ⟨w.heap.size + 2, 2, none⟩ (.int .i64 mo.rgt)).setCell ⟨w.heap.size + 2, 3, none⟩ (.string mo.high)).setCell ⟨w.heap.size + 2, 4, none⟩ (.slice q.k mo.keys.length q.kc)).setCell ⟨w.heap.size + 2, 5, none⟩ (.slice q.v mo.vals.length q.vc)).setCell ⟨w.heap.size + 2, 6, none⟩ (.slice q.i mo.kids.length q.ic) = Wf at hq ndf fff ⊢
  obtain ⟨⟨q0, q1, q2, q3, q4, q5, q6⟩, _⟩ := node_cells hq
  exact bodyPost_ret (v := .tuple #[(.agg #[.int .i64 mo.lev, .int .i64 mo.lsn, .int .i64 mo.rgt, .string mo.high, .slice q.k mo.keys.length q.kc, .slice q.v mo.vals.length q.vc, .slice q.i mo.kids.length q.ic]), .int .i64 fe]) (by simp [results, Tryz.results36, go_sem, q0, q1, q2, q3, q4, q5, q6]) rfl ⟨q, rfl, ndf, fff, hn⟩
set_option maxRecDepth 100000 in
set_option maxHeartbeats 2000000 in
theorem rdone_6 (n : Nd) (p : Pt) (lsn ep page other req : Int) (key val : ByteArray) (hkz : key.size ≤ 140737488351232) (hvz : val.size ≤ 140737488351232) (w : World) (h : Nod w n p) : Calls Tryz.prog 36 #[(.agg #[.int .i64 n.lev, .int .i64 n.lsn, .int .i64 n.rgt, .string n.high, .slice p.k n.keys.length p.kc, .slice p.v n.vals.length p.vc, .slice p.i n.kids.length p.ic]), .agg #[.int .i64 lsn, .int .i64 ep, .int .i64 6, .int .i64 page, .int .i64 other, .int .i64 req, .string key, .string val]] w fun e w' => NdOut2 (okN (postE n key other) (postN n key other)) (postE n key other) w e w' := by
  have hk : key.size ≤ maxLen := Nat.le_trans hkz (by decide)
  have h0 := h.same (show Fr (fun _ => False) w (((w.alloc (.cells #[.int .i64 n.lev, .int .i64 n.lsn, .int .i64 n.rgt, .string n.high, .slice p.k n.keys.length p.kc, .slice p.v n.vals.length p.vc, .slice p.i n.kids.length p.ic] 34)).alloc (.cells #[.int .i64 lsn, .int .i64 ep, .int .i64 6, .int .i64 page, .int .i64 other, .int .i64 req, .string key, .string val] 48)).alloc (.cells #[.int .i64 0, .int .i64 0, .int .i64 0, .string ⟨#[]⟩, .slice none 0 0, .slice none 0 0, .slice none 0 0] 34)) from (((Fr.refl _ _).alloc _).alloc _).alloc _)
  have HT : Hid (∀ W, Fr (fun _ => False) (((w.alloc (.cells #[.int .i64 n.lev, .int .i64 n.lsn, .int .i64 n.rgt, .string n.high, .slice p.k n.keys.length p.kc, .slice p.v n.vals.length p.vc, .slice p.i n.kids.length p.ic] 34)).alloc (.cells #[.int .i64 lsn, .int .i64 ep, .int .i64 6, .int .i64 page, .int .i64 other, .int .i64 req, .string key, .string val] 48)).alloc (.cells #[.int .i64 0, .int .i64 0, .int .i64 0, .string ⟨#[]⟩, .slice none 0 0, .slice none 0 0, .slice none 0 0] 34)) W → W.heap[w.heap.size + 2]? = some (.cells #[.int .i64 0, .int .i64 0, .int .i64 0, .string ⟨#[]⟩, .slice none 0 0, .slice none 0 0, .slice none 0 0] 34 (0, 0))) := fun W f => (three_at w _ _ _ f).2.2
  have hc := rpost_any n p key other hk _ h0
  unfold NdOut2
  generalize (okN (postE n key other) (postN n key other)) = mo at *
  generalize (postE n key other) = fe at *
  skip
  go_enter Tryz.func36, Tryz.ntmps36
  go_wp2_with fail
  refine hc.mono ?_
  rintro e w1 ⟨q, rfl, nd, f1, hnw⟩
  obtain ⟨⟨s0, s1, s2, s3, s4, s5, s6⟩, sz⟩ := node_cells (HT.out _ f1)
  have y0 := sz 0; have y1 := sz 1; have y2 := sz 2; have y3 := sz 3; have y4 := sz 4; have y5 := sz 5; have y6 := sz 6
  clear sz
  obtain ⟨hq, ndf, fff, hn⟩ := ans_two nd f1 hnw
  go_wp2
  generalize ((((((w1.setCell ⟨w.heap.size + 2, 0, none⟩ (.int .i64 mo.lev)).setCell ⟨w.heap.size + 2, 1, none⟩ (.int .i64 mo.lsn)).setCell ⟨w.heap.size + 2, 2, none⟩ (.int .i64 mo.rgt)).setCell ⟨w.heap.size + 2, 3, none⟩ (.string mo.high)).setCell ⟨w.heap.size + 2, 4, none⟩ (.slice q.k mo.keys.length q.kc)).setCell ⟨w.heap.size + 2, 5, none⟩ (.slice q.v mo.vals.length q.vc)).setCell ⟨w.heap.size + 2, 6, none⟩ (.slice q.i mo.kids.length q.ic) = Wf at hq ndf fff ⊢
  obtain ⟨⟨q0, q1, q2, q3, q4, q5, q6⟩, _⟩ := node_cells hq
  exact bodyPost_ret (v := .tuple #[(.agg #[.int .i64 mo.lev, .int .i64 mo.lsn, .int .i64 mo.rgt, .string mo.high, .slice q.k mo.keys.length q.kc, .slice q.v mo.vals.length q.vc, .slice q.i mo.kids.length q.ic]), .int .i64 fe]) (by simp [results, Tryz.results36, go_sem, q0, q1, q2, q3, q4, q5, q6]) rfl ⟨q, rfl, ndf, fff, hn⟩
theorem rdone_any (n : Nd) (p : Pt) (r : Rec) (hk : r.kind = 2 ∨ r.kind = 3 ∨ r.kind = 5 ∨ r.kind = 6) (hkz : r.key.size ≤ 140737488351232) (hvz : r.val.size ≤ 140737488351232) (w : World) (h : Nod w n p) : Calls Tryz.prog 36 #[(.agg #[.int .i64 n.lev, .int .i64 n.lsn, .int .i64 n.rgt, .string n.high, .slice p.k n.keys.length p.kc, .slice p.v n.vals.length p.vc, .slice p.i n.kids.length p.ic]), (.agg #[.int .i64 r.lsn, .int .i64 r.ep, .int .i64 r.kind, .int .i64 r.page, .int .i64 r.other, .int .i64 r.req, .string r.key, .string r.val])] w fun e w' => NdOut2 (chN n r) (chE n r) w e w' := by
  obtain ⟨lsn, ep, kind, page, other, req, key, val⟩ := r
  unfold chN chE
  dsimp only at hk hkz hvz ⊢
  rcases hk with rfl | rfl | rfl | rfl
  · exact rdone_2 n p lsn ep page other req key val hkz hvz w h
  · exact rdone_3 n p lsn ep page other req key val hkz hvz w h
  · exact rdone_5 n p lsn ep page other req key val hkz hvz w h
  · exact rdone_6 n p lsn ep page other req key val hkz hvz w h
def idleB (kind : Int) : Bool := kind == 1 || kind == 7
set_option maxRecDepth 100000 in
set_option maxHeartbeats 400000 in
theorem ridle_any (r : Rec) (w : World) : Calls Tryz.prog 17 #[(.agg #[.int .i64 r.lsn, .int .i64 r.ep, .int .i64 r.kind, .int .i64 r.page, .int .i64 r.other, .int .i64 r.req, .string r.key, .string r.val])] w fun e w' => e = .returned (.bool (idleB r.kind)) ∧ Fr (fun _ => False) w w' := by
  have f0 := Fr.box w (.cells #[.int .i64 r.lsn, .int .i64 r.ep, .int .i64 r.kind, .int .i64 r.page, .int .i64 r.other, .int .i64 r.req, .string r.key, .string r.val] 48)
  unfold idleB
  obtain ⟨x, hx⟩ : ∃ x, x = (r.kind == 1) := ⟨_, rfl⟩
  obtain ⟨y, hy⟩ : ∃ y, y = (r.kind == 7) := ⟨_, rfl⟩
  have h1 : (r.kind == 1) = x := hx.symm
  have h2 : (r.kind == 7) = y := hy.symm
  rw [h1, h2]
  clear hx hy
  cases x <;> cases y <;>
    (go_enter Tryz.func17, Tryz.ntmps17
     go_wp2
     go_ret
     exact ⟨rfl, f0⟩)
/-- What the document's Apply leaves. -/
def ApOutR (m : Nd) (d : Bool) (err : Int) (p : Pt) (w : World) (e : Ending) (w' : World) : Prop := ∃ q : Pt, e = .returned (.tuple #[(.agg #[.int .i64 m.lev, .int .i64 m.lsn, .int .i64 m.rgt, .string m.high, .slice q.k m.keys.length q.kc, .slice q.v m.vals.length q.vc, .slice q.i m.kids.length q.ic]), .bool d, .int .i64 err]) ∧ Nod w' m q ∧ Fr (fun _ => False) w w' ∧ (Nw w q ∨ q = p)
theorem rok_kind {r : Rec} (h : rok r = true) (hi : idleB r.kind = false) : r.kind = 4 ∨ r.kind = 2 ∨ r.kind = 3 ∨ r.kind = 5 ∨ r.kind = 6 := by
  unfold rok suitB at h
  unfold idleB at hi
  simp only [Bool.or_eq_false_iff, beq_eq_false_iff_ne] at hi
  by_cases h2 : r.kind = 2
  · omega
  by_cases h3 : r.kind = 3
  · omega
  by_cases h4 : r.kind = 4
  · omega
  by_cases h5 : r.kind = 5
  · omega
  by_cases h6 : r.kind = 6
  · omega
  rw [if_neg hi.2, if_neg hi.1, if_neg h2, if_neg h3, if_neg h4, if_neg (by omega)] at h
  simp at h
theorem rok_new {r : Rec} (h : rok r = true) (hk : r.kind = 4) : newB r.val = true := by
  unfold rok suitB at h
  rw [if_neg (by omega), if_neg (by omega), if_neg (by omega), if_neg (by omega), if_pos hk] at h
  simp only [Bool.and_eq_true] at h
  exact h.2.2.2.2.2.2
theorem pre_rec {n : Nd} {b : Bool} {r : Rec} (h : rok r = false) : preE n b r = 90 := by
  unfold preE; rw [erec_no h]; rfl
theorem pre_node {n : Nd} {r : Rec} (h : rok r = true) (hr : rightB n = false) : preE n true r = 70 := by
  unfold preE rgE; rw [erec_yes h, hr]; rfl
theorem pre_need {n : Nd} {b : Bool} {r : Rec} (h : rok r = true) (hr : b = true → rightB n = true) : preE n b r = needE r.kind b := by
  unfold preE rgE
  rw [erec_yes h]
  cases b
  · simp only [Bool.false_eq_true, if_false, firstE, if_true]; split <;> rename_i e <;> first | exact e.symm | rfl
  · rw [hr rfl]; simp only [if_true, firstE]; split <;> rename_i e <;> first | exact e.symm | rfl
theorem need_idle {k : Int} {b : Bool} (h : idleB k = true) : needE k b = 1 := by
  unfold idleB at h
  unfold needE
  simp only [Bool.or_eq_true, beq_iff_eq] at h
  rw [if_neg (by omega), if_neg (by omega)]
theorem need_four (b : Bool) {k : Int} (h : k = 4) : needE k b = 0 := by unfold needE; rw [if_pos h]
theorem need_page {k : Int} {b : Bool} (h : k = 2 ∨ k = 3 ∨ k = 5 ∨ k = 6) : needE k b = if b = true then 0 else 6 := by unfold needE; rw [if_neg (by omega), if_pos h]
theorem ch_four {n : Nd} {r : Rec} (hk : r.kind = 4) (hn : newB r.val = true) : chE n r = 0 ∧ chN n r = (decF (bsOf r.val)).getD zn := by
  unfold newB at hn
  simp only [Bool.and_eq_true] at hn
  unfold chE chN
  rw [if_neg (by omega), if_neg (by omega), if_neg (by omega), if_neg (by omega), if_pos hn.1, if_neg (by omega), if_neg (by omega), if_neg (by omega), if_neg (by omega)]
  exact ⟨rfl, rfl⟩
set_option maxRecDepth 100000 in
set_option maxHeartbeats 4000000 in
theorem rapply_any (n : Nd) (p : Pt) (b : Bool) (r : Rec) (hkz : r.key.size ≤ 140737488351232) (hvz : r.val.size ≤ 140737488351232) (w : World) (h : Nod w n p) : Calls Tryz.prog 19 #[(.agg #[.int .i64 n.lev, .int .i64 n.lsn, .int .i64 n.rgt, .string n.high, .slice p.k n.keys.length p.kc, .slice p.v n.vals.length p.vc, .slice p.i n.kids.length p.ic]), .bool b, (.agg #[.int .i64 r.lsn, .int .i64 r.ep, .int .i64 r.kind, .int .i64 r.page, .int .i64 r.other, .int .i64 r.req, .string r.key, .string r.val])] w fun e w' => ApOutR (apN n b r) (apD n b r) (apE n b r) p w e w' := by
  have f0 : Fr (fun _ => False) w (((w.alloc (.cells #[.int .i64 n.lev, .int .i64 n.lsn, .int .i64 n.rgt, .string n.high, .slice p.k n.keys.length p.kc, .slice p.v n.vals.length p.vc, .slice p.i n.kids.length p.ic] 34)).alloc (.cells #[.int .i64 r.lsn, .int .i64 r.ep, .int .i64 r.kind, .int .i64 r.page, .int .i64 r.other, .int .i64 r.req, .string r.key, .string r.val] 48)).alloc (.cells #[.int .i64 0, .int .i64 0, .int .i64 0, .string ⟨#[]⟩, .slice none 0 0, .slice none 0 0, .slice none 0 0] 34)) := (((Fr.refl _ _).alloc _).alloc _).alloc _
  have HT : Hid (∀ W, Fr (fun _ => False) (((w.alloc (.cells #[.int .i64 n.lev, .int .i64 n.lsn, .int .i64 n.rgt, .string n.high, .slice p.k n.keys.length p.kc, .slice p.v n.vals.length p.vc, .slice p.i n.kids.length p.ic] 34)).alloc (.cells #[.int .i64 r.lsn, .int .i64 r.ep, .int .i64 r.kind, .int .i64 r.page, .int .i64 r.other, .int .i64 r.req, .string r.key, .string r.val] 48)).alloc (.cells #[.int .i64 0, .int .i64 0, .int .i64 0, .string ⟨#[]⟩, .slice none 0 0, .slice none 0 0, .slice none 0 0] 34)) W → W.heap[w.heap.size]? = some (.cells #[.int .i64 n.lev, .int .i64 n.lsn, .int .i64 n.rgt, .string n.high, .slice p.k n.keys.length p.kc, .slice p.v n.vals.length p.vc, .slice p.i n.kids.length p.ic] 34 (0, 0)) ∧ W.heap[w.heap.size + 1]? = some (.cells #[.int .i64 r.lsn, .int .i64 r.ep, .int .i64 r.kind, .int .i64 r.page, .int .i64 r.other, .int .i64 r.req, .string r.key, .string r.val] 48 (0, 0)) ∧ W.heap[w.heap.size + 2]? = some (.cells #[.int .i64 0, .int .i64 0, .int .i64 0, .string ⟨#[]⟩, .slice none 0 0, .slice none 0 0, .slice none 0 0] 34 (0, 0))) := fun W f => three_at w _ _ _ f
  have HN : Hid (∀ W, Fr (fun _ => False) (((w.alloc (.cells #[.int .i64 n.lev, .int .i64 n.lsn, .int .i64 n.rgt, .string n.high, .slice p.k n.keys.length p.kc, .slice p.v n.vals.length p.vc, .slice p.i n.kids.length p.ic] 34)).alloc (.cells #[.int .i64 r.lsn, .int .i64 r.ep, .int .i64 r.kind, .int .i64 r.page, .int .i64 r.other, .int .i64 r.req, .string r.key, .string r.val] 48)).alloc (.cells #[.int .i64 0, .int .i64 0, .int .i64 0, .string ⟨#[]⟩, .slice none 0 0, .slice none 0 0, .slice none 0 0] 34)) W → Nod W n p) := fun W f => h.same (f0.seq' f)
  have HQ : Hid (∀ W, Fr (fun _ => False) (((w.alloc (.cells #[.int .i64 n.lev, .int .i64 n.lsn, .int .i64 n.rgt, .string n.high, .slice p.k n.keys.length p.kc, .slice p.v n.vals.length p.vc, .slice p.i n.kids.length p.ic] 34)).alloc (.cells #[.int .i64 r.lsn, .int .i64 r.ep, .int .i64 r.kind, .int .i64 r.page, .int .i64 r.other, .int .i64 r.req, .string r.key, .string r.val] 48)).alloc (.cells #[.int .i64 0, .int .i64 0, .int .i64 0, .string ⟨#[]⟩, .slice none 0 0, .slice none 0 0, .slice none 0 0] 34)) W → (W.cell? ⟨w.heap.size, 0, none⟩ = some (.int .i64 n.lev) ∧ W.cell? ⟨w.heap.size, 1, none⟩ = some (.int .i64 n.lsn) ∧ W.cell? ⟨w.heap.size, 2, none⟩ = some (.int .i64 n.rgt) ∧ W.cell? ⟨w.heap.size, 3, none⟩ = some (.string n.high) ∧ W.cell? ⟨w.heap.size, 4, none⟩ = some (.slice p.k n.keys.length p.kc) ∧ W.cell? ⟨w.heap.size, 5, none⟩ = some (.slice p.v n.vals.length p.vc) ∧ W.cell? ⟨w.heap.size, 6, none⟩ = some (.slice p.i n.kids.length p.ic)) ∧ W.cell? ⟨(w.heap.size + 1), 0, none⟩ = some (.int .i64 r.lsn) ∧ W.cell? ⟨(w.heap.size + 1), 1, none⟩ = some (.int .i64 r.ep) ∧ W.cell? ⟨(w.heap.size + 1), 2, none⟩ = some (.int .i64 r.kind) ∧ W.cell? ⟨(w.heap.size + 1), 3, none⟩ = some (.int .i64 r.page) ∧ W.cell? ⟨(w.heap.size + 1), 4, none⟩ = some (.int .i64 r.other) ∧ W.cell? ⟨(w.heap.size + 1), 5, none⟩ = some (.int .i64 r.req) ∧ W.cell? ⟨(w.heap.size + 1), 6, none⟩ = some (.string r.key) ∧ W.cell? ⟨(w.heap.size + 1), 7, none⟩ = some (.string r.val)) := fun W f => ⟨box_cells (HT.out W f).1, (rec_cells (HT.out W f).2.1).1⟩
  have hc1 := right_any r (((w.alloc (.cells #[.int .i64 n.lev, .int .i64 n.lsn, .int .i64 n.rgt, .string n.high, .slice p.k n.keys.length p.kc, .slice p.v n.vals.length p.vc, .slice p.i n.kids.length p.ic] 34)).alloc (.cells #[.int .i64 r.lsn, .int .i64 r.ep, .int .i64 r.kind, .int .i64 r.page, .int .i64 r.other, .int .i64 r.req, .string r.key, .string r.val] 48)).alloc (.cells #[.int .i64 0, .int .i64 0, .int .i64 0, .string ⟨#[]⟩, .slice none 0 0, .slice none 0 0, .slice none 0 0] 34))
  have hc3 := ridle_any r
  unfold ApOutR
  cases hrk : rok r
  · rw [hrk] at hc1
    have hev := ap_err (pre_rec (n := n) (b := b) hrk) (by decide)
    clear hrk hc3
    go_enter Tryz.func19, Tryz.ntmps19
    go_wp2_with fail
    refine hc1.mono ?_
    rintro e w1 ⟨rfl, fr1⟩
    clear hc1
    obtain ⟨hq, ff⟩ := fin7 (HT.out _ fr1).2.2 (.int .i64 0) (.int .i64 0) (.int .i64 0) (.string ⟨#[]⟩) (.slice none 0 0) (.slice none 0 0) (.slice none 0 0)
    obtain ⟨⟨s0, s1, s2, s3, s4, s5, s6⟩, sz⟩ := node_cells (HT.out _ fr1).2.2
    have y0 := sz 0; have y1 := sz 1; have y2 := sz 2; have y3 := sz 3; have y4 := sz 4; have y5 := sz 5; have y6 := sz 6
    have fff := (f0.seq' fr1).trans ff (S := fun _ => False) (fun i hi e => by omega)
    clear sz
    go_wp2
    generalize ((((((w1.setCell ⟨w.heap.size + 2, 0, none⟩ (.int .i64 0)).setCell ⟨w.heap.size + 2, 1, none⟩ (.int .i64 0)).setCell ⟨w.heap.size + 2, 2, none⟩ (.int .i64 0)).setCell ⟨w.heap.size + 2, 3, none⟩ (.string ⟨#[]⟩)).setCell ⟨w.heap.size + 2, 4, none⟩ (.slice none 0 0)).setCell ⟨w.heap.size + 2, 5, none⟩ (.slice none 0 0)).setCell ⟨w.heap.size + 2, 6, none⟩ (.slice none 0 0) = Wf at hq ff fff ⊢
    obtain ⟨⟨q0, q1, q2, q3, q4, q5, q6⟩, _⟩ := node_cells hq
    rw [hev.1, hev.2.1, hev.2.2]
    exact bodyPost_ret (v := .tuple #[.agg #[.int .i64 0, .int .i64 0, .int .i64 0, .string ⟨#[]⟩, .slice none 0 0, .slice none 0 0, .slice none 0 0], .bool false, .int .i64 90]) (by simp [results, Tryz.results19, go_sem, q0, q1, q2, q3, q4, q5, q6]) rfl ⟨zp, rfl, zn_nod _, fff, .inl (zp_nw _)⟩
  · rw [hrk] at hc1
    have HRK : Hid (rok r = true) := hrk
    clear hrk
    by_cases hbr : b = true ∧ rightB n = false
    · obtain ⟨rfl, hrn⟩ := hbr
      have hev := ap_err (pre_node HRK.out hrn) (by decide)
      have HRR : Hid (∀ W, Nod W n p → Calls Tryz.prog 31 #[(.agg #[.int .i64 n.lev, .int .i64 n.lsn, .int .i64 n.rgt, .string n.high, .slice p.k n.keys.length p.kc, .slice p.v n.vals.length p.vc, .slice p.i n.kids.length p.ic])] W fun e w' => e = .returned (.bool false) ∧ Fr (fun _ => False) W w') := fun W hW => by have := rright_any n p W hW; rw [hrn] at this; exact this
      clear hrn hc3
      go_enter Tryz.func19, Tryz.ntmps19
      go_wp2_with fail
      refine hc1.mono ?_
      rintro e w1 ⟨rfl, fr1⟩
      obtain ⟨⟨c0, c1, c2, c3, c4, c5, c6⟩, r0, r1, r2, r3, r4, r5, r6, r7⟩ := HQ.out _ fr1
      go_wp2_with fail
      refine (HRR.out _ (HN.out _ fr1)).mono ?_
      rintro e w2 ⟨rfl, f2⟩
      have fr2 := fr1.seq' f2
      clear hc1 c0 c1 c2 c3 c4 c5 c6 r0 r1 r2 r3 r4 r5 r6 r7
      obtain ⟨hq, ff⟩ := fin7 (HT.out _ fr2).2.2 (.int .i64 0) (.int .i64 0) (.int .i64 0) (.string ⟨#[]⟩) (.slice none 0 0) (.slice none 0 0) (.slice none 0 0)
      obtain ⟨⟨s0, s1, s2, s3, s4, s5, s6⟩, sz⟩ := node_cells (HT.out _ fr2).2.2
      have y0 := sz 0; have y1 := sz 1; have y2 := sz 2; have y3 := sz 3; have y4 := sz 4; have y5 := sz 5; have y6 := sz 6
      have fff := (f0.seq' fr2).trans ff (S := fun _ => False) (fun i hi e => by omega)
      clear sz
      go_wp2
      generalize ((((((w2.setCell ⟨w.heap.size + 2, 0, none⟩ (.int .i64 0)).setCell ⟨w.heap.size + 2, 1, none⟩ (.int .i64 0)).setCell ⟨w.heap.size + 2, 2, none⟩ (.int .i64 0)).setCell ⟨w.heap.size + 2, 3, none⟩ (.string ⟨#[]⟩)).setCell ⟨w.heap.size + 2, 4, none⟩ (.slice none 0 0)).setCell ⟨w.heap.size + 2, 5, none⟩ (.slice none 0 0)).setCell ⟨w.heap.size + 2, 6, none⟩ (.slice none 0 0) = Wf at hq ff fff ⊢
      obtain ⟨⟨q0, q1, q2, q3, q4, q5, q6⟩, _⟩ := node_cells hq
      rw [hev.1, hev.2.1, hev.2.2]
      exact bodyPost_ret (v := .tuple #[.agg #[.int .i64 0, .int .i64 0, .int .i64 0, .string ⟨#[]⟩, .slice none 0 0, .slice none 0 0, .slice none 0 0], .bool false, .int .i64 70]) (by simp [results, Tryz.results19, go_sem, q0, q1, q2, q3, q4, q5, q6]) rfl ⟨zp, rfl, zn_nod _, fff, .inl (zp_nw _)⟩
    · have hbr' : b = true → rightB n = true := fun hb => by
        cases hr : rightB n
        · exact absurd ⟨hb, hr⟩ hbr
        · rfl
      have HPN : Hid (preE n b r = needE r.kind b) := pre_need HRK.out hbr'
      have HRR : Hid (∀ W, b = true → Nod W n p → Calls Tryz.prog 31 #[(.agg #[.int .i64 n.lev, .int .i64 n.lsn, .int .i64 n.rgt, .string n.high, .slice p.k n.keys.length p.kc, .slice p.v n.vals.length p.vc, .slice p.i n.kids.length p.ic])] W fun e w' => e = .returned (.bool true) ∧ Fr (fun _ => False) W w') := fun W hb hW => by have := rright_any n p W hW; rw [hbr' hb] at this; exact this
      clear hbr hbr'
      obtain ⟨ib, hib⟩ : ∃ ib, ib = idleB r.kind := ⟨_, rfl⟩
      have HIB : Hid (idleB r.kind = ib) := hib.symm
      rw [← hib] at hc3
      clear hib
      cases b
      · go_enter Tryz.func19, Tryz.ntmps19
        go_wp2_with fail
        refine hc1.mono ?_
        rintro e w1 ⟨rfl, frX⟩
        obtain ⟨⟨c0, c1, c2, c3, c4, c5, c6⟩, r0, r1, r2, r3, r4, r5, r6, r7⟩ := HQ.out _ frX
        go_wp2_with fail
        clear c0 c1 c2 c3 c4 c5 c6 r0 r1 r2 r3 r4 r5 r6 r7
        refine (hc3 _).mono ?_
        rintro e w3 ⟨rfl, f3⟩
        have fr3 := frX.seq' f3
        clear hc3 hc1
        cases ib
        · have hkd := rok_kind HRK.out HIB.out
          obtain ⟨⟨c0, c1, c2, c3, c4, c5, c6⟩, r0, r1, r2, r3, r4, r5, r6, r7⟩ := HQ.out _ fr3
          by_cases h4 : r.kind = 4
          · have hk4 : (r.kind == 4) = true := by simpa using h4
            have hpz : preE n false r = 0 := by rw [HPN.out]; exact need_four _ h4
            have hcf := ch_four (n := n) h4 (rok_new HRK.out h4)
            obtain ⟨a, c, w4, hcv, hrw, f4⟩ := run_bytes r.val w3
            have hc := rdecode_dec (some a) r.val.size c (bsOf r.val) (bsOf_length r.val).symm w4 (hrw hvz)
            unfold DecOut at hc
            have hev := ap_ok hpz (show oldB n false r = false from rfl) hcf.1
            rw [hcf.2] at hev
            generalize ((decF (bsOf r.val)).getD zn) = cn at *
            generalize (if (decF (bsOf r.val)).isSome = true then (0 : Int) else 60) = fe at *
            clear h4 hkd hcf hrw
            go_wp2_with fail
            refine hc.mono ?_
            rintro e w5 ⟨q, rfl, ndq, f5, hnw⟩
            have fr4 := fr3.seq' f4
            have fr5 := fr4.seq' f5
            have hz4 : w.heap.size + 3 ≤ w4.heap.size := by have := fr4.size; simp at this; omega
            clear hc hcv c0 c1 c2 c3 c4 c5 c6 r0 r1 r2 r3 r4 r5 r6 r7
            have fr7 := fr5.alloc (.cells #[.int .i64 cn.lev, .int .i64 r.lsn, .int .i64 cn.rgt, .string cn.high, .slice q.k cn.keys.length q.kc, .slice q.v cn.vals.length q.vc, .slice q.i cn.kids.length q.ic] 34)
            obtain ⟨⟨r0, r1, r2, r3, r4, r5, r6, r7⟩, _⟩ := rec_cells (HT.out _ (fr5.alloc (.cells #[.int .i64 cn.lev, .int .i64 cn.lsn, .int .i64 cn.rgt, .string cn.high, .slice q.k cn.keys.length q.kc, .slice q.v cn.vals.length q.vc, .slice q.i cn.kids.length q.ic] 34))).2.1
            have nd7 := (ndq.same ((Fr.refl (fun _ => False) w5).alloc (.cells #[.int .i64 cn.lev, .int .i64 r.lsn, .int .i64 cn.rgt, .string cn.high, .slice q.k cn.keys.length q.kc, .slice q.v cn.vals.length q.vc, .slice q.i cn.kids.length q.ic] 34))).withL r.lsn
            obtain ⟨⟨k0, k1, k2, k3, k4, k5, k6⟩, _⟩ := node_cells (heap_alloc_new w5 (.cells #[.int .i64 cn.lev, .int .i64 r.lsn, .int .i64 cn.rgt, .string cn.high, .slice q.k cn.keys.length q.kc, .slice q.v cn.vals.length q.vc, .slice q.i cn.kids.length q.ic] 34))
            go_upto_region 12 with fail
            clear r0 r1 r2 r3 r4 r5 r6 r7
            generalize w5.alloc (.cells #[.int .i64 cn.lev, .int .i64 r.lsn, .int .i64 cn.rgt, .string cn.high, .slice q.k cn.keys.length q.kc, .slice q.v cn.vals.length q.vc, .slice q.i cn.kids.length q.ic] 34) = w6 at *
            obtain ⟨hq, ff⟩ := fin7 (HT.out _ fr7).2.2 (.int .i64 cn.lev) (.int .i64 r.lsn) (.int .i64 cn.rgt) (.string cn.high) (.slice q.k cn.keys.length q.kc) (.slice q.v cn.vals.length q.vc) (.slice q.i cn.kids.length q.ic)
            obtain ⟨⟨s0, s1, s2, s3, s4, s5, s6⟩, sz⟩ := node_cells (HT.out _ fr7).2.2
            have y0 := sz 0; have y1 := sz 1; have y2 := sz 2; have y3 := sz 3; have y4 := sz 4; have y5 := sz 5; have y6 := sz 6
            have fff := (f0.seq' fr7).trans ff (S := fun _ => False) (fun i hi e => by omega)
            clear sz
            go_wp2
            generalize ((((((w6.setCell ⟨w.heap.size + 2, 0, none⟩ (.int .i64 cn.lev)).setCell ⟨w.heap.size + 2, 1, none⟩ (.int .i64 r.lsn)).setCell ⟨w.heap.size + 2, 2, none⟩ (.int .i64 cn.rgt)).setCell ⟨w.heap.size + 2, 3, none⟩ (.string cn.high)).setCell ⟨w.heap.size + 2, 4, none⟩ (.slice q.k cn.keys.length q.kc)).setCell ⟨w.heap.size + 2, 5, none⟩ (.slice q.v cn.vals.length q.vc)).setCell ⟨w.heap.size + 2, 6, none⟩ (.slice q.i cn.kids.length q.ic) = Wf at hq ff fff ⊢
            obtain ⟨⟨q0, q1, q2, q3, q4, q5, q6⟩, _⟩ := node_cells hq
            rw [hev.1, hev.2.1, hev.2.2]
            exact bodyPost_ret (v := .tuple #[.agg #[.int .i64 cn.lev, .int .i64 r.lsn, .int .i64 cn.rgt, .string cn.high, .slice q.k cn.keys.length q.kc, .slice q.v cn.vals.length q.vc, .slice q.i cn.kids.length q.ic], .bool true, .int .i64 0]) (by simp [results, Tryz.results19, go_sem, q0, q1, q2, q3, q4, q5, q6]) rfl ⟨q, rfl, nd_far nd7 ff (fun b off hx e => by have := hnw b off hx; omega), fff, .inl (fun b off hx => by have := hnw b off hx; omega)⟩
          · have hk4 : (r.kind == 4) = false := by simpa using h4
            have hkp : r.kind = 2 ∨ r.kind = 3 ∨ r.kind = 5 ∨ r.kind = 6 := by omega
            have hpn : preE n false r = if false = true then 0 else 6 := by rw [HPN.out]; exact need_page hkp
            clear h4 hkd
            have hev := ap_err hpn (by decide)
            clear hkp
            obtain ⟨hq, ff⟩ := fin7 (HT.out _ fr3).2.2 (.int .i64 0) (.int .i64 0) (.int .i64 0) (.string ⟨#[]⟩) (.slice none 0 0) (.slice none 0 0) (.slice none 0 0)
            obtain ⟨⟨s0, s1, s2, s3, s4, s5, s6⟩, sz⟩ := node_cells (HT.out _ fr3).2.2
            have y0 := sz 0; have y1 := sz 1; have y2 := sz 2; have y3 := sz 3; have y4 := sz 4; have y5 := sz 5; have y6 := sz 6
            have fff := (f0.seq' fr3).trans ff (S := fun _ => False) (fun i hi e => by omega)
            clear sz
            go_wp2
            generalize ((((((w3.setCell ⟨w.heap.size + 2, 0, none⟩ (.int .i64 0)).setCell ⟨w.heap.size + 2, 1, none⟩ (.int .i64 0)).setCell ⟨w.heap.size + 2, 2, none⟩ (.int .i64 0)).setCell ⟨w.heap.size + 2, 3, none⟩ (.string ⟨#[]⟩)).setCell ⟨w.heap.size + 2, 4, none⟩ (.slice none 0 0)).setCell ⟨w.heap.size + 2, 5, none⟩ (.slice none 0 0)).setCell ⟨w.heap.size + 2, 6, none⟩ (.slice none 0 0) = Wf at hq ff fff ⊢
            obtain ⟨⟨q0, q1, q2, q3, q4, q5, q6⟩, _⟩ := node_cells hq
            rw [hev.1, hev.2.1, hev.2.2]
            exact bodyPost_ret (v := .tuple #[.agg #[.int .i64 0, .int .i64 0, .int .i64 0, .string ⟨#[]⟩, .slice none 0 0, .slice none 0 0, .slice none 0 0], .bool false, .int .i64 6]) (by simp [results, Tryz.results19, go_sem, q0, q1, q2, q3, q4, q5, q6]) rfl ⟨zp, rfl, zn_nod _, fff, .inl (zp_nw _)⟩
        · have hev := ap_err (HPN.out.trans (need_idle HIB.out)) (by decide)
          obtain ⟨hq, ff⟩ := fin7 (HT.out _ fr3).2.2 (.int .i64 0) (.int .i64 0) (.int .i64 0) (.string ⟨#[]⟩) (.slice none 0 0) (.slice none 0 0) (.slice none 0 0)
          obtain ⟨⟨s0, s1, s2, s3, s4, s5, s6⟩, sz⟩ := node_cells (HT.out _ fr3).2.2
          have y0 := sz 0; have y1 := sz 1; have y2 := sz 2; have y3 := sz 3; have y4 := sz 4; have y5 := sz 5; have y6 := sz 6
          have fff := (f0.seq' fr3).trans ff (S := fun _ => False) (fun i hi e => by omega)
          clear sz
          go_wp2
          generalize ((((((w3.setCell ⟨w.heap.size + 2, 0, none⟩ (.int .i64 0)).setCell ⟨w.heap.size + 2, 1, none⟩ (.int .i64 0)).setCell ⟨w.heap.size + 2, 2, none⟩ (.int .i64 0)).setCell ⟨w.heap.size + 2, 3, none⟩ (.string ⟨#[]⟩)).setCell ⟨w.heap.size + 2, 4, none⟩ (.slice none 0 0)).setCell ⟨w.heap.size + 2, 5, none⟩ (.slice none 0 0)).setCell ⟨w.heap.size + 2, 6, none⟩ (.slice none 0 0) = Wf at hq ff fff ⊢
          obtain ⟨⟨q0, q1, q2, q3, q4, q5, q6⟩, _⟩ := node_cells hq
          rw [hev.1, hev.2.1, hev.2.2]
          exact bodyPost_ret (v := .tuple #[.agg #[.int .i64 0, .int .i64 0, .int .i64 0, .string ⟨#[]⟩, .slice none 0 0, .slice none 0 0, .slice none 0 0], .bool false, .int .i64 1]) (by simp [results, Tryz.results19, go_sem, q0, q1, q2, q3, q4, q5, q6]) rfl ⟨zp, rfl, zn_nod _, fff, .inl (zp_nw _)⟩
      · go_enter Tryz.func19, Tryz.ntmps19
        go_wp2_with fail
        refine hc1.mono ?_
        rintro e w1 ⟨rfl, fr1⟩
        obtain ⟨⟨c0, c1, c2, c3, c4, c5, c6⟩, r0, r1, r2, r3, r4, r5, r6, r7⟩ := HQ.out _ fr1
        go_wp2_with fail
        refine (HRR.out _ (by first | trivial | rfl) (HN.out _ fr1)).mono ?_
        rintro e w2 ⟨rfl, f2⟩
        have frX := fr1.seq' f2
        clear c0 c1 c2 c3 c4 c5 c6 r0 r1 r2 r3 r4 r5 r6 r7
        obtain ⟨⟨c0, c1, c2, c3, c4, c5, c6⟩, r0, r1, r2, r3, r4, r5, r6, r7⟩ := HQ.out _ frX
        go_wp2_with fail
        clear c0 c1 c2 c3 c4 c5 c6 r0 r1 r2 r3 r4 r5 r6 r7
        refine (hc3 _).mono ?_
        rintro e w3 ⟨rfl, f3⟩
        have fr3 := frX.seq' f3
        clear hc3 hc1
        cases ib
        · have hkd := rok_kind HRK.out HIB.out
          obtain ⟨⟨c0, c1, c2, c3, c4, c5, c6⟩, r0, r1, r2, r3, r4, r5, r6, r7⟩ := HQ.out _ fr3
          by_cases h4 : r.kind = 4
          · have hk4 : (r.kind == 4) = true := by simpa using h4
            have hpz : preE n true r = 0 := by rw [HPN.out]; exact need_four _ h4
            by_cases hle : r.lsn ≤ n.lsn
            · have hdl : decide (r.lsn ≤ n.lsn) = true := decide_eq_true hle
              have hev := ap_old hpz (show oldB n true r = true from hdl)
              clear hle
              obtain ⟨hq, ff⟩ := fin7 (HT.out _ fr3).2.2 (.int .i64 n.lev) (.int .i64 n.lsn) (.int .i64 n.rgt) (.string n.high) (.slice p.k n.keys.length p.kc) (.slice p.v n.vals.length p.vc) (.slice p.i n.kids.length p.ic)
              obtain ⟨⟨s0, s1, s2, s3, s4, s5, s6⟩, sz⟩ := node_cells (HT.out _ fr3).2.2
              have y0 := sz 0; have y1 := sz 1; have y2 := sz 2; have y3 := sz 3; have y4 := sz 4; have y5 := sz 5; have y6 := sz 6
              have fff := (f0.seq' fr3).trans ff (S := fun _ => False) (fun i hi e => by omega)
              clear sz
              go_wp2
              generalize ((((((w3.setCell ⟨w.heap.size + 2, 0, none⟩ (.int .i64 n.lev)).setCell ⟨w.heap.size + 2, 1, none⟩ (.int .i64 n.lsn)).setCell ⟨w.heap.size + 2, 2, none⟩ (.int .i64 n.rgt)).setCell ⟨w.heap.size + 2, 3, none⟩ (.string n.high)).setCell ⟨w.heap.size + 2, 4, none⟩ (.slice p.k n.keys.length p.kc)).setCell ⟨w.heap.size + 2, 5, none⟩ (.slice p.v n.vals.length p.vc)).setCell ⟨w.heap.size + 2, 6, none⟩ (.slice p.i n.kids.length p.ic) = Wf at hq ff fff ⊢
              obtain ⟨⟨q0, q1, q2, q3, q4, q5, q6⟩, _⟩ := node_cells hq
              rw [hev.1, hev.2.1, hev.2.2]
              exact bodyPost_ret (v := .tuple #[(.agg #[.int .i64 n.lev, .int .i64 n.lsn, .int .i64 n.rgt, .string n.high, .slice p.k n.keys.length p.kc, .slice p.v n.vals.length p.vc, .slice p.i n.kids.length p.ic]), .bool false, .int .i64 0]) (by simp [results, Tryz.results19, go_sem, q0, q1, q2, q3, q4, q5, q6]) rfl ⟨p, rfl, h.same fff, fff, .inr rfl⟩
            have hdl : decide (r.lsn ≤ n.lsn) = false := decide_eq_false hle
            have hob : oldB n true r = false := hdl
            clear hle
            have hcf := ch_four (n := n) h4 (rok_new HRK.out h4)
            obtain ⟨a, c, w4, hcv, hrw, f4⟩ := run_bytes r.val w3
            have hc := rdecode_dec (some a) r.val.size c (bsOf r.val) (bsOf_length r.val).symm w4 (hrw hvz)
            unfold DecOut at hc
            have hev := ap_ok hpz hob hcf.1
            rw [hcf.2] at hev
            generalize ((decF (bsOf r.val)).getD zn) = cn at *
            generalize (if (decF (bsOf r.val)).isSome = true then (0 : Int) else 60) = fe at *
            clear h4 hkd hcf hrw
            go_wp2_with fail
            refine hc.mono ?_
            rintro e w5 ⟨q, rfl, ndq, f5, hnw⟩
            have fr4 := fr3.seq' f4
            have fr5 := fr4.seq' f5
            have hz4 : w.heap.size + 3 ≤ w4.heap.size := by have := fr4.size; simp at this; omega
            clear hc hcv c0 c1 c2 c3 c4 c5 c6 r0 r1 r2 r3 r4 r5 r6 r7
            have fr7 := fr5.alloc (.cells #[.int .i64 cn.lev, .int .i64 r.lsn, .int .i64 cn.rgt, .string cn.high, .slice q.k cn.keys.length q.kc, .slice q.v cn.vals.length q.vc, .slice q.i cn.kids.length q.ic] 34)
            obtain ⟨⟨r0, r1, r2, r3, r4, r5, r6, r7⟩, _⟩ := rec_cells (HT.out _ (fr5.alloc (.cells #[.int .i64 cn.lev, .int .i64 cn.lsn, .int .i64 cn.rgt, .string cn.high, .slice q.k cn.keys.length q.kc, .slice q.v cn.vals.length q.vc, .slice q.i cn.kids.length q.ic] 34))).2.1
            have nd7 := (ndq.same ((Fr.refl (fun _ => False) w5).alloc (.cells #[.int .i64 cn.lev, .int .i64 r.lsn, .int .i64 cn.rgt, .string cn.high, .slice q.k cn.keys.length q.kc, .slice q.v cn.vals.length q.vc, .slice q.i cn.kids.length q.ic] 34))).withL r.lsn
            obtain ⟨⟨k0, k1, k2, k3, k4, k5, k6⟩, _⟩ := node_cells (heap_alloc_new w5 (.cells #[.int .i64 cn.lev, .int .i64 r.lsn, .int .i64 cn.rgt, .string cn.high, .slice q.k cn.keys.length q.kc, .slice q.v cn.vals.length q.vc, .slice q.i cn.kids.length q.ic] 34))
            go_upto_region 12 with fail
            clear r0 r1 r2 r3 r4 r5 r6 r7
            generalize w5.alloc (.cells #[.int .i64 cn.lev, .int .i64 r.lsn, .int .i64 cn.rgt, .string cn.high, .slice q.k cn.keys.length q.kc, .slice q.v cn.vals.length q.vc, .slice q.i cn.kids.length q.ic] 34) = w6 at *
            obtain ⟨hq, ff⟩ := fin7 (HT.out _ fr7).2.2 (.int .i64 cn.lev) (.int .i64 r.lsn) (.int .i64 cn.rgt) (.string cn.high) (.slice q.k cn.keys.length q.kc) (.slice q.v cn.vals.length q.vc) (.slice q.i cn.kids.length q.ic)
            obtain ⟨⟨s0, s1, s2, s3, s4, s5, s6⟩, sz⟩ := node_cells (HT.out _ fr7).2.2
            have y0 := sz 0; have y1 := sz 1; have y2 := sz 2; have y3 := sz 3; have y4 := sz 4; have y5 := sz 5; have y6 := sz 6
            have fff := (f0.seq' fr7).trans ff (S := fun _ => False) (fun i hi e => by omega)
            clear sz
            go_wp2
            generalize ((((((w6.setCell ⟨w.heap.size + 2, 0, none⟩ (.int .i64 cn.lev)).setCell ⟨w.heap.size + 2, 1, none⟩ (.int .i64 r.lsn)).setCell ⟨w.heap.size + 2, 2, none⟩ (.int .i64 cn.rgt)).setCell ⟨w.heap.size + 2, 3, none⟩ (.string cn.high)).setCell ⟨w.heap.size + 2, 4, none⟩ (.slice q.k cn.keys.length q.kc)).setCell ⟨w.heap.size + 2, 5, none⟩ (.slice q.v cn.vals.length q.vc)).setCell ⟨w.heap.size + 2, 6, none⟩ (.slice q.i cn.kids.length q.ic) = Wf at hq ff fff ⊢
            obtain ⟨⟨q0, q1, q2, q3, q4, q5, q6⟩, _⟩ := node_cells hq
            rw [hev.1, hev.2.1, hev.2.2]
            exact bodyPost_ret (v := .tuple #[.agg #[.int .i64 cn.lev, .int .i64 r.lsn, .int .i64 cn.rgt, .string cn.high, .slice q.k cn.keys.length q.kc, .slice q.v cn.vals.length q.vc, .slice q.i cn.kids.length q.ic], .bool true, .int .i64 0]) (by simp [results, Tryz.results19, go_sem, q0, q1, q2, q3, q4, q5, q6]) rfl ⟨q, rfl, nd_far nd7 ff (fun b off hx e => by have := hnw b off hx; omega), fff, .inl (fun b off hx => by have := hnw b off hx; omega)⟩
          · have hk4 : (r.kind == 4) = false := by simpa using h4
            have hkp : r.kind = 2 ∨ r.kind = 3 ∨ r.kind = 5 ∨ r.kind = 6 := by omega
            have hpn : preE n true r = if true = true then 0 else 6 := by rw [HPN.out]; exact need_page hkp
            clear h4 hkd
            have hpz : preE n true r = 0 := hpn
            by_cases hle : r.lsn ≤ n.lsn
            · have hdl : decide (r.lsn ≤ n.lsn) = true := decide_eq_true hle
              have hev := ap_old hpz (show oldB n true r = true from hdl)
              clear hle
              obtain ⟨hq, ff⟩ := fin7 (HT.out _ fr3).2.2 (.int .i64 n.lev) (.int .i64 n.lsn) (.int .i64 n.rgt) (.string n.high) (.slice p.k n.keys.length p.kc) (.slice p.v n.vals.length p.vc) (.slice p.i n.kids.length p.ic)
              obtain ⟨⟨s0, s1, s2, s3, s4, s5, s6⟩, sz⟩ := node_cells (HT.out _ fr3).2.2
              have y0 := sz 0; have y1 := sz 1; have y2 := sz 2; have y3 := sz 3; have y4 := sz 4; have y5 := sz 5; have y6 := sz 6
              have fff := (f0.seq' fr3).trans ff (S := fun _ => False) (fun i hi e => by omega)
              clear sz
              go_wp2
              generalize ((((((w3.setCell ⟨w.heap.size + 2, 0, none⟩ (.int .i64 n.lev)).setCell ⟨w.heap.size + 2, 1, none⟩ (.int .i64 n.lsn)).setCell ⟨w.heap.size + 2, 2, none⟩ (.int .i64 n.rgt)).setCell ⟨w.heap.size + 2, 3, none⟩ (.string n.high)).setCell ⟨w.heap.size + 2, 4, none⟩ (.slice p.k n.keys.length p.kc)).setCell ⟨w.heap.size + 2, 5, none⟩ (.slice p.v n.vals.length p.vc)).setCell ⟨w.heap.size + 2, 6, none⟩ (.slice p.i n.kids.length p.ic) = Wf at hq ff fff ⊢
              obtain ⟨⟨q0, q1, q2, q3, q4, q5, q6⟩, _⟩ := node_cells hq
              rw [hev.1, hev.2.1, hev.2.2]
              exact bodyPost_ret (v := .tuple #[(.agg #[.int .i64 n.lev, .int .i64 n.lsn, .int .i64 n.rgt, .string n.high, .slice p.k n.keys.length p.kc, .slice p.v n.vals.length p.vc, .slice p.i n.kids.length p.ic]), .bool false, .int .i64 0]) (by simp [results, Tryz.results19, go_sem, q0, q1, q2, q3, q4, q5, q6]) rfl ⟨p, rfl, h.same fff, fff, .inr rfl⟩
            have hdl : decide (r.lsn ≤ n.lsn) = false := decide_eq_false hle
            have hob : oldB n true r = false := hdl
            clear hle
            have hc := rdone_any n p r hkp hkz hvz w3 (HN.out _ fr3)
            unfold NdOut2 at hc
            obtain ⟨ce, hce⟩ : ∃ x, x = chE n r := ⟨_, rfl⟩
            obtain ⟨cn, hcn⟩ : ∃ x, x = chN n r := ⟨_, rfl⟩
            have HCE : Hid (chE n r = ce) := hce.symm
            have HCN : Hid (chN n r = cn) := hcn.symm
            rw [← hce, ← hcn] at hc
            clear hce hcn hkp hpn
            go_wp2_with fail
            refine hc.mono ?_
            rintro e w5 ⟨q, rfl, ndq, f5, hnw⟩
            have fr5 := fr3.seq' f5
            have hz4 : w.heap.size + 3 ≤ w3.heap.size := by have := fr3.size; simp at this; omega
            clear hc c0 c1 c2 c3 c4 c5 c6 r0 r1 r2 r3 r4 r5 r6 r7
            by_cases hcz : ce = 0
            · subst hcz
              have hev := ap_ok hpz hob HCE.out
              rw [HCN.out] at hev
              have fr7 := fr5.alloc (.cells #[.int .i64 cn.lev, .int .i64 r.lsn, .int .i64 cn.rgt, .string cn.high, .slice q.k cn.keys.length q.kc, .slice q.v cn.vals.length q.vc, .slice q.i cn.kids.length q.ic] 34)
              obtain ⟨⟨r0, r1, r2, r3, r4, r5, r6, r7⟩, _⟩ := rec_cells (HT.out _ (fr5.alloc (.cells #[.int .i64 cn.lev, .int .i64 cn.lsn, .int .i64 cn.rgt, .string cn.high, .slice q.k cn.keys.length q.kc, .slice q.v cn.vals.length q.vc, .slice q.i cn.kids.length q.ic] 34))).2.1
              have nd7 := (ndq.same ((Fr.refl (fun _ => False) w5).alloc (.cells #[.int .i64 cn.lev, .int .i64 r.lsn, .int .i64 cn.rgt, .string cn.high, .slice q.k cn.keys.length q.kc, .slice q.v cn.vals.length q.vc, .slice q.i cn.kids.length q.ic] 34))).withL r.lsn
              obtain ⟨⟨k0, k1, k2, k3, k4, k5, k6⟩, _⟩ := node_cells (heap_alloc_new w5 (.cells #[.int .i64 cn.lev, .int .i64 r.lsn, .int .i64 cn.rgt, .string cn.high, .slice q.k cn.keys.length q.kc, .slice q.v cn.vals.length q.vc, .slice q.i cn.kids.length q.ic] 34))
              go_upto_region 19 with fail
              clear r0 r1 r2 r3 r4 r5 r6 r7
              generalize w5.alloc (.cells #[.int .i64 cn.lev, .int .i64 r.lsn, .int .i64 cn.rgt, .string cn.high, .slice q.k cn.keys.length q.kc, .slice q.v cn.vals.length q.vc, .slice q.i cn.kids.length q.ic] 34) = w6 at *
              obtain ⟨hq, ff⟩ := fin7 (HT.out _ fr7).2.2 (.int .i64 cn.lev) (.int .i64 r.lsn) (.int .i64 cn.rgt) (.string cn.high) (.slice q.k cn.keys.length q.kc) (.slice q.v cn.vals.length q.vc) (.slice q.i cn.kids.length q.ic)
              obtain ⟨⟨s0, s1, s2, s3, s4, s5, s6⟩, sz⟩ := node_cells (HT.out _ fr7).2.2
              have y0 := sz 0; have y1 := sz 1; have y2 := sz 2; have y3 := sz 3; have y4 := sz 4; have y5 := sz 5; have y6 := sz 6
              have fff := (f0.seq' fr7).trans ff (S := fun _ => False) (fun i hi e => by omega)
              clear sz
              go_wp2
              generalize ((((((w6.setCell ⟨w.heap.size + 2, 0, none⟩ (.int .i64 cn.lev)).setCell ⟨w.heap.size + 2, 1, none⟩ (.int .i64 r.lsn)).setCell ⟨w.heap.size + 2, 2, none⟩ (.int .i64 cn.rgt)).setCell ⟨w.heap.size + 2, 3, none⟩ (.string cn.high)).setCell ⟨w.heap.size + 2, 4, none⟩ (.slice q.k cn.keys.length q.kc)).setCell ⟨w.heap.size + 2, 5, none⟩ (.slice q.v cn.vals.length q.vc)).setCell ⟨w.heap.size + 2, 6, none⟩ (.slice q.i cn.kids.length q.ic) = Wf at hq ff fff ⊢
              obtain ⟨⟨q0, q1, q2, q3, q4, q5, q6⟩, _⟩ := node_cells hq
              rw [hev.1, hev.2.1, hev.2.2]
              exact bodyPost_ret (v := .tuple #[.agg #[.int .i64 cn.lev, .int .i64 r.lsn, .int .i64 cn.rgt, .string cn.high, .slice q.k cn.keys.length q.kc, .slice q.v cn.vals.length q.vc, .slice q.i cn.kids.length q.ic], .bool true, .int .i64 0]) (by simp [results, Tryz.results19, go_sem, q0, q1, q2, q3, q4, q5, q6]) rfl ⟨q, rfl, nd_far nd7 ff (fun b off hx e => by have := hnw b off hx; omega), fff, .inl (fun b off hx => by have := hnw b off hx; omega)⟩
            · have hcb : (ce != 0) = true := by simpa using hcz
              have hev := ap_bad hpz hob (by rw [HCE.out]; exact hcz)
              have fr6 := fr5.alloc (.cells #[.int .i64 cn.lev, .int .i64 cn.lsn, .int .i64 cn.rgt, .string cn.high, .slice q.k cn.keys.length q.kc, .slice q.v cn.vals.length q.vc, .slice q.i cn.kids.length q.ic] 34)
              clear hcz
              obtain ⟨hq, ff⟩ := fin7 (HT.out _ fr6).2.2 (.int .i64 0) (.int .i64 0) (.int .i64 0) (.string ⟨#[]⟩) (.slice none 0 0) (.slice none 0 0) (.slice none 0 0)
              obtain ⟨⟨s0, s1, s2, s3, s4, s5, s6⟩, sz⟩ := node_cells (HT.out _ fr6).2.2
              have y0 := sz 0; have y1 := sz 1; have y2 := sz 2; have y3 := sz 3; have y4 := sz 4; have y5 := sz 5; have y6 := sz 6
              have fff := (f0.seq' fr6).trans ff (S := fun _ => False) (fun i hi e => by omega)
              clear sz
              go_wp2
              generalize (((((((w5.alloc (.cells #[.int .i64 cn.lev, .int .i64 cn.lsn, .int .i64 cn.rgt, .string cn.high, .slice q.k cn.keys.length q.kc, .slice q.v cn.vals.length q.vc, .slice q.i cn.kids.length q.ic] 34)).setCell ⟨w.heap.size + 2, 0, none⟩ (.int .i64 0)).setCell ⟨w.heap.size + 2, 1, none⟩ (.int .i64 0)).setCell ⟨w.heap.size + 2, 2, none⟩ (.int .i64 0)).setCell ⟨w.heap.size + 2, 3, none⟩ (.string ⟨#[]⟩)).setCell ⟨w.heap.size + 2, 4, none⟩ (.slice none 0 0)).setCell ⟨w.heap.size + 2, 5, none⟩ (.slice none 0 0)).setCell ⟨w.heap.size + 2, 6, none⟩ (.slice none 0 0) = Wf at hq ff fff ⊢
              obtain ⟨⟨q0, q1, q2, q3, q4, q5, q6⟩, _⟩ := node_cells hq
              rw [hev.1, hev.2.1, hev.2.2]
              exact bodyPost_ret (v := .tuple #[.agg #[.int .i64 0, .int .i64 0, .int .i64 0, .string ⟨#[]⟩, .slice none 0 0, .slice none 0 0, .slice none 0 0], .bool false, .int .i64 90]) (by simp [results, Tryz.results19, go_sem, q0, q1, q2, q3, q4, q5, q6]) rfl ⟨zp, rfl, zn_nod _, fff, .inl (zp_nw _)⟩
        · have hev := ap_err (HPN.out.trans (need_idle HIB.out)) (by decide)
          obtain ⟨hq, ff⟩ := fin7 (HT.out _ fr3).2.2 (.int .i64 0) (.int .i64 0) (.int .i64 0) (.string ⟨#[]⟩) (.slice none 0 0) (.slice none 0 0) (.slice none 0 0)
          obtain ⟨⟨s0, s1, s2, s3, s4, s5, s6⟩, sz⟩ := node_cells (HT.out _ fr3).2.2
          have y0 := sz 0; have y1 := sz 1; have y2 := sz 2; have y3 := sz 3; have y4 := sz 4; have y5 := sz 5; have y6 := sz 6
          have fff := (f0.seq' fr3).trans ff (S := fun _ => False) (fun i hi e => by omega)
          clear sz
          go_wp2
          generalize ((((((w3.setCell ⟨w.heap.size + 2, 0, none⟩ (.int .i64 0)).setCell ⟨w.heap.size + 2, 1, none⟩ (.int .i64 0)).setCell ⟨w.heap.size + 2, 2, none⟩ (.int .i64 0)).setCell ⟨w.heap.size + 2, 3, none⟩ (.string ⟨#[]⟩)).setCell ⟨w.heap.size + 2, 4, none⟩ (.slice none 0 0)).setCell ⟨w.heap.size + 2, 5, none⟩ (.slice none 0 0)).setCell ⟨w.heap.size + 2, 6, none⟩ (.slice none 0 0) = Wf at hq ff fff ⊢
          obtain ⟨⟨q0, q1, q2, q3, q4, q5, q6⟩, _⟩ := node_cells hq
          rw [hev.1, hev.2.1, hev.2.2]
          exact bodyPost_ret (v := .tuple #[.agg #[.int .i64 0, .int .i64 0, .int .i64 0, .string ⟨#[]⟩, .slice none 0 0, .slice none 0 0, .slice none 0 0], .bool false, .int .i64 1]) (by simp [results, Tryz.results19, go_sem, q0, q1, q2, q3, q4, q5, q6]) rfl ⟨zp, rfl, zn_nod _, fff, .inl (zp_nw _)⟩
end Go.Proofs.YtlgceleelhppdaaGreat
