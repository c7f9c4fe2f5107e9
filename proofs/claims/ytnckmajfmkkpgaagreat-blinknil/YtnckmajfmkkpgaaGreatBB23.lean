
/- NdCopy, RcBase, RcKind. -/
import Derived.Test.YtnckmajfmkkpgaaGreatBB21
import Derived.Test.YtnckmajfmkkpgaaGreatBB22
import Derived.Test.YtnckmajfmkkpgaaGreatBB18
import Derived.Test.YtnckmajfmkkpgaaGreatBB10
/- What copied and fitting make. -/
namespace Go.Proofs.YtnckmajfmkkpgaaGreat
open Go.RowKit

/-- A node whose lists are the call's own. -/
def CpOut (n : Nd) (w : World) (e : Ending) (w' : World) : Prop :=
  ∃ ak ck av cv ai ci, e = .returned (.agg #[.int .i64 n.lev, .int .i64 n.lsn, .int .i64 n.rgt, .string n.high, .slice ak n.keys.length ck, .slice av n.vals.length cv, .slice ai n.kids.length ci]) ∧
    Has w' 1 (.slice ak n.keys.length ck) n.keys.length (strCells n.keys) ∧ Has w' 1 (.slice av n.vals.length cv) n.vals.length (strCells n.vals) ∧ Has w' 1 (.slice ai n.kids.length ci) n.kids.length (intCells n.kids) ∧
    (∀ g, (Value.slice ak n.keys.length ck).ownBlock = some g → w.heap.size ≤ g) ∧ (∀ g, (Value.slice av n.vals.length cv).ownBlock = some g → w.heap.size ≤ g) ∧ (∀ g, (Value.slice ai n.kids.length ci).ownBlock = some g → w.heap.size ≤ g) ∧
    (∀ g, (Value.slice ak n.keys.length ck).ownBlock = some g → (Value.slice av n.vals.length cv).ownBlock ≠ some g) ∧ (∀ g, (Value.slice ak n.keys.length ck).ownBlock = some g → (Value.slice ai n.kids.length ci).ownBlock ≠ some g) ∧ (∀ g, (Value.slice av n.vals.length cv).ownBlock = some g → (Value.slice ai n.kids.length ci).ownBlock ≠ some g) ∧
    Fr (fun _ => False) w w'
theorem wp_clS {o : Oper} {ac : Act} {w : World} {K : Act → World → Prop} {Q : Exit → Act → World → Prop} (x : Operand) (ts : Array TypeId) (ho : o.op = .call { callee := .value (.func 29), args := #[x], argTypes := ts }) {v : Value} (hx : ac.eval x = v)
    (h : Oper.upon Tryz.prog o ac K Q (.ok (.enter 29 #[v]) w)) : o.wp Tryz.prog ac w K Q := by
  have hr : (execOp ac.eval o).run Tryz.prog w = .ok (.enter 29 #[ac.eval x]) w := by
    unfold execOp
    simp only [ho]
    go_simp
    try simp [Act.eval]
  unfold Oper.wp
  rw [hr, hx]
  exact h
theorem wp_clI {o : Oper} {ac : Act} {w : World} {K : Act → World → Prop} {Q : Exit → Act → World → Prop} (x : Operand) (ts : Array TypeId) (ho : o.op = .call { callee := .value (.func 30), args := #[x], argTypes := ts }) {v : Value} (hx : ac.eval x = v)
    (h : Oper.upon Tryz.prog o ac K Q (.ok (.enter 30 #[v]) w)) : o.wp Tryz.prog ac w K Q := by
  have hr : (execOp ac.eval o).run Tryz.prog w = .ok (.enter 30 #[ac.eval x]) w := by
    unfold execOp
    simp only [ho]
    go_simp
    try simp [Act.eval]
  unfold Oper.wp
  rw [hr, hx]
  exact h
set_option maxRecDepth 100000 in
set_option maxHeartbeats 4000000 in
theorem copied_any (n : Nd) (p : Pt) (hk : n.keys.length ≤ 100000) (hv : n.vals.length ≤ 100000) (hi : n.kids.length ≤ 100000) (w : World) (h : Nod w n p) : Calls Tryz.prog 94 #[(.agg #[.int .i64 n.lev, .int .i64 n.lsn, .int .i64 n.rgt, .string n.high, .slice p.k n.keys.length p.kc, .slice p.v n.vals.length p.vc, .slice p.i n.kids.length p.ic])] w fun e w' => CpOut n w e w' := by
  have f0 : Fr (fun _ => False) w ((w.alloc (.cells #[.int .i64 n.lev, .int .i64 n.lsn, .int .i64 n.rgt, .string n.high, .slice p.k n.keys.length p.kc, .slice p.v n.vals.length p.vc, .slice p.i n.kids.length p.ic] 28)).alloc (.cells #[.int .i64 0, .int .i64 0, .int .i64 0, .string ⟨#[]⟩, .slice none 0 0, .slice none 0 0, .slice none 0 0] 28)) := ((Fr.refl _ _).alloc _).alloc _
  have HB : Hid (∀ W, Fr (fun _ => False) ((w.alloc (.cells #[.int .i64 n.lev, .int .i64 n.lsn, .int .i64 n.rgt, .string n.high, .slice p.k n.keys.length p.kc, .slice p.v n.vals.length p.vc, .slice p.i n.kids.length p.ic] 28)).alloc (.cells #[.int .i64 0, .int .i64 0, .int .i64 0, .string ⟨#[]⟩, .slice none 0 0, .slice none 0 0, .slice none 0 0] 28)) W → W.cell? ⟨w.heap.size, 0, none⟩ = some (.int .i64 n.lev) ∧ W.cell? ⟨w.heap.size, 1, none⟩ = some (.int .i64 n.lsn) ∧ W.cell? ⟨w.heap.size, 2, none⟩ = some (.int .i64 n.rgt) ∧ W.cell? ⟨w.heap.size, 3, none⟩ = some (.string n.high) ∧ W.cell? ⟨w.heap.size, 4, none⟩ = some (.slice p.k n.keys.length p.kc) ∧ W.cell? ⟨w.heap.size, 5, none⟩ = some (.slice p.v n.vals.length p.vc) ∧ W.cell? ⟨w.heap.size, 6, none⟩ = some (.slice p.i n.kids.length p.ic)) := fun W f => box_cells (box_at w n p 28 (((Fr.refl _ _).alloc _).seq' f))
  have HBB : Hid (∀ W, Fr (fun _ => False) ((w.alloc (.cells #[.int .i64 n.lev, .int .i64 n.lsn, .int .i64 n.rgt, .string n.high, .slice p.k n.keys.length p.kc, .slice p.v n.vals.length p.vc, .slice p.i n.kids.length p.ic] 28)).alloc (.cells #[.int .i64 0, .int .i64 0, .int .i64 0, .string ⟨#[]⟩, .slice none 0 0, .slice none 0 0, .slice none 0 0] 28)) W → W.heap[w.heap.size]? = some (.cells #[.int .i64 n.lev, .int .i64 n.lsn, .int .i64 n.rgt, .string n.high, .slice p.k n.keys.length p.kc, .slice p.v n.vals.length p.vc, .slice p.i n.kids.length p.ic] 28 (0, 0))) := fun W f => box_at w n p 28 (((Fr.refl _ _).alloc _).seq' f)
  have HRB : Hid (∀ W, Fr (fun _ => False) ((w.alloc (.cells #[.int .i64 n.lev, .int .i64 n.lsn, .int .i64 n.rgt, .string n.high, .slice p.k n.keys.length p.kc, .slice p.v n.vals.length p.vc, .slice p.i n.kids.length p.ic] 28)).alloc (.cells #[.int .i64 0, .int .i64 0, .int .i64 0, .string ⟨#[]⟩, .slice none 0 0, .slice none 0 0, .slice none 0 0] 28)) W → W.heap[w.heap.size + 1]? = some (.cells #[.int .i64 0, .int .i64 0, .int .i64 0, .string ⟨#[]⟩, .slice none 0 0, .slice none 0 0, .slice none 0 0] 28 (0, 0))) := fun W f => by
    refine f.blk ?_ (fun f => f)
    have := heap_alloc_new (w.alloc (.cells #[.int .i64 n.lev, .int .i64 n.lsn, .int .i64 n.rgt, .string n.high, .slice p.k n.keys.length p.kc, .slice p.v n.vals.length p.vc, .slice p.i n.kids.length p.ic] 28)) (.cells #[.int .i64 0, .int .i64 0, .int .i64 0, .string ⟨#[]⟩, .slice none 0 0, .slice none 0 0, .slice none 0 0] 28)
    rw [show (w.alloc (.cells #[.int .i64 n.lev, .int .i64 n.lsn, .int .i64 n.rgt, .string n.high, .slice p.k n.keys.length p.kc, .slice p.v n.vals.length p.vc, .slice p.i n.kids.length p.ic] 28)).heap.size = w.heap.size + 1 by simp] at this
    exact this
  have fr0 := (Fr.refl (fun _ => False) ((w.alloc (.cells #[.int .i64 n.lev, .int .i64 n.lsn, .int .i64 n.rgt, .string n.high, .slice p.k n.keys.length p.kc, .slice p.v n.vals.length p.vc, .slice p.i n.kids.length p.ic] 28)).alloc (.cells #[.int .i64 0, .int .i64 0, .int .i64 0, .string ⟨#[]⟩, .slice none 0 0, .slice none 0 0, .slice none 0 0] 28))).drew
  have q0 := HB.out _ fr0
  have hN := h.same (f0.seq' fr0)
  have HKL : Hid (n.keys.length ≤ 100000) := hk
  have HVL : Hid (n.vals.length ≤ 100000) := hv
  have HIL : Hid (n.kids.length ≤ 100000) := hi
  clear hk hv hi
  go_enter Tryz.func94, Tryz.ntmps94
  go_wp2_with fail
  obtain ⟨c0, c1, c2, c3, c4, c5, c6⟩ := q0
  go_region_law
    (first
      | (show (if Region.wanted { dst := some 5, op := .call { callee := .value (.func 29), args := _, argTypes := _ }, type := _, pos := _, after := _, guard := _ } _ = true then _ else _); refine step_of (by rfl) (wp_clS (.tmp 4) _ (by rfl) (by rfl) ?_); rw [Oper.upon_enter]; refine (clone_s p.k n.keys.length p.kc n.keys _ hN.keys rfl HKL.out).mono ?_; rintro en w1 ⟨a1, cc1, rfl, hs1, m1, o1⟩; have fr1 := fr0.seq' m1; obtain ⟨d0, d1, d2, d3, d4, d5, d6⟩ := HB.out _ fr1; have hN1 := h.same (f0.seq' fr1))
      | (show (if Region.wanted { dst := some 8, op := .call { callee := .value (.func 29), args := _, argTypes := _ }, type := _, pos := _, after := _, guard := _ } _ = true then _ else _); refine step_of (by rfl) (wp_clS (.tmp 7) _ (by rfl) (by rfl) ?_); rw [Oper.upon_enter]; refine (clone_s p.v n.vals.length p.vc n.vals _ hN1.vals rfl HVL.out).mono ?_; rintro en w2 ⟨a2, cc2, rfl, hs2, m2, o2⟩; have fr2 := fr1.seq' m2; obtain ⟨e0, e1, e2, e3, e4, e5, e6⟩ := HB.out _ fr2; have hN2 := h.same (f0.seq' fr2))
      | (show (if Region.wanted { dst := some 11, op := .call { callee := .value (.func 30), args := _, argTypes := _ }, type := _, pos := _, after := _, guard := _ } _ = true then _ else _); refine step_of (by rfl) (wp_clI (.tmp 10) _ (by rfl) (by rfl) ?_); rw [Oper.upon_enter]; refine (clone_i p.i n.kids.length p.ic n.kids _ hN2.kids rfl HIL.out).mono ?_; rintro en w3 ⟨a3, cc3, rfl, hs3, m3, o3⟩; have fr3 := fr2.seq' m3; obtain ⟨⟨g0, g1, g2, g3, g4, g5, g6⟩, rz⟩ := node_cells (HBB.out _ fr3); have z4 := rz 4; have z5 := rz 5; have z6 := rz 6))
  all_goals
    have hb3 := HBB.out _ fr3
    have hr3 := HRB.out _ fr3
    have hs1' := hs1.fr (m2.seq' m3) (fun _ _ f => f)
    have hs2' := hs2.fr m3 (fun _ _ f => f)
    have z1 : w.heap.size + 2 ≤ w1.heap.size := by have := fr1.size; simp at this; omega
    have z2 : w1.heap.size ≤ w2.heap.size := m2.size
    have l1 : ∀ g, (Value.slice a1 n.keys.length cc1).ownBlock = some g → w.heap.size + 1 < g ∧ g < w1.heap.size := fun g hg => ⟨by have := o1 g hg; simp at this; omega, hs1.lt hg⟩
    have l2 : ∀ g, (Value.slice a2 n.vals.length cc2).ownBlock = some g → w1.heap.size ≤ g ∧ g < w2.heap.size := fun g hg => ⟨o2 g hg, hs2.lt hg⟩
    have l3 : ∀ g, (Value.slice a3 n.kids.length cc3).ownBlock = some g → w2.heap.size ≤ g := fun g hg => o3 g hg
    have ffB : Fr (fun k => k = w.heap.size) w3 (((w3.setCell ⟨w.heap.size, 4, none⟩ (.slice a1 n.keys.length cc1)).setCell ⟨w.heap.size, 5, none⟩ (.slice a2 n.vals.length cc2)).setCell ⟨w.heap.size, 6, none⟩ (.slice a3 n.kids.length cc3)) := (((Fr.refl (fun k => k = w.heap.size) w3).setCell (p := ⟨w.heap.size, 4, none⟩) (fun _ => rfl) _).setCell (p := ⟨w.heap.size, 5, none⟩) (fun _ => rfl) _).setCell (p := ⟨w.heap.size, 6, none⟩) (fun _ => rfl) _
    have hb4 := node_setCell (j := 6) (node_setCell (j := 5) (node_setCell (j := 4) hb3 (.slice a1 n.keys.length cc1)) (.slice a2 n.vals.length cc2)) (.slice a3 n.kids.length cc3)
    have hr4 := ffB.blk hr3 (by omega)
    have F3 := f0.seq' fr3
    generalize ((w3.setCell ⟨w.heap.size, 4, none⟩ (.slice a1 n.keys.length cc1)).setCell ⟨w.heap.size, 5, none⟩ (.slice a2 n.vals.length cc2)).setCell ⟨w.heap.size, 6, none⟩ (.slice a3 n.kids.length cc3) = W4 at ffB hb4 hr4 ⊢
    obtain ⟨⟨t0, t1, t2, t3, t4, t5, t6⟩, _⟩ := node_cells (c0 := .int .i64 n.lev) (c1 := .int .i64 n.lsn) (c2 := .int .i64 n.rgt) (c3 := .string n.high) (c4 := .slice a1 n.keys.length cc1) (c5 := .slice a2 n.vals.length cc2) (c6 := .slice a3 n.kids.length cc3) hb4
    obtain ⟨⟨s0, s1, s2, s3, s4, s5, s6⟩, sz⟩ := node_cells hr4
    have y0 := sz 0; have y1 := sz 1; have y2 := sz 2; have y3 := sz 3; have y4 := sz 4; have y5 := sz 5; have y6 := sz 6
    clear c0 c1 c2 c3 c4 c5 c6 d0 d1 d2 d3 d4 d5 d6 e0 e1 e2 e3 e4 e5 e6 g0 g1 g2 g3 g4 g5 g6 rz z4 z5 z6 sz hN hN1 hN2
    go_wp2
    obtain ⟨hq, ff⟩ := fin7 hr4 (.int .i64 n.lev) (.int .i64 n.lsn) (.int .i64 n.rgt) (.string n.high) (.slice a1 n.keys.length cc1) (.slice a2 n.vals.length cc2) (.slice a3 n.kids.length cc3)
    have fff := (F3.trans ffB (S := fun _ => False) (fun i hi e => by omega)).trans ff (S := fun _ => False) (fun i hi e => by omega)
    have hsK := (hs1'.fr ffB (fun g hg e => by have := l1 g hg; omega)).fr ff (fun g hg e => by have := l1 g hg; omega)
    have hsV := (hs2'.fr ffB (fun g hg e => by have := l2 g hg; omega)).fr ff (fun g hg e => by have := l2 g hg; omega)
    have hsI := (hs3.fr ffB (fun g hg e => by have := l3 g hg; omega)).fr ff (fun g hg e => by have := l3 g hg; omega)
    generalize ((((((W4.setCell ⟨w.heap.size + 1, 0, none⟩ (.int .i64 n.lev)).setCell ⟨w.heap.size + 1, 1, none⟩ (.int .i64 n.lsn)).setCell ⟨w.heap.size + 1, 2, none⟩ (.int .i64 n.rgt)).setCell ⟨w.heap.size + 1, 3, none⟩ (.string n.high)).setCell ⟨w.heap.size + 1, 4, none⟩ (.slice a1 n.keys.length cc1)).setCell ⟨w.heap.size + 1, 5, none⟩ (.slice a2 n.vals.length cc2)).setCell ⟨w.heap.size + 1, 6, none⟩ (.slice a3 n.kids.length cc3) = Wf at hq fff hsK hsV hsI ⊢
    obtain ⟨⟨q0, q1, q2, q3, q4, q5, q6⟩, _⟩ := node_cells hq
    exact bodyPost_ret (v := .agg #[.int .i64 n.lev, .int .i64 n.lsn, .int .i64 n.rgt, .string n.high, .slice a1 n.keys.length cc1, .slice a2 n.vals.length cc2, .slice a3 n.kids.length cc3]) (by simp [results, Tryz.results94, go_sem, q0, q1, q2, q3, q4, q5, q6]) rfl
      ⟨a1, cc1, a2, cc2, a3, cc3, rfl, hsK, hsV, hsI, (fun g hg => by have := l1 g hg; omega), (fun g hg => by have := l2 g hg; omega), (fun g hg => by have := l3 g hg; omega), (fun g hg e => by have := l1 g hg; have := l2 g e; omega), (fun g hg e => by have := l1 g hg; have := l3 g e; omega), (fun g hg e => by have := l2 g hg; have := l3 g e; omega), fff⟩
end Go.Proofs.YtnckmajfmkkpgaaGreat

/- Records: what they hold, which are right; what package record's small functions tell. -/
namespace Go.Proofs.YtnckmajfmkkpgaaGreat
open Go.RowKit Crcm

/-- A record's parts. -/
structure Rec where
  lsn : Int
  ep : Int
  kind : Int
  page : Int
  other : Int
  req : Int
  key : ByteArray
  val : ByteArray
def pgB (x : Int) : Bool := wthB x 1 4096
def keyB (s : ByteArray) : Bool := ekey s.size == 0
def valB (s : ByteArray) : Bool := evalu s.size == 0
/-- Whether a text is the page of a node whose LSN is 0. -/
def newB (s : ByteArray) : Bool := (decF (bsOf s)).isSome && (((decF (bsOf s)).getD zn).lsn == 0)
def emp (s : ByteArray) : Bool := s.toList.isEmpty
/-- What a record must have by its kind. -/
def suitB (r : Rec) : Bool :=
  if r.kind = 7 then (r.page == 0) && (((r.other == 1 && valB r.val) || (r.other == 2 && emp r.val)) && (wthB r.req 1 1099511627776 && keyB r.key))
  else (r.req == 0) && (
    if r.kind = 1 then (r.page == 0) && ((r.other == 0) && (emp r.key && emp r.val))
    else if r.kind = 2 then pgB r.page && ((r.other == 0) && (keyB r.key && valB r.val))
    else if r.kind = 3 then pgB r.page && ((r.other == 0) && (keyB r.key && emp r.val))
    else if r.kind = 4 then pgB r.page && ((r.other == 0) && (emp r.key && newB r.val))
    else if r.kind = 5 ∨ r.kind = 6 then pgB r.page && (pgB r.other && (keyB r.key && emp r.val))
    else false)
/-- Whether a record is right. -/
def rok (r : Rec) : Bool := wthB r.lsn 1 1099511627776 && (wthB r.ep 0 1099511627776 && suitB r)
def erec (r : Rec) : Int := if rok r = true then 0 else 90
theorem erec_yes {r : Rec} (h : rok r = true) : erec r = 0 := if_pos h
theorem erec_no {r : Rec} (h : rok r = false) : erec r = 90 := if_neg (by rw [h]; simp)
theorem valB_emp {s : ByteArray} (h : emp s = true) : valB s = true := by
  unfold emp at h
  unfold valB evalu
  rw [List.isEmpty_iff, Lib.toList_data] at h
  have : s.size = 0 := by rw [Lib.size_eq, h]; rfl
  rw [this]; rfl

theorem Fr.own {a w : World} (h : Fr (fun _ => False) a w) (j : Nat) (u : Value) : Fr (fun _ => False) a (w.setCell ⟨a.heap.size, j, none⟩ u) := h.setCell (p := ⟨a.heap.size, j, none⟩) (fun hh => absurd hh (Nat.lt_irrefl _)) u
theorem rec_cells {w' : World} {c0 c1 c2 c3 c4 c5 c6 c7 : Value} {b : Nat} {t : TypeId} (h : w'.heap[b]? = some (.cells #[c0, c1, c2, c3, c4, c5, c6, c7] t (0, 0))) :
    (w'.cell? ⟨b, 0, none⟩ = some c0 ∧ w'.cell? ⟨b, 1, none⟩ = some c1 ∧ w'.cell? ⟨b, 2, none⟩ = some c2 ∧ w'.cell? ⟨b, 3, none⟩ = some c3 ∧ w'.cell? ⟨b, 4, none⟩ = some c4 ∧ w'.cell? ⟨b, 5, none⟩ = some c5 ∧ w'.cell? ⟨b, 6, none⟩ = some c6 ∧ w'.cell? ⟨b, 7, none⟩ = some c7) ∧ ∀ j, w'.frozen? ⟨b, j, none⟩ = false := by
  refine ⟨⟨?_, ?_, ?_, ?_, ?_, ?_, ?_, ?_⟩, fun j => ?_⟩
  all_goals simp [World.cell?, World.frozen?, h]
theorem rec_at (w : World) (C : Array Value) (t : TypeId) {w' : World} (f : Fr (fun _ => False) (w.alloc (.cells C t)) w') : w'.heap[w.heap.size]? = some (.cells C t (0, 0)) := by
  rw [f.block w.heap.size (by simp) (fun f => f)]; exact heap_alloc_new w _

/-- What '[]byte(..)' of a text lays. -/
theorem run_bytes (s : ByteArray) (w : World) : ∃ a cap w', (convert 9 124 (.string s)).run Tryz.prog w = .ok (.slice (some a) s.size cap) w' ∧ (s.size ≤ 140737488351232 → Row w' (some a) cap (bsOf s)) ∧ Fr (fun _ => False) w w' := by
  have h := run_bytes_of_string (P := Tryz.prog) w 9 124 5 s Tryz.underlying9 Tryz.underlying124 Tryz.underlying5
  refine ⟨_, _, _, h, fun hs => ⟨?_, ?_, ?_, bsOf_octs s, .inr ⟨_, _, rfl, by simp, fun i hi => ?_⟩⟩, ((Fr.refl _ w).drew).alloc _⟩
  · rw [bsOf_length]; exact grownCap_ge _ _ _ _
  · have := grownCap_le_maxLen w s.size 0 5 (by unfold maxLen; omega); unfold maxLen at this; omega
  · rw [bsOf_length]; omega
  · rw [Nat.zero_add]
    rw [bsOf_length] at hi
    exact bytes_cell s _ w.drew 5 _ i hi

set_option maxRecDepth 100000 in
set_option maxHeartbeats 400000 in
theorem rwithin_any (n a b : Int) (w : World) : Calls Tryz.prog 68 #[.int .i64 n, .int .i64 a, .int .i64 b] w fun e w' => e = .returned (.bool (wthB n a b)) ∧ w' = w := by
  by_cases h1 : a ≤ n
  · by_cases h2 : n ≤ b
    · have e : wthB n a b = true := by unfold wthB; rw [decide_eq_true_eq]; exact ⟨h1, h2⟩
      rw [e]
      go_enter Tryz.func68, Tryz.ntmps68
      go_wp2
      go_ret
      exact ⟨rfl, rfl⟩
    · have e : wthB n a b = false := by unfold wthB; rw [decide_eq_false_iff_not]; exact fun h => h2 h.2
      rw [e]
      go_enter Tryz.func68, Tryz.ntmps68
      go_wp2
      go_ret
      exact ⟨rfl, rfl⟩
  · have e : wthB n a b = false := by unfold wthB; rw [decide_eq_false_iff_not]; exact fun h => h1 h.1
    rw [e]
    go_enter Tryz.func68, Tryz.ntmps68
    go_wp2
    go_ret
    exact ⟨rfl, rfl⟩
set_option maxRecDepth 100000 in
set_option maxHeartbeats 400000 in
theorem isPage_any (n : Int) (w : World) : Calls Tryz.prog 85 #[.int .i64 n] w fun e w' => e = .returned (.bool (pgB n)) ∧ w' = w := by
  go_enter Tryz.func85, Tryz.ntmps85
  go_wp2_with (go_at_call 68; refine (rwithin_any _ _ _ _).mono ?_; rintro e w' ⟨rfl, rfl⟩)
  go_ret
  exact ⟨rfl, rfl⟩
set_option maxRecDepth 100000 in
set_option maxHeartbeats 400000 in
theorem isBare_any (lsn ep kind page other req : Int) (key val : ByteArray) (w : World) : Calls Tryz.prog 87 #[.agg #[.int .i64 lsn, .int .i64 ep, .int .i64 kind, .int .i64 page, .int .i64 other, .int .i64 req, .string key, .string val]] w fun e w' => e = .returned (.bool (page == 0 && (other == 0 && (req == 0 && (emp key && emp val))))) ∧ Fr (fun _ => False) w w' := by
  go_enter Tryz.func87, Tryz.ntmps87
  go_wp2
  all_goals go_ret
  all_goals exact ⟨ret_bool (by simp_all [emp]), Fr.box w _⟩
set_option maxRecDepth 100000 in
set_option maxHeartbeats 400000 in
theorem isEntry_any (lsn ep kind page other req : Int) (key val : ByteArray) (w : World) : Calls Tryz.prog 86 #[.agg #[.int .i64 lsn, .int .i64 ep, .int .i64 kind, .int .i64 page, .int .i64 other, .int .i64 req, .string key, .string val]] w fun e w' => e = .returned (.bool (keyB key && valB val)) ∧ w' = w.alloc (.cells #[.int .i64 lsn, .int .i64 ep, .int .i64 kind, .int .i64 page, .int .i64 other, .int .i64 req, .string key, .string val] 35) := by
  have H1 : Hid (keyB key = (((ekey key.size : Nat) : Int) == 0)) := by show _ = _; unfold keyB; rw [Bool.eq_iff_iff]; simp
  have H2 : Hid (valB val = (((evalu val.size : Nat) : Int) == 0)) := by show _ = _; unfold valB; rw [Bool.eq_iff_iff]; simp
  rw [H1.out, H2.out]
  have h1 := kcheck_any key
  have h2 := kvalue_any val
  generalize ((ekey key.size : Nat) : Int) = x at *
  generalize ((evalu val.size : Nat) : Int) = y at *
  by_cases hx : x = 0
  · subst hx
    go_enter Tryz.func86, Tryz.ntmps86
    go_wp2_with (first | (go_at_call 78; refine (h1 _).mono ?_; rintro e w' ⟨rfl, rfl⟩) | (go_at_call 92; refine (h2 _).mono ?_; rintro e w' ⟨rfl, rfl⟩))
    go_ret
    exact ⟨rfl, rfl⟩
  · have hx : (x == 0) = false := by simpa using hx
    rw [hx]
    go_enter Tryz.func86, Tryz.ntmps86
    go_wp2_with (first | (go_at_call 78; refine (h1 _).mono ?_; rintro e w' ⟨rfl, rfl⟩) | (go_at_call 92; refine (h2 _).mono ?_; rintro e w' ⟨rfl, rfl⟩))
    go_ret
    exact ⟨rfl, rfl⟩
set_option maxRecDepth 100000 in
set_option maxHeartbeats 400000 in
theorem isNewPage_any (s : ByteArray) (w : World) : Calls Tryz.prog 88 #[.string s] w fun e w' => e = .returned (.bool (newB s)) ∧ Fr (fun _ => False) w w' := by
  obtain ⟨a, c, w1, hcv, hr, f1⟩ := run_bytes s w
  have hd : Calls Tryz.prog 74 #[.slice (some a) s.size c] w1 fun e w' => ∃ p3 : Pt, e = .returned (.tuple #[(.agg #[.int .i64 ((decF (bsOf s)).getD zn).lev, .int .i64 ((decF (bsOf s)).getD zn).lsn, .int .i64 ((decF (bsOf s)).getD zn).rgt, .string ((decF (bsOf s)).getD zn).high, .slice p3.k ((decF (bsOf s)).getD zn).keys.length p3.kc, .slice p3.v ((decF (bsOf s)).getD zn).vals.length p3.vc, .slice p3.i ((decF (bsOf s)).getD zn).kids.length p3.ic]), .int .i64 (if (decF (bsOf s)).isSome = true then 0 else 60)]) ∧ Nod w' ((decF (bsOf s)).getD zn) p3 ∧ Fr (fun _ => False) w1 w' := by
    by_cases h : s.size = 256
    · exact decode_all (some a) s.size c (bsOf s) (bsOf_length s).symm w1 (hr (by omega))
    · exact (decode_len (some a) s.size c (bsOf s) (bsOf_length s).symm (by rw [bsOf_length]; exact h) w1).mono fun e w' ⟨p, x, y, z, _⟩ => ⟨p, x, y, z⟩
  have HN : Hid (newB s = ((decF (bsOf s)).isSome && (((decF (bsOf s)).getD zn).lsn == 0))) := rfl
  rw [HN.out]
  generalize (decF (bsOf s)).getD zn = n at *
  generalize (decF (bsOf s)).isSome = b at *
  clear HN hr
  cases b with
  | true =>
    simp only [if_true] at hd
    go_enter Tryz.func88, Tryz.ntmps88
    go_wp2_with (go_at_call 74; refine hd.mono ?_; rintro e w2 ⟨p3, rfl, _, f2⟩)
    go_ret
    exact ⟨rfl, (f1.seq' f2).alloc _⟩
  | false =>
    simp only [Bool.false_eq_true, if_false] at hd
    go_enter Tryz.func88, Tryz.ntmps88
    go_wp2_with (go_at_call 74; refine hd.mono ?_; rintro e w2 ⟨p3, rfl, _, f2⟩)
    go_ret
    exact ⟨rfl, (f1.seq' f2).alloc _⟩
end Go.Proofs.YtnckmajfmkkpgaaGreat

/- Which records record.Check takes. -/
namespace Go.Proofs.YtnckmajfmkkpgaaGreat
open Go.RowKit Crcm

set_option maxRecDepth 100000 in
set_option maxHeartbeats 1000000 in
theorem isCommit_any (lsn ep kind page other req : Int) (key val : ByteArray) (w : World) : Calls Tryz.prog 89 #[.agg #[.int .i64 lsn, .int .i64 ep, .int .i64 kind, .int .i64 page, .int .i64 other, .int .i64 req, .string key, .string val]] w fun e w' => e = .returned (.bool ((page == 0) && (((other == 1 && valB val) || (other == 2 && emp val)) && (wthB req 1 1099511627776 && keyB key)))) ∧ Fr (fun _ => False) w w' := by
  have HV : Hid (emp val = true → valB val = true) := valB_emp
  have HE : Hid (emp val = val.toList.isEmpty) := rfl
  go_enter Tryz.func89, Tryz.ntmps89
  go_wp2_with (first | (go_at_call 68; refine (rwithin_any _ _ _ _).mono ?_; rintro e w' ⟨rfl, rfl⟩) | (go_at_call 86; refine (isEntry_any lsn ep kind _ _ req key val _).mono ?_; rintro e w' ⟨rfl, rfl⟩))
  all_goals go_ret
  all_goals refine ⟨ret_bool ?_, by repeat (first | exact Fr.refl _ _ | apply Fr.own | apply Fr.alloc)⟩
  all_goals have hv := HV.out
  all_goals rw [HE.out] at hv ⊢
  all_goals simp_all [Bool.and_comm]

/-- What kinds but ReNew and ReCommit ask for. -/
def plainB (kind page other req : Int) (key val : ByteArray) : Bool :=
  (req == 0) && (
    if kind = 1 then (page == 0) && ((other == 0) && (emp key && emp val))
    else if kind = 2 then pgB page && ((other == 0) && (keyB key && valB val))
    else if kind = 3 then pgB page && ((other == 0) && (keyB key && emp val))
    else if kind = 5 ∨ kind = 6 then pgB page && (pgB other && (keyB key && emp val))
    else false)
set_option maxRecDepth 100000 in
set_option maxHeartbeats 4000000 in
theorem suits_plain (lsn ep kind page other req : Int) (key val : ByteArray) (h4 : kind ≠ 4) (h7 : kind ≠ 7) (w : World) : Calls Tryz.prog 69 #[.agg #[.int .i64 lsn, .int .i64 ep, .int .i64 kind, .int .i64 page, .int .i64 other, .int .i64 req, .string key, .string val]] w fun e w' => e = .returned (.bool (plainB kind page other req key val)) ∧ Fr (fun _ => False) w w' := by
  have HV : Hid (emp val = true → valB val = true) := valB_emp
  have HE : Hid (emp val = val.toList.isEmpty) := rfl
  have e4 : (kind == 4) = false := by simpa using h4
  have e7 : (kind == 7) = false := by simpa using h7
  clear h4 h7
  go_enter Tryz.func69, Tryz.ntmps69
  go_wp2_with (first | (go_at_call 85; refine (isPage_any _ _).mono ?_; rintro e w' ⟨rfl, rfl⟩) | (go_at_call 86; refine (isEntry_any _ _ _ _ _ _ _ _ _).mono ?_; rintro e w' ⟨rfl, rfl⟩) | (go_at_call 87; refine (isBare_any _ _ _ _ _ _ _ _ _).mono ?_; rintro e w9 ⟨rfl, f9⟩))
  all_goals go_ret
  all_goals refine ⟨ret_bool ?_, by first | ((repeat (first | exact Fr.refl _ _ | apply Fr.own | apply Fr.alloc)); done) | (refine Fr.false_trans ?_ f9; repeat (first | exact Fr.refl _ _ | apply Fr.own | apply Fr.alloc))⟩
  all_goals have hv := HV.out
  all_goals rw [HE.out] at hv
  all_goals unfold plainB
  all_goals try rw [HE.out]
  all_goals clear HV HE
  all_goals simp_all [emp, Bool.and_comm, Bool.and_left_comm, Bool.and_assoc]
  all_goals (rename_i hk; rcases hk with hk | hk <;> simp_all)

set_option maxRecDepth 100000 in
set_option maxHeartbeats 1000000 in
theorem suits_commit (lsn ep page other req : Int) (key val : ByteArray) (w : World) : Calls Tryz.prog 69 #[.agg #[.int .i64 lsn, .int .i64 ep, .int .i64 7, .int .i64 page, .int .i64 other, .int .i64 req, .string key, .string val]] w fun e w' => e = .returned (.bool ((page == 0) && (((other == 1 && valB val) || (other == 2 && emp val)) && (wthB req 1 1099511627776 && keyB key)))) ∧ Fr (fun _ => False) w w' := by
  go_enter Tryz.func69, Tryz.ntmps69
  go_wp2_with (go_at_call 89; refine (isCommit_any lsn ep 7 page other req key val _).mono ?_; rintro e w9 ⟨rfl, f9⟩)
  go_ret
  exact ⟨rfl, (Fr.box w _).seq' f9⟩
set_option maxRecDepth 100000 in
set_option maxHeartbeats 1000000 in
theorem suits_new (lsn ep page other req : Int) (key val : ByteArray) (w : World) : Calls Tryz.prog 69 #[.agg #[.int .i64 lsn, .int .i64 ep, .int .i64 4, .int .i64 page, .int .i64 other, .int .i64 req, .string key, .string val]] w fun e w' => e = .returned (.bool ((req == 0) && (pgB page && ((other == 0) && (emp key && newB val))))) ∧ Fr (fun _ => False) w w' := by
  go_enter Tryz.func69, Tryz.ntmps69
  go_wp2_with (first | (go_at_call 85; refine (isPage_any _ _).mono ?_; rintro e w' ⟨rfl, rfl⟩) | (go_at_call 88; refine (isNewPage_any val _).mono ?_; rintro e w2 ⟨rfl, f2⟩; have hb := rec_at w _ _ f2; obtain ⟨⟨q0, q1, q2, q3, q4, q5, q6, q7⟩, qz⟩ := rec_cells hb; have z3 := qz 3; have z7 := qz 7; clear qz hb) | (go_at_call 87; refine (isBare_any _ _ _ _ _ _ _ _ _).mono ?_; rintro e w9 ⟨rfl, f9⟩))
  all_goals go_ret
  all_goals refine ⟨ret_bool ?_, by first | exact Fr.box w _ | exact (Fr.box w _).seq' f2 | (refine Fr.false_trans ?_ f9; exact ((((Fr.box w _).seq' f2).own _ _).own _ _))⟩
  all_goals simp_all [emp, Bool.and_comm, Bool.and_left_comm]

theorem ksuits_any (r : Rec) (w : World) : Calls Tryz.prog 69 #[(.agg #[.int .i64 r.lsn, .int .i64 r.ep, .int .i64 r.kind, .int .i64 r.page, .int .i64 r.other, .int .i64 r.req, .string r.key, .string r.val])] w fun e w' => e = .returned (.bool (suitB r)) ∧ Fr (fun _ => False) w w' := by
  obtain ⟨lsn, ep, kind, page, other, req, key, val⟩ := r
  unfold suitB
  dsimp only
  by_cases h7 : kind = 7
  · subst h7
    rw [if_pos rfl]
    exact suits_commit lsn ep page other req key val w
  · rw [if_neg h7]
    by_cases h4 : kind = 4
    · subst h4
      exact suits_new lsn ep page other req key val w
    · rw [if_neg h4]
      exact suits_plain lsn ep kind page other req key val h4 h7 w

set_option maxRecDepth 100000 in
set_option maxHeartbeats 1000000 in
theorem rec_check (r : Rec) (w : World) : Calls Tryz.prog 52 #[(.agg #[.int .i64 r.lsn, .int .i64 r.ep, .int .i64 r.kind, .int .i64 r.page, .int .i64 r.other, .int .i64 r.req, .string r.key, .string r.val])] w fun e w' => e = .returned (.int .i64 (erec r)) ∧ Fr (fun _ => False) w w' := by
  have hsu := ksuits_any r
  have HR : Hid (rok r = (wthB r.lsn 1 1099511627776 && (wthB r.ep 0 1099511627776 && suitB r))) := rfl
  have HY : Hid (rok r = true → erec r = 0) := erec_yes
  have HN : Hid (rok r = false → erec r = 90) := erec_no
  generalize suitB r = b at *
  go_enter Tryz.func52, Tryz.ntmps52
  go_wp2_with (first | (go_at_call 68; refine (rwithin_any _ _ _ _).mono ?_; rintro e w' ⟨rfl, rfl⟩) | (go_at_call 69; refine (hsu _).mono ?_; rintro e w9 ⟨rfl, f9⟩))
  all_goals go_ret
  all_goals refine ⟨ret_int ?_, by first | exact Fr.box w _ | exact (Fr.box w _).seq' f9⟩
  all_goals symm
  all_goals have hr := HR.out
  all_goals first | (refine HN.out ?_; simp_all; done) | (refine HY.out ?_; simp_all; done)
end Go.Proofs.YtnckmajfmkkpgaaGreat
