
/- RyCopied, RySort, RyPages. -/
import Derived.Test.YtkibbojiflklpaaGreatRYF
import Derived.Deep.DeepCutAuto
import Derived.Test.YtkibbojiflklpaaGreatRYB
import Derived.Shelf.SlIterI.Sorted
import Derived.Shelf.Sort.AssemblyIn
import Derived.Sort.EveryDepth
/- A node with lists of its own, as a replay makes it; how long the lists of a node are that a record makes. -/
namespace Go.Proofs.YtkibbojiflklpaaGreat
open Go.RowKit Go.Lib

/-- A node whose lists are not long. -/
def Few (n : Nd) : Prop := n.keys.length ≤ 100000 ∧ n.vals.length ≤ 100000 ∧ n.kids.length ≤ 100000
theorem erTo_le {α : Type} (f : Bool) (i j : Nat) (l : List α) : (erTo f i j l).length ≤ l.length := by
  unfold erTo
  split
  · rw [List.length_eraseIdx]
    split <;> simp <;> omega
  · simp; omega
theorem insAll_leY {α : Type} (f : Bool) (i : Nat) (x : α) (l : List α) : (insAll f i x l).length ≤ l.length + 1 := by
  unfold insAll
  cases f <;> simp <;> omega
theorem rt_few2 {n : Nd} (r : Rt n) : n.keys.length ≤ 70000 ∧ n.vals.length ≤ 70000 ∧ n.kids.length ≤ 70000 := by
  have := keys_few r
  by_cases h0 : n.lev = 0
  · have := r.leaf h0; omega
  · have := r.inner h0; omega
theorem zn_few : Few zn := ⟨Nat.zero_le _, Nat.zero_le _, Nat.zero_le _⟩
theorem okN_few {e : Int} {m : Nd} (h : Few m) : Few (okN e m) := by
  unfold okN
  split
  · exact h
  · exact zn_few
theorem ch_few {n : Nd} {r : Rec} (h : r.kind = 2 ∨ r.kind = 3 ∨ r.kind = 5 ∨ r.kind = 6 → Rt n) : Few (chN n r) := by
  unfold chN
  by_cases h2 : r.kind = 2
  · rw [if_pos h2]
    obtain ⟨a, b, c⟩ := rt_few2 (h (.inl h2))
    refine okN_few ⟨?_, ?_, by simp [putN]⟩
    · exact Nat.le_trans (insAll_leY _ _ _ _) (by omega)
    · exact Nat.le_trans (insAll_leY _ _ _ _) (by omega)
  · rw [if_neg h2]
    by_cases h3 : r.kind = 3
    · rw [if_pos h3]
      obtain ⟨a, b, c⟩ := rt_few2 (h (.inr (.inl h3)))
      refine okN_few ⟨?_, ?_, by simp [delN, delTo]⟩
      · exact Nat.le_trans (erTo_le _ _ _ _) (by omega)
      · exact Nat.le_trans (erTo_le _ _ _ _) (by omega)
    · rw [if_neg h3]
      by_cases h5 : r.kind = 5
      · rw [if_pos h5]
        obtain ⟨a, b, c⟩ := rt_few2 (h (.inr (.inr (.inl h5))))
        refine okN_few ⟨?_, ?_, ?_⟩
        · simp [leftN, pieceN]; omega
        · simp only [leftN, pieceN]; split <;> simp <;> omega
        · simp only [leftN, pieceN]; split <;> simp <;> omega
      · rw [if_neg h5]
        by_cases h6 : r.kind = 6
        · rw [if_pos h6]
          obtain ⟨a, b, c⟩ := rt_few2 (h (.inr (.inr (.inr h6))))
          refine okN_few ?_
          unfold postN
          split
          · exact ⟨by omega, by omega, by omega⟩
          · exact ⟨Nat.le_trans (insAll_leY _ _ _ _) (by omega), by simp, Nat.le_trans (insAll_leY _ _ _ _) (by omega)⟩
        · rw [if_neg h6]
          cases hd : decF (bsOf r.val) with
          | none => exact zn_few
          | some m =>
            obtain ⟨a, b, c⟩ := rt_few2 (dec_some _ (bsOf_octs _) m hd).1
            exact ⟨by show m.keys.length ≤ _; omega, by show m.vals.length ≤ _; omega, by show m.kids.length ≤ _; omega⟩
theorem ap_few {n : Nd} {b : Bool} {r : Rec} (h : apE n b r = 0) : Few (apN n b r) := by
  have hp : preE n b r = 0 := by
    unfold apE at h
    by_cases e : preE n b r = 0
    · exact e
    · rw [if_neg e] at h; exact absurd h e
  obtain ⟨_, h2, h3⟩ := pre_ok hp
  unfold apN
  rw [if_pos hp]
  by_cases ho : oldB n b r = true
  · rw [if_pos ho]
    have hb : b = true := by unfold oldB at ho; simp only [Bool.and_eq_true] at ho; exact ho.1
    obtain ⟨a, b, c⟩ := rt_few2 (h2 hb)
    exact ⟨by omega, by omega, by omega⟩
  · rw [if_neg ho]
    by_cases hc : chE n r = 0
    · rw [if_pos hc]
      have := ch_few (n := n) (r := r) (fun hk => by
        refine h2 ?_
        unfold needE at h3
        rw [if_neg (by omega), if_pos hk] at h3
        cases b
        · cases h3
        · rfl)
      exact this
    · rw [if_neg hc]; exact zn_few
theorem AllOk.few {rs : List Rec} {last : Int} {P0 : Int → Option Nd} (ho : AllOk rs last P0) (h0 : ∀ x n, P0 x = some n → Few n) (m : Nat) : ∀ x n, ymS rs realB (·.page) stpR P0 m x = some n → Few n := by
  induction m with
  | zero => intro x n hx; exact h0 x n hx
  | succ m ih =>
    intro x n hx
    rw [ymS_succ] at hx
    by_cases hs : ymP rs realB (fun r : Rec => r.page) x m = true
    · rw [if_pos hs] at hx
      obtain ⟨r, a1, a2, a3⟩ := ymP_some hs
      unfold ymK at hx
      rw [a1] at hx
      have := ho.ok m r a1 a2
      rw [a3] at this
      unfold stpR at hx
      simp only [Option.some.injEq] at hx
      rw [← hx]
      exact ap_few this
    · rw [if_neg hs] at hx
      exact ih x n hx
set_option maxRecDepth 100000 in
set_option maxHeartbeats 4000000 in
theorem ry_copied (n : Nd) (p : Pt) (hk : n.keys.length ≤ 100000) (hv : n.vals.length ≤ 100000) (hi : n.kids.length ≤ 100000) (w : World) (h : Nod w n p) : Calls Tryz.prog 52 #[(.agg #[.int .i64 n.lev, .int .i64 n.lsn, .int .i64 n.rgt, .string n.high, .slice p.k n.keys.length p.kc, .slice p.v n.vals.length p.vc, .slice p.i n.kids.length p.ic])] w fun e w' => CpOut n w e w' := by
  have f0 : Fr (fun _ => False) w ((w.alloc (.cells #[.int .i64 n.lev, .int .i64 n.lsn, .int .i64 n.rgt, .string n.high, .slice p.k n.keys.length p.kc, .slice p.v n.vals.length p.vc, .slice p.i n.kids.length p.ic] 33)).alloc (.cells #[.int .i64 0, .int .i64 0, .int .i64 0, .string ⟨#[]⟩, .slice none 0 0, .slice none 0 0, .slice none 0 0] 33)) := ((Fr.refl _ _).alloc _).alloc _
  have HB : Hid (∀ W, Fr (fun _ => False) ((w.alloc (.cells #[.int .i64 n.lev, .int .i64 n.lsn, .int .i64 n.rgt, .string n.high, .slice p.k n.keys.length p.kc, .slice p.v n.vals.length p.vc, .slice p.i n.kids.length p.ic] 33)).alloc (.cells #[.int .i64 0, .int .i64 0, .int .i64 0, .string ⟨#[]⟩, .slice none 0 0, .slice none 0 0, .slice none 0 0] 33)) W → W.cell? ⟨w.heap.size, 0, none⟩ = some (.int .i64 n.lev) ∧ W.cell? ⟨w.heap.size, 1, none⟩ = some (.int .i64 n.lsn) ∧ W.cell? ⟨w.heap.size, 2, none⟩ = some (.int .i64 n.rgt) ∧ W.cell? ⟨w.heap.size, 3, none⟩ = some (.string n.high) ∧ W.cell? ⟨w.heap.size, 4, none⟩ = some (.slice p.k n.keys.length p.kc) ∧ W.cell? ⟨w.heap.size, 5, none⟩ = some (.slice p.v n.vals.length p.vc) ∧ W.cell? ⟨w.heap.size, 6, none⟩ = some (.slice p.i n.kids.length p.ic)) := fun W f => box_cells (box_at w n p 33 (((Fr.refl _ _).alloc _).seq' f))
  have HBB : Hid (∀ W, Fr (fun _ => False) ((w.alloc (.cells #[.int .i64 n.lev, .int .i64 n.lsn, .int .i64 n.rgt, .string n.high, .slice p.k n.keys.length p.kc, .slice p.v n.vals.length p.vc, .slice p.i n.kids.length p.ic] 33)).alloc (.cells #[.int .i64 0, .int .i64 0, .int .i64 0, .string ⟨#[]⟩, .slice none 0 0, .slice none 0 0, .slice none 0 0] 33)) W → W.heap[w.heap.size]? = some (.cells #[.int .i64 n.lev, .int .i64 n.lsn, .int .i64 n.rgt, .string n.high, .slice p.k n.keys.length p.kc, .slice p.v n.vals.length p.vc, .slice p.i n.kids.length p.ic] 33 (0, 0))) := fun W f => box_at w n p 33 (((Fr.refl _ _).alloc _).seq' f)
  have HRB : Hid (∀ W, Fr (fun _ => False) ((w.alloc (.cells #[.int .i64 n.lev, .int .i64 n.lsn, .int .i64 n.rgt, .string n.high, .slice p.k n.keys.length p.kc, .slice p.v n.vals.length p.vc, .slice p.i n.kids.length p.ic] 33)).alloc (.cells #[.int .i64 0, .int .i64 0, .int .i64 0, .string ⟨#[]⟩, .slice none 0 0, .slice none 0 0, .slice none 0 0] 33)) W → W.heap[w.heap.size + 1]? = some (.cells #[.int .i64 0, .int .i64 0, .int .i64 0, .string ⟨#[]⟩, .slice none 0 0, .slice none 0 0, .slice none 0 0] 33 (0, 0))) := fun W f => by
    refine f.blk ?_ (fun f => f)
    have := heap_alloc_new (w.alloc (.cells #[.int .i64 n.lev, .int .i64 n.lsn, .int .i64 n.rgt, .string n.high, .slice p.k n.keys.length p.kc, .slice p.v n.vals.length p.vc, .slice p.i n.kids.length p.ic] 33)) (.cells #[.int .i64 0, .int .i64 0, .int .i64 0, .string ⟨#[]⟩, .slice none 0 0, .slice none 0 0, .slice none 0 0] 33)
    rw [show (w.alloc (.cells #[.int .i64 n.lev, .int .i64 n.lsn, .int .i64 n.rgt, .string n.high, .slice p.k n.keys.length p.kc, .slice p.v n.vals.length p.vc, .slice p.i n.kids.length p.ic] 33)).heap.size = w.heap.size + 1 by simp] at this
    exact this
  have fr0 := (Fr.refl (fun _ => False) ((w.alloc (.cells #[.int .i64 n.lev, .int .i64 n.lsn, .int .i64 n.rgt, .string n.high, .slice p.k n.keys.length p.kc, .slice p.v n.vals.length p.vc, .slice p.i n.kids.length p.ic] 33)).alloc (.cells #[.int .i64 0, .int .i64 0, .int .i64 0, .string ⟨#[]⟩, .slice none 0 0, .slice none 0 0, .slice none 0 0] 33))).drew
  have q0 := HB.out _ fr0
  have hN := h.same (f0.seq' fr0)
  have HKL : Hid (n.keys.length ≤ 100000) := hk
  have HVL : Hid (n.vals.length ≤ 100000) := hv
  have HIL : Hid (n.kids.length ≤ 100000) := hi
  clear hk hv hi
  go_enter Tryz.func52, Tryz.ntmps52
  go_wp2_with fail
  obtain ⟨c0, c1, c2, c3, c4, c5, c6⟩ := q0
  go_region_law
    (first
      | (show (if Region.wanted { dst := some 5, op := .call { callee := .value (.func 73), args := _, argTypes := _ }, type := _, pos := _, after := _, guard := _ } _ = true then _ else _); refine step_of (by rfl) (wp_clS (.tmp 4) _ (by rfl) (by rfl) ?_); rw [Oper.upon_enter]; refine (clone_s p.k n.keys.length p.kc n.keys _ hN.keys rfl HKL.out).mono ?_; rintro en w1 ⟨a1, cc1, rfl, hs1, m1, o1⟩; have fr1 := fr0.seq' m1; obtain ⟨d0, d1, d2, d3, d4, d5, d6⟩ := HB.out _ fr1; have hN1 := h.same (f0.seq' fr1))
      | (show (if Region.wanted { dst := some 8, op := .call { callee := .value (.func 73), args := _, argTypes := _ }, type := _, pos := _, after := _, guard := _ } _ = true then _ else _); refine step_of (by rfl) (wp_clS (.tmp 7) _ (by rfl) (by rfl) ?_); rw [Oper.upon_enter]; refine (clone_s p.v n.vals.length p.vc n.vals _ hN1.vals rfl HVL.out).mono ?_; rintro en w2 ⟨a2, cc2, rfl, hs2, m2, o2⟩; have fr2 := fr1.seq' m2; obtain ⟨e0, e1, e2, e3, e4, e5, e6⟩ := HB.out _ fr2; have hN2 := h.same (f0.seq' fr2))
      | (show (if Region.wanted { dst := some 11, op := .call { callee := .value (.func 74), args := _, argTypes := _ }, type := _, pos := _, after := _, guard := _ } _ = true then _ else _); refine step_of (by rfl) (wp_clI (.tmp 10) _ (by rfl) (by rfl) ?_); rw [Oper.upon_enter]; refine (clone_i p.i n.kids.length p.ic n.kids _ hN2.kids rfl HIL.out).mono ?_; rintro en w3 ⟨a3, cc3, rfl, hs3, m3, o3⟩; have fr3 := fr2.seq' m3; obtain ⟨⟨g0, g1, g2, g3, g4, g5, g6⟩, rz⟩ := node_cells (HBB.out _ fr3); have z4 := rz 4; have z5 := rz 5; have z6 := rz 6))
  all_goals
    have hb3 := HBB.out _ fr3
    have hr3 := HRB.out _ fr3
    have hs1' := hs1.fr (m2.seq' m3) (fun _ _ f => f)
    have hs2' := hs2.fr m3 (fun _ _ f => f)
    have z1 : w.heap.size + 2 ≤ w1.heap.size := by have := fr1.size; simp at this; omega
    have z2 : w1.heap.size ≤ w2.heap.size := m2.size
    have l1 : ∀ g, (Value.slice a1 n.keys.length cc1).ownBlock = some g → w.heap.size + 1 < g ∧ g < w1.heap.size := fun g hg => ⟨by have := o1 g hg; simp at this; omega, hs1.lt hg⟩
    have l2 : ∀ g, (Value.slice a2 n.vals.length cc2).ownBlock = some g → w1.heap.size ≤ g ∧ g < w2.heap.size := fun g hg => ⟨o2 g hg, hs2.lt hg⟩
    have l3 : ∀ g, (Value.slice a3 n.kids.length cc3).ownBlock = some g → w2.heap.size ≤ g := fun g hg => o3 g hg
    have ffB : Fr (fun k => k = w.heap.size) w3 (((w3.setCell ⟨w.heap.size, 4, none⟩ (.slice a1 n.keys.length cc1)).setCell ⟨w.heap.size, 5, none⟩ (.slice a2 n.vals.length cc2)).setCell ⟨w.heap.size, 6, none⟩ (.slice a3 n.kids.length cc3)) := (((Fr.refl (fun k => k = w.heap.size) w3).setCell (p := ⟨w.heap.size, 4, none⟩) (fun _ => rfl) _).setCell (p := ⟨w.heap.size, 5, none⟩) (fun _ => rfl) _).setCell (p := ⟨w.heap.size, 6, none⟩) (fun _ => rfl) _
    have hb4 := node_setCell (j := 6) (node_setCell (j := 5) (node_setCell (j := 4) hb3 (.slice a1 n.keys.length cc1)) (.slice a2 n.vals.length cc2)) (.slice a3 n.kids.length cc3)
    have hr4 := ffB.blk hr3 (by omega)
    have F3 := f0.seq' fr3
    generalize ((w3.setCell ⟨w.heap.size, 4, none⟩ (.slice a1 n.keys.length cc1)).setCell ⟨w.heap.size, 5, none⟩ (.slice a2 n.vals.length cc2)).setCell ⟨w.heap.size, 6, none⟩ (.slice a3 n.kids.length cc3) = W4 at ffB hb4 hr4 ⊢
    obtain ⟨⟨t0, t1, t2, t3, t4, t5, t6⟩, _⟩ := node_cells (c0 := .int .i64 n.lev) (c1 := .int .i64 n.lsn) (c2 := .int .i64 n.rgt) (c3 := .string n.high) (c4 := .slice a1 n.keys.length cc1) (c5 := .slice a2 n.vals.length cc2) (c6 := .slice a3 n.kids.length cc3) hb4
    obtain ⟨⟨s0, s1, s2, s3, s4, s5, s6⟩, sz⟩ := node_cells hr4
    have y0 := sz 0; have y1 := sz 1; have y2 := sz 2; have y3 := sz 3; have y4 := sz 4; have y5 := sz 5; have y6 := sz 6
    clear c0 c1 c2 c3 c4 c5 c6 d0 d1 d2 d3 d4 d5 d6 e0 e1 e2 e3 e4 e5 e6 g0 g1 g2 g3 g4 g5 g6 rz z4 z5 z6 sz hN hN1 hN2
    go_wp2
    obtain ⟨hq, ff⟩ := fin7 hr4 (.int .i64 n.lev) (.int .i64 n.lsn) (.int .i64 n.rgt) (.string n.high) (.slice a1 n.keys.length cc1) (.slice a2 n.vals.length cc2) (.slice a3 n.kids.length cc3)
    have fff := (F3.trans ffB (S := fun _ => False) (fun i hi e => by omega)).trans ff (S := fun _ => False) (fun i hi e => by omega)
    have hsK := (hs1'.fr ffB (fun g hg e => by have := l1 g hg; omega)).fr ff (fun g hg e => by have := l1 g hg; omega)
    have hsV := (hs2'.fr ffB (fun g hg e => by have := l2 g hg; omega)).fr ff (fun g hg e => by have := l2 g hg; omega)
    have hsI := (hs3.fr ffB (fun g hg e => by have := l3 g hg; omega)).fr ff (fun g hg e => by have := l3 g hg; omega)
    generalize ((((((W4.setCell ⟨w.heap.size + 1, 0, none⟩ (.int .i64 n.lev)).setCell ⟨w.heap.size + 1, 1, none⟩ (.int .i64 n.lsn)).setCell ⟨w.heap.size + 1, 2, none⟩ (.int .i64 n.rgt)).setCell ⟨w.heap.size + 1, 3, none⟩ (.string n.high)).setCell ⟨w.heap.size + 1, 4, none⟩ (.slice a1 n.keys.length cc1)).setCell ⟨w.heap.size + 1, 5, none⟩ (.slice a2 n.vals.length cc2)).setCell ⟨w.heap.size + 1, 6, none⟩ (.slice a3 n.kids.length cc3) = Wf at hq fff hsK hsV hsI ⊢
    obtain ⟨⟨q0, q1, q2, q3, q4, q5, q6⟩, _⟩ := node_cells hq
    exact bodyPost_ret (v := .agg #[.int .i64 n.lev, .int .i64 n.lsn, .int .i64 n.rgt, .string n.high, .slice a1 n.keys.length cc1, .slice a2 n.vals.length cc2, .slice a3 n.kids.length cc3]) (by simp [results, Tryz.results52, go_sem, q0, q1, q2, q3, q4, q5, q6]) rfl
      ⟨a1, cc1, a2, cc2, a3, cc3, rfl, hsK, hsV, hsI, (fun g hg => by have := l1 g hg; omega), (fun g hg => by have := l2 g hg; omega), (fun g hg => by have := l3 g hg; omega), (fun g hg e => by have := l1 g hg; have := l2 g e; omega), (fun g hg e => by have := l1 g hg; have := l3 g e; omega), (fun g hg e => by have := l2 g hg; have := l3 g e; omega), fff⟩

theorem Has.strsY {w : World} {v : Value} {l : List ByteArray} (h : Has w 1 v l.length (strCells l)) (hs : ∀ s ∈ l, s.size ≤ maxLen) : ∃ a c, v = .slice a l.length c ∧ Strs w a c l := by
  rcases h.2 with ⟨rfl, h0⟩ | ⟨g, cap, rfl, hg, h1, h2, h3, h4⟩
  · have : l = [] := List.eq_nil_of_length_eq_zero h0
    subst this
    exact ⟨none, 0, rfl, by simp, by omega, hs, .inl rfl⟩
  · refine ⟨_, cap, rfl, h1, by unfold maxLen at h2; omega, hs, .inr ⟨g, 0, rfl, hg, fun i hi => ?_⟩⟩
    exact h4 i _ (by simp [strCells, List.getD_eq_getElem?_getD, hi])
theorem cp_nodY {w0 w w' : World} {n : Nd} {p : Pt} {e : Ending} (h : CpOut n w e w') (hn : Nod w0 n p) : ∃ q : Pt, e = .returned (.agg #[.int .i64 n.lev, .int .i64 n.lsn, .int .i64 n.rgt, .string n.high, .slice q.k n.keys.length q.kc, .slice q.v n.vals.length q.vc, .slice q.i n.kids.length q.ic]) ∧ Nod w' n q ∧ Nw w q ∧ Fr (fun _ => False) w w' := by
  obtain ⟨ak, ck, av, cv, ai, ci, rfl, hk, hv, hi, ok, ov, oi, _, _, _, f⟩ := h
  obtain ⟨a1, c1, e1, s1⟩ := hk.strsY hn.keys.text
  obtain ⟨a2, c2, e2, s2⟩ := hv.strsY hn.vals.text
  obtain ⟨a3, c3, e3, s3⟩ := hi.ints
  simp only [Value.slice.injEq, true_and] at e1 e2 e3
  obtain ⟨rfl, rfl⟩ := e1
  obtain ⟨rfl, rfl⟩ := e2
  obtain ⟨rfl, rfl⟩ := e3
  refine ⟨⟨ak, ck, av, cv, ai, ci⟩, rfl, ⟨s1, s2, s3, hn.high, hn.ksz, hn.vsz, hn.klen, hn.vlen, hn.ilen⟩, ?_, f⟩
  rintro b off (hx | hx | hx)
  · dsimp only at hx; subst hx; exact ok b rfl
  · dsimp only at hx; subst hx; exact ov b rfl
  · dsimp only at hx; subst hx; exact oi b rfl

end Go.Proofs.YtkibbojiflklpaaGreat

/- The keys of a map of numbers, in order: the library's maps.Keys, slices.Sort and slices.Sorted at the pages of a replay. -/
namespace Go.Proofs.YtkibbojiflklpaaGreat
open Go.Shelf Go.RowKit Go.Maps Go.Sort

def renYS : Ren := ⟨fun k => if k = 125 then 123 else if k = 128 then 171 else if k = 129 then 172 else if k = 189 then 87 else if k = 215 then 109 else if k = 216 then 168 else if k = 257 then 122 else if k = 294 then 162 else if k = 295 then 163 else if k = 296 then 164 else if k = 297 then 165 else if k = 298 then 166 else if k = 299 then 167 else if k = 300 then 169 else if k = 301 then 170 else if k = 328 then 193 else if k = 329 then 194 else if k = 330 then 195 else if k = 331 then 196 else if k = 332 then 197 else if k = 343 then 204 else 0, fun k => if k = 0 then 0 else if k = 3 then 3 else if k = 4 then 4 else if k = 5 then 5 else if k = 9 then 9 else if k = 28 then 31 else if k = 46 then 163 else if k = 51 then 162 else if k = 53 then 229 else if k = 131 then 57 else if k = 182 then 220 else if k = 183 then 221 else if k = 218 then 246 else if k = 222 then 250 else if k = 228 then 255 else if k = 229 then 67 else 0, fun g => g⟩
theorem laysYS : Lays.n189 Tryz.prog renYS := {
  mixed := by kernel_rfl
  f125 := Tryz.func123.trans (congrArg some (by kernel_rfl))
  f128 := Tryz.func171.trans (congrArg some (by kernel_rfl))
  f129 := Tryz.func172.trans (congrArg some (by kernel_rfl))
  f189 := Tryz.func87.trans (congrArg some (by kernel_rfl))
  f215 := Tryz.func109.trans (congrArg some (by kernel_rfl))
  f216 := Tryz.func168.trans (congrArg some (by kernel_rfl))
  f257 := Tryz.func122.trans (congrArg some (by kernel_rfl))
  f294 := Tryz.func162.trans (congrArg some (by kernel_rfl))
  f295 := Tryz.func163.trans (congrArg some (by kernel_rfl))
  f296 := Tryz.func164.trans (congrArg some (by kernel_rfl))
  f297 := Tryz.func165.trans (congrArg some (by kernel_rfl))
  f298 := Tryz.func166.trans (congrArg some (by kernel_rfl))
  f299 := Tryz.func167.trans (congrArg some (by kernel_rfl))
  f300 := Tryz.func169.trans (congrArg some (by kernel_rfl))
  f301 := Tryz.func170.trans (congrArg some (by kernel_rfl))
  f328 := Tryz.func193.trans (congrArg some (by kernel_rfl))
  f329 := Tryz.func194.trans (congrArg some (by kernel_rfl))
  f330 := Tryz.func195.trans (congrArg some (by kernel_rfl))
  f331 := Tryz.func196.trans (congrArg some (by kernel_rfl))
  f332 := Tryz.func197.trans (congrArg some (by kernel_rfl))
  f343 := Tryz.func204.trans (congrArg some (by kernel_rfl))
  t0 := Tryz.underlying0
  a0 := Tryz.isAgg0
  z0 := Tryz.sizeOf0
  v0 := Tryz.zeroValue0
  t3 := Tryz.underlying3
  a3 := Tryz.isAgg3
  z3 := Tryz.sizeOf3
  v3 := Tryz.zeroValue3
  t4 := Tryz.underlying4
  a4 := Tryz.isAgg4
  z4 := Tryz.sizeOf4
  v4 := Tryz.zeroValue4
  t5 := Tryz.underlying5
  a5 := Tryz.isAgg5
  z5 := Tryz.sizeOf5
  v5 := Tryz.zeroValue5
  t9 := Tryz.underlying9
  a9 := Tryz.isAgg9
  z9 := Tryz.sizeOf9
  v9 := Tryz.zeroValue9
  t28 := Tryz.underlying31
  a28 := Tryz.isAgg31
  z28 := Tryz.sizeOf31
  v28 := Tryz.zeroValue31
  t46 := Tryz.underlying163
  a46 := Tryz.isAgg163
  z46 := Tryz.sizeOf163
  v46 := Tryz.zeroValue163
  t51 := Tryz.underlying162
  a51 := Tryz.isAgg162
  z51 := Tryz.sizeOf162
  v51 := Tryz.zeroValue162
  t53 := Tryz.underlying229
  a53 := Tryz.isAgg229
  z53 := Tryz.sizeOf229
  v53 := Tryz.zeroValue229
  t131 := Tryz.underlying57
  a131 := Tryz.isAgg57
  z131 := Tryz.sizeOf57
  v131 := Tryz.zeroValue57
  t182 := Tryz.underlying220
  a182 := Tryz.isAgg220
  z182 := Tryz.sizeOf220
  v182 := Tryz.zeroValue220
  t183 := Tryz.underlying221
  a183 := Tryz.isAgg221
  z183 := Tryz.sizeOf221
  v183 := Tryz.zeroValue221
  t218 := Tryz.underlying246
  a218 := Tryz.isAgg246
  z218 := Tryz.sizeOf246
  v218 := Tryz.zeroValue246
  t222 := Tryz.underlying250
  a222 := Tryz.isAgg250
  z222 := Tryz.sizeOf250
  v222 := Tryz.zeroValue250
  t228 := Tryz.underlying255
  a228 := Tryz.isAgg255
  z228 := Tryz.sizeOf255
  v228 := Tryz.zeroValue255
  t229 := Tryz.underlying67
  a229 := Tryz.isAgg67
  z229 := Tryz.sizeOf67
  v229 := Tryz.zeroValue67 }
def renYK : Ren := ⟨fun k => if k = 6 then 50 else if k = 7 then 51 else if k = 8 then 86 else if k = 9 then 87 else if k = 10 then 88 else if k = 11 then 121 else 0, fun k => if k = 0 then 0 else if k = 3 then 33 else if k = 4 then 4 else if k = 23 then 85 else if k = 24 then 31 else if k = 26 then 3 else if k = 27 then 106 else if k = 28 then 107 else if k = 33 then 99 else 0, fun g => g⟩
theorem laysYK : SlLaysZI.n7 Tryz.prog renYK := {
  mixed := by kernel_rfl
  f7 := ⟨Tryz.f51.name, by kernel_rfl, Tryz.func51.trans (congrArg some (by kernel_rfl))⟩
  f10 := ⟨Tryz.f88.name, by kernel_rfl, Tryz.func88.trans (congrArg some (by kernel_rfl))⟩
  t0 := Tryz.underlying0
  a0 := Tryz.isAgg0
  z0 := Tryz.sizeOf0
  v0 := Tryz.zeroValue0
  t4 := Tryz.underlying4
  a4 := Tryz.isAgg4
  z4 := Tryz.sizeOf4
  v4 := Tryz.zeroValue4
  t23 := Tryz.underlying85
  a23 := Tryz.isAgg85
  z23 := Tryz.sizeOf85
  v23 := Tryz.zeroValue85
  t26 := Tryz.underlying3
  a26 := Tryz.isAgg3
  z26 := Tryz.sizeOf3
  v26 := Tryz.zeroValue3
  t27 := Tryz.underlying106
  a27 := Tryz.isAgg106
  z27 := Tryz.sizeOf106
  v27 := Tryz.zeroValue106
  t28 := Tryz.underlying107
  a28 := Tryz.isAgg107
  z28 := Tryz.sizeOf107
  v28 := Tryz.zeroValue107
  t33 := Tryz.underlying99
  a33 := Tryz.isAgg99
  z33 := Tryz.sizeOf99
  v33 := Tryz.zeroValue99 }
theorem laysYD : SlLaysZI.n6 Tryz.prog renYK := {
  mixed := by kernel_rfl
  f6 := ⟨Tryz.f50.name, by kernel_rfl, Tryz.func50.trans (congrArg some (by kernel_rfl))⟩
  f8 := ⟨Tryz.f86.name, by kernel_rfl, Tryz.func86.trans (congrArg some (by kernel_rfl))⟩
  f11 := ⟨Tryz.f121.name, by kernel_rfl, Tryz.func121.trans (congrArg some (by kernel_rfl))⟩
  t0 := Tryz.underlying0
  a0 := Tryz.isAgg0
  z0 := Tryz.sizeOf0
  v0 := Tryz.zeroValue0
  t24 := Tryz.underlying31
  a24 := Tryz.isAgg31
  z24 := Tryz.sizeOf31
  v24 := Tryz.zeroValue31
  t26 := Tryz.underlying3
  a26 := Tryz.isAgg3
  z26 := Tryz.sizeOf3
  v26 := Tryz.zeroValue3
  t28 := Tryz.underlying107
  a28 := Tryz.isAgg107
  z28 := Tryz.sizeOf107
  v28 := Tryz.zeroValue107
  i26 := by kernel_rfl }

section
variable (w : World)
theorem ins_0 (a : Option Addr) (c : Nat) : Calls Tryz.prog 162 #[.slice a 0 c, .int .i64 0, .int .i64 0] w fun e w' => e = .returned (.tuple #[]) ∧ w' = w := by
  go_enter Tryz.func162, Tryz.ntmps162
  go_wp2
  refine wp_loop_rounds 1 ?_
  rw [rounds_succ]
  go_wp2
  go_end0
  exact ⟨rfl, rfl⟩
set_option maxRecDepth 20000 in
theorem len64_0 : Calls Tryz.prog 172 #[.int .u64 0] w fun e w' => e = .returned (.int .i64 0) ∧ w' = w := by
  go_enter Tryz.func172, Tryz.ntmps172
  go_wp2
  go_ret
  refine ⟨?_, rfl⟩
  simp [go_sem]
  kernel_rfl
theorem len_0 : Calls Tryz.prog 123 #[.int .u64 0] w fun e w' => e = .returned (.int .i64 0) ∧ w' = w := by
  have hl := len64_0 w
  go_enter Tryz.func123, Tryz.ntmps123
  go_wp2_with (go_at_call 172; refine hl.mono ?_; rintro e w' ⟨rfl, rfl⟩)
  go_ret
  exact ⟨rfl, rfl⟩
set_option maxRecDepth 100000 in
set_option maxHeartbeats 1000000 in
theorem pdq_0 (a : Option Addr) (c : Nat) : Calls Tryz.prog 122 #[.slice a 0 c, .int .i64 0, .int .i64 0, .int .i64 0] w fun e w' => e = .returned (.tuple #[]) ∧ w' = w := by
  have hi := ins_0 w a c
  go_enter Tryz.func122, Tryz.ntmps122
  go_wp2
  refine wp_loop_rounds 1 ?_
  rw [rounds_succ]
  go_wp2_with (go_at_call 162; refine hi.mono ?_; rintro e w' ⟨rfl, rfl⟩)
  refine bodyPost_ret (results_none rfl _ _ _) rfl ?_
  exact ⟨rfl, rfl⟩
theorem sort_0 (a : Option Addr) (c : Nat) : Calls Tryz.prog 87 #[.slice a 0 c] w fun e w' => e = .returned (.tuple #[]) ∧ w' = w := by
  have hl := len_0 w
  go_enter Tryz.func87, Tryz.ntmps87
  go_wp2_with (go_at_call 123; refine hl.mono ?_; rintro e w1 ⟨rfl, rfl⟩)
  refine (pdq_0 _ a c).mono ?_
  rintro e w2 ⟨rfl, rfl⟩
  go_wp2
  go_end0
  exact ⟨rfl, rfl⟩
end
theorem sorts_m (m : Nat) : AnyZI.SortsIn Tryz.prog renYK Fence.wide m := by
  refine ⟨fun blk off cap ss W hH hblk hsz => callsIn_wide.2 ?_, fun p cap W => callsIn_wide.2 (sort_0 W p cap)⟩
  have main : Calls Tryz.prog (renYS.f 189) #[.slice (some ⟨blk, off, none⟩) ss.length cap] W fun e w' => e = .returned (.tuple #[]) ∧ ∃ n os, w' = grow (putRow (Value.int .i64) (Sort.ahead W n) blk off (ss.mergeSort fun x y => decide (x ≤ y)).toArray) os :=
    calls_of_every_depth fun D => AnyS.slices_Sort_int_in laysYS D blk off cap ss W hH hblk hsz
  exact main
/-- A list is the numbers that a map holds. -/
structure KeepV (M : Vmap) (n : Nat) (ss : List Int) : Prop where
  len : ss.length = n
  nd : ss.Nodup
  mem : ∀ x, x ∈ ss ↔ (M x).isSome = true
theorem KeepV.perm {M : Vmap} {n : Nat} {ss ts : List Int} (h : KeepV M n ss) (p : ts.Perm ss) : KeepV M n ts := ⟨p.length_eq.trans h.len, p.nodup_iff.2 h.nd, fun x => p.mem_iff.trans (h.mem x)⟩
theorem KeepV.of {w : World} {b n : Nat} {D : DataW Value} {M : Vmap} (hown : w.ownsMap Tryz.prog 3 vR b n D) (hs : Maps.size D = n) (hl : Like D M) {ss : List Int} (hp : ss.Perm (intKeys D)) : KeepV M n ss := by
  have hwf := intKeys_wf hown Tryz.underlying3
  obtain ⟨es, hD, hpw, _⟩ := hown.entries keyed3
  obtain ⟨es', hD', hko⟩ := hown.keysOf
  obtain rfl : es = es' := by rw [hD] at hD'; simpa using hD'
  subst hD
  have hk : ∀ p ∈ es, ∃ x, p.1 = .int .i64 x := fun p hp => by obtain ⟨v, hv⟩ := hko p hp; obtain ⟨x, _, hx, _⟩ := Maps.keyOf_i64 Tryz.underlying3 hv; exact ⟨x, hx⟩
  have hm : ∀ x, x ∈ intKeys (.map es) ↔ has (.map es) (.int .i64 x) = true := by
    intro x
    rw [has_eq, List.any_eq_true]
    show x ∈ es.map (fun p => _root_.Go.intOf p.1) ↔ _
    rw [List.mem_map]
    constructor
    · rintro ⟨p, hp', rfl⟩
      obtain ⟨a, ha⟩ := hk p hp'
      exact ⟨p, hp', by rw [ha]; simp [Lit.sameKey, _root_.Go.intOf]⟩
    · rintro ⟨p, hp', hs⟩
      obtain ⟨a, ha⟩ := hk p hp'
      rw [ha] at hs
      exact ⟨p, hp', by rw [ha]; simpa [Lit.sameKey, _root_.Go.intOf] using hs⟩
  have hK : KeepV M n (intKeys (.map es)) := by
    refine ⟨?_, ?_, fun x => ?_⟩
    · rw [← hs]
      simp [intKeys, Maps.size]
    · show (es.map fun p => _root_.Go.intOf p.1).Nodup
      refine List.pairwise_map.2 (hpw.imp_of_mem fun {p q} hp' hq' hne e => hne ?_)
      obtain ⟨a, ha⟩ := hk p hp'
      obtain ⟨b, hb⟩ := hk q hq'
      rw [ha, hb] at e ⊢
      exact congrArg _ e
    · constructor
      · intro hx
        rw [← hl.has x (hwf x hx)]
        exact (hm x).1 hx
      · intro hx
        obtain ⟨h, hh⟩ := Option.isSome_iff_exists.1 hx
        refine (hm x).2 ?_
        rw [hl.has x (hl.key x h hh)]
        exact hx
  exact hK.perm hp
set_option maxRecDepth 100000 in
set_option maxHeartbeats 1000000 in
theorem keys_mp (mb : Nat) (w : World) : Calls Tryz.prog 51 #[.map (some mb)] w fun e w' => e = .returned (.func (.func 88) #[] #[.pointer (some ⟨w.heap.size, 0, none⟩)]) ∧ w' = w.alloc (.cells #[.map (some mb)] 85) :=
  callsIn_wide.1 (AnyZI.keys_in laysYK Fence.wide 1 trivial rfl (some mb) w)
set_option maxRecDepth 100000 in
set_option maxHeartbeats 1000000 in
theorem sorted_mp {w : World} {mb n Bm : Nat} {M : Vmap} (h : Mp w mb n M) (hn : n ≤ 1000000) (hB : Bm < w.heap.size) (hc : w.cell? ⟨Bm, 0, none⟩ = some (.map (some mb))) :
    Calls Tryz.prog 50 #[.func (.func 88) #[] #[.pointer (some ⟨Bm, 0, none⟩)]] w fun e w' => ∃ (v : Value) (ts : List Int), e = .returned v ∧ KeepV M n ts ∧ ts.Pairwise (· ≤ ·) ∧ w'.ownsRow w.heap.size 3 1 v ts.length (ts.map encZ) ∧ Fr (fun _ => False) w w' := by
  obtain ⟨D, h1, h2, hl⟩ := h
  have cS := AnyZI.sorted_in laysYD Fence.wide 5 trivial trivial trivial trivial rfl (by omega) (sorts_m _) (enters_of Tryz.func87 (by kernel_rfl) rfl) 88 #[.pointer (some ⟨Bm, 0, none⟩)] trivial (enters_of Tryz.func88 (by kernel_rfl) rfl) (fun ss => ss.Perm (intKeys D)) (Maps.size D) (by unfold maxLen; omega) (by omega) w (AnyZI.keys_gives (ρ := renYK) { laysYK with } Fence.wide _ trivial rfl (by omega) Bm mb n D w hB hc h1)
  refine (callsIn_wide.1 cS).mono ?_
  rintro e w' ⟨v, ss, rfl, hS, hrow, _, hb⟩
  have hp : (ss.mergeSort (fun x y => decide (x ≤ y))).Perm ss := List.mergeSort_perm ..
  refine ⟨v, ss.mergeSort (fun x y => decide (x ≤ y)), rfl, (KeepV.of h1 h2 hl hS).perm hp, ?_, ?_, Fr.of_below hb (fun k hk _ => hk)⟩
  · have := List.pairwise_mergeSort (le := fun x y : Int => decide (x ≤ y)) (fun a b c h1 h2 => by simp only [decide_eq_true_eq] at *; omega) (fun a b => by simp only [Bool.or_eq_true, decide_eq_true_eq]; omega) ss
    exact this.imp (fun {a b} hab => by simpa using hab)
  · rw [hp.length_eq]; exact hrow
end Go.Proofs.YtkibbojiflklpaaGreat

/- The pages of a replay, in order. -/
namespace Go.Proofs.YtkibbojiflklpaaGreat
open Go.RowKit Go.Shelf

theorem Sv.app {W w' : World} {rv : Value} {ls : List Sl} {n c' : Nat} {a' : Option Addr} (h : Sv W rv ls) (hn : n = ls.length) (s : Sl) (hs : Nod W s.nd s.pt) (ho : Off (fun k => rv.ownBlock = some k) s.nd s.pt)
    (hh : Has w' 8 (.slice a' (n + 1) c') (n + 1) (ls.flatMap slC ++ slC s)) (f : Fr (fun k => rv.ownBlock = some k) W w') (hat : (Value.slice a' (n + 1) c').ownBlock = rv.ownBlock ∨ ∃ g, (Value.slice a' (n + 1) c').ownBlock = some g ∧ W.heap.size ≤ g) :
    Sv w' (.slice a' (n + 1) c') (ls ++ [s]) := by
  have hl : (ls.flatMap slC).length = n * 8 := by rw [flat_length slC_length, hn]
  have := h.ins (i := n) hn s hs ho (by rw [List.take_of_length_le (by omega), List.drop_eq_nil_of_le (by omega), List.append_nil]; exact hh) f hat
  rw [List.take_of_length_le (by omega), List.drop_eq_nil_of_le (by omega)] at this
  exact this
/-- A slice of numbers as the library hands it back. -/
theorem row_nums {w : World} {b : Nat} {v : Value} {ts : List Int} (h : w.ownsRow b 3 1 v ts.length (ts.map encZ)) : ∃ a c, v = .slice a ts.length c ∧ ts.length ≤ c ∧ c ≤ maxLen ∧ ∀ k x, ts[k]? = some x → ∃ g, a = some ⟨g, 0, none⟩ ∧ g < w.heap.size ∧ w.cell? ⟨g, k, none⟩ = some (.int .i64 x) := by
  rcases h.2 with ⟨rfl, hz⟩ | ⟨g, cap, cur, rfl, hbase, hgb, r1, r2, r3, r4⟩
  · have : ts = [] := List.eq_nil_of_length_eq_zero hz
    subst this
    exact ⟨none, 0, rfl, Nat.le_refl _, Nat.zero_le _, (fun k x hx => by cases hx)⟩
  · refine ⟨_, cap, rfl, r1, r2, fun k x hx => ⟨g, rfl, lt_of_block hgb, ?_⟩⟩
    obtain ⟨hk, he⟩ := List.getElem?_eq_some_iff.1 hx
    have hkc : k < cur.size := by omega
    have : cur.toList[k]? = some (.int .i64 x) := by
      have h1 : (cur.toList.take (ts.length * 1))[k]? = (ts.map encZ)[k]? := by rw [r4]
      rw [List.getElem?_take, if_pos (by omega), List.getElem?_map, hx] at h1
      exact h1
    rw [World.cell?, hgb]
    simpa using this
section
variable {S : Nat → Prop} {b : Nat} {R : RSt} {N : Nat}
set_option maxRecDepth 100000 in
set_option maxHeartbeats 8000000 in
theorem ry_pagesv (q : List (Int × Nd)) (w : World) (h : Ry w S b R N) (hN : N ≤ 100000) (hfew : ∀ x n, R.pg x = some n → Few n) (hq : PsOk q) (hpg : ∀ x, R.pg x = lk q x) :
    Calls Tryz.prog 17 #[.pointer (some ⟨b, 0, none⟩)] w fun e w' => ∃ ls, SvOut w ls e w' ∧ psOf ls = q := by
  obtain ⟨iR, hiR, hR0, hR1, hR2⟩ := info_parts infoSl
  obtain ⟨A, m, cnt, qa, pt, hI⟩ := h
  have HI : Hid (∀ W, Fr (fun _ => False) w W → RyI W S b R N A m cnt qa pt) := fun W f => hI.same f
  have c0 := hI.cell.1
  have hb := hI.cell.2.2.2.2.2.2
  have hcnt := hI.cntN
  have HKB : Hid (w.heap.size < (w.alloc (.cells #[.map (some m)] 85)).heap.size ∧ (w.alloc (.cells #[.map (some m)] 85)).cell? ⟨w.heap.size, 0, none⟩ = some (.map (some m))) := ⟨by simp, by rw [World.cell?, heap_alloc_new]; rfl⟩
  have hst := sorted_mp (hI.pages.same (Fr.box w (.cells #[.map (some m)] 85))) (by omega) HKB.out.1 HKB.out.2
  have HLK : Hid (∀ W, Fr (fun _ => False) w W → ∀ x n, wfK x → R.pg x = some n → (Instr.lookup 85 (.map (some m)) (.int .i64 x) false).run Tryz.prog W = .ok ((.agg #[.int .i64 n.lev, .int .i64 n.lsn, .int .i64 n.rgt, .string n.high, .slice (pt x).k n.keys.length (pt x).kc, .slice (pt x).v n.vals.length (pt x).vc, .slice (pt x).i n.kids.length (pt x).ic])) W) := fun W f x n hx hn => by
    have := (HI.out W f).pages.look1 (mt := 85) Tryz.underlying85 (nd_zero W) hx
    rw [hn] at this
    exact this
  have HFW : Hid (∀ x n, R.pg x = some n → Few n) := hfew
  have HQ : Hid (PsOk q) := hq
  have HPG : Hid (∀ x, R.pg x = lk q x) := hpg
  have HN : Hid (cnt ≤ 100000) := by show cnt ≤ 100000; omega
  have HKEY : Hid (∀ x, (R.pg x).isSome = true → wfK x) := fun x hx => by
    obtain ⟨D, _, _, hl⟩ := hI.pages
    obtain ⟨n, hn⟩ := Option.isSome_iff_exists.1 hx
    exact hl.key x _ (by show (R.pg x).map _ = some _; rw [hn]; rfl)
  clear hI hfew hq hpg hcnt
  go_enter Tryz.func17, Tryz.ntmps17
  go_wp2_with (go_at_call 51; refine (keys_mp m _).mono ?_; rintro e w' ⟨rfl, rfl⟩)
  refine hst.mono ?_
  rintro e w2 ⟨v, ts, rfl, hk, hpw, hrow, f2⟩
  obtain ⟨a, c, rfl, hc1, hc2, hrw⟩ := row_nums hrow
  have HTS : Hid (ts.map (fun x => (x, (lk q x).getD zn)) = q) := lk_sorted HQ.out.1 hpw hk.nd (fun x => by
    rw [hk.mem x, ← HPG.out x]
    cases R.pg x <;> simp)
  have HSOM : Hid (∀ x ∈ ts, ∃ n, R.pg x = some n) := fun x hx => by
    have := (hk.mem x).1 hx
    cases hn : R.pg x with
    | none => rw [hn] at this; cases this
    | some n => exact ⟨n, rfl⟩
  have hlen := hk.len
  have hln : ts.length ≤ 100000 := by rw [hlen]; exact HN.out
  have HRW : Hid (∀ W, Fr (fun _ => False) w2 W → ∀ k x, ts[k]? = some x → ∃ g, a = some ⟨g, 0, none⟩ ∧ g < W.heap.size ∧ W.cell? ⟨g, k, none⟩ = some (.int .i64 x)) := fun W f k x hx => by
    obtain ⟨g, e1, e2, e3⟩ := hrw k x hx
    exact ⟨g, e1, Nat.lt_of_lt_of_le e2 f.size, (f.cell (p := ⟨g, k, none⟩) e2 (fun e => e)).trans e3⟩
  have HF2 : Hid (Fr (fun _ => False) w w2) := (Fr.box w (.cells #[.map (some m)] 85)).seq' f2
  obtain ⟨n, hn⟩ : ∃ n, n = ts.length := ⟨_, rfl⟩
  rw [← hn] at hc1 hln ⊢
  have HNT : Hid (n = ts.length) := hn
  unfold maxLen at hc2
  clear hst hk hpw hrow hrw f2 hlen hn HKB c0 hb
  go_wp2
  go_loopw [15, 3] (fun i o wr => ∃ (k : Nat) (a' : Option Addr) (c' : Nat) (lp : List Sl), k ≤ n ∧ i = .int .i64 k ∧ o = .slice a' k c' ∧ Hid (k = lp.length) ∧ Hid (Sv wr (.slice a' k c') lp) ∧ Hid (psOf lp = (ts.take k).map (fun x => (x, (lk q x).getD zn))) ∧ Hid (∀ g, (Value.slice a' k c').ownBlock = some g → w2.heap.size ≤ g) ∧ Fr (fun _ => False) w2 wr) (fun i _ _ => n - (intOf i).toNat)
  case atStart => exact ⟨0, none, 0, [], by omega, rfl, rfl, rfl, ⟨Has.nil _ _, (fun s hs => by cases hs), (fun s hs => by cases hs)⟩, rfl, (fun g e => by cases e), Fr.refl _ _⟩
  case round =>
    obtain ⟨k, a', c', lp, hk, rfl, rfl, HL, HV, HP, HO, F⟩ := hrel
    by_cases hlt : k < n
    · obtain ⟨x, hx⟩ : ∃ x, ts[k]? = some x := ⟨_, List.getElem?_eq_getElem (by have := HNT.out; omega)⟩
      obtain ⟨g, rfl, hg, hgc⟩ := HRW.out wr F k x hx
      obtain ⟨nd, hnd⟩ := HSOM.out x (List.mem_of_getElem? hx)
      have hwx : wfK x := HKEY.out x (by rw [hnd]; rfl)
      have hfw := HFW.out x nd hnd
      have e1 := HLK.out wr (HF2.out.seq' F) x nd hwx hnd
      have hIw := HI.out wr (HF2.out.seq' F)
      have c0 := hIw.cell.1
      have cb := hIw.cell.2.2.2.2.2.2
      have hND := (hIw.nods x nd hnd).1
      have hki : (k : Int) < (n : Int) := by omega
      have HTK : Hid (ts.take (k + 1) = ts.take k ++ [x]) := by show _ = _; rw [List.take_add_one, hx]; rfl
      have HQX : Hid ((lk q x).getD zn = nd) := by show _ = _; rw [← HPG.out x, hnd]; rfl
      obtain ⟨p, hp⟩ : ∃ p, p = pt x := ⟨_, rfl⟩
      rw [← hp] at e1 hND
      have hcp := ry_copied nd p hfw.1 hfw.2.1 hfw.2.2 wr hND
      clear hIw hnd hwx hfw hp hx
      go_wp2_with fail
      refine hcp.mono ?_
      intro e w3 ho3
      obtain ⟨p3, rfl, nd3, hnw, f3⟩ := cp_nodY ho3 hND
      clear hcp ho3 hND e1 hgc
      obtain ⟨s, rfl, rfl, rfl⟩ : ∃ s : Sl, s.page = x ∧ s.nd = nd ∧ s.pt = p3 := ⟨⟨x, nd, p3⟩, rfl, rfl, rfl⟩
      have FB : Fr (fun _ => False) w3 (w3.alloc (.cells #[.int .i64 s.page, .int .i64 s.nd.lev, .int .i64 s.nd.lsn, .int .i64 s.nd.rgt, .string s.nd.high, .slice s.pt.k s.nd.keys.length s.pt.kc, .slice s.pt.v s.nd.vals.length s.pt.vc, .slice s.pt.i s.nd.kids.length s.pt.ic] 35)) := Fr.box _ _
      have HS3 : Hid (Sv (w3.alloc (.cells #[.int .i64 s.page, .int .i64 s.nd.lev, .int .i64 s.nd.lsn, .int .i64 s.nd.rgt, .string s.nd.high, .slice s.pt.k s.nd.keys.length s.pt.kc, .slice s.pt.v s.nd.vals.length s.pt.vc, .slice s.pt.i s.nd.kids.length s.pt.ic] 35)) (.slice a' k c') lp) := HV.out.same (f3.seq' FB)
      have HRX : Hid (Has (w3.alloc (.cells #[.int .i64 s.page, .int .i64 s.nd.lev, .int .i64 s.nd.lsn, .int .i64 s.nd.rgt, .string s.nd.high, .slice s.pt.k s.nd.keys.length s.pt.kc, .slice s.pt.v s.nd.vals.length s.pt.vc, .slice s.pt.i s.nd.kids.length s.pt.ic] 35)) 8 (.slice a' k c') k (lp.flatMap slC)) := by
        have := HS3.out.has
        rwa [← HL.out] at this
      have HN3 : Hid (Nod (w3.alloc (.cells #[.int .i64 s.page, .int .i64 s.nd.lev, .int .i64 s.nd.lsn, .int .i64 s.nd.rgt, .string s.nd.high, .slice s.pt.k s.nd.keys.length s.pt.kc, .slice s.pt.v s.nd.vals.length s.pt.vc, .slice s.pt.i s.nd.kids.length s.pt.ic] 35)) s.nd s.pt ∧ Off (fun i => (Value.slice a' k c').ownBlock = some i) s.nd s.pt) := ⟨nd3.same FB, hnw.off (fun i hi e => by have h3 := HV.out.has; rw [← HL.out] at h3; have := h3.lt e; omega)⟩
      have HNE : Hid (From (w3.alloc (.cells #[.int .i64 s.page, .int .i64 s.nd.lev, .int .i64 s.nd.lsn, .int .i64 s.nd.rgt, .string s.nd.high, .slice s.pt.k s.nd.keys.length s.pt.kc, .slice s.pt.v s.nd.vals.length s.pt.vc, .slice s.pt.i s.nd.kids.length s.pt.ic] 35)) (some ⟨w3.heap.size, 0, none⟩) (slC s)) := .inr ⟨_, _, rfl, by
        have := range_block (heap_alloc_new w3 (.cells #[.int .i64 s.page, .int .i64 s.nd.lev, .int .i64 s.nd.lsn, .int .i64 s.nd.rgt, .string s.nd.high, .slice s.pt.k s.nd.keys.length s.pt.kc, .slice s.pt.v s.nd.vals.length s.pt.vc, .slice s.pt.i s.nd.kids.length s.pt.ic] 35)) (xs := slC s) (o := 0) (fun j v hv => by rw [Nat.zero_add]; simpa [slC] using hv)
        exact this⟩
      have HF3 : Hid (Fr (fun _ => False) w2 (w3.alloc (.cells #[.int .i64 s.page, .int .i64 s.nd.lev, .int .i64 s.nd.lsn, .int .i64 s.nd.rgt, .string s.nd.high, .slice s.pt.k s.nd.keys.length s.pt.kc, .slice s.pt.v s.nd.vals.length s.pt.vc, .slice s.pt.i s.nd.kids.length s.pt.ic] 35))) := (F.seq' f3).seq' FB
      clear nd3 hnw f3 FB
      go_wp2_with (at_builtin; refine wpList_append_has _ rfl (.tmp 19) (.tmp 29) 24 24 35 35 rfl iR _ 8 120 Tryz.underlying24 Tryz.underlying24 hiR hR0 hR1 hR2 rfl (by omega) (.slice a' k c') k (lp.flatMap slC) rfl HRX.out (some ⟨w3.heap.size, 0, none⟩) 1 1 (slC s) rfl rfl HNE.out (slC_one _) (by unfold maxLen; omega) (by omega) ?_; intro a4 c4 w8 ht4 f34 hat4)
      have HV5 : Hid (Sv w8 (.slice a4 (k + 1) c4) (lp ++ [s])) := HS3.out.app HL.out s HN3.out.1 HN3.out.2 ht4 (f34.mono (fun i _ e => e.1)) (hat4.imp id (fun h => ⟨_, h, Nat.le_refl _⟩))
      have HO5 : Hid (∀ g, (Value.slice a4 (k + 1) c4).ownBlock = some g → w2.heap.size ≤ g) := fun g e => by
        have hz := HF3.out.size
        rcases hat4 with h1 | h1
        · rw [h1] at e; exact HO.out g e
        · rw [h1] at e; simp at e; simp at hz; omega
      have HP5 : Hid (psOf (lp ++ [s]) = (ts.take (k + 1)).map (fun x => (x, (lk q x).getD zn))) := by
        show _ = _
        rw [HTK.out, List.map_append, ← HP.out]
        unfold psOf
        rw [List.map_append, List.map_singleton, List.map_singleton, HQX.out]
      have HL5 : Hid (k + 1 = (lp ++ [s]).length) := by show _ = _; simp [← HL.out]
      have F5 : Fr (fun _ => False) w2 w8 := HF3.out.trans f34 (fun i hi e => by have := HO.out i e.1; omega)
      clear ht4 hat4 f34 HRX HNE HTK HS3 HN3 HF3 HQX
      go_wp2
      go_roundw
      case rel => exact ⟨k + 1, a4, c4, lp ++ [s], by omega, by go_num, rfl, HL5, HV5, HP5, HO5, F5⟩
      case measure => simp [intOf]; omega
    · obtain rfl : k = n := by omega
      have HFIN : Hid (∃ ls, SvOut w ls (.returned (.slice a' k c')) wr ∧ psOf ls = q) := by
        refine ⟨lp, ⟨a', c', by rw [← HL.out], by rw [← HL.out]; exact HV.out, HF2.out.seq' F, fun g e => Nat.le_trans HF2.out.size (HO.out g (by rw [← HL.out] at e; exact e))⟩, ?_⟩
        rw [HP.out, List.take_of_length_le (by rw [← HNT.out]; exact Nat.le_refl _)]
        exact HTS.out
      go_wp2
      go_ret
      exact HFIN.out
end
end Go.Proofs.YtkibbojiflklpaaGreat
