
/- Copies of nodes of any size; pages that came in, with the sizes of their lists. -/
import Derived.Test.YtlgceleelhppdaaGreatDR46
import Derived.Test.YtlgceleelhppdaaGreatDR44
namespace Go.Proofs.YtlgceleelhppdaaGreat
open Go.ChangeShapes Go.WideShapes Go.ChangeAt Go.RowKit Go.Deep

set_option maxRecDepth 100000 in
set_option maxHeartbeats 1000000 in
theorem clone_sB (a : Option Addr) (n c : Nat) (l : List ByteArray) (w : World) (hr : Strs w a c l) (hn : n = l.length) (hs : l.length ≤ 8796093021952) : Calls Tryz.prog 25 #[.slice a n c] w fun e w' => CpS w l e w' := by
  obtain ⟨i0, hi, hz0, hz1, hz2⟩ := info_parts infoStr
  have hq := fun W => Lib.run_eql_slice_nil (P := Tryz.prog) W 31 9 a n c 0 0 Tryz.underlying31
  have hsl : (strCells l).length = l.length := by simp [strCells]
  cases a with
  | none =>
    have hl : l = [] := by
      rcases hr.at_ with h | ⟨_, _, h, _⟩
      · exact h
      · cases h
    subst hl
    obtain rfl : n = 0 := by simpa using hn
    clear hn hsl hs
    go_enter Tryz.func25, Tryz.ntmps25
    go_wp2
    go_ret
    exact ⟨none, 0, rfl, Has.nil _ _, Fr.refl _ _, fun k hk => by cases hk⟩
  | some x =>
    have HE : Hid (Has (w.alloc (.cells #[] 9)) 1 (.slice (some ⟨w.heap.size, 0, none⟩) 0 0) 0 []) := has_empty w 1 _
    have f1 : Fr (fun _ => False) w (w.alloc (.cells #[] 9)) := (Fr.refl _ _).alloc _
    have hr1 := (hr.same f1).from
    have HN : Hid (n = l.length) := hn
    have HSL : Hid ((strCells l).length = l.length) := hsl
    have HS' : Hid (n ≤ 8796093021952) := by show _ ≤ _; omega
    clear hn hs hsl
    go_enter Tryz.func25, Tryz.ntmps25
    go_wp2_with (at_builtin; refine wpList_append_has _ rfl _ _ 31 31 9 9 rfl i0 _ 1 16 Tryz.underlying31 Tryz.underlying31 hi hz0 hz1 hz2 rfl (by omega) (.slice (some ⟨w.heap.size, 0, none⟩) 0 0) 0 [] rfl HE.out (some x) n c (strCells l) rfl (by rw [HSL.out, HN.out]; omega) hr1 (strCells_one l) (by have := HS'.out; unfold maxLen; omega) (by have := HS'.out; omega) ?_; intro am cm w2 hown hfr hat)
    go_ret
    rw [Nat.zero_add, List.nil_append] at hown
    rw [Nat.zero_add] at hat
    rw [HN.out] at hown hat
    refine ⟨am, cm, by rw [← HN.out]; rfl, hown, f1.above hfr ?_, fun k hk => ?_⟩
    · rintro i ⟨e, _⟩
      simp [Value.ownBlock] at e
      omega
    · rw [hk] at hat
      rcases hat with e | e <;> simp [Value.ownBlock] at e <;> omega
set_option maxRecDepth 100000 in
set_option maxHeartbeats 1000000 in
theorem clone_iB (a : Option Addr) (n c : Nat) (l : List Int) (w : World) (hr : Ints w a c l) (hn : n = l.length) (hs : l.length ≤ 17592186043904) : Calls Tryz.prog 26 #[.slice a n c] w fun e w' => CpI w l e w' := by
  obtain ⟨i0, hi, hz0, hz1, hz2⟩ := info_parts infoInt
  have hq := fun W => Lib.run_eql_slice_nil (P := Tryz.prog) W 32 3 a n c 0 0 Tryz.underlying32
  have hsl : (intCells l).length = l.length := by simp [intCells]
  cases a with
  | none =>
    have hl : l = [] := by
      rcases hr.at_ with h | ⟨_, _, h, _⟩
      · exact h
      · cases h
    subst hl
    obtain rfl : n = 0 := by simpa using hn
    clear hn hsl hs
    go_enter Tryz.func26, Tryz.ntmps26
    go_wp2
    go_ret
    exact ⟨none, 0, rfl, Has.nil _ _, Fr.refl _ _, fun k hk => by cases hk⟩
  | some x =>
    have HE : Hid (Has (w.alloc (.cells #[] 3)) 1 (.slice (some ⟨w.heap.size, 0, none⟩) 0 0) 0 []) := has_empty w 1 _
    have f1 : Fr (fun _ => False) w (w.alloc (.cells #[] 3)) := (Fr.refl _ _).alloc _
    have hr1 := (hr.same f1).from
    have HN : Hid (n = l.length) := hn
    have HSL : Hid ((intCells l).length = l.length) := hsl
    have HS' : Hid (n ≤ 17592186043904) := by show _ ≤ _; omega
    clear hn hs hsl
    go_enter Tryz.func26, Tryz.ntmps26
    go_wp2_with (at_builtin; refine wpList_append_has _ rfl _ _ 32 32 3 3 rfl i0 _ 1 8 Tryz.underlying32 Tryz.underlying32 hi hz0 hz1 hz2 rfl (by omega) (.slice (some ⟨w.heap.size, 0, none⟩) 0 0) 0 [] rfl HE.out (some x) n c (intCells l) rfl (by rw [HSL.out, HN.out]; omega) hr1 (intCells_one l) (by have := HS'.out; unfold maxLen; omega) (by have := HS'.out; omega) ?_; intro am cm w2 hown hfr hat)
    go_ret
    rw [Nat.zero_add, List.nil_append] at hown
    rw [Nat.zero_add] at hat
    rw [HN.out] at hown hat
    refine ⟨am, cm, by rw [← HN.out]; rfl, hown, f1.above hfr ?_, fun k hk => ?_⟩
    · rintro i ⟨e, _⟩
      simp [Value.ownBlock] at e
      omega
    · rw [hk] at hat
      rcases hat with e | e <;> simp [Value.ownBlock] at e <;> omega
set_option maxRecDepth 100000 in
set_option maxHeartbeats 4000000 in
theorem rd_copiedB (n : Nd) (p : Pt) (hk : n.keys.length ≤ 8796093021952) (hv : n.vals.length ≤ 8796093021952) (hi : n.kids.length ≤ 17592186043904) (w : World) (h : Nod w n p) : Calls Tryz.prog 14 #[(.agg #[.int .i64 n.lev, .int .i64 n.lsn, .int .i64 n.rgt, .string n.high, .slice p.k n.keys.length p.kc, .slice p.v n.vals.length p.vc, .slice p.i n.kids.length p.ic])] w fun e w' => CpOut n w e w' := by
  have f0 : Fr (fun _ => False) w ((w.alloc (.cells #[.int .i64 n.lev, .int .i64 n.lsn, .int .i64 n.rgt, .string n.high, .slice p.k n.keys.length p.kc, .slice p.v n.vals.length p.vc, .slice p.i n.kids.length p.ic] 34)).alloc (.cells #[.int .i64 0, .int .i64 0, .int .i64 0, .string ⟨#[]⟩, .slice none 0 0, .slice none 0 0, .slice none 0 0] 34)) := ((Fr.refl _ _).alloc _).alloc _
  have HB : Hid (∀ W, Fr (fun _ => False) ((w.alloc (.cells #[.int .i64 n.lev, .int .i64 n.lsn, .int .i64 n.rgt, .string n.high, .slice p.k n.keys.length p.kc, .slice p.v n.vals.length p.vc, .slice p.i n.kids.length p.ic] 34)).alloc (.cells #[.int .i64 0, .int .i64 0, .int .i64 0, .string ⟨#[]⟩, .slice none 0 0, .slice none 0 0, .slice none 0 0] 34)) W → W.cell? ⟨w.heap.size, 0, none⟩ = some (.int .i64 n.lev) ∧ W.cell? ⟨w.heap.size, 1, none⟩ = some (.int .i64 n.lsn) ∧ W.cell? ⟨w.heap.size, 2, none⟩ = some (.int .i64 n.rgt) ∧ W.cell? ⟨w.heap.size, 3, none⟩ = some (.string n.high) ∧ W.cell? ⟨w.heap.size, 4, none⟩ = some (.slice p.k n.keys.length p.kc) ∧ W.cell? ⟨w.heap.size, 5, none⟩ = some (.slice p.v n.vals.length p.vc) ∧ W.cell? ⟨w.heap.size, 6, none⟩ = some (.slice p.i n.kids.length p.ic)) := fun W f => box_cells (box_at w n p 34 (((Fr.refl _ _).alloc _).seq' f))
  have HBB : Hid (∀ W, Fr (fun _ => False) ((w.alloc (.cells #[.int .i64 n.lev, .int .i64 n.lsn, .int .i64 n.rgt, .string n.high, .slice p.k n.keys.length p.kc, .slice p.v n.vals.length p.vc, .slice p.i n.kids.length p.ic] 34)).alloc (.cells #[.int .i64 0, .int .i64 0, .int .i64 0, .string ⟨#[]⟩, .slice none 0 0, .slice none 0 0, .slice none 0 0] 34)) W → W.heap[w.heap.size]? = some (.cells #[.int .i64 n.lev, .int .i64 n.lsn, .int .i64 n.rgt, .string n.high, .slice p.k n.keys.length p.kc, .slice p.v n.vals.length p.vc, .slice p.i n.kids.length p.ic] 34 (0, 0))) := fun W f => box_at w n p 34 (((Fr.refl _ _).alloc _).seq' f)
  have HRB : Hid (∀ W, Fr (fun _ => False) ((w.alloc (.cells #[.int .i64 n.lev, .int .i64 n.lsn, .int .i64 n.rgt, .string n.high, .slice p.k n.keys.length p.kc, .slice p.v n.vals.length p.vc, .slice p.i n.kids.length p.ic] 34)).alloc (.cells #[.int .i64 0, .int .i64 0, .int .i64 0, .string ⟨#[]⟩, .slice none 0 0, .slice none 0 0, .slice none 0 0] 34)) W → W.heap[w.heap.size + 1]? = some (.cells #[.int .i64 0, .int .i64 0, .int .i64 0, .string ⟨#[]⟩, .slice none 0 0, .slice none 0 0, .slice none 0 0] 34 (0, 0))) := fun W f => by
    refine f.blk ?_ (fun f => f)
    have := heap_alloc_new (w.alloc (.cells #[.int .i64 n.lev, .int .i64 n.lsn, .int .i64 n.rgt, .string n.high, .slice p.k n.keys.length p.kc, .slice p.v n.vals.length p.vc, .slice p.i n.kids.length p.ic] 34)) (.cells #[.int .i64 0, .int .i64 0, .int .i64 0, .string ⟨#[]⟩, .slice none 0 0, .slice none 0 0, .slice none 0 0] 34)
    rw [show (w.alloc (.cells #[.int .i64 n.lev, .int .i64 n.lsn, .int .i64 n.rgt, .string n.high, .slice p.k n.keys.length p.kc, .slice p.v n.vals.length p.vc, .slice p.i n.kids.length p.ic] 34)).heap.size = w.heap.size + 1 by simp] at this
    exact this
  have fr0 := (Fr.refl (fun _ => False) ((w.alloc (.cells #[.int .i64 n.lev, .int .i64 n.lsn, .int .i64 n.rgt, .string n.high, .slice p.k n.keys.length p.kc, .slice p.v n.vals.length p.vc, .slice p.i n.kids.length p.ic] 34)).alloc (.cells #[.int .i64 0, .int .i64 0, .int .i64 0, .string ⟨#[]⟩, .slice none 0 0, .slice none 0 0, .slice none 0 0] 34))).drew
  have q0 := HB.out _ fr0
  have hN := h.same (f0.seq' fr0)
  have HKL : Hid (n.keys.length ≤ 8796093021952) := hk
  have HVL : Hid (n.vals.length ≤ 8796093021952) := hv
  have HIL : Hid (n.kids.length ≤ 17592186043904) := hi
  clear hk hv hi
  go_enter Tryz.func14, Tryz.ntmps14
  go_wp2_with fail
  obtain ⟨c0, c1, c2, c3, c4, c5, c6⟩ := q0
  go_region_law
    (first
      | (show (if Region.wanted { dst := some 5, op := .call { callee := .value (.func 25), args := _, argTypes := _ }, type := _, pos := _, after := _, guard := _ } _ = true then _ else _); refine step_of (by rfl) (wp_clS (.tmp 4) _ (by rfl) (by rfl) ?_); rw [Oper.upon_enter]; refine (clone_sB p.k n.keys.length p.kc n.keys _ hN.keys rfl HKL.out).mono ?_; rintro en w1 ⟨a1, cc1, rfl, hs1, m1, o1⟩; have fr1 := fr0.seq' m1; obtain ⟨d0, d1, d2, d3, d4, d5, d6⟩ := HB.out _ fr1; have hN1 := h.same (f0.seq' fr1))
      | (show (if Region.wanted { dst := some 8, op := .call { callee := .value (.func 25), args := _, argTypes := _ }, type := _, pos := _, after := _, guard := _ } _ = true then _ else _); refine step_of (by rfl) (wp_clS (.tmp 7) _ (by rfl) (by rfl) ?_); rw [Oper.upon_enter]; refine (clone_sB p.v n.vals.length p.vc n.vals _ hN1.vals rfl HVL.out).mono ?_; rintro en w2 ⟨a2, cc2, rfl, hs2, m2, o2⟩; have fr2 := fr1.seq' m2; obtain ⟨e0, e1, e2, e3, e4, e5, e6⟩ := HB.out _ fr2; have hN2 := h.same (f0.seq' fr2))
      | (show (if Region.wanted { dst := some 11, op := .call { callee := .value (.func 26), args := _, argTypes := _ }, type := _, pos := _, after := _, guard := _ } _ = true then _ else _); refine step_of (by rfl) (wp_clI (.tmp 10) _ (by rfl) (by rfl) ?_); rw [Oper.upon_enter]; refine (clone_iB p.i n.kids.length p.ic n.kids _ hN2.kids rfl HIL.out).mono ?_; rintro en w3 ⟨a3, cc3, rfl, hs3, m3, o3⟩; have fr3 := fr2.seq' m3; obtain ⟨⟨g0, g1, g2, g3, g4, g5, g6⟩, rz⟩ := node_cells (HBB.out _ fr3); have z4 := rz 4; have z5 := rz 5; have z6 := rz 6))
  all_goals
    have hb3 := HBB.out _ fr3
    have hr3 := HRB.out _ fr3
    have hs1' := hs1.fr (m2.seq' m3) (fun _ _ f => f)
    have hs2' := hs2.fr m3 (fun _ _ f => f)
    have z1 : w.heap.size + 2 ≤ w1.heap.size := by have := fr1.size; simp at this; omega
    have z2 : w1.heap.size ≤ w2.heap.size := m2.size
    have l1 : ∀ g, (Value.slice a1 n.keys.length cc1).ownBlock = some g → w.heap.size + 1 < g ∧ g < w1.heap.size := fun g hg => ⟨by have := o1 g hg; simp at this; omega, hs1.lt hg⟩
    have l2 : ∀ g, (Value.slice a2 n.vals.length cc2).ownBlock = some g → w1.heap.size ≤ g ∧ g < w2.heap.size := fun g hg => ⟨o2 g hg, hs2.lt hg⟩
    have l3 : ∀ g, (Value.slice a3 n.kids.length cc3).ownBlock = some g → w2.heap.size ≤ g := fun g hg => o3 g hg
    have ffB : Fr (fun k => k = w.heap.size) w3 (((w3.setCell ⟨w.heap.size, 4, none⟩ (.slice a1 n.keys.length cc1)).setCell ⟨w.heap.size, 5, none⟩ (.slice a2 n.vals.length cc2)).setCell ⟨w.heap.size, 6, none⟩ (.slice a3 n.kids.length cc3)) := (((Fr.refl (fun k => k = w.heap.size) w3).setCell (p := ⟨w.heap.size, 4, none⟩) (fun _ => rfl) _).setCell (p := ⟨w.heap.size, 5, none⟩) (fun _ => rfl) _).setCell (p := ⟨w.heap.size, 6, none⟩) (fun _ => rfl) _
    have hb4 := node_setCell (j := 6) (node_setCell (j := 5) (node_setCell (j := 4) hb3 (.slice a1 n.keys.length cc1)) (.slice a2 n.vals.length cc2)) (.slice a3 n.kids.length cc3)
    have hr4 := ffB.blk hr3 (by omega)
    have F3 := f0.seq' fr3
    generalize ((w3.setCell ⟨w.heap.size, 4, none⟩ (.slice a1 n.keys.length cc1)).setCell ⟨w.heap.size, 5, none⟩ (.slice a2 n.vals.length cc2)).setCell ⟨w.heap.size, 6, none⟩ (.slice a3 n.kids.length cc3) = W4 at ffB hb4 hr4 ⊢
    obtain ⟨⟨t0, t1, t2, t3, t4, t5, t6⟩, _⟩ := node_cells (c0 := .int .i64 n.lev) (c1 := .int .i64 n.lsn) (c2 := .int .i64 n.rgt) (c3 := .string n.high) (c4 := .slice a1 n.keys.length cc1) (c5 := .slice a2 n.vals.length cc2) (c6 := .slice a3 n.kids.length cc3) hb4
    obtain ⟨⟨s0, s1, s2, s3, s4, s5, s6⟩, sz⟩ := node_cells hr4
    have y0 := sz 0; have y1 := sz 1; have y2 := sz 2; have y3 := sz 3; have y4 := sz 4; have y5 := sz 5; have y6 := sz 6
    clear c0 c1 c2 c3 c4 c5 c6 d0 d1 d2 d3 d4 d5 d6 e0 e1 e2 e3 e4 e5 e6 g0 g1 g2 g3 g4 g5 g6 rz z4 z5 z6 sz hN hN1 hN2
    go_wp2
    obtain ⟨hq, ff⟩ := fin7 hr4 (.int .i64 n.lev) (.int .i64 n.lsn) (.int .i64 n.rgt) (.string n.high) (.slice a1 n.keys.length cc1) (.slice a2 n.vals.length cc2) (.slice a3 n.kids.length cc3)
    have fff := (F3.trans ffB (S := fun _ => False) (fun i hi e => by omega)).trans ff (S := fun _ => False) (fun i hi e => by omega)
    have hsK := (hs1'.fr ffB (fun g hg e => by have := l1 g hg; omega)).fr ff (fun g hg e => by have := l1 g hg; omega)
    have hsV := (hs2'.fr ffB (fun g hg e => by have := l2 g hg; omega)).fr ff (fun g hg e => by have := l2 g hg; omega)
    have hsI := (hs3.fr ffB (fun g hg e => by have := l3 g hg; omega)).fr ff (fun g hg e => by have := l3 g hg; omega)
    generalize ((((((W4.setCell ⟨w.heap.size + 1, 0, none⟩ (.int .i64 n.lev)).setCell ⟨w.heap.size + 1, 1, none⟩ (.int .i64 n.lsn)).setCell ⟨w.heap.size + 1, 2, none⟩ (.int .i64 n.rgt)).setCell ⟨w.heap.size + 1, 3, none⟩ (.string n.high)).setCell ⟨w.heap.size + 1, 4, none⟩ (.slice a1 n.keys.length cc1)).setCell ⟨w.heap.size + 1, 5, none⟩ (.slice a2 n.vals.length cc2)).setCell ⟨w.heap.size + 1, 6, none⟩ (.slice a3 n.kids.length cc3) = Wf at hq fff hsK hsV hsI ⊢
    obtain ⟨⟨q0, q1, q2, q3, q4, q5, q6⟩, _⟩ := node_cells hq
    exact bodyPost_ret (v := .agg #[.int .i64 n.lev, .int .i64 n.lsn, .int .i64 n.rgt, .string n.high, .slice a1 n.keys.length cc1, .slice a2 n.vals.length cc2, .slice a3 n.kids.length cc3]) (by simp [results, Tryz.results14, go_sem, q0, q1, q2, q3, q4, q5, q6]) rfl
      ⟨a1, cc1, a2, cc2, a3, cc3, rfl, hsK, hsV, hsI, (fun g hg => by have := l1 g hg; omega), (fun g hg => by have := l2 g hg; omega), (fun g hg => by have := l3 g hg; omega), (fun g hg e => by have := l1 g hg; have := l2 g e; omega), (fun g hg e => by have := l1 g hg; have := l3 g e; omega), (fun g hg e => by have := l2 g hg; have := l3 g e; omega), fff⟩


theorem Has.strsB {w : World} {v : Value} {l : List ByteArray} (h : Has w 1 v l.length (strCells l)) (hs : ∀ s ∈ l, s.size ≤ maxLen) : ∃ a c, v = .slice a l.length c ∧ Strs w a c l := by
  rcases h.2 with ⟨rfl, h0⟩ | ⟨g, cap, rfl, hg, h1, h2, h3, h4⟩
  · have : l = [] := List.eq_nil_of_length_eq_zero h0
    subst this
    exact ⟨none, 0, rfl, by simp, by omega, hs, .inl rfl⟩
  · refine ⟨_, cap, rfl, h1, by unfold maxLen at h2; omega, hs, .inr ⟨g, 0, rfl, hg, fun i hi => ?_⟩⟩
    exact h4 i _ (by simp [strCells, List.getD_eq_getElem?_getD, hi])
/-- A node whose lists may be copied. -/
def Szd (n : Nd) : Prop := n.keys.length ≤ 8796093021952 ∧ n.vals.length ≤ 8796093021952 ∧ n.kids.length ≤ 17592186043904
theorem cp_nodB {w0 w w' : World} {n : Nd} {p : Pt} {e : Ending} (h : CpOut n w e w') (hn : Nod w0 n p) : ∃ q : Pt, e = .returned (.agg #[.int .i64 n.lev, .int .i64 n.lsn, .int .i64 n.rgt, .string n.high, .slice q.k n.keys.length q.kc, .slice q.v n.vals.length q.vc, .slice q.i n.kids.length q.ic]) ∧ Nod w' n q ∧ Nw w q ∧ Fr (fun _ => False) w w' := by
  obtain ⟨ak, ck, av, cv, ai, ci, rfl, hk, hv, hi, ok, ov, oi, _, _, _, f⟩ := h
  obtain ⟨a1, c1, e1, s1⟩ := hk.strsB hn.keys.text
  obtain ⟨a2, c2, e2, s2⟩ := hv.strsB hn.vals.text
  obtain ⟨a3, c3, e3, s3⟩ := hi.ints
  simp only [Value.slice.injEq, true_and] at e1 e2 e3
  obtain ⟨rfl, rfl⟩ := e1
  obtain ⟨rfl, rfl⟩ := e2
  obtain ⟨rfl, rfl⟩ := e3
  refine ⟨⟨ak, ck, av, cv, ai, ci⟩, rfl, ⟨s1, s2, s3, hn.high, hn.ksz, hn.vsz, hn.klen, hn.vlen, hn.ilen⟩, ?_, f⟩
  rintro b off (hx | hx | hx)
  · dsimp only at hx; subst hx; exact ok b rfl
  · dsimp only at hx; subst hx; exact ov b rfl
  · dsimp only at hx; subst hx; exact oi b rfl

section
variable {H : Type} {enc : TypeId × Value → H} {w : World}
theorem strs_len {fuel len cap : Nat} {a : Option Addr} {x : DataW H × List MemPlace} (h : DataW.trod enc Tryz.prog w 0 (fun _ => true) true fuel 31 [.slice a len cap] = some x) (hz : ∀ z ∈ x.1.weights Tryz.prog 31, z ≤ reachBytes) : len ≤ 8796093021952 := by
  rcases open_strings Tryz.underlying31 Tryz.underlying9 cellsS h with ⟨hcs, _⟩ | ⟨y, len', cap', ss, hcs, _, hl, hm, hzz, hx, hcell, hsz⟩
  · simp at hcs
    omega
  · simp only [List.cons.injEq, and_true, Value.slice.injEq] at hcs
    obtain ⟨_, rfl, rfl⟩ := hcs
    have hlen : len ≤ ss.length := by rw [hzz]; split <;> omega
    have hx1 : x.1 = .slice (strs (ss.take len)) (strs (ss.drop len)) := by rw [hx]
    rw [hx1] at hz
    have w1 := hz (((strs (H := H) (ss.take len)).length + (strs (H := H) (ss.drop len)).length) * Tryz.prog.bytesOf 9) (by simp [DataW.weights, Tryz.underlying31])
    rw [bytesS] at w1
    simp only [strs, List.length_map, List.length_take, List.length_drop, reachBytes] at w1
    omega
theorem ints_len {fuel len cap : Nat} {a : Option Addr} {x : DataW H × List MemPlace} (h : DataW.trod enc Tryz.prog w 0 (fun _ => true) true fuel 32 [.slice a len cap] = some x) (hz : ∀ z ∈ x.1.weights Tryz.prog 32, z ≤ reachBytes) : len ≤ 17592186043904 := by
  rcases open_ints Tryz.underlying32 Tryz.underlying3 cellsI h with ⟨hcs, _⟩ | ⟨y, len', cap', ss, hcs, _, hl, hm, hzz, hx, hcell, _⟩
  · simp at hcs
    omega
  · simp only [List.cons.injEq, and_true, Value.slice.injEq] at hcs
    obtain ⟨_, rfl, rfl⟩ := hcs
    have hlen : len ≤ ss.length := by rw [hzz]; split <;> omega
    have hx1 : x.1 = .slice (lits .i64 (ss.take len)) (lits .i64 (ss.drop len)) := by rw [hx]
    rw [hx1] at hz
    have w1 := hz (((lits (H := H) .i64 (ss.take len)).length + (lits (H := H) .i64 (ss.drop len)).length) * Tryz.prog.bytesOf 3) (by simp [DataW.weights, Tryz.underlying32])
    rw [bytesI] at w1
    simp only [lits, List.length_map, List.length_take, List.length_drop, reachBytes] at w1
    omega
set_option maxRecDepth 100000 in
theorem node_in3 {fuel : Nat} {c0 c1 c2 c3 c4 c5 c6 : Value} {x : DataW H × List MemPlace} (hf : DataW.trod enc Tryz.prog w 0 (fun _ => true) true fuel 34 [c0, c1, c2, c3, c4, c5, c6] = some x) (hz : ∀ z ∈ x.1.weights Tryz.prog 34, z ≤ reachBytes) :
    ∃ (n : Nd) (p : Pt), [c0, c1, c2, c3, c4, c5, c6] = [.int .i64 n.lev, .int .i64 n.lsn, .int .i64 n.rgt, .string n.high, .slice p.k n.keys.length p.kc, .slice p.v n.vals.length p.vc, .slice p.i n.kids.length p.ic] ∧ Nod w n p ∧ Szd n := by
  obtain ⟨xs, m, _, hx, hl, hlen, hfs⟩ := DataW.trod_struct Tryz.underlying34 hf
  match xs, hlen with
  | [y0, y1, y2, y3, y4, y5, y6], _ =>
    have t0 := hfs 0 _ rfl
    have t1 := hfs 1 _ rfl
    have t2 := hfs 2 _ rfl
    have t3 := hfs 3 _ rfl
    have t4 := hfs 4 _ rfl
    have t5 := hfs 5 _ rfl
    have t6 := hfs 6 _ rfl
    simp [cellsI, cellsS, cellsSs, cellsIs] at t0 t1 t2 t3 t4 t5 t6
    have hd : x.1 = .agg [y0.1, y1.1, y2.1, y3.1, y4.1, y5.1, y6.1] := by simpa using congrArg Prod.fst hx
    rw [hd] at hz
    simp only [DataW.weights, Tryz.underlying34] at hz
    have z3 : ∀ z ∈ y3.1.weights Tryz.prog 9, z ≤ reachBytes := fun z h => hz z (DataW.weights_mem_each (j := 3) rfl rfl z h)
    have z4 : ∀ z ∈ y4.1.weights Tryz.prog 31, z ≤ reachBytes := fun z h => hz z (DataW.weights_mem_each (j := 4) rfl rfl z h)
    have z5 : ∀ z ∈ y5.1.weights Tryz.prog 31, z ≤ reachBytes := fun z h => hz z (DataW.weights_mem_each (j := 5) rfl rfl z h)
    have z6 : ∀ z ∈ y6.1.weights Tryz.prog 32, z ≤ reachBytes := fun z h => hz z (DataW.weights_mem_each (j := 6) rfl rfl z h)
    obtain ⟨b0, e0, _, _⟩ := DataW.trod_int Tryz.underlying3 t0
    obtain ⟨b1, e1, _, _⟩ := DataW.trod_int Tryz.underlying3 t1
    obtain ⟨b2, e2, _, _⟩ := DataW.trod_int Tryz.underlying3 t2
    obtain ⟨b3, e3, e3', _⟩ := DataW.trod_string Tryz.underlying9 t3
    simp only [List.cons.injEq, and_true] at e0 e1 e2 e3
    subst e0 e1 e2 e3
    rw [e3'] at z3
    have w3 := z3 b3.data.toList.length (by simp [DataW.weights])
    rw [← Lib.size_eq] at w3
    obtain ⟨ak, ck, lk, rfl, s4, s4s, s4l⟩ := strs_part t4 z4
    obtain ⟨av, cv, lv, rfl, s5, s5s, s5l⟩ := strs_part t5 z5
    obtain ⟨ai, ci, li, rfl, s6, s6l⟩ := ints_part t6 z6
    exact ⟨⟨b0, b1, b2, b3, lk, lv, li⟩, ⟨ak, ck, av, cv, ai, ci⟩, rfl, ⟨s4, s5, s6, by simpa [reachBytes] using w3, s4s, s5s, s4l, s5l, s6l⟩, strs_len t4 z4, strs_len t5 z5, ints_len t6 z6⟩
set_option maxRecDepth 100000 in
theorem slot_in3 {fuel : Nat} {cs : List Value} {x : DataW H × List MemPlace} (hlen : cs.length = 8) (h : DataW.trod enc Tryz.prog w 0 (fun _ => true) true fuel 45 cs = some x) (hz : ∀ z ∈ x.1.weights Tryz.prog 45, z ≤ reachBytes) : ∃ s : Sl, cs = slC s ∧ Nod w s.nd s.pt ∧ Szd s.nd := by
  obtain ⟨xs, n', _, hx, _, hxl, hfl⟩ := DataW.trod_struct Tryz.underlying45 h
  have t0 := hfl 0 _ rfl
  have t1 := hfl 1 _ rfl
  match xs, hxl with
  | [y0, y1], _ =>
  match cs, hlen with
  | [c0, c1, c2, c3, c4, c5, c6, c7], _ =>
    simp [cellsI, cellsN] at t0 t1
    have hd : x.1 = .agg [y0.1, y1.1] := by simpa using congrArg Prod.fst hx
    rw [hd] at hz
    simp only [DataW.weights, Tryz.underlying45] at hz
    have z1 : ∀ z ∈ y1.1.weights Tryz.prog 34, z ≤ reachBytes := fun z h => hz z (DataW.weights_mem_each (j := 1) rfl rfl z h)
    obtain ⟨b0, e0, _, _⟩ := DataW.trod_int Tryz.underlying3 t0
    simp only [List.cons.injEq, and_true] at e0
    subst e0
    obtain ⟨n, p, e1, hn⟩ := node_in3 t1 z1
    exact ⟨⟨b0, n, p⟩, by rw [e1]; rfl, hn⟩
set_option maxRecDepth 100000 in
theorem slots_open3 {fuel len cap : Nat} {a : Option Addr} {d : DataW H} {p : List MemPlace}
    (h : DataW.trod enc Tryz.prog w 0 (fun _ => true) true fuel 22 [.slice a len cap] = some (d, p)) (hz : ∀ z ∈ d.weights Tryz.prog 22, z ≤ reachBytes) :
    ∃ ls : List Sl, len = ls.length ∧ len * 120 ≤ 140737488355328 ∧ Slots w a cap ls ∧ ∀ s ∈ ls, Szd s.nd := by
  rcases open_slice Tryz.underlying22 h with ⟨hcs, hx⟩ | ⟨x, l, c, m, n, D, Pl, hcs, _, hl, hm, hmm, hx, heach⟩
  · simp at hcs
    obtain ⟨rfl, rfl, rfl⟩ := hcs
    exact ⟨[], rfl, by omega, ⟨Nat.le_refl _, by omega, .inl rfl, (fun s hs => by cases hs)⟩, (fun s hs => by cases hs)⟩
  · simp at hcs
    obtain ⟨rfl, rfl, rfl⟩ := hcs
    simp only [if_true] at hmm
    subst hmm
    rw [cellsSl] at heach
    have hd : d = .slice ((List.range len).map D) ((List.range (m - len)).map fun j => D (len + j)) := by simpa using congrArg Prod.fst hx
    rw [hd] at hz
    simp only [DataW.weights, Tryz.underlying22] at hz
    have hlen8 : len * 120 ≤ 140737488355328 := by
      have := hz _ (List.mem_cons_self ..)
      rw [bytesSl] at this
      simp [reachBytes] at this
      omega
    have hzi : ∀ i, i < len → ∀ z ∈ (D i).weights Tryz.prog 45, z ≤ reachBytes := fun i hi z h =>
      hz z (by simp only [List.mem_cons, List.mem_append]; exact .inr (.inl (weights_all (List.mem_map.2 ⟨i, List.mem_range.2 hi, rfl⟩) z h)))
    have each : ∀ i, i < len → ∃ r : Sl, (∀ j v, (slC r)[j]? = some v → w.cell? (x.add (i * 8 + j)) = some v) ∧ Nod w r.nd r.pt ∧ Szd r.nd := by
      intro i hi
      obtain ⟨cs', hc, ht'⟩ := heach i (by omega)
      obtain ⟨_, hlen, hcell⟩ := World.cells?_some hc
      obtain ⟨r, hr, hN⟩ := slot_in3 hlen ht' (hzi i hi)
      refine ⟨r, fun j v hv => ?_, hN⟩
      have hj : j < 8 := by have := (List.getElem?_eq_some_iff.1 hv).1; rwa [slC_length] at this
      have z := hcell j (by omega)
      rw [add_add] at z
      rw [z, hr]
      exact hv
    have inh : Inhabited Sl := ⟨sl0⟩
    obtain ⟨f, hf⟩ := choose_lt (α := Sl) each
    have hget : ∀ i s, ((List.range len).map f)[i]? = some s → i < len ∧ s = f i := by
      intro i s hs
      have hi : i < len := by have := (List.getElem?_eq_some_iff.1 hs).1; simpa using this
      refine ⟨hi, ?_⟩
      simp [hi] at hs
      exact hs.symm
    refine ⟨(List.range len).map f, by simp, hlen8, ⟨by simpa using hl, by unfold maxLen at hm; omega, ?_, ?_⟩, ?_⟩
    · by_cases h0 : len = 0
      · exact .inl (by simp [h0])
      · obtain ⟨b, off, spot⟩ := x
        have hc := (hf 0 (by omega)).1 0 _ rfl
        have hspot : spot = none := by simpa [Addr.add] using World.cell?_spot hc
        subst hspot
        refine .inr ⟨b, off, rfl, World.block_lt_of_cell? w ⟨b, off + (0 * 8 + 0), none⟩ (by rw [Addr.add_lit] at hc; exact hc), fun i s hs => ?_⟩
        obtain ⟨hi, rfl⟩ := hget i s hs
        intro j v hv
        have := (hf i (by omega)).1 j v hv
        rw [Addr.add_lit, ← Nat.add_assoc] at this
        exact this
    · intro s hs
      obtain ⟨i, hi, rfl⟩ := List.mem_map.1 hs
      exact (hf i (List.mem_range.1 hi)).2.1
    · intro s hs
      obtain ⟨i, hi, rfl⟩ := List.mem_map.1 hs
      exact (hf i (List.mem_range.1 hi)).2.2
end
set_option maxRecDepth 100000 in
set_option maxHeartbeats 4000000 in
theorem pages_anyB (a : Option Addr) (n c : Nat) (ls : List Sl) (hn : n = ls.length) (hf : n * 120 ≤ 140737488355328) (w : World) (h : Slots w a c ls) :
    Calls Tryz.prog 6 #[.slice a n c] w fun e w' => SvOut w ls e w' := by
  obtain ⟨iR, hiR, hR0, hR1, hR2⟩ := info_parts infoZl
  have hle : n ≤ c := by rw [hn]; exact h.le
  have hmx := h.max
  have hnod := h.nod
  have HND : Hid (∀ s ∈ ls, Nod w s.nd s.pt) := hnod
  have HS : Hid (∀ W, Fr (fun _ => False) w W → Slots W a c ls) := fun W f => h.same f
  have HN : Hid (n = ls.length) := hn
  have HF : Hid (n * 120 ≤ 140737488355328) := hf
  clear h hn hnod hf
  go_enter Tryz.func6, Tryz.ntmps6
  go_wp2
  go_loopw [8, 3] (fun i o wr => ∃ (k : Nat) (a' : Option Addr) (c' : Nat), k ≤ n ∧ i = .int .i64 k ∧ o = .slice a' k c' ∧ Hid (Has wr 8 (.slice a' k c') k ((ls.take k).flatMap slC)) ∧ Hid (∀ g, (Value.slice a' k c').ownBlock = some g → w.heap.size ≤ g) ∧ Fr (fun _ => False) w wr) (fun i _ _ => n - (intOf i).toNat)
  case atStart => exact ⟨0, none, 0, by omega, rfl, rfl, Has.nil _ _, (fun g e => by cases e), Fr.refl _ _⟩
  case round =>
    obtain ⟨k, a', c', hk, rfl, rfl, HH, HO, F⟩ := hrel
    by_cases hlt : k < n
    · obtain ⟨r, hr⟩ : ∃ r, ls[k]? = some r := ⟨_, List.getElem?_eq_getElem (by have := HN.out; omega)⟩
      obtain ⟨bb, off, rfl, hbb, hcc⟩ := (HS.out _ F).some (by have := HN.out; omega)
      obtain ⟨q0, q1, q2, q3, q4, q5, q6, q7⟩ := sl_range (hcc k r hr)
      have hki : (k : Int) < (n : Int) := by omega
      have HTK : Hid (ls.take (k + 1) = ls.take k ++ [r]) := take_snocR hr
      have P6 := (Fr.box wr (.cells #[.int .i64 r.page, .int .i64 r.nd.lev, .int .i64 r.nd.lsn, .int .i64 r.nd.rgt, .string r.nd.high, .slice r.pt.k r.nd.keys.length r.pt.kc, .slice r.pt.v r.nd.vals.length r.pt.vc, .slice r.pt.i r.nd.kids.length r.pt.ic] 45)).alloc (.cells #[.int .i64 r.page, .int .i64 r.nd.lev, .int .i64 r.nd.lsn, .int .i64 r.nd.rgt, .string r.nd.high, .slice r.pt.k r.nd.keys.length r.pt.kc, .slice r.pt.v r.nd.vals.length r.pt.vc, .slice r.pt.i r.nd.kids.length r.pt.ic] 55)
      have hrow := HH.out.fr P6 (fun _ _ f => f)
      have FF := F.seq' P6
      have HNE : Hid (From ((wr.alloc (.cells #[.int .i64 r.page, .int .i64 r.nd.lev, .int .i64 r.nd.lsn, .int .i64 r.nd.rgt, .string r.nd.high, .slice r.pt.k r.nd.keys.length r.pt.kc, .slice r.pt.v r.nd.vals.length r.pt.vc, .slice r.pt.i r.nd.kids.length r.pt.ic] 45)).alloc (.cells #[.int .i64 r.page, .int .i64 r.nd.lev, .int .i64 r.nd.lsn, .int .i64 r.nd.rgt, .string r.nd.high, .slice r.pt.k r.nd.keys.length r.pt.kc, .slice r.pt.v r.nd.vals.length r.pt.vc, .slice r.pt.i r.nd.kids.length r.pt.ic] 55)) (some ⟨wr.heap.size + 1, 0, none⟩) (slC r)) := .inr ⟨_, _, rfl, by
        have := range_block (heap_alloc_new (wr.alloc (.cells #[.int .i64 r.page, .int .i64 r.nd.lev, .int .i64 r.nd.lsn, .int .i64 r.nd.rgt, .string r.nd.high, .slice r.pt.k r.nd.keys.length r.pt.kc, .slice r.pt.v r.nd.vals.length r.pt.vc, .slice r.pt.i r.nd.kids.length r.pt.ic] 45)) (.cells #[.int .i64 r.page, .int .i64 r.nd.lev, .int .i64 r.nd.lsn, .int .i64 r.nd.rgt, .string r.nd.high, .slice r.pt.k r.nd.keys.length r.pt.kc, .slice r.pt.v r.nd.vals.length r.pt.vc, .slice r.pt.i r.nd.kids.length r.pt.ic] 55)) (xs := slC r) (o := 0) (fun j v hv => by rw [Nat.zero_add]; simpa [slC] using hv)
        rwa [show (wr.alloc (.cells #[.int .i64 r.page, .int .i64 r.nd.lev, .int .i64 r.nd.lsn, .int .i64 r.nd.rgt, .string r.nd.high, .slice r.pt.k r.nd.keys.length r.pt.kc, .slice r.pt.v r.nd.vals.length r.pt.vc, .slice r.pt.i r.nd.kids.length r.pt.ic] 45)).heap.size = wr.heap.size + 1 by simp] at this⟩
      have HRW : Hid (Has ((wr.alloc (.cells #[.int .i64 r.page, .int .i64 r.nd.lev, .int .i64 r.nd.lsn, .int .i64 r.nd.rgt, .string r.nd.high, .slice r.pt.k r.nd.keys.length r.pt.kc, .slice r.pt.v r.nd.vals.length r.pt.vc, .slice r.pt.i r.nd.kids.length r.pt.ic] 45)).alloc (.cells #[.int .i64 r.page, .int .i64 r.nd.lev, .int .i64 r.nd.lsn, .int .i64 r.nd.rgt, .string r.nd.high, .slice r.pt.k r.nd.keys.length r.pt.kc, .slice r.pt.v r.nd.vals.length r.pt.vc, .slice r.pt.i r.nd.kids.length r.pt.ic] 55)) 8 (.slice a' k c') k ((ls.take k).flatMap slC)) := hrow
      clear hr hcc hrow P6
      go_wp2_with (at_builtin; refine wpList_append_has _ rfl (.tmp 12) (.tmp 18) 27 27 55 55 rfl iR _ 8 120 Tryz.underlying27 Tryz.underlying27 hiR hR0 hR1 hR2 rfl (by omega) (.slice a' k c') k ((ls.take k).flatMap slC) rfl HRW.out (some ⟨wr.heap.size + 1, 0, none⟩) 1 1 (slC r) rfl rfl HNE.out (slC_one _) (by have := HF.out; unfold maxLen; omega) (by have := HF.out; omega) ?_; intro a4 c4 w8 ht4 f34 hat4)
      have HT5 : Hid (Has w8 8 (.slice a4 (k + 1) c4) (k + 1) ((ls.take (k + 1)).flatMap slC)) := by
        show Has _ _ _ _ _
        rw [HTK.out, List.flatMap_append]
        simpa using ht4
      have HO5 : Hid (∀ g, (Value.slice a4 (k + 1) c4).ownBlock = some g → w.heap.size ≤ g) := fun g e => by
        have hz := F.size
        rcases hat4 with h1 | h1
        · rw [h1] at e; exact HO.out g e
        · rw [h1] at e; simp at e; omega
      have F5 : Fr (fun _ => False) w w8 := FF.trans f34 (fun i hi e => by have := HO.out i e.1; omega)
      clear ht4 hat4 f34 FF q0 q1 q2 q3 q4 q5 q6 q7 HRW HNE HTK
      go_wp2
      go_roundw
      case rel => exact ⟨k + 1, a4, c4, by omega, by go_num, rfl, HT5, HO5, F5⟩
      case measure => simp [intOf]; omega
    · obtain rfl : k = n := by omega
      have HFIN : Hid (SvOut w ls (.returned (.slice a' k c')) wr) := by
        have hk := HN.out
        subst hk
        have hh := HH.out
        rw [List.take_of_length_le (by omega)] at hh
        exact ⟨a', c', rfl, ⟨hh, fun s hs => (HND.out s hs).same F, fun s hs => (HND.out s hs).far (fun b hb e => by have := HO.out b e; omega)⟩, F, HO.out⟩
      go_wp2
      go_ret
      exact HFIN.out
end Go.Proofs.YtlgceleelhppdaaGreat
