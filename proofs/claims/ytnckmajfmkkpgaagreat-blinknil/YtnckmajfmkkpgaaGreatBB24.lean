
/- RdBase, NdOwn. -/
import Derived.Test.YtnckmajfmkkpgaaGreatBB23
import Derived.Test.YtnckmajfmkkpgaaGreatBB11
import Derived.Test.YtnckmajfmkkpgaaGreatBB21
import Derived.Test.YtnckmajfmkkpgaaGreatBB22
/- Redo's small functions: first, copied, checkNode, checkNeed. -/
namespace Go.Proofs.YtnckmajfmkkpgaaGreat
open Go.RowKit

set_option maxRecDepth 100000 in
set_option maxHeartbeats 1000000 in
theorem rd_first (b : Nat) (t : TypeId) (l : List Int) (hl : l.length ≤ 100) (w : World) (hb : w.heap[b]? = some (.cells (l.map (Value.int .i64)).toArray t (0, 0))) :
    Calls Tryz.prog 53 #[.slice (some ⟨b, 0, none⟩) l.length l.length] w fun e w' => e = .returned (.int .i64 (firstE l)) ∧ w' = w := by
  have hc : ∀ i, i < l.length → w.cell? ⟨b, i, none⟩ = some (.int .i64 (l.getD i 0)) := fun i hi => by
    rw [cell_of_row w b i _ _ _ hb, List.getElem?_toArray, List.getElem?_map, List.getD_eq_getElem?_getD, List.getElem?_eq_getElem hi]; rfl
  have HC : Hid (∀ i, i < l.length → w.cell? ⟨b, i, none⟩ = some (.int .i64 (l.getD i 0))) := hc
  clear hb hc
  go_enter Tryz.func53, Tryz.ntmps53
  go_wp2
  go_loopw [7] (fun i wr => ∃ j : Nat, j ≤ l.length ∧ i = .int .i64 j ∧ Hid (firstE (l.drop j) = firstE l) ∧ wr = w) (fun i _ => l.length - (intOf i).toNat)
  case atStart => exact ⟨0, by omega, rfl, rfl, rfl⟩
  case round =>
    obtain ⟨j, hj, rfl, HE, rfl⟩ := hrel
    by_cases hlt : j < l.length
    · have hcj := HC.out j hlt
      have hji : (j : Int) < (l.length : Int) := by omega
      have HD : Hid (firstE (l.drop j) = if l.getD j 0 = 0 then firstE (l.drop (j + 1)) else l.getD j 0) := by
        show _ = _
        rw [List.drop_eq_getElem_cons hlt, List.getD_eq_getElem?_getD, List.getElem?_eq_getElem hlt]
        rfl
      obtain ⟨x, hx⟩ : ∃ x, x = l.getD j 0 := ⟨_, rfl⟩
      rw [← hx] at hcj HD
      clear hx
      by_cases h0 : x = 0
      · subst h0
        rw [if_pos rfl] at HD
        go_wp2
        go_roundw
        case rel => exact ⟨j + 1, by omega, by go_num, by show _ = _; rw [← HD.out]; exact HE.out, trivial⟩
        case measure => simp [intOf]; omega
      · have hne : (x != 0) = true := by simpa using h0
        rw [if_neg h0] at HD
        go_wp2
        go_ret
        exact ⟨ret_int (by rw [← HE.out, HD.out]), rfl⟩
    · have e : j = l.length := by omega
      subst e
      go_wp2
      go_ret
      exact ⟨ret_int (by rw [← HE.out, List.drop_length]; rfl), rfl⟩
theorem rd_first3 (x y z : Int) (W : World) : Calls Tryz.prog 53 #[.slice (some ⟨W.heap.size, 0, none⟩) 3 3] (W.alloc (.cells #[.int .i64 x, .int .i64 y, .int .i64 z] 31)) fun e w' => e = .returned (.int .i64 (firstE [x, y, z])) ∧ w' = W.alloc (.cells #[.int .i64 x, .int .i64 y, .int .i64 z] 31) :=
  rd_first W.heap.size 31 [x, y, z] (by simp) _ (heap_alloc_new W _)
set_option maxRecDepth 100000 in
set_option maxHeartbeats 4000000 in
theorem rd_copied (n : Nd) (p : Pt) (hk : n.keys.length ≤ 100000) (hv : n.vals.length ≤ 100000) (hi : n.kids.length ≤ 100000) (w : World) (h : Nod w n p) : Calls Tryz.prog 56 #[(.agg #[.int .i64 n.lev, .int .i64 n.lsn, .int .i64 n.rgt, .string n.high, .slice p.k n.keys.length p.kc, .slice p.v n.vals.length p.vc, .slice p.i n.kids.length p.ic])] w fun e w' => CpOut n w e w' := by
  have f0 : Fr (fun _ => False) w ((w.alloc (.cells #[.int .i64 n.lev, .int .i64 n.lsn, .int .i64 n.rgt, .string n.high, .slice p.k n.keys.length p.kc, .slice p.v n.vals.length p.vc, .slice p.i n.kids.length p.ic] 28)).alloc (.cells #[.int .i64 0, .int .i64 0, .int .i64 0, .string ⟨#[]⟩, .slice none 0 0, .slice none 0 0, .slice none 0 0] 28)) := ((Fr.refl _ _).alloc _).alloc _
  have HB : Hid (∀ W, Fr (fun _ => False) ((w.alloc (.cells #[.int .i64 n.lev, .int .i64 n.lsn, .int .i64 n.rgt, .string n.high, .slice p.k n.keys.length p.kc, .slice p.v n.vals.length p.vc, .slice p.i n.kids.length p.ic] 28)).alloc (.cells #[.int .i64 0, .int .i64 0, .int .i64 0, .string ⟨#[]⟩, .slice none 0 0, .slice none 0 0, .slice none 0 0] 28)) W → W.cell? ⟨w.heap.size, 0, none⟩ = some (.int .i64 n.lev) ∧ W.cell? ⟨w.heap.size, 1, none⟩ = some (.int .i64 n.lsn) ∧ W.cell? ⟨w.heap.size, 2, none⟩ = some (.int .i64 n.rgt) ∧ W.cell? ⟨w.heap.size, 3, none⟩ = some (.string n.high) ∧ W.cell? ⟨w.heap.size, 4, none⟩ = some (.slice p.k n.keys.length p.kc) ∧ W.cell? ⟨w.heap.size, 5, none⟩ = some (.slice p.v n.vals.length p.vc) ∧ W.cell? ⟨w.heap.size, 6, none⟩ = some (.slice p.i n.kids.length p.ic)) := fun W f => box_cells (box_at w n p 28 (((Fr.refl _ _).alloc _).seq' f))
  have HBB : Hid (∀ W, Fr (fun _ => False) ((w.alloc (.cells #[.int .i64 n.lev, .int .i64 n.lsn, .int .i64 n.rgt, .string n.high, .slice p.k n.keys.length p.kc, .slice p.v n.vals.length p.vc, .slice p.i n.kids.length p.ic] 28)).alloc (.cells #[.int .i64 0, .int .i64 0, .int .i64 0, .string ⟨#[]⟩, .slice none 0 0, .slice none 0 0, .slice none 0 0] 28)) W → W.heap[w.heap.size]? = some (.cells #[.int .i64 n.lev, .int .i64 n.lsn, .int .i64 n.rgt, .string n.high, .slice p.k n.keys.length p.kc, .slice p.v n.vals.length p.vc, .slice p.i n.kids.length p.ic] 28 (0, 0))) := fun W f => box_at w n p 28 (((Fr.refl _ _).alloc _).seq' f)
  have HRB : Hid (∀ W, Fr (fun _ => False) ((w.alloc (.cells #[.int .i64 n.lev, .int .i64 n.lsn, .int .i64 n.rgt, .string n.high, .slice p.k n.keys.length p.kc, .slice p.v n.vals.length p.vc, .slice p.i n.kids.length p.ic] 28)).alloc (.cells #[.int .i64 0, .int .i64 0, .int .i64 0, .string ⟨#[]⟩, .slice none 0 0, .slice none 0 0, .slice none 0 0] 28)) W → W.heap[w.heap.size + 1]? = some (.cells #[.int .i64 0, .int .i64 0, .int .i64 0, .string ⟨#[]⟩, .slice none 0 0, .slice none 0 0, .slice none 0 0] 28 (0, 0))) := fun W f => by
    refine f.blk ?_ (fun f => f)
    have := heap_alloc_new (w.alloc (.cells #[.int .i64 n.lev, .int .i64 n.lsn, .int .i64 n.rgt, .string n.high, .slice p.k n.keys.length p.kc, .slice p.v n.vals.length p.vc, .slice p.i n.kids.length p.ic] 28)) (.cells #[.int .i64 0, .int .i64 0, .int .i64 0, .string ⟨#[]⟩, .slice none 0 0, .slice none 0 0, .slice none 0 0] 28)
    rw [show (w.alloc (.cells #[.int .i64 n.lev, .int .i64 n.lsn, .int .i64 n.rgt, .string n.high, .slice p.k n.keys.length p.kc, .slice p.v n.vals.length p.vc, .slice p.i n.kids.length p.ic] 28)).heap.size = w.heap.size + 1 by simp] at this
    exact this
  have fr0 := (Fr.refl (fun _ => False) ((w.alloc (.cells #[.int .i64 n.lev, .int .i64 n.lsn, .int .i64 n.rgt, .string n.high, .slice p.k n.keys.length p.kc, .slice p.v n.vals.length p.vc, .slice p.i n.kids.length p.ic] 28)).alloc (.cells #[.int .i64 0, .int .i64 0, .int .i64 0, .string ⟨#[]⟩, .slice none 0 0, .slice none 0 0, .slice none 0 0] 28))).drew
  have q0 := HB.out _ fr0
  have hN := h.same (f0.seq' fr0)
  have HKL : Hid (n.keys.length ≤ 100000) := hk
  have HVL : Hid (n.vals.length ≤ 100000) := hv
  have HIL : Hid (n.kids.length ≤ 100000) := hi
  clear hk hv hi
  go_enter Tryz.func56, Tryz.ntmps56
  go_wp2_with fail
  obtain ⟨c0, c1, c2, c3, c4, c5, c6⟩ := q0
  go_region_law
    (first
      | (show (if Region.wanted { dst := some 5, op := .call { callee := .value (.func 29), args := _, argTypes := _ }, type := _, pos := _, after := _, guard := _ } _ = true then _ else _); refine step_of (by rfl) (wp_clS (.tmp 4) _ (by rfl) (by rfl) ?_); rw [Oper.upon_enter]; refine (clone_s p.k n.keys.length p.kc n.keys _ hN.keys rfl HKL.out).mono ?_; rintro en w1 ⟨a1, cc1, rfl, hs1, m1, o1⟩; have fr1 := fr0.seq' m1; obtain ⟨d0, d1, d2, d3, d4, d5, d6⟩ := HB.out _ fr1; have hN1 := h.same (f0.seq' fr1))
      | (show (if Region.wanted { dst := some 8, op := .call { callee := .value (.func 29), args := _, argTypes := _ }, type := _, pos := _, after := _, guard := _ } _ = true then _ else _); refine step_of (by rfl) (wp_clS (.tmp 7) _ (by rfl) (by rfl) ?_); rw [Oper.upon_enter]; refine (clone_s p.v n.vals.length p.vc n.vals _ hN1.vals rfl HVL.out).mono ?_; rintro en w2 ⟨a2, cc2, rfl, hs2, m2, o2⟩; have fr2 := fr1.seq' m2; obtain ⟨e0, e1, e2, e3, e4, e5, e6⟩ := HB.out _ fr2; have hN2 := h.same (f0.seq' fr2))
      | (show (if Region.wanted { dst := some 11, op := .call { callee := .value (.func 30), args := _, argTypes := _ }, type := _, pos := _, after := _, guard := _ } _ = true then _ else _); refine step_of (by rfl) (wp_clI (.tmp 10) _ (by rfl) (by rfl) ?_); rw [Oper.upon_enter]; refine (clone_i p.i n.kids.length p.ic n.kids _ hN2.kids rfl HIL.out).mono ?_; rintro en w3 ⟨a3, cc3, rfl, hs3, m3, o3⟩; have fr3 := fr2.seq' m3; obtain ⟨⟨g0, g1, g2, g3, g4, g5, g6⟩, rz⟩ := node_cells (HBB.out _ fr3); have z4 := rz 4; have z5 := rz 5; have z6 := rz 6))
  all_goals
    have hb3 := HBB.out _ fr3
    have hr3 := HRB.out _ fr3
    have hs1' := hs1.fr (m2.seq' m3) (fun _ _ f => f)
    have hs2' := hs2.fr m3 (fun _ _ f => f)
    have z1 : w.heap.size + 2 ≤ w1.heap.size := by have := fr1.size; simp at this; omega
    have z2 : w1.heap.size ≤ w2.heap.size := m2.size
    have l1 : ∀ g, (Value.slice a1 n.keys.length cc1).ownBlock = some g → w.heap.size + 1 < g ∧ g < w1.heap.size := fun g hg => ⟨by have := o1 g hg; simp at this; omega, hs1.lt hg⟩
    have l2 : ∀ g, (Value.slice a2 n.vals.length cc2).ownBlock = some g → w1.heap.size ≤ g ∧ g < w2.heap.size := fun g hg => ⟨o2 g hg, hs2.lt hg⟩
    have l3 : ∀ g, (Value.slice a3 n.kids.length cc3).ownBlock = some g → w2.heap.size ≤ g := fun g hg => o3 g hg
    have ffB : Fr (fun k => k = w.heap.size) w3 (((w3.setCell ⟨w.heap.size, 4, none⟩ (.slice a1 n.keys.length cc1)).setCell ⟨w.heap.size, 5, none⟩ (.slice a2 n.vals.length cc2)).setCell ⟨w.heap.size, 6, none⟩ (.slice a3 n.kids.length cc3)) := (((Fr.refl (fun k => k = w.heap.size) w3).setCell (p := ⟨w.heap.size, 4, none⟩) (fun _ => rfl) _).setCell (p := ⟨w.heap.size, 5, none⟩) (fun _ => rfl) _).setCell (p := ⟨w.heap.size, 6, none⟩) (fun _ => rfl) _
    have hb4 := node_setCell (j := 6) (node_setCell (j := 5) (node_setCell (j := 4) hb3 (.slice a1 n.keys.length cc1)) (.slice a2 n.vals.length cc2)) (.slice a3 n.kids.length cc3)
    have hr4 := ffB.blk hr3 (by omega)
    have F3 := f0.seq' fr3
    generalize ((w3.setCell ⟨w.heap.size, 4, none⟩ (.slice a1 n.keys.length cc1)).setCell ⟨w.heap.size, 5, none⟩ (.slice a2 n.vals.length cc2)).setCell ⟨w.heap.size, 6, none⟩ (.slice a3 n.kids.length cc3) = W4 at ffB hb4 hr4 ⊢
    obtain ⟨⟨t0, t1, t2, t3, t4, t5, t6⟩, _⟩ := node_cells (c0 := .int .i64 n.lev) (c1 := .int .i64 n.lsn) (c2 := .int .i64 n.rgt) (c3 := .string n.high) (c4 := .slice a1 n.keys.length cc1) (c5 := .slice a2 n.vals.length cc2) (c6 := .slice a3 n.kids.length cc3) hb4
    obtain ⟨⟨s0, s1, s2, s3, s4, s5, s6⟩, sz⟩ := node_cells hr4
    have y0 := sz 0; have y1 := sz 1; have y2 := sz 2; have y3 := sz 3; have y4 := sz 4; have y5 := sz 5; have y6 := sz 6
    clear c0 c1 c2 c3 c4 c5 c6 d0 d1 d2 d3 d4 d5 d6 e0 e1 e2 e3 e4 e5 e6 g0 g1 g2 g3 g4 g5 g6 rz z4 z5 z6 sz hN hN1 hN2
    go_wp2
    obtain ⟨hq, ff⟩ := fin7 hr4 (.int .i64 n.lev) (.int .i64 n.lsn) (.int .i64 n.rgt) (.string n.high) (.slice a1 n.keys.length cc1) (.slice a2 n.vals.length cc2) (.slice a3 n.kids.length cc3)
    have fff := (F3.trans ffB (S := fun _ => False) (fun i hi e => by omega)).trans ff (S := fun _ => False) (fun i hi e => by omega)
    have hsK := (hs1'.fr ffB (fun g hg e => by have := l1 g hg; omega)).fr ff (fun g hg e => by have := l1 g hg; omega)
    have hsV := (hs2'.fr ffB (fun g hg e => by have := l2 g hg; omega)).fr ff (fun g hg e => by have := l2 g hg; omega)
    have hsI := (hs3.fr ffB (fun g hg e => by have := l3 g hg; omega)).fr ff (fun g hg e => by have := l3 g hg; omega)
    generalize ((((((W4.setCell ⟨w.heap.size + 1, 0, none⟩ (.int .i64 n.lev)).setCell ⟨w.heap.size + 1, 1, none⟩ (.int .i64 n.lsn)).setCell ⟨w.heap.size + 1, 2, none⟩ (.int .i64 n.rgt)).setCell ⟨w.heap.size + 1, 3, none⟩ (.string n.high)).setCell ⟨w.heap.size + 1, 4, none⟩ (.slice a1 n.keys.length cc1)).setCell ⟨w.heap.size + 1, 5, none⟩ (.slice a2 n.vals.length cc2)).setCell ⟨w.heap.size + 1, 6, none⟩ (.slice a3 n.kids.length cc3) = Wf at hq fff hsK hsV hsI ⊢
    obtain ⟨⟨q0, q1, q2, q3, q4, q5, q6⟩, _⟩ := node_cells hq
    exact bodyPost_ret (v := .agg #[.int .i64 n.lev, .int .i64 n.lsn, .int .i64 n.rgt, .string n.high, .slice a1 n.keys.length cc1, .slice a2 n.vals.length cc2, .slice a3 n.kids.length cc3]) (by simp [results, Tryz.results56, go_sem, q0, q1, q2, q3, q4, q5, q6]) rfl
      ⟨a1, cc1, a2, cc2, a3, cc3, rfl, hsK, hsV, hsI, (fun g hg => by have := l1 g hg; omega), (fun g hg => by have := l2 g hg; omega), (fun g hg => by have := l3 g hg; omega), (fun g hg e => by have := l1 g hg; have := l2 g e; omega), (fun g hg e => by have := l1 g hg; have := l3 g e; omega), (fun g hg e => by have := l2 g hg; have := l3 g e; omega), fff⟩

theorem rd_checkNode (n : Nd) (p : Pt) (b : Bool) (w : World) (h : b = true → Nod w n p) : Calls Tryz.prog 54 #[(.agg #[.int .i64 n.lev, .int .i64 n.lsn, .int .i64 n.rgt, .string n.high, .slice p.k n.keys.length p.kc, .slice p.v n.vals.length p.vc, .slice p.i n.kids.length p.ic]), .bool b] w fun e w' => e = .returned (.int .i64 (if b = true then rgE n else 0)) ∧ Fr (fun _ => False) w w' := by
  have f0 := Fr.box w (.cells #[.int .i64 n.lev, .int .i64 n.lsn, .int .i64 n.rgt, .string n.high, .slice p.k n.keys.length p.kc, .slice p.v n.vals.length p.vc, .slice p.i n.kids.length p.ic] 28)
  cases b
  · rw [if_neg (by simp)]
    go_enter Tryz.func54, Tryz.ntmps54
    go_wp2
    go_ret
    exact ⟨rfl, f0⟩
  · rw [if_pos rfl]
    have hc := check_any n p _ ((h rfl).same f0)
    unfold rgE
    cases hr : rightB n
    · rw [epage_no hr] at hc
      rw [if_neg (by simp)]
      clear hr
      go_enter Tryz.func54, Tryz.ntmps54
      go_wp2_with fail
      refine hc.mono ?_
      rintro e w1 ⟨rfl, f1⟩
      go_wp2
      go_ret
      exact ⟨rfl, f0.seq' f1⟩
    · rw [epage_yes hr] at hc
      rw [if_pos rfl]
      clear hr
      go_enter Tryz.func54, Tryz.ntmps54
      go_wp2_with fail
      refine hc.mono ?_
      rintro e w1 ⟨rfl, f1⟩
      go_wp2
      go_ret
      exact ⟨rfl, f0.seq' f1⟩
/-- Whether a record has the page that it needs. -/
def needE (kind : Int) (b : Bool) : Int := if kind = 4 then 0 else if kind = 2 ∨ kind = 3 ∨ kind = 5 ∨ kind = 6 then (if b = true then 0 else 6) else 1
set_option maxRecDepth 100000 in
set_option maxHeartbeats 1000000 in
theorem rd_checkNeed (lsn ep kind page other req : Int) (key val : ByteArray) (b : Bool) (w : World) : Calls Tryz.prog 55 #[.agg #[.int .i64 lsn, .int .i64 ep, .int .i64 kind, .int .i64 page, .int .i64 other, .int .i64 req, .string key, .string val], .bool b] w fun e w' => e = .returned (.int .i64 (needE kind b)) ∧ Fr (fun _ => False) w w' := by
  have f0 := Fr.box w (.cells #[.int .i64 lsn, .int .i64 ep, .int .i64 kind, .int .i64 page, .int .i64 other, .int .i64 req, .string key, .string val] 35)
  by_cases h4 : kind = 4
  · subst h4
    rw [show needE 4 b = 0 from rfl]
    go_enter Tryz.func55, Tryz.ntmps55
    go_wp2
    go_ret
    exact ⟨rfl, f0⟩
  · have b4 : (kind == 4) = false := by simpa using h4
    by_cases h2 : kind = 2
    · subst h2
      cases b <;>
      (go_enter Tryz.func55, Tryz.ntmps55
       go_wp2
       go_ret
       exact ⟨rfl, f0⟩)
    · have b2 : (kind == 2) = false := by simpa using h2
      by_cases h3 : kind = 3
      · subst h3
        cases b <;>
        (go_enter Tryz.func55, Tryz.ntmps55
         go_wp2
         go_ret
         exact ⟨rfl, f0⟩)
      · have b3 : (kind == 3) = false := by simpa using h3
        by_cases h5 : kind = 5
        · subst h5
          cases b <;>
          (go_enter Tryz.func55, Tryz.ntmps55
           go_wp2
           go_ret
           exact ⟨rfl, f0⟩)
        · have b5 : (kind == 5) = false := by simpa using h5
          by_cases h6 : kind = 6
          · subst h6
            cases b <;>
            (go_enter Tryz.func55, Tryz.ntmps55
             go_wp2
             go_ret
             exact ⟨rfl, f0⟩)
          · have b6 : (kind == 6) = false := by simpa using h6
            have HE : Hid (needE kind b = 1) := by show _ = _; unfold needE; rw [if_neg h4, if_neg (by rintro (h | h | h | h) <;> contradiction)]
            rw [HE.out]
            clear h2 h3 h4 h5 h6
            go_enter Tryz.func55, Tryz.ntmps55
            go_wp2
            go_ret
            exact ⟨rfl, f0⟩
end Go.Proofs.YtnckmajfmkkpgaaGreat

/- A node with lists of its own, changed in place. -/
namespace Go.Proofs.YtnckmajfmkkpgaaGreat
open Go.RowKit

/-- A node in its box at b, its lists in blocks behind b + 1, where the answer's box lies. -/
structure By (W0 w : World) (b : Nat) (n : Nd) (kv vv iv : Value) : Prop extends Bx W0 w b n kv vv iv where
  ok2 : ∀ g, kv.ownBlock = some g → b + 1 < g
  ov2 : ∀ g, vv.ownBlock = some g → b + 1 < g
  oi2 : ∀ g, iv.ownBlock = some g → b + 1 < g
section
variable {W0 w w1 : World} {b : Nat} {n : Nd} {kv vv iv : Value}
theorem By.same (h : By W0 w b n kv vv iv) (f : Fr (fun _ => False) w w1) : By W0 w1 b n kv vv iv := ⟨h.toBx.same f, h.ok2, h.ov2, h.oi2⟩
theorem own_up {v v' : Value} {lo : Nat} (ho : v'.ownBlock = v.ownBlock ∨ ∃ g, v'.ownBlock = some g ∧ w.heap.size ≤ g) (hl : lo < w.heap.size) (h : ∀ g, v.ownBlock = some g → lo < g) : ∀ g, v'.ownBlock = some g → lo < g := fun g e => by
  rcases ho with ho | ⟨g2, ho, hg⟩
  · rw [ho] at e; exact h g e
  · rw [ho] at e; simp at e; omega
theorem own_off {v v' u : Value} (ho : v'.ownBlock = v.ownBlock ∨ ∃ g, v'.ownBlock = some g ∧ w.heap.size ≤ g) (hu : ∀ g, u.ownBlock = some g → g < w.heap.size) (hn : ∀ g, v.ownBlock = some g → u.ownBlock ≠ some g) : ∀ g, v'.ownBlock = some g → u.ownBlock ≠ some g := fun g e e2 => by
  rcases ho with ho | ⟨g2, ho, hg⟩
  · rw [ho] at e; exact hn g e e2
  · rw [ho] at e; simp at e; have := hu g e2; omega
theorem By.newk {kv' : Value} {l : List ByteArray} (h : By W0 w b n kv vv iv) (hb : b + 1 < w.heap.size) (hh : Has w1 1 kv' l.length (strCells l)) (f : Fr (fun k => kv.ownBlock = some k) w w1) (ho : kv'.ownBlock = kv.ownBlock ∨ ∃ g, kv'.ownBlock = some g ∧ w.heap.size ≤ g) :
    w1.heap[b]? = some (.cells #[.int .i64 n.lev, .int .i64 n.lsn, .int .i64 n.rgt, .string n.high, kv, vv, iv] 28 (0, 0)) ∧ By W0 (w1.setCell ⟨b, 4, none⟩ kv') b { n with keys := l } kv' vv iv := by
  have hn := h.new
  have hB : w1.heap[b]? = some (.cells #[.int .i64 n.lev, .int .i64 n.lsn, .int .i64 n.rgt, .string n.high, kv, vv, iv] 28 (0, 0)) := by
    rw [f.block b (by omega) (fun e => by have := h.ok b e; omega)]; exact h.box
  have ff : Fr (fun k => k = b) w1 (w1.setCell ⟨b, 4, none⟩ kv') := (Fr.refl (fun k => k = b) w1).setCell (p := ⟨b, 4, none⟩) (fun _ => rfl) _
  have k2 := own_up ho hb h.ok2
  refine ⟨hB, ⟨⟨by rw [node_setCell hB]; rfl, hn, hh.fr ff (fun g e e2 => by have := k2 g e; omega), (h.vals.fr f (fun g e e2 => h.nkv g e2 e)).fr ff (fun g e e2 => by have := h.ov g e; omega), (h.kids.fr f (fun g e e2 => h.nki g e2 e)).fr ff (fun g e e2 => by have := h.oi g e; omega), (fun g e => by have := k2 g e; omega), h.ov, h.oi, own_off ho (fun g e => h.vals.lt e) h.nkv, own_off ho (fun g e => h.kids.lt e) h.nki, h.nvi, ?_⟩, k2, h.ov2, h.oi2⟩⟩
  exact (h.fr.trans f (S := fun _ => False) (fun i hi e => by have := h.ok i e; omega)).trans ff (S := fun _ => False) (fun i hi e => by omega)
theorem By.newv {vv' : Value} {l : List ByteArray} (h : By W0 w b n kv vv iv) (hb : b + 1 < w.heap.size) (hh : Has w1 1 vv' l.length (strCells l)) (f : Fr (fun k => vv.ownBlock = some k) w w1) (ho : vv'.ownBlock = vv.ownBlock ∨ ∃ g, vv'.ownBlock = some g ∧ w.heap.size ≤ g) :
    w1.heap[b]? = some (.cells #[.int .i64 n.lev, .int .i64 n.lsn, .int .i64 n.rgt, .string n.high, kv, vv, iv] 28 (0, 0)) ∧ By W0 (w1.setCell ⟨b, 5, none⟩ vv') b { n with vals := l } kv vv' iv := by
  have hn := h.new
  have hB : w1.heap[b]? = some (.cells #[.int .i64 n.lev, .int .i64 n.lsn, .int .i64 n.rgt, .string n.high, kv, vv, iv] 28 (0, 0)) := by
    rw [f.block b (by omega) (fun e => by have := h.ov b e; omega)]; exact h.box
  have ff : Fr (fun k => k = b) w1 (w1.setCell ⟨b, 5, none⟩ vv') := (Fr.refl (fun k => k = b) w1).setCell (p := ⟨b, 5, none⟩) (fun _ => rfl) _
  have k2 := own_up ho hb h.ov2
  refine ⟨hB, ⟨⟨by rw [node_setCell hB]; rfl, hn, (h.keys.fr f (fun g e e2 => h.nkv g e e2)).fr ff (fun g e e2 => by have := h.ok g e; omega), hh.fr ff (fun g e e2 => by have := k2 g e; omega), (h.kids.fr f (fun g e e2 => h.nvi g e2 e)).fr ff (fun g e e2 => by have := h.oi g e; omega), h.ok, (fun g e => by have := k2 g e; omega), h.oi, (fun g e e2 => own_off ho (fun g e => h.keys.lt e) (fun g e e2 => h.nkv g e2 e) g e2 e), h.nki, own_off ho (fun g e => h.kids.lt e) h.nvi, ?_⟩, h.ok2, k2, h.oi2⟩⟩
  exact (h.fr.trans f (S := fun _ => False) (fun i hi e => by have := h.ov i e; omega)).trans ff (S := fun _ => False) (fun i hi e => by omega)
theorem By.newi {iv' : Value} {l : List Int} (h : By W0 w b n kv vv iv) (hb : b + 1 < w.heap.size) (hh : Has w1 1 iv' l.length (intCells l)) (f : Fr (fun k => iv.ownBlock = some k) w w1) (ho : iv'.ownBlock = iv.ownBlock ∨ ∃ g, iv'.ownBlock = some g ∧ w.heap.size ≤ g) :
    w1.heap[b]? = some (.cells #[.int .i64 n.lev, .int .i64 n.lsn, .int .i64 n.rgt, .string n.high, kv, vv, iv] 28 (0, 0)) ∧ By W0 (w1.setCell ⟨b, 6, none⟩ iv') b { n with kids := l } kv vv iv' := by
  have hn := h.new
  have hB : w1.heap[b]? = some (.cells #[.int .i64 n.lev, .int .i64 n.lsn, .int .i64 n.rgt, .string n.high, kv, vv, iv] 28 (0, 0)) := by
    rw [f.block b (by omega) (fun e => by have := h.oi b e; omega)]; exact h.box
  have ff : Fr (fun k => k = b) w1 (w1.setCell ⟨b, 6, none⟩ iv') := (Fr.refl (fun k => k = b) w1).setCell (p := ⟨b, 6, none⟩) (fun _ => rfl) _
  have k2 := own_up ho hb h.oi2
  refine ⟨hB, ⟨⟨by rw [node_setCell hB]; rfl, hn, (h.keys.fr f (fun g e e2 => h.nki g e e2)).fr ff (fun g e e2 => by have := h.ok g e; omega), (h.vals.fr f (fun g e e2 => h.nvi g e e2)).fr ff (fun g e e2 => by have := h.ov g e; omega), hh.fr ff (fun g e e2 => by have := k2 g e; omega), h.ok, h.ov, (fun g e => by have := k2 g e; omega), h.nkv, (fun g e e2 => own_off ho (fun g e => h.keys.lt e) (fun g e e2 => h.nki g e2 e) g e2 e), (fun g e e2 => own_off ho (fun g e => h.vals.lt e) (fun g e e2 => h.nvi g e2 e) g e2 e), ?_⟩, h.ok2, h.ov2, k2⟩⟩
  exact (h.fr.trans f (S := fun _ => False) (fun i hi e => by have := h.oi i e; omega)).trans ff (S := fun _ => False) (fun i hi e => by omega)
/-- One of its values is stored anew. -/
theorem By.setv {i : Nat} (h : By W0 w b n kv vv iv) (hi : i < n.vals.length) (x : ByteArray) : ∃ g c, vv = .slice (some ⟨g, 0, none⟩) n.vals.length c ∧ (∃ u, w.cell? ⟨g, 0 + i, none⟩ = some u) ∧ w.frozen? ⟨g, 0 + i, none⟩ = false ∧ By W0 (w.setCell ⟨g, 0 + i, none⟩ (.string x)) b { n with vals := n.vals.set i x } kv vv iv := by
  obtain ⟨g, c, rfl, hg, h1, h2, h3, h4⟩ := h.vals.form (by omega)
  have hn := h.new
  have hgb := h.ov2 g rfl
  have hc := h3 i (by omega)
  have ff : Fr (fun k => k = g) w (w.setCell ⟨g, 0 + i, none⟩ (.string x)) := (Fr.refl (fun k => k = g) w).setCell (p := ⟨g, 0 + i, none⟩) (fun _ => rfl) _
  have hs := h.vals.set i [.string x] (by simp [strCells]; omega)
  have e : w.setCells g i [.string x] = w.setCell ⟨g, 0 + i, none⟩ (.string x) := by rw [Nat.zero_add]; rfl
  rw [e] at hs
  refine ⟨g, c, rfl, Option.isSome_iff_exists.1 hc.1, hc.2, ⟨⟨?_, hn, h.keys.fr ff (fun k e e2 => h.nkv k e (by rw [e2]; rfl)), ?_, h.kids.fr ff (fun k e e2 => h.nvi g rfl (by rw [← e2]; exact e)), h.ok, h.ov, h.oi, h.nkv, h.nki, h.nvi, h.fr.trans ff (S := fun _ => False) (fun i hi e => by omega)⟩, h.ok2, h.ov2, h.oi2⟩⟩
  · rw [ff.block b (lt_of_block h.box) (by omega)]; exact h.box
  · have : strCells (n.vals.set i x) = (strCells n.vals).take i ++ [.string x] ++ (strCells n.vals).drop (i + [Value.string x].length) := by
      rw [strCells, strCells, List.set_eq_take_append_cons_drop, if_pos hi]
      simp
    show Has _ 1 _ (n.vals.set i x).length (strCells (n.vals.set i x))
    rw [this, List.length_set]
    exact hs
/-- The end: the node is stored as the answer. -/
theorem By.done {w0 : World} {r0 r1 r2 r3 r4 r5 r6 : Value} (h : By w0 w w0.heap.size n kv vv iv) (sh : Short n) (hk : n.keys.length ≤ 100000) (hv : n.vals.length ≤ 100000) (hi : n.kids.length ≤ 100000) (hR : w.heap[w0.heap.size + 1]? = some (.cells #[r0, r1, r2, r3, r4, r5, r6] 28 (0, 0))) :
    ∃ p : Pt, (kv = .slice p.k n.keys.length p.kc ∧ vv = .slice p.v n.vals.length p.vc ∧ iv = .slice p.i n.kids.length p.ic) ∧
      (((((((w.setCell ⟨w0.heap.size + 1, 0, none⟩ (.int .i64 n.lev)).setCell ⟨w0.heap.size + 1, 1, none⟩ (.int .i64 n.lsn)).setCell ⟨w0.heap.size + 1, 2, none⟩ (.int .i64 n.rgt)).setCell ⟨w0.heap.size + 1, 3, none⟩ (.string n.high)).setCell ⟨w0.heap.size + 1, 4, none⟩ kv).setCell ⟨w0.heap.size + 1, 5, none⟩ vv).setCell ⟨w0.heap.size + 1, 6, none⟩ iv).heap[w0.heap.size + 1]? = some (.cells #[.int .i64 n.lev, .int .i64 n.lsn, .int .i64 n.rgt, .string n.high, kv, vv, iv] 28 (0, 0)) ∧
      Nod (((((((w.setCell ⟨w0.heap.size + 1, 0, none⟩ (.int .i64 n.lev)).setCell ⟨w0.heap.size + 1, 1, none⟩ (.int .i64 n.lsn)).setCell ⟨w0.heap.size + 1, 2, none⟩ (.int .i64 n.rgt)).setCell ⟨w0.heap.size + 1, 3, none⟩ (.string n.high)).setCell ⟨w0.heap.size + 1, 4, none⟩ kv).setCell ⟨w0.heap.size + 1, 5, none⟩ vv).setCell ⟨w0.heap.size + 1, 6, none⟩ iv) n p ∧
      Fr (fun _ => False) w0 (((((((w.setCell ⟨w0.heap.size + 1, 0, none⟩ (.int .i64 n.lev)).setCell ⟨w0.heap.size + 1, 1, none⟩ (.int .i64 n.lsn)).setCell ⟨w0.heap.size + 1, 2, none⟩ (.int .i64 n.rgt)).setCell ⟨w0.heap.size + 1, 3, none⟩ (.string n.high)).setCell ⟨w0.heap.size + 1, 4, none⟩ kv).setCell ⟨w0.heap.size + 1, 5, none⟩ vv).setCell ⟨w0.heap.size + 1, 6, none⟩ iv) ∧ Nw w0 p := by
  obtain ⟨hq, ff⟩ := fin7 hR (.int .i64 n.lev) (.int .i64 n.lsn) (.int .i64 n.rgt) (.string n.high) kv vv iv
  generalize (((((((w.setCell ⟨w0.heap.size + 1, 0, none⟩ (.int .i64 n.lev)).setCell ⟨w0.heap.size + 1, 1, none⟩ (.int .i64 n.lsn)).setCell ⟨w0.heap.size + 1, 2, none⟩ (.int .i64 n.rgt)).setCell ⟨w0.heap.size + 1, 3, none⟩ (.string n.high)).setCell ⟨w0.heap.size + 1, 4, none⟩ kv).setCell ⟨w0.heap.size + 1, 5, none⟩ vv).setCell ⟨w0.heap.size + 1, 6, none⟩ iv) = Wf at hq ff ⊢
  obtain ⟨p, e1, e2, e3, nd⟩ := h.nod sh hk hv hi
  refine ⟨p, ⟨e1, e2, e3⟩, hq, nd_far nd ff (fun b off hx e => ?_), h.fr.trans ff (S := fun _ => False) (fun i hi e => by omega), fun b off hx => ?_⟩
  all_goals
    rcases hx with hx | hx | hx
    · have := h.ok2 b (by rw [e1, hx]; rfl); omega
    · have := h.ov2 b (by rw [e2, hx]; rfl); omega
    · have := h.oi2 b (by rw [e3, hx]; rfl); omega
end
/-- Whether a node that grew still fits. -/
def fitE (n : Nd) : Int := if rightB n = true then 0 else 5
set_option maxRecDepth 100000 in
set_option maxHeartbeats 2000000 in
theorem fitting_any (n : Nd) (p : Pt) (w : World) (h : Nod w n p) : Calls Tryz.prog 97 #[(.agg #[.int .i64 n.lev, .int .i64 n.lsn, .int .i64 n.rgt, .string n.high, .slice p.k n.keys.length p.kc, .slice p.v n.vals.length p.vc, .slice p.i n.kids.length p.ic])] w fun e w' => ∃ q : Pt, e = .returned (.tuple #[(.agg #[.int .i64 (okN (fitE n) n).lev, .int .i64 (okN (fitE n) n).lsn, .int .i64 (okN (fitE n) n).rgt, .string (okN (fitE n) n).high, .slice q.k (okN (fitE n) n).keys.length q.kc, .slice q.v (okN (fitE n) n).vals.length q.vc, .slice q.i (okN (fitE n) n).kids.length q.ic]), .int .i64 (fitE n)]) ∧ Nod w' (okN (fitE n) n) q ∧ Fr (fun _ => False) w w' ∧ (q = p ∨ q = zp) := by
  have f0 : Fr (fun _ => False) w ((w.alloc (.cells #[.int .i64 n.lev, .int .i64 n.lsn, .int .i64 n.rgt, .string n.high, .slice p.k n.keys.length p.kc, .slice p.v n.vals.length p.vc, .slice p.i n.kids.length p.ic] 28)).alloc (.cells #[.int .i64 0, .int .i64 0, .int .i64 0, .string ⟨#[]⟩, .slice none 0 0, .slice none 0 0, .slice none 0 0] 28)) := ((Fr.refl _ _).alloc _).alloc _
  have HB : Hid (∀ W, Fr (fun _ => False) ((w.alloc (.cells #[.int .i64 n.lev, .int .i64 n.lsn, .int .i64 n.rgt, .string n.high, .slice p.k n.keys.length p.kc, .slice p.v n.vals.length p.vc, .slice p.i n.kids.length p.ic] 28)).alloc (.cells #[.int .i64 0, .int .i64 0, .int .i64 0, .string ⟨#[]⟩, .slice none 0 0, .slice none 0 0, .slice none 0 0] 28)) W → W.cell? ⟨w.heap.size, 0, none⟩ = some (.int .i64 n.lev) ∧ W.cell? ⟨w.heap.size, 1, none⟩ = some (.int .i64 n.lsn) ∧ W.cell? ⟨w.heap.size, 2, none⟩ = some (.int .i64 n.rgt) ∧ W.cell? ⟨w.heap.size, 3, none⟩ = some (.string n.high) ∧ W.cell? ⟨w.heap.size, 4, none⟩ = some (.slice p.k n.keys.length p.kc) ∧ W.cell? ⟨w.heap.size, 5, none⟩ = some (.slice p.v n.vals.length p.vc) ∧ W.cell? ⟨w.heap.size, 6, none⟩ = some (.slice p.i n.kids.length p.ic)) := fun W f => box_cells (box_at w n p 28 (((Fr.refl _ _).alloc _).seq' f))
  have HRB : Hid (∀ W, Fr (fun _ => False) ((w.alloc (.cells #[.int .i64 n.lev, .int .i64 n.lsn, .int .i64 n.rgt, .string n.high, .slice p.k n.keys.length p.kc, .slice p.v n.vals.length p.vc, .slice p.i n.kids.length p.ic] 28)).alloc (.cells #[.int .i64 0, .int .i64 0, .int .i64 0, .string ⟨#[]⟩, .slice none 0 0, .slice none 0 0, .slice none 0 0] 28)) W → W.heap[w.heap.size + 1]? = some (.cells #[.int .i64 0, .int .i64 0, .int .i64 0, .string ⟨#[]⟩, .slice none 0 0, .slice none 0 0, .slice none 0 0] 28 (0, 0))) := fun W f => by
    refine f.blk ?_ (fun f => f)
    have := heap_alloc_new (w.alloc (.cells #[.int .i64 n.lev, .int .i64 n.lsn, .int .i64 n.rgt, .string n.high, .slice p.k n.keys.length p.kc, .slice p.v n.vals.length p.vc, .slice p.i n.kids.length p.ic] 28)) (.cells #[.int .i64 0, .int .i64 0, .int .i64 0, .string ⟨#[]⟩, .slice none 0 0, .slice none 0 0, .slice none 0 0] 28)
    rw [show (w.alloc (.cells #[.int .i64 n.lev, .int .i64 n.lsn, .int .i64 n.rgt, .string n.high, .slice p.k n.keys.length p.kc, .slice p.v n.vals.length p.vc, .slice p.i n.kids.length p.ic] 28)).heap.size = w.heap.size + 1 by simp] at this
    exact this
  have hc := check_any n p _ (h.same f0)
  unfold fitE
  cases hr : rightB n
  · rw [epage_no hr] at hc
    rw [if_neg (by simp)]
    clear hr
    go_enter Tryz.func97, Tryz.ntmps97
    go_wp2_with fail
    refine hc.mono ?_
    rintro e w1 ⟨rfl, f1⟩
    have hR6 := HRB.out _ f1
    obtain ⟨⟨s0, s1, s2, s3, s4, s5, s6⟩, sz⟩ := node_cells hR6
    have y0 := sz 0; have y1 := sz 1; have y2 := sz 2; have y3 := sz 3; have y4 := sz 4; have y5 := sz 5; have y6 := sz 6
    clear sz
    go_wp2
    obtain ⟨hq, ff⟩ := fin7 hR6 (.int .i64 0) (.int .i64 0) (.int .i64 0) (.string ⟨#[]⟩) (.slice none 0 0) (.slice none 0 0) (.slice none 0 0)
    have fff := (f0.seq' f1).trans ff (S := fun _ => False) (fun i hi e => by omega)
    generalize ((((((w1.setCell ⟨w.heap.size + 1, 0, none⟩ (.int .i64 0)).setCell ⟨w.heap.size + 1, 1, none⟩ (.int .i64 0)).setCell ⟨w.heap.size + 1, 2, none⟩ (.int .i64 0)).setCell ⟨w.heap.size + 1, 3, none⟩ (.string ⟨#[]⟩)).setCell ⟨w.heap.size + 1, 4, none⟩ (.slice none 0 0)).setCell ⟨w.heap.size + 1, 5, none⟩ (.slice none 0 0)).setCell ⟨w.heap.size + 1, 6, none⟩ (.slice none 0 0) = Wf at hq fff ⊢
    obtain ⟨⟨q0, q1, q2, q3, q4, q5, q6⟩, _⟩ := node_cells hq
    rw [okN_no (by omega)]
    exact bodyPost_ret (v := .tuple #[.agg #[.int .i64 0, .int .i64 0, .int .i64 0, .string ⟨#[]⟩, .slice none 0 0, .slice none 0 0, .slice none 0 0], .int .i64 5]) (by simp [results, Tryz.results97, go_sem, q0, q1, q2, q3, q4, q5, q6]) rfl ⟨zp, rfl, zn_nod _, fff, .inr rfl⟩
  · rw [epage_yes hr] at hc
    rw [if_pos rfl]
    clear hr
    go_enter Tryz.func97, Tryz.ntmps97
    go_wp2_with fail
    refine hc.mono ?_
    rintro e w1 ⟨rfl, f1⟩
    obtain ⟨c0, c1, c2, c3, c4, c5, c6⟩ := HB.out _ f1
    have hR6 := HRB.out _ f1
    obtain ⟨⟨s0, s1, s2, s3, s4, s5, s6⟩, sz⟩ := node_cells hR6
    have y0 := sz 0; have y1 := sz 1; have y2 := sz 2; have y3 := sz 3; have y4 := sz 4; have y5 := sz 5; have y6 := sz 6
    clear sz
    go_wp2
    obtain ⟨hq, ff⟩ := fin7 hR6 (.int .i64 n.lev) (.int .i64 n.lsn) (.int .i64 n.rgt) (.string n.high) (.slice p.k n.keys.length p.kc) (.slice p.v n.vals.length p.vc) (.slice p.i n.kids.length p.ic)
    have fff := (f0.seq' f1).trans ff (S := fun _ => False) (fun i hi e => by omega)
    generalize ((((((w1.setCell ⟨w.heap.size + 1, 0, none⟩ (.int .i64 n.lev)).setCell ⟨w.heap.size + 1, 1, none⟩ (.int .i64 n.lsn)).setCell ⟨w.heap.size + 1, 2, none⟩ (.int .i64 n.rgt)).setCell ⟨w.heap.size + 1, 3, none⟩ (.string n.high)).setCell ⟨w.heap.size + 1, 4, none⟩ (.slice p.k n.keys.length p.kc)).setCell ⟨w.heap.size + 1, 5, none⟩ (.slice p.v n.vals.length p.vc)).setCell ⟨w.heap.size + 1, 6, none⟩ (.slice p.i n.kids.length p.ic) = Wf at hq fff ⊢
    obtain ⟨⟨q0, q1, q2, q3, q4, q5, q6⟩, _⟩ := node_cells hq
    rw [okN_ok]
    exact bodyPost_ret (v := .tuple #[(.agg #[.int .i64 n.lev, .int .i64 n.lsn, .int .i64 n.rgt, .string n.high, .slice p.k n.keys.length p.kc, .slice p.v n.vals.length p.vc, .slice p.i n.kids.length p.ic]), .int .i64 0]) (by simp [results, Tryz.results97, go_sem, q0, q1, q2, q3, q4, q5, q6]) rfl ⟨p, rfl, h.same fff, fff, .inl rfl⟩
end Go.Proofs.YtnckmajfmkkpgaaGreat
