
/- Copies of pages. -/
import Derived.Test.YtnckmajfmkkpgaaGreatBB32
import Derived.Deep.DeepCutAuto
namespace Go.Proofs.YtnckmajfmkkpgaaGreat
open Go.RowKit Go.Lib

set_option maxRecDepth 100000 in
set_option maxHeartbeats 4000000 in
theorem bk_copied (n : Nd) (p : Pt) (hk : n.keys.length ≤ 100000) (hv : n.vals.length ≤ 100000) (hi : n.kids.length ≤ 100000) (w : World) (h : Nod w n p) : Calls Tryz.prog 16 #[(.agg #[.int .i64 n.lev, .int .i64 n.lsn, .int .i64 n.rgt, .string n.high, .slice p.k n.keys.length p.kc, .slice p.v n.vals.length p.vc, .slice p.i n.kids.length p.ic])] w fun e w' => CpOut n w e w' := by
  have f0 : Fr (fun _ => False) w ((w.alloc (.cells #[.int .i64 n.lev, .int .i64 n.lsn, .int .i64 n.rgt, .string n.high, .slice p.k n.keys.length p.kc, .slice p.v n.vals.length p.vc, .slice p.i n.kids.length p.ic] 28)).alloc (.cells #[.int .i64 0, .int .i64 0, .int .i64 0, .string ⟨#[]⟩, .slice none 0 0, .slice none 0 0, .slice none 0 0] 28)) := ((Fr.refl _ _).alloc _).alloc _
  have HB : Hid (∀ W, Fr (fun _ => False) ((w.alloc (.cells #[.int .i64 n.lev, .int .i64 n.lsn, .int .i64 n.rgt, .string n.high, .slice p.k n.keys.length p.kc, .slice p.v n.vals.length p.vc, .slice p.i n.kids.length p.ic] 28)).alloc (.cells #[.int .i64 0, .int .i64 0, .int .i64 0, .string ⟨#[]⟩, .slice none 0 0, .slice none 0 0, .slice none 0 0] 28)) W → W.cell? ⟨w.heap.size, 0, none⟩ = some (.int .i64 n.lev) ∧ W.cell? ⟨w.heap.size, 1, none⟩ = some (.int .i64 n.lsn) ∧ W.cell? ⟨w.heap.size, 2, none⟩ = some (.int .i64 n.rgt) ∧ W.cell? ⟨w.heap.size, 3, none⟩ = some (.string n.high) ∧ W.cell? ⟨w.heap.size, 4, none⟩ = some (.slice p.k n.keys.length p.kc) ∧ W.cell? ⟨w.heap.size, 5, none⟩ = some (.slice p.v n.vals.length p.vc) ∧ W.cell? ⟨w.heap.size, 6, none⟩ = some (.slice p.i n.kids.length p.ic)) := fun W f => box_cells (box_at w n p 28 (((Fr.refl _ _).alloc _).seq' f))
  have HBB : Hid (∀ W, Fr (fun _ => False) ((w.alloc (.cells #[.int .i64 n.lev, .int .i64 n.lsn, .int .i64 n.rgt, .string n.high, .slice p.k n.keys.length p.kc, .slice p.v n.vals.length p.vc, .slice p.i n.kids.length p.ic] 28)).alloc (.cells #[.int .i64 0, .int .i64 0, .int .i64 0, .string ⟨#[]⟩, .slice none 0 0, .slice none 0 0, .slice none 0 0] 28)) W → W.heap[w.heap.size]? = some (.cells #[.int .i64 n.lev, .int .i64 n.lsn, .int .i64 n.rgt, .string n.high, .slice p.k n.keys.length p.kc, .slice p.v n.vals.length p.vc, .slice p.i n.kids.length p.ic] 28 (0, 0))) := fun W f => box_at w n p 28 (((Fr.refl _ _).alloc _).seq' f)
  have HRB : Hid (∀ W, Fr (fun _ => False) ((w.alloc (.cells #[.int .i64 n.lev, .int .i64 n.lsn, .int .i64 n.rgt, .string n.high, .slice p.k n.keys.length p.kc, .slice p.v n.vals.length p.vc, .slice p.i n.kids.length p.ic] 28)).alloc (.cells #[.int .i64 0, .int .i64 0, .int .i64 0, .string ⟨#[]⟩, .slice none 0 0, .slice none 0 0, .slice none 0 0] 28)) W → W.heap[w.heap.size + 1]? = some (.cells #[.int .i64 0, .int .i64 0, .int .i64 0, .string ⟨#[]⟩, .slice none 0 0, .slice none 0 0, .slice none 0 0] 28 (0, 0))) := fun W f => by
    refine f.blk ?_ (fun f => f)
    have := heap_alloc_new (w.alloc (.cells #[.int .i64 n.lev, .int .i64 n.lsn, .int .i64 n.rgt, .string n.high, .slice p.k n.keys.length p.kc, .slice p.v n.vals.length p.vc, .slice p.i n.kids.length p.ic] 28)) (.cells #[.int .i64 0, .int .i64 0, .int .i64 0, .string ⟨#[]⟩, .slice none 0 0, .slice none 0 0, .slice none 0 0] 28)
    rw [show (w.alloc (.cells #[.int .i64 n.lev, .int .i64 n.lsn, .int .i64 n.rgt, .string n.high, .slice p.k n.keys.length p.kc, .slice p.v n.vals.length p.vc, .slice p.i n.kids.length p.ic] 28)).heap.size = w.heap.size + 1 by simp] at this
    exact this
  have fr0 := (Fr.refl (fun _ => False) ((w.alloc (.cells #[.int .i64 n.lev, .int .i64 n.lsn, .int .i64 n.rgt, .string n.high, .slice p.k n.keys.length p.kc, .slice p.v n.vals.length p.vc, .slice p.i n.kids.length p.ic] 28)).alloc (.cells #[.int .i64 0, .int .i64 0, .int .i64 0, .string ⟨#[]⟩, .slice none 0 0, .slice none 0 0, .slice none 0 0] 28))).drew
  have q0 := HB.out _ fr0
  have hN := h.same (f0.seq' fr0)
  have HKL : Hid (n.keys.length ≤ 100000) := hk
  have HVL : Hid (n.vals.length ≤ 100000) := hv
  have HIL : Hid (n.kids.length ≤ 100000) := hi
  clear hk hv hi
  go_enter Tryz.func16, Tryz.ntmps16
  go_wp2_with fail
  obtain ⟨c0, c1, c2, c3, c4, c5, c6⟩ := q0
  go_region_law
    (first
      | (show (if Region.wanted { dst := some 5, op := .call { callee := .value (.func 29), args := _, argTypes := _ }, type := _, pos := _, after := _, guard := _ } _ = true then _ else _); refine step_of (by rfl) (wp_clS (.tmp 4) _ (by rfl) (by rfl) ?_); rw [Oper.upon_enter]; refine (clone_s p.k n.keys.length p.kc n.keys _ hN.keys rfl HKL.out).mono ?_; rintro en w1 ⟨a1, cc1, rfl, hs1, m1, o1⟩; have fr1 := fr0.seq' m1; obtain ⟨d0, d1, d2, d3, d4, d5, d6⟩ := HB.out _ fr1; have hN1 := h.same (f0.seq' fr1))
      | (show (if Region.wanted { dst := some 8, op := .call { callee := .value (.func 29), args := _, argTypes := _ }, type := _, pos := _, after := _, guard := _ } _ = true then _ else _); refine step_of (by rfl) (wp_clS (.tmp 7) _ (by rfl) (by rfl) ?_); rw [Oper.upon_enter]; refine (clone_s p.v n.vals.length p.vc n.vals _ hN1.vals rfl HVL.out).mono ?_; rintro en w2 ⟨a2, cc2, rfl, hs2, m2, o2⟩; have fr2 := fr1.seq' m2; obtain ⟨e0, e1, e2, e3, e4, e5, e6⟩ := HB.out _ fr2; have hN2 := h.same (f0.seq' fr2))
      | (show (if Region.wanted { dst := some 11, op := .call { callee := .value (.func 30), args := _, argTypes := _ }, type := _, pos := _, after := _, guard := _ } _ = true then _ else _); refine step_of (by rfl) (wp_clI (.tmp 10) _ (by rfl) (by rfl) ?_); rw [Oper.upon_enter]; refine (clone_i p.i n.kids.length p.ic n.kids _ hN2.kids rfl HIL.out).mono ?_; rintro en w3 ⟨a3, cc3, rfl, hs3, m3, o3⟩; have fr3 := fr2.seq' m3; obtain ⟨⟨g0, g1, g2, g3, g4, g5, g6⟩, rz⟩ := node_cells (HBB.out _ fr3); have z4 := rz 4; have z5 := rz 5; have z6 := rz 6))
  all_goals
    have hb3 := HBB.out _ fr3
    have hr3 := HRB.out _ fr3
    have hs1' := hs1.fr (m2.seq' m3) (fun _ _ f => f)
    have hs2' := hs2.fr m3 (fun _ _ f => f)
    have z1 : w.heap.size + 2 ≤ w1.heap.size := by have := fr1.size; simp at this; omega
    have z2 : w1.heap.size ≤ w2.heap.size := m2.size
    have l1 : ∀ g, (Value.slice a1 n.keys.length cc1).ownBlock = some g → w.heap.size + 1 < g ∧ g < w1.heap.size := fun g hg => ⟨by have := o1 g hg; simp at this; omega, hs1.lt hg⟩
    have l2 : ∀ g, (Value.slice a2 n.vals.length cc2).ownBlock = some g → w1.heap.size ≤ g ∧ g < w2.heap.size := fun g hg => ⟨o2 g hg, hs2.lt hg⟩
    have l3 : ∀ g, (Value.slice a3 n.kids.length cc3).ownBlock = some g → w2.heap.size ≤ g := fun g hg => o3 g hg
    have ffB : Fr (fun k => k = w.heap.size) w3 (((w3.setCell ⟨w.heap.size, 4, none⟩ (.slice a1 n.keys.length cc1)).setCell ⟨w.heap.size, 5, none⟩ (.slice a2 n.vals.length cc2)).setCell ⟨w.heap.size, 6, none⟩ (.slice a3 n.kids.length cc3)) := (((Fr.refl (fun k => k = w.heap.size) w3).setCell (p := ⟨w.heap.size, 4, none⟩) (fun _ => rfl) _).setCell (p := ⟨w.heap.size, 5, none⟩) (fun _ => rfl) _).setCell (p := ⟨w.heap.size, 6, none⟩) (fun _ => rfl) _
    have hb4 := node_setCell (j := 6) (node_setCell (j := 5) (node_setCell (j := 4) hb3 (.slice a1 n.keys.length cc1)) (.slice a2 n.vals.length cc2)) (.slice a3 n.kids.length cc3)
    have hr4 := ffB.blk hr3 (by omega)
    have F3 := f0.seq' fr3
    generalize ((w3.setCell ⟨w.heap.size, 4, none⟩ (.slice a1 n.keys.length cc1)).setCell ⟨w.heap.size, 5, none⟩ (.slice a2 n.vals.length cc2)).setCell ⟨w.heap.size, 6, none⟩ (.slice a3 n.kids.length cc3) = W4 at ffB hb4 hr4 ⊢
    obtain ⟨⟨t0, t1, t2, t3, t4, t5, t6⟩, _⟩ := node_cells (c0 := .int .i64 n.lev) (c1 := .int .i64 n.lsn) (c2 := .int .i64 n.rgt) (c3 := .string n.high) (c4 := .slice a1 n.keys.length cc1) (c5 := .slice a2 n.vals.length cc2) (c6 := .slice a3 n.kids.length cc3) hb4
    obtain ⟨⟨s0, s1, s2, s3, s4, s5, s6⟩, sz⟩ := node_cells hr4
    have y0 := sz 0; have y1 := sz 1; have y2 := sz 2; have y3 := sz 3; have y4 := sz 4; have y5 := sz 5; have y6 := sz 6
    clear c0 c1 c2 c3 c4 c5 c6 d0 d1 d2 d3 d4 d5 d6 e0 e1 e2 e3 e4 e5 e6 g0 g1 g2 g3 g4 g5 g6 rz z4 z5 z6 sz hN hN1 hN2
    go_wp2
    obtain ⟨hq, ff⟩ := fin7 hr4 (.int .i64 n.lev) (.int .i64 n.lsn) (.int .i64 n.rgt) (.string n.high) (.slice a1 n.keys.length cc1) (.slice a2 n.vals.length cc2) (.slice a3 n.kids.length cc3)
    have fff := (F3.trans ffB (S := fun _ => False) (fun i hi e => by omega)).trans ff (S := fun _ => False) (fun i hi e => by omega)
    have hsK := (hs1'.fr ffB (fun g hg e => by have := l1 g hg; omega)).fr ff (fun g hg e => by have := l1 g hg; omega)
    have hsV := (hs2'.fr ffB (fun g hg e => by have := l2 g hg; omega)).fr ff (fun g hg e => by have := l2 g hg; omega)
    have hsI := (hs3.fr ffB (fun g hg e => by have := l3 g hg; omega)).fr ff (fun g hg e => by have := l3 g hg; omega)
    generalize ((((((W4.setCell ⟨w.heap.size + 1, 0, none⟩ (.int .i64 n.lev)).setCell ⟨w.heap.size + 1, 1, none⟩ (.int .i64 n.lsn)).setCell ⟨w.heap.size + 1, 2, none⟩ (.int .i64 n.rgt)).setCell ⟨w.heap.size + 1, 3, none⟩ (.string n.high)).setCell ⟨w.heap.size + 1, 4, none⟩ (.slice a1 n.keys.length cc1)).setCell ⟨w.heap.size + 1, 5, none⟩ (.slice a2 n.vals.length cc2)).setCell ⟨w.heap.size + 1, 6, none⟩ (.slice a3 n.kids.length cc3) = Wf at hq fff hsK hsV hsI ⊢
    obtain ⟨⟨q0, q1, q2, q3, q4, q5, q6⟩, _⟩ := node_cells hq
    exact bodyPost_ret (v := .agg #[.int .i64 n.lev, .int .i64 n.lsn, .int .i64 n.rgt, .string n.high, .slice a1 n.keys.length cc1, .slice a2 n.vals.length cc2, .slice a3 n.kids.length cc3]) (by simp [results, Tryz.results16, go_sem, q0, q1, q2, q3, q4, q5, q6]) rfl
      ⟨a1, cc1, a2, cc2, a3, cc3, rfl, hsK, hsV, hsI, (fun g hg => by have := l1 g hg; omega), (fun g hg => by have := l2 g hg; omega), (fun g hg => by have := l3 g hg; omega), (fun g hg e => by have := l1 g hg; have := l2 g e; omega), (fun g hg e => by have := l1 g hg; have := l3 g e; omega), (fun g hg e => by have := l2 g hg; have := l3 g e; omega), fff⟩

set_option maxRecDepth 100000 in
set_option maxHeartbeats 1000000 in
theorem bclone8 (a : Option Addr) (n c : Nat) (ls : List Sl) (w : World) (hr : Slots w a c ls) (hn : n = ls.length) (hs : ls.length ≤ 100000) : Calls Tryz.prog 38 #[.slice a n c] w fun e w' => SvOut w ls e w' := by
  obtain ⟨i0, hi, hz0, hz1, hz2⟩ := info_parts infoSl
  have hq := fun W => Lib.run_eql_slice_nil (P := Tryz.prog) W 47 62 a n c 0 0 Tryz.underlying47
  have hsl : (ls.flatMap slC).length = ls.length * 8 := flat_length slC_length ls
  cases a with
  | none =>
    have hl : ls = [] := by
      rcases hr.at_ with h | ⟨_, _, h, _⟩
      · exact h
      · cases h
    subst hl
    obtain rfl : n = 0 := by simpa using hn
    clear hn hsl hs hr
    go_enter Tryz.func38, Tryz.ntmps38
    go_wp2
    go_ret
    exact ⟨none, 0, rfl, ⟨Has.nil _ _, (fun s hs => by cases hs), (fun s hs => by cases hs)⟩, Fr.refl _ _, fun k hk => by cases hk⟩
  | some x =>
    have HE : Hid (Has (w.alloc (.cells #[] 62)) 8 (.slice (some ⟨w.heap.size, 0, none⟩) 0 0) 0 []) := has_empty w 8 _
    have f1 : Fr (fun _ => False) w (w.alloc (.cells #[] 62)) := (Fr.refl _ _).alloc _
    have hr1 := (hr.same f1).from
    have hnod := hr.nod
    have HN : Hid (n = ls.length) := hn
    have HSL : Hid ((ls.flatMap slC).length = ls.length * 8) := hsl
    have hs' : n ≤ 100000 := by omega
    clear hn hs hsl hr
    go_enter Tryz.func38, Tryz.ntmps38
    go_wp2_with (at_builtin; refine wpList_append_has _ rfl _ _ 47 47 62 62 rfl i0 _ 8 120 Tryz.underlying47 Tryz.underlying47 hi hz0 hz1 hz2 rfl (by omega) (.slice (some ⟨w.heap.size, 0, none⟩) 0 0) 0 [] rfl HE.out (some x) n c (ls.flatMap slC) rfl (by rw [HSL.out, HN.out]) hr1 (slCs_one ls) (by unfold maxLen; omega) (by omega) ?_; intro am cm w2 hown hfr hat)
    go_ret
    rw [Nat.zero_add, List.nil_append] at hown
    rw [Nat.zero_add] at hat
    rw [HN.out] at hown hat
    have F : Fr (fun _ => False) w w2 := f1.above hfr (by
      rintro i ⟨e, _⟩
      simp [Value.ownBlock] at e
      omega)
    have hnew : ∀ k, (Value.slice am ls.length cm).ownBlock = some k → w.heap.size ≤ k := fun k hk => by
      rw [hk] at hat
      rcases hat with e | e <;> simp [Value.ownBlock] at e <;> omega
    exact ⟨am, cm, by rw [← HN.out]; rfl, ⟨hown, fun s hs => (hnod s hs).same F, fun s hs => (hnod s hs).far (fun b hb e => by have := hnew b e; omega)⟩, F, hnew⟩

/-- A node that may be copied. -/
def Smal (n : Nd) : Prop := Short n ∧ n.keys.length ≤ 100000 ∧ n.vals.length ≤ 100000 ∧ n.kids.length ≤ 100000
theorem rt_smal {n : Nd} (h : Rt n) : Smal n := ⟨rt_short3 h, rt_few h⟩
set_option maxRecDepth 100000 in
set_option maxHeartbeats 8000000 in
theorem bcopied_any (a : Option Addr) (n c : Nat) (ls : List Sl) (hn : n = ls.length) (hf : n ≤ 100000) (hs : ∀ s ∈ ls, Smal s.nd) (w : World) (h : Slots w a c ls) :
    Calls Tryz.prog 19 #[.slice a n c] w fun e w' => ∃ b cb lp, e = .returned (.slice b n cb) ∧ n = lp.length ∧ psOf lp = psOf ls ∧ Sv w' (.slice b n cb) lp ∧ Fr (fun _ => False) w w' ∧ ∀ g, (Value.slice b n cb).ownBlock = some g → w.heap.size ≤ g := by
  have hcl := bclone8 a n c ls w h hn (by omega)
  have HN : Hid (n = ls.length) := hn
  have HSM : Hid (∀ p ∈ psOf ls, Smal p.2) := fun p hp => by
    obtain ⟨s, hs', rfl⟩ := List.mem_map.1 hp
    exact hs s hs'
  clear h hn hs
  unfold SvOut at hcl
  go_enter Tryz.func19, Tryz.ntmps19
  go_wp2_with fail
  refine hcl.mono ?_
  rintro e w2 ⟨b, cb, rfl, hsv, f2, hnew⟩
  rw [← HN.out] at hsv hnew ⊢
  have hnc : n ≤ cb ∧ cb ≤ 9223372036854775807 := by
    obtain ⟨a', c', he, h1, h2⟩ := hsv.has.slice
    rw [← HN.out] at he
    simp only [Value.slice.injEq, true_and] at he
    obtain ⟨rfl, rfl⟩ := he
    unfold maxLen at h2
    have := HN.out
    exact ⟨by omega, h2⟩
  have HSV : Hid (Sv w2 (.slice b n cb) ls) := hsv
  have HNW : Hid (∀ k, (Value.slice b n cb).ownBlock = some k → w.heap.size ≤ k) := hnew
  clear hcl hsv hnew
  go_wp2
  go_loopw [8] (fun i wr => ∃ (k : Nat) (lp : List Sl), k ≤ n ∧ i = .int .i64 k ∧ Hid (psOf lp = psOf ls) ∧ Hid (Sv wr (.slice b n cb) lp) ∧ Fr (fun k => (Value.slice b n cb).ownBlock = some k) w2 wr) (fun i _ => n - (RowKit.intOf i).toNat)
  case atStart => exact ⟨0, ls, by omega, rfl, rfl, HSV.out, Fr.refl _ _⟩
  case round =>
    obtain ⟨k, lp, hk, rfl, HP, HS, F⟩ := hrel
    have hln : n = lp.length := by have := congrArg List.length HP.out; rw [ps_length, ps_length] at this; have := HN.out; omega
    by_cases hlt : k < n
    · obtain ⟨s, hs⟩ : ∃ s, lp[k]? = some s := ⟨_, List.getElem?_eq_getElem (by omega)⟩
      obtain ⟨g, c3, e0, hg, _, _, hth, _⟩ := HS.out.has.form (by omega)
      rw [← hln] at e0
      simp only [Value.slice.injEq, true_and] at e0
      obtain ⟨rfl, rfl⟩ := e0
      have HLN : Hid (n = lp.length) := hln
      have hR : Smal s.nd := by
        refine HSM.out (s.page, s.nd) ?_
        rw [← HP.out]
        exact List.mem_map.2 ⟨s, List.mem_of_getElem? hs, rfl⟩
      have hfw := hR.2
      have hcp := bk_copied s.nd s.pt hfw.1 hfw.2.1 hfw.2.2 wr (HS.out.nod s (List.mem_of_getElem? hs))
      have HE : Hid (∀ W, Fr (fun _ => False) wr W → W.rangeAt g (k * 8) (slC s)) := fun W f => by have := (HS.out.same f).has; rw [← HLN.out] at this; exact this.elem slC_length hs
      have HFZ : Hid (∀ W, Fr (fun _ => False) wr W → ∀ j, j < 8 → W.frozen? ⟨g, k * 8 + j, none⟩ = false) := fun W f j hj => by
        obtain ⟨g3, c3, e3, _, _, _, hth, _⟩ := (HS.out.same f).has.form (by have := HLN.out; omega)
        rw [← HLN.out] at e3
        simp only [Value.slice.injEq, Option.some.injEq, Addr.mk.injEq, and_true, true_and] at e3
        obtain ⟨rfl, rfl⟩ := e3
        have := (hth (k * 8 + j) (by have := HLN.out; omega)).2
        rwa [Nat.zero_add] at this
      obtain ⟨q0, q1, q2, q3, q4, q5, q6, q7⟩ := sl_range (HE.out _ (Fr.refl _ wr))
      have HSS : Hid (lp[k]? = some s) := hs
      have hki : (k : Int) < (n : Int) := by omega
      have hncb := hnc.1
      have hcm := hnc.2
      clear hs hth hln hnc
      go_wp2_with fail
      refine hcp.mono ?_
      intro e w3 ho3
      obtain ⟨q, rfl, ndq, hnw, f3⟩ := cp_nod ho3 hR.1 hfw.1 hfw.2.1 hfw.2.2
      clear hcp ho3 q0 q1 q2 q3 q4 q5 q6 q7
      obtain ⟨q0, q1, q2, q3, q4, q5, q6, q7⟩ := sl_range (HE.out _ f3)
      have hfz := HFZ.out _ f3
      have y1 := hfz 1 (by omega); have y2 := hfz 2 (by omega); have y3 := hfz 3 (by omega); have y4 := hfz 4 (by omega); have y5 := hfz 5 (by omega); have y6 := hfz 6 (by omega); have y7 := hfz 7 (by omega)
      have HFIN : Hid (Sv (w3.setCells g (k * 8 + 1) [.int .i64 s.nd.lev, .int .i64 s.nd.lsn, .int .i64 s.nd.rgt, .string s.nd.high, .slice q.k s.nd.keys.length q.kc, .slice q.v s.nd.vals.length q.vc, .slice q.i s.nd.kids.length q.ic]) (.slice (some ⟨g, 0, none⟩) n cb) (lp.set k ⟨s.page, s.nd, q⟩)) := (HS.out.same f3).set HLN.out HSS.out s.nd q ndq (hnw.off (fun b hb e => by omega))
      have HFF : Hid (Fr (fun k => (Value.slice (some ⟨g, 0, none⟩) n cb).ownBlock = some k) w2 (w3.setCells g (k * 8 + 1) [.int .i64 s.nd.lev, .int .i64 s.nd.lsn, .int .i64 s.nd.rgt, .string s.nd.high, .slice q.k s.nd.keys.length q.kc, .slice q.v s.nd.vals.length q.vc, .slice q.i s.nd.kids.length q.ic])) := (F.trans f3 (fun _ _ f => f.elim)).trans (Fr.setCells (S := fun k => k = g) (fun _ => rfl) _ _ (Fr.refl _ w3)) (fun k _ e => by rw [e]; rfl)
      have HPP : Hid (psOf (lp.set k ⟨s.page, s.nd, q⟩) = psOf ls) := by
        show _ = _
        rw [ps_set, ← HP.out]
        unfold psOf
        apply List.ext_getElem?
        intro j
        rw [List.getElem?_set]
        split
        · rename_i hj
          subst hj
          rw [if_pos (by have := HLN.out; simp; omega), List.getElem?_map, HSS.out]
          rfl
        · rfl
      clear hfz ndq hnw
      go_wp2
      go_roundw
      case rel => exact ⟨k + 1, lp.set k ⟨s.page, s.nd, q⟩, by omega, by go_num, HPP, HFIN, HFF.out⟩
      case measure => simp [RowKit.intOf]; omega
    · obtain rfl : k = n := by omega
      have HF : Hid (Fr (fun _ => False) w wr) := f2.trans F (fun i hi e => by have := HNW.out i e; omega)
      have HLN : Hid (k = lp.length) := hln
      clear hln F f2 hnc HSV
      go_wp2
      go_ret
      exact ⟨b, cb, lp, rfl, HLN.out, HP.out, HS.out, HF.out, HNW.out⟩
end Go.Proofs.YtnckmajfmkkpgaaGreat
