
/- BkWith, BkNil. -/
import Derived.Test.YtnckmajfmkkpgaaGreatBkOf
/- Pages with a page's node, where the page is there. -/
namespace Go.Proofs.YtnckmajfmkkpgaaGreat
open Go.RowKit

set_option maxRecDepth 100000 in
set_option maxHeartbeats 4000000 in
theorem bwith_yes (a : Option Addr) (n c : Nat) (lp : List Sl) (x : Int) (m : Nd) (q : Pt) (hn : n = lp.length) (hf : lp.length ≤ 10000) (hr : Rise lp) (hb : hasB lp x = true) (w : World) (h : Sv w (.slice a n c) lp) (hm : Nod w m q) (ho : Off (fun k => (Value.slice a n c).ownBlock = some k) m q) :
    Calls Tryz.prog 36 #[.slice a n c, .int .i64 x, (.agg #[.int .i64 m.lev, .int .i64 m.lsn, .int .i64 m.rgt, .string m.high, .slice q.k m.keys.length q.kc, .slice q.v m.vals.length q.vc, .slice q.i m.kids.length q.ic])] w fun e w' => e = .returned (.slice a n c) ∧ Sv w' (.slice a n c) (lp.set (ahead lp x) ⟨x, m, q⟩) ∧ Fr (fun k => (Value.slice a n c).ownBlock = some k) w w' := by
  obtain ⟨s, hs, hsx⟩ := has_some hb
  have hlt := (List.getElem?_eq_some_iff.1 hs).1
  obtain ⟨g, cap, hv, hg, hnc, hcm, hth, _⟩ := h.has.form (by omega)
  have hn' := hn
  rw [hn] at hv
  simp only [Value.slice.injEq, true_and] at hv
  obtain ⟨rfl, rfl⟩ := hv
  have f0 := Fr.box w (.cells #[.int .i64 m.lev, .int .i64 m.lsn, .int .i64 m.rgt, .string m.high, .slice q.k m.keys.length q.kc, .slice q.v m.vals.length q.vc, .slice q.i m.kids.length q.ic] 28)
  have hsv := h.same f0
  have hpl := bplace_any (some ⟨g, 0, none⟩) n c lp hn (by omega) hr x _ (hsv.slots hn)
  rw [hb] at hpl
  obtain ⟨i, hi⟩ : ∃ i, i = ahead lp x := ⟨_, rfl⟩
  rw [← hi] at hs hlt hpl ⊢
  have HB : Hid (∀ W, Fr (fun _ => False) (w.alloc (.cells #[.int .i64 m.lev, .int .i64 m.lsn, .int .i64 m.rgt, .string m.high, .slice q.k m.keys.length q.kc, .slice q.v m.vals.length q.vc, .slice q.i m.kids.length q.ic] 28)) W → W.heap[w.heap.size]? = some (.cells #[.int .i64 m.lev, .int .i64 m.lsn, .int .i64 m.rgt, .string m.high, .slice q.k m.keys.length q.kc, .slice q.v m.vals.length q.vc, .slice q.i m.kids.length q.ic] 28 (0, 0))) := fun W f => f.blk (heap_alloc_new w _) (fun f => f)
  have HSV : Hid (∀ W, Fr (fun _ => False) (w.alloc (.cells #[.int .i64 m.lev, .int .i64 m.lsn, .int .i64 m.rgt, .string m.high, .slice q.k m.keys.length q.kc, .slice q.v m.vals.length q.vc, .slice q.i m.kids.length q.ic] 28)) W → Sv W (.slice (some ⟨g, 0, none⟩) n c) lp) := fun W f => hsv.same f
  have HND : Hid (∀ W, Fr (fun _ => False) (w.alloc (.cells #[.int .i64 m.lev, .int .i64 m.lsn, .int .i64 m.rgt, .string m.high, .slice q.k m.keys.length q.kc, .slice q.v m.vals.length q.vc, .slice q.i m.kids.length q.ic] 28)) W → Nod W m q) := fun W f => (hm.same f0).same f
  have HOF : Hid (Off (fun k => k = g) m q) := by
    obtain ⟨h1, h2, h3⟩ := ho
    exact ⟨h1.imp id (fun hx b o e f => hx b o e (by rw [f]; rfl)), h2.imp id (fun hx b o e f => hx b o e (by rw [f]; rfl)), h3.imp id (fun hx b o e f => hx b o e (by rw [f]; rfl))⟩
  have HN : Hid (n = lp.length) := hn
  have HSS : Hid (lp[i]? = some s ∧ s.page = x) := ⟨hs, hsx⟩
  have HF0 : Hid (Fr (fun _ => False) w (w.alloc (.cells #[.int .i64 m.lev, .int .i64 m.lsn, .int .i64 m.rgt, .string m.high, .slice q.k m.keys.length q.kc, .slice q.v m.vals.length q.vc, .slice q.i m.kids.length q.ic] 28))) := f0
  have hki : (i : Int) < (n : Int) := by omega
  have hncb : n ≤ c := by rw [hn]; exact hnc
  have hcx : c ≤ 9223372036854775807 := by unfold maxLen at hcm; exact hcm
  clear h hm ho hr hb hs hsx hth hn hn' hnc hcm hi hsv f0 hlt
  go_enter Tryz.func36, Tryz.ntmps36
  go_wp2_with fail
  refine hpl.mono ?_
  rintro e w1 ⟨rfl, f1⟩
  obtain ⟨c0, c1, c2, c3, c4, c5, c6⟩ := box_cells (HB.out _ f1)
  have hS1 := HSV.out _ f1
  have hel : w1.rangeAt g (i * 8) (slC s) := by have := hS1.has; rw [HN.out] at this; exact this.elem slC_length HSS.out.1
  obtain ⟨q0, q1, q2, q3, q4, q5, q6, q7⟩ := sl_range hel
  have hfz : ∀ j, j < 8 → w1.frozen? ⟨g, i * 8 + j, none⟩ = false := fun j hj => by
    obtain ⟨g3, c3, e3, _, _, _, hth, _⟩ := hS1.has.form (by have := HN.out; omega)
    rw [HN.out] at e3
    simp only [Value.slice.injEq, Option.some.injEq, Addr.mk.injEq, and_true, true_and] at e3
    obtain ⟨rfl, rfl⟩ := e3
    have := (hth (i * 8 + j) (by have := HN.out; omega)).2
    rwa [Nat.zero_add] at this
  have y1 := hfz 1 (by omega); have y2 := hfz 2 (by omega); have y3 := hfz 3 (by omega); have y4 := hfz 4 (by omega); have y5 := hfz 5 (by omega); have y6 := hfz 6 (by omega); have y7 := hfz 7 (by omega)
  have HFIN : Hid (Sv (w1.setCells g (i * 8 + 1) [.int .i64 m.lev, .int .i64 m.lsn, .int .i64 m.rgt, .string m.high, .slice q.k m.keys.length q.kc, .slice q.v m.vals.length q.vc, .slice q.i m.kids.length q.ic]) (.slice (some ⟨g, 0, none⟩) n c) (lp.set i ⟨x, m, q⟩)) := by
    have := hS1.set HN.out HSS.out.1 m q (HND.out _ f1) HOF.out
    rw [HSS.out.2] at this
    exact this
  have HFF : Hid (Fr (fun k => (Value.slice (some ⟨g, 0, none⟩) n c).ownBlock = some k) w (w1.setCells g (i * 8 + 1) [.int .i64 m.lev, .int .i64 m.lsn, .int .i64 m.rgt, .string m.high, .slice q.k m.keys.length q.kc, .slice q.v m.vals.length q.vc, .slice q.i m.kids.length q.ic])) := ((HF0.out.seq' f1).widen (fun _ f => f.elim)).trans (Fr.setCells (S := fun k => k = g) (fun _ => rfl) _ _ (Fr.refl _ w1)) (fun k _ e => by rw [e]; rfl)
  clear hpl hS1 hel hfz
  go_wp2
  go_ret
  exact ⟨rfl, HFIN.out, HFF.out⟩
end Go.Proofs.YtnckmajfmkkpgaaGreat

/- A nil tree: do, Say, Pages, Page, Scan. -/
namespace Go.Proofs.YtnckmajfmkkpgaaGreat
open Go.RowKit

/-- What a tree that takes no records tells of one. -/
def refE (r : Rec) : Int := if erec r = 0 then 6 else erec r
theorem refE_no (r : Rec) : refE r ≠ 0 := by unfold refE; split <;> omega
theorem erec_two (r : Rec) : erec r = 0 ∨ erec r = 90 := by
  cases h : rok r
  · exact .inr (erec_no h)
  · exact .inl (erec_yes h)
set_option maxRecDepth 100000 in
set_option maxHeartbeats 1000000 in
theorem refusal_any (r : Rec) (w : World) : Calls Tryz.prog 34 #[(.agg #[.int .i64 r.lsn, .int .i64 r.ep, .int .i64 r.kind, .int .i64 r.page, .int .i64 r.other, .int .i64 r.req, .string r.key, .string r.val])] w fun e w' => e = .returned (.int .i64 (refE r)) ∧ Fr (fun _ => False) w w' := by
  have hc := fun W => rec_check r W
  have f0 := Fr.box w (.cells #[.int .i64 r.lsn, .int .i64 r.ep, .int .i64 r.kind, .int .i64 r.page, .int .i64 r.other, .int .i64 r.req, .string r.key, .string r.val] 35)
  rcases erec_two r with h | h
  · have he : Hid (refE r = 6) := by show _ = _; unfold refE; rw [if_pos h]
    rw [h] at hc
    clear h
    go_enter Tryz.func34, Tryz.ntmps34
    go_wp2_with (first | (go_at_call 52; refine (hc _).mono ?_; rintro e w1 ⟨rfl, f1⟩))
    go_ret
    exact ⟨by rw [he.out]; rfl, f0.seq' f1⟩
  · have he : Hid (refE r = 90) := by show _ = _; unfold refE; rw [h]; rfl
    rw [h] at hc
    clear h
    go_enter Tryz.func34, Tryz.ntmps34
    go_wp2_with (first | (go_at_call 52; refine (hc _).mono ?_; rintro e w1 ⟨rfl, f1⟩))
    go_ret
    exact ⟨by rw [he.out]; rfl, f0.seq' f1⟩
set_option maxRecDepth 100000 in
set_option maxHeartbeats 1000000 in
theorem do_none (r : Rec) (w : World) : Calls Tryz.prog 18 #[.pointer none, (.agg #[.int .i64 r.lsn, .int .i64 r.ep, .int .i64 r.kind, .int .i64 r.page, .int .i64 r.other, .int .i64 r.req, .string r.key, .string r.val])] w fun e w' => e = .returned (.int .i64 (refE r)) ∧ Fr (fun _ => False) w w' := by
  have hc := fun W => refusal_any r W
  have f0 := Fr.box w (.cells #[.int .i64 r.lsn, .int .i64 r.ep, .int .i64 r.kind, .int .i64 r.page, .int .i64 r.other, .int .i64 r.req, .string r.key, .string r.val] 35)
  go_enter Tryz.func18, Tryz.ntmps18
  go_wp2_with (first | (go_at_call 34; refine (hc _).mono ?_; rintro e w1 ⟨rfl, f1⟩))
  go_ret
  exact ⟨rfl, f0.seq' f1⟩
theorem pages_none (w : World) : Calls Tryz.prog 8 #[.pointer none] w fun e w' => ∃ b c, e = .returned (.slice b 0 c) ∧ Fr (fun _ => False) w w' := by
  have ha := all_none w
  have hc := fun W => bcopied_any none 0 0 [] rfl (by omega) (fun s hs => by cases hs) W ⟨Nat.le_refl _, by omega, .inl rfl, fun s hs => by cases hs⟩
  go_enter Tryz.func8, Tryz.ntmps8
  go_wp2_with fail
  refine ha.mono ?_
  rintro e w1 ⟨rfl, f1⟩
  go_wp2_with fail
  refine (hc _).mono ?_
  rintro e w2 ⟨b, cb, lp, rfl, h1, h2, h3, f2, h4⟩
  clear h1 h2 h3 h4
  go_wp2
  go_ret
  exact ⟨b, cb, rfl, f1.seq' f2⟩

set_option maxRecDepth 100000 in
set_option maxHeartbeats 2000000 in
theorem page_none (i : Int) (w : World) : Calls Tryz.prog 5 #[.pointer none, .int .i64 i] w fun e w' => ∃ ak ck av cv ai ci, e = .returned (.tuple #[.agg #[.int .i64 0, .int .i64 0, .int .i64 0, .string ⟨#[]⟩, .slice ak 0 ck, .slice av 0 cv, .slice ai 0 ci], .bool false]) ∧ Fr (fun _ => False) w w' := by
  have f0 := Fr.box w (.cells #[.int .i64 0, .int .i64 0, .int .i64 0, .string ⟨#[]⟩, .slice none 0 0, .slice none 0 0, .slice none 0 0] 28)
  have ha := all_none (w.alloc (.cells #[.int .i64 0, .int .i64 0, .int .i64 0, .string ⟨#[]⟩, .slice none 0 0, .slice none 0 0, .slice none 0 0] 28))
  have hc := fun W => bfind_any none 0 0 [] rfl (by simp) (by intro i j; simp) i W ⟨Nat.le_refl _, by omega, .inl rfl, fun s hs => by cases hs⟩
  have hcp := fun W => bk_copied zn zp (by decide) (by decide) (by decide) W (zn_nod W)
  go_enter Tryz.func5, Tryz.ntmps5
  go_wp2_with fail
  refine ha.mono ?_
  rintro e w1 ⟨rfl, f1⟩
  go_wp2_with fail
  refine (hc _).mono ?_
  rintro e w2 ⟨f2, ⟨s, hs, _⟩ | ⟨_, rfl⟩⟩
  · cases hs
  have fb := Fr.box w2 (.cells #[.int .i64 0, .int .i64 0, .int .i64 0, .string ⟨#[]⟩, .slice none 0 0, .slice none 0 0, .slice none 0 0] 28)
  have HR : Hid (∀ W, Fr (fun _ => False) (w.alloc (.cells #[.int .i64 0, .int .i64 0, .int .i64 0, .string ⟨#[]⟩, .slice none 0 0, .slice none 0 0, .slice none 0 0] 28)) W → W.heap[w.heap.size]? = some (.cells #[.int .i64 0, .int .i64 0, .int .i64 0, .string ⟨#[]⟩, .slice none 0 0, .slice none 0 0, .slice none 0 0] 28 (0, 0))) := fun W f => f.blk (heap_alloc_new w _) (fun f => f)
  go_wp2_with fail
  refine (hcp _).mono ?_
  rintro e w4 ⟨ak, ck, av, cv, ai, ci, rfl, _, _, _, _, _, _, _, _, _, f4⟩
  have F4 := ((f1.seq' f2).seq' fb).seq' f4
  have hr4 := HR.out _ F4
  obtain ⟨hq, ff⟩ := fin7 hr4 (.int .i64 0) (.int .i64 0) (.int .i64 0) (.string ⟨#[]⟩) (.slice ak 0 ck) (.slice av 0 cv) (.slice ai 0 ci)
  obtain ⟨⟨s0, s1, s2, s3, s4, s5, s6⟩, sz⟩ := node_cells hr4
  have y0 := sz 0; have y1 := sz 1; have y2 := sz 2; have y3 := sz 3; have y4 := sz 4; have y5 := sz 5; have y6 := sz 6
  have fff := (f0.seq' F4).trans ff (S := fun _ => False) (fun i hi e => by omega)
  clear sz hc hcp ha
  simp only [zn, List.length_nil]
  go_wp2
  generalize ((((((w4.setCell ⟨w.heap.size, 0, none⟩ (.int .i64 0)).setCell ⟨w.heap.size, 1, none⟩ (.int .i64 0)).setCell ⟨w.heap.size, 2, none⟩ (.int .i64 0)).setCell ⟨w.heap.size, 3, none⟩ (.string ⟨#[]⟩)).setCell ⟨w.heap.size, 4, none⟩ (.slice ak 0 ck)).setCell ⟨w.heap.size, 5, none⟩ (.slice av 0 cv)).setCell ⟨w.heap.size, 6, none⟩ (.slice ai 0 ci) = Wf at hq ff fff ⊢
  obtain ⟨⟨q0, q1, q2, q3, q4, q5, q6⟩, _⟩ := node_cells hq
  exact bodyPost_ret (v := .tuple #[.agg #[.int .i64 0, .int .i64 0, .int .i64 0, .string ⟨#[]⟩, .slice ak 0 ck, .slice av 0 cv, .slice ai 0 ci], .bool false]) (by simp [results, Tryz.results5, go_sem, q0, q1, q2, q3, q4, q5, q6]) rfl ⟨_, _, _, _, _, _, rfl, fff⟩
theorem cells_set {W : World} {B : Nat} {cs : Array Value} {t : TypeId} (h : W.heap[B]? = some (.cells cs t (0, 0))) (j : Nat) (v : Value) : (W.setCell ⟨B, j, none⟩ v).heap[B]? = some (.cells (cs.setIfInBounds j v) t (0, 0)) := by
  obtain ⟨hlt, he⟩ := Array.getElem?_eq_some_iff.1 h
  show (W.heap.modify B _)[B]? = _
  rw [Array.getElem?_eq_getElem (by rw [Array.size_modify]; exact hlt), Array.getElem_modify_self, he]
  rfl
theorem fin8 {W : World} {B : Nat} {t : TypeId} {r0 r1 r2 r3 r4 r5 r6 r7 : Value} (h : W.heap[B]? = some (.cells #[r0, r1, r2, r3, r4, r5, r6, r7] t (0, 0))) (v0 v1 v2 v3 v4 v5 v6 v7 : Value) :
    ((((((((W.setCell ⟨B, 0, none⟩ v0).setCell ⟨B, 1, none⟩ v1).setCell ⟨B, 2, none⟩ v2).setCell ⟨B, 3, none⟩ v3).setCell ⟨B, 4, none⟩ v4).setCell ⟨B, 5, none⟩ v5).setCell ⟨B, 6, none⟩ v6).setCell ⟨B, 7, none⟩ v7).heap[B]? = some (.cells #[v0, v1, v2, v3, v4, v5, v6, v7] t (0, 0)) ∧ Fr (fun k => k = B) W ((((((((W.setCell ⟨B, 0, none⟩ v0).setCell ⟨B, 1, none⟩ v1).setCell ⟨B, 2, none⟩ v2).setCell ⟨B, 3, none⟩ v3).setCell ⟨B, 4, none⟩ v4).setCell ⟨B, 5, none⟩ v5).setCell ⟨B, 6, none⟩ v6).setCell ⟨B, 7, none⟩ v7) := by
  refine ⟨?_, (((((((((Fr.refl (fun k => k = B) W).setCell (p := ⟨B, 0, none⟩) (fun _ => rfl) v0).setCell (p := ⟨B, 1, none⟩) (fun _ => rfl) v1).setCell (p := ⟨B, 2, none⟩) (fun _ => rfl) v2).setCell (p := ⟨B, 3, none⟩) (fun _ => rfl) v3).setCell (p := ⟨B, 4, none⟩) (fun _ => rfl) v4).setCell (p := ⟨B, 5, none⟩) (fun _ => rfl) v5).setCell (p := ⟨B, 6, none⟩) (fun _ => rfl) v6).setCell (p := ⟨B, 7, none⟩) (fun _ => rfl) v7)⟩
  have h0 : (W.setCell ⟨B, 0, none⟩ v0).heap[B]? = some (.cells #[v0, r1, r2, r3, r4, r5, r6, r7] t (0, 0)) := cells_set h 0 v0
  have h1 : ((W.setCell ⟨B, 0, none⟩ v0).setCell ⟨B, 1, none⟩ v1).heap[B]? = some (.cells #[v0, v1, r2, r3, r4, r5, r6, r7] t (0, 0)) := cells_set h0 1 v1
  have h2 : (((W.setCell ⟨B, 0, none⟩ v0).setCell ⟨B, 1, none⟩ v1).setCell ⟨B, 2, none⟩ v2).heap[B]? = some (.cells #[v0, v1, v2, r3, r4, r5, r6, r7] t (0, 0)) := cells_set h1 2 v2
  have h3 : ((((W.setCell ⟨B, 0, none⟩ v0).setCell ⟨B, 1, none⟩ v1).setCell ⟨B, 2, none⟩ v2).setCell ⟨B, 3, none⟩ v3).heap[B]? = some (.cells #[v0, v1, v2, v3, r4, r5, r6, r7] t (0, 0)) := cells_set h2 3 v3
  have h4 : (((((W.setCell ⟨B, 0, none⟩ v0).setCell ⟨B, 1, none⟩ v1).setCell ⟨B, 2, none⟩ v2).setCell ⟨B, 3, none⟩ v3).setCell ⟨B, 4, none⟩ v4).heap[B]? = some (.cells #[v0, v1, v2, v3, v4, r5, r6, r7] t (0, 0)) := cells_set h3 4 v4
  have h5 : ((((((W.setCell ⟨B, 0, none⟩ v0).setCell ⟨B, 1, none⟩ v1).setCell ⟨B, 2, none⟩ v2).setCell ⟨B, 3, none⟩ v3).setCell ⟨B, 4, none⟩ v4).setCell ⟨B, 5, none⟩ v5).heap[B]? = some (.cells #[v0, v1, v2, v3, v4, v5, r6, r7] t (0, 0)) := cells_set h4 5 v5
  have h6 : (((((((W.setCell ⟨B, 0, none⟩ v0).setCell ⟨B, 1, none⟩ v1).setCell ⟨B, 2, none⟩ v2).setCell ⟨B, 3, none⟩ v3).setCell ⟨B, 4, none⟩ v4).setCell ⟨B, 5, none⟩ v5).setCell ⟨B, 6, none⟩ v6).heap[B]? = some (.cells #[v0, v1, v2, v3, v4, v5, v6, r7] t (0, 0)) := cells_set h5 6 v6
  have h7 : ((((((((W.setCell ⟨B, 0, none⟩ v0).setCell ⟨B, 1, none⟩ v1).setCell ⟨B, 2, none⟩ v2).setCell ⟨B, 3, none⟩ v3).setCell ⟨B, 4, none⟩ v4).setCell ⟨B, 5, none⟩ v5).setCell ⟨B, 6, none⟩ v6).setCell ⟨B, 7, none⟩ v7).heap[B]? = some (.cells #[v0, v1, v2, v3, v4, v5, v6, v7] t (0, 0)) := cells_set h6 7 v7
  exact h7
theorem rec_set0 {w : World} {b : Nat} {c0 c1 c2 c3 c4 c5 c6 c7 x : Value} {t : TypeId} (h : w.heap[b]? = some (.cells #[c0, c1, c2, c3, c4, c5, c6, c7] t (0, 0))) : (w.setCell ⟨b, 0, none⟩ x).heap[b]? = some (.cells #[x, c1, c2, c3, c4, c5, c6, c7] t (0, 0)) := by
  obtain ⟨hlt, he⟩ := Array.getElem?_eq_some_iff.1 h
  show (w.heap.modify b _)[b]? = _
  rw [Array.getElem?_eq_getElem (by rw [Array.size_modify]; exact hlt), Array.getElem_modify_self, he]
  rfl
set_option maxRecDepth 100000 in
set_option maxHeartbeats 2000000 in
theorem say_none (r : Rec) (w : World) : Calls Tryz.prog 7 #[.pointer none, (.agg #[.int .i64 r.lsn, .int .i64 r.ep, .int .i64 r.kind, .int .i64 r.page, .int .i64 r.other, .int .i64 r.req, .string r.key, .string r.val])] w fun e w' => e = .returned (.tuple #[.agg #[.int .i64 0, .int .i64 0, .int .i64 0, .int .i64 0, .int .i64 0, .int .i64 0, .string ⟨#[]⟩, .string ⟨#[]⟩], .int .i64 (refE ⟨1, r.ep, r.kind, r.page, r.other, r.req, r.key, r.val⟩)]) ∧ Fr (fun _ => False) w w' := by
  have f0 := (Fr.box w (.cells #[.int .i64 r.lsn, .int .i64 r.ep, .int .i64 r.kind, .int .i64 r.page, .int .i64 r.other, .int .i64 r.req, .string r.key, .string r.val] 35)).alloc (.cells #[.int .i64 0, .int .i64 0, .int .i64 0, .int .i64 0, .int .i64 0, .int .i64 0, .string ⟨#[]⟩, .string ⟨#[]⟩] 35)
  have ha := last_none ((w.alloc (.cells #[.int .i64 r.lsn, .int .i64 r.ep, .int .i64 r.kind, .int .i64 r.page, .int .i64 r.other, .int .i64 r.req, .string r.key, .string r.val] 35)).alloc (.cells #[.int .i64 0, .int .i64 0, .int .i64 0, .int .i64 0, .int .i64 0, .int .i64 0, .string ⟨#[]⟩, .string ⟨#[]⟩] 35))
  have hd := fun W => do_none ⟨1, r.ep, r.kind, r.page, r.other, r.req, r.key, r.val⟩ W
  have HB0 : Hid (∀ W, Fr (fun _ => False) ((w.alloc (.cells #[.int .i64 r.lsn, .int .i64 r.ep, .int .i64 r.kind, .int .i64 r.page, .int .i64 r.other, .int .i64 r.req, .string r.key, .string r.val] 35)).alloc (.cells #[.int .i64 0, .int .i64 0, .int .i64 0, .int .i64 0, .int .i64 0, .int .i64 0, .string ⟨#[]⟩, .string ⟨#[]⟩] 35)) W → W.heap[w.heap.size]? = some (.cells #[.int .i64 r.lsn, .int .i64 r.ep, .int .i64 r.kind, .int .i64 r.page, .int .i64 r.other, .int .i64 r.req, .string r.key, .string r.val] 35 (0, 0)) ∧ W.heap[w.heap.size + 1]? = some (.cells #[.int .i64 0, .int .i64 0, .int .i64 0, .int .i64 0, .int .i64 0, .int .i64 0, .string ⟨#[]⟩, .string ⟨#[]⟩] 35 (0, 0))) := fun W f => by
    refine ⟨(((Fr.refl (fun _ => False) _).alloc _).seq' f).blk (heap_alloc_new w _) (fun f => f), ?_⟩
    have := f.blk (heap_alloc_new (w.alloc (.cells #[.int .i64 r.lsn, .int .i64 r.ep, .int .i64 r.kind, .int .i64 r.page, .int .i64 r.other, .int .i64 r.req, .string r.key, .string r.val] 35)) (.cells #[.int .i64 0, .int .i64 0, .int .i64 0, .int .i64 0, .int .i64 0, .int .i64 0, .string ⟨#[]⟩, .string ⟨#[]⟩] 35)) (fun f => f)
    rw [show (w.alloc (.cells #[.int .i64 r.lsn, .int .i64 r.ep, .int .i64 r.kind, .int .i64 r.page, .int .i64 r.other, .int .i64 r.req, .string r.key, .string r.val] 35)).heap.size = w.heap.size + 1 by simp] at this
    exact this
  have hne := refE_no ⟨1, r.ep, r.kind, r.page, r.other, r.req, r.key, r.val⟩
  generalize refE ⟨1, r.ep, r.kind, r.page, r.other, r.req, r.key, r.val⟩ = x at *
  go_enter Tryz.func7, Tryz.ntmps7
  go_wp2_with fail
  refine ha.mono ?_
  rintro e w1 ⟨rfl, f1⟩
  have hx1 := HB0.out _ f1
  have hx2 := rec_set0 (x := .int .i64 1) hx1.1
  have g2 : Fr (fun k => k = w.heap.size) w1 (w1.setCell ⟨w.heap.size, 0, none⟩ (.int .i64 1)) := (Fr.refl (fun k => k = w.heap.size) w1).setCell (p := ⟨w.heap.size, 0, none⟩) (fun _ => rfl) _
  have hy2 := g2.blk hx1.2 (by omega)
  have F2 := (f0.seq' f1).trans g2 (S := fun _ => False) (fun i hi e => by omega)
  obtain ⟨⟨a0, a1, a2, a3, a4, a5, a6, a7⟩, za⟩ := rec_cells hx1.1
  obtain ⟨⟨b0, b1, b2, b3, b4, b5, b6, b7⟩, zb⟩ := rec_cells hx2
  have za0 := za 0
  clear hx1 za
  go_upto_region 2 with fail
  generalize w1.setCell ⟨w.heap.size, 0, none⟩ (.int .i64 1) = W2 at *
  clear a0 a1 a2 a3 a4 a5 a6 a7 za0 g2
  go_wp2_with fail
  refine (hd _).mono ?_
  rintro e w3 ⟨rfl, f3⟩
  have hy3 := f3.blk hy2 (fun f => f)
  have F3 := F2.seq' f3
  have hb : (x != 0) = true := by simpa using hne
  obtain ⟨⟨z0, z1, z2, z3, z4, z5, z6, z7⟩, zz⟩ := rec_cells hy3
  have x0 := zz 0; have x1 := zz 1; have x2 := zz 2; have x3 := zz 3; have x4 := zz 4; have x5 := zz 5; have x6 := zz 6; have x7 := zz 7
  clear zz b0 b1 b2 b3 b4 b5 b6 b7 zb hd ha hne
  go_wp2
  obtain ⟨hq, ff⟩ := fin8 hy3 (.int .i64 0) (.int .i64 0) (.int .i64 0) (.int .i64 0) (.int .i64 0) (.int .i64 0) (.string ⟨#[]⟩) (.string ⟨#[]⟩)
  have fff := F3.trans ff (S := fun _ => False) (fun i hi e => by omega)
  generalize ((((((((w3.setCell ⟨w.heap.size + 1, 0, none⟩ (.int .i64 0)).setCell ⟨w.heap.size + 1, 1, none⟩ (.int .i64 0)).setCell ⟨w.heap.size + 1, 2, none⟩ (.int .i64 0)).setCell ⟨w.heap.size + 1, 3, none⟩ (.int .i64 0)).setCell ⟨w.heap.size + 1, 4, none⟩ (.int .i64 0)).setCell ⟨w.heap.size + 1, 5, none⟩ (.int .i64 0)).setCell ⟨w.heap.size + 1, 6, none⟩ (.string ⟨#[]⟩)).setCell ⟨w.heap.size + 1, 7, none⟩ (.string ⟨#[]⟩)) = Wf at hq fff ⊢
  obtain ⟨⟨q0, q1, q2, q3, q4, q5, q6, q7⟩, _⟩ := rec_cells hq
  exact bodyPost_ret (v := .tuple #[.agg #[.int .i64 0, .int .i64 0, .int .i64 0, .int .i64 0, .int .i64 0, .int .i64 0, .string ⟨#[]⟩, .string ⟨#[]⟩], .int .i64 x]) (by simp [results, Tryz.results7, go_sem, q0, q1, q2, q3, q4, q5, q6, q7]) rfl ⟨rfl, fff⟩
end Go.Proofs.YtnckmajfmkkpgaaGreat
