
/- Pages with a page's node, where the page is there. -/
import Derived.Test.YtlnkbjjohdmihaaGreatBkOf
namespace Go.Proofs.YtlnkbjjohdmihaaGreat
open Go.RowKit

set_option maxRecDepth 100000 in
set_option maxHeartbeats 4000000 in
theorem bwith_yes (a : Option Addr) (n c : Nat) (lp : List Sl) (x : Int) (m : Nd) (q : Pt) (hn : n = lp.length) (hf : lp.length ≤ 10000) (hr : Rise lp) (hb : hasB lp x = true) (w : World) (h : Sv w (.slice a n c) lp) (hm : Nod w m q) (ho : Off (fun k => (Value.slice a n c).ownBlock = some k) m q) :
    Calls Tryz.prog 49 #[.slice a n c, .int .i64 x, (.agg #[.int .i64 m.lev, .int .i64 m.lsn, .int .i64 m.rgt, .string m.high, .slice q.k m.keys.length q.kc, .slice q.v m.vals.length q.vc, .slice q.i m.kids.length q.ic])] w fun e w' => e = .returned (.slice a n c) ∧ Sv w' (.slice a n c) (lp.set (ahead lp x) ⟨x, m, q⟩) ∧ Fr (fun k => (Value.slice a n c).ownBlock = some k) w w' := by
  obtain ⟨s, hs, hsx⟩ := has_some hb
  have hlt := (List.getElem?_eq_some_iff.1 hs).1
  obtain ⟨g, cap, hv, hg, hnc, hcm, hth, _⟩ := h.has.form (by omega)
  have hn' := hn
  rw [hn] at hv
  simp only [Value.slice.injEq, true_and] at hv
  obtain ⟨rfl, rfl⟩ := hv
  have f0 := Fr.box w (.cells #[.int .i64 m.lev, .int .i64 m.lsn, .int .i64 m.rgt, .string m.high, .slice q.k m.keys.length q.kc, .slice q.v m.vals.length q.vc, .slice q.i m.kids.length q.ic] 55)
  have hsv := h.same f0
  have hpl := bplace_any (some ⟨g, 0, none⟩) n c lp hn (by omega) hr x _ (hsv.slots hn)
  rw [hb] at hpl
  obtain ⟨i, hi⟩ : ∃ i, i = ahead lp x := ⟨_, rfl⟩
  rw [← hi] at hs hlt hpl ⊢
  have HB : Hid (∀ W, Fr (fun _ => False) (w.alloc (.cells #[.int .i64 m.lev, .int .i64 m.lsn, .int .i64 m.rgt, .string m.high, .slice q.k m.keys.length q.kc, .slice q.v m.vals.length q.vc, .slice q.i m.kids.length q.ic] 55)) W → W.heap[w.heap.size]? = some (.cells #[.int .i64 m.lev, .int .i64 m.lsn, .int .i64 m.rgt, .string m.high, .slice q.k m.keys.length q.kc, .slice q.v m.vals.length q.vc, .slice q.i m.kids.length q.ic] 55 (0, 0))) := fun W f => f.blk (heap_alloc_new w _) (fun f => f)
  have HSV : Hid (∀ W, Fr (fun _ => False) (w.alloc (.cells #[.int .i64 m.lev, .int .i64 m.lsn, .int .i64 m.rgt, .string m.high, .slice q.k m.keys.length q.kc, .slice q.v m.vals.length q.vc, .slice q.i m.kids.length q.ic] 55)) W → Sv W (.slice (some ⟨g, 0, none⟩) n c) lp) := fun W f => hsv.same f
  have HND : Hid (∀ W, Fr (fun _ => False) (w.alloc (.cells #[.int .i64 m.lev, .int .i64 m.lsn, .int .i64 m.rgt, .string m.high, .slice q.k m.keys.length q.kc, .slice q.v m.vals.length q.vc, .slice q.i m.kids.length q.ic] 55)) W → Nod W m q) := fun W f => (hm.same f0).same f
  have HOF : Hid (Off (fun k => k = g) m q) := by
    obtain ⟨h1, h2, h3⟩ := ho
    exact ⟨h1.imp id (fun hx b o e f => hx b o e (by rw [f]; rfl)), h2.imp id (fun hx b o e f => hx b o e (by rw [f]; rfl)), h3.imp id (fun hx b o e f => hx b o e (by rw [f]; rfl))⟩
  have HN : Hid (n = lp.length) := hn
  have HSS : Hid (lp[i]? = some s ∧ s.page = x) := ⟨hs, hsx⟩
  have HF0 : Hid (Fr (fun _ => False) w (w.alloc (.cells #[.int .i64 m.lev, .int .i64 m.lsn, .int .i64 m.rgt, .string m.high, .slice q.k m.keys.length q.kc, .slice q.v m.vals.length q.vc, .slice q.i m.kids.length q.ic] 55))) := f0
  have hki : (i : Int) < (n : Int) := by omega
  have hncb : n ≤ c := by rw [hn]; exact hnc
  have hcx : c ≤ 9223372036854775807 := by unfold maxLen at hcm; exact hcm
  clear h hm ho hr hb hs hsx hth hn hn' hnc hcm hi hsv f0 hlt
  go_enter Tryz.func49, Tryz.ntmps49
  go_wp2_with fail
  refine hpl.mono ?_
  rintro e w1 ⟨rfl, f1⟩
  obtain ⟨c0, c1, c2, c3, c4, c5, c6⟩ := box_cells (HB.out _ f1)
  have hS1 := HSV.out _ f1
  have hel : w1.rangeAt g (i * 8) (slC s) := by have := hS1.has; rw [HN.out] at this; exact this.elem slC_length HSS.out.1
  obtain ⟨q0, q1, q2, q3, q4, q5, q6, q7⟩ := sl_range hel
  have hfz : ∀ j, j < 8 → w1.frozen? ⟨g, i * 8 + j, none⟩ = false := fun j hj => by
    obtain ⟨g3, c3, e3, _, _, _, hth, _⟩ := hS1.has.form (by have := HN.out; omega)
    rw [HN.out] at e3
    simp only [Value.slice.injEq, Option.some.injEq, Addr.mk.injEq, and_true, true_and] at e3
    obtain ⟨rfl, rfl⟩ := e3
    have := (hth (i * 8 + j) (by have := HN.out; omega)).2
    rwa [Nat.zero_add] at this
  have y1 := hfz 1 (by omega); have y2 := hfz 2 (by omega); have y3 := hfz 3 (by omega); have y4 := hfz 4 (by omega); have y5 := hfz 5 (by omega); have y6 := hfz 6 (by omega); have y7 := hfz 7 (by omega)
  have HFIN : Hid (Sv (w1.setCells g (i * 8 + 1) [.int .i64 m.lev, .int .i64 m.lsn, .int .i64 m.rgt, .string m.high, .slice q.k m.keys.length q.kc, .slice q.v m.vals.length q.vc, .slice q.i m.kids.length q.ic]) (.slice (some ⟨g, 0, none⟩) n c) (lp.set i ⟨x, m, q⟩)) := by
    have := hS1.set HN.out HSS.out.1 m q (HND.out _ f1) HOF.out
    rw [HSS.out.2] at this
    exact this
  have HFF : Hid (Fr (fun k => (Value.slice (some ⟨g, 0, none⟩) n c).ownBlock = some k) w (w1.setCells g (i * 8 + 1) [.int .i64 m.lev, .int .i64 m.lsn, .int .i64 m.rgt, .string m.high, .slice q.k m.keys.length q.kc, .slice q.v m.vals.length q.vc, .slice q.i m.kids.length q.ic])) := ((HF0.out.seq' f1).widen (fun _ f => f.elim)).trans (Fr.setCells (S := fun k => k = g) (fun _ => rfl) _ _ (Fr.refl _ w1)) (fun k _ e => by rw [e]; rfl)
  clear hpl hS1 hel hfz
  go_wp2
  go_ret
  exact ⟨rfl, HFIN.out, HFF.out⟩
end Go.Proofs.YtlnkbjjohdmihaaGreat
