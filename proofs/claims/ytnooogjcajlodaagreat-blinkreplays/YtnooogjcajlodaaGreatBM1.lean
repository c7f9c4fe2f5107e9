
/- BkDo3, BkSay2, BkAny, BkFew, BkPgs, BkPags, BkSame. -/
import Derived.Test.YtnooogjcajlodaaGreatBkSay
import Derived.Test.YtnooogjcajlodaaGreatBM3
import Derived.Deep.RegionWith
import Derived.Test.YtnooogjcajlodaaGreatBB33
/- A record that is not done: of no page, or refused. -/
namespace Go.Proofs.YtnooogjcajlodaaGreat
open Go.RowKit

set_option maxRecDepth 100000 in
set_option maxHeartbeats 8000000 in
theorem do_non (r : Rec) (hkz : r.key.size ≤ 140737488351232) (hvz : r.val.size ≤ 140737488351232) (tb mb : Nat) (a : Option Addr) (n c : Nat) (lp : List Sl) (last : Int) (nd0 : Nd) (pt0 : Pt) (th : Bool) (hE : apE nd0 th r ≠ 0)
    (hfi0 : ∀ W, Slots W a c lp → Calls Tryz.prog 63 #[.slice a n c, .int .i64 r.page] W fun e w' => e = .returned (.tuple #[(.agg #[.int .i64 nd0.lev, .int .i64 nd0.lsn, .int .i64 nd0.rgt, .string nd0.high, .slice pt0.k nd0.keys.length pt0.kc, .slice pt0.v nd0.vals.length pt0.vc, .slice pt0.i nd0.kids.length pt0.ic]), .bool th]) ∧ Fr (fun _ => False) W w')
    (hnd0 : ∀ W, Sv W (.slice a n c) lp → Nod W nd0 pt0)
    (w : World) (h : TrS w tb mb a n c lp last) :
    Calls Tryz.prog 31 #[.pointer (some ⟨tb, 0, none⟩), (.agg #[.int .i64 r.lsn, .int .i64 r.ep, .int .i64 r.kind, .int .i64 r.page, .int .i64 r.other, .int .i64 r.req, .string r.key, .string r.val])] w fun e w' => e = .returned (.int .i64 (if apE nd0 th r = 1 then 0 else apE nd0 th r)) ∧ Fr (fun _ => False) w w' := by
  have f0 := Fr.box w (.cells #[.int .i64 r.lsn, .int .i64 r.ep, .int .i64 r.kind, .int .i64 r.page, .int .i64 r.other, .int .i64 r.req, .string r.key, .string r.val] 42)
  have h1 := h.same f0
  have htl : tb < w.heap.size := lt_of_block h.tr.box
  have hml : mb < w.heap.size := by obtain ⟨U, hU⟩ := h.tr.map; exact hU.lt
  have HSX : Hid (∀ W, Fr (fun _ => False) (w.alloc (.cells #[.int .i64 r.lsn, .int .i64 r.ep, .int .i64 r.kind, .int .i64 r.page, .int .i64 r.other, .int .i64 r.req, .string r.key, .string r.val] 42)) W → TrS W tb mb a n c lp last) := fun W f => h1.same f
  have HRB : Hid (∀ W, Fr (fun _ => False) (w.alloc (.cells #[.int .i64 r.lsn, .int .i64 r.ep, .int .i64 r.kind, .int .i64 r.page, .int .i64 r.other, .int .i64 r.req, .string r.key, .string r.val] 42)) W → W.heap[w.heap.size]? = some (.cells #[.int .i64 r.lsn, .int .i64 r.ep, .int .i64 r.kind, .int .i64 r.page, .int .i64 r.other, .int .i64 r.req, .string r.key, .string r.val] 42 (0, 0))) := fun W f => f.blk (heap_alloc_new w _) (fun f => f)
  have HQ : Hid (∀ W, Fr (fun _ => False) (w.alloc (.cells #[.int .i64 r.lsn, .int .i64 r.ep, .int .i64 r.kind, .int .i64 r.page, .int .i64 r.other, .int .i64 r.req, .string r.key, .string r.val] 42)) W → (W.cell? ⟨tb, 0, none⟩ = some (.slice a n c) ∧ W.cell? ⟨tb, 1, none⟩ = some (.pointer (some ⟨mb, 0, none⟩)) ∧ W.cell? ⟨tb, 2, none⟩ = some (.int .i64 last)) ∧ W.cell? ⟨w.heap.size, 0, none⟩ = some (.int .i64 r.lsn) ∧ W.cell? ⟨w.heap.size, 1, none⟩ = some (.int .i64 r.ep) ∧ W.cell? ⟨w.heap.size, 2, none⟩ = some (.int .i64 r.kind) ∧ W.cell? ⟨w.heap.size, 3, none⟩ = some (.int .i64 r.page) ∧ W.cell? ⟨w.heap.size, 4, none⟩ = some (.int .i64 r.other) ∧ W.cell? ⟨w.heap.size, 5, none⟩ = some (.int .i64 r.req) ∧ W.cell? ⟨w.heap.size, 6, none⟩ = some (.string r.key) ∧ W.cell? ⟨w.heap.size, 7, none⟩ = some (.string r.val)) := fun W f => ⟨(tree_cells (HSX.out W f).tr.box).1, (rec_cells (HRB.out W f)).1⟩
  have g0 := (Fr.refl (fun _ => False) (w.alloc (.cells #[.int .i64 r.lsn, .int .i64 r.ep, .int .i64 r.kind, .int .i64 r.page, .int .i64 r.other, .int .i64 r.req, .string r.key, .string r.val] 42))).drew
  have ga := ((Fr.refl (fun _ => False) (w.alloc (.cells #[.int .i64 r.lsn, .int .i64 r.ep, .int .i64 r.kind, .int .i64 r.page, .int .i64 r.other, .int .i64 r.req, .string r.key, .string r.val] 42))).alloc (.cells #[.int .i64 0, .int .i64 0, .int .i64 0, .string ⟨#[]⟩, .slice none 0 0, .slice none 0 0, .slice none 0 0] 59)).drew
  have hba : ((w.alloc (.cells #[.int .i64 r.lsn, .int .i64 r.ep, .int .i64 r.kind, .int .i64 r.page, .int .i64 r.other, .int .i64 r.req, .string r.key, .string r.val] 42)).alloc (.cells #[.int .i64 0, .int .i64 0, .int .i64 0, .string ⟨#[]⟩, .slice none 0 0, .slice none 0 0, .slice none 0 0] 59)).drew.heap[w.heap.size + 1]? = some (.cells #[.int .i64 0, .int .i64 0, .int .i64 0, .string ⟨#[]⟩, .slice none 0 0, .slice none 0 0, .slice none 0 0] 59 (0, 0)) := by
    have := heap_alloc_new (w.alloc (.cells #[.int .i64 r.lsn, .int .i64 r.ep, .int .i64 r.kind, .int .i64 r.page, .int .i64 r.other, .int .i64 r.req, .string r.key, .string r.val] 42)) (.cells #[.int .i64 0, .int .i64 0, .int .i64 0, .string ⟨#[]⟩, .slice none 0 0, .slice none 0 0, .slice none 0 0] 59)
    rw [show (w.alloc (.cells #[.int .i64 r.lsn, .int .i64 r.ep, .int .i64 r.kind, .int .i64 r.page, .int .i64 r.other, .int .i64 r.req, .string r.key, .string r.val] 42)).heap.size = w.heap.size + 1 by simp] at this
    exact this
  have q0 := HQ.out _ g0
  have qa := HQ.out _ ga
  have hnb : w.heap.size + 1 < (w.alloc (.cells #[.int .i64 r.lsn, .int .i64 r.ep, .int .i64 r.kind, .int .i64 r.page, .int .i64 r.other, .int .i64 r.req, .string r.key, .string r.val] 42)).heap.size → False := fun h => by simp at h
  have hfi := fun W (f : Fr (fun _ => False) (w.alloc (.cells #[.int .i64 r.lsn, .int .i64 r.ep, .int .i64 r.kind, .int .i64 r.page, .int .i64 r.other, .int .i64 r.req, .string r.key, .string r.val] 42)) W) => hfi0 W ((h1.same f).sv.slots h.len)
  have HND : Hid (∀ W, Fr (fun _ => False) (w.alloc (.cells #[.int .i64 r.lsn, .int .i64 r.ep, .int .i64 r.kind, .int .i64 r.page, .int .i64 r.other, .int .i64 r.req, .string r.key, .string r.val] 42)) W → Nod W nd0 pt0) := fun W f => hnd0 W (h1.same f).sv
  have hap := fun W (f : Fr (fun _ => False) (w.alloc (.cells #[.int .i64 r.lsn, .int .i64 r.ep, .int .i64 r.kind, .int .i64 r.page, .int .i64 r.other, .int .i64 r.req, .string r.key, .string r.val] 42)) W) => apply_any nd0 pt0 th r hkz hvz W (HND.out W f)
  have HLE : Hid (n = lp.length) := h.len
  have HOW : Hid (∀ g, (Value.slice a n c).ownBlock = some g → g ≠ tb ∧ g ≠ mb) := h.own
  have HLO : Hid (∀ g, (Value.slice a n c).ownBlock = some g → g < w.heap.size) := fun g e => h.sv.has.lt e
  have HOF : Hid (∀ x ∈ lp, Off (fun k => k = tb ∨ k = mb) x.nd x.pt) := h.off
  have hne := h.tr.ne
  unfold ApOut at hap
  generalize apE nd0 th r = ae at *
  obtain ⟨res, hres⟩ : ∃ x, x = (if ae = 1 then 0 else ae) := ⟨_, rfl⟩
  rw [← hres]
  have HRES : Hid (res = (if ae = 1 then 0 else ae)) := hres
  clear hres
  generalize apN nd0 th r = m at *
  generalize apD nd0 th r = d at *
  clear h h1 hkz hvz hfi0 hnd0
  go_enter Tryz.func31, Tryz.ntmps31
  go_wp2_with fail
  go_region_held3 (fun W => (W.cell? ⟨tb, 0, none⟩ = some (.slice a n c) ∧ W.cell? ⟨tb, 1, none⟩ = some (.pointer (some ⟨mb, 0, none⟩)) ∧ W.cell? ⟨tb, 2, none⟩ = some (.int .i64 last)) ∧ W.cell? ⟨w.heap.size, 0, none⟩ = some (.int .i64 r.lsn) ∧ W.cell? ⟨w.heap.size, 1, none⟩ = some (.int .i64 r.ep) ∧ W.cell? ⟨w.heap.size, 2, none⟩ = some (.int .i64 r.kind) ∧ W.cell? ⟨w.heap.size, 3, none⟩ = some (.int .i64 r.page) ∧ W.cell? ⟨w.heap.size, 4, none⟩ = some (.int .i64 r.other) ∧ W.cell? ⟨w.heap.size, 5, none⟩ = some (.int .i64 r.req) ∧ W.cell? ⟨w.heap.size, 6, none⟩ = some (.string r.key) ∧ W.cell? ⟨w.heap.size, 7, none⟩ = some (.string r.val))
    (first | with_reducible exact q0 | with_reducible exact qa | with_reducible exact q1 | with_reducible exact q2 | with_reducible exact q3 | with_reducible exact q4)
    (first
      | (go_at_call 63; refine (hfi _ g0).mono ?_; rintro en w1 ⟨rfl, m1⟩; have fr1 := g0.seq' m1; have q1 := HQ.out _ fr1; have fr2 := fr1.alloc (.cells #[.int .i64 0, .int .i64 0, .int .i64 0, .string ⟨#[]⟩, .slice none 0 0, .slice none 0 0, .slice none 0 0] 59); have q2 := HQ.out _ fr2; have fr3 := fr1.alloc (.cells #[.int .i64 nd0.lev, .int .i64 nd0.lsn, .int .i64 nd0.rgt, .string nd0.high, .slice pt0.k nd0.keys.length pt0.kc, .slice pt0.v nd0.vals.length pt0.vc, .slice pt0.i nd0.kids.length pt0.ic] 59); have q3 := HQ.out _ fr3)
      | (go_at_call 63; refine (hfi _ ga).mono ?_; rintro en w1 ⟨rfl, m1⟩; have frb := ga.seq' m1; have q1 := HQ.out _ frb; have b1 := m1.blk hba (fun f => f); obtain ⟨⟨r0, r1, r2, r3, r4, r5, r6⟩, rz⟩ := node_cells b1; have z0 := rz 0; have z1 := rz 1; have z2 := rz 2; have z3 := rz 3; have z4 := rz 4; have z5 := rz 5; have z6 := rz 6; obtain ⟨hq1, fq1⟩ := fin7 b1 (.int .i64 nd0.lev) (.int .i64 nd0.lsn) (.int .i64 nd0.rgt) (.string nd0.high) (.slice pt0.k nd0.keys.length pt0.kc) (.slice pt0.v nd0.vals.length pt0.vc) (.slice pt0.i nd0.kids.length pt0.ic); have fr4 := frb.trans fq1 (S := fun _ => False) (fun i hi e => by subst e; exact hnb hi); have q4 := HQ.out _ fr4))
  · have hB := heap_alloc_new w1 (.cells #[.int .i64 nd0.lev, .int .i64 nd0.lsn, .int .i64 nd0.rgt, .string nd0.high, .slice pt0.k nd0.keys.length pt0.kc, .slice pt0.v nd0.vals.length pt0.vc, .slice pt0.i nd0.kids.length pt0.ic] 59)
    have fr5 := fr3
    have hBg : w.heap.size < w1.heap.size := by have := fr1.size; simp at this; omega
    clear q0 qa q1 q2 q3 fr1 fr2 fr3 m1 hba ga g0 hnb hfi
    generalize w1.alloc (.cells #[.int .i64 nd0.lev, .int .i64 nd0.lsn, .int .i64 nd0.rgt, .string nd0.high, .slice pt0.k nd0.keys.length pt0.kc, .slice pt0.v nd0.vals.length pt0.vc, .slice pt0.i nd0.kids.length pt0.ic] 59) = W5 at *
    generalize w1.heap.size = B5 at *
    obtain ⟨x0, x1, x2, x3, x4, x5, x6⟩ := box_cells hB
    obtain ⟨_, y0, y1, y2, y3, y4, y5, y6, y7⟩ := HQ.out _ fr5
    go_wp2_with fail
    refine (hap _ fr5).mono ?_
    rintro e w6 ⟨q, rfl, nd6, f6, hnw⟩
    have fr6 := fr5.seq' f6
    have fr7 := fr6.alloc (.cells #[.int .i64 m.lev, .int .i64 m.lsn, .int .i64 m.rgt, .string m.high, .slice q.k m.keys.length q.kc, .slice q.v m.vals.length q.vc, .slice q.i m.kids.length q.ic] 59)
    have hB7 := heap_alloc_new w6 (.cells #[.int .i64 m.lev, .int .i64 m.lsn, .int .i64 m.rgt, .string m.high, .slice q.k m.keys.length q.kc, .slice q.v m.vals.length q.vc, .slice q.i m.kids.length q.ic] 59)
    have hz6 : w.heap.size < w6.heap.size := by have := fr6.size; simp at this; omega
    have nd7 := nd6.same (Fr.box w6 (.cells #[.int .i64 m.lev, .int .i64 m.lsn, .int .i64 m.rgt, .string m.high, .slice q.k m.keys.length q.kc, .slice q.v m.vals.length q.vc, .slice q.i m.kids.length q.ic] 59))
    have hz5 : w.heap.size ≤ W5.heap.size := by have := fr5.size; simp at this; omega
    have F7 : Hid (Fr (fun _ => False) w (w6.alloc (.cells #[.int .i64 m.lev, .int .i64 m.lsn, .int .i64 m.rgt, .string m.high, .slice q.k m.keys.length q.kc, .slice q.v m.vals.length q.vc, .slice q.i m.kids.length q.ic] 59))) := f0.seq' fr7
    have hne0 : (ae == 0) = false := by simpa using hE
    clear x0 x1 x2 x3 x4 x5 x6 y0 y1 y2 y3 y4 y5 y6 y7 hap fr5 fr6 f6 hnw nd6 hB hBg nd7 hB7 fr7 hz5 hz6
    by_cases h1 : ae = 1
    · have hr0 : res = 0 := by rw [HRES.out, if_pos h1]
      clear HRES
      subst hr0
      subst h1
      go_wp2
      go_ret
      exact ⟨rfl, F7.out⟩
    · have hne1 : (ae == 1) = false := by simpa using h1
      have hr0 : res = ae := by rw [HRES.out, if_neg h1]
      clear HRES
      subst hr0
      go_wp2
      go_ret
      exact ⟨rfl, F7.out⟩
  · have hB := hq1
    have fr5 := fr4
    have hBg : w.heap.size < w.heap.size + 1 := by omega
    clear q0 qa q1 q4 frb fr4 m1 hba ga g0 hnb hfi b1 r0 r1 r2 r3 r4 r5 r6 rz z0 z1 z2 z3 z4 z5 z6 fq1 hq1
    generalize (((((((w1.setCell ⟨w.heap.size + 1, 0, none⟩ (.int .i64 nd0.lev)).setCell ⟨w.heap.size + 1, 1, none⟩ (.int .i64 nd0.lsn)).setCell ⟨w.heap.size + 1, 2, none⟩ (.int .i64 nd0.rgt)).setCell ⟨w.heap.size + 1, 3, none⟩ (.string nd0.high)).setCell ⟨w.heap.size + 1, 4, none⟩ (.slice pt0.k nd0.keys.length pt0.kc)).setCell ⟨w.heap.size + 1, 5, none⟩ (.slice pt0.v nd0.vals.length pt0.vc)).setCell ⟨w.heap.size + 1, 6, none⟩ (.slice pt0.i nd0.kids.length pt0.ic)) = W5 at *
    generalize hb5 : w.heap.size + 1 = B5 at *
    obtain ⟨x0, x1, x2, x3, x4, x5, x6⟩ := box_cells hB
    obtain ⟨_, y0, y1, y2, y3, y4, y5, y6, y7⟩ := HQ.out _ fr5
    go_wp2_with fail
    refine (hap _ fr5).mono ?_
    rintro e w6 ⟨q, rfl, nd6, f6, hnw⟩
    have fr6 := fr5.seq' f6
    have fr7 := fr6.alloc (.cells #[.int .i64 m.lev, .int .i64 m.lsn, .int .i64 m.rgt, .string m.high, .slice q.k m.keys.length q.kc, .slice q.v m.vals.length q.vc, .slice q.i m.kids.length q.ic] 59)
    have hB7 := heap_alloc_new w6 (.cells #[.int .i64 m.lev, .int .i64 m.lsn, .int .i64 m.rgt, .string m.high, .slice q.k m.keys.length q.kc, .slice q.v m.vals.length q.vc, .slice q.i m.kids.length q.ic] 59)
    have hz6 : w.heap.size < w6.heap.size := by have := fr6.size; simp at this; omega
    have nd7 := nd6.same (Fr.box w6 (.cells #[.int .i64 m.lev, .int .i64 m.lsn, .int .i64 m.rgt, .string m.high, .slice q.k m.keys.length q.kc, .slice q.v m.vals.length q.vc, .slice q.i m.kids.length q.ic] 59))
    have hz5 : w.heap.size ≤ W5.heap.size := by have := fr5.size; simp at this; omega
    have F7 : Hid (Fr (fun _ => False) w (w6.alloc (.cells #[.int .i64 m.lev, .int .i64 m.lsn, .int .i64 m.rgt, .string m.high, .slice q.k m.keys.length q.kc, .slice q.v m.vals.length q.vc, .slice q.i m.kids.length q.ic] 59))) := f0.seq' fr7
    have hne0 : (ae == 0) = false := by simpa using hE
    clear x0 x1 x2 x3 x4 x5 x6 y0 y1 y2 y3 y4 y5 y6 y7 hap fr5 fr6 f6 hnw nd6 hB hBg nd7 hB7 fr7 hz5 hz6
    by_cases h1 : ae = 1
    · have hr0 : res = 0 := by rw [HRES.out, if_pos h1]
      clear HRES
      subst hr0
      subst h1
      go_wp2
      go_ret
      exact ⟨rfl, F7.out⟩
    · have hne1 : (ae == 1) = false := by simpa using h1
      have hr0 : res = ae := by rw [HRES.out, if_neg h1]
      clear HRES
      subst hr0
      go_wp2
      go_ret
      exact ⟨rfl, F7.out⟩
end Go.Proofs.YtnooogjcajlodaaGreat

/- A tree says a record: done, or refused. -/
namespace Go.Proofs.YtnooogjcajlodaaGreat
open Go.RowKit

set_option maxRecDepth 100000 in
set_option maxHeartbeats 8000000 in
theorem say_put (r : Rec) (tb mb : Nat) (a : Option Addr) (n c : Nat) (lp : List Sl) (last : Int) (hl : 0 ≤ last ∧ last ≤ 4611686018427387904) (m : Nd) (Pm : List (Int × Nd)) (hd : ∀ W, TrS W tb mb a n c lp last → Calls Tryz.prog 31 #[.pointer (some ⟨tb, 0, none⟩), (.agg #[.int .i64 (rnx r (last + 1)).lsn, .int .i64 (rnx r (last + 1)).ep, .int .i64 (rnx r (last + 1)).kind, .int .i64 (rnx r (last + 1)).page, .int .i64 (rnx r (last + 1)).other, .int .i64 (rnx r (last + 1)).req, .string (rnx r (last + 1)).key, .string (rnx r (last + 1)).val])] W fun e w' => ∃ q a' n' c' lp', e = .returned (.int .i64 0) ∧ Nw W q ∧ psOf lp' = Pm ∧ (∀ s ∈ lp', s ∈ lp ∨ s = ⟨r.page, m, q⟩) ∧ TrS w' tb mb a' n' c' lp' last ∧ Fr (fun k => (Value.slice a n c).ownBlock = some k ∨ k = tb ∨ k = mb) W w' ∧ ((Value.slice a' n' c').ownBlock = (Value.slice a n c).ownBlock ∨ ∃ g, (Value.slice a' n' c').ownBlock = some g ∧ W.heap.size ≤ g)) (w : World) (h : TrS w tb mb a n c lp last) :
    Calls Tryz.prog 14 #[.pointer (some ⟨tb, 0, none⟩), (.agg #[.int .i64 r.lsn, .int .i64 r.ep, .int .i64 r.kind, .int .i64 r.page, .int .i64 r.other, .int .i64 r.req, .string r.key, .string r.val])] w fun e w' => ∃ a' n' c' lp', e = .returned (.tuple #[(.agg #[.int .i64 (rnx r (last + 1)).lsn, .int .i64 (rnx r (last + 1)).ep, .int .i64 (rnx r (last + 1)).kind, .int .i64 (rnx r (last + 1)).page, .int .i64 (rnx r (last + 1)).other, .int .i64 (rnx r (last + 1)).req, .string (rnx r (last + 1)).key, .string (rnx r (last + 1)).val]), .int .i64 0]) ∧ psOf lp' = Pm ∧ TrS w' tb mb a' n' c' lp' (last + 1) ∧ Fr (fun k => (Value.slice a n c).ownBlock = some k ∨ k = tb ∨ k = mb) w w' ∧ ((Value.slice a' n' c').ownBlock = (Value.slice a n c).ownBlock ∨ ∃ g, (Value.slice a' n' c').ownBlock = some g ∧ w.heap.size ≤ g) ∧ (∀ s ∈ lp', s ∈ lp ∨ Nw w s.pt) := by
  have f0 := (Fr.box w (.cells #[.int .i64 r.lsn, .int .i64 r.ep, .int .i64 r.kind, .int .i64 r.page, .int .i64 r.other, .int .i64 r.req, .string r.key, .string r.val] 42)).alloc (.cells #[.int .i64 0, .int .i64 0, .int .i64 0, .int .i64 0, .int .i64 0, .int .i64 0, .string ⟨#[]⟩, .string ⟨#[]⟩] 42)
  have htl : tb < w.heap.size := lt_of_block h.tr.box
  have hml : mb < w.heap.size := by obtain ⟨U, hU⟩ := h.tr.map; exact hU.lt
  have h1 := h.same f0
  have HLO : Hid (∀ g, (Value.slice a n c).ownBlock = some g → g < w.heap.size) := fun g e => h.sv.has.lt e
  have ha := last_some tb a n c mb last _ h1.tr
  have HSX : Hid (∀ W, Fr (fun _ => False) w W → TrS W tb mb a n c lp last) := fun W f => h.same f
  have HB0 : Hid (∀ W, Fr (fun _ => False) ((w.alloc (.cells #[.int .i64 r.lsn, .int .i64 r.ep, .int .i64 r.kind, .int .i64 r.page, .int .i64 r.other, .int .i64 r.req, .string r.key, .string r.val] 42)).alloc (.cells #[.int .i64 0, .int .i64 0, .int .i64 0, .int .i64 0, .int .i64 0, .int .i64 0, .string ⟨#[]⟩, .string ⟨#[]⟩] 42)) W → W.heap[w.heap.size]? = some (.cells #[.int .i64 r.lsn, .int .i64 r.ep, .int .i64 r.kind, .int .i64 r.page, .int .i64 r.other, .int .i64 r.req, .string r.key, .string r.val] 42 (0, 0)) ∧ W.heap[w.heap.size + 1]? = some (.cells #[.int .i64 0, .int .i64 0, .int .i64 0, .int .i64 0, .int .i64 0, .int .i64 0, .string ⟨#[]⟩, .string ⟨#[]⟩] 42 (0, 0))) := fun W f => by
    refine ⟨(((Fr.refl (fun _ => False) _).alloc _).seq' f).blk (heap_alloc_new w _) (fun f => f), ?_⟩
    have := f.blk (heap_alloc_new (w.alloc (.cells #[.int .i64 r.lsn, .int .i64 r.ep, .int .i64 r.kind, .int .i64 r.page, .int .i64 r.other, .int .i64 r.req, .string r.key, .string r.val] 42)) (.cells #[.int .i64 0, .int .i64 0, .int .i64 0, .int .i64 0, .int .i64 0, .int .i64 0, .string ⟨#[]⟩, .string ⟨#[]⟩] 42)) (fun f => f)
    rw [show (w.alloc (.cells #[.int .i64 r.lsn, .int .i64 r.ep, .int .i64 r.kind, .int .i64 r.page, .int .i64 r.other, .int .i64 r.req, .string r.key, .string r.val] 42)).heap.size = w.heap.size + 1 by simp] at this
    exact this
  have e1 : IntKind.i64.wrap (last + 1) = last + 1 := by simp [IntKind.wrap, IntKind.bits, IntKind.signed]; omega
  obtain ⟨rn, hrn⟩ : ∃ x, x = rnx r (last + 1) := ⟨_, rfl⟩
  rw [← hrn] at hd ⊢
  have HSET : Hid (∀ W : World, W.heap[w.heap.size]? = some (.cells #[.int .i64 r.lsn, .int .i64 r.ep, .int .i64 r.kind, .int .i64 r.page, .int .i64 r.other, .int .i64 r.req, .string r.key, .string r.val] 42 (0, 0)) → (W.setCell ⟨w.heap.size, 0, none⟩ (.int .i64 (last + 1))).heap[w.heap.size]? = some (.cells #[.int .i64 rn.lsn, .int .i64 rn.ep, .int .i64 rn.kind, .int .i64 rn.page, .int .i64 rn.other, .int .i64 rn.req, .string rn.key, .string rn.val] 42 (0, 0))) := fun W h => by
    rw [hrn]; exact rec_set0 h
  have HLS : Hid (rn.lsn = last + 1) := by show _ = _; rw [hrn]; rfl
  have HOL : Hid (∀ s ∈ lp, Off (fun k => k = w.heap.size + 1) s.nd s.pt) := fun s hs => (h.sv.nod s hs).far (fun b hb e => by omega)
  have HPG : Hid (rn.page = r.page) := by show _ = _; rw [hrn]; rfl
  clear h h1 hrn
  go_enter Tryz.func14, Tryz.ntmps14
  go_wp2_with fail
  refine ha.mono ?_
  rintro e w1 ⟨rfl, f1⟩
  have hx1 := HB0.out _ f1
  have hx2 := HSET.out _ hx1.1
  have g2 : Fr (fun k => k = w.heap.size) w1 (w1.setCell ⟨w.heap.size, 0, none⟩ (.int .i64 (last + 1))) := (Fr.refl (fun k => k = w.heap.size) w1).setCell (p := ⟨w.heap.size, 0, none⟩) (fun _ => rfl) _
  have hy2 := g2.blk hx1.2 (by omega)
  have F2 := (f0.seq' f1).trans g2 (S := fun _ => False) (fun i hi e => by omega)
  obtain ⟨⟨a0, a1, a2, a3, a4, a5, a6, a7⟩, za⟩ := rec_cells hx1.1
  obtain ⟨⟨b0, b1, b2, b3, b4, b5, b6, b7⟩, zb⟩ := rec_cells hx2
  have za0 := za 0
  clear hx1 za
  go_upto_region 2 with fail
  generalize w1.setCell ⟨w.heap.size, 0, none⟩ (.int .i64 (last + 1)) = W2 at *
  clear a0 a1 a2 a3 a4 a5 a6 a7 za0 g2
  go_wp2_with fail
  refine (hd _ (HSX.out _ F2)).mono ?_
  rintro e w3 ⟨q, a', n', c', lp', rfl, hnw, hps, hmem, ht3, f3, hat⟩
  have HPS : Hid (psOf lp' = Pm) := hps
  have HME : Hid (∀ s ∈ lp', s ∈ lp ∨ s = ⟨r.page, m, q⟩) := hmem
  have hz2 : w.heap.size + 2 ≤ W2.heap.size := by have h1 := lt_of_block hy2; omega
  have HAT : Hid ((Value.slice a' n' c').ownBlock = (Value.slice a n c).ownBlock ∨ ∃ g, (Value.slice a' n' c').ownBlock = some g ∧ w.heap.size + 2 ≤ g) := by
    rcases hat with h | ⟨g, h, hg⟩
    · exact .inl h
    · exact .inr ⟨g, h, by omega⟩
  have HMN : Hid (∀ s ∈ lp', s ∈ lp ∨ Nw w s.pt) := fun s hs => by
    rcases hmem s hs with h | rfl
    · exact .inl h
    · exact .inr (hnw.back (by omega))
  clear hps hmem hat
  have HOQ : Hid (Off (fun k => k = w.heap.size + 1) m q) := hnw.off (fun b hb e => by have h1 := lt_of_block hy2; omega)
  have hx3 := f3.blk hx2 (fun e => by rcases e with e | e | e; · have := HLO.out _ e; omega
                                      · omega
                                      · omega)
  have hy3 := f3.blk hy2 (fun e => by rcases e with e | e | e; · have := HLO.out _ e; omega
                                      · omega
                                      · omega)
  have F3 : Fr (fun k => (Value.slice a n c).ownBlock = some k ∨ k = tb ∨ k = mb) w w3 := (F2.widen (T := fun k => (Value.slice a n c).ownBlock = some k ∨ k = tb ∨ k = mb) (fun _ f => f.elim)).trans f3 (fun i _ e => e)
  clear b0 b1 b2 b3 b4 b5 b6 b7 zb hd ha
  obtain ⟨⟨b0, b1, b2, b3, b4, b5, b6, b7⟩, _⟩ := rec_cells hx3
  obtain ⟨⟨t0, t1, t2⟩, tz⟩ := tree_cells ht3.tr.box
  have tz2 := tz 2
  have f4 : Fr (fun k => k = tb) w3 (w3.setCell ⟨tb, 2, none⟩ (.int .i64 rn.lsn)) := (Fr.refl (fun k => k = tb) w3).setCell (p := ⟨tb, 2, none⟩) (fun _ => rfl) _
  have hbx4 := tree_set2 ht3.tr.box (.int .i64 rn.lsn)
  have hx4 := f4.blk hx3 (by omega)
  have hy4 := f4.blk hy3 (by omega)
  have HT3 : Hid (TrS w3 tb mb a' n' c' lp' last) := ht3
  have HT4 : Hid (TrS (w3.setCell ⟨tb, 2, none⟩ (.int .i64 rn.lsn)) tb mb a' n' c' lp' (last + 1)) := by
    have h3 := HT3.out
    rw [HLS.out] at hbx4 f4 ⊢
    obtain ⟨U, hU⟩ := h3.tr.map
    exact ⟨⟨hbx4, ⟨U, hU.fr f4 (by have := h3.tr.ne; omega)⟩, h3.tr.ne⟩, h3.len, h3.sv.frS f4 (fun k e1 e2 => (h3.own k e1).1 e2) (fun x hx => (h3.off x hx).sub (fun k e => .inl e)), h3.own, h3.off⟩
  have F4 := F3.trans f4 (S := fun k => (Value.slice a n c).ownBlock = some k ∨ k = tb ∨ k = mb) (fun i _ e => .inr (.inl e))
  clear ht3 tz hbx4 hx3 hy3
  go_upto_region 6 with fail
  generalize w3.setCell ⟨tb, 2, none⟩ (.int .i64 rn.lsn) = W4 at *
  clear b0 b1 b2 b3 b4 b5 b6 b7 t0 t1 t2 tz2
  obtain ⟨⟨b0, b1, b2, b3, b4, b5, b6, b7⟩, _⟩ := rec_cells hx4
  obtain ⟨⟨z0, z1, z2, z3, z4, z5, z6, z7⟩, zz⟩ := rec_cells hy4
  have x0 := zz 0; have x1 := zz 1; have x2 := zz 2; have x3 := zz 3; have x4 := zz 4; have x5 := zz 5; have x6 := zz 6; have x7 := zz 7
  clear zz
  go_wp2
  obtain ⟨hq, ff⟩ := fin8 hy4 (.int .i64 rn.lsn) (.int .i64 rn.ep) (.int .i64 rn.kind) (.int .i64 rn.page) (.int .i64 rn.other) (.int .i64 rn.req) (.string rn.key) (.string rn.val)
  have HT5 : Hid (TrS ((((((((W4.setCell ⟨w.heap.size + 1, 0, none⟩ (.int .i64 rn.lsn)).setCell ⟨w.heap.size + 1, 1, none⟩ (.int .i64 rn.ep)).setCell ⟨w.heap.size + 1, 2, none⟩ (.int .i64 rn.kind)).setCell ⟨w.heap.size + 1, 3, none⟩ (.int .i64 rn.page)).setCell ⟨w.heap.size + 1, 4, none⟩ (.int .i64 rn.other)).setCell ⟨w.heap.size + 1, 5, none⟩ (.int .i64 rn.req)).setCell ⟨w.heap.size + 1, 6, none⟩ (.string rn.key)).setCell ⟨w.heap.size + 1, 7, none⟩ (.string rn.val)) tb mb a' n' c' lp' (last + 1)) := by
    exact HT4.out.frS ff (by omega) (by omega) (fun g e h => by
      rcases HAT.out with h1 | ⟨g', h1, hg⟩
      · rw [h1] at e; have := HLO.out g e; omega
      · rw [h1] at e; have := Option.some.inj e; omega) (fun x hx => by
      rcases HME.out x hx with hx | rfl
      · exact HOL.out x hx
      · exact HOQ.out)
  have fff := F4.trans ff (S := fun k => (Value.slice a n c).ownBlock = some k ∨ k = tb ∨ k = mb) (fun i hi e => by omega)
  generalize ((((((((W4.setCell ⟨w.heap.size + 1, 0, none⟩ (.int .i64 rn.lsn)).setCell ⟨w.heap.size + 1, 1, none⟩ (.int .i64 rn.ep)).setCell ⟨w.heap.size + 1, 2, none⟩ (.int .i64 rn.kind)).setCell ⟨w.heap.size + 1, 3, none⟩ (.int .i64 rn.page)).setCell ⟨w.heap.size + 1, 4, none⟩ (.int .i64 rn.other)).setCell ⟨w.heap.size + 1, 5, none⟩ (.int .i64 rn.req)).setCell ⟨w.heap.size + 1, 6, none⟩ (.string rn.key)).setCell ⟨w.heap.size + 1, 7, none⟩ (.string rn.val)) = Wf at hq fff HT5 ⊢
  obtain ⟨⟨q0, q1, q2, q3, q4, q5, q6, q7⟩, _⟩ := rec_cells hq
  exact bodyPost_ret (v := .tuple #[(.agg #[.int .i64 rn.lsn, .int .i64 rn.ep, .int .i64 rn.kind, .int .i64 rn.page, .int .i64 rn.other, .int .i64 rn.req, .string rn.key, .string rn.val]), .int .i64 0]) (by simp [results, Tryz.results14, go_sem, q0, q1, q2, q3, q4, q5, q6, q7]) rfl ⟨a', n', c', lp', rfl, HPS.out, HT5.out, fff, HAT.out.imp id (fun ⟨g, h1, h2⟩ => ⟨g, h1, by omega⟩), HMN.out⟩
set_option maxRecDepth 100000 in
set_option maxHeartbeats 4000000 in
theorem say_no (r : Rec) (tb mb : Nat) (a : Option Addr) (n c : Nat) (lp : List Sl) (last : Int) (hl : 0 ≤ last ∧ last ≤ 4611686018427387904) (x : Int) (hne : x ≠ 0) (hd : ∀ W, TrS W tb mb a n c lp last → Calls Tryz.prog 31 #[.pointer (some ⟨tb, 0, none⟩), (.agg #[.int .i64 (rnx r (last + 1)).lsn, .int .i64 (rnx r (last + 1)).ep, .int .i64 (rnx r (last + 1)).kind, .int .i64 (rnx r (last + 1)).page, .int .i64 (rnx r (last + 1)).other, .int .i64 (rnx r (last + 1)).req, .string (rnx r (last + 1)).key, .string (rnx r (last + 1)).val])] W fun e w' => e = .returned (.int .i64 x) ∧ Fr (fun _ => False) W w') (w : World) (h : TrS w tb mb a n c lp last) :
    Calls Tryz.prog 14 #[.pointer (some ⟨tb, 0, none⟩), (.agg #[.int .i64 r.lsn, .int .i64 r.ep, .int .i64 r.kind, .int .i64 r.page, .int .i64 r.other, .int .i64 r.req, .string r.key, .string r.val])] w fun e w' => e = .returned (.tuple #[.agg #[.int .i64 0, .int .i64 0, .int .i64 0, .int .i64 0, .int .i64 0, .int .i64 0, .string ⟨#[]⟩, .string ⟨#[]⟩], .int .i64 x]) ∧ Fr (fun _ => False) w w' := by
  have f0 := (Fr.box w (.cells #[.int .i64 r.lsn, .int .i64 r.ep, .int .i64 r.kind, .int .i64 r.page, .int .i64 r.other, .int .i64 r.req, .string r.key, .string r.val] 42)).alloc (.cells #[.int .i64 0, .int .i64 0, .int .i64 0, .int .i64 0, .int .i64 0, .int .i64 0, .string ⟨#[]⟩, .string ⟨#[]⟩] 42)
  have htl : tb < w.heap.size := lt_of_block h.tr.box
  have hml : mb < w.heap.size := by obtain ⟨U, hU⟩ := h.tr.map; exact hU.lt
  have h1 := h.same f0
  have ha := last_some tb a n c mb last _ h1.tr
  have HSX : Hid (∀ W, Fr (fun _ => False) w W → TrS W tb mb a n c lp last) := fun W f => h.same f
  have HB0 : Hid (∀ W, Fr (fun _ => False) ((w.alloc (.cells #[.int .i64 r.lsn, .int .i64 r.ep, .int .i64 r.kind, .int .i64 r.page, .int .i64 r.other, .int .i64 r.req, .string r.key, .string r.val] 42)).alloc (.cells #[.int .i64 0, .int .i64 0, .int .i64 0, .int .i64 0, .int .i64 0, .int .i64 0, .string ⟨#[]⟩, .string ⟨#[]⟩] 42)) W → W.heap[w.heap.size]? = some (.cells #[.int .i64 r.lsn, .int .i64 r.ep, .int .i64 r.kind, .int .i64 r.page, .int .i64 r.other, .int .i64 r.req, .string r.key, .string r.val] 42 (0, 0)) ∧ W.heap[w.heap.size + 1]? = some (.cells #[.int .i64 0, .int .i64 0, .int .i64 0, .int .i64 0, .int .i64 0, .int .i64 0, .string ⟨#[]⟩, .string ⟨#[]⟩] 42 (0, 0))) := fun W f => by
    refine ⟨(((Fr.refl (fun _ => False) _).alloc _).seq' f).blk (heap_alloc_new w _) (fun f => f), ?_⟩
    have := f.blk (heap_alloc_new (w.alloc (.cells #[.int .i64 r.lsn, .int .i64 r.ep, .int .i64 r.kind, .int .i64 r.page, .int .i64 r.other, .int .i64 r.req, .string r.key, .string r.val] 42)) (.cells #[.int .i64 0, .int .i64 0, .int .i64 0, .int .i64 0, .int .i64 0, .int .i64 0, .string ⟨#[]⟩, .string ⟨#[]⟩] 42)) (fun f => f)
    rw [show (w.alloc (.cells #[.int .i64 r.lsn, .int .i64 r.ep, .int .i64 r.kind, .int .i64 r.page, .int .i64 r.other, .int .i64 r.req, .string r.key, .string r.val] 42)).heap.size = w.heap.size + 1 by simp] at this
    exact this
  have e1 : IntKind.i64.wrap (last + 1) = last + 1 := by simp [IntKind.wrap, IntKind.bits, IntKind.signed]; omega
  obtain ⟨rn, hrn⟩ : ∃ x, x = rnx r (last + 1) := ⟨_, rfl⟩
  rw [← hrn] at hd
  have HSET : Hid (∀ W : World, W.heap[w.heap.size]? = some (.cells #[.int .i64 r.lsn, .int .i64 r.ep, .int .i64 r.kind, .int .i64 r.page, .int .i64 r.other, .int .i64 r.req, .string r.key, .string r.val] 42 (0, 0)) → (W.setCell ⟨w.heap.size, 0, none⟩ (.int .i64 (last + 1))).heap[w.heap.size]? = some (.cells #[.int .i64 rn.lsn, .int .i64 rn.ep, .int .i64 rn.kind, .int .i64 rn.page, .int .i64 rn.other, .int .i64 rn.req, .string rn.key, .string rn.val] 42 (0, 0))) := fun W h => by
    rw [hrn]; exact rec_set0 h
  clear h h1 hrn
  go_enter Tryz.func14, Tryz.ntmps14
  go_wp2_with fail
  refine ha.mono ?_
  rintro e w1 ⟨rfl, f1⟩
  have hx1 := HB0.out _ f1
  have hx2 := HSET.out _ hx1.1
  have g2 : Fr (fun k => k = w.heap.size) w1 (w1.setCell ⟨w.heap.size, 0, none⟩ (.int .i64 (last + 1))) := (Fr.refl (fun k => k = w.heap.size) w1).setCell (p := ⟨w.heap.size, 0, none⟩) (fun _ => rfl) _
  have hy2 := g2.blk hx1.2 (by omega)
  have F2 := (f0.seq' f1).trans g2 (S := fun _ => False) (fun i hi e => by omega)
  obtain ⟨⟨a0, a1, a2, a3, a4, a5, a6, a7⟩, za⟩ := rec_cells hx1.1
  obtain ⟨⟨b0, b1, b2, b3, b4, b5, b6, b7⟩, zb⟩ := rec_cells hx2
  have za0 := za 0
  clear hx1 za
  go_upto_region 2 with fail
  generalize w1.setCell ⟨w.heap.size, 0, none⟩ (.int .i64 (last + 1)) = W2 at *
  clear a0 a1 a2 a3 a4 a5 a6 a7 za0 g2
  go_wp2_with fail
  refine (hd _ (HSX.out _ F2)).mono ?_
  rintro e w3 ⟨rfl, f3⟩
  have hy3 := f3.blk hy2 (fun f => f)
  have F3 := F2.seq' f3
  have hb : (x != 0) = true := by simpa using hne
  obtain ⟨⟨z0, z1, z2, z3, z4, z5, z6, z7⟩, zz⟩ := rec_cells hy3
  have x0 := zz 0; have x1 := zz 1; have x2 := zz 2; have x3 := zz 3; have x4 := zz 4; have x5 := zz 5; have x6 := zz 6; have x7 := zz 7
  clear zz b0 b1 b2 b3 b4 b5 b6 b7 zb hd ha hne
  go_wp2
  obtain ⟨hq, ff⟩ := fin8 hy3 (.int .i64 0) (.int .i64 0) (.int .i64 0) (.int .i64 0) (.int .i64 0) (.int .i64 0) (.string ⟨#[]⟩) (.string ⟨#[]⟩)
  have fff := F3.trans ff (S := fun _ => False) (fun i hi e => by omega)
  generalize ((((((((w3.setCell ⟨w.heap.size + 1, 0, none⟩ (.int .i64 0)).setCell ⟨w.heap.size + 1, 1, none⟩ (.int .i64 0)).setCell ⟨w.heap.size + 1, 2, none⟩ (.int .i64 0)).setCell ⟨w.heap.size + 1, 3, none⟩ (.int .i64 0)).setCell ⟨w.heap.size + 1, 4, none⟩ (.int .i64 0)).setCell ⟨w.heap.size + 1, 5, none⟩ (.int .i64 0)).setCell ⟨w.heap.size + 1, 6, none⟩ (.string ⟨#[]⟩)).setCell ⟨w.heap.size + 1, 7, none⟩ (.string ⟨#[]⟩)) = Wf at hq fff ⊢
  obtain ⟨⟨q0, q1, q2, q3, q4, q5, q6, q7⟩, _⟩ := rec_cells hq
  exact bodyPost_ret (v := .tuple #[.agg #[.int .i64 0, .int .i64 0, .int .i64 0, .int .i64 0, .int .i64 0, .int .i64 0, .string ⟨#[]⟩, .string ⟨#[]⟩], .int .i64 x]) (by simp [results, Tryz.results14, go_sem, q0, q1, q2, q3, q4, q5, q6, q7]) rfl ⟨rfl, fff⟩
end Go.Proofs.YtnooogjcajlodaaGreat

/- A tree says any record. -/
namespace Go.Proofs.YtnooogjcajlodaaGreat
open Go.RowKit

/-- What Say leaves: the record is done, or nothing is. -/
def SayOut (w : World) (tb mb : Nat) (a : Option Addr) (n c : Nat) (lp : List Sl) (last : Int) (r : Rec) (e : Ending) (w' : World) : Prop :=
  (rpE (psOf lp) (rnx r (last + 1)) = 0 ∧ ∃ a' n' c' lp', e = .returned (.tuple #[(.agg #[.int .i64 (rnx r (last + 1)).lsn, .int .i64 (rnx r (last + 1)).ep, .int .i64 (rnx r (last + 1)).kind, .int .i64 (rnx r (last + 1)).page, .int .i64 (rnx r (last + 1)).other, .int .i64 (rnx r (last + 1)).req, .string (rnx r (last + 1)).key, .string (rnx r (last + 1)).val]), .int .i64 0]) ∧ psOf lp' = rpP (psOf lp) (rnx r (last + 1)) ∧ TrS w' tb mb a' n' c' lp' (last + 1) ∧ Fr (fun k => (Value.slice a n c).ownBlock = some k ∨ k = tb ∨ k = mb) w w' ∧ ((Value.slice a' n' c').ownBlock = (Value.slice a n c).ownBlock ∨ ∃ g, (Value.slice a' n' c').ownBlock = some g ∧ w.heap.size ≤ g) ∧ (∀ s ∈ lp', s ∈ lp ∨ Nw w s.pt)) ∨
  (rpE (psOf lp) (rnx r (last + 1)) ≠ 0 ∧ e = .returned (.tuple #[.agg #[.int .i64 0, .int .i64 0, .int .i64 0, .int .i64 0, .int .i64 0, .int .i64 0, .string ⟨#[]⟩, .string ⟨#[]⟩], .int .i64 (rpE (psOf lp) (rnx r (last + 1)))]) ∧ Fr (fun _ => False) w w')
theorem say_core (r : Rec) (hkz : r.key.size ≤ 140737488351232) (hvz : r.val.size ≤ 140737488351232) (tb mb : Nat) (a : Option Addr) (n c : Nat) (lp : List Sl) (last : Int) (hl : 0 ≤ last ∧ last ≤ 4611686018427387904) (nd0 : Nd) (pt0 : Pt) (th : Bool) (P : Nd → List (Int × Nd))
    (hh : hasP (psOf lp) r.page = th) (hn0 : nodeP (psOf lp) r.page = nd0) (hP : apE nd0 th (rnx r (last + 1)) = 0 → rpP (psOf lp) (rnx r (last + 1)) = P (apN nd0 th (rnx r (last + 1))))
    (hfi0 : ∀ W, Slots W a c lp → Calls Tryz.prog 63 #[.slice a n c, .int .i64 r.page] W fun e w' => e = .returned (.tuple #[(.agg #[.int .i64 nd0.lev, .int .i64 nd0.lsn, .int .i64 nd0.rgt, .string nd0.high, .slice pt0.k nd0.keys.length pt0.kc, .slice pt0.v nd0.vals.length pt0.vc, .slice pt0.i nd0.kids.length pt0.ic]), .bool th]) ∧ Fr (fun _ => False) W w')
    (hnd0 : ∀ W, Sv W (.slice a n c) lp → Nod W nd0 pt0)
    (hwi0 : ∀ m q W, Sv W (.slice a n c) lp → Nod W m q → Off (fun k => (Value.slice a n c).ownBlock = some k) m q → Calls Tryz.prog 65 #[.slice a n c, .int .i64 r.page, (.agg #[.int .i64 m.lev, .int .i64 m.lsn, .int .i64 m.rgt, .string m.high, .slice q.k m.keys.length q.kc, .slice q.v m.vals.length q.vc, .slice q.i m.kids.length q.ic])] W fun e w' => ∃ a' n' c' lp', e = .returned (.slice a' n' c') ∧ n' = lp'.length ∧ psOf lp' = P m ∧ (∀ s ∈ lp', s ∈ lp ∨ s = ⟨r.page, m, q⟩) ∧ Sv w' (.slice a' n' c') lp' ∧ Fr (fun k => (Value.slice a n c).ownBlock = some k) W w' ∧ ((Value.slice a' n' c').ownBlock = (Value.slice a n c).ownBlock ∨ ∃ g, (Value.slice a' n' c').ownBlock = some g ∧ W.heap.size ≤ g))
    (w : World) (h : TrS w tb mb a n c lp last) :
    Calls Tryz.prog 14 #[.pointer (some ⟨tb, 0, none⟩), (.agg #[.int .i64 r.lsn, .int .i64 r.ep, .int .i64 r.kind, .int .i64 r.page, .int .i64 r.other, .int .i64 r.req, .string r.key, .string r.val])] w fun e w' => SayOut w tb mb a n c lp last r e w' := by
  have hE : rpE (psOf lp) (rnx r (last + 1)) = if apE nd0 th (rnx r (last + 1)) = 1 then 0 else apE nd0 th (rnx r (last + 1)) := by
    unfold rpE; rw [show (rnx r (last + 1)).page = r.page from rfl, hh, hn0]
  by_cases h0 : apE nd0 th (rnx r (last + 1)) = 0
  · have hd := fun W hW => do_put (rnx r (last + 1)) hkz hvz tb mb a n c lp last nd0 pt0 th P h0 hfi0 hnd0 hwi0 W hW
    refine (say_put r tb mb a n c lp last hl _ _ hd w h).mono ?_
    rintro e w' ⟨a', n', c', lp', rfl, h1, h2, h3, h4⟩
    exact .inl ⟨by rw [hE, h0]; rfl, a', n', c', lp', rfl, by rw [hP h0]; exact h1, h2, h3, h4⟩
  · have hd := fun W hW => do_non (rnx r (last + 1)) hkz hvz tb mb a n c lp last nd0 pt0 th h0 hfi0 hnd0 W hW
    by_cases h1 : apE nd0 th (rnx r (last + 1)) = 1
    · rw [if_pos h1] at hd hE
      have hd2 : ∀ W, TrS W tb mb a n c lp last → Calls Tryz.prog 31 #[.pointer (some ⟨tb, 0, none⟩), (.agg #[.int .i64 (rnx r (last + 1)).lsn, .int .i64 (rnx r (last + 1)).ep, .int .i64 (rnx r (last + 1)).kind, .int .i64 (rnx r (last + 1)).page, .int .i64 (rnx r (last + 1)).other, .int .i64 (rnx r (last + 1)).req, .string (rnx r (last + 1)).key, .string (rnx r (last + 1)).val])] W fun e w' => ∃ q a' n' c' lp', e = .returned (.int .i64 0) ∧ Nw W q ∧ psOf lp' = psOf lp ∧ (∀ s ∈ lp', s ∈ lp ∨ s = ⟨r.page, zn, q⟩) ∧ TrS w' tb mb a' n' c' lp' last ∧ Fr (fun k => (Value.slice a n c).ownBlock = some k ∨ k = tb ∨ k = mb) W w' ∧ ((Value.slice a' n' c').ownBlock = (Value.slice a n c).ownBlock ∨ ∃ g, (Value.slice a' n' c').ownBlock = some g ∧ W.heap.size ≤ g) := fun W hW => (hd W hW).mono (fun e w' ⟨he, f⟩ => ⟨zp, a, n, c, lp, he, zp_nw _, rfl, fun s hs => .inl hs, hW.same f, f.widen (fun _ x => x.elim), .inl rfl⟩)
      refine (say_put r tb mb a n c lp last hl _ _ hd2 w h).mono ?_
      rintro e w' ⟨a', n', c', lp', rfl, g1, g2, g3, g4⟩
      refine .inl ⟨hE, a', n', c', lp', rfl, ?_, g2, g3, g4⟩
      rw [g1]
      exact (rp_arg (ps := psOf lp) (r := rnx r (last + 1)) hh hn0 h1).2.symm
    · rw [if_neg h1] at hd hE
      refine (say_no r tb mb a n c lp last hl _ h0 hd w h).mono ?_
      rintro e w' ⟨rfl, f⟩
      exact .inr ⟨by rw [hE]; exact h0, by rw [hE], f⟩
theorem say_any (r : Rec) (hkz : r.key.size ≤ 140737488351232) (hvz : r.val.size ≤ 140737488351232) (tb mb : Nat) (a : Option Addr) (n c : Nat) (lp : List Sl) (last : Int) (hl : 0 ≤ last ∧ last ≤ 4611686018427387904) (hps : PsOk (psOf lp)) (w : World) (h : TrS w tb mb a n c lp last) :
    Calls Tryz.prog 14 #[.pointer (some ⟨tb, 0, none⟩), (.agg #[.int .i64 r.lsn, .int .i64 r.ep, .int .i64 r.kind, .int .i64 r.page, .int .i64 r.other, .int .i64 r.req, .string r.key, .string r.val])] w fun e w' => SayOut w tb mb a n c lp last r e w' := by
  have hr := hps.rise
  have hf : lp.length ≤ 4096 := by have := hps.few; rwa [ps_length] at this
  cases hb : hasB lp r.page
  · have hh : hasP (psOf lp) r.page = false := by rw [← has_ps]; exact hb
    have hn0 : nodeP (psOf lp) r.page = zn := by unfold nodeP; rw [hh]; rfl
    refine say_core r hkz hvz tb mb a n c lp last hl zn zp false (fun m => (psOf lp).take (ahead lp r.page) ++ (r.page, m) :: (psOf lp).drop (ahead lp r.page)) hh hn0 ?_ ?_ (fun W _ => zn_nod W) ?_ w h
    · intro h0
      have := (rp_ins (ps := psOf lp) (r := rnx r (last + 1)) hh hn0 h0).2
      rw [this, ah_ps]; rfl
    · intro W hs
      exact bfind_no (bfind_any a n c lp h.len (by omega) hr r.page W hs) hb
    · intro m q W hS hN hO
      refine (bwith_no a n c lp r.page m q h.len (by omega) hr hb W hS hN hO).mono ?_
      rintro e w' ⟨a', c', rfl, hsv, f, hat⟩
      refine ⟨a', n + 1, c', _, rfl, ?_, ps_ins _ _ _, ?_, hsv, f, hat⟩
      · have := h.len; have := ahead_le lp r.page; simp; omega
      · intro s hs
        rw [List.mem_append, List.mem_cons] at hs
        rcases hs with hs | rfl | hs
        · exact .inl (List.mem_of_mem_take hs)
        · exact .inr rfl
        · exact .inl (List.mem_of_mem_drop hs)
  · obtain ⟨s, hs, hsx⟩ := has_some hb
    have hh : hasP (psOf lp) r.page = true := by rw [← has_ps]; exact hb
    have hn0 : nodeP (psOf lp) r.page = s.nd := by
      unfold nodeP
      rw [hh, if_pos rfl, ← ah_ps]
      unfold psOf
      rw [List.getElem?_map, hs]; rfl
    refine say_core r hkz hvz tb mb a n c lp last hl s.nd s.pt true (fun m => (psOf lp).set (ahead lp r.page) (r.page, m)) hh hn0 ?_ ?_ (fun W hS => hS.nod s (List.mem_of_getElem? hs)) ?_ w h
    · intro h0
      have := (rp_set (ps := psOf lp) (r := rnx r (last + 1)) hh hn0 h0).2
      rw [this, ah_ps]; rfl
    · intro W hS
      exact bfind_yes (bfind_any a n c lp h.len (by omega) hr r.page W hS) hb hs
    · intro m q W hS hN hO
      refine (bwith_yes a n c lp r.page m q h.len (by omega) hr hb W hS hN hO).mono ?_
      rintro e w' ⟨rfl, hsv, f⟩
      refine ⟨a, n, c, _, rfl, by rw [List.length_set]; exact h.len, ps_set _ _ _, ?_, hsv, f, .inl rfl⟩
      intro x hx
      rcases List.mem_or_eq_of_mem_set hx with hx | rfl
      · exact .inl hx
      · exact .inr rfl
end Go.Proofs.YtnooogjcajlodaaGreat

/- Sizes of a tree's nodes through what it says. -/
namespace Go.Proofs.YtnooogjcajlodaaGreat
open Go.RowKit

/-- A node whose lists are not long. -/
def Few (n : Nd) : Prop := n.keys.length ≤ 100000 ∧ n.vals.length ≤ 100000 ∧ n.kids.length ≤ 100000
theorem few_zn : Few zn := by unfold Few zn; simp
theorem few_rt {n : Nd} (h : rightB n = true) : Few n := rt_few ((right_iff n).1 h)
theorem few_fit {n : Nd} (h : fitE n = 0) : Few n := by
  refine few_rt ?_
  unfold fitE at h
  by_cases e : rightB n = true
  · exact e
  · rw [if_neg e] at h; cases h
theorem few_ok {e : Int} {m : Nd} (h : e = 0 → Few m) : Few (okN e m) := by
  unfold okN
  by_cases h0 : e = 0
  · rw [if_pos h0]; exact h h0
  · rw [if_neg h0]; exact few_zn
theorem few_ch (n : Nd) (r : Rec) (hn : Few n) : Few (chN n r) := by
  unfold chN
  split
  · refine few_ok (fun h => few_fit ?_)
    unfold putE at h
    split at h
    · exact h
    · rename_i h0; exact absurd h h0
  split
  · refine few_ok (fun _ => ?_)
    unfold delN delTo Few
    have h1 := erTo_len (plc (bsOf r.key) n.keys).2 (plc (bsOf r.key) n.keys).1 n.keys.length n.keys
    have h2 := erTo_len (plc (bsOf r.key) n.keys).2 (plc (bsOf r.key) n.keys).1 n.keys.length n.vals
    have h3 := hn.1
    refine ⟨?_, ?_, ?_⟩
    · show (erTo _ _ _ _).length ≤ _; omega
    · show (erTo _ _ _ _).length ≤ _; omega
    · show ([] : List Int).length ≤ _; simp
  split
  · refine few_ok (fun _ => ?_)
    obtain ⟨h1, h2, h3⟩ := hn
    unfold leftN pieceN Few
    refine ⟨?_, ?_, ?_⟩
    · simp; omega
    · dsimp only; split
      · simp; omega
      · simp
    · dsimp only; split
      · simp
      · simp; omega
  split
  · refine few_ok (fun h => few_fit ?_)
    unfold postE at h
    split at h
    · unfold postF at h
      split at h
      · cases h
      · exact h
    · rename_i h0; exact absurd h h0
  · cases hd : decF (bsOf r.val) with
    | none => exact few_zn
    | some m =>
      refine few_rt ?_
      unfold decF at hd
      split at hd
      · rename_i hc
        simp only [Option.some.injEq] at hd
        subst hd
        exact hc.2.2.2.2
      · cases hd
theorem few_ap (n : Nd) (b : Bool) (r : Rec) (hn : Few n) : Few (apN n b r) := by
  unfold apN
  split
  · split
    · exact hn
    · split
      · exact few_ch n r hn
      · exact few_zn
  · exact few_zn
theorem few_node {ps : List (Int × Nd)} (h : ∀ p ∈ ps, Few p.2) (x : Int) : Few (nodeP ps x) := by
  unfold nodeP
  split
  · cases hp : ps[ahP ps x]? with
    | none => exact few_zn
    | some p => exact h p (List.mem_of_getElem? hp)
  · exact few_zn
theorem few_step {ps : List (Int × Nd)} (h : ∀ p ∈ ps, Few p.2) (r : Rec) : ∀ p ∈ rpP ps r, Few p.2 := by
  intro p hp
  unfold rpP at hp
  split at hp
  · exact h p hp
  · split at hp
    · split at hp
      · rcases List.mem_or_eq_of_mem_set hp with hp | rfl
        · exact h p hp
        · exact few_ap _ _ _ (few_node h _)
      · rw [List.mem_append, List.mem_cons] at hp
        rcases hp with hp | rfl | hp
        · exact h p (List.mem_of_mem_take hp)
        · exact few_ap _ _ _ (few_node h _)
        · exact h p (List.mem_of_mem_drop hp)
    · cases hp
theorem few_ari {ps : List (Int × Nd)} (h : ariB 0 ps = true) : ∀ p ∈ ps, Few p.2 := fun p hp => few_rt ((ari_ok 0 ps h).2.2 p hp)
theorem rp_lsn {ps : List (Int × Nd)} {r : Rec} (h : rpE ps r = 0) : 1 ≤ r.lsn ∧ r.lsn ≤ 1099511627776 := by
  cases hr : rok r
  · have h1 : preE (nodeP ps r.page) (hasP ps r.page) r = 90 := by
      unfold preE
      simp only [firstE, erec_no hr]
      rw [if_neg (by decide)]
    have h2 := (ap_err h1 (by decide)).2.2
    unfold rpE at h
    rw [h2, if_neg (by decide)] at h
    cases h
  · unfold rok wthB at hr
    simp only [Bool.and_eq_true, decide_eq_true_eq] at hr
    exact hr.1
theorem rpl_snoc {rs : List Rec} : ∀ {ps qs : List (Int × Nd)} {r : Rec}, rplP ps rs = (qs, 0) → rpE qs r = 0 → rplP ps (rs ++ [r]) = (rpP qs r, 0) := by
  induction rs with
  | nil =>
    intro ps qs r h h0
    simp only [rplP, Prod.mk.injEq, and_true] at h
    subst h
    simp only [List.nil_append, rplP]
    rw [if_pos h0]
  | cons x xs ih =>
    intro ps qs r h h0
    simp only [List.cons_append, rplP] at h ⊢
    by_cases e : rpE ps x = 0
    · rw [if_pos e] at h ⊢
      exact ih h h0
    · rw [if_neg e] at h
      simp only [Prod.mk.injEq] at h
      exact absurd h.2 e
theorem mx_in {l : List Sl} : ∀ {m : Int}, 0 ≤ m → m ≤ 1099511627776 → (∀ s ∈ l, 0 ≤ s.nd.lsn ∧ s.nd.lsn ≤ 1099511627776) → 0 ≤ l.foldl (fun m s => mx m s.nd.lsn) m ∧ l.foldl (fun m s => mx m s.nd.lsn) m ≤ 1099511627776 := by
  induction l with
  | nil => intro m h0 h1 _; exact ⟨h0, h1⟩
  | cons s l ih =>
    intro m h0 h1 h
    have hs := h s (by simp)
    refine ih ?_ ?_ (fun t ht => h t (by simp [ht]))
    · show 0 ≤ max m s.nd.lsn; omega
    · show max m s.nd.lsn ≤ _; omega
theorem maxL_in {ls : List Sl} (h : ariB 0 (psOf ls) = true) : 0 ≤ maxL ls ∧ maxL ls ≤ 1099511627776 := by
  refine mx_in (by omega) (by omega) (fun s hs => ?_)
  have := (right_iff s.nd).1 ((ari_ok 0 _ h).2.2 (s.page, s.nd) (List.mem_map.2 ⟨s, hs, rfl⟩))
  exact ⟨this.lsn0, this.lsn1⟩
theorem Has.strsF {w : World} {v : Value} {l : List ByteArray} (h : Has w 1 v l.length (strCells l)) (hs : ∀ s ∈ l, s.size ≤ maxLen) : ∃ a c, v = .slice a l.length c ∧ Strs w a c l := by
  rcases h.2 with ⟨rfl, h0⟩ | ⟨g, cap, rfl, hg, h1, h2, h3, h4⟩
  · have : l = [] := List.eq_nil_of_length_eq_zero h0
    subst this
    exact ⟨none, 0, rfl, by simp, by omega, hs, .inl rfl⟩
  · refine ⟨_, cap, rfl, h1, by unfold maxLen at h2; omega, hs, .inr ⟨g, 0, rfl, hg, fun i hi => ?_⟩⟩
    exact h4 i _ (by simp [strCells, List.getD_eq_getElem?_getD, hi])
theorem cp_nodF {w0 w w' : World} {n : Nd} {p : Pt} {e : Ending} (h : CpOut n w e w') (hn : Nod w0 n p) : ∃ q : Pt, e = .returned (.agg #[.int .i64 n.lev, .int .i64 n.lsn, .int .i64 n.rgt, .string n.high, .slice q.k n.keys.length q.kc, .slice q.v n.vals.length q.vc, .slice q.i n.kids.length q.ic]) ∧ Nod w' n q ∧ Nw w q ∧ Fr (fun _ => False) w w' := by
  obtain ⟨ak, ck, av, cv, ai, ci, rfl, hk, hv, hi, ok, ov, oi, _, _, _, f⟩ := h
  obtain ⟨a1, c1, e1, s1⟩ := hk.strsF hn.keys.text
  obtain ⟨a2, c2, e2, s2⟩ := hv.strsF hn.vals.text
  obtain ⟨a3, c3, e3, s3⟩ := hi.ints
  simp only [Value.slice.injEq, true_and] at e1 e2 e3
  obtain ⟨rfl, rfl⟩ := e1
  obtain ⟨rfl, rfl⟩ := e2
  obtain ⟨rfl, rfl⟩ := e3
  refine ⟨⟨ak, ck, av, cv, ai, ci⟩, rfl, ⟨s1, s2, s3, hn.high, hn.ksz, hn.vsz, hn.klen, hn.vlen, hn.ilen⟩, ?_, f⟩
  rintro b off (hx | hx | hx)
  · dsimp only at hx; subst hx; exact ok b rfl
  · dsimp only at hx; subst hx; exact ov b rfl
  · dsimp only at hx; subst hx; exact oi b rfl

set_option maxRecDepth 100000 in
set_option maxHeartbeats 8000000 in
theorem bcopied_few (a : Option Addr) (n c : Nat) (ls : List Sl) (hn : n = ls.length) (hf : n ≤ 100000) (hs : ∀ s ∈ ls, Few s.nd) (w : World) (h : Slots w a c ls) :
    Calls Tryz.prog 24 #[.slice a n c] w fun e w' => ∃ b cb lp, e = .returned (.slice b n cb) ∧ n = lp.length ∧ psOf lp = psOf ls ∧ Sv w' (.slice b n cb) lp ∧ Fr (fun _ => False) w w' ∧ ∀ g, (Value.slice b n cb).ownBlock = some g → w.heap.size ≤ g := by
  have hcl := bclone8 a n c ls w h hn (by omega)
  have HN : Hid (n = ls.length) := hn
  have HSM : Hid (∀ p ∈ psOf ls, Few p.2) := fun p hp => by
    obtain ⟨s, hs', rfl⟩ := List.mem_map.1 hp
    exact hs s hs'
  clear h hn hs
  unfold SvOut at hcl
  go_enter Tryz.func24, Tryz.ntmps24
  go_wp2_with fail
  refine hcl.mono ?_
  rintro e w2 ⟨b, cb, rfl, hsv, f2, hnew⟩
  rw [← HN.out] at hsv hnew ⊢
  have hnc : n ≤ cb ∧ cb ≤ 9223372036854775807 := by
    obtain ⟨a', c', he, h1, h2⟩ := hsv.has.slice
    rw [← HN.out] at he
    simp only [Value.slice.injEq, true_and] at he
    obtain ⟨rfl, rfl⟩ := he
    unfold maxLen at h2
    have := HN.out
    exact ⟨by omega, h2⟩
  have HSV : Hid (Sv w2 (.slice b n cb) ls) := hsv
  have HNW : Hid (∀ k, (Value.slice b n cb).ownBlock = some k → w.heap.size ≤ k) := hnew
  clear hcl hsv hnew
  go_wp2
  go_loopw [8] (fun i wr => ∃ (k : Nat) (lp : List Sl), k ≤ n ∧ i = .int .i64 k ∧ Hid (psOf lp = psOf ls) ∧ Hid (Sv wr (.slice b n cb) lp) ∧ Fr (fun k => (Value.slice b n cb).ownBlock = some k) w2 wr) (fun i _ => n - (RowKit.intOf i).toNat)
  case atStart => exact ⟨0, ls, by omega, rfl, rfl, HSV.out, Fr.refl _ _⟩
  case round =>
    obtain ⟨k, lp, hk, rfl, HP, HS, F⟩ := hrel
    have hln : n = lp.length := by have := congrArg List.length HP.out; rw [ps_length, ps_length] at this; have := HN.out; omega
    by_cases hlt : k < n
    · obtain ⟨s, hs⟩ : ∃ s, lp[k]? = some s := ⟨_, List.getElem?_eq_getElem (by omega)⟩
      obtain ⟨g, c3, e0, hg, _, _, hth, _⟩ := HS.out.has.form (by omega)
      rw [← hln] at e0
      simp only [Value.slice.injEq, true_and] at e0
      obtain ⟨rfl, rfl⟩ := e0
      have HLN : Hid (n = lp.length) := hln
      have hR : Few s.nd := by
        refine HSM.out (s.page, s.nd) ?_
        rw [← HP.out]
        exact List.mem_map.2 ⟨s, List.mem_of_getElem? hs, rfl⟩
      have hfw := hR
      have HND : Hid (Nod wr s.nd s.pt) := HS.out.nod s (List.mem_of_getElem? hs)
      have hcp := bk_copied s.nd s.pt hfw.1 hfw.2.1 hfw.2.2 wr (HS.out.nod s (List.mem_of_getElem? hs))
      have HE : Hid (∀ W, Fr (fun _ => False) wr W → W.rangeAt g (k * 8) (slC s)) := fun W f => by have := (HS.out.same f).has; rw [← HLN.out] at this; exact this.elem slC_length hs
      have HFZ : Hid (∀ W, Fr (fun _ => False) wr W → ∀ j, j < 8 → W.frozen? ⟨g, k * 8 + j, none⟩ = false) := fun W f j hj => by
        obtain ⟨g3, c3, e3, _, _, _, hth, _⟩ := (HS.out.same f).has.form (by have := HLN.out; omega)
        rw [← HLN.out] at e3
        simp only [Value.slice.injEq, Option.some.injEq, Addr.mk.injEq, and_true, true_and] at e3
        obtain ⟨rfl, rfl⟩ := e3
        have := (hth (k * 8 + j) (by have := HLN.out; omega)).2
        rwa [Nat.zero_add] at this
      obtain ⟨q0, q1, q2, q3, q4, q5, q6, q7⟩ := sl_range (HE.out _ (Fr.refl _ wr))
      have HSS : Hid (lp[k]? = some s) := hs
      have hki : (k : Int) < (n : Int) := by omega
      have hncb := hnc.1
      have hcm := hnc.2
      clear hs hth hln hnc
      go_wp2_with fail
      refine hcp.mono ?_
      intro e w3 ho3
      obtain ⟨q, rfl, ndq, hnw, f3⟩ := cp_nodF ho3 HND.out
      clear hcp ho3 q0 q1 q2 q3 q4 q5 q6 q7
      obtain ⟨q0, q1, q2, q3, q4, q5, q6, q7⟩ := sl_range (HE.out _ f3)
      have hfz := HFZ.out _ f3
      have y1 := hfz 1 (by omega); have y2 := hfz 2 (by omega); have y3 := hfz 3 (by omega); have y4 := hfz 4 (by omega); have y5 := hfz 5 (by omega); have y6 := hfz 6 (by omega); have y7 := hfz 7 (by omega)
      have HFIN : Hid (Sv (w3.setCells g (k * 8 + 1) [.int .i64 s.nd.lev, .int .i64 s.nd.lsn, .int .i64 s.nd.rgt, .string s.nd.high, .slice q.k s.nd.keys.length q.kc, .slice q.v s.nd.vals.length q.vc, .slice q.i s.nd.kids.length q.ic]) (.slice (some ⟨g, 0, none⟩) n cb) (lp.set k ⟨s.page, s.nd, q⟩)) := (HS.out.same f3).set HLN.out HSS.out s.nd q ndq (hnw.off (fun b hb e => by omega))
      have HFF : Hid (Fr (fun k => (Value.slice (some ⟨g, 0, none⟩) n cb).ownBlock = some k) w2 (w3.setCells g (k * 8 + 1) [.int .i64 s.nd.lev, .int .i64 s.nd.lsn, .int .i64 s.nd.rgt, .string s.nd.high, .slice q.k s.nd.keys.length q.kc, .slice q.v s.nd.vals.length q.vc, .slice q.i s.nd.kids.length q.ic])) := (F.trans f3 (fun _ _ f => f.elim)).trans (Fr.setCells (S := fun k => k = g) (fun _ => rfl) _ _ (Fr.refl _ w3)) (fun k _ e => by rw [e]; rfl)
      have HPP : Hid (psOf (lp.set k ⟨s.page, s.nd, q⟩) = psOf ls) := by
        show _ = _
        rw [ps_set, ← HP.out]
        unfold psOf
        apply List.ext_getElem?
        intro j
        rw [List.getElem?_set]
        split
        · rename_i hj
          subst hj
          rw [if_pos (by have := HLN.out; simp; omega), List.getElem?_map, HSS.out]
          rfl
        · rfl
      clear hfz ndq hnw
      go_wp2
      go_roundw
      case rel => exact ⟨k + 1, lp.set k ⟨s.page, s.nd, q⟩, by omega, by go_num, HPP, HFIN, HFF.out⟩
      case measure => simp [RowKit.intOf]; omega
    · obtain rfl : k = n := by omega
      have HF : Hid (Fr (fun _ => False) w wr) := f2.trans F (fun i hi e => by have := HNW.out i e; omega)
      have HLN : Hid (k = lp.length) := hln
      clear hln F f2 hnc HSV
      go_wp2
      go_ret
      exact ⟨b, cb, lp, rfl, HLN.out, HP.out, HS.out, HF.out, HNW.out⟩
end Go.Proofs.YtnooogjcajlodaaGreat

/- Pages of a tree; a tree and the records that it said. -/
namespace Go.Proofs.YtnooogjcajlodaaGreat
open Go.RowKit

set_option maxRecDepth 100000 in
set_option maxHeartbeats 2000000 in
theorem tpages_few (tb mb : Nat) (a : Option Addr) (n c : Nat) (lp : List Sl) (last : Int) (hf : n ≤ 100000) (hs : ∀ p ∈ psOf lp, Few p.2) (w : World) (h : TrS w tb mb a n c lp last) :
    Calls Tryz.prog 18 #[.pointer (some ⟨tb, 0, none⟩)] w fun e w' => ∃ b cb l2, e = .returned (.slice b n cb) ∧ n = l2.length ∧ psOf l2 = psOf lp ∧ Sv w' (.slice b n cb) l2 ∧ Fr (fun _ => False) w w' := by
  have ha := all_some tb a n c mb last w h.tr
  have hc := fun W f => bcopied_few a n c lp h.len hf (fun s hx => hs (s.page, s.nd) (List.mem_map.2 ⟨s, hx, rfl⟩)) W ((h.same f).sv.slots h.len)
  clear h hs
  go_enter Tryz.func18, Tryz.ntmps18
  go_wp2_with fail
  refine ha.mono ?_
  rintro e w1 ⟨rfl, f1⟩
  go_wp2_with fail
  refine (hc _ f1).mono ?_
  rintro e w2 ⟨b, cb, l2, rfl, h1, h2, h3, f2, h4⟩
  have HX : Hid (n = l2.length ∧ psOf l2 = psOf lp ∧ Sv w2 (.slice b n cb) l2) := ⟨h1, h2, h3⟩
  clear h1 h2 h3 h4 hc ha
  go_wp2
  go_ret
  exact ⟨b, cb, l2, rfl, HX.out.1, HX.out.2.1, HX.out.2.2, f1.seq' f2⟩
theorem Has.recsB {w : World} {a : Option Addr} {n c : Nat} {ls : List Rec} (hn : n = ls.length) (h : Has w 8 (.slice a n c) n (ls.flatMap recC)) : Recs w a c ls := by
  subst hn
  obtain ⟨a', c', he, h1, h2⟩ := h.slice
  simp only [Value.slice.injEq, true_and] at he
  obtain ⟨rfl, rfl⟩ := he
  refine ⟨h1, by unfold maxLen at h2; exact h2, ?_⟩
  by_cases h0 : ls.length = 0
  · exact .inl (List.length_eq_zero_iff.1 h0)
  · obtain ⟨g, cap, hv, hg, _⟩ := h.form (by omega)
    simp only [Value.slice.injEq, true_and] at hv
    obtain ⟨rfl, rfl⟩ := hv
    refine .inr ⟨g, 0, rfl, hg, fun i m hm => ?_⟩
    rw [Nat.zero_add]
    exact h.elem recC_length hm

/-- A tree that began with pages, and the records that it said since. -/
structure Spk (w wr : World) (tb mb : Nat) (ls : List Sl) (sv : Value) (m : Nat) (L : List Rec) (a : Option Addr) (n c : Nat) (lp : List Sl) (last : Int) : Prop where
  tr : TrS wr tb mb a n c lp last
  has : Has wr 8 sv m (L.flatMap recC)
  len : m = L.length
  new : ∀ g, sv.ownBlock = some g → w.heap.size ≤ g ∧ g ≠ tb ∧ g ≠ mb ∧ (Value.slice a n c).ownBlock ≠ some g
  off : ∀ s ∈ lp, Off (fun k => sv.ownBlock = some k) s.nd s.pt
  tnew : ∀ g, (Value.slice a n c).ownBlock = some g → w.heap.size ≤ g
  rpl : rplP (psOf ls) L = (psOf lp, 0)
  ok : PsOk (psOf lp)
  few : ∀ p ∈ psOf lp, Few p.2
  lst : 0 ≤ last ∧ last ≤ 1099511627776
  sz : ∀ r ∈ L, r.key.size ≤ 140737488351232 ∧ r.val.size ≤ 140737488351232
  tbn : w.heap.size ≤ tb
  mbn : w.heap.size ≤ mb
theorem Spk.same {w wr : World} {tb mb : Nat} {ls : List Sl} {sv : Value} {m : Nat} {L : List Rec} {a : Option Addr} {n c : Nat} {lp : List Sl} {last : Int} {W : World} (h : Spk w wr tb mb ls sv m L a n c lp last) (f : Fr (fun _ => False) wr W) : Spk w W tb mb ls sv m L a n c lp last :=
  ⟨h.tr.same f, h.has.fr f (fun _ _ f => f), h.len, h.new, h.off, h.tnew, h.rpl, h.ok, h.few, h.lst, h.sz, h.tbn, h.mbn⟩
theorem Spk.mid {w wr : World} {tb mb : Nat} {ls : List Sl} {sv : Value} {m : Nat} {L : List Rec} {a : Option Addr} {n c : Nat} {lp : List Sl} {last : Int} {W W4 : World} (h : Spk w wr tb mb ls sv m L a n c lp last) (f : Fr (fun k => (Value.slice a n c).ownBlock = some k ∨ k = tb ∨ k = mb) wr W) (f4 : Fr (fun _ => False) W W4) : Has W4 8 sv m (L.flatMap recC) :=
  (h.has.fr f (fun k e1 e2 => by
    obtain ⟨_, h1, h2, h3⟩ := h.new k e1
    rcases e2 with e | e | e
    · exact h3 e
    · exact h1 e
    · exact h2 e)).fr f4 (fun _ _ f => f)
theorem Spk.step {w wr : World} {tb mb : Nat} {ls : List Sl} {sv : Value} {m : Nat} {L : List Rec} {a : Option Addr} {n c : Nat} {lp : List Sl} {last : Int} {r : Rec} {a' : Option Addr} {n' c' : Nat} {lp' : List Sl} {w2 W4 w8 : World} {sv' : Value} (h : Spk w wr tb mb ls sv m L a n c lp last) (F : Fr (fun _ => False) w wr) (hz : r.key.size ≤ 140737488351232 ∧ r.val.size ≤ 140737488351232)
    (h0 : rpE (psOf lp) (rnx r (last + 1)) = 0) (hps : psOf lp' = rpP (psOf lp) (rnx r (last + 1))) (ht : TrS w2 tb mb a' n' c' lp' (last + 1)) (f : Fr (fun k => (Value.slice a n c).ownBlock = some k ∨ k = tb ∨ k = mb) wr w2)
    (hat : (Value.slice a' n' c').ownBlock = (Value.slice a n c).ownBlock ∨ ∃ g, (Value.slice a' n' c').ownBlock = some g ∧ wr.heap.size ≤ g) (hnw : ∀ s ∈ lp', s ∈ lp ∨ Nw wr s.pt) (f4 : Fr (fun _ => False) w2 W4) (f8 : Fr (fun k => sv.ownBlock = some k ∧ 0 < 1) W4 w8)
    (hh : Has w8 8 sv' (m + 1) ((L ++ [rnx r (last + 1)]).flatMap recC)) (hat8 : sv'.ownBlock = sv.ownBlock ∨ sv'.ownBlock = some W4.heap.size) :
    Spk w w8 tb mb ls sv' (m + 1) (L ++ [rnx r (last + 1)]) a' n' c' lp' (last + 1) ∧ Fr (fun _ => False) w w8 := by
  have hF := F.size
  have hz2 := f.size
  have hz4 := f4.size
  have hlt : ∀ g, sv.ownBlock = some g → g < wr.heap.size := fun g e => h.has.lt e
  have htl : tb < w2.heap.size := lt_of_block ht.tr.box
  have hml : mb < w2.heap.size := by obtain ⟨U, hU⟩ := ht.tr.map; exact hU.lt
  have hne : ∀ g, sv.ownBlock = some g → (Value.slice a' n' c').ownBlock ≠ some g := fun g e e2 => by
    rcases hat with h1 | ⟨g', h1, hg⟩
    · rw [h1] at e2; exact (h.new g e).2.2.2 e2
    · rw [h1] at e2; have := Option.some.inj e2; have := hlt g e; omega
  have hoff : ∀ s ∈ lp', Off (fun k => sv.ownBlock = some k) s.nd s.pt := fun s hs => by
    rcases hnw s hs with hx | hx
    · exact h.off s hx
    · exact hx.off (fun b hb e => by have := hlt b e; omega)
  have ht4 := ht.same f4
  have ht8 := ht4.frS f8 (fun e => (h.new _ e.1).2.1 rfl) (fun e => (h.new _ e.1).2.2.1 rfl) (fun g e e2 => hne g e2.1 e) (fun s hs => (hoff s hs).sub (fun k e => e.1))
  have hl := rp_lsn h0
  have hl2 : 1 ≤ last + 1 ∧ last + 1 ≤ 1099511627776 := hl
  refine ⟨⟨ht8, hh, ?_, ?_, ?_, ?_, ?_, ?_, ?_, ?_, ?_, h.tbn, h.mbn⟩, ?_⟩
  · rw [List.length_append, ← h.len]; rfl
  · intro g e
    rcases hat8 with h1 | h1
    · rw [h1] at e
      obtain ⟨x1, x2, x3, _⟩ := h.new g e
      exact ⟨x1, x2, x3, hne g e⟩
    · rw [h1] at e
      have := Option.some.inj e
      refine ⟨by omega, by omega, by omega, fun e2 => ?_⟩
      have := ht.sv.has.lt e2
      omega
  · intro s hs
    rcases hat8 with h1 | h1
    · exact (hoff s hs).sub (fun k e => by rw [← h1]; exact e)
    · exact (ht.sv.nod s hs).far (fun b hb e => by rw [h1] at e; have := Option.some.inj e; omega)
  · intro g e
    rcases hat with h1 | ⟨g', h1, hg⟩
    · rw [h1] at e; exact h.tnew g e
    · rw [h1] at e; have := Option.some.inj e; omega
  · rw [hps]; exact rpl_snoc h.rpl h0
  · rw [hps]; exact h.ok.step _ h0
  · rw [hps]; exact few_step h.few _
  · omega
  · intro x hx
    rw [List.mem_append, List.mem_singleton] at hx
    rcases hx with hx | rfl
    · exact h.sz x hx
    · exact hz
  · have g2 : Fr (fun _ => False) w w2 := F.trans f (fun i hi e => by
      have := h.tbn; have := h.mbn
      rcases e with e | e | e
      · have := h.tnew i e; omega
      · omega
      · omega)
    exact (g2.seq' f4).trans f8 (fun i hi e => by have := (h.new i e.1).1; omega)
end Go.Proofs.YtnooogjcajlodaaGreat

/- Pages as the document's answer has them. -/
namespace Go.Proofs.YtnooogjcajlodaaGreat
open Go.RowKit

set_option maxRecDepth 100000 in
set_option maxHeartbeats 4000000 in
theorem bpages_any (a : Option Addr) (n c : Nat) (ls : List Sl) (hn : n = ls.length) (hf : n ≤ 100000) (w : World) (h : Slots w a c ls) :
    Calls Tryz.prog 17 #[.slice a n c] w fun e w' => SvOut w ls e w' := by
  obtain ⟨iR, hiR, hR0, hR1, hR2⟩ := info_parts infoZl
  have hle : n ≤ c := by rw [hn]; exact h.le
  have hmx := h.max
  have hnod := h.nod
  have HND : Hid (∀ s ∈ ls, Nod w s.nd s.pt) := hnod
  have HS : Hid (∀ W, Fr (fun _ => False) w W → Slots W a c ls) := fun W f => h.same f
  have HN : Hid (n = ls.length) := hn
  clear h hn hnod
  go_enter Tryz.func17, Tryz.ntmps17
  go_wp2
  go_loopw [8, 3] (fun i o wr => ∃ (k : Nat) (a' : Option Addr) (c' : Nat), k ≤ n ∧ i = .int .i64 k ∧ o = .slice a' k c' ∧ Hid (Has wr 8 (.slice a' k c') k ((ls.take k).flatMap slC)) ∧ Hid (∀ g, (Value.slice a' k c').ownBlock = some g → w.heap.size ≤ g) ∧ Fr (fun _ => False) w wr) (fun i _ _ => n - (intOf i).toNat)
  case atStart => exact ⟨0, none, 0, by omega, rfl, rfl, Has.nil _ _, (fun g e => by cases e), Fr.refl _ _⟩
  case round =>
    obtain ⟨k, a', c', hk, rfl, rfl, HH, HO, F⟩ := hrel
    by_cases hlt : k < n
    · obtain ⟨r, hr⟩ : ∃ r, ls[k]? = some r := ⟨_, List.getElem?_eq_getElem (by have := HN.out; omega)⟩
      obtain ⟨bb, off, rfl, hbb, hcc⟩ := (HS.out _ F).some (by have := HN.out; omega)
      obtain ⟨q0, q1, q2, q3, q4, q5, q6, q7⟩ := sl_range (hcc k r hr)
      have hki : (k : Int) < (n : Int) := by omega
      have HTK : Hid (ls.take (k + 1) = ls.take k ++ [r]) := take_snocR hr
      have P6 := (Fr.box wr (.cells #[.int .i64 r.page, .int .i64 r.nd.lev, .int .i64 r.nd.lsn, .int .i64 r.nd.rgt, .string r.nd.high, .slice r.pt.k r.nd.keys.length r.pt.kc, .slice r.pt.v r.nd.vals.length r.pt.vc, .slice r.pt.i r.nd.kids.length r.pt.ic] 61)).alloc (.cells #[.int .i64 r.page, .int .i64 r.nd.lev, .int .i64 r.nd.lsn, .int .i64 r.nd.rgt, .string r.nd.high, .slice r.pt.k r.nd.keys.length r.pt.kc, .slice r.pt.v r.nd.vals.length r.pt.vc, .slice r.pt.i r.nd.kids.length r.pt.ic] 66)
      have hrow := HH.out.fr P6 (fun _ _ f => f)
      have FF := F.seq' P6
      have HNE : Hid (From ((wr.alloc (.cells #[.int .i64 r.page, .int .i64 r.nd.lev, .int .i64 r.nd.lsn, .int .i64 r.nd.rgt, .string r.nd.high, .slice r.pt.k r.nd.keys.length r.pt.kc, .slice r.pt.v r.nd.vals.length r.pt.vc, .slice r.pt.i r.nd.kids.length r.pt.ic] 61)).alloc (.cells #[.int .i64 r.page, .int .i64 r.nd.lev, .int .i64 r.nd.lsn, .int .i64 r.nd.rgt, .string r.nd.high, .slice r.pt.k r.nd.keys.length r.pt.kc, .slice r.pt.v r.nd.vals.length r.pt.vc, .slice r.pt.i r.nd.kids.length r.pt.ic] 66)) (some ⟨wr.heap.size + 1, 0, none⟩) (slC r)) := .inr ⟨_, _, rfl, by
        have := range_block (heap_alloc_new (wr.alloc (.cells #[.int .i64 r.page, .int .i64 r.nd.lev, .int .i64 r.nd.lsn, .int .i64 r.nd.rgt, .string r.nd.high, .slice r.pt.k r.nd.keys.length r.pt.kc, .slice r.pt.v r.nd.vals.length r.pt.vc, .slice r.pt.i r.nd.kids.length r.pt.ic] 61)) (.cells #[.int .i64 r.page, .int .i64 r.nd.lev, .int .i64 r.nd.lsn, .int .i64 r.nd.rgt, .string r.nd.high, .slice r.pt.k r.nd.keys.length r.pt.kc, .slice r.pt.v r.nd.vals.length r.pt.vc, .slice r.pt.i r.nd.kids.length r.pt.ic] 66)) (xs := slC r) (o := 0) (fun j v hv => by rw [Nat.zero_add]; simpa [slC] using hv)
        rwa [show (wr.alloc (.cells #[.int .i64 r.page, .int .i64 r.nd.lev, .int .i64 r.nd.lsn, .int .i64 r.nd.rgt, .string r.nd.high, .slice r.pt.k r.nd.keys.length r.pt.kc, .slice r.pt.v r.nd.vals.length r.pt.vc, .slice r.pt.i r.nd.kids.length r.pt.ic] 61)).heap.size = wr.heap.size + 1 by simp] at this⟩
      have HRW : Hid (Has ((wr.alloc (.cells #[.int .i64 r.page, .int .i64 r.nd.lev, .int .i64 r.nd.lsn, .int .i64 r.nd.rgt, .string r.nd.high, .slice r.pt.k r.nd.keys.length r.pt.kc, .slice r.pt.v r.nd.vals.length r.pt.vc, .slice r.pt.i r.nd.kids.length r.pt.ic] 61)).alloc (.cells #[.int .i64 r.page, .int .i64 r.nd.lev, .int .i64 r.nd.lsn, .int .i64 r.nd.rgt, .string r.nd.high, .slice r.pt.k r.nd.keys.length r.pt.kc, .slice r.pt.v r.nd.vals.length r.pt.vc, .slice r.pt.i r.nd.kids.length r.pt.ic] 66)) 8 (.slice a' k c') k ((ls.take k).flatMap slC)) := hrow
      clear hr hcc hrow P6
      go_wp2_with (at_builtin; refine wpList_append_has _ rfl (.tmp 12) (.tmp 18) 48 48 66 66 rfl iR _ 8 120 Tryz.underlying48 Tryz.underlying48 hiR hR0 hR1 hR2 rfl (by omega) (.slice a' k c') k ((ls.take k).flatMap slC) rfl HRW.out (some ⟨wr.heap.size + 1, 0, none⟩) 1 1 (slC r) rfl rfl HNE.out (slC_one _) (by unfold maxLen; omega) (by omega) ?_; intro a4 c4 w8 ht4 f34 hat4)
      have HT5 : Hid (Has w8 8 (.slice a4 (k + 1) c4) (k + 1) ((ls.take (k + 1)).flatMap slC)) := by
        show Has _ _ _ _ _
        rw [HTK.out, List.flatMap_append]
        simpa using ht4
      have HO5 : Hid (∀ g, (Value.slice a4 (k + 1) c4).ownBlock = some g → w.heap.size ≤ g) := fun g e => by
        have hz := F.size
        rcases hat4 with h1 | h1
        · rw [h1] at e; exact HO.out g e
        · rw [h1] at e; simp at e; omega
      have F5 : Fr (fun _ => False) w w8 := FF.trans f34 (fun i hi e => by have := HO.out i e.1; omega)
      clear ht4 hat4 f34 FF q0 q1 q2 q3 q4 q5 q6 q7 HRW HNE HTK
      go_wp2
      go_roundw
      case rel => exact ⟨k + 1, a4, c4, by omega, by go_num, rfl, HT5, HO5, F5⟩
      case measure => simp [intOf]; omega
    · obtain rfl : k = n := by omega
      have HFIN : Hid (SvOut w ls (.returned (.slice a' k c')) wr) := by
        have hk := HN.out
        subst hk
        have hh := HH.out
        rw [List.take_of_length_le (by omega)] at hh
        exact ⟨a', c', rfl, ⟨hh, fun s hs => (HND.out s hs).same F, fun s hs => (HND.out s hs).far (fun b hb e => by have := HO.out b e; omega)⟩, F, HO.out⟩
      go_wp2
      go_ret
      exact HFIN.out
end Go.Proofs.YtnooogjcajlodaaGreat

/- Equal pages. -/
namespace Go.Proofs.YtnooogjcajlodaaGreat
open Go.RowKit

set_option maxRecDepth 100000 in
set_option maxHeartbeats 4000000 in
theorem bsame_any (a a2 : Option Addr) (n n2 c c2 : Nat) (ls l2 : List Sl) (hn : n = ls.length) (hn2 : n2 = l2.length) (hp : psOf ls = psOf l2) (w : World) (h : Slots w a c ls) (h2 : Slots w a2 c2 l2) :
    Calls Tryz.prog 16 #[.slice a n c, .slice a2 n2 c2] w fun e w' => e = .returned (.bool true) ∧ Fr (fun _ => False) w w' := by
  obtain rfl : n2 = n := by have := congrArg List.length hp; rw [ps_length, ps_length] at this; omega
  have hle : n2 ≤ c := by rw [hn]; exact h.le
  have hmx := h.max
  have hle2 : n2 ≤ c2 := by rw [hn2]; exact h2.le
  have hmx2 := h2.max
  have HS : Hid (∀ W, Fr (fun _ => False) w W → Slots W a c ls) := fun W f => h.same f
  have HS2 : Hid (∀ W, Fr (fun _ => False) w W → Slots W a2 c2 l2) := fun W f => h2.same f
  have HN : Hid (n2 = ls.length) := hn
  have HN2 : Hid (n2 = l2.length) := hn2
  have HP : Hid (psOf ls = psOf l2) := hp
  clear h h2 hn hn2 hp
  go_enter Tryz.func16, Tryz.ntmps16
  go_wp2
  go_loopw [13] (fun i wr => ∃ (k : Nat), k ≤ n2 ∧ i = .int .i64 k ∧ Fr (fun _ => False) w wr) (fun i _ => n2 - (intOf i).toNat)
  case atStart => exact ⟨0, by omega, rfl, Fr.refl _ _⟩
  case round =>
    obtain ⟨k, hk, rfl, F⟩ := hrel
    by_cases hlt : k < n2
    · obtain ⟨s, hs⟩ : ∃ s, ls[k]? = some s := ⟨_, List.getElem?_eq_getElem (by have := HN.out; omega)⟩
      obtain ⟨t, ht⟩ : ∃ t, l2[k]? = some t := ⟨_, List.getElem?_eq_getElem (by have := HN2.out; omega)⟩
      have hst : s.page = t.page ∧ s.nd = t.nd := by
        have := congrArg (fun l => l[k]?) HP.out
        simp only [psOf, List.getElem?_map, hs, ht, Option.map_some, Option.some.injEq, Prod.mk.injEq] at this
        exact this
      obtain ⟨b1, o1, rfl, hb1, hc1⟩ := (HS.out _ F).some (by have := HN.out; omega)
      obtain ⟨b2, o2, rfl, hb2, hc2⟩ := (HS2.out _ F).some (by have := HN2.out; omega)
      obtain ⟨p0, p1, p2, p3, p4, p5, p6, p7⟩ := sl_range (hc1 k s hs)
      obtain ⟨q0, q1, q2, q3, q4, q5, q6, q7⟩ := sl_range (hc2 k t ht)
      have nd1 := (HS.out _ F).nod s (List.mem_of_getElem? hs)
      have nd2 := (HS2.out _ F).nod t (List.mem_of_getElem? ht)
      rw [← hst.1] at q0
      rw [← hst.2] at q1 q2 q3 q4 q5 q6 q7 nd2
      have hpl := fun W (f : Fr (fun _ => False) wr W) => plain_same s.nd s.pt t.pt W (nd1.same f) (nd2.same f)
      have hki : (k : Int) < (n2 : Int) := by omega
      have HQ : Hid (∀ W, Fr (fun _ => False) wr W → (W.cell? ⟨b1, o1 + k * 8, none⟩ = some (.int .i64 s.page) ∧ W.cell? ⟨b1, o1 + k * 8 + 1, none⟩ = some (.int .i64 s.nd.lev) ∧ W.cell? ⟨b1, o1 + k * 8 + 2, none⟩ = some (.int .i64 s.nd.lsn) ∧ W.cell? ⟨b1, o1 + k * 8 + 3, none⟩ = some (.int .i64 s.nd.rgt) ∧ W.cell? ⟨b1, o1 + k * 8 + 4, none⟩ = some (.string s.nd.high) ∧ W.cell? ⟨b1, o1 + k * 8 + 5, none⟩ = some (.slice s.pt.k s.nd.keys.length s.pt.kc) ∧ W.cell? ⟨b1, o1 + k * 8 + 6, none⟩ = some (.slice s.pt.v s.nd.vals.length s.pt.vc) ∧ W.cell? ⟨b1, o1 + k * 8 + 7, none⟩ = some (.slice s.pt.i s.nd.kids.length s.pt.ic)) ∧ (W.cell? ⟨b2, o2 + k * 8, none⟩ = some (.int .i64 s.page) ∧ W.cell? ⟨b2, o2 + k * 8 + 1, none⟩ = some (.int .i64 s.nd.lev) ∧ W.cell? ⟨b2, o2 + k * 8 + 2, none⟩ = some (.int .i64 s.nd.lsn) ∧ W.cell? ⟨b2, o2 + k * 8 + 3, none⟩ = some (.int .i64 s.nd.rgt) ∧ W.cell? ⟨b2, o2 + k * 8 + 4, none⟩ = some (.string s.nd.high) ∧ W.cell? ⟨b2, o2 + k * 8 + 5, none⟩ = some (.slice t.pt.k s.nd.keys.length t.pt.kc) ∧ W.cell? ⟨b2, o2 + k * 8 + 6, none⟩ = some (.slice t.pt.v s.nd.vals.length t.pt.vc) ∧ W.cell? ⟨b2, o2 + k * 8 + 7, none⟩ = some (.slice t.pt.i s.nd.kids.length t.pt.ic))) := fun W f => by
        refine ⟨?_, ?_⟩
        · exact sl_range (range_fr (hc1 k s hs) f (fun f => f))
        · have := sl_range (range_fr (hc2 k t ht) f (fun f => f))
          rw [← hst.1, ← hst.2] at this
          exact this
      have g0 := (Fr.refl (fun _ => False) wr).drew
      clear hs ht hst hc1 hc2 nd1 nd2 p0 p1 p2 p3 p4 p5 p6 p7 q0 q1 q2 q3 q4 q5 q6 q7
      go_wp2_with fail
      go_region_held3 (fun W => (W.cell? ⟨b1, o1 + k * 8, none⟩ = some (.int .i64 s.page) ∧ W.cell? ⟨b1, o1 + k * 8 + 1, none⟩ = some (.int .i64 s.nd.lev) ∧ W.cell? ⟨b1, o1 + k * 8 + 2, none⟩ = some (.int .i64 s.nd.lsn) ∧ W.cell? ⟨b1, o1 + k * 8 + 3, none⟩ = some (.int .i64 s.nd.rgt) ∧ W.cell? ⟨b1, o1 + k * 8 + 4, none⟩ = some (.string s.nd.high) ∧ W.cell? ⟨b1, o1 + k * 8 + 5, none⟩ = some (.slice s.pt.k s.nd.keys.length s.pt.kc) ∧ W.cell? ⟨b1, o1 + k * 8 + 6, none⟩ = some (.slice s.pt.v s.nd.vals.length s.pt.vc) ∧ W.cell? ⟨b1, o1 + k * 8 + 7, none⟩ = some (.slice s.pt.i s.nd.kids.length s.pt.ic)) ∧ (W.cell? ⟨b2, o2 + k * 8, none⟩ = some (.int .i64 s.page) ∧ W.cell? ⟨b2, o2 + k * 8 + 1, none⟩ = some (.int .i64 s.nd.lev) ∧ W.cell? ⟨b2, o2 + k * 8 + 2, none⟩ = some (.int .i64 s.nd.lsn) ∧ W.cell? ⟨b2, o2 + k * 8 + 3, none⟩ = some (.int .i64 s.nd.rgt) ∧ W.cell? ⟨b2, o2 + k * 8 + 4, none⟩ = some (.string s.nd.high) ∧ W.cell? ⟨b2, o2 + k * 8 + 5, none⟩ = some (.slice t.pt.k s.nd.keys.length t.pt.kc) ∧ W.cell? ⟨b2, o2 + k * 8 + 6, none⟩ = some (.slice t.pt.v s.nd.vals.length t.pt.vc) ∧ W.cell? ⟨b2, o2 + k * 8 + 7, none⟩ = some (.slice t.pt.i s.nd.kids.length t.pt.ic)))
        (first | with_reducible exact HQ.out _ g0 | with_reducible exact HQ.out _ g1)
        (first | (go_at_call 36; refine (hpl _ g0).mono ?_; rintro e w1 ⟨rfl, m1⟩; have g1 := g0.seq' m1))
      go_wp2
      go_roundw
      case rel => exact ⟨k + 1, by omega, by go_num, F.seq' g1⟩
      case measure => simp [intOf]; omega
    · obtain rfl : k = n2 := by omega
      go_wp2
      go_ret
      exact ⟨rfl, F⟩
end Go.Proofs.YtnooogjcajlodaaGreat
