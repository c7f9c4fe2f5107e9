
/- BkDo3, BkSay2, BkAny. -/
import Derived.Test.YtnooogjcajlodaaGreatBkSay
import Derived.Test.YtnooogjcajlodaaGreatBM3
import Derived.Deep.RegionWith
/- A record that is not done: of no page, or refused. -/
namespace Go.Proofs.YtnooogjcajlodaaGreat
open Go.RowKit

set_option maxRecDepth 100000 in
set_option maxHeartbeats 8000000 in
theorem do_non (r : Rec) (hkz : r.key.size ≤ 140737488351232) (hvz : r.val.size ≤ 140737488351232) (tb mb : Nat) (a : Option Addr) (n c : Nat) (lp : List Sl) (last : Int) (nd0 : Nd) (pt0 : Pt) (th : Bool) (hE : apE nd0 th r ≠ 0)
    (hfi0 : ∀ W, Slots W a c lp → Calls Tryz.prog 63 #[.slice a n c, .int .i64 r.page] W fun e w' => e = .returned (.tuple #[(.agg #[.int .i64 nd0.lev, .int .i64 nd0.lsn, .int .i64 nd0.rgt, .string nd0.high, .slice pt0.k nd0.keys.length pt0.kc, .slice pt0.v nd0.vals.length pt0.vc, .slice pt0.i nd0.kids.length pt0.ic]), .bool th]) ∧ Fr (fun _ => False) W w')
    (hnd0 : ∀ W, Sv W (.slice a n c) lp → Nod W nd0 pt0)
    (w : World) (h : TrS w tb mb a n c lp last) :
    Calls Tryz.prog 31 #[.pointer (some ⟨tb, 0, none⟩), (.agg #[.int .i64 r.lsn, .int .i64 r.ep, .int .i64 r.kind, .int .i64 r.page, .int .i64 r.other, .int .i64 r.req, .string r.key, .string r.val])] w fun e w' => e = .returned (.int .i64 (if apE nd0 th r = 1 then 0 else apE nd0 th r)) ∧ Fr (fun _ => False) w w' := by
  have f0 := Fr.box w (.cells #[.int .i64 r.lsn, .int .i64 r.ep, .int .i64 r.kind, .int .i64 r.page, .int .i64 r.other, .int .i64 r.req, .string r.key, .string r.val] 42)
  have h1 := h.same f0
  have htl : tb < w.heap.size := lt_of_block h.tr.box
  have hml : mb < w.heap.size := by obtain ⟨U, hU⟩ := h.tr.map; exact hU.lt
  have HSX : Hid (∀ W, Fr (fun _ => False) (w.alloc (.cells #[.int .i64 r.lsn, .int .i64 r.ep, .int .i64 r.kind, .int .i64 r.page, .int .i64 r.other, .int .i64 r.req, .string r.key, .string r.val] 42)) W → TrS W tb mb a n c lp last) := fun W f => h1.same f
  have HRB : Hid (∀ W, Fr (fun _ => False) (w.alloc (.cells #[.int .i64 r.lsn, .int .i64 r.ep, .int .i64 r.kind, .int .i64 r.page, .int .i64 r.other, .int .i64 r.req, .string r.key, .string r.val] 42)) W → W.heap[w.heap.size]? = some (.cells #[.int .i64 r.lsn, .int .i64 r.ep, .int .i64 r.kind, .int .i64 r.page, .int .i64 r.other, .int .i64 r.req, .string r.key, .string r.val] 42 (0, 0))) := fun W f => f.blk (heap_alloc_new w _) (fun f => f)
  have HQ : Hid (∀ W, Fr (fun _ => False) (w.alloc (.cells #[.int .i64 r.lsn, .int .i64 r.ep, .int .i64 r.kind, .int .i64 r.page, .int .i64 r.other, .int .i64 r.req, .string r.key, .string r.val] 42)) W → (W.cell? ⟨tb, 0, none⟩ = some (.slice a n c) ∧ W.cell? ⟨tb, 1, none⟩ = some (.pointer (some ⟨mb, 0, none⟩)) ∧ W.cell? ⟨tb, 2, none⟩ = some (.int .i64 last)) ∧ W.cell? ⟨w.heap.size, 0, none⟩ = some (.int .i64 r.lsn) ∧ W.cell? ⟨w.heap.size, 1, none⟩ = some (.int .i64 r.ep) ∧ W.cell? ⟨w.heap.size, 2, none⟩ = some (.int .i64 r.kind) ∧ W.cell? ⟨w.heap.size, 3, none⟩ = some (.int .i64 r.page) ∧ W.cell? ⟨w.heap.size, 4, none⟩ = some (.int .i64 r.other) ∧ W.cell? ⟨w.heap.size, 5, none⟩ = some (.int .i64 r.req) ∧ W.cell? ⟨w.heap.size, 6, none⟩ = some (.string r.key) ∧ W.cell? ⟨w.heap.size, 7, none⟩ = some (.string r.val)) := fun W f => ⟨(tree_cells (HSX.out W f).tr.box).1, (rec_cells (HRB.out W f)).1⟩
  have g0 := (Fr.refl (fun _ => False) (w.alloc (.cells #[.int .i64 r.lsn, .int .i64 r.ep, .int .i64 r.kind, .int .i64 r.page, .int .i64 r.other, .int .i64 r.req, .string r.key, .string r.val] 42))).drew
  have ga := ((Fr.refl (fun _ => False) (w.alloc (.cells #[.int .i64 r.lsn, .int .i64 r.ep, .int .i64 r.kind, .int .i64 r.page, .int .i64 r.other, .int .i64 r.req, .string r.key, .string r.val] 42))).alloc (.cells #[.int .i64 0, .int .i64 0, .int .i64 0, .string ⟨#[]⟩, .slice none 0 0, .slice none 0 0, .slice none 0 0] 59)).drew
  have hba : ((w.alloc (.cells #[.int .i64 r.lsn, .int .i64 r.ep, .int .i64 r.kind, .int .i64 r.page, .int .i64 r.other, .int .i64 r.req, .string r.key, .string r.val] 42)).alloc (.cells #[.int .i64 0, .int .i64 0, .int .i64 0, .string ⟨#[]⟩, .slice none 0 0, .slice none 0 0, .slice none 0 0] 59)).drew.heap[w.heap.size + 1]? = some (.cells #[.int .i64 0, .int .i64 0, .int .i64 0, .string ⟨#[]⟩, .slice none 0 0, .slice none 0 0, .slice none 0 0] 59 (0, 0)) := by
    have := heap_alloc_new (w.alloc (.cells #[.int .i64 r.lsn, .int .i64 r.ep, .int .i64 r.kind, .int .i64 r.page, .int .i64 r.other, .int .i64 r.req, .string r.key, .string r.val] 42)) (.cells #[.int .i64 0, .int .i64 0, .int .i64 0, .string ⟨#[]⟩, .slice none 0 0, .slice none 0 0, .slice none 0 0] 59)
    rw [show (w.alloc (.cells #[.int .i64 r.lsn, .int .i64 r.ep, .int .i64 r.kind, .int .i64 r.page, .int .i64 r.other, .int .i64 r.req, .string r.key, .string r.val] 42)).heap.size = w.heap.size + 1 by simp] at this
    exact this
  have q0 := HQ.out _ g0
  have qa := HQ.out _ ga
  have hnb : w.heap.size + 1 < (w.alloc (.cells #[.int .i64 r.lsn, .int .i64 r.ep, .int .i64 r.kind, .int .i64 r.page, .int .i64 r.other, .int .i64 r.req, .string r.key, .string r.val] 42)).heap.size → False := fun h => by simp at h
  have hfi := fun W (f : Fr (fun _ => False) (w.alloc (.cells #[.int .i64 r.lsn, .int .i64 r.ep, .int .i64 r.kind, .int .i64 r.page, .int .i64 r.other, .int .i64 r.req, .string r.key, .string r.val] 42)) W) => hfi0 W ((h1.same f).sv.slots h.len)
  have HND : Hid (∀ W, Fr (fun _ => False) (w.alloc (.cells #[.int .i64 r.lsn, .int .i64 r.ep, .int .i64 r.kind, .int .i64 r.page, .int .i64 r.other, .int .i64 r.req, .string r.key, .string r.val] 42)) W → Nod W nd0 pt0) := fun W f => hnd0 W (h1.same f).sv
  have hap := fun W (f : Fr (fun _ => False) (w.alloc (.cells #[.int .i64 r.lsn, .int .i64 r.ep, .int .i64 r.kind, .int .i64 r.page, .int .i64 r.other, .int .i64 r.req, .string r.key, .string r.val] 42)) W) => apply_any nd0 pt0 th r hkz hvz W (HND.out W f)
  have HLE : Hid (n = lp.length) := h.len
  have HOW : Hid (∀ g, (Value.slice a n c).ownBlock = some g → g ≠ tb ∧ g ≠ mb) := h.own
  have HLO : Hid (∀ g, (Value.slice a n c).ownBlock = some g → g < w.heap.size) := fun g e => h.sv.has.lt e
  have HOF : Hid (∀ x ∈ lp, Off (fun k => k = tb ∨ k = mb) x.nd x.pt) := h.off
  have hne := h.tr.ne
  unfold ApOut at hap
  generalize apE nd0 th r = ae at *
  obtain ⟨res, hres⟩ : ∃ x, x = (if ae = 1 then 0 else ae) := ⟨_, rfl⟩
  rw [← hres]
  have HRES : Hid (res = (if ae = 1 then 0 else ae)) := hres
  clear hres
  generalize apN nd0 th r = m at *
  generalize apD nd0 th r = d at *
  clear h h1 hkz hvz hfi0 hnd0
  go_enter Tryz.func31, Tryz.ntmps31
  go_wp2_with fail
  go_region_held3 (fun W => (W.cell? ⟨tb, 0, none⟩ = some (.slice a n c) ∧ W.cell? ⟨tb, 1, none⟩ = some (.pointer (some ⟨mb, 0, none⟩)) ∧ W.cell? ⟨tb, 2, none⟩ = some (.int .i64 last)) ∧ W.cell? ⟨w.heap.size, 0, none⟩ = some (.int .i64 r.lsn) ∧ W.cell? ⟨w.heap.size, 1, none⟩ = some (.int .i64 r.ep) ∧ W.cell? ⟨w.heap.size, 2, none⟩ = some (.int .i64 r.kind) ∧ W.cell? ⟨w.heap.size, 3, none⟩ = some (.int .i64 r.page) ∧ W.cell? ⟨w.heap.size, 4, none⟩ = some (.int .i64 r.other) ∧ W.cell? ⟨w.heap.size, 5, none⟩ = some (.int .i64 r.req) ∧ W.cell? ⟨w.heap.size, 6, none⟩ = some (.string r.key) ∧ W.cell? ⟨w.heap.size, 7, none⟩ = some (.string r.val))
    (first | with_reducible exact q0 | with_reducible exact qa | with_reducible exact q1 | with_reducible exact q2 | with_reducible exact q3 | with_reducible exact q4)
    (first
      | (go_at_call 63; refine (hfi _ g0).mono ?_; rintro en w1 ⟨rfl, m1⟩; have fr1 := g0.seq' m1; have q1 := HQ.out _ fr1; have fr2 := fr1.alloc (.cells #[.int .i64 0, .int .i64 0, .int .i64 0, .string ⟨#[]⟩, .slice none 0 0, .slice none 0 0, .slice none 0 0] 59); have q2 := HQ.out _ fr2; have fr3 := fr1.alloc (.cells #[.int .i64 nd0.lev, .int .i64 nd0.lsn, .int .i64 nd0.rgt, .string nd0.high, .slice pt0.k nd0.keys.length pt0.kc, .slice pt0.v nd0.vals.length pt0.vc, .slice pt0.i nd0.kids.length pt0.ic] 59); have q3 := HQ.out _ fr3)
      | (go_at_call 63; refine (hfi _ ga).mono ?_; rintro en w1 ⟨rfl, m1⟩; have frb := ga.seq' m1; have q1 := HQ.out _ frb; have b1 := m1.blk hba (fun f => f); obtain ⟨⟨r0, r1, r2, r3, r4, r5, r6⟩, rz⟩ := node_cells b1; have z0 := rz 0; have z1 := rz 1; have z2 := rz 2; have z3 := rz 3; have z4 := rz 4; have z5 := rz 5; have z6 := rz 6; obtain ⟨hq1, fq1⟩ := fin7 b1 (.int .i64 nd0.lev) (.int .i64 nd0.lsn) (.int .i64 nd0.rgt) (.string nd0.high) (.slice pt0.k nd0.keys.length pt0.kc) (.slice pt0.v nd0.vals.length pt0.vc) (.slice pt0.i nd0.kids.length pt0.ic); have fr4 := frb.trans fq1 (S := fun _ => False) (fun i hi e => by subst e; exact hnb hi); have q4 := HQ.out _ fr4))
  · have hB := heap_alloc_new w1 (.cells #[.int .i64 nd0.lev, .int .i64 nd0.lsn, .int .i64 nd0.rgt, .string nd0.high, .slice pt0.k nd0.keys.length pt0.kc, .slice pt0.v nd0.vals.length pt0.vc, .slice pt0.i nd0.kids.length pt0.ic] 59)
    have fr5 := fr3
    have hBg : w.heap.size < w1.heap.size := by have := fr1.size; simp at this; omega
    clear q0 qa q1 q2 q3 fr1 fr2 fr3 m1 hba ga g0 hnb hfi
    generalize w1.alloc (.cells #[.int .i64 nd0.lev, .int .i64 nd0.lsn, .int .i64 nd0.rgt, .string nd0.high, .slice pt0.k nd0.keys.length pt0.kc, .slice pt0.v nd0.vals.length pt0.vc, .slice pt0.i nd0.kids.length pt0.ic] 59) = W5 at *
    generalize w1.heap.size = B5 at *
    obtain ⟨x0, x1, x2, x3, x4, x5, x6⟩ := box_cells hB
    obtain ⟨_, y0, y1, y2, y3, y4, y5, y6, y7⟩ := HQ.out _ fr5
    go_wp2_with fail
    refine (hap _ fr5).mono ?_
    rintro e w6 ⟨q, rfl, nd6, f6, hnw⟩
    have fr6 := fr5.seq' f6
    have fr7 := fr6.alloc (.cells #[.int .i64 m.lev, .int .i64 m.lsn, .int .i64 m.rgt, .string m.high, .slice q.k m.keys.length q.kc, .slice q.v m.vals.length q.vc, .slice q.i m.kids.length q.ic] 59)
    have hB7 := heap_alloc_new w6 (.cells #[.int .i64 m.lev, .int .i64 m.lsn, .int .i64 m.rgt, .string m.high, .slice q.k m.keys.length q.kc, .slice q.v m.vals.length q.vc, .slice q.i m.kids.length q.ic] 59)
    have hz6 : w.heap.size < w6.heap.size := by have := fr6.size; simp at this; omega
    have nd7 := nd6.same (Fr.box w6 (.cells #[.int .i64 m.lev, .int .i64 m.lsn, .int .i64 m.rgt, .string m.high, .slice q.k m.keys.length q.kc, .slice q.v m.vals.length q.vc, .slice q.i m.kids.length q.ic] 59))
    have hz5 : w.heap.size ≤ W5.heap.size := by have := fr5.size; simp at this; omega
    have F7 : Hid (Fr (fun _ => False) w (w6.alloc (.cells #[.int .i64 m.lev, .int .i64 m.lsn, .int .i64 m.rgt, .string m.high, .slice q.k m.keys.length q.kc, .slice q.v m.vals.length q.vc, .slice q.i m.kids.length q.ic] 59))) := f0.seq' fr7
    have hne0 : (ae == 0) = false := by simpa using hE
    clear x0 x1 x2 x3 x4 x5 x6 y0 y1 y2 y3 y4 y5 y6 y7 hap fr5 fr6 f6 hnw nd6 hB hBg nd7 hB7 fr7 hz5 hz6
    by_cases h1 : ae = 1
    · have hr0 : res = 0 := by rw [HRES.out, if_pos h1]
      clear HRES
      subst hr0
      subst h1
      go_wp2
      go_ret
      exact ⟨rfl, F7.out⟩
    · have hne1 : (ae == 1) = false := by simpa using h1
      have hr0 : res = ae := by rw [HRES.out, if_neg h1]
      clear HRES
      subst hr0
      go_wp2
      go_ret
      exact ⟨rfl, F7.out⟩
  · have hB := hq1
    have fr5 := fr4
    have hBg : w.heap.size < w.heap.size + 1 := by omega
    clear q0 qa q1 q4 frb fr4 m1 hba ga g0 hnb hfi b1 r0 r1 r2 r3 r4 r5 r6 rz z0 z1 z2 z3 z4 z5 z6 fq1 hq1
    generalize (((((((w1.setCell ⟨w.heap.size + 1, 0, none⟩ (.int .i64 nd0.lev)).setCell ⟨w.heap.size + 1, 1, none⟩ (.int .i64 nd0.lsn)).setCell ⟨w.heap.size + 1, 2, none⟩ (.int .i64 nd0.rgt)).setCell ⟨w.heap.size + 1, 3, none⟩ (.string nd0.high)).setCell ⟨w.heap.size + 1, 4, none⟩ (.slice pt0.k nd0.keys.length pt0.kc)).setCell ⟨w.heap.size + 1, 5, none⟩ (.slice pt0.v nd0.vals.length pt0.vc)).setCell ⟨w.heap.size + 1, 6, none⟩ (.slice pt0.i nd0.kids.length pt0.ic)) = W5 at *
    generalize hb5 : w.heap.size + 1 = B5 at *
    obtain ⟨x0, x1, x2, x3, x4, x5, x6⟩ := box_cells hB
    obtain ⟨_, y0, y1, y2, y3, y4, y5, y6, y7⟩ := HQ.out _ fr5
    go_wp2_with fail
    refine (hap _ fr5).mono ?_
    rintro e w6 ⟨q, rfl, nd6, f6, hnw⟩
    have fr6 := fr5.seq' f6
    have fr7 := fr6.alloc (.cells #[.int .i64 m.lev, .int .i64 m.lsn, .int .i64 m.rgt, .string m.high, .slice q.k m.keys.length q.kc, .slice q.v m.vals.length q.vc, .slice q.i m.kids.length q.ic] 59)
    have hB7 := heap_alloc_new w6 (.cells #[.int .i64 m.lev, .int .i64 m.lsn, .int .i64 m.rgt, .string m.high, .slice q.k m.keys.length q.kc, .slice q.v m.vals.length q.vc, .slice q.i m.kids.length q.ic] 59)
    have hz6 : w.heap.size < w6.heap.size := by have := fr6.size; simp at this; omega
    have nd7 := nd6.same (Fr.box w6 (.cells #[.int .i64 m.lev, .int .i64 m.lsn, .int .i64 m.rgt, .string m.high, .slice q.k m.keys.length q.kc, .slice q.v m.vals.length q.vc, .slice q.i m.kids.length q.ic] 59))
    have hz5 : w.heap.size ≤ W5.heap.size := by have := fr5.size; simp at this; omega
    have F7 : Hid (Fr (fun _ => False) w (w6.alloc (.cells #[.int .i64 m.lev, .int .i64 m.lsn, .int .i64 m.rgt, .string m.high, .slice q.k m.keys.length q.kc, .slice q.v m.vals.length q.vc, .slice q.i m.kids.length q.ic] 59))) := f0.seq' fr7
    have hne0 : (ae == 0) = false := by simpa using hE
    clear x0 x1 x2 x3 x4 x5 x6 y0 y1 y2 y3 y4 y5 y6 y7 hap fr5 fr6 f6 hnw nd6 hB hBg nd7 hB7 fr7 hz5 hz6
    by_cases h1 : ae = 1
    · have hr0 : res = 0 := by rw [HRES.out, if_pos h1]
      clear HRES
      subst hr0
      subst h1
      go_wp2
      go_ret
      exact ⟨rfl, F7.out⟩
    · have hne1 : (ae == 1) = false := by simpa using h1
      have hr0 : res = ae := by rw [HRES.out, if_neg h1]
      clear HRES
      subst hr0
      go_wp2
      go_ret
      exact ⟨rfl, F7.out⟩
end Go.Proofs.YtnooogjcajlodaaGreat

/- A tree says a record: done, or refused. -/
namespace Go.Proofs.YtnooogjcajlodaaGreat
open Go.RowKit

set_option maxRecDepth 100000 in
set_option maxHeartbeats 8000000 in
theorem say_put (r : Rec) (tb mb : Nat) (a : Option Addr) (n c : Nat) (lp : List Sl) (last : Int) (hl : 0 ≤ last ∧ last ≤ 4611686018427387904) (m : Nd) (Pm : List (Int × Nd)) (hd : ∀ W, TrS W tb mb a n c lp last → Calls Tryz.prog 31 #[.pointer (some ⟨tb, 0, none⟩), (.agg #[.int .i64 (rnx r (last + 1)).lsn, .int .i64 (rnx r (last + 1)).ep, .int .i64 (rnx r (last + 1)).kind, .int .i64 (rnx r (last + 1)).page, .int .i64 (rnx r (last + 1)).other, .int .i64 (rnx r (last + 1)).req, .string (rnx r (last + 1)).key, .string (rnx r (last + 1)).val])] W fun e w' => ∃ q a' n' c' lp', e = .returned (.int .i64 0) ∧ Nw W q ∧ psOf lp' = Pm ∧ (∀ s ∈ lp', s ∈ lp ∨ s = ⟨r.page, m, q⟩) ∧ TrS w' tb mb a' n' c' lp' last ∧ Fr (fun k => (Value.slice a n c).ownBlock = some k ∨ k = tb ∨ k = mb) W w' ∧ ((Value.slice a' n' c').ownBlock = (Value.slice a n c).ownBlock ∨ ∃ g, (Value.slice a' n' c').ownBlock = some g ∧ W.heap.size ≤ g)) (w : World) (h : TrS w tb mb a n c lp last) :
    Calls Tryz.prog 14 #[.pointer (some ⟨tb, 0, none⟩), (.agg #[.int .i64 r.lsn, .int .i64 r.ep, .int .i64 r.kind, .int .i64 r.page, .int .i64 r.other, .int .i64 r.req, .string r.key, .string r.val])] w fun e w' => ∃ a' n' c' lp', e = .returned (.tuple #[(.agg #[.int .i64 (rnx r (last + 1)).lsn, .int .i64 (rnx r (last + 1)).ep, .int .i64 (rnx r (last + 1)).kind, .int .i64 (rnx r (last + 1)).page, .int .i64 (rnx r (last + 1)).other, .int .i64 (rnx r (last + 1)).req, .string (rnx r (last + 1)).key, .string (rnx r (last + 1)).val]), .int .i64 0]) ∧ psOf lp' = Pm ∧ TrS w' tb mb a' n' c' lp' (last + 1) ∧ Fr (fun k => (Value.slice a n c).ownBlock = some k ∨ k = tb ∨ k = mb) w w' ∧ ((Value.slice a' n' c').ownBlock = (Value.slice a n c).ownBlock ∨ ∃ g, (Value.slice a' n' c').ownBlock = some g ∧ w.heap.size ≤ g) ∧ (∀ s ∈ lp', s ∈ lp ∨ Nw w s.pt) := by
  have f0 := (Fr.box w (.cells #[.int .i64 r.lsn, .int .i64 r.ep, .int .i64 r.kind, .int .i64 r.page, .int .i64 r.other, .int .i64 r.req, .string r.key, .string r.val] 42)).alloc (.cells #[.int .i64 0, .int .i64 0, .int .i64 0, .int .i64 0, .int .i64 0, .int .i64 0, .string ⟨#[]⟩, .string ⟨#[]⟩] 42)
  have htl : tb < w.heap.size := lt_of_block h.tr.box
  have hml : mb < w.heap.size := by obtain ⟨U, hU⟩ := h.tr.map; exact hU.lt
  have h1 := h.same f0
  have HLO : Hid (∀ g, (Value.slice a n c).ownBlock = some g → g < w.heap.size) := fun g e => h.sv.has.lt e
  have ha := last_some tb a n c mb last _ h1.tr
  have HSX : Hid (∀ W, Fr (fun _ => False) w W → TrS W tb mb a n c lp last) := fun W f => h.same f
  have HB0 : Hid (∀ W, Fr (fun _ => False) ((w.alloc (.cells #[.int .i64 r.lsn, .int .i64 r.ep, .int .i64 r.kind, .int .i64 r.page, .int .i64 r.other, .int .i64 r.req, .string r.key, .string r.val] 42)).alloc (.cells #[.int .i64 0, .int .i64 0, .int .i64 0, .int .i64 0, .int .i64 0, .int .i64 0, .string ⟨#[]⟩, .string ⟨#[]⟩] 42)) W → W.heap[w.heap.size]? = some (.cells #[.int .i64 r.lsn, .int .i64 r.ep, .int .i64 r.kind, .int .i64 r.page, .int .i64 r.other, .int .i64 r.req, .string r.key, .string r.val] 42 (0, 0)) ∧ W.heap[w.heap.size + 1]? = some (.cells #[.int .i64 0, .int .i64 0, .int .i64 0, .int .i64 0, .int .i64 0, .int .i64 0, .string ⟨#[]⟩, .string ⟨#[]⟩] 42 (0, 0))) := fun W f => by
    refine ⟨(((Fr.refl (fun _ => False) _).alloc _).seq' f).blk (heap_alloc_new w _) (fun f => f), ?_⟩
    have := f.blk (heap_alloc_new (w.alloc (.cells #[.int .i64 r.lsn, .int .i64 r.ep, .int .i64 r.kind, .int .i64 r.page, .int .i64 r.other, .int .i64 r.req, .string r.key, .string r.val] 42)) (.cells #[.int .i64 0, .int .i64 0, .int .i64 0, .int .i64 0, .int .i64 0, .int .i64 0, .string ⟨#[]⟩, .string ⟨#[]⟩] 42)) (fun f => f)
    rw [show (w.alloc (.cells #[.int .i64 r.lsn, .int .i64 r.ep, .int .i64 r.kind, .int .i64 r.page, .int .i64 r.other, .int .i64 r.req, .string r.key, .string r.val] 42)).heap.size = w.heap.size + 1 by simp] at this
    exact this
  have e1 : IntKind.i64.wrap (last + 1) = last + 1 := by simp [IntKind.wrap, IntKind.bits, IntKind.signed]; omega
  obtain ⟨rn, hrn⟩ : ∃ x, x = rnx r (last + 1) := ⟨_, rfl⟩
  rw [← hrn] at hd ⊢
  have HSET : Hid (∀ W : World, W.heap[w.heap.size]? = some (.cells #[.int .i64 r.lsn, .int .i64 r.ep, .int .i64 r.kind, .int .i64 r.page, .int .i64 r.other, .int .i64 r.req, .string r.key, .string r.val] 42 (0, 0)) → (W.setCell ⟨w.heap.size, 0, none⟩ (.int .i64 (last + 1))).heap[w.heap.size]? = some (.cells #[.int .i64 rn.lsn, .int .i64 rn.ep, .int .i64 rn.kind, .int .i64 rn.page, .int .i64 rn.other, .int .i64 rn.req, .string rn.key, .string rn.val] 42 (0, 0))) := fun W h => by
    rw [hrn]; exact rec_set0 h
  have HLS : Hid (rn.lsn = last + 1) := by show _ = _; rw [hrn]; rfl
  have HOL : Hid (∀ s ∈ lp, Off (fun k => k = w.heap.size + 1) s.nd s.pt) := fun s hs => (h.sv.nod s hs).far (fun b hb e => by omega)
  have HPG : Hid (rn.page = r.page) := by show _ = _; rw [hrn]; rfl
  clear h h1 hrn
  go_enter Tryz.func14, Tryz.ntmps14
  go_wp2_with fail
  refine ha.mono ?_
  rintro e w1 ⟨rfl, f1⟩
  have hx1 := HB0.out _ f1
  have hx2 := HSET.out _ hx1.1
  have g2 : Fr (fun k => k = w.heap.size) w1 (w1.setCell ⟨w.heap.size, 0, none⟩ (.int .i64 (last + 1))) := (Fr.refl (fun k => k = w.heap.size) w1).setCell (p := ⟨w.heap.size, 0, none⟩) (fun _ => rfl) _
  have hy2 := g2.blk hx1.2 (by omega)
  have F2 := (f0.seq' f1).trans g2 (S := fun _ => False) (fun i hi e => by omega)
  obtain ⟨⟨a0, a1, a2, a3, a4, a5, a6, a7⟩, za⟩ := rec_cells hx1.1
  obtain ⟨⟨b0, b1, b2, b3, b4, b5, b6, b7⟩, zb⟩ := rec_cells hx2
  have za0 := za 0
  clear hx1 za
  go_upto_region 2 with fail
  generalize w1.setCell ⟨w.heap.size, 0, none⟩ (.int .i64 (last + 1)) = W2 at *
  clear a0 a1 a2 a3 a4 a5 a6 a7 za0 g2
  go_wp2_with fail
  refine (hd _ (HSX.out _ F2)).mono ?_
  rintro e w3 ⟨q, a', n', c', lp', rfl, hnw, hps, hmem, ht3, f3, hat⟩
  have HPS : Hid (psOf lp' = Pm) := hps
  have HME : Hid (∀ s ∈ lp', s ∈ lp ∨ s = ⟨r.page, m, q⟩) := hmem
  have hz2 : w.heap.size + 2 ≤ W2.heap.size := by have h1 := lt_of_block hy2; omega
  have HAT : Hid ((Value.slice a' n' c').ownBlock = (Value.slice a n c).ownBlock ∨ ∃ g, (Value.slice a' n' c').ownBlock = some g ∧ w.heap.size + 2 ≤ g) := by
    rcases hat with h | ⟨g, h, hg⟩
    · exact .inl h
    · exact .inr ⟨g, h, by omega⟩
  have HMN : Hid (∀ s ∈ lp', s ∈ lp ∨ Nw w s.pt) := fun s hs => by
    rcases hmem s hs with h | rfl
    · exact .inl h
    · exact .inr (hnw.back (by omega))
  clear hps hmem hat
  have HOQ : Hid (Off (fun k => k = w.heap.size + 1) m q) := hnw.off (fun b hb e => by have h1 := lt_of_block hy2; omega)
  have hx3 := f3.blk hx2 (fun e => by rcases e with e | e | e; · have := HLO.out _ e; omega
                                      · omega
                                      · omega)
  have hy3 := f3.blk hy2 (fun e => by rcases e with e | e | e; · have := HLO.out _ e; omega
                                      · omega
                                      · omega)
  have F3 : Fr (fun k => (Value.slice a n c).ownBlock = some k ∨ k = tb ∨ k = mb) w w3 := (F2.widen (T := fun k => (Value.slice a n c).ownBlock = some k ∨ k = tb ∨ k = mb) (fun _ f => f.elim)).trans f3 (fun i _ e => e)
  clear b0 b1 b2 b3 b4 b5 b6 b7 zb hd ha
  obtain ⟨⟨b0, b1, b2, b3, b4, b5, b6, b7⟩, _⟩ := rec_cells hx3
  obtain ⟨⟨t0, t1, t2⟩, tz⟩ := tree_cells ht3.tr.box
  have tz2 := tz 2
  have f4 : Fr (fun k => k = tb) w3 (w3.setCell ⟨tb, 2, none⟩ (.int .i64 rn.lsn)) := (Fr.refl (fun k => k = tb) w3).setCell (p := ⟨tb, 2, none⟩) (fun _ => rfl) _
  have hbx4 := tree_set2 ht3.tr.box (.int .i64 rn.lsn)
  have hx4 := f4.blk hx3 (by omega)
  have hy4 := f4.blk hy3 (by omega)
  have HT3 : Hid (TrS w3 tb mb a' n' c' lp' last) := ht3
  have HT4 : Hid (TrS (w3.setCell ⟨tb, 2, none⟩ (.int .i64 rn.lsn)) tb mb a' n' c' lp' (last + 1)) := by
    have h3 := HT3.out
    rw [HLS.out] at hbx4 f4 ⊢
    obtain ⟨U, hU⟩ := h3.tr.map
    exact ⟨⟨hbx4, ⟨U, hU.fr f4 (by have := h3.tr.ne; omega)⟩, h3.tr.ne⟩, h3.len, h3.sv.frS f4 (fun k e1 e2 => (h3.own k e1).1 e2) (fun x hx => (h3.off x hx).sub (fun k e => .inl e)), h3.own, h3.off⟩
  have F4 := F3.trans f4 (S := fun k => (Value.slice a n c).ownBlock = some k ∨ k = tb ∨ k = mb) (fun i _ e => .inr (.inl e))
  clear ht3 tz hbx4 hx3 hy3
  go_upto_region 6 with fail
  generalize w3.setCell ⟨tb, 2, none⟩ (.int .i64 rn.lsn) = W4 at *
  clear b0 b1 b2 b3 b4 b5 b6 b7 t0 t1 t2 tz2
  obtain ⟨⟨b0, b1, b2, b3, b4, b5, b6, b7⟩, _⟩ := rec_cells hx4
  obtain ⟨⟨z0, z1, z2, z3, z4, z5, z6, z7⟩, zz⟩ := rec_cells hy4
  have x0 := zz 0; have x1 := zz 1; have x2 := zz 2; have x3 := zz 3; have x4 := zz 4; have x5 := zz 5; have x6 := zz 6; have x7 := zz 7
  clear zz
  go_wp2
  obtain ⟨hq, ff⟩ := fin8 hy4 (.int .i64 rn.lsn) (.int .i64 rn.ep) (.int .i64 rn.kind) (.int .i64 rn.page) (.int .i64 rn.other) (.int .i64 rn.req) (.string rn.key) (.string rn.val)
  have HT5 : Hid (TrS ((((((((W4.setCell ⟨w.heap.size + 1, 0, none⟩ (.int .i64 rn.lsn)).setCell ⟨w.heap.size + 1, 1, none⟩ (.int .i64 rn.ep)).setCell ⟨w.heap.size + 1, 2, none⟩ (.int .i64 rn.kind)).setCell ⟨w.heap.size + 1, 3, none⟩ (.int .i64 rn.page)).setCell ⟨w.heap.size + 1, 4, none⟩ (.int .i64 rn.other)).setCell ⟨w.heap.size + 1, 5, none⟩ (.int .i64 rn.req)).setCell ⟨w.heap.size + 1, 6, none⟩ (.string rn.key)).setCell ⟨w.heap.size + 1, 7, none⟩ (.string rn.val)) tb mb a' n' c' lp' (last + 1)) := by
    exact HT4.out.frS ff (by omega) (by omega) (fun g e h => by
      rcases HAT.out with h1 | ⟨g', h1, hg⟩
      · rw [h1] at e; have := HLO.out g e; omega
      · rw [h1] at e; have := Option.some.inj e; omega) (fun x hx => by
      rcases HME.out x hx with hx | rfl
      · exact HOL.out x hx
      · exact HOQ.out)
  have fff := F4.trans ff (S := fun k => (Value.slice a n c).ownBlock = some k ∨ k = tb ∨ k = mb) (fun i hi e => by omega)
  generalize ((((((((W4.setCell ⟨w.heap.size + 1, 0, none⟩ (.int .i64 rn.lsn)).setCell ⟨w.heap.size + 1, 1, none⟩ (.int .i64 rn.ep)).setCell ⟨w.heap.size + 1, 2, none⟩ (.int .i64 rn.kind)).setCell ⟨w.heap.size + 1, 3, none⟩ (.int .i64 rn.page)).setCell ⟨w.heap.size + 1, 4, none⟩ (.int .i64 rn.other)).setCell ⟨w.heap.size + 1, 5, none⟩ (.int .i64 rn.req)).setCell ⟨w.heap.size + 1, 6, none⟩ (.string rn.key)).setCell ⟨w.heap.size + 1, 7, none⟩ (.string rn.val)) = Wf at hq fff HT5 ⊢
  obtain ⟨⟨q0, q1, q2, q3, q4, q5, q6, q7⟩, _⟩ := rec_cells hq
  exact bodyPost_ret (v := .tuple #[(.agg #[.int .i64 rn.lsn, .int .i64 rn.ep, .int .i64 rn.kind, .int .i64 rn.page, .int .i64 rn.other, .int .i64 rn.req, .string rn.key, .string rn.val]), .int .i64 0]) (by simp [results, Tryz.results14, go_sem, q0, q1, q2, q3, q4, q5, q6, q7]) rfl ⟨a', n', c', lp', rfl, HPS.out, HT5.out, fff, HAT.out.imp id (fun ⟨g, h1, h2⟩ => ⟨g, h1, by omega⟩), HMN.out⟩
set_option maxRecDepth 100000 in
set_option maxHeartbeats 4000000 in
theorem say_no (r : Rec) (tb mb : Nat) (a : Option Addr) (n c : Nat) (lp : List Sl) (last : Int) (hl : 0 ≤ last ∧ last ≤ 4611686018427387904) (x : Int) (hne : x ≠ 0) (hd : ∀ W, TrS W tb mb a n c lp last → Calls Tryz.prog 31 #[.pointer (some ⟨tb, 0, none⟩), (.agg #[.int .i64 (rnx r (last + 1)).lsn, .int .i64 (rnx r (last + 1)).ep, .int .i64 (rnx r (last + 1)).kind, .int .i64 (rnx r (last + 1)).page, .int .i64 (rnx r (last + 1)).other, .int .i64 (rnx r (last + 1)).req, .string (rnx r (last + 1)).key, .string (rnx r (last + 1)).val])] W fun e w' => e = .returned (.int .i64 x) ∧ Fr (fun _ => False) W w') (w : World) (h : TrS w tb mb a n c lp last) :
    Calls Tryz.prog 14 #[.pointer (some ⟨tb, 0, none⟩), (.agg #[.int .i64 r.lsn, .int .i64 r.ep, .int .i64 r.kind, .int .i64 r.page, .int .i64 r.other, .int .i64 r.req, .string r.key, .string r.val])] w fun e w' => e = .returned (.tuple #[.agg #[.int .i64 0, .int .i64 0, .int .i64 0, .int .i64 0, .int .i64 0, .int .i64 0, .string ⟨#[]⟩, .string ⟨#[]⟩], .int .i64 x]) ∧ Fr (fun _ => False) w w' := by
  have f0 := (Fr.box w (.cells #[.int .i64 r.lsn, .int .i64 r.ep, .int .i64 r.kind, .int .i64 r.page, .int .i64 r.other, .int .i64 r.req, .string r.key, .string r.val] 42)).alloc (.cells #[.int .i64 0, .int .i64 0, .int .i64 0, .int .i64 0, .int .i64 0, .int .i64 0, .string ⟨#[]⟩, .string ⟨#[]⟩] 42)
  have htl : tb < w.heap.size := lt_of_block h.tr.box
  have hml : mb < w.heap.size := by obtain ⟨U, hU⟩ := h.tr.map; exact hU.lt
  have h1 := h.same f0
  have ha := last_some tb a n c mb last _ h1.tr
  have HSX : Hid (∀ W, Fr (fun _ => False) w W → TrS W tb mb a n c lp last) := fun W f => h.same f
  have HB0 : Hid (∀ W, Fr (fun _ => False) ((w.alloc (.cells #[.int .i64 r.lsn, .int .i64 r.ep, .int .i64 r.kind, .int .i64 r.page, .int .i64 r.other, .int .i64 r.req, .string r.key, .string r.val] 42)).alloc (.cells #[.int .i64 0, .int .i64 0, .int .i64 0, .int .i64 0, .int .i64 0, .int .i64 0, .string ⟨#[]⟩, .string ⟨#[]⟩] 42)) W → W.heap[w.heap.size]? = some (.cells #[.int .i64 r.lsn, .int .i64 r.ep, .int .i64 r.kind, .int .i64 r.page, .int .i64 r.other, .int .i64 r.req, .string r.key, .string r.val] 42 (0, 0)) ∧ W.heap[w.heap.size + 1]? = some (.cells #[.int .i64 0, .int .i64 0, .int .i64 0, .int .i64 0, .int .i64 0, .int .i64 0, .string ⟨#[]⟩, .string ⟨#[]⟩] 42 (0, 0))) := fun W f => by
    refine ⟨(((Fr.refl (fun _ => False) _).alloc _).seq' f).blk (heap_alloc_new w _) (fun f => f), ?_⟩
    have := f.blk (heap_alloc_new (w.alloc (.cells #[.int .i64 r.lsn, .int .i64 r.ep, .int .i64 r.kind, .int .i64 r.page, .int .i64 r.other, .int .i64 r.req, .string r.key, .string r.val] 42)) (.cells #[.int .i64 0, .int .i64 0, .int .i64 0, .int .i64 0, .int .i64 0, .int .i64 0, .string ⟨#[]⟩, .string ⟨#[]⟩] 42)) (fun f => f)
    rw [show (w.alloc (.cells #[.int .i64 r.lsn, .int .i64 r.ep, .int .i64 r.kind, .int .i64 r.page, .int .i64 r.other, .int .i64 r.req, .string r.key, .string r.val] 42)).heap.size = w.heap.size + 1 by simp] at this
    exact this
  have e1 : IntKind.i64.wrap (last + 1) = last + 1 := by simp [IntKind.wrap, IntKind.bits, IntKind.signed]; omega
  obtain ⟨rn, hrn⟩ : ∃ x, x = rnx r (last + 1) := ⟨_, rfl⟩
  rw [← hrn] at hd
  have HSET : Hid (∀ W : World, W.heap[w.heap.size]? = some (.cells #[.int .i64 r.lsn, .int .i64 r.ep, .int .i64 r.kind, .int .i64 r.page, .int .i64 r.other, .int .i64 r.req, .string r.key, .string r.val] 42 (0, 0)) → (W.setCell ⟨w.heap.size, 0, none⟩ (.int .i64 (last + 1))).heap[w.heap.size]? = some (.cells #[.int .i64 rn.lsn, .int .i64 rn.ep, .int .i64 rn.kind, .int .i64 rn.page, .int .i64 rn.other, .int .i64 rn.req, .string rn.key, .string rn.val] 42 (0, 0))) := fun W h => by
    rw [hrn]; exact rec_set0 h
  clear h h1 hrn
  go_enter Tryz.func14, Tryz.ntmps14
  go_wp2_with fail
  refine ha.mono ?_
  rintro e w1 ⟨rfl, f1⟩
  have hx1 := HB0.out _ f1
  have hx2 := HSET.out _ hx1.1
  have g2 : Fr (fun k => k = w.heap.size) w1 (w1.setCell ⟨w.heap.size, 0, none⟩ (.int .i64 (last + 1))) := (Fr.refl (fun k => k = w.heap.size) w1).setCell (p := ⟨w.heap.size, 0, none⟩) (fun _ => rfl) _
  have hy2 := g2.blk hx1.2 (by omega)
  have F2 := (f0.seq' f1).trans g2 (S := fun _ => False) (fun i hi e => by omega)
  obtain ⟨⟨a0, a1, a2, a3, a4, a5, a6, a7⟩, za⟩ := rec_cells hx1.1
  obtain ⟨⟨b0, b1, b2, b3, b4, b5, b6, b7⟩, zb⟩ := rec_cells hx2
  have za0 := za 0
  clear hx1 za
  go_upto_region 2 with fail
  generalize w1.setCell ⟨w.heap.size, 0, none⟩ (.int .i64 (last + 1)) = W2 at *
  clear a0 a1 a2 a3 a4 a5 a6 a7 za0 g2
  go_wp2_with fail
  refine (hd _ (HSX.out _ F2)).mono ?_
  rintro e w3 ⟨rfl, f3⟩
  have hy3 := f3.blk hy2 (fun f => f)
  have F3 := F2.seq' f3
  have hb : (x != 0) = true := by simpa using hne
  obtain ⟨⟨z0, z1, z2, z3, z4, z5, z6, z7⟩, zz⟩ := rec_cells hy3
  have x0 := zz 0; have x1 := zz 1; have x2 := zz 2; have x3 := zz 3; have x4 := zz 4; have x5 := zz 5; have x6 := zz 6; have x7 := zz 7
  clear zz b0 b1 b2 b3 b4 b5 b6 b7 zb hd ha hne
  go_wp2
  obtain ⟨hq, ff⟩ := fin8 hy3 (.int .i64 0) (.int .i64 0) (.int .i64 0) (.int .i64 0) (.int .i64 0) (.int .i64 0) (.string ⟨#[]⟩) (.string ⟨#[]⟩)
  have fff := F3.trans ff (S := fun _ => False) (fun i hi e => by omega)
  generalize ((((((((w3.setCell ⟨w.heap.size + 1, 0, none⟩ (.int .i64 0)).setCell ⟨w.heap.size + 1, 1, none⟩ (.int .i64 0)).setCell ⟨w.heap.size + 1, 2, none⟩ (.int .i64 0)).setCell ⟨w.heap.size + 1, 3, none⟩ (.int .i64 0)).setCell ⟨w.heap.size + 1, 4, none⟩ (.int .i64 0)).setCell ⟨w.heap.size + 1, 5, none⟩ (.int .i64 0)).setCell ⟨w.heap.size + 1, 6, none⟩ (.string ⟨#[]⟩)).setCell ⟨w.heap.size + 1, 7, none⟩ (.string ⟨#[]⟩)) = Wf at hq fff ⊢
  obtain ⟨⟨q0, q1, q2, q3, q4, q5, q6, q7⟩, _⟩ := rec_cells hq
  exact bodyPost_ret (v := .tuple #[.agg #[.int .i64 0, .int .i64 0, .int .i64 0, .int .i64 0, .int .i64 0, .int .i64 0, .string ⟨#[]⟩, .string ⟨#[]⟩], .int .i64 x]) (by simp [results, Tryz.results14, go_sem, q0, q1, q2, q3, q4, q5, q6, q7]) rfl ⟨rfl, fff⟩
end Go.Proofs.YtnooogjcajlodaaGreat

/- A tree says any record. -/
namespace Go.Proofs.YtnooogjcajlodaaGreat
open Go.RowKit

/-- What Say leaves: the record is done, or nothing is. -/
def SayOut (w : World) (tb mb : Nat) (a : Option Addr) (n c : Nat) (lp : List Sl) (last : Int) (r : Rec) (e : Ending) (w' : World) : Prop :=
  (rpE (psOf lp) (rnx r (last + 1)) = 0 ∧ ∃ a' n' c' lp', e = .returned (.tuple #[(.agg #[.int .i64 (rnx r (last + 1)).lsn, .int .i64 (rnx r (last + 1)).ep, .int .i64 (rnx r (last + 1)).kind, .int .i64 (rnx r (last + 1)).page, .int .i64 (rnx r (last + 1)).other, .int .i64 (rnx r (last + 1)).req, .string (rnx r (last + 1)).key, .string (rnx r (last + 1)).val]), .int .i64 0]) ∧ psOf lp' = rpP (psOf lp) (rnx r (last + 1)) ∧ TrS w' tb mb a' n' c' lp' (last + 1) ∧ Fr (fun k => (Value.slice a n c).ownBlock = some k ∨ k = tb ∨ k = mb) w w' ∧ ((Value.slice a' n' c').ownBlock = (Value.slice a n c).ownBlock ∨ ∃ g, (Value.slice a' n' c').ownBlock = some g ∧ w.heap.size ≤ g) ∧ (∀ s ∈ lp', s ∈ lp ∨ Nw w s.pt)) ∨
  (rpE (psOf lp) (rnx r (last + 1)) ≠ 0 ∧ e = .returned (.tuple #[.agg #[.int .i64 0, .int .i64 0, .int .i64 0, .int .i64 0, .int .i64 0, .int .i64 0, .string ⟨#[]⟩, .string ⟨#[]⟩], .int .i64 (rpE (psOf lp) (rnx r (last + 1)))]) ∧ Fr (fun _ => False) w w')
theorem say_core (r : Rec) (hkz : r.key.size ≤ 140737488351232) (hvz : r.val.size ≤ 140737488351232) (tb mb : Nat) (a : Option Addr) (n c : Nat) (lp : List Sl) (last : Int) (hl : 0 ≤ last ∧ last ≤ 4611686018427387904) (nd0 : Nd) (pt0 : Pt) (th : Bool) (P : Nd → List (Int × Nd))
    (hh : hasP (psOf lp) r.page = th) (hn0 : nodeP (psOf lp) r.page = nd0) (hP : apE nd0 th (rnx r (last + 1)) = 0 → rpP (psOf lp) (rnx r (last + 1)) = P (apN nd0 th (rnx r (last + 1))))
    (hfi0 : ∀ W, Slots W a c lp → Calls Tryz.prog 63 #[.slice a n c, .int .i64 r.page] W fun e w' => e = .returned (.tuple #[(.agg #[.int .i64 nd0.lev, .int .i64 nd0.lsn, .int .i64 nd0.rgt, .string nd0.high, .slice pt0.k nd0.keys.length pt0.kc, .slice pt0.v nd0.vals.length pt0.vc, .slice pt0.i nd0.kids.length pt0.ic]), .bool th]) ∧ Fr (fun _ => False) W w')
    (hnd0 : ∀ W, Sv W (.slice a n c) lp → Nod W nd0 pt0)
    (hwi0 : ∀ m q W, Sv W (.slice a n c) lp → Nod W m q → Off (fun k => (Value.slice a n c).ownBlock = some k) m q → Calls Tryz.prog 65 #[.slice a n c, .int .i64 r.page, (.agg #[.int .i64 m.lev, .int .i64 m.lsn, .int .i64 m.rgt, .string m.high, .slice q.k m.keys.length q.kc, .slice q.v m.vals.length q.vc, .slice q.i m.kids.length q.ic])] W fun e w' => ∃ a' n' c' lp', e = .returned (.slice a' n' c') ∧ n' = lp'.length ∧ psOf lp' = P m ∧ (∀ s ∈ lp', s ∈ lp ∨ s = ⟨r.page, m, q⟩) ∧ Sv w' (.slice a' n' c') lp' ∧ Fr (fun k => (Value.slice a n c).ownBlock = some k) W w' ∧ ((Value.slice a' n' c').ownBlock = (Value.slice a n c).ownBlock ∨ ∃ g, (Value.slice a' n' c').ownBlock = some g ∧ W.heap.size ≤ g))
    (w : World) (h : TrS w tb mb a n c lp last) :
    Calls Tryz.prog 14 #[.pointer (some ⟨tb, 0, none⟩), (.agg #[.int .i64 r.lsn, .int .i64 r.ep, .int .i64 r.kind, .int .i64 r.page, .int .i64 r.other, .int .i64 r.req, .string r.key, .string r.val])] w fun e w' => SayOut w tb mb a n c lp last r e w' := by
  have hE : rpE (psOf lp) (rnx r (last + 1)) = if apE nd0 th (rnx r (last + 1)) = 1 then 0 else apE nd0 th (rnx r (last + 1)) := by
    unfold rpE; rw [show (rnx r (last + 1)).page = r.page from rfl, hh, hn0]
  by_cases h0 : apE nd0 th (rnx r (last + 1)) = 0
  · have hd := fun W hW => do_put (rnx r (last + 1)) hkz hvz tb mb a n c lp last nd0 pt0 th P h0 hfi0 hnd0 hwi0 W hW
    refine (say_put r tb mb a n c lp last hl _ _ hd w h).mono ?_
    rintro e w' ⟨a', n', c', lp', rfl, h1, h2, h3, h4⟩
    exact .inl ⟨by rw [hE, h0]; rfl, a', n', c', lp', rfl, by rw [hP h0]; exact h1, h2, h3, h4⟩
  · have hd := fun W hW => do_non (rnx r (last + 1)) hkz hvz tb mb a n c lp last nd0 pt0 th h0 hfi0 hnd0 W hW
    by_cases h1 : apE nd0 th (rnx r (last + 1)) = 1
    · rw [if_pos h1] at hd hE
      have hd2 : ∀ W, TrS W tb mb a n c lp last → Calls Tryz.prog 31 #[.pointer (some ⟨tb, 0, none⟩), (.agg #[.int .i64 (rnx r (last + 1)).lsn, .int .i64 (rnx r (last + 1)).ep, .int .i64 (rnx r (last + 1)).kind, .int .i64 (rnx r (last + 1)).page, .int .i64 (rnx r (last + 1)).other, .int .i64 (rnx r (last + 1)).req, .string (rnx r (last + 1)).key, .string (rnx r (last + 1)).val])] W fun e w' => ∃ q a' n' c' lp', e = .returned (.int .i64 0) ∧ Nw W q ∧ psOf lp' = psOf lp ∧ (∀ s ∈ lp', s ∈ lp ∨ s = ⟨r.page, zn, q⟩) ∧ TrS w' tb mb a' n' c' lp' last ∧ Fr (fun k => (Value.slice a n c).ownBlock = some k ∨ k = tb ∨ k = mb) W w' ∧ ((Value.slice a' n' c').ownBlock = (Value.slice a n c).ownBlock ∨ ∃ g, (Value.slice a' n' c').ownBlock = some g ∧ W.heap.size ≤ g) := fun W hW => (hd W hW).mono (fun e w' ⟨he, f⟩ => ⟨zp, a, n, c, lp, he, zp_nw _, rfl, fun s hs => .inl hs, hW.same f, f.widen (fun _ x => x.elim), .inl rfl⟩)
      refine (say_put r tb mb a n c lp last hl _ _ hd2 w h).mono ?_
      rintro e w' ⟨a', n', c', lp', rfl, g1, g2, g3, g4⟩
      refine .inl ⟨hE, a', n', c', lp', rfl, ?_, g2, g3, g4⟩
      rw [g1]
      exact (rp_arg (ps := psOf lp) (r := rnx r (last + 1)) hh hn0 h1).2.symm
    · rw [if_neg h1] at hd hE
      refine (say_no r tb mb a n c lp last hl _ h0 hd w h).mono ?_
      rintro e w' ⟨rfl, f⟩
      exact .inr ⟨by rw [hE]; exact h0, by rw [hE], f⟩
theorem say_any (r : Rec) (hkz : r.key.size ≤ 140737488351232) (hvz : r.val.size ≤ 140737488351232) (tb mb : Nat) (a : Option Addr) (n c : Nat) (lp : List Sl) (last : Int) (hl : 0 ≤ last ∧ last ≤ 4611686018427387904) (hps : PsOk (psOf lp)) (w : World) (h : TrS w tb mb a n c lp last) :
    Calls Tryz.prog 14 #[.pointer (some ⟨tb, 0, none⟩), (.agg #[.int .i64 r.lsn, .int .i64 r.ep, .int .i64 r.kind, .int .i64 r.page, .int .i64 r.other, .int .i64 r.req, .string r.key, .string r.val])] w fun e w' => SayOut w tb mb a n c lp last r e w' := by
  have hr := hps.rise
  have hf : lp.length ≤ 4096 := by have := hps.few; rwa [ps_length] at this
  cases hb : hasB lp r.page
  · have hh : hasP (psOf lp) r.page = false := by rw [← has_ps]; exact hb
    have hn0 : nodeP (psOf lp) r.page = zn := by unfold nodeP; rw [hh]; rfl
    refine say_core r hkz hvz tb mb a n c lp last hl zn zp false (fun m => (psOf lp).take (ahead lp r.page) ++ (r.page, m) :: (psOf lp).drop (ahead lp r.page)) hh hn0 ?_ ?_ (fun W _ => zn_nod W) ?_ w h
    · intro h0
      have := (rp_ins (ps := psOf lp) (r := rnx r (last + 1)) hh hn0 h0).2
      rw [this, ah_ps]; rfl
    · intro W hs
      exact bfind_no (bfind_any a n c lp h.len (by omega) hr r.page W hs) hb
    · intro m q W hS hN hO
      refine (bwith_no a n c lp r.page m q h.len (by omega) hr hb W hS hN hO).mono ?_
      rintro e w' ⟨a', c', rfl, hsv, f, hat⟩
      refine ⟨a', n + 1, c', _, rfl, ?_, ps_ins _ _ _, ?_, hsv, f, hat⟩
      · have := h.len; have := ahead_le lp r.page; simp; omega
      · intro s hs
        rw [List.mem_append, List.mem_cons] at hs
        rcases hs with hs | rfl | hs
        · exact .inl (List.mem_of_mem_take hs)
        · exact .inr rfl
        · exact .inl (List.mem_of_mem_drop hs)
  · obtain ⟨s, hs, hsx⟩ := has_some hb
    have hh : hasP (psOf lp) r.page = true := by rw [← has_ps]; exact hb
    have hn0 : nodeP (psOf lp) r.page = s.nd := by
      unfold nodeP
      rw [hh, if_pos rfl, ← ah_ps]
      unfold psOf
      rw [List.getElem?_map, hs]; rfl
    refine say_core r hkz hvz tb mb a n c lp last hl s.nd s.pt true (fun m => (psOf lp).set (ahead lp r.page) (r.page, m)) hh hn0 ?_ ?_ (fun W hS => hS.nod s (List.mem_of_getElem? hs)) ?_ w h
    · intro h0
      have := (rp_set (ps := psOf lp) (r := rnx r (last + 1)) hh hn0 h0).2
      rw [this, ah_ps]; rfl
    · intro W hS
      exact bfind_yes (bfind_any a n c lp h.len (by omega) hr r.page W hS) hb hs
    · intro m q W hS hN hO
      refine (bwith_yes a n c lp r.page m q h.len (by omega) hr hb W hS hN hO).mono ?_
      rintro e w' ⟨rfl, hsv, f⟩
      refine ⟨a, n, c, _, rfl, by rw [List.length_set]; exact h.len, ps_set _ _ _, ?_, hsv, f, .inl rfl⟩
      intro x hx
      rcases List.mem_or_eq_of_mem_set hx with hx | rfl
      · exact .inl hx
      · exact .inr rfl
end Go.Proofs.YtnooogjcajlodaaGreat
