
/- RyWork, RyWork2, RyMake0, RyMake1. -/
import Derived.Test.YtkibbojiflklpaaGreatRYB
import Derived.Test.YtkibbojiflklpaaGreatRyCut
import Derived.Lib.MinMax
/- A worker does a record. -/
namespace Go.Proofs.YtkibbojiflklpaaGreat
open Go.RowKit Go.Shelf

def pupd (P : Int → Option Nd) (x : Int) (n : Nd) : Int → Option Nd := fun y => if y = x then some n else P y
section
variable {S : Nat → Prop} {b : Nat} {R : RSt} {N : Nat}
/-- A page is stored. -/
theorem RyI.page {V : World} {A : Array Value} {m cnt : Nat} {q : Nat → QA} {pt : Int → Pt} (h : RyI V S b R N A m cnt q pt) (hN : N ≤ 1000000) (x : Int) (hx : wfK x) (nd : Nd) (p : Pt) (hn : Nod V nd p) (ho : Off S nd p) :
    ∃ w4, (Instr.mapUpdate 85 (.map (some m)) (.int .i64 x) (.agg #[.int .i64 nd.lev, .int .i64 nd.lsn, .int .i64 nd.rgt, .string nd.high, .slice p.k nd.keys.length p.kc, .slice p.v nd.vals.length p.vc, .slice p.i nd.kids.length p.ic])).run Tryz.prog V = .ok () w4 ∧ Ry w4 S b { R with pg := pupd R.pg x nd } (N + 1) ∧ Fr (fun k => k = m) V w4 := by
  obtain ⟨w4, hrun, hmp, hf⟩ := h.pages.store (mt := 85) Tryz.underlying85 (by have := h.cntN; omega) hx (.agg #[.int .i64 nd.lev, .int .i64 nd.lsn, .int .i64 nd.rgt, .string nd.high, .slice p.k nd.keys.length p.kc, .slice p.v nd.vals.length p.vc, .slice p.i nd.kids.length p.ic])
  obtain ⟨c2, hc2, hmp⟩ : ∃ c2, c2 ≤ cnt + 1 ∧ Mp w4 m c2 (vupd (fun y => (R.pg y).map (fun n => (.agg #[.int .i64 n.lev, .int .i64 n.lsn, .int .i64 n.rgt, .string n.high, .slice (pt y).k n.keys.length (pt y).kc, .slice (pt y).v n.vals.length (pt y).vc, .slice (pt y).i n.kids.length (pt y).ic]))) x (some (.agg #[.int .i64 nd.lev, .int .i64 nd.lsn, .int .i64 nd.rgt, .string nd.high, .slice p.k nd.keys.length p.kc, .slice p.v nd.vals.length p.vc, .slice p.i nd.kids.length p.ic]))) := ⟨_, by split <;> omega, hmp⟩
  have fS : Fr S V w4 := (Fr.refl S V).trans hf (fun k _ e => by rw [e]; exact h.om)
  refine ⟨w4, hrun, ⟨A, m, c2, q, fun y => if y = x then p else pt y, (hf.block _ (lt_of_block h.blk) (fun e => h.bm e)).trans h.blk, ⟨h.cells.size, h.cells.map, h.cells.wk, h.cells.row, h.cells.done, h.cells.fed, h.cells.point, h.cells.top⟩, h.few, fun i hi => ?_, ?_, ?_, fun y n hy => ?_, h.ob, h.om, h.bm, h.oq, h.apart, fun k hk => Nat.lt_of_lt_of_le (h.lt k hk) hf.size⟩, hf⟩
  · obtain ⟨a1, a2, a3, a4⟩ := h.rows i hi
    exact ⟨a1.fr hf (fun k e ek => (h.oq i k hi e).2.2 ek), a2, by omega, a4⟩
  · have e : (fun y => (pupd R.pg x nd y).map (fun n => (.agg #[.int .i64 n.lev, .int .i64 n.lsn, .int .i64 n.rgt, .string n.high, .slice (if y = x then p else pt y).k n.keys.length (if y = x then p else pt y).kc, .slice (if y = x then p else pt y).v n.vals.length (if y = x then p else pt y).vc, .slice (if y = x then p else pt y).i n.kids.length (if y = x then p else pt y).ic]))) = vupd (fun y => (R.pg y).map (fun n => (.agg #[.int .i64 n.lev, .int .i64 n.lsn, .int .i64 n.rgt, .string n.high, .slice (pt y).k n.keys.length (pt y).kc, .slice (pt y).v n.vals.length (pt y).vc, .slice (pt y).i n.kids.length (pt y).ic]))) x (some (.agg #[.int .i64 nd.lev, .int .i64 nd.lsn, .int .i64 nd.rgt, .string nd.high, .slice p.k nd.keys.length p.kc, .slice p.v nd.vals.length p.vc, .slice p.i nd.kids.length p.ic])) := by
      funext y
      unfold pupd vupd
      by_cases e : y = x
      · simp [e]
      · simp [e]
    show Mp w4 m c2 (fun y => (pupd R.pg x nd y).map (fun n => (.agg #[.int .i64 n.lev, .int .i64 n.lsn, .int .i64 n.rgt, .string n.high, .slice (if y = x then p else pt y).k n.keys.length (if y = x then p else pt y).kc, .slice (if y = x then p else pt y).v n.vals.length (if y = x then p else pt y).vc, .slice (if y = x then p else pt y).i n.kids.length (if y = x then p else pt y).ic])))
    rw [e]; exact hmp
  · have := h.cntN; omega
  · show Nod w4 n (if y = x then p else pt y) ∧ Off S n (if y = x then p else pt y)
    have hy' : pupd R.pg x nd y = some n := hy
    unfold pupd at hy'
    by_cases e : y = x
    · rw [if_pos e] at hy' ⊢
      cases hy'
      exact ⟨hn.frS fS ho, ho⟩
    · rw [if_neg e] at hy' ⊢
      obtain ⟨k1, k2⟩ := h.nods y n hy'
      exact ⟨k1.frS fS k2, k2⟩
theorem ry_cutq (w : World) (h : Ry w S b R N) (hN : N ≤ 1000000) (i : Nat) (hi : i < 8) {x : Wg} {t : List Wg} (hL : R.L i = x :: t) : Calls Tryz.prog 48 #[.pointer (some ⟨b, 2 + i * 2, none⟩)] w fun e w' => e = .returned (.tuple #[]) ∧ RyTo w S b { R with L := qupd R.L i t } (N + 1) w' := by
  obtain ⟨A, m, cnt, q, pt, h⟩ := h
  obtain ⟨h1, h2, h3, h4⟩ := h.rows i hi
  have hd : (q i).d < (q i).n := by
    have : ((q i).ws.drop (q i).d).length = (x :: t).length := by rw [h4, hL]
    rw [List.length_drop, ← h1.1] at this
    simp at this
    omega
  have hq := q_cut (qb := b) (qo := 2 + 2 * i) w h.blk (h.cells.row i hi) (h.cells.done i hi) hd h1 (by omega) (fun k e => (h.oq i k hi e).2.1)
  have ht : (q i).ws.drop ((q i).d + 1) = t := by
    rw [← List.drop_drop, h4, hL]; rfl
  rw [ht, show 2 + 2 * i = 2 + i * 2 by omega] at hq
  refine hq.mono ?_
  rintro e w' ⟨rfl, hto⟩
  refine ⟨rfl, ?_⟩
  rw [show 2 + i * 2 = 2 + 2 * i by omega] at hto
  exact h.que hi hto
end
end Go.Proofs.YtkibbojiflklpaaGreat

/- A worker does a record of a page that is there. -/
namespace Go.Proofs.YtkibbojiflklpaaGreat
open Go.RowKit Go.Shelf

theorem nd_zero (w : World) : (zeroValue 33).run Tryz.prog w = .ok (.agg #[.int .i64 0, .int .i64 0, .int .i64 0, .string ⟨#[]⟩, .slice none 0 0, .slice none 0 0, .slice none 0 0]) w := by kernel_rfl
/-- What a replay is behind a piece of work. -/
def workR (R : RSt) (i : Nat) (x : Wg) (t : List Wg) (n : Nd) : RSt := { R with L := qupd R.L i t, top := max R.top x.1.lsn, pg := pupd R.pg x.1.page n }
section
variable {S : Nat → Prop} {b : Nat} {R : RSt} {N : Nat}
set_option maxRecDepth 100000 in
set_option maxHeartbeats 16000000 in
theorem ry_workv (i : Nat) (x : Wg) (t : List Wg) (w : World) (h : Ry w S b R N) (hN : N ≤ 100000) (hi : i < R.wk) (hL : R.L i = x :: t) (n : Nd) (hpg : R.pg x.1.page = some n) (hpw : wfK x.1.page) (hkz : x.1.key.size ≤ 140737488351232) (hvz : x.1.val.size ≤ 140737488351232) (he : apE n true x.1 = 0) :
    Calls Tryz.prog 14 #[.pointer (some ⟨b, 0, none⟩), .int .i64 (i : Int)] w fun e w' => e = .returned (.tuple #[.bool true, .int .i64 0]) ∧ RyTo w S b (workR R i x t (apN n true x.1)) (N + 2) w' := by
  have hwk : R.wk ≤ 8 := by obtain ⟨_, _, _, _, _, h⟩ := h; exact h.few
  have hhas := ry_hasv (i : Int) w h
  rw [show decide ((0 : Int) ≤ (i : Int) ∧ (i : Int) < (R.wk : Int)) = true from decide_eq_true ⟨by omega, by omega⟩] at hhas
  have hfi := ry_first w h (by omega) i (by omega)
  rw [hL, show 2 + 2 * i = 2 + i * 2 by omega] at hfi
  unfold FirO at hfi
  dsimp only [List.headD, List.isEmpty, Bool.not_false] at hfi
  have HOB : Hid (S b ∧ ∀ k, S k → k < w.heap.size) := h.own
  obtain ⟨A, m, cnt, q, pt, hI⟩ := h
  have HI : Hid (∀ W, Fr (fun _ => False) w W → RyI W S b R N A m cnt q pt) := fun W f => hI.same f
  have hb := (hI.cell).2.2.2.2.2.2
  obtain ⟨p, hp⟩ : ∃ p, p = pt x.1.page := ⟨_, rfl⟩
  have HNOD : Hid (∀ W, Fr (fun _ => False) w W → Nod W n p) := fun W f => by rw [hp]; exact ((HI.out W f).nods _ _ hpg).1
  have HLK : Hid (∀ W, Fr (fun _ => False) w W → (Instr.lookup 85 (.map (some m)) (.int .i64 x.1.page) true).run Tryz.prog W = .ok (.tuple #[(.agg #[.int .i64 n.lev, .int .i64 n.lsn, .int .i64 n.rgt, .string n.high, .slice p.k n.keys.length p.kc, .slice p.v n.vals.length p.vc, .slice p.i n.kids.length p.ic]), .bool true]) W) := fun W f => by
    have := (HI.out W f).pages.look (mt := 85) Tryz.underlying85 (nd_zero W) hpw
    rw [hpg] at this
    rw [hp]
    exact this
  have hap := fun W f => apply_any n p true x.1 hkz hvz W (HNOD.out W f)
  rw [he] at hap
  have hi8 : (i : Int) < 8 := by omega
  have hi0 : (0 : Int) ≤ (i : Int) := by omega
  have HL : Hid (R.L i = x :: t ∧ i < 8 ∧ N ≤ 100000 ∧ wfK x.1.page) := ⟨hL, by omega, hN, hpw⟩
  obtain ⟨nw, hnw⟩ : ∃ nw, nw = apN n true x.1 := ⟨_, rfl⟩
  obtain ⟨ad, had⟩ : ∃ ad, ad = apD n true x.1 := ⟨_, rfl⟩
  rw [← hnw, ← had] at hap
  rw [← hnw]
  have HAP : Hid (∀ W, Fr (fun _ => False) w W → Calls Tryz.prog 47 #[(.agg #[.int .i64 n.lev, .int .i64 n.lsn, .int .i64 n.rgt, .string n.high, .slice p.k n.keys.length p.kc, .slice p.v n.vals.length p.vc, .slice p.i n.kids.length p.ic]), .bool true, (.agg #[.int .i64 x.1.lsn, .int .i64 x.1.ep, .int .i64 x.1.kind, .int .i64 x.1.page, .int .i64 x.1.other, .int .i64 x.1.req, .string x.1.key, .string x.1.val])] W fun e w' => ApOut nw ad 0 W e w') := hap
  unfold ApOut at HAP
  clear hI hpg hpw hkz hvz he hwk hp hap hnw had hL hi
  obtain ⟨⟨lsn, ep, kind, page, other, req, key, val⟩, pn⟩ := x
  unfold wgV at hfi
  unfold workR
  dsimp only at hfi HLK HAP HL ⊢
  go_enter Tryz.func14, Tryz.ntmps14
  go_wp2_with (go_at_call 45; refine hhas.mono ?_; rintro e w ⟨rfl, hw⟩; subst hw)
  refine hfi.mono ?_
  rintro e w1 ⟨rfl, f1⟩
  clear hfi hhas
  obtain ⟨V1, hV1⟩ : ∃ V1, V1 = w1.alloc (.cells #[.int .i64 lsn, .int .i64 ep, .int .i64 kind, .int .i64 page, .int .i64 other, .int .i64 req, .string key, .string val, .int .i64 pn] 98) := ⟨_, rfl⟩
  have HF1 : Hid (Fr (fun _ => False) w V1) := by show Fr _ _ _; rw [hV1]; exact f1.seq' (Fr.box _ _)
  have HB1 : Hid (V1.heap[w1.heap.size]? = some (.cells #[.int .i64 lsn, .int .i64 ep, .int .i64 kind, .int .i64 page, .int .i64 other, .int .i64 req, .string key, .string val, .int .i64 pn] 98 (0, 0))) := by show _ = _; rw [hV1]; exact heap_alloc_new w1 _
  have HV1 : Hid (V1 = w1.alloc (.cells #[.int .i64 lsn, .int .i64 ep, .int .i64 kind, .int .i64 page, .int .i64 other, .int .i64 req, .string key, .string val, .int .i64 pn] 98)) := hV1
  have HSZ : Hid (w.heap.size ≤ w1.heap.size) := f1.size
  clear hV1 f1
  go_upto_region 6 with fail
  rw [← HV1.out]
  obtain ⟨k0, k1, k2, k3, k4, k5, k6, k7, k8, kz⟩ := nine_cells HB1.out
  have c0 := (HI.out V1 HF1.out).cell.1
  have hbV : b < V1.heap.size := (HI.out V1 HF1.out).cell.2.2.2.2.2.2
  have hgV := lt_of_block HB1.out
  have e1 := HLK.out V1.drew HF1.out.drew
  have e2 := HLK.out (V1.alloc (.cells #[.int .i64 0, .int .i64 0, .int .i64 0, .string ⟨#[]⟩, .slice none 0 0, .slice none 0 0, .slice none 0 0] 33)).drew ((HF1.out.seq' (Fr.box _ _)).drew)
  go_cut [8, 9] (fun pp ok wc => pp = .pointer (some ⟨V1.heap.size, 0, none⟩) ∧ ok = .bool true ∧ (V1.alloc (.cells #[.int .i64 n.lev, .int .i64 n.lsn, .int .i64 n.rgt, .string n.high, .slice p.k n.keys.length p.kc, .slice p.v n.vals.length p.vc, .slice p.i n.kids.length p.ic] 33)).drew = wc)
  case first =>
    go_region_law (fail)
    all_goals go_wp2_with fail
    all_goals go_meet
    all_goals exact ⟨rfl, rfl, rfl⟩
  case rest =>
  obtain ⟨rfl, rfl, rfl⟩ := hcut
  clear k0 k1 k2 k3 k4 k5 k6 k7 k8 kz c0 hbV e1 e2 HV1
  have FV2 : Fr (fun _ => False) V1 (V1.alloc (.cells #[.int .i64 n.lev, .int .i64 n.lsn, .int .i64 n.rgt, .string n.high, .slice p.k n.keys.length p.kc, .slice p.v n.vals.length p.vc, .slice p.i n.kids.length p.ic] 33)).drew := (Fr.box _ _).drew
  have hB2 : (V1.alloc (.cells #[.int .i64 n.lev, .int .i64 n.lsn, .int .i64 n.rgt, .string n.high, .slice p.k n.keys.length p.kc, .slice p.v n.vals.length p.vc, .slice p.i n.kids.length p.ic] 33)).drew.heap[V1.heap.size]? = some (.cells #[.int .i64 n.lev, .int .i64 n.lsn, .int .i64 n.rgt, .string n.high, .slice p.k n.keys.length p.kc, .slice p.v n.vals.length p.vc, .slice p.i n.kids.length p.ic] 33 (0, 0)) := heap_alloc_new V1 _
  have hB1 := FV2.blk HB1.out (fun e => e)
  have HF2 : Hid (Fr (fun _ => False) w (V1.alloc (.cells #[.int .i64 n.lev, .int .i64 n.lsn, .int .i64 n.rgt, .string n.high, .slice p.k n.keys.length p.kc, .slice p.v n.vals.length p.vc, .slice p.i n.kids.length p.ic] 33)).drew) := HF1.out.seq' FV2
  obtain ⟨V2, hV2⟩ : ∃ V2, V2 = (V1.alloc (.cells #[.int .i64 n.lev, .int .i64 n.lsn, .int .i64 n.rgt, .string n.high, .slice p.k n.keys.length p.kc, .slice p.v n.vals.length p.vc, .slice p.i n.kids.length p.ic] 33)).drew := ⟨_, rfl⟩
  rw [← hV2] at hB2 hB1 HF2 ⊢
  have hap := HAP.out V2 HF2.out
  obtain ⟨k0, k1, k2, k3, k4, k5, k6, k7, k8, kz⟩ := nine_cells hB1
  obtain ⟨n0, n1, n2, n3, n4, n5, n6⟩ := box_cells hB2
  have hg1 := lt_of_block hB1
  have hg2 := lt_of_block hB2
  have HB12 : Hid (V2.heap[w1.heap.size]? = some (.cells #[.int .i64 lsn, .int .i64 ep, .int .i64 kind, .int .i64 page, .int .i64 other, .int .i64 req, .string key, .string val, .int .i64 pn] 98 (0, 0))) := hB1
  clear hV2 FV2 hB1 hB2 HB1 HF1 HAP HLK HNOD hgV
  go_wp2_with fail
  refine hap.mono ?_
  rintro e w3 ⟨p3, rfl, hn3, f3, hw3⟩
  clear hap n0 n1 n2 n3 n4 n5 n6 hg1 hg2 k0 k1 k2 k3 k4 k5 k6 k7 k8 kz
  obtain ⟨V3, hV3⟩ : ∃ V3, V3 = w3.alloc (.cells #[.int .i64 nw.lev, .int .i64 nw.lsn, .int .i64 nw.rgt, .string nw.high, .slice p3.k nw.keys.length p3.kc, .slice p3.v nw.vals.length p3.vc, .slice p3.i nw.kids.length p3.ic] 33) := ⟨_, rfl⟩
  have FV3 : Fr (fun _ => False) w3 V3 := by rw [hV3]; exact Fr.box _ _
  have HF3 : Hid (Fr (fun _ => False) w V3) := (HF2.out.seq' f3).seq' FV3
  have HB13 : Hid (V3.heap[w1.heap.size]? = some (.cells #[.int .i64 lsn, .int .i64 ep, .int .i64 kind, .int .i64 page, .int .i64 other, .int .i64 req, .string key, .string val, .int .i64 pn] 98 (0, 0))) := (f3.seq' FV3).blk HB12.out (fun e => e)
  have HB33 : Hid (V3.heap[w3.heap.size]? = some (.cells #[.int .i64 nw.lev, .int .i64 nw.lsn, .int .i64 nw.rgt, .string nw.high, .slice p3.k nw.keys.length p3.kc, .slice p3.v nw.vals.length p3.vc, .slice p3.i nw.kids.length p3.ic] 33 (0, 0))) := by show _ = _; rw [hV3]; exact heap_alloc_new w3 _
  have HN3 : Hid (Nod V3 nw p3 ∧ Off S nw p3) := ⟨hn3.same FV3, hw3.off (fun k hk hs => by have := HOB.out.2 k hs; have := HF2.out.size; omega)⟩
  have HV3 : Hid (V3 = w3.alloc (.cells #[.int .i64 nw.lev, .int .i64 nw.lsn, .int .i64 nw.rgt, .string nw.high, .slice p3.k nw.keys.length p3.kc, .slice p3.v nw.vals.length p3.vc, .slice p3.i nw.kids.length p3.ic] 33)) := hV3
  clear hV3 FV3 hn3 hw3 f3
  have FD3 := (Fr.refl (fun _ => False) V3).drew
  obtain ⟨w4, hst, hR4, f4⟩ := ((HI.out V3 HF3.out).same FD3).page (by have := HL.out.2.2.1; omega) page HL.out.2.2.2 nw p3 (HN3.out.1.same FD3) HN3.out.2
  have hm := (HI.out V3 HF3.out)
  have c0 := hm.cell.1
  have hbV := hm.cell.2.2.2.2.2.2
  have hbm := hm.bm
  have HM : Hid (S m ∧ m < w.heap.size ∧ b ≠ m) := ⟨hm.om, HOB.out.2 _ hm.om, hbm⟩
  have HF4 : Hid (Fr S w w4) := (((Fr.refl S w).trans HF3.out (fun _ _ e => e.elim)).trans FD3 (fun _ _ e => e.elim)).trans f4 (fun k _ e => by rw [e]; exact HM.out.1)
  have HB14 : Hid (w4.heap[w1.heap.size]? = some (.cells #[.int .i64 lsn, .int .i64 ep, .int .i64 kind, .int .i64 page, .int .i64 other, .int .i64 req, .string key, .string val, .int .i64 pn] 98 (0, 0)) ∧ w.heap.size ≤ w1.heap.size) := by
    have hne : w1.heap.size ≠ m := by have := HM.out.2.1; have := HSZ.out; omega
    exact ⟨(f4.block _ (lt_of_block HB13.out) (fun e => hne e)).trans HB13.out, HSZ.out⟩
  have HR4 : Hid (Ry w4 S b { R with pg := pupd R.pg page nw } (N + 1)) := hR4
  obtain ⟨k0, k1, k2, k3, k4, k5, k6, k7, k8, kz⟩ := nine_cells HB13.out
  obtain ⟨n0, n1, n2, n3, n4, n5, n6⟩ := box_cells HB33.out
  have hg1 := lt_of_block HB13.out
  have hg2 := lt_of_block HB33.out
  clear hR4 f4 hm FD3
  go_upto_region 10 with fail
  rw [← HV3.out]
  go_cut [51] (fun pp wc => pp = .pointer (some ⟨b, 0, none⟩) ∧ w4 = wc)
  case first =>
    go_region_law (fail)
    all_goals go_wp2_with fail
    all_goals go_meet
    all_goals exact ⟨rfl, rfl⟩
  case rest =>
  obtain ⟨rfl, rfl⟩ := hcut
  clear k0 k1 k2 k3 k4 k5 k6 k7 k8 kz n0 n1 n2 n3 n4 n5 n6 hg1 hg2 c0 hbV hst hbm HB33 HN3 HV3 HI HB13 HF3
  obtain ⟨k0, k1, k2, k3, k4, k5, k6, k7, k8, kz⟩ := nine_cells HB14.out.1
  obtain ⟨c1, c18, c19, c20, cz, cb⟩ := (HR4.out).scal
  have hg1 := lt_of_block HB14.out.1
  dsimp only at c1 c18 c19 c20
  clear c1 c18 c19 k1 k2 k3 k4 k5 k6 k7 k8
  go_upto_region 11 with fail
  go_cut [59] (fun pp wc => pp = .pointer (some ⟨b, 0, none⟩) ∧ (w4.setCell ⟨b, 20, none⟩ (.int .i64 (max R.top lsn))).drew = wc)
  case first =>
    go_region_law (fail)
    all_goals go_wp2_with fail
    all_goals go_meet
    all_goals exact ⟨rfl, rfl⟩
  case rest =>
  obtain ⟨rfl, rfl⟩ := hcut
  clear c20 k0 cz kz hg1 cb
  obtain ⟨a1, a2⟩ := (HR4.out).topI (max R.top lsn)
  have HR5 : Hid (Ry (w4.setCell ⟨b, 20, none⟩ (.int .i64 (max R.top lsn))).drew S b { R with pg := pupd R.pg page nw, top := max R.top lsn } (N + 1)) := a1.same ((Fr.refl (fun _ => False) _).drew)
  have HF5 : Hid (Fr S w (w4.setCell ⟨b, 20, none⟩ (.int .i64 (max R.top lsn))).drew) := (HF4.out.trans a2 (fun k _ e => by rw [e]; exact HOB.out.1)).drew
  clear a1 a2 HR4 HF4 HB14 HM HF2 HB12
  obtain ⟨w5, hw5⟩ : ∃ w5, w5 = (w4.setCell ⟨b, 20, none⟩ (.int .i64 (max R.top lsn))).drew := ⟨_, rfl⟩
  rw [← hw5] at HR5 HF5 ⊢
  clear hw5
  have cz := fun j => HR5.out.scal.2.2.2.2.1 j
  have cb := HR5.out.scal.2.2.2.2.2
  have hct := ry_cutq w5 HR5.out (by have := HL.out.2.2.1; omega) i HL.out.2.1 (x := _) (t := t) HL.out.1
  have hwr : IntKind.i64.wrap (i : Int) = (i : Int) := by simp [IntKind.wrap, IntKind.bits, IntKind.signed]; omega
  go_wp2_with fail
  refine hct.mono ?_
  rintro e w6 ⟨rfl, S2, g1, g2, g3, g4⟩
  have HFIN : Hid (RyTo w S b { R with L := qupd R.L i t, top := max R.top lsn, pg := pupd R.pg page nw } (N + 2) w6) := ⟨S2, g1, fun k hk => by
    rcases g2 k hk with h | h
    · exact .inl h
    · exact .inr (Nat.le_trans HF5.out.size h), g3, HF5.out.trans g4 (fun i _ e => e)⟩
  clear hct g1 g2 g3 g4 HR5 HF5
  go_wp2
  go_ret2
  exact ⟨rfl, HFIN.out⟩
end
end Go.Proofs.YtkibbojiflklpaaGreat

/- A replay that is made. -/
namespace Go.Proofs.YtkibbojiflklpaaGreat
open Go.RowKit Go.Shelf

def pgF (l : List (Int × Nd)) : Int → Option Nd := l.foldl (fun P x => pupd P x.1 x.2) (fun _ => none)
theorem pgF_snoc (l : List (Int × Nd)) (x : Int × Nd) : pgF (l ++ [x]) = pupd (pgF l) x.1 x.2 := by
  unfold pgF; rw [List.foldl_append]; rfl
theorem ps_next {ls : List Sl} {k : Nat} {s : Sl} (h : ls[k]? = some s) : psOf (ls.take (k + 1)) = psOf (ls.take k) ++ [(s.page, s.nd)] := by
  unfold psOf
  rw [List.take_add_one, h, List.map_append]
  rfl
theorem ari_page : ∀ (l : List (Int × Nd)) (x : Int), ariB x l = true → ∀ e ∈ l, x < e.1 ∧ e.1 ≤ 4096
  | [], _, _, e, he => by cases he
  | (y, n) :: l, x, h, e, he => by
    simp only [ariB, Bool.and_eq_true, decide_eq_true_eq] at h
    obtain ⟨⟨⟨h1, h2⟩, _⟩, h4⟩ := h
    rcases List.mem_cons.1 he with rfl | he
    · exact ⟨h1, h2⟩
    · have := ari_page l y h4 e he
      exact ⟨by omega, this.2⟩
/-- The cells of a replay that is made. -/
def mkC (m : Nat) (wk : Nat) (last : Int) : Array Value := #[.map (some m), .int .i64 (wk : Int), .slice none 0 0, .int .i64 0, .slice none 0 0, .int .i64 0, .slice none 0 0, .int .i64 0, .slice none 0 0, .int .i64 0, .slice none 0 0, .int .i64 0, .slice none 0 0, .int .i64 0, .slice none 0 0, .int .i64 0, .slice none 0 0, .int .i64 0, .int .i64 last, .int .i64 last, .int .i64 0]
def mkR (wk : Nat) (last : Int) (pg : Int → Option Nd) : RSt := ⟨wk, fun _ => [], last, last, 0, pg⟩
def mkS (m b : Nat) : Nat → Prop := fun k => k = m ∨ k = b
theorem mk_ry {w : World} {m b wk : Nat} {last : Int} (hb : w.heap[b]? = some (.cells (mkC m wk last) 91 (0, 0))) (hm : Mp w m 0 (fun _ => none)) (hne : b ≠ m) (hwk : wk ≤ 8) : Ry w (mkS m b) b (mkR wk last (pgF [])) 0 := by
  refine ⟨mkC m wk last, m, 0, fun _ => ⟨none, 0, 0, 0, []⟩, fun _ => ⟨none, 0, none, 0, none, 0⟩, hb, ⟨rfl, rfl, rfl, fun i hi => ?_, fun i hi => ?_, rfl, rfl, rfl⟩, hwk, fun i _ => ⟨Rw.nil w, Nat.le_refl _, Nat.le_refl _, rfl⟩, hm, Nat.le_refl _, (fun x n h => by cases h), .inr rfl, .inl rfl, hne, (fun i k _ e => by cases e), (fun i j k _ _ e => by cases e), fun k hk => ?_⟩
  · have : i = 0 ∨ i = 1 ∨ i = 2 ∨ i = 3 ∨ i = 4 ∨ i = 5 ∨ i = 6 ∨ i = 7 := by omega
    rcases this with rfl | rfl | rfl | rfl | rfl | rfl | rfl | rfl <;> rfl
  · have : i = 0 ∨ i = 1 ∨ i = 2 ∨ i = 3 ∨ i = 4 ∨ i = 5 ∨ i = 6 ∨ i = 7 := by omega
    rcases this with rfl | rfl | rfl | rfl | rfl | rfl | rfl | rfl <;> rfl
  · rcases hk with rfl | rfl
    · exact hm.lt
    · exact lt_of_block hb
end Go.Proofs.YtkibbojiflklpaaGreat

/- A replay that is made. -/
namespace Go.Proofs.YtkibbojiflklpaaGreat
open Go.RowKit Go.Shelf

set_option maxRecDepth 100000 in
set_option maxHeartbeats 1000000 in
theorem ry_new (a : Option Addr) (n c : Nat) (ls : List Sl) (hn : n = ls.length) (hn2 : n ≤ 100000) (w : World) (h : Slots w a c ls) (hr : ariB 0 (psOf ls) = true) (last : Int) (wk : Nat) (hl : 0 ≤ last ∧ last ≤ 1099511627776) (hw1 : 1 ≤ wk) (hw8 : wk ≤ 8) :
    Calls Tryz.prog 10 #[.slice a n c, .int .i64 last, .int .i64 (wk : Int)] w fun e w' => ∃ b S, e = .returned (.tuple #[.pointer (some ⟨b, 0, none⟩), .int .i64 0]) ∧ Ry w' S b (mkR wk last (pgF (psOf ls))) n ∧ (∀ k, S k → w.heap.size ≤ k) ∧ Fr (fun _ => False) w w' := by
  have hrp := replay_any a none n c 0 0 ls [] hn rfl (fun r hr => by cases hr) w h ⟨Nat.le_refl _, by omega, .inl rfl⟩
  rw [show rplA (psOf ls) [] = (psOf ls, 0) by unfold rplA; rw [if_pos hr]; rfl] at hrp
  have HP : Hid (∀ e ∈ psOf ls, 0 < e.1 ∧ e.1 ≤ 4096) := ari_page _ _ hr
  have hmm := @run_makeMap Tryz.prog
  obtain ⟨hl1, hl2⟩ := hl
  have hla : ¬ last < 0 := by omega
  have hlb : ¬ last > 1099511627776 := by omega
  have hwa : ¬ (wk : Int) < 1 := by omega
  have hwb : ¬ (wk : Int) > 8 := by omega
  have HN : Hid (n = ls.length) := hn
  clear h hr hn
  go_enter Tryz.func10, Tryz.ntmps10
  go_wp2_with fail
  refine hrp.mono ?_
  rintro e w1 ⟨a', c', ls', rfl, hsv, hps, f1⟩
  have hll : ls'.length = n := by
    have := congrArg List.length hps
    unfold psOf at this
    rw [List.length_map, List.length_map] at this
    have := HN.out
    omega
  have HPS : Hid (psOf ls' = psOf ls) := hps
  have HP2 : Hid (∀ e ∈ psOf ls', 0 < e.1 ∧ e.1 ≤ 4096) := by show ∀ e ∈ psOf ls', _; rw [HPS.out]; exact HP.out
  have HS : Hid (∀ W, Fr (fun _ => False) w1 W → Slots W a' c' ls') := fun W f => (hsv.same f).slots rfl
  have HF1 : Hid (Fr (fun _ => False) w w1) := f1
  clear hrp hsv f1 hps HP
  dsimp only
  rw [hll]
  have HN2 : Hid (n = ls'.length) := hll.symm
  clear hll
  clear HN
  have HM0 : Hid (Ry ((w1.alloc (.map #[] 0)).alloc (.cells (mkC w1.heap.size wk last) 91)) (mkS w1.heap.size (w1.heap.size + 1)) (w1.heap.size + 1) (mkR wk last (pgF [])) 0) := mk_ry (by have := heap_alloc_new (w1.alloc (.map #[] 0)) (.cells (mkC w1.heap.size wk last) 91); rwa [World.size_alloc] at this) ((Mp.made w1).same (Fr.box _ _)) (by omega) hw8
  have HF2 : Hid (Fr (fun _ => False) w1 ((w1.alloc (.map #[] 0)).alloc (.cells (mkC w1.heap.size wk last) 91))) := (Fr.box _ _).seq' (Fr.box _ _)
  obtain ⟨b, hb⟩ : ∃ b, b = w1.heap.size + 1 := ⟨_, rfl⟩
  have HSB : Hid (∀ k, mkS w1.heap.size b k → w1.heap.size ≤ k) := fun k hk => by
    rcases hk with rfl | rfl <;> omega
  rw [← hb] at HM0
  obtain ⟨S, hS⟩ : ∃ S, S = mkS w1.heap.size b := ⟨_, rfl⟩
  rw [← hS] at HM0 HSB
  obtain ⟨V, hV⟩ : ∃ V, V = ((w1.alloc (.map #[] 0)).alloc (.cells (mkC w1.heap.size wk last) 91)) := ⟨_, rfl⟩
  rw [← hV] at HM0 HF2
  have HV : Hid (V = ((w1.alloc (.map #[] 0)).alloc (.cells (mkC w1.heap.size wk last) 91))) := hV
  have HBE : Hid (b = w1.heap.size + 1) := hb
  unfold mkC at HV
  clear hS hV hb
  go_upto_region 7 with fail
  rw [← HV.out]
  rw [← HBE.out]
  clear HV HBE hmm
  go_wp2
  go_loopw [43] (fun i wr => ∃ (k : Nat), k ≤ n ∧ i = .int .i64 k ∧ Hid (Ry wr S b (mkR wk last (pgF (psOf (ls'.take k)))) k) ∧ Fr (fun _ => False) w1 wr) (fun i _ => n - (intOf i).toNat)
  case atStart => exact ⟨0, by omega, rfl, HM0, HF2.out⟩
  case round =>
    obtain ⟨k, hk, rfl, HR, F⟩ := hrel
    by_cases hlt : k < n
    · obtain ⟨s, hs⟩ : ∃ s, ls'[k]? = some s := ⟨_, List.getElem?_eq_getElem (by have := HN2.out; omega)⟩
      obtain ⟨sb, off, rfl, hb, hc⟩ := (HS.out _ F).some (by have := HN2.out; omega)
      obtain ⟨q0, q1, q2, q3, q4, q5, q6, q7⟩ := sl_range (hc k s hs)
      have hki : (k : Int) < (n : Int) := by omega
      have HPG := pgF_snoc (psOf (ls'.take k)) (s.page, s.nd)
      rw [← ps_next hs] at HPG
      have hpp := HP2.out (s.page, s.nd) (List.mem_map.2 ⟨s, List.mem_of_getElem? hs, rfl⟩)
      have hnd := (HS.out _ F).nod s (List.mem_of_getElem? hs)
      have FB := Fr.box wr (.cells #[.int .i64 s.page, .int .i64 s.nd.lev, .int .i64 s.nd.lsn, .int .i64 s.nd.rgt, .string s.nd.high, .slice s.pt.k s.nd.keys.length s.pt.kc, .slice s.pt.v s.nd.vals.length s.pt.vc, .slice s.pt.i s.nd.kids.length s.pt.ic] 35)
      have FD := FB.drew
      have HB1 : Hid ((wr.alloc (.cells #[.int .i64 s.page, .int .i64 s.nd.lev, .int .i64 s.nd.lsn, .int .i64 s.nd.rgt, .string s.nd.high, .slice s.pt.k s.nd.keys.length s.pt.kc, .slice s.pt.v s.nd.vals.length s.pt.vc, .slice s.pt.i s.nd.kids.length s.pt.ic] 35)).heap[wr.heap.size]? = some (.cells #[.int .i64 s.page, .int .i64 s.nd.lev, .int .i64 s.nd.lsn, .int .i64 s.nd.rgt, .string s.nd.high, .slice s.pt.k s.nd.keys.length s.pt.kc, .slice s.pt.v s.nd.vals.length s.pt.vc, .slice s.pt.i s.nd.kids.length s.pt.ic] 35 (0, 0))) := heap_alloc_new wr _
      obtain ⟨A, m, cnt, q, pt, hI⟩ := HR.out.same FD
      obtain ⟨w4, hst, hR4, f4⟩ := hI.page (by omega) s.page (wfK_of (by omega)) s.nd s.pt (hnd.same FD) (((HS.out w1 (Fr.refl _ _)).nod s (List.mem_of_getElem? hs)).far (fun g hg hS => by have := HSB.out g hS; omega))
      have c0 := hI.cell.1
      have hbV := hI.cell.2.2.2.2.2.2
      have hom := hI.om
      have HR5 : Hid (Ry w4 S b (mkR wk last (pgF (psOf (ls'.take (k + 1))))) (k + 1)) := by show Ry _ _ _ _ _; rw [HPG]; exact hR4
      have F5 : Fr (fun _ => False) w1 w4 := (F.seq' FD).trans f4 (fun g hg e => by have := HSB.out m hom; omega)
      obtain ⟨⟨p0, p1, p2, p3, p4, p5, p6, p7⟩, pz⟩ := rec_cells HB1.out
      have hbw := lt_of_block HB1.out
      clear hs hc hI hR4 f4 FB FD HR HPG hpp hnd
      go_wp2_with fail
      go_region_law (fail)
      all_goals
        go_wp2
        go_roundw
        case rel => exact ⟨k + 1, by omega, by go_num, HR5, F5⟩
        case measure => simp [intOf]; omega
    · obtain rfl : k = n := by omega
      have HFIN : Hid (Ry wr S b (mkR wk last (pgF (psOf ls))) k) := by
        have := HR.out
        rw [List.take_of_length_le (by have := HN2.out; omega), HPS.out] at this
        exact this
      have HBD : Hid (∀ g, S g → w.heap.size ≤ g) := fun g hg => Nat.le_trans HF1.out.size (HSB.out g hg)
      have HFF : Hid (Fr (fun _ => False) w wr) := HF1.out.seq' F
      clear HR HS
      go_wp2
      go_ret2
      exact ⟨b, S, rfl, HFIN.out, HBD.out, HFF.out⟩
end Go.Proofs.YtkibbojiflklpaaGreat
