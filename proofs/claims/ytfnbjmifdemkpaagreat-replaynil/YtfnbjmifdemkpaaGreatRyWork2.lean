
/- A worker does a record of a page that is there. -/
import Derived.Test.YtfnbjmifdemkpaaGreatRyWork
import Derived.Lib.MinMax
namespace Go.Proofs.YtfnbjmifdemkpaaGreat
open Go.RowKit Go.Shelf

theorem nd_zero (w : World) : (zeroValue 33).run Tryz.prog w = .ok (.agg #[.int .i64 0, .int .i64 0, .int .i64 0, .string ⟨#[]⟩, .slice none 0 0, .slice none 0 0, .slice none 0 0]) w := by kernel_rfl
/-- What a replay is behind a piece of work. -/
def workR (R : RSt) (i : Nat) (x : Wg) (t : List Wg) (n : Nd) : RSt := { R with L := qupd R.L i t, top := max R.top x.1.lsn, pg := pupd R.pg x.1.page n }
section
variable {S : Nat → Prop} {b : Nat} {R : RSt} {N : Nat}
set_option maxRecDepth 100000 in
set_option maxHeartbeats 16000000 in
theorem ry_workv (i : Nat) (x : Wg) (t : List Wg) (w : World) (h : Ry w S b R N) (hN : N ≤ 100000) (hi : i < R.wk) (hL : R.L i = x :: t) (n : Nd) (hpg : R.pg x.1.page = some n) (hpw : wfK x.1.page) (hkz : x.1.key.size ≤ 140737488351232) (hvz : x.1.val.size ≤ 140737488351232) (he : apE n true x.1 = 0) :
    Calls Tryz.prog 15 #[.pointer (some ⟨b, 0, none⟩), .int .i64 (i : Int)] w fun e w' => e = .returned (.tuple #[.bool true, .int .i64 0]) ∧ RyTo w S b (workR R i x t (apN n true x.1)) (N + 2) w' := by
  have hwk : R.wk ≤ 8 := by obtain ⟨_, _, _, _, _, h⟩ := h; exact h.few
  have hhas := ry_hasv (i : Int) w h
  rw [show decide ((0 : Int) ≤ (i : Int) ∧ (i : Int) < (R.wk : Int)) = true from decide_eq_true ⟨by omega, by omega⟩] at hhas
  have hfi := ry_first w h (by omega) i (by omega)
  rw [hL, show 2 + 2 * i = 2 + i * 2 by omega] at hfi
  unfold FirO at hfi
  dsimp only [List.headD, List.isEmpty, Bool.not_false] at hfi
  have HOB : Hid (S b ∧ ∀ k, S k → k < w.heap.size) := h.own
  obtain ⟨A, m, cnt, q, pt, hI⟩ := h
  have HI : Hid (∀ W, Fr (fun _ => False) w W → RyI W S b R N A m cnt q pt) := fun W f => hI.same f
  have hb := (hI.cell).2.2.2.2.2.2
  obtain ⟨p, hp⟩ : ∃ p, p = pt x.1.page := ⟨_, rfl⟩
  have HNOD : Hid (∀ W, Fr (fun _ => False) w W → Nod W n p) := fun W f => by rw [hp]; exact ((HI.out W f).nods _ _ hpg).1
  have HLK : Hid (∀ W, Fr (fun _ => False) w W → (Instr.lookup 87 (.map (some m)) (.int .i64 x.1.page) true).run Tryz.prog W = .ok (.tuple #[(.agg #[.int .i64 n.lev, .int .i64 n.lsn, .int .i64 n.rgt, .string n.high, .slice p.k n.keys.length p.kc, .slice p.v n.vals.length p.vc, .slice p.i n.kids.length p.ic]), .bool true]) W) := fun W f => by
    have := (HI.out W f).pages.look (mt := 87) Tryz.underlying87 (nd_zero W) hpw
    rw [hpg] at this
    rw [hp]
    exact this
  have hap := fun W f => apply_any n p true x.1 hkz hvz W (HNOD.out W f)
  rw [he] at hap
  have hi8 : (i : Int) < 8 := by omega
  have hi0 : (0 : Int) ≤ (i : Int) := by omega
  have HL : Hid (R.L i = x :: t ∧ i < 8 ∧ N ≤ 100000 ∧ wfK x.1.page) := ⟨hL, by omega, hN, hpw⟩
  obtain ⟨nw, hnw⟩ : ∃ nw, nw = apN n true x.1 := ⟨_, rfl⟩
  obtain ⟨ad, had⟩ : ∃ ad, ad = apD n true x.1 := ⟨_, rfl⟩
  rw [← hnw, ← had] at hap
  rw [← hnw]
  have HAP : Hid (∀ W, Fr (fun _ => False) w W → Calls Tryz.prog 50 #[(.agg #[.int .i64 n.lev, .int .i64 n.lsn, .int .i64 n.rgt, .string n.high, .slice p.k n.keys.length p.kc, .slice p.v n.vals.length p.vc, .slice p.i n.kids.length p.ic]), .bool true, (.agg #[.int .i64 x.1.lsn, .int .i64 x.1.ep, .int .i64 x.1.kind, .int .i64 x.1.page, .int .i64 x.1.other, .int .i64 x.1.req, .string x.1.key, .string x.1.val])] W fun e w' => ApOut nw ad 0 W e w') := hap
  unfold ApOut at HAP
  clear hI hpg hpw hkz hvz he hwk hp hap hnw had hL hi
  obtain ⟨⟨lsn, ep, kind, page, other, req, key, val⟩, pn⟩ := x
  unfold wgV at hfi
  unfold workR
  dsimp only at hfi HLK HAP HL ⊢
  go_enter Tryz.func15, Tryz.ntmps15
  go_wp2_with (go_at_call 48; refine hhas.mono ?_; rintro e w ⟨rfl, hw⟩; subst hw)
  refine hfi.mono ?_
  rintro e w1 ⟨rfl, f1⟩
  clear hfi hhas
  obtain ⟨V1, hV1⟩ : ∃ V1, V1 = w1.alloc (.cells #[.int .i64 lsn, .int .i64 ep, .int .i64 kind, .int .i64 page, .int .i64 other, .int .i64 req, .string key, .string val, .int .i64 pn] 100) := ⟨_, rfl⟩
  have HF1 : Hid (Fr (fun _ => False) w V1) := by show Fr _ _ _; rw [hV1]; exact f1.seq' (Fr.box _ _)
  have HB1 : Hid (V1.heap[w1.heap.size]? = some (.cells #[.int .i64 lsn, .int .i64 ep, .int .i64 kind, .int .i64 page, .int .i64 other, .int .i64 req, .string key, .string val, .int .i64 pn] 100 (0, 0))) := by show _ = _; rw [hV1]; exact heap_alloc_new w1 _
  have HV1 : Hid (V1 = w1.alloc (.cells #[.int .i64 lsn, .int .i64 ep, .int .i64 kind, .int .i64 page, .int .i64 other, .int .i64 req, .string key, .string val, .int .i64 pn] 100)) := hV1
  have HSZ : Hid (w.heap.size ≤ w1.heap.size) := f1.size
  clear hV1 f1
  go_upto_region 6 with fail
  rw [← HV1.out]
  obtain ⟨k0, k1, k2, k3, k4, k5, k6, k7, k8, kz⟩ := nine_cells HB1.out
  have c0 := (HI.out V1 HF1.out).cell.1
  have hbV : b < V1.heap.size := (HI.out V1 HF1.out).cell.2.2.2.2.2.2
  have hgV := lt_of_block HB1.out
  have e1 := HLK.out V1.drew HF1.out.drew
  have e2 := HLK.out (V1.alloc (.cells #[.int .i64 0, .int .i64 0, .int .i64 0, .string ⟨#[]⟩, .slice none 0 0, .slice none 0 0, .slice none 0 0] 33)).drew ((HF1.out.seq' (Fr.box _ _)).drew)
  go_cut [8, 9] (fun pp ok wc => pp = .pointer (some ⟨V1.heap.size, 0, none⟩) ∧ ok = .bool true ∧ (V1.alloc (.cells #[.int .i64 n.lev, .int .i64 n.lsn, .int .i64 n.rgt, .string n.high, .slice p.k n.keys.length p.kc, .slice p.v n.vals.length p.vc, .slice p.i n.kids.length p.ic] 33)).drew = wc)
  case first =>
    go_region_law (fail)
    all_goals go_wp2_with fail
    all_goals go_meet
    all_goals exact ⟨rfl, rfl, rfl⟩
  case rest =>
  obtain ⟨rfl, rfl, rfl⟩ := hcut
  clear k0 k1 k2 k3 k4 k5 k6 k7 k8 kz c0 hbV e1 e2 HV1
  have FV2 : Fr (fun _ => False) V1 (V1.alloc (.cells #[.int .i64 n.lev, .int .i64 n.lsn, .int .i64 n.rgt, .string n.high, .slice p.k n.keys.length p.kc, .slice p.v n.vals.length p.vc, .slice p.i n.kids.length p.ic] 33)).drew := (Fr.box _ _).drew
  have hB2 : (V1.alloc (.cells #[.int .i64 n.lev, .int .i64 n.lsn, .int .i64 n.rgt, .string n.high, .slice p.k n.keys.length p.kc, .slice p.v n.vals.length p.vc, .slice p.i n.kids.length p.ic] 33)).drew.heap[V1.heap.size]? = some (.cells #[.int .i64 n.lev, .int .i64 n.lsn, .int .i64 n.rgt, .string n.high, .slice p.k n.keys.length p.kc, .slice p.v n.vals.length p.vc, .slice p.i n.kids.length p.ic] 33 (0, 0)) := heap_alloc_new V1 _
  have hB1 := FV2.blk HB1.out (fun e => e)
  have HF2 : Hid (Fr (fun _ => False) w (V1.alloc (.cells #[.int .i64 n.lev, .int .i64 n.lsn, .int .i64 n.rgt, .string n.high, .slice p.k n.keys.length p.kc, .slice p.v n.vals.length p.vc, .slice p.i n.kids.length p.ic] 33)).drew) := HF1.out.seq' FV2
  obtain ⟨V2, hV2⟩ : ∃ V2, V2 = (V1.alloc (.cells #[.int .i64 n.lev, .int .i64 n.lsn, .int .i64 n.rgt, .string n.high, .slice p.k n.keys.length p.kc, .slice p.v n.vals.length p.vc, .slice p.i n.kids.length p.ic] 33)).drew := ⟨_, rfl⟩
  rw [← hV2] at hB2 hB1 HF2 ⊢
  have hap := HAP.out V2 HF2.out
  obtain ⟨k0, k1, k2, k3, k4, k5, k6, k7, k8, kz⟩ := nine_cells hB1
  obtain ⟨n0, n1, n2, n3, n4, n5, n6⟩ := box_cells hB2
  have hg1 := lt_of_block hB1
  have hg2 := lt_of_block hB2
  have HB12 : Hid (V2.heap[w1.heap.size]? = some (.cells #[.int .i64 lsn, .int .i64 ep, .int .i64 kind, .int .i64 page, .int .i64 other, .int .i64 req, .string key, .string val, .int .i64 pn] 100 (0, 0))) := hB1
  clear hV2 FV2 hB1 hB2 HB1 HF1 HAP HLK HNOD hgV
  go_wp2_with fail
  refine hap.mono ?_
  rintro e w3 ⟨p3, rfl, hn3, f3, hw3⟩
  clear hap n0 n1 n2 n3 n4 n5 n6 hg1 hg2 k0 k1 k2 k3 k4 k5 k6 k7 k8 kz
  obtain ⟨V3, hV3⟩ : ∃ V3, V3 = w3.alloc (.cells #[.int .i64 nw.lev, .int .i64 nw.lsn, .int .i64 nw.rgt, .string nw.high, .slice p3.k nw.keys.length p3.kc, .slice p3.v nw.vals.length p3.vc, .slice p3.i nw.kids.length p3.ic] 33) := ⟨_, rfl⟩
  have FV3 : Fr (fun _ => False) w3 V3 := by rw [hV3]; exact Fr.box _ _
  have HF3 : Hid (Fr (fun _ => False) w V3) := (HF2.out.seq' f3).seq' FV3
  have HB13 : Hid (V3.heap[w1.heap.size]? = some (.cells #[.int .i64 lsn, .int .i64 ep, .int .i64 kind, .int .i64 page, .int .i64 other, .int .i64 req, .string key, .string val, .int .i64 pn] 100 (0, 0))) := (f3.seq' FV3).blk HB12.out (fun e => e)
  have HB33 : Hid (V3.heap[w3.heap.size]? = some (.cells #[.int .i64 nw.lev, .int .i64 nw.lsn, .int .i64 nw.rgt, .string nw.high, .slice p3.k nw.keys.length p3.kc, .slice p3.v nw.vals.length p3.vc, .slice p3.i nw.kids.length p3.ic] 33 (0, 0))) := by show _ = _; rw [hV3]; exact heap_alloc_new w3 _
  have HN3 : Hid (Nod V3 nw p3 ∧ Off S nw p3) := ⟨hn3.same FV3, hw3.off (fun k hk hs => by have := HOB.out.2 k hs; have := HF2.out.size; omega)⟩
  have HV3 : Hid (V3 = w3.alloc (.cells #[.int .i64 nw.lev, .int .i64 nw.lsn, .int .i64 nw.rgt, .string nw.high, .slice p3.k nw.keys.length p3.kc, .slice p3.v nw.vals.length p3.vc, .slice p3.i nw.kids.length p3.ic] 33)) := hV3
  clear hV3 FV3 hn3 hw3 f3
  have FD3 := (Fr.refl (fun _ => False) V3).drew
  obtain ⟨w4, hst, hR4, f4⟩ := ((HI.out V3 HF3.out).same FD3).page (by have := HL.out.2.2.1; omega) page HL.out.2.2.2 nw p3 (HN3.out.1.same FD3) HN3.out.2
  have hm := (HI.out V3 HF3.out)
  have c0 := hm.cell.1
  have hbV := hm.cell.2.2.2.2.2.2
  have hbm := hm.bm
  have HM : Hid (S m ∧ m < w.heap.size ∧ b ≠ m) := ⟨hm.om, HOB.out.2 _ hm.om, hbm⟩
  have HF4 : Hid (Fr S w w4) := (((Fr.refl S w).trans HF3.out (fun _ _ e => e.elim)).trans FD3 (fun _ _ e => e.elim)).trans f4 (fun k _ e => by rw [e]; exact HM.out.1)
  have HB14 : Hid (w4.heap[w1.heap.size]? = some (.cells #[.int .i64 lsn, .int .i64 ep, .int .i64 kind, .int .i64 page, .int .i64 other, .int .i64 req, .string key, .string val, .int .i64 pn] 100 (0, 0)) ∧ w.heap.size ≤ w1.heap.size) := by
    have hne : w1.heap.size ≠ m := by have := HM.out.2.1; have := HSZ.out; omega
    exact ⟨(f4.block _ (lt_of_block HB13.out) (fun e => hne e)).trans HB13.out, HSZ.out⟩
  have HR4 : Hid (Ry w4 S b { R with pg := pupd R.pg page nw } (N + 1)) := hR4
  obtain ⟨k0, k1, k2, k3, k4, k5, k6, k7, k8, kz⟩ := nine_cells HB13.out
  obtain ⟨n0, n1, n2, n3, n4, n5, n6⟩ := box_cells HB33.out
  have hg1 := lt_of_block HB13.out
  have hg2 := lt_of_block HB33.out
  clear hR4 f4 hm FD3
  go_upto_region 10 with fail
  rw [← HV3.out]
  go_cut [51] (fun pp wc => pp = .pointer (some ⟨b, 0, none⟩) ∧ w4 = wc)
  case first =>
    go_region_law (fail)
    all_goals go_wp2_with fail
    all_goals go_meet
    all_goals exact ⟨rfl, rfl⟩
  case rest =>
  obtain ⟨rfl, rfl⟩ := hcut
  clear k0 k1 k2 k3 k4 k5 k6 k7 k8 kz n0 n1 n2 n3 n4 n5 n6 hg1 hg2 c0 hbV hst hbm HB33 HN3 HV3 HI HB13 HF3
  obtain ⟨k0, k1, k2, k3, k4, k5, k6, k7, k8, kz⟩ := nine_cells HB14.out.1
  obtain ⟨c1, c18, c19, c20, cz, cb⟩ := (HR4.out).scal
  have hg1 := lt_of_block HB14.out.1
  dsimp only at c1 c18 c19 c20
  clear c1 c18 c19 k1 k2 k3 k4 k5 k6 k7 k8
  go_upto_region 11 with fail
  go_cut [59] (fun pp wc => pp = .pointer (some ⟨b, 0, none⟩) ∧ (w4.setCell ⟨b, 20, none⟩ (.int .i64 (max R.top lsn))).drew = wc)
  case first =>
    go_region_law (fail)
    all_goals go_wp2_with fail
    all_goals go_meet
    all_goals exact ⟨rfl, rfl⟩
  case rest =>
  obtain ⟨rfl, rfl⟩ := hcut
  clear c20 k0 cz kz hg1 cb
  obtain ⟨a1, a2⟩ := (HR4.out).topI (max R.top lsn)
  have HR5 : Hid (Ry (w4.setCell ⟨b, 20, none⟩ (.int .i64 (max R.top lsn))).drew S b { R with pg := pupd R.pg page nw, top := max R.top lsn } (N + 1)) := a1.same ((Fr.refl (fun _ => False) _).drew)
  have HF5 : Hid (Fr S w (w4.setCell ⟨b, 20, none⟩ (.int .i64 (max R.top lsn))).drew) := (HF4.out.trans a2 (fun k _ e => by rw [e]; exact HOB.out.1)).drew
  clear a1 a2 HR4 HF4 HB14 HM HF2 HB12
  obtain ⟨w5, hw5⟩ : ∃ w5, w5 = (w4.setCell ⟨b, 20, none⟩ (.int .i64 (max R.top lsn))).drew := ⟨_, rfl⟩
  rw [← hw5] at HR5 HF5 ⊢
  clear hw5
  have cz := fun j => HR5.out.scal.2.2.2.2.1 j
  have cb := HR5.out.scal.2.2.2.2.2
  have hct := ry_cutq w5 HR5.out (by have := HL.out.2.2.1; omega) i HL.out.2.1 (x := _) (t := t) HL.out.1
  have hwr : IntKind.i64.wrap (i : Int) = (i : Int) := by simp [IntKind.wrap, IntKind.bits, IntKind.signed]; omega
  go_wp2_with fail
  refine hct.mono ?_
  rintro e w6 ⟨rfl, S2, g1, g2, g3, g4⟩
  have HFIN : Hid (RyTo w S b { R with L := qupd R.L i t, top := max R.top lsn, pg := pupd R.pg page nw } (N + 2) w6) := ⟨S2, g1, fun k hk => by
    rcases g2 k hk with h | h
    · exact .inl h
    · exact .inr (Nat.le_trans HF5.out.size h), g3, HF5.out.trans g4 (fun i _ e => e)⟩
  clear hct g1 g2 g3 g4 HR5 HF5
  go_wp2
  go_ret2
  exact ⟨rfl, HFIN.out⟩
end
end Go.Proofs.YtfnbjmifdemkpaaGreat
