
/- RyWorkG, RyFeedG, RyRis17. -/
import Derived.Test.YtkibbojiflklpaaGreatRYF
import Derived.Test.YtkibbojiflklpaaGreatRYD
import Derived.Test.YtkibbojiflklpaaGreatRG4
/- A worker does a record, whatever its page is; a worker that is none, or for whom none waits. -/
namespace Go.Proofs.YtkibbojiflklpaaGreat
open Go.RowKit Go.Shelf

section
variable {S : Nat → Prop} {b : Nat} {R : RSt} {N : Nat}
set_option maxRecDepth 100000 in
set_option maxHeartbeats 16000000 in
theorem ry_workg (i : Nat) (x : Wg) (t : List Wg) (w : World) (h : Ry w S b R N) (hN : N ≤ 100000) (hi : i < R.wk) (hL : R.L i = x :: t) (hpw : wfK x.1.page) (hkz : x.1.key.size ≤ 140737488351232) (hvz : x.1.val.size ≤ 140737488351232) (he : apE ((R.pg x.1.page).getD zn) (R.pg x.1.page).isSome x.1 = 0) :
    Calls Tryz.prog 14 #[.pointer (some ⟨b, 0, none⟩), .int .i64 (i : Int)] w fun e w' => e = .returned (.tuple #[.bool true, .int .i64 0]) ∧ RyTo w S b (workR R i x t (apN ((R.pg x.1.page).getD zn) (R.pg x.1.page).isSome x.1)) (N + 2) w' := by
  have hwk : R.wk ≤ 8 := by obtain ⟨_, _, _, _, _, h⟩ := h; exact h.few
  have hhas := ry_hasv (i : Int) w h
  rw [show decide ((0 : Int) ≤ (i : Int) ∧ (i : Int) < (R.wk : Int)) = true from decide_eq_true ⟨by omega, by omega⟩] at hhas
  have hfi := ry_first w h (by omega) i (by omega)
  rw [hL, show 2 + 2 * i = 2 + i * 2 by omega] at hfi
  unfold FirO at hfi
  dsimp only [List.headD, List.isEmpty, Bool.not_false] at hfi
  have HOB : Hid (S b ∧ ∀ k, S k → k < w.heap.size) := h.own
  obtain ⟨A, m, cnt, q, pt, hI⟩ := h
  have HI : Hid (∀ W, Fr (fun _ => False) w W → RyI W S b R N A m cnt q pt) := fun W f => hI.same f
  have hb := (hI.cell).2.2.2.2.2.2
  obtain ⟨n, p, bo, hn, hbo, hnod, hlk⟩ : ∃ (n : Nd) (p : Pt) (bo : Bool), n = (R.pg x.1.page).getD zn ∧ bo = (R.pg x.1.page).isSome ∧ (∀ W, Fr (fun _ => False) w W → Nod W n p) ∧ (∀ W, Fr (fun _ => False) w W → (Instr.lookup 85 (.map (some m)) (.int .i64 x.1.page) true).run Tryz.prog W = .ok (.tuple #[(.agg #[.int .i64 n.lev, .int .i64 n.lsn, .int .i64 n.rgt, .string n.high, .slice p.k n.keys.length p.kc, .slice p.v n.vals.length p.vc, .slice p.i n.kids.length p.ic]), .bool bo]) W) := by
    cases hpg : R.pg x.1.page with
    | none =>
      refine ⟨zn, zp, false, rfl, rfl, fun W _ => zn_nod W, fun W f => ?_⟩
      have := (HI.out W f).pages.look (mt := 85) Tryz.underlying85 (nd_zero W) hpw
      rw [hpg] at this
      exact this
    | some n =>
      refine ⟨n, pt x.1.page, true, rfl, rfl, fun W f => ((HI.out W f).nods _ _ hpg).1, fun W f => ?_⟩
      have := (HI.out W f).pages.look (mt := 85) Tryz.underlying85 (nd_zero W) hpw
      rw [hpg] at this
      exact this
  have HNOD : Hid (∀ W, Fr (fun _ => False) w W → Nod W n p) := hnod
  have HLK : Hid (∀ W, Fr (fun _ => False) w W → (Instr.lookup 85 (.map (some m)) (.int .i64 x.1.page) true).run Tryz.prog W = .ok (.tuple #[(.agg #[.int .i64 n.lev, .int .i64 n.lsn, .int .i64 n.rgt, .string n.high, .slice p.k n.keys.length p.kc, .slice p.v n.vals.length p.vc, .slice p.i n.kids.length p.ic]), .bool bo]) W) := hlk
  rw [← hn, ← hbo] at he ⊢
  have hap := fun W f => apply_any n p bo x.1 hkz hvz W (HNOD.out W f)
  rw [he] at hap
  have hi8 : (i : Int) < 8 := by omega
  have hi0 : (0 : Int) ≤ (i : Int) := by omega
  have HL : Hid (R.L i = x :: t ∧ i < 8 ∧ N ≤ 100000 ∧ wfK x.1.page) := ⟨hL, by omega, hN, hpw⟩
  obtain ⟨nw, hnw⟩ : ∃ nw, nw = apN n bo x.1 := ⟨_, rfl⟩
  obtain ⟨ad, had⟩ : ∃ ad, ad = apD n bo x.1 := ⟨_, rfl⟩
  rw [← hnw, ← had] at hap
  rw [← hnw]
  have HAP : Hid (∀ W, Fr (fun _ => False) w W → Calls Tryz.prog 47 #[(.agg #[.int .i64 n.lev, .int .i64 n.lsn, .int .i64 n.rgt, .string n.high, .slice p.k n.keys.length p.kc, .slice p.v n.vals.length p.vc, .slice p.i n.kids.length p.ic]), .bool bo, (.agg #[.int .i64 x.1.lsn, .int .i64 x.1.ep, .int .i64 x.1.kind, .int .i64 x.1.page, .int .i64 x.1.other, .int .i64 x.1.req, .string x.1.key, .string x.1.val])] W fun e w' => ApOut nw ad 0 W e w') := hap
  unfold ApOut at HAP
  clear hI hn hbo hnod hlk hpw hkz hvz he hwk hap hnw had hL hi
  obtain ⟨⟨lsn, ep, kind, page, other, req, key, val⟩, pn⟩ := x
  unfold wgV at hfi
  unfold workR
  dsimp only at hfi HLK HAP HL ⊢
  go_enter Tryz.func14, Tryz.ntmps14
  go_wp2_with (go_at_call 45; refine hhas.mono ?_; rintro e w ⟨rfl, hw⟩; subst hw)
  refine hfi.mono ?_
  rintro e w1 ⟨rfl, f1⟩
  clear hfi hhas
  obtain ⟨V1, hV1⟩ : ∃ V1, V1 = w1.alloc (.cells #[.int .i64 lsn, .int .i64 ep, .int .i64 kind, .int .i64 page, .int .i64 other, .int .i64 req, .string key, .string val, .int .i64 pn] 98) := ⟨_, rfl⟩
  have HF1 : Hid (Fr (fun _ => False) w V1) := by show Fr _ _ _; rw [hV1]; exact f1.seq' (Fr.box _ _)
  have HB1 : Hid (V1.heap[w1.heap.size]? = some (.cells #[.int .i64 lsn, .int .i64 ep, .int .i64 kind, .int .i64 page, .int .i64 other, .int .i64 req, .string key, .string val, .int .i64 pn] 98 (0, 0))) := by show _ = _; rw [hV1]; exact heap_alloc_new w1 _
  have HV1 : Hid (V1 = w1.alloc (.cells #[.int .i64 lsn, .int .i64 ep, .int .i64 kind, .int .i64 page, .int .i64 other, .int .i64 req, .string key, .string val, .int .i64 pn] 98)) := hV1
  have HSZ : Hid (w.heap.size ≤ w1.heap.size) := f1.size
  clear hV1 f1
  go_upto_region 6 with fail
  rw [← HV1.out]
  obtain ⟨k0, k1, k2, k3, k4, k5, k6, k7, k8, kz⟩ := nine_cells HB1.out
  have c0 := (HI.out V1 HF1.out).cell.1
  have hbV : b < V1.heap.size := (HI.out V1 HF1.out).cell.2.2.2.2.2.2
  have hgV := lt_of_block HB1.out
  have e1 := HLK.out V1.drew HF1.out.drew
  have e2 := HLK.out (V1.alloc (.cells #[.int .i64 0, .int .i64 0, .int .i64 0, .string ⟨#[]⟩, .slice none 0 0, .slice none 0 0, .slice none 0 0] 33)).drew ((HF1.out.seq' (Fr.box _ _)).drew)
  go_cut [8, 9] (fun pp ok wc => pp = .pointer (some ⟨V1.heap.size, 0, none⟩) ∧ ok = .bool bo ∧ (V1.alloc (.cells #[.int .i64 n.lev, .int .i64 n.lsn, .int .i64 n.rgt, .string n.high, .slice p.k n.keys.length p.kc, .slice p.v n.vals.length p.vc, .slice p.i n.kids.length p.ic] 33)).drew = wc)
  case first =>
    go_region_law (fail)
    all_goals go_wp2_with fail
    all_goals go_meet
    all_goals exact ⟨rfl, rfl, rfl⟩
  case rest =>
  obtain ⟨rfl, rfl, rfl⟩ := hcut
  clear k0 k1 k2 k3 k4 k5 k6 k7 k8 kz c0 hbV e1 e2 HV1
  have FV2 : Fr (fun _ => False) V1 (V1.alloc (.cells #[.int .i64 n.lev, .int .i64 n.lsn, .int .i64 n.rgt, .string n.high, .slice p.k n.keys.length p.kc, .slice p.v n.vals.length p.vc, .slice p.i n.kids.length p.ic] 33)).drew := (Fr.box _ _).drew
  have hB2 : (V1.alloc (.cells #[.int .i64 n.lev, .int .i64 n.lsn, .int .i64 n.rgt, .string n.high, .slice p.k n.keys.length p.kc, .slice p.v n.vals.length p.vc, .slice p.i n.kids.length p.ic] 33)).drew.heap[V1.heap.size]? = some (.cells #[.int .i64 n.lev, .int .i64 n.lsn, .int .i64 n.rgt, .string n.high, .slice p.k n.keys.length p.kc, .slice p.v n.vals.length p.vc, .slice p.i n.kids.length p.ic] 33 (0, 0)) := heap_alloc_new V1 _
  have hB1 := FV2.blk HB1.out (fun e => e)
  have HF2 : Hid (Fr (fun _ => False) w (V1.alloc (.cells #[.int .i64 n.lev, .int .i64 n.lsn, .int .i64 n.rgt, .string n.high, .slice p.k n.keys.length p.kc, .slice p.v n.vals.length p.vc, .slice p.i n.kids.length p.ic] 33)).drew) := HF1.out.seq' FV2
  obtain ⟨V2, hV2⟩ : ∃ V2, V2 = (V1.alloc (.cells #[.int .i64 n.lev, .int .i64 n.lsn, .int .i64 n.rgt, .string n.high, .slice p.k n.keys.length p.kc, .slice p.v n.vals.length p.vc, .slice p.i n.kids.length p.ic] 33)).drew := ⟨_, rfl⟩
  rw [← hV2] at hB2 hB1 HF2 ⊢
  have hap := HAP.out V2 HF2.out
  obtain ⟨k0, k1, k2, k3, k4, k5, k6, k7, k8, kz⟩ := nine_cells hB1
  obtain ⟨n0, n1, n2, n3, n4, n5, n6⟩ := box_cells hB2
  have hg1 := lt_of_block hB1
  have hg2 := lt_of_block hB2
  have HB12 : Hid (V2.heap[w1.heap.size]? = some (.cells #[.int .i64 lsn, .int .i64 ep, .int .i64 kind, .int .i64 page, .int .i64 other, .int .i64 req, .string key, .string val, .int .i64 pn] 98 (0, 0))) := hB1
  clear hV2 FV2 hB1 hB2 HB1 HF1 HAP HLK HNOD hgV
  go_wp2_with fail
  refine hap.mono ?_
  rintro e w3 ⟨p3, rfl, hn3, f3, hw3⟩
  clear hap n0 n1 n2 n3 n4 n5 n6 hg1 hg2 k0 k1 k2 k3 k4 k5 k6 k7 k8 kz
  obtain ⟨V3, hV3⟩ : ∃ V3, V3 = w3.alloc (.cells #[.int .i64 nw.lev, .int .i64 nw.lsn, .int .i64 nw.rgt, .string nw.high, .slice p3.k nw.keys.length p3.kc, .slice p3.v nw.vals.length p3.vc, .slice p3.i nw.kids.length p3.ic] 33) := ⟨_, rfl⟩
  have FV3 : Fr (fun _ => False) w3 V3 := by rw [hV3]; exact Fr.box _ _
  have HF3 : Hid (Fr (fun _ => False) w V3) := (HF2.out.seq' f3).seq' FV3
  have HB13 : Hid (V3.heap[w1.heap.size]? = some (.cells #[.int .i64 lsn, .int .i64 ep, .int .i64 kind, .int .i64 page, .int .i64 other, .int .i64 req, .string key, .string val, .int .i64 pn] 98 (0, 0))) := (f3.seq' FV3).blk HB12.out (fun e => e)
  have HB33 : Hid (V3.heap[w3.heap.size]? = some (.cells #[.int .i64 nw.lev, .int .i64 nw.lsn, .int .i64 nw.rgt, .string nw.high, .slice p3.k nw.keys.length p3.kc, .slice p3.v nw.vals.length p3.vc, .slice p3.i nw.kids.length p3.ic] 33 (0, 0))) := by show _ = _; rw [hV3]; exact heap_alloc_new w3 _
  have HN3 : Hid (Nod V3 nw p3 ∧ Off S nw p3) := ⟨hn3.same FV3, hw3.off (fun k hk hs => by have := HOB.out.2 k hs; have := HF2.out.size; omega)⟩
  have HV3 : Hid (V3 = w3.alloc (.cells #[.int .i64 nw.lev, .int .i64 nw.lsn, .int .i64 nw.rgt, .string nw.high, .slice p3.k nw.keys.length p3.kc, .slice p3.v nw.vals.length p3.vc, .slice p3.i nw.kids.length p3.ic] 33)) := hV3
  clear hV3 FV3 hn3 hw3 f3
  have FD3 := (Fr.refl (fun _ => False) V3).drew
  obtain ⟨w4, hst, hR4, f4⟩ := ((HI.out V3 HF3.out).same FD3).page (by have := HL.out.2.2.1; omega) page HL.out.2.2.2 nw p3 (HN3.out.1.same FD3) HN3.out.2
  have hm := (HI.out V3 HF3.out)
  have c0 := hm.cell.1
  have hbV := hm.cell.2.2.2.2.2.2
  have hbm := hm.bm
  have HM : Hid (S m ∧ m < w.heap.size ∧ b ≠ m) := ⟨hm.om, HOB.out.2 _ hm.om, hbm⟩
  have HF4 : Hid (Fr S w w4) := (((Fr.refl S w).trans HF3.out (fun _ _ e => e.elim)).trans FD3 (fun _ _ e => e.elim)).trans f4 (fun k _ e => by rw [e]; exact HM.out.1)
  have HB14 : Hid (w4.heap[w1.heap.size]? = some (.cells #[.int .i64 lsn, .int .i64 ep, .int .i64 kind, .int .i64 page, .int .i64 other, .int .i64 req, .string key, .string val, .int .i64 pn] 98 (0, 0)) ∧ w.heap.size ≤ w1.heap.size) := by
    have hne : w1.heap.size ≠ m := by have := HM.out.2.1; have := HSZ.out; omega
    exact ⟨(f4.block _ (lt_of_block HB13.out) (fun e => hne e)).trans HB13.out, HSZ.out⟩
  have HR4 : Hid (Ry w4 S b { R with pg := pupd R.pg page nw } (N + 1)) := hR4
  obtain ⟨k0, k1, k2, k3, k4, k5, k6, k7, k8, kz⟩ := nine_cells HB13.out
  obtain ⟨n0, n1, n2, n3, n4, n5, n6⟩ := box_cells HB33.out
  have hg1 := lt_of_block HB13.out
  have hg2 := lt_of_block HB33.out
  clear hR4 f4 hm FD3
  go_upto_region 10 with fail
  rw [← HV3.out]
  go_cut [51] (fun pp wc => pp = .pointer (some ⟨b, 0, none⟩) ∧ w4 = wc)
  case first =>
    go_region_law (fail)
    all_goals go_wp2_with fail
    all_goals go_meet
    all_goals exact ⟨rfl, rfl⟩
  case rest =>
  obtain ⟨rfl, rfl⟩ := hcut
  clear k0 k1 k2 k3 k4 k5 k6 k7 k8 kz n0 n1 n2 n3 n4 n5 n6 hg1 hg2 c0 hbV hst hbm HB33 HN3 HV3 HI HB13 HF3
  obtain ⟨k0, k1, k2, k3, k4, k5, k6, k7, k8, kz⟩ := nine_cells HB14.out.1
  obtain ⟨c1, c18, c19, c20, cz, cb⟩ := (HR4.out).scal
  have hg1 := lt_of_block HB14.out.1
  dsimp only at c1 c18 c19 c20
  clear c1 c18 c19 k1 k2 k3 k4 k5 k6 k7 k8
  go_upto_region 11 with fail
  go_cut [59] (fun pp wc => pp = .pointer (some ⟨b, 0, none⟩) ∧ (w4.setCell ⟨b, 20, none⟩ (.int .i64 (max R.top lsn))).drew = wc)
  case first =>
    go_region_law (fail)
    all_goals go_wp2_with fail
    all_goals go_meet
    all_goals exact ⟨rfl, rfl⟩
  case rest =>
  obtain ⟨rfl, rfl⟩ := hcut
  clear c20 k0 cz kz hg1 cb
  obtain ⟨a1, a2⟩ := (HR4.out).topI (max R.top lsn)
  have HR5 : Hid (Ry (w4.setCell ⟨b, 20, none⟩ (.int .i64 (max R.top lsn))).drew S b { R with pg := pupd R.pg page nw, top := max R.top lsn } (N + 1)) := a1.same ((Fr.refl (fun _ => False) _).drew)
  have HF5 : Hid (Fr S w (w4.setCell ⟨b, 20, none⟩ (.int .i64 (max R.top lsn))).drew) := (HF4.out.trans a2 (fun k _ e => by rw [e]; exact HOB.out.1)).drew
  clear a1 a2 HR4 HF4 HB14 HM HF2 HB12
  obtain ⟨w5, hw5⟩ : ∃ w5, w5 = (w4.setCell ⟨b, 20, none⟩ (.int .i64 (max R.top lsn))).drew := ⟨_, rfl⟩
  rw [← hw5] at HR5 HF5 ⊢
  clear hw5
  have cz := fun j => HR5.out.scal.2.2.2.2.1 j
  have cb := HR5.out.scal.2.2.2.2.2
  have hct := ry_cutq w5 HR5.out (by have := HL.out.2.2.1; omega) i HL.out.2.1 (x := _) (t := t) HL.out.1
  have hwr : IntKind.i64.wrap (i : Int) = (i : Int) := by simp [IntKind.wrap, IntKind.bits, IntKind.signed]; omega
  go_wp2_with fail
  refine hct.mono ?_
  rintro e w6 ⟨rfl, S2, g1, g2, g3, g4⟩
  have HFIN : Hid (RyTo w S b { R with L := qupd R.L i t, top := max R.top lsn, pg := pupd R.pg page nw } (N + 2) w6) := ⟨S2, g1, fun k hk => by
    rcases g2 k hk with h | h
    · exact .inl h
    · exact .inr (Nat.le_trans HF5.out.size h), g3, HF5.out.trans g4 (fun i _ e => e)⟩
  clear hct g1 g2 g3 g4 HR5 HF5
  go_wp2
  go_ret2
  exact ⟨rfl, HFIN.out⟩
theorem ry_workno (i : Int) (w : World) (h : Ry w S b R N) (hi : ¬ (0 ≤ i ∧ i < R.wk)) :
    Calls Tryz.prog 14 #[.pointer (some ⟨b, 0, none⟩), .int .i64 i] w fun e w' => e = .returned (.tuple #[.bool false, .int .i64 6]) ∧ w' = w := by
  have hhas := ry_hasv i w h
  rw [decide_eq_false hi] at hhas
  clear h hi
  go_enter Tryz.func14, Tryz.ntmps14
  go_wp2_with (go_at_call 45; refine hhas.mono ?_; rintro e w ⟨rfl, hw⟩; subst hw)
  go_ret2
  exact ⟨rfl, rfl⟩
set_option maxRecDepth 100000 in
set_option maxHeartbeats 4000000 in
theorem ry_workidle (i : Nat) (w : World) (h : Ry w S b R N) (hN : N ≤ 100000) (hi : i < R.wk) (hL : R.L i = []) :
    Calls Tryz.prog 14 #[.pointer (some ⟨b, 0, none⟩), .int .i64 (i : Int)] w fun e w' => e = .returned (.tuple #[.bool false, .int .i64 0]) ∧ Fr (fun _ => False) w w' := by
  have hwk : R.wk ≤ 8 := by obtain ⟨_, _, _, _, _, h⟩ := h; exact h.few
  have hhas := ry_hasv (i : Int) w h
  rw [show decide ((0 : Int) ≤ (i : Int) ∧ (i : Int) < (R.wk : Int)) = true from decide_eq_true ⟨by omega, by omega⟩] at hhas
  have hfi := ry_first w h (by omega) i (by omega)
  rw [hL, show 2 + 2 * i = 2 + i * 2 by omega] at hfi
  unfold FirO at hfi
  dsimp only [List.headD, List.isEmpty, Bool.not_true] at hfi
  have hb := h.scal.2.2.2.2.2
  have hi8 : (i : Int) < 8 := by omega
  have hi0 : (0 : Int) ≤ (i : Int) := by omega
  clear h hL hwk
  unfold wgV wgZ at hfi
  dsimp only at hfi
  go_enter Tryz.func14, Tryz.ntmps14
  go_wp2_with (go_at_call 45; refine hhas.mono ?_; rintro e w ⟨rfl, hw⟩; subst hw)
  refine hfi.mono ?_
  rintro e w1 ⟨rfl, f1⟩
  clear hfi hhas
  have HF : Hid (Fr (fun _ => False) w (w1.alloc (.cells #[.int .i64 0, .int .i64 0, .int .i64 0, .int .i64 0, .int .i64 0, .int .i64 0, .string ⟨#[]⟩, .string ⟨#[]⟩, .int .i64 0] 98))) := f1.seq' (Fr.box _ _)
  clear f1
  go_wp2
  go_ret2
  exact ⟨rfl, HF.out⟩
end
end Go.Proofs.YtkibbojiflklpaaGreat

/- A record of any kind is fed; the refusals of a replay that is made. -/
namespace Go.Proofs.YtkibbojiflklpaaGreat
open Go.RowKit Go.Shelf

section
variable {S : Nat → Prop} {b : Nat} {R : RSt} {N : Nat}
theorem Ry.more {w : World} (h : Ry w S b R N) : Ry w S b R (N + 1) := by
  obtain ⟨A, m, cnt, q, pt, h⟩ := h
  exact ⟨A, m, cnt, q, pt, h.blk, h.cells, h.few, fun i hi => ⟨(h.rows i hi).1, (h.rows i hi).2.1, Nat.le_succ_of_le (h.rows i hi).2.2.1, (h.rows i hi).2.2.2⟩, h.pages, Nat.le_succ_of_le h.cntN, h.nods, h.ob, h.om, h.bm, h.oq, h.apart, h.lt⟩
set_option maxRecDepth 100000 in
set_option maxHeartbeats 8000000 in
theorem ry_feedc (r : Rec) (w : World) (h : Ry w S b R N) (he : erec r = 0) (hl : r.lsn = R.fed + 1) (hf : 0 ≤ R.fed ∧ R.fed ≤ 1099511627776) (hk : r.kind = 7) (hwk : 1 ≤ R.wk) : Calls Tryz.prog 13 #[.pointer (some ⟨b, 0, none⟩), (.agg #[.int .i64 r.lsn, .int .i64 r.ep, .int .i64 r.kind, .int .i64 r.page, .int .i64 r.other, .int .i64 r.req, .string r.key, .string r.val])] w fun e w' => e = .returned (.int .i64 0) ∧ Ry w' S b { R with fed := r.lsn, point := r.lsn } N ∧ Fr S w w' := by
  have hch := rec_check r
  rw [he] at hch
  have HR : Hid (∀ W, Fr (fun _ => False) w W → Ry W S b R N) := fun W f => h.same f
  have hb := h.scal.2.2.2.2.2
  have HOB : Hid (S b) := h.own.1
  have hwk0 : ((R.wk : Int) == 0) = false := by simp; omega
  have hne : (r.lsn != R.fed + 1) = false := by rw [hl]; simp
  obtain ⟨hf1, hf2⟩ := hf
  have hkk : (r.kind == 1) = false := by rw [hk]; rfl
  have hkc : (r.kind == 7) = true := by rw [hk]; rfl
  obtain ⟨lsn, ep, kind, page, other, req, key, val⟩ := r
  dsimp only at hch hne hkk hkc ⊢
  clear h he hl hk hwk
  have HB0 : Hid ((w.alloc (.cells #[.int .i64 lsn, .int .i64 ep, .int .i64 kind, .int .i64 page, .int .i64 other, .int .i64 req, .string key, .string val] 54)).heap[w.heap.size]? = some (.cells #[.int .i64 lsn, .int .i64 ep, .int .i64 kind, .int .i64 page, .int .i64 other, .int .i64 req, .string key, .string val] 54 (0, 0))) := heap_alloc_new w _
  have HF0 : Hid (Fr (fun _ => False) w (w.alloc (.cells #[.int .i64 lsn, .int .i64 ep, .int .i64 kind, .int .i64 page, .int .i64 other, .int .i64 req, .string key, .string val] 54))) := Fr.box _ _
  go_enter Tryz.func13, Tryz.ntmps13
  go_wp2_with fail
  refine (hch _).mono ?_
  rintro e w1 ⟨rfl, f1⟩
  have HF1 : Hid (Fr (fun _ => False) w w1) := HF0.out.seq' f1
  have hb1 := f1.blk HB0.out (fun e => e)
  obtain ⟨⟨p0, p1, p2, p3, p4, p5, p6, p7⟩, pz⟩ := rec_cells hb1
  have hbw := lt_of_block hb1
  obtain ⟨c1, c18, c19, c20, cz, cb⟩ := (HR.out w1 HF1.out).scal
  have hcn : ∀ k, Calls Tryz.prog 43 #[.pointer (some ⟨b, 0, none⟩)] (w1.drewN k) fun e w' => e = .returned (.int .i64 (R.wk : Int)) ∧ w' = w1.drewN k := fun k => ry_cnt _ (HR.out _ (HF1.out.drewN k))
  have HFIN : Hid (∀ k, Ry (((w1.drewN k).setCell ⟨b, 18, none⟩ (.int .i64 lsn)).setCell ⟨b, 19, none⟩ (.int .i64 lsn)) S b { R with fed := lsn, point := lsn } N ∧ Fr S w (((w1.drewN k).setCell ⟨b, 18, none⟩ (.int .i64 lsn)).setCell ⟨b, 19, none⟩ (.int .i64 lsn))) := fun k => by
    obtain ⟨a1, a2⟩ := (HR.out _ (HF1.out.drewN k)).fedI lsn
    obtain ⟨b1, b2⟩ := a1.pointI lsn
    exact ⟨b1, ((((Fr.refl S w).trans (HF1.out.drewN k) (fun _ _ e => e.elim)).trans a2 (fun i _ e => by rw [e]; exact HOB.out)).trans b2 (fun i _ e => by rw [e]; exact HOB.out))⟩
  clear hch f1 hb1
  go_wp2
  go_quiet ((go_at_call 43; exact Calls.quiet_of_same (hcn _)))
  go_wp2
  go_ret
  exact ⟨rfl, HFIN.out _⟩
/-- A right record that comes next is fed. -/
theorem ry_feedg (r : Rec) (w : World) (h : Ry w S b R N) (hN : N ≤ 100000) (hr : rok r = true) (hl : r.lsn = R.fed + 1) (hf : 0 ≤ R.fed ∧ R.fed ≤ 1099511627776) (hp : 0 ≤ r.page ∧ r.page ≤ 1099511627776) (hwk : 1 ≤ R.wk) (hw8 : R.wk ≤ 8) :
    Calls Tryz.prog 13 #[.pointer (some ⟨b, 0, none⟩), (.agg #[.int .i64 r.lsn, .int .i64 r.ep, .int .i64 r.kind, .int .i64 r.page, .int .i64 r.other, .int .i64 r.req, .string r.key, .string r.val])] w fun e w' => e = .returned (.int .i64 0) ∧ RyTo w S b (feedR R r) (N + 1) w' := by
  have he := erec_yes hr
  by_cases h1 : r.kind = 1
  · unfold feedR
    rw [if_pos (.inl h1)]
    refine (ry_feedn r w h he hl hf h1 hwk).mono ?_
    rintro e w' ⟨rfl, g1, g2⟩
    exact ⟨rfl, S, g1.more, fun k hk => .inl hk, fun k hk => hk, g2⟩
  · by_cases h7 : r.kind = 7
    · unfold feedR
      rw [if_pos (.inr h7)]
      refine (ry_feedc r w h he hl hf h7 hwk).mono ?_
      rintro e w' ⟨rfl, g1, g2⟩
      exact ⟨rfl, S, g1.more, fun k hk => .inl hk, fun k hk => hk, g2⟩
    · unfold feedR
      rw [if_neg (by omega)]
      exact ry_feedq r w h (by omega) he hl hf h1 h7 hp hwk hw8
set_option maxRecDepth 100000 in
set_option maxHeartbeats 1000000 in
theorem ry_newarg (a : Option Addr) (n c : Nat) (last wk : Int) (w : World) (hl : 0 ≤ last ∧ last ≤ 1099511627776) (hw : ¬ (1 ≤ wk ∧ wk ≤ 8)) :
    Calls Tryz.prog 10 #[.slice a n c, .int .i64 last, .int .i64 wk] w fun e w' => e = .returned (.tuple #[.pointer none, .int .i64 1]) ∧ w' = w := by
  obtain ⟨hl1, hl2⟩ := hl
  have hla : ¬ last < 0 := by omega
  have hlb : ¬ last > 1099511627776 := by omega
  by_cases h1 : wk < 1
  · clear hw
    go_enter Tryz.func10, Tryz.ntmps10
    go_wp2
    go_ret2
    exact ⟨rfl, rfl⟩
  · have h8 : wk > 8 := by omega
    clear hw
    go_enter Tryz.func10, Tryz.ntmps10
    go_wp2
    go_ret2
    exact ⟨rfl, rfl⟩
set_option maxRecDepth 100000 in
set_option maxHeartbeats 1000000 in
theorem ry_newerr (a : Option Addr) (n c : Nat) (ls : List Sl) (hn : n = ls.length) (w : World) (h : Slots w a c ls) (hr : ariB 0 (psOf ls) = false) (last : Int) (wk : Int) (hl : 0 ≤ last ∧ last ≤ 1099511627776) (hw : 1 ≤ wk ∧ wk ≤ 8) :
    Calls Tryz.prog 10 #[.slice a n c, .int .i64 last, .int .i64 wk] w fun e w' => e = .returned (.tuple #[.pointer none, .int .i64 70]) ∧ Fr (fun _ => False) w w' := by
  have hrp := replay_any a none n c 0 0 ls [] hn rfl (fun r hr => by cases hr) w h ⟨Nat.le_refl _, by omega, .inl rfl⟩
  rw [show rplA (psOf ls) [] = ([], 70) by unfold rplA; rw [if_neg (by rw [hr]; decide)]] at hrp
  obtain ⟨hl1, hl2⟩ := hl
  obtain ⟨hw1, hw8⟩ := hw
  have hla : ¬ last < 0 := by omega
  have hlb : ¬ last > 1099511627776 := by omega
  have hwa : ¬ wk < 1 := by omega
  have hwb : ¬ wk > 8 := by omega
  clear h hr hn
  go_enter Tryz.func10, Tryz.ntmps10
  go_wp2_with fail
  refine hrp.mono ?_
  rintro e w1 ⟨a', c', ls', rfl, hsv, hps, f1⟩
  dsimp only
  obtain ⟨m5, hm5⟩ : ∃ m5, m5 = ls'.length := ⟨_, rfl⟩
  rw [← hm5]
  clear hrp hsv hps hm5
  go_wp2
  go_ret2
  exact ⟨rfl, f1⟩
end
end Go.Proofs.YtkibbojiflklpaaGreat

/- Records with LSNs that follow a number, of which all are right. -/
namespace Go.Proofs.YtkibbojiflklpaaGreat
open Go.RowKit

/-- The records that stay, behind those that stay already. -/
def riseL (last : Int) : List Rec → List Rec → List Rec
  | out, [] => out
  | out, r :: rs => riseL last (if rok (lsnR r (last + (out.length : Int) + 1)) = true then out ++ [lsnR r (last + (out.length : Int) + 1)] else out) rs
structure Ris (last : Int) (rs : List Rec) (out : List Rec) : Prop where
  ok : ∀ r ∈ out, rok r = true
  lsn : ∀ (k : Nat) (r : Rec), out[k]? = some r → r.lsn = last + k + 1
  sz : ∀ r ∈ out, ∃ s ∈ rs, r.key = s.key ∧ r.val = s.val
theorem ris_any (last : Int) (all : List Rec) (rs out : List Rec) (hs : ∀ r ∈ rs, r ∈ all) (h : Ris last all out) : Ris last all (riseL last out rs) ∧ (riseL last out rs).length ≤ out.length + rs.length := by
  induction rs generalizing out with
  | nil => exact ⟨h, by simp [riseL]⟩
  | cons r rs ih =>
    have hr := hs r (by simp)
    unfold riseL
    by_cases e : rok (lsnR r (last + (out.length : Int) + 1)) = true
    · rw [if_pos e]
      obtain ⟨h1, h2⟩ := ih (out ++ [lsnR r (last + (out.length : Int) + 1)]) (fun s hs' => hs s (by simp [hs'])) ⟨fun s hs' => by
        rcases List.mem_append.1 hs' with h' | h'
        · exact h.ok s h'
        · rw [List.mem_singleton] at h'; rw [h']; exact e, fun k s hk => by
        rw [List.getElem?_append] at hk
        split at hk
        · exact h.lsn k s hk
        · rename_i hlt
          have hk0 : k - out.length = 0 := by
            cases hz : k - out.length with
            | zero => rfl
            | succ j => rw [hz] at hk; cases hk
          rw [hk0] at hk
          cases hk
          show last + (out.length : Int) + 1 = _
          omega, fun s hs' => by
        rcases List.mem_append.1 hs' with h' | h'
        · exact h.sz s h'
        · rw [List.mem_singleton] at h'; rw [h']; exact ⟨r, hr, rfl, rfl⟩⟩
      refine ⟨h1, ?_⟩
      simp at h2 ⊢
      omega
    · rw [if_neg e]
      obtain ⟨h1, h2⟩ := ih out (fun s hs' => hs s (by simp [hs'])) h
      refine ⟨h1, ?_⟩
      simp at h2 ⊢
      omega
theorem rise_next {rs : List Rec} {k : Nat} {r : Rec} (last : Int) (out : List Rec) (h : rs[k]? = some r) : riseL last out (rs.drop k) = riseL last (if rok (lsnR r (last + (out.length : Int) + 1)) = true then out ++ [lsnR r (last + (out.length : Int) + 1)] else out) (rs.drop (k + 1)) := by
  have hj := (List.getElem?_eq_some_iff.1 h).1
  rw [List.drop_eq_getElem_cons hj, (List.getElem?_eq_some_iff.1 h).2]
  rfl
set_option maxRecDepth 100000 in
set_option maxHeartbeats 4000000 in
theorem rising17_any (a : Option Addr) (n c : Nat) (rs : List Rec) (last : Int) (hn : n = rs.length) (hf : n ≤ 100000) (hl : 0 ≤ last ∧ last ≤ 1099511627776) (w : World) (h : Recs w a c rs) :
    Calls Tryz.prog 11 #[.slice a n c, .int .i64 last] w fun e w' => RsOut w (riseL last [] rs) e w' := by
  obtain ⟨iR, hiR, hR0, hR1, hR2⟩ := info_parts infoRc
  have hle : n ≤ c := by rw [hn]; exact h.le
  have hmx := h.max
  have HS : Hid (∀ W, Fr (fun _ => False) w W → Recs W a c rs) := fun W f => h.same f
  have HN : Hid (n = rs.length) := hn
  obtain ⟨hl1, hl2⟩ := hl
  clear h hn
  go_enter Tryz.func11, Tryz.ntmps11
  go_wp2
  go_loopw [10, 5] (fun i o wr => ∃ (k m : Nat) (a' : Option Addr) (c' : Nat) (lo : List Rec), k ≤ n ∧ m ≤ k ∧ i = .int .i64 k ∧ o = .slice a' m c' ∧ Hid (m = lo.length) ∧ Hid (riseL last lo (rs.drop k) = riseL last [] rs) ∧ Hid (Has wr 8 (.slice a' m c') m (lo.flatMap recC)) ∧ Hid (∀ g, (Value.slice a' m c').ownBlock = some g → w.heap.size ≤ g) ∧ Fr (fun _ => False) w wr) (fun i _ _ => n - (intOf i).toNat)
  case atStart => exact ⟨0, 0, none, 0, [], by omega, by omega, rfl, rfl, rfl, rfl, Has.nil _ _, (fun g e => by cases e), Fr.refl _ _⟩
  case round =>
    obtain ⟨k, m, a', c', lo, hk, hmk, rfl, rfl, HM, HE, HH, HO, F⟩ := hrel
    by_cases hlt : k < n
    · obtain ⟨r, hr⟩ : ∃ r, rs[k]? = some r := ⟨_, List.getElem?_eq_getElem (by have := HN.out; omega)⟩
      obtain ⟨bb, off, rfl, hbb, hcc⟩ := (HS.out _ F).some (by have := HN.out; omega)
      obtain ⟨q0, q1, q2, q3, q4, q5, q6, q7⟩ := rec_range (hcc k r hr)
      have hki : (k : Int) < (n : Int) := by omega
      have HNX : Hid (riseL last lo (rs.drop k) = riseL last (if rok (lsnR r (last + (m : Int) + 1)) = true then lo ++ [(lsnR r (last + (m : Int) + 1))] else lo) (rs.drop (k + 1))) := by
        show _ = _
        rw [HM.out]; exact rise_next last lo hr
      have hrt := fun W => right_any (lsnR r (last + (m : Int) + 1)) W
      obtain ⟨ok, hok⟩ : ∃ ok, ok = rok (lsnR r (last + (m : Int) + 1)) := ⟨_, rfl⟩
      rw [← hok] at hrt HNX
      have hm1 : (m : Int) ≤ 100000 := by omega
      have hm0 : (0 : Int) ≤ (m : Int) := by omega
      have HB0 : Hid ((wr.alloc (.cells #[.int .i64 (lsnR r (last + (m : Int) + 1)).lsn, .int .i64 (lsnR r (last + (m : Int) + 1)).ep, .int .i64 (lsnR r (last + (m : Int) + 1)).kind, .int .i64 (lsnR r (last + (m : Int) + 1)).page, .int .i64 (lsnR r (last + (m : Int) + 1)).other, .int .i64 (lsnR r (last + (m : Int) + 1)).req, .string (lsnR r (last + (m : Int) + 1)).key, .string (lsnR r (last + (m : Int) + 1)).val] 54)).heap[wr.heap.size]? = some (.cells #[.int .i64 (lsnR r (last + (m : Int) + 1)).lsn, .int .i64 (lsnR r (last + (m : Int) + 1)).ep, .int .i64 (lsnR r (last + (m : Int) + 1)).kind, .int .i64 (lsnR r (last + (m : Int) + 1)).page, .int .i64 (lsnR r (last + (m : Int) + 1)).other, .int .i64 (lsnR r (last + (m : Int) + 1)).req, .string (lsnR r (last + (m : Int) + 1)).key, .string (lsnR r (last + (m : Int) + 1)).val] 54 (0, 0))) := heap_alloc_new wr _
      have HF0 : Hid (Fr (fun _ => False) wr (wr.alloc (.cells #[.int .i64 (lsnR r (last + (m : Int) + 1)).lsn, .int .i64 (lsnR r (last + (m : Int) + 1)).ep, .int .i64 (lsnR r (last + (m : Int) + 1)).kind, .int .i64 (lsnR r (last + (m : Int) + 1)).page, .int .i64 (lsnR r (last + (m : Int) + 1)).other, .int .i64 (lsnR r (last + (m : Int) + 1)).req, .string (lsnR r (last + (m : Int) + 1)).key, .string (lsnR r (last + (m : Int) + 1)).val] 54))) := Fr.box _ _
      clear hok hcc hr
      go_wp2_with fail
      refine (hrt _).mono ?_
      rintro e w4 ⟨rfl, f4⟩
      clear hrt q0 q1 q2 q3 q4 q5 q6 q7
      have HF4 : Hid (Fr (fun _ => False) wr w4) := HF0.out.seq' f4
      have hB4 := f4.blk HB0.out (fun e => e)
      have HH4 : Hid (Has w4 8 (.slice a' m c') m (lo.flatMap recC)) := HH.out.fr HF4.out (fun _ _ f => f)
      obtain ⟨⟨p0, p1, p2, p3, p4, p5, p6, p7⟩, pz⟩ := rec_cells hB4
      have hbw := lt_of_block hB4
      clear f4 hB4 HB0 HF0
      cases ok
      · have HE5 : Hid (riseL last lo (rs.drop (k + 1)) = riseL last [] rs) := by show _ = _; rw [← HE.out, HNX.out]; rfl
        go_wp2
        go_roundw
        case rel => exact ⟨k + 1, m, a', c', lo, by omega, by omega, by go_num, rfl, HM, HE5, HH4, HO, F.seq' HF4.out⟩
        case measure => simp [intOf]; omega
      · have HE5 : Hid (riseL last (lo ++ [(lsnR r (last + (m : Int) + 1))]) (rs.drop (k + 1)) = riseL last [] rs) := by show _ = _; rw [← HE.out, HNX.out]; rfl
        have HRW : Hid (Has (w4.alloc (.cells #[.int .i64 (lsnR r (last + (m : Int) + 1)).lsn, .int .i64 (lsnR r (last + (m : Int) + 1)).ep, .int .i64 (lsnR r (last + (m : Int) + 1)).kind, .int .i64 (lsnR r (last + (m : Int) + 1)).page, .int .i64 (lsnR r (last + (m : Int) + 1)).other, .int .i64 (lsnR r (last + (m : Int) + 1)).req, .string (lsnR r (last + (m : Int) + 1)).key, .string (lsnR r (last + (m : Int) + 1)).val] 54)) 8 (.slice a' m c') m (lo.flatMap recC)) := HH4.out.fr (Fr.box _ _) (fun _ _ f => f)
        have HNE : Hid (From (w4.alloc (.cells #[.int .i64 (lsnR r (last + (m : Int) + 1)).lsn, .int .i64 (lsnR r (last + (m : Int) + 1)).ep, .int .i64 (lsnR r (last + (m : Int) + 1)).kind, .int .i64 (lsnR r (last + (m : Int) + 1)).page, .int .i64 (lsnR r (last + (m : Int) + 1)).other, .int .i64 (lsnR r (last + (m : Int) + 1)).req, .string (lsnR r (last + (m : Int) + 1)).key, .string (lsnR r (last + (m : Int) + 1)).val] 54)) (some ⟨w4.heap.size, 0, none⟩) (recC (lsnR r (last + (m : Int) + 1)))) := .inr ⟨_, _, rfl, by
          have := range_block (heap_alloc_new w4 (.cells #[.int .i64 (lsnR r (last + (m : Int) + 1)).lsn, .int .i64 (lsnR r (last + (m : Int) + 1)).ep, .int .i64 (lsnR r (last + (m : Int) + 1)).kind, .int .i64 (lsnR r (last + (m : Int) + 1)).page, .int .i64 (lsnR r (last + (m : Int) + 1)).other, .int .i64 (lsnR r (last + (m : Int) + 1)).req, .string (lsnR r (last + (m : Int) + 1)).key, .string (lsnR r (last + (m : Int) + 1)).val] 54)) (xs := recC (lsnR r (last + (m : Int) + 1))) (o := 0) (fun j v hv => by rw [Nat.zero_add]; simpa [recC] using hv)
          exact this⟩
        have HFB : Hid (Fr (fun _ => False) w (w4.alloc (.cells #[.int .i64 (lsnR r (last + (m : Int) + 1)).lsn, .int .i64 (lsnR r (last + (m : Int) + 1)).ep, .int .i64 (lsnR r (last + (m : Int) + 1)).kind, .int .i64 (lsnR r (last + (m : Int) + 1)).page, .int .i64 (lsnR r (last + (m : Int) + 1)).other, .int .i64 (lsnR r (last + (m : Int) + 1)).req, .string (lsnR r (last + (m : Int) + 1)).key, .string (lsnR r (last + (m : Int) + 1)).val] 54))) := (F.seq' HF4.out).seq' (Fr.box _ _)
        go_wp2_with (at_builtin; refine wpList_append_has _ rfl (.tmp 22) (.tmp 24) 45 45 54 54 rfl iR (.agg #[.int .i64 0, .int .i64 0, .int .i64 0, .int .i64 0, .int .i64 0, .int .i64 0, .string ⟨#[]⟩, .string ⟨#[]⟩]) 8 80 Tryz.underlying45 Tryz.underlying45 hiR hR0 hR1 hR2 rfl (by omega) (.slice a' m c') m (lo.flatMap recC) rfl HRW.out (some ⟨w4.heap.size, 0, none⟩) 1 1 (recC (lsnR r (last + (m : Int) + 1))) rfl rfl HNE.out (recC_one _) (by unfold maxLen; omega) (by omega) ?_; intro a4 c4 w8 ht4 f34 hat4)
        have HT5 : Hid (Has w8 8 (.slice a4 (m + 1) c4) (m + 1) ((lo ++ [(lsnR r (last + (m : Int) + 1))]).flatMap recC)) := by
          show Has _ _ _ _ _
          rw [List.flatMap_append]
          simpa using ht4
        have HM5 : Hid (m + 1 = (lo ++ [(lsnR r (last + (m : Int) + 1))]).length) := by show _ = _; simp [← HM.out]
        have HO5 : Hid (∀ g, (Value.slice a4 (m + 1) c4).ownBlock = some g → w.heap.size ≤ g) := fun g e => by
          have hz := HFB.out.size
          rcases hat4 with h1 | h1
          · rw [h1] at e; exact HO.out g e
          · rw [h1] at e; simp at e; simp at hz; omega
        have F5 : Fr (fun _ => False) w w8 := HFB.out.trans f34 (fun i hi e => by have := HO.out i e.1; omega)
        clear ht4 hat4 f34 HRW HNE HFB p0 p1 p2 p3 p4 p5 p6 p7 pz
        go_wp2
        go_roundw
        case rel => exact ⟨k + 1, m + 1, a4, c4, _, by omega, by omega, by go_num, rfl, HM5, HE5, HT5, HO5, F5⟩
        case measure => simp [intOf]; omega
    · obtain rfl : k = n := by omega
      have HFIN : Hid (RsOut w (riseL last [] rs) (.returned (.slice a' m c')) wr) := by
        have he := HE.out
        rw [List.drop_of_length_le (by have := HN.out; omega)] at he
        have he' : lo = riseL last [] rs := he
        refine ⟨a', c', by rw [← he', ← HM.out], ?_, F, by rw [← he', ← HM.out]; exact HO.out⟩
        rw [← he', ← HM.out]; exact HH.out
      go_wp2
      go_ret
      exact HFIN.out
end Go.Proofs.YtkibbojiflklpaaGreat
