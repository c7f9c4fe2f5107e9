
/- A record is fed. -/
import Derived.Test.YtfnbjmifdemkpaaGreatRyLem
import Derived.Test.YtfnbjmifdemkpaaGreatRyPt
import Derived.Deep.RegionHeld3
namespace Go.Proofs.YtfnbjmifdemkpaaGreat
open Go.RowKit Go.Shelf

def feedR (R : RSt) (r : Rec) : RSt := if r.kind = 1 ∨ r.kind = 7 then { R with fed := r.lsn, point := r.lsn } else { R with fed := r.lsn, L := qupd R.L (r.page.tmod R.wk).toNat (R.L (r.page.tmod R.wk).toNat ++ [(r, R.point)]) }
section
variable {S : Nat → Prop} {b : Nat} {R : RSt} {N : Nat}
theorem Ry.fedI {w : World} (h : Ry w S b R N) (v : Int) : Ry (w.setCell ⟨b, 18, none⟩ (.int .i64 v)) S b { R with fed := v } N ∧ Fr (fun k => k = b) w (w.setCell ⟨b, 18, none⟩ (.int .i64 v)) := by
  obtain ⟨A, m, cnt, q, pt, h⟩ := h
  have hs := h.cells.size
  obtain ⟨h1, h2⟩ := h.num (R2 := { R with fed := v }) (A2 := A.setIfInBounds 18 (.int .i64 v)) 18 (.inl rfl) (.int .i64 v) rfl rfl rfl rfl (by rw [Array.getElem?_setIfInBounds_self_of_lt (by omega)]) (by rw [Array.getElem?_setIfInBounds_ne (by omega)]; exact h.cells.point) (by rw [Array.getElem?_setIfInBounds_ne (by omega)]; exact h.cells.top)
  exact ⟨⟨_, m, cnt, q, pt, h1⟩, h2⟩
theorem Ry.pointI {w : World} (h : Ry w S b R N) (v : Int) : Ry (w.setCell ⟨b, 19, none⟩ (.int .i64 v)) S b { R with point := v } N ∧ Fr (fun k => k = b) w (w.setCell ⟨b, 19, none⟩ (.int .i64 v)) := by
  obtain ⟨A, m, cnt, q, pt, h⟩ := h
  have hs := h.cells.size
  obtain ⟨h1, h2⟩ := h.num (R2 := { R with point := v }) (A2 := A.setIfInBounds 19 (.int .i64 v)) 19 (.inr (.inl rfl)) (.int .i64 v) rfl rfl rfl rfl (by rw [Array.getElem?_setIfInBounds_ne (by omega)]; exact h.cells.fed) (by rw [Array.getElem?_setIfInBounds_self_of_lt (by omega)]) (by rw [Array.getElem?_setIfInBounds_ne (by omega)]; exact h.cells.top)
  exact ⟨⟨_, m, cnt, q, pt, h1⟩, h2⟩
theorem Ry.topI {w : World} (h : Ry w S b R N) (v : Int) : Ry (w.setCell ⟨b, 20, none⟩ (.int .i64 v)) S b { R with top := v } N ∧ Fr (fun k => k = b) w (w.setCell ⟨b, 20, none⟩ (.int .i64 v)) := by
  obtain ⟨A, m, cnt, q, pt, h⟩ := h
  have hs := h.cells.size
  obtain ⟨h1, h2⟩ := h.num (R2 := { R with top := v }) (A2 := A.setIfInBounds 20 (.int .i64 v)) 20 (.inr (.inr rfl)) (.int .i64 v) rfl rfl rfl rfl (by rw [Array.getElem?_setIfInBounds_ne (by omega)]; exact h.cells.fed) (by rw [Array.getElem?_setIfInBounds_ne (by omega)]; exact h.cells.point) (by rw [Array.getElem?_setIfInBounds_self_of_lt (by omega)])
  exact ⟨⟨_, m, cnt, q, pt, h1⟩, h2⟩
theorem Ry.own {w : World} (h : Ry w S b R N) : S b ∧ (∀ k, S k → k < w.heap.size) := by
  obtain ⟨A, m, cnt, q, pt, h⟩ := h
  exact ⟨h.ob, h.lt⟩
theorem Ry.scal {w : World} (h : Ry w S b R N) : w.cell? ⟨b, 1, none⟩ = some (.int .i64 (R.wk : Int)) ∧ w.cell? ⟨b, 18, none⟩ = some (.int .i64 R.fed) ∧ w.cell? ⟨b, 19, none⟩ = some (.int .i64 R.point) ∧ w.cell? ⟨b, 20, none⟩ = some (.int .i64 R.top) ∧ (∀ j, w.frozen? ⟨b, j, none⟩ = false) ∧ b < w.heap.size := by
  obtain ⟨A, m, cnt, q, pt, h⟩ := h
  exact h.cell.2
theorem ry_addq (x : Wg) (w : World) (h : Ry w S b R N) (hN : N ≤ 1000000) (i : Nat) (hi : i < 8) : Calls Tryz.prog 47 #[.pointer (some ⟨b, 2 + i * 2, none⟩), wgV x] w fun e w' => e = .returned (.tuple #[]) ∧ RyTo w S b { R with L := qupd R.L i (R.L i ++ [x]) } (N + 1) w' := by
  obtain ⟨A, m, cnt, q, pt, h⟩ := h
  obtain ⟨h1, h2, h3, h4⟩ := h.rows i hi
  have hq := q_add (qb := b) (qo := 2 + 2 * i) x w h.blk (h.cells.row i hi) (h.cells.done i hi) h2 h1 (by omega) (fun k e => (h.oq i k hi e).2.1)
  rw [show 2 + 2 * i = 2 + i * 2 by omega] at hq
  refine hq.mono ?_
  rintro e w' ⟨rfl, ht⟩
  rw [h4] at ht
  refine ⟨rfl, ?_⟩
  rw [show 2 + i * 2 = 2 + 2 * i by omega] at ht
  exact h.que hi ht
set_option maxRecDepth 100000 in
set_option maxHeartbeats 8000000 in
theorem ry_feedn (r : Rec) (w : World) (h : Ry w S b R N) (he : erec r = 0) (hl : r.lsn = R.fed + 1) (hf : 0 ≤ R.fed ∧ R.fed ≤ 1099511627776) (hk : r.kind = 1) (hwk : 1 ≤ R.wk) : Calls Tryz.prog 14 #[.pointer (some ⟨b, 0, none⟩), (.agg #[.int .i64 r.lsn, .int .i64 r.ep, .int .i64 r.kind, .int .i64 r.page, .int .i64 r.other, .int .i64 r.req, .string r.key, .string r.val])] w fun e w' => e = .returned (.int .i64 0) ∧ Ry w' S b { R with fed := r.lsn, point := r.lsn } N ∧ Fr S w w' := by
  have hch := rec_check r
  rw [he] at hch
  have HR : Hid (∀ W, Fr (fun _ => False) w W → Ry W S b R N) := fun W f => h.same f
  have hb := h.scal.2.2.2.2.2
  have HOB : Hid (S b) := h.own.1
  have hwk0 : ((R.wk : Int) == 0) = false := by simp; omega
  have hne : (r.lsn != R.fed + 1) = false := by rw [hl]; simp
  obtain ⟨hf1, hf2⟩ := hf
  have hkk : (r.kind == 1) = true := by rw [hk]; rfl
  obtain ⟨lsn, ep, kind, page, other, req, key, val⟩ := r
  dsimp only at hch hne hkk ⊢
  clear h he hl hk hwk
  have HB0 : Hid ((w.alloc (.cells #[.int .i64 lsn, .int .i64 ep, .int .i64 kind, .int .i64 page, .int .i64 other, .int .i64 req, .string key, .string val] 54)).heap[w.heap.size]? = some (.cells #[.int .i64 lsn, .int .i64 ep, .int .i64 kind, .int .i64 page, .int .i64 other, .int .i64 req, .string key, .string val] 54 (0, 0))) := heap_alloc_new w _
  have HF0 : Hid (Fr (fun _ => False) w (w.alloc (.cells #[.int .i64 lsn, .int .i64 ep, .int .i64 kind, .int .i64 page, .int .i64 other, .int .i64 req, .string key, .string val] 54))) := Fr.box _ _
  go_enter Tryz.func14, Tryz.ntmps14
  go_wp2_with fail
  refine (hch _).mono ?_
  rintro e w1 ⟨rfl, f1⟩
  have HF1 : Hid (Fr (fun _ => False) w w1) := HF0.out.seq' f1
  have hb1 := f1.blk HB0.out (fun e => e)
  obtain ⟨⟨p0, p1, p2, p3, p4, p5, p6, p7⟩, pz⟩ := rec_cells hb1
  have hbw := lt_of_block hb1
  obtain ⟨c1, c18, c19, c20, cz, cb⟩ := (HR.out w1 HF1.out).scal
  have hcn : ∀ k, Calls Tryz.prog 46 #[.pointer (some ⟨b, 0, none⟩)] (w1.drewN k) fun e w' => e = .returned (.int .i64 (R.wk : Int)) ∧ w' = w1.drewN k := fun k => ry_cnt _ (HR.out _ (HF1.out.drewN k))
  have HFIN : Hid (∀ k, Ry (((w1.drewN k).setCell ⟨b, 18, none⟩ (.int .i64 lsn)).setCell ⟨b, 19, none⟩ (.int .i64 lsn)) S b { R with fed := lsn, point := lsn } N ∧ Fr S w (((w1.drewN k).setCell ⟨b, 18, none⟩ (.int .i64 lsn)).setCell ⟨b, 19, none⟩ (.int .i64 lsn))) := fun k => by
    obtain ⟨a1, a2⟩ := (HR.out _ (HF1.out.drewN k)).fedI lsn
    obtain ⟨b1, b2⟩ := a1.pointI lsn
    exact ⟨b1, ((((Fr.refl S w).trans (HF1.out.drewN k) (fun _ _ e => e.elim)).trans a2 (fun i _ e => by rw [e]; exact HOB.out)).trans b2 (fun i _ e => by rw [e]; exact HOB.out))⟩
  clear hch f1 hb1
  go_wp2
  go_quiet ((go_at_call 46; exact Calls.quiet_of_same (hcn _)))
  go_wp2
  go_ret
  exact ⟨rfl, HFIN.out _⟩
set_option maxRecDepth 100000 in
set_option maxHeartbeats 16000000 in
theorem ry_feedq (r : Rec) (w : World) (h : Ry w S b R N) (hN : N ≤ 1000000) (he : erec r = 0) (hl : r.lsn = R.fed + 1) (hf : 0 ≤ R.fed ∧ R.fed ≤ 1099511627776) (hk1 : r.kind ≠ 1) (hk7 : r.kind ≠ 7) (hp : 0 ≤ r.page ∧ r.page ≤ 1099511627776) (hwk : 1 ≤ R.wk) (hw8 : R.wk ≤ 8) : Calls Tryz.prog 14 #[.pointer (some ⟨b, 0, none⟩), (.agg #[.int .i64 r.lsn, .int .i64 r.ep, .int .i64 r.kind, .int .i64 r.page, .int .i64 r.other, .int .i64 r.req, .string r.key, .string r.val])] w fun e w' => e = .returned (.int .i64 0) ∧ RyTo w S b { R with fed := r.lsn, L := qupd R.L (r.page.tmod R.wk).toNat (R.L (r.page.tmod R.wk).toNat ++ [(r, R.point)]) } (N + 1) w' := by
  have hch := rec_check r
  rw [he] at hch
  have HR : Hid (∀ W, Fr (fun _ => False) w W → Ry W S b R N) := fun W f => h.same f
  have hb := h.scal.2.2.2.2.2
  have HOB : Hid (S b ∧ ∀ k, S k → k < w.heap.size) := h.own
  have hwk0 : ((R.wk : Int) == 0) = false := by simp; omega
  have hwk1 : ¬ (R.wk : Int) = 0 := by omega
  have hne : (r.lsn != R.fed + 1) = false := by rw [hl]; simp
  obtain ⟨hf1, hf2⟩ := hf
  have hkk1 : (r.kind == 1) = false := by simpa using hk1
  have hkk7 : (r.kind == 7) = false := by simpa using hk7
  obtain ⟨i, hi⟩ : ∃ i : Nat, r.page.tmod (R.wk : Int) = (i : Int) := ⟨(r.page.tmod (R.wk : Int)).toNat, by
    rw [Int.toNat_of_nonneg (Int.tmod_nonneg _ hp.1)]⟩
  have hi8 : i < 8 := by
    have := Int.tmod_lt_of_pos r.page (show (0 : Int) < (R.wk : Int) by omega)
    omega
  rw [hi, Int.toNat_natCast]
  have hii : (i : Int) < 8 := by omega
  have hi0 : (0 : Int) ≤ (i : Int) := by omega
  have hwr : IntKind.i64.wrap (i : Int) = (i : Int) := by simp [IntKind.wrap, IntKind.bits, IntKind.signed]; omega
  have hwr2 : IntKind.i64.wrap (r.page.tmod (R.wk : Int)) = (i : Int) := by rw [hi]; exact hwr
  have hwkn : ¬ R.wk = 0 := by omega
  have hadd : ∀ W, Ry W S b { R with fed := r.lsn } N → Calls Tryz.prog 47 #[.pointer (some ⟨b, 2 + i * 2, none⟩), wgV (r, R.point)] W fun e w' => e = .returned (.tuple #[]) ∧ RyTo W S b { R with fed := r.lsn, L := qupd R.L i (R.L i ++ [(r, R.point)]) } (N + 1) w' := fun W hW => ry_addq (r, R.point) W hW hN i hi8
  obtain ⟨lsn, ep, kind, page, other, req, key, val⟩ := r
  unfold wgV at hadd
  dsimp only at hch hne hkk1 hkk7 hi hwr2 hadd ⊢
  obtain ⟨R2, hR2⟩ : ∃ R2 : RSt, R2 = { R with fed := lsn, L := qupd R.L i (R.L i ++ [((⟨lsn, ep, kind, page, other, req, key, val⟩ : Rec), R.point)]) } := ⟨_, rfl⟩
  rw [← hR2] at hadd ⊢
  have HR2 : Hid (R2.wk = R.wk ∧ R2.point = R.point) := by rw [hR2]; exact ⟨rfl, rfl⟩
  clear h he hl hk1 hk7 hwk hw8 hp hR2
  have HADD : Hid (∀ W, Ry W S b { R with fed := lsn } N → Calls Tryz.prog 47 #[.pointer (some ⟨b, 2 + i * 2, none⟩), .agg #[.int .i64 lsn, .int .i64 ep, .int .i64 kind, .int .i64 page, .int .i64 other, .int .i64 req, .string key, .string val, .int .i64 R.point]] W fun e w' => e = .returned (.tuple #[]) ∧ RyTo W S b R2 (N + 1) w') := hadd
  clear hadd
  have HB0 : Hid ((w.alloc (.cells #[.int .i64 lsn, .int .i64 ep, .int .i64 kind, .int .i64 page, .int .i64 other, .int .i64 req, .string key, .string val] 54)).heap[w.heap.size]? = some (.cells #[.int .i64 lsn, .int .i64 ep, .int .i64 kind, .int .i64 page, .int .i64 other, .int .i64 req, .string key, .string val] 54 (0, 0))) := heap_alloc_new w _
  have HF0 : Hid (Fr (fun _ => False) w (w.alloc (.cells #[.int .i64 lsn, .int .i64 ep, .int .i64 kind, .int .i64 page, .int .i64 other, .int .i64 req, .string key, .string val] 54))) := Fr.box _ _
  go_enter Tryz.func14, Tryz.ntmps14
  go_wp2_with fail
  refine (hch _).mono ?_
  rintro e w1 ⟨rfl, f1⟩
  have HF1 : Hid (Fr (fun _ => False) w w1) := HF0.out.seq' f1
  have HB1 : Hid (w1.heap[w.heap.size]? = some (.cells #[.int .i64 lsn, .int .i64 ep, .int .i64 kind, .int .i64 page, .int .i64 other, .int .i64 req, .string key, .string val] 54 (0, 0))) := f1.blk HB0.out (fun e => e)
  obtain ⟨⟨p0, p1, p2, p3, p4, p5, p6, p7⟩, pz⟩ := rec_cells HB1.out
  have hbw := lt_of_block HB1.out
  obtain ⟨c1, c18, c19, c20, cz, cb⟩ := (HR.out w1 HF1.out).scal
  have hcn : ∀ k, Calls Tryz.prog 46 #[.pointer (some ⟨b, 0, none⟩)] (w1.drewN k) fun e w' => e = .returned (.int .i64 (R.wk : Int)) ∧ w' = w1.drewN k := fun k => ry_cnt _ (HR.out _ (HF1.out.drewN k))
  have HFR : Hid (∀ k, Ry ((w1.drewN k).setCell ⟨b, 18, none⟩ (.int .i64 lsn)).drew S b { R with fed := lsn } N ∧ Fr S w ((w1.drewN k).setCell ⟨b, 18, none⟩ (.int .i64 lsn)).drew) := fun k => by
    obtain ⟨a1, a2⟩ := (HR.out _ (HF1.out.drewN k)).fedI lsn
    exact ⟨a1.same ((Fr.refl _ _).drew), (((Fr.refl S w).trans (HF1.out.drewN k) (fun _ _ e => e.elim)).trans a2 (fun i _ e => by rw [e]; exact HOB.out.1)).drew⟩
  have HSC : Hid (∀ k, ((w1.drewN k).setCell ⟨b, 18, none⟩ (.int .i64 lsn)).drew.cell? ⟨b, 1, none⟩ = some (.int .i64 (R.wk : Int)) ∧ ((w1.drewN k).setCell ⟨b, 18, none⟩ (.int .i64 lsn)).drew.cell? ⟨b, 19, none⟩ = some (.int .i64 R.point)) := fun k => ⟨(HFR.out k).1.scal.1, (HFR.out k).1.scal.2.2.1⟩
  have HBX : Hid (∀ k, ((w1.drewN k).setCell ⟨b, 18, none⟩ (.int .i64 lsn)).drew.heap[w.heap.size]? = some (.cells #[.int .i64 lsn, .int .i64 ep, .int .i64 kind, .int .i64 page, .int .i64 other, .int .i64 req, .string key, .string val] 54 (0, 0))) := fun k => by
    have f : Fr (fun i => i = b) w1 ((w1.drewN k).setCell ⟨b, 18, none⟩ (.int .i64 lsn)).drew := (((Fr.refl (fun i => i = b) w1).drewN k).setCell (p := ⟨b, 18, none⟩) (fun _ => rfl) _).drew
    exact (f.block _ (lt_of_block HB1.out) (fun e => by omega)).trans HB1.out
  have HQ : Hid (∀ W : World, W.heap[w.heap.size]? = some (.cells #[.int .i64 lsn, .int .i64 ep, .int .i64 kind, .int .i64 page, .int .i64 other, .int .i64 req, .string key, .string val] 54 (0, 0)) → (W.cell? ⟨b, 1, none⟩ = some (.int .i64 (R.wk : Int)) ∧ W.cell? ⟨b, 19, none⟩ = some (.int .i64 R.point)) → W.cell? ⟨w.heap.size, 0, none⟩ = some (.int .i64 lsn) ∧ W.cell? ⟨w.heap.size, 1, none⟩ = some (.int .i64 ep) ∧ W.cell? ⟨w.heap.size, 2, none⟩ = some (.int .i64 kind) ∧ W.cell? ⟨w.heap.size, 3, none⟩ = some (.int .i64 page) ∧ W.cell? ⟨w.heap.size, 4, none⟩ = some (.int .i64 other) ∧ W.cell? ⟨w.heap.size, 5, none⟩ = some (.int .i64 req) ∧ W.cell? ⟨w.heap.size, 6, none⟩ = some (.string key) ∧ W.cell? ⟨w.heap.size, 7, none⟩ = some (.string val) ∧ W.cell? ⟨b, 1, none⟩ = some (.int .i64 (R.wk : Int)) ∧ W.cell? ⟨b, 19, none⟩ = some (.int .i64 R.point)) := fun W h1 h2 => by
    obtain ⟨⟨a0, a1, a2, a3, a4, a5, a6, a7⟩, _⟩ := rec_cells h1
    exact ⟨a0, a1, a2, a3, a4, a5, a6, a7, h2.1, h2.2⟩
  clear hch f1
  go_wp2
  go_quiet ((go_at_call 46; exact Calls.quiet_of_same (hcn _)))
  go_wp2
  have q1 := HQ.out _ (HBX.out nq) (HSC.out nq)
  have r1 := HADD.out _ (HFR.out nq).1
  have HFN : Hid (Fr S w ((w1.drewN nq).setCell ⟨b, 18, none⟩ (.int .i64 lsn)).drew ∧ ((w1.drewN nq).setCell ⟨b, 18, none⟩ (.int .i64 lsn)).drew.heap[w.heap.size]? = some (.cells #[.int .i64 lsn, .int .i64 ep, .int .i64 kind, .int .i64 page, .int .i64 other, .int .i64 req, .string key, .string val] 54 (0, 0))) := ⟨(HFR.out nq).2, HBX.out nq⟩
  clear hcn HFR HSC HBX
  go_region_held3 (fun W => W.cell? ⟨w.heap.size, 0, none⟩ = some (.int .i64 lsn) ∧ W.cell? ⟨w.heap.size, 1, none⟩ = some (.int .i64 ep) ∧ W.cell? ⟨w.heap.size, 2, none⟩ = some (.int .i64 kind) ∧ W.cell? ⟨w.heap.size, 3, none⟩ = some (.int .i64 page) ∧ W.cell? ⟨w.heap.size, 4, none⟩ = some (.int .i64 other) ∧ W.cell? ⟨w.heap.size, 5, none⟩ = some (.int .i64 req) ∧ W.cell? ⟨w.heap.size, 6, none⟩ = some (.string key) ∧ W.cell? ⟨w.heap.size, 7, none⟩ = some (.string val) ∧ W.cell? ⟨b, 1, none⟩ = some (.int .i64 (R.wk : Int)) ∧ W.cell? ⟨b, 19, none⟩ = some (.int .i64 R.point))
    (first | with_reducible exact q1 | with_reducible exact q2 | fail)
    (first | (go_at_call 47; refine r1.mono ?_; rintro e w2 ⟨rfl, t2⟩; clear r1; obtain ⟨S2, g1, g2, g3, g4⟩ := t2; have q2 := HQ.out w2 ((g4.block _ (lt_of_block HFN.out.2) (fun hs => by have := HOB.out.2 _ hs; omega)).trans HFN.out.2) (by have h := g1.scal; rw [HR2.out.1, HR2.out.2] at h; exact ⟨h.1, h.2.2.1⟩)))
  have HFIN : Hid (RyTo w S b R2 (N + 1) w2) := ⟨S2, g1, fun k hk => by
    rcases g2 k hk with h | h
    · exact .inl h
    · exact .inr (Nat.le_trans HFN.out.1.size h), g3, HFN.out.1.trans g4 (fun i _ e => e)⟩
  clear g1 g2 g3 g4 q1 q2
  go_wp2
  go_ret
  exact ⟨rfl, HFIN.out⟩
end
end Go.Proofs.YtfnbjmifdemkpaaGreat
