
/- NdRLeft, NdRLeft2. -/
import Derived.Test.YtlgceleelhppdaaGreatDR31
/- What the document's Left makes. -/
namespace Go.Proofs.YtlgceleelhppdaaGreat
open Go.RowKit
set_option maxRecDepth 100000 in
set_option maxHeartbeats 8000000 in
theorem rleft_leaf (n : Nd) (p : Pt) (k : ByteArray) (rt : Int) (hk2 : k.size ≤ 140737488351232) (hk : k.size ≤ maxLen) (w : World) (h : Nod w n p) (h0 : n.lev = 0) : Calls Tryz.prog 56 #[(.agg #[.int .i64 n.lev, .int .i64 n.lsn, .int .i64 n.rgt, .string n.high, .slice p.k n.keys.length p.kc, .slice p.v n.vals.length p.vc, .slice p.i n.kids.length p.ic]), .string k, .int .i64 rt] w fun e w' => NdOut2 (okN (lrE n k (nuE rt)) (leftN n k rt)) (lrE n k (nuE rt)) w e w' := by
  have f0 : Fr (fun _ => False) w ((w.alloc (.cells #[.int .i64 n.lev, .int .i64 n.lsn, .int .i64 n.rgt, .string n.high, .slice p.k n.keys.length p.kc, .slice p.v n.vals.length p.vc, .slice p.i n.kids.length p.ic] 34)).alloc (.cells #[.int .i64 0, .int .i64 0, .int .i64 0, .string ⟨#[]⟩, .slice none 0 0, .slice none 0 0, .slice none 0 0] 34)) := ((Fr.refl _ _).alloc _).alloc _
  have HB : Hid (∀ W, Fr (fun _ => False) ((w.alloc (.cells #[.int .i64 n.lev, .int .i64 n.lsn, .int .i64 n.rgt, .string n.high, .slice p.k n.keys.length p.kc, .slice p.v n.vals.length p.vc, .slice p.i n.kids.length p.ic] 34)).alloc (.cells #[.int .i64 0, .int .i64 0, .int .i64 0, .string ⟨#[]⟩, .slice none 0 0, .slice none 0 0, .slice none 0 0] 34)) W → W.cell? ⟨w.heap.size, 0, none⟩ = some (.int .i64 n.lev) ∧ W.cell? ⟨w.heap.size, 1, none⟩ = some (.int .i64 n.lsn) ∧ W.cell? ⟨w.heap.size, 2, none⟩ = some (.int .i64 n.rgt) ∧ W.cell? ⟨w.heap.size, 3, none⟩ = some (.string n.high) ∧ W.cell? ⟨w.heap.size, 4, none⟩ = some (.slice p.k n.keys.length p.kc) ∧ W.cell? ⟨w.heap.size, 5, none⟩ = some (.slice p.v n.vals.length p.vc) ∧ W.cell? ⟨w.heap.size, 6, none⟩ = some (.slice p.i n.kids.length p.ic)) := fun W f => box_cells (box_at w n p 34 (((Fr.refl _ _).alloc _).seq' f))
  have HRB : Hid (∀ W, Fr (fun _ => False) ((w.alloc (.cells #[.int .i64 n.lev, .int .i64 n.lsn, .int .i64 n.rgt, .string n.high, .slice p.k n.keys.length p.kc, .slice p.v n.vals.length p.vc, .slice p.i n.kids.length p.ic] 34)).alloc (.cells #[.int .i64 0, .int .i64 0, .int .i64 0, .string ⟨#[]⟩, .slice none 0 0, .slice none 0 0, .slice none 0 0] 34)) W → W.heap[w.heap.size + 1]? = some (.cells #[.int .i64 0, .int .i64 0, .int .i64 0, .string ⟨#[]⟩, .slice none 0 0, .slice none 0 0, .slice none 0 0] 34 (0, 0))) := fun W f => by
    refine f.blk ?_ (fun f => f)
    have := heap_alloc_new (w.alloc (.cells #[.int .i64 n.lev, .int .i64 n.lsn, .int .i64 n.rgt, .string n.high, .slice p.k n.keys.length p.kc, .slice p.v n.vals.length p.vc, .slice p.i n.kids.length p.ic] 34)) (.cells #[.int .i64 0, .int .i64 0, .int .i64 0, .string ⟨#[]⟩, .slice none 0 0, .slice none 0 0, .slice none 0 0] 34)
    rw [show (w.alloc (.cells #[.int .i64 n.lev, .int .i64 n.lsn, .int .i64 n.rgt, .string n.high, .slice p.k n.keys.length p.kc, .slice p.v n.vals.length p.vc, .slice p.i n.kids.length p.ic] 34)).heap.size = w.heap.size + 1 by simp] at this
    exact this
  have ha := rparted_any n p k rt hk _ (h.same f0)
  skip
  have HOK : Hid (lrE n k (nuE rt) = 0 → Rt n ∧ k.size ≤ 16 ∧ (n.lev ≠ 0 → (plc (bsOf k) n.keys).2 = true)) := lr_ok
  generalize lrE n k (nuE rt) = ae at *
  have H0 : Hid (n.lev = 0) := h0
  clear h0
  go_enter Tryz.func56, Tryz.ntmps56
  go_wp2_with fail
  refine ha.mono ?_
  rintro e w1 ⟨rfl, f1⟩
  clear ha
  obtain ⟨c0, c1, c2, c3, c4, c5, c6⟩ := HB.out _ f1
  by_cases hae : ae = 0
  · subst hae
    obtain ⟨hr, hk16, hfd⟩ := HOK.out rfl
    have HR : Hid (Rt n) := hr
    have hfew := keys_few hr
    have hkl := h.keys.le
    have hkm := h.keys.max
    have HSK : Hid (∀ s ∈ n.keys, s.size ≤ maxLen) := fun s hs => Nat.le_trans (size_of_mem (fun i hi => (hr.keys i hi).1.2) s hs) (by decide)
    have hpl := plc_pl (k := bsOf k) hr.srt
    obtain ⟨pi, pf, hpe⟩ : ∃ pi pf, plc (bsOf k) n.keys = (pi, pf) := ⟨_, _, rfl⟩
    have HPE : Hid (plc (bsOf k) n.keys = (pi, pf)) := hpe
    have HFD : Hid (n.lev ≠ 0 → pf = true) := fun h => by have := hfd h; rw [hpe] at this; exact this
    rw [hpe] at hpl
    simp only at hpl
    have HPL : Hid (Pl (bsOf k) n.keys pi pf) := hpl
    have hple := hpl.le
    have h0 := H0.out
    have HVL : Hid (n.vals.length = n.keys.length) := (hr.leaf h0).1
    have hlg : ¬ (0 < n.lev) := by omega
    have hlg2 : n.lev ≤ 0 := by omega
    have hlb : (n.lev == 0) = true := by simpa using h0
    clear hr HOK hpe hpl hfd h0
    go_wp2_with fail
    refine (bare_any n p _).mono ?_
    rintro e w2 ⟨rfl, f2⟩
    clear c0 c1 c2 c3 c4 c5 c6
    have F2 := f1.seq' f2
    have hrb2 : w.heap.size + 1 < w2.heap.size := by have := F2.size; simp at this; omega
    have HLF : Hid (leftN n k rt = { pieceN n 0 pi with high := k, rgt := rt }) := by show _ = _; unfold leftN; rw [parA_ok (parE_leaf H0.out), HPE.out]
    have B0 : Bx w2 (w2.alloc (.cells #[.int .i64 n.lev, .int .i64 n.lsn, .int .i64 rt, .string k, .slice none 0 0, .slice none 0 0, .slice none 0 0] 34)) w2.heap.size { pieceN n 0 0 with high := k, rgt := rt } (.slice none 0 0) (.slice none 0 0) (.slice none 0 0) := Bx.start w2 { pieceN n 0 0 with high := k, rgt := rt } (by simp [pieceN]) (by simp [pieceN]) (by simp [pieceN, H0.out])
    obtain ⟨c0, c1, c2, c3, c4, c5, c6⟩ := HB.out _ (F2.seq' B0.fr)
    go_wp2
    go_loopw [41] (fun i wr => PieR (fun j => { pieceN n 0 j with high := k, rgt := rt }) pi w2 i wr) (fun i _ => n.keys.length - (intOf i).toNat)
    case atStart => exact ⟨0, _, _, _, _, by omega, rfl, B0, rfl⟩
    case round =>
      obtain ⟨j, m, kv, vv, iv, hj, rfl, B, HM⟩ := hrel
      clear B0 c0 c1 c2 c3 c4 c5 c6
      have F := F2.seq' B.fr
      have hN := h.same (f0.seq' F)
      obtain ⟨c0, c1, c2, c3, c4, c5, c6⟩ := HB.out _ F
      obtain ⟨⟨k0, k1, k2, k3, k4, k5, k6⟩, fz⟩ := node_cells B.box
      by_cases hlt : j < n.keys.length
      · by_cases hjp : j < pi
        · have HC : Hid (cpl (bsOf (n.keys.getD j ByteArray.empty)) (bsOf k) < 0) := HPL.out.lt j hjp
          have hvi : j < n.vals.length := by have := HVL.out; omega
          have hjv : (j : Int) < (n.vals.length : Int) := by omega
          have HM2 : Hid ({ pieceN n 0 (j + 1) with high := k, rgt := rt } = { m with keys := m.keys ++ [n.keys.getD j ByteArray.empty], vals := m.vals ++ [n.vals.getD j ByteArray.empty] }) := by show _ = _; rw [pie_leaf H0.out (Nat.zero_le _) hlt hvi, HM.out]
          obtain ⟨vj, hv⟩ : ∃ v, v = n.vals.getD j ByteArray.empty := ⟨_, rfl⟩
          have HV : Hid (vj = n.vals.getD j ByteArray.empty) := hv
          have HLV : Hid (m.vals.length ≤ 100000) := by rw [HM.out]; exact Nat.le_trans (pie_len n 0 j).2.1 (by omega)
          obtain ⟨bk, ok, ek, hbk, hck⟩ := strs_some hN.keys hlt
          have hkc := hck j hlt
          have hji : (j : Int) < (n.keys.length : Int) := by omega
          have hcm := fun W => rcompare_any (n.keys.getD j ByteArray.empty) k (HSK.out _ (by rw [getD_lt' _ _ _ hlt]; exact List.getElem_mem hlt)) hk W
          obtain ⟨c, hc⟩ : ∃ c, c = cpl (bsOf (n.keys.getD j ByteArray.empty)) (bsOf k) := ⟨_, rfl⟩
          rw [← hc] at hcm
          obtain ⟨y, hy⟩ : ∃ y, y = n.keys.getD j ByteArray.empty := ⟨_, rfl⟩
          have HLK : Hid (m.keys.length ≤ 100000) := by rw [HM.out]; exact Nat.le_trans (pie_len n 0 j).1 (by omega)
          rw [← hc] at HC
          have hcl : c < 0 := HC.out
          rw [← hy] at hkc HM2 hcm
          rw [← hv] at HM2
          clear hy hv hck hc HC
          rw [ek]
          go_wp2_with fail
          refine (hcm _).mono ?_
          rintro e w6 ⟨rfl, f6⟩
          clear hcm c0 c1 c2 c3 c4 c5 c6 k0 k1 k2 k3 k4 k5 k6 fz hkc hbk
          have B6 := B.same f6
          have F6 := F2.seq' B6.fr
          obtain ⟨c0, c1, c2, c3, c4, c5, c6⟩ := HB.out _ F6
          obtain ⟨⟨k0, k1, k2, k3, k4, k5, k6⟩, fz⟩ := node_cells B6.box
          obtain ⟨a7, c7, w7, hapk, q7, z7, B7⟩ := B6.key y HLK.out
          go_upto_region 14 with (at_builtin; refine wpList_append_run rfl (.tmp 51) (.tmp 53) 31 31 rfl (by rfl) (by rfl) hapk ?_)
          obtain ⟨W8, hW8⟩ : ∃ W, W = w7.setCell ⟨w2.heap.size, 4, none⟩ (.slice a7 (m.keys.length + 1) c7) := ⟨_, rfl⟩
          rw [← hW8] at B7 ⊢
          clear hW8 hapk q7 z7 k0 k1 k2 k3 k4 k5 k6 fz c0 c1 c2 c3 c4 c5 c6
          have F8 := F2.seq' B7.fr
          have hN8 := h.same (f0.seq' F8)
          obtain ⟨bw, ow, ew, hbw, hcw⟩ := strs_some hN8.vals hvi
          have hvc := hcw j hvi
          obtain ⟨d0, d1, d2, d3, d4, d5, d6⟩ := HB.out _ F8
          rw [ew] at d5
          clear ew
          rw [← HV.out] at hvc
          obtain ⟨⟨k0, k1, k2, k3, k4, k5, k6⟩, fz⟩ := node_cells B7.box
          obtain ⟨⟨p0, p1, p2, p3, p4, p5, p6⟩, pz⟩ := node_cells (B7.same (Fr.box W8 (.cells #[.string vj] 9))).box
          obtain ⟨a9, c9, w9, hap, q9, z9, B9⟩ := (B7.same (Fr.refl (fun _ => False) W8).drew).val vj HLV.out
          clear hcw
          go_wp2_with fail
          go_region_law
            (show (if Region.wanted { dst := _, op := .call { callee := .builtin .append, args := _, argTypes := _ }, type := _, pos := _, after := _, guard := _ } _ = true then _ else _); refine step_of (by rfl) (wp_append_run (.tmp 71) (.tmp 77) 31 31 (by rfl) (by rfl) (by rfl) hap ?_))
          all_goals
            obtain ⟨W10, hW10⟩ : ∃ W, W = w9.setCell ⟨w2.heap.size, 5, none⟩ (.slice a9 (m.vals.length + 1) c9) := ⟨_, rfl⟩
            try simp only at B9
            rw [← hW10] at B9 ⊢
            clear hW10 hap q9 z9 k0 k1 k2 k3 k4 k5 k6 fz p0 p1 p2 p3 p4 p5 p6 pz d0 d1 d2 d3 d4 d5 d6 hvc hbw
            go_wp2
            go_roundw
            case rel => first | exact ⟨j + 1, _, _, _, _, by omega, by go_num, B9, HM2.out.symm⟩ | exact ⟨_, _, .int .i64 (((j : Nat) : Int) + 1), ⟨j + 1, _, _, _, _, by omega, by go_num, B9, HM2.out.symm⟩, rfl, rfl, rfl⟩ | exact ⟨_, _, _, .int .i64 (((j : Nat) : Int) + 1), ⟨j + 1, _, _, _, _, by omega, by go_num, B9, HM2.out.symm⟩, rfl, rfl, rfl, rfl⟩
            case measure => simp [intOf]; omega
        · have hjp2 : j = pi := by omega
          have HC : Hid (0 ≤ cpl (bsOf (n.keys.getD j ByteArray.empty)) (bsOf k)) := by
            show 0 ≤ _
            rw [hjp2] at hlt ⊢
            cases pf
            · have := HPL.out.ge pi (by omega) hlt (.inl rfl); omega
            · rw [(HPL.out.eq rfl).2, cpl_refl]; omega
          have HD : Hid (m = leftN n k rt) := by show _ = _; rw [HM.out, HLF.out, hjp2]
          obtain ⟨bk, ok, ek, hbk, hck⟩ := strs_some hN.keys hlt
          have hkc := hck j hlt
          have hji : (j : Int) < (n.keys.length : Int) := by omega
          have hcm := fun W => rcompare_any (n.keys.getD j ByteArray.empty) k (HSK.out _ (by rw [getD_lt' _ _ _ hlt]; exact List.getElem_mem hlt)) hk W
          obtain ⟨c, hc⟩ : ∃ c, c = cpl (bsOf (n.keys.getD j ByteArray.empty)) (bsOf k) := ⟨_, rfl⟩
          rw [← hc] at hcm
          obtain ⟨y, hy⟩ : ∃ y, y = n.keys.getD j ByteArray.empty := ⟨_, rfl⟩
          rw [← hc] at HC
          have hcl : 0 ≤ c := HC.out
          rw [← hy] at hkc hcm
          clear hy hck hc HC hjp hjp2
          rw [ek]
          go_wp2_with fail
          refine (hcm _).mono ?_
          rintro e w6 ⟨rfl, f6⟩
          clear hcm c0 c1 c2 c3 c4 c5 c6 k0 k1 k2 k3 k4 k5 k6 fz hkc hbk
          have B6 := B.same f6
          have F6 := F2.seq' B6.fr
          obtain ⟨c0, c1, c2, c3, c4, c5, c6⟩ := HB.out _ F6
          obtain ⟨⟨k0, k1, k2, k3, k4, k5, k6⟩, fz⟩ := node_cells B6.box
          obtain ⟨⟨s0, s1, s2, s3, s4, s5, s6⟩, sz⟩ := node_cells (HRB.out _ (F2.seq' B6.fr))
          have y0 := sz 0; have y1 := sz 1; have y2 := sz 2; have y3 := sz 3; have y4 := sz 4; have y5 := sz 5; have y6 := sz 6
          obtain ⟨pf0, ⟨e1, e2, e3⟩, hq, nd, ff, hnw⟩ := B6.done (w1 := w) (rb := w.heap.size + 1) (by rw [HM.out]; exact ⟨by show k.size ≤ _; omega, (pie_short HR.out 0 j).keys, (pie_short HR.out 0 j).vals⟩) (by rw [HM.out]; exact Nat.le_trans (pie_len n 0 j).1 (by omega)) (by rw [HM.out]; exact Nat.le_trans (pie_len n 0 j).2.1 (by omega)) (by rw [HM.out]; exact Nat.le_trans (pie_len n 0 j).2.2 (by omega)) (HRB.out _ (F2.seq' B6.fr)) (by omega) hrb2 (f0.seq' F2)
          subst e1; subst e2; subst e3
          clear sz
          go_wp2
          generalize ((((((w6.setCell ⟨w.heap.size + 1, 0, none⟩ (.int .i64 m.lev)).setCell ⟨w.heap.size + 1, 1, none⟩ (.int .i64 m.lsn)).setCell ⟨w.heap.size + 1, 2, none⟩ (.int .i64 m.rgt)).setCell ⟨w.heap.size + 1, 3, none⟩ (.string m.high)).setCell ⟨w.heap.size + 1, 4, none⟩ (.slice pf0.k m.keys.length pf0.kc)).setCell ⟨w.heap.size + 1, 5, none⟩ (.slice pf0.v m.vals.length pf0.vc)).setCell ⟨w.heap.size + 1, 6, none⟩ (.slice pf0.i m.kids.length pf0.ic) = Wf at hq nd ff ⊢
          obtain ⟨⟨q0, q1, q2, q3, q4, q5, q6⟩, _⟩ := node_cells hq
          rw [okN_ok, ← HD.out]
          exact bodyPost_ret (v := .tuple #[(.agg #[.int .i64 m.lev, .int .i64 m.lsn, .int .i64 m.rgt, .string m.high, .slice pf0.k m.keys.length pf0.kc, .slice pf0.v m.vals.length pf0.vc, .slice pf0.i m.kids.length pf0.ic]), .int .i64 0]) (by simp [results, Tryz.results56, go_sem, q0, q1, q2, q3, q4, q5, q6]) rfl ⟨pf0, rfl, nd, ff, hnw⟩
      · have HD : Hid (m = leftN n k rt) := by show _ = _; rw [HM.out, HLF.out, show j = pi by omega]
        have hje : j = n.keys.length := by omega
        have hjx : ¬ ((j : Int) < (n.keys.length : Int)) := by omega
        obtain ⟨⟨s0, s1, s2, s3, s4, s5, s6⟩, sz⟩ := node_cells (HRB.out _ (F2.seq' B.fr))
        have y0 := sz 0; have y1 := sz 1; have y2 := sz 2; have y3 := sz 3; have y4 := sz 4; have y5 := sz 5; have y6 := sz 6
        obtain ⟨pf0, ⟨e1, e2, e3⟩, hq, nd, ff, hnw⟩ := B.done (w1 := w) (rb := w.heap.size + 1) (by rw [HM.out]; exact ⟨by show k.size ≤ _; omega, (pie_short HR.out 0 j).keys, (pie_short HR.out 0 j).vals⟩) (by rw [HM.out]; exact Nat.le_trans (pie_len n 0 j).1 (by omega)) (by rw [HM.out]; exact Nat.le_trans (pie_len n 0 j).2.1 (by omega)) (by rw [HM.out]; exact Nat.le_trans (pie_len n 0 j).2.2 (by omega)) (HRB.out _ (F2.seq' B.fr)) (by omega) hrb2 (f0.seq' F2)
        subst e1; subst e2; subst e3
        clear sz hje
        go_wp2
        generalize ((((((wr.setCell ⟨w.heap.size + 1, 0, none⟩ (.int .i64 m.lev)).setCell ⟨w.heap.size + 1, 1, none⟩ (.int .i64 m.lsn)).setCell ⟨w.heap.size + 1, 2, none⟩ (.int .i64 m.rgt)).setCell ⟨w.heap.size + 1, 3, none⟩ (.string m.high)).setCell ⟨w.heap.size + 1, 4, none⟩ (.slice pf0.k m.keys.length pf0.kc)).setCell ⟨w.heap.size + 1, 5, none⟩ (.slice pf0.v m.vals.length pf0.vc)).setCell ⟨w.heap.size + 1, 6, none⟩ (.slice pf0.i m.kids.length pf0.ic) = Wf at hq nd ff ⊢
        obtain ⟨⟨q0, q1, q2, q3, q4, q5, q6⟩, _⟩ := node_cells hq
        rw [okN_ok, ← HD.out]
        exact bodyPost_ret (v := .tuple #[(.agg #[.int .i64 m.lev, .int .i64 m.lsn, .int .i64 m.rgt, .string m.high, .slice pf0.k m.keys.length pf0.kc, .slice pf0.v m.vals.length pf0.vc, .slice pf0.i m.kids.length pf0.ic]), .int .i64 0]) (by simp [results, Tryz.results56, go_sem, q0, q1, q2, q3, q4, q5, q6]) rfl ⟨pf0, rfl, nd, ff, hnw⟩
  · have hne : (ae != 0) = true := by simpa using hae
    have HP0 : Hid (ae ≠ 0) := hae
    have hR6 := HRB.out _ f1
    obtain ⟨⟨s0, s1, s2, s3, s4, s5, s6⟩, sz⟩ := node_cells hR6
    have y0 := sz 0; have y1 := sz 1; have y2 := sz 2; have y3 := sz 3; have y4 := sz 4; have y5 := sz 5; have y6 := sz 6
    clear hae sz
    go_wp2
    obtain ⟨hq, ff⟩ := fin7 hR6 (.int .i64 0) (.int .i64 0) (.int .i64 0) (.string ⟨#[]⟩) (.slice none 0 0) (.slice none 0 0) (.slice none 0 0)
    have fff := (f0.seq' f1).trans ff (S := fun _ => False) (fun i hi e => by omega)
    generalize ((((((w1.setCell ⟨w.heap.size + 1, 0, none⟩ (.int .i64 0)).setCell ⟨w.heap.size + 1, 1, none⟩ (.int .i64 0)).setCell ⟨w.heap.size + 1, 2, none⟩ (.int .i64 0)).setCell ⟨w.heap.size + 1, 3, none⟩ (.string ⟨#[]⟩)).setCell ⟨w.heap.size + 1, 4, none⟩ (.slice none 0 0)).setCell ⟨w.heap.size + 1, 5, none⟩ (.slice none 0 0)).setCell ⟨w.heap.size + 1, 6, none⟩ (.slice none 0 0) = Wf at hq fff ⊢
    obtain ⟨⟨q0, q1, q2, q3, q4, q5, q6⟩, _⟩ := node_cells hq
    rw [okN_no HP0.out]
    exact bodyPost_ret (v := .tuple #[.agg #[.int .i64 0, .int .i64 0, .int .i64 0, .string ⟨#[]⟩, .slice none 0 0, .slice none 0 0, .slice none 0 0], .int .i64 ae]) (by simp [results, Tryz.results56, go_sem, q0, q1, q2, q3, q4, q5, q6]) rfl ⟨zp, rfl, zn_nod _, fff, zp_nw _⟩
end Go.Proofs.YtlgceleelhppdaaGreat

/- What the document's Left makes. -/
namespace Go.Proofs.YtlgceleelhppdaaGreat
open Go.RowKit
set_option maxRecDepth 100000 in
set_option maxHeartbeats 8000000 in
theorem rleft_inner (n : Nd) (p : Pt) (k : ByteArray) (rt : Int) (hk2 : k.size ≤ 140737488351232) (hk : k.size ≤ maxLen) (w : World) (h : Nod w n p) (h0 : n.lev ≠ 0) : Calls Tryz.prog 56 #[(.agg #[.int .i64 n.lev, .int .i64 n.lsn, .int .i64 n.rgt, .string n.high, .slice p.k n.keys.length p.kc, .slice p.v n.vals.length p.vc, .slice p.i n.kids.length p.ic]), .string k, .int .i64 rt] w fun e w' => NdOut2 (okN (lrE n k (nuE rt)) (leftN n k rt)) (lrE n k (nuE rt)) w e w' := by
  have f0 : Fr (fun _ => False) w ((w.alloc (.cells #[.int .i64 n.lev, .int .i64 n.lsn, .int .i64 n.rgt, .string n.high, .slice p.k n.keys.length p.kc, .slice p.v n.vals.length p.vc, .slice p.i n.kids.length p.ic] 34)).alloc (.cells #[.int .i64 0, .int .i64 0, .int .i64 0, .string ⟨#[]⟩, .slice none 0 0, .slice none 0 0, .slice none 0 0] 34)) := ((Fr.refl _ _).alloc _).alloc _
  have HB : Hid (∀ W, Fr (fun _ => False) ((w.alloc (.cells #[.int .i64 n.lev, .int .i64 n.lsn, .int .i64 n.rgt, .string n.high, .slice p.k n.keys.length p.kc, .slice p.v n.vals.length p.vc, .slice p.i n.kids.length p.ic] 34)).alloc (.cells #[.int .i64 0, .int .i64 0, .int .i64 0, .string ⟨#[]⟩, .slice none 0 0, .slice none 0 0, .slice none 0 0] 34)) W → W.cell? ⟨w.heap.size, 0, none⟩ = some (.int .i64 n.lev) ∧ W.cell? ⟨w.heap.size, 1, none⟩ = some (.int .i64 n.lsn) ∧ W.cell? ⟨w.heap.size, 2, none⟩ = some (.int .i64 n.rgt) ∧ W.cell? ⟨w.heap.size, 3, none⟩ = some (.string n.high) ∧ W.cell? ⟨w.heap.size, 4, none⟩ = some (.slice p.k n.keys.length p.kc) ∧ W.cell? ⟨w.heap.size, 5, none⟩ = some (.slice p.v n.vals.length p.vc) ∧ W.cell? ⟨w.heap.size, 6, none⟩ = some (.slice p.i n.kids.length p.ic)) := fun W f => box_cells (box_at w n p 34 (((Fr.refl _ _).alloc _).seq' f))
  have HRB : Hid (∀ W, Fr (fun _ => False) ((w.alloc (.cells #[.int .i64 n.lev, .int .i64 n.lsn, .int .i64 n.rgt, .string n.high, .slice p.k n.keys.length p.kc, .slice p.v n.vals.length p.vc, .slice p.i n.kids.length p.ic] 34)).alloc (.cells #[.int .i64 0, .int .i64 0, .int .i64 0, .string ⟨#[]⟩, .slice none 0 0, .slice none 0 0, .slice none 0 0] 34)) W → W.heap[w.heap.size + 1]? = some (.cells #[.int .i64 0, .int .i64 0, .int .i64 0, .string ⟨#[]⟩, .slice none 0 0, .slice none 0 0, .slice none 0 0] 34 (0, 0))) := fun W f => by
    refine f.blk ?_ (fun f => f)
    have := heap_alloc_new (w.alloc (.cells #[.int .i64 n.lev, .int .i64 n.lsn, .int .i64 n.rgt, .string n.high, .slice p.k n.keys.length p.kc, .slice p.v n.vals.length p.vc, .slice p.i n.kids.length p.ic] 34)) (.cells #[.int .i64 0, .int .i64 0, .int .i64 0, .string ⟨#[]⟩, .slice none 0 0, .slice none 0 0, .slice none 0 0] 34)
    rw [show (w.alloc (.cells #[.int .i64 n.lev, .int .i64 n.lsn, .int .i64 n.rgt, .string n.high, .slice p.k n.keys.length p.kc, .slice p.v n.vals.length p.vc, .slice p.i n.kids.length p.ic] 34)).heap.size = w.heap.size + 1 by simp] at this
    exact this
  have ha := rparted_any n p k rt hk _ (h.same f0)
  skip
  have HOK : Hid (lrE n k (nuE rt) = 0 → Rt n ∧ k.size ≤ 16 ∧ (n.lev ≠ 0 → (plc (bsOf k) n.keys).2 = true)) := lr_ok
  generalize lrE n k (nuE rt) = ae at *
  have H0 : Hid (n.lev ≠ 0) := h0
  clear h0
  go_enter Tryz.func56, Tryz.ntmps56
  go_wp2_with fail
  refine ha.mono ?_
  rintro e w1 ⟨rfl, f1⟩
  clear ha
  obtain ⟨c0, c1, c2, c3, c4, c5, c6⟩ := HB.out _ f1
  by_cases hae : ae = 0
  · subst hae
    obtain ⟨hr, hk16, hfd⟩ := HOK.out rfl
    have HR : Hid (Rt n) := hr
    have hfew := keys_few hr
    have hkl := h.keys.le
    have hkm := h.keys.max
    have HSK : Hid (∀ s ∈ n.keys, s.size ≤ maxLen) := fun s hs => Nat.le_trans (size_of_mem (fun i hi => (hr.keys i hi).1.2) s hs) (by decide)
    have hpl := plc_pl (k := bsOf k) hr.srt
    obtain ⟨pi, pf, hpe⟩ : ∃ pi pf, plc (bsOf k) n.keys = (pi, pf) := ⟨_, _, rfl⟩
    have HPE : Hid (plc (bsOf k) n.keys = (pi, pf)) := hpe
    have HFD : Hid (n.lev ≠ 0 → pf = true) := fun h => by have := hfd h; rw [hpe] at this; exact this
    rw [hpe] at hpl
    simp only at hpl
    have HPL : Hid (Pl (bsOf k) n.keys pi pf) := hpl
    have hple := hpl.le
    have h0 := H0.out
    have HIL : Hid (n.kids.length = n.keys.length + 1) := (hr.inner h0).1
    have hlg : 0 < n.lev := by have := hr.lev0; omega
    have hlb : (n.lev == 0) = false := by simpa using h0
    clear hr HOK hpe hpl hfd h0
    go_wp2_with fail
    refine (bare_any n p _).mono ?_
    rintro e w2 ⟨rfl, f2⟩
    clear c0 c1 c2 c3 c4 c5 c6
    have F2 := f1.seq' f2
    have hrb2 : w.heap.size + 1 < w2.heap.size := by have := F2.size; simp at this; omega
    have HLF : Hid (leftN n k rt = { pieceN n 0 pi with high := k, rgt := rt }) := by show _ = _; unfold leftN; rw [parA_ok (parE_hit (by rw [HPE.out]; exact HFD.out H0.out)), HPE.out]
    have BS : Bx w2 (w2.alloc (.cells #[.int .i64 n.lev, .int .i64 n.lsn, .int .i64 rt, .string k, .slice none 0 0, .slice none 0 0, .slice none 0 0] 34)) w2.heap.size ⟨n.lev, n.lsn, rt, k, [], [], []⟩ (.slice none 0 0) (.slice none 0 0) (.slice none 0 0) := Bx.start w2 ⟨n.lev, n.lsn, rt, k, [], [], []⟩ rfl rfl rfl
    obtain ⟨c0, c1, c2, c3, c4, c5, c6⟩ := HB.out _ (F2.seq' BS.fr)
    go_upto_if 28 with fail
    obtain ⟨W8, hW8⟩ : ∃ W, W = w2.alloc (.cells #[.int .i64 n.lev, .int .i64 n.lsn, .int .i64 rt, .string k, .slice none 0 0, .slice none 0 0, .slice none 0 0] 34) := ⟨_, rfl⟩
    rw [← hW8] at BS ⊢
    clear hW8 c0 c1 c2 c3 c4 c5 c6
    go_cut [7] (fun e wc => e = .int .i64 0 ∧ ∃ kv vv iv, Bx w2 wc w2.heap.size { pieceN n 0 0 with high := k, rgt := rt } kv vv iv)
    case first =>
      have hvi : 0 < n.kids.length := by have := HIL.out; omega
      have F8 := F2.seq' BS.fr
      have hN8 := h.same (f0.seq' F8)
      obtain ⟨bw, ow, ew, hbw, hcw⟩ := ints_some hN8.kids hvi
      have hvc := hcw 0 hvi
      have hvi0 : (0 : Int) < (n.kids.length : Int) := by omega
      rw [Nat.add_zero] at hvc
      obtain ⟨d0, d1, d2, d3, d4, d5, d6⟩ := HB.out _ F8
      rw [ew] at d6
      clear ew
      obtain ⟨vj, hvj⟩ : ∃ v, v = n.kids.getD 0 0 := ⟨_, rfl⟩
      have HV0 : Hid (vj = n.kids.getD 0 0) := hvj
      rw [← hvj] at hvc
      obtain ⟨⟨k0, k1, k2, k3, k4, k5, k6⟩, fz⟩ := node_cells BS.box
      obtain ⟨⟨p0, p1, p2, p3, p4, p5, p6⟩, pz⟩ := node_cells (BS.same (Fr.box W8 (.cells #[.int .i64 vj] 3))).box
      obtain ⟨a9, c9, w9, hap, q9, z9, B9⟩ := (BS.same (Fr.refl (fun _ => False) W8).drew).kid vj (Nat.zero_le _)
      simp only [List.length_nil, Nat.zero_add, List.nil_append] at hap q9 B9 k4 k5 k6 p4 p5 p6
      clear hcw hvj
      have HM0 : Hid ({ pieceN n 0 0 with high := k, rgt := rt } = (⟨n.lev, n.lsn, rt, k, [], [], [vj]⟩ : Nd)) := by
        show _ = _
        unfold pieceN
        simp only [if_neg H0.out]
        rw [take_getD n.kids 0 0 hvi, HV0.out]
        simp
      go_wp2_with fail
      go_region_law
        (show (if Region.wanted { dst := _, op := .call { callee := .builtin .append, args := _, argTypes := _ }, type := _, pos := _, after := _, guard := _ } _ = true then _ else _); refine step_of (by rfl) (wp_append_run (.tmp 30) (.tmp 35) 32 32 (by rfl) (by rfl) (by rfl) hap ?_))
      all_goals
        obtain ⟨WS, hWS⟩ : ∃ W, W = w9.setCell ⟨w2.heap.size, 6, none⟩ (.slice a9 1 c9) := ⟨_, rfl⟩
        rw [← hWS] at B9 ⊢
        have B0 := B9
        rw [← HM0.out] at B0
        clear hWS hap q9 z9 k0 k1 k2 k3 k4 k5 k6 fz p0 p1 p2 p3 p4 p5 p6 pz d0 d1 d2 d3 d4 d5 d6 hvc hbw B9 BS
        go_wp2_with fail
        go_meet
        exact ⟨rfl, _, _, _, B0⟩
    case rest =>
    obtain ⟨rfl, kv0, vv0, iv0, B0⟩ := hcut
    clear BS
    obtain ⟨c0, c1, c2, c3, c4, c5, c6⟩ := HB.out _ (F2.seq' B0.fr)
    go_wp2
    go_loopw [41] (fun i wr => PieR (fun j => { pieceN n 0 j with high := k, rgt := rt }) pi w2 i wr) (fun i _ => n.keys.length - (intOf i).toNat)
    case atStart => exact ⟨0, _, _, _, _, by omega, rfl, B0, rfl⟩
    case round =>
      obtain ⟨j, m, kv, vv, iv, hj, rfl, B, HM⟩ := hrel
      clear B0 c0 c1 c2 c3 c4 c5 c6
      have F := F2.seq' B.fr
      have hN := h.same (f0.seq' F)
      obtain ⟨c0, c1, c2, c3, c4, c5, c6⟩ := HB.out _ F
      obtain ⟨⟨k0, k1, k2, k3, k4, k5, k6⟩, fz⟩ := node_cells B.box
      by_cases hlt : j < n.keys.length
      · by_cases hjp : j < pi
        · have HC : Hid (cpl (bsOf (n.keys.getD j ByteArray.empty)) (bsOf k) < 0) := HPL.out.lt j hjp
          have hvi : j + 1 < n.kids.length := by have := HIL.out; omega
          have HVI : Hid (j + 1 < n.kids.length) := hvi
          have HM2 : Hid ({ pieceN n 0 (j + 1) with high := k, rgt := rt } = { m with keys := m.keys ++ [n.keys.getD j ByteArray.empty], kids := m.kids ++ [n.kids.getD (j + 1) 0] }) := by show _ = _; rw [pie_inner H0.out (Nat.zero_le _) hlt hvi, HM.out]
          obtain ⟨vj, hv⟩ : ∃ v, v = n.kids.getD (j + 1) 0 := ⟨_, rfl⟩
          have HV : Hid (vj = n.kids.getD (j + 1) 0) := hv
          have HLV : Hid (m.kids.length ≤ 100000) := by rw [HM.out]; exact Nat.le_trans (pie_len n 0 j).2.2 (by omega)
          clear hvi
          obtain ⟨bk, ok, ek, hbk, hck⟩ := strs_some hN.keys hlt
          have hkc := hck j hlt
          have hji : (j : Int) < (n.keys.length : Int) := by omega
          have hcm := fun W => rcompare_any (n.keys.getD j ByteArray.empty) k (HSK.out _ (by rw [getD_lt' _ _ _ hlt]; exact List.getElem_mem hlt)) hk W
          obtain ⟨c, hc⟩ : ∃ c, c = cpl (bsOf (n.keys.getD j ByteArray.empty)) (bsOf k) := ⟨_, rfl⟩
          rw [← hc] at hcm
          obtain ⟨y, hy⟩ : ∃ y, y = n.keys.getD j ByteArray.empty := ⟨_, rfl⟩
          have HLK : Hid (m.keys.length ≤ 100000) := by rw [HM.out]; exact Nat.le_trans (pie_len n 0 j).1 (by omega)
          rw [← hc] at HC
          have hcl : c < 0 := HC.out
          rw [← hy] at hkc HM2 hcm
          rw [← hv] at HM2
          clear hy hv hck hc HC
          rw [ek]
          go_wp2_with fail
          refine (hcm _).mono ?_
          rintro e w6 ⟨rfl, f6⟩
          clear hcm c0 c1 c2 c3 c4 c5 c6 k0 k1 k2 k3 k4 k5 k6 fz hkc hbk
          have B6 := B.same f6
          have F6 := F2.seq' B6.fr
          obtain ⟨c0, c1, c2, c3, c4, c5, c6⟩ := HB.out _ F6
          obtain ⟨⟨k0, k1, k2, k3, k4, k5, k6⟩, fz⟩ := node_cells B6.box
          obtain ⟨a7, c7, w7, hapk, q7, z7, B7⟩ := B6.key y HLK.out
          go_upto_region 14 with (at_builtin; refine wpList_append_run rfl (.tmp 51) (.tmp 53) 31 31 rfl (by rfl) (by rfl) hapk ?_)
          obtain ⟨W8, hW8⟩ : ∃ W, W = w7.setCell ⟨w2.heap.size, 4, none⟩ (.slice a7 (m.keys.length + 1) c7) := ⟨_, rfl⟩
          rw [← hW8] at B7 ⊢
          clear hW8 hapk q7 z7 k0 k1 k2 k3 k4 k5 k6 fz c0 c1 c2 c3 c4 c5 c6
          have hvi := HVI.out
          have hjv : (j : Int) + 1 < (n.kids.length : Int) := by omega
          have hks := h.ilen
          have hq00 : (0 : Int) ≤ (j : Int) + 1 := by omega
          have hqt : ((j : Int) + 1).toNat = j + 1 := by omega
          have hqw : IntKind.i64.wrap ((j : Int) + 1) = (j : Int) + 1 := by rw [IntKind.wrap_i64]; omega
          have F8 := F2.seq' B7.fr
          have hN8 := h.same (f0.seq' F8)
          obtain ⟨bw, ow, ew, hbw, hcw⟩ := ints_some hN8.kids hvi
          have hvc := hcw (j + 1) hvi
          obtain ⟨d0, d1, d2, d3, d4, d5, d6⟩ := HB.out _ F8
          rw [ew] at d6
          clear ew
          rw [← HV.out] at hvc
          obtain ⟨⟨k0, k1, k2, k3, k4, k5, k6⟩, fz⟩ := node_cells B7.box
          obtain ⟨⟨p0, p1, p2, p3, p4, p5, p6⟩, pz⟩ := node_cells (B7.same (Fr.box W8 (.cells #[.int .i64 vj] 3))).box
          obtain ⟨a9, c9, w9, hap, q9, z9, B9⟩ := (B7.same (Fr.refl (fun _ => False) W8).drew).kid vj HLV.out
          clear hcw
          go_wp2_with fail
          go_region_law
            (show (if Region.wanted { dst := _, op := .call { callee := .builtin .append, args := _, argTypes := _ }, type := _, pos := _, after := _, guard := _ } _ = true then _ else _); refine step_of (by rfl) (wp_append_run (.tmp 60) (.tmp 67) 32 32 (by rfl) (by rfl) (by rfl) hap ?_))
          all_goals
            obtain ⟨W10, hW10⟩ : ∃ W, W = w9.setCell ⟨w2.heap.size, 6, none⟩ (.slice a9 (m.kids.length + 1) c9) := ⟨_, rfl⟩
            try simp only at B9
            rw [← hW10] at B9 ⊢
            clear hW10 hap q9 z9 k0 k1 k2 k3 k4 k5 k6 fz p0 p1 p2 p3 p4 p5 p6 pz d0 d1 d2 d3 d4 d5 d6 hvc hbw
            go_wp2
            go_roundw
            case rel => first | exact ⟨j + 1, _, _, _, _, by omega, by go_num, B9, HM2.out.symm⟩ | exact ⟨_, _, .int .i64 (((j : Nat) : Int) + 1), ⟨j + 1, _, _, _, _, by omega, by go_num, B9, HM2.out.symm⟩, rfl, rfl, rfl⟩ | exact ⟨_, _, _, .int .i64 (((j : Nat) : Int) + 1), ⟨j + 1, _, _, _, _, by omega, by go_num, B9, HM2.out.symm⟩, rfl, rfl, rfl, rfl⟩
            case measure => simp [intOf]; omega
        · have hjp2 : j = pi := by omega
          have HC : Hid (0 ≤ cpl (bsOf (n.keys.getD j ByteArray.empty)) (bsOf k)) := by
            show 0 ≤ _
            rw [hjp2] at hlt ⊢
            cases pf
            · have := HPL.out.ge pi (by omega) hlt (.inl rfl); omega
            · rw [(HPL.out.eq rfl).2, cpl_refl]; omega
          have HD : Hid (m = leftN n k rt) := by show _ = _; rw [HM.out, HLF.out, hjp2]
          obtain ⟨bk, ok, ek, hbk, hck⟩ := strs_some hN.keys hlt
          have hkc := hck j hlt
          have hji : (j : Int) < (n.keys.length : Int) := by omega
          have hcm := fun W => rcompare_any (n.keys.getD j ByteArray.empty) k (HSK.out _ (by rw [getD_lt' _ _ _ hlt]; exact List.getElem_mem hlt)) hk W
          obtain ⟨c, hc⟩ : ∃ c, c = cpl (bsOf (n.keys.getD j ByteArray.empty)) (bsOf k) := ⟨_, rfl⟩
          rw [← hc] at hcm
          obtain ⟨y, hy⟩ : ∃ y, y = n.keys.getD j ByteArray.empty := ⟨_, rfl⟩
          rw [← hc] at HC
          have hcl : 0 ≤ c := HC.out
          rw [← hy] at hkc hcm
          clear hy hck hc HC hjp hjp2
          rw [ek]
          go_wp2_with fail
          refine (hcm _).mono ?_
          rintro e w6 ⟨rfl, f6⟩
          clear hcm c0 c1 c2 c3 c4 c5 c6 k0 k1 k2 k3 k4 k5 k6 fz hkc hbk
          have B6 := B.same f6
          have F6 := F2.seq' B6.fr
          obtain ⟨c0, c1, c2, c3, c4, c5, c6⟩ := HB.out _ F6
          obtain ⟨⟨k0, k1, k2, k3, k4, k5, k6⟩, fz⟩ := node_cells B6.box
          obtain ⟨⟨s0, s1, s2, s3, s4, s5, s6⟩, sz⟩ := node_cells (HRB.out _ (F2.seq' B6.fr))
          have y0 := sz 0; have y1 := sz 1; have y2 := sz 2; have y3 := sz 3; have y4 := sz 4; have y5 := sz 5; have y6 := sz 6
          obtain ⟨pf0, ⟨e1, e2, e3⟩, hq, nd, ff, hnw⟩ := B6.done (w1 := w) (rb := w.heap.size + 1) (by rw [HM.out]; exact ⟨by show k.size ≤ _; omega, (pie_short HR.out 0 j).keys, (pie_short HR.out 0 j).vals⟩) (by rw [HM.out]; exact Nat.le_trans (pie_len n 0 j).1 (by omega)) (by rw [HM.out]; exact Nat.le_trans (pie_len n 0 j).2.1 (by omega)) (by rw [HM.out]; exact Nat.le_trans (pie_len n 0 j).2.2 (by omega)) (HRB.out _ (F2.seq' B6.fr)) (by omega) hrb2 (f0.seq' F2)
          subst e1; subst e2; subst e3
          clear sz
          go_wp2
          generalize ((((((w6.setCell ⟨w.heap.size + 1, 0, none⟩ (.int .i64 m.lev)).setCell ⟨w.heap.size + 1, 1, none⟩ (.int .i64 m.lsn)).setCell ⟨w.heap.size + 1, 2, none⟩ (.int .i64 m.rgt)).setCell ⟨w.heap.size + 1, 3, none⟩ (.string m.high)).setCell ⟨w.heap.size + 1, 4, none⟩ (.slice pf0.k m.keys.length pf0.kc)).setCell ⟨w.heap.size + 1, 5, none⟩ (.slice pf0.v m.vals.length pf0.vc)).setCell ⟨w.heap.size + 1, 6, none⟩ (.slice pf0.i m.kids.length pf0.ic) = Wf at hq nd ff ⊢
          obtain ⟨⟨q0, q1, q2, q3, q4, q5, q6⟩, _⟩ := node_cells hq
          rw [okN_ok, ← HD.out]
          exact bodyPost_ret (v := .tuple #[(.agg #[.int .i64 m.lev, .int .i64 m.lsn, .int .i64 m.rgt, .string m.high, .slice pf0.k m.keys.length pf0.kc, .slice pf0.v m.vals.length pf0.vc, .slice pf0.i m.kids.length pf0.ic]), .int .i64 0]) (by simp [results, Tryz.results56, go_sem, q0, q1, q2, q3, q4, q5, q6]) rfl ⟨pf0, rfl, nd, ff, hnw⟩
      · have HD : Hid (m = leftN n k rt) := by show _ = _; rw [HM.out, HLF.out, show j = pi by omega]
        have hje : j = n.keys.length := by omega
        have hjx : ¬ ((j : Int) < (n.keys.length : Int)) := by omega
        obtain ⟨⟨s0, s1, s2, s3, s4, s5, s6⟩, sz⟩ := node_cells (HRB.out _ (F2.seq' B.fr))
        have y0 := sz 0; have y1 := sz 1; have y2 := sz 2; have y3 := sz 3; have y4 := sz 4; have y5 := sz 5; have y6 := sz 6
        obtain ⟨pf0, ⟨e1, e2, e3⟩, hq, nd, ff, hnw⟩ := B.done (w1 := w) (rb := w.heap.size + 1) (by rw [HM.out]; exact ⟨by show k.size ≤ _; omega, (pie_short HR.out 0 j).keys, (pie_short HR.out 0 j).vals⟩) (by rw [HM.out]; exact Nat.le_trans (pie_len n 0 j).1 (by omega)) (by rw [HM.out]; exact Nat.le_trans (pie_len n 0 j).2.1 (by omega)) (by rw [HM.out]; exact Nat.le_trans (pie_len n 0 j).2.2 (by omega)) (HRB.out _ (F2.seq' B.fr)) (by omega) hrb2 (f0.seq' F2)
        subst e1; subst e2; subst e3
        clear sz hje
        go_wp2
        generalize ((((((wr.setCell ⟨w.heap.size + 1, 0, none⟩ (.int .i64 m.lev)).setCell ⟨w.heap.size + 1, 1, none⟩ (.int .i64 m.lsn)).setCell ⟨w.heap.size + 1, 2, none⟩ (.int .i64 m.rgt)).setCell ⟨w.heap.size + 1, 3, none⟩ (.string m.high)).setCell ⟨w.heap.size + 1, 4, none⟩ (.slice pf0.k m.keys.length pf0.kc)).setCell ⟨w.heap.size + 1, 5, none⟩ (.slice pf0.v m.vals.length pf0.vc)).setCell ⟨w.heap.size + 1, 6, none⟩ (.slice pf0.i m.kids.length pf0.ic) = Wf at hq nd ff ⊢
        obtain ⟨⟨q0, q1, q2, q3, q4, q5, q6⟩, _⟩ := node_cells hq
        rw [okN_ok, ← HD.out]
        exact bodyPost_ret (v := .tuple #[(.agg #[.int .i64 m.lev, .int .i64 m.lsn, .int .i64 m.rgt, .string m.high, .slice pf0.k m.keys.length pf0.kc, .slice pf0.v m.vals.length pf0.vc, .slice pf0.i m.kids.length pf0.ic]), .int .i64 0]) (by simp [results, Tryz.results56, go_sem, q0, q1, q2, q3, q4, q5, q6]) rfl ⟨pf0, rfl, nd, ff, hnw⟩
  · have hne : (ae != 0) = true := by simpa using hae
    have HP0 : Hid (ae ≠ 0) := hae
    have hR6 := HRB.out _ f1
    obtain ⟨⟨s0, s1, s2, s3, s4, s5, s6⟩, sz⟩ := node_cells hR6
    have y0 := sz 0; have y1 := sz 1; have y2 := sz 2; have y3 := sz 3; have y4 := sz 4; have y5 := sz 5; have y6 := sz 6
    clear hae sz
    go_wp2
    obtain ⟨hq, ff⟩ := fin7 hR6 (.int .i64 0) (.int .i64 0) (.int .i64 0) (.string ⟨#[]⟩) (.slice none 0 0) (.slice none 0 0) (.slice none 0 0)
    have fff := (f0.seq' f1).trans ff (S := fun _ => False) (fun i hi e => by omega)
    generalize ((((((w1.setCell ⟨w.heap.size + 1, 0, none⟩ (.int .i64 0)).setCell ⟨w.heap.size + 1, 1, none⟩ (.int .i64 0)).setCell ⟨w.heap.size + 1, 2, none⟩ (.int .i64 0)).setCell ⟨w.heap.size + 1, 3, none⟩ (.string ⟨#[]⟩)).setCell ⟨w.heap.size + 1, 4, none⟩ (.slice none 0 0)).setCell ⟨w.heap.size + 1, 5, none⟩ (.slice none 0 0)).setCell ⟨w.heap.size + 1, 6, none⟩ (.slice none 0 0) = Wf at hq fff ⊢
    obtain ⟨⟨q0, q1, q2, q3, q4, q5, q6⟩, _⟩ := node_cells hq
    rw [okN_no HP0.out]
    exact bodyPost_ret (v := .tuple #[.agg #[.int .i64 0, .int .i64 0, .int .i64 0, .string ⟨#[]⟩, .slice none 0 0, .slice none 0 0, .slice none 0 0], .int .i64 ae]) (by simp [results, Tryz.results56, go_sem, q0, q1, q2, q3, q4, q5, q6]) rfl ⟨zp, rfl, zn_nod _, fff, zp_nw _⟩
end Go.Proofs.YtlgceleelhppdaaGreat
