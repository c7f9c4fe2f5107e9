
/- NdRDel, NdDel. -/
import Derived.Test.YtlgceleelhppdaaGreatDR21
import Derived.Test.YtlgceleelhppdaaGreatDR22
import Derived.Test.YtlgceleelhppdaaGreatDR23
import Derived.Test.YtlgceleelhppdaaGreatDR24
/- What the document's Del makes. -/
namespace Go.Proofs.YtlgceleelhppdaaGreat
open Go.RowKit

/-- The first j entries without a key. -/
def delTo (n : Nd) (k : ByteArray) (j : Nat) : Nd := ⟨n.lev, n.lsn, n.rgt, n.high, erTo (plc (bsOf k) n.keys).2 (plc (bsOf k) n.keys).1 j n.keys, erTo (plc (bsOf k) n.keys).2 (plc (bsOf k) n.keys).1 j n.vals, []⟩
def delN (n : Nd) (k : ByteArray) : Nd := delTo n k n.keys.length
theorem delTo_hit {n : Nd} {k : ByteArray} {j : Nat} (hs : srt n.keys) (hj : j < n.keys.length) (hv : j < n.vals.length) (he : bsOf (n.keys.getD j ByteArray.empty) = bsOf k) : delTo n k (j + 1) = delTo n k j := by
  unfold delTo; rw [plc_at hs j hj he, erTo_hit _ _ hj, erTo_hit _ _ hv]
theorem delTo_miss {n : Nd} {k : ByteArray} {j : Nat} (hs : srt n.keys) (hj : j < n.keys.length) (hv : j < n.vals.length) (he : bsOf (n.keys.getD j ByteArray.empty) ≠ bsOf k) :
    delTo n k (j + 1) = { delTo n k j with keys := (delTo n k j).keys ++ [n.keys.getD j ByteArray.empty], vals := (delTo n k j).vals ++ [n.vals.getD j ByteArray.empty] } := by
  have hne : ¬ ((plc (bsOf k) n.keys).2 = true ∧ (plc (bsOf k) n.keys).1 = j) := fun e => he (by have := ((plc_pl (k := bsOf k) hs).eq e.1).2; rw [e.2] at this; exact this)
  unfold delTo; rw [erTo_miss _ _ _ _ ByteArray.empty hj hne, erTo_miss _ _ _ _ ByteArray.empty hv hne]
theorem delTo_short {n : Nd} {k : ByteArray} {j : Nat} (r : Rt n) (h0 : n.lev = 0) : Short (delTo n k j) :=
  ⟨by have := r.high; show n.high.size ≤ _; omega, fun s hs => Nat.le_trans (size_of_mem (fun i hi => (r.keys i hi).1.2) s (erTo_mem _ _ _ _ s hs)) (by omega), fun s hs => Nat.le_trans (size_of_mem (r.leaf h0).2.2 s (erTo_mem _ _ _ _ s hs)) (by omega)⟩
set_option maxRecDepth 100000 in
set_option maxHeartbeats 4000000 in
theorem rdel_any (n : Nd) (p : Pt) (k : ByteArray) (hk : k.size ≤ maxLen) (w : World) (h : Nod w n p) : Calls Tryz.prog 55 #[(.agg #[.int .i64 n.lev, .int .i64 n.lsn, .int .i64 n.rgt, .string n.high, .slice p.k n.keys.length p.kc, .slice p.v n.vals.length p.vc, .slice p.i n.kids.length p.ic]), .string k] w fun e w' => NdOut2 (okN (askE n k 0 0 1) (delN n k)) (askE n k 0 0 1) w e w' := by
  have f0 : Fr (fun _ => False) w ((w.alloc (.cells #[.int .i64 n.lev, .int .i64 n.lsn, .int .i64 n.rgt, .string n.high, .slice p.k n.keys.length p.kc, .slice p.v n.vals.length p.vc, .slice p.i n.kids.length p.ic] 34)).alloc (.cells #[.int .i64 0, .int .i64 0, .int .i64 0, .string ⟨#[]⟩, .slice none 0 0, .slice none 0 0, .slice none 0 0] 34)) := ((Fr.refl _ _).alloc _).alloc _
  have HB : Hid (∀ W, Fr (fun _ => False) ((w.alloc (.cells #[.int .i64 n.lev, .int .i64 n.lsn, .int .i64 n.rgt, .string n.high, .slice p.k n.keys.length p.kc, .slice p.v n.vals.length p.vc, .slice p.i n.kids.length p.ic] 34)).alloc (.cells #[.int .i64 0, .int .i64 0, .int .i64 0, .string ⟨#[]⟩, .slice none 0 0, .slice none 0 0, .slice none 0 0] 34)) W → W.cell? ⟨w.heap.size, 0, none⟩ = some (.int .i64 n.lev) ∧ W.cell? ⟨w.heap.size, 1, none⟩ = some (.int .i64 n.lsn) ∧ W.cell? ⟨w.heap.size, 2, none⟩ = some (.int .i64 n.rgt) ∧ W.cell? ⟨w.heap.size, 3, none⟩ = some (.string n.high) ∧ W.cell? ⟨w.heap.size, 4, none⟩ = some (.slice p.k n.keys.length p.kc) ∧ W.cell? ⟨w.heap.size, 5, none⟩ = some (.slice p.v n.vals.length p.vc) ∧ W.cell? ⟨w.heap.size, 6, none⟩ = some (.slice p.i n.kids.length p.ic)) := fun W f => box_cells (box_at w n p 34 (((Fr.refl _ _).alloc _).seq' f))
  have HRB : Hid (∀ W, Fr (fun _ => False) ((w.alloc (.cells #[.int .i64 n.lev, .int .i64 n.lsn, .int .i64 n.rgt, .string n.high, .slice p.k n.keys.length p.kc, .slice p.v n.vals.length p.vc, .slice p.i n.kids.length p.ic] 34)).alloc (.cells #[.int .i64 0, .int .i64 0, .int .i64 0, .string ⟨#[]⟩, .slice none 0 0, .slice none 0 0, .slice none 0 0] 34)) W → W.heap[w.heap.size + 1]? = some (.cells #[.int .i64 0, .int .i64 0, .int .i64 0, .string ⟨#[]⟩, .slice none 0 0, .slice none 0 0, .slice none 0 0] 34 (0, 0))) := fun W f => by
    refine f.blk ?_ (fun f => f)
    have := heap_alloc_new (w.alloc (.cells #[.int .i64 n.lev, .int .i64 n.lsn, .int .i64 n.rgt, .string n.high, .slice p.k n.keys.length p.kc, .slice p.v n.vals.length p.vc, .slice p.i n.kids.length p.ic] 34)) (.cells #[.int .i64 0, .int .i64 0, .int .i64 0, .string ⟨#[]⟩, .slice none 0 0, .slice none 0 0, .slice none 0 0] 34)
    rw [show (w.alloc (.cells #[.int .i64 n.lev, .int .i64 n.lsn, .int .i64 n.rgt, .string n.high, .slice p.k n.keys.length p.kc, .slice p.v n.vals.length p.vc, .slice p.i n.kids.length p.ic] 34)).heap.size = w.heap.size + 1 by simp] at this
    exact this
  have hh := high_le h
  have ha := asked_any n p k ⟨#[]⟩ 1 0 1 (by omega) hh hk _ (h.same f0)
  rw [show ((evalu (ByteArray.mk #[]).size : Nat) : Int) = 0 from rfl, show nuE 1 = 0 from rfl] at ha
  have HOK : Hid (askE n k 0 0 1 = 0 → Rt n ∧ n.lev = 0) := fun h => ⟨(ask_ok h).1, ask1_leaf h⟩
  generalize askE n k 0 0 1 = ae at *
  go_enter Tryz.func55, Tryz.ntmps55
  go_wp2_with fail
  refine ha.mono ?_
  rintro e w1 ⟨rfl, f1⟩
  clear ha
  obtain ⟨c0, c1, c2, c3, c4, c5, c6⟩ := HB.out _ f1
  by_cases hae : ae = 0
  · subst hae
    obtain ⟨hr, hlev⟩ := HOK.out rfl
    have HR : Hid (Rt n ∧ n.lev = 0) := ⟨hr, hlev⟩
    have HS : Hid (srt n.keys) := hr.srt
    have HVL : Hid (n.vals.length = n.keys.length) := (hr.leaf hlev).1
    have hfew := keys_few hr
    have hkl := h.keys.le
    have hkm := h.keys.max
    clear hr hlev HOK
    go_wp2_with fail
    refine (bare_any n p _).mono ?_
    rintro e w2 ⟨rfl, f2⟩
    clear c0 c1 c2 c3 c4 c5 c6
    have F2 := f1.seq' f2
    have hrb2 : w.heap.size + 1 < w2.heap.size := by have := F2.size; simp at this; omega
    have B0 : Bx w2 (w2.alloc (.cells #[.int .i64 n.lev, .int .i64 n.lsn, .int .i64 n.rgt, .string n.high, .slice none 0 0, .slice none 0 0, .slice none 0 0] 34)) w2.heap.size (delTo n k 0) (.slice none 0 0) (.slice none 0 0) (.slice none 0 0) := Bx.start w2 (delTo n k 0) (erTo_zero _ _ _) (erTo_zero _ _ _) rfl
    obtain ⟨c0, c1, c2, c3, c4, c5, c6⟩ := HB.out _ (F2.seq' B0.fr)
    go_wp2
    go_loopw [22] (fun i wr => ∃ (j : Nat) (m : Nd) (kv vv iv : Value), j ≤ n.keys.length ∧ i = .int .i64 j ∧ Bx w2 wr w2.heap.size m kv vv iv ∧ Hid (m = delTo n k j)) (fun i _ => n.keys.length - (intOf i).toNat)
    case atStart => exact ⟨0, _, _, _, _, by omega, rfl, B0, rfl⟩
    case round =>
      obtain ⟨j, m, kv, vv, iv, hj, rfl, B, HM⟩ := hrel
      clear B0 c0 c1 c2 c3 c4 c5 c6
      have F := F2.seq' B.fr
      have hN := h.same (f0.seq' F)
      obtain ⟨c0, c1, c2, c3, c4, c5, c6⟩ := HB.out _ F
      obtain ⟨⟨k0, k1, k2, k3, k4, k5, k6⟩, fz⟩ := node_cells B.box
      by_cases hlt : j < n.keys.length
      · obtain ⟨bk, ok, ek, hbk, hck⟩ := strs_some hN.keys hlt
        have hkc := hck j hlt
        have hvi : j < n.vals.length := by have := HVL.out; omega
        have hji : (j : Int) < (n.keys.length : Int) := by omega
        have hjv : (j : Int) < (n.vals.length : Int) := by omega
        have HSB := str_beq (n.keys.getD j ByteArray.empty) k
        have HML : Hid (m.keys.length ≤ 100000 ∧ m.vals.length ≤ 100000) := by
          rw [HM.out]
          exact ⟨Nat.le_trans (erTo_len _ _ _ _) (by omega), Nat.le_trans (erTo_len _ _ _ _) (by omega)⟩
        by_cases hke : bsOf (n.keys.getD j ByteArray.empty) = bsOf k
        · have HM2 : Hid (m = delTo n k (j + 1)) := by show _ = _; rw [delTo_hit HS.out hlt hvi hke]; exact HM.out
          rw [decide_eq_true hke] at HSB
          obtain ⟨y, hy⟩ : ∃ y, y = n.keys.getD j ByteArray.empty := ⟨_, rfl⟩
          rw [← hy] at hkc HSB
          clear hy hck hke
          rw [ek]
          go_wp2
          go_roundw
          case rel => exact ⟨j + 1, m, kv, vv, iv, by omega, by go_num, B, HM2⟩
          case measure => simp [intOf]; omega
        · have HM2 : Hid (delTo n k (j + 1) = { m with keys := m.keys ++ [n.keys.getD j ByteArray.empty], vals := m.vals ++ [n.vals.getD j ByteArray.empty] }) := by show _ = _; rw [delTo_miss HS.out hlt hvi hke, HM.out]
          rw [decide_eq_false hke] at HSB
          obtain ⟨y, hy⟩ : ∃ y, y = n.keys.getD j ByteArray.empty := ⟨_, rfl⟩
          obtain ⟨v, hv⟩ : ∃ v, v = n.vals.getD j ByteArray.empty := ⟨_, rfl⟩
          rw [← hy] at hkc HSB HM2
          rw [← hv] at HM2
          have HV : Hid (v = n.vals.getD j ByteArray.empty) := hv
          clear hy hv hck hke
          obtain ⟨a7, c7, w7, hap, q7, z7, B7⟩ := B.key y HML.out.1
          rw [ek]
          go_wp2_with (at_builtin; refine wpList_append_run rfl _ _ 31 31 rfl (by rfl) (by rfl) hap ?_)
          obtain ⟨W8, hW8⟩ : ∃ W, W = w7.setCell ⟨w2.heap.size, 4, none⟩ (.slice a7 (m.keys.length + 1) c7) := ⟨_, rfl⟩
          rw [← hW8] at B7 ⊢
          clear hW8 hap q7 z7 k0 k1 k2 k3 k4 k5 k6 fz c0 c1 c2 c3 c4 c5 c6 hkc hbk
          have F8 := F2.seq' B7.fr
          have hN8 := h.same (f0.seq' F8)
          obtain ⟨bw, ow, ew, hbw, hcw⟩ := strs_some hN8.vals hvi
          have hvc := hcw j hvi
          obtain ⟨d0, d1, d2, d3, d4, d5, d6⟩ := HB.out _ F8
          rw [ew] at d5
          rw [← HV.out] at hvc
          obtain ⟨⟨k0, k1, k2, k3, k4, k5, k6⟩, fz⟩ := node_cells B7.box
          obtain ⟨⟨p0, p1, p2, p3, p4, p5, p6⟩, pz⟩ := node_cells (B7.same (Fr.box W8 (.cells #[.string v] 9))).box
          obtain ⟨a9, c9, w9, hap, q9, z9, B9⟩ := (B7.same (Fr.refl (fun _ => False) W8).drew).val v HML.out.2
          clear hcw
          go_region_law
            (show (if Region.wanted { dst := _, op := .call { callee := .builtin .append, args := _, argTypes := _ }, type := _, pos := _, after := _, guard := _ } _ = true then _ else _); refine step_of (by rfl) (wp_append_run (.tmp 37) (.tmp 43) 31 31 (by rfl) (by rfl) (by rfl) hap ?_))
          all_goals
            obtain ⟨W10, hW10⟩ : ∃ W, W = w9.setCell ⟨w2.heap.size, 5, none⟩ (.slice a9 (m.vals.length + 1) c9) := ⟨_, rfl⟩
            rw [← hW10] at B9 ⊢
            clear hW10 hap q9 z9 k0 k1 k2 k3 k4 k5 k6 fz p0 p1 p2 p3 p4 p5 p6 pz d0 d1 d2 d3 d4 d5 d6 hvc hbw
            go_wp2
            go_roundw
            case rel => exact ⟨_, _, .int .i64 ((j : Int) + 1), ⟨j + 1, by omega, by go_num, _, ⟨_, _, _, B9⟩, HM2.out.symm⟩, rfl, rfl, rfl⟩
            case measure => simp [intOf]; omega
      · have HD : Hid (m = delN n k) := by
          show _ = _
          rw [HM.out, show j = n.keys.length by omega]; rfl
        obtain ⟨⟨s0, s1, s2, s3, s4, s5, s6⟩, sz⟩ := node_cells (HRB.out _ F)
        have y0 := sz 0; have y1 := sz 1; have y2 := sz 2; have y3 := sz 3; have y4 := sz 4; have y5 := sz 5; have y6 := sz 6
        obtain ⟨pf, ⟨e1, e2, e3⟩, hq, nd, ff, hnw⟩ := B.done (w1 := w) (rb := w.heap.size + 1) (by rw [HM.out]; exact delTo_short HR.out.1 HR.out.2) (by rw [HM.out]; exact Nat.le_trans (erTo_len _ _ _ _) (by omega)) (by rw [HM.out]; exact Nat.le_trans (erTo_len _ _ _ _) (by omega)) (by rw [HM.out]; exact Nat.zero_le _) (HRB.out _ F) (by omega) hrb2 (f0.seq' F2)
        subst e1; subst e2; subst e3
        clear sz
        go_wp2
        generalize ((((((wr.setCell ⟨w.heap.size + 1, 0, none⟩ (.int .i64 m.lev)).setCell ⟨w.heap.size + 1, 1, none⟩ (.int .i64 m.lsn)).setCell ⟨w.heap.size + 1, 2, none⟩ (.int .i64 m.rgt)).setCell ⟨w.heap.size + 1, 3, none⟩ (.string m.high)).setCell ⟨w.heap.size + 1, 4, none⟩ (.slice pf.k m.keys.length pf.kc)).setCell ⟨w.heap.size + 1, 5, none⟩ (.slice pf.v m.vals.length pf.vc)).setCell ⟨w.heap.size + 1, 6, none⟩ (.slice pf.i m.kids.length pf.ic) = Wf at hq nd ff ⊢
        obtain ⟨⟨q0, q1, q2, q3, q4, q5, q6⟩, _⟩ := node_cells hq
        rw [okN_ok, ← HD.out]
        exact bodyPost_ret (v := .tuple #[(.agg #[.int .i64 m.lev, .int .i64 m.lsn, .int .i64 m.rgt, .string m.high, .slice pf.k m.keys.length pf.kc, .slice pf.v m.vals.length pf.vc, .slice pf.i m.kids.length pf.ic]), .int .i64 0]) (by simp [results, Tryz.results55, go_sem, q0, q1, q2, q3, q4, q5, q6]) rfl ⟨pf, rfl, nd, ff, hnw⟩
  · have hne : (ae != 0) = true := by simpa using hae
    have HP0 : Hid (ae ≠ 0) := hae
    have hR6 := HRB.out _ f1
    obtain ⟨⟨s0, s1, s2, s3, s4, s5, s6⟩, sz⟩ := node_cells hR6
    have y0 := sz 0; have y1 := sz 1; have y2 := sz 2; have y3 := sz 3; have y4 := sz 4; have y5 := sz 5; have y6 := sz 6
    clear hae sz
    go_wp2
    obtain ⟨hq, ff⟩ := fin7 hR6 (.int .i64 0) (.int .i64 0) (.int .i64 0) (.string ⟨#[]⟩) (.slice none 0 0) (.slice none 0 0) (.slice none 0 0)
    have fff := (f0.seq' f1).trans ff (S := fun _ => False) (fun i hi e => by omega)
    generalize ((((((w1.setCell ⟨w.heap.size + 1, 0, none⟩ (.int .i64 0)).setCell ⟨w.heap.size + 1, 1, none⟩ (.int .i64 0)).setCell ⟨w.heap.size + 1, 2, none⟩ (.int .i64 0)).setCell ⟨w.heap.size + 1, 3, none⟩ (.string ⟨#[]⟩)).setCell ⟨w.heap.size + 1, 4, none⟩ (.slice none 0 0)).setCell ⟨w.heap.size + 1, 5, none⟩ (.slice none 0 0)).setCell ⟨w.heap.size + 1, 6, none⟩ (.slice none 0 0) = Wf at hq fff ⊢
    obtain ⟨⟨q0, q1, q2, q3, q4, q5, q6⟩, _⟩ := node_cells hq
    rw [okN_no HP0.out]
    exact bodyPost_ret (v := .tuple #[.agg #[.int .i64 0, .int .i64 0, .int .i64 0, .string ⟨#[]⟩, .slice none 0 0, .slice none 0 0, .slice none 0 0], .int .i64 ae]) (by simp [results, Tryz.results55, go_sem, q0, q1, q2, q3, q4, q5, q6]) rfl ⟨zp, rfl, zn_nod _, fff, zp_nw _⟩
end Go.Proofs.YtlgceleelhppdaaGreat

/- What Del makes. -/
namespace Go.Proofs.YtlgceleelhppdaaGreat
open Go.RowKit

/-- The node is stored in its own box, with lists of its own. -/
theorem By.start {w w4 wc : World} {n : Nd} {kv vv iv r0 r1 r2 r3 r4 r5 r6 : Value} (hb : wc.heap[w.heap.size]? = some (.cells #[r0, r1, r2, r3, r4, r5, r6] 34 (0, 0))) (f : Fr (fun _ => False) w wc) (h4 : w.heap.size + 2 ≤ w4.heap.size)
    (hK : Has wc 1 kv n.keys.length (strCells n.keys)) (hV : Has wc 1 vv n.vals.length (strCells n.vals)) (hI : Has wc 1 iv n.kids.length (intCells n.kids))
    (oK : ∀ g, kv.ownBlock = some g → w4.heap.size ≤ g) (oV : ∀ g, vv.ownBlock = some g → w4.heap.size ≤ g) (oI : ∀ g, iv.ownBlock = some g → w4.heap.size ≤ g)
    (nkv : ∀ g, kv.ownBlock = some g → vv.ownBlock ≠ some g) (nki : ∀ g, kv.ownBlock = some g → iv.ownBlock ≠ some g) (nvi : ∀ g, vv.ownBlock = some g → iv.ownBlock ≠ some g) :
    By w (((((((wc.setCell ⟨w.heap.size, 0, none⟩ (.int .i64 n.lev)).setCell ⟨w.heap.size, 1, none⟩ (.int .i64 n.lsn)).setCell ⟨w.heap.size, 2, none⟩ (.int .i64 n.rgt)).setCell ⟨w.heap.size, 3, none⟩ (.string n.high)).setCell ⟨w.heap.size, 4, none⟩ kv).setCell ⟨w.heap.size, 5, none⟩ vv).setCell ⟨w.heap.size, 6, none⟩ iv) w.heap.size n kv vv iv ∧
    Fr (fun k => k = w.heap.size) wc (((((((wc.setCell ⟨w.heap.size, 0, none⟩ (.int .i64 n.lev)).setCell ⟨w.heap.size, 1, none⟩ (.int .i64 n.lsn)).setCell ⟨w.heap.size, 2, none⟩ (.int .i64 n.rgt)).setCell ⟨w.heap.size, 3, none⟩ (.string n.high)).setCell ⟨w.heap.size, 4, none⟩ kv).setCell ⟨w.heap.size, 5, none⟩ vv).setCell ⟨w.heap.size, 6, none⟩ iv) := by
  obtain ⟨hq, ff⟩ := fin7 hb (.int .i64 n.lev) (.int .i64 n.lsn) (.int .i64 n.rgt) (.string n.high) kv vv iv
  exact ⟨⟨⟨hq, Nat.le_refl _, hK.fr ff (fun g e e2 => by have := oK g e; omega), hV.fr ff (fun g e e2 => by have := oV g e; omega), hI.fr ff (fun g e e2 => by have := oI g e; omega), (fun g e => by have := oK g e; omega), (fun g e => by have := oV g e; omega), (fun g e => by have := oI g e; omega), nkv, nki, nvi, f.trans ff (S := fun _ => False) (fun i hi e => by omega)⟩, (fun g e => by have := oK g e; omega), (fun g e => by have := oV g e; omega), (fun g e => by have := oI g e; omega)⟩, ff⟩
theorem rt_short {n : Nd} (r : Rt n) (h0 : n.lev = 0) : Short n :=
  ⟨by have := r.high; omega, fun s hs => Nat.le_trans (size_of_mem (fun i hi => (r.keys i hi).1.2) s hs) (by omega), fun s hs => Nat.le_trans (size_of_mem (r.leaf h0).2.2 s hs) (by omega)⟩
theorem erTo_false {α : Type} (i j : Nat) (l : List α) (h : l.length ≤ j) : erTo false i j l = l := by unfold erTo; rw [if_neg (by simp), List.take_of_length_le h]
theorem erTo_true {α : Type} (i j : Nat) (l : List α) (h : l.length ≤ j) (hi : i < l.length) : erTo true i j l = l.eraseIdx i := by unfold erTo; rw [if_pos ⟨rfl, by omega⟩, List.take_of_length_le h]
theorem delN_none {n : Nd} {k : ByteArray} (r : Rt n) (h0 : n.lev = 0) (hf : (plc (bsOf k) n.keys).2 = false) : delN n k = n := by
  have hi : n.kids = [] := List.eq_nil_of_length_eq_zero (r.leaf h0).2.1
  unfold delN delTo
  rw [hf, erTo_false _ _ _ (Nat.le_refl _), erTo_false _ _ _ (by have := (r.leaf h0).1; omega), ← hi]
theorem delN_some {n : Nd} {k : ByteArray} {i : Nat} (r : Rt n) (h0 : n.lev = 0) (hi : i < n.keys.length) (hf : plc (bsOf k) n.keys = (i, true)) : delN n k = { n with keys := n.keys.eraseIdx i, vals := n.vals.eraseIdx i } := by
  have hi0 : n.kids = [] := List.eq_nil_of_length_eq_zero (r.leaf h0).2.1
  have hvl := (r.leaf h0).1
  unfold delN delTo
  rw [hf, erTo_true _ _ _ (Nat.le_refl _) hi, erTo_true _ _ _ (by omega) (by omega), ← hi0]
set_option maxRecDepth 100000 in
set_option maxHeartbeats 4000000 in
theorem del_any (n : Nd) (p : Pt) (k : ByteArray) (hk : k.size ≤ maxLen) (w : World) (h : Nod w n p) : Calls Tryz.prog 61 #[(.agg #[.int .i64 n.lev, .int .i64 n.lsn, .int .i64 n.rgt, .string n.high, .slice p.k n.keys.length p.kc, .slice p.v n.vals.length p.vc, .slice p.i n.kids.length p.ic]), .string k] w fun e w' => NdOut2 (okN (askE n k 0 0 1) (delN n k)) (askE n k 0 0 1) w e w' := by
  have f0 : Fr (fun _ => False) w ((w.alloc (.cells #[.int .i64 n.lev, .int .i64 n.lsn, .int .i64 n.rgt, .string n.high, .slice p.k n.keys.length p.kc, .slice p.v n.vals.length p.vc, .slice p.i n.kids.length p.ic] 34)).alloc (.cells #[.int .i64 0, .int .i64 0, .int .i64 0, .string ⟨#[]⟩, .slice none 0 0, .slice none 0 0, .slice none 0 0] 34)) := ((Fr.refl _ _).alloc _).alloc _
  have HB : Hid (∀ W, Fr (fun _ => False) ((w.alloc (.cells #[.int .i64 n.lev, .int .i64 n.lsn, .int .i64 n.rgt, .string n.high, .slice p.k n.keys.length p.kc, .slice p.v n.vals.length p.vc, .slice p.i n.kids.length p.ic] 34)).alloc (.cells #[.int .i64 0, .int .i64 0, .int .i64 0, .string ⟨#[]⟩, .slice none 0 0, .slice none 0 0, .slice none 0 0] 34)) W → W.cell? ⟨w.heap.size, 0, none⟩ = some (.int .i64 n.lev) ∧ W.cell? ⟨w.heap.size, 1, none⟩ = some (.int .i64 n.lsn) ∧ W.cell? ⟨w.heap.size, 2, none⟩ = some (.int .i64 n.rgt) ∧ W.cell? ⟨w.heap.size, 3, none⟩ = some (.string n.high) ∧ W.cell? ⟨w.heap.size, 4, none⟩ = some (.slice p.k n.keys.length p.kc) ∧ W.cell? ⟨w.heap.size, 5, none⟩ = some (.slice p.v n.vals.length p.vc) ∧ W.cell? ⟨w.heap.size, 6, none⟩ = some (.slice p.i n.kids.length p.ic)) := fun W f => box_cells (box_at w n p 34 (((Fr.refl _ _).alloc _).seq' f))
  have HBB : Hid (∀ W, Fr (fun _ => False) ((w.alloc (.cells #[.int .i64 n.lev, .int .i64 n.lsn, .int .i64 n.rgt, .string n.high, .slice p.k n.keys.length p.kc, .slice p.v n.vals.length p.vc, .slice p.i n.kids.length p.ic] 34)).alloc (.cells #[.int .i64 0, .int .i64 0, .int .i64 0, .string ⟨#[]⟩, .slice none 0 0, .slice none 0 0, .slice none 0 0] 34)) W → W.heap[w.heap.size]? = some (.cells #[.int .i64 n.lev, .int .i64 n.lsn, .int .i64 n.rgt, .string n.high, .slice p.k n.keys.length p.kc, .slice p.v n.vals.length p.vc, .slice p.i n.kids.length p.ic] 34 (0, 0))) := fun W f => box_at w n p 34 (((Fr.refl _ _).alloc _).seq' f)
  have HRB : Hid (∀ W, Fr (fun _ => False) ((w.alloc (.cells #[.int .i64 n.lev, .int .i64 n.lsn, .int .i64 n.rgt, .string n.high, .slice p.k n.keys.length p.kc, .slice p.v n.vals.length p.vc, .slice p.i n.kids.length p.ic] 34)).alloc (.cells #[.int .i64 0, .int .i64 0, .int .i64 0, .string ⟨#[]⟩, .slice none 0 0, .slice none 0 0, .slice none 0 0] 34)) W → W.heap[w.heap.size + 1]? = some (.cells #[.int .i64 0, .int .i64 0, .int .i64 0, .string ⟨#[]⟩, .slice none 0 0, .slice none 0 0, .slice none 0 0] 34 (0, 0))) := fun W f => by
    refine f.blk ?_ (fun f => f)
    have := heap_alloc_new (w.alloc (.cells #[.int .i64 n.lev, .int .i64 n.lsn, .int .i64 n.rgt, .string n.high, .slice p.k n.keys.length p.kc, .slice p.v n.vals.length p.vc, .slice p.i n.kids.length p.ic] 34)) (.cells #[.int .i64 0, .int .i64 0, .int .i64 0, .string ⟨#[]⟩, .slice none 0 0, .slice none 0 0, .slice none 0 0] 34)
    rw [show (w.alloc (.cells #[.int .i64 n.lev, .int .i64 n.lsn, .int .i64 n.rgt, .string n.high, .slice p.k n.keys.length p.kc, .slice p.v n.vals.length p.vc, .slice p.i n.kids.length p.ic] 34)).heap.size = w.heap.size + 1 by simp] at this
    exact this
  have hh := high_le h
  have fr0 := (Fr.refl (fun _ => False) ((w.alloc (.cells #[.int .i64 n.lev, .int .i64 n.lsn, .int .i64 n.rgt, .string n.high, .slice p.k n.keys.length p.kc, .slice p.v n.vals.length p.vc, .slice p.i n.kids.length p.ic] 34)).alloc (.cells #[.int .i64 0, .int .i64 0, .int .i64 0, .string ⟨#[]⟩, .slice none 0 0, .slice none 0 0, .slice none 0 0] 34))).drew
  have q0 := HB.out _ fr0
  have hN := h.same (f0.seq' fr0)
  have HA : Hid (firstE [rgE n, ekey k.size, suE n k 1] = askE n k 0 0 1) := ask_3 n k 1
  have HOK : Hid (askE n k 0 0 1 = 0 → Rt n ∧ n.lev = 0) := fun h => ⟨(ask_ok h).1, ask1_leaf h⟩
  generalize askE n k 0 0 1 = ae at *
  go_enter Tryz.func61, Tryz.ntmps61
  go_wp2_with fail
  go_region_held3 (fun W => W.cell? ⟨w.heap.size, 0, none⟩ = some (.int .i64 n.lev) ∧ W.cell? ⟨w.heap.size, 1, none⟩ = some (.int .i64 n.lsn) ∧ W.cell? ⟨w.heap.size, 2, none⟩ = some (.int .i64 n.rgt) ∧ W.cell? ⟨w.heap.size, 3, none⟩ = some (.string n.high) ∧ W.cell? ⟨w.heap.size, 4, none⟩ = some (.slice p.k n.keys.length p.kc) ∧ W.cell? ⟨w.heap.size, 5, none⟩ = some (.slice p.v n.vals.length p.vc) ∧ W.cell? ⟨w.heap.size, 6, none⟩ = some (.slice p.i n.kids.length p.ic))
    (first | with_reducible exact q0 | with_reducible exact q1 | with_reducible exact q3 | with_reducible exact q4)
    (first
      | (go_at_call 87; refine (checkNode_any n p _ hN).mono ?_; rintro e w1 ⟨rfl, m1⟩; have fr1 := fr0.seq' m1; have q1 := HB.out _ fr1)
      | (go_at_call 66; refine (kcheck_any k _).mono ?_; rintro e w2 ⟨rfl, rfl⟩)
      | (go_at_call 89; refine (suits_any n p k 1 (by omega) hh hk _).mono ?_; rintro e w3 ⟨rfl, m3⟩; have fr3 := fr1.seq' m3; have q3 := HB.out _ fr3; have fr4 := fr3.alloc (.cells #[.int .i64 (rgE n), .int .i64 (ekey k.size : Nat), .int .i64 (suE n k 1)] 24); have q4 := HB.out _ fr4)
      | (go_at_call 86; refine (first3 (rgE n) (ekey k.size : Nat) (suE n k 1) w3).mono ?_; rw [HA.out]; rintro e w5 ⟨rfl, rfl⟩))
  have hN4 := h.same (f0.seq' fr4)
  have F4 := f0.seq' fr4
  obtain ⟨c0, c1, c2, c3, c4, c5, c6⟩ := q4
  generalize w3.alloc (.cells #[.int .i64 (rgE n), .int .i64 (ekey k.size : Nat), .int .i64 (suE n k 1)] 24) = w4 at *
  clear q0 q1 q3
  by_cases hae : ae = 0
  · subst hae
    obtain ⟨r, hlev⟩ := HOK.out rfl
    have hfew := keys_few r
    have HR : Hid (Rt n ∧ n.lev = 0) := ⟨r, hlev⟩
    have HVL : Hid (n.vals.length = n.keys.length) := (r.leaf hlev).1
    have HSH : Hid (Short n) := rt_short r hlev
    have HLN : Hid (n.keys.length ≤ 100000 ∧ n.vals.length ≤ 100000 ∧ n.kids.length ≤ 100000) := ⟨by omega, by rw [(r.leaf hlev).1]; omega, by rw [(r.leaf hlev).2.1]; omega⟩
    have hcp := copied_any n p HLN.out.1 HLN.out.2.1 HLN.out.2.2 _ hN4
    have h42 : w.heap.size + 2 ≤ w4.heap.size := by have := fr4.size; simp at this; omega
    have hpl := plc_pl (k := bsOf k) r.srt
    clear r hlev HOK HA
    go_wp2_with fail
    refine hcp.mono ?_
    rintro e wc ⟨ak, ck, av, cv, ai, ci, rfl, hK, hV, hI, oK, oV, oI, nkv, nki, nvi, fc⟩
    clear c0 c1 c2 c3 c4 c5 c6
    have frc := fr4.seq' fc
    have hbc := HBB.out _ frc
    have hRc := HRB.out _ frc
    obtain ⟨Y, fY⟩ := By.start hbc (f0.seq' frc) h42 hK hV hI oK oV oI nkv nki nvi
    have hRY := fY.blk hRc (by omega)
    have hszY : w.heap.size + 1 < wc.heap.size := by have := fc.size; omega
    obtain ⟨⟨c0, c1, c2, c3, c4, c5, c6⟩, cz⟩ := node_cells hbc
    have y0 := cz 0; have y1 := cz 1; have y2 := cz 2; have y3 := cz 3; have y4 := cz 4; have y5 := cz 5; have y6 := cz 6
    have hszY2 := fY.size
    obtain ⟨WY, hWY⟩ : ∃ W, W = ((((((wc.setCell ⟨w.heap.size, 0, none⟩ (.int .i64 n.lev)).setCell ⟨w.heap.size, 1, none⟩ (.int .i64 n.lsn)).setCell ⟨w.heap.size, 2, none⟩ (.int .i64 n.rgt)).setCell ⟨w.heap.size, 3, none⟩ (.string n.high)).setCell ⟨w.heap.size, 4, none⟩ (.slice ak n.keys.length ck)).setCell ⟨w.heap.size, 5, none⟩ (.slice av n.vals.length cv)).setCell ⟨w.heap.size, 6, none⟩ (.slice ai n.kids.length ci) := ⟨_, rfl⟩
    rw [← hWY] at Y hRY hszY2
    have HWY : Hid (WY = ((((((wc.setCell ⟨w.heap.size, 0, none⟩ (.int .i64 n.lev)).setCell ⟨w.heap.size, 1, none⟩ (.int .i64 n.lsn)).setCell ⟨w.heap.size, 2, none⟩ (.int .i64 n.rgt)).setCell ⟨w.heap.size, 3, none⟩ (.string n.high)).setCell ⟨w.heap.size, 4, none⟩ (.slice ak n.keys.length ck)).setCell ⟨w.heap.size, 5, none⟩ (.slice av n.vals.length cv)).setCell ⟨w.heap.size, 6, none⟩ (.slice ai n.kids.length ci)) := hWY
    have hpc := place_any ak n.keys.length ck n.keys rfl k hk WY (CpS.strs Y.keys HSH.out.keys)
    clear hWY cz fY
    go_wp2_with fail
    rw [← HWY.out]
    obtain ⟨pi, pf, hpe⟩ : ∃ pi pf, plc (bsOf k) n.keys = (pi, pf) := ⟨_, _, rfl⟩
    have HPE : Hid (plc (bsOf k) n.keys = (pi, pf)) := hpe
    rw [hpe] at hpl hpc
    simp only at hpl hpc
    refine hpc.mono ?_
    rintro e w6 ⟨rfl, f6⟩
    have Y6 := Y.same f6
    have hR6 := f6.blk hRY (fun f => f)
    have hs6 : w.heap.size + 1 < w6.heap.size := by have := f6.size; omega
    clear c0 c1 c2 c3 c4 c5 c6 y0 y1 y2 y3 y4 y5 y6 hpc hpe hbc hRc hRY Y hK hV hI oK oV oI nkv nki nvi HWY
    obtain ⟨⟨d0, d1, d2, d3, d4, d5, d6⟩, _⟩ := node_cells Y6.box
    cases pf
    · have HD : Hid (delN n k = n) := delN_none HR.out.1 HR.out.2 (by rw [HPE.out])
      obtain ⟨⟨s0, s1, s2, s3, s4, s5, s6⟩, sz⟩ := node_cells hR6
      have y0 := sz 0; have y1 := sz 1; have y2 := sz 2; have y3 := sz 3; have y4 := sz 4; have y5 := sz 5; have y6 := sz 6
      obtain ⟨pf, ⟨e1, e2, e3⟩, hq, nd, ff, hnw⟩ := Y6.done HSH.out HLN.out.1 HLN.out.2.1 HLN.out.2.2 hR6
      simp only [Value.slice.injEq, true_and] at e1 e2 e3
      obtain ⟨rfl, rfl⟩ := e1
      obtain ⟨rfl, rfl⟩ := e2
      obtain ⟨rfl, rfl⟩ := e3
      clear sz
      go_wp2
      generalize ((((((w6.setCell ⟨w.heap.size + 1, 0, none⟩ (.int .i64 n.lev)).setCell ⟨w.heap.size + 1, 1, none⟩ (.int .i64 n.lsn)).setCell ⟨w.heap.size + 1, 2, none⟩ (.int .i64 n.rgt)).setCell ⟨w.heap.size + 1, 3, none⟩ (.string n.high)).setCell ⟨w.heap.size + 1, 4, none⟩ (.slice pf.k n.keys.length pf.kc)).setCell ⟨w.heap.size + 1, 5, none⟩ (.slice pf.v n.vals.length pf.vc)).setCell ⟨w.heap.size + 1, 6, none⟩ (.slice pf.i n.kids.length pf.ic) = Wf at hq nd ff ⊢
      obtain ⟨⟨q0, q1, q2, q3, q4, q5, q6⟩, _⟩ := node_cells hq
      rw [okN_ok, HD.out]
      exact bodyPost_ret (v := .tuple #[(.agg #[.int .i64 n.lev, .int .i64 n.lsn, .int .i64 n.rgt, .string n.high, .slice pf.k n.keys.length pf.kc, .slice pf.v n.vals.length pf.vc, .slice pf.i n.kids.length pf.ic]), .int .i64 0]) (by simp [results, Tryz.results61, go_sem, q0, q1, q2, q3, q4, q5, q6]) rfl ⟨pf, rfl, nd, ff, hnw⟩
    · have hpi := (hpl.eq rfl).1
      have HD : Hid (delN n k = { n with keys := n.keys.eraseIdx pi, vals := n.vals.eraseIdx pi }) := delN_some HR.out.1 HR.out.2 hpi HPE.out
      have hpv : pi < n.vals.length := by rw [HVL.out]; exact hpi
      have HLE : Hid ((n.keys.eraseIdx pi).length = n.keys.length - 1) := by show _ = _; rw [List.length_eraseIdx, if_pos hpi]
      have HLV : Hid ((n.vals.eraseIdx pi).length = n.vals.length - 1) := by show _ = _; rw [List.length_eraseIdx, if_pos hpv]
      have HSE : Hid (Short { n with keys := n.keys.eraseIdx pi, vals := n.vals.eraseIdx pi }) := ⟨HSH.out.high, fun s hs => HSH.out.keys s (List.mem_of_mem_eraseIdx hs), fun s hs => HSH.out.vals s (List.mem_of_mem_eraseIdx hs)⟩
      have hdl := delete_s _ n.keys pi w6 Y6.keys hpi
      rw [show (((pi + 1 : Nat)) : Int) = (pi : Int) + 1 by omega] at hdl
      have hpb : (pi : Int) + 1 ≤ 100000 := by omega
      clear hpl
      go_wp2_with fail
      refine hdl.mono ?_
      rintro e w7 ⟨a7, c7, rfl, h7, f7, o7⟩
      rw [← HLE.out] at h7 o7 ⊢
      obtain ⟨hb7, Y7⟩ := Y6.newk hs6 h7 f7 o7
      have hR7 := f7.blk hR6 (fun e => by have := Y6.ok2 _ e; omega)
      have hR8 := ((Fr.refl (fun k => k = w.heap.size) w7).setCell (p := ⟨w.heap.size, 4, none⟩) (fun _ => rfl) (.slice a7 (n.keys.eraseIdx pi).length c7)).blk hR7 (by omega)
      have hs7 : w.heap.size + 1 < w7.heap.size := by have := f7.size; omega
      have hs8 : w.heap.size + 1 < (w7.setCell ⟨w.heap.size, 4, none⟩ (.slice a7 (n.keys.eraseIdx pi).length c7)).heap.size := by simpa [World.setCell] using hs7
      clear d0 d1 d2 d3 d4 d5 d6
      obtain ⟨⟨d0, d1, d2, d3, d4, d5, d6⟩, dz⟩ := node_cells hb7
      have z4 := dz 4
      obtain ⟨W8, hW8⟩ : ∃ W, W = w7.setCell ⟨w.heap.size, 4, none⟩ (.slice a7 (n.keys.eraseIdx pi).length c7) := ⟨_, rfl⟩
      have HW8 : Hid (W8 = w7.setCell ⟨w.heap.size, 4, none⟩ (.slice a7 (n.keys.eraseIdx pi).length c7)) := hW8
      rw [← hW8] at Y7 hR8 hs8
      have hdv := delete_s _ n.vals pi W8 Y7.vals hpv
      rw [show (((pi + 1 : Nat)) : Int) = (pi : Int) + 1 by omega] at hdv
      clear dz hW8 hdl
      go_wp2_with fail
      rw [← HW8.out]
      refine hdv.mono ?_
      rintro e w9 ⟨a9, c9, rfl, h9, f9, o9⟩
      rw [← HLV.out] at h9 o9 ⊢
      obtain ⟨hb9, Y9⟩ := Y7.newv hs8 h9 f9 o9
      have hR9 := f9.blk hR8 (fun e => by have := Y7.ov2 _ e; omega)
      have hRA := ((Fr.refl (fun k => k = w.heap.size) w9).setCell (p := ⟨w.heap.size, 5, none⟩) (fun _ => rfl) (.slice a9 (n.vals.eraseIdx pi).length c9)).blk hR9 (by omega)
      clear d0 d1 d2 d3 d4 d5 d6 z4
      obtain ⟨⟨d0, d1, d2, d3, d4, d5, d6⟩, dz⟩ := node_cells hb9
      have z5 := dz 5
      obtain ⟨⟨s0, s1, s2, s3, s4, s5, s6⟩, sz⟩ := node_cells hR9
      have y0 := sz 0; have y1 := sz 1; have y2 := sz 2; have y3 := sz 3; have y4 := sz 4; have y5 := sz 5; have y6 := sz 6
      obtain ⟨pf, ⟨e1, e2, e3⟩, hq, nd, ff, hnw⟩ := Y9.done HSE.out (by show (n.keys.eraseIdx pi).length ≤ _; rw [HLE.out]; have := HLN.out.1; omega) (by show (n.vals.eraseIdx pi).length ≤ _; rw [HLV.out]; have := HLN.out.2.1; omega) HLN.out.2.2 hRA
      simp only [Value.slice.injEq, true_and] at e1 e2 e3
      obtain ⟨rfl, rfl⟩ := e1
      obtain ⟨rfl, rfl⟩ := e2
      obtain ⟨rfl, rfl⟩ := e3
      clear sz dz hdv
      simp only at hq nd ff
      go_wp2
      generalize (((((((w9.setCell ⟨w.heap.size, 5, none⟩ (.slice pf.v (n.vals.eraseIdx pi).length pf.vc)).setCell ⟨w.heap.size + 1, 0, none⟩ (.int .i64 n.lev)).setCell ⟨w.heap.size + 1, 1, none⟩ (.int .i64 n.lsn)).setCell ⟨w.heap.size + 1, 2, none⟩ (.int .i64 n.rgt)).setCell ⟨w.heap.size + 1, 3, none⟩ (.string n.high)).setCell ⟨w.heap.size + 1, 4, none⟩ (.slice pf.k (n.keys.eraseIdx pi).length pf.kc)).setCell ⟨w.heap.size + 1, 5, none⟩ (.slice pf.v (n.vals.eraseIdx pi).length pf.vc)).setCell ⟨w.heap.size + 1, 6, none⟩ (.slice pf.i n.kids.length pf.ic) = Wf at hq nd ff ⊢
      obtain ⟨⟨q0, q1, q2, q3, q4, q5, q6⟩, _⟩ := node_cells hq
      rw [okN_ok, HD.out]
      exact bodyPost_ret (v := .tuple #[.agg #[.int .i64 n.lev, .int .i64 n.lsn, .int .i64 n.rgt, .string n.high, .slice pf.k (n.keys.eraseIdx pi).length pf.kc, .slice pf.v (n.vals.eraseIdx pi).length pf.vc, .slice pf.i n.kids.length pf.ic], .int .i64 0]) (by simp [results, Tryz.results61, go_sem, q0, q1, q2, q3, q4, q5, q6]) rfl ⟨pf, rfl, nd, ff, hnw⟩
  · have hne : (ae != 0) = true := by simpa using hae
    have HP0 : Hid (ae ≠ 0) := hae
    have hR6 := HRB.out _ fr4
    obtain ⟨⟨s0, s1, s2, s3, s4, s5, s6⟩, sz⟩ := node_cells hR6
    have y0 := sz 0; have y1 := sz 1; have y2 := sz 2; have y3 := sz 3; have y4 := sz 4; have y5 := sz 5; have y6 := sz 6
    clear hae sz
    go_wp2
    obtain ⟨hq, ff⟩ := fin7 hR6 (.int .i64 0) (.int .i64 0) (.int .i64 0) (.string ⟨#[]⟩) (.slice none 0 0) (.slice none 0 0) (.slice none 0 0)
    have fff := (f0.seq' fr4).trans ff (S := fun _ => False) (fun i hi e => by omega)
    generalize ((((((w4.setCell ⟨w.heap.size + 1, 0, none⟩ (.int .i64 0)).setCell ⟨w.heap.size + 1, 1, none⟩ (.int .i64 0)).setCell ⟨w.heap.size + 1, 2, none⟩ (.int .i64 0)).setCell ⟨w.heap.size + 1, 3, none⟩ (.string ⟨#[]⟩)).setCell ⟨w.heap.size + 1, 4, none⟩ (.slice none 0 0)).setCell ⟨w.heap.size + 1, 5, none⟩ (.slice none 0 0)).setCell ⟨w.heap.size + 1, 6, none⟩ (.slice none 0 0) = Wf at hq fff ⊢
    obtain ⟨⟨q0, q1, q2, q3, q4, q5, q6⟩, _⟩ := node_cells hq
    rw [okN_no HP0.out]
    exact bodyPost_ret (v := .tuple #[.agg #[.int .i64 0, .int .i64 0, .int .i64 0, .string ⟨#[]⟩, .slice none 0 0, .slice none 0 0, .slice none 0 0], .int .i64 ae]) (by simp [results, Tryz.results61, go_sem, q0, q1, q2, q3, q4, q5, q6]) rfl ⟨zp, rfl, zn_nod _, fff, zp_nw _⟩
end Go.Proofs.YtlgceleelhppdaaGreat
