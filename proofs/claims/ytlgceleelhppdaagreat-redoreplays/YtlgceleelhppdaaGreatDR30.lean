
/- NdRPut. -/
import Derived.Test.YtlgceleelhppdaaGreatDR26
import Derived.Deep.Cut
/- What the document's Put makes. -/
namespace Go.Proofs.YtlgceleelhppdaaGreat
open Go.RowKit

/-- The first j entries with a key's value. -/
def putTo (n : Nd) (k v : ByteArray) (j : Nat) : Nd := ⟨n.lev, n.lsn, n.rgt, n.high, insTo (plc (bsOf k) n.keys).2 (plc (bsOf k) n.keys).1 k j n.keys, insTo (plc (bsOf k) n.keys).2 (plc (bsOf k) n.keys).1 v j n.vals, []⟩
theorem putTo_more {n : Nd} {k v : ByteArray} {j pi : Nat} {pf : Bool} (hp : plc (bsOf k) n.keys = (pi, pf)) (hj : j < n.keys.length) (hv : j < n.vals.length) (h : j < pi ∨ pi < j) :
    putTo n k v (j + 1) = { putTo n k v j with keys := (putTo n k v j).keys ++ [n.keys.getD j ByteArray.empty], vals := (putTo n k v j).vals ++ [n.vals.getD j ByteArray.empty] } := by
  unfold putTo; rw [hp]
  rcases h with h | h
  · rw [insTo_before _ _ _ _ _ ByteArray.empty hj h, insTo_before _ _ _ _ _ ByteArray.empty hv h]
  · rw [insTo_behind _ _ _ _ _ ByteArray.empty hj h, insTo_behind _ _ _ _ _ ByteArray.empty hv h]
theorem putTo_at {n : Nd} {k v : ByteArray} {j : Nat} (hp : plc (bsOf k) n.keys = (j, true)) (hj : j < n.keys.length) (hv : j < n.vals.length) :
    putTo n k v (j + 1) = { putTo n k v j with keys := (putTo n k v j).keys ++ [k], vals := (putTo n k v j).vals ++ [v] } := by
  unfold putTo; rw [hp, insTo_at _ _ _ hj, insTo_at _ _ _ hv]
theorem putTo_at2 {n : Nd} {k v : ByteArray} {j : Nat} (hp : plc (bsOf k) n.keys = (j, false)) (hj : j < n.keys.length) (hv : j < n.vals.length) :
    putTo n k v (j + 1) = { putTo n k v j with keys := ((putTo n k v j).keys ++ [k]) ++ [n.keys.getD j ByteArray.empty], vals := ((putTo n k v j).vals ++ [v]) ++ [n.vals.getD j ByteArray.empty] } := by
  unfold putTo; rw [hp, insTo_at2 _ _ _ ByteArray.empty hj, insTo_at2 _ _ _ ByteArray.empty hv]
theorem putTo_all {n : Nd} {k v : ByteArray} {pi : Nat} {pf : Bool} (hp : plc (bsOf k) n.keys = (pi, pf)) (hi : pi < n.keys.length) (hv : n.vals.length = n.keys.length) : putTo n k v n.keys.length = putN n k v := by
  unfold putTo putN; rw [hp]
  show (⟨_, _, _, _, insTo pf pi k n.keys.length n.keys, insTo pf pi v n.keys.length n.vals, []⟩ : Nd) = ⟨_, _, _, _, insAll pf pi k n.keys, insAll pf pi v n.vals, []⟩
  rw [insTo_all _ _ _ _ hi, ← hv, insTo_all _ _ _ _ (by omega)]
theorem putTo_end {n : Nd} {k v : ByteArray} {pf : Bool} (hp : plc (bsOf k) n.keys = (n.keys.length, pf)) (hv : n.vals.length = n.keys.length) :
    putN n k v = { putTo n k v n.keys.length with keys := (putTo n k v n.keys.length).keys ++ [k], vals := (putTo n k v n.keys.length).vals ++ [v] } := by
  unfold putTo putN; rw [hp]
  show (⟨_, _, _, _, insAll pf n.keys.length k n.keys, insAll pf n.keys.length v n.vals, []⟩ : Nd) = ⟨_, _, _, _, insTo pf n.keys.length k n.keys.length n.keys ++ [k], insTo pf n.keys.length v n.keys.length n.vals ++ [v], []⟩
  rw [insTo_end, ← hv, insTo_end]
theorem putTo_short {n : Nd} {k v : ByteArray} {j : Nat} (r : Rt n) (h0 : n.lev = 0) (hk : k.size ≤ 16) (hv : v.size ≤ 32) : Short (putTo n k v j) :=
  ⟨by have := r.high; show n.high.size ≤ _; omega, fun s hs => by
    rcases insTo_mem _ _ _ _ _ s hs with e | e
    · rw [e]; omega
    · exact Nat.le_trans (size_of_mem (fun i hi => (r.keys i hi).1.2) s e) (by omega), fun s hs => by
    rcases insTo_mem _ _ _ _ _ s hs with e | e
    · rw [e]; omega
    · exact Nat.le_trans (size_of_mem (r.leaf h0).2.2 s e) (by omega)⟩
theorem putN_short {n : Nd} {k v : ByteArray} (r : Rt n) (h0 : n.lev = 0) (hk : k.size ≤ 16) (hv : v.size ≤ 32) : Short (putN n k v) :=
  ⟨by have := r.high; show n.high.size ≤ _; omega, fun s hs => by
    rcases insAll_mem _ _ _ _ s hs with e | e
    · rw [e]; omega
    · exact Nat.le_trans (size_of_mem (fun i hi => (r.keys i hi).1.2) s e) (by omega), fun s hs => by
    rcases insAll_mem _ _ _ _ s hs with e | e
    · rw [e]; omega
    · exact Nat.le_trans (size_of_mem (r.leaf h0).2.2 s e) (by omega)⟩
theorem insAll_le {α : Type} (f : Bool) (i : Nat) (x : α) (l : List α) : (insAll f i x l).length ≤ l.length + 1 := by
  unfold insAll; simp; omega
def PutR (n : Nd) (k v : ByteArray) (pi : Nat) (w2 : World) (d i : Value) (wr : World) : Prop := ∃ (j : Nat) (b : Bool) (m : Nd) (kv vv iv : Value), j ≤ n.keys.length ∧ d = .bool b ∧ i = .int .i64 j ∧ Bx w2 wr w2.heap.size m kv vv iv ∧ Hid (m = putTo n k v j) ∧ Hid (b = decide (pi < j))
set_option maxRecDepth 100000 in
set_option maxHeartbeats 8000000 in
theorem rput_any (n : Nd) (p : Pt) (k v : ByteArray) (hk : k.size ≤ maxLen) (w : World) (h : Nod w n p) : Calls Tryz.prog 54 #[(.agg #[.int .i64 n.lev, .int .i64 n.lsn, .int .i64 n.rgt, .string n.high, .slice p.k n.keys.length p.kc, .slice p.v n.vals.length p.vc, .slice p.i n.kids.length p.ic]), .string k, .string v] w fun e w' => NdOut2 (okN (putE n k v) (putN n k v)) (putE n k v) w e w' := by
  have f0 : Fr (fun _ => False) w ((w.alloc (.cells #[.int .i64 n.lev, .int .i64 n.lsn, .int .i64 n.rgt, .string n.high, .slice p.k n.keys.length p.kc, .slice p.v n.vals.length p.vc, .slice p.i n.kids.length p.ic] 34)).alloc (.cells #[.int .i64 0, .int .i64 0, .int .i64 0, .string ⟨#[]⟩, .slice none 0 0, .slice none 0 0, .slice none 0 0] 34)) := ((Fr.refl _ _).alloc _).alloc _
  have HB : Hid (∀ W, Fr (fun _ => False) ((w.alloc (.cells #[.int .i64 n.lev, .int .i64 n.lsn, .int .i64 n.rgt, .string n.high, .slice p.k n.keys.length p.kc, .slice p.v n.vals.length p.vc, .slice p.i n.kids.length p.ic] 34)).alloc (.cells #[.int .i64 0, .int .i64 0, .int .i64 0, .string ⟨#[]⟩, .slice none 0 0, .slice none 0 0, .slice none 0 0] 34)) W → W.cell? ⟨w.heap.size, 0, none⟩ = some (.int .i64 n.lev) ∧ W.cell? ⟨w.heap.size, 1, none⟩ = some (.int .i64 n.lsn) ∧ W.cell? ⟨w.heap.size, 2, none⟩ = some (.int .i64 n.rgt) ∧ W.cell? ⟨w.heap.size, 3, none⟩ = some (.string n.high) ∧ W.cell? ⟨w.heap.size, 4, none⟩ = some (.slice p.k n.keys.length p.kc) ∧ W.cell? ⟨w.heap.size, 5, none⟩ = some (.slice p.v n.vals.length p.vc) ∧ W.cell? ⟨w.heap.size, 6, none⟩ = some (.slice p.i n.kids.length p.ic)) := fun W f => box_cells (box_at w n p 34 (((Fr.refl _ _).alloc _).seq' f))
  have HRB : Hid (∀ W, Fr (fun _ => False) ((w.alloc (.cells #[.int .i64 n.lev, .int .i64 n.lsn, .int .i64 n.rgt, .string n.high, .slice p.k n.keys.length p.kc, .slice p.v n.vals.length p.vc, .slice p.i n.kids.length p.ic] 34)).alloc (.cells #[.int .i64 0, .int .i64 0, .int .i64 0, .string ⟨#[]⟩, .slice none 0 0, .slice none 0 0, .slice none 0 0] 34)) W → W.heap[w.heap.size + 1]? = some (.cells #[.int .i64 0, .int .i64 0, .int .i64 0, .string ⟨#[]⟩, .slice none 0 0, .slice none 0 0, .slice none 0 0] 34 (0, 0))) := fun W f => by
    refine f.blk ?_ (fun f => f)
    have := heap_alloc_new (w.alloc (.cells #[.int .i64 n.lev, .int .i64 n.lsn, .int .i64 n.rgt, .string n.high, .slice p.k n.keys.length p.kc, .slice p.v n.vals.length p.vc, .slice p.i n.kids.length p.ic] 34)) (.cells #[.int .i64 0, .int .i64 0, .int .i64 0, .string ⟨#[]⟩, .slice none 0 0, .slice none 0 0, .slice none 0 0] 34)
    rw [show (w.alloc (.cells #[.int .i64 n.lev, .int .i64 n.lsn, .int .i64 n.rgt, .string n.high, .slice p.k n.keys.length p.kc, .slice p.v n.vals.length p.vc, .slice p.i n.kids.length p.ic] 34)).heap.size = w.heap.size + 1 by simp] at this
    exact this
  have hh := high_le h
  have ha := asked_any n p k v 1 0 1 (by omega) hh hk _ (h.same f0)
  rw [show nuE 1 = 0 from rfl] at ha
  have HOK : Hid (askE n k (evalu v.size : Nat) 0 1 = 0 → Rt n ∧ n.lev = 0 ∧ k.size ≤ 16 ∧ v.size ≤ 32) := fun h => ⟨(ask_ok h).1, ask1_leaf h, (ask_ok h).2.1.2, evalu_le (by have := (ask_ok h).2.2.1; omega)⟩
  have HPU : Hid (putE n k v = if askE n k (evalu v.size : Nat) 0 1 = 0 then fitE (putN n k v) else askE n k (evalu v.size : Nat) 0 1) := rfl
  generalize askE n k (evalu v.size : Nat) 0 1 = ae at *
  go_enter Tryz.func54, Tryz.ntmps54
  go_wp2_with fail
  refine ha.mono ?_
  rintro e w1 ⟨rfl, f1⟩
  clear ha
  obtain ⟨c0, c1, c2, c3, c4, c5, c6⟩ := HB.out _ f1
  by_cases hae : ae = 0
  · subst hae
    obtain ⟨hr, hlev, hk16, hv32⟩ := HOK.out rfl
    rw [if_pos rfl] at HPU
    have HR : Hid (Rt n ∧ n.lev = 0) := ⟨hr, hlev⟩
    have HVL : Hid (n.vals.length = n.keys.length) := (hr.leaf hlev).1
    have hfew := keys_few hr
    have hkl := h.keys.le
    have hkm := h.keys.max
    have HSK : Hid (∀ s ∈ n.keys, s.size ≤ maxLen) := fun s hs => Nat.le_trans (size_of_mem (fun i hi => (hr.keys i hi).1.2) s hs) (by decide)
    have hpl := plc_pl (k := bsOf k) hr.srt
    obtain ⟨pi, pf, hpe⟩ : ∃ pi pf, plc (bsOf k) n.keys = (pi, pf) := ⟨_, _, rfl⟩
    have HPE : Hid (plc (bsOf k) n.keys = (pi, pf)) := hpe
    rw [hpe] at hpl
    simp only at hpl
    have HPL : Hid (Pl (bsOf k) n.keys pi pf) := hpl
    clear hr hlev HOK hpe hpl
    go_wp2_with fail
    refine (bare_any n p _).mono ?_
    rintro e w2 ⟨rfl, f2⟩
    clear c0 c1 c2 c3 c4 c5 c6
    have F2 := f1.seq' f2
    have hrb2 : w.heap.size + 1 < w2.heap.size := by have := F2.size; simp at this; omega
    have B0 : Bx w2 (w2.alloc (.cells #[.int .i64 n.lev, .int .i64 n.lsn, .int .i64 n.rgt, .string n.high, .slice none 0 0, .slice none 0 0, .slice none 0 0] 34)) w2.heap.size (putTo n k v 0) (.slice none 0 0) (.slice none 0 0) (.slice none 0 0) := Bx.start w2 (putTo n k v 0) (by simp [putTo, insTo]) (by simp [putTo, insTo]) rfl
    obtain ⟨c0, c1, c2, c3, c4, c5, c6⟩ := HB.out _ (F2.seq' B0.fr)
    go_wp2
    go_loopw [10, 26] (fun d i wr => PutR n k v pi w2 d i wr) (fun _ i _ => n.keys.length - (intOf i).toNat)
    case atStart => exact ⟨0, false, _, _, _, _, by omega, rfl, rfl, B0, rfl, by show _ = _; simp⟩
    case round =>
      obtain ⟨j, b, m, kv, vv, iv, hj, rfl, rfl, B, HM, HBD⟩ := hrel
      clear B0 c0 c1 c2 c3 c4 c5 c6
      have F := F2.seq' B.fr
      have hN := h.same (f0.seq' F)
      obtain ⟨c0, c1, c2, c3, c4, c5, c6⟩ := HB.out _ F
      obtain ⟨⟨k0, k1, k2, k3, k4, k5, k6⟩, fz⟩ := node_cells B.box
      by_cases hlt : j < n.keys.length
      · obtain ⟨bk, ok, ek, hbk, hck⟩ := strs_some hN.keys hlt
        have hkc := hck j hlt
        have hvi : j < n.vals.length := by have := HVL.out; omega
        have hji : (j : Int) < (n.keys.length : Int) := by omega
        have hjv : (j : Int) < (n.vals.length : Int) := by omega
        have HSB := str_beq (n.keys.getD j ByteArray.empty) k
        have hcm := fun W => rcompare_any (n.keys.getD j ByteArray.empty) k (HSK.out _ (by rw [getD_lt _ _ _ hlt]; exact List.getElem_mem hlt)) hk W
        have HML : Hid (m.keys.length ≤ 70000 ∧ m.vals.length ≤ 70000) := by
          rw [HM.out]
          exact ⟨Nat.le_trans (insTo_len _ _ _ _ _) (by omega), Nat.le_trans (insTo_len _ _ _ _ _) (by omega)⟩
        by_cases hjp : j < pi
        · have HC : Hid (cpl (bsOf (n.keys.getD j ByteArray.empty)) (bsOf k) < 0) := HPL.out.lt j hjp
          have hke : bsOf (n.keys.getD j ByteArray.empty) ≠ bsOf k := fun e => by have := HC.out; rw [e, cpl_refl] at this; omega
          have HM2 : Hid (putTo n k v (j + 1) = { m with keys := m.keys ++ [n.keys.getD j ByteArray.empty], vals := m.vals ++ [n.vals.getD j ByteArray.empty] }) := by show _ = _; rw [putTo_more HPE.out hlt hvi (.inl hjp), HM.out]
          rw [decide_eq_false hke] at HSB
          obtain ⟨c, hc⟩ : ∃ c, c = cpl (bsOf (n.keys.getD j ByteArray.empty)) (bsOf k) := ⟨_, rfl⟩
          rw [← hc] at hcm HC
          have hcl : c < 0 := HC.out
          obtain ⟨y, hy⟩ : ∃ y, y = n.keys.getD j ByteArray.empty := ⟨_, rfl⟩
          obtain ⟨vj, hv⟩ : ∃ v, v = n.vals.getD j ByteArray.empty := ⟨_, rfl⟩
          have HV : Hid (vj = n.vals.getD j ByteArray.empty) := hv
          rw [← hy] at hkc HSB HM2 hcm
          rw [← hv] at HM2
          have hb0 : b = false := by rw [HBD.out]; simp; omega
          subst hb0
          have HB2 : Hid (false = decide (pi < j + 1)) := by show _ = _; simp; omega
          clear hy hv hck hke hc HC HBD
          rw [ek]
          go_wp2_with fail
          refine (hcm _).mono ?_
          rintro e w6 ⟨rfl, f6⟩
          clear hcm c0 c1 c2 c3 c4 c5 c6 k0 k1 k2 k3 k4 k5 k6 fz hkc hbk
          have B6 := B.same f6
          have F6 := F2.seq' B6.fr
          obtain ⟨c0, c1, c2, c3, c4, c5, c6⟩ := HB.out _ F6
          obtain ⟨⟨k0, k1, k2, k3, k4, k5, k6⟩, fz⟩ := node_cells B6.box
          obtain ⟨a7, c7, w7, hap, q7, z7, B7⟩ := B6.key y (Nat.le_trans HML.out.1 (by omega))
          go_wp2_with (at_builtin; refine wpList_append_run rfl _ _ 31 31 rfl (by rfl) (by rfl) hap ?_)
          obtain ⟨W8, hW8⟩ : ∃ W, W = w7.setCell ⟨w2.heap.size, 4, none⟩ (.slice a7 (m.keys.length + 1) c7) := ⟨_, rfl⟩
          rw [← hW8] at B7 ⊢
          clear hW8 hap q7 z7 k0 k1 k2 k3 k4 k5 k6 fz
          have F8 := F2.seq' B7.fr
          have hN8 := h.same (f0.seq' F8)
          obtain ⟨bw, ow, ew, hbw, hcw⟩ := strs_some hN8.vals hvi
          have hvc := hcw j hvi
          obtain ⟨d0, d1, d2, d3, d4, d5, d6⟩ := HB.out _ F8
          rw [ew] at d5
          rw [← HV.out] at hvc
          obtain ⟨⟨k0, k1, k2, k3, k4, k5, k6⟩, fz⟩ := node_cells B7.box
          obtain ⟨⟨p0, p1, p2, p3, p4, p5, p6⟩, pz⟩ := node_cells (B7.same (Fr.box W8 (.cells #[.string vj] 9))).box
          obtain ⟨a9, c9, w9, hap, q9, z9, B9⟩ := (B7.same (Fr.refl (fun _ => False) W8).drew).val vj (Nat.le_trans HML.out.2 (by omega))
          clear hcw
          go_region_law
            (show (if Region.wanted { dst := _, op := .call { callee := .builtin .append, args := _, argTypes := _ }, type := _, pos := _, after := _, guard := _ } _ = true then _ else _); refine step_of (by rfl) (wp_append_run (.tmp 61) (.tmp 67) 31 31 (by rfl) (by rfl) (by rfl) hap ?_))
          all_goals
            obtain ⟨W10, hW10⟩ : ∃ W, W = w9.setCell ⟨w2.heap.size, 5, none⟩ (.slice a9 (m.vals.length + 1) c9) := ⟨_, rfl⟩
            rw [← hW10] at B9 ⊢
            clear hW10 hap q9 z9 k0 k1 k2 k3 k4 k5 k6 fz p0 p1 p2 p3 p4 p5 p6 pz d0 d1 d2 d3 d4 d5 d6 hvc hbw
            go_wp2
            go_roundw
            case rel => exact ⟨.bool false, _, _, .int .i64 (((j : Nat) : Int) + 1), ⟨j + 1, false, _, _, _, _, by omega, rfl, by go_num, B9, HM2.out.symm, HB2⟩, rfl, rfl, rfl, rfl⟩
            case measure => simp [intOf]; omega
        by_cases hjp : pi < j
        · have HC : Hid (0 < cpl (bsOf (n.keys.getD j ByteArray.empty)) (bsOf k)) := HPL.out.ge j (by omega) hlt (.inr hjp)
          have hke : bsOf (n.keys.getD j ByteArray.empty) ≠ bsOf k := fun e => by have := HC.out; rw [e, cpl_refl] at this; omega
          have HM2 : Hid (putTo n k v (j + 1) = { m with keys := m.keys ++ [n.keys.getD j ByteArray.empty], vals := m.vals ++ [n.vals.getD j ByteArray.empty] }) := by show _ = _; rw [putTo_more HPE.out hlt hvi (.inr hjp), HM.out]
          rw [decide_eq_false hke] at HSB
          obtain ⟨y, hy⟩ : ∃ y, y = n.keys.getD j ByteArray.empty := ⟨_, rfl⟩
          obtain ⟨vj, hv⟩ : ∃ v, v = n.vals.getD j ByteArray.empty := ⟨_, rfl⟩
          have HV : Hid (vj = n.vals.getD j ByteArray.empty) := hv
          rw [← hy] at hkc HSB HM2
          rw [← hv] at HM2
          have hb0 : b = true := by rw [HBD.out]; simp; omega
          subst hb0
          have HB2 : Hid (true = decide (pi < j + 1)) := by show _ = _; simp; omega
          clear hy hv hck hke HC HBD hcm
          rw [ek]
          obtain ⟨a7, c7, w7, hap, q7, z7, B7⟩ := B.key y (Nat.le_trans HML.out.1 (by omega))
          go_wp2_with (at_builtin; refine wpList_append_run rfl _ _ 31 31 rfl (by rfl) (by rfl) hap ?_)
          obtain ⟨W8, hW8⟩ : ∃ W, W = w7.setCell ⟨w2.heap.size, 4, none⟩ (.slice a7 (m.keys.length + 1) c7) := ⟨_, rfl⟩
          rw [← hW8] at B7 ⊢
          clear hW8 hap q7 z7 k0 k1 k2 k3 k4 k5 k6 fz
          have F8 := F2.seq' B7.fr
          have hN8 := h.same (f0.seq' F8)
          obtain ⟨bw, ow, ew, hbw, hcw⟩ := strs_some hN8.vals hvi
          have hvc := hcw j hvi
          obtain ⟨d0, d1, d2, d3, d4, d5, d6⟩ := HB.out _ F8
          rw [ew] at d5
          rw [← HV.out] at hvc
          obtain ⟨⟨k0, k1, k2, k3, k4, k5, k6⟩, fz⟩ := node_cells B7.box
          obtain ⟨⟨p0, p1, p2, p3, p4, p5, p6⟩, pz⟩ := node_cells (B7.same (Fr.box W8 (.cells #[.string vj] 9))).box
          obtain ⟨a9, c9, w9, hap, q9, z9, B9⟩ := (B7.same (Fr.refl (fun _ => False) W8).drew).val vj (Nat.le_trans HML.out.2 (by omega))
          clear hcw
          go_region_law
            (show (if Region.wanted { dst := _, op := .call { callee := .builtin .append, args := _, argTypes := _ }, type := _, pos := _, after := _, guard := _ } _ = true then _ else _); refine step_of (by rfl) (wp_append_run (.tmp 61) (.tmp 67) 31 31 (by rfl) (by rfl) (by rfl) hap ?_))
          all_goals
            obtain ⟨W10, hW10⟩ : ∃ W, W = w9.setCell ⟨w2.heap.size, 5, none⟩ (.slice a9 (m.vals.length + 1) c9) := ⟨_, rfl⟩
            rw [← hW10] at B9 ⊢
            clear hW10 hap q9 z9 k0 k1 k2 k3 k4 k5 k6 fz p0 p1 p2 p3 p4 p5 p6 pz d0 d1 d2 d3 d4 d5 d6 hvc hbw
            go_wp2
            go_roundw
            case rel => exact ⟨.bool true, _, _, .int .i64 (((j : Nat) : Int) + 1), ⟨j + 1, true, _, _, _, _, by omega, rfl, by go_num, B9, HM2.out.symm, HB2⟩, rfl, rfl, rfl, rfl⟩
            case measure => simp [intOf]; omega
        have hjp : pi = j := by omega
        subst hjp
        have HC : Hid (0 ≤ cpl (bsOf (n.keys.getD pi ByteArray.empty)) (bsOf k)) := by
          show 0 ≤ _
          cases pf
          · have := HPL.out.ge pi (by omega) hlt (.inl rfl); omega
          · rw [(HPL.out.eq rfl).2, cpl_refl]; omega
        obtain ⟨c, hc⟩ : ∃ c, c = cpl (bsOf (n.keys.getD pi ByteArray.empty)) (bsOf k) := ⟨_, rfl⟩
        rw [← hc] at hcm HC
        have hcl : 0 ≤ c := HC.out
        have hb0 : b = false := by rw [HBD.out]; simp
        subst hb0
        have HB2 : Hid (true = decide (pi < pi + 1)) := by show _ = _; simp
        obtain ⟨y, hy⟩ : ∃ y, y = n.keys.getD pi ByteArray.empty := ⟨_, rfl⟩
        obtain ⟨vj, hv⟩ : ∃ v, v = n.vals.getD pi ByteArray.empty := ⟨_, rfl⟩
        have HV : Hid (vj = n.vals.getD pi ByteArray.empty) := hv
        have HY : Hid (y = n.keys.getD pi ByteArray.empty) := hy
        rw [← hy] at hkc HSB hcm
        clear hy hv hck hc HC HBD
        rw [ek]
        go_wp2_with fail
        refine (hcm _).mono ?_
        rintro e w6 ⟨rfl, f6⟩
        clear hcm c0 c1 c2 c3 c4 c5 c6 k0 k1 k2 k3 k4 k5 k6 fz hkc hbk
        have B6 := B.same f6
        have F6 := F2.seq' B6.fr
        obtain ⟨c0, c1, c2, c3, c4, c5, c6⟩ := HB.out _ F6
        obtain ⟨⟨k0, k1, k2, k3, k4, k5, k6⟩, fz⟩ := node_cells B6.box
        obtain ⟨aA, cA, wA, hapA, qA, zA, BA⟩ := B6.key k (Nat.le_trans HML.out.1 (by omega))
        go_upto_region 11 with (at_builtin; refine wpList_append_run rfl (.tmp 40) (.tmp 42) 31 31 rfl (by rfl) (by rfl) hapA ?_)
        obtain ⟨WA, hWA⟩ : ∃ W, W = wA.setCell ⟨w2.heap.size, 4, none⟩ (.slice aA (m.keys.length + 1) cA) := ⟨_, rfl⟩
        rw [← hWA] at BA ⊢
        clear hWA hapA qA zA k0 k1 k2 k3 k4 k5 k6 fz c0 c1 c2 c3 c4 c5 c6
        obtain ⟨⟨k0, k1, k2, k3, k4, k5, k6⟩, fz⟩ := node_cells BA.box
        obtain ⟨aC, cC, wC, hapC, qC, zC, BC⟩ := BA.val v (Nat.le_trans HML.out.2 (by omega))
        go_upto_region 13 with (at_builtin; refine wpList_append_run rfl (.tmp 46) (.tmp 48) 31 31 rfl (by rfl) (by rfl) hapC ?_)
        obtain ⟨WC, hWC⟩ : ∃ W, W = wC.setCell ⟨w2.heap.size, 5, none⟩ (.slice aC (m.vals.length + 1) cC) := ⟨_, rfl⟩
        simp only at BC
        rw [← hWC] at BC ⊢
        clear hWC hapC qC zC k0 k1 k2 k3 k4 k5 k6 fz
        obtain ⟨⟨k0, k1, k2, k3, k4, k5, k6⟩, fz⟩ := node_cells BC.box
        obtain ⟨c0, c1, c2, c3, c4, c5, c6⟩ := HB.out _ (F2.seq' BC.fr)
        cases pf
        case true =>
          have HM2 : Hid (putTo n k v (pi + 1) = { m with keys := m.keys ++ [k], vals := m.vals ++ [v] }) := by show _ = _; rw [putTo_at HPE.out hlt hvi, HM.out]
          rw [decide_eq_true (by rw [HY.out]; exact (HPL.out.eq rfl).2)] at HSB
          go_wp2
          go_roundw
          case rel => exact ⟨pi + 1, true, _, _, _, _, by omega, rfl, by go_num, BC, HM2.out.symm, HB2⟩
          case measure => simp [intOf]; omega
        obtain ⟨m1, hm1⟩ : ∃ x : Nd, x = ⟨m.lev, m.lsn, m.rgt, m.high, m.keys ++ [k], m.vals ++ [v], m.kids⟩ := ⟨_, rfl⟩
        have HM2 : Hid (putTo n k v (pi + 1) = { m1 with keys := m1.keys ++ [y], vals := m1.vals ++ [vj] }) := by show _ = _; rw [putTo_at2 HPE.out hlt hvi, hm1, HM.out, HY.out, HV.out]
        have B1 : Bx w2 WC w2.heap.size m1 (.slice aA (m.keys.length + 1) cA) (.slice aC (m.vals.length + 1) cC) iv := by rw [hm1]; exact BC
        have HML1 : Hid (m1.keys.length ≤ 100000 ∧ m1.vals.length ≤ 100000) := by
          rw [hm1]
          exact ⟨by show (m.keys ++ [k]).length ≤ _; rw [List.length_append]; have := HML.out.1; simp; omega, by show (m.vals ++ [v]).length ≤ _; rw [List.length_append]; have := HML.out.2; simp; omega⟩
        rw [decide_eq_false (fun e => by rw [HY.out] at e; have := HPL.out.ge pi (by omega) hlt (.inl rfl); rw [e, cpl_refl] at this; omega)] at HSB
        clear hm1 BC k0 k1 k2 k3 k4 k5 k6 fz
        obtain ⟨⟨k0, k1, k2, k3, k4, k5, k6⟩, fz⟩ := node_cells B1.box
        obtain ⟨a7, c7, w7, hap, q7, z7, B7⟩ := B1.key y HML1.out.1
        go_wp2_with (at_builtin; refine wpList_append_run rfl _ _ 31 31 rfl (by rfl) (by rfl) hap ?_)
        obtain ⟨W8, hW8⟩ : ∃ W, W = w7.setCell ⟨w2.heap.size, 4, none⟩ (.slice a7 (m1.keys.length + 1) c7) := ⟨_, rfl⟩
        rw [← hW8] at B7 ⊢
        clear hW8 hap q7 z7 k0 k1 k2 k3 k4 k5 k6 fz
        have F8 := F2.seq' B7.fr
        have hN8 := h.same (f0.seq' F8)
        obtain ⟨bw, ow, ew, hbw, hcw⟩ := strs_some hN8.vals hvi
        have hvc := hcw pi hvi
        obtain ⟨d0, d1, d2, d3, d4, d5, d6⟩ := HB.out _ F8
        rw [ew] at d5
        rw [← HV.out] at hvc
        obtain ⟨⟨k0, k1, k2, k3, k4, k5, k6⟩, fz⟩ := node_cells B7.box
        obtain ⟨⟨p0, p1, p2, p3, p4, p5, p6⟩, pz⟩ := node_cells (B7.same (Fr.box W8 (.cells #[.string vj] 9))).box
        obtain ⟨a9, c9, w9, hap, q9, z9, B9⟩ := (B7.same (Fr.refl (fun _ => False) W8).drew).val vj HML1.out.2
        clear hcw
        go_region_law
          (show (if Region.wanted { dst := _, op := .call { callee := .builtin .append, args := _, argTypes := _ }, type := _, pos := _, after := _, guard := _ } _ = true then _ else _); refine step_of (by rfl) (wp_append_run (.tmp 61) (.tmp 67) 31 31 (by rfl) (by rfl) (by rfl) hap ?_))
        all_goals
          obtain ⟨W10, hW10⟩ : ∃ W, W = w9.setCell ⟨w2.heap.size, 5, none⟩ (.slice a9 (m1.vals.length + 1) c9) := ⟨_, rfl⟩
          rw [← hW10] at B9 ⊢
          clear hW10 hap q9 z9 k0 k1 k2 k3 k4 k5 k6 fz p0 p1 p2 p3 p4 p5 p6 pz d0 d1 d2 d3 d4 d5 d6 hvc hbw
          go_wp2
          go_roundw
          case rel => exact ⟨.bool true, _, _, .int .i64 (((pi : Nat) : Int) + 1), ⟨pi + 1, true, _, _, _, _, by omega, rfl, by go_num, B9, HM2.out.symm, HB2⟩, rfl, rfl, rfl, rfl⟩
          case measure => simp [intOf]; omega
      · have hje : j = n.keys.length := by omega
        subst hje
        by_cases hpn : pi < n.keys.length
        · have hb0 : b = true := by rw [HBD.out]; simp; omega
          subst hb0
          have HD : Hid (m = putN n k v) := by show _ = _; rw [HM.out, putTo_all HPE.out hpn HVL.out]
          obtain ⟨mz, hmz⟩ : ∃ x, x = m := ⟨_, rfl⟩
          have BZ := B
          rw [← hmz] at BZ HD
          clear hmz HM HBD B k0 k1 k2 k3 k4 k5 k6 fz
          obtain ⟨pf0, e1, e2, e3, nd⟩ := BZ.nod (by rw [HD.out]; exact putN_short HR.out.1 HR.out.2 hk16 hv32) (by rw [HD.out]; exact Nat.le_trans (insAll_le _ _ _ _) (by omega)) (by rw [HD.out]; exact Nat.le_trans (insAll_le _ _ _ _) (by rw [HVL.out]; omega)) (by rw [HD.out]; exact Nat.zero_le _)
          subst e1; subst e2; subst e3
          have hrr := rright_any mz pf0 _ nd
          obtain ⟨⟨k0, k1, k2, k3, k4, k5, k6⟩, fz⟩ := node_cells BZ.box
          go_wp2_with fail
          refine hrr.mono ?_
          rintro e w6 ⟨rfl, f6⟩
          clear hrr k0 k1 k2 k3 k4 k5 k6 fz
          have B6 := BZ.same f6
          have F6 := F2.seq' B6.fr
          have hR6 := HRB.out _ F6
          obtain ⟨⟨k0, k1, k2, k3, k4, k5, k6⟩, fz⟩ := node_cells B6.box
          obtain ⟨⟨s0, s1, s2, s3, s4, s5, s6⟩, sz⟩ := node_cells hR6
          have y0 := sz 0; have y1 := sz 1; have y2 := sz 2; have y3 := sz 3; have y4 := sz 4; have y5 := sz 5; have y6 := sz 6
          have HPF : Hid (putE n k v = fitE mz) := by show _ = _; rw [HPU.out, HD.out]
          clear sz
          cases hr : rightB mz
          · have HPF5 : Hid (putE n k v = 5) := by show _ = _; rw [HPF.out]; unfold fitE; rw [hr, if_neg (by simp)]
            clear hr
            go_wp2
            obtain ⟨hq, ff⟩ := fin7 hR6 (.int .i64 0) (.int .i64 0) (.int .i64 0) (.string ⟨#[]⟩) (.slice none 0 0) (.slice none 0 0) (.slice none 0 0)
            have fff := (f0.seq' F6).trans ff (S := fun _ => False) (fun i hi e => by omega)
            generalize ((((((w6.setCell ⟨w.heap.size + 1, 0, none⟩ (.int .i64 0)).setCell ⟨w.heap.size + 1, 1, none⟩ (.int .i64 0)).setCell ⟨w.heap.size + 1, 2, none⟩ (.int .i64 0)).setCell ⟨w.heap.size + 1, 3, none⟩ (.string ⟨#[]⟩)).setCell ⟨w.heap.size + 1, 4, none⟩ (.slice none 0 0)).setCell ⟨w.heap.size + 1, 5, none⟩ (.slice none 0 0)).setCell ⟨w.heap.size + 1, 6, none⟩ (.slice none 0 0) = Wf at hq fff ⊢
            obtain ⟨⟨q0, q1, q2, q3, q4, q5, q6⟩, _⟩ := node_cells hq
            rw [HPF5.out, okN_no (by omega)]
            exact bodyPost_ret (v := .tuple #[.agg #[.int .i64 0, .int .i64 0, .int .i64 0, .string ⟨#[]⟩, .slice none 0 0, .slice none 0 0, .slice none 0 0], .int .i64 5]) (by simp [results, Tryz.results54, go_sem, q0, q1, q2, q3, q4, q5, q6]) rfl ⟨zp, rfl, zn_nod _, fff, zp_nw _⟩
          · have HPF5 : Hid (putE n k v = 0) := by show _ = _; rw [HPF.out]; unfold fitE; rw [hr, if_pos rfl]
            clear hr
            obtain ⟨pf, ⟨e1, e2, e3⟩, hq, nd2, ff, hnw⟩ := B6.done (w1 := w) (rb := w.heap.size + 1) (by rw [HD.out]; exact putN_short HR.out.1 HR.out.2 hk16 hv32) (by rw [HD.out]; exact Nat.le_trans (insAll_le _ _ _ _) (by omega)) (by rw [HD.out]; exact Nat.le_trans (insAll_le _ _ _ _) (by rw [HVL.out]; omega)) (by rw [HD.out]; exact Nat.zero_le _) hR6 (by omega) hrb2 (f0.seq' F2)
            simp only [Value.slice.injEq, true_and] at e1 e2 e3
            rw [e1.1, e1.2, e2.1, e2.2, e3.1, e3.2] at hq nd2 ff
            rw [e1.1, e1.2] at k4
            rw [e2.1, e2.2] at k5
            rw [e3.1, e3.2] at k6
            clear e1 e2 e3
            go_wp2
            generalize ((((((w6.setCell ⟨w.heap.size + 1, 0, none⟩ (.int .i64 mz.lev)).setCell ⟨w.heap.size + 1, 1, none⟩ (.int .i64 mz.lsn)).setCell ⟨w.heap.size + 1, 2, none⟩ (.int .i64 mz.rgt)).setCell ⟨w.heap.size + 1, 3, none⟩ (.string mz.high)).setCell ⟨w.heap.size + 1, 4, none⟩ (.slice pf.k mz.keys.length pf.kc)).setCell ⟨w.heap.size + 1, 5, none⟩ (.slice pf.v mz.vals.length pf.vc)).setCell ⟨w.heap.size + 1, 6, none⟩ (.slice pf.i mz.kids.length pf.ic) = Wf at hq nd2 ff ⊢
            obtain ⟨⟨q0, q1, q2, q3, q4, q5, q6⟩, _⟩ := node_cells hq
            rw [HPF5.out, okN_ok, ← HD.out]
            exact bodyPost_ret (v := .tuple #[(.agg #[.int .i64 mz.lev, .int .i64 mz.lsn, .int .i64 mz.rgt, .string mz.high, .slice pf.k mz.keys.length pf.kc, .slice pf.v mz.vals.length pf.vc, .slice pf.i mz.kids.length pf.ic]), .int .i64 0]) (by simp [results, Tryz.results54, go_sem, q0, q1, q2, q3, q4, q5, q6]) rfl ⟨pf, rfl, nd2, ff, hnw⟩
        · have hpn2 : pi = n.keys.length := by have := HPL.out.le; omega
          have hb0 : b = false := by rw [HBD.out]; simp; omega
          subst hb0
          have HD0 : Hid (putN n k v = { m with keys := m.keys ++ [k], vals := m.vals ++ [v] }) := by show _ = _; rw [HM.out, putTo_end (by rw [HPE.out, hpn2]) HVL.out]
          have HML : Hid (m.keys.length ≤ 70000 ∧ m.vals.length ≤ 70000) := by
            rw [HM.out]
            exact ⟨Nat.le_trans (insTo_len _ _ _ _ _) (by omega), Nat.le_trans (insTo_len _ _ _ _ _) (by omega)⟩
          clear hpn hpn2 HM HBD
          obtain ⟨aA, cA, wA, hapA, qA, zA, BA⟩ := B.key k (Nat.le_trans HML.out.1 (by omega))
          go_upto_region 19 with (at_builtin; refine wpList_append_run rfl (.tmp 74) (.tmp 76) 31 31 rfl (by rfl) (by rfl) hapA ?_)
          obtain ⟨WA, hWA⟩ : ∃ W, W = wA.setCell ⟨w2.heap.size, 4, none⟩ (.slice aA (m.keys.length + 1) cA) := ⟨_, rfl⟩
          rw [← hWA] at BA ⊢
          clear hWA hapA qA zA k0 k1 k2 k3 k4 k5 k6 fz c0 c1 c2 c3 c4 c5 c6
          obtain ⟨⟨k0, k1, k2, k3, k4, k5, k6⟩, fz⟩ := node_cells BA.box
          obtain ⟨aC, cC, wC, hapC, qC, zC, BC⟩ := BA.val v (Nat.le_trans HML.out.2 (by omega))
          go_upto_region 20 with (at_builtin; refine wpList_append_run rfl (.tmp 80) (.tmp 82) 31 31 rfl (by rfl) (by rfl) hapC ?_)
          obtain ⟨WC, hWC⟩ : ∃ W, W = wC.setCell ⟨w2.heap.size, 5, none⟩ (.slice aC (m.vals.length + 1) cC) := ⟨_, rfl⟩
          simp only at BC
          rw [← hWC] at BC ⊢
          clear hWC hapC qC zC k0 k1 k2 k3 k4 k5 k6 fz
          obtain ⟨mz, hmz⟩ : ∃ x : Nd, x = ⟨m.lev, m.lsn, m.rgt, m.high, m.keys ++ [k], m.vals ++ [v], m.kids⟩ := ⟨_, rfl⟩
          have HD : Hid (mz = putN n k v) := by show _ = _; rw [hmz, HD0.out]
          obtain ⟨kz, vz, iz, BZ⟩ : ∃ kz vz iz, Bx w2 WC w2.heap.size mz kz vz iz := ⟨_, _, _, by rw [hmz]; exact BC⟩
          clear hmz BC BA HD0
          obtain ⟨pf0, e1, e2, e3, nd⟩ := BZ.nod (by rw [HD.out]; exact putN_short HR.out.1 HR.out.2 hk16 hv32) (by rw [HD.out]; exact Nat.le_trans (insAll_le _ _ _ _) (by omega)) (by rw [HD.out]; exact Nat.le_trans (insAll_le _ _ _ _) (by rw [HVL.out]; omega)) (by rw [HD.out]; exact Nat.zero_le _)
          subst e1; subst e2; subst e3
          have hrr := rright_any mz pf0 _ nd
          obtain ⟨⟨k0, k1, k2, k3, k4, k5, k6⟩, fz⟩ := node_cells BZ.box
          go_wp2_with fail
          refine hrr.mono ?_
          rintro e w6 ⟨rfl, f6⟩
          clear hrr k0 k1 k2 k3 k4 k5 k6 fz
          have B6 := BZ.same f6
          have F6 := F2.seq' B6.fr
          have hR6 := HRB.out _ F6
          obtain ⟨⟨k0, k1, k2, k3, k4, k5, k6⟩, fz⟩ := node_cells B6.box
          obtain ⟨⟨s0, s1, s2, s3, s4, s5, s6⟩, sz⟩ := node_cells hR6
          have y0 := sz 0; have y1 := sz 1; have y2 := sz 2; have y3 := sz 3; have y4 := sz 4; have y5 := sz 5; have y6 := sz 6
          have HPF : Hid (putE n k v = fitE mz) := by show _ = _; rw [HPU.out, HD.out]
          clear sz
          cases hr : rightB mz
          · have HPF5 : Hid (putE n k v = 5) := by show _ = _; rw [HPF.out]; unfold fitE; rw [hr, if_neg (by simp)]
            clear hr
            go_wp2
            obtain ⟨hq, ff⟩ := fin7 hR6 (.int .i64 0) (.int .i64 0) (.int .i64 0) (.string ⟨#[]⟩) (.slice none 0 0) (.slice none 0 0) (.slice none 0 0)
            have fff := (f0.seq' F6).trans ff (S := fun _ => False) (fun i hi e => by omega)
            generalize ((((((w6.setCell ⟨w.heap.size + 1, 0, none⟩ (.int .i64 0)).setCell ⟨w.heap.size + 1, 1, none⟩ (.int .i64 0)).setCell ⟨w.heap.size + 1, 2, none⟩ (.int .i64 0)).setCell ⟨w.heap.size + 1, 3, none⟩ (.string ⟨#[]⟩)).setCell ⟨w.heap.size + 1, 4, none⟩ (.slice none 0 0)).setCell ⟨w.heap.size + 1, 5, none⟩ (.slice none 0 0)).setCell ⟨w.heap.size + 1, 6, none⟩ (.slice none 0 0) = Wf at hq fff ⊢
            obtain ⟨⟨q0, q1, q2, q3, q4, q5, q6⟩, _⟩ := node_cells hq
            rw [HPF5.out, okN_no (by omega)]
            exact bodyPost_ret (v := .tuple #[.agg #[.int .i64 0, .int .i64 0, .int .i64 0, .string ⟨#[]⟩, .slice none 0 0, .slice none 0 0, .slice none 0 0], .int .i64 5]) (by simp [results, Tryz.results54, go_sem, q0, q1, q2, q3, q4, q5, q6]) rfl ⟨zp, rfl, zn_nod _, fff, zp_nw _⟩
          · have HPF5 : Hid (putE n k v = 0) := by show _ = _; rw [HPF.out]; unfold fitE; rw [hr, if_pos rfl]
            clear hr
            obtain ⟨pf, ⟨e1, e2, e3⟩, hq, nd2, ff, hnw⟩ := B6.done (w1 := w) (rb := w.heap.size + 1) (by rw [HD.out]; exact putN_short HR.out.1 HR.out.2 hk16 hv32) (by rw [HD.out]; exact Nat.le_trans (insAll_le _ _ _ _) (by omega)) (by rw [HD.out]; exact Nat.le_trans (insAll_le _ _ _ _) (by rw [HVL.out]; omega)) (by rw [HD.out]; exact Nat.zero_le _) hR6 (by omega) hrb2 (f0.seq' F2)
            simp only [Value.slice.injEq, true_and] at e1 e2 e3
            rw [e1.1, e1.2, e2.1, e2.2, e3.1, e3.2] at hq nd2 ff
            rw [e1.1, e1.2] at k4
            rw [e2.1, e2.2] at k5
            rw [e3.1, e3.2] at k6
            clear e1 e2 e3
            go_wp2
            generalize ((((((w6.setCell ⟨w.heap.size + 1, 0, none⟩ (.int .i64 mz.lev)).setCell ⟨w.heap.size + 1, 1, none⟩ (.int .i64 mz.lsn)).setCell ⟨w.heap.size + 1, 2, none⟩ (.int .i64 mz.rgt)).setCell ⟨w.heap.size + 1, 3, none⟩ (.string mz.high)).setCell ⟨w.heap.size + 1, 4, none⟩ (.slice pf.k mz.keys.length pf.kc)).setCell ⟨w.heap.size + 1, 5, none⟩ (.slice pf.v mz.vals.length pf.vc)).setCell ⟨w.heap.size + 1, 6, none⟩ (.slice pf.i mz.kids.length pf.ic) = Wf at hq nd2 ff ⊢
            obtain ⟨⟨q0, q1, q2, q3, q4, q5, q6⟩, _⟩ := node_cells hq
            rw [HPF5.out, okN_ok, ← HD.out]
            exact bodyPost_ret (v := .tuple #[(.agg #[.int .i64 mz.lev, .int .i64 mz.lsn, .int .i64 mz.rgt, .string mz.high, .slice pf.k mz.keys.length pf.kc, .slice pf.v mz.vals.length pf.vc, .slice pf.i mz.kids.length pf.ic]), .int .i64 0]) (by simp [results, Tryz.results54, go_sem, q0, q1, q2, q3, q4, q5, q6]) rfl ⟨pf, rfl, nd2, ff, hnw⟩
  · have hne : (ae != 0) = true := by simpa using hae
    have HP0 : Hid (ae ≠ 0) := hae
    rw [if_neg hae] at HPU
    have hR6 := HRB.out _ f1
    obtain ⟨⟨s0, s1, s2, s3, s4, s5, s6⟩, sz⟩ := node_cells hR6
    have y0 := sz 0; have y1 := sz 1; have y2 := sz 2; have y3 := sz 3; have y4 := sz 4; have y5 := sz 5; have y6 := sz 6
    clear hae sz
    go_wp2
    obtain ⟨hq, ff⟩ := fin7 hR6 (.int .i64 0) (.int .i64 0) (.int .i64 0) (.string ⟨#[]⟩) (.slice none 0 0) (.slice none 0 0) (.slice none 0 0)
    have fff := (f0.seq' f1).trans ff (S := fun _ => False) (fun i hi e => by omega)
    generalize ((((((w1.setCell ⟨w.heap.size + 1, 0, none⟩ (.int .i64 0)).setCell ⟨w.heap.size + 1, 1, none⟩ (.int .i64 0)).setCell ⟨w.heap.size + 1, 2, none⟩ (.int .i64 0)).setCell ⟨w.heap.size + 1, 3, none⟩ (.string ⟨#[]⟩)).setCell ⟨w.heap.size + 1, 4, none⟩ (.slice none 0 0)).setCell ⟨w.heap.size + 1, 5, none⟩ (.slice none 0 0)).setCell ⟨w.heap.size + 1, 6, none⟩ (.slice none 0 0) = Wf at hq fff ⊢
    obtain ⟨⟨q0, q1, q2, q3, q4, q5, q6⟩, _⟩ := node_cells hq
    rw [HPU.out, okN_no HP0.out]
    exact bodyPost_ret (v := .tuple #[.agg #[.int .i64 0, .int .i64 0, .int .i64 0, .string ⟨#[]⟩, .slice none 0 0, .slice none 0 0, .slice none 0 0], .int .i64 ae]) (by simp [results, Tryz.results54, go_sem, q0, q1, q2, q3, q4, q5, q6]) rfl ⟨zp, rfl, zn_nod _, fff, zp_nw _⟩
end Go.Proofs.YtlgceleelhppdaaGreat
