
/- NdRPost. -/
import Derived.Test.YtlgceleelhppdaaGreatDR27
import Derived.Test.YtlgceleelhppdaaGreatDR30
import Derived.Deep.DeepCutAuto
/- What the document's Post makes. -/
namespace Go.Proofs.YtlgceleelhppdaaGreat
open Go.RowKit

/-- The first j entries with a kid more. -/
def poK (n : Nd) (k : ByteArray) (pi : Nat) (pf : Bool) (j : Nat) : List ByteArray := if pf = true then n.keys.take j else insTo false pi k j n.keys
def poI (n : Nd) (kid : Int) (pi : Nat) (pf : Bool) (j : Nat) : List Int := if pf = true then n.kids.take (j + 1) else insTo false (pi + 1) kid (j + 1) n.kids
def postTo (n : Nd) (k : ByteArray) (kid : Int) (pi : Nat) (pf : Bool) (j : Nat) : Nd := ⟨n.lev, n.lsn, n.rgt, n.high, poK n k pi pf j, [], poI n kid pi pf j⟩
theorem postTo_more {n : Nd} {k : ByteArray} {kid : Int} {pi j : Nat} {pf : Bool} (hj : j < n.keys.length) (hv : j + 1 < n.kids.length) (h : pf = true ∨ j < pi ∨ pi < j) :
    postTo n k kid pi pf (j + 1) = { postTo n k kid pi pf j with keys := (postTo n k kid pi pf j).keys ++ [n.keys.getD j ByteArray.empty], kids := (postTo n k kid pi pf j).kids ++ [n.kids.getD (j + 1) 0] } := by
  unfold postTo poK poI
  cases pf
  · rcases h with h | h | h
    · cases h
    · simp only [Bool.false_eq_true, if_false]
      rw [insTo_before _ _ _ _ _ ByteArray.empty hj h, insTo_before _ _ _ _ _ 0 hv (by omega)]
    · simp only [Bool.false_eq_true, if_false]
      rw [insTo_behind _ _ _ _ _ ByteArray.empty hj h, insTo_behind _ _ _ _ _ 0 hv (by omega)]
  · simp only [if_true]
    rw [take_getD _ _ ByteArray.empty hj, take_getD _ _ 0 hv]
theorem postTo_at {n : Nd} {k : ByteArray} {kid : Int} {j : Nat} (hj : j < n.keys.length) (hv : j + 1 < n.kids.length) :
    postTo n k kid j false (j + 1) = { postTo n k kid j false j with keys := ((postTo n k kid j false j).keys ++ [k]) ++ [n.keys.getD j ByteArray.empty], kids := ((postTo n k kid j false j).kids ++ [kid]) ++ [n.kids.getD (j + 1) 0] } := by
  unfold postTo poK poI
  simp only [Bool.false_eq_true, if_false]
  rw [insTo_at2 _ _ _ ByteArray.empty hj, insTo_at2 _ _ _ 0 hv]
theorem postTo_all {n : Nd} {k : ByteArray} {kid : Int} {pi : Nat} {pf : Bool} (r : Rt n) (h0 : n.lev ≠ 0) (hp : plc (bsOf k) n.keys = (pi, pf)) (hi : pf = true ∨ pi < n.keys.length) : postTo n k kid pi pf n.keys.length = postN n k kid := by
  have hv : n.vals = [] := List.eq_nil_of_length_eq_zero (r.inner h0).2.1
  have hk := (r.inner h0).1
  unfold postTo poK poI postN
  rw [hp]
  cases pf
  · rcases hi with hi | hi
    · cases hi
    · simp only [Bool.false_eq_true, if_false]
      rw [insTo_all _ _ _ _ hi, ← hk, insTo_all _ _ _ _ (by omega)]
  · simp only [if_true]
    rw [List.take_length, ← hk, List.take_length, ← hv]
theorem postTo_end {n : Nd} {k : ByteArray} {kid : Int} (r : Rt n) (h0 : n.lev ≠ 0) (hp : plc (bsOf k) n.keys = (n.keys.length, false)) :
    postN n k kid = { postTo n k kid n.keys.length false n.keys.length with keys := (postTo n k kid n.keys.length false n.keys.length).keys ++ [k], kids := (postTo n k kid n.keys.length false n.keys.length).kids ++ [kid] } := by
  have hk := (r.inner h0).1
  unfold postTo poK poI postN
  rw [hp]
  simp only [Bool.false_eq_true, if_false]
  rw [insTo_end, ← hk, insTo_end]
theorem postTo_len (n : Nd) (k : ByteArray) (kid : Int) (pi : Nat) (pf : Bool) (j : Nat) : (postTo n k kid pi pf j).keys.length ≤ j + 1 ∧ (postTo n k kid pi pf j).kids.length ≤ j + 2 := by
  unfold postTo poK poI
  cases pf
  · simp only [Bool.false_eq_true, if_false]
    exact ⟨insTo_len _ _ _ _ _, insTo_len _ _ _ _ _⟩
  · simp only [if_true]
    exact ⟨by simp; omega, by simp; omega⟩
theorem postN_short {n : Nd} {k : ByteArray} {kid : Int} (r : Rt n) (h0 : n.lev ≠ 0) (hk : k.size ≤ 16) : Short (postN n k kid) := by
  unfold postN
  split
  · exact rt_short2 r h0
  · exact ⟨by have := r.high; show n.high.size ≤ _; omega, fun s hs => by
      rcases insAll_mem _ _ _ _ s hs with e | e
      · rw [e]; omega
      · exact Nat.le_trans (size_of_mem (fun i hi => (r.keys i hi).1.2) s e) (by omega), fun s hs => by cases hs⟩
theorem postN_len {n : Nd} {k : ByteArray} {kid : Int} (r : Rt n) (h0 : n.lev ≠ 0) : (postN n k kid).keys.length ≤ n.keys.length + 1 ∧ (postN n k kid).vals.length ≤ 0 ∧ (postN n k kid).kids.length ≤ n.keys.length + 2 := by
  have hk := (r.inner h0).1
  have hv := (r.inner h0).2.1
  unfold postN
  split
  · exact ⟨by omega, by omega, by omega⟩
  · exact ⟨insAll_le _ _ _ _, Nat.le_refl _, Nat.le_trans (insAll_le _ _ _ _) (by omega)⟩
def PosR (n : Nd) (k : ByteArray) (kid : Int) (pi : Nat) (pf : Bool) (w2 : World) (d i : Value) (wr : World) : Prop := ∃ (j : Nat) (b : Bool) (m : Nd) (kv vv iv : Value), j ≤ n.keys.length ∧ d = .bool b ∧ i = .int .i64 j ∧ Bx w2 wr w2.heap.size m kv vv iv ∧ Hid (m = postTo n k kid pi pf j) ∧ Hid (b = decide (pi < j)) ∧ Hid (pf = true → pi < j → n.kids.getD (pi + 1) 0 = kid)
set_option maxRecDepth 100000 in
set_option maxHeartbeats 8000000 in
theorem rpost_any (n : Nd) (p : Pt) (k : ByteArray) (kid : Int) (hk : k.size ≤ maxLen) (w : World) (h : Nod w n p) : Calls Tryz.prog 57 #[(.agg #[.int .i64 n.lev, .int .i64 n.lsn, .int .i64 n.rgt, .string n.high, .slice p.k n.keys.length p.kc, .slice p.v n.vals.length p.vc, .slice p.i n.kids.length p.ic]), .string k, .int .i64 kid] w fun e w' => NdOut2 (okN (postE n k kid) (postN n k kid)) (postE n k kid) w e w' := by
  have f0 : Fr (fun _ => False) w ((w.alloc (.cells #[.int .i64 n.lev, .int .i64 n.lsn, .int .i64 n.rgt, .string n.high, .slice p.k n.keys.length p.kc, .slice p.v n.vals.length p.vc, .slice p.i n.kids.length p.ic] 34)).alloc (.cells #[.int .i64 0, .int .i64 0, .int .i64 0, .string ⟨#[]⟩, .slice none 0 0, .slice none 0 0, .slice none 0 0] 34)) := ((Fr.refl _ _).alloc _).alloc _
  have HB : Hid (∀ W, Fr (fun _ => False) ((w.alloc (.cells #[.int .i64 n.lev, .int .i64 n.lsn, .int .i64 n.rgt, .string n.high, .slice p.k n.keys.length p.kc, .slice p.v n.vals.length p.vc, .slice p.i n.kids.length p.ic] 34)).alloc (.cells #[.int .i64 0, .int .i64 0, .int .i64 0, .string ⟨#[]⟩, .slice none 0 0, .slice none 0 0, .slice none 0 0] 34)) W → W.cell? ⟨w.heap.size, 0, none⟩ = some (.int .i64 n.lev) ∧ W.cell? ⟨w.heap.size, 1, none⟩ = some (.int .i64 n.lsn) ∧ W.cell? ⟨w.heap.size, 2, none⟩ = some (.int .i64 n.rgt) ∧ W.cell? ⟨w.heap.size, 3, none⟩ = some (.string n.high) ∧ W.cell? ⟨w.heap.size, 4, none⟩ = some (.slice p.k n.keys.length p.kc) ∧ W.cell? ⟨w.heap.size, 5, none⟩ = some (.slice p.v n.vals.length p.vc) ∧ W.cell? ⟨w.heap.size, 6, none⟩ = some (.slice p.i n.kids.length p.ic)) := fun W f => box_cells (box_at w n p 34 (((Fr.refl _ _).alloc _).seq' f))
  have HRB : Hid (∀ W, Fr (fun _ => False) ((w.alloc (.cells #[.int .i64 n.lev, .int .i64 n.lsn, .int .i64 n.rgt, .string n.high, .slice p.k n.keys.length p.kc, .slice p.v n.vals.length p.vc, .slice p.i n.kids.length p.ic] 34)).alloc (.cells #[.int .i64 0, .int .i64 0, .int .i64 0, .string ⟨#[]⟩, .slice none 0 0, .slice none 0 0, .slice none 0 0] 34)) W → W.heap[w.heap.size + 1]? = some (.cells #[.int .i64 0, .int .i64 0, .int .i64 0, .string ⟨#[]⟩, .slice none 0 0, .slice none 0 0, .slice none 0 0] 34 (0, 0))) := fun W f => by
    refine f.blk ?_ (fun f => f)
    have := heap_alloc_new (w.alloc (.cells #[.int .i64 n.lev, .int .i64 n.lsn, .int .i64 n.rgt, .string n.high, .slice p.k n.keys.length p.kc, .slice p.v n.vals.length p.vc, .slice p.i n.kids.length p.ic] 34)) (.cells #[.int .i64 0, .int .i64 0, .int .i64 0, .string ⟨#[]⟩, .slice none 0 0, .slice none 0 0, .slice none 0 0] 34)
    rw [show (w.alloc (.cells #[.int .i64 n.lev, .int .i64 n.lsn, .int .i64 n.rgt, .string n.high, .slice p.k n.keys.length p.kc, .slice p.v n.vals.length p.vc, .slice p.i n.kids.length p.ic] 34)).heap.size = w.heap.size + 1 by simp] at this
    exact this
  have hh := high_le h
  have ha := asked_any n p k ⟨#[]⟩ kid 1 2 (by omega) hh hk _ (h.same f0)
  rw [show ((evalu (ByteArray.mk #[]).size : Nat) : Int) = 0 from rfl] at ha
  have HOK : Hid (askE n k 0 (nuE kid) 2 = 0 → Rt n ∧ n.lev ≠ 0 ∧ k.size ≤ 16) := fun h => ⟨(ask_ok h).1, ask2_inner h, (ask_ok h).2.1.2⟩
  have HPU : Hid (postE n k kid = if askE n k 0 (nuE kid) 2 = 0 then postF n k kid else askE n k 0 (nuE kid) 2) := rfl
  generalize askE n k 0 (nuE kid) 2 = ae at *
  go_enter Tryz.func57, Tryz.ntmps57
  go_wp2_with fail
  refine ha.mono ?_
  rintro e w1 ⟨rfl, f1⟩
  clear ha
  obtain ⟨c0, c1, c2, c3, c4, c5, c6⟩ := HB.out _ f1
  by_cases hae : ae = 0
  · subst hae
    obtain ⟨hr, hlev, hk16⟩ := HOK.out rfl
    rw [if_pos rfl] at HPU
    have HR : Hid (Rt n ∧ n.lev ≠ 0) := ⟨hr, hlev⟩
    have HIL : Hid (n.kids.length = n.keys.length + 1) := (hr.inner hlev).1
    have hfew := keys_few hr
    have hkl := h.keys.le
    have hkm := h.keys.max
    have HSK : Hid (∀ s ∈ n.keys, s.size ≤ maxLen) := fun s hs => Nat.le_trans (size_of_mem (fun i hi => (hr.keys i hi).1.2) s hs) (by decide)
    have hpl := plc_pl (k := bsOf k) hr.srt
    obtain ⟨pi, pf, hpe⟩ : ∃ pi pf, plc (bsOf k) n.keys = (pi, pf) := ⟨_, _, rfl⟩
    have HPE : Hid (plc (bsOf k) n.keys = (pi, pf)) := hpe
    rw [hpe] at hpl
    simp only at hpl
    have HPL : Hid (Pl (bsOf k) n.keys pi pf) := hpl
    have hple := hpl.le
    clear hr hlev HOK hpe hpl
    go_wp2_with fail
    refine (bare_any n p _).mono ?_
    rintro e w2 ⟨rfl, f2⟩
    clear c0 c1 c2 c3 c4 c5 c6
    have F2 := f1.seq' f2
    have hrb2 : w.heap.size + 1 < w2.heap.size := by have := F2.size; simp at this; omega
    have BS : Bx w2 (w2.alloc (.cells #[.int .i64 n.lev, .int .i64 n.lsn, .int .i64 n.rgt, .string n.high, .slice none 0 0, .slice none 0 0, .slice none 0 0] 34)) w2.heap.size ⟨n.lev, n.lsn, n.rgt, n.high, [], [], []⟩ (.slice none 0 0) (.slice none 0 0) (.slice none 0 0) := Bx.start w2 ⟨n.lev, n.lsn, n.rgt, n.high, [], [], []⟩ rfl rfl rfl
    go_upto_region 5 with fail
    obtain ⟨W8, hW8⟩ : ∃ W, W = w2.alloc (.cells #[.int .i64 n.lev, .int .i64 n.lsn, .int .i64 n.rgt, .string n.high, .slice none 0 0, .slice none 0 0, .slice none 0 0] 34) := ⟨_, rfl⟩
    rw [← hW8] at BS ⊢
    clear hW8
    go_cut [7] (fun e wc => e = .int .i64 0 ∧ ∃ kv vv iv, Bx w2 wc w2.heap.size (postTo n k kid pi pf 0) kv vv iv)
    case first =>
      have hvi : 0 < n.kids.length := by have := HIL.out; omega
      have F8 := F2.seq' BS.fr
      have hN8 := h.same (f0.seq' F8)
      obtain ⟨bw, ow, ew, hbw, hcw⟩ := ints_some hN8.kids hvi
      have hvc := hcw 0 hvi
      have hvi0 : (0 : Int) < (n.kids.length : Int) := by omega
      rw [Nat.add_zero] at hvc
      obtain ⟨d0, d1, d2, d3, d4, d5, d6⟩ := HB.out _ F8
      rw [ew] at d6
      clear ew
      obtain ⟨vj, hvj⟩ : ∃ v, v = n.kids.getD 0 0 := ⟨_, rfl⟩
      have HV0 : Hid (vj = n.kids.getD 0 0) := hvj
      rw [← hvj] at hvc
      obtain ⟨⟨k0, k1, k2, k3, k4, k5, k6⟩, fz⟩ := node_cells BS.box
      obtain ⟨⟨p0, p1, p2, p3, p4, p5, p6⟩, pz⟩ := node_cells (BS.same (Fr.box W8 (.cells #[.int .i64 vj] 3))).box
      obtain ⟨a9, c9, w9, hap, q9, z9, B9⟩ := (BS.same (Fr.refl (fun _ => False) W8).drew).kid vj (Nat.zero_le _)
      simp only [List.length_nil, Nat.zero_add, List.nil_append] at hap q9 B9 k4 k5 k6 p4 p5 p6
      clear hcw hvj
      have HM0 : Hid (postTo n k kid pi pf 0 = (⟨n.lev, n.lsn, n.rgt, n.high, [], [], [vj]⟩ : Nd)) := by
        show _ = _
        have e1 : n.kids.take 1 = [vj] := by rw [take_getD n.kids 0 0 hvi, HV0.out]; simp
        unfold postTo poK poI
        cases pf
        · simp only [Bool.false_eq_true, if_false]
          rw [insTo_zero]
          unfold insTo
          rw [if_neg (by omega), Nat.zero_add, e1]
        · simp only [if_true]
          rw [Nat.zero_add, e1, List.take_zero]
      go_region_law
        (show (if Region.wanted { dst := _, op := .call { callee := .builtin .append, args := _, argTypes := _ }, type := _, pos := _, after := _, guard := _ } _ = true then _ else _); refine step_of (by rfl) (wp_append_run (.tmp 24) (.tmp 29) 32 32 (by rfl) (by rfl) (by rfl) hap ?_))
      all_goals
        obtain ⟨WS, hWS⟩ : ∃ W, W = w9.setCell ⟨w2.heap.size, 6, none⟩ (.slice a9 1 c9) := ⟨_, rfl⟩
        rw [← hWS] at B9 ⊢
        have B0 := B9
        rw [← HM0.out] at B0
        clear hWS hap q9 z9 k0 k1 k2 k3 k4 k5 k6 fz p0 p1 p2 p3 p4 p5 p6 pz d0 d1 d2 d3 d4 d5 d6 hvc hbw B9 BS
        first | (go_meet; exact ⟨rfl, _, _, _, B0⟩) | (go_wp2_with fail; go_meet; exact ⟨rfl, _, _, _, B0⟩)
    case rest =>
    obtain ⟨rfl, kv0, vv0, iv0, B0⟩ := hcut
    clear BS
    obtain ⟨c0, c1, c2, c3, c4, c5, c6⟩ := HB.out _ (F2.seq' B0.fr)
    go_wp2
    go_loopw [10, 35] (fun d i wr => PosR n k kid pi pf w2 d i wr) (fun _ i _ => n.keys.length - (intOf i).toNat)
    case atStart => exact ⟨0, false, _, _, _, _, by omega, rfl, rfl, B0, rfl, by show _ = _; simp, fun _ h => by omega⟩
    case round =>
      obtain ⟨j, b, m, kv, vv, iv, hj, rfl, rfl, B, HM, HBD, HKD⟩ := hrel
      clear B0 c0 c1 c2 c3 c4 c5 c6
      have F := F2.seq' B.fr
      have hN := h.same (f0.seq' F)
      obtain ⟨c0, c1, c2, c3, c4, c5, c6⟩ := HB.out _ F
      obtain ⟨⟨k0, k1, k2, k3, k4, k5, k6⟩, fz⟩ := node_cells B.box
      have HML : Hid (m.keys.length ≤ 70000 ∧ m.kids.length ≤ 70000) := by
        rw [HM.out]
        exact ⟨Nat.le_trans (postTo_len _ _ _ _ _ _).1 (by omega), Nat.le_trans (postTo_len _ _ _ _ _ _).2 (by omega)⟩
      by_cases hlt : j < n.keys.length
      · obtain ⟨bk, ok, ek, hbk, hck⟩ := strs_some hN.keys hlt
        have hkc := hck j hlt
        have hji : (j : Int) < (n.keys.length : Int) := by omega
        have HVI : Hid (j + 1 < n.kids.length) := by show _ < _; have := HIL.out; omega
        have HSB := str_beq (n.keys.getD j ByteArray.empty) k
        have hcm := fun W => rcompare_any (n.keys.getD j ByteArray.empty) k (HSK.out _ (by rw [getD_lt _ _ _ hlt]; exact List.getElem_mem hlt)) hk W
        by_cases hjp : j < pi
        · have HC : Hid (cpl (bsOf (n.keys.getD j ByteArray.empty)) (bsOf k) < 0) := HPL.out.lt j hjp
          have hke : bsOf (n.keys.getD j ByteArray.empty) ≠ bsOf k := fun e => by have := HC.out; rw [e, cpl_refl] at this; omega
          have HM2 : Hid (postTo n k kid pi pf (j + 1) = { m with keys := m.keys ++ [n.keys.getD j ByteArray.empty], kids := m.kids ++ [n.kids.getD (j + 1) 0] }) := by show _ = _; rw [postTo_more hlt HVI.out (.inr (.inl hjp)), HM.out]
          rw [decide_eq_false hke] at HSB
          obtain ⟨c, hc⟩ : ∃ c, c = cpl (bsOf (n.keys.getD j ByteArray.empty)) (bsOf k) := ⟨_, rfl⟩
          rw [← hc] at hcm HC
          have hcl : c < 0 := HC.out
          have hcl2 : c ≤ 0 := by omega
          obtain ⟨y, hy⟩ : ∃ y, y = n.keys.getD j ByteArray.empty := ⟨_, rfl⟩
          obtain ⟨vj, hv⟩ : ∃ v, v = n.kids.getD (j + 1) 0 := ⟨_, rfl⟩
          have HV : Hid (vj = n.kids.getD (j + 1) 0) := hv
          have HY : Hid (y = n.keys.getD j ByteArray.empty) := hy
          rw [← hy] at hkc HSB HM2 hcm
          rw [← hv] at HM2
          have hb0 : b = false := by rw [HBD.out]; simp; omega
          subst hb0
          have HB2 : Hid (false = decide (pi < j + 1)) := by show _ = _; simp; omega
          have HK2 : Hid (pf = true → pi < j + 1 → n.kids.getD (pi + 1) 0 = kid) := fun _ h => by omega
          clear hy hv hck hke hc HC HBD HKD
          rw [ek]
          go_wp2_with fail
          refine (hcm _).mono ?_
          rintro e w6 ⟨rfl, f6⟩
          clear hcm c0 c1 c2 c3 c4 c5 c6 k0 k1 k2 k3 k4 k5 k6 fz hkc hbk
          have B6 := B.same f6
          have F6 := F2.seq' B6.fr
          obtain ⟨c0, c1, c2, c3, c4, c5, c6⟩ := HB.out _ F6
          obtain ⟨⟨k0, k1, k2, k3, k4, k5, k6⟩, fz⟩ := node_cells B6.box
          obtain ⟨a7, c7, w7, hapk, q7, z7, B7⟩ := B6.key y (Nat.le_trans HML.out.1 (by omega))
          go_upto_region 19 with (at_builtin; refine wpList_append_run rfl (.tmp 73) (.tmp 75) 31 31 rfl (by rfl) (by rfl) hapk ?_)
          obtain ⟨W8, hW8⟩ : ∃ W, W = w7.setCell ⟨w2.heap.size, 4, none⟩ (.slice a7 (m.keys.length + 1) c7) := ⟨_, rfl⟩
          rw [← hW8] at B7 ⊢
          clear hW8 hapk q7 z7 k0 k1 k2 k3 k4 k5 k6 fz
          have hvi := HVI.out
          have hjv : (j : Int) + 1 < (n.kids.length : Int) := by omega
          have hks := h.ilen
          have hq00 : (0 : Int) ≤ (j : Int) + 1 := by omega
          have hqt : ((j : Int) + 1).toNat = j + 1 := by omega
          have hqw : IntKind.i64.wrap ((j : Int) + 1) = (j : Int) + 1 := by rw [IntKind.wrap_i64]; omega
          have F8 := F2.seq' B7.fr
          have hN8 := h.same (f0.seq' F8)
          obtain ⟨bw, ow, ew, hbw, hcw⟩ := ints_some hN8.kids hvi
          have hvc := hcw (j + 1) hvi
          obtain ⟨d0, d1, d2, d3, d4, d5, d6⟩ := HB.out _ F8
          rw [ew] at d6
          clear ew
          rw [← HV.out] at hvc
          obtain ⟨⟨k0, k1, k2, k3, k4, k5, k6⟩, fz⟩ := node_cells B7.box
          obtain ⟨⟨p0, p1, p2, p3, p4, p5, p6⟩, pz⟩ := node_cells (B7.same (Fr.box W8 (.cells #[.int .i64 vj] 3))).box
          obtain ⟨a9, c9, w9, hap, q9, z9, B9⟩ := (B7.same (Fr.refl (fun _ => False) W8).drew).kid vj (Nat.le_trans HML.out.2 (by omega))
          clear hcw
          go_region_law
            (show (if Region.wanted { dst := _, op := .call { callee := .builtin .append, args := _, argTypes := _ }, type := _, pos := _, after := _, guard := _ } _ = true then _ else _); refine step_of (by rfl) (wp_append_run (.tmp 79) (.tmp 86) 32 32 (by rfl) (by rfl) (by rfl) hap ?_))
          all_goals
            obtain ⟨W10, hW10⟩ : ∃ W, W = w9.setCell ⟨w2.heap.size, 6, none⟩ (.slice a9 (m.kids.length + 1) c9) := ⟨_, rfl⟩
            try simp only at B9
            rw [← hW10] at B9 ⊢
            clear hW10 hap q9 z9 k0 k1 k2 k3 k4 k5 k6 fz p0 p1 p2 p3 p4 p5 p6 pz d0 d1 d2 d3 d4 d5 d6 hvc hbw
            go_wp2
            go_roundw
            case rel => first | exact ⟨j + 1, false, _, _, _, _, by omega, rfl, by go_num, B9, HM2.out.symm, HB2, HK2⟩ | exact ⟨.bool false, _, _, .int .i64 (((j : Nat) : Int) + 1), ⟨j + 1, false, _, _, _, _, by omega, rfl, by go_num, B9, HM2.out.symm, HB2, HK2⟩, rfl, rfl, rfl, rfl⟩
            case measure => simp [intOf]; omega
        by_cases hjp : pi < j
        · have HC : Hid (0 < cpl (bsOf (n.keys.getD j ByteArray.empty)) (bsOf k)) := HPL.out.ge j (by omega) hlt (.inr hjp)
          have hke : bsOf (n.keys.getD j ByteArray.empty) ≠ bsOf k := fun e => by have := HC.out; rw [e, cpl_refl] at this; omega
          have HM2 : Hid (postTo n k kid pi pf (j + 1) = { m with keys := m.keys ++ [n.keys.getD j ByteArray.empty], kids := m.kids ++ [n.kids.getD (j + 1) 0] }) := by show _ = _; rw [postTo_more hlt HVI.out (.inr (.inr hjp)), HM.out]
          rw [decide_eq_false hke] at HSB
          obtain ⟨y, hy⟩ : ∃ y, y = n.keys.getD j ByteArray.empty := ⟨_, rfl⟩
          obtain ⟨vj, hv⟩ : ∃ v, v = n.kids.getD (j + 1) 0 := ⟨_, rfl⟩
          have HV : Hid (vj = n.kids.getD (j + 1) 0) := hv
          have HY : Hid (y = n.keys.getD j ByteArray.empty) := hy
          rw [← hy] at hkc HSB HM2
          rw [← hv] at HM2
          have hb0 : b = true := by rw [HBD.out]; simp; omega
          subst hb0
          have HB2 : Hid (true = decide (pi < j + 1)) := by show _ = _; simp; omega
          have HK2 : Hid (pf = true → pi < j + 1 → n.kids.getD (pi + 1) 0 = kid) := fun e _ => HKD.out e hjp
          clear hy hv hck hke HC HBD hcm HKD
          rw [ek]
          obtain ⟨a7, c7, w7, hapk, q7, z7, B7⟩ := B.key y (Nat.le_trans HML.out.1 (by omega))
          go_upto_region 19 with (at_builtin; refine wpList_append_run rfl (.tmp 73) (.tmp 75) 31 31 rfl (by rfl) (by rfl) hapk ?_)
          obtain ⟨W8, hW8⟩ : ∃ W, W = w7.setCell ⟨w2.heap.size, 4, none⟩ (.slice a7 (m.keys.length + 1) c7) := ⟨_, rfl⟩
          rw [← hW8] at B7 ⊢
          clear hW8 hapk q7 z7 k0 k1 k2 k3 k4 k5 k6 fz
          have hvi := HVI.out
          have hjv : (j : Int) + 1 < (n.kids.length : Int) := by omega
          have hks := h.ilen
          have hq00 : (0 : Int) ≤ (j : Int) + 1 := by omega
          have hqt : ((j : Int) + 1).toNat = j + 1 := by omega
          have hqw : IntKind.i64.wrap ((j : Int) + 1) = (j : Int) + 1 := by rw [IntKind.wrap_i64]; omega
          have F8 := F2.seq' B7.fr
          have hN8 := h.same (f0.seq' F8)
          obtain ⟨bw, ow, ew, hbw, hcw⟩ := ints_some hN8.kids hvi
          have hvc := hcw (j + 1) hvi
          obtain ⟨d0, d1, d2, d3, d4, d5, d6⟩ := HB.out _ F8
          rw [ew] at d6
          clear ew
          rw [← HV.out] at hvc
          obtain ⟨⟨k0, k1, k2, k3, k4, k5, k6⟩, fz⟩ := node_cells B7.box
          obtain ⟨⟨p0, p1, p2, p3, p4, p5, p6⟩, pz⟩ := node_cells (B7.same (Fr.box W8 (.cells #[.int .i64 vj] 3))).box
          obtain ⟨a9, c9, w9, hap, q9, z9, B9⟩ := (B7.same (Fr.refl (fun _ => False) W8).drew).kid vj (Nat.le_trans HML.out.2 (by omega))
          clear hcw
          go_region_law
            (show (if Region.wanted { dst := _, op := .call { callee := .builtin .append, args := _, argTypes := _ }, type := _, pos := _, after := _, guard := _ } _ = true then _ else _); refine step_of (by rfl) (wp_append_run (.tmp 79) (.tmp 86) 32 32 (by rfl) (by rfl) (by rfl) hap ?_))
          all_goals
            obtain ⟨W10, hW10⟩ : ∃ W, W = w9.setCell ⟨w2.heap.size, 6, none⟩ (.slice a9 (m.kids.length + 1) c9) := ⟨_, rfl⟩
            try simp only at B9
            rw [← hW10] at B9 ⊢
            clear hW10 hap q9 z9 k0 k1 k2 k3 k4 k5 k6 fz p0 p1 p2 p3 p4 p5 p6 pz d0 d1 d2 d3 d4 d5 d6 hvc hbw
            go_wp2
            go_roundw
            case rel => first | exact ⟨j + 1, true, _, _, _, _, by omega, rfl, by go_num, B9, HM2.out.symm, HB2, HK2⟩ | exact ⟨.bool true, _, _, .int .i64 (((j : Nat) : Int) + 1), ⟨j + 1, true, _, _, _, _, by omega, rfl, by go_num, B9, HM2.out.symm, HB2, HK2⟩, rfl, rfl, rfl, rfl⟩
            case measure => simp [intOf]; omega
        have hjp : pi = j := by omega
        subst hjp
        have hb0 : b = false := by rw [HBD.out]; simp
        subst hb0
        have HB2 : Hid (true = decide (pi < pi + 1)) := by show _ = _; simp
        obtain ⟨y, hy⟩ : ∃ y, y = n.keys.getD pi ByteArray.empty := ⟨_, rfl⟩
        obtain ⟨vj, hv⟩ : ∃ v, v = n.kids.getD (pi + 1) 0 := ⟨_, rfl⟩
        have HV : Hid (vj = n.kids.getD (pi + 1) 0) := hv
        have HY : Hid (y = n.keys.getD pi ByteArray.empty) := hy
        rw [← hy] at hkc HSB hcm
        clear hy hv hck HBD HKD
        cases pf
        case true =>
          rw [decide_eq_true (by rw [HY.out]; exact (HPL.out.eq rfl).2)] at HSB
          obtain ⟨bi, oi, ei, hbi, hci⟩ := ints_some hN.kids HVI.out
          have hic := hci (pi + 1) HVI.out
          rw [← HV.out] at hic
          rw [ei] at c6
          clear hci ei hcm
          have hjv : (pi : Int) + 1 < (n.kids.length : Int) := by have := HVI.out; omega
          have hks := h.ilen
          by_cases hkd : vj = kid
          · have HM2 : Hid (postTo n k kid pi true (pi + 1) = { m with keys := m.keys ++ [y], kids := m.kids ++ [vj] }) := by show _ = _; rw [postTo_more hlt HVI.out (.inl rfl), HM.out, HY.out, HV.out]
            have HK2 : Hid (true = true → pi < pi + 1 → n.kids.getD (pi + 1) 0 = kid) := fun _ _ => by rw [← HV.out]; exact hkd
            have hne : (vj != kid) = false := by simpa using hkd
            clear hkd
            rw [ek]
            go_upto_region 18 with fail
            clear hne hic hbi
            obtain ⟨a7, c7, w7, hapk, q7, z7, B7⟩ := B.key y (Nat.le_trans HML.out.1 (by omega))
            go_upto_region 19 with (at_builtin; refine wpList_append_run rfl (.tmp 73) (.tmp 75) 31 31 rfl (by rfl) (by rfl) hapk ?_)
            obtain ⟨W8, hW8⟩ : ∃ W, W = w7.setCell ⟨w2.heap.size, 4, none⟩ (.slice a7 (m.keys.length + 1) c7) := ⟨_, rfl⟩
            rw [← hW8] at B7 ⊢
            clear hW8 hapk q7 z7 k0 k1 k2 k3 k4 k5 k6 fz
            have hvi := HVI.out
            have hjv : (pi : Int) + 1 < (n.kids.length : Int) := by omega
            have hks := h.ilen
            have hq00 : (0 : Int) ≤ (pi : Int) + 1 := by omega
            have hqt : ((pi : Int) + 1).toNat = pi + 1 := by omega
            have hqw : IntKind.i64.wrap ((pi : Int) + 1) = (pi : Int) + 1 := by rw [IntKind.wrap_i64]; omega
            have F8 := F2.seq' B7.fr
            have hN8 := h.same (f0.seq' F8)
            obtain ⟨bw, ow, ew, hbw, hcw⟩ := ints_some hN8.kids hvi
            have hvc := hcw (pi + 1) hvi
            obtain ⟨d0, d1, d2, d3, d4, d5, d6⟩ := HB.out _ F8
            rw [ew] at d6
            clear ew
            rw [← HV.out] at hvc
            obtain ⟨⟨k0, k1, k2, k3, k4, k5, k6⟩, fz⟩ := node_cells B7.box
            obtain ⟨⟨p0, p1, p2, p3, p4, p5, p6⟩, pz⟩ := node_cells (B7.same (Fr.box W8 (.cells #[.int .i64 vj] 3))).box
            obtain ⟨a9, c9, w9, hap, q9, z9, B9⟩ := (B7.same (Fr.refl (fun _ => False) W8).drew).kid vj (Nat.le_trans HML.out.2 (by omega))
            clear hcw
            go_region_law
              (show (if Region.wanted { dst := _, op := .call { callee := .builtin .append, args := _, argTypes := _ }, type := _, pos := _, after := _, guard := _ } _ = true then _ else _); refine step_of (by rfl) (wp_append_run (.tmp 79) (.tmp 86) 32 32 (by rfl) (by rfl) (by rfl) hap ?_))
            all_goals
              obtain ⟨W10, hW10⟩ : ∃ W, W = w9.setCell ⟨w2.heap.size, 6, none⟩ (.slice a9 (m.kids.length + 1) c9) := ⟨_, rfl⟩
              try simp only at B9
              rw [← hW10] at B9 ⊢
              clear hW10 hap q9 z9 k0 k1 k2 k3 k4 k5 k6 fz p0 p1 p2 p3 p4 p5 p6 pz d0 d1 d2 d3 d4 d5 d6 hvc hbw
              go_wp2
              go_roundw
              case rel => first | exact ⟨pi + 1, true, _, _, _, _, by omega, rfl, by go_num, B9, HM2.out.symm, HB2, HK2⟩ | exact ⟨.bool true, _, _, .int .i64 (((pi : Nat) : Int) + 1), ⟨pi + 1, true, _, _, _, _, by omega, rfl, by go_num, B9, HM2.out.symm, HB2, HK2⟩, rfl, rfl, rfl, rfl⟩
              case measure => simp [intOf]; omega
          · have HPF0 : Hid (postE n k kid = 4) := by show _ = _; rw [HPU.out, postF_form HPE.out (by rw [← HV.out]; exact hkd)]
            have hne : (vj != kid) = true := by simpa using hkd
            have hR6 := HRB.out _ F
            obtain ⟨⟨s0, s1, s2, s3, s4, s5, s6⟩, sz⟩ := node_cells hR6
            have y0 := sz 0; have y1 := sz 1; have y2 := sz 2; have y3 := sz 3; have y4 := sz 4; have y5 := sz 5; have y6 := sz 6
            clear hkd sz
            rw [ek]
            go_wp2
            obtain ⟨hq, ff⟩ := fin7 hR6 (.int .i64 0) (.int .i64 0) (.int .i64 0) (.string ⟨#[]⟩) (.slice none 0 0) (.slice none 0 0) (.slice none 0 0)
            have fff := (f0.seq' F).trans ff (S := fun _ => False) (fun i hi e => by omega)
            generalize ((((((wr.setCell ⟨w.heap.size + 1, 0, none⟩ (.int .i64 0)).setCell ⟨w.heap.size + 1, 1, none⟩ (.int .i64 0)).setCell ⟨w.heap.size + 1, 2, none⟩ (.int .i64 0)).setCell ⟨w.heap.size + 1, 3, none⟩ (.string ⟨#[]⟩)).setCell ⟨w.heap.size + 1, 4, none⟩ (.slice none 0 0)).setCell ⟨w.heap.size + 1, 5, none⟩ (.slice none 0 0)).setCell ⟨w.heap.size + 1, 6, none⟩ (.slice none 0 0) = Wf at hq fff ⊢
            obtain ⟨⟨q0, q1, q2, q3, q4, q5, q6⟩, _⟩ := node_cells hq
            rw [HPF0.out, okN_no (by omega)]
            exact bodyPost_ret (v := .tuple #[.agg #[.int .i64 0, .int .i64 0, .int .i64 0, .string ⟨#[]⟩, .slice none 0 0, .slice none 0 0, .slice none 0 0], .int .i64 4]) (by simp [results, Tryz.results57, go_sem, q0, q1, q2, q3, q4, q5, q6]) rfl ⟨zp, rfl, zn_nod _, fff, zp_nw _⟩
        have HC : Hid (0 < cpl (bsOf (n.keys.getD pi ByteArray.empty)) (bsOf k)) := HPL.out.ge pi (by omega) hlt (.inl rfl)
        rw [decide_eq_false (fun e => by rw [HY.out] at e; have := HC.out; rw [e, cpl_refl] at this; omega)] at HSB
        rw [← HY.out] at HC
        obtain ⟨c, hc⟩ : ∃ c, c = cpl (bsOf y) (bsOf k) := ⟨_, rfl⟩
        rw [← hc] at hcm HC
        have hcl : 0 < c := HC.out
        have HK2 : Hid (false = true → pi < pi + 1 → n.kids.getD (pi + 1) 0 = kid) := fun e => by cases e
        clear hc HC
        rw [ek]
        go_wp2_with fail
        refine (hcm _).mono ?_
        rintro e w6 ⟨rfl, f6⟩
        clear hcm c0 c1 c2 c3 c4 c5 c6 k0 k1 k2 k3 k4 k5 k6 fz hkc hbk
        have B6 := B.same f6
        have F6 := F2.seq' B6.fr
        obtain ⟨c0, c1, c2, c3, c4, c5, c6⟩ := HB.out _ F6
        obtain ⟨⟨k0, k1, k2, k3, k4, k5, k6⟩, fz⟩ := node_cells B6.box
        obtain ⟨aA, cA, wA, hapA, qA, zA, BA⟩ := B6.key k (Nat.le_trans HML.out.1 (by omega))
        go_upto_region 16 with (at_builtin; refine wpList_append_run rfl (.tmp 61) (.tmp 63) 31 31 rfl (by rfl) (by rfl) hapA ?_)
        obtain ⟨WA, hWA⟩ : ∃ W, W = wA.setCell ⟨w2.heap.size, 4, none⟩ (.slice aA (m.keys.length + 1) cA) := ⟨_, rfl⟩
        rw [← hWA] at BA ⊢
        clear hWA hapA qA zA k0 k1 k2 k3 k4 k5 k6 fz c0 c1 c2 c3 c4 c5 c6
        obtain ⟨⟨k0, k1, k2, k3, k4, k5, k6⟩, fz⟩ := node_cells BA.box
        obtain ⟨aC, cC, wC, hapC, qC, zC, BC⟩ := BA.kid kid (Nat.le_trans HML.out.2 (by omega))
        go_upto_region 18 with (at_builtin; refine wpList_append_run rfl (.tmp 67) (.tmp 69) 32 32 rfl (by rfl) (by rfl) hapC ?_)
        obtain ⟨WC, hWC⟩ : ∃ W, W = wC.setCell ⟨w2.heap.size, 6, none⟩ (.slice aC (m.kids.length + 1) cC) := ⟨_, rfl⟩
        try simp only at BC
        rw [← hWC] at BC ⊢
        clear hWC hapC qC zC k0 k1 k2 k3 k4 k5 k6 fz
        obtain ⟨m1, hm1⟩ : ∃ x : Nd, x = ⟨m.lev, m.lsn, m.rgt, m.high, m.keys ++ [k], m.vals, m.kids ++ [kid]⟩ := ⟨_, rfl⟩
        have HM2 : Hid (postTo n k kid pi false (pi + 1) = { m1 with keys := m1.keys ++ [y], kids := m1.kids ++ [vj] }) := by show _ = _; rw [postTo_at hlt HVI.out, hm1, HM.out, HY.out, HV.out]
        obtain ⟨kz, vz, iz, B1⟩ : ∃ kz vz iz, Bx w2 WC w2.heap.size m1 kz vz iz := ⟨_, _, _, by rw [hm1]; exact BC⟩
        have HML1 : Hid (m1.keys.length ≤ 100000 ∧ m1.kids.length ≤ 100000) := by
          rw [hm1]
          exact ⟨by show (m.keys ++ [k]).length ≤ _; rw [List.length_append]; have := HML.out.1; simp; omega, by show (m.kids ++ [kid]).length ≤ _; rw [List.length_append]; have := HML.out.2; simp; omega⟩
        clear hm1 BC BA
        obtain ⟨⟨k0, k1, k2, k3, k4, k5, k6⟩, fz⟩ := node_cells B1.box
        obtain ⟨a7, c7, w7, hapk, q7, z7, B7⟩ := B1.key y HML1.out.1
        go_upto_region 19 with (at_builtin; refine wpList_append_run rfl (.tmp 73) (.tmp 75) 31 31 rfl (by rfl) (by rfl) hapk ?_)
        obtain ⟨W8, hW8⟩ : ∃ W, W = w7.setCell ⟨w2.heap.size, 4, none⟩ (.slice a7 (m1.keys.length + 1) c7) := ⟨_, rfl⟩
        rw [← hW8] at B7 ⊢
        clear hW8 hapk q7 z7 k0 k1 k2 k3 k4 k5 k6 fz
        have hvi := HVI.out
        have hjv : (pi : Int) + 1 < (n.kids.length : Int) := by omega
        have hks := h.ilen
        have hq00 : (0 : Int) ≤ (pi : Int) + 1 := by omega
        have hqt : ((pi : Int) + 1).toNat = pi + 1 := by omega
        have hqw : IntKind.i64.wrap ((pi : Int) + 1) = (pi : Int) + 1 := by rw [IntKind.wrap_i64]; omega
        have F8 := F2.seq' B7.fr
        have hN8 := h.same (f0.seq' F8)
        obtain ⟨bw, ow, ew, hbw, hcw⟩ := ints_some hN8.kids hvi
        have hvc := hcw (pi + 1) hvi
        obtain ⟨d0, d1, d2, d3, d4, d5, d6⟩ := HB.out _ F8
        rw [ew] at d6
        clear ew
        rw [← HV.out] at hvc
        obtain ⟨⟨k0, k1, k2, k3, k4, k5, k6⟩, fz⟩ := node_cells B7.box
        obtain ⟨⟨p0, p1, p2, p3, p4, p5, p6⟩, pz⟩ := node_cells (B7.same (Fr.box W8 (.cells #[.int .i64 vj] 3))).box
        obtain ⟨a9, c9, w9, hap, q9, z9, B9⟩ := (B7.same (Fr.refl (fun _ => False) W8).drew).kid vj HML1.out.2
        clear hcw
        go_region_law
          (show (if Region.wanted { dst := _, op := .call { callee := .builtin .append, args := _, argTypes := _ }, type := _, pos := _, after := _, guard := _ } _ = true then _ else _); refine step_of (by rfl) (wp_append_run (.tmp 79) (.tmp 86) 32 32 (by rfl) (by rfl) (by rfl) hap ?_))
        all_goals
          obtain ⟨W10, hW10⟩ : ∃ W, W = w9.setCell ⟨w2.heap.size, 6, none⟩ (.slice a9 (m1.kids.length + 1) c9) := ⟨_, rfl⟩
          try simp only at B9
          rw [← hW10] at B9 ⊢
          clear hW10 hap q9 z9 k0 k1 k2 k3 k4 k5 k6 fz p0 p1 p2 p3 p4 p5 p6 pz d0 d1 d2 d3 d4 d5 d6 hvc hbw
          go_wp2
          go_roundw
          case rel => first | exact ⟨pi + 1, true, _, _, _, _, by omega, rfl, by go_num, B9, HM2.out.symm, HB2, HK2⟩ | exact ⟨.bool true, _, _, .int .i64 (((pi : Nat) : Int) + 1), ⟨pi + 1, true, _, _, _, _, by omega, rfl, by go_num, B9, HM2.out.symm, HB2, HK2⟩, rfl, rfl, rfl, rfl⟩
          case measure => simp [intOf]; omega
      · have hje : j = n.keys.length := by omega
        subst hje
        by_cases hpn : pi < n.keys.length
        · have hb0 : b = true := by rw [HBD.out]; simp; omega
          subst hb0
          have HD : Hid (m = postN n k kid) := by show _ = _; rw [HM.out, postTo_all HR.out.1 HR.out.2 HPE.out (.inr hpn)]
          have HPF : Hid (postE n k kid = fitE m) := by
            show _ = _
            rw [HPU.out, HD.out]
            cases pf
            · exact postF_miss HPE.out
            · rw [postF_hit HR.out.1 HPE.out (HKD.out rfl hpn), postN_hit HPE.out, fit_rt HR.out.1]
          obtain ⟨mz, hmz⟩ : ∃ x, x = m := ⟨_, rfl⟩
          have BZ := B
          rw [← hmz] at BZ HD HPF
          clear hmz HM HBD HKD B k0 k1 k2 k3 k4 k5 k6 fz
          obtain ⟨pf0, e1, e2, e3, nd⟩ := BZ.nod (by rw [HD.out]; exact postN_short HR.out.1 HR.out.2 hk16) (by rw [HD.out]; exact Nat.le_trans (postN_len HR.out.1 HR.out.2).1 (by omega)) (by rw [HD.out]; exact Nat.le_trans (postN_len HR.out.1 HR.out.2).2.1 (by omega)) (by rw [HD.out]; exact Nat.le_trans (postN_len HR.out.1 HR.out.2).2.2 (by omega))
          subst e1; subst e2; subst e3
          have hrr := rright_any mz pf0 _ nd
          obtain ⟨⟨k0, k1, k2, k3, k4, k5, k6⟩, fz⟩ := node_cells BZ.box
          go_wp2_with fail
          refine hrr.mono ?_
          rintro e w6 ⟨rfl, f6⟩
          clear hrr k0 k1 k2 k3 k4 k5 k6 fz
          have B6 := BZ.same f6
          have F6 := F2.seq' B6.fr
          have hR6 := HRB.out _ F6
          obtain ⟨⟨k0, k1, k2, k3, k4, k5, k6⟩, fz⟩ := node_cells B6.box
          obtain ⟨⟨s0, s1, s2, s3, s4, s5, s6⟩, sz⟩ := node_cells hR6
          have y0 := sz 0; have y1 := sz 1; have y2 := sz 2; have y3 := sz 3; have y4 := sz 4; have y5 := sz 5; have y6 := sz 6
          clear sz
          cases hr : rightB mz
          · have HPF5 : Hid (postE n k kid = 5) := by show _ = _; rw [HPF.out]; unfold fitE; rw [hr, if_neg (by simp)]
            clear hr
            go_wp2
            obtain ⟨hq, ff⟩ := fin7 hR6 (.int .i64 0) (.int .i64 0) (.int .i64 0) (.string ⟨#[]⟩) (.slice none 0 0) (.slice none 0 0) (.slice none 0 0)
            have fff := (f0.seq' F6).trans ff (S := fun _ => False) (fun i hi e => by omega)
            generalize ((((((w6.setCell ⟨w.heap.size + 1, 0, none⟩ (.int .i64 0)).setCell ⟨w.heap.size + 1, 1, none⟩ (.int .i64 0)).setCell ⟨w.heap.size + 1, 2, none⟩ (.int .i64 0)).setCell ⟨w.heap.size + 1, 3, none⟩ (.string ⟨#[]⟩)).setCell ⟨w.heap.size + 1, 4, none⟩ (.slice none 0 0)).setCell ⟨w.heap.size + 1, 5, none⟩ (.slice none 0 0)).setCell ⟨w.heap.size + 1, 6, none⟩ (.slice none 0 0) = Wf at hq fff ⊢
            obtain ⟨⟨q0, q1, q2, q3, q4, q5, q6⟩, _⟩ := node_cells hq
            rw [HPF5.out, okN_no (by omega)]
            exact bodyPost_ret (v := .tuple #[.agg #[.int .i64 0, .int .i64 0, .int .i64 0, .string ⟨#[]⟩, .slice none 0 0, .slice none 0 0, .slice none 0 0], .int .i64 5]) (by simp [results, Tryz.results57, go_sem, q0, q1, q2, q3, q4, q5, q6]) rfl ⟨zp, rfl, zn_nod _, fff, zp_nw _⟩
          · have HPF5 : Hid (postE n k kid = 0) := by show _ = _; rw [HPF.out]; unfold fitE; rw [hr, if_pos rfl]
            clear hr
            obtain ⟨pf1, ⟨e1, e2, e3⟩, hq, nd2, ff, hnw⟩ := B6.done (w1 := w) (rb := w.heap.size + 1) (by rw [HD.out]; exact postN_short HR.out.1 HR.out.2 hk16) (by rw [HD.out]; exact Nat.le_trans (postN_len HR.out.1 HR.out.2).1 (by omega)) (by rw [HD.out]; exact Nat.le_trans (postN_len HR.out.1 HR.out.2).2.1 (by omega)) (by rw [HD.out]; exact Nat.le_trans (postN_len HR.out.1 HR.out.2).2.2 (by omega)) hR6 (by omega) hrb2 (f0.seq' F2)
            simp only [Value.slice.injEq, true_and] at e1 e2 e3
            rw [e1.1, e1.2, e2.1, e2.2, e3.1, e3.2] at hq nd2 ff
            rw [e1.1, e1.2] at k4
            rw [e2.1, e2.2] at k5
            rw [e3.1, e3.2] at k6
            clear e1 e2 e3
            go_wp2
            generalize ((((((w6.setCell ⟨w.heap.size + 1, 0, none⟩ (.int .i64 mz.lev)).setCell ⟨w.heap.size + 1, 1, none⟩ (.int .i64 mz.lsn)).setCell ⟨w.heap.size + 1, 2, none⟩ (.int .i64 mz.rgt)).setCell ⟨w.heap.size + 1, 3, none⟩ (.string mz.high)).setCell ⟨w.heap.size + 1, 4, none⟩ (.slice pf1.k mz.keys.length pf1.kc)).setCell ⟨w.heap.size + 1, 5, none⟩ (.slice pf1.v mz.vals.length pf1.vc)).setCell ⟨w.heap.size + 1, 6, none⟩ (.slice pf1.i mz.kids.length pf1.ic) = Wf at hq nd2 ff ⊢
            obtain ⟨⟨q0, q1, q2, q3, q4, q5, q6⟩, _⟩ := node_cells hq
            rw [HPF5.out, okN_ok, ← HD.out]
            exact bodyPost_ret (v := .tuple #[(.agg #[.int .i64 mz.lev, .int .i64 mz.lsn, .int .i64 mz.rgt, .string mz.high, .slice pf1.k mz.keys.length pf1.kc, .slice pf1.v mz.vals.length pf1.vc, .slice pf1.i mz.kids.length pf1.ic]), .int .i64 0]) (by simp [results, Tryz.results57, go_sem, q0, q1, q2, q3, q4, q5, q6]) rfl ⟨pf1, rfl, nd2, ff, hnw⟩
        · have hpn2 : pi = n.keys.length := by omega
          have hpff : pf = false := by
            cases pf
            · rfl
            · have := (HPL.out.eq rfl).1; omega
          subst hpff
          have hb0 : b = false := by rw [HBD.out]; simp; omega
          subst hb0
          have HD0 : Hid (postN n k kid = { m with keys := m.keys ++ [k], kids := m.kids ++ [kid] }) := by show _ = _; rw [HM.out, hpn2, postTo_end HR.out.1 HR.out.2 (by rw [HPE.out, hpn2])]
          clear hpn hpn2 HM HBD HKD
          obtain ⟨aA, cA, wA, hapA, qA, zA, BA⟩ := B.key k (Nat.le_trans HML.out.1 (by omega))
          go_upto_region 23 with (at_builtin; refine wpList_append_run rfl (.tmp 93) (.tmp 95) 31 31 rfl (by rfl) (by rfl) hapA ?_)
          obtain ⟨WA, hWA⟩ : ∃ W, W = wA.setCell ⟨w2.heap.size, 4, none⟩ (.slice aA (m.keys.length + 1) cA) := ⟨_, rfl⟩
          rw [← hWA] at BA ⊢
          clear hWA hapA qA zA k0 k1 k2 k3 k4 k5 k6 fz c0 c1 c2 c3 c4 c5 c6
          obtain ⟨⟨k0, k1, k2, k3, k4, k5, k6⟩, fz⟩ := node_cells BA.box
          obtain ⟨aC, cC, wC, hapC, qC, zC, BC⟩ := BA.kid kid (Nat.le_trans HML.out.2 (by omega))
          go_upto_region 24 with (at_builtin; refine wpList_append_run rfl (.tmp 99) (.tmp 101) 32 32 rfl (by rfl) (by rfl) hapC ?_)
          obtain ⟨WC, hWC⟩ : ∃ W, W = wC.setCell ⟨w2.heap.size, 6, none⟩ (.slice aC (m.kids.length + 1) cC) := ⟨_, rfl⟩
          try simp only at BC
          rw [← hWC] at BC ⊢
          clear hWC hapC qC zC k0 k1 k2 k3 k4 k5 k6 fz
          obtain ⟨mz, hmz⟩ : ∃ x : Nd, x = ⟨m.lev, m.lsn, m.rgt, m.high, m.keys ++ [k], m.vals, m.kids ++ [kid]⟩ := ⟨_, rfl⟩
          have HD : Hid (mz = postN n k kid) := by show _ = _; rw [hmz, HD0.out]
          have HPF : Hid (postE n k kid = fitE mz) := by show _ = _; rw [HPU.out, HD.out]; exact postF_miss HPE.out
          obtain ⟨kz, vz, iz, BZ⟩ : ∃ kz vz iz, Bx w2 WC w2.heap.size mz kz vz iz := ⟨_, _, _, by rw [hmz]; exact BC⟩
          clear hmz BC BA HD0
          obtain ⟨pf0, e1, e2, e3, nd⟩ := BZ.nod (by rw [HD.out]; exact postN_short HR.out.1 HR.out.2 hk16) (by rw [HD.out]; exact Nat.le_trans (postN_len HR.out.1 HR.out.2).1 (by omega)) (by rw [HD.out]; exact Nat.le_trans (postN_len HR.out.1 HR.out.2).2.1 (by omega)) (by rw [HD.out]; exact Nat.le_trans (postN_len HR.out.1 HR.out.2).2.2 (by omega))
          subst e1; subst e2; subst e3
          have hrr := rright_any mz pf0 _ nd
          obtain ⟨⟨k0, k1, k2, k3, k4, k5, k6⟩, fz⟩ := node_cells BZ.box
          go_wp2_with fail
          refine hrr.mono ?_
          rintro e w6 ⟨rfl, f6⟩
          clear hrr k0 k1 k2 k3 k4 k5 k6 fz
          have B6 := BZ.same f6
          have F6 := F2.seq' B6.fr
          have hR6 := HRB.out _ F6
          obtain ⟨⟨k0, k1, k2, k3, k4, k5, k6⟩, fz⟩ := node_cells B6.box
          obtain ⟨⟨s0, s1, s2, s3, s4, s5, s6⟩, sz⟩ := node_cells hR6
          have y0 := sz 0; have y1 := sz 1; have y2 := sz 2; have y3 := sz 3; have y4 := sz 4; have y5 := sz 5; have y6 := sz 6
          clear sz
          cases hr : rightB mz
          · have HPF5 : Hid (postE n k kid = 5) := by show _ = _; rw [HPF.out]; unfold fitE; rw [hr, if_neg (by simp)]
            clear hr
            go_wp2
            obtain ⟨hq, ff⟩ := fin7 hR6 (.int .i64 0) (.int .i64 0) (.int .i64 0) (.string ⟨#[]⟩) (.slice none 0 0) (.slice none 0 0) (.slice none 0 0)
            have fff := (f0.seq' F6).trans ff (S := fun _ => False) (fun i hi e => by omega)
            generalize ((((((w6.setCell ⟨w.heap.size + 1, 0, none⟩ (.int .i64 0)).setCell ⟨w.heap.size + 1, 1, none⟩ (.int .i64 0)).setCell ⟨w.heap.size + 1, 2, none⟩ (.int .i64 0)).setCell ⟨w.heap.size + 1, 3, none⟩ (.string ⟨#[]⟩)).setCell ⟨w.heap.size + 1, 4, none⟩ (.slice none 0 0)).setCell ⟨w.heap.size + 1, 5, none⟩ (.slice none 0 0)).setCell ⟨w.heap.size + 1, 6, none⟩ (.slice none 0 0) = Wf at hq fff ⊢
            obtain ⟨⟨q0, q1, q2, q3, q4, q5, q6⟩, _⟩ := node_cells hq
            rw [HPF5.out, okN_no (by omega)]
            exact bodyPost_ret (v := .tuple #[.agg #[.int .i64 0, .int .i64 0, .int .i64 0, .string ⟨#[]⟩, .slice none 0 0, .slice none 0 0, .slice none 0 0], .int .i64 5]) (by simp [results, Tryz.results57, go_sem, q0, q1, q2, q3, q4, q5, q6]) rfl ⟨zp, rfl, zn_nod _, fff, zp_nw _⟩
          · have HPF5 : Hid (postE n k kid = 0) := by show _ = _; rw [HPF.out]; unfold fitE; rw [hr, if_pos rfl]
            clear hr
            obtain ⟨pf1, ⟨e1, e2, e3⟩, hq, nd2, ff, hnw⟩ := B6.done (w1 := w) (rb := w.heap.size + 1) (by rw [HD.out]; exact postN_short HR.out.1 HR.out.2 hk16) (by rw [HD.out]; exact Nat.le_trans (postN_len HR.out.1 HR.out.2).1 (by omega)) (by rw [HD.out]; exact Nat.le_trans (postN_len HR.out.1 HR.out.2).2.1 (by omega)) (by rw [HD.out]; exact Nat.le_trans (postN_len HR.out.1 HR.out.2).2.2 (by omega)) hR6 (by omega) hrb2 (f0.seq' F2)
            simp only [Value.slice.injEq, true_and] at e1 e2 e3
            rw [e1.1, e1.2, e2.1, e2.2, e3.1, e3.2] at hq nd2 ff
            rw [e1.1, e1.2] at k4
            rw [e2.1, e2.2] at k5
            rw [e3.1, e3.2] at k6
            clear e1 e2 e3
            go_wp2
            generalize ((((((w6.setCell ⟨w.heap.size + 1, 0, none⟩ (.int .i64 mz.lev)).setCell ⟨w.heap.size + 1, 1, none⟩ (.int .i64 mz.lsn)).setCell ⟨w.heap.size + 1, 2, none⟩ (.int .i64 mz.rgt)).setCell ⟨w.heap.size + 1, 3, none⟩ (.string mz.high)).setCell ⟨w.heap.size + 1, 4, none⟩ (.slice pf1.k mz.keys.length pf1.kc)).setCell ⟨w.heap.size + 1, 5, none⟩ (.slice pf1.v mz.vals.length pf1.vc)).setCell ⟨w.heap.size + 1, 6, none⟩ (.slice pf1.i mz.kids.length pf1.ic) = Wf at hq nd2 ff ⊢
            obtain ⟨⟨q0, q1, q2, q3, q4, q5, q6⟩, _⟩ := node_cells hq
            rw [HPF5.out, okN_ok, ← HD.out]
            exact bodyPost_ret (v := .tuple #[(.agg #[.int .i64 mz.lev, .int .i64 mz.lsn, .int .i64 mz.rgt, .string mz.high, .slice pf1.k mz.keys.length pf1.kc, .slice pf1.v mz.vals.length pf1.vc, .slice pf1.i mz.kids.length pf1.ic]), .int .i64 0]) (by simp [results, Tryz.results57, go_sem, q0, q1, q2, q3, q4, q5, q6]) rfl ⟨pf1, rfl, nd2, ff, hnw⟩
  · have hne : (ae != 0) = true := by simpa using hae
    have HP0 : Hid (ae ≠ 0) := hae
    rw [if_neg hae] at HPU
    have hR6 := HRB.out _ f1
    obtain ⟨⟨s0, s1, s2, s3, s4, s5, s6⟩, sz⟩ := node_cells hR6
    have y0 := sz 0; have y1 := sz 1; have y2 := sz 2; have y3 := sz 3; have y4 := sz 4; have y5 := sz 5; have y6 := sz 6
    clear hae sz
    go_wp2
    obtain ⟨hq, ff⟩ := fin7 hR6 (.int .i64 0) (.int .i64 0) (.int .i64 0) (.string ⟨#[]⟩) (.slice none 0 0) (.slice none 0 0) (.slice none 0 0)
    have fff := (f0.seq' f1).trans ff (S := fun _ => False) (fun i hi e => by omega)
    generalize ((((((w1.setCell ⟨w.heap.size + 1, 0, none⟩ (.int .i64 0)).setCell ⟨w.heap.size + 1, 1, none⟩ (.int .i64 0)).setCell ⟨w.heap.size + 1, 2, none⟩ (.int .i64 0)).setCell ⟨w.heap.size + 1, 3, none⟩ (.string ⟨#[]⟩)).setCell ⟨w.heap.size + 1, 4, none⟩ (.slice none 0 0)).setCell ⟨w.heap.size + 1, 5, none⟩ (.slice none 0 0)).setCell ⟨w.heap.size + 1, 6, none⟩ (.slice none 0 0) = Wf at hq fff ⊢
    obtain ⟨⟨q0, q1, q2, q3, q4, q5, q6⟩, _⟩ := node_cells hq
    rw [HPU.out, okN_no HP0.out]
    exact bodyPost_ret (v := .tuple #[.agg #[.int .i64 0, .int .i64 0, .int .i64 0, .string ⟨#[]⟩, .slice none 0 0, .slice none 0 0, .slice none 0 0], .int .i64 ae]) (by simp [results, Tryz.results57, go_sem, q0, q1, q2, q3, q4, q5, q6]) rfl ⟨zp, rfl, zn_nod _, fff, zp_nw _⟩
end Go.Proofs.YtlgceleelhppdaaGreat
