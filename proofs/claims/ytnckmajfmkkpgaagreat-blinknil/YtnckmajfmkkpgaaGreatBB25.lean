
/- NdRDel, NdDel. -/
import Derived.Test.YtnckmajfmkkpgaaGreatBB21
import Derived.Test.YtnckmajfmkkpgaaGreatBB22
import Derived.Test.YtnckmajfmkkpgaaGreatBB23
import Derived.Test.YtnckmajfmkkpgaaGreatBB24
/- What the document's Del makes. -/
namespace Go.Proofs.YtnckmajfmkkpgaaGreat
open Go.RowKit

/-- The first j entries without a key. -/
def delTo (n : Nd) (k : ByteArray) (j : Nat) : Nd := ⟨n.lev, n.lsn, n.rgt, n.high, erTo (plc (bsOf k) n.keys).2 (plc (bsOf k) n.keys).1 j n.keys, erTo (plc (bsOf k) n.keys).2 (plc (bsOf k) n.keys).1 j n.vals, []⟩
def delN (n : Nd) (k : ByteArray) : Nd := delTo n k n.keys.length
theorem delTo_hit {n : Nd} {k : ByteArray} {j : Nat} (hs : srt n.keys) (hj : j < n.keys.length) (hv : j < n.vals.length) (he : bsOf (n.keys.getD j ByteArray.empty) = bsOf k) : delTo n k (j + 1) = delTo n k j := by
  unfold delTo; rw [plc_at hs j hj he, erTo_hit _ _ hj, erTo_hit _ _ hv]
theorem delTo_miss {n : Nd} {k : ByteArray} {j : Nat} (hs : srt n.keys) (hj : j < n.keys.length) (hv : j < n.vals.length) (he : bsOf (n.keys.getD j ByteArray.empty) ≠ bsOf k) :
    delTo n k (j + 1) = { delTo n k j with keys := (delTo n k j).keys ++ [n.keys.getD j ByteArray.empty], vals := (delTo n k j).vals ++ [n.vals.getD j ByteArray.empty] } := by
  have hne : ¬ ((plc (bsOf k) n.keys).2 = true ∧ (plc (bsOf k) n.keys).1 = j) := fun e => he (by have := ((plc_pl (k := bsOf k) hs).eq e.1).2; rw [e.2] at this; exact this)
  unfold delTo; rw [erTo_miss _ _ _ _ ByteArray.empty hj hne, erTo_miss _ _ _ _ ByteArray.empty hv hne]
theorem delTo_short {n : Nd} {k : ByteArray} {j : Nat} (r : Rt n) (h0 : n.lev = 0) : Short (delTo n k j) :=
  ⟨by have := r.high; show n.high.size ≤ _; omega, fun s hs => Nat.le_trans (size_of_mem (fun i hi => (r.keys i hi).1.2) s (erTo_mem _ _ _ _ s hs)) (by omega), fun s hs => Nat.le_trans (size_of_mem (r.leaf h0).2.2 s (erTo_mem _ _ _ _ s hs)) (by omega)⟩
end Go.Proofs.YtnckmajfmkkpgaaGreat

/- What Del makes. -/
namespace Go.Proofs.YtnckmajfmkkpgaaGreat
open Go.RowKit

/-- The node is stored in its own box, with lists of its own. -/
theorem By.start {w w4 wc : World} {n : Nd} {kv vv iv r0 r1 r2 r3 r4 r5 r6 : Value} (hb : wc.heap[w.heap.size]? = some (.cells #[r0, r1, r2, r3, r4, r5, r6] 28 (0, 0))) (f : Fr (fun _ => False) w wc) (h4 : w.heap.size + 2 ≤ w4.heap.size)
    (hK : Has wc 1 kv n.keys.length (strCells n.keys)) (hV : Has wc 1 vv n.vals.length (strCells n.vals)) (hI : Has wc 1 iv n.kids.length (intCells n.kids))
    (oK : ∀ g, kv.ownBlock = some g → w4.heap.size ≤ g) (oV : ∀ g, vv.ownBlock = some g → w4.heap.size ≤ g) (oI : ∀ g, iv.ownBlock = some g → w4.heap.size ≤ g)
    (nkv : ∀ g, kv.ownBlock = some g → vv.ownBlock ≠ some g) (nki : ∀ g, kv.ownBlock = some g → iv.ownBlock ≠ some g) (nvi : ∀ g, vv.ownBlock = some g → iv.ownBlock ≠ some g) :
    By w (((((((wc.setCell ⟨w.heap.size, 0, none⟩ (.int .i64 n.lev)).setCell ⟨w.heap.size, 1, none⟩ (.int .i64 n.lsn)).setCell ⟨w.heap.size, 2, none⟩ (.int .i64 n.rgt)).setCell ⟨w.heap.size, 3, none⟩ (.string n.high)).setCell ⟨w.heap.size, 4, none⟩ kv).setCell ⟨w.heap.size, 5, none⟩ vv).setCell ⟨w.heap.size, 6, none⟩ iv) w.heap.size n kv vv iv ∧
    Fr (fun k => k = w.heap.size) wc (((((((wc.setCell ⟨w.heap.size, 0, none⟩ (.int .i64 n.lev)).setCell ⟨w.heap.size, 1, none⟩ (.int .i64 n.lsn)).setCell ⟨w.heap.size, 2, none⟩ (.int .i64 n.rgt)).setCell ⟨w.heap.size, 3, none⟩ (.string n.high)).setCell ⟨w.heap.size, 4, none⟩ kv).setCell ⟨w.heap.size, 5, none⟩ vv).setCell ⟨w.heap.size, 6, none⟩ iv) := by
  obtain ⟨hq, ff⟩ := fin7 hb (.int .i64 n.lev) (.int .i64 n.lsn) (.int .i64 n.rgt) (.string n.high) kv vv iv
  exact ⟨⟨⟨hq, Nat.le_refl _, hK.fr ff (fun g e e2 => by have := oK g e; omega), hV.fr ff (fun g e e2 => by have := oV g e; omega), hI.fr ff (fun g e e2 => by have := oI g e; omega), (fun g e => by have := oK g e; omega), (fun g e => by have := oV g e; omega), (fun g e => by have := oI g e; omega), nkv, nki, nvi, f.trans ff (S := fun _ => False) (fun i hi e => by omega)⟩, (fun g e => by have := oK g e; omega), (fun g e => by have := oV g e; omega), (fun g e => by have := oI g e; omega)⟩, ff⟩
theorem rt_short {n : Nd} (r : Rt n) (h0 : n.lev = 0) : Short n :=
  ⟨by have := r.high; omega, fun s hs => Nat.le_trans (size_of_mem (fun i hi => (r.keys i hi).1.2) s hs) (by omega), fun s hs => Nat.le_trans (size_of_mem (r.leaf h0).2.2 s hs) (by omega)⟩
theorem erTo_false {α : Type} (i j : Nat) (l : List α) (h : l.length ≤ j) : erTo false i j l = l := by unfold erTo; rw [if_neg (by simp), List.take_of_length_le h]
theorem erTo_true {α : Type} (i j : Nat) (l : List α) (h : l.length ≤ j) (hi : i < l.length) : erTo true i j l = l.eraseIdx i := by unfold erTo; rw [if_pos ⟨rfl, by omega⟩, List.take_of_length_le h]
theorem delN_none {n : Nd} {k : ByteArray} (r : Rt n) (h0 : n.lev = 0) (hf : (plc (bsOf k) n.keys).2 = false) : delN n k = n := by
  have hi : n.kids = [] := List.eq_nil_of_length_eq_zero (r.leaf h0).2.1
  unfold delN delTo
  rw [hf, erTo_false _ _ _ (Nat.le_refl _), erTo_false _ _ _ (by have := (r.leaf h0).1; omega), ← hi]
theorem delN_some {n : Nd} {k : ByteArray} {i : Nat} (r : Rt n) (h0 : n.lev = 0) (hi : i < n.keys.length) (hf : plc (bsOf k) n.keys = (i, true)) : delN n k = { n with keys := n.keys.eraseIdx i, vals := n.vals.eraseIdx i } := by
  have hi0 : n.kids = [] := List.eq_nil_of_length_eq_zero (r.leaf h0).2.1
  have hvl := (r.leaf h0).1
  unfold delN delTo
  rw [hf, erTo_true _ _ _ (Nat.le_refl _) hi, erTo_true _ _ _ (by omega) (by omega), ← hi0]
set_option maxRecDepth 100000 in
set_option maxHeartbeats 4000000 in
theorem del_any (n : Nd) (p : Pt) (k : ByteArray) (hk : k.size ≤ maxLen) (w : World) (h : Nod w n p) : Calls Tryz.prog 71 #[(.agg #[.int .i64 n.lev, .int .i64 n.lsn, .int .i64 n.rgt, .string n.high, .slice p.k n.keys.length p.kc, .slice p.v n.vals.length p.vc, .slice p.i n.kids.length p.ic]), .string k] w fun e w' => NdOut2 (okN (askE n k 0 0 1) (delN n k)) (askE n k 0 0 1) w e w' := by
  have f0 : Fr (fun _ => False) w ((w.alloc (.cells #[.int .i64 n.lev, .int .i64 n.lsn, .int .i64 n.rgt, .string n.high, .slice p.k n.keys.length p.kc, .slice p.v n.vals.length p.vc, .slice p.i n.kids.length p.ic] 28)).alloc (.cells #[.int .i64 0, .int .i64 0, .int .i64 0, .string ⟨#[]⟩, .slice none 0 0, .slice none 0 0, .slice none 0 0] 28)) := ((Fr.refl _ _).alloc _).alloc _
  have HB : Hid (∀ W, Fr (fun _ => False) ((w.alloc (.cells #[.int .i64 n.lev, .int .i64 n.lsn, .int .i64 n.rgt, .string n.high, .slice p.k n.keys.length p.kc, .slice p.v n.vals.length p.vc, .slice p.i n.kids.length p.ic] 28)).alloc (.cells #[.int .i64 0, .int .i64 0, .int .i64 0, .string ⟨#[]⟩, .slice none 0 0, .slice none 0 0, .slice none 0 0] 28)) W → W.cell? ⟨w.heap.size, 0, none⟩ = some (.int .i64 n.lev) ∧ W.cell? ⟨w.heap.size, 1, none⟩ = some (.int .i64 n.lsn) ∧ W.cell? ⟨w.heap.size, 2, none⟩ = some (.int .i64 n.rgt) ∧ W.cell? ⟨w.heap.size, 3, none⟩ = some (.string n.high) ∧ W.cell? ⟨w.heap.size, 4, none⟩ = some (.slice p.k n.keys.length p.kc) ∧ W.cell? ⟨w.heap.size, 5, none⟩ = some (.slice p.v n.vals.length p.vc) ∧ W.cell? ⟨w.heap.size, 6, none⟩ = some (.slice p.i n.kids.length p.ic)) := fun W f => box_cells (box_at w n p 28 (((Fr.refl _ _).alloc _).seq' f))
  have HBB : Hid (∀ W, Fr (fun _ => False) ((w.alloc (.cells #[.int .i64 n.lev, .int .i64 n.lsn, .int .i64 n.rgt, .string n.high, .slice p.k n.keys.length p.kc, .slice p.v n.vals.length p.vc, .slice p.i n.kids.length p.ic] 28)).alloc (.cells #[.int .i64 0, .int .i64 0, .int .i64 0, .string ⟨#[]⟩, .slice none 0 0, .slice none 0 0, .slice none 0 0] 28)) W → W.heap[w.heap.size]? = some (.cells #[.int .i64 n.lev, .int .i64 n.lsn, .int .i64 n.rgt, .string n.high, .slice p.k n.keys.length p.kc, .slice p.v n.vals.length p.vc, .slice p.i n.kids.length p.ic] 28 (0, 0))) := fun W f => box_at w n p 28 (((Fr.refl _ _).alloc _).seq' f)
  have HRB : Hid (∀ W, Fr (fun _ => False) ((w.alloc (.cells #[.int .i64 n.lev, .int .i64 n.lsn, .int .i64 n.rgt, .string n.high, .slice p.k n.keys.length p.kc, .slice p.v n.vals.length p.vc, .slice p.i n.kids.length p.ic] 28)).alloc (.cells #[.int .i64 0, .int .i64 0, .int .i64 0, .string ⟨#[]⟩, .slice none 0 0, .slice none 0 0, .slice none 0 0] 28)) W → W.heap[w.heap.size + 1]? = some (.cells #[.int .i64 0, .int .i64 0, .int .i64 0, .string ⟨#[]⟩, .slice none 0 0, .slice none 0 0, .slice none 0 0] 28 (0, 0))) := fun W f => by
    refine f.blk ?_ (fun f => f)
    have := heap_alloc_new (w.alloc (.cells #[.int .i64 n.lev, .int .i64 n.lsn, .int .i64 n.rgt, .string n.high, .slice p.k n.keys.length p.kc, .slice p.v n.vals.length p.vc, .slice p.i n.kids.length p.ic] 28)) (.cells #[.int .i64 0, .int .i64 0, .int .i64 0, .string ⟨#[]⟩, .slice none 0 0, .slice none 0 0, .slice none 0 0] 28)
    rw [show (w.alloc (.cells #[.int .i64 n.lev, .int .i64 n.lsn, .int .i64 n.rgt, .string n.high, .slice p.k n.keys.length p.kc, .slice p.v n.vals.length p.vc, .slice p.i n.kids.length p.ic] 28)).heap.size = w.heap.size + 1 by simp] at this
    exact this
  have hh := high_le h
  have fr0 := (Fr.refl (fun _ => False) ((w.alloc (.cells #[.int .i64 n.lev, .int .i64 n.lsn, .int .i64 n.rgt, .string n.high, .slice p.k n.keys.length p.kc, .slice p.v n.vals.length p.vc, .slice p.i n.kids.length p.ic] 28)).alloc (.cells #[.int .i64 0, .int .i64 0, .int .i64 0, .string ⟨#[]⟩, .slice none 0 0, .slice none 0 0, .slice none 0 0] 28))).drew
  have q0 := HB.out _ fr0
  have hN := h.same (f0.seq' fr0)
  have HA : Hid (firstE [rgE n, ekey k.size, suE n k 1] = askE n k 0 0 1) := ask_3 n k 1
  have HOK : Hid (askE n k 0 0 1 = 0 → Rt n ∧ n.lev = 0) := fun h => ⟨(ask_ok h).1, ask1_leaf h⟩
  generalize askE n k 0 0 1 = ae at *
  go_enter Tryz.func71, Tryz.ntmps71
  go_wp2_with fail
  go_region_held3 (fun W => W.cell? ⟨w.heap.size, 0, none⟩ = some (.int .i64 n.lev) ∧ W.cell? ⟨w.heap.size, 1, none⟩ = some (.int .i64 n.lsn) ∧ W.cell? ⟨w.heap.size, 2, none⟩ = some (.int .i64 n.rgt) ∧ W.cell? ⟨w.heap.size, 3, none⟩ = some (.string n.high) ∧ W.cell? ⟨w.heap.size, 4, none⟩ = some (.slice p.k n.keys.length p.kc) ∧ W.cell? ⟨w.heap.size, 5, none⟩ = some (.slice p.v n.vals.length p.vc) ∧ W.cell? ⟨w.heap.size, 6, none⟩ = some (.slice p.i n.kids.length p.ic))
    (first | with_reducible exact q0 | with_reducible exact q1 | with_reducible exact q3 | with_reducible exact q4)
    (first
      | (go_at_call 91; refine (checkNode_any n p _ hN).mono ?_; rintro e w1 ⟨rfl, m1⟩; have fr1 := fr0.seq' m1; have q1 := HB.out _ fr1)
      | (go_at_call 78; refine (kcheck_any k _).mono ?_; rintro e w2 ⟨rfl, rfl⟩)
      | (go_at_call 93; refine (suits_any n p k 1 (by omega) hh hk _).mono ?_; rintro e w3 ⟨rfl, m3⟩; have fr3 := fr1.seq' m3; have q3 := HB.out _ fr3; have fr4 := fr3.alloc (.cells #[.int .i64 (rgE n), .int .i64 (ekey k.size : Nat), .int .i64 (suE n k 1)] 31); have q4 := HB.out _ fr4)
      | (go_at_call 90; refine (first3 (rgE n) (ekey k.size : Nat) (suE n k 1) w3).mono ?_; rw [HA.out]; rintro e w5 ⟨rfl, rfl⟩))
  have hN4 := h.same (f0.seq' fr4)
  have F4 := f0.seq' fr4
  obtain ⟨c0, c1, c2, c3, c4, c5, c6⟩ := q4
  generalize w3.alloc (.cells #[.int .i64 (rgE n), .int .i64 (ekey k.size : Nat), .int .i64 (suE n k 1)] 31) = w4 at *
  clear q0 q1 q3
  by_cases hae : ae = 0
  · subst hae
    obtain ⟨r, hlev⟩ := HOK.out rfl
    have hfew := keys_few r
    have HR : Hid (Rt n ∧ n.lev = 0) := ⟨r, hlev⟩
    have HVL : Hid (n.vals.length = n.keys.length) := (r.leaf hlev).1
    have HSH : Hid (Short n) := rt_short r hlev
    have HLN : Hid (n.keys.length ≤ 100000 ∧ n.vals.length ≤ 100000 ∧ n.kids.length ≤ 100000) := ⟨by omega, by rw [(r.leaf hlev).1]; omega, by rw [(r.leaf hlev).2.1]; omega⟩
    have hcp := copied_any n p HLN.out.1 HLN.out.2.1 HLN.out.2.2 _ hN4
    have h42 : w.heap.size + 2 ≤ w4.heap.size := by have := fr4.size; simp at this; omega
    have hpl := plc_pl (k := bsOf k) r.srt
    clear r hlev HOK HA
    go_wp2_with fail
    refine hcp.mono ?_
    rintro e wc ⟨ak, ck, av, cv, ai, ci, rfl, hK, hV, hI, oK, oV, oI, nkv, nki, nvi, fc⟩
    clear c0 c1 c2 c3 c4 c5 c6
    have frc := fr4.seq' fc
    have hbc := HBB.out _ frc
    have hRc := HRB.out _ frc
    obtain ⟨Y, fY⟩ := By.start hbc (f0.seq' frc) h42 hK hV hI oK oV oI nkv nki nvi
    have hRY := fY.blk hRc (by omega)
    have hszY : w.heap.size + 1 < wc.heap.size := by have := fc.size; omega
    obtain ⟨⟨c0, c1, c2, c3, c4, c5, c6⟩, cz⟩ := node_cells hbc
    have y0 := cz 0; have y1 := cz 1; have y2 := cz 2; have y3 := cz 3; have y4 := cz 4; have y5 := cz 5; have y6 := cz 6
    have hszY2 := fY.size
    obtain ⟨WY, hWY⟩ : ∃ W, W = ((((((wc.setCell ⟨w.heap.size, 0, none⟩ (.int .i64 n.lev)).setCell ⟨w.heap.size, 1, none⟩ (.int .i64 n.lsn)).setCell ⟨w.heap.size, 2, none⟩ (.int .i64 n.rgt)).setCell ⟨w.heap.size, 3, none⟩ (.string n.high)).setCell ⟨w.heap.size, 4, none⟩ (.slice ak n.keys.length ck)).setCell ⟨w.heap.size, 5, none⟩ (.slice av n.vals.length cv)).setCell ⟨w.heap.size, 6, none⟩ (.slice ai n.kids.length ci) := ⟨_, rfl⟩
    rw [← hWY] at Y hRY hszY2
    have HWY : Hid (WY = ((((((wc.setCell ⟨w.heap.size, 0, none⟩ (.int .i64 n.lev)).setCell ⟨w.heap.size, 1, none⟩ (.int .i64 n.lsn)).setCell ⟨w.heap.size, 2, none⟩ (.int .i64 n.rgt)).setCell ⟨w.heap.size, 3, none⟩ (.string n.high)).setCell ⟨w.heap.size, 4, none⟩ (.slice ak n.keys.length ck)).setCell ⟨w.heap.size, 5, none⟩ (.slice av n.vals.length cv)).setCell ⟨w.heap.size, 6, none⟩ (.slice ai n.kids.length ci)) := hWY
    have hpc := place_any ak n.keys.length ck n.keys rfl k hk WY (CpS.strs Y.keys HSH.out.keys)
    clear hWY cz fY
    go_wp2_with fail
    rw [← HWY.out]
    obtain ⟨pi, pf, hpe⟩ : ∃ pi pf, plc (bsOf k) n.keys = (pi, pf) := ⟨_, _, rfl⟩
    have HPE : Hid (plc (bsOf k) n.keys = (pi, pf)) := hpe
    rw [hpe] at hpl hpc
    simp only at hpl hpc
    refine hpc.mono ?_
    rintro e w6 ⟨rfl, f6⟩
    have Y6 := Y.same f6
    have hR6 := f6.blk hRY (fun f => f)
    have hs6 : w.heap.size + 1 < w6.heap.size := by have := f6.size; omega
    clear c0 c1 c2 c3 c4 c5 c6 y0 y1 y2 y3 y4 y5 y6 hpc hpe hbc hRc hRY Y hK hV hI oK oV oI nkv nki nvi HWY
    obtain ⟨⟨d0, d1, d2, d3, d4, d5, d6⟩, _⟩ := node_cells Y6.box
    cases pf
    · have HD : Hid (delN n k = n) := delN_none HR.out.1 HR.out.2 (by rw [HPE.out])
      obtain ⟨⟨s0, s1, s2, s3, s4, s5, s6⟩, sz⟩ := node_cells hR6
      have y0 := sz 0; have y1 := sz 1; have y2 := sz 2; have y3 := sz 3; have y4 := sz 4; have y5 := sz 5; have y6 := sz 6
      obtain ⟨pf, ⟨e1, e2, e3⟩, hq, nd, ff, hnw⟩ := Y6.done HSH.out HLN.out.1 HLN.out.2.1 HLN.out.2.2 hR6
      simp only [Value.slice.injEq, true_and] at e1 e2 e3
      obtain ⟨rfl, rfl⟩ := e1
      obtain ⟨rfl, rfl⟩ := e2
      obtain ⟨rfl, rfl⟩ := e3
      clear sz
      go_wp2
      generalize ((((((w6.setCell ⟨w.heap.size + 1, 0, none⟩ (.int .i64 n.lev)).setCell ⟨w.heap.size + 1, 1, none⟩ (.int .i64 n.lsn)).setCell ⟨w.heap.size + 1, 2, none⟩ (.int .i64 n.rgt)).setCell ⟨w.heap.size + 1, 3, none⟩ (.string n.high)).setCell ⟨w.heap.size + 1, 4, none⟩ (.slice pf.k n.keys.length pf.kc)).setCell ⟨w.heap.size + 1, 5, none⟩ (.slice pf.v n.vals.length pf.vc)).setCell ⟨w.heap.size + 1, 6, none⟩ (.slice pf.i n.kids.length pf.ic) = Wf at hq nd ff ⊢
      obtain ⟨⟨q0, q1, q2, q3, q4, q5, q6⟩, _⟩ := node_cells hq
      rw [okN_ok, HD.out]
      exact bodyPost_ret (v := .tuple #[(.agg #[.int .i64 n.lev, .int .i64 n.lsn, .int .i64 n.rgt, .string n.high, .slice pf.k n.keys.length pf.kc, .slice pf.v n.vals.length pf.vc, .slice pf.i n.kids.length pf.ic]), .int .i64 0]) (by simp [results, Tryz.results71, go_sem, q0, q1, q2, q3, q4, q5, q6]) rfl ⟨pf, rfl, nd, ff, hnw⟩
    · have hpi := (hpl.eq rfl).1
      have HD : Hid (delN n k = { n with keys := n.keys.eraseIdx pi, vals := n.vals.eraseIdx pi }) := delN_some HR.out.1 HR.out.2 hpi HPE.out
      have hpv : pi < n.vals.length := by rw [HVL.out]; exact hpi
      have HLE : Hid ((n.keys.eraseIdx pi).length = n.keys.length - 1) := by show _ = _; rw [List.length_eraseIdx, if_pos hpi]
      have HLV : Hid ((n.vals.eraseIdx pi).length = n.vals.length - 1) := by show _ = _; rw [List.length_eraseIdx, if_pos hpv]
      have HSE : Hid (Short { n with keys := n.keys.eraseIdx pi, vals := n.vals.eraseIdx pi }) := ⟨HSH.out.high, fun s hs => HSH.out.keys s (List.mem_of_mem_eraseIdx hs), fun s hs => HSH.out.vals s (List.mem_of_mem_eraseIdx hs)⟩
      have hdl := delete_s _ n.keys pi w6 Y6.keys hpi
      rw [show (((pi + 1 : Nat)) : Int) = (pi : Int) + 1 by omega] at hdl
      have hpb : (pi : Int) + 1 ≤ 100000 := by omega
      clear hpl
      go_wp2_with fail
      refine hdl.mono ?_
      rintro e w7 ⟨a7, c7, rfl, h7, f7, o7⟩
      rw [← HLE.out] at h7 o7 ⊢
      obtain ⟨hb7, Y7⟩ := Y6.newk hs6 h7 f7 o7
      have hR7 := f7.blk hR6 (fun e => by have := Y6.ok2 _ e; omega)
      have hR8 := ((Fr.refl (fun k => k = w.heap.size) w7).setCell (p := ⟨w.heap.size, 4, none⟩) (fun _ => rfl) (.slice a7 (n.keys.eraseIdx pi).length c7)).blk hR7 (by omega)
      have hs7 : w.heap.size + 1 < w7.heap.size := by have := f7.size; omega
      have hs8 : w.heap.size + 1 < (w7.setCell ⟨w.heap.size, 4, none⟩ (.slice a7 (n.keys.eraseIdx pi).length c7)).heap.size := by simpa [World.setCell] using hs7
      clear d0 d1 d2 d3 d4 d5 d6
      obtain ⟨⟨d0, d1, d2, d3, d4, d5, d6⟩, dz⟩ := node_cells hb7
      have z4 := dz 4
      obtain ⟨W8, hW8⟩ : ∃ W, W = w7.setCell ⟨w.heap.size, 4, none⟩ (.slice a7 (n.keys.eraseIdx pi).length c7) := ⟨_, rfl⟩
      have HW8 : Hid (W8 = w7.setCell ⟨w.heap.size, 4, none⟩ (.slice a7 (n.keys.eraseIdx pi).length c7)) := hW8
      rw [← hW8] at Y7 hR8 hs8
      have hdv := delete_s _ n.vals pi W8 Y7.vals hpv
      rw [show (((pi + 1 : Nat)) : Int) = (pi : Int) + 1 by omega] at hdv
      clear dz hW8 hdl
      go_wp2_with fail
      rw [← HW8.out]
      refine hdv.mono ?_
      rintro e w9 ⟨a9, c9, rfl, h9, f9, o9⟩
      rw [← HLV.out] at h9 o9 ⊢
      obtain ⟨hb9, Y9⟩ := Y7.newv hs8 h9 f9 o9
      have hR9 := f9.blk hR8 (fun e => by have := Y7.ov2 _ e; omega)
      have hRA := ((Fr.refl (fun k => k = w.heap.size) w9).setCell (p := ⟨w.heap.size, 5, none⟩) (fun _ => rfl) (.slice a9 (n.vals.eraseIdx pi).length c9)).blk hR9 (by omega)
      clear d0 d1 d2 d3 d4 d5 d6 z4
      obtain ⟨⟨d0, d1, d2, d3, d4, d5, d6⟩, dz⟩ := node_cells hb9
      have z5 := dz 5
      obtain ⟨⟨s0, s1, s2, s3, s4, s5, s6⟩, sz⟩ := node_cells hR9
      have y0 := sz 0; have y1 := sz 1; have y2 := sz 2; have y3 := sz 3; have y4 := sz 4; have y5 := sz 5; have y6 := sz 6
      obtain ⟨pf, ⟨e1, e2, e3⟩, hq, nd, ff, hnw⟩ := Y9.done HSE.out (by show (n.keys.eraseIdx pi).length ≤ _; rw [HLE.out]; have := HLN.out.1; omega) (by show (n.vals.eraseIdx pi).length ≤ _; rw [HLV.out]; have := HLN.out.2.1; omega) HLN.out.2.2 hRA
      simp only [Value.slice.injEq, true_and] at e1 e2 e3
      obtain ⟨rfl, rfl⟩ := e1
      obtain ⟨rfl, rfl⟩ := e2
      obtain ⟨rfl, rfl⟩ := e3
      clear sz dz hdv
      simp only at hq nd ff
      go_wp2
      generalize (((((((w9.setCell ⟨w.heap.size, 5, none⟩ (.slice pf.v (n.vals.eraseIdx pi).length pf.vc)).setCell ⟨w.heap.size + 1, 0, none⟩ (.int .i64 n.lev)).setCell ⟨w.heap.size + 1, 1, none⟩ (.int .i64 n.lsn)).setCell ⟨w.heap.size + 1, 2, none⟩ (.int .i64 n.rgt)).setCell ⟨w.heap.size + 1, 3, none⟩ (.string n.high)).setCell ⟨w.heap.size + 1, 4, none⟩ (.slice pf.k (n.keys.eraseIdx pi).length pf.kc)).setCell ⟨w.heap.size + 1, 5, none⟩ (.slice pf.v (n.vals.eraseIdx pi).length pf.vc)).setCell ⟨w.heap.size + 1, 6, none⟩ (.slice pf.i n.kids.length pf.ic) = Wf at hq nd ff ⊢
      obtain ⟨⟨q0, q1, q2, q3, q4, q5, q6⟩, _⟩ := node_cells hq
      rw [okN_ok, HD.out]
      exact bodyPost_ret (v := .tuple #[.agg #[.int .i64 n.lev, .int .i64 n.lsn, .int .i64 n.rgt, .string n.high, .slice pf.k (n.keys.eraseIdx pi).length pf.kc, .slice pf.v (n.vals.eraseIdx pi).length pf.vc, .slice pf.i n.kids.length pf.ic], .int .i64 0]) (by simp [results, Tryz.results71, go_sem, q0, q1, q2, q3, q4, q5, q6]) rfl ⟨pf, rfl, nd, ff, hnw⟩
  · have hne : (ae != 0) = true := by simpa using hae
    have HP0 : Hid (ae ≠ 0) := hae
    have hR6 := HRB.out _ fr4
    obtain ⟨⟨s0, s1, s2, s3, s4, s5, s6⟩, sz⟩ := node_cells hR6
    have y0 := sz 0; have y1 := sz 1; have y2 := sz 2; have y3 := sz 3; have y4 := sz 4; have y5 := sz 5; have y6 := sz 6
    clear hae sz
    go_wp2
    obtain ⟨hq, ff⟩ := fin7 hR6 (.int .i64 0) (.int .i64 0) (.int .i64 0) (.string ⟨#[]⟩) (.slice none 0 0) (.slice none 0 0) (.slice none 0 0)
    have fff := (f0.seq' fr4).trans ff (S := fun _ => False) (fun i hi e => by omega)
    generalize ((((((w4.setCell ⟨w.heap.size + 1, 0, none⟩ (.int .i64 0)).setCell ⟨w.heap.size + 1, 1, none⟩ (.int .i64 0)).setCell ⟨w.heap.size + 1, 2, none⟩ (.int .i64 0)).setCell ⟨w.heap.size + 1, 3, none⟩ (.string ⟨#[]⟩)).setCell ⟨w.heap.size + 1, 4, none⟩ (.slice none 0 0)).setCell ⟨w.heap.size + 1, 5, none⟩ (.slice none 0 0)).setCell ⟨w.heap.size + 1, 6, none⟩ (.slice none 0 0) = Wf at hq fff ⊢
    obtain ⟨⟨q0, q1, q2, q3, q4, q5, q6⟩, _⟩ := node_cells hq
    rw [okN_no HP0.out]
    exact bodyPost_ret (v := .tuple #[.agg #[.int .i64 0, .int .i64 0, .int .i64 0, .string ⟨#[]⟩, .slice none 0 0, .slice none 0 0, .slice none 0 0], .int .i64 ae]) (by simp [results, Tryz.results71, go_sem, q0, q1, q2, q3, q4, q5, q6]) rfl ⟨zp, rfl, zn_nod _, fff, zp_nw _⟩
end Go.Proofs.YtnckmajfmkkpgaaGreat
