
/- What parted, Left and Rest make. -/
import Derived.Test.YtaaedmacefiinaaNdPart
namespace Go.Proofs.Ytaaedmacefiinaa
open Go.RowKit

theorem piece_any (n : Nd) (p : Pt) (r : Rt n) (b e : Nat) (h1 : b ≤ e) (h2 : e ≤ n.keys.length) (w : World) (h : Nod w n p) : Calls Try.prog 77 #[(.agg #[.int .i64 n.lev, .int .i64 n.lsn, .int .i64 n.rgt, .string n.high, .slice p.k n.keys.length p.kc, .slice p.v n.vals.length p.vc, .slice p.i n.kids.length p.ic]), .int .i64 b, .int .i64 e] w fun en w' => NdOut (pieceN n b e) w en w' := by
  by_cases h0 : n.lev = 0
  · exact piece_leaf n p r b e h1 h2 h0 w h
  · exact piece_inner n p r b e h1 h2 h0 w h
theorem plc_le (k : List Nat) (l : List ByteArray) : (plc k l).1 ≤ l.length := by
  induction l with
  | nil => simp [plc]
  | cons x r ih =>
    simp only [plc]
    split
    · simp
    · simp only [List.length_cons]; omega
theorem plc_lt (k : List Nat) (l : List ByteArray) (h : (plc k l).2 = true) : (plc k l).1 < l.length := by
  induction l with
  | nil => simp [plc] at h
  | cons x r ih =>
    simp only [plc] at h ⊢
    split at h
    · rename_i e; rw [if_pos e]; simp
    · rename_i e; rw [if_neg e]; simp only [List.length_cons] at h ⊢; have := ih h; omega
/-- Where a node is parted by a key: the error, the left part's end, the right part's beginning. -/
def parE (n : Nd) (k : ByteArray) : Int := if n.lev = 0 ∨ (plc (bsOf k) n.keys).2 = true then 0 else 6
def parA (n : Nd) (k : ByteArray) : Nat := if parE n k = 0 then (plc (bsOf k) n.keys).1 else 0
def parB (n : Nd) (k : ByteArray) : Nat := if parE n k = 0 then (if n.lev = 0 then (plc (bsOf k) n.keys).1 else (plc (bsOf k) n.keys).1 + 1) else 0
theorem parE_leaf {n : Nd} {k : ByteArray} (h : n.lev = 0) : parE n k = 0 := if_pos (Or.inl h)
theorem parE_hit {n : Nd} {k : ByteArray} (h : (plc (bsOf k) n.keys).2 = true) : parE n k = 0 := if_pos (Or.inr h)
theorem parE_miss {n : Nd} {k : ByteArray} (h : ¬ n.lev = 0) (hf : (plc (bsOf k) n.keys).2 = false) : parE n k = 6 := if_neg (fun e => by rcases e with e | e; exact h e; rw [hf] at e; cases e)
theorem parA_ok {n : Nd} {k : ByteArray} (h : parE n k = 0) : parA n k = (plc (bsOf k) n.keys).1 := if_pos h
theorem parB_leaf {n : Nd} {k : ByteArray} (h : n.lev = 0) : parB n k = (plc (bsOf k) n.keys).1 := by unfold parB; rw [if_pos (parE_leaf h), if_pos h]
theorem parB_hit {n : Nd} {k : ByteArray} (h : ¬ n.lev = 0) (hf : (plc (bsOf k) n.keys).2 = true) : parB n k = (plc (bsOf k) n.keys).1 + 1 := by unfold parB; rw [if_pos (parE_hit hf), if_neg h]
theorem parA_no {n : Nd} {k : ByteArray} (h : parE n k ≠ 0) : parA n k = 0 := if_neg h
theorem parB_no {n : Nd} {k : ByteArray} (h : parE n k ≠ 0) : parB n k = 0 := if_neg h
theorem parA_le (n : Nd) (k : ByteArray) : parA n k ≤ n.keys.length := by
  have := plc_le (bsOf k) n.keys
  unfold parA
  split <;> omega
theorem parB_le (n : Nd) (k : ByteArray) : parB n k ≤ n.keys.length := by
  have h1 := plc_le (bsOf k) n.keys
  by_cases h0 : n.lev = 0
  · rw [parB_leaf h0]; exact h1
  · cases hf : (plc (bsOf k) n.keys).2
    · unfold parB; rw [parE_miss h0 hf, if_neg (by omega)]; omega
    · have := plc_lt _ _ hf
      rw [parB_hit h0 hf]; omega
theorem ret_iii {a b c d e f : Int} (h : a = b) (k : c = d) (l : e = f) : Ending.returned (.tuple #[.int .i64 a, .int .i64 c, .int .i64 e]) = .returned (.tuple #[.int .i64 b, .int .i64 d, .int .i64 f]) := by rw [h, k, l]
set_option maxRecDepth 100000 in
set_option maxHeartbeats 1000000 in
theorem parted_any (n : Nd) (p : Pt) (k : ByteArray) (hk : k.size ≤ maxLen) (w : World) (h : Nod w n p) : Calls Try.prog 76 #[(.agg #[.int .i64 n.lev, .int .i64 n.lsn, .int .i64 n.rgt, .string n.high, .slice p.k n.keys.length p.kc, .slice p.v n.vals.length p.vc, .slice p.i n.kids.length p.ic]), .string k] w fun e w' => e = .returned (.tuple #[.int .i64 (parA n k : Nat), .int .i64 (parB n k : Nat), .int .i64 (parE n k)]) ∧ Fr (fun _ => False) w w' := by
  have f0 := Fr.box w (.cells #[.int .i64 n.lev, .int .i64 n.lsn, .int .i64 n.rgt, .string n.high, .slice p.k n.keys.length p.kc, .slice p.v n.vals.length p.vc, .slice p.i n.kids.length p.ic] 25)
  have HB : Hid (∀ W, Fr (fun _ => False) (w.alloc (.cells #[.int .i64 n.lev, .int .i64 n.lsn, .int .i64 n.rgt, .string n.high, .slice p.k n.keys.length p.kc, .slice p.v n.vals.length p.vc, .slice p.i n.kids.length p.ic] 25)) W → W.cell? ⟨w.heap.size, 0, none⟩ = some (.int .i64 n.lev) ∧ W.cell? ⟨w.heap.size, 1, none⟩ = some (.int .i64 n.lsn) ∧ W.cell? ⟨w.heap.size, 2, none⟩ = some (.int .i64 n.rgt) ∧ W.cell? ⟨w.heap.size, 3, none⟩ = some (.string n.high) ∧ W.cell? ⟨w.heap.size, 4, none⟩ = some (.slice p.k n.keys.length p.kc) ∧ W.cell? ⟨w.heap.size, 5, none⟩ = some (.slice p.v n.vals.length p.vc) ∧ W.cell? ⟨w.heap.size, 6, none⟩ = some (.slice p.i n.kids.length p.ic)) := fun W f => box_cells (box_at w n p 25 f)
  have hpc := place_any p.k n.keys.length p.kc n.keys rfl k hk _ (h.same f0).keys
  have hlf := fun W => isLeafN_any n p W
  have hpl : (plc (bsOf k) n.keys).1 ≤ n.keys.length := plc_le (bsOf k) n.keys
  have hkl := h.klen
  obtain ⟨pi, pf, hpe⟩ : ∃ pi pf, plc (bsOf k) n.keys = (pi, pf) := ⟨_, _, rfl⟩
  rw [hpe] at hpc hpl
  simp only at hpc hpl
  by_cases h0 : n.lev = 0
  · have hb : (n.lev == 0) = true := by simpa using h0
    rw [hb] at hlf
    rw [parA_ok (parE_leaf h0), parB_leaf h0, parE_leaf h0, hpe]
    clear h0 hb hpe
    go_enter Try.func76, Try.ntmps76
    go_wp2_with fail
    refine hpc.mono ?_
    rintro e w1 ⟨rfl, f1⟩
    obtain ⟨c0, c1, c2, c3, c4, c5, c6⟩ := HB.out _ f1
    go_wp2_with fail
    refine (hlf _).mono ?_
    rintro e w2 ⟨rfl, f2⟩
    go_wp2
    go_ret3
    exact ⟨rfl, (f0.seq' f1).seq' f2⟩
  · have hb : (n.lev == 0) = false := by simpa using h0
    rw [hb] at hlf
    cases pf
    · have e6 := parE_miss (k := k) h0 (by rw [hpe])
      rw [parA_no (by rw [e6]; omega), parB_no (by rw [e6]; omega), e6]
      clear e6
      clear h0 hb hpe
      go_enter Try.func76, Try.ntmps76
      go_wp2_with fail
      refine hpc.mono ?_
      rintro e w1 ⟨rfl, f1⟩
      obtain ⟨c0, c1, c2, c3, c4, c5, c6⟩ := HB.out _ f1
      go_wp2_with fail
      refine (hlf _).mono ?_
      rintro e w2 ⟨rfl, f2⟩
      go_wp2
      go_ret3
      exact ⟨rfl, (f0.seq' f1).seq' f2⟩
    · have ht : (plc (bsOf k) n.keys).2 = true := by rw [hpe]
      rw [parA_ok (parE_hit ht), parB_hit h0 ht, parE_hit ht, hpe]
      clear ht
      clear h0 hb hpe
      go_enter Try.func76, Try.ntmps76
      go_wp2_with fail
      refine hpc.mono ?_
      rintro e w1 ⟨rfl, f1⟩
      obtain ⟨c0, c1, c2, c3, c4, c5, c6⟩ := HB.out _ f1
      go_wp2_with fail
      refine (hlf _).mono ?_
      rintro e w2 ⟨rfl, f2⟩
      go_wp2
      go_ret3
      exact ⟨ret_iii rfl (by omega) rfl, (f0.seq' f1).seq' f2⟩
/-- A node, where there is no error. -/
def okN (e : Int) (m : Nd) : Nd := if e = 0 then m else zn
theorem okN_ok (m : Nd) : okN 0 m = m := if_pos rfl
theorem okN_no {e : Int} (h : e ≠ 0) (m : Nd) : okN e m = zn := if_neg h
/-- The error of Left and Rest. -/
def lrE (n : Nd) (k : ByteArray) (en : Int) : Int := if askE n k 0 en 0 = 0 then parE n k else askE n k 0 en 0
def leftN (n : Nd) (k : ByteArray) (right : Int) : Nd := { pieceN n 0 (parA n k) with high := k, rgt := right }
def restN (n : Nd) (k : ByteArray) : Nd := pieceN n (parB n k) n.keys.length
set_option maxRecDepth 100000 in
set_option maxHeartbeats 2000000 in
theorem rest_any (n : Nd) (p : Pt) (k : ByteArray) (hk : k.size ≤ maxLen) (w : World) (h : Nod w n p) : Calls Try.prog 35 #[(.agg #[.int .i64 n.lev, .int .i64 n.lsn, .int .i64 n.rgt, .string n.high, .slice p.k n.keys.length p.kc, .slice p.v n.vals.length p.vc, .slice p.i n.kids.length p.ic]), .string k] w fun e w' => NdOut2 (okN (lrE n k 0) (restN n k)) (lrE n k 0) w e w' := by
  have f0 : Fr (fun _ => False) w ((w.alloc (.cells #[.int .i64 n.lev, .int .i64 n.lsn, .int .i64 n.rgt, .string n.high, .slice p.k n.keys.length p.kc, .slice p.v n.vals.length p.vc, .slice p.i n.kids.length p.ic] 25)).alloc (.cells #[.int .i64 0, .int .i64 0, .int .i64 0, .string ⟨#[]⟩, .slice none 0 0, .slice none 0 0, .slice none 0 0] 25)) := ((Fr.refl _ _).alloc _).alloc _
  have HB : Hid (∀ W, Fr (fun _ => False) ((w.alloc (.cells #[.int .i64 n.lev, .int .i64 n.lsn, .int .i64 n.rgt, .string n.high, .slice p.k n.keys.length p.kc, .slice p.v n.vals.length p.vc, .slice p.i n.kids.length p.ic] 25)).alloc (.cells #[.int .i64 0, .int .i64 0, .int .i64 0, .string ⟨#[]⟩, .slice none 0 0, .slice none 0 0, .slice none 0 0] 25)) W → W.cell? ⟨w.heap.size, 0, none⟩ = some (.int .i64 n.lev) ∧ W.cell? ⟨w.heap.size, 1, none⟩ = some (.int .i64 n.lsn) ∧ W.cell? ⟨w.heap.size, 2, none⟩ = some (.int .i64 n.rgt) ∧ W.cell? ⟨w.heap.size, 3, none⟩ = some (.string n.high) ∧ W.cell? ⟨w.heap.size, 4, none⟩ = some (.slice p.k n.keys.length p.kc) ∧ W.cell? ⟨w.heap.size, 5, none⟩ = some (.slice p.v n.vals.length p.vc) ∧ W.cell? ⟨w.heap.size, 6, none⟩ = some (.slice p.i n.kids.length p.ic)) := fun W f => box_cells (box_at w n p 25 (((Fr.refl _ _).alloc _).seq' f))
  have HRB : Hid (∀ W, Fr (fun _ => False) ((w.alloc (.cells #[.int .i64 n.lev, .int .i64 n.lsn, .int .i64 n.rgt, .string n.high, .slice p.k n.keys.length p.kc, .slice p.v n.vals.length p.vc, .slice p.i n.kids.length p.ic] 25)).alloc (.cells #[.int .i64 0, .int .i64 0, .int .i64 0, .string ⟨#[]⟩, .slice none 0 0, .slice none 0 0, .slice none 0 0] 25)) W → W.heap[w.heap.size + 1]? = some (.cells #[.int .i64 0, .int .i64 0, .int .i64 0, .string ⟨#[]⟩, .slice none 0 0, .slice none 0 0, .slice none 0 0] 25 (0, 0))) := fun W f => by
    refine f.blk ?_ (fun f => f)
    have := heap_alloc_new (w.alloc (.cells #[.int .i64 n.lev, .int .i64 n.lsn, .int .i64 n.rgt, .string n.high, .slice p.k n.keys.length p.kc, .slice p.v n.vals.length p.vc, .slice p.i n.kids.length p.ic] 25)) (.cells #[.int .i64 0, .int .i64 0, .int .i64 0, .string ⟨#[]⟩, .slice none 0 0, .slice none 0 0, .slice none 0 0] 25)
    rw [show (w.alloc (.cells #[.int .i64 n.lev, .int .i64 n.lsn, .int .i64 n.rgt, .string n.high, .slice p.k n.keys.length p.kc, .slice p.v n.vals.length p.vc, .slice p.i n.kids.length p.ic] 25)).heap.size = w.heap.size + 1 by simp] at this
    exact this
  have hh := high_le h
  have fr0 := (Fr.refl (fun _ => False) ((w.alloc (.cells #[.int .i64 n.lev, .int .i64 n.lsn, .int .i64 n.rgt, .string n.high, .slice p.k n.keys.length p.kc, .slice p.v n.vals.length p.vc, .slice p.i n.kids.length p.ic] 25)).alloc (.cells #[.int .i64 0, .int .i64 0, .int .i64 0, .string ⟨#[]⟩, .slice none 0 0, .slice none 0 0, .slice none 0 0] 25))).drew
  have q0 := HB.out _ fr0
  have hN := h.same (f0.seq' fr0)
  have HA : Hid (firstE [rgE n, ekey k.size, suE n k 0] = askE n k 0 0 0) := ask_3 n k 0
  have HOK : Hid (askE n k 0 0 0 = 0 → Rt n) := fun h => (ask_ok h).1
  have HE : Hid (lrE n k 0 = if askE n k 0 0 0 = 0 then parE n k else askE n k 0 0 0) := rfl
  have hpb : parB n k ≤ n.keys.length := parB_le n k
  generalize askE n k 0 0 0 = ae at *
  go_enter Try.func35, Try.ntmps35
  go_wp2_with fail
  go_region_held3 (fun W => W.cell? ⟨w.heap.size, 0, none⟩ = some (.int .i64 n.lev) ∧ W.cell? ⟨w.heap.size, 1, none⟩ = some (.int .i64 n.lsn) ∧ W.cell? ⟨w.heap.size, 2, none⟩ = some (.int .i64 n.rgt) ∧ W.cell? ⟨w.heap.size, 3, none⟩ = some (.string n.high) ∧ W.cell? ⟨w.heap.size, 4, none⟩ = some (.slice p.k n.keys.length p.kc) ∧ W.cell? ⟨w.heap.size, 5, none⟩ = some (.slice p.v n.vals.length p.vc) ∧ W.cell? ⟨w.heap.size, 6, none⟩ = some (.slice p.i n.kids.length p.ic))
    (first | with_reducible exact q0 | with_reducible exact q1 | with_reducible exact q3 | with_reducible exact q4)
    (first
      | (go_at_call 56; refine (checkNode_any n p _ hN).mono ?_; rintro e w1 ⟨rfl, m1⟩; have fr1 := fr0.seq' m1; have q1 := HB.out _ fr1)
      | (go_at_call 57; refine (kcheck_any k _).mono ?_; rintro e w2 ⟨rfl, rfl⟩)
      | (go_at_call 58; refine (suits_any n p k 0 (by omega) hh hk _).mono ?_; rintro e w3 ⟨rfl, m3⟩; have fr3 := fr1.seq' m3; have q3 := HB.out _ fr3; have fr4 := fr3.alloc (.cells #[.int .i64 (rgE n), .int .i64 (ekey k.size : Nat), .int .i64 (suE n k 0)] 27); have q4 := HB.out _ fr4)
      | (go_at_call 55; refine (first3 (rgE n) (ekey k.size : Nat) (suE n k 0) w3).mono ?_; rw [HA.out]; rintro e w5 ⟨rfl, rfl⟩))
  have hN4 := h.same (f0.seq' fr4)
  obtain ⟨c0, c1, c2, c3, c4, c5, c6⟩ := q4
  obtain ⟨⟨s0, s1, s2, s3, s4, s5, s6⟩, sz⟩ := node_cells (HRB.out _ fr4)
  have y0 := sz 0; have y1 := sz 1; have y2 := sz 2; have y3 := sz 3; have y4 := sz 4; have y5 := sz 5; have y6 := sz 6
  generalize w3.alloc (.cells #[.int .i64 (rgE n), .int .i64 (ekey k.size : Nat), .int .i64 (suE n k 0)] 27) = w4 at *
  clear q0 q1 q3 sz
  by_cases hae : ae = 0
  · subst hae
    have r := HOK.out rfl
    rw [if_pos rfl] at HE
    have hpt := parted_any n p k hk _ hN4
    by_cases hp0 : parE n k = 0
    · have HL : Hid (lrE n k 0 = 0) := by show _ = _; rw [HE.out]; exact hp0
      rw [hp0] at hpt
      have hpc := fun W hW => piece_any n p r (parB n k) n.keys.length hpb (Nat.le_refl _) W hW
      have HRN : Hid (restN n k = pieceN n (parB n k) n.keys.length) := rfl
      generalize pieceN n (parB n k) n.keys.length = m at *
      generalize parB n k = pb at *
      generalize parA n k = pa at *
      clear y0 y1 y2 y3 y4 y5 y6 s0 s1 s2 s3 s4 s5 s6
      go_wp2_with fail
      refine hpt.mono ?_
      rintro e w5 ⟨rfl, f5⟩
      clear c0 c1 c2 c3 c4 c5 c6
      have fr5 := fr4.seq' f5
      obtain ⟨c0, c1, c2, c3, c4, c5, c6⟩ := HB.out _ fr5
      go_wp2_with fail
      refine (hpc _ (h.same (f0.seq' fr5))).mono ?_
      rintro e w6 ⟨p6, rfl, nd6, far6, f6⟩
      clear c0 c1 c2 c3 c4 c5 c6
      have fr6 := fr5.seq' f6
      have hR6 := HRB.out _ fr6
      obtain ⟨⟨s0, s1, s2, s3, s4, s5, s6⟩, sz⟩ := node_cells hR6
      have y0 := sz 0; have y1 := sz 1; have y2 := sz 2; have y3 := sz 3; have y4 := sz 4; have y5 := sz 5; have y6 := sz 6
      clear sz
      go_wp2
      obtain ⟨hq, ff⟩ := fin7 hR6 (.int .i64 m.lev) (.int .i64 m.lsn) (.int .i64 m.rgt) (.string m.high) (.slice p6.k m.keys.length p6.kc) (.slice p6.v m.vals.length p6.vc) (.slice p6.i m.kids.length p6.ic)
      have fff := (f0.seq' fr6).trans ff (S := fun _ => False) (fun i hi e => by omega)
      have ndf := nd_far nd6 ff (fun b off hx e => by have := far6 b off hx; have := fr5.size; simp at this; omega)
      generalize ((((((w6.setCell ⟨w.heap.size + 1, 0, none⟩ (.int .i64 m.lev)).setCell ⟨w.heap.size + 1, 1, none⟩ (.int .i64 m.lsn)).setCell ⟨w.heap.size + 1, 2, none⟩ (.int .i64 m.rgt)).setCell ⟨w.heap.size + 1, 3, none⟩ (.string m.high)).setCell ⟨w.heap.size + 1, 4, none⟩ (.slice p6.k m.keys.length p6.kc)).setCell ⟨w.heap.size + 1, 5, none⟩ (.slice p6.v m.vals.length p6.vc)).setCell ⟨w.heap.size + 1, 6, none⟩ (.slice p6.i m.kids.length p6.ic) = Wf at hq fff ndf ⊢
      obtain ⟨⟨q0, q1, q2, q3, q4, q5, q6⟩, _⟩ := node_cells hq
      rw [HL.out, okN_ok, HRN.out]
      exact bodyPost_ret (v := .tuple #[(.agg #[.int .i64 m.lev, .int .i64 m.lsn, .int .i64 m.rgt, .string m.high, .slice p6.k m.keys.length p6.kc, .slice p6.v m.vals.length p6.vc, .slice p6.i m.kids.length p6.ic]), .int .i64 0]) (by simp [results, Try.results35, go_sem, q0, q1, q2, q3, q4, q5, q6]) rfl ⟨p6, rfl, ndf, fff⟩
    · have HL : Hid (lrE n k 0 = parE n k) := HE.out
      have hne : (parE n k != 0) = true := by simpa using hp0
      have HP0 : Hid (parE n k ≠ 0) := hp0
      generalize parB n k = pb at *
      generalize parA n k = pa at *
      generalize parE n k = pe at *
      clear y0 y1 y2 y3 y4 y5 y6 s0 s1 s2 s3 s4 s5 s6 hp0
      go_wp2_with fail
      refine hpt.mono ?_
      rintro e w5 ⟨rfl, f5⟩
      have fr5 := fr4.seq' f5
      have hR6 := HRB.out _ fr5
      obtain ⟨⟨s0, s1, s2, s3, s4, s5, s6⟩, sz⟩ := node_cells hR6
      have y0 := sz 0; have y1 := sz 1; have y2 := sz 2; have y3 := sz 3; have y4 := sz 4; have y5 := sz 5; have y6 := sz 6
      clear sz
      go_wp2
      obtain ⟨hq, ff⟩ := fin7 hR6 (.int .i64 0) (.int .i64 0) (.int .i64 0) (.string ⟨#[]⟩) (.slice none 0 0) (.slice none 0 0) (.slice none 0 0)
      have fff := (f0.seq' fr5).trans ff (S := fun _ => False) (fun i hi e => by omega)
      generalize ((((((w5.setCell ⟨w.heap.size + 1, 0, none⟩ (.int .i64 0)).setCell ⟨w.heap.size + 1, 1, none⟩ (.int .i64 0)).setCell ⟨w.heap.size + 1, 2, none⟩ (.int .i64 0)).setCell ⟨w.heap.size + 1, 3, none⟩ (.string ⟨#[]⟩)).setCell ⟨w.heap.size + 1, 4, none⟩ (.slice none 0 0)).setCell ⟨w.heap.size + 1, 5, none⟩ (.slice none 0 0)).setCell ⟨w.heap.size + 1, 6, none⟩ (.slice none 0 0) = Wf at hq fff ⊢
      obtain ⟨⟨q0, q1, q2, q3, q4, q5, q6⟩, _⟩ := node_cells hq
      rw [HL.out, okN_no HP0.out]
      exact bodyPost_ret (v := .tuple #[.agg #[.int .i64 0, .int .i64 0, .int .i64 0, .string ⟨#[]⟩, .slice none 0 0, .slice none 0 0, .slice none 0 0], .int .i64 pe]) (by simp [results, Try.results35, go_sem, q0, q1, q2, q3, q4, q5, q6]) rfl ⟨zp, rfl, zn_nod _, fff⟩
  · have hne : (ae != 0) = true := by simpa using hae
    rw [if_neg hae] at HE
    have HP0 : Hid (ae ≠ 0) := hae
    have hR6 := HRB.out _ fr4
    clear hae
    go_wp2
    obtain ⟨hq, ff⟩ := fin7 hR6 (.int .i64 0) (.int .i64 0) (.int .i64 0) (.string ⟨#[]⟩) (.slice none 0 0) (.slice none 0 0) (.slice none 0 0)
    have fff := (f0.seq' fr4).trans ff (S := fun _ => False) (fun i hi e => by omega)
    generalize ((((((w4.setCell ⟨w.heap.size + 1, 0, none⟩ (.int .i64 0)).setCell ⟨w.heap.size + 1, 1, none⟩ (.int .i64 0)).setCell ⟨w.heap.size + 1, 2, none⟩ (.int .i64 0)).setCell ⟨w.heap.size + 1, 3, none⟩ (.string ⟨#[]⟩)).setCell ⟨w.heap.size + 1, 4, none⟩ (.slice none 0 0)).setCell ⟨w.heap.size + 1, 5, none⟩ (.slice none 0 0)).setCell ⟨w.heap.size + 1, 6, none⟩ (.slice none 0 0) = Wf at hq fff ⊢
    obtain ⟨⟨q0, q1, q2, q3, q4, q5, q6⟩, _⟩ := node_cells hq
    rw [HE.out, okN_no HP0.out]
    exact bodyPost_ret (v := .tuple #[.agg #[.int .i64 0, .int .i64 0, .int .i64 0, .string ⟨#[]⟩, .slice none 0 0, .slice none 0 0, .slice none 0 0], .int .i64 ae]) (by simp [results, Try.results35, go_sem, q0, q1, q2, q3, q4, q5, q6]) rfl ⟨zp, rfl, zn_nod _, fff⟩
end Go.Proofs.Ytaaedmacefiinaa
