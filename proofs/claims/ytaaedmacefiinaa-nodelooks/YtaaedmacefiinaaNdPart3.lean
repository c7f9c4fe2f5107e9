
/- What Left makes. -/
import Derived.Test.YtaaedmacefiinaaNdPart2
namespace Go.Proofs.Ytaaedmacefiinaa
open Go.RowKit

set_option maxRecDepth 100000 in
set_option maxHeartbeats 2000000 in
theorem nleft_any (n : Nd) (p : Pt) (k : ByteArray) (rt : Int) (hk2 : k.size ≤ 140737488351232) (hk : k.size ≤ maxLen) (w : World) (h : Nod w n p) : Calls Try.prog 33 #[(.agg #[.int .i64 n.lev, .int .i64 n.lsn, .int .i64 n.rgt, .string n.high, .slice p.k n.keys.length p.kc, .slice p.v n.vals.length p.vc, .slice p.i n.kids.length p.ic]), .string k, .int .i64 rt] w fun e w' => NdOut2 (okN (lrE n k (nuE rt)) (leftN n k rt)) (lrE n k (nuE rt)) w e w' := by
  have f0 : Fr (fun _ => False) w ((w.alloc (.cells #[.int .i64 n.lev, .int .i64 n.lsn, .int .i64 n.rgt, .string n.high, .slice p.k n.keys.length p.kc, .slice p.v n.vals.length p.vc, .slice p.i n.kids.length p.ic] 25)).alloc (.cells #[.int .i64 0, .int .i64 0, .int .i64 0, .string ⟨#[]⟩, .slice none 0 0, .slice none 0 0, .slice none 0 0] 25)) := ((Fr.refl _ _).alloc _).alloc _
  have HB : Hid (∀ W, Fr (fun _ => False) ((w.alloc (.cells #[.int .i64 n.lev, .int .i64 n.lsn, .int .i64 n.rgt, .string n.high, .slice p.k n.keys.length p.kc, .slice p.v n.vals.length p.vc, .slice p.i n.kids.length p.ic] 25)).alloc (.cells #[.int .i64 0, .int .i64 0, .int .i64 0, .string ⟨#[]⟩, .slice none 0 0, .slice none 0 0, .slice none 0 0] 25)) W → W.cell? ⟨w.heap.size, 0, none⟩ = some (.int .i64 n.lev) ∧ W.cell? ⟨w.heap.size, 1, none⟩ = some (.int .i64 n.lsn) ∧ W.cell? ⟨w.heap.size, 2, none⟩ = some (.int .i64 n.rgt) ∧ W.cell? ⟨w.heap.size, 3, none⟩ = some (.string n.high) ∧ W.cell? ⟨w.heap.size, 4, none⟩ = some (.slice p.k n.keys.length p.kc) ∧ W.cell? ⟨w.heap.size, 5, none⟩ = some (.slice p.v n.vals.length p.vc) ∧ W.cell? ⟨w.heap.size, 6, none⟩ = some (.slice p.i n.kids.length p.ic)) := fun W f => box_cells (box_at w n p 25 (((Fr.refl _ _).alloc _).seq' f))
  have HRB : Hid (∀ W, Fr (fun _ => False) ((w.alloc (.cells #[.int .i64 n.lev, .int .i64 n.lsn, .int .i64 n.rgt, .string n.high, .slice p.k n.keys.length p.kc, .slice p.v n.vals.length p.vc, .slice p.i n.kids.length p.ic] 25)).alloc (.cells #[.int .i64 0, .int .i64 0, .int .i64 0, .string ⟨#[]⟩, .slice none 0 0, .slice none 0 0, .slice none 0 0] 25)) W → W.heap[w.heap.size + 1]? = some (.cells #[.int .i64 0, .int .i64 0, .int .i64 0, .string ⟨#[]⟩, .slice none 0 0, .slice none 0 0, .slice none 0 0] 25 (0, 0))) := fun W f => by
    refine f.blk ?_ (fun f => f)
    have := heap_alloc_new (w.alloc (.cells #[.int .i64 n.lev, .int .i64 n.lsn, .int .i64 n.rgt, .string n.high, .slice p.k n.keys.length p.kc, .slice p.v n.vals.length p.vc, .slice p.i n.kids.length p.ic] 25)) (.cells #[.int .i64 0, .int .i64 0, .int .i64 0, .string ⟨#[]⟩, .slice none 0 0, .slice none 0 0, .slice none 0 0] 25)
    rw [show (w.alloc (.cells #[.int .i64 n.lev, .int .i64 n.lsn, .int .i64 n.rgt, .string n.high, .slice p.k n.keys.length p.kc, .slice p.v n.vals.length p.vc, .slice p.i n.kids.length p.ic] 25)).heap.size = w.heap.size + 1 by simp] at this
    exact this
  have hh := high_le h
  have fr0 := (Fr.refl (fun _ => False) ((w.alloc (.cells #[.int .i64 n.lev, .int .i64 n.lsn, .int .i64 n.rgt, .string n.high, .slice p.k n.keys.length p.kc, .slice p.v n.vals.length p.vc, .slice p.i n.kids.length p.ic] 25)).alloc (.cells #[.int .i64 0, .int .i64 0, .int .i64 0, .string ⟨#[]⟩, .slice none 0 0, .slice none 0 0, .slice none 0 0] 25))).drew
  have q0 := HB.out _ fr0
  have hN := h.same (f0.seq' fr0)
  have HA : Hid (firstE [rgE n, ekey k.size, nuE rt, suE n k 0] = askE n k 0 (nuE rt) 0) := ask_n n k (nuE rt) 0
  have HOK : Hid (askE n k 0 (nuE rt) 0 = 0 → Rt n) := fun h => (ask_ok h).1
  have HE : Hid (lrE n k (nuE rt) = if askE n k 0 (nuE rt) 0 = 0 then parE n k else askE n k 0 (nuE rt) 0) := rfl
  have hpb : parA n k ≤ n.keys.length := parA_le n k
  generalize askE n k 0 (nuE rt) 0 = ae at *
  go_enter Try.func33, Try.ntmps33
  go_wp2_with fail
  go_region_held3 (fun W => W.cell? ⟨w.heap.size, 0, none⟩ = some (.int .i64 n.lev) ∧ W.cell? ⟨w.heap.size, 1, none⟩ = some (.int .i64 n.lsn) ∧ W.cell? ⟨w.heap.size, 2, none⟩ = some (.int .i64 n.rgt) ∧ W.cell? ⟨w.heap.size, 3, none⟩ = some (.string n.high) ∧ W.cell? ⟨w.heap.size, 4, none⟩ = some (.slice p.k n.keys.length p.kc) ∧ W.cell? ⟨w.heap.size, 5, none⟩ = some (.slice p.v n.vals.length p.vc) ∧ W.cell? ⟨w.heap.size, 6, none⟩ = some (.slice p.i n.kids.length p.ic))
    (first | with_reducible exact q0 | with_reducible exact q1 | with_reducible exact q3 | with_reducible exact q4)
    (first
      | (go_at_call 56; refine (checkNode_any n p _ hN).mono ?_; rintro e w1 ⟨rfl, m1⟩; have fr1 := fr0.seq' m1; have q1 := HB.out _ fr1)
      | (go_at_call 57; refine (kcheck_any k _).mono ?_; rintro e w2 ⟨rfl, rfl⟩)
      | (go_at_call 69; refine (checkPage_any rt _).mono ?_; rintro e w2 ⟨rfl, rfl⟩)
      | (go_at_call 58; refine (suits_any n p k 0 (by omega) hh hk _).mono ?_; rintro e w3 ⟨rfl, m3⟩; have fr3 := fr1.seq' m3; have q3 := HB.out _ fr3; have fr4 := fr3.alloc (.cells #[.int .i64 (rgE n), .int .i64 (ekey k.size : Nat), .int .i64 (nuE rt), .int .i64 (suE n k 0)] 27); have q4 := HB.out _ fr4)
      | (go_at_call 55; refine (first4 (rgE n) (ekey k.size : Nat) (nuE rt) (suE n k 0) w3).mono ?_; rw [HA.out]; rintro e w5 ⟨rfl, rfl⟩))
  have hN4 := h.same (f0.seq' fr4)
  obtain ⟨c0, c1, c2, c3, c4, c5, c6⟩ := q4
  obtain ⟨⟨s0, s1, s2, s3, s4, s5, s6⟩, sz⟩ := node_cells (HRB.out _ fr4)
  have y0 := sz 0; have y1 := sz 1; have y2 := sz 2; have y3 := sz 3; have y4 := sz 4; have y5 := sz 5; have y6 := sz 6
  generalize w3.alloc (.cells #[.int .i64 (rgE n), .int .i64 (ekey k.size : Nat), .int .i64 (nuE rt), .int .i64 (suE n k 0)] 27) = w4 at *
  clear q0 q1 q3 sz
  by_cases hae : ae = 0
  · subst hae
    have r := HOK.out rfl
    rw [if_pos rfl] at HE
    have hpt := parted_any n p k hk _ hN4
    by_cases hp0 : parE n k = 0
    · have HL : Hid (lrE n k (nuE rt) = 0) := by show _ = _; rw [HE.out]; exact hp0
      rw [hp0] at hpt
      have hpc := fun W hW => piece_any n p r 0 (parA n k) (Nat.zero_le _) hpb W hW
      rw [show ((0 : Nat) : Int) = 0 from rfl] at hpc
      have HRN : Hid (leftN n k rt = { pieceN n 0 (parA n k) with high := k, rgt := rt }) := rfl
      generalize pieceN n 0 (parA n k) = m at *
      generalize parB n k = pb at *
      generalize parA n k = pa at *
      clear y0 y1 y2 y3 y4 y5 y6 s0 s1 s2 s3 s4 s5 s6
      go_wp2_with fail
      refine hpt.mono ?_
      rintro e w5 ⟨rfl, f5⟩
      clear c0 c1 c2 c3 c4 c5 c6
      have fr5 := fr4.seq' f5
      obtain ⟨c0, c1, c2, c3, c4, c5, c6⟩ := HB.out _ fr5
      go_wp2_with fail
      refine (hpc _ (h.same (f0.seq' fr5))).mono ?_
      rintro e w6 ⟨p6, rfl, nd6, far6, f6⟩
      clear c0 c1 c2 c3 c4 c5 c6
      have fr6 := (fr5.seq' f6).alloc (.cells #[.int .i64 m.lev, .int .i64 m.lsn, .int .i64 rt, .string k, .slice p6.k m.keys.length p6.kc, .slice p6.v m.vals.length p6.vc, .slice p6.i m.kids.length p6.ic] 25)
      have hR6 := HRB.out _ fr6
      have nd6' := nd6.same ((Fr.refl (fun _ => False) w6).alloc (.cells #[.int .i64 m.lev, .int .i64 m.lsn, .int .i64 rt, .string k, .slice p6.k m.keys.length p6.kc, .slice p6.v m.vals.length p6.vc, .slice p6.i m.kids.length p6.ic] 25))
      obtain ⟨⟨s0, s1, s2, s3, s4, s5, s6⟩, sz⟩ := node_cells hR6
      have y0 := sz 0; have y1 := sz 1; have y2 := sz 2; have y3 := sz 3; have y4 := sz 4; have y5 := sz 5; have y6 := sz 6
      clear sz
      go_wp2
      obtain ⟨hq, ff⟩ := fin7 hR6 (.int .i64 m.lev) (.int .i64 m.lsn) (.int .i64 rt) (.string k) (.slice p6.k m.keys.length p6.kc) (.slice p6.v m.vals.length p6.vc) (.slice p6.i m.kids.length p6.ic)
      have fff := (f0.seq' fr6).trans ff (S := fun _ => False) (fun i hi e => by omega)
      have ndf := nd_far nd6' ff (fun b off hx e => by have := far6 b off hx; have := fr5.size; simp at this; omega)
      generalize (((((((w6.alloc (.cells #[.int .i64 m.lev, .int .i64 m.lsn, .int .i64 rt, .string k, .slice p6.k m.keys.length p6.kc, .slice p6.v m.vals.length p6.vc, .slice p6.i m.kids.length p6.ic] 25)).setCell ⟨w.heap.size + 1, 0, none⟩ (.int .i64 m.lev)).setCell ⟨w.heap.size + 1, 1, none⟩ (.int .i64 m.lsn)).setCell ⟨w.heap.size + 1, 2, none⟩ (.int .i64 rt)).setCell ⟨w.heap.size + 1, 3, none⟩ (.string k)).setCell ⟨w.heap.size + 1, 4, none⟩ (.slice p6.k m.keys.length p6.kc)).setCell ⟨w.heap.size + 1, 5, none⟩ (.slice p6.v m.vals.length p6.vc)).setCell ⟨w.heap.size + 1, 6, none⟩ (.slice p6.i m.kids.length p6.ic) = Wf at hq fff ndf ⊢
      obtain ⟨⟨q0, q1, q2, q3, q4, q5, q6⟩, _⟩ := node_cells hq
      rw [HL.out, okN_ok, HRN.out]
      exact bodyPost_ret (v := .tuple #[.agg #[.int .i64 m.lev, .int .i64 m.lsn, .int .i64 rt, .string k, .slice p6.k m.keys.length p6.kc, .slice p6.v m.vals.length p6.vc, .slice p6.i m.kids.length p6.ic], .int .i64 0]) (by simp [results, Try.results33, go_sem, q0, q1, q2, q3, q4, q5, q6]) rfl ⟨p6, rfl, ⟨ndf.keys, ndf.vals, ndf.kids, hk2, ndf.ksz, ndf.vsz, ndf.klen, ndf.vlen, ndf.ilen⟩, fff⟩
    · have HL : Hid (lrE n k (nuE rt) = parE n k) := HE.out
      have hne : (parE n k != 0) = true := by simpa using hp0
      have HP0 : Hid (parE n k ≠ 0) := hp0
      generalize parB n k = pb at *
      generalize parA n k = pa at *
      generalize parE n k = pe at *
      clear y0 y1 y2 y3 y4 y5 y6 s0 s1 s2 s3 s4 s5 s6 hp0
      go_wp2_with fail
      refine hpt.mono ?_
      rintro e w5 ⟨rfl, f5⟩
      have fr5 := fr4.seq' f5
      have hR6 := HRB.out _ fr5
      obtain ⟨⟨s0, s1, s2, s3, s4, s5, s6⟩, sz⟩ := node_cells hR6
      have y0 := sz 0; have y1 := sz 1; have y2 := sz 2; have y3 := sz 3; have y4 := sz 4; have y5 := sz 5; have y6 := sz 6
      clear sz
      go_wp2
      obtain ⟨hq, ff⟩ := fin7 hR6 (.int .i64 0) (.int .i64 0) (.int .i64 0) (.string ⟨#[]⟩) (.slice none 0 0) (.slice none 0 0) (.slice none 0 0)
      have fff := (f0.seq' fr5).trans ff (S := fun _ => False) (fun i hi e => by omega)
      generalize ((((((w5.setCell ⟨w.heap.size + 1, 0, none⟩ (.int .i64 0)).setCell ⟨w.heap.size + 1, 1, none⟩ (.int .i64 0)).setCell ⟨w.heap.size + 1, 2, none⟩ (.int .i64 0)).setCell ⟨w.heap.size + 1, 3, none⟩ (.string ⟨#[]⟩)).setCell ⟨w.heap.size + 1, 4, none⟩ (.slice none 0 0)).setCell ⟨w.heap.size + 1, 5, none⟩ (.slice none 0 0)).setCell ⟨w.heap.size + 1, 6, none⟩ (.slice none 0 0) = Wf at hq fff ⊢
      obtain ⟨⟨q0, q1, q2, q3, q4, q5, q6⟩, _⟩ := node_cells hq
      rw [HL.out, okN_no HP0.out]
      exact bodyPost_ret (v := .tuple #[.agg #[.int .i64 0, .int .i64 0, .int .i64 0, .string ⟨#[]⟩, .slice none 0 0, .slice none 0 0, .slice none 0 0], .int .i64 pe]) (by simp [results, Try.results33, go_sem, q0, q1, q2, q3, q4, q5, q6]) rfl ⟨zp, rfl, zn_nod _, fff⟩
  · have hne : (ae != 0) = true := by simpa using hae
    rw [if_neg hae] at HE
    have HP0 : Hid (ae ≠ 0) := hae
    have hR6 := HRB.out _ fr4
    clear hae
    go_wp2
    obtain ⟨hq, ff⟩ := fin7 hR6 (.int .i64 0) (.int .i64 0) (.int .i64 0) (.string ⟨#[]⟩) (.slice none 0 0) (.slice none 0 0) (.slice none 0 0)
    have fff := (f0.seq' fr4).trans ff (S := fun _ => False) (fun i hi e => by omega)
    generalize ((((((w4.setCell ⟨w.heap.size + 1, 0, none⟩ (.int .i64 0)).setCell ⟨w.heap.size + 1, 1, none⟩ (.int .i64 0)).setCell ⟨w.heap.size + 1, 2, none⟩ (.int .i64 0)).setCell ⟨w.heap.size + 1, 3, none⟩ (.string ⟨#[]⟩)).setCell ⟨w.heap.size + 1, 4, none⟩ (.slice none 0 0)).setCell ⟨w.heap.size + 1, 5, none⟩ (.slice none 0 0)).setCell ⟨w.heap.size + 1, 6, none⟩ (.slice none 0 0) = Wf at hq fff ⊢
    obtain ⟨⟨q0, q1, q2, q3, q4, q5, q6⟩, _⟩ := node_cells hq
    rw [HE.out, okN_no HP0.out]
    exact bodyPost_ret (v := .tuple #[.agg #[.int .i64 0, .int .i64 0, .int .i64 0, .string ⟨#[]⟩, .slice none 0 0, .slice none 0 0, .slice none 0 0], .int .i64 ae]) (by simp [results, Try.results33, go_sem, q0, q1, q2, q3, q4, q5, q6]) rfl ⟨zp, rfl, zn_nod _, fff⟩
end Go.Proofs.Ytaaedmacefiinaa
