
/- For every node, every number and every text latticelaw07.NodeHalves answers true: a node that is parted by its parting key loses nothing: both parts are right, every key belongs to just one of them, and each entry is in one (7.5); no condition. -/
import Derived.Test.YtaaedmacefiinaaZH1
namespace Go.Proofs.Ytaaedmacefiinaa.nodeHalves
open Go.ChangeShapes Go.WideShapes Go.ChangeAt Go.RowKit
open Go.ChangeMaps (open_string shut_string)
set_option linter.unusedVariables false

theorem own : ownKnob Try.prog.godebug = none := by kernel_rfl
theorem laidOut : laidOutB Try.prog = true := by kernel_rfl
theorem bytes8 : Try.prog.bytesOf 5 = 1 := by kernel_rfl

set_option maxRecDepth 100000 in
set_option maxHeartbeats 8000000 in
theorem walk (w : World) (n : Nd) (p : Pt) (nd0 : Nod w n p) (rt : Int) (w1' : (Lit.int .i64 rt).wf = true) (k : ByteArray) (z2 : k.size ≤ 140737488351232) :
    Calls Try.prog 10 #[(.agg #[.int .i64 n.lev, .int .i64 n.lsn, .int .i64 n.rgt, .string n.high, .slice p.k n.keys.length p.kc, .slice p.v n.vals.length p.vc, .slice p.i n.kids.length p.ic]), .int .i64 rt, .string k] w fun e w' => e = .returned (.bool true) ∧ Fr (fun _ => False) w w' := by
  clear w1'
  have f0 := Fr.box w (.cells #[.int .i64 n.lev, .int .i64 n.lsn, .int .i64 n.rgt, .string n.high, .slice p.k n.keys.length p.kc, .slice p.v n.vals.length p.vc, .slice p.i n.kids.length p.ic] 25)
  have HB : Hid (∀ W, Fr (fun _ => False) (w.alloc (.cells #[.int .i64 n.lev, .int .i64 n.lsn, .int .i64 n.rgt, .string n.high, .slice p.k n.keys.length p.kc, .slice p.v n.vals.length p.vc, .slice p.i n.kids.length p.ic] 25)) W → W.cell? ⟨w.heap.size, 0, none⟩ = some (.int .i64 n.lev) ∧ W.cell? ⟨w.heap.size, 1, none⟩ = some (.int .i64 n.lsn) ∧ W.cell? ⟨w.heap.size, 2, none⟩ = some (.int .i64 n.rgt) ∧ W.cell? ⟨w.heap.size, 3, none⟩ = some (.string n.high) ∧ W.cell? ⟨w.heap.size, 4, none⟩ = some (.slice p.k n.keys.length p.kc) ∧ W.cell? ⟨w.heap.size, 5, none⟩ = some (.slice p.v n.vals.length p.vc) ∧ W.cell? ⟨w.heap.size, 6, none⟩ = some (.slice p.i n.kids.length p.ic)) := fun W f => box_cells (box_at w n p 25 f)
  have hk : k.size ≤ maxLen := Nat.le_trans z2 (by decide)
  have hh := high_le nd0
  have hsp := split_any n p _ (nd0.same f0)
  go_enter Try.func10, Try.ntmps10
  go_wp2_with fail
  refine hsp.mono ?_
  rintro e w1 ⟨f1, hout⟩
  clear hsp
  have F1 := f0.seq' f1
  rcases hout with ⟨hne, rfl⟩ | ⟨_, r, m, hm, rfl⟩
  · generalize splE n = se at *
    have hneb : (se != 0) = true := by simpa using hne
    clear hne
    go_wp2_with fail
    refine (nspeaks_any _).mono ?_
    rintro e w2 ⟨rfl, f2⟩
    go_wp2
    go_ret
    exact ⟨rfl, F1.seq' f2⟩
  have hbt := mid_btw r hm
  generalize splS n m = s at *
  by_cases hr1 : rt < 1
  · go_wp2_with fail
    refine (nspeaks_any _).mono ?_
    rintro e w2 ⟨rfl, f2⟩
    go_wp2
    go_ret
    exact ⟨rfl, F1.seq' f2⟩
  by_cases hr2 : 4096 < rt
  · have hr1' : 1 ≤ rt := by omega
    go_wp2_with fail
    refine (nspeaks_any _).mono ?_
    rintro e w2 ⟨rfl, f2⟩
    go_wp2
    go_ret
    exact ⟨rfl, F1.seq' f2⟩
  have hr1' : 1 ≤ rt := by omega
  have hr2' : rt ≤ 4096 := by omega
  have hd1 : decide (rt < 1) = false := by simp; omega
  have hd2 : decide (4096 < rt) = false := by simp; omega
  have hs16 := hbt.small r
  have hsm : s.size ≤ maxLen := Nat.le_trans hs16 (by decide)
  have hs47 : s.size ≤ 140737488351232 := by omega
  have gL := fun W hW => nleft_any n p s rt hs47 hsm W hW
  have gR := fun W hW => rest_any n p s hsm W hW
  rw [hbt.lrE r (nuE rt) (by unfold nuE; rw [if_pos ⟨hr1', hr2'⟩]), okN_ok] at gL
  rw [hbt.lrE r 0 rfl, okN_ok] at gR
  have rL := hbt.left_rt r rt hr1' hr2'
  have rR := hbt.rest_rt r
  have HBT : Hid (Btw n m s) := hbt
  have HRN : Hid (Rt n) := r
  have HL1 : Hid ((leftN n s rt).high = s ∧ (leftN n s rt).rgt = rt ∧ (leftN n s rt).keys.length = m) := ⟨rfl, rfl, hbt.left_len r rt⟩
  have HR1 : Hid ((restN n s).high = n.high ∧ (restN n s).rgt = n.rgt ∧ (n.lev = 0 → (restN n s).keys.length = n.keys.length - m)) := ⟨rfl, rfl, fun h0 => hbt.rest_len r h0⟩
  have HIF : Hid (n.lev ≠ 0 → 1 ≤ k.size → k.size ≤ 16 → fthB n k = false → fthB (leftN n s rt) k = true → kidV (restN n s) k = kidV n k ∧ askE (restN n s) k 0 0 2 = 0) := fun h0 k1 k2 hf hx => by
    refine hbt.in_far r k1 k2 hf h0 ?_
    rw [left_fth hbt k _ (left_high rt)] at hx
    exact of_decide_eq_true hx
  have HIN : Hid (n.lev ≠ 0 → 1 ≤ k.size → k.size ≤ 16 → fthB n k = false → fthB (leftN n s rt) k = false → kidV (leftN n s rt) k = kidV n k ∧ askE (leftN n s rt) k 0 0 2 = 0) := fun h0 k1 k2 hf hx => by
    refine hbt.in_near r k1 k2 hf h0 rt hr1' hr2' ?_
    rw [left_fth hbt k _ (left_high rt)] at hx
    exact of_decide_eq_false hx
  have HLA : Hid (n.lev = 0 → 1 ≤ k.size → k.size ≤ 16 → fthB n k = false → askE (restN n s) k 0 0 1 = 0) := fun h0 k1 k2 hf => hbt.lf_ask r k1 k2 hf h0
  have HLF : Hid (n.lev = 0 → 1 ≤ k.size → k.size ≤ 16 → fthB n k = false → fthB (leftN n s rt) k = true → getV (restN n s) k = getV n k ∧ getB (restN n s) k = getB n k) := fun h0 k1 k2 hf hx => by
    refine hbt.lf_far r k1 k2 hf h0 ?_
    rw [left_fth hbt k _ (left_high rt)] at hx
    exact of_decide_eq_true hx
  have HLN : Hid (n.lev = 0 → 1 ≤ k.size → k.size ≤ 16 → fthB n k = false → fthB (leftN n s rt) k = false → getB (restN n s) k = false ∧ getV (leftN n s rt) k = getV n k ∧ getB (leftN n s rt) k = getB n k ∧ askE (leftN n s rt) k 0 0 1 = 0) := fun h0 k1 k2 hf hx => by
    rw [left_fth hbt k _ (left_high rt)] at hx
    exact ⟨hbt.lf_none r k1 k2 hf h0 (of_decide_eq_false hx), hbt.lf_near r k1 k2 hf h0 rt hr1' hr2' (of_decide_eq_false hx)⟩
  have hm1 := hbt.m1
  have hm2 := hbt.m2
  have hfew := keys_few r
  generalize leftN n s rt = l at *
  generalize restN n s = q at *
  have hrl := (right_iff l).2 rL
  have hrq := (right_iff q).2 rR
  have HQL := rL.high
  clear hbt r hm rL rR hr1 hr2
  have hbe1 : (s.toList == s.toList) = true := by simp
  have hbe2 : (n.high.toList == n.high.toList) = true := by simp
  have hm0 : ((m : Int) == 0) = false := by simp; omega
  have hck := fun W => rcheck_any k W
  have hfn := fun W => further_any n p k hh hk W
  obtain ⟨c0, c1, c2, c3, c4, c5, c6⟩ := HB.out _ f1
  go_wp2_with fail
  refine (gL _ (nd0.same F1)).mono ?_
  rintro e w2 ⟨pl, rfl, nd2, f2⟩
  clear c0 c1 c2 c3 c4 c5 c6 gL
  have fl := Fr.box w2 (.cells #[.int .i64 l.lev, .int .i64 l.lsn, .int .i64 l.rgt, .string l.high, .slice pl.k l.keys.length pl.kc, .slice pl.v l.vals.length pl.vc, .slice pl.i l.kids.length pl.ic] 25)
  have HBL : Hid (∀ W, Fr (fun _ => False) (w2.alloc (.cells #[.int .i64 l.lev, .int .i64 l.lsn, .int .i64 l.rgt, .string l.high, .slice pl.k l.keys.length pl.kc, .slice pl.v l.vals.length pl.vc, .slice pl.i l.kids.length pl.ic] 25)) W → W.cell? ⟨w2.heap.size, 0, none⟩ = some (.int .i64 l.lev) ∧ W.cell? ⟨w2.heap.size, 1, none⟩ = some (.int .i64 l.lsn) ∧ W.cell? ⟨w2.heap.size, 2, none⟩ = some (.int .i64 l.rgt) ∧ W.cell? ⟨w2.heap.size, 3, none⟩ = some (.string l.high) ∧ W.cell? ⟨w2.heap.size, 4, none⟩ = some (.slice pl.k l.keys.length pl.kc) ∧ W.cell? ⟨w2.heap.size, 5, none⟩ = some (.slice pl.v l.vals.length pl.vc) ∧ W.cell? ⟨w2.heap.size, 6, none⟩ = some (.slice pl.i l.kids.length pl.ic)) := fun W f => box_cells (box_at w2 l pl 25 f)
  have hhl := high_le nd2
  have ndl := nd2.same fl
  have F2 := (f1.seq' f2).seq' fl
  obtain ⟨c0, c1, c2, c3, c4, c5, c6⟩ := HB.out _ F2
  go_wp2_with fail
  refine (gR _ (nd0.same (f0.seq' F2))).mono ?_
  rintro e w3 ⟨pq, rfl, nd3, f3⟩
  clear c0 c1 c2 c3 c4 c5 c6 gR
  have fq := Fr.box w3 (.cells #[.int .i64 q.lev, .int .i64 q.lsn, .int .i64 q.rgt, .string q.high, .slice pq.k q.keys.length pq.kc, .slice pq.v q.vals.length pq.vc, .slice pq.i q.kids.length pq.ic] 25)
  have HBQ : Hid (∀ W, Fr (fun _ => False) (w3.alloc (.cells #[.int .i64 q.lev, .int .i64 q.lsn, .int .i64 q.rgt, .string q.high, .slice pq.k q.keys.length pq.kc, .slice pq.v q.vals.length pq.vc, .slice pq.i q.kids.length pq.ic] 25)) W → W.cell? ⟨w3.heap.size, 0, none⟩ = some (.int .i64 q.lev) ∧ W.cell? ⟨w3.heap.size, 1, none⟩ = some (.int .i64 q.lsn) ∧ W.cell? ⟨w3.heap.size, 2, none⟩ = some (.int .i64 q.rgt) ∧ W.cell? ⟨w3.heap.size, 3, none⟩ = some (.string q.high) ∧ W.cell? ⟨w3.heap.size, 4, none⟩ = some (.slice pq.k q.keys.length pq.kc) ∧ W.cell? ⟨w3.heap.size, 5, none⟩ = some (.slice pq.v q.vals.length pq.vc) ∧ W.cell? ⟨w3.heap.size, 6, none⟩ = some (.slice pq.i q.kids.length pq.ic)) := fun W f => box_cells (box_at w3 q pq 25 f)
  have ndq := nd3.same fq
  have L3 := f3.seq' fq
  have F3 := F2.seq' L3
  have hrrl := rright_any l pl _ (ndl.same L3)
  rw [hrl] at hrrl
  obtain ⟨d0, d1, d2, d3, d4, d5, d6⟩ := HBL.out _ L3
  go_wp2_with fail
  refine hrrl.mono ?_
  rintro e w4 ⟨rfl, f4⟩
  clear hrrl d0 d1 d2 d3 d4 d5 d6
  have hrrq := rright_any q pq _ (ndq.same f4)
  rw [hrq] at hrrq
  obtain ⟨e0, e1, e2, e3, e4, e5, e6⟩ := HBQ.out _ f4
  go_wp2_with fail
  refine hrrq.mono ?_
  rintro e w5 ⟨rfl, f5⟩
  clear hrrq e0 e1 e2 e3 e4 e5 e6
  have f45 := f4.seq' f5
  have L5 := L3.seq' f45
  have F5 := F3.seq' f45
  obtain ⟨c0, c1, c2, c3, c4, c5, c6⟩ := HB.out _ F5
  obtain ⟨d0, d1, d2, d3, d4, d5, d6⟩ := HBL.out _ L5
  obtain ⟨e0, e1, e2, e3, e4, e5, e6⟩ := HBQ.out _ f45
  rw [HL1.out.2.1] at d2
  rw [HL1.out.1] at d3
  rw [HR1.out.2.1] at e2
  rw [HR1.out.1] at e3

  rw [HL1.out.2.2] at d4
  by_cases h0 : n.lev = 0
  · have H0 : Hid (n.lev = 0) := h0
    have hlv : (n.lev == 0) = true := by simpa using h0
    have hlg : decide (0 < n.lev) = false := by simp; omega
    have hq0 := HR1.out.2.2 h0
    have hqz : (((n.keys.length - m : Nat) : Int) == 0) = false := by simp; omega
    rw [hq0] at e4
    have HLA1 : Hid (1 ≤ k.size → k.size ≤ 16 → fthB n k = false → askE q k 0 0 1 = 0) := HLA.out h0
    have HLF1 : Hid (1 ≤ k.size → k.size ≤ 16 → fthB n k = false → fthB l k = true → getV q k = getV n k ∧ getB q k = getB n k) := HLF.out h0
    have HLN1 : Hid (1 ≤ k.size → k.size ≤ 16 → fthB n k = false → fthB l k = false → getB q k = false ∧ getV l k = getV n k ∧ getB l k = getB n k ∧ askE l k 0 0 1 = 0) := HLN.out h0
    have HMM : Hid (m + (n.keys.length - m) = n.keys.length) := by show _ = _; omega
    obtain ⟨u, hu⟩ : ∃ u, u = n.keys.length - m := ⟨_, rfl⟩
    rw [← hu] at e4 hqz HMM
    clear hu hq0 HLA HLF HLN HIF HIN h0

    by_cases hke : k.size = 0 ∨ 16 < k.size
    · rw [ekey_no hke] at hck
      clear hke
      go_wp2_with fail
      refine (hck _).mono ?_
      rintro e w6 ⟨rfl, rfl⟩
      go_wp2_with fail
      refine (nspeaks_any _).mono ?_
      rintro e w7 ⟨rfl, f7⟩
      go_wp2
      go_ret
      exact ⟨rfl, (f0.seq' F5).seq' f7⟩
    have k1 : 1 ≤ k.size := by omega
    have k2 : k.size ≤ 16 := by omega
    rw [ekey_ok (by omega) k2] at hck
    clear hke
    cases hfx : fthB n k
    case true =>
      rw [hfx] at hfn
      clear hfx
      go_wp2_with fail
      refine (hck _).mono ?_
      rintro e w6 ⟨rfl, rfl⟩
      go_wp2_with fail
      refine (hfn _).mono ?_
      rintro e w6 ⟨rfl, f6⟩
      go_wp2_with fail
      refine (nspeaks_any _).mono ?_
      rintro e w7 ⟨rfl, f7⟩
      go_wp2
      go_ret
      exact ⟨rfl, (f0.seq' F5).seq' (f6.seq' f7)⟩
    rw [hfx] at hfn

    have hqa := HLA1.out k1 k2 hfx
    have gn := fun W hW => get_any n p k hk W hW
    have gq := fun W hW => get_any q pq k hk W hW
    have gl := fun W hW => get_any l pl k hk W hW
    have hfl := fun W => further_any l pl k hhl hk W
    rw [hqa] at gq
    cases hlx : fthB l k
    · obtain ⟨x1, x2, x3, x4⟩ := HLN1.out k1 k2 hfx hlx
      rw [hlx] at hfl
      rw [x1] at gq
      rw [x2, x3, x4] at gl
      have hbe3 : ((getV n k).toList == (getV n k).toList) = true := by simp
      generalize getV n k = gv at *
      generalize getB n k = gb at *
      generalize getV q k = gw at *
      generalize askE n k 0 0 1 = ga at *
      clear hlx x1 x2 x3 x4 hqa hfx HLA1 HLF1 HLN1
      go_wp2_with fail
      refine (hck _).mono ?_
      rintro e w6 ⟨rfl, rfl⟩
      go_wp2_with fail
      refine (hfn _).mono ?_
      rintro e w6 ⟨rfl, f6⟩
      clear c0 c1 c2 c3 c4 c5 c6 d0 d1 d2 d3 d4 d5 d6 e0 e1 e2 e3 e4 e5 e6
      have F6 := F5.seq' f6
      have L6 := L5.seq' f6
      have Q6 := f45.seq' f6
      obtain ⟨c0, c1, c2, c3, c4, c5, c6⟩ := HB.out _ F6
      go_wp2_with fail
      refine (gn _ (nd0.same (f0.seq' F6))).mono ?_
      rintro e w7 ⟨rfl, f7⟩
      clear c0 c1 c2 c3 c4 c5 c6
      have F7 := F6.seq' f7
      have L7 := L6.seq' f7
      have Q7 := Q6.seq' f7
      obtain ⟨e0, e1, e2, e3, e4, e5, e6⟩ := HBQ.out _ Q7
      go_wp2_with fail
      refine (gq _ (ndq.same Q7)).mono ?_
      rintro e w8 ⟨rfl, f8⟩
      clear e0 e1 e2 e3 e4 e5 e6
      have F8 := F7.seq' f8
      have L8 := L7.seq' f8
      have Q8 := Q7.seq' f8
      obtain ⟨d0, d1, d2, d3, d4, d5, d6⟩ := HBL.out _ L8
      go_wp2_with fail
      refine (hfl _).mono ?_
      rintro e w9 ⟨rfl, f9⟩
      clear d0 d1 d2 d3 d4 d5 d6
      have F9 := F8.seq' f9
      have L9 := L8.seq' f9
      have Q9 := Q8.seq' f9
      obtain ⟨d0, d1, d2, d3, d4, d5, d6⟩ := HBL.out _ L9
      go_wp2_with fail
      refine (gl _ (ndl.same L9)).mono ?_
      rintro e wA ⟨rfl, fA⟩
      clear d0 d1 d2 d3 d4 d5 d6
      have FA := F9.seq' fA
      obtain ⟨c0, c1, c2, c3, c4, c5, c6⟩ := HB.out _ FA
      obtain ⟨d0, d1, d2, d3, d4, d5, d6⟩ := HBL.out _ (L9.seq' fA)
      obtain ⟨e0, e1, e2, e3, e4, e5, e6⟩ := HBQ.out _ (Q9.seq' fA)
      rw [HL1.out.2.2] at d4
      rw [HR1.out.2.2 H0.out, show n.keys.length - m = u by have := HMM.out; omega] at e4
      have hsum : (m : Int) + (u : Int) = (n.keys.length : Int) := by have := HMM.out; omega
      go_wp2_with fail
      refine (nspeaks_any _).mono ?_
      rintro e wB ⟨rfl, fB⟩
      go_wp2
      go_ret
      exact ⟨rfl, (f0.seq' FA).seq' fB⟩
    · obtain ⟨x1, x2⟩ := HLF1.out k1 k2 hfx hlx
      rw [hlx] at hfl
      rw [x1, x2] at gq
      have hbe3 : ((getV n k).toList == (getV n k).toList) = true := by simp
      generalize getV n k = gv at *
      generalize getB n k = gb at *
      generalize askE n k 0 0 1 = ga at *
      clear hlx x1 x2 hqa hfx HLA1 HLF1 HLN1 gl
      go_wp2_with fail
      refine (hck _).mono ?_
      rintro e w6 ⟨rfl, rfl⟩
      go_wp2_with fail
      refine (hfn _).mono ?_
      rintro e w6 ⟨rfl, f6⟩
      clear c0 c1 c2 c3 c4 c5 c6 d0 d1 d2 d3 d4 d5 d6 e0 e1 e2 e3 e4 e5 e6
      have F6 := F5.seq' f6
      have L6 := L5.seq' f6
      have Q6 := f45.seq' f6
      obtain ⟨c0, c1, c2, c3, c4, c5, c6⟩ := HB.out _ F6
      go_wp2_with fail
      refine (gn _ (nd0.same (f0.seq' F6))).mono ?_
      rintro e w7 ⟨rfl, f7⟩
      clear c0 c1 c2 c3 c4 c5 c6
      have F7 := F6.seq' f7
      have L7 := L6.seq' f7
      have Q7 := Q6.seq' f7
      obtain ⟨e0, e1, e2, e3, e4, e5, e6⟩ := HBQ.out _ Q7
      go_wp2_with fail
      refine (gq _ (ndq.same Q7)).mono ?_
      rintro e w8 ⟨rfl, f8⟩
      clear e0 e1 e2 e3 e4 e5 e6
      have F8 := F7.seq' f8
      have L8 := L7.seq' f8
      have Q8 := Q7.seq' f8
      obtain ⟨d0, d1, d2, d3, d4, d5, d6⟩ := HBL.out _ L8
      go_wp2_with fail
      refine (hfl _).mono ?_
      rintro e w9 ⟨rfl, f9⟩
      clear d0 d1 d2 d3 d4 d5 d6
      have F9 := F8.seq' f9
      obtain ⟨c0, c1, c2, c3, c4, c5, c6⟩ := HB.out _ F9
      obtain ⟨d0, d1, d2, d3, d4, d5, d6⟩ := HBL.out _ (L8.seq' f9)
      obtain ⟨e0, e1, e2, e3, e4, e5, e6⟩ := HBQ.out _ (Q8.seq' f9)
      rw [HL1.out.2.2] at d4
      rw [HR1.out.2.2 H0.out, show n.keys.length - m = u by have := HMM.out; omega] at e4
      have hsum : (m : Int) + (u : Int) = (n.keys.length : Int) := by have := HMM.out; omega
      go_wp2_with fail
      refine (nspeaks_any _).mono ?_
      rintro e wB ⟨rfl, fB⟩
      go_wp2
      go_ret
      exact ⟨rfl, (f0.seq' F9).seq' fB⟩
  · have hlv : (n.lev == 0) = false := by simpa using h0
    have hlg : 0 < n.lev := by have := HRN.out.lev0; omega
    have HIF1 : Hid (1 ≤ k.size → k.size ≤ 16 → fthB n k = false → fthB l k = true → kidV q k = kidV n k ∧ askE q k 0 0 2 = 0) := HIF.out h0
    have HIN1 : Hid (1 ≤ k.size → k.size ≤ 16 → fthB n k = false → fthB l k = false → kidV l k = kidV n k ∧ askE l k 0 0 2 = 0) := HIN.out h0
    clear HLA HLF HLN HIF HIN h0

    by_cases hke : k.size = 0 ∨ 16 < k.size
    · rw [ekey_no hke] at hck
      clear hke
      go_wp2_with fail
      refine (hck _).mono ?_
      rintro e w6 ⟨rfl, rfl⟩
      go_wp2_with fail
      refine (nspeaks_any _).mono ?_
      rintro e w7 ⟨rfl, f7⟩
      go_wp2
      go_ret
      exact ⟨rfl, (f0.seq' F5).seq' f7⟩
    have k1 : 1 ≤ k.size := by omega
    have k2 : k.size ≤ 16 := by omega
    rw [ekey_ok (by omega) k2] at hck
    clear hke
    cases hfx : fthB n k
    case true =>
      rw [hfx] at hfn
      clear hfx
      go_wp2_with fail
      refine (hck _).mono ?_
      rintro e w6 ⟨rfl, rfl⟩
      go_wp2_with fail
      refine (hfn _).mono ?_
      rintro e w6 ⟨rfl, f6⟩
      go_wp2_with fail
      refine (nspeaks_any _).mono ?_
      rintro e w7 ⟨rfl, f7⟩
      go_wp2
      go_ret
      exact ⟨rfl, (f0.seq' F5).seq' (f6.seq' f7)⟩
    rw [hfx] at hfn

    have gn := fun W hW => kid_any n p k hk W hW
    have gq := fun W hW => kid_any q pq k hk W hW
    have gl := fun W hW => kid_any l pl k hk W hW
    have hfl := fun W => further_any l pl k hhl hk W
    cases hlx : fthB l k
    · obtain ⟨x1, x2⟩ := HIN1.out k1 k2 hfx hlx
      rw [hlx] at hfl
      rw [x1, x2] at gl
      generalize kidV n k = gv at *
      generalize askE n k 0 0 2 = ga at *
      clear hlx x1 x2 hfx HIF1 HIN1 gq
      go_wp2_with fail
      refine (hck _).mono ?_
      rintro e w6 ⟨rfl, rfl⟩
      go_wp2_with fail
      refine (hfn _).mono ?_
      rintro e w6 ⟨rfl, f6⟩
      clear c0 c1 c2 c3 c4 c5 c6 d0 d1 d2 d3 d4 d5 d6 e0 e1 e2 e3 e4 e5 e6
      have F6 := F5.seq' f6
      have L6 := L5.seq' f6
      obtain ⟨c0, c1, c2, c3, c4, c5, c6⟩ := HB.out _ F6
      go_wp2_with fail
      refine (gn _ (nd0.same (f0.seq' F6))).mono ?_
      rintro e w7 ⟨rfl, f7⟩
      clear c0 c1 c2 c3 c4 c5 c6
      have F7 := F6.seq' f7
      have L7 := L6.seq' f7
      obtain ⟨d0, d1, d2, d3, d4, d5, d6⟩ := HBL.out _ L7
      go_wp2_with fail
      refine (hfl _).mono ?_
      rintro e w8 ⟨rfl, f8⟩
      clear d0 d1 d2 d3 d4 d5 d6
      have F8 := F7.seq' f8
      have L8 := L7.seq' f8
      obtain ⟨d0, d1, d2, d3, d4, d5, d6⟩ := HBL.out _ L8
      go_wp2_with fail
      refine (gl _ (ndl.same L8)).mono ?_
      rintro e w9 ⟨rfl, f9⟩
      go_wp2_with fail
      refine (nspeaks_any _).mono ?_
      rintro e wB ⟨rfl, fB⟩
      go_wp2
      go_ret
      exact ⟨rfl, (f0.seq' (F8.seq' f9)).seq' fB⟩
    · obtain ⟨x1, x2⟩ := HIF1.out k1 k2 hfx hlx
      rw [hlx] at hfl
      rw [x1, x2] at gq
      generalize kidV n k = gv at *
      generalize askE n k 0 0 2 = ga at *
      clear hlx x1 x2 hfx HIF1 HIN1 gl
      go_wp2_with fail
      refine (hck _).mono ?_
      rintro e w6 ⟨rfl, rfl⟩
      go_wp2_with fail
      refine (hfn _).mono ?_
      rintro e w6 ⟨rfl, f6⟩
      clear c0 c1 c2 c3 c4 c5 c6 d0 d1 d2 d3 d4 d5 d6 e0 e1 e2 e3 e4 e5 e6
      have F6 := F5.seq' f6
      have L6 := L5.seq' f6
      have Q6 := f45.seq' f6
      obtain ⟨c0, c1, c2, c3, c4, c5, c6⟩ := HB.out _ F6
      go_wp2_with fail
      refine (gn _ (nd0.same (f0.seq' F6))).mono ?_
      rintro e w7 ⟨rfl, f7⟩
      clear c0 c1 c2 c3 c4 c5 c6
      have F7 := F6.seq' f7
      have L7 := L6.seq' f7
      have Q7 := Q6.seq' f7
      obtain ⟨d0, d1, d2, d3, d4, d5, d6⟩ := HBL.out _ L7
      go_wp2_with fail
      refine (hfl _).mono ?_
      rintro e w8 ⟨rfl, f8⟩
      clear d0 d1 d2 d3 d4 d5 d6
      have F8 := F7.seq' f8
      have Q8 := Q7.seq' f8
      obtain ⟨e0, e1, e2, e3, e4, e5, e6⟩ := HBQ.out _ Q8
      go_wp2_with fail
      refine (gq _ (ndq.same Q8)).mono ?_
      rintro e w9 ⟨rfl, f9⟩
      go_wp2_with fail
      refine (nspeaks_any _).mono ?_
      rintro e wB ⟨rfl, fB⟩
      go_wp2
      go_ret
      exact ⟨rfl, (f0.seq' (F8.seq' f9)).seq' fB⟩

set_option maxRecDepth 100000 in
theorem lifted (os : Os) (started : os.Started) (H : Type) (enc : TypeId × Value → H) :
    ReturnsInHanded {} Try.checked os 10 .any (Rows.nodeHalvesSpec.pre6 enc Try.prog Try.f10 Rows.nodeHalvesRow.domain false) (Rows.nodeHalvesSpec.post enc Try.prog Try.f10 false true false false) := by
  refine returnsInHanded_of_change_sized (C := Try.checked) own started (by kernel_rfl) Try.func10
    (ChangeSpec.witness6 (enc := enc) (C := Try.checked) false ⟨#[], #[.agg #[.int .i64 0, .int .i64 0, .int .i64 0, .string ByteArray.empty, .slice none 0 0, .slice none 0 0, .slice none 0 0], .int .i64 0, .string ByteArray.empty], []⟩ 8 (by kernel_rfl) (by kernel_rfl) (by kernel_rfl) (by kernel_rfl)) ?_
  intro W base args ds gs before hval0 hW hcnd hsz0 _
  have hsz : (DataW.weightsEach Try.prog (Try.f10.params.toList ++ Rows.nodeHalvesSpec.plain.varTypes Try.prog) (ds ++ gs)).all (· ≤ reachBytes) = true := hsz0
  clear hsz0
  have hval : ∀ (j : Nat) t v, Try.f10.params[j]? = some t → args[j]? = some v → Value.okWide Try.prog W .any base t v := hval0
  have hW' := hW
  obtain ⟨p, q, hA0, hV, rfl, hfz, hnd⟩ := hW
  have hA : DataW.TrodAll enc Try.prog W 0 (fun _ => true) true Try.f10.params.toList args.toList ds p := hA0
  rw [Try.params10] at hA hval hsz
  obtain ⟨v0, vs0, d0, ds0, p0, q0, hargs, rfl, rfl, h0, r0⟩ := trodAll_cons hA
  obtain ⟨v1, vs1, d1, ds1, p1, q1, rfl, rfl, rfl, h1, r1⟩ := trodAll_cons r0
  obtain ⟨v2, vs2, d2, ds2, p2, q2, rfl, rfl, rfl, h2, r2⟩ := trodAll_cons r1
  obtain ⟨rfl, rfl, rfl⟩ := trodAll_nil r2
  obtain rfl : args = #[v0, v1, v2] := by cases args; simp_all
  obtain ⟨rfl, rfl⟩ := trodVars_none hV
  have k0 := h0
  have lt0 : ∀ x ∈ p0, x.block < W.heap.size := by obtain ⟨m, hm⟩ := k0; exact DataW.trod_lt m _ _ _ hm
  obtain ⟨n0, np0, rfl, nd0⟩ := node_open (hval 0 25 v0 rfl rfl) h0 (fun z hz => by simpa using List.all_eq_true.1 hsz z (DataW.weights_mem_each (j := 0) rfl rfl z hz))
  obtain ⟨a1, rfl, rfl, rfl, w1⟩ := open_int Try.underlying3 (hval 1 3 v1 rfl rfl) h1
  obtain ⟨s2, rfl, rfl, rfl, w2⟩ := open_string Try.underlying9 (hval 2 9 v2 rfl rfl) h2
  have z2 : s2.size ≤ 140737488351232 := by
    have := sized_string hsz (j := 2) (t := 9) rfl rfl
    simpa [reachBytes] using this
  clear hA0 hval0
  refine (walk W n0 np0 nd0 a1 w1 s2 z2).mono fun e W' ⟨he, fr⟩ => ?_
  have bel : Below W.heap.size W W' := fr.below (Nat.le_refl _) (fun _ f => f.elim)
  subst he
  exact ⟨_, rfl, _, _, _, [], _, [], hW', trodAll_mk1 (shut_bool Try.underlying4 _), (trodAll_cons_mk (Below.trod laidOut (by kernel_rfl) (of_decide_eq_true (by kernel_rfl)) k0 bel lt0) (trodAll_cons_mk (shut_int Try.underlying3 w1) (trodAll_cons_mk (shut_string Try.underlying9 w2) trodAll_mk0))), rfl, bel.frame _, fun h => by cases h⟩

theorem proved : Rows.NodeHalvesSaid :=
  OpenClaim.holds_of_wide 10 Try.f10 rfl rfl rfl rfl rfl rfl rfl ⟨rfl, rfl, rfl, rfl, rfl⟩ rfl rfl rfl rfl rfl (by kernel_rfl) Try.func10 (by kernel_rfl)
    (of_decide_eq_true (by kernel_rfl)) (by unfold Func.isWrapper; first | (rw [if_pos (by decide +kernel)]; kernel_rfl) | (rw [if_neg (by decide +kernel)]; exact ⟨rfl, rfl⟩))
    (fun os started H enc _ => lifted os started H enc)
end Go.Proofs.Ytaaedmacefiinaa.nodeHalves
namespace Go.Proofs.Ytaaedmacefiinaa
theorem nodeHalves_holds : Rows.NodeHalvesSaid := nodeHalves.proved
#print axioms nodeHalves_holds
end Go.Proofs.Ytaaedmacefiinaa
