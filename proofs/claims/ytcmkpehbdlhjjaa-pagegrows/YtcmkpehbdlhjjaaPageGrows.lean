
/- PageGrows, for every node: where page.Check finds it right and it has entries, the node less its last entry is smaller by page.Size by just that entry's bytes and right too, and the call answers true; no condition. -/
import Derived.Test.YtcmkpehbdlhjjaaArgs
import Derived.Test.YtcmkpehbdlhjjaaPgGrow
import Derived.Test.YtcmkpehbdlhjjaaPgArg
namespace Go.Proofs.Ytcmkpehbdlhjjaa.pageGrows
open Go.ChangeShapes Go.WideShapes Go.ChangeAt Go.RowKit
open Go.ChangeMaps (open_string shut_string)
set_option linter.unusedVariables false

theorem own : ownKnob Try.prog.godebug = none := by kernel_rfl
theorem laidOut : laidOutB Try.prog = true := by kernel_rfl
theorem bytes8 : Try.prog.bytesOf 5 = 1 := by kernel_rfl


set_option maxRecDepth 100000 in
set_option maxHeartbeats 6000000 in
theorem walk (w : World) (n : Nd) (p : Pt) (nd0 : Nod w n p) :
    Calls Try.prog 8 #[(.agg #[.int .i64 n.lev, .int .i64 n.lsn, .int .i64 n.rgt, .string n.high, .slice p.k n.keys.length p.kc, .slice p.v n.vals.length p.vc, .slice p.i n.kids.length p.ic])] w fun e w' => e = .returned (.bool true) ∧ Fr (fun _ => False) w w' := by
  have f0 := Fr.box w (.cells #[.int .i64 n.lev, .int .i64 n.lsn, .int .i64 n.rgt, .string n.high, .slice p.k n.keys.length p.kc, .slice p.v n.vals.length p.vc, .slice p.i n.kids.length p.ic] 25)
  have HX : Hid (∀ W, Fr (fun _ => False) (w.alloc (.cells #[.int .i64 n.lev, .int .i64 n.lsn, .int .i64 n.rgt, .string n.high, .slice p.k n.keys.length p.kc, .slice p.v n.vals.length p.vc, .slice p.i n.kids.length p.ic] 25)) W → W.heap[w.heap.size]? = some (.cells #[.int .i64 n.lev, .int .i64 n.lsn, .int .i64 n.rgt, .string n.high, .slice p.k n.keys.length p.kc, .slice p.v n.vals.length p.vc, .slice p.i n.kids.length p.ic] 25 (0, 0))) := fun W f => box_at w n p 25 f
  have HB : Hid (∀ W, Fr (fun _ => False) (w.alloc (.cells #[.int .i64 n.lev, .int .i64 n.lsn, .int .i64 n.rgt, .string n.high, .slice p.k n.keys.length p.kc, .slice p.v n.vals.length p.vc, .slice p.i n.kids.length p.ic] 25)) W → W.cell? ⟨w.heap.size, 0, none⟩ = some (.int .i64 n.lev) ∧ W.cell? ⟨w.heap.size, 1, none⟩ = some (.int .i64 n.lsn) ∧ W.cell? ⟨w.heap.size, 2, none⟩ = some (.int .i64 n.rgt) ∧ W.cell? ⟨w.heap.size, 3, none⟩ = some (.string n.high) ∧ W.cell? ⟨w.heap.size, 4, none⟩ = some (.slice p.k n.keys.length p.kc) ∧ W.cell? ⟨w.heap.size, 5, none⟩ = some (.slice p.v n.vals.length p.vc) ∧ W.cell? ⟨w.heap.size, 6, none⟩ = some (.slice p.i n.kids.length p.ic)) := fun W f => box_cells (box_at w n p 25 f)
  have hck := check_any n p _ (nd0.same f0)
  by_cases hr : rightB n = true
  · have r := (right_iff n).1 hr
    rw [epage_rt r] at hck
    clear hr
    by_cases hk : n.keys.length = 0
    · clear r
      have HK : Hid (n.keys.length = 0) := hk
      clear hk
      go_enter Try.func8, Try.ntmps8
      go_wp2_with fail
      refine hck.mono ?_
      clear hck
      rintro e w1 ⟨rfl, f1⟩
      have hk := HK.out
      go_wp2_with fail
      refine (pspeaks_any _).mono ?_
      rintro e w2 ⟨rfl, f2⟩
      go_wp2
      go_ret
      exact ⟨rfl, f0.seq' (f1.seq' f2)⟩
    · obtain ⟨j, hj⟩ : ∃ j, n.keys.length = j + 1 := ⟨n.keys.length - 1, by omega⟩
      clear hk
      have hkl := nd0.klen
      have hjl : j + 1 ≤ 140737488351232 := by omega
      obtain ⟨bk, ok, hpk, hbk, hck0⟩ : ∃ b off, p.k = some ⟨b, off, none⟩ ∧ b < w.heap.size ∧ ∀ i, i < n.keys.length → w.cell? ⟨b, off + i, none⟩ = some (.string (n.keys.getD i ByteArray.empty)) := by
        rcases nd0.keys.at_ with h | h
        · rw [h] at hj; simp at hj
        · exact h
      have R : Hid (Rt n) := r
      have HN : Hid (Nod w n p) := nd0
      by_cases h0 : n.lev = 0
      · have hv := (r.leaf h0).1
        obtain ⟨bv, ov, hpv, hbv, hcv0⟩ : ∃ b off, p.v = some ⟨b, off, none⟩ ∧ b < w.heap.size ∧ ∀ i, i < n.vals.length → w.cell? ⟨b, off + i, none⟩ = some (.string (n.vals.getD i ByteArray.empty)) := by
          rcases nd0.vals.at_ with h | h
          · rw [h] at hv; simp at hv; omega
          · exact h
        have HJ : Hid (n.keys.length = j + 1) := hj
        have HV : Hid (n.vals.length = j + 1) := by show _ = _; omega
        have cK := hck0 j (by omega)
        have cV := hcv0 j (by omega)
        have zK := nd0.ksz _ (strs_get (i := j) (by omega))
        have zV := nd0.vsz _ (strs_get (i := j) (by omega))
        obtain ⟨sk, hsk⟩ : ∃ s, s = n.keys.getD j ByteArray.empty := ⟨_, rfl⟩
        obtain ⟨sv, hsv⟩ : ∃ s, s = n.vals.getD j ByteArray.empty := ⟨_, rfl⟩
        rw [← hsk] at cK zK
        rw [← hsv] at cV zV
        have hkc := nd0.keys.le
        have hkm := nd0.keys.max
        have hvc := nd0.vals.le
        have hvm := nd0.vals.max
        have H0 : Hid (n.lev = 0) := h0
        have HPK : Hid (p.k = some ⟨bk, ok, none⟩) := hpk
        have HPV : Hid (p.v = some ⟨bv, ov, none⟩) := hpv
        have HSK : Hid (sk = n.keys.getD j ByteArray.empty) := hsk
        have HSV : Hid (sv = n.vals.getD j ByteArray.empty) := hsv
        clear hck0 hcv0 r hv nd0 hkl h0 hpk hpv hsk hsv hj
        go_enter Try.func8, Try.ntmps8
        go_wp2_with fail
        refine hck.mono ?_
        clear hck
        rintro e w1 ⟨rfl, f1⟩
        obtain ⟨c0, c1, c2, c3, c4, c5, c6⟩ := HB.out w1 f1
        rw [HPK.out, HJ.out] at c4
        rw [HPV.out, HV.out] at c5
        rw [H0.out] at c0
        have hj := HJ.out
        have hvj : j ≤ p.vc := by have := HV.out; omega
        have hkj : j ≤ p.kc := by omega
        have hj0 : (((j : Int) + 1) == 0) = false := by simp; omega
        have g1 : w.heap.size < w1.heap.size := by have := f1.size; simp at this; omega
        have g2 : bk < w1.heap.size := by omega
        have g3 : bv < w1.heap.size := by omega
        have cK1 := ((f0.seq' f1).cell (p := ⟨bk, ok + j, none⟩) hbk (fun f => f)).trans cK
        have cV1 := ((f0.seq' f1).cell (p := ⟨bv, ov + j, none⟩) hbv (fun f => f)).trans cV
        obtain ⟨m, hm⟩ : ∃ m, m = smL n j := ⟨_, rfl⟩
        have hW : w1.alloc (.cells #[.int .i64 0, .int .i64 n.lsn, .int .i64 n.rgt, .string n.high, .slice (some ⟨bk, ok, none⟩) j p.kc, .slice (some ⟨bv, ov, none⟩) j p.vc, .slice p.i n.kids.length p.ic] 25) = w1.alloc (.cells #[.int .i64 m.lev, .int .i64 m.lsn, .int .i64 m.rgt, .string m.high, .slice p.k m.keys.length p.kc, .slice p.v m.vals.length p.vc, .slice p.i m.kids.length p.ic] 25) := by
          have e1 : (n.keys.take j).length = j := by rw [List.length_take, HJ.out]; omega
          have e2 : (n.vals.take j).length = j := by rw [List.length_take, HV.out]; omega
          rw [hm]; unfold smL; simp only []
          rw [H0.out, HPK.out, HPV.out, e1, e2]
        have HW : Hid (w1.alloc (.cells #[.int .i64 0, .int .i64 n.lsn, .int .i64 n.rgt, .string n.high, .slice (some ⟨bk, ok, none⟩) j p.kc, .slice (some ⟨bv, ov, none⟩) j p.vc, .slice p.i n.kids.length p.ic] 25) = w1.alloc (.cells #[.int .i64 m.lev, .int .i64 m.lsn, .int .i64 m.rgt, .string m.high, .slice p.k m.keys.length p.kc, .slice p.v m.vals.length p.vc, .slice p.i m.kids.length p.ic] 25)) := hW
        have hrm : Rt m := by rw [hm]; exact smL_right R.out H0.out HJ.out
        have hsz := smL_size R.out H0.out HJ.out
        rw [← hm, ← HSK.out, ← HSV.out] at hsz
        obtain ⟨A, hA⟩ : ∃ A : Int, A = (sizeN n : Int) := ⟨_, rfl⟩
        obtain ⟨B, hB⟩ : ∃ B : Int, B = (sizeN m : Int) := ⟨_, rfl⟩
        obtain ⟨X, hX⟩ : ∃ X : Int, X = 2 + (sk.size : Int) + 2 + (sv.size : Int) := ⟨_, rfl⟩
        have sA := R.out.size
        have sB := hrm.size
        have eX : A - B = X := by omega
        have eXX : (A - B == X) = true := by rw [eX]; simp
        have bA : 0 ≤ A ∧ A ≤ 256 := by omega
        have bB : 0 ≤ B ∧ B ≤ 256 := by omega
        have wX : IntKind.i64.wrap X = X := by rw [IntKind.wrap_i64]; omega
        have HX5 : Hid (2 + (sk.size : Int) + 2 + (sv.size : Int) = X) := hX.symm
        have HS1 : Hid (∀ W, Nod W n p → Calls Try.prog 11 #[(.agg #[.int .i64 n.lev, .int .i64 n.lsn, .int .i64 n.rgt, .string n.high, .slice p.k n.keys.length p.kc, .slice p.v n.vals.length p.vc, .slice p.i n.kids.length p.ic])] W fun e w' => e = .returned (.int .i64 A) ∧ Fr (fun _ => False) W w') := fun W h => by
          have := size_any n p W h
          rw [sz_rt R.out, ← hA] at this
          exact this
        have HS2 : Hid (∀ W, Nod W m p → Calls Try.prog 11 #[(.agg #[.int .i64 m.lev, .int .i64 m.lsn, .int .i64 m.rgt, .string m.high, .slice p.k m.keys.length p.kc, .slice p.v m.vals.length p.vc, .slice p.i m.kids.length p.ic])] W fun e w' => e = .returned (.int .i64 B) ∧ Fr (fun _ => False) W w') := fun W h => by
          have := size_any m p W h
          rw [sz_rt hrm, ← hB] at this
          exact this
        have HC : Hid (∀ W, Nod W m p → Calls Try.prog 9 #[(.agg #[.int .i64 m.lev, .int .i64 m.lsn, .int .i64 m.rgt, .string m.high, .slice p.k m.keys.length p.kc, .slice p.v m.vals.length p.vc, .slice p.i m.kids.length p.ic])] W fun e w' => e = .returned (.int .i64 0) ∧ Fr (fun _ => False) W w') := fun W h => by
          have := check_any m p W h
          rw [epage_rt hrm] at this
          exact this
        have HM : Hid (Nod w m p) := by show Nod w m p; rw [hm]; exact HN.out.smL j
        clear hsz hrm hm hW hA hB hX sA sB
        go_wp2_with fail
        clear c0 c1 c2 c3 c4 c5 c6 hj hj0 hkc hkm hvc hvm hvj hkj cK cV cK1 cV1 g2 g3 hbk hbv hjl
        rw [HW.out, HX5.out]
        have f2 := Fr.box w1 (.cells #[.int .i64 m.lev, .int .i64 m.lsn, .int .i64 m.rgt, .string m.high, .slice p.k m.keys.length p.kc, .slice p.v m.vals.length p.vc, .slice p.i m.kids.length p.ic] 25)
        have HQ : Hid (∀ W, Fr (fun _ => False) (w1.alloc (.cells #[.int .i64 m.lev, .int .i64 m.lsn, .int .i64 m.rgt, .string m.high, .slice p.k m.keys.length p.kc, .slice p.v m.vals.length p.vc, .slice p.i m.kids.length p.ic] 25)) W → W.cell? ⟨w.heap.size, 0, none⟩ = some (.int .i64 n.lev) ∧ W.cell? ⟨w.heap.size, 1, none⟩ = some (.int .i64 n.lsn) ∧ W.cell? ⟨w.heap.size, 2, none⟩ = some (.int .i64 n.rgt) ∧ W.cell? ⟨w.heap.size, 3, none⟩ = some (.string n.high) ∧ W.cell? ⟨w.heap.size, 4, none⟩ = some (.slice p.k n.keys.length p.kc) ∧ W.cell? ⟨w.heap.size, 5, none⟩ = some (.slice p.v n.vals.length p.vc) ∧ W.cell? ⟨w.heap.size, 6, none⟩ = some (.slice p.i n.kids.length p.ic) ∧ W.cell? ⟨w1.heap.size, 0, none⟩ = some (.int .i64 m.lev) ∧ W.cell? ⟨w1.heap.size, 1, none⟩ = some (.int .i64 m.lsn) ∧ W.cell? ⟨w1.heap.size, 2, none⟩ = some (.int .i64 m.rgt) ∧ W.cell? ⟨w1.heap.size, 3, none⟩ = some (.string m.high) ∧ W.cell? ⟨w1.heap.size, 4, none⟩ = some (.slice p.k m.keys.length p.kc) ∧ W.cell? ⟨w1.heap.size, 5, none⟩ = some (.slice p.v m.vals.length p.vc) ∧ W.cell? ⟨w1.heap.size, 6, none⟩ = some (.slice p.i m.kids.length p.ic)) := fun W f => by
          obtain ⟨a0, a1, a2, a3, a4, a5, a6⟩ := HB.out _ ((f1.seq' f2).seq' f)
          obtain ⟨b0, b1, b2, b3, b4, b5, b6⟩ := box_cells (box_at w1 m p 25 f)
          exact ⟨a0, a1, a2, a3, a4, a5, a6, b0, b1, b2, b3, b4, b5, b6⟩
        have fr0 := (Fr.refl (fun _ => False) (w1.alloc (.cells #[.int .i64 m.lev, .int .i64 m.lsn, .int .i64 m.rgt, .string m.high, .slice p.k m.keys.length p.kc, .slice p.v m.vals.length p.vc, .slice p.i m.kids.length p.ic] 25))).drew
        have q0 := HQ.out _ fr0
        have hN := HN.out.same (f0.seq' ((f1.seq' f2).seq' fr0))
        have F2 := f0.seq' (f1.seq' f2)
        go_region_held3 (fun W => W.cell? ⟨w.heap.size, 0, none⟩ = some (.int .i64 n.lev) ∧ W.cell? ⟨w.heap.size, 1, none⟩ = some (.int .i64 n.lsn) ∧ W.cell? ⟨w.heap.size, 2, none⟩ = some (.int .i64 n.rgt) ∧ W.cell? ⟨w.heap.size, 3, none⟩ = some (.string n.high) ∧ W.cell? ⟨w.heap.size, 4, none⟩ = some (.slice p.k n.keys.length p.kc) ∧ W.cell? ⟨w.heap.size, 5, none⟩ = some (.slice p.v n.vals.length p.vc) ∧ W.cell? ⟨w.heap.size, 6, none⟩ = some (.slice p.i n.kids.length p.ic) ∧ W.cell? ⟨w1.heap.size, 0, none⟩ = some (.int .i64 m.lev) ∧ W.cell? ⟨w1.heap.size, 1, none⟩ = some (.int .i64 m.lsn) ∧ W.cell? ⟨w1.heap.size, 2, none⟩ = some (.int .i64 m.rgt) ∧ W.cell? ⟨w1.heap.size, 3, none⟩ = some (.string m.high) ∧ W.cell? ⟨w1.heap.size, 4, none⟩ = some (.slice p.k m.keys.length p.kc) ∧ W.cell? ⟨w1.heap.size, 5, none⟩ = some (.slice p.v m.vals.length p.vc) ∧ W.cell? ⟨w1.heap.size, 6, none⟩ = some (.slice p.i m.kids.length p.ic))
          (first | with_reducible exact q0 | with_reducible exact q1 | with_reducible exact q2 | with_reducible exact q3 | with_reducible exact q4)
          (first
            | (go_at_call 11; refine (HS1.out _ hN).mono ?_; rintro e w3 ⟨rfl, m1⟩; have fr1 := fr0.seq' m1; have q1 := HQ.out _ fr1; have hN1 := HM.out.same (F2.seq' fr1); clear hN)
            | (go_at_call 11; refine (HS2.out _ hN1).mono ?_; rintro e w4 ⟨rfl, m2⟩; have fr2 := fr1.seq' m2; have q2 := HQ.out _ fr2; have hN2 := HM.out.same (F2.seq' fr2); clear hN1)
            | (go_at_call 9; refine (HC.out _ hN2).mono ?_; rintro e w5 ⟨rfl, m3⟩; have fr3 := fr2.seq' m3; have q3 := HQ.out _ fr3)
            | (go_at_call 13; refine (pspeaks_any _).mono ?_; rintro e w6 ⟨rfl, m4⟩; have fr4 := fr3.seq' m4; have q4 := HQ.out _ fr4))
        go_wp2
        go_ret
        exact ⟨rfl, F2.seq' fr4⟩
      · have hv := (r.inner h0).1
        obtain ⟨bv, ov, hpv, hbv, hcv0⟩ : ∃ b off, p.i = some ⟨b, off, none⟩ ∧ b < w.heap.size ∧ ∀ i, i < n.kids.length → w.cell? ⟨b, off + i, none⟩ = some (.int .i64 (n.kids.getD i 0)) := by
          rcases nd0.kids.at_ with h | h
          · rw [h] at hv; simp at hv
          · exact h
        have HJ : Hid (n.keys.length = j + 1) := hj
        have HV : Hid (n.kids.length = j + 1 + 1) := by show _ = _; omega
        have cK := hck0 j (by omega)
        have zK := nd0.ksz _ (strs_get (i := j) (by omega))
        obtain ⟨sk, hsk⟩ : ∃ s, s = n.keys.getD j ByteArray.empty := ⟨_, rfl⟩
        rw [← hsk] at cK zK
        have hkc := nd0.keys.le
        have hkm := nd0.keys.max
        have hvc := nd0.kids.le
        have hvm := nd0.kids.max
        have H0 : Hid (¬ n.lev = 0) := h0
        have HPK : Hid (p.k = some ⟨bk, ok, none⟩) := hpk
        have HPV : Hid (p.i = some ⟨bv, ov, none⟩) := hpv
        have HSK : Hid (sk = n.keys.getD j ByteArray.empty) := hsk
        clear hck0 hcv0 r hv nd0 hkl h0 hpk hpv hsk hj
        go_enter Try.func8, Try.ntmps8
        go_wp2_with fail
        refine hck.mono ?_
        clear hck
        rintro e w1 ⟨rfl, f1⟩
        obtain ⟨c0, c1, c2, c3, c4, c5, c6⟩ := HB.out w1 f1
        rw [HPK.out, HJ.out] at c4
        rw [HPV.out, HV.out] at c6
        have hl0 : (n.lev == 0) = false := by have := H0.out; simp [this]
        have hj := HJ.out
        have hvj : j + 1 ≤ p.ic := by have := HV.out; omega
        have hvj' : (j : Int) + 1 ≤ (p.ic : Int) := by omega
        have hkj : j ≤ p.kc := by omega
        have hj0 : (((j : Int) + 1) == 0) = false := by simp; omega
        have g1 : w.heap.size < w1.heap.size := by have := f1.size; simp at this; omega
        have g2 : bk < w1.heap.size := by omega
        have g3 : bv < w1.heap.size := by omega
        have cK1 := ((f0.seq' f1).cell (p := ⟨bk, ok + j, none⟩) hbk (fun f => f)).trans cK
        obtain ⟨m, hm⟩ : ∃ m, m = smI n j := ⟨_, rfl⟩
        have hW : w1.alloc (.cells #[.int .i64 n.lev, .int .i64 n.lsn, .int .i64 n.rgt, .string n.high, .slice (some ⟨bk, ok, none⟩) j p.kc, .slice p.v n.vals.length p.vc, .slice (some ⟨bv, ov, none⟩) (j + 1) p.ic] 25) = w1.alloc (.cells #[.int .i64 m.lev, .int .i64 m.lsn, .int .i64 m.rgt, .string m.high, .slice p.k m.keys.length p.kc, .slice p.v m.vals.length p.vc, .slice p.i m.kids.length p.ic] 25) := by
          have e1 : (n.keys.take j).length = j := by rw [List.length_take, HJ.out]; omega
          have e2 : (n.kids.take (j + 1)).length = j + 1 := by rw [List.length_take, HV.out]; omega
          rw [hm]; unfold smI; simp only []
          rw [HPK.out, HPV.out, e1, e2]
        have HW : Hid (w1.alloc (.cells #[.int .i64 n.lev, .int .i64 n.lsn, .int .i64 n.rgt, .string n.high, .slice (some ⟨bk, ok, none⟩) j p.kc, .slice p.v n.vals.length p.vc, .slice (some ⟨bv, ov, none⟩) (j + 1) p.ic] 25) = w1.alloc (.cells #[.int .i64 m.lev, .int .i64 m.lsn, .int .i64 m.rgt, .string m.high, .slice p.k m.keys.length p.kc, .slice p.v m.vals.length p.vc, .slice p.i m.kids.length p.ic] 25)) := hW
        have hrm : Rt m := by rw [hm]; exact smI_right R.out H0.out HJ.out
        have hsz := smI_size R.out H0.out HJ.out
        rw [← hm, ← HSK.out] at hsz
        obtain ⟨A, hA⟩ : ∃ A : Int, A = (sizeN n : Int) := ⟨_, rfl⟩
        obtain ⟨B, hB⟩ : ∃ B : Int, B = (sizeN m : Int) := ⟨_, rfl⟩
        obtain ⟨X, hX⟩ : ∃ X : Int, X = 2 + (sk.size : Int) + 4 := ⟨_, rfl⟩
        have sA := R.out.size
        have sB := hrm.size
        have eX : A - B = X := by omega
        have eXX : (A - B == X) = true := by rw [eX]; simp
        have bA : 0 ≤ A ∧ A ≤ 256 := by omega
        have bB : 0 ≤ B ∧ B ≤ 256 := by omega
        have wX : IntKind.i64.wrap X = X := by rw [IntKind.wrap_i64]; omega
        have HX5 : Hid (2 + (sk.size : Int) + 4 = X) := hX.symm
        have HS1 : Hid (∀ W, Nod W n p → Calls Try.prog 11 #[(.agg #[.int .i64 n.lev, .int .i64 n.lsn, .int .i64 n.rgt, .string n.high, .slice p.k n.keys.length p.kc, .slice p.v n.vals.length p.vc, .slice p.i n.kids.length p.ic])] W fun e w' => e = .returned (.int .i64 A) ∧ Fr (fun _ => False) W w') := fun W h => by
          have := size_any n p W h
          rw [sz_rt R.out, ← hA] at this
          exact this
        have HS2 : Hid (∀ W, Nod W m p → Calls Try.prog 11 #[(.agg #[.int .i64 m.lev, .int .i64 m.lsn, .int .i64 m.rgt, .string m.high, .slice p.k m.keys.length p.kc, .slice p.v m.vals.length p.vc, .slice p.i m.kids.length p.ic])] W fun e w' => e = .returned (.int .i64 B) ∧ Fr (fun _ => False) W w') := fun W h => by
          have := size_any m p W h
          rw [sz_rt hrm, ← hB] at this
          exact this
        have HC : Hid (∀ W, Nod W m p → Calls Try.prog 9 #[(.agg #[.int .i64 m.lev, .int .i64 m.lsn, .int .i64 m.rgt, .string m.high, .slice p.k m.keys.length p.kc, .slice p.v m.vals.length p.vc, .slice p.i m.kids.length p.ic])] W fun e w' => e = .returned (.int .i64 0) ∧ Fr (fun _ => False) W w') := fun W h => by
          have := check_any m p W h
          rw [epage_rt hrm] at this
          exact this
        have HM : Hid (Nod w m p) := by show Nod w m p; rw [hm]; exact HN.out.smI j
        clear hsz hrm hm hW hA hB hX sA sB
        go_wp2_with fail
        clear c0 c1 c2 c3 c4 c5 c6 hj hj0 hkc hkm hvc hvm hvj hvj' hkj cK cK1 hl0 g2 g3 hbk hbv hjl
        rw [HW.out, HX5.out]
        have f2 := Fr.box w1 (.cells #[.int .i64 m.lev, .int .i64 m.lsn, .int .i64 m.rgt, .string m.high, .slice p.k m.keys.length p.kc, .slice p.v m.vals.length p.vc, .slice p.i m.kids.length p.ic] 25)
        have HQ : Hid (∀ W, Fr (fun _ => False) (w1.alloc (.cells #[.int .i64 m.lev, .int .i64 m.lsn, .int .i64 m.rgt, .string m.high, .slice p.k m.keys.length p.kc, .slice p.v m.vals.length p.vc, .slice p.i m.kids.length p.ic] 25)) W → W.cell? ⟨w.heap.size, 0, none⟩ = some (.int .i64 n.lev) ∧ W.cell? ⟨w.heap.size, 1, none⟩ = some (.int .i64 n.lsn) ∧ W.cell? ⟨w.heap.size, 2, none⟩ = some (.int .i64 n.rgt) ∧ W.cell? ⟨w.heap.size, 3, none⟩ = some (.string n.high) ∧ W.cell? ⟨w.heap.size, 4, none⟩ = some (.slice p.k n.keys.length p.kc) ∧ W.cell? ⟨w.heap.size, 5, none⟩ = some (.slice p.v n.vals.length p.vc) ∧ W.cell? ⟨w.heap.size, 6, none⟩ = some (.slice p.i n.kids.length p.ic) ∧ W.cell? ⟨w1.heap.size, 0, none⟩ = some (.int .i64 m.lev) ∧ W.cell? ⟨w1.heap.size, 1, none⟩ = some (.int .i64 m.lsn) ∧ W.cell? ⟨w1.heap.size, 2, none⟩ = some (.int .i64 m.rgt) ∧ W.cell? ⟨w1.heap.size, 3, none⟩ = some (.string m.high) ∧ W.cell? ⟨w1.heap.size, 4, none⟩ = some (.slice p.k m.keys.length p.kc) ∧ W.cell? ⟨w1.heap.size, 5, none⟩ = some (.slice p.v m.vals.length p.vc) ∧ W.cell? ⟨w1.heap.size, 6, none⟩ = some (.slice p.i m.kids.length p.ic)) := fun W f => by
          obtain ⟨a0, a1, a2, a3, a4, a5, a6⟩ := HB.out _ ((f1.seq' f2).seq' f)
          obtain ⟨b0, b1, b2, b3, b4, b5, b6⟩ := box_cells (box_at w1 m p 25 f)
          exact ⟨a0, a1, a2, a3, a4, a5, a6, b0, b1, b2, b3, b4, b5, b6⟩
        have fr0 := (Fr.refl (fun _ => False) (w1.alloc (.cells #[.int .i64 m.lev, .int .i64 m.lsn, .int .i64 m.rgt, .string m.high, .slice p.k m.keys.length p.kc, .slice p.v m.vals.length p.vc, .slice p.i m.kids.length p.ic] 25))).drew
        have q0 := HQ.out _ fr0
        have hN := HN.out.same (f0.seq' ((f1.seq' f2).seq' fr0))
        have F2 := f0.seq' (f1.seq' f2)
        go_region_held3 (fun W => W.cell? ⟨w.heap.size, 0, none⟩ = some (.int .i64 n.lev) ∧ W.cell? ⟨w.heap.size, 1, none⟩ = some (.int .i64 n.lsn) ∧ W.cell? ⟨w.heap.size, 2, none⟩ = some (.int .i64 n.rgt) ∧ W.cell? ⟨w.heap.size, 3, none⟩ = some (.string n.high) ∧ W.cell? ⟨w.heap.size, 4, none⟩ = some (.slice p.k n.keys.length p.kc) ∧ W.cell? ⟨w.heap.size, 5, none⟩ = some (.slice p.v n.vals.length p.vc) ∧ W.cell? ⟨w.heap.size, 6, none⟩ = some (.slice p.i n.kids.length p.ic) ∧ W.cell? ⟨w1.heap.size, 0, none⟩ = some (.int .i64 m.lev) ∧ W.cell? ⟨w1.heap.size, 1, none⟩ = some (.int .i64 m.lsn) ∧ W.cell? ⟨w1.heap.size, 2, none⟩ = some (.int .i64 m.rgt) ∧ W.cell? ⟨w1.heap.size, 3, none⟩ = some (.string m.high) ∧ W.cell? ⟨w1.heap.size, 4, none⟩ = some (.slice p.k m.keys.length p.kc) ∧ W.cell? ⟨w1.heap.size, 5, none⟩ = some (.slice p.v m.vals.length p.vc) ∧ W.cell? ⟨w1.heap.size, 6, none⟩ = some (.slice p.i m.kids.length p.ic))
          (first | with_reducible exact q0 | with_reducible exact q1 | with_reducible exact q2 | with_reducible exact q3 | with_reducible exact q4)
          (first
            | (go_at_call 11; refine (HS1.out _ hN).mono ?_; rintro e w3 ⟨rfl, m1⟩; have fr1 := fr0.seq' m1; have q1 := HQ.out _ fr1; have hN1 := HM.out.same (F2.seq' fr1); clear hN)
            | (go_at_call 11; refine (HS2.out _ hN1).mono ?_; rintro e w4 ⟨rfl, m2⟩; have fr2 := fr1.seq' m2; have q2 := HQ.out _ fr2; have hN2 := HM.out.same (F2.seq' fr2); clear hN1)
            | (go_at_call 9; refine (HC.out _ hN2).mono ?_; rintro e w5 ⟨rfl, m3⟩; have fr3 := fr2.seq' m3; have q3 := HQ.out _ fr3)
            | (go_at_call 13; refine (pspeaks_any _).mono ?_; rintro e w6 ⟨rfl, m4⟩; have fr4 := fr3.seq' m4; have q4 := HQ.out _ fr4))
        go_wp2
        go_ret
        exact ⟨rfl, F2.seq' fr4⟩
  · have h60 := epage_no (n := n) (by simpa using hr)
    rw [h60] at hck
    clear hr
    go_enter Try.func8, Try.ntmps8
    go_wp2_with fail
    refine hck.mono ?_
    clear hck
    rintro e w1 ⟨rfl, f1⟩
    go_wp2_with fail
    refine (pspeaks_any _).mono ?_
    rintro e w2 ⟨rfl, f2⟩
    go_wp2
    go_ret
    exact ⟨rfl, f0.seq' (f1.seq' f2)⟩

set_option maxRecDepth 100000 in
theorem lifted (os : Os) (started : os.Started) (H : Type) (enc : TypeId × Value → H) :
    ReturnsInHanded {} Try.checked os 8 .any (Rows.pageGrowsSpec.pre6 enc Try.prog Try.f8 Rows.pageGrowsRow.domain false) (Rows.pageGrowsSpec.post enc Try.prog Try.f8 false true false false) := by
  refine returnsInHanded_of_change_sized (C := Try.checked) own started (by kernel_rfl) Try.func8
    (ChangeSpec.witness6 (enc := enc) (C := Try.checked) false ⟨#[], #[.agg #[.int .i64 0, .int .i64 0, .int .i64 0, .string ByteArray.empty, .slice none 0 0, .slice none 0 0, .slice none 0 0]], []⟩ 8 (by kernel_rfl) (by kernel_rfl) (by kernel_rfl) (by kernel_rfl)) ?_
  intro W base args ds gs before hval0 hW hcnd hsz0 _
  have hsz : (DataW.weightsEach Try.prog (Try.f8.params.toList ++ Rows.pageGrowsSpec.plain.varTypes Try.prog) (ds ++ gs)).all (· ≤ reachBytes) = true := hsz0
  clear hsz0
  have hval : ∀ (j : Nat) t v, Try.f8.params[j]? = some t → args[j]? = some v → Value.okWide Try.prog W .any base t v := hval0
  have hW' := hW
  obtain ⟨p, q, hA0, hV, rfl, hfz, hnd⟩ := hW
  have hA : DataW.TrodAll enc Try.prog W 0 (fun _ => true) true Try.f8.params.toList args.toList ds p := hA0
  rw [Try.params8] at hA hval hsz
  obtain ⟨v0, vs0, d0, ds0, p0, q0, hargs, rfl, rfl, h0, r0⟩ := trodAll_cons hA
  obtain ⟨rfl, rfl, rfl⟩ := trodAll_nil r0
  obtain rfl : args = #[v0] := by cases args; simp_all
  obtain ⟨rfl, rfl⟩ := trodVars_none hV
  have k0 := h0
  have lt0 : ∀ x ∈ p0, x.block < W.heap.size := by obtain ⟨m, hm⟩ := k0; exact DataW.trod_lt m _ _ _ hm
  obtain ⟨n0, np0, rfl, nd0⟩ := node_open (hval 0 25 v0 rfl rfl) h0 (fun z hz => by simpa using List.all_eq_true.1 hsz z (DataW.weights_mem_each (j := 0) rfl rfl z hz))
  clear hA0 hval0
  refine (walk W n0 np0 nd0).mono fun e W' ⟨he, fr⟩ => ?_
  have bel : Below W.heap.size W W' := fr.below (Nat.le_refl _) (fun _ f => f.elim)
  subst he
  exact ⟨_, rfl, _, _, _, [], _, [], hW', trodAll_mk1 (shut_bool Try.underlying4 _), (trodAll_cons_mk (Below.trod laidOut (by kernel_rfl) (of_decide_eq_true (by kernel_rfl)) k0 bel lt0) trodAll_mk0), rfl, bel.frame _, fun h => by cases h⟩

theorem proved : Rows.PageGrowsSaid :=
  OpenClaim.holds_of_wide 8 Try.f8 rfl rfl rfl rfl rfl rfl rfl ⟨rfl, rfl, rfl, rfl, rfl⟩ rfl rfl rfl rfl rfl (by kernel_rfl) Try.func8 (by kernel_rfl)
    (of_decide_eq_true (by kernel_rfl)) (by unfold Func.isWrapper; first | (rw [if_pos (by decide +kernel)]; kernel_rfl) | (rw [if_neg (by decide +kernel)]; exact ⟨rfl, rfl⟩))
    (fun os started H enc _ => lifted os started H enc)
end Go.Proofs.Ytcmkpehbdlhjjaa.pageGrows
namespace Go.Proofs.Ytcmkpehbdlhjjaa
theorem pageGrows_holds : Rows.PageGrowsSaid := pageGrows.proved
#print axioms pageGrows_holds
end Go.Proofs.Ytcmkpehbdlhjjaa
