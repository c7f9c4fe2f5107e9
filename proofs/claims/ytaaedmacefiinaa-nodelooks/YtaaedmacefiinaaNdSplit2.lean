
/- What Split tells. -/
import Derived.Test.YtaaedmacefiinaaNdSplit
namespace Go.Proofs.Ytaaedmacefiinaa
open Go.RowKit

def splE (n : Nd) : Int := if rightB n = true then (if n.keys.length < 2 then 7 else 0) else 70
/-- The parting key. -/
def splS (n : Nd) (m : Nat) : ByteArray := if n.lev = 0 then (n.keys.getD m ByteArray.empty).extract 0 (cmn (bsOf (n.keys.getD (m - 1) ByteArray.empty)) (bsOf (n.keys.getD m ByteArray.empty)) + 1) else n.keys.getD m ByteArray.empty
def SplOut (n : Nd) (w : World) (e : Ending) (w' : World) : Prop :=
  Fr (fun _ => False) w w' ∧ ((splE n ≠ 0 ∧ e = .returned (.tuple #[.string ⟨#[]⟩, .int .i64 (splE n)])) ∨ (splE n = 0 ∧ Rt n ∧ ∃ m, Mid n m ∧ e = .returned (.tuple #[.string (splS n m), .int .i64 0])))
theorem cpl_m1 {a b : List Nat} (h : cpl a b < 0) : cpl a b = -1 := by
  rcases cpl_vals a b with h1 | h1 | h1 <;> omega
set_option maxRecDepth 100000 in
set_option maxHeartbeats 2000000 in
theorem split_any (n : Nd) (p : Pt) (w : World) (h : Nod w n p) : Calls Try.prog 31 #[(.agg #[.int .i64 n.lev, .int .i64 n.lsn, .int .i64 n.rgt, .string n.high, .slice p.k n.keys.length p.kc, .slice p.v n.vals.length p.vc, .slice p.i n.kids.length p.ic])] w fun e w' => SplOut n w e w' := by
  have f0 := Fr.box w (.cells #[.int .i64 n.lev, .int .i64 n.lsn, .int .i64 n.rgt, .string n.high, .slice p.k n.keys.length p.kc, .slice p.v n.vals.length p.vc, .slice p.i n.kids.length p.ic] 25)
  have HB : Hid (∀ W, Fr (fun _ => False) (w.alloc (.cells #[.int .i64 n.lev, .int .i64 n.lsn, .int .i64 n.rgt, .string n.high, .slice p.k n.keys.length p.kc, .slice p.v n.vals.length p.vc, .slice p.i n.kids.length p.ic] 25)) W → W.cell? ⟨w.heap.size, 0, none⟩ = some (.int .i64 n.lev) ∧ W.cell? ⟨w.heap.size, 1, none⟩ = some (.int .i64 n.lsn) ∧ W.cell? ⟨w.heap.size, 2, none⟩ = some (.int .i64 n.rgt) ∧ W.cell? ⟨w.heap.size, 3, none⟩ = some (.string n.high) ∧ W.cell? ⟨w.heap.size, 4, none⟩ = some (.slice p.k n.keys.length p.kc) ∧ W.cell? ⟨w.heap.size, 5, none⟩ = some (.slice p.v n.vals.length p.vc) ∧ W.cell? ⟨w.heap.size, 6, none⟩ = some (.slice p.i n.kids.length p.ic)) := fun W f => box_cells (box_at w n p 25 f)
  have hcn := checkNode_any n p _ (h.same f0)
  unfold rgE at hcn
  cases hr : rightB n
  · rw [hr, if_neg (by simp)] at hcn
    have HE : Hid (splE n = 70) := by show _ = _; unfold splE; rw [hr, if_neg (by simp)]
    clear hr
    go_enter Try.func31, Try.ntmps31
    go_wp2_with fail
    refine hcn.mono ?_
    rintro e w1 ⟨rfl, f1⟩
    go_wp2
    go_ret2
    exact ⟨f0.seq' f1, .inl ⟨by rw [HE.out]; omega, by rw [HE.out]; rfl⟩⟩
  · rw [hr, if_pos rfl] at hcn
    have r := (right_iff n).1 hr
    by_cases hl2 : n.keys.length < 2
    · have HE : Hid (splE n = 7) := by show _ = _; unfold splE; rw [hr, if_pos rfl, if_pos hl2]
      have hli : (n.keys.length : Int) < 2 := by omega
      clear hr r
      go_enter Try.func31, Try.ntmps31
      go_wp2_with fail
      refine hcn.mono ?_
      rintro e w1 ⟨rfl, f1⟩
      obtain ⟨c0, c1, c2, c3, c4, c5, c6⟩ := HB.out _ f1
      go_wp2
      go_ret2
      exact ⟨f0.seq' f1, .inl ⟨by rw [HE.out]; omega, by rw [HE.out]; rfl⟩⟩
    · have HE : Hid (splE n = 0) := by show _ = _; unfold splE; rw [hr, if_pos rfl, if_neg hl2]
      have hli : (2 : Int) ≤ (n.keys.length : Int) := by omega
      have hml := fun W hW => middle_any n p r (by omega) W hW
      have hlf := fun W => isLeafN_any n p W
      have HR : Hid (Rt n) := r
      have HS : Hid (srt n.keys) := r.srt
      have hks := h.klen
      have hfew := keys_few r
      clear hr
      by_cases h0 : n.lev = 0
      · have hb : (n.lev == 0) = true := by simpa using h0
        rw [hb] at hlf
        have H0 : Hid (n.lev = 0) := h0
        clear h0 hb r
        go_enter Try.func31, Try.ntmps31
        go_wp2_with fail
        refine hcn.mono ?_
        rintro e w1 ⟨rfl, f1⟩
        have F1 := f0.seq' f1
        obtain ⟨c0, c1, c2, c3, c4, c5, c6⟩ := HB.out _ f1
        go_wp2_with fail
        refine (hml _ (h.same F1)).mono ?_
        rintro e w2 ⟨m, hm, rfl, f2⟩
        clear c0 c1 c2 c3 c4 c5 c6 hml
        obtain ⟨c0, c1, c2, c3, c4, c5, c6⟩ := HB.out _ (f1.seq' f2)
        go_wp2_with fail
        refine (hlf _).mono ?_
        rintro e w3 ⟨rfl, f3⟩
        clear c0 c1 c2 c3 c4 c5 c6 hlf
        have F3 := F1.seq' (f2.seq' f3)
        have fr3 := (f1.seq' (f2.seq' f3)).drew
        have hN3 := h.same (f0.seq' fr3)
        obtain ⟨q, rfl⟩ : ∃ q, m = q + 1 := ⟨m - 1, by have := hm.lo; omega⟩
        have hq1 : q + 1 < n.keys.length := by have := hm.hi; omega
        obtain ⟨bk, ok, ek, hbk, hck⟩ := strs_some hN3.keys hq1
        have hka := hck q (by omega)
        have hkb := hck (q + 1) hq1
        have hsa := h.ksz _ (strs_get (show q < n.keys.length by omega))
        have hsb := h.ksz _ (strs_get hq1)
        have hcp := cpl_m1 (HS.out q (q + 1) (by omega) hq1)
        have HSS : Hid (splS n (q + 1) = (n.keys.getD (q + 1) ByteArray.empty).extract 0 (cmn (bsOf (n.keys.getD q ByteArray.empty)) (bsOf (n.keys.getD (q + 1) ByteArray.empty)) + 1)) := by
          show _ = _
          unfold splS
          rw [if_pos H0.out, show q + 1 - 1 = q by omega]
        obtain ⟨_, _, _, _, c4, _, _⟩ := HB.out _ fr3
        rw [ek] at c4
        have HM : Hid (Mid n (q + 1)) := hm
        obtain ⟨x, hx⟩ : ∃ x, x = n.keys.getD q ByteArray.empty := ⟨_, rfl⟩
        obtain ⟨y, hy⟩ : ∃ y, y = n.keys.getD (q + 1) ByteArray.empty := ⟨_, rfl⟩
        rw [← hx] at hka hsa hcp HSS
        rw [← hy] at hkb hsb hcp HSS
        have hqi : (q : Int) < (n.keys.length : Int) := by omega
        have hqi1 : (q : Int) + 1 < (n.keys.length : Int) := by omega
        have hq0 : (0 : Int) ≤ (q : Int) := by omega
        have hq00 : (0 : Int) ≤ (q : Int) + 1 := by omega
        have hqt : ((q : Int) + 1).toNat = q + 1 := by omega
        have hqw : IntKind.i64.wrap ((q : Int) + 1 - 1) = (q : Int) := by rw [IntKind.wrap_i64]; omega
        have hqs : (q : Int) + 1 - 1 = (q : Int) := by omega
        have hqw2 : IntKind.i64.wrap (q : Int) = (q : Int) := by rw [IntKind.wrap_i64]; omega
        have hbt := fun W => between_yes x y hsa hsb hcp W
        generalize y.extract 0 (cmn (bsOf x) (bsOf y) + 1) = z at *
        clear hx hy hck hm hcp hN3
        have q0 : w3.drew.cell? ⟨w.heap.size, 4, none⟩ = some (.slice (some ⟨bk, ok, none⟩) n.keys.length p.kc) ∧ w3.drew.cell? ⟨bk, ok + q, none⟩ = some (.string x) ∧ w3.drew.cell? ⟨bk, ok + (q + 1), none⟩ = some (.string y) := ⟨c4, hka, hkb⟩
        have HQ : Hid (∀ W, Fr (fun _ => False) w3.drew W → W.cell? ⟨w.heap.size, 4, none⟩ = some (.slice (some ⟨bk, ok, none⟩) n.keys.length p.kc) ∧ W.cell? ⟨bk, ok + q, none⟩ = some (.string x) ∧ W.cell? ⟨bk, ok + (q + 1), none⟩ = some (.string y)) := fun W f => ⟨(f.cell (p := ⟨w.heap.size, 4, none⟩) (World.block_lt_of_cell? _ _ c4) (fun f => f)).trans c4, (f.cell (p := ⟨bk, ok + q, none⟩) hbk (fun f => f)).trans hka, (f.cell (p := ⟨bk, ok + (q + 1), none⟩) hbk (fun f => f)).trans hkb⟩
        go_wp2_with fail
        go_region_held3 (fun W => W.cell? ⟨w.heap.size, 4, none⟩ = some (.slice (some ⟨bk, ok, none⟩) n.keys.length p.kc) ∧ W.cell? ⟨bk, ok + q, none⟩ = some (.string x) ∧ W.cell? ⟨bk, ok + (q + 1), none⟩ = some (.string y))
          (first | with_reducible exact q0 | with_reducible exact q4)
          ((go_at_call 73; refine (hbt _).mono ?_; rintro e w4 ⟨rfl, f4⟩; have q4 := HQ.out _ f4))
        go_wp2
        go_ret2
        exact ⟨F3.seq' (((Fr.refl _ _).drew).seq' f4), .inr ⟨HE.out, HR.out, q + 1, HM.out, by rw [HSS.out]; rfl⟩⟩
      · have hb : (n.lev == 0) = false := by simpa using h0
        rw [hb] at hlf
        have H0 : Hid (n.lev ≠ 0) := h0
        clear h0 hb r
        go_enter Try.func31, Try.ntmps31
        go_wp2_with fail
        refine hcn.mono ?_
        rintro e w1 ⟨rfl, f1⟩
        have F1 := f0.seq' f1
        obtain ⟨c0, c1, c2, c3, c4, c5, c6⟩ := HB.out _ f1
        go_wp2_with fail
        refine (hml _ (h.same F1)).mono ?_
        rintro e w2 ⟨m, hm, rfl, f2⟩
        clear c0 c1 c2 c3 c4 c5 c6 hml
        obtain ⟨c0, c1, c2, c3, c4, c5, c6⟩ := HB.out _ (f1.seq' f2)
        go_wp2_with fail
        refine (hlf _).mono ?_
        rintro e w3 ⟨rfl, f3⟩
        clear c0 c1 c2 c3 c4 c5 c6 hlf
        have F3 := F1.seq' (f2.seq' f3)
        have fr3 := f1.seq' (f2.seq' f3)
        have hN3 := h.same (f0.seq' fr3)
        have hq1 : m < n.keys.length := by have := hm.hi; omega
        obtain ⟨bk, ok, ek, hbk, hck⟩ := strs_some hN3.keys hq1
        have hkb := hck m hq1
        have HSS : Hid (splS n m = n.keys.getD m ByteArray.empty) := if_neg H0.out
        obtain ⟨_, _, _, _, c4, _, _⟩ := HB.out _ fr3
        rw [ek] at c4
        have HM : Hid (Mid n m) := hm
        obtain ⟨y, hy⟩ : ∃ y, y = n.keys.getD m ByteArray.empty := ⟨_, rfl⟩
        rw [← hy] at hkb HSS
        have hqi : (m : Int) < (n.keys.length : Int) := by omega
        clear hy hck hm hN3
        go_wp2
        go_ret2
        exact ⟨F3, .inr ⟨HE.out, HR.out, m, HM.out, by rw [HSS.out]; rfl⟩⟩
end Go.Proofs.Ytaaedmacefiinaa
