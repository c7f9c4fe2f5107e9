
/- NdPart. -/
import Derived.Test.YtnckmajfmkkpgaaGreatBB19
import Derived.Test.YtnckmajfmkkpgaaGreatBB17
/- Parts of a node: what piece, parted, Left and Rest make. -/
namespace Go.Proofs.YtnckmajfmkkpgaaGreat
open Go.RowKit
attribute [local go_sem ↓] slS_eq slI_eq

theorem Fr.blk {S : Nat → Prop} {w w' : World} (f : Fr S w w') {k : Nat} {o : Obj} (h : w.heap[k]? = some o) (hn : ¬ S k) : w'.heap[k]? = some o := by
  rw [f.block k (lt_of_block h) hn]; exact h
/-- The entries from b on, ahead of e. -/
def pieceN (n : Nd) (b e : Nat) : Nd := ⟨n.lev, n.lsn, n.rgt, n.high, (n.keys.take e).drop b, if n.lev = 0 then (n.vals.take e).drop b else [], if n.lev = 0 then [] else (n.kids.take (e + 1)).drop b⟩
/-- What a call leaves that answers a node. -/
def NdOut (m : Nd) (w : World) (e : Ending) (w' : World) : Prop := ∃ p : Pt, e = .returned (.agg #[.int .i64 m.lev, .int .i64 m.lsn, .int .i64 m.rgt, .string m.high, .slice p.k m.keys.length p.kc, .slice p.v m.vals.length p.vc, .slice p.i m.kids.length p.ic]) ∧ Nod w' m p ∧ (∀ b off, (p.k = some ⟨b, off, none⟩ ∨ p.v = some ⟨b, off, none⟩ ∨ p.i = some ⟨b, off, none⟩) → w.heap.size ≤ b) ∧ Fr (fun _ => False) w w'
def NdOut2 (m : Nd) (err : Int) (w : World) (e : Ending) (w' : World) : Prop := ∃ p : Pt, e = .returned (.tuple #[(.agg #[.int .i64 m.lev, .int .i64 m.lsn, .int .i64 m.rgt, .string m.high, .slice p.k m.keys.length p.kc, .slice p.v m.vals.length p.vc, .slice p.i m.kids.length p.ic]), .int .i64 err]) ∧ Nod w' m p ∧ Fr (fun _ => False) w w' ∧ Nw w p
theorem strs_nil (w : World) : Strs w none 0 [] := ⟨Nat.le_refl _, by omega, (fun s hs => by cases hs), .inl rfl⟩
theorem ints_nil (w : World) : Ints w none 0 [] := ⟨Nat.le_refl _, by omega, .inl rfl⟩
theorem CpS.strs {w' : World} {l : List ByteArray} {a' : Option Addr} {c' : Nat} (h : Has w' 1 (.slice a' l.length c') l.length (strCells l)) (hz : ∀ s ∈ l, s.size ≤ 65535) : Strs w' a' c' l := by
  obtain ⟨a, c, e, hs⟩ := Has.strs h hz
  simp only [Value.slice.injEq, true_and] at e
  obtain ⟨rfl, rfl⟩ := e
  exact hs
theorem CpI.ints {w' : World} {l : List Int} {a' : Option Addr} {c' : Nat} (h : Has w' 1 (.slice a' l.length c') l.length (intCells l)) : Ints w' a' c' l := by
  obtain ⟨a, c, e, hs⟩ := Has.ints h
  simp only [Value.slice.injEq, true_and] at e
  obtain ⟨rfl, rfl⟩ := e
  exact hs
set_option maxRecDepth 100000 in
set_option maxHeartbeats 2000000 in
theorem piece_leaf (n : Nd) (p : Pt) (r : Rt n) (b e : Nat) (h1 : b ≤ e) (h2 : e ≤ n.keys.length) (h0 : n.lev = 0) (w : World) (h : Nod w n p) : Calls Tryz.prog 101 #[(.agg #[.int .i64 n.lev, .int .i64 n.lsn, .int .i64 n.rgt, .string n.high, .slice p.k n.keys.length p.kc, .slice p.v n.vals.length p.vc, .slice p.i n.kids.length p.ic]), .int .i64 b, .int .i64 e] w fun en w' => NdOut (pieceN n b e) w en w' := by
  have hfew := keys_few r
  have hvl := (r.leaf h0).1
  have hkc := h.keys.le
  have hvc := h.vals.le
  have HPN : Hid (pieceN n b e = ⟨n.lev, n.lsn, n.rgt, n.high, (n.keys.take e).drop b, (n.vals.take e).drop b, []⟩) := by
    show _ = _
    unfold pieceN
    rw [if_pos h0, if_pos h0]
  have HKZ : Hid (∀ s ∈ (n.keys.take e).drop b, s.size ≤ 65535) := fun s hs => Nat.le_trans (size_of_mem (fun i hi => (r.keys i hi).1.2) s (List.mem_of_mem_take (List.mem_of_mem_drop hs))) (by omega)
  have HVZ : Hid (∀ s ∈ (n.vals.take e).drop b, s.size ≤ 65535) := fun s hs => Nat.le_trans (size_of_mem (r.leaf h0).2.2 s (List.mem_of_mem_take (List.mem_of_mem_drop hs))) (by omega)
  have HKL : Hid (((n.keys.take e).drop b).length = e - b) := by show _ = _; simp; omega
  have HVL : Hid (((n.vals.take e).drop b).length = e - b) := by show _ = _; simp; omega
  have hs1 := fun W => run_slS p.k n.keys.length p.kc b e h1 (by omega) W
  have hs2 := fun W => run_slS p.v n.vals.length p.vc b e h1 (by omega) W
  have HC1 : Hid (∀ W, Nod W n p → Strs W (cutA p.k p.kc b) (p.kc - b) ((n.keys.take e).drop b)) := fun W hW => cut_s hW.keys b e h1 h2
  have HC2 : Hid (∀ W, Nod W n p → Strs W (cutA p.v p.vc b) (p.vc - b) ((n.vals.take e).drop b)) := fun W hW => cut_s hW.vals b e h1 (by omega)
  generalize (n.keys.take e).drop b = K at *
  generalize (n.vals.take e).drop b = V at *
  generalize cutA p.k p.kc b = ka at *
  generalize cutA p.v p.vc b = va at *
  generalize p.kc - b = kcc at *
  generalize p.vc - b = vcc at *
  have hlf := fun W => isLeafN_any n p W
  have hb0 : (n.lev == 0) = true := by simpa using h0
  rw [hb0] at hlf
  have HEB : Hid (e - b ≤ 100000) := by show _ ≤ _; omega
  generalize e - b = eb at *
  have f0 : Fr (fun _ => False) w ((w.alloc (.cells #[.int .i64 n.lev, .int .i64 n.lsn, .int .i64 n.rgt, .string n.high, .slice p.k n.keys.length p.kc, .slice p.v n.vals.length p.vc, .slice p.i n.kids.length p.ic] 28)).alloc (.cells #[.int .i64 0, .int .i64 0, .int .i64 0, .string ⟨#[]⟩, .slice none 0 0, .slice none 0 0, .slice none 0 0] 28)) := ((Fr.refl _ _).alloc _).alloc _
  have HB : Hid (∀ W, Fr (fun _ => False) ((w.alloc (.cells #[.int .i64 n.lev, .int .i64 n.lsn, .int .i64 n.rgt, .string n.high, .slice p.k n.keys.length p.kc, .slice p.v n.vals.length p.vc, .slice p.i n.kids.length p.ic] 28)).alloc (.cells #[.int .i64 0, .int .i64 0, .int .i64 0, .string ⟨#[]⟩, .slice none 0 0, .slice none 0 0, .slice none 0 0] 28)) W → W.cell? ⟨w.heap.size, 0, none⟩ = some (.int .i64 n.lev) ∧ W.cell? ⟨w.heap.size, 1, none⟩ = some (.int .i64 n.lsn) ∧ W.cell? ⟨w.heap.size, 2, none⟩ = some (.int .i64 n.rgt) ∧ W.cell? ⟨w.heap.size, 3, none⟩ = some (.string n.high) ∧ W.cell? ⟨w.heap.size, 4, none⟩ = some (.slice p.k n.keys.length p.kc) ∧ W.cell? ⟨w.heap.size, 5, none⟩ = some (.slice p.v n.vals.length p.vc) ∧ W.cell? ⟨w.heap.size, 6, none⟩ = some (.slice p.i n.kids.length p.ic)) := fun W f => box_cells (box_at w n p 28 (((Fr.refl _ _).alloc _).seq' f))
  have fr0 := (Fr.refl (fun _ => False) ((w.alloc (.cells #[.int .i64 n.lev, .int .i64 n.lsn, .int .i64 n.rgt, .string n.high, .slice p.k n.keys.length p.kc, .slice p.v n.vals.length p.vc, .slice p.i n.kids.length p.ic] 28)).alloc (.cells #[.int .i64 0, .int .i64 0, .int .i64 0, .string ⟨#[]⟩, .slice none 0 0, .slice none 0 0, .slice none 0 0] 28))).drew
  have q0 := HB.out _ fr0
  have hN := h.same (f0.seq' fr0)
  have hNa := (h.same (f0.seq' ((Fr.refl (fun _ => False) _).alloc (.cells #[.int .i64 0, .int .i64 0, .int .i64 0, .string ⟨#[]⟩, .slice none 0 0, .slice none 0 0, .slice none 0 0] 28)))).same ((Fr.refl (fun _ => False) _).drew)
  have fra := ((Fr.refl (fun _ => False) ((w.alloc (.cells #[.int .i64 n.lev, .int .i64 n.lsn, .int .i64 n.rgt, .string n.high, .slice p.k n.keys.length p.kc, .slice p.v n.vals.length p.vc, .slice p.i n.kids.length p.ic] 28)).alloc (.cells #[.int .i64 0, .int .i64 0, .int .i64 0, .string ⟨#[]⟩, .slice none 0 0, .slice none 0 0, .slice none 0 0] 28))).alloc (.cells #[.int .i64 0, .int .i64 0, .int .i64 0, .string ⟨#[]⟩, .slice none 0 0, .slice none 0 0, .slice none 0 0] 28)).drew
  have hba : (((w.alloc (.cells #[.int .i64 n.lev, .int .i64 n.lsn, .int .i64 n.rgt, .string n.high, .slice p.k n.keys.length p.kc, .slice p.v n.vals.length p.vc, .slice p.i n.kids.length p.ic] 28)).alloc (.cells #[.int .i64 0, .int .i64 0, .int .i64 0, .string ⟨#[]⟩, .slice none 0 0, .slice none 0 0, .slice none 0 0] 28)).alloc (.cells #[.int .i64 0, .int .i64 0, .int .i64 0, .string ⟨#[]⟩, .slice none 0 0, .slice none 0 0, .slice none 0 0] 28)).drew.heap[w.heap.size + 1 + 1]? = some (.cells #[.int .i64 0, .int .i64 0, .int .i64 0, .string ⟨#[]⟩, .slice none 0 0, .slice none 0 0, .slice none 0 0] 28 (0, 0)) := by
    have := heap_alloc_new ((w.alloc (.cells #[.int .i64 n.lev, .int .i64 n.lsn, .int .i64 n.rgt, .string n.high, .slice p.k n.keys.length p.kc, .slice p.v n.vals.length p.vc, .slice p.i n.kids.length p.ic] 28)).alloc (.cells #[.int .i64 0, .int .i64 0, .int .i64 0, .string ⟨#[]⟩, .slice none 0 0, .slice none 0 0, .slice none 0 0] 28)) (.cells #[.int .i64 0, .int .i64 0, .int .i64 0, .string ⟨#[]⟩, .slice none 0 0, .slice none 0 0, .slice none 0 0] 28)
    rw [show ((w.alloc (.cells #[.int .i64 n.lev, .int .i64 n.lsn, .int .i64 n.rgt, .string n.high, .slice p.k n.keys.length p.kc, .slice p.v n.vals.length p.vc, .slice p.i n.kids.length p.ic] 28)).alloc (.cells #[.int .i64 0, .int .i64 0, .int .i64 0, .string ⟨#[]⟩, .slice none 0 0, .slice none 0 0, .slice none 0 0] 28)).heap.size = w.heap.size + 1 + 1 by simp] at this
    exact this
  have qa := HB.out _ fra
  have hnb : w.heap.size + 1 + 1 < ((w.alloc (.cells #[.int .i64 n.lev, .int .i64 n.lsn, .int .i64 n.rgt, .string n.high, .slice p.k n.keys.length p.kc, .slice p.v n.vals.length p.vc, .slice p.i n.kids.length p.ic] 28)).alloc (.cells #[.int .i64 0, .int .i64 0, .int .i64 0, .string ⟨#[]⟩, .slice none 0 0, .slice none 0 0, .slice none 0 0] 28)).heap.size → False := fun h => by simp at h
  clear hb0 r h0 hvl hkc hvc hfew
  go_enter Tryz.func101, Tryz.ntmps101
  go_wp2_with fail
  go_region_held3 (fun W => W.cell? ⟨w.heap.size, 0, none⟩ = some (.int .i64 n.lev) ∧ W.cell? ⟨w.heap.size, 1, none⟩ = some (.int .i64 n.lsn) ∧ W.cell? ⟨w.heap.size, 2, none⟩ = some (.int .i64 n.rgt) ∧ W.cell? ⟨w.heap.size, 3, none⟩ = some (.string n.high) ∧ W.cell? ⟨w.heap.size, 4, none⟩ = some (.slice p.k n.keys.length p.kc) ∧ W.cell? ⟨w.heap.size, 5, none⟩ = some (.slice p.v n.vals.length p.vc) ∧ W.cell? ⟨w.heap.size, 6, none⟩ = some (.slice p.i n.kids.length p.ic))
    (first | with_reducible exact q0 | with_reducible exact qa | with_reducible exact q1 | with_reducible exact q2 | with_reducible exact q3 | with_reducible exact q4)
    (first
      | (go_at_call 29; refine (clone_s ka eb kcc K _ (HC1.out _ hN) HKL.out.symm (by rw [HKL.out]; exact HEB.out)).mono ?_; rintro en w1 ⟨a1, cc1, rfl, hs1', m1, o1⟩; rw [HKL.out]; have fr1 := fr0.seq' m1; have q1 := HB.out _ fr1; have fr2 := fr1.alloc (.cells #[.int .i64 0, .int .i64 0, .int .i64 0, .string ⟨#[]⟩, .slice none 0 0, .slice none 0 0, .slice none 0 0] 28); have q2 := HB.out _ fr2; have fr3 := fr1.alloc (.cells #[.int .i64 n.lev, .int .i64 n.lsn, .int .i64 n.rgt, .string n.high, .slice a1 eb cc1, .slice none 0 0, .slice none 0 0] 28); have q3 := HB.out _ fr3)
      | (go_at_call 29; refine (clone_s ka eb kcc K _ (HC1.out _ hNa) HKL.out.symm (by rw [HKL.out]; exact HEB.out)).mono ?_; rintro en w1 ⟨a1, cc1, rfl, hs1', m1, o1⟩; rw [HKL.out]; have frb := fra.seq' m1; have q1 := HB.out _ frb; have b1 := m1.blk hba (fun f => f); obtain ⟨⟨r0, r1, r2, r3, r4, r5, r6⟩, rz⟩ := node_cells b1; have z0 := rz 0; have z1 := rz 1; have z2 := rz 2; have z3 := rz 3; have z4 := rz 4; have z5 := rz 5; have z6 := rz 6; have q4 := HB.out _ ((((((((frb.setCell (p := ⟨w.heap.size + 1 + 1, 0, none⟩) hnb (.int .i64 n.lev)).setCell (p := ⟨w.heap.size + 1 + 1, 1, none⟩) hnb (.int .i64 n.lsn)).setCell (p := ⟨w.heap.size + 1 + 1, 2, none⟩) hnb (.int .i64 n.rgt)).setCell (p := ⟨w.heap.size + 1 + 1, 3, none⟩) hnb (.string n.high)).setCell (p := ⟨w.heap.size + 1 + 1, 4, none⟩) hnb (.slice a1 eb cc1)).setCell (p := ⟨w.heap.size + 1 + 1, 5, none⟩) hnb (.slice none 0 0)).setCell (p := ⟨w.heap.size + 1 + 1, 6, none⟩) hnb (.slice none 0 0)))))
  · have hbB := heap_alloc_new w1 (.cells #[.int .i64 n.lev, .int .i64 n.lsn, .int .i64 n.rgt, .string n.high, .slice a1 eb cc1, .slice none 0 0, .slice none 0 0] 28)
    have fW1 : Fr (fun _ => False) w1 (w1.alloc (.cells #[.int .i64 n.lev, .int .i64 n.lsn, .int .i64 n.rgt, .string n.high, .slice a1 eb cc1, .slice none 0 0, .slice none 0 0] 28)) := (Fr.refl _ _).alloc _
    have frW := fr3
    have hsK := hs1'.fr fW1 (fun _ _ f => f)
    have hoK : ∀ k, (Value.slice a1 K.length cc1).ownBlock = some k → k ≠ w1.heap.size ∧ k ≠ w.heap.size + 1 ∧ w.heap.size ≤ k := fun k hk => by
      have h1 := o1 k hk
      have h2 := hs1'.lt hk
      simp at h1
      omega
    have hBn : w.heap.size + 1 < w1.heap.size := by have := fr1.size; simp at this; omega
    clear q0 qa q1 q2 q3 fr1 fr2 fr3 m1 o1 hs1' fW1
    generalize w1.alloc (.cells #[.int .i64 n.lev, .int .i64 n.lsn, .int .i64 n.rgt, .string n.high, .slice a1 eb cc1, .slice none 0 0, .slice none 0 0] 28) = W at *
    generalize w1.heap.size = B at *

    rw [HKL.out] at hsK hoK
    have hRb : W.heap[w.heap.size + 1]? = some (.cells #[.int .i64 0, .int .i64 0, .int .i64 0, .string ⟨#[]⟩, .slice none 0 0, .slice none 0 0, .slice none 0 0] 28 (0, 0)) := by
      refine frW.blk ?_ (fun f => f)
      have := heap_alloc_new (w.alloc (.cells #[.int .i64 n.lev, .int .i64 n.lsn, .int .i64 n.rgt, .string n.high, .slice p.k n.keys.length p.kc, .slice p.v n.vals.length p.vc, .slice p.i n.kids.length p.ic] 28)) (.cells #[.int .i64 0, .int .i64 0, .int .i64 0, .string ⟨#[]⟩, .slice none 0 0, .slice none 0 0, .slice none 0 0] 28)
      rw [show (w.alloc (.cells #[.int .i64 n.lev, .int .i64 n.lsn, .int .i64 n.rgt, .string n.high, .slice p.k n.keys.length p.kc, .slice p.v n.vals.length p.vc, .slice p.i n.kids.length p.ic] 28)).heap.size = w.heap.size + 1 by simp] at this
      exact this
    have hBl : B < W.heap.size := lt_of_block hbB
    obtain ⟨x0, x1, x2, x3, x4, x5, x6⟩ := HB.out _ frW
    go_wp2_with fail
    refine (hlf _).mono ?_
    rintro en w4 ⟨rfl, f4⟩
    clear x0 x1 x2 x3 x4 x5 x6
    have fr4 := frW.seq' f4
    have hN4 := h.same (f0.seq' fr4)
    obtain ⟨x0, x1, x2, x3, x4, x5, x6⟩ := HB.out _ fr4
    go_wp2_with fail
    refine (clone_s va eb vcc V _ (HC2.out _ hN4) HVL.out.symm (by rw [HVL.out]; exact HEB.out)).mono ?_
    rintro en w5 ⟨a2, cc2, rfl, hsV, f5, oV⟩
    rw [HVL.out] at hsV oV ⊢
    clear x0 x1 x2 x3 x4 x5 x6
    have f45 := f4.seq' f5
    have hbB5 := f45.blk hbB (fun f => f)
    have hRb5 := f45.blk hRb (fun f => f)
    have hsK5 := hsK.fr f45 (fun _ _ f => f)
    have hne1 : ¬ (B = w.heap.size + 1) := by omega
    have hne2 : ¬ (w.heap.size + 1 = B) := by omega
    obtain ⟨⟨r0, r1, r2, r3, r4, r5, r6⟩, rz⟩ := node_cells hbB5
    have z5 := rz 5
    obtain ⟨⟨s0, s1, s2, s3, s4, s5, s6⟩, sz⟩ := node_cells hRb5
    have y0 := sz 0; have y1 := sz 1; have y2 := sz 2; have y3 := sz 3; have y4 := sz 4; have y5 := sz 5; have y6 := sz 6
    clear rz sz
    go_wp2
    have ffB : Fr (fun k => k = B) w5 (w5.setCell ⟨B, 5, none⟩ (.slice a2 eb cc2)) := (Fr.refl (fun k => k = B) w5).setCell (p := ⟨B, 5, none⟩) (fun _ => rfl) _
    have hR6 := ffB.blk hRb5 hne2
    obtain ⟨hq, ff⟩ := fin7 hR6 (.int .i64 n.lev) (.int .i64 n.lsn) (.int .i64 n.rgt) (.string n.high) (.slice a1 eb cc1) (.slice a2 eb cc2) (.slice none 0 0)
    have hB4 : B < w4.heap.size := Nat.lt_of_lt_of_le hBl f4.size
    have hsKf := (hsK5.fr ffB (fun k hk e => (hoK k hk).1 e)).fr ff (fun k hk e => (hoK k hk).2.1 e)
    have hsVf := (hsV.fr ffB (fun k hk e => by have := oV k hk; omega)).fr ff (fun k hk e => by have := oV k hk; omega)
    have ffw := ((f0.seq' (frW.seq' f45)).trans ffB (S := fun _ => False) (fun i hi e => by omega)).trans ff (S := fun _ => False) (fun i hi e => by omega)
    generalize (((((((w5.setCell ⟨B, 5, none⟩ (.slice a2 eb cc2)).setCell ⟨w.heap.size + 1, 0, none⟩ (.int .i64 n.lev)).setCell ⟨w.heap.size + 1, 1, none⟩ (.int .i64 n.lsn)).setCell ⟨w.heap.size + 1, 2, none⟩ (.int .i64 n.rgt)).setCell ⟨w.heap.size + 1, 3, none⟩ (.string n.high)).setCell ⟨w.heap.size + 1, 4, none⟩ (.slice a1 eb cc1)).setCell ⟨w.heap.size + 1, 5, none⟩ (.slice a2 eb cc2)).setCell ⟨w.heap.size + 1, 6, none⟩ (.slice none 0 0) = Wf at hq hsKf hsVf ffw ⊢
    obtain ⟨⟨q0, q1, q2, q3, q4, q5, q6⟩, _⟩ := node_cells hq
    rw [← HKL.out] at hsKf
    rw [← HVL.out] at hsVf
    rw [HPN.out]
    refine bodyPost_ret (v := .agg #[.int .i64 n.lev, .int .i64 n.lsn, .int .i64 n.rgt, .string n.high, .slice a1 eb cc1, .slice a2 eb cc2, .slice none 0 0]) (by simp [results, Tryz.results101, go_sem, q0, q1, q2, q3, q4, q5, q6]) rfl ⟨⟨a1, cc1, a2, cc2, none, 0⟩, ?_, ?_, ?_, ffw⟩
    · show Ending.returned (.agg #[.int .i64 n.lev, .int .i64 n.lsn, .int .i64 n.rgt, .string n.high, .slice a1 eb cc1, .slice a2 eb cc2, .slice none 0 0]) = .returned (.agg #[.int .i64 n.lev, .int .i64 n.lsn, .int .i64 n.rgt, .string n.high, .slice a1 K.length cc1, .slice a2 V.length cc2, .slice none 0 0])
      rw [HKL.out, HVL.out]
    · have hk := HKZ.out
      have hv := HVZ.out
      have hkl := HKL.out
      have hvl := HVL.out
      have heb := HEB.out
      exact ⟨CpS.strs hsKf hk, CpS.strs hsVf hv, ints_nil _, h.high, fun s hs => Nat.le_trans (hk s hs) (by decide), fun s hs => Nat.le_trans (hv s hs) (by decide), by show K.length ≤ _; omega, by show V.length ≤ _; omega, Nat.zero_le _⟩
    · intro bb off hx
      rcases hx with hx | hx | hx
      · simp only at hx
        exact (hoK bb (by rw [hx]; rfl)).2.2
      · simp only at hx
        have := oV bb (by rw [hx]; rfl)
        omega
      · cases hx
  · obtain ⟨hbB, ff⟩ := fin7 b1 (.int .i64 n.lev) (.int .i64 n.lsn) (.int .i64 n.rgt) (.string n.high) (.slice a1 eb cc1) (.slice none 0 0) (.slice none 0 0)
    have hoB : ∀ k, (Value.slice a1 K.length cc1).ownBlock = some k → w.heap.size + 1 + 1 < k := fun k hk => by
      have h1 := o1 k hk
      simp at h1
      omega
    have frW := frb.trans ff (fun i hi e => by simp at hi; omega)
    have hsK := hs1'.fr ff (fun k hk e => by have := hoB k hk; omega)
    have hoK : ∀ k, (Value.slice a1 K.length cc1).ownBlock = some k → k ≠ w.heap.size + 1 + 1 ∧ k ≠ w.heap.size + 1 ∧ w.heap.size ≤ k := fun k hk => by have := hoB k hk; omega
    have hBn : w.heap.size + 1 < w.heap.size + 1 + 1 := by omega
    clear q0 qa q1 q4 r0 r1 r2 r3 r4 r5 r6 rz z0 z1 z2 z3 z4 z5 z6 b1 frb m1 o1 hs1' ff hoB
    generalize ((((((w1.setCell ⟨w.heap.size + 1 + 1, 0, none⟩ (.int .i64 n.lev)).setCell ⟨w.heap.size + 1 + 1, 1, none⟩ (.int .i64 n.lsn)).setCell ⟨w.heap.size + 1 + 1, 2, none⟩ (.int .i64 n.rgt)).setCell ⟨w.heap.size + 1 + 1, 3, none⟩ (.string n.high)).setCell ⟨w.heap.size + 1 + 1, 4, none⟩ (.slice a1 eb cc1)).setCell ⟨w.heap.size + 1 + 1, 5, none⟩ (.slice none 0 0)).setCell ⟨w.heap.size + 1 + 1, 6, none⟩ (.slice none 0 0) = W at *
    generalize w.heap.size + 1 + 1 = B at *

    rw [HKL.out] at hsK hoK
    have hRb : W.heap[w.heap.size + 1]? = some (.cells #[.int .i64 0, .int .i64 0, .int .i64 0, .string ⟨#[]⟩, .slice none 0 0, .slice none 0 0, .slice none 0 0] 28 (0, 0)) := by
      refine frW.blk ?_ (fun f => f)
      have := heap_alloc_new (w.alloc (.cells #[.int .i64 n.lev, .int .i64 n.lsn, .int .i64 n.rgt, .string n.high, .slice p.k n.keys.length p.kc, .slice p.v n.vals.length p.vc, .slice p.i n.kids.length p.ic] 28)) (.cells #[.int .i64 0, .int .i64 0, .int .i64 0, .string ⟨#[]⟩, .slice none 0 0, .slice none 0 0, .slice none 0 0] 28)
      rw [show (w.alloc (.cells #[.int .i64 n.lev, .int .i64 n.lsn, .int .i64 n.rgt, .string n.high, .slice p.k n.keys.length p.kc, .slice p.v n.vals.length p.vc, .slice p.i n.kids.length p.ic] 28)).heap.size = w.heap.size + 1 by simp] at this
      exact this
    have hBl : B < W.heap.size := lt_of_block hbB
    obtain ⟨x0, x1, x2, x3, x4, x5, x6⟩ := HB.out _ frW
    go_wp2_with fail
    refine (hlf _).mono ?_
    rintro en w4 ⟨rfl, f4⟩
    clear x0 x1 x2 x3 x4 x5 x6
    have fr4 := frW.seq' f4
    have hN4 := h.same (f0.seq' fr4)
    obtain ⟨x0, x1, x2, x3, x4, x5, x6⟩ := HB.out _ fr4
    go_wp2_with fail
    refine (clone_s va eb vcc V _ (HC2.out _ hN4) HVL.out.symm (by rw [HVL.out]; exact HEB.out)).mono ?_
    rintro en w5 ⟨a2, cc2, rfl, hsV, f5, oV⟩
    rw [HVL.out] at hsV oV ⊢
    clear x0 x1 x2 x3 x4 x5 x6
    have f45 := f4.seq' f5
    have hbB5 := f45.blk hbB (fun f => f)
    have hRb5 := f45.blk hRb (fun f => f)
    have hsK5 := hsK.fr f45 (fun _ _ f => f)
    have hne1 : ¬ (B = w.heap.size + 1) := by omega
    have hne2 : ¬ (w.heap.size + 1 = B) := by omega
    obtain ⟨⟨r0, r1, r2, r3, r4, r5, r6⟩, rz⟩ := node_cells hbB5
    have z5 := rz 5
    obtain ⟨⟨s0, s1, s2, s3, s4, s5, s6⟩, sz⟩ := node_cells hRb5
    have y0 := sz 0; have y1 := sz 1; have y2 := sz 2; have y3 := sz 3; have y4 := sz 4; have y5 := sz 5; have y6 := sz 6
    clear rz sz
    go_wp2
    have ffB : Fr (fun k => k = B) w5 (w5.setCell ⟨B, 5, none⟩ (.slice a2 eb cc2)) := (Fr.refl (fun k => k = B) w5).setCell (p := ⟨B, 5, none⟩) (fun _ => rfl) _
    have hR6 := ffB.blk hRb5 hne2
    obtain ⟨hq, ff⟩ := fin7 hR6 (.int .i64 n.lev) (.int .i64 n.lsn) (.int .i64 n.rgt) (.string n.high) (.slice a1 eb cc1) (.slice a2 eb cc2) (.slice none 0 0)
    have hB4 : B < w4.heap.size := Nat.lt_of_lt_of_le hBl f4.size
    have hsKf := (hsK5.fr ffB (fun k hk e => (hoK k hk).1 e)).fr ff (fun k hk e => (hoK k hk).2.1 e)
    have hsVf := (hsV.fr ffB (fun k hk e => by have := oV k hk; omega)).fr ff (fun k hk e => by have := oV k hk; omega)
    have ffw := ((f0.seq' (frW.seq' f45)).trans ffB (S := fun _ => False) (fun i hi e => by omega)).trans ff (S := fun _ => False) (fun i hi e => by omega)
    generalize (((((((w5.setCell ⟨B, 5, none⟩ (.slice a2 eb cc2)).setCell ⟨w.heap.size + 1, 0, none⟩ (.int .i64 n.lev)).setCell ⟨w.heap.size + 1, 1, none⟩ (.int .i64 n.lsn)).setCell ⟨w.heap.size + 1, 2, none⟩ (.int .i64 n.rgt)).setCell ⟨w.heap.size + 1, 3, none⟩ (.string n.high)).setCell ⟨w.heap.size + 1, 4, none⟩ (.slice a1 eb cc1)).setCell ⟨w.heap.size + 1, 5, none⟩ (.slice a2 eb cc2)).setCell ⟨w.heap.size + 1, 6, none⟩ (.slice none 0 0) = Wf at hq hsKf hsVf ffw ⊢
    obtain ⟨⟨q0, q1, q2, q3, q4, q5, q6⟩, _⟩ := node_cells hq
    rw [← HKL.out] at hsKf
    rw [← HVL.out] at hsVf
    rw [HPN.out]
    refine bodyPost_ret (v := .agg #[.int .i64 n.lev, .int .i64 n.lsn, .int .i64 n.rgt, .string n.high, .slice a1 eb cc1, .slice a2 eb cc2, .slice none 0 0]) (by simp [results, Tryz.results101, go_sem, q0, q1, q2, q3, q4, q5, q6]) rfl ⟨⟨a1, cc1, a2, cc2, none, 0⟩, ?_, ?_, ?_, ffw⟩
    · show Ending.returned (.agg #[.int .i64 n.lev, .int .i64 n.lsn, .int .i64 n.rgt, .string n.high, .slice a1 eb cc1, .slice a2 eb cc2, .slice none 0 0]) = .returned (.agg #[.int .i64 n.lev, .int .i64 n.lsn, .int .i64 n.rgt, .string n.high, .slice a1 K.length cc1, .slice a2 V.length cc2, .slice none 0 0])
      rw [HKL.out, HVL.out]
    · have hk := HKZ.out
      have hv := HVZ.out
      have hkl := HKL.out
      have hvl := HVL.out
      have heb := HEB.out
      exact ⟨CpS.strs hsKf hk, CpS.strs hsVf hv, ints_nil _, h.high, fun s hs => Nat.le_trans (hk s hs) (by decide), fun s hs => Nat.le_trans (hv s hs) (by decide), by show K.length ≤ _; omega, by show V.length ≤ _; omega, Nat.zero_le _⟩
    · intro bb off hx
      rcases hx with hx | hx | hx
      · simp only at hx
        exact (hoK bb (by rw [hx]; rfl)).2.2
      · simp only at hx
        have := oV bb (by rw [hx]; rfl)
        omega
      · cases hx
set_option maxRecDepth 100000 in
set_option maxHeartbeats 2000000 in
theorem piece_inner (n : Nd) (p : Pt) (r : Rt n) (b e : Nat) (h1 : b ≤ e) (h2 : e ≤ n.keys.length) (h0 : n.lev ≠ 0) (w : World) (h : Nod w n p) : Calls Tryz.prog 101 #[(.agg #[.int .i64 n.lev, .int .i64 n.lsn, .int .i64 n.rgt, .string n.high, .slice p.k n.keys.length p.kc, .slice p.v n.vals.length p.vc, .slice p.i n.kids.length p.ic]), .int .i64 b, .int .i64 e] w fun en w' => NdOut (pieceN n b e) w en w' := by
  have hfew := keys_few r
  have hvl := (r.inner h0).1
  have hkc := h.keys.le
  have hvc := h.kids.le
  have HPN : Hid (pieceN n b e = ⟨n.lev, n.lsn, n.rgt, n.high, (n.keys.take e).drop b, [], (n.kids.take (e + 1)).drop b⟩) := by
    show _ = _
    unfold pieceN
    rw [if_neg h0, if_neg h0]
  have HKZ : Hid (∀ s ∈ (n.keys.take e).drop b, s.size ≤ 65535) := fun s hs => Nat.le_trans (size_of_mem (fun i hi => (r.keys i hi).1.2) s (List.mem_of_mem_take (List.mem_of_mem_drop hs))) (by omega)
  have HKL : Hid (((n.keys.take e).drop b).length = e - b) := by show _ = _; simp; omega
  have HVL : Hid (((n.kids.take (e + 1)).drop b).length = e + 1 - b) := by show _ = _; simp; omega
  have hs1 := fun W => run_slS p.k n.keys.length p.kc b e h1 (by omega) W
  have hs2 := fun W => run_slI p.i n.kids.length p.ic b (e + 1) (by omega) (by omega) W
  rw [show (((e + 1 : Nat)) : Int) = (e : Int) + 1 by omega] at hs2
  have HC1 : Hid (∀ W, Nod W n p → Strs W (cutA p.k p.kc b) (p.kc - b) ((n.keys.take e).drop b)) := fun W hW => cut_s hW.keys b e h1 h2
  have HC2 : Hid (∀ W, Nod W n p → Ints W (cutA p.i p.ic b) (p.ic - b) ((n.kids.take (e + 1)).drop b)) := fun W hW => cut_i hW.kids b (e + 1) (by omega) (by omega)
  generalize (n.keys.take e).drop b = K at *
  generalize (n.kids.take (e + 1)).drop b = V at *
  generalize cutA p.k p.kc b = ka at *
  generalize cutA p.i p.ic b = va at *
  generalize p.kc - b = kcc at *
  generalize p.ic - b = vcc at *
  have hlf := fun W => isLeafN_any n p W
  have hb0 : (n.lev == 0) = false := by simpa using h0
  rw [hb0] at hlf
  have HEB : Hid (e - b ≤ 100000) := by show _ ≤ _; omega
  have HEI : Hid (e + 1 - b ≤ 100000) := by show _ ≤ _; omega
  have hei : (e : Int) + 1 ≤ 100000 := by omega
  generalize e + 1 - b = ei at *
  generalize e - b = eb at *
  have f0 : Fr (fun _ => False) w ((w.alloc (.cells #[.int .i64 n.lev, .int .i64 n.lsn, .int .i64 n.rgt, .string n.high, .slice p.k n.keys.length p.kc, .slice p.v n.vals.length p.vc, .slice p.i n.kids.length p.ic] 28)).alloc (.cells #[.int .i64 0, .int .i64 0, .int .i64 0, .string ⟨#[]⟩, .slice none 0 0, .slice none 0 0, .slice none 0 0] 28)) := ((Fr.refl _ _).alloc _).alloc _
  have HB : Hid (∀ W, Fr (fun _ => False) ((w.alloc (.cells #[.int .i64 n.lev, .int .i64 n.lsn, .int .i64 n.rgt, .string n.high, .slice p.k n.keys.length p.kc, .slice p.v n.vals.length p.vc, .slice p.i n.kids.length p.ic] 28)).alloc (.cells #[.int .i64 0, .int .i64 0, .int .i64 0, .string ⟨#[]⟩, .slice none 0 0, .slice none 0 0, .slice none 0 0] 28)) W → W.cell? ⟨w.heap.size, 0, none⟩ = some (.int .i64 n.lev) ∧ W.cell? ⟨w.heap.size, 1, none⟩ = some (.int .i64 n.lsn) ∧ W.cell? ⟨w.heap.size, 2, none⟩ = some (.int .i64 n.rgt) ∧ W.cell? ⟨w.heap.size, 3, none⟩ = some (.string n.high) ∧ W.cell? ⟨w.heap.size, 4, none⟩ = some (.slice p.k n.keys.length p.kc) ∧ W.cell? ⟨w.heap.size, 5, none⟩ = some (.slice p.v n.vals.length p.vc) ∧ W.cell? ⟨w.heap.size, 6, none⟩ = some (.slice p.i n.kids.length p.ic)) := fun W f => box_cells (box_at w n p 28 (((Fr.refl _ _).alloc _).seq' f))
  have fr0 := (Fr.refl (fun _ => False) ((w.alloc (.cells #[.int .i64 n.lev, .int .i64 n.lsn, .int .i64 n.rgt, .string n.high, .slice p.k n.keys.length p.kc, .slice p.v n.vals.length p.vc, .slice p.i n.kids.length p.ic] 28)).alloc (.cells #[.int .i64 0, .int .i64 0, .int .i64 0, .string ⟨#[]⟩, .slice none 0 0, .slice none 0 0, .slice none 0 0] 28))).drew
  have q0 := HB.out _ fr0
  have hN := h.same (f0.seq' fr0)
  have hNa := (h.same (f0.seq' ((Fr.refl (fun _ => False) _).alloc (.cells #[.int .i64 0, .int .i64 0, .int .i64 0, .string ⟨#[]⟩, .slice none 0 0, .slice none 0 0, .slice none 0 0] 28)))).same ((Fr.refl (fun _ => False) _).drew)
  have fra := ((Fr.refl (fun _ => False) ((w.alloc (.cells #[.int .i64 n.lev, .int .i64 n.lsn, .int .i64 n.rgt, .string n.high, .slice p.k n.keys.length p.kc, .slice p.v n.vals.length p.vc, .slice p.i n.kids.length p.ic] 28)).alloc (.cells #[.int .i64 0, .int .i64 0, .int .i64 0, .string ⟨#[]⟩, .slice none 0 0, .slice none 0 0, .slice none 0 0] 28))).alloc (.cells #[.int .i64 0, .int .i64 0, .int .i64 0, .string ⟨#[]⟩, .slice none 0 0, .slice none 0 0, .slice none 0 0] 28)).drew
  have hba : (((w.alloc (.cells #[.int .i64 n.lev, .int .i64 n.lsn, .int .i64 n.rgt, .string n.high, .slice p.k n.keys.length p.kc, .slice p.v n.vals.length p.vc, .slice p.i n.kids.length p.ic] 28)).alloc (.cells #[.int .i64 0, .int .i64 0, .int .i64 0, .string ⟨#[]⟩, .slice none 0 0, .slice none 0 0, .slice none 0 0] 28)).alloc (.cells #[.int .i64 0, .int .i64 0, .int .i64 0, .string ⟨#[]⟩, .slice none 0 0, .slice none 0 0, .slice none 0 0] 28)).drew.heap[w.heap.size + 1 + 1]? = some (.cells #[.int .i64 0, .int .i64 0, .int .i64 0, .string ⟨#[]⟩, .slice none 0 0, .slice none 0 0, .slice none 0 0] 28 (0, 0)) := by
    have := heap_alloc_new ((w.alloc (.cells #[.int .i64 n.lev, .int .i64 n.lsn, .int .i64 n.rgt, .string n.high, .slice p.k n.keys.length p.kc, .slice p.v n.vals.length p.vc, .slice p.i n.kids.length p.ic] 28)).alloc (.cells #[.int .i64 0, .int .i64 0, .int .i64 0, .string ⟨#[]⟩, .slice none 0 0, .slice none 0 0, .slice none 0 0] 28)) (.cells #[.int .i64 0, .int .i64 0, .int .i64 0, .string ⟨#[]⟩, .slice none 0 0, .slice none 0 0, .slice none 0 0] 28)
    rw [show ((w.alloc (.cells #[.int .i64 n.lev, .int .i64 n.lsn, .int .i64 n.rgt, .string n.high, .slice p.k n.keys.length p.kc, .slice p.v n.vals.length p.vc, .slice p.i n.kids.length p.ic] 28)).alloc (.cells #[.int .i64 0, .int .i64 0, .int .i64 0, .string ⟨#[]⟩, .slice none 0 0, .slice none 0 0, .slice none 0 0] 28)).heap.size = w.heap.size + 1 + 1 by simp] at this
    exact this
  have qa := HB.out _ fra
  have hnb : w.heap.size + 1 + 1 < ((w.alloc (.cells #[.int .i64 n.lev, .int .i64 n.lsn, .int .i64 n.rgt, .string n.high, .slice p.k n.keys.length p.kc, .slice p.v n.vals.length p.vc, .slice p.i n.kids.length p.ic] 28)).alloc (.cells #[.int .i64 0, .int .i64 0, .int .i64 0, .string ⟨#[]⟩, .slice none 0 0, .slice none 0 0, .slice none 0 0] 28)).heap.size → False := fun h => by simp at h
  clear hb0 r h0 hvl hkc hvc hfew
  go_enter Tryz.func101, Tryz.ntmps101
  go_wp2_with fail
  go_region_held3 (fun W => W.cell? ⟨w.heap.size, 0, none⟩ = some (.int .i64 n.lev) ∧ W.cell? ⟨w.heap.size, 1, none⟩ = some (.int .i64 n.lsn) ∧ W.cell? ⟨w.heap.size, 2, none⟩ = some (.int .i64 n.rgt) ∧ W.cell? ⟨w.heap.size, 3, none⟩ = some (.string n.high) ∧ W.cell? ⟨w.heap.size, 4, none⟩ = some (.slice p.k n.keys.length p.kc) ∧ W.cell? ⟨w.heap.size, 5, none⟩ = some (.slice p.v n.vals.length p.vc) ∧ W.cell? ⟨w.heap.size, 6, none⟩ = some (.slice p.i n.kids.length p.ic))
    (first | with_reducible exact q0 | with_reducible exact qa | with_reducible exact q1 | with_reducible exact q2 | with_reducible exact q3 | with_reducible exact q4)
    (first
      | (go_at_call 29; refine (clone_s ka eb kcc K _ (HC1.out _ hN) HKL.out.symm (by rw [HKL.out]; exact HEB.out)).mono ?_; rintro en w1 ⟨a1, cc1, rfl, hs1', m1, o1⟩; rw [HKL.out]; have fr1 := fr0.seq' m1; have q1 := HB.out _ fr1; have fr2 := fr1.alloc (.cells #[.int .i64 0, .int .i64 0, .int .i64 0, .string ⟨#[]⟩, .slice none 0 0, .slice none 0 0, .slice none 0 0] 28); have q2 := HB.out _ fr2; have fr3 := fr1.alloc (.cells #[.int .i64 n.lev, .int .i64 n.lsn, .int .i64 n.rgt, .string n.high, .slice a1 eb cc1, .slice none 0 0, .slice none 0 0] 28); have q3 := HB.out _ fr3)
      | (go_at_call 29; refine (clone_s ka eb kcc K _ (HC1.out _ hNa) HKL.out.symm (by rw [HKL.out]; exact HEB.out)).mono ?_; rintro en w1 ⟨a1, cc1, rfl, hs1', m1, o1⟩; rw [HKL.out]; have frb := fra.seq' m1; have q1 := HB.out _ frb; have b1 := m1.blk hba (fun f => f); obtain ⟨⟨r0, r1, r2, r3, r4, r5, r6⟩, rz⟩ := node_cells b1; have z0 := rz 0; have z1 := rz 1; have z2 := rz 2; have z3 := rz 3; have z4 := rz 4; have z5 := rz 5; have z6 := rz 6; have q4 := HB.out _ ((((((((frb.setCell (p := ⟨w.heap.size + 1 + 1, 0, none⟩) hnb (.int .i64 n.lev)).setCell (p := ⟨w.heap.size + 1 + 1, 1, none⟩) hnb (.int .i64 n.lsn)).setCell (p := ⟨w.heap.size + 1 + 1, 2, none⟩) hnb (.int .i64 n.rgt)).setCell (p := ⟨w.heap.size + 1 + 1, 3, none⟩) hnb (.string n.high)).setCell (p := ⟨w.heap.size + 1 + 1, 4, none⟩) hnb (.slice a1 eb cc1)).setCell (p := ⟨w.heap.size + 1 + 1, 5, none⟩) hnb (.slice none 0 0)).setCell (p := ⟨w.heap.size + 1 + 1, 6, none⟩) hnb (.slice none 0 0)))))
  · have hbB := heap_alloc_new w1 (.cells #[.int .i64 n.lev, .int .i64 n.lsn, .int .i64 n.rgt, .string n.high, .slice a1 eb cc1, .slice none 0 0, .slice none 0 0] 28)
    have fW1 : Fr (fun _ => False) w1 (w1.alloc (.cells #[.int .i64 n.lev, .int .i64 n.lsn, .int .i64 n.rgt, .string n.high, .slice a1 eb cc1, .slice none 0 0, .slice none 0 0] 28)) := (Fr.refl _ _).alloc _
    have frW := fr3
    have hsK := hs1'.fr fW1 (fun _ _ f => f)
    have hoK : ∀ k, (Value.slice a1 K.length cc1).ownBlock = some k → k ≠ w1.heap.size ∧ k ≠ w.heap.size + 1 ∧ w.heap.size ≤ k := fun k hk => by
      have h1 := o1 k hk
      have h2 := hs1'.lt hk
      simp at h1
      omega
    have hBn : w.heap.size + 1 < w1.heap.size := by have := fr1.size; simp at this; omega
    clear q0 qa q1 q2 q3 fr1 fr2 fr3 m1 o1 hs1' fW1
    generalize w1.alloc (.cells #[.int .i64 n.lev, .int .i64 n.lsn, .int .i64 n.rgt, .string n.high, .slice a1 eb cc1, .slice none 0 0, .slice none 0 0] 28) = W at *
    generalize w1.heap.size = B at *

    rw [HKL.out] at hsK hoK
    have hRb : W.heap[w.heap.size + 1]? = some (.cells #[.int .i64 0, .int .i64 0, .int .i64 0, .string ⟨#[]⟩, .slice none 0 0, .slice none 0 0, .slice none 0 0] 28 (0, 0)) := by
      refine frW.blk ?_ (fun f => f)
      have := heap_alloc_new (w.alloc (.cells #[.int .i64 n.lev, .int .i64 n.lsn, .int .i64 n.rgt, .string n.high, .slice p.k n.keys.length p.kc, .slice p.v n.vals.length p.vc, .slice p.i n.kids.length p.ic] 28)) (.cells #[.int .i64 0, .int .i64 0, .int .i64 0, .string ⟨#[]⟩, .slice none 0 0, .slice none 0 0, .slice none 0 0] 28)
      rw [show (w.alloc (.cells #[.int .i64 n.lev, .int .i64 n.lsn, .int .i64 n.rgt, .string n.high, .slice p.k n.keys.length p.kc, .slice p.v n.vals.length p.vc, .slice p.i n.kids.length p.ic] 28)).heap.size = w.heap.size + 1 by simp] at this
      exact this
    have hBl : B < W.heap.size := lt_of_block hbB
    obtain ⟨x0, x1, x2, x3, x4, x5, x6⟩ := HB.out _ frW
    go_wp2_with fail
    refine (hlf _).mono ?_
    rintro en w4 ⟨rfl, f4⟩
    clear x0 x1 x2 x3 x4 x5 x6
    have fr4 := frW.seq' f4
    have hN4 := h.same (f0.seq' fr4)
    obtain ⟨x0, x1, x2, x3, x4, x5, x6⟩ := HB.out _ fr4
    go_wp2_with fail
    refine (clone_i va ei vcc V _ (HC2.out _ hN4) HVL.out.symm (by rw [HVL.out]; exact HEI.out)).mono ?_
    rintro en w5 ⟨a2, cc2, rfl, hsV, f5, oV⟩
    rw [HVL.out] at hsV oV ⊢
    clear x0 x1 x2 x3 x4 x5 x6
    have f45 := f4.seq' f5
    have hbB5 := f45.blk hbB (fun f => f)
    have hRb5 := f45.blk hRb (fun f => f)
    have hsK5 := hsK.fr f45 (fun _ _ f => f)
    have hne1 : ¬ (B = w.heap.size + 1) := by omega
    have hne2 : ¬ (w.heap.size + 1 = B) := by omega
    obtain ⟨⟨r0, r1, r2, r3, r4, r5, r6⟩, rz⟩ := node_cells hbB5
    have z5 := rz 6
    obtain ⟨⟨s0, s1, s2, s3, s4, s5, s6⟩, sz⟩ := node_cells hRb5
    have y0 := sz 0; have y1 := sz 1; have y2 := sz 2; have y3 := sz 3; have y4 := sz 4; have y5 := sz 5; have y6 := sz 6
    clear rz sz
    go_wp2
    have ffB : Fr (fun k => k = B) w5 (w5.setCell ⟨B, 6, none⟩ (.slice a2 ei cc2)) := (Fr.refl (fun k => k = B) w5).setCell (p := ⟨B, 6, none⟩) (fun _ => rfl) _
    have hR6 := ffB.blk hRb5 hne2
    obtain ⟨hq, ff⟩ := fin7 hR6 (.int .i64 n.lev) (.int .i64 n.lsn) (.int .i64 n.rgt) (.string n.high) (.slice a1 eb cc1) (.slice none 0 0) (.slice a2 ei cc2)
    have hB4 : B < w4.heap.size := Nat.lt_of_lt_of_le hBl f4.size
    have hsKf := (hsK5.fr ffB (fun k hk e => (hoK k hk).1 e)).fr ff (fun k hk e => (hoK k hk).2.1 e)
    have hsVf := (hsV.fr ffB (fun k hk e => by have := oV k hk; omega)).fr ff (fun k hk e => by have := oV k hk; omega)
    have ffw := ((f0.seq' (frW.seq' f45)).trans ffB (S := fun _ => False) (fun i hi e => by omega)).trans ff (S := fun _ => False) (fun i hi e => by omega)
    generalize (((((((w5.setCell ⟨B, 6, none⟩ (.slice a2 ei cc2)).setCell ⟨w.heap.size + 1, 0, none⟩ (.int .i64 n.lev)).setCell ⟨w.heap.size + 1, 1, none⟩ (.int .i64 n.lsn)).setCell ⟨w.heap.size + 1, 2, none⟩ (.int .i64 n.rgt)).setCell ⟨w.heap.size + 1, 3, none⟩ (.string n.high)).setCell ⟨w.heap.size + 1, 4, none⟩ (.slice a1 eb cc1)).setCell ⟨w.heap.size + 1, 5, none⟩ (.slice none 0 0)).setCell ⟨w.heap.size + 1, 6, none⟩ (.slice a2 ei cc2) = Wf at hq hsKf hsVf ffw ⊢
    obtain ⟨⟨q0, q1, q2, q3, q4, q5, q6⟩, _⟩ := node_cells hq
    rw [← HKL.out] at hsKf
    rw [← HVL.out] at hsVf
    rw [HPN.out]
    refine bodyPost_ret (v := .agg #[.int .i64 n.lev, .int .i64 n.lsn, .int .i64 n.rgt, .string n.high, .slice a1 eb cc1, .slice none 0 0, .slice a2 ei cc2]) (by simp [results, Tryz.results101, go_sem, q0, q1, q2, q3, q4, q5, q6]) rfl ⟨⟨a1, cc1, none, 0, a2, cc2⟩, ?_, ?_, ?_, ffw⟩
    · show Ending.returned (.agg #[.int .i64 n.lev, .int .i64 n.lsn, .int .i64 n.rgt, .string n.high, .slice a1 eb cc1, .slice none 0 0, .slice a2 ei cc2]) = .returned (.agg #[.int .i64 n.lev, .int .i64 n.lsn, .int .i64 n.rgt, .string n.high, .slice a1 K.length cc1, .slice none 0 0, .slice a2 V.length cc2])
      rw [HKL.out, HVL.out]
    · have hk := HKZ.out
      have hei := HEI.out
      have hkl := HKL.out
      have hvl := HVL.out
      have heb := HEB.out
      exact ⟨CpS.strs hsKf hk, strs_nil _, CpI.ints hsVf, h.high, fun s hs => Nat.le_trans (hk s hs) (by decide), (fun s hs => by cases hs), by show K.length ≤ _; omega, Nat.zero_le _, by show V.length ≤ _; omega⟩
    · intro bb off hx
      rcases hx with hx | hx | hx
      · simp only at hx
        exact (hoK bb (by rw [hx]; rfl)).2.2
      · cases hx
      · simp only at hx
        have := oV bb (by rw [hx]; rfl)
        omega
  · obtain ⟨hbB, ff⟩ := fin7 b1 (.int .i64 n.lev) (.int .i64 n.lsn) (.int .i64 n.rgt) (.string n.high) (.slice a1 eb cc1) (.slice none 0 0) (.slice none 0 0)
    have hoB : ∀ k, (Value.slice a1 K.length cc1).ownBlock = some k → w.heap.size + 1 + 1 < k := fun k hk => by
      have h1 := o1 k hk
      simp at h1
      omega
    have frW := frb.trans ff (fun i hi e => by simp at hi; omega)
    have hsK := hs1'.fr ff (fun k hk e => by have := hoB k hk; omega)
    have hoK : ∀ k, (Value.slice a1 K.length cc1).ownBlock = some k → k ≠ w.heap.size + 1 + 1 ∧ k ≠ w.heap.size + 1 ∧ w.heap.size ≤ k := fun k hk => by have := hoB k hk; omega
    have hBn : w.heap.size + 1 < w.heap.size + 1 + 1 := by omega
    clear q0 qa q1 q4 r0 r1 r2 r3 r4 r5 r6 rz z0 z1 z2 z3 z4 z5 z6 b1 frb m1 o1 hs1' ff hoB
    generalize ((((((w1.setCell ⟨w.heap.size + 1 + 1, 0, none⟩ (.int .i64 n.lev)).setCell ⟨w.heap.size + 1 + 1, 1, none⟩ (.int .i64 n.lsn)).setCell ⟨w.heap.size + 1 + 1, 2, none⟩ (.int .i64 n.rgt)).setCell ⟨w.heap.size + 1 + 1, 3, none⟩ (.string n.high)).setCell ⟨w.heap.size + 1 + 1, 4, none⟩ (.slice a1 eb cc1)).setCell ⟨w.heap.size + 1 + 1, 5, none⟩ (.slice none 0 0)).setCell ⟨w.heap.size + 1 + 1, 6, none⟩ (.slice none 0 0) = W at *
    generalize w.heap.size + 1 + 1 = B at *

    rw [HKL.out] at hsK hoK
    have hRb : W.heap[w.heap.size + 1]? = some (.cells #[.int .i64 0, .int .i64 0, .int .i64 0, .string ⟨#[]⟩, .slice none 0 0, .slice none 0 0, .slice none 0 0] 28 (0, 0)) := by
      refine frW.blk ?_ (fun f => f)
      have := heap_alloc_new (w.alloc (.cells #[.int .i64 n.lev, .int .i64 n.lsn, .int .i64 n.rgt, .string n.high, .slice p.k n.keys.length p.kc, .slice p.v n.vals.length p.vc, .slice p.i n.kids.length p.ic] 28)) (.cells #[.int .i64 0, .int .i64 0, .int .i64 0, .string ⟨#[]⟩, .slice none 0 0, .slice none 0 0, .slice none 0 0] 28)
      rw [show (w.alloc (.cells #[.int .i64 n.lev, .int .i64 n.lsn, .int .i64 n.rgt, .string n.high, .slice p.k n.keys.length p.kc, .slice p.v n.vals.length p.vc, .slice p.i n.kids.length p.ic] 28)).heap.size = w.heap.size + 1 by simp] at this
      exact this
    have hBl : B < W.heap.size := lt_of_block hbB
    obtain ⟨x0, x1, x2, x3, x4, x5, x6⟩ := HB.out _ frW
    go_wp2_with fail
    refine (hlf _).mono ?_
    rintro en w4 ⟨rfl, f4⟩
    clear x0 x1 x2 x3 x4 x5 x6
    have fr4 := frW.seq' f4
    have hN4 := h.same (f0.seq' fr4)
    obtain ⟨x0, x1, x2, x3, x4, x5, x6⟩ := HB.out _ fr4
    go_wp2_with fail
    refine (clone_i va ei vcc V _ (HC2.out _ hN4) HVL.out.symm (by rw [HVL.out]; exact HEI.out)).mono ?_
    rintro en w5 ⟨a2, cc2, rfl, hsV, f5, oV⟩
    rw [HVL.out] at hsV oV ⊢
    clear x0 x1 x2 x3 x4 x5 x6
    have f45 := f4.seq' f5
    have hbB5 := f45.blk hbB (fun f => f)
    have hRb5 := f45.blk hRb (fun f => f)
    have hsK5 := hsK.fr f45 (fun _ _ f => f)
    have hne1 : ¬ (B = w.heap.size + 1) := by omega
    have hne2 : ¬ (w.heap.size + 1 = B) := by omega
    obtain ⟨⟨r0, r1, r2, r3, r4, r5, r6⟩, rz⟩ := node_cells hbB5
    have z5 := rz 6
    obtain ⟨⟨s0, s1, s2, s3, s4, s5, s6⟩, sz⟩ := node_cells hRb5
    have y0 := sz 0; have y1 := sz 1; have y2 := sz 2; have y3 := sz 3; have y4 := sz 4; have y5 := sz 5; have y6 := sz 6
    clear rz sz
    go_wp2
    have ffB : Fr (fun k => k = B) w5 (w5.setCell ⟨B, 6, none⟩ (.slice a2 ei cc2)) := (Fr.refl (fun k => k = B) w5).setCell (p := ⟨B, 6, none⟩) (fun _ => rfl) _
    have hR6 := ffB.blk hRb5 hne2
    obtain ⟨hq, ff⟩ := fin7 hR6 (.int .i64 n.lev) (.int .i64 n.lsn) (.int .i64 n.rgt) (.string n.high) (.slice a1 eb cc1) (.slice none 0 0) (.slice a2 ei cc2)
    have hB4 : B < w4.heap.size := Nat.lt_of_lt_of_le hBl f4.size
    have hsKf := (hsK5.fr ffB (fun k hk e => (hoK k hk).1 e)).fr ff (fun k hk e => (hoK k hk).2.1 e)
    have hsVf := (hsV.fr ffB (fun k hk e => by have := oV k hk; omega)).fr ff (fun k hk e => by have := oV k hk; omega)
    have ffw := ((f0.seq' (frW.seq' f45)).trans ffB (S := fun _ => False) (fun i hi e => by omega)).trans ff (S := fun _ => False) (fun i hi e => by omega)
    generalize (((((((w5.setCell ⟨B, 6, none⟩ (.slice a2 ei cc2)).setCell ⟨w.heap.size + 1, 0, none⟩ (.int .i64 n.lev)).setCell ⟨w.heap.size + 1, 1, none⟩ (.int .i64 n.lsn)).setCell ⟨w.heap.size + 1, 2, none⟩ (.int .i64 n.rgt)).setCell ⟨w.heap.size + 1, 3, none⟩ (.string n.high)).setCell ⟨w.heap.size + 1, 4, none⟩ (.slice a1 eb cc1)).setCell ⟨w.heap.size + 1, 5, none⟩ (.slice none 0 0)).setCell ⟨w.heap.size + 1, 6, none⟩ (.slice a2 ei cc2) = Wf at hq hsKf hsVf ffw ⊢
    obtain ⟨⟨q0, q1, q2, q3, q4, q5, q6⟩, _⟩ := node_cells hq
    rw [← HKL.out] at hsKf
    rw [← HVL.out] at hsVf
    rw [HPN.out]
    refine bodyPost_ret (v := .agg #[.int .i64 n.lev, .int .i64 n.lsn, .int .i64 n.rgt, .string n.high, .slice a1 eb cc1, .slice none 0 0, .slice a2 ei cc2]) (by simp [results, Tryz.results101, go_sem, q0, q1, q2, q3, q4, q5, q6]) rfl ⟨⟨a1, cc1, none, 0, a2, cc2⟩, ?_, ?_, ?_, ffw⟩
    · show Ending.returned (.agg #[.int .i64 n.lev, .int .i64 n.lsn, .int .i64 n.rgt, .string n.high, .slice a1 eb cc1, .slice none 0 0, .slice a2 ei cc2]) = .returned (.agg #[.int .i64 n.lev, .int .i64 n.lsn, .int .i64 n.rgt, .string n.high, .slice a1 K.length cc1, .slice none 0 0, .slice a2 V.length cc2])
      rw [HKL.out, HVL.out]
    · have hk := HKZ.out
      have hei := HEI.out
      have hkl := HKL.out
      have hvl := HVL.out
      have heb := HEB.out
      exact ⟨CpS.strs hsKf hk, strs_nil _, CpI.ints hsVf, h.high, fun s hs => Nat.le_trans (hk s hs) (by decide), (fun s hs => by cases hs), by show K.length ≤ _; omega, Nat.zero_le _, by show V.length ≤ _; omega⟩
    · intro bb off hx
      rcases hx with hx | hx | hx
      · simp only at hx
        exact (hoK bb (by rw [hx]; rfl)).2.2
      · cases hx
      · simp only at hx
        have := oV bb (by rw [hx]; rfl)
        omega
end Go.Proofs.YtnckmajfmkkpgaaGreat
