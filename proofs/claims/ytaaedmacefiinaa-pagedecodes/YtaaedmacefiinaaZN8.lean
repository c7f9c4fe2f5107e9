
/- NdPart, NdPart2, NdPart3, NdSpeak, PgArg. -/
import Derived.Test.YtaaedmacefiinaaZN7
import Derived.SliceStrings
import Derived.Lib.SmallJoins
/- Parts of a node: what piece, parted, Left and Rest make. -/
namespace Go.Proofs.Ytaaedmacefiinaa
open Go.RowKit
attribute [local go_sem ↓] slS_eq slI_eq

theorem Fr.blk {S : Nat → Prop} {w w' : World} (f : Fr S w w') {k : Nat} {o : Obj} (h : w.heap[k]? = some o) (hn : ¬ S k) : w'.heap[k]? = some o := by
  rw [f.block k (lt_of_block h) hn]; exact h
/-- The entries from b on, ahead of e. -/
def pieceN (n : Nd) (b e : Nat) : Nd := ⟨n.lev, n.lsn, n.rgt, n.high, (n.keys.take e).drop b, if n.lev = 0 then (n.vals.take e).drop b else [], if n.lev = 0 then [] else (n.kids.take (e + 1)).drop b⟩
/-- What a call leaves that answers a node. -/
def NdOut (m : Nd) (w : World) (e : Ending) (w' : World) : Prop := ∃ p : Pt, e = .returned (.agg #[.int .i64 m.lev, .int .i64 m.lsn, .int .i64 m.rgt, .string m.high, .slice p.k m.keys.length p.kc, .slice p.v m.vals.length p.vc, .slice p.i m.kids.length p.ic]) ∧ Nod w' m p ∧ (∀ b off, (p.k = some ⟨b, off, none⟩ ∨ p.v = some ⟨b, off, none⟩ ∨ p.i = some ⟨b, off, none⟩) → w.heap.size ≤ b) ∧ Fr (fun _ => False) w w'
def NdOut2 (m : Nd) (err : Int) (w : World) (e : Ending) (w' : World) : Prop := ∃ p : Pt, e = .returned (.tuple #[(.agg #[.int .i64 m.lev, .int .i64 m.lsn, .int .i64 m.rgt, .string m.high, .slice p.k m.keys.length p.kc, .slice p.v m.vals.length p.vc, .slice p.i m.kids.length p.ic]), .int .i64 err]) ∧ Nod w' m p ∧ Fr (fun _ => False) w w'
theorem strs_nil (w : World) : Strs w none 0 [] := ⟨Nat.le_refl _, by omega, (fun s hs => by cases hs), .inl rfl⟩
theorem ints_nil (w : World) : Ints w none 0 [] := ⟨Nat.le_refl _, by omega, .inl rfl⟩
theorem CpS.strs {w' : World} {l : List ByteArray} {a' : Option Addr} {c' : Nat} (h : Has w' 1 (.slice a' l.length c') l.length (strCells l)) (hz : ∀ s ∈ l, s.size ≤ 65535) : Strs w' a' c' l := by
  obtain ⟨a, c, e, hs⟩ := Has.strs h hz
  simp only [Value.slice.injEq, true_and] at e
  obtain ⟨rfl, rfl⟩ := e
  exact hs
theorem CpI.ints {w' : World} {l : List Int} {a' : Option Addr} {c' : Nat} (h : Has w' 1 (.slice a' l.length c') l.length (intCells l)) : Ints w' a' c' l := by
  obtain ⟨a, c, e, hs⟩ := Has.ints h
  simp only [Value.slice.injEq, true_and] at e
  obtain ⟨rfl, rfl⟩ := e
  exact hs
set_option maxRecDepth 100000 in
set_option maxHeartbeats 2000000 in
theorem piece_leaf (n : Nd) (p : Pt) (r : Rt n) (b e : Nat) (h1 : b ≤ e) (h2 : e ≤ n.keys.length) (h0 : n.lev = 0) (w : World) (h : Nod w n p) : Calls Try.prog 77 #[(.agg #[.int .i64 n.lev, .int .i64 n.lsn, .int .i64 n.rgt, .string n.high, .slice p.k n.keys.length p.kc, .slice p.v n.vals.length p.vc, .slice p.i n.kids.length p.ic]), .int .i64 b, .int .i64 e] w fun en w' => NdOut (pieceN n b e) w en w' := by
  have hfew := keys_few r
  have hvl := (r.leaf h0).1
  have hkc := h.keys.le
  have hvc := h.vals.le
  have HPN : Hid (pieceN n b e = ⟨n.lev, n.lsn, n.rgt, n.high, (n.keys.take e).drop b, (n.vals.take e).drop b, []⟩) := by
    show _ = _
    unfold pieceN
    rw [if_pos h0, if_pos h0]
  have HKZ : Hid (∀ s ∈ (n.keys.take e).drop b, s.size ≤ 65535) := fun s hs => Nat.le_trans (size_of_mem (fun i hi => (r.keys i hi).1.2) s (List.mem_of_mem_take (List.mem_of_mem_drop hs))) (by omega)
  have HVZ : Hid (∀ s ∈ (n.vals.take e).drop b, s.size ≤ 65535) := fun s hs => Nat.le_trans (size_of_mem (r.leaf h0).2.2 s (List.mem_of_mem_take (List.mem_of_mem_drop hs))) (by omega)
  have HKL : Hid (((n.keys.take e).drop b).length = e - b) := by show _ = _; simp; omega
  have HVL : Hid (((n.vals.take e).drop b).length = e - b) := by show _ = _; simp; omega
  have hs1 := fun W => run_slS p.k n.keys.length p.kc b e h1 (by omega) W
  have hs2 := fun W => run_slS p.v n.vals.length p.vc b e h1 (by omega) W
  have HC1 : Hid (∀ W, Nod W n p → Strs W (cutA p.k p.kc b) (p.kc - b) ((n.keys.take e).drop b)) := fun W hW => cut_s hW.keys b e h1 h2
  have HC2 : Hid (∀ W, Nod W n p → Strs W (cutA p.v p.vc b) (p.vc - b) ((n.vals.take e).drop b)) := fun W hW => cut_s hW.vals b e h1 (by omega)
  generalize (n.keys.take e).drop b = K at *
  generalize (n.vals.take e).drop b = V at *
  generalize cutA p.k p.kc b = ka at *
  generalize cutA p.v p.vc b = va at *
  generalize p.kc - b = kcc at *
  generalize p.vc - b = vcc at *
  have hlf := fun W => isLeafN_any n p W
  have hb0 : (n.lev == 0) = true := by simpa using h0
  rw [hb0] at hlf
  have HEB : Hid (e - b ≤ 100000) := by show _ ≤ _; omega
  generalize e - b = eb at *
  have f0 : Fr (fun _ => False) w ((w.alloc (.cells #[.int .i64 n.lev, .int .i64 n.lsn, .int .i64 n.rgt, .string n.high, .slice p.k n.keys.length p.kc, .slice p.v n.vals.length p.vc, .slice p.i n.kids.length p.ic] 25)).alloc (.cells #[.int .i64 0, .int .i64 0, .int .i64 0, .string ⟨#[]⟩, .slice none 0 0, .slice none 0 0, .slice none 0 0] 25)) := ((Fr.refl _ _).alloc _).alloc _
  have HB : Hid (∀ W, Fr (fun _ => False) ((w.alloc (.cells #[.int .i64 n.lev, .int .i64 n.lsn, .int .i64 n.rgt, .string n.high, .slice p.k n.keys.length p.kc, .slice p.v n.vals.length p.vc, .slice p.i n.kids.length p.ic] 25)).alloc (.cells #[.int .i64 0, .int .i64 0, .int .i64 0, .string ⟨#[]⟩, .slice none 0 0, .slice none 0 0, .slice none 0 0] 25)) W → W.cell? ⟨w.heap.size, 0, none⟩ = some (.int .i64 n.lev) ∧ W.cell? ⟨w.heap.size, 1, none⟩ = some (.int .i64 n.lsn) ∧ W.cell? ⟨w.heap.size, 2, none⟩ = some (.int .i64 n.rgt) ∧ W.cell? ⟨w.heap.size, 3, none⟩ = some (.string n.high) ∧ W.cell? ⟨w.heap.size, 4, none⟩ = some (.slice p.k n.keys.length p.kc) ∧ W.cell? ⟨w.heap.size, 5, none⟩ = some (.slice p.v n.vals.length p.vc) ∧ W.cell? ⟨w.heap.size, 6, none⟩ = some (.slice p.i n.kids.length p.ic)) := fun W f => box_cells (box_at w n p 25 (((Fr.refl _ _).alloc _).seq' f))
  have fr0 := (Fr.refl (fun _ => False) ((w.alloc (.cells #[.int .i64 n.lev, .int .i64 n.lsn, .int .i64 n.rgt, .string n.high, .slice p.k n.keys.length p.kc, .slice p.v n.vals.length p.vc, .slice p.i n.kids.length p.ic] 25)).alloc (.cells #[.int .i64 0, .int .i64 0, .int .i64 0, .string ⟨#[]⟩, .slice none 0 0, .slice none 0 0, .slice none 0 0] 25))).drew
  have q0 := HB.out _ fr0
  have hN := h.same (f0.seq' fr0)
  have hNa := (h.same (f0.seq' ((Fr.refl (fun _ => False) _).alloc (.cells #[.int .i64 0, .int .i64 0, .int .i64 0, .string ⟨#[]⟩, .slice none 0 0, .slice none 0 0, .slice none 0 0] 25)))).same ((Fr.refl (fun _ => False) _).drew)
  have fra := ((Fr.refl (fun _ => False) ((w.alloc (.cells #[.int .i64 n.lev, .int .i64 n.lsn, .int .i64 n.rgt, .string n.high, .slice p.k n.keys.length p.kc, .slice p.v n.vals.length p.vc, .slice p.i n.kids.length p.ic] 25)).alloc (.cells #[.int .i64 0, .int .i64 0, .int .i64 0, .string ⟨#[]⟩, .slice none 0 0, .slice none 0 0, .slice none 0 0] 25))).alloc (.cells #[.int .i64 0, .int .i64 0, .int .i64 0, .string ⟨#[]⟩, .slice none 0 0, .slice none 0 0, .slice none 0 0] 25)).drew
  have hba : (((w.alloc (.cells #[.int .i64 n.lev, .int .i64 n.lsn, .int .i64 n.rgt, .string n.high, .slice p.k n.keys.length p.kc, .slice p.v n.vals.length p.vc, .slice p.i n.kids.length p.ic] 25)).alloc (.cells #[.int .i64 0, .int .i64 0, .int .i64 0, .string ⟨#[]⟩, .slice none 0 0, .slice none 0 0, .slice none 0 0] 25)).alloc (.cells #[.int .i64 0, .int .i64 0, .int .i64 0, .string ⟨#[]⟩, .slice none 0 0, .slice none 0 0, .slice none 0 0] 25)).drew.heap[w.heap.size + 1 + 1]? = some (.cells #[.int .i64 0, .int .i64 0, .int .i64 0, .string ⟨#[]⟩, .slice none 0 0, .slice none 0 0, .slice none 0 0] 25 (0, 0)) := by
    have := heap_alloc_new ((w.alloc (.cells #[.int .i64 n.lev, .int .i64 n.lsn, .int .i64 n.rgt, .string n.high, .slice p.k n.keys.length p.kc, .slice p.v n.vals.length p.vc, .slice p.i n.kids.length p.ic] 25)).alloc (.cells #[.int .i64 0, .int .i64 0, .int .i64 0, .string ⟨#[]⟩, .slice none 0 0, .slice none 0 0, .slice none 0 0] 25)) (.cells #[.int .i64 0, .int .i64 0, .int .i64 0, .string ⟨#[]⟩, .slice none 0 0, .slice none 0 0, .slice none 0 0] 25)
    rw [show ((w.alloc (.cells #[.int .i64 n.lev, .int .i64 n.lsn, .int .i64 n.rgt, .string n.high, .slice p.k n.keys.length p.kc, .slice p.v n.vals.length p.vc, .slice p.i n.kids.length p.ic] 25)).alloc (.cells #[.int .i64 0, .int .i64 0, .int .i64 0, .string ⟨#[]⟩, .slice none 0 0, .slice none 0 0, .slice none 0 0] 25)).heap.size = w.heap.size + 1 + 1 by simp] at this
    exact this
  have qa := HB.out _ fra
  have hnb : w.heap.size + 1 + 1 < ((w.alloc (.cells #[.int .i64 n.lev, .int .i64 n.lsn, .int .i64 n.rgt, .string n.high, .slice p.k n.keys.length p.kc, .slice p.v n.vals.length p.vc, .slice p.i n.kids.length p.ic] 25)).alloc (.cells #[.int .i64 0, .int .i64 0, .int .i64 0, .string ⟨#[]⟩, .slice none 0 0, .slice none 0 0, .slice none 0 0] 25)).heap.size → False := fun h => by simp at h
  clear hb0 r h0 hvl hkc hvc hfew
  go_enter Try.func77, Try.ntmps77
  go_wp2_with fail
  go_region_held3 (fun W => W.cell? ⟨w.heap.size, 0, none⟩ = some (.int .i64 n.lev) ∧ W.cell? ⟨w.heap.size, 1, none⟩ = some (.int .i64 n.lsn) ∧ W.cell? ⟨w.heap.size, 2, none⟩ = some (.int .i64 n.rgt) ∧ W.cell? ⟨w.heap.size, 3, none⟩ = some (.string n.high) ∧ W.cell? ⟨w.heap.size, 4, none⟩ = some (.slice p.k n.keys.length p.kc) ∧ W.cell? ⟨w.heap.size, 5, none⟩ = some (.slice p.v n.vals.length p.vc) ∧ W.cell? ⟨w.heap.size, 6, none⟩ = some (.slice p.i n.kids.length p.ic))
    (first | with_reducible exact q0 | with_reducible exact qa | with_reducible exact q1 | with_reducible exact q2 | with_reducible exact q3 | with_reducible exact q4)
    (first
      | (go_at_call 100; refine (clone_s ka eb kcc K _ (HC1.out _ hN) HKL.out.symm (by rw [HKL.out]; exact HEB.out)).mono ?_; rintro en w1 ⟨a1, cc1, rfl, hs1', m1, o1⟩; rw [HKL.out]; have fr1 := fr0.seq' m1; have q1 := HB.out _ fr1; have fr2 := fr1.alloc (.cells #[.int .i64 0, .int .i64 0, .int .i64 0, .string ⟨#[]⟩, .slice none 0 0, .slice none 0 0, .slice none 0 0] 25); have q2 := HB.out _ fr2; have fr3 := fr1.alloc (.cells #[.int .i64 n.lev, .int .i64 n.lsn, .int .i64 n.rgt, .string n.high, .slice a1 eb cc1, .slice none 0 0, .slice none 0 0] 25); have q3 := HB.out _ fr3)
      | (go_at_call 100; refine (clone_s ka eb kcc K _ (HC1.out _ hNa) HKL.out.symm (by rw [HKL.out]; exact HEB.out)).mono ?_; rintro en w1 ⟨a1, cc1, rfl, hs1', m1, o1⟩; rw [HKL.out]; have frb := fra.seq' m1; have q1 := HB.out _ frb; have b1 := m1.blk hba (fun f => f); obtain ⟨⟨r0, r1, r2, r3, r4, r5, r6⟩, rz⟩ := node_cells b1; have z0 := rz 0; have z1 := rz 1; have z2 := rz 2; have z3 := rz 3; have z4 := rz 4; have z5 := rz 5; have z6 := rz 6; have q4 := HB.out _ ((((((((frb.setCell (p := ⟨w.heap.size + 1 + 1, 0, none⟩) hnb (.int .i64 n.lev)).setCell (p := ⟨w.heap.size + 1 + 1, 1, none⟩) hnb (.int .i64 n.lsn)).setCell (p := ⟨w.heap.size + 1 + 1, 2, none⟩) hnb (.int .i64 n.rgt)).setCell (p := ⟨w.heap.size + 1 + 1, 3, none⟩) hnb (.string n.high)).setCell (p := ⟨w.heap.size + 1 + 1, 4, none⟩) hnb (.slice a1 eb cc1)).setCell (p := ⟨w.heap.size + 1 + 1, 5, none⟩) hnb (.slice none 0 0)).setCell (p := ⟨w.heap.size + 1 + 1, 6, none⟩) hnb (.slice none 0 0)))))
  · have hbB := heap_alloc_new w1 (.cells #[.int .i64 n.lev, .int .i64 n.lsn, .int .i64 n.rgt, .string n.high, .slice a1 eb cc1, .slice none 0 0, .slice none 0 0] 25)
    have fW1 : Fr (fun _ => False) w1 (w1.alloc (.cells #[.int .i64 n.lev, .int .i64 n.lsn, .int .i64 n.rgt, .string n.high, .slice a1 eb cc1, .slice none 0 0, .slice none 0 0] 25)) := (Fr.refl _ _).alloc _
    have frW := fr3
    have hsK := hs1'.fr fW1 (fun _ _ f => f)
    have hoK : ∀ k, (Value.slice a1 K.length cc1).ownBlock = some k → k ≠ w1.heap.size ∧ k ≠ w.heap.size + 1 ∧ w.heap.size ≤ k := fun k hk => by
      have h1 := o1 k hk
      have h2 := hs1'.lt hk
      simp at h1
      omega
    have hBn : w.heap.size + 1 < w1.heap.size := by have := fr1.size; simp at this; omega
    clear q0 qa q1 q2 q3 fr1 fr2 fr3 m1 o1 hs1' fW1
    generalize w1.alloc (.cells #[.int .i64 n.lev, .int .i64 n.lsn, .int .i64 n.rgt, .string n.high, .slice a1 eb cc1, .slice none 0 0, .slice none 0 0] 25) = W at *
    generalize w1.heap.size = B at *

    rw [HKL.out] at hsK hoK
    have hRb : W.heap[w.heap.size + 1]? = some (.cells #[.int .i64 0, .int .i64 0, .int .i64 0, .string ⟨#[]⟩, .slice none 0 0, .slice none 0 0, .slice none 0 0] 25 (0, 0)) := by
      refine frW.blk ?_ (fun f => f)
      have := heap_alloc_new (w.alloc (.cells #[.int .i64 n.lev, .int .i64 n.lsn, .int .i64 n.rgt, .string n.high, .slice p.k n.keys.length p.kc, .slice p.v n.vals.length p.vc, .slice p.i n.kids.length p.ic] 25)) (.cells #[.int .i64 0, .int .i64 0, .int .i64 0, .string ⟨#[]⟩, .slice none 0 0, .slice none 0 0, .slice none 0 0] 25)
      rw [show (w.alloc (.cells #[.int .i64 n.lev, .int .i64 n.lsn, .int .i64 n.rgt, .string n.high, .slice p.k n.keys.length p.kc, .slice p.v n.vals.length p.vc, .slice p.i n.kids.length p.ic] 25)).heap.size = w.heap.size + 1 by simp] at this
      exact this
    have hBl : B < W.heap.size := lt_of_block hbB
    obtain ⟨x0, x1, x2, x3, x4, x5, x6⟩ := HB.out _ frW
    go_wp2_with fail
    refine (hlf _).mono ?_
    rintro en w4 ⟨rfl, f4⟩
    clear x0 x1 x2 x3 x4 x5 x6
    have fr4 := frW.seq' f4
    have hN4 := h.same (f0.seq' fr4)
    obtain ⟨x0, x1, x2, x3, x4, x5, x6⟩ := HB.out _ fr4
    go_wp2_with fail
    refine (clone_s va eb vcc V _ (HC2.out _ hN4) HVL.out.symm (by rw [HVL.out]; exact HEB.out)).mono ?_
    rintro en w5 ⟨a2, cc2, rfl, hsV, f5, oV⟩
    rw [HVL.out] at hsV oV ⊢
    clear x0 x1 x2 x3 x4 x5 x6
    have f45 := f4.seq' f5
    have hbB5 := f45.blk hbB (fun f => f)
    have hRb5 := f45.blk hRb (fun f => f)
    have hsK5 := hsK.fr f45 (fun _ _ f => f)
    have hne1 : ¬ (B = w.heap.size + 1) := by omega
    have hne2 : ¬ (w.heap.size + 1 = B) := by omega
    obtain ⟨⟨r0, r1, r2, r3, r4, r5, r6⟩, rz⟩ := node_cells hbB5
    have z5 := rz 5
    obtain ⟨⟨s0, s1, s2, s3, s4, s5, s6⟩, sz⟩ := node_cells hRb5
    have y0 := sz 0; have y1 := sz 1; have y2 := sz 2; have y3 := sz 3; have y4 := sz 4; have y5 := sz 5; have y6 := sz 6
    clear rz sz
    go_wp2
    have ffB : Fr (fun k => k = B) w5 (w5.setCell ⟨B, 5, none⟩ (.slice a2 eb cc2)) := (Fr.refl (fun k => k = B) w5).setCell (p := ⟨B, 5, none⟩) (fun _ => rfl) _
    have hR6 := ffB.blk hRb5 hne2
    obtain ⟨hq, ff⟩ := fin7 hR6 (.int .i64 n.lev) (.int .i64 n.lsn) (.int .i64 n.rgt) (.string n.high) (.slice a1 eb cc1) (.slice a2 eb cc2) (.slice none 0 0)
    have hB4 : B < w4.heap.size := Nat.lt_of_lt_of_le hBl f4.size
    have hsKf := (hsK5.fr ffB (fun k hk e => (hoK k hk).1 e)).fr ff (fun k hk e => (hoK k hk).2.1 e)
    have hsVf := (hsV.fr ffB (fun k hk e => by have := oV k hk; omega)).fr ff (fun k hk e => by have := oV k hk; omega)
    have ffw := ((f0.seq' (frW.seq' f45)).trans ffB (S := fun _ => False) (fun i hi e => by omega)).trans ff (S := fun _ => False) (fun i hi e => by omega)
    generalize (((((((w5.setCell ⟨B, 5, none⟩ (.slice a2 eb cc2)).setCell ⟨w.heap.size + 1, 0, none⟩ (.int .i64 n.lev)).setCell ⟨w.heap.size + 1, 1, none⟩ (.int .i64 n.lsn)).setCell ⟨w.heap.size + 1, 2, none⟩ (.int .i64 n.rgt)).setCell ⟨w.heap.size + 1, 3, none⟩ (.string n.high)).setCell ⟨w.heap.size + 1, 4, none⟩ (.slice a1 eb cc1)).setCell ⟨w.heap.size + 1, 5, none⟩ (.slice a2 eb cc2)).setCell ⟨w.heap.size + 1, 6, none⟩ (.slice none 0 0) = Wf at hq hsKf hsVf ffw ⊢
    obtain ⟨⟨q0, q1, q2, q3, q4, q5, q6⟩, _⟩ := node_cells hq
    rw [← HKL.out] at hsKf
    rw [← HVL.out] at hsVf
    rw [HPN.out]
    refine bodyPost_ret (v := .agg #[.int .i64 n.lev, .int .i64 n.lsn, .int .i64 n.rgt, .string n.high, .slice a1 eb cc1, .slice a2 eb cc2, .slice none 0 0]) (by simp [results, Try.results77, go_sem, q0, q1, q2, q3, q4, q5, q6]) rfl ⟨⟨a1, cc1, a2, cc2, none, 0⟩, ?_, ?_, ?_, ffw⟩
    · show Ending.returned (.agg #[.int .i64 n.lev, .int .i64 n.lsn, .int .i64 n.rgt, .string n.high, .slice a1 eb cc1, .slice a2 eb cc2, .slice none 0 0]) = .returned (.agg #[.int .i64 n.lev, .int .i64 n.lsn, .int .i64 n.rgt, .string n.high, .slice a1 K.length cc1, .slice a2 V.length cc2, .slice none 0 0])
      rw [HKL.out, HVL.out]
    · have hk := HKZ.out
      have hv := HVZ.out
      have hkl := HKL.out
      have hvl := HVL.out
      have heb := HEB.out
      exact ⟨CpS.strs hsKf hk, CpS.strs hsVf hv, ints_nil _, h.high, fun s hs => Nat.le_trans (hk s hs) (by decide), fun s hs => Nat.le_trans (hv s hs) (by decide), by show K.length ≤ _; omega, by show V.length ≤ _; omega, Nat.zero_le _⟩
    · intro bb off hx
      rcases hx with hx | hx | hx
      · simp only at hx
        exact (hoK bb (by rw [hx]; rfl)).2.2
      · simp only at hx
        have := oV bb (by rw [hx]; rfl)
        omega
      · cases hx
  · obtain ⟨hbB, ff⟩ := fin7 b1 (.int .i64 n.lev) (.int .i64 n.lsn) (.int .i64 n.rgt) (.string n.high) (.slice a1 eb cc1) (.slice none 0 0) (.slice none 0 0)
    have hoB : ∀ k, (Value.slice a1 K.length cc1).ownBlock = some k → w.heap.size + 1 + 1 < k := fun k hk => by
      have h1 := o1 k hk
      simp at h1
      omega
    have frW := frb.trans ff (fun i hi e => by simp at hi; omega)
    have hsK := hs1'.fr ff (fun k hk e => by have := hoB k hk; omega)
    have hoK : ∀ k, (Value.slice a1 K.length cc1).ownBlock = some k → k ≠ w.heap.size + 1 + 1 ∧ k ≠ w.heap.size + 1 ∧ w.heap.size ≤ k := fun k hk => by have := hoB k hk; omega
    have hBn : w.heap.size + 1 < w.heap.size + 1 + 1 := by omega
    clear q0 qa q1 q4 r0 r1 r2 r3 r4 r5 r6 rz z0 z1 z2 z3 z4 z5 z6 b1 frb m1 o1 hs1' ff hoB
    generalize ((((((w1.setCell ⟨w.heap.size + 1 + 1, 0, none⟩ (.int .i64 n.lev)).setCell ⟨w.heap.size + 1 + 1, 1, none⟩ (.int .i64 n.lsn)).setCell ⟨w.heap.size + 1 + 1, 2, none⟩ (.int .i64 n.rgt)).setCell ⟨w.heap.size + 1 + 1, 3, none⟩ (.string n.high)).setCell ⟨w.heap.size + 1 + 1, 4, none⟩ (.slice a1 eb cc1)).setCell ⟨w.heap.size + 1 + 1, 5, none⟩ (.slice none 0 0)).setCell ⟨w.heap.size + 1 + 1, 6, none⟩ (.slice none 0 0) = W at *
    generalize w.heap.size + 1 + 1 = B at *

    rw [HKL.out] at hsK hoK
    have hRb : W.heap[w.heap.size + 1]? = some (.cells #[.int .i64 0, .int .i64 0, .int .i64 0, .string ⟨#[]⟩, .slice none 0 0, .slice none 0 0, .slice none 0 0] 25 (0, 0)) := by
      refine frW.blk ?_ (fun f => f)
      have := heap_alloc_new (w.alloc (.cells #[.int .i64 n.lev, .int .i64 n.lsn, .int .i64 n.rgt, .string n.high, .slice p.k n.keys.length p.kc, .slice p.v n.vals.length p.vc, .slice p.i n.kids.length p.ic] 25)) (.cells #[.int .i64 0, .int .i64 0, .int .i64 0, .string ⟨#[]⟩, .slice none 0 0, .slice none 0 0, .slice none 0 0] 25)
      rw [show (w.alloc (.cells #[.int .i64 n.lev, .int .i64 n.lsn, .int .i64 n.rgt, .string n.high, .slice p.k n.keys.length p.kc, .slice p.v n.vals.length p.vc, .slice p.i n.kids.length p.ic] 25)).heap.size = w.heap.size + 1 by simp] at this
      exact this
    have hBl : B < W.heap.size := lt_of_block hbB
    obtain ⟨x0, x1, x2, x3, x4, x5, x6⟩ := HB.out _ frW
    go_wp2_with fail
    refine (hlf _).mono ?_
    rintro en w4 ⟨rfl, f4⟩
    clear x0 x1 x2 x3 x4 x5 x6
    have fr4 := frW.seq' f4
    have hN4 := h.same (f0.seq' fr4)
    obtain ⟨x0, x1, x2, x3, x4, x5, x6⟩ := HB.out _ fr4
    go_wp2_with fail
    refine (clone_s va eb vcc V _ (HC2.out _ hN4) HVL.out.symm (by rw [HVL.out]; exact HEB.out)).mono ?_
    rintro en w5 ⟨a2, cc2, rfl, hsV, f5, oV⟩
    rw [HVL.out] at hsV oV ⊢
    clear x0 x1 x2 x3 x4 x5 x6
    have f45 := f4.seq' f5
    have hbB5 := f45.blk hbB (fun f => f)
    have hRb5 := f45.blk hRb (fun f => f)
    have hsK5 := hsK.fr f45 (fun _ _ f => f)
    have hne1 : ¬ (B = w.heap.size + 1) := by omega
    have hne2 : ¬ (w.heap.size + 1 = B) := by omega
    obtain ⟨⟨r0, r1, r2, r3, r4, r5, r6⟩, rz⟩ := node_cells hbB5
    have z5 := rz 5
    obtain ⟨⟨s0, s1, s2, s3, s4, s5, s6⟩, sz⟩ := node_cells hRb5
    have y0 := sz 0; have y1 := sz 1; have y2 := sz 2; have y3 := sz 3; have y4 := sz 4; have y5 := sz 5; have y6 := sz 6
    clear rz sz
    go_wp2
    have ffB : Fr (fun k => k = B) w5 (w5.setCell ⟨B, 5, none⟩ (.slice a2 eb cc2)) := (Fr.refl (fun k => k = B) w5).setCell (p := ⟨B, 5, none⟩) (fun _ => rfl) _
    have hR6 := ffB.blk hRb5 hne2
    obtain ⟨hq, ff⟩ := fin7 hR6 (.int .i64 n.lev) (.int .i64 n.lsn) (.int .i64 n.rgt) (.string n.high) (.slice a1 eb cc1) (.slice a2 eb cc2) (.slice none 0 0)
    have hB4 : B < w4.heap.size := Nat.lt_of_lt_of_le hBl f4.size
    have hsKf := (hsK5.fr ffB (fun k hk e => (hoK k hk).1 e)).fr ff (fun k hk e => (hoK k hk).2.1 e)
    have hsVf := (hsV.fr ffB (fun k hk e => by have := oV k hk; omega)).fr ff (fun k hk e => by have := oV k hk; omega)
    have ffw := ((f0.seq' (frW.seq' f45)).trans ffB (S := fun _ => False) (fun i hi e => by omega)).trans ff (S := fun _ => False) (fun i hi e => by omega)
    generalize (((((((w5.setCell ⟨B, 5, none⟩ (.slice a2 eb cc2)).setCell ⟨w.heap.size + 1, 0, none⟩ (.int .i64 n.lev)).setCell ⟨w.heap.size + 1, 1, none⟩ (.int .i64 n.lsn)).setCell ⟨w.heap.size + 1, 2, none⟩ (.int .i64 n.rgt)).setCell ⟨w.heap.size + 1, 3, none⟩ (.string n.high)).setCell ⟨w.heap.size + 1, 4, none⟩ (.slice a1 eb cc1)).setCell ⟨w.heap.size + 1, 5, none⟩ (.slice a2 eb cc2)).setCell ⟨w.heap.size + 1, 6, none⟩ (.slice none 0 0) = Wf at hq hsKf hsVf ffw ⊢
    obtain ⟨⟨q0, q1, q2, q3, q4, q5, q6⟩, _⟩ := node_cells hq
    rw [← HKL.out] at hsKf
    rw [← HVL.out] at hsVf
    rw [HPN.out]
    refine bodyPost_ret (v := .agg #[.int .i64 n.lev, .int .i64 n.lsn, .int .i64 n.rgt, .string n.high, .slice a1 eb cc1, .slice a2 eb cc2, .slice none 0 0]) (by simp [results, Try.results77, go_sem, q0, q1, q2, q3, q4, q5, q6]) rfl ⟨⟨a1, cc1, a2, cc2, none, 0⟩, ?_, ?_, ?_, ffw⟩
    · show Ending.returned (.agg #[.int .i64 n.lev, .int .i64 n.lsn, .int .i64 n.rgt, .string n.high, .slice a1 eb cc1, .slice a2 eb cc2, .slice none 0 0]) = .returned (.agg #[.int .i64 n.lev, .int .i64 n.lsn, .int .i64 n.rgt, .string n.high, .slice a1 K.length cc1, .slice a2 V.length cc2, .slice none 0 0])
      rw [HKL.out, HVL.out]
    · have hk := HKZ.out
      have hv := HVZ.out
      have hkl := HKL.out
      have hvl := HVL.out
      have heb := HEB.out
      exact ⟨CpS.strs hsKf hk, CpS.strs hsVf hv, ints_nil _, h.high, fun s hs => Nat.le_trans (hk s hs) (by decide), fun s hs => Nat.le_trans (hv s hs) (by decide), by show K.length ≤ _; omega, by show V.length ≤ _; omega, Nat.zero_le _⟩
    · intro bb off hx
      rcases hx with hx | hx | hx
      · simp only at hx
        exact (hoK bb (by rw [hx]; rfl)).2.2
      · simp only at hx
        have := oV bb (by rw [hx]; rfl)
        omega
      · cases hx
set_option maxRecDepth 100000 in
set_option maxHeartbeats 2000000 in
theorem piece_inner (n : Nd) (p : Pt) (r : Rt n) (b e : Nat) (h1 : b ≤ e) (h2 : e ≤ n.keys.length) (h0 : n.lev ≠ 0) (w : World) (h : Nod w n p) : Calls Try.prog 77 #[(.agg #[.int .i64 n.lev, .int .i64 n.lsn, .int .i64 n.rgt, .string n.high, .slice p.k n.keys.length p.kc, .slice p.v n.vals.length p.vc, .slice p.i n.kids.length p.ic]), .int .i64 b, .int .i64 e] w fun en w' => NdOut (pieceN n b e) w en w' := by
  have hfew := keys_few r
  have hvl := (r.inner h0).1
  have hkc := h.keys.le
  have hvc := h.kids.le
  have HPN : Hid (pieceN n b e = ⟨n.lev, n.lsn, n.rgt, n.high, (n.keys.take e).drop b, [], (n.kids.take (e + 1)).drop b⟩) := by
    show _ = _
    unfold pieceN
    rw [if_neg h0, if_neg h0]
  have HKZ : Hid (∀ s ∈ (n.keys.take e).drop b, s.size ≤ 65535) := fun s hs => Nat.le_trans (size_of_mem (fun i hi => (r.keys i hi).1.2) s (List.mem_of_mem_take (List.mem_of_mem_drop hs))) (by omega)
  have HKL : Hid (((n.keys.take e).drop b).length = e - b) := by show _ = _; simp; omega
  have HVL : Hid (((n.kids.take (e + 1)).drop b).length = e + 1 - b) := by show _ = _; simp; omega
  have hs1 := fun W => run_slS p.k n.keys.length p.kc b e h1 (by omega) W
  have hs2 := fun W => run_slI p.i n.kids.length p.ic b (e + 1) (by omega) (by omega) W
  rw [show (((e + 1 : Nat)) : Int) = (e : Int) + 1 by omega] at hs2
  have HC1 : Hid (∀ W, Nod W n p → Strs W (cutA p.k p.kc b) (p.kc - b) ((n.keys.take e).drop b)) := fun W hW => cut_s hW.keys b e h1 h2
  have HC2 : Hid (∀ W, Nod W n p → Ints W (cutA p.i p.ic b) (p.ic - b) ((n.kids.take (e + 1)).drop b)) := fun W hW => cut_i hW.kids b (e + 1) (by omega) (by omega)
  generalize (n.keys.take e).drop b = K at *
  generalize (n.kids.take (e + 1)).drop b = V at *
  generalize cutA p.k p.kc b = ka at *
  generalize cutA p.i p.ic b = va at *
  generalize p.kc - b = kcc at *
  generalize p.ic - b = vcc at *
  have hlf := fun W => isLeafN_any n p W
  have hb0 : (n.lev == 0) = false := by simpa using h0
  rw [hb0] at hlf
  have HEB : Hid (e - b ≤ 100000) := by show _ ≤ _; omega
  have HEI : Hid (e + 1 - b ≤ 100000) := by show _ ≤ _; omega
  have hei : (e : Int) + 1 ≤ 100000 := by omega
  generalize e + 1 - b = ei at *
  generalize e - b = eb at *
  have f0 : Fr (fun _ => False) w ((w.alloc (.cells #[.int .i64 n.lev, .int .i64 n.lsn, .int .i64 n.rgt, .string n.high, .slice p.k n.keys.length p.kc, .slice p.v n.vals.length p.vc, .slice p.i n.kids.length p.ic] 25)).alloc (.cells #[.int .i64 0, .int .i64 0, .int .i64 0, .string ⟨#[]⟩, .slice none 0 0, .slice none 0 0, .slice none 0 0] 25)) := ((Fr.refl _ _).alloc _).alloc _
  have HB : Hid (∀ W, Fr (fun _ => False) ((w.alloc (.cells #[.int .i64 n.lev, .int .i64 n.lsn, .int .i64 n.rgt, .string n.high, .slice p.k n.keys.length p.kc, .slice p.v n.vals.length p.vc, .slice p.i n.kids.length p.ic] 25)).alloc (.cells #[.int .i64 0, .int .i64 0, .int .i64 0, .string ⟨#[]⟩, .slice none 0 0, .slice none 0 0, .slice none 0 0] 25)) W → W.cell? ⟨w.heap.size, 0, none⟩ = some (.int .i64 n.lev) ∧ W.cell? ⟨w.heap.size, 1, none⟩ = some (.int .i64 n.lsn) ∧ W.cell? ⟨w.heap.size, 2, none⟩ = some (.int .i64 n.rgt) ∧ W.cell? ⟨w.heap.size, 3, none⟩ = some (.string n.high) ∧ W.cell? ⟨w.heap.size, 4, none⟩ = some (.slice p.k n.keys.length p.kc) ∧ W.cell? ⟨w.heap.size, 5, none⟩ = some (.slice p.v n.vals.length p.vc) ∧ W.cell? ⟨w.heap.size, 6, none⟩ = some (.slice p.i n.kids.length p.ic)) := fun W f => box_cells (box_at w n p 25 (((Fr.refl _ _).alloc _).seq' f))
  have fr0 := (Fr.refl (fun _ => False) ((w.alloc (.cells #[.int .i64 n.lev, .int .i64 n.lsn, .int .i64 n.rgt, .string n.high, .slice p.k n.keys.length p.kc, .slice p.v n.vals.length p.vc, .slice p.i n.kids.length p.ic] 25)).alloc (.cells #[.int .i64 0, .int .i64 0, .int .i64 0, .string ⟨#[]⟩, .slice none 0 0, .slice none 0 0, .slice none 0 0] 25))).drew
  have q0 := HB.out _ fr0
  have hN := h.same (f0.seq' fr0)
  have hNa := (h.same (f0.seq' ((Fr.refl (fun _ => False) _).alloc (.cells #[.int .i64 0, .int .i64 0, .int .i64 0, .string ⟨#[]⟩, .slice none 0 0, .slice none 0 0, .slice none 0 0] 25)))).same ((Fr.refl (fun _ => False) _).drew)
  have fra := ((Fr.refl (fun _ => False) ((w.alloc (.cells #[.int .i64 n.lev, .int .i64 n.lsn, .int .i64 n.rgt, .string n.high, .slice p.k n.keys.length p.kc, .slice p.v n.vals.length p.vc, .slice p.i n.kids.length p.ic] 25)).alloc (.cells #[.int .i64 0, .int .i64 0, .int .i64 0, .string ⟨#[]⟩, .slice none 0 0, .slice none 0 0, .slice none 0 0] 25))).alloc (.cells #[.int .i64 0, .int .i64 0, .int .i64 0, .string ⟨#[]⟩, .slice none 0 0, .slice none 0 0, .slice none 0 0] 25)).drew
  have hba : (((w.alloc (.cells #[.int .i64 n.lev, .int .i64 n.lsn, .int .i64 n.rgt, .string n.high, .slice p.k n.keys.length p.kc, .slice p.v n.vals.length p.vc, .slice p.i n.kids.length p.ic] 25)).alloc (.cells #[.int .i64 0, .int .i64 0, .int .i64 0, .string ⟨#[]⟩, .slice none 0 0, .slice none 0 0, .slice none 0 0] 25)).alloc (.cells #[.int .i64 0, .int .i64 0, .int .i64 0, .string ⟨#[]⟩, .slice none 0 0, .slice none 0 0, .slice none 0 0] 25)).drew.heap[w.heap.size + 1 + 1]? = some (.cells #[.int .i64 0, .int .i64 0, .int .i64 0, .string ⟨#[]⟩, .slice none 0 0, .slice none 0 0, .slice none 0 0] 25 (0, 0)) := by
    have := heap_alloc_new ((w.alloc (.cells #[.int .i64 n.lev, .int .i64 n.lsn, .int .i64 n.rgt, .string n.high, .slice p.k n.keys.length p.kc, .slice p.v n.vals.length p.vc, .slice p.i n.kids.length p.ic] 25)).alloc (.cells #[.int .i64 0, .int .i64 0, .int .i64 0, .string ⟨#[]⟩, .slice none 0 0, .slice none 0 0, .slice none 0 0] 25)) (.cells #[.int .i64 0, .int .i64 0, .int .i64 0, .string ⟨#[]⟩, .slice none 0 0, .slice none 0 0, .slice none 0 0] 25)
    rw [show ((w.alloc (.cells #[.int .i64 n.lev, .int .i64 n.lsn, .int .i64 n.rgt, .string n.high, .slice p.k n.keys.length p.kc, .slice p.v n.vals.length p.vc, .slice p.i n.kids.length p.ic] 25)).alloc (.cells #[.int .i64 0, .int .i64 0, .int .i64 0, .string ⟨#[]⟩, .slice none 0 0, .slice none 0 0, .slice none 0 0] 25)).heap.size = w.heap.size + 1 + 1 by simp] at this
    exact this
  have qa := HB.out _ fra
  have hnb : w.heap.size + 1 + 1 < ((w.alloc (.cells #[.int .i64 n.lev, .int .i64 n.lsn, .int .i64 n.rgt, .string n.high, .slice p.k n.keys.length p.kc, .slice p.v n.vals.length p.vc, .slice p.i n.kids.length p.ic] 25)).alloc (.cells #[.int .i64 0, .int .i64 0, .int .i64 0, .string ⟨#[]⟩, .slice none 0 0, .slice none 0 0, .slice none 0 0] 25)).heap.size → False := fun h => by simp at h
  clear hb0 r h0 hvl hkc hvc hfew
  go_enter Try.func77, Try.ntmps77
  go_wp2_with fail
  go_region_held3 (fun W => W.cell? ⟨w.heap.size, 0, none⟩ = some (.int .i64 n.lev) ∧ W.cell? ⟨w.heap.size, 1, none⟩ = some (.int .i64 n.lsn) ∧ W.cell? ⟨w.heap.size, 2, none⟩ = some (.int .i64 n.rgt) ∧ W.cell? ⟨w.heap.size, 3, none⟩ = some (.string n.high) ∧ W.cell? ⟨w.heap.size, 4, none⟩ = some (.slice p.k n.keys.length p.kc) ∧ W.cell? ⟨w.heap.size, 5, none⟩ = some (.slice p.v n.vals.length p.vc) ∧ W.cell? ⟨w.heap.size, 6, none⟩ = some (.slice p.i n.kids.length p.ic))
    (first | with_reducible exact q0 | with_reducible exact qa | with_reducible exact q1 | with_reducible exact q2 | with_reducible exact q3 | with_reducible exact q4)
    (first
      | (go_at_call 100; refine (clone_s ka eb kcc K _ (HC1.out _ hN) HKL.out.symm (by rw [HKL.out]; exact HEB.out)).mono ?_; rintro en w1 ⟨a1, cc1, rfl, hs1', m1, o1⟩; rw [HKL.out]; have fr1 := fr0.seq' m1; have q1 := HB.out _ fr1; have fr2 := fr1.alloc (.cells #[.int .i64 0, .int .i64 0, .int .i64 0, .string ⟨#[]⟩, .slice none 0 0, .slice none 0 0, .slice none 0 0] 25); have q2 := HB.out _ fr2; have fr3 := fr1.alloc (.cells #[.int .i64 n.lev, .int .i64 n.lsn, .int .i64 n.rgt, .string n.high, .slice a1 eb cc1, .slice none 0 0, .slice none 0 0] 25); have q3 := HB.out _ fr3)
      | (go_at_call 100; refine (clone_s ka eb kcc K _ (HC1.out _ hNa) HKL.out.symm (by rw [HKL.out]; exact HEB.out)).mono ?_; rintro en w1 ⟨a1, cc1, rfl, hs1', m1, o1⟩; rw [HKL.out]; have frb := fra.seq' m1; have q1 := HB.out _ frb; have b1 := m1.blk hba (fun f => f); obtain ⟨⟨r0, r1, r2, r3, r4, r5, r6⟩, rz⟩ := node_cells b1; have z0 := rz 0; have z1 := rz 1; have z2 := rz 2; have z3 := rz 3; have z4 := rz 4; have z5 := rz 5; have z6 := rz 6; have q4 := HB.out _ ((((((((frb.setCell (p := ⟨w.heap.size + 1 + 1, 0, none⟩) hnb (.int .i64 n.lev)).setCell (p := ⟨w.heap.size + 1 + 1, 1, none⟩) hnb (.int .i64 n.lsn)).setCell (p := ⟨w.heap.size + 1 + 1, 2, none⟩) hnb (.int .i64 n.rgt)).setCell (p := ⟨w.heap.size + 1 + 1, 3, none⟩) hnb (.string n.high)).setCell (p := ⟨w.heap.size + 1 + 1, 4, none⟩) hnb (.slice a1 eb cc1)).setCell (p := ⟨w.heap.size + 1 + 1, 5, none⟩) hnb (.slice none 0 0)).setCell (p := ⟨w.heap.size + 1 + 1, 6, none⟩) hnb (.slice none 0 0)))))
  · have hbB := heap_alloc_new w1 (.cells #[.int .i64 n.lev, .int .i64 n.lsn, .int .i64 n.rgt, .string n.high, .slice a1 eb cc1, .slice none 0 0, .slice none 0 0] 25)
    have fW1 : Fr (fun _ => False) w1 (w1.alloc (.cells #[.int .i64 n.lev, .int .i64 n.lsn, .int .i64 n.rgt, .string n.high, .slice a1 eb cc1, .slice none 0 0, .slice none 0 0] 25)) := (Fr.refl _ _).alloc _
    have frW := fr3
    have hsK := hs1'.fr fW1 (fun _ _ f => f)
    have hoK : ∀ k, (Value.slice a1 K.length cc1).ownBlock = some k → k ≠ w1.heap.size ∧ k ≠ w.heap.size + 1 ∧ w.heap.size ≤ k := fun k hk => by
      have h1 := o1 k hk
      have h2 := hs1'.lt hk
      simp at h1
      omega
    have hBn : w.heap.size + 1 < w1.heap.size := by have := fr1.size; simp at this; omega
    clear q0 qa q1 q2 q3 fr1 fr2 fr3 m1 o1 hs1' fW1
    generalize w1.alloc (.cells #[.int .i64 n.lev, .int .i64 n.lsn, .int .i64 n.rgt, .string n.high, .slice a1 eb cc1, .slice none 0 0, .slice none 0 0] 25) = W at *
    generalize w1.heap.size = B at *

    rw [HKL.out] at hsK hoK
    have hRb : W.heap[w.heap.size + 1]? = some (.cells #[.int .i64 0, .int .i64 0, .int .i64 0, .string ⟨#[]⟩, .slice none 0 0, .slice none 0 0, .slice none 0 0] 25 (0, 0)) := by
      refine frW.blk ?_ (fun f => f)
      have := heap_alloc_new (w.alloc (.cells #[.int .i64 n.lev, .int .i64 n.lsn, .int .i64 n.rgt, .string n.high, .slice p.k n.keys.length p.kc, .slice p.v n.vals.length p.vc, .slice p.i n.kids.length p.ic] 25)) (.cells #[.int .i64 0, .int .i64 0, .int .i64 0, .string ⟨#[]⟩, .slice none 0 0, .slice none 0 0, .slice none 0 0] 25)
      rw [show (w.alloc (.cells #[.int .i64 n.lev, .int .i64 n.lsn, .int .i64 n.rgt, .string n.high, .slice p.k n.keys.length p.kc, .slice p.v n.vals.length p.vc, .slice p.i n.kids.length p.ic] 25)).heap.size = w.heap.size + 1 by simp] at this
      exact this
    have hBl : B < W.heap.size := lt_of_block hbB
    obtain ⟨x0, x1, x2, x3, x4, x5, x6⟩ := HB.out _ frW
    go_wp2_with fail
    refine (hlf _).mono ?_
    rintro en w4 ⟨rfl, f4⟩
    clear x0 x1 x2 x3 x4 x5 x6
    have fr4 := frW.seq' f4
    have hN4 := h.same (f0.seq' fr4)
    obtain ⟨x0, x1, x2, x3, x4, x5, x6⟩ := HB.out _ fr4
    go_wp2_with fail
    refine (clone_i va ei vcc V _ (HC2.out _ hN4) HVL.out.symm (by rw [HVL.out]; exact HEI.out)).mono ?_
    rintro en w5 ⟨a2, cc2, rfl, hsV, f5, oV⟩
    rw [HVL.out] at hsV oV ⊢
    clear x0 x1 x2 x3 x4 x5 x6
    have f45 := f4.seq' f5
    have hbB5 := f45.blk hbB (fun f => f)
    have hRb5 := f45.blk hRb (fun f => f)
    have hsK5 := hsK.fr f45 (fun _ _ f => f)
    have hne1 : ¬ (B = w.heap.size + 1) := by omega
    have hne2 : ¬ (w.heap.size + 1 = B) := by omega
    obtain ⟨⟨r0, r1, r2, r3, r4, r5, r6⟩, rz⟩ := node_cells hbB5
    have z5 := rz 6
    obtain ⟨⟨s0, s1, s2, s3, s4, s5, s6⟩, sz⟩ := node_cells hRb5
    have y0 := sz 0; have y1 := sz 1; have y2 := sz 2; have y3 := sz 3; have y4 := sz 4; have y5 := sz 5; have y6 := sz 6
    clear rz sz
    go_wp2
    have ffB : Fr (fun k => k = B) w5 (w5.setCell ⟨B, 6, none⟩ (.slice a2 ei cc2)) := (Fr.refl (fun k => k = B) w5).setCell (p := ⟨B, 6, none⟩) (fun _ => rfl) _
    have hR6 := ffB.blk hRb5 hne2
    obtain ⟨hq, ff⟩ := fin7 hR6 (.int .i64 n.lev) (.int .i64 n.lsn) (.int .i64 n.rgt) (.string n.high) (.slice a1 eb cc1) (.slice none 0 0) (.slice a2 ei cc2)
    have hB4 : B < w4.heap.size := Nat.lt_of_lt_of_le hBl f4.size
    have hsKf := (hsK5.fr ffB (fun k hk e => (hoK k hk).1 e)).fr ff (fun k hk e => (hoK k hk).2.1 e)
    have hsVf := (hsV.fr ffB (fun k hk e => by have := oV k hk; omega)).fr ff (fun k hk e => by have := oV k hk; omega)
    have ffw := ((f0.seq' (frW.seq' f45)).trans ffB (S := fun _ => False) (fun i hi e => by omega)).trans ff (S := fun _ => False) (fun i hi e => by omega)
    generalize (((((((w5.setCell ⟨B, 6, none⟩ (.slice a2 ei cc2)).setCell ⟨w.heap.size + 1, 0, none⟩ (.int .i64 n.lev)).setCell ⟨w.heap.size + 1, 1, none⟩ (.int .i64 n.lsn)).setCell ⟨w.heap.size + 1, 2, none⟩ (.int .i64 n.rgt)).setCell ⟨w.heap.size + 1, 3, none⟩ (.string n.high)).setCell ⟨w.heap.size + 1, 4, none⟩ (.slice a1 eb cc1)).setCell ⟨w.heap.size + 1, 5, none⟩ (.slice none 0 0)).setCell ⟨w.heap.size + 1, 6, none⟩ (.slice a2 ei cc2) = Wf at hq hsKf hsVf ffw ⊢
    obtain ⟨⟨q0, q1, q2, q3, q4, q5, q6⟩, _⟩ := node_cells hq
    rw [← HKL.out] at hsKf
    rw [← HVL.out] at hsVf
    rw [HPN.out]
    refine bodyPost_ret (v := .agg #[.int .i64 n.lev, .int .i64 n.lsn, .int .i64 n.rgt, .string n.high, .slice a1 eb cc1, .slice none 0 0, .slice a2 ei cc2]) (by simp [results, Try.results77, go_sem, q0, q1, q2, q3, q4, q5, q6]) rfl ⟨⟨a1, cc1, none, 0, a2, cc2⟩, ?_, ?_, ?_, ffw⟩
    · show Ending.returned (.agg #[.int .i64 n.lev, .int .i64 n.lsn, .int .i64 n.rgt, .string n.high, .slice a1 eb cc1, .slice none 0 0, .slice a2 ei cc2]) = .returned (.agg #[.int .i64 n.lev, .int .i64 n.lsn, .int .i64 n.rgt, .string n.high, .slice a1 K.length cc1, .slice none 0 0, .slice a2 V.length cc2])
      rw [HKL.out, HVL.out]
    · have hk := HKZ.out
      have hei := HEI.out
      have hkl := HKL.out
      have hvl := HVL.out
      have heb := HEB.out
      exact ⟨CpS.strs hsKf hk, strs_nil _, CpI.ints hsVf, h.high, fun s hs => Nat.le_trans (hk s hs) (by decide), (fun s hs => by cases hs), by show K.length ≤ _; omega, Nat.zero_le _, by show V.length ≤ _; omega⟩
    · intro bb off hx
      rcases hx with hx | hx | hx
      · simp only at hx
        exact (hoK bb (by rw [hx]; rfl)).2.2
      · cases hx
      · simp only at hx
        have := oV bb (by rw [hx]; rfl)
        omega
  · obtain ⟨hbB, ff⟩ := fin7 b1 (.int .i64 n.lev) (.int .i64 n.lsn) (.int .i64 n.rgt) (.string n.high) (.slice a1 eb cc1) (.slice none 0 0) (.slice none 0 0)
    have hoB : ∀ k, (Value.slice a1 K.length cc1).ownBlock = some k → w.heap.size + 1 + 1 < k := fun k hk => by
      have h1 := o1 k hk
      simp at h1
      omega
    have frW := frb.trans ff (fun i hi e => by simp at hi; omega)
    have hsK := hs1'.fr ff (fun k hk e => by have := hoB k hk; omega)
    have hoK : ∀ k, (Value.slice a1 K.length cc1).ownBlock = some k → k ≠ w.heap.size + 1 + 1 ∧ k ≠ w.heap.size + 1 ∧ w.heap.size ≤ k := fun k hk => by have := hoB k hk; omega
    have hBn : w.heap.size + 1 < w.heap.size + 1 + 1 := by omega
    clear q0 qa q1 q4 r0 r1 r2 r3 r4 r5 r6 rz z0 z1 z2 z3 z4 z5 z6 b1 frb m1 o1 hs1' ff hoB
    generalize ((((((w1.setCell ⟨w.heap.size + 1 + 1, 0, none⟩ (.int .i64 n.lev)).setCell ⟨w.heap.size + 1 + 1, 1, none⟩ (.int .i64 n.lsn)).setCell ⟨w.heap.size + 1 + 1, 2, none⟩ (.int .i64 n.rgt)).setCell ⟨w.heap.size + 1 + 1, 3, none⟩ (.string n.high)).setCell ⟨w.heap.size + 1 + 1, 4, none⟩ (.slice a1 eb cc1)).setCell ⟨w.heap.size + 1 + 1, 5, none⟩ (.slice none 0 0)).setCell ⟨w.heap.size + 1 + 1, 6, none⟩ (.slice none 0 0) = W at *
    generalize w.heap.size + 1 + 1 = B at *

    rw [HKL.out] at hsK hoK
    have hRb : W.heap[w.heap.size + 1]? = some (.cells #[.int .i64 0, .int .i64 0, .int .i64 0, .string ⟨#[]⟩, .slice none 0 0, .slice none 0 0, .slice none 0 0] 25 (0, 0)) := by
      refine frW.blk ?_ (fun f => f)
      have := heap_alloc_new (w.alloc (.cells #[.int .i64 n.lev, .int .i64 n.lsn, .int .i64 n.rgt, .string n.high, .slice p.k n.keys.length p.kc, .slice p.v n.vals.length p.vc, .slice p.i n.kids.length p.ic] 25)) (.cells #[.int .i64 0, .int .i64 0, .int .i64 0, .string ⟨#[]⟩, .slice none 0 0, .slice none 0 0, .slice none 0 0] 25)
      rw [show (w.alloc (.cells #[.int .i64 n.lev, .int .i64 n.lsn, .int .i64 n.rgt, .string n.high, .slice p.k n.keys.length p.kc, .slice p.v n.vals.length p.vc, .slice p.i n.kids.length p.ic] 25)).heap.size = w.heap.size + 1 by simp] at this
      exact this
    have hBl : B < W.heap.size := lt_of_block hbB
    obtain ⟨x0, x1, x2, x3, x4, x5, x6⟩ := HB.out _ frW
    go_wp2_with fail
    refine (hlf _).mono ?_
    rintro en w4 ⟨rfl, f4⟩
    clear x0 x1 x2 x3 x4 x5 x6
    have fr4 := frW.seq' f4
    have hN4 := h.same (f0.seq' fr4)
    obtain ⟨x0, x1, x2, x3, x4, x5, x6⟩ := HB.out _ fr4
    go_wp2_with fail
    refine (clone_i va ei vcc V _ (HC2.out _ hN4) HVL.out.symm (by rw [HVL.out]; exact HEI.out)).mono ?_
    rintro en w5 ⟨a2, cc2, rfl, hsV, f5, oV⟩
    rw [HVL.out] at hsV oV ⊢
    clear x0 x1 x2 x3 x4 x5 x6
    have f45 := f4.seq' f5
    have hbB5 := f45.blk hbB (fun f => f)
    have hRb5 := f45.blk hRb (fun f => f)
    have hsK5 := hsK.fr f45 (fun _ _ f => f)
    have hne1 : ¬ (B = w.heap.size + 1) := by omega
    have hne2 : ¬ (w.heap.size + 1 = B) := by omega
    obtain ⟨⟨r0, r1, r2, r3, r4, r5, r6⟩, rz⟩ := node_cells hbB5
    have z5 := rz 6
    obtain ⟨⟨s0, s1, s2, s3, s4, s5, s6⟩, sz⟩ := node_cells hRb5
    have y0 := sz 0; have y1 := sz 1; have y2 := sz 2; have y3 := sz 3; have y4 := sz 4; have y5 := sz 5; have y6 := sz 6
    clear rz sz
    go_wp2
    have ffB : Fr (fun k => k = B) w5 (w5.setCell ⟨B, 6, none⟩ (.slice a2 ei cc2)) := (Fr.refl (fun k => k = B) w5).setCell (p := ⟨B, 6, none⟩) (fun _ => rfl) _
    have hR6 := ffB.blk hRb5 hne2
    obtain ⟨hq, ff⟩ := fin7 hR6 (.int .i64 n.lev) (.int .i64 n.lsn) (.int .i64 n.rgt) (.string n.high) (.slice a1 eb cc1) (.slice none 0 0) (.slice a2 ei cc2)
    have hB4 : B < w4.heap.size := Nat.lt_of_lt_of_le hBl f4.size
    have hsKf := (hsK5.fr ffB (fun k hk e => (hoK k hk).1 e)).fr ff (fun k hk e => (hoK k hk).2.1 e)
    have hsVf := (hsV.fr ffB (fun k hk e => by have := oV k hk; omega)).fr ff (fun k hk e => by have := oV k hk; omega)
    have ffw := ((f0.seq' (frW.seq' f45)).trans ffB (S := fun _ => False) (fun i hi e => by omega)).trans ff (S := fun _ => False) (fun i hi e => by omega)
    generalize (((((((w5.setCell ⟨B, 6, none⟩ (.slice a2 ei cc2)).setCell ⟨w.heap.size + 1, 0, none⟩ (.int .i64 n.lev)).setCell ⟨w.heap.size + 1, 1, none⟩ (.int .i64 n.lsn)).setCell ⟨w.heap.size + 1, 2, none⟩ (.int .i64 n.rgt)).setCell ⟨w.heap.size + 1, 3, none⟩ (.string n.high)).setCell ⟨w.heap.size + 1, 4, none⟩ (.slice a1 eb cc1)).setCell ⟨w.heap.size + 1, 5, none⟩ (.slice none 0 0)).setCell ⟨w.heap.size + 1, 6, none⟩ (.slice a2 ei cc2) = Wf at hq hsKf hsVf ffw ⊢
    obtain ⟨⟨q0, q1, q2, q3, q4, q5, q6⟩, _⟩ := node_cells hq
    rw [← HKL.out] at hsKf
    rw [← HVL.out] at hsVf
    rw [HPN.out]
    refine bodyPost_ret (v := .agg #[.int .i64 n.lev, .int .i64 n.lsn, .int .i64 n.rgt, .string n.high, .slice a1 eb cc1, .slice none 0 0, .slice a2 ei cc2]) (by simp [results, Try.results77, go_sem, q0, q1, q2, q3, q4, q5, q6]) rfl ⟨⟨a1, cc1, none, 0, a2, cc2⟩, ?_, ?_, ?_, ffw⟩
    · show Ending.returned (.agg #[.int .i64 n.lev, .int .i64 n.lsn, .int .i64 n.rgt, .string n.high, .slice a1 eb cc1, .slice none 0 0, .slice a2 ei cc2]) = .returned (.agg #[.int .i64 n.lev, .int .i64 n.lsn, .int .i64 n.rgt, .string n.high, .slice a1 K.length cc1, .slice none 0 0, .slice a2 V.length cc2])
      rw [HKL.out, HVL.out]
    · have hk := HKZ.out
      have hei := HEI.out
      have hkl := HKL.out
      have hvl := HVL.out
      have heb := HEB.out
      exact ⟨CpS.strs hsKf hk, strs_nil _, CpI.ints hsVf, h.high, fun s hs => Nat.le_trans (hk s hs) (by decide), (fun s hs => by cases hs), by show K.length ≤ _; omega, Nat.zero_le _, by show V.length ≤ _; omega⟩
    · intro bb off hx
      rcases hx with hx | hx | hx
      · simp only at hx
        exact (hoK bb (by rw [hx]; rfl)).2.2
      · cases hx
      · simp only at hx
        have := oV bb (by rw [hx]; rfl)
        omega
end Go.Proofs.Ytaaedmacefiinaa

/- What parted, Left and Rest make. -/
namespace Go.Proofs.Ytaaedmacefiinaa
open Go.RowKit

theorem piece_any (n : Nd) (p : Pt) (r : Rt n) (b e : Nat) (h1 : b ≤ e) (h2 : e ≤ n.keys.length) (w : World) (h : Nod w n p) : Calls Try.prog 77 #[(.agg #[.int .i64 n.lev, .int .i64 n.lsn, .int .i64 n.rgt, .string n.high, .slice p.k n.keys.length p.kc, .slice p.v n.vals.length p.vc, .slice p.i n.kids.length p.ic]), .int .i64 b, .int .i64 e] w fun en w' => NdOut (pieceN n b e) w en w' := by
  by_cases h0 : n.lev = 0
  · exact piece_leaf n p r b e h1 h2 h0 w h
  · exact piece_inner n p r b e h1 h2 h0 w h
theorem plc_le (k : List Nat) (l : List ByteArray) : (plc k l).1 ≤ l.length := by
  induction l with
  | nil => simp [plc]
  | cons x r ih =>
    simp only [plc]
    split
    · simp
    · simp only [List.length_cons]; omega
theorem plc_lt (k : List Nat) (l : List ByteArray) (h : (plc k l).2 = true) : (plc k l).1 < l.length := by
  induction l with
  | nil => simp [plc] at h
  | cons x r ih =>
    simp only [plc] at h ⊢
    split at h
    · rename_i e; rw [if_pos e]; simp
    · rename_i e; rw [if_neg e]; simp only [List.length_cons] at h ⊢; have := ih h; omega
/-- Where a node is parted by a key: the error, the left part's end, the right part's beginning. -/
def parE (n : Nd) (k : ByteArray) : Int := if n.lev = 0 ∨ (plc (bsOf k) n.keys).2 = true then 0 else 6
def parA (n : Nd) (k : ByteArray) : Nat := if parE n k = 0 then (plc (bsOf k) n.keys).1 else 0
def parB (n : Nd) (k : ByteArray) : Nat := if parE n k = 0 then (if n.lev = 0 then (plc (bsOf k) n.keys).1 else (plc (bsOf k) n.keys).1 + 1) else 0
theorem parE_leaf {n : Nd} {k : ByteArray} (h : n.lev = 0) : parE n k = 0 := if_pos (Or.inl h)
theorem parE_hit {n : Nd} {k : ByteArray} (h : (plc (bsOf k) n.keys).2 = true) : parE n k = 0 := if_pos (Or.inr h)
theorem parE_miss {n : Nd} {k : ByteArray} (h : ¬ n.lev = 0) (hf : (plc (bsOf k) n.keys).2 = false) : parE n k = 6 := if_neg (fun e => by rcases e with e | e; exact h e; rw [hf] at e; cases e)
theorem parA_ok {n : Nd} {k : ByteArray} (h : parE n k = 0) : parA n k = (plc (bsOf k) n.keys).1 := if_pos h
theorem parB_leaf {n : Nd} {k : ByteArray} (h : n.lev = 0) : parB n k = (plc (bsOf k) n.keys).1 := by unfold parB; rw [if_pos (parE_leaf h), if_pos h]
theorem parB_hit {n : Nd} {k : ByteArray} (h : ¬ n.lev = 0) (hf : (plc (bsOf k) n.keys).2 = true) : parB n k = (plc (bsOf k) n.keys).1 + 1 := by unfold parB; rw [if_pos (parE_hit hf), if_neg h]
theorem parA_no {n : Nd} {k : ByteArray} (h : parE n k ≠ 0) : parA n k = 0 := if_neg h
theorem parB_no {n : Nd} {k : ByteArray} (h : parE n k ≠ 0) : parB n k = 0 := if_neg h
theorem parA_le (n : Nd) (k : ByteArray) : parA n k ≤ n.keys.length := by
  have := plc_le (bsOf k) n.keys
  unfold parA
  split <;> omega
theorem parB_le (n : Nd) (k : ByteArray) : parB n k ≤ n.keys.length := by
  have h1 := plc_le (bsOf k) n.keys
  by_cases h0 : n.lev = 0
  · rw [parB_leaf h0]; exact h1
  · cases hf : (plc (bsOf k) n.keys).2
    · unfold parB; rw [parE_miss h0 hf, if_neg (by omega)]; omega
    · have := plc_lt _ _ hf
      rw [parB_hit h0 hf]; omega
theorem ret_iii {a b c d e f : Int} (h : a = b) (k : c = d) (l : e = f) : Ending.returned (.tuple #[.int .i64 a, .int .i64 c, .int .i64 e]) = .returned (.tuple #[.int .i64 b, .int .i64 d, .int .i64 f]) := by rw [h, k, l]
set_option maxRecDepth 100000 in
set_option maxHeartbeats 1000000 in
theorem parted_any (n : Nd) (p : Pt) (k : ByteArray) (hk : k.size ≤ maxLen) (w : World) (h : Nod w n p) : Calls Try.prog 76 #[(.agg #[.int .i64 n.lev, .int .i64 n.lsn, .int .i64 n.rgt, .string n.high, .slice p.k n.keys.length p.kc, .slice p.v n.vals.length p.vc, .slice p.i n.kids.length p.ic]), .string k] w fun e w' => e = .returned (.tuple #[.int .i64 (parA n k : Nat), .int .i64 (parB n k : Nat), .int .i64 (parE n k)]) ∧ Fr (fun _ => False) w w' := by
  have f0 := Fr.box w (.cells #[.int .i64 n.lev, .int .i64 n.lsn, .int .i64 n.rgt, .string n.high, .slice p.k n.keys.length p.kc, .slice p.v n.vals.length p.vc, .slice p.i n.kids.length p.ic] 25)
  have HB : Hid (∀ W, Fr (fun _ => False) (w.alloc (.cells #[.int .i64 n.lev, .int .i64 n.lsn, .int .i64 n.rgt, .string n.high, .slice p.k n.keys.length p.kc, .slice p.v n.vals.length p.vc, .slice p.i n.kids.length p.ic] 25)) W → W.cell? ⟨w.heap.size, 0, none⟩ = some (.int .i64 n.lev) ∧ W.cell? ⟨w.heap.size, 1, none⟩ = some (.int .i64 n.lsn) ∧ W.cell? ⟨w.heap.size, 2, none⟩ = some (.int .i64 n.rgt) ∧ W.cell? ⟨w.heap.size, 3, none⟩ = some (.string n.high) ∧ W.cell? ⟨w.heap.size, 4, none⟩ = some (.slice p.k n.keys.length p.kc) ∧ W.cell? ⟨w.heap.size, 5, none⟩ = some (.slice p.v n.vals.length p.vc) ∧ W.cell? ⟨w.heap.size, 6, none⟩ = some (.slice p.i n.kids.length p.ic)) := fun W f => box_cells (box_at w n p 25 f)
  have hpc := place_any p.k n.keys.length p.kc n.keys rfl k hk _ (h.same f0).keys
  have hlf := fun W => isLeafN_any n p W
  have hpl : (plc (bsOf k) n.keys).1 ≤ n.keys.length := plc_le (bsOf k) n.keys
  have hkl := h.klen
  obtain ⟨pi, pf, hpe⟩ : ∃ pi pf, plc (bsOf k) n.keys = (pi, pf) := ⟨_, _, rfl⟩
  rw [hpe] at hpc hpl
  simp only at hpc hpl
  by_cases h0 : n.lev = 0
  · have hb : (n.lev == 0) = true := by simpa using h0
    rw [hb] at hlf
    rw [parA_ok (parE_leaf h0), parB_leaf h0, parE_leaf h0, hpe]
    clear h0 hb hpe
    go_enter Try.func76, Try.ntmps76
    go_wp2_with fail
    refine hpc.mono ?_
    rintro e w1 ⟨rfl, f1⟩
    obtain ⟨c0, c1, c2, c3, c4, c5, c6⟩ := HB.out _ f1
    go_wp2_with fail
    refine (hlf _).mono ?_
    rintro e w2 ⟨rfl, f2⟩
    go_wp2
    go_ret3
    exact ⟨rfl, (f0.seq' f1).seq' f2⟩
  · have hb : (n.lev == 0) = false := by simpa using h0
    rw [hb] at hlf
    cases pf
    · have e6 := parE_miss (k := k) h0 (by rw [hpe])
      rw [parA_no (by rw [e6]; omega), parB_no (by rw [e6]; omega), e6]
      clear e6
      clear h0 hb hpe
      go_enter Try.func76, Try.ntmps76
      go_wp2_with fail
      refine hpc.mono ?_
      rintro e w1 ⟨rfl, f1⟩
      obtain ⟨c0, c1, c2, c3, c4, c5, c6⟩ := HB.out _ f1
      go_wp2_with fail
      refine (hlf _).mono ?_
      rintro e w2 ⟨rfl, f2⟩
      go_wp2
      go_ret3
      exact ⟨rfl, (f0.seq' f1).seq' f2⟩
    · have ht : (plc (bsOf k) n.keys).2 = true := by rw [hpe]
      rw [parA_ok (parE_hit ht), parB_hit h0 ht, parE_hit ht, hpe]
      clear ht
      clear h0 hb hpe
      go_enter Try.func76, Try.ntmps76
      go_wp2_with fail
      refine hpc.mono ?_
      rintro e w1 ⟨rfl, f1⟩
      obtain ⟨c0, c1, c2, c3, c4, c5, c6⟩ := HB.out _ f1
      go_wp2_with fail
      refine (hlf _).mono ?_
      rintro e w2 ⟨rfl, f2⟩
      go_wp2
      go_ret3
      exact ⟨ret_iii rfl (by omega) rfl, (f0.seq' f1).seq' f2⟩
/-- A node, where there is no error. -/
def okN (e : Int) (m : Nd) : Nd := if e = 0 then m else zn
theorem okN_ok (m : Nd) : okN 0 m = m := if_pos rfl
theorem okN_no {e : Int} (h : e ≠ 0) (m : Nd) : okN e m = zn := if_neg h
/-- The error of Left and Rest. -/
def lrE (n : Nd) (k : ByteArray) (en : Int) : Int := if askE n k 0 en 0 = 0 then parE n k else askE n k 0 en 0
def leftN (n : Nd) (k : ByteArray) (right : Int) : Nd := { pieceN n 0 (parA n k) with high := k, rgt := right }
def restN (n : Nd) (k : ByteArray) : Nd := pieceN n (parB n k) n.keys.length
set_option maxRecDepth 100000 in
set_option maxHeartbeats 2000000 in
theorem rest_any (n : Nd) (p : Pt) (k : ByteArray) (hk : k.size ≤ maxLen) (w : World) (h : Nod w n p) : Calls Try.prog 35 #[(.agg #[.int .i64 n.lev, .int .i64 n.lsn, .int .i64 n.rgt, .string n.high, .slice p.k n.keys.length p.kc, .slice p.v n.vals.length p.vc, .slice p.i n.kids.length p.ic]), .string k] w fun e w' => NdOut2 (okN (lrE n k 0) (restN n k)) (lrE n k 0) w e w' := by
  have f0 : Fr (fun _ => False) w ((w.alloc (.cells #[.int .i64 n.lev, .int .i64 n.lsn, .int .i64 n.rgt, .string n.high, .slice p.k n.keys.length p.kc, .slice p.v n.vals.length p.vc, .slice p.i n.kids.length p.ic] 25)).alloc (.cells #[.int .i64 0, .int .i64 0, .int .i64 0, .string ⟨#[]⟩, .slice none 0 0, .slice none 0 0, .slice none 0 0] 25)) := ((Fr.refl _ _).alloc _).alloc _
  have HB : Hid (∀ W, Fr (fun _ => False) ((w.alloc (.cells #[.int .i64 n.lev, .int .i64 n.lsn, .int .i64 n.rgt, .string n.high, .slice p.k n.keys.length p.kc, .slice p.v n.vals.length p.vc, .slice p.i n.kids.length p.ic] 25)).alloc (.cells #[.int .i64 0, .int .i64 0, .int .i64 0, .string ⟨#[]⟩, .slice none 0 0, .slice none 0 0, .slice none 0 0] 25)) W → W.cell? ⟨w.heap.size, 0, none⟩ = some (.int .i64 n.lev) ∧ W.cell? ⟨w.heap.size, 1, none⟩ = some (.int .i64 n.lsn) ∧ W.cell? ⟨w.heap.size, 2, none⟩ = some (.int .i64 n.rgt) ∧ W.cell? ⟨w.heap.size, 3, none⟩ = some (.string n.high) ∧ W.cell? ⟨w.heap.size, 4, none⟩ = some (.slice p.k n.keys.length p.kc) ∧ W.cell? ⟨w.heap.size, 5, none⟩ = some (.slice p.v n.vals.length p.vc) ∧ W.cell? ⟨w.heap.size, 6, none⟩ = some (.slice p.i n.kids.length p.ic)) := fun W f => box_cells (box_at w n p 25 (((Fr.refl _ _).alloc _).seq' f))
  have HRB : Hid (∀ W, Fr (fun _ => False) ((w.alloc (.cells #[.int .i64 n.lev, .int .i64 n.lsn, .int .i64 n.rgt, .string n.high, .slice p.k n.keys.length p.kc, .slice p.v n.vals.length p.vc, .slice p.i n.kids.length p.ic] 25)).alloc (.cells #[.int .i64 0, .int .i64 0, .int .i64 0, .string ⟨#[]⟩, .slice none 0 0, .slice none 0 0, .slice none 0 0] 25)) W → W.heap[w.heap.size + 1]? = some (.cells #[.int .i64 0, .int .i64 0, .int .i64 0, .string ⟨#[]⟩, .slice none 0 0, .slice none 0 0, .slice none 0 0] 25 (0, 0))) := fun W f => by
    refine f.blk ?_ (fun f => f)
    have := heap_alloc_new (w.alloc (.cells #[.int .i64 n.lev, .int .i64 n.lsn, .int .i64 n.rgt, .string n.high, .slice p.k n.keys.length p.kc, .slice p.v n.vals.length p.vc, .slice p.i n.kids.length p.ic] 25)) (.cells #[.int .i64 0, .int .i64 0, .int .i64 0, .string ⟨#[]⟩, .slice none 0 0, .slice none 0 0, .slice none 0 0] 25)
    rw [show (w.alloc (.cells #[.int .i64 n.lev, .int .i64 n.lsn, .int .i64 n.rgt, .string n.high, .slice p.k n.keys.length p.kc, .slice p.v n.vals.length p.vc, .slice p.i n.kids.length p.ic] 25)).heap.size = w.heap.size + 1 by simp] at this
    exact this
  have hh := high_le h
  have fr0 := (Fr.refl (fun _ => False) ((w.alloc (.cells #[.int .i64 n.lev, .int .i64 n.lsn, .int .i64 n.rgt, .string n.high, .slice p.k n.keys.length p.kc, .slice p.v n.vals.length p.vc, .slice p.i n.kids.length p.ic] 25)).alloc (.cells #[.int .i64 0, .int .i64 0, .int .i64 0, .string ⟨#[]⟩, .slice none 0 0, .slice none 0 0, .slice none 0 0] 25))).drew
  have q0 := HB.out _ fr0
  have hN := h.same (f0.seq' fr0)
  have HA : Hid (firstE [rgE n, ekey k.size, suE n k 0] = askE n k 0 0 0) := ask_3 n k 0
  have HOK : Hid (askE n k 0 0 0 = 0 → Rt n) := fun h => (ask_ok h).1
  have HE : Hid (lrE n k 0 = if askE n k 0 0 0 = 0 then parE n k else askE n k 0 0 0) := rfl
  have hpb : parB n k ≤ n.keys.length := parB_le n k
  generalize askE n k 0 0 0 = ae at *
  go_enter Try.func35, Try.ntmps35
  go_wp2_with fail
  go_region_held3 (fun W => W.cell? ⟨w.heap.size, 0, none⟩ = some (.int .i64 n.lev) ∧ W.cell? ⟨w.heap.size, 1, none⟩ = some (.int .i64 n.lsn) ∧ W.cell? ⟨w.heap.size, 2, none⟩ = some (.int .i64 n.rgt) ∧ W.cell? ⟨w.heap.size, 3, none⟩ = some (.string n.high) ∧ W.cell? ⟨w.heap.size, 4, none⟩ = some (.slice p.k n.keys.length p.kc) ∧ W.cell? ⟨w.heap.size, 5, none⟩ = some (.slice p.v n.vals.length p.vc) ∧ W.cell? ⟨w.heap.size, 6, none⟩ = some (.slice p.i n.kids.length p.ic))
    (first | with_reducible exact q0 | with_reducible exact q1 | with_reducible exact q3 | with_reducible exact q4)
    (first
      | (go_at_call 56; refine (checkNode_any n p _ hN).mono ?_; rintro e w1 ⟨rfl, m1⟩; have fr1 := fr0.seq' m1; have q1 := HB.out _ fr1)
      | (go_at_call 57; refine (kcheck_any k _).mono ?_; rintro e w2 ⟨rfl, rfl⟩)
      | (go_at_call 58; refine (suits_any n p k 0 (by omega) hh hk _).mono ?_; rintro e w3 ⟨rfl, m3⟩; have fr3 := fr1.seq' m3; have q3 := HB.out _ fr3; have fr4 := fr3.alloc (.cells #[.int .i64 (rgE n), .int .i64 (ekey k.size : Nat), .int .i64 (suE n k 0)] 27); have q4 := HB.out _ fr4)
      | (go_at_call 55; refine (first3 (rgE n) (ekey k.size : Nat) (suE n k 0) w3).mono ?_; rw [HA.out]; rintro e w5 ⟨rfl, rfl⟩))
  have hN4 := h.same (f0.seq' fr4)
  obtain ⟨c0, c1, c2, c3, c4, c5, c6⟩ := q4
  obtain ⟨⟨s0, s1, s2, s3, s4, s5, s6⟩, sz⟩ := node_cells (HRB.out _ fr4)
  have y0 := sz 0; have y1 := sz 1; have y2 := sz 2; have y3 := sz 3; have y4 := sz 4; have y5 := sz 5; have y6 := sz 6
  generalize w3.alloc (.cells #[.int .i64 (rgE n), .int .i64 (ekey k.size : Nat), .int .i64 (suE n k 0)] 27) = w4 at *
  clear q0 q1 q3 sz
  by_cases hae : ae = 0
  · subst hae
    have r := HOK.out rfl
    rw [if_pos rfl] at HE
    have hpt := parted_any n p k hk _ hN4
    by_cases hp0 : parE n k = 0
    · have HL : Hid (lrE n k 0 = 0) := by show _ = _; rw [HE.out]; exact hp0
      rw [hp0] at hpt
      have hpc := fun W hW => piece_any n p r (parB n k) n.keys.length hpb (Nat.le_refl _) W hW
      have HRN : Hid (restN n k = pieceN n (parB n k) n.keys.length) := rfl
      generalize pieceN n (parB n k) n.keys.length = m at *
      generalize parB n k = pb at *
      generalize parA n k = pa at *
      clear y0 y1 y2 y3 y4 y5 y6 s0 s1 s2 s3 s4 s5 s6
      go_wp2_with fail
      refine hpt.mono ?_
      rintro e w5 ⟨rfl, f5⟩
      clear c0 c1 c2 c3 c4 c5 c6
      have fr5 := fr4.seq' f5
      obtain ⟨c0, c1, c2, c3, c4, c5, c6⟩ := HB.out _ fr5
      go_wp2_with fail
      refine (hpc _ (h.same (f0.seq' fr5))).mono ?_
      rintro e w6 ⟨p6, rfl, nd6, far6, f6⟩
      clear c0 c1 c2 c3 c4 c5 c6
      have fr6 := fr5.seq' f6
      have hR6 := HRB.out _ fr6
      obtain ⟨⟨s0, s1, s2, s3, s4, s5, s6⟩, sz⟩ := node_cells hR6
      have y0 := sz 0; have y1 := sz 1; have y2 := sz 2; have y3 := sz 3; have y4 := sz 4; have y5 := sz 5; have y6 := sz 6
      clear sz
      go_wp2
      obtain ⟨hq, ff⟩ := fin7 hR6 (.int .i64 m.lev) (.int .i64 m.lsn) (.int .i64 m.rgt) (.string m.high) (.slice p6.k m.keys.length p6.kc) (.slice p6.v m.vals.length p6.vc) (.slice p6.i m.kids.length p6.ic)
      have fff := (f0.seq' fr6).trans ff (S := fun _ => False) (fun i hi e => by omega)
      have ndf := nd_far nd6 ff (fun b off hx e => by have := far6 b off hx; have := fr5.size; simp at this; omega)
      generalize ((((((w6.setCell ⟨w.heap.size + 1, 0, none⟩ (.int .i64 m.lev)).setCell ⟨w.heap.size + 1, 1, none⟩ (.int .i64 m.lsn)).setCell ⟨w.heap.size + 1, 2, none⟩ (.int .i64 m.rgt)).setCell ⟨w.heap.size + 1, 3, none⟩ (.string m.high)).setCell ⟨w.heap.size + 1, 4, none⟩ (.slice p6.k m.keys.length p6.kc)).setCell ⟨w.heap.size + 1, 5, none⟩ (.slice p6.v m.vals.length p6.vc)).setCell ⟨w.heap.size + 1, 6, none⟩ (.slice p6.i m.kids.length p6.ic) = Wf at hq fff ndf ⊢
      obtain ⟨⟨q0, q1, q2, q3, q4, q5, q6⟩, _⟩ := node_cells hq
      rw [HL.out, okN_ok, HRN.out]
      exact bodyPost_ret (v := .tuple #[(.agg #[.int .i64 m.lev, .int .i64 m.lsn, .int .i64 m.rgt, .string m.high, .slice p6.k m.keys.length p6.kc, .slice p6.v m.vals.length p6.vc, .slice p6.i m.kids.length p6.ic]), .int .i64 0]) (by simp [results, Try.results35, go_sem, q0, q1, q2, q3, q4, q5, q6]) rfl ⟨p6, rfl, ndf, fff⟩
    · have HL : Hid (lrE n k 0 = parE n k) := HE.out
      have hne : (parE n k != 0) = true := by simpa using hp0
      have HP0 : Hid (parE n k ≠ 0) := hp0
      generalize parB n k = pb at *
      generalize parA n k = pa at *
      generalize parE n k = pe at *
      clear y0 y1 y2 y3 y4 y5 y6 s0 s1 s2 s3 s4 s5 s6 hp0
      go_wp2_with fail
      refine hpt.mono ?_
      rintro e w5 ⟨rfl, f5⟩
      have fr5 := fr4.seq' f5
      have hR6 := HRB.out _ fr5
      obtain ⟨⟨s0, s1, s2, s3, s4, s5, s6⟩, sz⟩ := node_cells hR6
      have y0 := sz 0; have y1 := sz 1; have y2 := sz 2; have y3 := sz 3; have y4 := sz 4; have y5 := sz 5; have y6 := sz 6
      clear sz
      go_wp2
      obtain ⟨hq, ff⟩ := fin7 hR6 (.int .i64 0) (.int .i64 0) (.int .i64 0) (.string ⟨#[]⟩) (.slice none 0 0) (.slice none 0 0) (.slice none 0 0)
      have fff := (f0.seq' fr5).trans ff (S := fun _ => False) (fun i hi e => by omega)
      generalize ((((((w5.setCell ⟨w.heap.size + 1, 0, none⟩ (.int .i64 0)).setCell ⟨w.heap.size + 1, 1, none⟩ (.int .i64 0)).setCell ⟨w.heap.size + 1, 2, none⟩ (.int .i64 0)).setCell ⟨w.heap.size + 1, 3, none⟩ (.string ⟨#[]⟩)).setCell ⟨w.heap.size + 1, 4, none⟩ (.slice none 0 0)).setCell ⟨w.heap.size + 1, 5, none⟩ (.slice none 0 0)).setCell ⟨w.heap.size + 1, 6, none⟩ (.slice none 0 0) = Wf at hq fff ⊢
      obtain ⟨⟨q0, q1, q2, q3, q4, q5, q6⟩, _⟩ := node_cells hq
      rw [HL.out, okN_no HP0.out]
      exact bodyPost_ret (v := .tuple #[.agg #[.int .i64 0, .int .i64 0, .int .i64 0, .string ⟨#[]⟩, .slice none 0 0, .slice none 0 0, .slice none 0 0], .int .i64 pe]) (by simp [results, Try.results35, go_sem, q0, q1, q2, q3, q4, q5, q6]) rfl ⟨zp, rfl, zn_nod _, fff⟩
  · have hne : (ae != 0) = true := by simpa using hae
    rw [if_neg hae] at HE
    have HP0 : Hid (ae ≠ 0) := hae
    have hR6 := HRB.out _ fr4
    clear hae
    go_wp2
    obtain ⟨hq, ff⟩ := fin7 hR6 (.int .i64 0) (.int .i64 0) (.int .i64 0) (.string ⟨#[]⟩) (.slice none 0 0) (.slice none 0 0) (.slice none 0 0)
    have fff := (f0.seq' fr4).trans ff (S := fun _ => False) (fun i hi e => by omega)
    generalize ((((((w4.setCell ⟨w.heap.size + 1, 0, none⟩ (.int .i64 0)).setCell ⟨w.heap.size + 1, 1, none⟩ (.int .i64 0)).setCell ⟨w.heap.size + 1, 2, none⟩ (.int .i64 0)).setCell ⟨w.heap.size + 1, 3, none⟩ (.string ⟨#[]⟩)).setCell ⟨w.heap.size + 1, 4, none⟩ (.slice none 0 0)).setCell ⟨w.heap.size + 1, 5, none⟩ (.slice none 0 0)).setCell ⟨w.heap.size + 1, 6, none⟩ (.slice none 0 0) = Wf at hq fff ⊢
    obtain ⟨⟨q0, q1, q2, q3, q4, q5, q6⟩, _⟩ := node_cells hq
    rw [HE.out, okN_no HP0.out]
    exact bodyPost_ret (v := .tuple #[.agg #[.int .i64 0, .int .i64 0, .int .i64 0, .string ⟨#[]⟩, .slice none 0 0, .slice none 0 0, .slice none 0 0], .int .i64 ae]) (by simp [results, Try.results35, go_sem, q0, q1, q2, q3, q4, q5, q6]) rfl ⟨zp, rfl, zn_nod _, fff⟩
end Go.Proofs.Ytaaedmacefiinaa

/- What Left makes. -/
namespace Go.Proofs.Ytaaedmacefiinaa
open Go.RowKit

set_option maxRecDepth 100000 in
set_option maxHeartbeats 2000000 in
theorem nleft_any (n : Nd) (p : Pt) (k : ByteArray) (rt : Int) (hk2 : k.size ≤ 140737488351232) (hk : k.size ≤ maxLen) (w : World) (h : Nod w n p) : Calls Try.prog 33 #[(.agg #[.int .i64 n.lev, .int .i64 n.lsn, .int .i64 n.rgt, .string n.high, .slice p.k n.keys.length p.kc, .slice p.v n.vals.length p.vc, .slice p.i n.kids.length p.ic]), .string k, .int .i64 rt] w fun e w' => NdOut2 (okN (lrE n k (nuE rt)) (leftN n k rt)) (lrE n k (nuE rt)) w e w' := by
  have f0 : Fr (fun _ => False) w ((w.alloc (.cells #[.int .i64 n.lev, .int .i64 n.lsn, .int .i64 n.rgt, .string n.high, .slice p.k n.keys.length p.kc, .slice p.v n.vals.length p.vc, .slice p.i n.kids.length p.ic] 25)).alloc (.cells #[.int .i64 0, .int .i64 0, .int .i64 0, .string ⟨#[]⟩, .slice none 0 0, .slice none 0 0, .slice none 0 0] 25)) := ((Fr.refl _ _).alloc _).alloc _
  have HB : Hid (∀ W, Fr (fun _ => False) ((w.alloc (.cells #[.int .i64 n.lev, .int .i64 n.lsn, .int .i64 n.rgt, .string n.high, .slice p.k n.keys.length p.kc, .slice p.v n.vals.length p.vc, .slice p.i n.kids.length p.ic] 25)).alloc (.cells #[.int .i64 0, .int .i64 0, .int .i64 0, .string ⟨#[]⟩, .slice none 0 0, .slice none 0 0, .slice none 0 0] 25)) W → W.cell? ⟨w.heap.size, 0, none⟩ = some (.int .i64 n.lev) ∧ W.cell? ⟨w.heap.size, 1, none⟩ = some (.int .i64 n.lsn) ∧ W.cell? ⟨w.heap.size, 2, none⟩ = some (.int .i64 n.rgt) ∧ W.cell? ⟨w.heap.size, 3, none⟩ = some (.string n.high) ∧ W.cell? ⟨w.heap.size, 4, none⟩ = some (.slice p.k n.keys.length p.kc) ∧ W.cell? ⟨w.heap.size, 5, none⟩ = some (.slice p.v n.vals.length p.vc) ∧ W.cell? ⟨w.heap.size, 6, none⟩ = some (.slice p.i n.kids.length p.ic)) := fun W f => box_cells (box_at w n p 25 (((Fr.refl _ _).alloc _).seq' f))
  have HRB : Hid (∀ W, Fr (fun _ => False) ((w.alloc (.cells #[.int .i64 n.lev, .int .i64 n.lsn, .int .i64 n.rgt, .string n.high, .slice p.k n.keys.length p.kc, .slice p.v n.vals.length p.vc, .slice p.i n.kids.length p.ic] 25)).alloc (.cells #[.int .i64 0, .int .i64 0, .int .i64 0, .string ⟨#[]⟩, .slice none 0 0, .slice none 0 0, .slice none 0 0] 25)) W → W.heap[w.heap.size + 1]? = some (.cells #[.int .i64 0, .int .i64 0, .int .i64 0, .string ⟨#[]⟩, .slice none 0 0, .slice none 0 0, .slice none 0 0] 25 (0, 0))) := fun W f => by
    refine f.blk ?_ (fun f => f)
    have := heap_alloc_new (w.alloc (.cells #[.int .i64 n.lev, .int .i64 n.lsn, .int .i64 n.rgt, .string n.high, .slice p.k n.keys.length p.kc, .slice p.v n.vals.length p.vc, .slice p.i n.kids.length p.ic] 25)) (.cells #[.int .i64 0, .int .i64 0, .int .i64 0, .string ⟨#[]⟩, .slice none 0 0, .slice none 0 0, .slice none 0 0] 25)
    rw [show (w.alloc (.cells #[.int .i64 n.lev, .int .i64 n.lsn, .int .i64 n.rgt, .string n.high, .slice p.k n.keys.length p.kc, .slice p.v n.vals.length p.vc, .slice p.i n.kids.length p.ic] 25)).heap.size = w.heap.size + 1 by simp] at this
    exact this
  have hh := high_le h
  have fr0 := (Fr.refl (fun _ => False) ((w.alloc (.cells #[.int .i64 n.lev, .int .i64 n.lsn, .int .i64 n.rgt, .string n.high, .slice p.k n.keys.length p.kc, .slice p.v n.vals.length p.vc, .slice p.i n.kids.length p.ic] 25)).alloc (.cells #[.int .i64 0, .int .i64 0, .int .i64 0, .string ⟨#[]⟩, .slice none 0 0, .slice none 0 0, .slice none 0 0] 25))).drew
  have q0 := HB.out _ fr0
  have hN := h.same (f0.seq' fr0)
  have HA : Hid (firstE [rgE n, ekey k.size, nuE rt, suE n k 0] = askE n k 0 (nuE rt) 0) := ask_n n k (nuE rt) 0
  have HOK : Hid (askE n k 0 (nuE rt) 0 = 0 → Rt n) := fun h => (ask_ok h).1
  have HE : Hid (lrE n k (nuE rt) = if askE n k 0 (nuE rt) 0 = 0 then parE n k else askE n k 0 (nuE rt) 0) := rfl
  have hpb : parA n k ≤ n.keys.length := parA_le n k
  generalize askE n k 0 (nuE rt) 0 = ae at *
  go_enter Try.func33, Try.ntmps33
  go_wp2_with fail
  go_region_held3 (fun W => W.cell? ⟨w.heap.size, 0, none⟩ = some (.int .i64 n.lev) ∧ W.cell? ⟨w.heap.size, 1, none⟩ = some (.int .i64 n.lsn) ∧ W.cell? ⟨w.heap.size, 2, none⟩ = some (.int .i64 n.rgt) ∧ W.cell? ⟨w.heap.size, 3, none⟩ = some (.string n.high) ∧ W.cell? ⟨w.heap.size, 4, none⟩ = some (.slice p.k n.keys.length p.kc) ∧ W.cell? ⟨w.heap.size, 5, none⟩ = some (.slice p.v n.vals.length p.vc) ∧ W.cell? ⟨w.heap.size, 6, none⟩ = some (.slice p.i n.kids.length p.ic))
    (first | with_reducible exact q0 | with_reducible exact q1 | with_reducible exact q3 | with_reducible exact q4)
    (first
      | (go_at_call 56; refine (checkNode_any n p _ hN).mono ?_; rintro e w1 ⟨rfl, m1⟩; have fr1 := fr0.seq' m1; have q1 := HB.out _ fr1)
      | (go_at_call 57; refine (kcheck_any k _).mono ?_; rintro e w2 ⟨rfl, rfl⟩)
      | (go_at_call 69; refine (checkPage_any rt _).mono ?_; rintro e w2 ⟨rfl, rfl⟩)
      | (go_at_call 58; refine (suits_any n p k 0 (by omega) hh hk _).mono ?_; rintro e w3 ⟨rfl, m3⟩; have fr3 := fr1.seq' m3; have q3 := HB.out _ fr3; have fr4 := fr3.alloc (.cells #[.int .i64 (rgE n), .int .i64 (ekey k.size : Nat), .int .i64 (nuE rt), .int .i64 (suE n k 0)] 27); have q4 := HB.out _ fr4)
      | (go_at_call 55; refine (first4 (rgE n) (ekey k.size : Nat) (nuE rt) (suE n k 0) w3).mono ?_; rw [HA.out]; rintro e w5 ⟨rfl, rfl⟩))
  have hN4 := h.same (f0.seq' fr4)
  obtain ⟨c0, c1, c2, c3, c4, c5, c6⟩ := q4
  obtain ⟨⟨s0, s1, s2, s3, s4, s5, s6⟩, sz⟩ := node_cells (HRB.out _ fr4)
  have y0 := sz 0; have y1 := sz 1; have y2 := sz 2; have y3 := sz 3; have y4 := sz 4; have y5 := sz 5; have y6 := sz 6
  generalize w3.alloc (.cells #[.int .i64 (rgE n), .int .i64 (ekey k.size : Nat), .int .i64 (nuE rt), .int .i64 (suE n k 0)] 27) = w4 at *
  clear q0 q1 q3 sz
  by_cases hae : ae = 0
  · subst hae
    have r := HOK.out rfl
    rw [if_pos rfl] at HE
    have hpt := parted_any n p k hk _ hN4
    by_cases hp0 : parE n k = 0
    · have HL : Hid (lrE n k (nuE rt) = 0) := by show _ = _; rw [HE.out]; exact hp0
      rw [hp0] at hpt
      have hpc := fun W hW => piece_any n p r 0 (parA n k) (Nat.zero_le _) hpb W hW
      rw [show ((0 : Nat) : Int) = 0 from rfl] at hpc
      have HRN : Hid (leftN n k rt = { pieceN n 0 (parA n k) with high := k, rgt := rt }) := rfl
      generalize pieceN n 0 (parA n k) = m at *
      generalize parB n k = pb at *
      generalize parA n k = pa at *
      clear y0 y1 y2 y3 y4 y5 y6 s0 s1 s2 s3 s4 s5 s6
      go_wp2_with fail
      refine hpt.mono ?_
      rintro e w5 ⟨rfl, f5⟩
      clear c0 c1 c2 c3 c4 c5 c6
      have fr5 := fr4.seq' f5
      obtain ⟨c0, c1, c2, c3, c4, c5, c6⟩ := HB.out _ fr5
      go_wp2_with fail
      refine (hpc _ (h.same (f0.seq' fr5))).mono ?_
      rintro e w6 ⟨p6, rfl, nd6, far6, f6⟩
      clear c0 c1 c2 c3 c4 c5 c6
      have fr6 := (fr5.seq' f6).alloc (.cells #[.int .i64 m.lev, .int .i64 m.lsn, .int .i64 rt, .string k, .slice p6.k m.keys.length p6.kc, .slice p6.v m.vals.length p6.vc, .slice p6.i m.kids.length p6.ic] 25)
      have hR6 := HRB.out _ fr6
      have nd6' := nd6.same ((Fr.refl (fun _ => False) w6).alloc (.cells #[.int .i64 m.lev, .int .i64 m.lsn, .int .i64 rt, .string k, .slice p6.k m.keys.length p6.kc, .slice p6.v m.vals.length p6.vc, .slice p6.i m.kids.length p6.ic] 25))
      obtain ⟨⟨s0, s1, s2, s3, s4, s5, s6⟩, sz⟩ := node_cells hR6
      have y0 := sz 0; have y1 := sz 1; have y2 := sz 2; have y3 := sz 3; have y4 := sz 4; have y5 := sz 5; have y6 := sz 6
      clear sz
      go_wp2
      obtain ⟨hq, ff⟩ := fin7 hR6 (.int .i64 m.lev) (.int .i64 m.lsn) (.int .i64 rt) (.string k) (.slice p6.k m.keys.length p6.kc) (.slice p6.v m.vals.length p6.vc) (.slice p6.i m.kids.length p6.ic)
      have fff := (f0.seq' fr6).trans ff (S := fun _ => False) (fun i hi e => by omega)
      have ndf := nd_far nd6' ff (fun b off hx e => by have := far6 b off hx; have := fr5.size; simp at this; omega)
      generalize (((((((w6.alloc (.cells #[.int .i64 m.lev, .int .i64 m.lsn, .int .i64 rt, .string k, .slice p6.k m.keys.length p6.kc, .slice p6.v m.vals.length p6.vc, .slice p6.i m.kids.length p6.ic] 25)).setCell ⟨w.heap.size + 1, 0, none⟩ (.int .i64 m.lev)).setCell ⟨w.heap.size + 1, 1, none⟩ (.int .i64 m.lsn)).setCell ⟨w.heap.size + 1, 2, none⟩ (.int .i64 rt)).setCell ⟨w.heap.size + 1, 3, none⟩ (.string k)).setCell ⟨w.heap.size + 1, 4, none⟩ (.slice p6.k m.keys.length p6.kc)).setCell ⟨w.heap.size + 1, 5, none⟩ (.slice p6.v m.vals.length p6.vc)).setCell ⟨w.heap.size + 1, 6, none⟩ (.slice p6.i m.kids.length p6.ic) = Wf at hq fff ndf ⊢
      obtain ⟨⟨q0, q1, q2, q3, q4, q5, q6⟩, _⟩ := node_cells hq
      rw [HL.out, okN_ok, HRN.out]
      exact bodyPost_ret (v := .tuple #[.agg #[.int .i64 m.lev, .int .i64 m.lsn, .int .i64 rt, .string k, .slice p6.k m.keys.length p6.kc, .slice p6.v m.vals.length p6.vc, .slice p6.i m.kids.length p6.ic], .int .i64 0]) (by simp [results, Try.results33, go_sem, q0, q1, q2, q3, q4, q5, q6]) rfl ⟨p6, rfl, ⟨ndf.keys, ndf.vals, ndf.kids, hk2, ndf.ksz, ndf.vsz, ndf.klen, ndf.vlen, ndf.ilen⟩, fff⟩
    · have HL : Hid (lrE n k (nuE rt) = parE n k) := HE.out
      have hne : (parE n k != 0) = true := by simpa using hp0
      have HP0 : Hid (parE n k ≠ 0) := hp0
      generalize parB n k = pb at *
      generalize parA n k = pa at *
      generalize parE n k = pe at *
      clear y0 y1 y2 y3 y4 y5 y6 s0 s1 s2 s3 s4 s5 s6 hp0
      go_wp2_with fail
      refine hpt.mono ?_
      rintro e w5 ⟨rfl, f5⟩
      have fr5 := fr4.seq' f5
      have hR6 := HRB.out _ fr5
      obtain ⟨⟨s0, s1, s2, s3, s4, s5, s6⟩, sz⟩ := node_cells hR6
      have y0 := sz 0; have y1 := sz 1; have y2 := sz 2; have y3 := sz 3; have y4 := sz 4; have y5 := sz 5; have y6 := sz 6
      clear sz
      go_wp2
      obtain ⟨hq, ff⟩ := fin7 hR6 (.int .i64 0) (.int .i64 0) (.int .i64 0) (.string ⟨#[]⟩) (.slice none 0 0) (.slice none 0 0) (.slice none 0 0)
      have fff := (f0.seq' fr5).trans ff (S := fun _ => False) (fun i hi e => by omega)
      generalize ((((((w5.setCell ⟨w.heap.size + 1, 0, none⟩ (.int .i64 0)).setCell ⟨w.heap.size + 1, 1, none⟩ (.int .i64 0)).setCell ⟨w.heap.size + 1, 2, none⟩ (.int .i64 0)).setCell ⟨w.heap.size + 1, 3, none⟩ (.string ⟨#[]⟩)).setCell ⟨w.heap.size + 1, 4, none⟩ (.slice none 0 0)).setCell ⟨w.heap.size + 1, 5, none⟩ (.slice none 0 0)).setCell ⟨w.heap.size + 1, 6, none⟩ (.slice none 0 0) = Wf at hq fff ⊢
      obtain ⟨⟨q0, q1, q2, q3, q4, q5, q6⟩, _⟩ := node_cells hq
      rw [HL.out, okN_no HP0.out]
      exact bodyPost_ret (v := .tuple #[.agg #[.int .i64 0, .int .i64 0, .int .i64 0, .string ⟨#[]⟩, .slice none 0 0, .slice none 0 0, .slice none 0 0], .int .i64 pe]) (by simp [results, Try.results33, go_sem, q0, q1, q2, q3, q4, q5, q6]) rfl ⟨zp, rfl, zn_nod _, fff⟩
  · have hne : (ae != 0) = true := by simpa using hae
    rw [if_neg hae] at HE
    have HP0 : Hid (ae ≠ 0) := hae
    have hR6 := HRB.out _ fr4
    clear hae
    go_wp2
    obtain ⟨hq, ff⟩ := fin7 hR6 (.int .i64 0) (.int .i64 0) (.int .i64 0) (.string ⟨#[]⟩) (.slice none 0 0) (.slice none 0 0) (.slice none 0 0)
    have fff := (f0.seq' fr4).trans ff (S := fun _ => False) (fun i hi e => by omega)
    generalize ((((((w4.setCell ⟨w.heap.size + 1, 0, none⟩ (.int .i64 0)).setCell ⟨w.heap.size + 1, 1, none⟩ (.int .i64 0)).setCell ⟨w.heap.size + 1, 2, none⟩ (.int .i64 0)).setCell ⟨w.heap.size + 1, 3, none⟩ (.string ⟨#[]⟩)).setCell ⟨w.heap.size + 1, 4, none⟩ (.slice none 0 0)).setCell ⟨w.heap.size + 1, 5, none⟩ (.slice none 0 0)).setCell ⟨w.heap.size + 1, 6, none⟩ (.slice none 0 0) = Wf at hq fff ⊢
    obtain ⟨⟨q0, q1, q2, q3, q4, q5, q6⟩, _⟩ := node_cells hq
    rw [HE.out, okN_no HP0.out]
    exact bodyPost_ret (v := .tuple #[.agg #[.int .i64 0, .int .i64 0, .int .i64 0, .string ⟨#[]⟩, .slice none 0 0, .slice none 0 0, .slice none 0 0], .int .i64 ae]) (by simp [results, Try.results33, go_sem, q0, q1, q2, q3, q4, q5, q6]) rfl ⟨zp, rfl, zn_nod _, fff⟩
end Go.Proofs.Ytaaedmacefiinaa

/- latticelaw07.speaks answers true. -/
namespace Go.Proofs.Ytaaedmacefiinaa
open Go.RowKit

def n4 : Nd := ⟨0, 0, 0, ⟨#[]⟩, [⟨#[97]⟩, ⟨#[98]⟩, ⟨#[99]⟩, ⟨#[100]⟩], [⟨#[49]⟩, ⟨#[50]⟩, ⟨#[51]⟩, ⟨#[52]⟩], []⟩
def nl4 : Nd := ⟨0, 0, 9, ⟨#[99]⟩, [⟨#[97]⟩, ⟨#[98]⟩], [⟨#[49]⟩, ⟨#[50]⟩], []⟩
def nr4 : Nd := ⟨0, 0, 0, ⟨#[]⟩, [⟨#[99]⟩, ⟨#[100]⟩], [⟨#[51]⟩, ⟨#[52]⟩], []⟩
def nk4 : Nd := ⟨1, 0, 0, ⟨#[]⟩, [⟨#[109]⟩], [], [1, 2]⟩
theorem nd_ext4 {a b : Nd} (h1 : a.lev = b.lev) (h2 : a.lsn = b.lsn) (h3 : a.rgt = b.rgt) (h4 : a.high = b.high) (h5 : a.keys = b.keys) (h6 : a.vals = b.vals) (h7 : a.kids = b.kids) : a = b := by
  cases a; cases b; simp only at h1 h2 h3 h4 h5 h6 h7; subst h1 h2 h3 h4 h5 h6 h7; rfl
theorem sp_split : splE n4 = 0 := by decide +kernel
theorem sp_mid : Mid n4 2 := ⟨by decide, by decide, .inr (by decide +kernel), fun i h1 h2 => by
  have : i = 1 := by omega
  subst this
  decide +kernel⟩
theorem sp_key : splS n4 2 = ⟨#[99]⟩ := by decide +kernel
theorem sp_le : lrE n4 ⟨#[99]⟩ (nuE 9) = 0 := by decide +kernel
theorem sp_re : lrE n4 ⟨#[99]⟩ 0 = 0 := by decide +kernel
theorem sp_l : leftN n4 ⟨#[99]⟩ 9 = nl4 := nd_ext4 (by decide +kernel) (by decide +kernel) (by decide +kernel) (by decide +kernel) (by decide +kernel) (by decide +kernel) (by decide +kernel)
theorem sp_r : restN n4 ⟨#[99]⟩ = nr4 := nd_ext4 (by decide +kernel) (by decide +kernel) (by decide +kernel) (by decide +kernel) (by decide +kernel) (by decide +kernel) (by decide +kernel)
theorem sp_ask : askE nk4 ⟨#[109]⟩ 0 0 2 = 0 := by decide +kernel
theorem sp_kid : kidV nk4 ⟨#[109]⟩ = 2 := by decide +kernel
theorem strs_blk {W : World} {b : Nat} {t : TypeId} {l : List ByteArray} (hl : l.length ≤ 100) (hs : ∀ s ∈ l, s.size ≤ 100) (h : W.heap[b]? = some (.cells (l.map Value.string).toArray t (0, 0))) : Strs W (some ⟨b, 0, none⟩) l.length l :=
  ⟨Nat.le_refl _, by omega, fun s h1 => Nat.le_trans (hs s h1) (by decide), .inr ⟨b, 0, rfl, lt_of_block h, fun i hi => by
    rw [cell_of_row W b (0 + i) _ _ _ h, Nat.zero_add, List.getElem?_toArray, List.getElem?_map, List.getD_eq_getElem?_getD, List.getElem?_eq_getElem hi]; rfl⟩⟩
theorem ints_blk {W : World} {b : Nat} {t : TypeId} {l : List Int} (hl : l.length ≤ 100) (h : W.heap[b]? = some (.cells (l.map (Value.int .i64)).toArray t (0, 0))) : Ints W (some ⟨b, 0, none⟩) l.length l :=
  ⟨Nat.le_refl _, by omega, .inr ⟨b, 0, rfl, lt_of_block h, fun i hi => by
    rw [cell_of_row W b (0 + i) _ _ _ h, Nat.zero_add, List.getElem?_toArray, List.getElem?_map, List.getD_eq_getElem?_getD, List.getElem?_eq_getElem hi]; rfl⟩⟩
def p4 (w : World) : Pt := ⟨some ⟨w.heap.size, 0, none⟩, 4, some ⟨w.heap.size + 1, 0, none⟩, 4, none, 0⟩
def WA (w : World) : World := (w.alloc (.cells #[.string ⟨#[97]⟩, .string ⟨#[98]⟩, .string ⟨#[99]⟩, .string ⟨#[100]⟩] 9)).alloc (.cells #[.string ⟨#[49]⟩, .string ⟨#[50]⟩, .string ⟨#[51]⟩, .string ⟨#[52]⟩] 9)
theorem WA_nod (w : World) : Nod (WA w) n4 (p4 w) := by
  have h1 := heap_alloc_new w (.cells #[.string ⟨#[97]⟩, .string ⟨#[98]⟩, .string ⟨#[99]⟩, .string ⟨#[100]⟩] 9)
  have h2 := heap_alloc_new (w.alloc (.cells #[.string ⟨#[97]⟩, .string ⟨#[98]⟩, .string ⟨#[99]⟩, .string ⟨#[100]⟩] 9)) (.cells #[.string ⟨#[49]⟩, .string ⟨#[50]⟩, .string ⟨#[51]⟩, .string ⟨#[52]⟩] 9)
  rw [show (w.alloc (.cells #[.string ⟨#[97]⟩, .string ⟨#[98]⟩, .string ⟨#[99]⟩, .string ⟨#[100]⟩] 9)).heap.size = w.heap.size + 1 by simp] at h2
  have h1' := ((Fr.refl (fun _ => False) (w.alloc (.cells #[.string ⟨#[97]⟩, .string ⟨#[98]⟩, .string ⟨#[99]⟩, .string ⟨#[100]⟩] 9))).alloc (.cells #[.string ⟨#[49]⟩, .string ⟨#[50]⟩, .string ⟨#[51]⟩, .string ⟨#[52]⟩] 9)).blk h1 (fun f => f)
  refine ⟨strs_blk (l := n4.keys) (by decide) (by decide) h1', strs_blk (l := n4.vals) (by decide) (by decide) h2, ints_nil _, by decide, by decide, by decide, by decide, by decide, by decide⟩
def pk4 (w : World) : Pt := ⟨some ⟨w.heap.size, 0, none⟩, 1, none, 0, some ⟨w.heap.size + 1, 0, none⟩, 2⟩
def WK (w : World) : World := (w.alloc (.cells #[.string ⟨#[109]⟩] 9)).alloc (.cells #[.int .i64 1, .int .i64 2] 3)
theorem WK_nod (w : World) : Nod (WK w) nk4 (pk4 w) := by
  have h1 := heap_alloc_new w (.cells #[.string ⟨#[109]⟩] 9)
  have h2 := heap_alloc_new (w.alloc (.cells #[.string ⟨#[109]⟩] 9)) (.cells #[.int .i64 1, .int .i64 2] 3)
  rw [show (w.alloc (.cells #[.string ⟨#[109]⟩] 9)).heap.size = w.heap.size + 1 by simp] at h2
  have h1' := ((Fr.refl (fun _ => False) (w.alloc (.cells #[.string ⟨#[109]⟩] 9))).alloc (.cells #[.int .i64 1, .int .i64 2] 3)).blk h1 (fun f => f)
  refine ⟨strs_blk (l := nk4.keys) (by decide) (by decide) h1', strs_nil _, ints_blk (l := nk4.kids) (by decide) h2, by decide, by decide, by decide, by decide, by decide, by decide⟩
theorem maxL (k : ByteArray) (h : k.size ≤ 100) : k.size ≤ maxLen := Nat.le_trans h (by decide)
set_option maxRecDepth 100000 in
set_option maxHeartbeats 4000000 in
theorem nspeaks_any (w : World) : Calls Try.prog 24 #[] w fun e w' => e = .returned (.bool true) ∧ Fr (fun _ => False) w w' := by
  have fA : Fr (fun _ => False) w (WA w) := ((Fr.refl _ _).alloc _).alloc _
  have hAs : (WA w).heap.size = w.heap.size + 1 + 1 := by simp [WA]
  have fB : Fr (fun _ => False) (WA w) ((WA w).alloc (.cells #[.int .i64 n4.lev, .int .i64 n4.lsn, .int .i64 n4.rgt, .string n4.high, .slice (p4 w).k n4.keys.length (p4 w).kc, .slice (p4 w).v n4.vals.length (p4 w).vc, .slice (p4 w).i n4.kids.length (p4 w).ic] 25)) := Fr.box _ _
  have nB := (WA_nod w).same fB
  have HB : Hid (∀ W, Fr (fun _ => False) ((WA w).alloc (.cells #[.int .i64 n4.lev, .int .i64 n4.lsn, .int .i64 n4.rgt, .string n4.high, .slice (p4 w).k n4.keys.length (p4 w).kc, .slice (p4 w).v n4.vals.length (p4 w).vc, .slice (p4 w).i n4.kids.length (p4 w).ic] 25)) W → W.cell? ⟨w.heap.size + 1 + 1, 0, none⟩ = some (.int .i64 n4.lev) ∧ W.cell? ⟨w.heap.size + 1 + 1, 1, none⟩ = some (.int .i64 n4.lsn) ∧ W.cell? ⟨w.heap.size + 1 + 1, 2, none⟩ = some (.int .i64 n4.rgt) ∧ W.cell? ⟨w.heap.size + 1 + 1, 3, none⟩ = some (.string n4.high) ∧ W.cell? ⟨w.heap.size + 1 + 1, 4, none⟩ = some (.slice (p4 w).k n4.keys.length (p4 w).kc) ∧ W.cell? ⟨w.heap.size + 1 + 1, 5, none⟩ = some (.slice (p4 w).v n4.vals.length (p4 w).vc) ∧ W.cell? ⟨w.heap.size + 1 + 1, 6, none⟩ = some (.slice (p4 w).i n4.kids.length (p4 w).ic)) := fun W f => by
    have := box_cells (box_at (WA w) n4 (p4 w) 25 f)
    rw [hAs] at this
    exact this
  have HS : Hid (∀ W, Nod W n4 (p4 w) → Calls Try.prog 31 #[(.agg #[.int .i64 n4.lev, .int .i64 n4.lsn, .int .i64 n4.rgt, .string n4.high, .slice (p4 w).k n4.keys.length (p4 w).kc, .slice (p4 w).v n4.vals.length (p4 w).vc, .slice (p4 w).i n4.kids.length (p4 w).ic])] W fun e w' => e = .returned (.tuple #[.string ⟨#[99]⟩, .int .i64 0]) ∧ Fr (fun _ => False) W w') := fun W hW => by
    refine (split_any n4 (p4 w) W hW).mono ?_
    rintro e w' ⟨f, h⟩
    rcases h with ⟨h, _⟩ | ⟨_, _, m, hm, he⟩
    · exact absurd sp_split h
    · obtain rfl := hm.one sp_mid
      rw [sp_key] at he
      exact ⟨he, f⟩
  have HL : Hid (∀ W, Nod W n4 (p4 w) → Calls Try.prog 33 #[(.agg #[.int .i64 n4.lev, .int .i64 n4.lsn, .int .i64 n4.rgt, .string n4.high, .slice (p4 w).k n4.keys.length (p4 w).kc, .slice (p4 w).v n4.vals.length (p4 w).vc, .slice (p4 w).i n4.kids.length (p4 w).ic]), .string ⟨#[99]⟩, .int .i64 9] W fun e w' => NdOut2 nl4 0 W e w') := fun W hW => by
    have := nleft_any n4 (p4 w) ⟨#[99]⟩ 9 (by decide) (maxL _ (by decide)) W hW
    rw [sp_le, okN_ok, sp_l] at this
    exact this
  have HR : Hid (∀ W, Nod W n4 (p4 w) → Calls Try.prog 35 #[(.agg #[.int .i64 n4.lev, .int .i64 n4.lsn, .int .i64 n4.rgt, .string n4.high, .slice (p4 w).k n4.keys.length (p4 w).kc, .slice (p4 w).v n4.vals.length (p4 w).vc, .slice (p4 w).i n4.kids.length (p4 w).ic]), .string ⟨#[99]⟩] W fun e w' => NdOut2 nr4 0 W e w') := fun W hW => by
    have := rest_any n4 (p4 w) ⟨#[99]⟩ (maxL _ (by decide)) W hW
    rw [sp_re, okN_ok, sp_r] at this
    exact this
  have HK : Hid (∀ W p, Nod W nk4 p → Calls Try.prog 20 #[(.agg #[.int .i64 nk4.lev, .int .i64 nk4.lsn, .int .i64 nk4.rgt, .string nk4.high, .slice p.k nk4.keys.length p.kc, .slice p.v nk4.vals.length p.vc, .slice p.i nk4.kids.length p.ic]), .string ⟨#[109]⟩] W fun e w' => e = .returned (.tuple #[.int .i64 2, .int .i64 0]) ∧ Fr (fun _ => False) W w') := fun W p hW => by
    have := kid_any nk4 p ⟨#[109]⟩ (maxL _ (by decide)) W hW
    rw [sp_kid, sp_ask] at this
    exact this
  go_enter Try.func24, Try.ntmps24
  go_wp2_with fail
  refine (HS.out _ nB).mono ?_
  rintro e w1 ⟨rfl, f1⟩
  have n1 := nB.same f1
  obtain ⟨c0, c1, c2, c3, c4, c5, c6⟩ := HB.out _ f1
  simp only [n4, p4, List.length_cons, List.length_nil, Nat.zero_add, Nat.reduceAdd] at c0 c1 c2 c3 c4 c5 c6
  go_wp2_with fail
  refine (HL.out _ n1).mono ?_
  rintro e w2 ⟨pl, rfl, nd2, f2⟩
  clear c0 c1 c2 c3 c4 c5 c6
  have fl := Fr.box w2 (.cells #[.int .i64 nl4.lev, .int .i64 nl4.lsn, .int .i64 nl4.rgt, .string nl4.high, .slice pl.k nl4.keys.length pl.kc, .slice pl.v nl4.vals.length pl.vc, .slice pl.i nl4.kids.length pl.ic] 25)
  have HBL : Hid (∀ W, Fr (fun _ => False) (w2.alloc (.cells #[.int .i64 nl4.lev, .int .i64 nl4.lsn, .int .i64 nl4.rgt, .string nl4.high, .slice pl.k nl4.keys.length pl.kc, .slice pl.v nl4.vals.length pl.vc, .slice pl.i nl4.kids.length pl.ic] 25)) W → W.cell? ⟨w2.heap.size, 0, none⟩ = some (.int .i64 nl4.lev) ∧ W.cell? ⟨w2.heap.size, 1, none⟩ = some (.int .i64 nl4.lsn) ∧ W.cell? ⟨w2.heap.size, 2, none⟩ = some (.int .i64 nl4.rgt) ∧ W.cell? ⟨w2.heap.size, 3, none⟩ = some (.string nl4.high) ∧ W.cell? ⟨w2.heap.size, 4, none⟩ = some (.slice pl.k nl4.keys.length pl.kc) ∧ W.cell? ⟨w2.heap.size, 5, none⟩ = some (.slice pl.v nl4.vals.length pl.vc) ∧ W.cell? ⟨w2.heap.size, 6, none⟩ = some (.slice pl.i nl4.kids.length pl.ic)) := fun W f => box_cells (box_at w2 nl4 pl 25 f)
  have n3 := n1.same (f2.seq' fl)
  obtain ⟨c0, c1, c2, c3, c4, c5, c6⟩ := HB.out _ ((f1.seq' f2).seq' fl)
  simp only [n4, p4, List.length_cons, List.length_nil, Nat.zero_add, Nat.reduceAdd] at c0 c1 c2 c3 c4 c5 c6
  go_wp2_with fail
  refine (HR.out _ n3).mono ?_
  rintro e w4 ⟨pr, rfl, nd4, f4⟩
  clear c0 c1 c2 c3 c4 c5 c6
  have fr := Fr.box w4 (.cells #[.int .i64 nr4.lev, .int .i64 nr4.lsn, .int .i64 nr4.rgt, .string nr4.high, .slice pr.k nr4.keys.length pr.kc, .slice pr.v nr4.vals.length pr.vc, .slice pr.i nr4.kids.length pr.ic] 25)
  have HBR : Hid (∀ W, Fr (fun _ => False) (w4.alloc (.cells #[.int .i64 nr4.lev, .int .i64 nr4.lsn, .int .i64 nr4.rgt, .string nr4.high, .slice pr.k nr4.keys.length pr.kc, .slice pr.v nr4.vals.length pr.vc, .slice pr.i nr4.kids.length pr.ic] 25)) W → W.cell? ⟨w4.heap.size, 0, none⟩ = some (.int .i64 nr4.lev) ∧ W.cell? ⟨w4.heap.size, 1, none⟩ = some (.int .i64 nr4.lsn) ∧ W.cell? ⟨w4.heap.size, 2, none⟩ = some (.int .i64 nr4.rgt) ∧ W.cell? ⟨w4.heap.size, 3, none⟩ = some (.string nr4.high) ∧ W.cell? ⟨w4.heap.size, 4, none⟩ = some (.slice pr.k nr4.keys.length pr.kc) ∧ W.cell? ⟨w4.heap.size, 5, none⟩ = some (.slice pr.v nr4.vals.length pr.vc) ∧ W.cell? ⟨w4.heap.size, 6, none⟩ = some (.slice pr.i nr4.kids.length pr.ic)) := fun W f => box_cells (box_at w4 nr4 pr 25 f)
  have F5 := ((((fA.seq' fB).seq' f1).seq' f2).seq' fl).seq' (f4.seq' fr)
  have nK := WK_nod (w4.alloc (.cells #[.int .i64 nr4.lev, .int .i64 nr4.lsn, .int .i64 nr4.rgt, .string nr4.high, .slice pr.k nr4.keys.length pr.kc, .slice pr.v nr4.vals.length pr.vc, .slice pr.i nr4.kids.length pr.ic] 25))
  have fK : Fr (fun _ => False) (w4.alloc (.cells #[.int .i64 nr4.lev, .int .i64 nr4.lsn, .int .i64 nr4.rgt, .string nr4.high, .slice pr.k nr4.keys.length pr.kc, .slice pr.v nr4.vals.length pr.vc, .slice pr.i nr4.kids.length pr.ic] 25)) (WK (w4.alloc (.cells #[.int .i64 nr4.lev, .int .i64 nr4.lsn, .int .i64 nr4.rgt, .string nr4.high, .slice pr.k nr4.keys.length pr.kc, .slice pr.v nr4.vals.length pr.vc, .slice pr.i nr4.kids.length pr.ic] 25))) := ((Fr.refl _ _).alloc _).alloc _
  have hk := HK.out _ _ nK
  rw [show (pk4 (w4.alloc (.cells #[.int .i64 nr4.lev, .int .i64 nr4.lsn, .int .i64 nr4.rgt, .string nr4.high, .slice pr.k nr4.keys.length pr.kc, .slice pr.v nr4.vals.length pr.vc, .slice pr.i nr4.kids.length pr.ic] 25))) = ⟨some ⟨w4.heap.size + 1, 0, none⟩, 1, none, 0, some ⟨w4.heap.size + 1 + 1, 0, none⟩, 2⟩ by simp [pk4]] at hk
  go_wp2_with fail
  refine hk.mono ?_
  rintro e w6 ⟨rfl, f6⟩
  have frR := fK.seq' f6
  have frL := (f4.seq' fr).seq' frR
  obtain ⟨_, _, d2, d3, d4, _, _⟩ := HBL.out _ frL
  obtain ⟨_, _, _, _, e4, e5, _⟩ := HBR.out _ frR
  have ndr := nd4.same (fr.seq' frR)
  obtain ⟨bv, ov, ev, hbv, hcv⟩ := strs_some ndr.vals (k := 0) (by decide)
  have hc0 := hcv 0 (by decide)
  rw [ev] at e5
  rw [Nat.add_zero] at hc0
  simp only [nl4, nr4, List.length_cons, List.length_nil, Nat.zero_add, Nat.reduceAdd, List.getD_cons_zero] at d2 d3 d4 e4 e5 hc0
  clear hcv hk
  go_wp2
  go_ret
  exact ⟨rfl, F5.seq' frR⟩
end Go.Proofs.Ytaaedmacefiinaa

/- A node that came in. -/
namespace Go.Proofs.Ytaaedmacefiinaa
open Go.ChangeShapes Go.WideShapes Go.ChangeAt Go.RowKit

theorem cellsI : Try.prog.cellsOf 3 = 1 := by kernel_rfl
theorem cellsS : Try.prog.cellsOf 9 = 1 := by kernel_rfl
theorem cellsSs : Try.prog.cellsOf 22 = 1 := by kernel_rfl
theorem cellsIs : Try.prog.cellsOf 23 = 1 := by kernel_rfl
theorem cellsN : Try.prog.cellsOf 25 = 7 := by kernel_rfl
theorem bytesS : Try.prog.bytesOf 9 = 16 := by kernel_rfl
theorem bytesI : Try.prog.bytesOf 3 = 8 := by kernel_rfl

section
variable {H : Type} {enc : TypeId × Value → H} {w : World} {base : Nat} {spare : Nat → Bool} {held : Bool}

theorem strs_part {fuel : Nat} {c : Value} {x : DataW H × List MemPlace} (h : DataW.trod enc Try.prog w base spare held fuel 22 [c] = some x) (hz : ∀ z ∈ x.1.weights Try.prog 22, z ≤ reachBytes) :
    ∃ (a : Option Addr) (cap : Nat) (l : List ByteArray), c = .slice a l.length cap ∧ Strs w a cap l ∧ (∀ s ∈ l, s.size ≤ 140737488351232) ∧ l.length ≤ 140737488351232 := by
  rcases open_strings Try.underlying22 Try.underlying9 cellsS h with ⟨hcs, _⟩ | ⟨y, len, cap, ss, hcs, _, hl, hm, hzz, hx, hcell, hsz⟩
  · simp only [List.cons.injEq, and_true] at hcs
    subst hcs
    exact ⟨none, 0, [], rfl, ⟨by simp, by omega, (fun s hs => by cases hs), .inl rfl⟩, (fun s hs => by cases hs), by simp⟩
  · simp only [List.cons.injEq, and_true] at hcs
    subst hcs
    have hlen : len ≤ ss.length := by rw [hzz]; split <;> omega
    have hll : (ss.take len).length = len := by simp; omega
    have hx1 : x.1 = .slice (strs (ss.take len)) (strs (ss.drop len)) := by rw [hx]
    rw [hx1] at hz
    have w1 := hz (((strs (H := H) (ss.take len)).length + (strs (H := H) (ss.drop len)).length) * Try.prog.bytesOf 9) (by simp [DataW.weights, Try.underlying22])
    have wl : len ≤ 140737488351232 := by
      rw [bytesS] at w1
      simp only [strs, List.length_map, List.length_take, List.length_drop, reachBytes] at w1
      omega
    have ws : ∀ s ∈ ss.take len, s.size ≤ 140737488351232 := fun s hs => by
      have : s.data.toList.length ∈ DataW.weights Try.prog 22 (.slice (strs (H := H) (ss.take len)) (strs (ss.drop len))) := by
        simp only [DataW.weights, Try.underlying22, List.mem_cons, List.mem_append]
        refine .inr (.inl ?_)
        have key : ∀ l : List ByteArray, s ∈ l → s.data.toList.length ∈ DataW.weightsAll Try.prog 9 (strs (H := H) l) := by
          intro l
          induction l with
          | nil => intro h; cases h
          | cons b r ih =>
            intro h
            simp only [strs, List.map_cons, DataW.weightsAll, List.mem_append]
            rcases List.mem_cons.1 h with rfl | h
            · left; simp [DataW.weights]
            · right; exact ih h
        exact key _ hs
      have := hz _ this
      rw [← Lib.size_eq] at this
      simpa [reachBytes] using this
    refine ⟨some y, cap, ss.take len, by rw [hll], ⟨by omega, by unfold maxLen at hm; omega, fun s hs => hsz s (List.mem_of_mem_take hs), ?_⟩, ws, by omega⟩
    by_cases h0 : len = 0
    · exact .inl (by simp [h0])
    · obtain ⟨b, off, spot⟩ := y
      have hc0 := hcell 0 (by omega)
      have hspot : spot = none := by simpa [Addr.add] using World.cell?_spot hc0
      subst hspot
      refine .inr ⟨b, off, rfl, World.block_lt_of_cell? w ⟨b, off + 0, none⟩ (by rw [Addr.add_lit] at hc0; exact hc0), fun i hi => ?_⟩
      rw [hll] at hi
      have h1 := hcell i (by omega)
      rw [Addr.add_lit] at h1
      rw [h1, List.getD_eq_getElem?_getD, List.getD_eq_getElem?_getD, List.getElem?_take, if_pos hi]
theorem ints_part {fuel : Nat} {c : Value} {x : DataW H × List MemPlace} (h : DataW.trod enc Try.prog w base spare held fuel 23 [c] = some x) (hz : ∀ z ∈ x.1.weights Try.prog 23, z ≤ reachBytes) :
    ∃ (a : Option Addr) (cap : Nat) (l : List Int), c = .slice a l.length cap ∧ Ints w a cap l ∧ l.length ≤ 140737488351232 := by
  rcases open_ints Try.underlying23 Try.underlying3 cellsI h with ⟨hcs, _⟩ | ⟨y, len, cap, ss, hcs, _, hl, hm, hzz, hx, hcell, _⟩
  · simp only [List.cons.injEq, and_true] at hcs
    subst hcs
    exact ⟨none, 0, [], rfl, ⟨by simp, by omega, .inl rfl⟩, by simp⟩
  · simp only [List.cons.injEq, and_true] at hcs
    subst hcs
    have hlen : len ≤ ss.length := by rw [hzz]; split <;> omega
    have hll : (ss.take len).length = len := by simp; omega
    have hx1 : x.1 = .slice (lits .i64 (ss.take len)) (lits .i64 (ss.drop len)) := by rw [hx]
    rw [hx1] at hz
    have w1 := hz (((lits (H := H) .i64 (ss.take len)).length + (lits (H := H) .i64 (ss.drop len)).length) * Try.prog.bytesOf 3) (by simp [DataW.weights, Try.underlying23])
    have wl : len ≤ 140737488351232 := by
      rw [bytesI] at w1
      simp only [lits, List.length_map, List.length_take, List.length_drop, reachBytes] at w1
      omega
    refine ⟨some y, cap, ss.take len, by rw [hll], ⟨by omega, by unfold maxLen at hm; omega, ?_⟩, by omega⟩
    by_cases h0 : len = 0
    · exact .inl (by simp [h0])
    · obtain ⟨b, off, spot⟩ := y
      have hc0 := hcell 0 (by omega)
      have hspot : spot = none := by simpa [Addr.add] using World.cell?_spot hc0
      subst hspot
      refine .inr ⟨b, off, rfl, World.block_lt_of_cell? w ⟨b, off + 0, none⟩ (by rw [Addr.add_lit] at hc0; exact hc0), fun i hi => ?_⟩
      rw [hll] at hi
      have h1 := hcell i (by omega)
      rw [Addr.add_lit] at h1
      rw [h1, List.getD_eq_getElem?_getD, List.getD_eq_getElem?_getD, List.getElem?_take, if_pos hi]

theorem array7 {α : Type} {cs : Array α} (h : cs.size = 7) : ∃ c0 c1 c2 c3 c4 c5 c6, cs = #[c0, c1, c2, c3, c4, c5, c6] := by
  obtain ⟨l⟩ := cs
  match l, h with
  | [c0, c1, c2, c3, c4, c5, c6], _ => exact ⟨c0, c1, c2, c3, c4, c5, c6, rfl⟩
set_option maxRecDepth 100000 in
theorem node_open {r : Reach} {b0 : Nat} {v : Value} {d : DataW H} {pl : List MemPlace} (hv : Value.okWide Try.prog w r b0 25 v) (h : DataW.Trod enc Try.prog w base spare held 25 v d pl) (hz : ∀ z ∈ d.weights Try.prog 25, z ≤ reachBytes) :
    ∃ (n : Nd) (p : Pt), v = (.agg #[.int .i64 n.lev, .int .i64 n.lsn, .int .i64 n.rgt, .string n.high, .slice p.k n.keys.length p.kc, .slice p.v n.vals.length p.vc, .slice p.i n.kids.length p.ic]) ∧ Nod w n p := by
  obtain ⟨cs, rfl, hsz⟩ := okWide_struct Try.underlying25 hv
  obtain ⟨c0, c1, c2, c3, c4, c5, c6, rfl⟩ := array7 (hsz.trans cellsN)
  obtain ⟨fuel, hf⟩ := h
  obtain ⟨xs, m, _, hx, hl, hlen, hfs⟩ := DataW.trod_struct Try.underlying25 hf
  match xs, hlen with
  | [y0, y1, y2, y3, y4, y5, y6], _ =>
    have t0 := hfs 0 _ rfl
    have t1 := hfs 1 _ rfl
    have t2 := hfs 2 _ rfl
    have t3 := hfs 3 _ rfl
    have t4 := hfs 4 _ rfl
    have t5 := hfs 5 _ rfl
    have t6 := hfs 6 _ rfl
    simp [Value.cells, cellsI, cellsS, cellsSs, cellsIs] at t0 t1 t2 t3 t4 t5 t6
    have hd : d = .agg [y0.1, y1.1, y2.1, y3.1, y4.1, y5.1, y6.1] := by simpa using congrArg Prod.fst hx
    rw [hd] at hz
    simp only [DataW.weights, Try.underlying25] at hz
    have z3 : ∀ z ∈ y3.1.weights Try.prog 9, z ≤ reachBytes := fun z h => hz z (DataW.weights_mem_each (j := 3) rfl rfl z h)
    have z4 : ∀ z ∈ y4.1.weights Try.prog 22, z ≤ reachBytes := fun z h => hz z (DataW.weights_mem_each (j := 4) rfl rfl z h)
    have z5 : ∀ z ∈ y5.1.weights Try.prog 22, z ≤ reachBytes := fun z h => hz z (DataW.weights_mem_each (j := 5) rfl rfl z h)
    have z6 : ∀ z ∈ y6.1.weights Try.prog 23, z ≤ reachBytes := fun z h => hz z (DataW.weights_mem_each (j := 6) rfl rfl z h)
    obtain ⟨b0, e0, _, _⟩ := DataW.trod_int Try.underlying3 t0
    obtain ⟨b1, e1, _, _⟩ := DataW.trod_int Try.underlying3 t1
    obtain ⟨b2, e2, _, _⟩ := DataW.trod_int Try.underlying3 t2
    obtain ⟨b3, e3, e3', _⟩ := DataW.trod_string Try.underlying9 t3
    simp only [List.cons.injEq, and_true] at e0 e1 e2 e3
    subst e0 e1 e2 e3
    rw [e3'] at z3
    have w3 := z3 b3.data.toList.length (by simp [DataW.weights])
    rw [← Lib.size_eq] at w3
    obtain ⟨ak, ck, lk, rfl, s4, s4s, s4l⟩ := strs_part t4 z4
    obtain ⟨av, cv, lv, rfl, s5, s5s, s5l⟩ := strs_part t5 z5
    obtain ⟨ai, ci, li, rfl, s6, s6l⟩ := ints_part t6 z6
    exact ⟨⟨b0, b1, b2, b3, lk, lv, li⟩, ⟨ak, ck, av, cv, ai, ci⟩, rfl, s4, s5, s6, by simpa [reachBytes] using w3, s4s, s5s, s4l, s5l, s6l⟩
end
end Go.Proofs.Ytaaedmacefiinaa
