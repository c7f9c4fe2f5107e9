
/- latticelaw07.speaks answers true. -/
import Derived.Test.YtaaedmacefiinaaNdPart3
namespace Go.Proofs.Ytaaedmacefiinaa
open Go.RowKit

def n4 : Nd := ⟨0, 0, 0, ⟨#[]⟩, [⟨#[97]⟩, ⟨#[98]⟩, ⟨#[99]⟩, ⟨#[100]⟩], [⟨#[49]⟩, ⟨#[50]⟩, ⟨#[51]⟩, ⟨#[52]⟩], []⟩
def nl4 : Nd := ⟨0, 0, 9, ⟨#[99]⟩, [⟨#[97]⟩, ⟨#[98]⟩], [⟨#[49]⟩, ⟨#[50]⟩], []⟩
def nr4 : Nd := ⟨0, 0, 0, ⟨#[]⟩, [⟨#[99]⟩, ⟨#[100]⟩], [⟨#[51]⟩, ⟨#[52]⟩], []⟩
def nk4 : Nd := ⟨1, 0, 0, ⟨#[]⟩, [⟨#[109]⟩], [], [1, 2]⟩
theorem nd_ext4 {a b : Nd} (h1 : a.lev = b.lev) (h2 : a.lsn = b.lsn) (h3 : a.rgt = b.rgt) (h4 : a.high = b.high) (h5 : a.keys = b.keys) (h6 : a.vals = b.vals) (h7 : a.kids = b.kids) : a = b := by
  cases a; cases b; simp only at h1 h2 h3 h4 h5 h6 h7; subst h1 h2 h3 h4 h5 h6 h7; rfl
theorem sp_split : splE n4 = 0 := by decide +kernel
theorem sp_mid : Mid n4 2 := ⟨by decide, by decide, .inr (by decide +kernel), fun i h1 h2 => by
  have : i = 1 := by omega
  subst this
  decide +kernel⟩
theorem sp_key : splS n4 2 = ⟨#[99]⟩ := by decide +kernel
theorem sp_le : lrE n4 ⟨#[99]⟩ (nuE 9) = 0 := by decide +kernel
theorem sp_re : lrE n4 ⟨#[99]⟩ 0 = 0 := by decide +kernel
theorem sp_l : leftN n4 ⟨#[99]⟩ 9 = nl4 := nd_ext4 (by decide +kernel) (by decide +kernel) (by decide +kernel) (by decide +kernel) (by decide +kernel) (by decide +kernel) (by decide +kernel)
theorem sp_r : restN n4 ⟨#[99]⟩ = nr4 := nd_ext4 (by decide +kernel) (by decide +kernel) (by decide +kernel) (by decide +kernel) (by decide +kernel) (by decide +kernel) (by decide +kernel)
theorem sp_ask : askE nk4 ⟨#[109]⟩ 0 0 2 = 0 := by decide +kernel
theorem sp_kid : kidV nk4 ⟨#[109]⟩ = 2 := by decide +kernel
theorem strs_blk {W : World} {b : Nat} {t : TypeId} {l : List ByteArray} (hl : l.length ≤ 100) (hs : ∀ s ∈ l, s.size ≤ 100) (h : W.heap[b]? = some (.cells (l.map Value.string).toArray t (0, 0))) : Strs W (some ⟨b, 0, none⟩) l.length l :=
  ⟨Nat.le_refl _, by omega, fun s h1 => Nat.le_trans (hs s h1) (by decide), .inr ⟨b, 0, rfl, lt_of_block h, fun i hi => by
    rw [cell_of_row W b (0 + i) _ _ _ h, Nat.zero_add, List.getElem?_toArray, List.getElem?_map, List.getD_eq_getElem?_getD, List.getElem?_eq_getElem hi]; rfl⟩⟩
theorem ints_blk {W : World} {b : Nat} {t : TypeId} {l : List Int} (hl : l.length ≤ 100) (h : W.heap[b]? = some (.cells (l.map (Value.int .i64)).toArray t (0, 0))) : Ints W (some ⟨b, 0, none⟩) l.length l :=
  ⟨Nat.le_refl _, by omega, .inr ⟨b, 0, rfl, lt_of_block h, fun i hi => by
    rw [cell_of_row W b (0 + i) _ _ _ h, Nat.zero_add, List.getElem?_toArray, List.getElem?_map, List.getD_eq_getElem?_getD, List.getElem?_eq_getElem hi]; rfl⟩⟩
def p4 (w : World) : Pt := ⟨some ⟨w.heap.size, 0, none⟩, 4, some ⟨w.heap.size + 1, 0, none⟩, 4, none, 0⟩
def WA (w : World) : World := (w.alloc (.cells #[.string ⟨#[97]⟩, .string ⟨#[98]⟩, .string ⟨#[99]⟩, .string ⟨#[100]⟩] 9)).alloc (.cells #[.string ⟨#[49]⟩, .string ⟨#[50]⟩, .string ⟨#[51]⟩, .string ⟨#[52]⟩] 9)
theorem WA_nod (w : World) : Nod (WA w) n4 (p4 w) := by
  have h1 := heap_alloc_new w (.cells #[.string ⟨#[97]⟩, .string ⟨#[98]⟩, .string ⟨#[99]⟩, .string ⟨#[100]⟩] 9)
  have h2 := heap_alloc_new (w.alloc (.cells #[.string ⟨#[97]⟩, .string ⟨#[98]⟩, .string ⟨#[99]⟩, .string ⟨#[100]⟩] 9)) (.cells #[.string ⟨#[49]⟩, .string ⟨#[50]⟩, .string ⟨#[51]⟩, .string ⟨#[52]⟩] 9)
  rw [show (w.alloc (.cells #[.string ⟨#[97]⟩, .string ⟨#[98]⟩, .string ⟨#[99]⟩, .string ⟨#[100]⟩] 9)).heap.size = w.heap.size + 1 by simp] at h2
  have h1' := ((Fr.refl (fun _ => False) (w.alloc (.cells #[.string ⟨#[97]⟩, .string ⟨#[98]⟩, .string ⟨#[99]⟩, .string ⟨#[100]⟩] 9))).alloc (.cells #[.string ⟨#[49]⟩, .string ⟨#[50]⟩, .string ⟨#[51]⟩, .string ⟨#[52]⟩] 9)).blk h1 (fun f => f)
  refine ⟨strs_blk (l := n4.keys) (by decide) (by decide) h1', strs_blk (l := n4.vals) (by decide) (by decide) h2, ints_nil _, by decide, by decide, by decide, by decide, by decide, by decide⟩
def pk4 (w : World) : Pt := ⟨some ⟨w.heap.size, 0, none⟩, 1, none, 0, some ⟨w.heap.size + 1, 0, none⟩, 2⟩
def WK (w : World) : World := (w.alloc (.cells #[.string ⟨#[109]⟩] 9)).alloc (.cells #[.int .i64 1, .int .i64 2] 3)
theorem WK_nod (w : World) : Nod (WK w) nk4 (pk4 w) := by
  have h1 := heap_alloc_new w (.cells #[.string ⟨#[109]⟩] 9)
  have h2 := heap_alloc_new (w.alloc (.cells #[.string ⟨#[109]⟩] 9)) (.cells #[.int .i64 1, .int .i64 2] 3)
  rw [show (w.alloc (.cells #[.string ⟨#[109]⟩] 9)).heap.size = w.heap.size + 1 by simp] at h2
  have h1' := ((Fr.refl (fun _ => False) (w.alloc (.cells #[.string ⟨#[109]⟩] 9))).alloc (.cells #[.int .i64 1, .int .i64 2] 3)).blk h1 (fun f => f)
  refine ⟨strs_blk (l := nk4.keys) (by decide) (by decide) h1', strs_nil _, ints_blk (l := nk4.kids) (by decide) h2, by decide, by decide, by decide, by decide, by decide, by decide⟩
theorem maxL (k : ByteArray) (h : k.size ≤ 100) : k.size ≤ maxLen := Nat.le_trans h (by decide)
set_option maxRecDepth 100000 in
set_option maxHeartbeats 4000000 in
theorem nspeaks_any (w : World) : Calls Try.prog 24 #[] w fun e w' => e = .returned (.bool true) ∧ Fr (fun _ => False) w w' := by
  have fA : Fr (fun _ => False) w (WA w) := ((Fr.refl _ _).alloc _).alloc _
  have hAs : (WA w).heap.size = w.heap.size + 1 + 1 := by simp [WA]
  have fB : Fr (fun _ => False) (WA w) ((WA w).alloc (.cells #[.int .i64 n4.lev, .int .i64 n4.lsn, .int .i64 n4.rgt, .string n4.high, .slice (p4 w).k n4.keys.length (p4 w).kc, .slice (p4 w).v n4.vals.length (p4 w).vc, .slice (p4 w).i n4.kids.length (p4 w).ic] 25)) := Fr.box _ _
  have nB := (WA_nod w).same fB
  have HB : Hid (∀ W, Fr (fun _ => False) ((WA w).alloc (.cells #[.int .i64 n4.lev, .int .i64 n4.lsn, .int .i64 n4.rgt, .string n4.high, .slice (p4 w).k n4.keys.length (p4 w).kc, .slice (p4 w).v n4.vals.length (p4 w).vc, .slice (p4 w).i n4.kids.length (p4 w).ic] 25)) W → W.cell? ⟨w.heap.size + 1 + 1, 0, none⟩ = some (.int .i64 n4.lev) ∧ W.cell? ⟨w.heap.size + 1 + 1, 1, none⟩ = some (.int .i64 n4.lsn) ∧ W.cell? ⟨w.heap.size + 1 + 1, 2, none⟩ = some (.int .i64 n4.rgt) ∧ W.cell? ⟨w.heap.size + 1 + 1, 3, none⟩ = some (.string n4.high) ∧ W.cell? ⟨w.heap.size + 1 + 1, 4, none⟩ = some (.slice (p4 w).k n4.keys.length (p4 w).kc) ∧ W.cell? ⟨w.heap.size + 1 + 1, 5, none⟩ = some (.slice (p4 w).v n4.vals.length (p4 w).vc) ∧ W.cell? ⟨w.heap.size + 1 + 1, 6, none⟩ = some (.slice (p4 w).i n4.kids.length (p4 w).ic)) := fun W f => by
    have := box_cells (box_at (WA w) n4 (p4 w) 25 f)
    rw [hAs] at this
    exact this
  have HS : Hid (∀ W, Nod W n4 (p4 w) → Calls Try.prog 31 #[(.agg #[.int .i64 n4.lev, .int .i64 n4.lsn, .int .i64 n4.rgt, .string n4.high, .slice (p4 w).k n4.keys.length (p4 w).kc, .slice (p4 w).v n4.vals.length (p4 w).vc, .slice (p4 w).i n4.kids.length (p4 w).ic])] W fun e w' => e = .returned (.tuple #[.string ⟨#[99]⟩, .int .i64 0]) ∧ Fr (fun _ => False) W w') := fun W hW => by
    refine (split_any n4 (p4 w) W hW).mono ?_
    rintro e w' ⟨f, h⟩
    rcases h with ⟨h, _⟩ | ⟨_, _, m, hm, he⟩
    · exact absurd sp_split h
    · obtain rfl := hm.one sp_mid
      rw [sp_key] at he
      exact ⟨he, f⟩
  have HL : Hid (∀ W, Nod W n4 (p4 w) → Calls Try.prog 33 #[(.agg #[.int .i64 n4.lev, .int .i64 n4.lsn, .int .i64 n4.rgt, .string n4.high, .slice (p4 w).k n4.keys.length (p4 w).kc, .slice (p4 w).v n4.vals.length (p4 w).vc, .slice (p4 w).i n4.kids.length (p4 w).ic]), .string ⟨#[99]⟩, .int .i64 9] W fun e w' => NdOut2 nl4 0 W e w') := fun W hW => by
    have := nleft_any n4 (p4 w) ⟨#[99]⟩ 9 (by decide) (maxL _ (by decide)) W hW
    rw [sp_le, okN_ok, sp_l] at this
    exact this
  have HR : Hid (∀ W, Nod W n4 (p4 w) → Calls Try.prog 35 #[(.agg #[.int .i64 n4.lev, .int .i64 n4.lsn, .int .i64 n4.rgt, .string n4.high, .slice (p4 w).k n4.keys.length (p4 w).kc, .slice (p4 w).v n4.vals.length (p4 w).vc, .slice (p4 w).i n4.kids.length (p4 w).ic]), .string ⟨#[99]⟩] W fun e w' => NdOut2 nr4 0 W e w') := fun W hW => by
    have := rest_any n4 (p4 w) ⟨#[99]⟩ (maxL _ (by decide)) W hW
    rw [sp_re, okN_ok, sp_r] at this
    exact this
  have HK : Hid (∀ W p, Nod W nk4 p → Calls Try.prog 20 #[(.agg #[.int .i64 nk4.lev, .int .i64 nk4.lsn, .int .i64 nk4.rgt, .string nk4.high, .slice p.k nk4.keys.length p.kc, .slice p.v nk4.vals.length p.vc, .slice p.i nk4.kids.length p.ic]), .string ⟨#[109]⟩] W fun e w' => e = .returned (.tuple #[.int .i64 2, .int .i64 0]) ∧ Fr (fun _ => False) W w') := fun W p hW => by
    have := kid_any nk4 p ⟨#[109]⟩ (maxL _ (by decide)) W hW
    rw [sp_kid, sp_ask] at this
    exact this
  go_enter Try.func24, Try.ntmps24
  go_wp2_with fail
  refine (HS.out _ nB).mono ?_
  rintro e w1 ⟨rfl, f1⟩
  have n1 := nB.same f1
  obtain ⟨c0, c1, c2, c3, c4, c5, c6⟩ := HB.out _ f1
  simp only [n4, p4, List.length_cons, List.length_nil, Nat.zero_add, Nat.reduceAdd] at c0 c1 c2 c3 c4 c5 c6
  go_wp2_with fail
  refine (HL.out _ n1).mono ?_
  rintro e w2 ⟨pl, rfl, nd2, f2⟩
  clear c0 c1 c2 c3 c4 c5 c6
  have fl := Fr.box w2 (.cells #[.int .i64 nl4.lev, .int .i64 nl4.lsn, .int .i64 nl4.rgt, .string nl4.high, .slice pl.k nl4.keys.length pl.kc, .slice pl.v nl4.vals.length pl.vc, .slice pl.i nl4.kids.length pl.ic] 25)
  have HBL : Hid (∀ W, Fr (fun _ => False) (w2.alloc (.cells #[.int .i64 nl4.lev, .int .i64 nl4.lsn, .int .i64 nl4.rgt, .string nl4.high, .slice pl.k nl4.keys.length pl.kc, .slice pl.v nl4.vals.length pl.vc, .slice pl.i nl4.kids.length pl.ic] 25)) W → W.cell? ⟨w2.heap.size, 0, none⟩ = some (.int .i64 nl4.lev) ∧ W.cell? ⟨w2.heap.size, 1, none⟩ = some (.int .i64 nl4.lsn) ∧ W.cell? ⟨w2.heap.size, 2, none⟩ = some (.int .i64 nl4.rgt) ∧ W.cell? ⟨w2.heap.size, 3, none⟩ = some (.string nl4.high) ∧ W.cell? ⟨w2.heap.size, 4, none⟩ = some (.slice pl.k nl4.keys.length pl.kc) ∧ W.cell? ⟨w2.heap.size, 5, none⟩ = some (.slice pl.v nl4.vals.length pl.vc) ∧ W.cell? ⟨w2.heap.size, 6, none⟩ = some (.slice pl.i nl4.kids.length pl.ic)) := fun W f => box_cells (box_at w2 nl4 pl 25 f)
  have n3 := n1.same (f2.seq' fl)
  obtain ⟨c0, c1, c2, c3, c4, c5, c6⟩ := HB.out _ ((f1.seq' f2).seq' fl)
  simp only [n4, p4, List.length_cons, List.length_nil, Nat.zero_add, Nat.reduceAdd] at c0 c1 c2 c3 c4 c5 c6
  go_wp2_with fail
  refine (HR.out _ n3).mono ?_
  rintro e w4 ⟨pr, rfl, nd4, f4⟩
  clear c0 c1 c2 c3 c4 c5 c6
  have fr := Fr.box w4 (.cells #[.int .i64 nr4.lev, .int .i64 nr4.lsn, .int .i64 nr4.rgt, .string nr4.high, .slice pr.k nr4.keys.length pr.kc, .slice pr.v nr4.vals.length pr.vc, .slice pr.i nr4.kids.length pr.ic] 25)
  have HBR : Hid (∀ W, Fr (fun _ => False) (w4.alloc (.cells #[.int .i64 nr4.lev, .int .i64 nr4.lsn, .int .i64 nr4.rgt, .string nr4.high, .slice pr.k nr4.keys.length pr.kc, .slice pr.v nr4.vals.length pr.vc, .slice pr.i nr4.kids.length pr.ic] 25)) W → W.cell? ⟨w4.heap.size, 0, none⟩ = some (.int .i64 nr4.lev) ∧ W.cell? ⟨w4.heap.size, 1, none⟩ = some (.int .i64 nr4.lsn) ∧ W.cell? ⟨w4.heap.size, 2, none⟩ = some (.int .i64 nr4.rgt) ∧ W.cell? ⟨w4.heap.size, 3, none⟩ = some (.string nr4.high) ∧ W.cell? ⟨w4.heap.size, 4, none⟩ = some (.slice pr.k nr4.keys.length pr.kc) ∧ W.cell? ⟨w4.heap.size, 5, none⟩ = some (.slice pr.v nr4.vals.length pr.vc) ∧ W.cell? ⟨w4.heap.size, 6, none⟩ = some (.slice pr.i nr4.kids.length pr.ic)) := fun W f => box_cells (box_at w4 nr4 pr 25 f)
  have F5 := ((((fA.seq' fB).seq' f1).seq' f2).seq' fl).seq' (f4.seq' fr)
  have nK := WK_nod (w4.alloc (.cells #[.int .i64 nr4.lev, .int .i64 nr4.lsn, .int .i64 nr4.rgt, .string nr4.high, .slice pr.k nr4.keys.length pr.kc, .slice pr.v nr4.vals.length pr.vc, .slice pr.i nr4.kids.length pr.ic] 25))
  have fK : Fr (fun _ => False) (w4.alloc (.cells #[.int .i64 nr4.lev, .int .i64 nr4.lsn, .int .i64 nr4.rgt, .string nr4.high, .slice pr.k nr4.keys.length pr.kc, .slice pr.v nr4.vals.length pr.vc, .slice pr.i nr4.kids.length pr.ic] 25)) (WK (w4.alloc (.cells #[.int .i64 nr4.lev, .int .i64 nr4.lsn, .int .i64 nr4.rgt, .string nr4.high, .slice pr.k nr4.keys.length pr.kc, .slice pr.v nr4.vals.length pr.vc, .slice pr.i nr4.kids.length pr.ic] 25))) := ((Fr.refl _ _).alloc _).alloc _
  have hk := HK.out _ _ nK
  rw [show (pk4 (w4.alloc (.cells #[.int .i64 nr4.lev, .int .i64 nr4.lsn, .int .i64 nr4.rgt, .string nr4.high, .slice pr.k nr4.keys.length pr.kc, .slice pr.v nr4.vals.length pr.vc, .slice pr.i nr4.kids.length pr.ic] 25))) = ⟨some ⟨w4.heap.size + 1, 0, none⟩, 1, none, 0, some ⟨w4.heap.size + 1 + 1, 0, none⟩, 2⟩ by simp [pk4]] at hk
  go_wp2_with fail
  refine hk.mono ?_
  rintro e w6 ⟨rfl, f6⟩
  have frR := fK.seq' f6
  have frL := (f4.seq' fr).seq' frR
  obtain ⟨_, _, d2, d3, d4, _, _⟩ := HBL.out _ frL
  obtain ⟨_, _, _, _, e4, e5, _⟩ := HBR.out _ frR
  have ndr := nd4.same (fr.seq' frR)
  obtain ⟨bv, ov, ev, hbv, hcv⟩ := strs_some ndr.vals (k := 0) (by decide)
  have hc0 := hcv 0 (by decide)
  rw [ev] at e5
  rw [Nat.add_zero] at hc0
  simp only [nl4, nr4, List.length_cons, List.length_nil, Nat.zero_add, Nat.reduceAdd, List.getD_cons_zero] at d2 d3 d4 e4 e5 hc0
  clear hcv hk
  go_wp2
  go_ret
  exact ⟨rfl, F5.seq' frR⟩
end Go.Proofs.Ytaaedmacefiinaa
