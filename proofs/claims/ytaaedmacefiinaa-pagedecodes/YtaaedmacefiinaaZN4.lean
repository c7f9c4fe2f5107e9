
/- Args, Items, RefText, PgEnc, KBet, KAbv, KPlc, NdBase, NdAsk, NdSort. -/
import Derived.Test.YtaaedmacefiinaaZN3
import Derived.Test.YtaaedmacefiinaaRows
import Derived.ProofKit
import Derived.OpenShut
import Derived.ShutString
import Derived.ChangeOld
import Derived.SizedLaws
import Derived.Deep.Strs
import Derived.Lib.BufferWrite
import Derived.Lib.UnsafeStr
import Derived.Laws.MakeOwn
import Derived.Deep.RegionHeld3
/- A slice of bytes that came in, as a row. -/
namespace Go.Proofs.Ytaaedmacefiinaa
open Go.ChangeShapes Go.WideShapes Go.ChangeAt Go.RowKit

theorem row_nil (w : World) (a : Option Addr) : Row w a 0 [] := ⟨Nat.le_refl _, by omega, by simp, (fun x hx => by cases hx), .inl rfl⟩
theorem row_of_ints {w : World} {x : Addr} {len cap : Nat} {zs : List Int} (hl : len ≤ cap) (hcap : cap ≤ 140737488351232) (hz : zs.length = cap)
    (hcell : ∀ i, i < zs.length → w.cell? (x.add i) = some (.int .u8 (zs.getD i 0))) (hwz : ∀ n ∈ zs, (Lit.int .u8 n).wf = true) : ∃ l : List Nat, len = l.length ∧ Row w (some x) cap l := by
  have hr := range_u8 hwz
  refine ⟨(zs.take len).map Int.toNat, by simp; omega, ?_⟩
  refine ⟨by simp; omega, by omega, by simp; omega, ?_, ?_⟩
  · intro y hy
    simp only [List.mem_map] at hy
    obtain ⟨z, hzm, rfl⟩ := hy
    have hz2 := List.mem_of_mem_take hzm
    obtain ⟨i, hi, he⟩ := List.getElem_of_mem hz2
    have := hr i
    rw [List.getElem?_eq_getElem hi, Option.getD_some, he] at this
    omega
  · by_cases h0 : len = 0
    · exact .inl (by simp [h0])
    · obtain ⟨b, off, spot⟩ := x
      have hc := hcell 0 (by omega)
      have hspot : spot = none := by simpa [Addr.add] using World.cell?_spot hc
      subst hspot
      refine .inr ⟨b, off, rfl, World.block_lt_of_cell? w ⟨b, off + 0, none⟩ (by rw [Addr.add_lit] at hc; exact hc), fun i hi => ?_⟩
      simp at hi
      have h1 := hcell i (by omega)
      rw [Addr.add_lit] at h1
      rw [h1]
      have h2 := hr i
      simp only [List.getD_eq_getElem?_getD, List.getElem?_map, List.getElem?_take, if_pos (show i < len by omega)]
      rw [List.getElem?_eq_getElem (show i < zs.length by omega)] at h2 ⊢
      simp only [Option.getD_some, Option.map_some] at h2 ⊢
      rw [Int.toNat_of_nonneg h2.1]
end Go.Proofs.Ytaaedmacefiinaa

/- A slice of items that came in: what lies in memory. -/
namespace Go.Proofs.Ytaaedmacefiinaa
open Go.ChangeShapes Go.WideShapes Go.ChangeAt Go.RowKit Go.Deep

/-- An item: a number, a size, a text. -/
abbrev It : Type := Int × Int × ByteArray
def itD : It := (0, 0, ByteArray.empty)
def itCells (x : It) : List Value := [.int .i64 x.1, .int .i64 x.2.1, .string x.2.2]
def itWf (x : It) : Prop := (-9223372036854775808 ≤ x.1 ∧ x.1 ≤ 9223372036854775807) ∧ (-9223372036854775808 ≤ x.2.1 ∧ x.2.1 ≤ 9223372036854775807)

structure Items (w : World) (a : Option Addr) (cap : Nat) (its : List It) : Prop where
  le : its.length ≤ cap
  max : cap ≤ 9223372036854775807
  wf : ∀ i, i < its.length → itWf (its.getD i itD)
  at_ : its = [] ∨ ∃ b off, a = some ⟨b, off, none⟩ ∧ b < w.heap.size ∧ ∀ i, i < its.length →
    w.cell? ⟨b, off + i * 3, none⟩ = some (.int .i64 (its.getD i itD).1) ∧ w.cell? ⟨b, off + i * 3 + 1, none⟩ = some (.int .i64 (its.getD i itD).2.1) ∧ w.cell? ⟨b, off + i * 3 + 2, none⟩ = some (.string (its.getD i itD).2.2)

theorem Items.same {w w' : World} {a : Option Addr} {cap : Nat} {its : List It} (h : Items w a cap its) (f : Fr (fun _ => False) w w') : Items w' a cap its := by
  refine ⟨h.le, h.max, h.wf, ?_⟩
  rcases h.at_ with h0 | ⟨b, off, rfl, hb, hc⟩
  · exact .inl h0
  · refine .inr ⟨b, off, rfl, Nat.lt_of_lt_of_le hb f.size, fun i hi => ?_⟩
    obtain ⟨h1, h2, h3⟩ := hc i hi
    exact ⟨(f.cell hb (fun x => x)).trans h1, (f.cell hb (fun x => x)).trans h2, (f.cell hb (fun x => x)).trans h3⟩

/-- What an item reads as. -/
def itData {H : Type} (x : It) : DataW H := .agg [.lit (.int .i64 x.1), .lit (.int .i64 x.2.1), .lit (.string x.2.2.data.toList)]

end Go.Proofs.Ytaaedmacefiinaa

/- What the document's own Text makes; what a list of items is written as. -/
namespace Go.Proofs.Ytaaedmacefiinaa
open Go.RowKit

set_option maxRecDepth 100000 in
set_option maxHeartbeats 1000000 in
theorem refText_any (s : ByteArray) (hs : s.size ≤ 65535) (w : World) :
    Calls Try.prog 43 #[.string s] w fun e w' => ∃ v', e = .returned v' ∧ Made w w' v' (le 2 s.size ++ bsOf s) := by
  obtain ⟨i0, hi, hz0, hz1, hz2⟩ := info_parts info8
  have hs' : (s.size : Int) ≤ 65535 := by omega
  go_enter Try.func43, Try.ntmps43
  go_wp2_with fail
  refine (refNum_any s.size 2 (by omega) (by omega) _).mono ?_
  rintro e w1 ⟨v1, rfl, m1⟩
  have hll := le_length 2 s.size
  have z1 := m1.fr.size
  obtain ⟨a1, c1, hv1⟩ := m1.own.slice
  rw [hll] at hv1
  rw [hv1] at m1 ⊢
  have mo := m1.own
  clear hv1
  go_wp2_with (at_builtin; refine wpList_append_str _ rfl _ _ 26 9 rfl i0 Try.underlying26 Try.underlying9 hi hz0 hz1 hz2 w.heap.size (.slice a1 2 c1) (le 2 s.size) rfl mo s rfl (by omega) z1 ?_; intro a2 c2 w2 hown2 hgrow2 hat2)
  go_ret
  exact ⟨_, rfl, hown2, m1.fr.fresh hgrow2 (fun k e => (mo.lt k e).1)⟩

/-- What an item is written as. -/
def outIt (x : It) : List Nat :=
  if x.2.1 = 0 then (if x.2.2.size ≤ 65535 then le 2 x.2.2.size ++ bsOf x.2.2 else []) else (if fitB x.1 x.2.1 = true then le x.2.1.toNat x.1.toNat else [])
def outs (its : List It) : List Nat := its.flatMap outIt
def wt (its : List It) : Nat := (its.map fun (x : It) => x.2.2.size + 4).sum

theorem outIt_len (x : It) : (outIt x).length ≤ 2 * (x.2.2.size + 4) := by
  unfold outIt
  split
  · split
    · simp [le_length, bsOf_length]; omega
    · simp
  · split
    · rename_i h
      have := fitB_sized h
      rw [le_length]; omega
    · simp
theorem outs_len (its : List It) : (outs its).length ≤ 2 * wt its := by
  induction its with
  | nil => simp [outs, wt]
  | cons x l ih =>
    have h1 := outIt_len x
    have e1 : outs (x :: l) = outIt x ++ outs l := rfl
    have e2 : wt (x :: l) = (x.2.2.size + 4) + wt l := by simp [wt]
    rw [e1, e2, List.length_append]; omega
theorem wt_take (its : List It) (k : Nat) : wt (its.take k) ≤ wt its := by
  induction its generalizing k with
  | nil => simp [wt]
  | cons x l ih =>
    cases k with
    | zero => simp [wt]
    | succ k =>
      have e1 : wt ((x :: l).take (k + 1)) = (x.2.2.size + 4) + wt (l.take k) := by simp [wt]
      have e2 : wt (x :: l) = (x.2.2.size + 4) + wt l := by simp [wt]
      have := ih k
      rw [e1, e2]; omega
theorem itake_snoc (l : List It) (k : Nat) (h : k < l.length) : l.take (k + 1) = l.take k ++ [l.getD k itD] := by
  rw [List.take_succ_eq_append_getElem h, List.getD_eq_getElem?_getD, List.getElem?_eq_getElem h]; rfl
theorem outs_succ (its : List It) (k : Nat) (h : k < its.length) : outs (its.take (k + 1)) = outs (its.take k) ++ outIt (its.getD k itD) := by
  rw [itake_snoc its k h]; simp [outs, List.flatMap_append]
theorem outIt_octs (x : It) : octs (outIt x) := by
  unfold outIt
  split
  · split
    · exact octs_app (le_octs _ _) (bsOf_octs _)
    · intro y hy; cases hy
  · split
    · exact le_octs _ _
    · intro y hy; cases hy
theorem outs_octs (its : List It) : octs (outs its) := by
  intro y hy
  simp only [outs, List.mem_flatMap] at hy
  obtain ⟨x, _, hx⟩ := hy
  exact outIt_octs x y hx
/-- What an item's text weighs. -/
theorem wt_part (its : List It) (k : Nat) (h : k < its.length) : wt (its.take k) + ((its.getD k itD).2.2.size + 4) ≤ wt its := by
  have h1 := wt_take its (k + 1)
  rw [itake_snoc its k h] at h1
  simp only [wt, List.map_append, List.map_cons, List.map_nil, List.sum_append, List.sum_cons, List.sum_nil] at h1 ⊢
  omega
end Go.Proofs.Ytaaedmacefiinaa

/- A node's bytes; what page.bytesOf and page.sumOf make. -/
namespace Go.Proofs.Ytaaedmacefiinaa
open Go.RowKit Crcm

def txt (s : ByteArray) : List Nat := le 2 s.size ++ bsOf s
theorem txt_length (s : ByteArray) : (txt s).length = s.size + 2 := by simp [txt, le_length, bsOf_length]; omega
/-- What a node's bytes begin with. -/
def hd (n : Nd) : List Nat := le 1 n.lev.toNat ++ le 8 n.lsn.toNat ++ le 4 n.rgt.toNat ++ le 2 n.keys.length ++ txt n.high ++ (if n.lev = 0 then [] else le 4 (n.kids.getD 0 0).toNat)
/-- An entry's bytes. -/
def en (n : Nd) (i : Nat) : List Nat := txt (n.keys.getD i ByteArray.empty) ++ (if n.lev = 0 then txt (n.vals.getD i ByteArray.empty) else le 4 (n.kids.getD (i + 1) 0).toNat)
def ens (n : Nd) : Nat → List Nat
  | 0 => []
  | k + 1 => ens n k ++ en n k
/-- A node's bytes. -/
def nb (n : Nd) : List Nat := hd n ++ ens n n.keys.length
def pad (l : List Nat) : List Nat := l ++ List.replicate (252 - l.length) 0
/-- A node's page. -/
def pg (n : Nd) : List Nat := pad (nb n) ++ le 4 (crc (pad (nb n)))

theorem tsz_take_le (l : List ByteArray) (k : Nat) : tsz (l.take k) ≤ tsz l := by
  induction l generalizing k with
  | nil => simp [tsz]
  | cons x r ih => cases k with
    | zero => simp [tsz]
    | succ k =>
      have := ih k
      have e1 : tsz ((x :: r).take (k + 1)) = (x.size + 2) + tsz (r.take k) := by simp [tsz]
      have e2 : tsz (x :: r) = (x.size + 2) + tsz r := by simp [tsz]
      omega
theorem hd_length (n : Nd) : (hd n).length = 17 + n.high.size + (if n.lev = 0 then 0 else 4) := by
  unfold hd
  simp only [List.length_append, le_length, txt_length]
  split
  · simp; omega
  · rw [le_length]; omega
theorem ens_leaf (n : Nd) (h : n.lev = 0) (k : Nat) (hk : k ≤ n.keys.length) (hv : k ≤ n.vals.length) : (ens n k).length = tsz (n.keys.take k) + tsz (n.vals.take k) := by
  induction k with
  | zero => simp [ens, tsz]
  | succ k ih =>
    rw [ens, List.length_append, ih (by omega) (by omega), tsz_snoc _ _ (by omega), tsz_snoc _ _ (by omega)]
    simp only [en, if_pos h, List.length_append, txt_length]; omega
theorem ens_inner (n : Nd) (h : ¬ n.lev = 0) (k : Nat) (hk : k ≤ n.keys.length) : (ens n k).length = tsz (n.keys.take k) + 4 * k := by
  induction k with
  | zero => simp [ens, tsz]
  | succ k ih =>
    rw [ens, List.length_append, ih (by omega), tsz_snoc _ _ (by omega)]
    simp only [en, if_neg h, List.length_append, txt_length, le_length]; omega
/-- What a right node is, at hand. -/
structure Rt (n : Nd) : Prop where
  lev0 : 0 ≤ n.lev
  lev1 : n.lev ≤ 20
  lsn0 : 0 ≤ n.lsn
  lsn1 : n.lsn ≤ 1099511627776
  rgt0 : 0 ≤ n.rgt
  rgt1 : n.rgt ≤ 4096
  high : n.high.size ≤ 16
  keys : ∀ i, i < n.keys.length → kok n.high n.keys i
  leaf : n.lev = 0 → n.vals.length = n.keys.length ∧ n.kids.length = 0 ∧ ∀ i, i < n.vals.length → (n.vals.getD i ByteArray.empty).size ≤ 32
  inner : n.lev ≠ 0 → n.kids.length = n.keys.length + 1 ∧ n.vals.length = 0 ∧ ∀ i, i < n.kids.length → 1 ≤ n.kids.getD i 0 ∧ n.kids.getD i 0 ≤ 4096
  size : sizeN n ≤ 256
theorem right_iff (n : Nd) : rightB n = true ↔ Rt n := by
  unfold rightB headB
  simp only [Bool.and_eq_true, decide_eq_true_eq, wthB]
  constructor
  · rintro ⟨⟨a, b, c, d⟩, e, f, g⟩
    refine ⟨a.1, a.2, b.1, b.2, c.1, c.2, d, keysB_of e, ?_, ?_, g⟩
    · intro h; unfold entB at f; rw [if_pos h] at f; simp only [Bool.and_eq_true, beq_iff_eq] at f; exact ⟨f.1, f.2.1, valsB_of f.2.2⟩
    · intro h; unfold entB at f; rw [if_neg h] at f; simp only [Bool.and_eq_true, beq_iff_eq] at f
      exact ⟨f.1, f.2.1, fun i hi => by have := kidsB_of f.2.2 i hi; simpa [wthB] using this⟩
  · rintro ⟨a, b, c, d, e, f, g, hk, hl, hi, hs⟩
    refine ⟨⟨⟨a, b⟩, ⟨c, d⟩, ⟨e, f⟩, g⟩, keysB_yes hk, ?_, hs⟩
    unfold entB
    by_cases h : n.lev = 0
    · rw [if_pos h]; obtain ⟨x, y, z⟩ := hl h; simp [x, y, valsB_yes z]
    · rw [if_neg h]; obtain ⟨x, y, z⟩ := hi h; simp only [Bool.and_eq_true, beq_iff_eq]
      exact ⟨x, y, kidsB_yes (fun i hi => by simpa [wthB] using z i hi)⟩
theorem nb_length {n : Nd} (h : Rt n) : (nb n).length + 4 = sizeN n := by
  unfold nb sizeN
  rw [List.length_append, hd_length]
  by_cases h0 : n.lev = 0
  · obtain ⟨x, y, _⟩ := h.leaf h0
    rw [if_pos h0, if_pos h0, ens_leaf n h0 _ (Nat.le_refl _) (by omega), List.take_length, ← x, List.take_length]; omega
  · obtain ⟨x, y, _⟩ := h.inner h0
    rw [if_neg h0, if_neg h0, ens_inner n h0 _ (Nat.le_refl _), List.take_length]; omega
theorem part_length {n : Nd} (h : Rt n) (k : Nat) (hk : k ≤ n.keys.length) : (hd n ++ ens n k).length ≤ 252 := by
  have hn := nb_length h
  have hs := h.size
  have : (ens n k).length ≤ (ens n n.keys.length).length := by
    by_cases h0 : n.lev = 0
    · obtain ⟨x, y, _⟩ := h.leaf h0
      rw [ens_leaf n h0 _ hk (by omega), ens_leaf n h0 _ (Nat.le_refl _) (by omega), List.take_length, ← x, List.take_length]
      have := tsz_take_le n.keys k; have := tsz_take_le n.vals k; omega
    · rw [ens_inner n h0 _ hk, ens_inner n h0 _ (Nat.le_refl _), List.take_length]
      have := tsz_take_le n.keys k; omega
  unfold nb at hn
  rw [List.length_append] at hn ⊢
  omega
theorem octs_nil : octs [] := fun x hx => by cases hx
theorem le_octs' (k n : Nat) : octs (le k n) := by
  induction k with
  | zero => exact octs_nil
  | succ k ih => exact octs_app ih (fun x hx => by simp at hx; omega)
theorem txt_octs (s : ByteArray) : octs (txt s) := octs_app (le_octs' _ _) (bsOf_octs _)
theorem hd_octs (n : Nd) : octs (hd n) := by
  unfold hd
  refine octs_app (octs_app (octs_app (octs_app (octs_app (le_octs' _ _) (le_octs' _ _)) (le_octs' _ _)) (le_octs' _ _)) (txt_octs _)) ?_
  split
  · exact octs_nil
  · exact le_octs' _ _
theorem ens_octs (n : Nd) (k : Nat) : octs (ens n k) := by
  induction k with
  | zero => exact octs_nil
  | succ k ih =>
    refine octs_app ih (octs_app (txt_octs _) ?_)
    split
    · exact txt_octs _
    · exact le_octs' _ _
theorem nb_octs (n : Nd) : octs (nb n) := octs_app (hd_octs n) (ens_octs n _)
theorem pad_octs {l : List Nat} (h : octs l) : octs (pad l) := octs_app h (fun x hx => by rw [List.mem_replicate] at hx; omega)
theorem pg_octs (n : Nd) : octs (pg n) := octs_app (pad_octs (nb_octs n)) (le_octs' _ _)
theorem pad_length {l : List Nat} (h : l.length ≤ 252) : (pad l).length = 252 := by simp [pad]; omega

/-- A writer that is the first block behind W0, and holds l. -/
def Wst (W0 w : World) (l : List Nat) : Prop := ∃ v, Wr w (W0.heap.size + 1) W0.heap.size v l ∧ Fr (fun _ => False) W0 w
theorem Wst.fr {W0 w : World} {l : List Nat} (h : Wst W0 w l) : Fr (fun _ => False) W0 w := by obtain ⟨v, _, f⟩ := h; exact f
theorem Wst.same {W0 w w' : World} {l : List Nat} (h : Wst W0 w l) (f : Fr (fun _ => False) w w') : Wst W0 w' l := by
  obtain ⟨v, hw, hf⟩ := h
  exact ⟨v, hw.fr f (fun f => f) (fun _ _ f => f), hf.seq' f⟩
theorem new_st (W0 : World) : Calls Try.prog 84 #[] W0 fun e w' => e = .returned (.pointer (some ⟨W0.heap.size, 0, none⟩)) ∧ Wst W0 w' [] := by
  refine (new_any W0).mono ?_
  rintro e w' ⟨rfl, rfl⟩
  exact ⟨rfl, _, Wr.new W0, (Fr.refl _ _).alloc _⟩
theorem wnum_st (W0 w : World) (b : Nat) (hb : W0.heap.size = b) (l : List Nat) (x : Int) (size : Nat) (hfit : fit x size) (hl : l.length ≤ 100000) (h : Wst W0 w l) :
    Calls Try.prog 85 #[.pointer (some ⟨b, 0, none⟩), .int .i64 x, .int .i64 size] w fun e w' => e = .returned (.int .i64 0) ∧ Wst W0 w' (l ++ le size x.toNat) := by
  subst hb
  obtain ⟨v, hw, hf⟩ := h
  obtain ⟨m, rfl⟩ := Int.eq_ofNat_of_zero_le hfit.1
  have hlt := lt_of_block hw.box
  refine (wnum_yes m size hfit _ _ v l w hw (by omega) (by omega)).mono ?_
  rintro e w' ⟨rfl, v', hw', hf', _⟩
  exact ⟨rfl, v', hw', hf.above hf' (fun i hi => hw.ge hi)⟩
theorem wtext_st (W0 w : World) (b : Nat) (hb : W0.heap.size = b) (l : List Nat) (s : ByteArray) (hs : s.size ≤ 65535) (hl : l.length ≤ 100000) (h : Wst W0 w l) :
    Calls Try.prog 86 #[.pointer (some ⟨b, 0, none⟩), .string s] w fun e w' => e = .returned (.int .i64 0) ∧ Wst W0 w' (l ++ txt s) := by
  subst hb
  obtain ⟨v, hw, hf⟩ := h
  have hlt := lt_of_block hw.box
  refine (text_ok s hs _ _ v l w hw (by omega) (by omega)).mono ?_
  rintro e w' ⟨rfl, v', hw', hf', _⟩
  exact ⟨rfl, v', by unfold txt; rw [← List.append_assoc]; exact hw', hf.above hf' (fun i hi => hw.ge hi)⟩
theorem wbytes_st (W0 w : World) (b : Nat) (hb : W0.heap.size = b) (l : List Nat) (ho : octs l) (hl : l.length ≤ 100000) (h : Wst W0 w l) :
    Calls Try.prog 88 #[.pointer (some ⟨b, 0, none⟩)] w fun e w' => ∃ v', e = .returned v' ∧ Made w w' v' l := by
  subst hb
  obtain ⟨v, hw, hf⟩ := h
  exact bytes_any _ _ v l ho (by omega) w hw
end Go.Proofs.Ytaaedmacefiinaa

/- What strings.Clone and key.Between tell, and what the document's own Between tells. -/
namespace Go.Proofs.Ytaaedmacefiinaa
open Go.RowKit

set_option maxRecDepth 100000 in
set_option maxHeartbeats 1000000 in
theorem clone_any (s : ByteArray) (hs : s.size ≤ 140737488351232) (w : World) :
    Calls Try.prog 107 #[.string s] w fun e w' => e = .returned (.string s) ∧ Fr (fun _ => False) w w' := by
  by_cases h0 : s.size = 0
  · have e : s = ⟨#[]⟩ := ByteArray.ext (Array.eq_empty_of_size_eq_zero h0)
    subst e
    go_enter Try.func107, Try.ntmps107
    go_wp2
    go_ret
    exact ⟨rfl, Fr.refl _ _⟩
  · obtain ⟨i0, hi, hz0, hz1, hz2⟩ := info_parts info8
    have hsz : (Try.prog.info? 5).map (·.size) = some 1 := by rw [hi]; simp [hz1]
    have hco : Try.prog.cellsOf 5 = 1 := by simp [Program.cellsOf, hi, hz1]
    obtain ⟨M, hM⟩ : ∃ M, M = madeCells (Value.int .u8 0).cells (((s.size : Nat) : Int).toNat * i0.size) := ⟨_, rfl⟩
    have hMs : M.size = s.size := by rw [hM, size_madeCells, hz1]; simp
    have hmk : ∀ W : World, (Instr.makeSlice 26 (.int .i64 (s.size : Int)) (.int .i64 (s.size : Int))).run Try.prog W = .ok (.slice (some ⟨W.heap.size, 0, none⟩) s.size s.size) (W.alloc (.cells M 5)) := fun W => by
      have h := run_make (P := Try.prog) W 26 5 i0 (.int .u8 0) Try.underlying26 hi hz0 .i64 .i64 (s.size : Int) (s.size : Int) (by omega) (by omega) (by rw [hz2]; omega) (by omega)
      rw [← hM] at h
      simpa using h
    clear hM
    have hcp := Lib.run_copy_row_string (P := Try.prog) (w.alloc (.cells M 5)) 26 9 3 5 w.heap.size 0 s.size s.size s M 5 Try.underlying26 hsz (heap_alloc_new w _) (Nat.le_refl _) (by omega)
    obtain ⟨Y, hY⟩ : ∃ Y, Y = (M.toList.take 0 ++ Lib.byteCells s.data.toList ++ M.toList.drop (0 + s.size)).toArray := ⟨_, rfl⟩
    rw [← hY] at hcp
    have hYl : Y.toList = Lib.byteCells s.data.toList := by
      rw [hY, List.toList_toArray, List.take_zero, List.nil_append, List.drop_of_length_le (by rw [Array.length_toList]; omega), List.append_nil]
    have hYs : Y.size = s.size := by rw [← Array.length_toList, hYl, Lib.byteCells_length, ← Lib.size_eq]
    have hgY : ((w.alloc (.cells M 5)).setRow w.heap.size Y).heap[w.heap.size]? = some (.cells Y 5 (0, 0)) := setRow_heap _ _ M _ 5 (0, 0) (heap_alloc_new w _)
    have hne : s.data.toList ≠ [] := fun e => h0 (by rw [Lib.size_eq, e]; rfl)
    have hUS := Lib.run_unsafeString_row (P := Try.prog) ((w.alloc (.cells M 5)).setRow w.heap.size Y) 152 3 9 5 Try.underlying152 hco w.heap.size Y.size (by unfold World.shape?; rw [hgY]) s.data.toList hne (by rw [← Lib.size_eq]; omega) (by rw [← Lib.size_eq]; omega)
      (fun j x hx => Lib.cells_of_row hgY Y.size j _ (by rw [List.take_of_length_le (by rw [Array.length_toList]; exact Nat.le_refl _), hYl]; simp [Lib.byteCells, hx]))
    rw [← Lib.size_eq] at hUS
    clear hY
    go_enter Try.func107, Try.ntmps107
    go_wp2
    go_ret
    have hb1 : Below w.heap.size w (w.alloc (.cells M 5)) := (Below.refl _ w).alloc (Nat.le_refl _) _
    have hb2 : Below w.heap.size (w.alloc (.cells M 5)) ((w.alloc (.cells M 5)).setRow w.heap.size Y) := ⟨rfl, rfl, rfl, by simp, fun k hk => setRow_other _ _ _ _ (by omega)⟩
    exact ⟨rfl, Fr.of_below (Lib.below_freeze (hb1.trans hb2) (p := ⟨w.heap.size, 0, none⟩) (Nat.le_refl _) _) (fun k hk _ => hk)⟩

set_option maxRecDepth 100000 in
set_option maxHeartbeats 1000000 in
theorem between_no (a b : ByteArray) (ha : a.size ≤ 140737488351232) (hb : b.size ≤ 140737488351232) (hc : 0 ≤ cpl (bsOf a) (bsOf b)) (w : World) :
    Calls Try.prog 73 #[.string a, .string b] w fun e w' => e = .returned (.tuple #[.string ⟨#[]⟩, .int .i64 1]) ∧ Fr (fun _ => False) w w' := by
  go_enter Try.func73, Try.ntmps73
  go_wp2_with fail
  refine (compare_any a b (by unfold maxLen; omega) (by unfold maxLen; omega) w).mono ?_
  rintro e w1 ⟨rfl, hf⟩
  go_wp2
  go_ret2
  exact ⟨rfl, hf⟩
theorem Fr.seq {a b c : World} (h : Fr (fun _ => False) a b) (k : Fr (fun _ => False) b c) : Fr (fun _ => False) a c := h.trans k (fun _ _ f => f)
set_option maxRecDepth 100000 in
set_option maxHeartbeats 1000000 in
theorem between_yes (a b : ByteArray) (ha : a.size ≤ 140737488351232) (hb : b.size ≤ 140737488351232) (hc : cpl (bsOf a) (bsOf b) = -1) (w : World) :
    Calls Try.prog 73 #[.string a, .string b] w fun e w' => e = .returned (.tuple #[.string (b.extract 0 (cmn (bsOf a) (bsOf b) + 1)), .int .i64 0]) ∧ Fr (fun _ => False) w w' := by
  have hl := (cpl_take_gt _ _ hc).2
  rw [bsOf_length] at hl
  have hlt : cpl (bsOf a) (bsOf b) < 0 := by omega
  clear hc
  obtain ⟨n, hn⟩ : ∃ n, n = cmn (bsOf a) (bsOf b) := ⟨_, rfl⟩
  rw [← hn] at hl ⊢
  have HN : Hid (cmn (bsOf a) (bsOf b) = n) := hn.symm
  clear hn
  go_enter Try.func73, Try.ntmps73
  go_wp2_with fail
  refine (compare_any a b (by unfold maxLen; omega) (by unfold maxLen; omega) w).mono ?_
  rintro e w1 ⟨rfl, hf⟩
  go_wp2_with fail
  refine (common_any a b (by unfold maxLen; omega) (by unfold maxLen; omega) w1).mono ?_
  rw [HN.out]
  rintro e w2 ⟨rfl, hf2⟩
  go_wp2_with fail
  refine (clone_any _ (by simp [ByteArray.size_extract]; omega) _).mono ?_
  rintro e w3 ⟨rfl, hf3⟩
  go_wp2
  go_ret2
  exact ⟨rfl, (hf.seq hf2).seq hf3⟩

set_option maxRecDepth 100000 in
set_option maxHeartbeats 1000000 in
theorem rbetween_no (a b : ByteArray) (ha : a.size ≤ 140737488351232) (hb : b.size ≤ 140737488351232) (hc : 0 ≤ cpl (bsOf a) (bsOf b)) (w : World) :
    Calls Try.prog 75 #[.string a, .string b] w fun e w' => e = .returned (.tuple #[.string ⟨#[]⟩, .int .i64 1]) ∧ Fr (fun _ => False) w w' := by
  have HC : Hid (0 ≤ cpl (bsOf a) (bsOf b)) := hc
  clear hc
  go_enter Try.func75, Try.ntmps75
  go_wp2
  go_loopw [6] (fun i wr => ∃ k : Nat, k ≤ b.size + 1 ∧ i = .int .i64 k ∧ Fr (fun _ => False) w wr) (fun i _ => b.size + 1 - (intOf i).toNat)
  case atStart => exact ⟨0, by omega, rfl, Fr.refl _ _⟩
  case round =>
    obtain ⟨k, hk, rfl, hf⟩ := hrel
    by_cases h1 : k ≤ b.size
    · have hx := cpl_take_no (bsOf a) (bsOf b) k HC.out
      rw [← bs_extract] at hx
      go_wp2_with fail
      refine (rcompare_any (b.extract 0 k) a (by unfold maxLen; simp [ByteArray.size_extract]; omega) (by unfold maxLen; omega) _).mono ?_
      rintro e w1 ⟨rfl, hf1⟩
      go_wp2
      go_roundw
      case rel => exact ⟨k + 1, by omega, by go_num, hf.seq hf1⟩
      case measure => simp [intOf]; omega
    · go_wp2
      go_ret2
      exact ⟨rfl, hf⟩
set_option maxRecDepth 100000 in
set_option maxHeartbeats 1000000 in
theorem rbetween_yes (a b : ByteArray) (ha : a.size ≤ 140737488351232) (hb : b.size ≤ 140737488351232) (hc : cpl (bsOf a) (bsOf b) = -1) (w : World) :
    Calls Try.prog 75 #[.string a, .string b] w fun e w' => e = .returned (.tuple #[.string (b.extract 0 (cmn (bsOf a) (bsOf b) + 1)), .int .i64 0]) ∧ Fr (fun _ => False) w w' := by
  have hl := cpl_take_gt _ _ hc
  have HT : ∀ k, k ≤ cmn (bsOf a) (bsOf b) → cpl ((bsOf b).take k) (bsOf a) ≤ 0 := fun k hk => cpl_take_le _ _ k hk
  rw [bsOf_length] at hl
  clear hc
  obtain ⟨n, hn⟩ : ∃ n, n = cmn (bsOf a) (bsOf b) := ⟨_, rfl⟩
  rw [← hn] at hl HT ⊢
  clear hn
  obtain ⟨hg, hl⟩ := hl
  have HG : Hid (cpl ((bsOf b).take (n + 1)) (bsOf a) = 1) := hg
  have HT' : Hid (∀ k, k ≤ n → cpl ((bsOf b).take k) (bsOf a) ≤ 0) := HT
  clear hg HT
  go_enter Try.func75, Try.ntmps75
  go_wp2
  go_loopw [6] (fun i wr => ∃ k : Nat, k ≤ n + 1 ∧ i = .int .i64 k ∧ Fr (fun _ => False) w wr) (fun i _ => n + 1 - (intOf i).toNat)
  case atStart => exact ⟨0, by omega, rfl, Fr.refl _ _⟩
  case round =>
    obtain ⟨k, hk, rfl, hf⟩ := hrel
    have h0 : k ≤ b.size := by omega
    by_cases h1 : k ≤ n
    · have hx := HT'.out k h1
      rw [← bs_extract] at hx
      go_wp2_with fail
      refine (rcompare_any (b.extract 0 k) a (by unfold maxLen; simp [ByteArray.size_extract]; omega) (by unfold maxLen; omega) _).mono ?_
      rintro e w1 ⟨rfl, hf1⟩
      go_wp2
      go_roundw
      case rel => exact ⟨k + 1, by omega, by go_num, hf.seq hf1⟩
      case measure => simp [intOf]; omega
    · have e : k = n + 1 := by omega
      subst e
      have hx := HG.out
      rw [← bs_extract] at hx
      have hx2 : 0 < cpl (bsOf (b.extract 0 (n + 1))) (bsOf a) := by omega
      clear hx
      go_wp2_with fail
      refine (rcompare_any (b.extract 0 (n + 1)) a (by unfold maxLen; simp [ByteArray.size_extract]; omega) (by unfold maxLen; omega) _).mono ?_
      rintro e w1 ⟨rfl, hf1⟩
      go_wp2
      go_ret2
      exact ⟨rfl, hf.seq hf1⟩
end Go.Proofs.Ytaaedmacefiinaa

/- What key.Above tells, and what the document's own Above tells. -/
namespace Go.Proofs.Ytaaedmacefiinaa
open Go.RowKit

theorem bytes_cell (s : ByteArray) (c : Nat) (w : World) (t : TypeId) (fr : Nat × Nat) (j : Nat) (h : j < s.size) : (w.alloc (.cells (bytesRow s c) t fr)).cell? ⟨w.heap.size, j, none⟩ = some (.int .u8 ((bsOf s).getD j 0 : Nat)) := by
  rw [cell_of_row _ _ j _ t fr (heap_alloc_new w _)]
  unfold bytesRow
  rw [Array.getElem?_append_left (by simpa using h)]
  have h' : j < s.data.size := h
  rw [← bs_at s j h, Array.getElem?_map, Array.getElem?_eq_getElem h']
  rfl
theorem low_take (l : List Nat) (k : Nat) (h : k < l.length) : low (l.take (k + 1)) = if l.getD k 0 < 255 then k + 1 else low (l.take k) := by
  rw [take_snoc l k h, low_snoc]
  simp only [List.length_take, Nat.min_eq_left (Nat.le_of_lt h)]
/-- What Above tells. -/
def abv (s : ByteArray) : ByteArray := if low (bsOf s) = 0 then ⟨#[]⟩ else strOf (up (bsOf s))
def abvB (s : ByteArray) : Bool := decide (low (bsOf s) ≠ 0)
theorem abv_no {s : ByteArray} (h : low (bsOf s) = 0) : abv s = ⟨#[]⟩ ∧ abvB s = false := ⟨if_pos h, by simp [abvB, h]⟩
theorem abv_yes {s : ByteArray} (h : low (bsOf s) ≠ 0) : abv s = strOf (up (bsOf s)) ∧ abvB s = true := ⟨if_neg h, by simp [abvB, h]⟩
theorem ret_sb {a b : ByteArray} {x y : Bool} (h : a = b ∧ x = y) : Ending.returned (.tuple #[.string a, .bool x]) = .returned (.tuple #[.string b, .bool y]) := by rw [h.1, h.2]

/-- What '[]byte(..)' of a text's beginning lays. -/
theorem bytes_of (s : ByteArray) (p : Nat) (hs : s.size ≤ 140737488351232) (hp : p < s.size) (w : World) : ∃ cap C fr, (convert 9 26 (.string (s.extract 0 (p + 1)))).run Try.prog w = .ok (.slice (some ⟨w.heap.size, 0, none⟩) (p + 1) cap) (w.drew.alloc (.cells C 5 fr)) ∧
    p + 1 ≤ C.size ∧ p + 1 ≤ cap ∧ cap ≤ maxLen ∧ C.size < fr.1 + 1 ∧ fr.1 ≤ fr.2 ∧ ∀ j, j < p + 1 → C[j]? = some (.int .u8 ((bsOf s).getD j 0 : Nat)) := by
  have h := run_bytes_of_string (P := Try.prog) w 9 26 5 (s.extract 0 (p + 1)) Try.underlying9 Try.underlying26 Try.underlying5
  have hz : (s.extract 0 (p + 1)).size = p + 1 := by simp [ByteArray.size_extract]; omega
  rw [hz] at h
  have hC : ∀ c, p + 1 ≤ (bytesRow (s.extract 0 (p + 1)) c).size := fun c => by
    have : (s.extract 0 (p + 1)).data.size = p + 1 := hz
    simp only [bytesRow, Array.size_append, Array.size_map, this]; omega
  refine ⟨_, _, _, h, hC _, ?_, grownCap_le_maxLen _ _ _ _ (by unfold maxLen; omega), by simp, by simp, fun j hj => ?_⟩
  · exact grownCap_ge _ _ _ _
  · unfold bytesRow
    have hz' : (s.extract 0 (p + 1)).data.size = p + 1 := hz
    rw [Array.getElem?_append_left (by simp only [Array.size_map, hz']; exact hj), Array.getElem?_map, Array.getElem?_eq_getElem (by rw [hz']; exact hj)]
    have := bs_at (s.extract 0 (p + 1)) j (by rw [hz]; exact hj)
    rw [bs_extract] at this
    have e : ((bsOf s).take (p + 1)).getD j 0 = (bsOf s).getD j 0 := by
      rw [List.getD_eq_getElem?_getD, List.getD_eq_getElem?_getD, List.getElem?_take, if_pos hj]
    rw [e] at this
    rw [← this]; rfl

theorem row_one (w : World) (x : Nat) (z : Int) (hx : x < 256) (hz : z = (x : Int)) : Row (w.alloc (.cells #[.int .u8 z] 5)) (some ⟨w.heap.size, 0, none⟩) 1 [x] := by
  subst hz
  refine ⟨by simp, by omega, by simp, (fun y hy => by simp at hy; omega), .inr ⟨w.heap.size, 0, rfl, by simp, fun i hi => ?_⟩⟩
  have : i = 0 := by simpa using hi
  subst this
  simp
theorem up_at (l : List Nat) (k : Nat) (h : low l = k + 1) : up l = l.take k ++ [l.getD k 0 + 1] := by unfold up; rw [h]; rfl

end Go.Proofs.Ytaaedmacefiinaa

/- What key.Place tells, and what the document's own Place tells; that key speaks. -/
namespace Go.Proofs.Ytaaedmacefiinaa
open Go.RowKit

/-- Where a text stands in a list. -/
def plc (k : List Nat) : List ByteArray → Nat × Bool
  | [] => (0, false)
  | x :: r => if 0 ≤ cpl (bsOf x) k then (0, decide (bsOf x = k)) else ((plc k r).1 + 1, (plc k r).2)
theorem plc_hit (k : List Nat) (l : List ByteArray) (i : Nat) (hi : i < l.length) (he : ∀ j, j < i → cpl (bsOf (l.getD j ByteArray.empty)) k < 0) (h : 0 ≤ cpl (bsOf (l.getD i ByteArray.empty)) k) : plc k l = (i, decide (bsOf (l.getD i ByteArray.empty) = k)) := by
  induction l generalizing i with
  | nil => simp at hi
  | cons x r ih => cases i with
    | zero => simp at h; simp [plc, h]
    | succ i =>
      have h0 := he 0 (by omega)
      simp at h0
      have := ih i (by simpa using hi) (fun j hj => by have := he (j + 1) (by omega); simpa using this) (by simpa using h)
      simp only [plc]
      rw [if_neg (by omega), this]
      simp
theorem plc_miss (k : List Nat) (l : List ByteArray) (he : ∀ j, j < l.length → cpl (bsOf (l.getD j ByteArray.empty)) k < 0) : plc k l = (l.length, false) := by
  induction l with
  | nil => rfl
  | cons x r ih =>
    have h0 := he 0 (by simp)
    simp at h0
    simp only [plc]
    rw [if_neg (by omega), ih (fun j hj => by have := he (j + 1) (by simpa using hj); simpa using this)]
    simp
theorem ret_ib {a b : Int} {x y : Bool} (h : a = b) (k : x = y) : Ending.returned (.tuple #[.int .i64 a, .bool x]) = .returned (.tuple #[.int .i64 b, .bool y]) := by rw [h, k]
theorem cpl_beq (a b : List Nat) : (cpl a b == 0) = decide (a = b) := by
  have := cpl_eq a b
  rw [Bool.eq_iff_iff]; simp [this]
theorem str_beq (a b : ByteArray) : (a.toList == b.toList) = decide (bsOf a = bsOf b) := by
  rw [Bool.eq_iff_iff]
  simp only [beq_iff_eq, decide_eq_true_eq]
  rw [Lib.toList_data, Lib.toList_data]
  constructor
  · intro h; unfold bsOf; rw [h]
  · intro h; rw [bs_inj h]

set_option maxRecDepth 100000 in
set_option maxHeartbeats 1000000 in
theorem place_any (a : Option Addr) (n cap : Nat) (l : List ByteArray) (hn : n = l.length) (k : ByteArray) (hk : k.size ≤ maxLen) (w : World) (hr : Strs w a cap l) :
    Calls Try.prog 59 #[.slice a n cap, .string k] w fun e w' => e = .returned (.tuple #[.int .i64 ((plc (bsOf k) l).1 : Nat), .bool (plc (bsOf k) l).2]) ∧ Fr (fun _ => False) w w' := by
  subst hn
  have hle := hr.le
  have hmx := hr.max
  rcases hr.at_ with h0 | ⟨b, off, rfl, hb, hc⟩
  · subst h0
    go_enter Try.func59, Try.ntmps59
    go_wp2
    refine wp_loop_rounds 1 ?_
    rw [rounds_succ]
    go_wp2
    go_ret2
    exact ⟨rfl, Fr.refl _ _⟩
  · go_enter Try.func59, Try.ntmps59
    go_wp2
    go_loopw [11] (fun i wr => ∃ j : Nat, j ≤ l.length ∧ i = .int .i64 j ∧ Hid (∀ x, x < j → cpl (bsOf (l.getD x ByteArray.empty)) (bsOf k) < 0) ∧ Fr (fun _ => False) w wr) (fun i _ => l.length - (intOf i).toNat)
    case atStart => exact ⟨0, by omega, rfl, (fun j h => by omega), Fr.refl _ _⟩
    case round =>
      obtain ⟨j, hj, rfl, HE, hf⟩ := hrel
      by_cases hlt : j < l.length
      · have hcell := (hf.cell (p := ⟨b, off + j, none⟩) hb (fun f => f)).trans (hc j hlt)
        have hsz := hr.text _ (strs_get hlt)
        have HH : Hid (0 ≤ cpl (bsOf (l.getD j ByteArray.empty)) (bsOf k) → plc (bsOf k) l = (j, decide (bsOf (l.getD j ByteArray.empty) = bsOf k))) := fun h => plc_hit (bsOf k) l j hlt HE.out h
        obtain ⟨s, hs⟩ : ∃ s, s = l.getD j ByteArray.empty := ⟨_, rfl⟩
        have HS : Hid (s = l.getD j ByteArray.empty) := hs
        rw [← hs] at hcell hsz HH
        clear hs
        go_wp2_with fail
        refine (compare_any s k hsz hk _).mono ?_
        rintro e w1 ⟨rfl, hf1⟩
        go_wp2
        · have h : 0 ≤ cpl (bsOf s) (bsOf k) := by assumption
          go_ret2
          exact ⟨ret_ib (by rw [HH.out h]) (by rw [HH.out h, cpl_beq]), hf.seq hf1⟩
        · have h : ¬ 0 ≤ cpl (bsOf s) (bsOf k) := by first | assumption | (have : cpl (bsOf s) (bsOf k) < 0 := by assumption); omega
          go_roundw
          case rel =>
            refine ⟨j + 1, by omega, by go_num, fun x hx => ?_, hf.seq hf1⟩
            rcases Nat.lt_or_ge x j with h2 | h2
            · exact HE.out x h2
            · have e : x = j := by omega
              rw [e, ← HS.out]; omega
          case measure => simp [intOf]; omega
      · have e : j = l.length := by omega
        subst e
        go_wp2
        go_ret2
        exact ⟨ret_ib (by rw [plc_miss (bsOf k) l HE.out]) (by rw [plc_miss (bsOf k) l HE.out]), hf⟩
end Go.Proofs.Ytaaedmacefiinaa

/- What is asked of a node and a key ahead of each call; what the small functions of layer 7 answer. -/
namespace Go.Proofs.Ytaaedmacefiinaa
open Go.RowKit

/-- Whether a key belongs further right. -/
def fthB (n : Nd) (k : ByteArray) : Bool := decide (n.high.size ≠ 0) && decide (cpl (bsOf n.high) (bsOf k) ≤ 0)
/-- The errors. -/
def rgE (n : Nd) : Int := if rightB n = true then 0 else 70
def nuE (x : Int) : Int := if 1 ≤ x ∧ x ≤ 4096 then 0 else 1
def suE (n : Nd) (k : ByteArray) (want : Int) : Int := if (want = 1 ∧ n.lev ≠ 0) ∨ (want = 2 ∧ n.lev = 0) then 7 else if fthB n k = true then 71 else 0
def firstE : List Int → Int
  | [] => 0
  | x :: r => if x = 0 then firstE r else x
theorem firstE_zero (r : List Int) : firstE (0 :: r) = firstE r := by simp [firstE]
theorem firstE_skip (a : Int) (r s : List Int) (h : firstE r = firstE s) : firstE (a :: r) = firstE (a :: s) := by simp only [firstE]; rw [h]
/-- The error of a call. -/
def askE (n : Nd) (k : ByteArray) (ev en want : Int) : Int := firstE [rgE n, ekey k.size, ev, en, suE n k want]
theorem ask_3 (n : Nd) (k : ByteArray) (want : Int) : firstE [rgE n, ekey k.size, suE n k want] = askE n k 0 0 want := by
  unfold askE
  refine firstE_skip _ _ _ (firstE_skip _ _ _ ?_)
  rw [firstE_zero, firstE_zero]
theorem ask_v (n : Nd) (k : ByteArray) (ev want : Int) : firstE [rgE n, ekey k.size, ev, suE n k want] = askE n k ev 0 want := by
  unfold askE
  refine firstE_skip _ _ _ (firstE_skip _ _ _ (firstE_skip _ _ _ ?_))
  rw [firstE_zero]
theorem ask_n (n : Nd) (k : ByteArray) (en want : Int) : firstE [rgE n, ekey k.size, en, suE n k want] = askE n k 0 en want := by
  unfold askE
  refine firstE_skip _ _ _ (firstE_skip _ _ _ ?_)
  rw [firstE_zero]
/-- What stands behind a call that is right. -/
theorem ask_ok {n : Nd} {k : ByteArray} {ev en want : Int} (h : askE n k ev en want = 0) : Rt n ∧ (k.size ≠ 0 ∧ k.size ≤ 16) ∧ ev = 0 ∧ en = 0 ∧ ¬ ((want = 1 ∧ n.lev ≠ 0) ∨ (want = 2 ∧ n.lev = 0)) ∧ fthB n k = false := by
  unfold askE at h
  simp only [firstE] at h
  have h1 : rgE n = 0 := by
    by_cases e : rgE n = 0
    · exact e
    · rw [if_neg e] at h; exact h
  rw [if_pos h1] at h
  have h2 : (ekey k.size : Int) = 0 := by
    by_cases e : (ekey k.size : Int) = 0
    · exact e
    · rw [if_neg e] at h; exact h
  rw [if_pos h2] at h
  have h3 : ev = 0 := by
    by_cases e : ev = 0
    · exact e
    · rw [if_neg e] at h; exact h
  rw [if_pos h3] at h
  have h4 : en = 0 := by
    by_cases e : en = 0
    · exact e
    · rw [if_neg e] at h; exact h
  rw [if_pos h4] at h
  have h5 : suE n k want = 0 := by
    by_cases e : suE n k want = 0
    · exact e
    · rw [if_neg e] at h; exact h
  refine ⟨?_, ?_, h3, h4, ?_, ?_⟩
  · unfold rgE at h1
    refine (right_iff n).1 ?_
    by_cases e : rightB n = true
    · exact e
    · rw [if_neg e] at h1; omega
  · unfold ekey at h2
    by_cases e : k.size = 0 ∨ 16 < k.size
    · rw [if_pos e] at h2; omega
    · omega
  · intro e
    unfold suE at h5
    rw [if_pos e] at h5; omega
  · unfold suE at h5
    by_cases e : (want = 1 ∧ n.lev ≠ 0) ∨ (want = 2 ∧ n.lev = 0)
    · rw [if_pos e] at h5; omega
    · rw [if_neg e] at h5
      cases hf : fthB n k
      · rfl
      · rw [hf, if_pos rfl] at h5; omega

theorem further_any (n : Nd) (p : Pt) (k : ByteArray) (hh : n.high.size ≤ maxLen) (hk : k.size ≤ maxLen) (w : World) : Calls Try.prog 22 #[(.agg #[.int .i64 n.lev, .int .i64 n.lsn, .int .i64 n.rgt, .string n.high, .slice p.k n.keys.length p.kc, .slice p.v n.vals.length p.vc, .slice p.i n.kids.length p.ic]), .string k] w fun e w' => e = .returned (.bool (fthB n k)) ∧ Fr (fun _ => False) w w' := by
  have f0 := Fr.box w (.cells #[.int .i64 n.lev, .int .i64 n.lsn, .int .i64 n.rgt, .string n.high, .slice p.k n.keys.length p.kc, .slice p.v n.vals.length p.vc, .slice p.i n.kids.length p.ic] 25)
  unfold fthB
  by_cases h0 : n.high.size = 0
  · have hem := bs_nil h0
    rw [decide_eq_false (by omega), Bool.false_and]
    clear h0
    go_enter Try.func22, Try.ntmps22
    go_wp2
    go_ret
    exact ⟨rfl, f0⟩
  · have hem := bs_not_nil h0
    rw [decide_eq_true h0, Bool.true_and]
    have hcm := fun W => compare_any n.high k hh hk W
    generalize cpl (bsOf n.high) (bsOf k) = c at *
    clear h0
    go_enter Try.func22, Try.ntmps22
    go_wp2_with fail
    refine (hcm _).mono ?_
    rintro e w1 ⟨rfl, f1⟩
    go_wp2
    go_ret
    exact ⟨rfl, f0.seq' f1⟩
theorem rfurther_any (n : Nd) (p : Pt) (k : ByteArray) (hh : n.high.size ≤ maxLen) (hk : k.size ≤ maxLen) (w : World) : Calls Try.prog 23 #[(.agg #[.int .i64 n.lev, .int .i64 n.lsn, .int .i64 n.rgt, .string n.high, .slice p.k n.keys.length p.kc, .slice p.v n.vals.length p.vc, .slice p.i n.kids.length p.ic]), .string k] w fun e w' => e = .returned (.bool (fthB n k)) ∧ Fr (fun _ => False) w w' := by
  have f0 := Fr.box w (.cells #[.int .i64 n.lev, .int .i64 n.lsn, .int .i64 n.rgt, .string n.high, .slice p.k n.keys.length p.kc, .slice p.v n.vals.length p.vc, .slice p.i n.kids.length p.ic] 25)
  unfold fthB
  by_cases h0 : n.high.size = 0
  · have hem := bs_nil h0
    rw [decide_eq_false (by omega), Bool.false_and]
    clear h0
    go_enter Try.func23, Try.ntmps23
    go_wp2
    go_ret
    exact ⟨rfl, f0⟩
  · have hem := bs_not_nil h0
    rw [decide_eq_true h0, Bool.true_and]
    have hcm := fun W => rcompare_any n.high k hh hk W
    generalize cpl (bsOf n.high) (bsOf k) = c at *
    clear h0
    go_enter Try.func23, Try.ntmps23
    go_wp2_with fail
    refine (hcm _).mono ?_
    rintro e w1 ⟨rfl, f1⟩
    go_wp2
    go_ret
    exact ⟨rfl, f0.seq' f1⟩
theorem checkPage_any (x : Int) (w : World) : Calls Try.prog 69 #[.int .i64 x] w fun e w' => e = .returned (.int .i64 (nuE x)) ∧ w' = w := by
  unfold nuE
  by_cases h1 : x < 1
  · rw [if_neg (by omega)]
    go_enter Try.func69, Try.ntmps69
    go_wp2
    go_ret
    exact ⟨rfl, rfl⟩
  · by_cases h2 : 4096 < x
    · rw [if_neg (by omega)]
      have h1' : 1 ≤ x := by omega
      go_enter Try.func69, Try.ntmps69
      go_wp2
      go_ret
      exact ⟨rfl, rfl⟩
    · rw [if_pos (by omega)]
      have h1' : 1 ≤ x := by omega
      have h2' : x ≤ 4096 := by omega
      go_enter Try.func69, Try.ntmps69
      go_wp2
      go_ret
      exact ⟨rfl, rfl⟩
theorem isLeafN_any (n : Nd) (p : Pt) (w : World) : Calls Try.prog 72 #[(.agg #[.int .i64 n.lev, .int .i64 n.lsn, .int .i64 n.rgt, .string n.high, .slice p.k n.keys.length p.kc, .slice p.v n.vals.length p.vc, .slice p.i n.kids.length p.ic])] w fun e w' => e = .returned (.bool (n.lev == 0)) ∧ Fr (fun _ => False) w w' := by
  have f0 := Fr.box w (.cells #[.int .i64 n.lev, .int .i64 n.lsn, .int .i64 n.rgt, .string n.high, .slice p.k n.keys.length p.kc, .slice p.v n.vals.length p.vc, .slice p.i n.kids.length p.ic] 25)
  go_enter Try.func72, Try.ntmps72
  go_wp2
  go_ret
  exact ⟨rfl, f0⟩
theorem checkNode_any (n : Nd) (p : Pt) (w : World) (h : Nod w n p) : Calls Try.prog 56 #[(.agg #[.int .i64 n.lev, .int .i64 n.lsn, .int .i64 n.rgt, .string n.high, .slice p.k n.keys.length p.kc, .slice p.v n.vals.length p.vc, .slice p.i n.kids.length p.ic])] w fun e w' => e = .returned (.int .i64 (rgE n)) ∧ Fr (fun _ => False) w w' := by
  have f0 := Fr.box w (.cells #[.int .i64 n.lev, .int .i64 n.lsn, .int .i64 n.rgt, .string n.high, .slice p.k n.keys.length p.kc, .slice p.v n.vals.length p.vc, .slice p.i n.kids.length p.ic] 25)
  have hc := check_any n p _ (h.same f0)
  unfold rgE
  cases hr : rightB n
  · rw [epage_no hr] at hc
    rw [if_neg (by simp)]
    clear hr
    go_enter Try.func56, Try.ntmps56
    go_wp2_with fail
    refine hc.mono ?_
    rintro e w1 ⟨rfl, f1⟩
    go_wp2
    go_ret
    exact ⟨rfl, f0.seq' f1⟩
  · rw [epage_yes hr] at hc
    rw [if_pos rfl]
    clear hr
    go_enter Try.func56, Try.ntmps56
    go_wp2_with fail
    refine hc.mono ?_
    rintro e w1 ⟨rfl, f1⟩
    go_wp2
    go_ret
    exact ⟨rfl, f0.seq' f1⟩
set_option maxRecDepth 100000 in
set_option maxHeartbeats 1000000 in
theorem suits_any (n : Nd) (p : Pt) (k : ByteArray) (want : Int) (hw : want = 0 ∨ want = 1 ∨ want = 2) (hh : n.high.size ≤ maxLen) (hk : k.size ≤ maxLen) (w : World) : Calls Try.prog 58 #[(.agg #[.int .i64 n.lev, .int .i64 n.lsn, .int .i64 n.rgt, .string n.high, .slice p.k n.keys.length p.kc, .slice p.v n.vals.length p.vc, .slice p.i n.kids.length p.ic]), .string k, .int .i64 want] w fun e w' => e = .returned (.int .i64 (suE n k want)) ∧ Fr (fun _ => False) w w' := by
  have f0 := Fr.box w (.cells #[.int .i64 n.lev, .int .i64 n.lsn, .int .i64 n.rgt, .string n.high, .slice p.k n.keys.length p.kc, .slice p.v n.vals.length p.vc, .slice p.i n.kids.length p.ic] 25)
  have HB : Hid (∀ W, Fr (fun _ => False) (w.alloc (.cells #[.int .i64 n.lev, .int .i64 n.lsn, .int .i64 n.rgt, .string n.high, .slice p.k n.keys.length p.kc, .slice p.v n.vals.length p.vc, .slice p.i n.kids.length p.ic] 25)) W → W.cell? ⟨w.heap.size, 0, none⟩ = some (.int .i64 n.lev) ∧ W.cell? ⟨w.heap.size, 1, none⟩ = some (.int .i64 n.lsn) ∧ W.cell? ⟨w.heap.size, 2, none⟩ = some (.int .i64 n.rgt) ∧ W.cell? ⟨w.heap.size, 3, none⟩ = some (.string n.high) ∧ W.cell? ⟨w.heap.size, 4, none⟩ = some (.slice p.k n.keys.length p.kc) ∧ W.cell? ⟨w.heap.size, 5, none⟩ = some (.slice p.v n.vals.length p.vc) ∧ W.cell? ⟨w.heap.size, 6, none⟩ = some (.slice p.i n.kids.length p.ic)) := fun W f => box_cells (box_at w n p 25 f)
  have hl := fun W => isLeafN_any n p W
  have hf := fun W => further_any n p k hh hk W
  unfold suE
  generalize fthB n k = x at *
  by_cases h0 : n.lev = 0
  · have hb : (n.lev == 0) = true := by simpa using h0
    rw [hb] at hl
    have H0 : Hid (n.lev = 0) := h0
    clear h0 hb
    rcases hw with rfl | rfl | rfl
    · rw [if_neg (by omega)]
      cases x <;>
        (go_enter Try.func58, Try.ntmps58
         go_wp2_with fail
         refine (hl _).mono ?_
         rintro e w1 ⟨rfl, f1⟩
         obtain ⟨c0, c1, c2, c3, c4, c5, c6⟩ := HB.out _ f1
         go_wp2_with fail
         refine (hf _).mono ?_
         rintro e w2 ⟨rfl, f2⟩
         go_wp2
         go_ret
         exact ⟨rfl, (f0.seq' f1).seq' f2⟩)
    · rw [if_neg (by have := H0.out; omega)]
      cases x <;>
        (go_enter Try.func58, Try.ntmps58
         go_wp2_with fail
         refine (hl _).mono ?_
         rintro e w1 ⟨rfl, f1⟩
         obtain ⟨c0, c1, c2, c3, c4, c5, c6⟩ := HB.out _ f1
         go_wp2_with fail
         refine (hf _).mono ?_
         rintro e w2 ⟨rfl, f2⟩
         go_wp2
         go_ret
         exact ⟨rfl, (f0.seq' f1).seq' f2⟩)
    · rw [if_pos (by have := H0.out; omega)]
      go_enter Try.func58, Try.ntmps58
      go_wp2_with fail
      refine (hl _).mono ?_
      rintro e w1 ⟨rfl, f1⟩
      go_wp2
      go_ret
      exact ⟨rfl, f0.seq' f1⟩
  · have hb : (n.lev == 0) = false := by simpa using h0
    rw [hb] at hl
    have H0 : Hid (n.lev ≠ 0) := h0
    clear h0 hb
    rcases hw with rfl | rfl | rfl
    · rw [if_neg (by omega)]
      cases x <;>
        (go_enter Try.func58, Try.ntmps58
         go_wp2_with fail
         refine (hl _).mono ?_
         rintro e w1 ⟨rfl, f1⟩
         obtain ⟨c0, c1, c2, c3, c4, c5, c6⟩ := HB.out _ f1
         go_wp2_with fail
         refine (hf _).mono ?_
         rintro e w2 ⟨rfl, f2⟩
         go_wp2
         go_ret
         exact ⟨rfl, (f0.seq' f1).seq' f2⟩)
    · rw [if_pos (by have := H0.out; omega)]
      go_enter Try.func58, Try.ntmps58
      go_wp2_with fail
      refine (hl _).mono ?_
      rintro e w1 ⟨rfl, f1⟩
      go_wp2
      go_ret
      exact ⟨rfl, f0.seq' f1⟩
    · rw [if_neg (by have := H0.out; omega)]
      cases x <;>
        (go_enter Try.func58, Try.ntmps58
         go_wp2_with fail
         refine (hl _).mono ?_
         rintro e w1 ⟨rfl, f1⟩
         obtain ⟨c0, c1, c2, c3, c4, c5, c6⟩ := HB.out _ f1
         go_wp2_with fail
         refine (hf _).mono ?_
         rintro e w2 ⟨rfl, f2⟩
         go_wp2
         go_ret
         exact ⟨rfl, (f0.seq' f1).seq' f2⟩)
/-- The first error of some. -/
theorem first_any (b : Nat) (t : TypeId) (l : List Int) (hl : l.length ≤ 100) (w : World) (hb : w.heap[b]? = some (.cells (l.map (Value.int .i64)).toArray t (0, 0))) :
    Calls Try.prog 55 #[.slice (some ⟨b, 0, none⟩) l.length l.length] w fun e w' => e = .returned (.int .i64 (firstE l)) ∧ w' = w := by
  have hc : ∀ i, i < l.length → w.cell? ⟨b, i, none⟩ = some (.int .i64 (l.getD i 0)) := fun i hi => by
    rw [cell_of_row w b i _ _ _ hb, List.getElem?_toArray, List.getElem?_map, List.getD_eq_getElem?_getD, List.getElem?_eq_getElem hi]; rfl
  have HC : Hid (∀ i, i < l.length → w.cell? ⟨b, i, none⟩ = some (.int .i64 (l.getD i 0))) := hc
  clear hb hc
  go_enter Try.func55, Try.ntmps55
  go_wp2
  go_loopw [7] (fun i wr => ∃ j : Nat, j ≤ l.length ∧ i = .int .i64 j ∧ Hid (firstE (l.drop j) = firstE l) ∧ wr = w) (fun i _ => l.length - (intOf i).toNat)
  case atStart => exact ⟨0, by omega, rfl, rfl, rfl⟩
  case round =>
    obtain ⟨j, hj, rfl, HE, rfl⟩ := hrel
    by_cases hlt : j < l.length
    · have hcj := HC.out j hlt
      have hji : (j : Int) < (l.length : Int) := by omega
      have HD : Hid (firstE (l.drop j) = if l.getD j 0 = 0 then firstE (l.drop (j + 1)) else l.getD j 0) := by
        show _ = _
        rw [List.drop_eq_getElem_cons hlt, List.getD_eq_getElem?_getD, List.getElem?_eq_getElem hlt]
        rfl
      obtain ⟨x, hx⟩ : ∃ x, x = l.getD j 0 := ⟨_, rfl⟩
      rw [← hx] at hcj HD
      clear hx
      by_cases h0 : x = 0
      · subst h0
        rw [if_pos rfl] at HD
        go_wp2
        go_roundw
        case rel => exact ⟨j + 1, by omega, by go_num, by show _ = _; rw [← HD.out]; exact HE.out, trivial⟩
        case measure => simp [intOf]; omega
      · have hne : (x != 0) = true := by simpa using h0
        rw [if_neg h0] at HD
        go_wp2
        go_ret
        exact ⟨ret_int (by rw [← HE.out, HD.out]), rfl⟩
    · have e : j = l.length := by omega
      subst e
      go_wp2
      go_ret
      exact ⟨ret_int (by rw [← HE.out, List.drop_length]; rfl), rfl⟩
end Go.Proofs.Ytaaedmacefiinaa

/- What the document asks of a node and a key. -/
namespace Go.Proofs.Ytaaedmacefiinaa
open Go.RowKit

theorem evalu_no {n : Nat} (h : 32 < n) : evalu n = 51 := if_pos h
theorem evalu_ok {n : Nat} (h : n ≤ 32) : evalu n = 0 := if_neg (by omega)
theorem first3 (x y z : Int) (W : World) : Calls Try.prog 55 #[.slice (some ⟨W.heap.size, 0, none⟩) 3 3] (W.alloc (.cells #[.int .i64 x, .int .i64 y, .int .i64 z] 27)) fun e w' => e = .returned (.int .i64 (firstE [x, y, z])) ∧ w' = W.alloc (.cells #[.int .i64 x, .int .i64 y, .int .i64 z] 27) :=
  first_any W.heap.size 27 [x, y, z] (by simp) _ (heap_alloc_new W _)
theorem first4 (x y z u : Int) (W : World) : Calls Try.prog 55 #[.slice (some ⟨W.heap.size, 0, none⟩) 4 4] (W.alloc (.cells #[.int .i64 x, .int .i64 y, .int .i64 z, .int .i64 u] 27)) fun e w' => e = .returned (.int .i64 (firstE [x, y, z, u])) ∧ w' = W.alloc (.cells #[.int .i64 x, .int .i64 y, .int .i64 z, .int .i64 u] 27) :=
  first_any W.heap.size 27 [x, y, z, u] (by simp) _ (heap_alloc_new W _)

set_option maxRecDepth 100000 in
set_option maxHeartbeats 2000000 in
theorem asked_any (n : Nd) (p : Pt) (k v : ByteArray) (num lvl want : Int) (hl : (lvl = 0 ∧ want = 1) ∨ (lvl = 1 ∧ want = 2) ∨ (lvl = 2 ∧ want = 0)) (hh : n.high.size ≤ maxLen) (hk : k.size ≤ maxLen) (w : World) (h : Nod w n p) :
    Calls Try.prog 60 #[(.agg #[.int .i64 n.lev, .int .i64 n.lsn, .int .i64 n.rgt, .string n.high, .slice p.k n.keys.length p.kc, .slice p.v n.vals.length p.vc, .slice p.i n.kids.length p.ic]), .string k, .string v, .int .i64 num, .int .i64 lvl] w fun e w' => e = .returned (.int .i64 (askE n k (evalu v.size) (nuE num) want)) ∧ Fr (fun _ => False) w w' := by
  have f0 := Fr.box w (.cells #[.int .i64 n.lev, .int .i64 n.lsn, .int .i64 n.rgt, .string n.high, .slice p.k n.keys.length p.kc, .slice p.v n.vals.length p.vc, .slice p.i n.kids.length p.ic] 25)
  have HB : Hid (∀ W, Fr (fun _ => False) (w.alloc (.cells #[.int .i64 n.lev, .int .i64 n.lsn, .int .i64 n.rgt, .string n.high, .slice p.k n.keys.length p.kc, .slice p.v n.vals.length p.vc, .slice p.i n.kids.length p.ic] 25)) W → W.cell? ⟨w.heap.size, 0, none⟩ = some (.int .i64 n.lev) ∧ W.cell? ⟨w.heap.size, 1, none⟩ = some (.int .i64 n.lsn) ∧ W.cell? ⟨w.heap.size, 2, none⟩ = some (.int .i64 n.rgt) ∧ W.cell? ⟨w.heap.size, 3, none⟩ = some (.string n.high) ∧ W.cell? ⟨w.heap.size, 4, none⟩ = some (.slice p.k n.keys.length p.kc) ∧ W.cell? ⟨w.heap.size, 5, none⟩ = some (.slice p.v n.vals.length p.vc) ∧ W.cell? ⟨w.heap.size, 6, none⟩ = some (.slice p.i n.kids.length p.ic)) := fun W f => box_cells (box_at w n p 25 f)
  have hrt := rright_any n p _ (h.same f0)
  have hck := fun W => rcheck_any k W
  have hcv := fun W => rvalue_any v W
  have hfu := fun W => rfurther_any n p k hh hk W
  cases hr : rightB n
  · have e : askE n k (evalu v.size) (nuE num) want = 70 := by simp [askE, firstE, rgE, hr]
    rw [e]
    rw [hr] at hrt
    clear hr e hl
    go_enter Try.func60, Try.ntmps60
    go_wp2_with fail
    refine hrt.mono ?_
    rintro e w1 ⟨rfl, f1⟩
    go_wp2
    go_ret
    exact ⟨rfl, f0.seq' f1⟩
  · rw [hr] at hrt
    have e : askE n k (evalu v.size) (nuE num) want = firstE [ekey k.size, evalu v.size, nuE num, suE n k want] := by simp [askE, firstE, rgE, hr]
    rw [e]
    clear hr e
    by_cases hke : k.size = 0 ∨ 16 < k.size
    · rw [ekey_no hke] at hck ⊢
      rw [show firstE [((50 : Nat) : Int), ((evalu v.size : Nat) : Int), nuE num, suE n k want] = 50 from rfl]
      clear hke hl
      go_enter Try.func60, Try.ntmps60
      go_wp2_with fail
      refine hrt.mono ?_
      rintro e w1 ⟨rfl, f1⟩
      go_wp2_with fail
      refine (hck _).mono ?_
      rintro e w2 ⟨rfl, rfl⟩
      go_wp2_with fail
      refine (hck _).mono ?_
      rintro e w2 ⟨rfl, rfl⟩
      go_wp2
      go_ret
      exact ⟨rfl, f0.seq' f1⟩
    · rw [ekey_ok (by omega) (by omega)] at hck ⊢
      rw [show firstE [((0 : Nat) : Int), ((evalu v.size : Nat) : Int), nuE num, suE n k want] = firstE [((evalu v.size : Nat) : Int), nuE num, suE n k want] from rfl]
      clear hke
      by_cases hve : 32 < v.size
      · rw [evalu_no hve] at hcv ⊢
        rw [show firstE [((51 : Nat) : Int), nuE num, suE n k want] = 51 from rfl]
        clear hve hl
        go_enter Try.func60, Try.ntmps60
        go_wp2_with fail
        refine hrt.mono ?_
        rintro e w1 ⟨rfl, f1⟩
        go_wp2_with fail
        refine (hck _).mono ?_
        rintro e w2 ⟨rfl, rfl⟩
        go_wp2_with fail
        refine (hcv _).mono ?_
        rintro e w2 ⟨rfl, rfl⟩
        go_wp2_with fail
        refine (hcv _).mono ?_
        rintro e w2 ⟨rfl, rfl⟩
        go_wp2
        go_ret
        exact ⟨rfl, f0.seq' f1⟩
      · rw [evalu_ok (by omega)] at hcv ⊢
        rw [show firstE [((0 : Nat) : Int), nuE num, suE n k want] = firstE [nuE num, suE n k want] from rfl]
        clear hve
        by_cases hn1 : num < 1
        · have e : nuE num = 1 := by unfold nuE; rw [if_neg (by omega)]
          rw [e, show firstE [1, suE n k want] = 1 from rfl]
          clear e hl
          go_enter Try.func60, Try.ntmps60
          go_wp2_with fail
          refine hrt.mono ?_
          rintro e w1 ⟨rfl, f1⟩
          go_wp2_with fail
          refine (hck _).mono ?_
          rintro e w2 ⟨rfl, rfl⟩
          go_wp2_with fail
          refine (hcv _).mono ?_
          rintro e w2 ⟨rfl, rfl⟩
          go_wp2
          go_ret
          exact ⟨rfl, f0.seq' f1⟩
        · have hn1' : 1 ≤ num := by omega
          by_cases hn2 : 4096 < num
          · have e : nuE num = 1 := by unfold nuE; rw [if_neg (by omega)]
            rw [e, show firstE [1, suE n k want] = 1 from rfl]
            clear e hl hn1
            go_enter Try.func60, Try.ntmps60
            go_wp2_with fail
            refine hrt.mono ?_
            rintro e w1 ⟨rfl, f1⟩
            go_wp2_with fail
            refine (hck _).mono ?_
            rintro e w2 ⟨rfl, rfl⟩
            go_wp2_with fail
            refine (hcv _).mono ?_
            rintro e w2 ⟨rfl, rfl⟩
            go_wp2
            go_ret
            exact ⟨rfl, f0.seq' f1⟩
          · have e : nuE num = 0 := by unfold nuE; rw [if_pos (by omega)]
            have hn2' : num ≤ 4096 := by omega
            have e2 : firstE [(0 : Int), suE n k want] = suE n k want := by
              show (if (0 : Int) = 0 then (if suE n k want = 0 then 0 else suE n k want) else 0) = _
              rw [if_pos rfl]
              split
              · rename_i h; exact h.symm
              · rfl
            rw [e, e2]
            clear e e2 hn1 hn2
            unfold suE
            generalize fthB n k = x at *
            by_cases h0 : n.lev = 0
            · have hb : (n.lev == 0) = true := by simpa using h0
              have hb2 : (n.lev != 0) = false := by simpa using h0
              have H0 : Hid (n.lev = 0) := h0
              clear h0
              rcases hl with ⟨rfl, rfl⟩ | ⟨rfl, rfl⟩ | ⟨rfl, rfl⟩
              · rw [if_neg (by have := H0.out; omega)]
                cases x <;>
                (go_enter Try.func60, Try.ntmps60
                 go_wp2_with fail
                 refine hrt.mono ?_
                 rintro e w1 ⟨rfl, f1⟩
                 obtain ⟨c0, c1, c2, c3, c4, c5, c6⟩ := HB.out _ f1
                 go_wp2_with fail
                 refine (hck _).mono ?_
                 rintro e w2 ⟨rfl, rfl⟩
                 go_wp2_with fail
                 refine (hcv _).mono ?_
                 rintro e w2 ⟨rfl, rfl⟩
                 go_wp2_with fail
                 refine (hfu _).mono ?_
                 rintro e w3 ⟨rfl, f3⟩
                 go_wp2
                 go_ret
                 exact ⟨rfl, (f0.seq' f1).seq' f3⟩)
              · rw [if_pos (by have := H0.out; omega)]
                go_enter Try.func60, Try.ntmps60
                go_wp2_with fail
                refine hrt.mono ?_
                rintro e w1 ⟨rfl, f1⟩
                obtain ⟨c0, c1, c2, c3, c4, c5, c6⟩ := HB.out _ f1
                go_wp2_with fail
                refine (hck _).mono ?_
                rintro e w2 ⟨rfl, rfl⟩
                go_wp2_with fail
                refine (hcv _).mono ?_
                rintro e w2 ⟨rfl, rfl⟩
                go_wp2
                go_ret
                exact ⟨rfl, f0.seq' f1⟩
              · rw [if_neg (by omega)]
                cases x <;>
                (go_enter Try.func60, Try.ntmps60
                 go_wp2_with fail
                 refine hrt.mono ?_
                 rintro e w1 ⟨rfl, f1⟩
                 obtain ⟨c0, c1, c2, c3, c4, c5, c6⟩ := HB.out _ f1
                 go_wp2_with fail
                 refine (hck _).mono ?_
                 rintro e w2 ⟨rfl, rfl⟩
                 go_wp2_with fail
                 refine (hcv _).mono ?_
                 rintro e w2 ⟨rfl, rfl⟩
                 go_wp2_with fail
                 refine (hfu _).mono ?_
                 rintro e w3 ⟨rfl, f3⟩
                 go_wp2
                 go_ret
                 exact ⟨rfl, (f0.seq' f1).seq' f3⟩)
            · have hb : (n.lev == 0) = false := by simpa using h0
              have hb2 : (n.lev != 0) = true := by simpa using h0
              have H0 : Hid (n.lev ≠ 0) := h0
              clear h0
              rcases hl with ⟨rfl, rfl⟩ | ⟨rfl, rfl⟩ | ⟨rfl, rfl⟩
              · rw [if_pos (by have := H0.out; omega)]
                go_enter Try.func60, Try.ntmps60
                go_wp2_with fail
                refine hrt.mono ?_
                rintro e w1 ⟨rfl, f1⟩
                obtain ⟨c0, c1, c2, c3, c4, c5, c6⟩ := HB.out _ f1
                go_wp2_with fail
                refine (hck _).mono ?_
                rintro e w2 ⟨rfl, rfl⟩
                go_wp2_with fail
                refine (hcv _).mono ?_
                rintro e w2 ⟨rfl, rfl⟩
                go_wp2
                go_ret
                exact ⟨rfl, f0.seq' f1⟩
              · rw [if_neg (by have := H0.out; omega)]
                cases x <;>
                (go_enter Try.func60, Try.ntmps60
                 go_wp2_with fail
                 refine hrt.mono ?_
                 rintro e w1 ⟨rfl, f1⟩
                 obtain ⟨c0, c1, c2, c3, c4, c5, c6⟩ := HB.out _ f1
                 go_wp2_with fail
                 refine (hck _).mono ?_
                 rintro e w2 ⟨rfl, rfl⟩
                 go_wp2_with fail
                 refine (hcv _).mono ?_
                 rintro e w2 ⟨rfl, rfl⟩
                 go_wp2_with fail
                 refine (hfu _).mono ?_
                 rintro e w3 ⟨rfl, f3⟩
                 go_wp2
                 go_ret
                 exact ⟨rfl, (f0.seq' f1).seq' f3⟩)
              · rw [if_neg (by omega)]
                cases x <;>
                (go_enter Try.func60, Try.ntmps60
                 go_wp2_with fail
                 refine hrt.mono ?_
                 rintro e w1 ⟨rfl, f1⟩
                 obtain ⟨c0, c1, c2, c3, c4, c5, c6⟩ := HB.out _ f1
                 go_wp2_with fail
                 refine (hck _).mono ?_
                 rintro e w2 ⟨rfl, rfl⟩
                 go_wp2_with fail
                 refine (hcv _).mono ?_
                 rintro e w2 ⟨rfl, rfl⟩
                 go_wp2_with fail
                 refine (hfu _).mono ?_
                 rintro e w3 ⟨rfl, f3⟩
                 go_wp2
                 go_ret
                 exact ⟨rfl, (f0.seq' f1).seq' f3⟩)
end Go.Proofs.Ytaaedmacefiinaa

/- Lists of keys that rise: where a key stands in them. -/
namespace Go.Proofs.Ytaaedmacefiinaa
open Go.RowKit

theorem cpl_lt_trans {a b c : List Nat} (h1 : cpl a b < 0) (h2 : cpl b c < 0) : cpl a c < 0 := by
  have h := cpl_trans a b c (by omega) (by omega)
  rcases Int.lt_or_eq_of_le h with h3 | h3
  · exact h3
  · have e := (cpl_eq a c).1 h3
    rw [e] at h1
    rw [cpl_neg c b] at h2
    omega
theorem cpl_le_lt {a b c : List Nat} (h1 : cpl a b ≤ 0) (h2 : cpl b c < 0) : cpl a c < 0 := by
  rcases Int.lt_or_eq_of_le h1 with h | h
  · exact cpl_lt_trans h h2
  · rw [(cpl_eq a b).1 h]; exact h2
theorem cpl_lt_le {a b c : List Nat} (h1 : cpl a b < 0) (h2 : cpl b c ≤ 0) : cpl a c < 0 := by
  rcases Int.lt_or_eq_of_le h2 with h | h
  · exact cpl_lt_trans h1 h
  · rw [← (cpl_eq b c).1 h]; exact h1
theorem cpl_pos {a b : List Nat} : 0 < cpl a b ↔ cpl b a < 0 := by rw [cpl_neg b a]; omega
/-- Keys that rise. -/
def srt (l : List ByteArray) : Prop := ∀ i j, i < j → j < l.length → cpl (bsOf (l.getD i ByteArray.empty)) (bsOf (l.getD j ByteArray.empty)) < 0
theorem srt_of {l : List ByteArray} (h : ∀ i, i < l.length → 0 < i → cpl (bsOf (l.getD (i - 1) ByteArray.empty)) (bsOf (l.getD i ByteArray.empty)) < 0) : srt l := by
  intro i j hij
  induction j with
  | zero => omega
  | succ j ih =>
    intro hj
    have h1 := h (j + 1) hj (by omega)
    rw [show j + 1 - 1 = j by omega] at h1
    rcases Nat.lt_or_ge i j with h2 | h2
    · exact cpl_lt_trans (ih h2 (by omega)) h1
    · rw [show i = j by omega]; exact h1
theorem Rt.srt {n : Nd} (h : Rt n) : srt n.keys := srt_of (fun i hi h0 => (h.keys i hi).2.1 h0)
/-- Where a key stands. -/
structure Pl (k : List Nat) (l : List ByteArray) (i : Nat) (f : Bool) : Prop where
  le : i ≤ l.length
  lt : ∀ j, j < i → cpl (bsOf (l.getD j ByteArray.empty)) k < 0
  eq : f = true → i < l.length ∧ bsOf (l.getD i ByteArray.empty) = k
  ge : ∀ j, i ≤ j → j < l.length → (f = false ∨ i < j) → 0 < cpl (bsOf (l.getD j ByteArray.empty)) k
theorem plc_pl {k : List Nat} {l : List ByteArray} (hs : srt l) : Pl k l (plc k l).1 (plc k l).2 := by
  by_cases h : ∃ i, i < l.length ∧ 0 ≤ cpl (bsOf (l.getD i ByteArray.empty)) k
  · have hm : ∃ i, (i < l.length ∧ 0 ≤ cpl (bsOf (l.getD i ByteArray.empty)) k) ∧ ∀ j, j < i → ¬ (j < l.length ∧ 0 ≤ cpl (bsOf (l.getD j ByteArray.empty)) k) := by
      obtain ⟨i0, h0⟩ := h
      induction i0 using Nat.strongRecOn with
      | ind i0 ih =>
        by_cases h1 : ∃ j, j < i0 ∧ (j < l.length ∧ 0 ≤ cpl (bsOf (l.getD j ByteArray.empty)) k)
        · obtain ⟨j, hj, h2⟩ := h1
          exact ih j hj h2
        · exact ⟨i0, h0, fun j hj h2 => h1 ⟨j, hj, h2⟩⟩
    obtain ⟨i, ⟨hi, hge⟩, hmin⟩ := hm
    have hlt : ∀ j, j < i → cpl (bsOf (l.getD j ByteArray.empty)) k < 0 := fun j hj => by
      have := hmin j hj
      rcases Int.lt_or_le (cpl (bsOf (l.getD j ByteArray.empty)) k) 0 with h3 | h3
      · exact h3
      · exact absurd ⟨by omega, h3⟩ this
    rw [plc_hit k l i hi hlt hge]
    refine ⟨by simp only; omega, hlt, fun h => ⟨hi, by simpa using h⟩, fun j h1 h2 h3 => ?_⟩
    simp only at h1 h3
    rcases Nat.lt_or_ge i j with h4 | h4
    · have h5 := hs i j h4 h2
      rw [cpl_pos]
      have h6 : cpl k (bsOf (l.getD i ByteArray.empty)) ≤ 0 := by rw [cpl_neg]; omega
      exact cpl_le_lt h6 h5
    · have e : i = j := by omega
      subst e
      rcases h3 with h3 | h3
      · have h7 : bsOf (l.getD i ByteArray.empty) ≠ k := by simpa using h3
        rcases Int.lt_or_eq_of_le hge with h8 | h8
        · exact h8
        · exact absurd ((cpl_eq _ _).1 h8.symm) h7
      · omega
  · have hall : ∀ j, j < l.length → cpl (bsOf (l.getD j ByteArray.empty)) k < 0 := fun j hj => by
      rcases Int.lt_or_le (cpl (bsOf (l.getD j ByteArray.empty)) k) 0 with h3 | h3
      · exact h3
      · exact absurd ⟨j, hj, h3⟩ h
    rw [plc_miss k l hall]
    refine ⟨Nat.le_refl _, hall, ?_, ?_⟩
    · intro h; cases h
    · intro j h1 h2 _; simp only at h1; omega
/-- Of the keys up to where the kid of a key stands. -/
def kidF (k : ByteArray) (l : List ByteArray) : Nat := (plc (bsOf k) l).1 + (if (plc (bsOf k) l).2 = true then 1 else 0)
theorem kid_le {k : ByteArray} {l : List ByteArray} (hs : srt l) : kidF k l ≤ l.length := by
  have h := plc_pl (k := bsOf k) hs
  unfold kidF
  split
  · rename_i e
    have := (h.eq e).1
    omega
  · have := h.le; omega
theorem kid_iff {k : ByteArray} {l : List ByteArray} (hs : srt l) (j : Nat) (hj : j < l.length) : cpl (bsOf (l.getD j ByteArray.empty)) (bsOf k) ≤ 0 ↔ j < kidF k l := by
  have h := plc_pl (k := bsOf k) hs
  unfold kidF
  cases hf : (plc (bsOf k) l).2
  · rw [if_neg (by simp), Nat.add_zero]
    rw [hf] at h
    constructor
    · intro h1
      rcases Nat.lt_or_ge j (plc (bsOf k) l).1 with h2 | h2
      · exact h2
      · have := h.ge j h2 hj (.inl rfl); omega
    · intro h1
      have := h.lt j h1; omega
  · rw [if_pos rfl]
    rw [hf] at h
    constructor
    · intro h1
      rcases Nat.lt_or_ge j ((plc (bsOf k) l).1 + 1) with h2 | h2
      · exact h2
      · have := h.ge j (by omega) hj (.inr (by omega)); omega
    · intro h1
      rcases Nat.lt_or_ge j (plc (bsOf k) l).1 with h2 | h2
      · have := h.lt j h2; omega
      · have e : j = (plc (bsOf k) l).1 := by omega
        rw [e, (h.eq rfl).2, cpl_refl]; omega
/-- A key that stands at j is found there. -/
theorem plc_at {k : ByteArray} {l : List ByteArray} (hs : srt l) (j : Nat) (hj : j < l.length) (he : bsOf (l.getD j ByteArray.empty) = bsOf k) : plc (bsOf k) l = (j, true) := by
  have := plc_hit (bsOf k) l j hj (fun i hi => by rw [← he]; exact hs i j hi hj) (by rw [he, cpl_refl]; omega)
  rw [this, he]
  simp
theorem plc_none {k : ByteArray} {l : List ByteArray} (hs : srt l) (h : ∀ j, j < l.length → bsOf (l.getD j ByteArray.empty) ≠ bsOf k) : (plc (bsOf k) l).2 = false := by
  cases hf : (plc (bsOf k) l).2
  · rfl
  · have := (plc_pl (k := bsOf k) hs).eq hf
    exact absurd this.2 (h _ this.1)
end Go.Proofs.Ytaaedmacefiinaa
