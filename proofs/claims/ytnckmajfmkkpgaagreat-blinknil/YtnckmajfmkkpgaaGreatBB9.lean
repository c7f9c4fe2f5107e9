
/- NilRef, Args, Items, RefText, PgEnc. -/
import Derived.Test.YtnckmajfmkkpgaaGreatBB8
import Derived.Test.YtnckmajfmkkpgaaGreatBB1
import Derived.Test.YtnckmajfmkkpgaaGreatRows
import Derived.ProofKit
import Derived.OpenShut
import Derived.ShutString
import Derived.ChangeOld
import Derived.SizedLaws
import Derived.Deep.Strs
import Derived.Test.YtnckmajfmkkpgaaGreatBB4
/- What a nil writer and a nil reader tell; the document's Fits and Sized. -/
namespace Go.Proofs.YtnckmajfmkkpgaaGreat
open Go.RowKit

def sizedB (s : Int) : Bool := decide (s = 1 ∨ s = 2 ∨ s = 4 ∨ s = 8)
def fitB (n size : Int) : Bool := decide (0 ≤ n ∧ (size = 1 ∧ n < 256 ∨ size = 2 ∧ n < 65536 ∨ size = 4 ∧ n < 4294967296 ∨ size = 8))
theorem fitB_fit {n size : Int} (h : fitB n size = true) : fit n size := by
  have := of_decide_eq_true h; exact this
theorem fitB_sized {n size : Int} (h : fitB n size = true) : size = 1 ∨ size = 2 ∨ size = 4 ∨ size = 8 := by
  have := of_decide_eq_true h; omega

theorem rnum_nil_any (size : Int) (w : World) :
    Calls Tryz.prog 117 #[.pointer none, .int .i64 size] w fun e w' => e = .returned (.tuple #[.int .i64 0, .int .i64 (cond (sizedB size) 10 1)]) ∧ w' = w := by
  by_cases h : size = 1 ∨ size = 2 ∨ size = 4 ∨ size = 8
  · rw [show sizedB size = true from decide_eq_true h]; exact rnum_nil size h w
  · rw [show sizedB size = false from decide_eq_false h]; exact rnum_arg none size (fun e => h (.inl e)) (fun e => h (.inr (.inl e))) (fun e => h (.inr (.inr (.inl e)))) (fun e => h (.inr (.inr (.inr e)))) w
end Go.Proofs.YtnckmajfmkkpgaaGreat

/- A slice of bytes that came in, as a row. -/
namespace Go.Proofs.YtnckmajfmkkpgaaGreat
open Go.ChangeShapes Go.WideShapes Go.ChangeAt Go.RowKit

theorem row_nil (w : World) (a : Option Addr) : Row w a 0 [] := ⟨Nat.le_refl _, by omega, by simp, (fun x hx => by cases hx), .inl rfl⟩
theorem row_of_ints {w : World} {x : Addr} {len cap : Nat} {zs : List Int} (hl : len ≤ cap) (hcap : cap ≤ 140737488351232) (hz : zs.length = cap)
    (hcell : ∀ i, i < zs.length → w.cell? (x.add i) = some (.int .u8 (zs.getD i 0))) (hwz : ∀ n ∈ zs, (Lit.int .u8 n).wf = true) : ∃ l : List Nat, len = l.length ∧ Row w (some x) cap l := by
  have hr := range_u8 hwz
  refine ⟨(zs.take len).map Int.toNat, by simp; omega, ?_⟩
  refine ⟨by simp; omega, by omega, by simp; omega, ?_, ?_⟩
  · intro y hy
    simp only [List.mem_map] at hy
    obtain ⟨z, hzm, rfl⟩ := hy
    have hz2 := List.mem_of_mem_take hzm
    obtain ⟨i, hi, he⟩ := List.getElem_of_mem hz2
    have := hr i
    rw [List.getElem?_eq_getElem hi, Option.getD_some, he] at this
    omega
  · by_cases h0 : len = 0
    · exact .inl (by simp [h0])
    · obtain ⟨b, off, spot⟩ := x
      have hc := hcell 0 (by omega)
      have hspot : spot = none := by simpa [Addr.add] using World.cell?_spot hc
      subst hspot
      refine .inr ⟨b, off, rfl, World.block_lt_of_cell? w ⟨b, off + 0, none⟩ (by rw [Addr.add_lit] at hc; exact hc), fun i hi => ?_⟩
      simp at hi
      have h1 := hcell i (by omega)
      rw [Addr.add_lit] at h1
      rw [h1]
      have h2 := hr i
      simp only [List.getD_eq_getElem?_getD, List.getElem?_map, List.getElem?_take, if_pos (show i < len by omega)]
      rw [List.getElem?_eq_getElem (show i < zs.length by omega)] at h2 ⊢
      simp only [Option.getD_some, Option.map_some] at h2 ⊢
      rw [Int.toNat_of_nonneg h2.1]
end Go.Proofs.YtnckmajfmkkpgaaGreat

/- A slice of items that came in: what lies in memory. -/
namespace Go.Proofs.YtnckmajfmkkpgaaGreat
open Go.ChangeShapes Go.WideShapes Go.ChangeAt Go.RowKit Go.Deep

/-- An item: a number, a size, a text. -/
abbrev It : Type := Int × Int × ByteArray
def itD : It := (0, 0, ByteArray.empty)
def itCells (x : It) : List Value := [.int .i64 x.1, .int .i64 x.2.1, .string x.2.2]
def itWf (x : It) : Prop := (-9223372036854775808 ≤ x.1 ∧ x.1 ≤ 9223372036854775807) ∧ (-9223372036854775808 ≤ x.2.1 ∧ x.2.1 ≤ 9223372036854775807)

structure Items (w : World) (a : Option Addr) (cap : Nat) (its : List It) : Prop where
  le : its.length ≤ cap
  max : cap ≤ 9223372036854775807
  wf : ∀ i, i < its.length → itWf (its.getD i itD)
  at_ : its = [] ∨ ∃ b off, a = some ⟨b, off, none⟩ ∧ b < w.heap.size ∧ ∀ i, i < its.length →
    w.cell? ⟨b, off + i * 3, none⟩ = some (.int .i64 (its.getD i itD).1) ∧ w.cell? ⟨b, off + i * 3 + 1, none⟩ = some (.int .i64 (its.getD i itD).2.1) ∧ w.cell? ⟨b, off + i * 3 + 2, none⟩ = some (.string (its.getD i itD).2.2)

theorem Items.same {w w' : World} {a : Option Addr} {cap : Nat} {its : List It} (h : Items w a cap its) (f : Fr (fun _ => False) w w') : Items w' a cap its := by
  refine ⟨h.le, h.max, h.wf, ?_⟩
  rcases h.at_ with h0 | ⟨b, off, rfl, hb, hc⟩
  · exact .inl h0
  · refine .inr ⟨b, off, rfl, Nat.lt_of_lt_of_le hb f.size, fun i hi => ?_⟩
    obtain ⟨h1, h2, h3⟩ := hc i hi
    exact ⟨(f.cell hb (fun x => x)).trans h1, (f.cell hb (fun x => x)).trans h2, (f.cell hb (fun x => x)).trans h3⟩

/-- What an item reads as. -/
def itData {H : Type} (x : It) : DataW H := .agg [.lit (.int .i64 x.1), .lit (.int .i64 x.2.1), .lit (.string x.2.2.data.toList)]

end Go.Proofs.YtnckmajfmkkpgaaGreat

/- What the document's own Text makes; what a list of items is written as. -/
namespace Go.Proofs.YtnckmajfmkkpgaaGreat
open Go.RowKit

/-- What an item is written as. -/
def outIt (x : It) : List Nat :=
  if x.2.1 = 0 then (if x.2.2.size ≤ 65535 then le 2 x.2.2.size ++ bsOf x.2.2 else []) else (if fitB x.1 x.2.1 = true then le x.2.1.toNat x.1.toNat else [])
def outs (its : List It) : List Nat := its.flatMap outIt
def wt (its : List It) : Nat := (its.map fun (x : It) => x.2.2.size + 4).sum

theorem outIt_len (x : It) : (outIt x).length ≤ 2 * (x.2.2.size + 4) := by
  unfold outIt
  split
  · split
    · simp [le_length, bsOf_length]; omega
    · simp
  · split
    · rename_i h
      have := fitB_sized h
      rw [le_length]; omega
    · simp
theorem outs_len (its : List It) : (outs its).length ≤ 2 * wt its := by
  induction its with
  | nil => simp [outs, wt]
  | cons x l ih =>
    have h1 := outIt_len x
    have e1 : outs (x :: l) = outIt x ++ outs l := rfl
    have e2 : wt (x :: l) = (x.2.2.size + 4) + wt l := by simp [wt]
    rw [e1, e2, List.length_append]; omega
theorem wt_take (its : List It) (k : Nat) : wt (its.take k) ≤ wt its := by
  induction its generalizing k with
  | nil => simp [wt]
  | cons x l ih =>
    cases k with
    | zero => simp [wt]
    | succ k =>
      have e1 : wt ((x :: l).take (k + 1)) = (x.2.2.size + 4) + wt (l.take k) := by simp [wt]
      have e2 : wt (x :: l) = (x.2.2.size + 4) + wt l := by simp [wt]
      have := ih k
      rw [e1, e2]; omega
theorem itake_snoc (l : List It) (k : Nat) (h : k < l.length) : l.take (k + 1) = l.take k ++ [l.getD k itD] := by
  rw [List.take_succ_eq_append_getElem h, List.getD_eq_getElem?_getD, List.getElem?_eq_getElem h]; rfl
theorem outs_succ (its : List It) (k : Nat) (h : k < its.length) : outs (its.take (k + 1)) = outs (its.take k) ++ outIt (its.getD k itD) := by
  rw [itake_snoc its k h]; simp [outs, List.flatMap_append]
theorem outIt_octs (x : It) : octs (outIt x) := by
  unfold outIt
  split
  · split
    · exact octs_app (le_octs _ _) (bsOf_octs _)
    · intro y hy; cases hy
  · split
    · exact le_octs _ _
    · intro y hy; cases hy
theorem outs_octs (its : List It) : octs (outs its) := by
  intro y hy
  simp only [outs, List.mem_flatMap] at hy
  obtain ⟨x, _, hx⟩ := hy
  exact outIt_octs x y hx
/-- What an item's text weighs. -/
theorem wt_part (its : List It) (k : Nat) (h : k < its.length) : wt (its.take k) + ((its.getD k itD).2.2.size + 4) ≤ wt its := by
  have h1 := wt_take its (k + 1)
  rw [itake_snoc its k h] at h1
  simp only [wt, List.map_append, List.map_cons, List.map_nil, List.sum_append, List.sum_cons, List.sum_nil] at h1 ⊢
  omega
end Go.Proofs.YtnckmajfmkkpgaaGreat

/- A node's bytes; what page.bytesOf and page.sumOf make. -/
namespace Go.Proofs.YtnckmajfmkkpgaaGreat
open Go.RowKit Crcm

def txt (s : ByteArray) : List Nat := le 2 s.size ++ bsOf s
theorem txt_length (s : ByteArray) : (txt s).length = s.size + 2 := by simp [txt, le_length, bsOf_length]; omega
/-- What a node's bytes begin with. -/
def hd (n : Nd) : List Nat := le 1 n.lev.toNat ++ le 8 n.lsn.toNat ++ le 4 n.rgt.toNat ++ le 2 n.keys.length ++ txt n.high ++ (if n.lev = 0 then [] else le 4 (n.kids.getD 0 0).toNat)
/-- An entry's bytes. -/
def en (n : Nd) (i : Nat) : List Nat := txt (n.keys.getD i ByteArray.empty) ++ (if n.lev = 0 then txt (n.vals.getD i ByteArray.empty) else le 4 (n.kids.getD (i + 1) 0).toNat)
def ens (n : Nd) : Nat → List Nat
  | 0 => []
  | k + 1 => ens n k ++ en n k
/-- A node's bytes. -/
def nb (n : Nd) : List Nat := hd n ++ ens n n.keys.length
def pad (l : List Nat) : List Nat := l ++ List.replicate (252 - l.length) 0
/-- A node's page. -/
def pg (n : Nd) : List Nat := pad (nb n) ++ le 4 (crc (pad (nb n)))

theorem tsz_take_le (l : List ByteArray) (k : Nat) : tsz (l.take k) ≤ tsz l := by
  induction l generalizing k with
  | nil => simp [tsz]
  | cons x r ih => cases k with
    | zero => simp [tsz]
    | succ k =>
      have := ih k
      have e1 : tsz ((x :: r).take (k + 1)) = (x.size + 2) + tsz (r.take k) := by simp [tsz]
      have e2 : tsz (x :: r) = (x.size + 2) + tsz r := by simp [tsz]
      omega
theorem hd_length (n : Nd) : (hd n).length = 17 + n.high.size + (if n.lev = 0 then 0 else 4) := by
  unfold hd
  simp only [List.length_append, le_length, txt_length]
  split
  · simp; omega
  · rw [le_length]; omega
theorem ens_leaf (n : Nd) (h : n.lev = 0) (k : Nat) (hk : k ≤ n.keys.length) (hv : k ≤ n.vals.length) : (ens n k).length = tsz (n.keys.take k) + tsz (n.vals.take k) := by
  induction k with
  | zero => simp [ens, tsz]
  | succ k ih =>
    rw [ens, List.length_append, ih (by omega) (by omega), tsz_snoc _ _ (by omega), tsz_snoc _ _ (by omega)]
    simp only [en, if_pos h, List.length_append, txt_length]; omega
theorem ens_inner (n : Nd) (h : ¬ n.lev = 0) (k : Nat) (hk : k ≤ n.keys.length) : (ens n k).length = tsz (n.keys.take k) + 4 * k := by
  induction k with
  | zero => simp [ens, tsz]
  | succ k ih =>
    rw [ens, List.length_append, ih (by omega), tsz_snoc _ _ (by omega)]
    simp only [en, if_neg h, List.length_append, txt_length, le_length]; omega
/-- What a right node is, at hand. -/
structure Rt (n : Nd) : Prop where
  lev0 : 0 ≤ n.lev
  lev1 : n.lev ≤ 20
  lsn0 : 0 ≤ n.lsn
  lsn1 : n.lsn ≤ 1099511627776
  rgt0 : 0 ≤ n.rgt
  rgt1 : n.rgt ≤ 4096
  high : n.high.size ≤ 16
  keys : ∀ i, i < n.keys.length → kok n.high n.keys i
  leaf : n.lev = 0 → n.vals.length = n.keys.length ∧ n.kids.length = 0 ∧ ∀ i, i < n.vals.length → (n.vals.getD i ByteArray.empty).size ≤ 32
  inner : n.lev ≠ 0 → n.kids.length = n.keys.length + 1 ∧ n.vals.length = 0 ∧ ∀ i, i < n.kids.length → 1 ≤ n.kids.getD i 0 ∧ n.kids.getD i 0 ≤ 4096
  size : sizeN n ≤ 256
theorem right_iff (n : Nd) : rightB n = true ↔ Rt n := by
  unfold rightB headB
  simp only [Bool.and_eq_true, decide_eq_true_eq, wthB]
  constructor
  · rintro ⟨⟨a, b, c, d⟩, e, f, g⟩
    refine ⟨a.1, a.2, b.1, b.2, c.1, c.2, d, keysB_of e, ?_, ?_, g⟩
    · intro h; unfold entB at f; rw [if_pos h] at f; simp only [Bool.and_eq_true, beq_iff_eq] at f; exact ⟨f.1, f.2.1, valsB_of f.2.2⟩
    · intro h; unfold entB at f; rw [if_neg h] at f; simp only [Bool.and_eq_true, beq_iff_eq] at f
      exact ⟨f.1, f.2.1, fun i hi => by have := kidsB_of f.2.2 i hi; simpa [wthB] using this⟩
  · rintro ⟨a, b, c, d, e, f, g, hk, hl, hi, hs⟩
    refine ⟨⟨⟨a, b⟩, ⟨c, d⟩, ⟨e, f⟩, g⟩, keysB_yes hk, ?_, hs⟩
    unfold entB
    by_cases h : n.lev = 0
    · rw [if_pos h]; obtain ⟨x, y, z⟩ := hl h; simp [x, y, valsB_yes z]
    · rw [if_neg h]; obtain ⟨x, y, z⟩ := hi h; simp only [Bool.and_eq_true, beq_iff_eq]
      exact ⟨x, y, kidsB_yes (fun i hi => by simpa [wthB] using z i hi)⟩
theorem nb_length {n : Nd} (h : Rt n) : (nb n).length + 4 = sizeN n := by
  unfold nb sizeN
  rw [List.length_append, hd_length]
  by_cases h0 : n.lev = 0
  · obtain ⟨x, y, _⟩ := h.leaf h0
    rw [if_pos h0, if_pos h0, ens_leaf n h0 _ (Nat.le_refl _) (by omega), List.take_length, ← x, List.take_length]; omega
  · obtain ⟨x, y, _⟩ := h.inner h0
    rw [if_neg h0, if_neg h0, ens_inner n h0 _ (Nat.le_refl _), List.take_length]; omega
theorem part_length {n : Nd} (h : Rt n) (k : Nat) (hk : k ≤ n.keys.length) : (hd n ++ ens n k).length ≤ 252 := by
  have hn := nb_length h
  have hs := h.size
  have : (ens n k).length ≤ (ens n n.keys.length).length := by
    by_cases h0 : n.lev = 0
    · obtain ⟨x, y, _⟩ := h.leaf h0
      rw [ens_leaf n h0 _ hk (by omega), ens_leaf n h0 _ (Nat.le_refl _) (by omega), List.take_length, ← x, List.take_length]
      have := tsz_take_le n.keys k; have := tsz_take_le n.vals k; omega
    · rw [ens_inner n h0 _ hk, ens_inner n h0 _ (Nat.le_refl _), List.take_length]
      have := tsz_take_le n.keys k; omega
  unfold nb at hn
  rw [List.length_append] at hn ⊢
  omega
theorem octs_nil : octs [] := fun x hx => by cases hx
theorem le_octs' (k n : Nat) : octs (le k n) := by
  induction k with
  | zero => exact octs_nil
  | succ k ih => exact octs_app ih (fun x hx => by simp at hx; omega)
theorem txt_octs (s : ByteArray) : octs (txt s) := octs_app (le_octs' _ _) (bsOf_octs _)
theorem hd_octs (n : Nd) : octs (hd n) := by
  unfold hd
  refine octs_app (octs_app (octs_app (octs_app (octs_app (le_octs' _ _) (le_octs' _ _)) (le_octs' _ _)) (le_octs' _ _)) (txt_octs _)) ?_
  split
  · exact octs_nil
  · exact le_octs' _ _
theorem ens_octs (n : Nd) (k : Nat) : octs (ens n k) := by
  induction k with
  | zero => exact octs_nil
  | succ k ih =>
    refine octs_app ih (octs_app (txt_octs _) ?_)
    split
    · exact txt_octs _
    · exact le_octs' _ _
theorem nb_octs (n : Nd) : octs (nb n) := octs_app (hd_octs n) (ens_octs n _)
theorem pad_octs {l : List Nat} (h : octs l) : octs (pad l) := octs_app h (fun x hx => by rw [List.mem_replicate] at hx; omega)
theorem pg_octs (n : Nd) : octs (pg n) := octs_app (pad_octs (nb_octs n)) (le_octs' _ _)
theorem pad_length {l : List Nat} (h : l.length ≤ 252) : (pad l).length = 252 := by simp [pad]; omega

end Go.Proofs.YtnckmajfmkkpgaaGreat
