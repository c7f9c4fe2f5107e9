
/- AlAll, BkTree, RsMath, RsBase, RsLook, RsIm. -/
import Derived.Test.YtkibbojiflklpaaGreatBB32
import Derived.Laws.IdiomStrings
import Derived.Lib.SlBytesConst
import Derived.Test.YtkibbojiflklpaaGreatRXC
import Derived.Test.YtkibbojiflklpaaGreatBB33
/- A map of pages (alloc), beside the texts of redo. -/
namespace Go.Proofs.YtkibbojiflklpaaGreat
open Go.RowKit
theorem Fr.any {S : Nat → Prop} {a b : World} (h : Fr (fun _ => False) a b) : Fr S a b := h.mono (fun _ _ f => f.elim)
theorem Fr.block_eq {S : Nat → Prop} {w w' : World} (f : Fr S w w') {k : Nat} {o : Obj} (h : w.heap[k]? = some o) (hn : ¬ S k) : w'.heap[k]? = some o := by
  rw [f.block k (lt_of_block h) hn]; exact h
theorem Row.lt {w : World} {a : Option Addr} {cap : Nat} {l : List Nat} (h : Row w a cap l) {b off : Nat} (ha : a = some ⟨b, off, none⟩) (hl : l ≠ []) : b < w.heap.size := by
  rcases h.at_ with h0 | ⟨b', off', h1, hb, _⟩
  · exact absurd h0 hl
  · rw [ha] at h1; simp at h1; omega
theorem Has.bytes {w : World} {a : Option Addr} {n c : Nat} {l : List Nat} (h : Has w 1 (.slice a n c) n (cellsOf l)) (hl : octs l) (hs : l.length ≤ 140737488355328) : Row w a c l := by
  have hn : n = l.length := by have := h.1; rw [cellsOf_length] at this; omega
  subst hn
  rcases h.2 with ⟨h1, h0⟩ | ⟨g, cap, hv, hg, hnc, hcm, hth, hra⟩
  · simp only [Value.slice.injEq] at h1
    obtain ⟨rfl, _, rfl⟩ := h1
    have : l = [] := List.eq_nil_of_length_eq_zero h0
    subst this
    exact ⟨Nat.le_refl _, by omega, hs, hl, .inl rfl⟩
  · simp only [Value.slice.injEq, true_and] at hv
    obtain ⟨rfl, rfl⟩ := hv
    exact ⟨hnc, by unfold maxLen at hcm; omega, hs, hl, .inr ⟨g, 0, rfl, hg, fun i hi => by
      have := hra i _ (cellsOf_get l i hi)
      simpa using this⟩⟩
theorem Row.from {w : World} {a : Option Addr} {c : Nat} {l : List Nat} (h : Row w a c l) : From w a (cellsOf l) := by
  rcases h.at_ with h0 | ⟨b, off, rfl, _, hc⟩
  · exact .inl (by rw [h0]; rfl)
  · refine .inr ⟨b, off, rfl, fun j u hu => ?_⟩
    have hj : j < l.length := by have := (List.getElem?_eq_some_iff.1 hu).1; rwa [cellsOf_length] at this
    rw [cellsOf_get l j hj] at hu
    rw [hc j hj]; exact hu

theorem strOf_size (l : List Nat) : (strOf l).size = l.length := by simp [strOf, ByteArray.size]

theorem made_flat {z : Array Value} {size : Nat} (hz : z.size = size) (hp : 0 < size) (n : Nat) : (madeCells z (n * size)).toList = (List.replicate n ()).flatMap (fun _ => z.toList) := by
  have hf : ∀ x : Unit, (z.toList).length = size := fun _ => by simpa using hz
  apply List.ext_getElem?
  intro k
  by_cases hk : k < n * size
  · have hd : k / size < n := (Nat.div_lt_iff_lt_mul hp).2 hk
    have hm : k % size < size := Nat.mod_lt _ hp
    have hk2 : k = k / size * size + k % size := by rw [Nat.mul_comm]; exact (Nat.div_add_mod k size).symm
    have e := flat_get (f := fun _ : Unit => z.toList) (size := size) (fun _ => hf ()) (List.replicate n ()) (k / size) () (by simp [hd]) (k % size) hm
    rw [← hk2] at e
    rw [e]
    have hlt : k % z.size < z.size := by rw [hz]; exact hm
    simp only [madeCells, Array.toList_map, List.getElem?_map, Array.getElem?_toList, Array.getElem?_range, hk, if_true, Option.map_some]
    rw [hz] at hlt ⊢
    rw [Array.getElem?_eq_getElem (by rw [hz]; exact hlt)]
    congr 1
    exact getElem!_pos z (k % size) (by rw [hz]; exact hlt)
  · rw [List.getElem?_eq_none, List.getElem?_eq_none]
    · rw [flat_length (size := size) (fun _ => hf ())]; simp; omega
    · rw [Array.length_toList, size_madeCells]; omega
theorem replicate_flat {α : Type} (f : α → List Value) (x : α) (n : Nat) : (List.replicate n ()).flatMap (fun _ => f x) = (List.replicate n x).flatMap f := by
  induction n with
  | zero => rfl
  | succ n ih => rw [List.replicate_succ, List.replicate_succ, List.flatMap_cons, List.flatMap_cons, ih]
theorem ownsRow.has {w : World} {base : Nat} {e : TypeId} {size : Nat} {v : Value} {n : Nat} {xs : List Value} (h : w.ownsRow base e size v n xs) : Has w size v n xs := by
  refine ⟨h.1, ?_⟩
  rcases h.2 with h2 | ⟨g, cap, cur, rfl, hg, hh, hnc, hcm, hcs, htake⟩
  · exact .inl h2
  · refine .inr ⟨g, cap, rfl, lt_of_block hh, hnc, hcm, there_block hh (by omega), range_block hh (fun j u hu => ?_)⟩
    rw [← htake, List.getElem?_take] at hu
    rw [Nat.zero_add]
    split at hu
    · simpa using hu
    · cases hu
theorem flat_length' {α : Type} {f : α → List Value} {x : α} {size : Nat} (n : Nat) (hl : (f x).length = size) : ((List.replicate n x).flatMap f).length = size * n := by
  induction n with
  | zero => simp
  | succ n ih => rw [List.replicate_succ, List.flatMap_cons, List.length_append, hl, ih, Nat.mul_succ]; omega
theorem Has.made {α : Type} (f : α → List Value) (x : α) {size : Nat} (hp : 0 < size) {z : Value} (hz : z.cells.toList = f x) (hl : (f x).length = size) (n : Nat) (hn : n ≤ maxLen) (w : World) (e : TypeId) :
    Has (w.alloc (.cells (madeCells z.cells (n * size)) e)) size (.slice (some ⟨w.heap.size, 0, none⟩) n n) n ((List.replicate n x).flatMap f) := by
  have hs : z.cells.size = size := by rw [← hl, ← hz]; simp
  have hb := heap_alloc_new w (.cells (madeCells z.cells (n * size)) e)
  refine ⟨by rw [flat_length' n hl, Nat.mul_comm], .inr ⟨_, _, rfl, by simp, Nat.le_refl _, hn, there_block hb (by rw [size_madeCells]; omega), range_block hb (fun j u hu => ?_)⟩⟩
  rw [Nat.zero_add, ← Array.getElem?_toList, made_flat hs hp, hz, replicate_flat]
  exact hu
end Go.Proofs.YtkibbojiflklpaaGreat
namespace Go.Proofs.YtkibbojiflklpaaGreat.Al
open Go.RowKit

/-- The bit k of bytes. -/
def bitOf (L : List Nat) (k : Nat) : Bool := (L.getD (k / 8) 0).testBit (k % 8)
/-- Bytes with the bit k turned. -/
def turned (L : List Nat) (k : Nat) : List Nat := L.set (k / 8) (L.getD (k / 8) 0 ^^^ 2 ^ (k % 8))

/-- A map at block b: its bound, and its bits. -/
structure Mp (w : World) (b : Nat) (most : Nat) (L : List Nat) : Prop where
  box : Has w 513 (.slice (some ⟨b, 0, none⟩) 1 1) 1 (.int .i64 most :: cellsOf L)
  len : L.length = 512
  byte : octs L
  pos : 1 ≤ most
  top : most ≤ 4096
  tail : ∀ k, most ≤ k → bitOf L k = false

theorem Mp.form {w : World} {b most : Nat} {L : List Nat} (h : Mp w b most L) : b < w.heap.size ∧ w.there b 0 513 ∧ w.rangeAt b 0 (.int .i64 most :: cellsOf L) := by
  obtain ⟨g, cap, hv, hg, _, _, h1, h2⟩ := h.box.form (by omega)
  simp only [Value.slice.injEq, Option.some.injEq, Addr.mk.injEq, and_true, true_and] at hv
  obtain ⟨rfl, rfl⟩ := hv
  exact ⟨hg, by simpa using h1, h2⟩
theorem Mp.lt {w : World} {b most : Nat} {L : List Nat} (h : Mp w b most L) : b < w.heap.size := h.form.1
theorem Mp.cell0 {w : World} {b most : Nat} {L : List Nat} (h : Mp w b most L) : w.cell? ⟨b, 0, none⟩ = some (.int .i64 most) := by
  have := h.form.2.2 0 _ rfl
  simpa using this
theorem Mp.cellB {w : World} {b most : Nat} {L : List Nat} (h : Mp w b most L) (j : Nat) (hj : j < 512) : w.cell? ⟨b, 1 + j, none⟩ = some (.int .u8 ((L.getD j 0 : Nat) : Int)) := by
  have := h.form.2.2 (j + 1) (.int .u8 ((L.getD j 0 : Nat) : Int)) (by rw [List.getElem?_cons_succ]; exact cellsOf_get L j (by rw [h.len]; exact hj))
  rw [Nat.zero_add, Nat.add_comm] at this
  exact this
theorem Mp.free {w : World} {b most : Nat} {L : List Nat} (h : Mp w b most L) (j : Nat) (hj : j < 513) : w.frozen? ⟨b, j, none⟩ = false := by
  have := (h.form.2.1 j hj).2
  simpa using this
theorem Mp.fr {S : Nat → Prop} {w w' : World} {b most : Nat} {L : List Nat} (h : Mp w b most L) (f : Fr S w w') (hn : ¬ S b) : Mp w' b most L :=
  ⟨h.box.fr f (fun k hk => by simp [Value.ownBlock] at hk; rwa [← hk]), h.len, h.byte, h.pos, h.top, h.tail⟩
theorem Mp.same {w w' : World} {b most : Nat} {L : List Nat} (h : Mp w b most L) (f : Fr (fun _ => False) w w') : Mp w' b most L := h.fr f (fun f => f)
theorem Mp.set {w : World} {b most : Nat} {L : List Nat} (h : Mp w b most L) (j x : Nat) (hj : j < 512) (hx : x < 256) (ht : ∀ k, most ≤ k → bitOf (L.set j x) k = false) : Mp (w.setCell ⟨b, 1 + j, none⟩ (.int .u8 x)) b most (L.set j x) := by
  have hb := h.box.set (1 + j) [.int .u8 x] (by simp [cellsOf_length, h.len]; omega)
  refine ⟨?_, by rw [List.length_set]; exact h.len, ?_, h.pos, h.top, ht⟩
  · have e : (Value.int .i64 (most : Int) :: cellsOf L).take (1 + j) ++ [.int .u8 (x : Int)] ++ (Value.int .i64 (most : Int) :: cellsOf L).drop (1 + j + [Value.int .u8 (x : Int)].length) = .int .i64 most :: cellsOf (L.set j x) := by
      have hl : j < (cellsOf L).length := by rw [cellsOf_length, h.len]; exact hj
      have e1 : cellsOf (L.set j x) = (cellsOf L).set j (.int .u8 x) := by unfold cellsOf; rw [List.map_set]
      rw [e1, List.set_eq_take_append_cons_drop, if_pos hl]
      rw [show 1 + j = j + 1 by omega]
      simp
    rw [e] at hb
    exact hb
  · intro y hy
    rcases List.mem_or_eq_of_mem_set hy with h1 | rfl
    · exact h.byte y h1
    · exact hx

theorem bit_lt {x k : Nat} (hx : x < 256) (hk : k < 8) : x ^^^ 2 ^ k < 256 := Nat.xor_lt_two_pow (n := 8) hx (by
  have : 2 ^ k < 2 ^ 8 := Nat.pow_lt_pow_right (by omega) hk
  simpa using this)
theorem bitOf_turned (L : List Nat) (k : Nat) (hk : k / 8 < L.length) (j : Nat) : bitOf (turned L k) j = if j = k then !bitOf L k else bitOf L j := by
  unfold bitOf turned
  by_cases h : j / 8 = k / 8
  · rw [h, List.getD_eq_getElem?_getD, List.getElem?_set_self hk]
    simp only [Option.getD_some]
    rw [Nat.testBit_xor, Nat.testBit_two_pow]
    by_cases hm : j = k
    · subst hm; simp
    · have : k % 8 ≠ j % 8 := by omega
      simp [hm, this]
  · have hne : j ≠ k := fun e => h (by rw [e])
    rw [if_neg hne, List.getD_eq_getElem?_getD, List.getElem?_set_ne (fun e => h e.symm), List.getD_eq_getElem?_getD]

theorem ret_tt {a b : Int} {x y : Int} (h : a = b) (k : x = y) : Ending.returned (.tuple #[.int .i64 a, .int .u8 x]) = .returned (.tuple #[.int .i64 b, .int .u8 y]) := by rw [h, k]
theorem pow_lt8 (k : Nat) : 2 ^ (k % 8) < 256 := by
  have : 2 ^ (k % 8) < 2 ^ 8 := Nat.pow_lt_pow_right (by omega) (Nat.mod_lt _ (by omega))
  simpa using this
theorem pow_mod (k : Nat) : (2 : Int) ^ (k % 8) % 256 = ((2 ^ (k % 8) : Nat) : Int) := by
  have := pow_lt8 k
  have e : (2 : Int) ^ (k % 8) = ((2 ^ (k % 8) : Nat) : Int) := by simp
  rw [e]
  exact Int.emod_eq_of_lt (Int.natCast_nonneg _) (Int.ofNat_lt.2 this)
theorem and_bit (y k : Nat) (hy : y < 256) : (bits BinOp.and IntKind.u8 (y : Int) ((2 ^ (k % 8) : Nat) : Int) != 0) = y.testBit (k % 8) := by
  rw [u8_and_nat y _ hy (pow_lt8 k)]
  have hm : k % 8 < 8 := Nat.mod_lt _ (by omega)
  generalize k % 8 = i at hm
  have e : (y &&& 2 ^ i != 0) = y.testBit i := by
    rw [Bool.eq_iff_iff]
    simp only [bne_iff_ne, ne_eq]
    constructor
    · intro h
      obtain ⟨j, hj⟩ := Nat.exists_testBit_of_ne_zero h
      rw [Nat.testBit_and, Nat.testBit_two_pow] at hj
      simp at hj
      rw [hj.2]; exact hj.1
    · intro h h0
      have : (y &&& 2 ^ i).testBit i = true := by rw [Nat.testBit_and, h, Nat.testBit_two_pow]; simp
      rw [h0] at this
      simp at this
  rw [← e]
  rw [Bool.eq_iff_iff]
  simp only [bne_iff_ne, ne_eq]
  exact not_congr Int.ofNat_eq_zero
/-- What Has tells. -/
def hasF (most : Nat) (L : List Nat) (i : Int) : Bool := decide (1 ≤ i ∧ i ≤ most) && bitOf L (i.toNat - 1)
theorem mp_turn {w : World} {b most : Nat} {L : List Nat} (h : Mp w b most L) (k : Nat) (hk : k < most) : Mp (w.setCell ⟨b, 1 + k / 8, none⟩ (.int .u8 ((L.getD (k / 8) 0 ^^^ 2 ^ (k % 8) : Nat) : Int))) b most (turned L k) := by
  have hl : k / 8 < L.length := by have := h.len; have := h.top; omega
  refine h.set (k / 8) _ (by have := h.top; omega) (bit_lt (octs_getD h.byte _) (Nat.mod_lt _ (by omega))) (fun j hj => ?_)
  have := bitOf_turned L k hl j
  rw [if_neg (by omega), h.tail j hj] at this
  exact this
/-- How many bits 0 a byte ends with. -/
def tzTab : ByteArray := ⟨#[8, 0, 1, 0, 2, 0, 1, 0, 3, 0, 1, 0, 2, 0, 1, 0, 4, 0, 1, 0, 2, 0, 1, 0, 3, 0, 1, 0, 2, 0, 1, 0, 5, 0, 1, 0, 2, 0, 1, 0, 3, 0, 1, 0, 2, 0, 1, 0, 4, 0, 1, 0, 2, 0, 1, 0, 3, 0, 1, 0, 2, 0, 1, 0, 6, 0, 1, 0, 2, 0, 1, 0, 3, 0, 1, 0, 2, 0, 1, 0, 4, 0, 1, 0, 2, 0, 1, 0, 3, 0, 1, 0, 2, 0, 1, 0, 5, 0, 1, 0, 2, 0, 1, 0, 3, 0, 1, 0, 2, 0, 1, 0, 4, 0, 1, 0, 2, 0, 1, 0, 3, 0, 1, 0, 2, 0, 1, 0, 7, 0, 1, 0, 2, 0, 1, 0, 3, 0, 1, 0, 2, 0, 1, 0, 4, 0, 1, 0, 2, 0, 1, 0, 3, 0, 1, 0, 2, 0, 1, 0, 5, 0, 1, 0, 2, 0, 1, 0, 3, 0, 1, 0, 2, 0, 1, 0, 4, 0, 1, 0, 2, 0, 1, 0, 3, 0, 1, 0, 2, 0, 1, 0, 6, 0, 1, 0, 2, 0, 1, 0, 3, 0, 1, 0, 2, 0, 1, 0, 4, 0, 1, 0, 2, 0, 1, 0, 3, 0, 1, 0, 2, 0, 1, 0, 5, 0, 1, 0, 2, 0, 1, 0, 3, 0, 1, 0, 2, 0, 1, 0, 4, 0, 1, 0, 2, 0, 1, 0, 3, 0, 1, 0, 2, 0, 1, 0]⟩
def tzv (x : Nat) : Nat := (tzTab.data.getD x 0).toNat
/-- How many bits a byte has. -/
def lnTab : ByteArray := ⟨#[0, 1, 2, 2, 3, 3, 3, 3, 4, 4, 4, 4, 4, 4, 4, 4, 5, 5, 5, 5, 5, 5, 5, 5, 5, 5, 5, 5, 5, 5, 5, 5, 6, 6, 6, 6, 6, 6, 6, 6, 6, 6, 6, 6, 6, 6, 6, 6, 6, 6, 6, 6, 6, 6, 6, 6, 6, 6, 6, 6, 6, 6, 6, 6, 7, 7, 7, 7, 7, 7, 7, 7, 7, 7, 7, 7, 7, 7, 7, 7, 7, 7, 7, 7, 7, 7, 7, 7, 7, 7, 7, 7, 7, 7, 7, 7, 7, 7, 7, 7, 7, 7, 7, 7, 7, 7, 7, 7, 7, 7, 7, 7, 7, 7, 7, 7, 7, 7, 7, 7, 7, 7, 7, 7, 7, 7, 7, 7, 8, 8, 8, 8, 8, 8, 8, 8, 8, 8, 8, 8, 8, 8, 8, 8, 8, 8, 8, 8, 8, 8, 8, 8, 8, 8, 8, 8, 8, 8, 8, 8, 8, 8, 8, 8, 8, 8, 8, 8, 8, 8, 8, 8, 8, 8, 8, 8, 8, 8, 8, 8, 8, 8, 8, 8, 8, 8, 8, 8, 8, 8, 8, 8, 8, 8, 8, 8, 8, 8, 8, 8, 8, 8, 8, 8, 8, 8, 8, 8, 8, 8, 8, 8, 8, 8, 8, 8, 8, 8, 8, 8, 8, 8, 8, 8, 8, 8, 8, 8, 8, 8, 8, 8, 8, 8, 8, 8, 8, 8, 8, 8, 8, 8, 8, 8, 8, 8, 8, 8, 8, 8, 8, 8, 8, 8, 8, 8]⟩
def lnv (x : Nat) : Nat := (lnTab.data.getD x 0).toNat
set_option maxRecDepth 100000 in
theorem tz_facts : ∀ x : Fin 256, tzv x.1 ≤ 8 ∧ (x.1 ≠ 0 → tzv x < 8 ∧ x.1.testBit (tzv x) = true ∧ ∀ i : Fin 8, i.1 < tzv x → x.1.testBit i = false) := by decide +kernel
set_option maxRecDepth 100000 in
theorem ln_facts : ∀ x : Fin 256, lnv x.1 ≤ 8 ∧ (x.1 < 2 ^ lnv x.1) ∧ ∀ i : Fin 8, lnv x.1 = i.1 + 1 → x.1.testBit i.1 = true := by decide +kernel
theorem tab_get (T : ByteArray) (x : Nat) (h : x < T.size) : (T[x]'h).toNat = (T.data.getD x 0).toNat := by
  have h' : x < T.data.size := h
  rw [Array.getD_eq_getD_getElem?, Array.getElem?_eq_getElem h']
  rfl
theorem wrap_small (n : Nat) (h : n ≤ 8) : wrap64 (n : Int) = n := by unfold wrap64; omega
theorem bit_full {x i : Nat} (hx : x = 255) (hi : i < 8) : x.testBit i = true := by
  subst hx
  have : i = 0 ∨ i = 1 ∨ i = 2 ∨ i = 3 ∨ i = 4 ∨ i = 5 ∨ i = 6 ∨ i = 7 := by omega
  rcases this with rfl | rfl | rfl | rfl | rfl | rfl | rfl | rfl <;> rfl
set_option maxRecDepth 100000 in
theorem comp_bits : ∀ (x : Fin 256) (i : Fin 8), (255 - x.1).testBit i.1 = !(x.1.testBit i.1) := by decide +kernel
set_option maxRecDepth 100000 in
theorem compl_eq : ∀ y : Fin 256, 255 ^^^ y.1 = 255 - y.1 := by decide +kernel
theorem compl_u8 (y : Nat) (hy : y < 256) : bits BinOp.xor IntKind.u8 IntKind.u8.max (y : Int) = ((255 - y : Nat) : Int) := by
  have : IntKind.u8.max = ((255 : Nat) : Int) := by decide +kernel
  rw [this, u8_xor_nat 255 y (by omega) hy]
  exact congrArg _ (compl_eq ⟨y, hy⟩)
theorem all_full (L : List Nat) (j : Nat) (h : ∀ x, x < j → L.getD x 0 = 255) (k : Nat) (hk : k < 8 * j) : bitOf L k = true := bit_full (h (k / 8) (by omega)) (Nat.mod_lt _ (by omega))
/-- The first bit that is 0, at byte j. -/
theorem first_free (L : List Nat) (hL : octs L) (j : Nat) (h : ∀ x, x < j → L.getD x 0 = 255) (hne : L.getD j 0 ≠ 255) :
    tzv (255 - L.getD j 0) < 8 ∧ bitOf L (j * 8 + tzv (255 - L.getD j 0)) = false ∧ ∀ k, k < j * 8 + tzv (255 - L.getD j 0) → bitOf L k = true := by
  have hx := octs_getD hL j
  have hf := (tz_facts ⟨255 - L.getD j 0, by omega⟩).2 (by simp only; omega)
  simp only at hf
  obtain ⟨h1, h2, h3⟩ := hf
  have hcb := fun (i : Nat) (hi : i < 8) => comp_bits ⟨L.getD j 0, hx⟩ ⟨i, hi⟩
  simp only at hcb
  refine ⟨h1, ?_, fun k hk => ?_⟩
  · have := hcb _ h1
    rw [h2] at this
    unfold bitOf
    rw [show (j * 8 + tzv (255 - L.getD j 0)) / 8 = j by omega, show (j * 8 + tzv (255 - L.getD j 0)) % 8 = tzv (255 - L.getD j 0) by omega]
    simpa using this
  · rcases Nat.lt_or_ge k (8 * j) with hlt | hge
    · exact all_full L j h k hlt
    · have hm : k % 8 < 8 := Nat.mod_lt _ (by omega)
      have := h3 ⟨k % 8, hm⟩ (by simp only; omega)
      simp only at this
      have hc := hcb _ hm
      rw [this] at hc
      unfold bitOf
      rw [show k / 8 = j by omega]
      simpa using hc

/-- Whether k is the least free page's bit. -/
def least (L : List Nat) (k : Nat) : Prop := bitOf L k = false ∧ ∀ j, j < k → bitOf L j = true
/-- What Take does. -/
def TakeOut (b most : Nat) (L : List Nat) (w : World) (e : Ending) (w' : World) : Prop :=
  (e = .returned (.tuple #[.int .i64 0, .int .i64 5]) ∧ w' = w ∧ ∀ k, k < most → bitOf L k = true) ∨
  ∃ k : Nat, k < most ∧ least L k ∧ e = .returned (.tuple #[.int .i64 ((k : Int) + 1), .int .i64 0]) ∧ Mp w' b most (turned L k) ∧ Fr (fun j => j = b) w w'
/-- What Mark and Free answer and leave, of a page that is to be as 'on' says. -/
def setE (most : Nat) (L : List Nat) (on : Bool) (i : Int) : Int := if 1 ≤ i ∧ i ≤ most then (if bitOf L (i.toNat - 1) = on then 7 else 0) else 6
def setL (most : Nat) (L : List Nat) (on : Bool) (i : Int) : List Nat := if 1 ≤ i ∧ i ≤ most then (if bitOf L (i.toNat - 1) = on then L else turned L (i.toNat - 1)) else L
def zeroL : List Nat := List.replicate 512 0
/-- A map's cells. -/
def mc (most : Nat) (L : List Nat) : List Value := .int .i64 most :: cellsOf L
theorem mc_length (most : Nat) (L : List Nat) (h : L.length = 512) : (mc most L).length = 513 := by simp [mc, cellsOf_length, h]
theorem zero_bits (k : Nat) : bitOf zeroL k = false := by
  unfold bitOf zeroL
  rw [List.getD_eq_getElem?_getD, List.getElem?_replicate]
  split <;> simp
end Go.Proofs.YtkibbojiflklpaaGreat.Al

/- A tree in memory; the tree of pages. -/
namespace Go.Proofs.YtkibbojiflklpaaGreat
open Go.RowKit

theorem tree_cells {W : World} {b : Nat} {t : TypeId} {c0 c1 c2 : Value} (h : W.heap[b]? = some (.cells #[c0, c1, c2] t (0, 0))) : (W.cell? ⟨b, 0, none⟩ = some c0 ∧ W.cell? ⟨b, 1, none⟩ = some c1 ∧ W.cell? ⟨b, 2, none⟩ = some c2) ∧ ∀ j, W.frozen? ⟨b, j, none⟩ = false := by
  refine ⟨⟨?_, ?_, ?_⟩, fun j => ?_⟩
  all_goals simp [World.cell?, World.frozen?, h]
theorem tree_set {W : World} {b : Nat} {t : TypeId} {c0 c1 c2 : Value} (h : W.heap[b]? = some (.cells #[c0, c1, c2] t (0, 0))) (u : Value) : (W.setCell ⟨b, 2, none⟩ u).heap[b]? = some (.cells #[c0, c1, u] t (0, 0)) := by
  obtain ⟨hlt, he⟩ := Array.getElem?_eq_some_iff.1 h
  show (W.heap.modify b _)[b]? = _
  rw [Array.getElem?_eq_getElem (by rw [Array.size_modify]; exact hlt), Array.getElem_modify_self, he]
  rfl
def mx (a b : Int) : Int := max a b
def maxL (ls : List Sl) : Int := ls.foldl (fun m s => mx m s.nd.lsn) 0
theorem maxL_take {ls : List Sl} {k : Nat} {s : Sl} (h : ls[k]? = some s) : maxL (ls.take (k + 1)) = mx (maxL (ls.take k)) s.nd.lsn := by
  obtain ⟨hk, e⟩ := List.getElem?_eq_some_iff.1 h
  unfold maxL
  rw [List.take_succ_eq_append_getElem hk, List.foldl_append, e]
  rfl
/-- What Check tells. -/
def ckE (ls : List Sl) : Int := if (leavesF ls).isSome = true then 0 else 130
theorem check_call (a : Option Addr) (n c : Nat) (ls : List Sl) (hn : n = ls.length) (w : World) (h : Slots w a c ls) : Calls Tryz.prog 27 #[.slice a n c] w fun e w' => e = .returned (.int .i64 (ckE ls)) ∧ Fr (fun _ => False) w w' := by
  have hlv := leaves_any a n c ls hn w h
  clear h hn
  go_enter Tryz.func27, Tryz.ntmps27
  go_wp2_with fail
  refine hlv.mono ?_
  intro e w1 ho
  obtain ⟨la, ln, lc, lb, rfl, hlb, _, _, _, f1⟩ := lv_both ho
  have HLB : Hid (lb = (leavesF ls).isSome) := hlb
  clear hlv ho hlb
  cases lb
  · go_wp2
    go_ret
    exact ⟨by unfold ckE; rw [← HLB.out]; rfl, f1⟩
  · go_wp2
    go_ret
    exact ⟨by unfold ckE; rw [← HLB.out]; rfl, f1⟩
end Go.Proofs.YtkibbojiflklpaaGreat

/- What was replayed is not done again. -/
namespace Go.Proofs.YtkibbojiflklpaaGreat
open Go.RowKit

/-- A record that a page is behind. -/
def Past (o : Option Nd) (r : Rec) : Prop := rok r = true ∧ ((∀ b, needE r.kind b = 1) ∨ (needE r.kind true = 0 ∧ ∃ n, o = some n ∧ r.lsn ≤ n.lsn))
theorem ap_cases {n : Nd} {b : Bool} {r : Rec} (h : (if apE n b r = 1 then 0 else apE n b r) = 0) : apE n b r = 1 ∨ apE n b r = 0 := by
  by_cases e : apE n b r = 1
  · exact .inl e
  · rw [if_neg e] at h; exact .inr h
theorem need_one {k : Int} {b : Bool} (h : needE k b = 1) : ∀ c, needE k c = 1 := by
  intro c
  unfold needE at h ⊢
  by_cases h4 : k = 4
  · rw [if_pos h4] at h; cases h
  · rw [if_neg h4] at h ⊢
    by_cases h2 : k = 2 ∨ k = 3 ∨ k = 5 ∨ k = 6
    · rw [if_pos h2] at h
      cases b <;> simp at h
    · rw [if_neg h2]
theorem need_yes {k : Int} {b : Bool} (h : needE k b = 0) : needE k true = 0 := by
  unfold needE at h ⊢
  by_cases h4 : k = 4
  · rw [if_pos h4]
  · rw [if_neg h4] at h ⊢
    by_cases h2 : k = 2 ∨ k = 3 ∨ k = 5 ∨ k = 6
    · rw [if_pos h2, if_pos rfl]
    · rw [if_neg h2] at h; cases h
theorem pre_zero {n : Nd} {b : Bool} {r : Rec} (h : apE n b r = 0) : preE n b r = 0 := by
  unfold apE at h
  by_cases e : preE n b r = 0
  · exact e
  · rw [if_neg e] at h; exact absurd h e
theorem ap_one {n : Nd} {b : Bool} {r : Rec} (h : apE n b r = 1) : rok r = true ∧ needE r.kind b = 1 := by
  have hp : preE n b r = 1 := by
    unfold apE at h
    by_cases e : preE n b r = 0
    · rw [if_pos e] at h
      split at h
      · cases h
      · split at h <;> cases h
    · rw [if_neg e] at h; exact h
  unfold preE at hp
  simp only [firstE] at hp
  by_cases h1 : erec r = 0
  · rw [if_pos h1] at hp
    have hr : rok r = true := by
      cases hr : rok r
      · rw [erec_no hr] at h1; cases h1
      · rfl
    refine ⟨hr, ?_⟩
    by_cases h2 : (if b = true then rgE n else 0) = 0
    · rw [if_pos h2] at hp
      by_cases h3 : needE r.kind b = 0
      · rw [if_pos h3] at hp; cases hp
      · rw [if_neg h3] at hp; exact hp
    · rw [if_neg h2] at hp
      exfalso
      split at hp
      · unfold rgE at hp
        split at hp <;> cases hp
      · cases hp
  · rw [if_neg h1] at hp
    exfalso
    unfold erec at hp
    split at hp <;> cases hp
/-- What a record that is done makes of a page's LSN. -/
theorem ap_lsn {n : Nd} {b : Bool} {r : Rec} (h : apE n b r = 0) : (apN n b r = n ∧ b = true ∧ r.lsn ≤ n.lsn) ∨ ((apN n b r).lsn = r.lsn ∧ (b = true → n.lsn < r.lsn)) := by
  have hp := pre_zero h
  cases ho : oldB n b r
  · have hc : chE n r = 0 := by
      by_cases e : chE n r = 0
      · exact e
      · rw [(ap_bad hp ho e).2.2] at h; cases h
    refine .inr ⟨by rw [(ap_ok hp ho hc).1]; rfl, fun hb => ?_⟩
    unfold oldB at ho
    rw [hb] at ho
    simp at ho
    omega
  · refine .inl ⟨(ap_old hp ho).1, ?_⟩
    unfold oldB at ho
    simpa using ho
theorem past_step {o : Option Nd} {r : Rec} (h : st1E o r = 0) : Past (st1 o r) r := by
  rcases ap_cases h with e | e
  · obtain ⟨h1, h2⟩ := ap_one e
    exact ⟨h1, .inl (need_one h2)⟩
  · obtain ⟨h1, _, h3⟩ := pre_ok (pre_zero e)
    refine ⟨h1, .inr ⟨need_yes h3, _, if_neg (by rw [e]; decide), ?_⟩⟩
    rcases ap_lsn e with ⟨e1, _, e3⟩ | ⟨e1, _⟩
    · rw [e1]; exact e3
    · rw [e1]; omega
theorem past_keep {o : Option Nd} {r x : Rec} (h : st1E o r = 0) (p : Past o x) : Past (st1 o r) x := by
  refine ⟨p.1, ?_⟩
  rcases p.2 with p | ⟨p1, n, rfl, p2⟩
  · exact .inl p
  · refine .inr ⟨p1, ?_⟩
    rcases ap_cases h with e | e
    · exact ⟨n, if_pos e, p2⟩
    · refine ⟨_, if_neg (by rw [e]; decide), ?_⟩
      rcases ap_lsn e with ⟨e1, _, _⟩ | ⟨e1, e2⟩
      · rw [e1]; exact p2
      · have := e2 rfl
        rw [e1]
        have h3 : (some n).getD zn = n := rfl
        rw [h3] at this
        omega
theorem past_none {o : Option Nd} {x : Rec} (p : Past o x) (hr : ∀ n, o = some n → rightB n = true) : st1E o x = 0 ∧ st1 o x = o := by
  have he : erec x = 0 := erec_yes p.1
  have hg : (if o.isSome = true then rgE (o.getD zn) else 0) = 0 := by
    cases o with
    | none => rfl
    | some n =>
      show (if true = true then rgE n else 0) = 0
      rw [if_pos rfl]
      unfold rgE
      rw [hr n rfl]; rfl
  rcases p.2 with p | ⟨p1, n, rfl, p2⟩
  · have hp : preE (o.getD zn) o.isSome x = 1 := by
      unfold preE
      simp only [firstE]
      rw [if_pos he, if_pos hg, p, if_neg (by decide)]
    have ha := (ap_err hp (by decide)).2.2
    unfold st1E st1
    rw [if_pos ha, if_pos ha]
    exact ⟨rfl, rfl⟩
  · have hp : preE n true x = 0 := by
      unfold preE
      simp only [firstE]
      have hg2 : rgE n = 0 := hg
      simp [he, hg2, p1]
    have ho : oldB n true x = true := by unfold oldB; simpa using p2
    obtain ⟨a1, _, a3⟩ := ap_old hp ho
    unfold st1E st1
    show (if apE n true x = 1 then 0 else apE n true x) = 0 ∧ (if apE n true x = 1 then some n else some (apN n true x)) = some n
    rw [a3, a1]
    exact ⟨rfl, rfl⟩
theorem past_rp {ps : List (Int × Nd)} (h : PsOk ps) {r x : Rec} (h0 : rpE ps r = 0) (p : x = r ∨ Past (getP ps x.page) x) : Past (getP (rpP ps r) x.page) x := by
  have h1 : st1E (getP ps r.page) r = 0 := by rw [← rp_st h.1 r]; exact h0
  rw [rp_get h.1 r h0]
  rcases p with rfl | p
  · rw [if_pos rfl]; exact past_step h1
  · by_cases e : x.page = r.page
    · rw [if_pos e]; rw [e] at p; exact past_keep h1 p
    · rw [if_neg e]; exact p
theorem rpl_past {rs : List Rec} : ∀ {ps qs : List (Int × Nd)}, PsOk ps → rplP ps rs = (qs, 0) → ∀ x, (x ∈ rs ∨ Past (getP ps x.page) x) → Past (getP qs x.page) x := by
  induction rs with
  | nil =>
    intro ps qs _ e x hx
    simp only [rplP, Prod.mk.injEq, and_true] at e
    subst e
    rcases hx with hx | hx
    · cases hx
    · exact hx
  | cons r rs ih =>
    intro ps qs h e x hx
    simp only [rplP] at e
    by_cases h0 : rpE ps r = 0
    · rw [if_pos h0] at e
      refine ih (h.step r h0) e x ?_
      rcases hx with hx | hx
      · rcases List.mem_cons.1 hx with rfl | hx
        · exact .inr (past_rp h h0 (.inl rfl))
        · exact .inl hx
      · exact .inr (past_rp h h0 (.inr hx))
    · rw [if_neg h0] at e
      simp only [Prod.mk.injEq] at e
      exact absurd e.2 h0
/-- Records that all pages are behind change nothing. -/
theorem rpl_again {qs : List (Int × Nd)} (h : PsOk qs) (hr : ∀ p ∈ qs, rightB p.2 = true) : ∀ (rs : List Rec), (∀ x ∈ rs, Past (getP qs x.page) x) → rplP qs rs = (qs, 0) := by
  intro rs
  induction rs with
  | nil => intro _; rfl
  | cons x rs ih =>
    intro hp
    obtain ⟨e1, e2⟩ := past_none (hp x (by simp)) (fun n hn => hr _ (get_some hn))
    have h0 : rpE qs x = 0 := by rw [rp_st h.1 x]; exact e1
    have hq : rpP qs x = qs := by
      refine get_ext _ _ (h.step x h0).1 h.1 (fun y => ?_)
      rw [rp_get h.1 x h0]
      by_cases e : y = x.page
      · rw [if_pos e, e2, e]
      · rw [if_neg e]
    simp only [rplP]
    rw [if_pos h0, hq]
    exact ih (fun y hy => hp y (by simp [hy]))
/-- No page gets an LSN beyond those that were there and those of the records. -/
theorem rp_most {ps : List (Int × Nd)} {r : Rec} {M : Int} (h : ∀ p ∈ ps, p.2.lsn ≤ M) (hM : 0 ≤ M) (hr : r.lsn ≤ M) : ∀ p ∈ rpP ps r, p.2.lsn ≤ M := by
  have hn : (nodeP ps r.page).lsn ≤ M := by
    unfold nodeP
    split
    · cases hp : ps[ahP ps r.page]? with
      | none => exact hM
      | some p => exact h p (List.mem_of_getElem? hp)
    · exact hM
  have ha : ∀ b, (apN (nodeP ps r.page) b r).lsn ≤ M := fun b => by
    unfold apN
    split
    · split
      · exact hn
      · split
        · exact hr
        · exact hM
    · exact hM
  intro p hp
  unfold rpP at hp
  split at hp
  · exact h p hp
  · split at hp
    · split at hp
      · rcases List.mem_or_eq_of_mem_set hp with hp | rfl
        · exact h p hp
        · exact ha _
      · rw [List.mem_append, List.mem_cons] at hp
        rcases hp with hp | rfl | hp
        · exact h p (List.mem_of_mem_take hp)
        · exact ha _
        · exact h p (List.mem_of_mem_drop hp)
    · cases hp
theorem rpl_most {rs : List Rec} {M : Int} (hM : 0 ≤ M) : ∀ {ps qs : List (Int × Nd)}, (∀ p ∈ ps, p.2.lsn ≤ M) → (∀ r ∈ rs, r.lsn ≤ M) → rplP ps rs = (qs, 0) → ∀ p ∈ qs, p.2.lsn ≤ M := by
  induction rs with
  | nil =>
    intro ps qs h _ e
    simp only [rplP, Prod.mk.injEq, and_true] at e
    subst e
    exact h
  | cons r rs ih =>
    intro ps qs h hr e
    simp only [rplP] at e
    by_cases h0 : rpE ps r = 0
    · rw [if_pos h0] at e
      exact ih (rp_most h hM (hr r (by simp))) (fun x hx => hr x (by simp [hx])) e
    · rw [if_neg h0] at e
      simp only [Prod.mk.injEq] at e
      exact absurd e.2 h0
/-- A page that is there stays there. -/
theorem rpl_there {rs : List Rec} {y : Int} : ∀ {ps qs : List (Int × Nd)}, PsOk ps → (getP ps y).isSome = true → rplP ps rs = (qs, 0) → (getP qs y).isSome = true := by
  induction rs with
  | nil =>
    intro ps qs _ h e
    simp only [rplP, Prod.mk.injEq, and_true] at e
    subst e
    exact h
  | cons r rs ih =>
    intro ps qs hk h e
    simp only [rplP] at e
    by_cases h0 : rpE ps r = 0
    · rw [if_pos h0] at e
      refine ih (hk.step r h0) ?_ e
      rw [rp_get hk.1 r h0]
      by_cases e : y = r.page
      · rw [if_pos e]
        unfold st1
        split
        · rw [← e]; exact h
        · rfl
      · rw [if_neg e]; exact h
    · rw [if_neg h0] at e
      simp only [Prod.mk.injEq] at e
      exact absurd e.2 h0
end Go.Proofs.YtkibbojiflklpaaGreat

/- Restart: whether bytes are none or 0, and the newest page. -/
namespace Go.Proofs.YtkibbojiflklpaaGreat
open Go.RowKit

/-- No byte, or none but 0. -/
def zeroB (l : List Nat) : Bool := l.all (· == 0)
theorem zeroB_no {l : List Nat} {k : Nat} (hk : k < l.length) (h : l.getD k 0 ≠ 0) : zeroB l = false := by
  unfold zeroB
  rw [List.all_eq_false]
  refine ⟨l[k], List.getElem_mem hk, ?_⟩
  rw [List.getD_eq_getElem?_getD, List.getElem?_eq_getElem hk] at h
  simpa using h
theorem zeroB_yes {l : List Nat} (h : ∀ j, j < l.length → l.getD j 0 = 0) : zeroB l = true := by
  unfold zeroB
  rw [List.all_eq_true]
  intro x hx
  obtain ⟨j, hj, rfl⟩ := List.mem_iff_getElem.1 hx
  have := h j hj
  rw [List.getD_eq_getElem?_getD, List.getElem?_eq_getElem hj] at this
  simpa using this
set_option maxRecDepth 100000 in
set_option maxHeartbeats 2000000 in
theorem isZero_any (a : Option Addr) (n c : Nat) (l : List Nat) (hn : n = l.length) (w : World) (h : Row w a c l) : Calls Tryz.prog 93 #[.slice a n c] w fun e w' => e = .returned (.bool (zeroB l)) ∧ Fr (fun _ => False) w w' := by
  have hle : n ≤ c := by rw [hn]; exact h.le
  have hmx := h.max
  have HA : Hid (l = [] ∨ ∃ b off, a = some ⟨b, off, none⟩ ∧ b < w.heap.size ∧ ∀ i, i < l.length → w.cell? ⟨b, off + i, none⟩ = some (.int .u8 ((l.getD i 0 : Nat) : Int))) := h.at_
  have HN : Hid (n = l.length) := hn
  clear h hn
  go_enter Tryz.func93, Tryz.ntmps93
  go_wp2
  go_loopw [7] (fun i wr => ∃ (k : Nat), k ≤ n ∧ i = .int .i64 k ∧ Hid (∀ j, j < k → l.getD j 0 = 0) ∧ Fr (fun _ => False) w wr) (fun i _ => n - (intOf i).toNat)
  case atStart => exact ⟨0, by omega, rfl, fun j hj => by omega, Fr.refl _ _⟩
  case round =>
    obtain ⟨k, hk, rfl, HZ, F⟩ := hrel
    by_cases hlt : k < n
    · have hl : k < l.length := by have := HN.out; omega
      obtain ⟨b, off, rfl, hb, hc⟩ := HA.out.resolve_left (fun e => by rw [e] at hl; simp at hl)
      have hq := (F.cell (p := ⟨b, off + k, none⟩) hb (fun f => f)).trans (hc k hl)
      have hki : (k : Int) < (n : Int) := by omega
      obtain ⟨x, hx⟩ : ∃ x, x = l.getD k 0 := ⟨_, rfl⟩
      rw [← hx] at hq
      have HX : Hid (x = l.getD k 0) := hx
      have HL : Hid (k < l.length) := hl
      clear hx hl hc
      by_cases h0 : x = 0
      · subst h0
        have HZ2 : Hid (∀ j, j < k + 1 → l.getD j 0 = 0) := fun j hj => by
          by_cases e : j = k
          · rw [e]; exact HX.out.symm
          · exact HZ.out j (by omega)
        go_wp2
        go_roundw
        case rel => exact ⟨k + 1, by omega, by go_num, HZ2, F⟩
        case measure => simp [intOf]; omega
      · have hx0 : ((x : Int) == 0) = false := by simpa using h0
        have HR : Hid (zeroB l = false) := zeroB_no HL.out (by rw [← HX.out]; exact h0)
        go_wp2
        go_ret
        exact ⟨by first | (rw [HR.out]; done) | (rw [HR.out]; rfl) | simp [HR.out], F⟩
    · obtain rfl : k = n := by omega
      have HR : Hid (zeroB l = true) := zeroB_yes (fun j hj => HZ.out j (by have := HN.out; omega))
      clear HZ
      go_wp2
      go_ret
      exact ⟨by first | (rw [HR.out]; done) | (rw [HR.out]; rfl) | simp [HR.out], F⟩
set_option maxRecDepth 100000 in
set_option maxHeartbeats 4000000 in
theorem newest_any (a : Option Addr) (n c : Nat) (ls : List Sl) (hn : n = ls.length) (w : World) (h : Slots w a c ls) : Calls Tryz.prog 24 #[.slice a n c] w fun e w' => e = .returned (.int .i64 (maxL ls)) ∧ Fr (fun _ => False) w w' := by
  have hle : n ≤ c := by rw [hn]; exact h.le
  have hmx := h.max
  have HS : Hid (∀ W, Fr (fun _ => False) w W → Slots W a c ls) := fun W f => h.same f
  have HN : Hid (n = ls.length) := hn
  clear h hn
  go_enter Tryz.func24, Tryz.ntmps24
  go_wp2
  go_loopw [3, 8] (fun m i wr => ∃ (k : Nat) (lm : Int), k ≤ n ∧ i = .int .i64 k ∧ m = .int .i64 lm ∧ Hid (lm = maxL (ls.take k)) ∧ Fr (fun _ => False) w wr) (fun _ i _ => n - (intOf i).toNat)
  case atStart => exact ⟨0, 0, by omega, rfl, rfl, rfl, Fr.refl _ _⟩
  case round =>
    obtain ⟨k, lm, hk, rfl, rfl, HM, F⟩ := hrel
    by_cases hlt : k < n
    · obtain ⟨s, hs⟩ : ∃ s, ls[k]? = some s := ⟨_, List.getElem?_eq_getElem (by have := HN.out; omega)⟩
      obtain ⟨b, off, rfl, hb, hc⟩ := (HS.out _ F).some (by have := HN.out; omega)
      obtain ⟨q0, q1, q2, q3, q4, q5, q6, q7⟩ := sl_range (hc k s hs)
      have hki : (k : Int) < (n : Int) := by omega
      have HM2 : Hid (max lm s.nd.lsn = maxL (ls.take (k + 1))) := by
        show _ = _
        rw [maxL_take hs, HM.out]; rfl
      have FB := F.alloc (.cells #[.int .i64 s.page, .int .i64 s.nd.lev, .int .i64 s.nd.lsn, .int .i64 s.nd.rgt, .string s.nd.high, .slice s.pt.k s.nd.keys.length s.pt.kc, .slice s.pt.v s.nd.vals.length s.pt.vc, .slice s.pt.i s.nd.kids.length s.pt.ic] 35)
      clear hs hc HM
      go_wp2
      go_roundw
      case rel => exact ⟨k + 1, max lm s.nd.lsn, by omega, by go_num, rfl, HM2, FB⟩
      case measure => simp [intOf]; omega
    · obtain rfl : k = n := by omega
      have HR : Hid (lm = maxL ls) := by
        have := HM.out
        rw [List.take_of_length_le (by have := HN.out; omega)] at this
        exact this
      go_wp2
      go_ret
      exact ⟨by first | (rw [HR.out]; done) | (rw [HR.out]; rfl) | simp [HR.out], F⟩
end Go.Proofs.YtkibbojiflklpaaGreat

/- Restart: what an image's bytes are. -/
namespace Go.Proofs.YtkibbojiflklpaaGreat
open Go.RowKit

/-- Whole, torn or empty. -/
def lkS (l : List Nat) : Int := if (decF l).isSome = true then 0 else if zeroB l = true then 2 else 1
def LkOut (w : World) (l : List Nat) (e : Ending) (w' : World) : Prop :=
  ∃ p : Pt, e = .returned (.tuple #[(.agg #[.int .i64 ((decF l).getD zn).lev, .int .i64 ((decF l).getD zn).lsn, .int .i64 ((decF l).getD zn).rgt, .string ((decF l).getD zn).high, .slice p.k ((decF l).getD zn).keys.length p.kc, .slice p.v ((decF l).getD zn).vals.length p.vc, .slice p.i ((decF l).getD zn).kids.length p.ic]), .int .i64 (lkS l)]) ∧ Nod w' ((decF l).getD zn) p ∧ Fr (fun _ => False) w w' ∧ Nw w p
set_option maxRecDepth 100000 in
set_option maxHeartbeats 4000000 in
theorem look_any (a : Option Addr) (n c : Nat) (l : List Nat) (hn : n = l.length) (w : World) (h : Row w a c l) : Calls Tryz.prog 57 #[.slice a n c] w fun e w' => LkOut w l e w' := by
  have f0 : Fr (fun _ => False) w (w.alloc (.cells #[.int .i64 0, .int .i64 0, .int .i64 0, .string ⟨#[]⟩, .slice none 0 0, .slice none 0 0, .slice none 0 0] 33)) := Fr.box w _
  have hd := decode_dec a n c l hn _ (h.same f0)
  have HS : Hid (∀ W, Fr (fun _ => False) w W → Row W a c l) := fun W f => h.same f
  have HLN : Hid (n = l.length) := hn
  have HX : Hid (∀ W, Fr (fun _ => False) (w.alloc (.cells #[.int .i64 0, .int .i64 0, .int .i64 0, .string ⟨#[]⟩, .slice none 0 0, .slice none 0 0, .slice none 0 0] 33)) W → W.heap[w.heap.size]? = some (.cells #[.int .i64 0, .int .i64 0, .int .i64 0, .string ⟨#[]⟩, .slice none 0 0, .slice none 0 0, .slice none 0 0] 33 (0, 0))) := fun W f => f.blk (heap_alloc_new w _) (fun f => f)
  clear h hn
  unfold DecOut at hd
  unfold LkOut
  obtain ⟨m, hm⟩ : ∃ m, m = (decF l).getD zn := ⟨_, rfl⟩
  obtain ⟨st, hst⟩ : ∃ s, s = lkS l := ⟨_, rfl⟩
  rw [← hm] at hd ⊢
  rw [← hst]
  have HST0 : Hid (st = lkS l) := hst
  clear hm hst
  cases hs : (decF l).isSome
  · rw [hs, if_neg (by simp)] at hd
    have HS0 : Hid (st = if zeroB l = true then 2 else 1) := by show _ = _; rw [HST0.out]; unfold lkS; rw [hs]; rfl
    clear hs HST0
    go_enter Tryz.func57, Tryz.ntmps57
    go_wp2_with fail
    refine hd.mono ?_
    rintro e w1 ⟨p, rfl, ndp, f1, hnw⟩
    have fb := Fr.box w1 (.cells #[.int .i64 m.lev, .int .i64 m.lsn, .int .i64 m.rgt, .string m.high, .slice p.k m.keys.length p.kc, .slice p.v m.vals.length p.vc, .slice p.i m.kids.length p.ic] 33)
    have F2 := (f0.seq' f1).seq' fb
    have HB : Hid (∀ W, Fr (fun _ => False) (w1.alloc (.cells #[.int .i64 m.lev, .int .i64 m.lsn, .int .i64 m.rgt, .string m.high, .slice p.k m.keys.length p.kc, .slice p.v m.vals.length p.vc, .slice p.i m.kids.length p.ic] 33)) W → W.cell? ⟨w1.heap.size, 0, none⟩ = some (.int .i64 m.lev) ∧ W.cell? ⟨w1.heap.size, 1, none⟩ = some (.int .i64 m.lsn) ∧ W.cell? ⟨w1.heap.size, 2, none⟩ = some (.int .i64 m.rgt) ∧ W.cell? ⟨w1.heap.size, 3, none⟩ = some (.string m.high) ∧ W.cell? ⟨w1.heap.size, 4, none⟩ = some (.slice p.k m.keys.length p.kc) ∧ W.cell? ⟨w1.heap.size, 5, none⟩ = some (.slice p.v m.vals.length p.vc) ∧ W.cell? ⟨w1.heap.size, 6, none⟩ = some (.slice p.i m.kids.length p.ic)) := fun W f => box_cells (f.blk (heap_alloc_new w1 _) (fun f => f))
    have HRB : Hid (∀ W, Fr (fun _ => False) (w1.alloc (.cells #[.int .i64 m.lev, .int .i64 m.lsn, .int .i64 m.rgt, .string m.high, .slice p.k m.keys.length p.kc, .slice p.v m.vals.length p.vc, .slice p.i m.kids.length p.ic] 33)) W → W.heap[w.heap.size]? = some (.cells #[.int .i64 0, .int .i64 0, .int .i64 0, .string ⟨#[]⟩, .slice none 0 0, .slice none 0 0, .slice none 0 0] 33 (0, 0))) := fun W f => HX.out _ ((f1.seq' fb).seq' f)
    have HN : Hid (∀ W, Fr (fun _ => False) (w1.alloc (.cells #[.int .i64 m.lev, .int .i64 m.lsn, .int .i64 m.rgt, .string m.high, .slice p.k m.keys.length p.kc, .slice p.v m.vals.length p.vc, .slice p.i m.kids.length p.ic] 33)) W → Nod W m p) := fun W f => (ndp.same fb).same f
    have HOF : Hid (Off (fun k => k = w.heap.size) m p) := hnw.off (fun b hb e => by simp at hb; omega)
    have HNW : Hid (Nw w p) := hnw.back (by simp)
    have hz := isZero_any a n c l HLN.out _ (HS.out _ F2)
    clear ndp hnw hd fb f1
    go_wp2_with fail
    refine hz.mono ?_
    rintro e w3 ⟨rfl, f3⟩
    clear hz
    cases hzb : zeroB l
    · have HST : Hid (st = 1) := by show _ = _; rw [HS0.out, hzb]; rfl
      clear hzb HS0
      obtain ⟨c0, c1, c2, c3, c4, c5, c6⟩ := HB.out _ f3
      have hR6 := HRB.out _ f3
      obtain ⟨⟨s0, s1, s2, s3, s4, s5, s6⟩, sz⟩ := node_cells hR6
      have y0 := sz 0; have y1 := sz 1; have y2 := sz 2; have y3 := sz 3; have y4 := sz 4; have y5 := sz 5; have y6 := sz 6
      clear sz
      go_wp2
      obtain ⟨hq, ff⟩ := fin7 hR6 (.int .i64 m.lev) (.int .i64 m.lsn) (.int .i64 m.rgt) (.string m.high) (.slice p.k m.keys.length p.kc) (.slice p.v m.vals.length p.vc) (.slice p.i m.kids.length p.ic)
      have fff := (F2.seq' f3).trans ff (S := fun _ => False) (fun i hi e => by omega)
      have HND : Hid (Nod (((((((w3.setCell ⟨w.heap.size, 0, none⟩ (.int .i64 m.lev)).setCell ⟨w.heap.size, 1, none⟩ (.int .i64 m.lsn)).setCell ⟨w.heap.size, 2, none⟩ (.int .i64 m.rgt)).setCell ⟨w.heap.size, 3, none⟩ (.string m.high)).setCell ⟨w.heap.size, 4, none⟩ (.slice p.k m.keys.length p.kc)).setCell ⟨w.heap.size, 5, none⟩ (.slice p.v m.vals.length p.vc)).setCell ⟨w.heap.size, 6, none⟩ (.slice p.i m.kids.length p.ic)) m p) := (HN.out _ f3).frS ff HOF.out
      generalize (((((((w3.setCell ⟨w.heap.size, 0, none⟩ (.int .i64 m.lev)).setCell ⟨w.heap.size, 1, none⟩ (.int .i64 m.lsn)).setCell ⟨w.heap.size, 2, none⟩ (.int .i64 m.rgt)).setCell ⟨w.heap.size, 3, none⟩ (.string m.high)).setCell ⟨w.heap.size, 4, none⟩ (.slice p.k m.keys.length p.kc)).setCell ⟨w.heap.size, 5, none⟩ (.slice p.v m.vals.length p.vc)).setCell ⟨w.heap.size, 6, none⟩ (.slice p.i m.kids.length p.ic)) = Wf at hq fff HND ⊢
      obtain ⟨⟨q0, q1, q2, q3, q4, q5, q6⟩, _⟩ := node_cells hq
      exact bodyPost_ret (v := .tuple #[(.agg #[.int .i64 m.lev, .int .i64 m.lsn, .int .i64 m.rgt, .string m.high, .slice p.k m.keys.length p.kc, .slice p.v m.vals.length p.vc, .slice p.i m.kids.length p.ic]), .int .i64 1]) (by simp [results, Tryz.results57, go_sem, q0, q1, q2, q3, q4, q5, q6]) rfl ⟨p, by rw [HST.out], HND.out, fff, HNW.out⟩
    · have HST : Hid (st = 2) := by show _ = _; rw [HS0.out, hzb]; rfl
      clear hzb HS0
      obtain ⟨c0, c1, c2, c3, c4, c5, c6⟩ := HB.out _ f3
      have hR6 := HRB.out _ f3
      obtain ⟨⟨s0, s1, s2, s3, s4, s5, s6⟩, sz⟩ := node_cells hR6
      have y0 := sz 0; have y1 := sz 1; have y2 := sz 2; have y3 := sz 3; have y4 := sz 4; have y5 := sz 5; have y6 := sz 6
      clear sz
      go_wp2
      obtain ⟨hq, ff⟩ := fin7 hR6 (.int .i64 m.lev) (.int .i64 m.lsn) (.int .i64 m.rgt) (.string m.high) (.slice p.k m.keys.length p.kc) (.slice p.v m.vals.length p.vc) (.slice p.i m.kids.length p.ic)
      have fff := (F2.seq' f3).trans ff (S := fun _ => False) (fun i hi e => by omega)
      have HND : Hid (Nod (((((((w3.setCell ⟨w.heap.size, 0, none⟩ (.int .i64 m.lev)).setCell ⟨w.heap.size, 1, none⟩ (.int .i64 m.lsn)).setCell ⟨w.heap.size, 2, none⟩ (.int .i64 m.rgt)).setCell ⟨w.heap.size, 3, none⟩ (.string m.high)).setCell ⟨w.heap.size, 4, none⟩ (.slice p.k m.keys.length p.kc)).setCell ⟨w.heap.size, 5, none⟩ (.slice p.v m.vals.length p.vc)).setCell ⟨w.heap.size, 6, none⟩ (.slice p.i m.kids.length p.ic)) m p) := (HN.out _ f3).frS ff HOF.out
      generalize (((((((w3.setCell ⟨w.heap.size, 0, none⟩ (.int .i64 m.lev)).setCell ⟨w.heap.size, 1, none⟩ (.int .i64 m.lsn)).setCell ⟨w.heap.size, 2, none⟩ (.int .i64 m.rgt)).setCell ⟨w.heap.size, 3, none⟩ (.string m.high)).setCell ⟨w.heap.size, 4, none⟩ (.slice p.k m.keys.length p.kc)).setCell ⟨w.heap.size, 5, none⟩ (.slice p.v m.vals.length p.vc)).setCell ⟨w.heap.size, 6, none⟩ (.slice p.i m.kids.length p.ic)) = Wf at hq fff HND ⊢
      obtain ⟨⟨q0, q1, q2, q3, q4, q5, q6⟩, _⟩ := node_cells hq
      exact bodyPost_ret (v := .tuple #[(.agg #[.int .i64 m.lev, .int .i64 m.lsn, .int .i64 m.rgt, .string m.high, .slice p.k m.keys.length p.kc, .slice p.v m.vals.length p.vc, .slice p.i m.kids.length p.ic]), .int .i64 2]) (by simp [results, Tryz.results57, go_sem, q0, q1, q2, q3, q4, q5, q6]) rfl ⟨p, by rw [HST.out], HND.out, fff, HNW.out⟩
  · rw [hs, if_pos rfl] at hd
    have HST : Hid (st = 0) := by show _ = _; rw [HST0.out]; unfold lkS; rw [hs]; rfl
    clear hs HST0
    go_enter Tryz.func57, Tryz.ntmps57
    go_wp2_with fail
    refine hd.mono ?_
    rintro e w1 ⟨p, rfl, ndp, f1, hnw⟩
    have fb := Fr.box w1 (.cells #[.int .i64 m.lev, .int .i64 m.lsn, .int .i64 m.rgt, .string m.high, .slice p.k m.keys.length p.kc, .slice p.v m.vals.length p.vc, .slice p.i m.kids.length p.ic] 33)
    have F2 := (f0.seq' f1).seq' fb
    have HB : Hid (∀ W, Fr (fun _ => False) (w1.alloc (.cells #[.int .i64 m.lev, .int .i64 m.lsn, .int .i64 m.rgt, .string m.high, .slice p.k m.keys.length p.kc, .slice p.v m.vals.length p.vc, .slice p.i m.kids.length p.ic] 33)) W → W.cell? ⟨w1.heap.size, 0, none⟩ = some (.int .i64 m.lev) ∧ W.cell? ⟨w1.heap.size, 1, none⟩ = some (.int .i64 m.lsn) ∧ W.cell? ⟨w1.heap.size, 2, none⟩ = some (.int .i64 m.rgt) ∧ W.cell? ⟨w1.heap.size, 3, none⟩ = some (.string m.high) ∧ W.cell? ⟨w1.heap.size, 4, none⟩ = some (.slice p.k m.keys.length p.kc) ∧ W.cell? ⟨w1.heap.size, 5, none⟩ = some (.slice p.v m.vals.length p.vc) ∧ W.cell? ⟨w1.heap.size, 6, none⟩ = some (.slice p.i m.kids.length p.ic)) := fun W f => box_cells (f.blk (heap_alloc_new w1 _) (fun f => f))
    have HRB : Hid (∀ W, Fr (fun _ => False) (w1.alloc (.cells #[.int .i64 m.lev, .int .i64 m.lsn, .int .i64 m.rgt, .string m.high, .slice p.k m.keys.length p.kc, .slice p.v m.vals.length p.vc, .slice p.i m.kids.length p.ic] 33)) W → W.heap[w.heap.size]? = some (.cells #[.int .i64 0, .int .i64 0, .int .i64 0, .string ⟨#[]⟩, .slice none 0 0, .slice none 0 0, .slice none 0 0] 33 (0, 0))) := fun W f => HX.out _ ((f1.seq' fb).seq' f)
    have HN : Hid (∀ W, Fr (fun _ => False) (w1.alloc (.cells #[.int .i64 m.lev, .int .i64 m.lsn, .int .i64 m.rgt, .string m.high, .slice p.k m.keys.length p.kc, .slice p.v m.vals.length p.vc, .slice p.i m.kids.length p.ic] 33)) W → Nod W m p) := fun W f => (ndp.same fb).same f
    have HOF : Hid (Off (fun k => k = w.heap.size) m p) := hnw.off (fun b hb e => by simp at hb; omega)
    have HNW : Hid (Nw w p) := hnw.back (by simp)
    have f3 : Fr (fun _ => False) (w1.alloc (.cells #[.int .i64 m.lev, .int .i64 m.lsn, .int .i64 m.rgt, .string m.high, .slice p.k m.keys.length p.kc, .slice p.v m.vals.length p.vc, .slice p.i m.kids.length p.ic] 33)) (w1.alloc (.cells #[.int .i64 m.lev, .int .i64 m.lsn, .int .i64 m.rgt, .string m.high, .slice p.k m.keys.length p.kc, .slice p.v m.vals.length p.vc, .slice p.i m.kids.length p.ic] 33)) := Fr.refl _ _
    clear ndp hnw hd fb f1
    obtain ⟨c0, c1, c2, c3, c4, c5, c6⟩ := HB.out _ f3
    have hR6 := HRB.out _ f3
    obtain ⟨⟨s0, s1, s2, s3, s4, s5, s6⟩, sz⟩ := node_cells hR6
    have y0 := sz 0; have y1 := sz 1; have y2 := sz 2; have y3 := sz 3; have y4 := sz 4; have y5 := sz 5; have y6 := sz 6
    clear sz
    go_wp2
    obtain ⟨hq, ff⟩ := fin7 hR6 (.int .i64 m.lev) (.int .i64 m.lsn) (.int .i64 m.rgt) (.string m.high) (.slice p.k m.keys.length p.kc) (.slice p.v m.vals.length p.vc) (.slice p.i m.kids.length p.ic)
    have fff := (F2.seq' f3).trans ff (S := fun _ => False) (fun i hi e => by omega)
    have HND : Hid (Nod ((((((((w1.alloc (.cells #[.int .i64 m.lev, .int .i64 m.lsn, .int .i64 m.rgt, .string m.high, .slice p.k m.keys.length p.kc, .slice p.v m.vals.length p.vc, .slice p.i m.kids.length p.ic] 33)).setCell ⟨w.heap.size, 0, none⟩ (.int .i64 m.lev)).setCell ⟨w.heap.size, 1, none⟩ (.int .i64 m.lsn)).setCell ⟨w.heap.size, 2, none⟩ (.int .i64 m.rgt)).setCell ⟨w.heap.size, 3, none⟩ (.string m.high)).setCell ⟨w.heap.size, 4, none⟩ (.slice p.k m.keys.length p.kc)).setCell ⟨w.heap.size, 5, none⟩ (.slice p.v m.vals.length p.vc)).setCell ⟨w.heap.size, 6, none⟩ (.slice p.i m.kids.length p.ic)) m p) := (HN.out _ f3).frS ff HOF.out
    generalize ((((((((w1.alloc (.cells #[.int .i64 m.lev, .int .i64 m.lsn, .int .i64 m.rgt, .string m.high, .slice p.k m.keys.length p.kc, .slice p.v m.vals.length p.vc, .slice p.i m.kids.length p.ic] 33)).setCell ⟨w.heap.size, 0, none⟩ (.int .i64 m.lev)).setCell ⟨w.heap.size, 1, none⟩ (.int .i64 m.lsn)).setCell ⟨w.heap.size, 2, none⟩ (.int .i64 m.rgt)).setCell ⟨w.heap.size, 3, none⟩ (.string m.high)).setCell ⟨w.heap.size, 4, none⟩ (.slice p.k m.keys.length p.kc)).setCell ⟨w.heap.size, 5, none⟩ (.slice p.v m.vals.length p.vc)).setCell ⟨w.heap.size, 6, none⟩ (.slice p.i m.kids.length p.ic)) = Wf at hq fff HND ⊢
    obtain ⟨⟨q0, q1, q2, q3, q4, q5, q6⟩, _⟩ := node_cells hq
    exact bodyPost_ret (v := .tuple #[(.agg #[.int .i64 m.lev, .int .i64 m.lsn, .int .i64 m.rgt, .string m.high, .slice p.k m.keys.length p.kc, .slice p.v m.vals.length p.vc, .slice p.i m.kids.length p.ic]), .int .i64 0]) (by simp [results, Tryz.results57, go_sem, q0, q1, q2, q3, q4, q5, q6]) rfl ⟨p, by rw [HST.out], HND.out, fff, HNW.out⟩
end Go.Proofs.YtkibbojiflklpaaGreat

/- Restart: images in memory; whether their pages rise. -/
namespace Go.Proofs.YtkibbojiflklpaaGreat
open Go.RowKit

/-- An image. -/
structure Im where
  page : Int
  a : Option Addr
  c : Nat
  bs : List Nat
def imC (i : Im) : List Value := [.int .i64 i.page, .slice i.a i.bs.length i.c]
/-- A slice of images as a walk sees it. -/
structure Ims (w : World) (a : Option Addr) (cap : Nat) (ls : List Im) : Prop where
  le : ls.length ≤ cap
  max : cap ≤ 9223372036854775807
  at_ : ls = [] ∨ ∃ b off, a = some ⟨b, off, none⟩ ∧ b < w.heap.size ∧ ∀ i r, ls[i]? = some r → w.rangeAt b (off + i * 2) (imC r)
  row : ∀ i ∈ ls, Row w i.a i.c i.bs
theorem Ims.same {w w' : World} {a : Option Addr} {cap : Nat} {ls : List Im} (h : Ims w a cap ls) (f : Fr (fun _ => False) w w') : Ims w' a cap ls := by
  refine ⟨h.le, h.max, ?_, fun i hi => (h.row i hi).same f⟩
  rcases h.at_ with h0 | ⟨b, off, rfl, hb, hc⟩
  · exact .inl h0
  · exact .inr ⟨b, off, rfl, Nat.lt_of_lt_of_le hb f.size, fun i r hr => range_fr (hc i r hr) f (fun f => f)⟩
theorem Ims.some {w : World} {a : Option Addr} {cap : Nat} {ls : List Im} (h : Ims w a cap ls) (hn : 0 < ls.length) : ∃ b off, a = some ⟨b, off, none⟩ ∧ b < w.heap.size ∧ ∀ i r, ls[i]? = some r → w.rangeAt b (off + i * 2) (imC r) := by
  rcases h.at_ with h0 | h
  · rw [h0] at hn; simp at hn
  · exact h
theorem im_range {w : World} {b o : Nat} {i : Im} (h : w.rangeAt b o (imC i)) : w.cell? ⟨b, o, none⟩ = some (.int .i64 i.page) ∧ w.cell? ⟨b, o + 1, none⟩ = some (.slice i.a i.bs.length i.c) := ⟨h 0 _ rfl, h 1 _ rfl⟩
/-- Pages that rise to 4096. -/
def riB : Int → List Im → Bool
  | _, [] => true
  | x, i :: l => decide (x < i.page) && decide (i.page ≤ 4096) && riB i.page l
theorem ri_next {ls : List Im} {j : Nat} {s : Im} (x : Int) (h : ls[j]? = some s) : riB x (ls.drop j) = (decide (x < s.page) && decide (s.page ≤ 4096) && riB s.page (ls.drop (j + 1))) := by
  have hj := (List.getElem?_eq_some_iff.1 h).1
  rw [List.drop_eq_getElem_cons hj, (List.getElem?_eq_some_iff.1 h).2]
  rfl
theorem two_in {W : World} {b : Nat} {t : TypeId} {x y : Value} (h : W.heap[b]? = some (.cells #[x, y] t (0, 0))) : W.cell? ⟨b, 0, none⟩ = some x ∧ W.cell? ⟨b, 1, none⟩ = some y := by
  constructor <;> simp [World.cell?, h]
set_option maxRecDepth 100000 in
set_option maxHeartbeats 2000000 in
theorem rise_any (a : Option Addr) (len cap : Nat) (ls : List Im) (hl : len = ls.length) (w : World) (h : Ims w a cap ls) : Calls Tryz.prog 20 #[.slice a len cap] w fun e w' => e = .returned (.bool (riB 0 ls)) ∧ Fr (fun _ => False) w w' := by
  subst hl
  have hle := h.le
  have hmx := h.max
  have HS : Hid (∀ W, Fr (fun _ => False) w W → Ims W a cap ls) := fun W f => h.same f
  clear h
  go_enter Tryz.func20, Tryz.ntmps20
  go_wp2
  go_loopw [8, 3] (fun i t wr => ∃ (k : Nat) (x : Int), k ≤ ls.length ∧ i = .int .i64 k ∧ t = .int .i64 x ∧ Hid (riB x (ls.drop k) = riB 0 ls) ∧ Fr (fun _ => False) w wr) (fun i _ _ => ls.length - (intOf i).toNat)
  case atStart => exact ⟨0, 0, by omega, rfl, rfl, rfl, Fr.refl _ _⟩
  case round =>
    obtain ⟨k, x, hk, rfl, rfl, HE, F⟩ := hrel
    by_cases hlt : k < ls.length
    · obtain ⟨s, hs⟩ : ∃ s, ls[k]? = some s := ⟨_, List.getElem?_eq_getElem hlt⟩
      obtain ⟨b, off, rfl, hb, hc⟩ := (HS.out _ F).some (by omega)
      obtain ⟨q0, q1⟩ := im_range (hc k s hs)
      have HNX : Hid (riB x (ls.drop k) = (decide (x < s.page) && decide (s.page ≤ 4096) && riB s.page (ls.drop (k + 1)))) := ri_next x hs
      have hki : (k : Int) < (ls.length : Int) := by omega
      have FB := F.alloc (.cells #[.int .i64 s.page, .slice s.a s.bs.length s.c] 39)
      clear hs hc
      by_cases h1 : x < s.page
      · have d1 : decide (s.page ≤ x) = false := decide_eq_false (by omega)
        by_cases h2 : s.page ≤ 4096
        · have d2 : decide (4096 < s.page) = false := decide_eq_false (by omega)
          have HR : Hid (riB s.page (ls.drop (k + 1)) = riB 0 ls) := by show _ = _; rw [← HE.out, HNX.out, decide_eq_true h1, decide_eq_true h2]; rfl
          clear h1 h2 HNX HE
          go_wp2
          go_roundw
          case rel => exact ⟨k + 1, s.page, by omega, by go_num, rfl, HR, FB⟩
          case measure => simp [intOf]; omega
        · have d2 : decide (4096 < s.page) = true := decide_eq_true (by omega)
          have HR : Hid (riB 0 ls = false) := by show _ = _; rw [← HE.out, HNX.out, decide_eq_true h1, decide_eq_false h2]; rfl
          clear h1 h2 HNX HE
          go_wp2
          go_ret
          exact ⟨ret_bool HR.out.symm, FB⟩
      · have d1 : decide (s.page ≤ x) = true := decide_eq_true (by omega)
        have HR : Hid (riB 0 ls = false) := by show _ = _; rw [← HE.out, HNX.out, decide_eq_false h1]; rfl
        clear h1 HNX HE
        go_wp2
        go_ret
        exact ⟨ret_bool HR.out.symm, FB⟩
    · obtain rfl : k = ls.length := by omega
      have HR : Hid (riB 0 ls = true) := by show _ = _; rw [← HE.out, List.drop_of_length_le (Nat.le_refl _)]; rfl
      go_wp2
      go_ret
      exact ⟨ret_bool HR.out.symm, F⟩
end Go.Proofs.YtkibbojiflklpaaGreat
