
/- A map of pages (alloc), beside the texts of redo. -/
import Derived.Test.YtihkdffihmhnaaaGreatBB32
import Derived.Laws.IdiomStrings
import Derived.Lib.SlBytesConst
namespace Go.Proofs.YtihkdffihmhnaaaGreat
open Go.RowKit
theorem Fr.any {S : Nat → Prop} {a b : World} (h : Fr (fun _ => False) a b) : Fr S a b := h.mono (fun _ _ f => f.elim)
theorem Fr.block_eq {S : Nat → Prop} {w w' : World} (f : Fr S w w') {k : Nat} {o : Obj} (h : w.heap[k]? = some o) (hn : ¬ S k) : w'.heap[k]? = some o := by
  rw [f.block k (lt_of_block h) hn]; exact h
theorem Row.lt {w : World} {a : Option Addr} {cap : Nat} {l : List Nat} (h : Row w a cap l) {b off : Nat} (ha : a = some ⟨b, off, none⟩) (hl : l ≠ []) : b < w.heap.size := by
  rcases h.at_ with h0 | ⟨b', off', h1, hb, _⟩
  · exact absurd h0 hl
  · rw [ha] at h1; simp at h1; omega
theorem Has.bytes {w : World} {a : Option Addr} {n c : Nat} {l : List Nat} (h : Has w 1 (.slice a n c) n (cellsOf l)) (hl : octs l) (hs : l.length ≤ 140737488355328) : Row w a c l := by
  have hn : n = l.length := by have := h.1; rw [cellsOf_length] at this; omega
  subst hn
  rcases h.2 with ⟨h1, h0⟩ | ⟨g, cap, hv, hg, hnc, hcm, hth, hra⟩
  · simp only [Value.slice.injEq] at h1
    obtain ⟨rfl, _, rfl⟩ := h1
    have : l = [] := List.eq_nil_of_length_eq_zero h0
    subst this
    exact ⟨Nat.le_refl _, by omega, hs, hl, .inl rfl⟩
  · simp only [Value.slice.injEq, true_and] at hv
    obtain ⟨rfl, rfl⟩ := hv
    exact ⟨hnc, by unfold maxLen at hcm; omega, hs, hl, .inr ⟨g, 0, rfl, hg, fun i hi => by
      have := hra i _ (cellsOf_get l i hi)
      simpa using this⟩⟩
theorem Row.from {w : World} {a : Option Addr} {c : Nat} {l : List Nat} (h : Row w a c l) : From w a (cellsOf l) := by
  rcases h.at_ with h0 | ⟨b, off, rfl, _, hc⟩
  · exact .inl (by rw [h0]; rfl)
  · refine .inr ⟨b, off, rfl, fun j u hu => ?_⟩
    have hj : j < l.length := by have := (List.getElem?_eq_some_iff.1 hu).1; rwa [cellsOf_length] at this
    rw [cellsOf_get l j hj] at hu
    rw [hc j hj]; exact hu

theorem strOf_size (l : List Nat) : (strOf l).size = l.length := by simp [strOf, ByteArray.size]

theorem made_flat {z : Array Value} {size : Nat} (hz : z.size = size) (hp : 0 < size) (n : Nat) : (madeCells z (n * size)).toList = (List.replicate n ()).flatMap (fun _ => z.toList) := by
  have hf : ∀ x : Unit, (z.toList).length = size := fun _ => by simpa using hz
  apply List.ext_getElem?
  intro k
  by_cases hk : k < n * size
  · have hd : k / size < n := (Nat.div_lt_iff_lt_mul hp).2 hk
    have hm : k % size < size := Nat.mod_lt _ hp
    have hk2 : k = k / size * size + k % size := by rw [Nat.mul_comm]; exact (Nat.div_add_mod k size).symm
    have e := flat_get (f := fun _ : Unit => z.toList) (size := size) (fun _ => hf ()) (List.replicate n ()) (k / size) () (by simp [hd]) (k % size) hm
    rw [← hk2] at e
    rw [e]
    have hlt : k % z.size < z.size := by rw [hz]; exact hm
    simp only [madeCells, Array.toList_map, List.getElem?_map, Array.getElem?_toList, Array.getElem?_range, hk, if_true, Option.map_some]
    rw [hz] at hlt ⊢
    rw [Array.getElem?_eq_getElem (by rw [hz]; exact hlt)]
    congr 1
    exact getElem!_pos z (k % size) (by rw [hz]; exact hlt)
  · rw [List.getElem?_eq_none, List.getElem?_eq_none]
    · rw [flat_length (size := size) (fun _ => hf ())]; simp; omega
    · rw [Array.length_toList, size_madeCells]; omega
theorem replicate_flat {α : Type} (f : α → List Value) (x : α) (n : Nat) : (List.replicate n ()).flatMap (fun _ => f x) = (List.replicate n x).flatMap f := by
  induction n with
  | zero => rfl
  | succ n ih => rw [List.replicate_succ, List.replicate_succ, List.flatMap_cons, List.flatMap_cons, ih]
theorem ownsRow.has {w : World} {base : Nat} {e : TypeId} {size : Nat} {v : Value} {n : Nat} {xs : List Value} (h : w.ownsRow base e size v n xs) : Has w size v n xs := by
  refine ⟨h.1, ?_⟩
  rcases h.2 with h2 | ⟨g, cap, cur, rfl, hg, hh, hnc, hcm, hcs, htake⟩
  · exact .inl h2
  · refine .inr ⟨g, cap, rfl, lt_of_block hh, hnc, hcm, there_block hh (by omega), range_block hh (fun j u hu => ?_)⟩
    rw [← htake, List.getElem?_take] at hu
    rw [Nat.zero_add]
    split at hu
    · simpa using hu
    · cases hu
theorem flat_length' {α : Type} {f : α → List Value} {x : α} {size : Nat} (n : Nat) (hl : (f x).length = size) : ((List.replicate n x).flatMap f).length = size * n := by
  induction n with
  | zero => simp
  | succ n ih => rw [List.replicate_succ, List.flatMap_cons, List.length_append, hl, ih, Nat.mul_succ]; omega
theorem Has.made {α : Type} (f : α → List Value) (x : α) {size : Nat} (hp : 0 < size) {z : Value} (hz : z.cells.toList = f x) (hl : (f x).length = size) (n : Nat) (hn : n ≤ maxLen) (w : World) (e : TypeId) :
    Has (w.alloc (.cells (madeCells z.cells (n * size)) e)) size (.slice (some ⟨w.heap.size, 0, none⟩) n n) n ((List.replicate n x).flatMap f) := by
  have hs : z.cells.size = size := by rw [← hl, ← hz]; simp
  have hb := heap_alloc_new w (.cells (madeCells z.cells (n * size)) e)
  refine ⟨by rw [flat_length' n hl, Nat.mul_comm], .inr ⟨_, _, rfl, by simp, Nat.le_refl _, hn, there_block hb (by rw [size_madeCells]; omega), range_block hb (fun j u hu => ?_)⟩⟩
  rw [Nat.zero_add, ← Array.getElem?_toList, made_flat hs hp, hz, replicate_flat]
  exact hu
end Go.Proofs.YtihkdffihmhnaaaGreat
namespace Go.Proofs.YtihkdffihmhnaaaGreat.Al
open Go.RowKit

/-- The bit k of bytes. -/
def bitOf (L : List Nat) (k : Nat) : Bool := (L.getD (k / 8) 0).testBit (k % 8)
/-- Bytes with the bit k turned. -/
def turned (L : List Nat) (k : Nat) : List Nat := L.set (k / 8) (L.getD (k / 8) 0 ^^^ 2 ^ (k % 8))

/-- A map at block b: its bound, and its bits. -/
structure Mp (w : World) (b : Nat) (most : Nat) (L : List Nat) : Prop where
  box : Has w 513 (.slice (some ⟨b, 0, none⟩) 1 1) 1 (.int .i64 most :: cellsOf L)
  len : L.length = 512
  byte : octs L
  pos : 1 ≤ most
  top : most ≤ 4096
  tail : ∀ k, most ≤ k → bitOf L k = false

theorem Mp.form {w : World} {b most : Nat} {L : List Nat} (h : Mp w b most L) : b < w.heap.size ∧ w.there b 0 513 ∧ w.rangeAt b 0 (.int .i64 most :: cellsOf L) := by
  obtain ⟨g, cap, hv, hg, _, _, h1, h2⟩ := h.box.form (by omega)
  simp only [Value.slice.injEq, Option.some.injEq, Addr.mk.injEq, and_true, true_and] at hv
  obtain ⟨rfl, rfl⟩ := hv
  exact ⟨hg, by simpa using h1, h2⟩
theorem Mp.lt {w : World} {b most : Nat} {L : List Nat} (h : Mp w b most L) : b < w.heap.size := h.form.1
theorem Mp.cell0 {w : World} {b most : Nat} {L : List Nat} (h : Mp w b most L) : w.cell? ⟨b, 0, none⟩ = some (.int .i64 most) := by
  have := h.form.2.2 0 _ rfl
  simpa using this
theorem Mp.cellB {w : World} {b most : Nat} {L : List Nat} (h : Mp w b most L) (j : Nat) (hj : j < 512) : w.cell? ⟨b, 1 + j, none⟩ = some (.int .u8 ((L.getD j 0 : Nat) : Int)) := by
  have := h.form.2.2 (j + 1) (.int .u8 ((L.getD j 0 : Nat) : Int)) (by rw [List.getElem?_cons_succ]; exact cellsOf_get L j (by rw [h.len]; exact hj))
  rw [Nat.zero_add, Nat.add_comm] at this
  exact this
theorem Mp.free {w : World} {b most : Nat} {L : List Nat} (h : Mp w b most L) (j : Nat) (hj : j < 513) : w.frozen? ⟨b, j, none⟩ = false := by
  have := (h.form.2.1 j hj).2
  simpa using this
theorem Mp.fr {S : Nat → Prop} {w w' : World} {b most : Nat} {L : List Nat} (h : Mp w b most L) (f : Fr S w w') (hn : ¬ S b) : Mp w' b most L :=
  ⟨h.box.fr f (fun k hk => by simp [Value.ownBlock] at hk; rwa [← hk]), h.len, h.byte, h.pos, h.top, h.tail⟩
theorem Mp.same {w w' : World} {b most : Nat} {L : List Nat} (h : Mp w b most L) (f : Fr (fun _ => False) w w') : Mp w' b most L := h.fr f (fun f => f)
theorem Mp.set {w : World} {b most : Nat} {L : List Nat} (h : Mp w b most L) (j x : Nat) (hj : j < 512) (hx : x < 256) (ht : ∀ k, most ≤ k → bitOf (L.set j x) k = false) : Mp (w.setCell ⟨b, 1 + j, none⟩ (.int .u8 x)) b most (L.set j x) := by
  have hb := h.box.set (1 + j) [.int .u8 x] (by simp [cellsOf_length, h.len]; omega)
  refine ⟨?_, by rw [List.length_set]; exact h.len, ?_, h.pos, h.top, ht⟩
  · have e : (Value.int .i64 (most : Int) :: cellsOf L).take (1 + j) ++ [.int .u8 (x : Int)] ++ (Value.int .i64 (most : Int) :: cellsOf L).drop (1 + j + [Value.int .u8 (x : Int)].length) = .int .i64 most :: cellsOf (L.set j x) := by
      have hl : j < (cellsOf L).length := by rw [cellsOf_length, h.len]; exact hj
      have e1 : cellsOf (L.set j x) = (cellsOf L).set j (.int .u8 x) := by unfold cellsOf; rw [List.map_set]
      rw [e1, List.set_eq_take_append_cons_drop, if_pos hl]
      rw [show 1 + j = j + 1 by omega]
      simp
    rw [e] at hb
    exact hb
  · intro y hy
    rcases List.mem_or_eq_of_mem_set hy with h1 | rfl
    · exact h.byte y h1
    · exact hx

theorem bit_lt {x k : Nat} (hx : x < 256) (hk : k < 8) : x ^^^ 2 ^ k < 256 := Nat.xor_lt_two_pow (n := 8) hx (by
  have : 2 ^ k < 2 ^ 8 := Nat.pow_lt_pow_right (by omega) hk
  simpa using this)
theorem bitOf_turned (L : List Nat) (k : Nat) (hk : k / 8 < L.length) (j : Nat) : bitOf (turned L k) j = if j = k then !bitOf L k else bitOf L j := by
  unfold bitOf turned
  by_cases h : j / 8 = k / 8
  · rw [h, List.getD_eq_getElem?_getD, List.getElem?_set_self hk]
    simp only [Option.getD_some]
    rw [Nat.testBit_xor, Nat.testBit_two_pow]
    by_cases hm : j = k
    · subst hm; simp
    · have : k % 8 ≠ j % 8 := by omega
      simp [hm, this]
  · have hne : j ≠ k := fun e => h (by rw [e])
    rw [if_neg hne, List.getD_eq_getElem?_getD, List.getElem?_set_ne (fun e => h e.symm), List.getD_eq_getElem?_getD]

theorem ret_tt {a b : Int} {x y : Int} (h : a = b) (k : x = y) : Ending.returned (.tuple #[.int .i64 a, .int .u8 x]) = .returned (.tuple #[.int .i64 b, .int .u8 y]) := by rw [h, k]
theorem pow_lt8 (k : Nat) : 2 ^ (k % 8) < 256 := by
  have : 2 ^ (k % 8) < 2 ^ 8 := Nat.pow_lt_pow_right (by omega) (Nat.mod_lt _ (by omega))
  simpa using this
theorem pow_mod (k : Nat) : (2 : Int) ^ (k % 8) % 256 = ((2 ^ (k % 8) : Nat) : Int) := by
  have := pow_lt8 k
  have e : (2 : Int) ^ (k % 8) = ((2 ^ (k % 8) : Nat) : Int) := by simp
  rw [e]
  exact Int.emod_eq_of_lt (Int.natCast_nonneg _) (Int.ofNat_lt.2 this)
theorem and_bit (y k : Nat) (hy : y < 256) : (bits BinOp.and IntKind.u8 (y : Int) ((2 ^ (k % 8) : Nat) : Int) != 0) = y.testBit (k % 8) := by
  rw [u8_and_nat y _ hy (pow_lt8 k)]
  have hm : k % 8 < 8 := Nat.mod_lt _ (by omega)
  generalize k % 8 = i at hm
  have e : (y &&& 2 ^ i != 0) = y.testBit i := by
    rw [Bool.eq_iff_iff]
    simp only [bne_iff_ne, ne_eq]
    constructor
    · intro h
      obtain ⟨j, hj⟩ := Nat.exists_testBit_of_ne_zero h
      rw [Nat.testBit_and, Nat.testBit_two_pow] at hj
      simp at hj
      rw [hj.2]; exact hj.1
    · intro h h0
      have : (y &&& 2 ^ i).testBit i = true := by rw [Nat.testBit_and, h, Nat.testBit_two_pow]; simp
      rw [h0] at this
      simp at this
  rw [← e]
  rw [Bool.eq_iff_iff]
  simp only [bne_iff_ne, ne_eq]
  exact not_congr Int.ofNat_eq_zero
/-- What Has tells. -/
def hasF (most : Nat) (L : List Nat) (i : Int) : Bool := decide (1 ≤ i ∧ i ≤ most) && bitOf L (i.toNat - 1)
theorem mp_turn {w : World} {b most : Nat} {L : List Nat} (h : Mp w b most L) (k : Nat) (hk : k < most) : Mp (w.setCell ⟨b, 1 + k / 8, none⟩ (.int .u8 ((L.getD (k / 8) 0 ^^^ 2 ^ (k % 8) : Nat) : Int))) b most (turned L k) := by
  have hl : k / 8 < L.length := by have := h.len; have := h.top; omega
  refine h.set (k / 8) _ (by have := h.top; omega) (bit_lt (octs_getD h.byte _) (Nat.mod_lt _ (by omega))) (fun j hj => ?_)
  have := bitOf_turned L k hl j
  rw [if_neg (by omega), h.tail j hj] at this
  exact this
/-- How many bits 0 a byte ends with. -/
def tzTab : ByteArray := ⟨#[8, 0, 1, 0, 2, 0, 1, 0, 3, 0, 1, 0, 2, 0, 1, 0, 4, 0, 1, 0, 2, 0, 1, 0, 3, 0, 1, 0, 2, 0, 1, 0, 5, 0, 1, 0, 2, 0, 1, 0, 3, 0, 1, 0, 2, 0, 1, 0, 4, 0, 1, 0, 2, 0, 1, 0, 3, 0, 1, 0, 2, 0, 1, 0, 6, 0, 1, 0, 2, 0, 1, 0, 3, 0, 1, 0, 2, 0, 1, 0, 4, 0, 1, 0, 2, 0, 1, 0, 3, 0, 1, 0, 2, 0, 1, 0, 5, 0, 1, 0, 2, 0, 1, 0, 3, 0, 1, 0, 2, 0, 1, 0, 4, 0, 1, 0, 2, 0, 1, 0, 3, 0, 1, 0, 2, 0, 1, 0, 7, 0, 1, 0, 2, 0, 1, 0, 3, 0, 1, 0, 2, 0, 1, 0, 4, 0, 1, 0, 2, 0, 1, 0, 3, 0, 1, 0, 2, 0, 1, 0, 5, 0, 1, 0, 2, 0, 1, 0, 3, 0, 1, 0, 2, 0, 1, 0, 4, 0, 1, 0, 2, 0, 1, 0, 3, 0, 1, 0, 2, 0, 1, 0, 6, 0, 1, 0, 2, 0, 1, 0, 3, 0, 1, 0, 2, 0, 1, 0, 4, 0, 1, 0, 2, 0, 1, 0, 3, 0, 1, 0, 2, 0, 1, 0, 5, 0, 1, 0, 2, 0, 1, 0, 3, 0, 1, 0, 2, 0, 1, 0, 4, 0, 1, 0, 2, 0, 1, 0, 3, 0, 1, 0, 2, 0, 1, 0]⟩
def tzv (x : Nat) : Nat := (tzTab.data.getD x 0).toNat
/-- How many bits a byte has. -/
def lnTab : ByteArray := ⟨#[0, 1, 2, 2, 3, 3, 3, 3, 4, 4, 4, 4, 4, 4, 4, 4, 5, 5, 5, 5, 5, 5, 5, 5, 5, 5, 5, 5, 5, 5, 5, 5, 6, 6, 6, 6, 6, 6, 6, 6, 6, 6, 6, 6, 6, 6, 6, 6, 6, 6, 6, 6, 6, 6, 6, 6, 6, 6, 6, 6, 6, 6, 6, 6, 7, 7, 7, 7, 7, 7, 7, 7, 7, 7, 7, 7, 7, 7, 7, 7, 7, 7, 7, 7, 7, 7, 7, 7, 7, 7, 7, 7, 7, 7, 7, 7, 7, 7, 7, 7, 7, 7, 7, 7, 7, 7, 7, 7, 7, 7, 7, 7, 7, 7, 7, 7, 7, 7, 7, 7, 7, 7, 7, 7, 7, 7, 7, 7, 8, 8, 8, 8, 8, 8, 8, 8, 8, 8, 8, 8, 8, 8, 8, 8, 8, 8, 8, 8, 8, 8, 8, 8, 8, 8, 8, 8, 8, 8, 8, 8, 8, 8, 8, 8, 8, 8, 8, 8, 8, 8, 8, 8, 8, 8, 8, 8, 8, 8, 8, 8, 8, 8, 8, 8, 8, 8, 8, 8, 8, 8, 8, 8, 8, 8, 8, 8, 8, 8, 8, 8, 8, 8, 8, 8, 8, 8, 8, 8, 8, 8, 8, 8, 8, 8, 8, 8, 8, 8, 8, 8, 8, 8, 8, 8, 8, 8, 8, 8, 8, 8, 8, 8, 8, 8, 8, 8, 8, 8, 8, 8, 8, 8, 8, 8, 8, 8, 8, 8, 8, 8, 8, 8, 8, 8, 8, 8]⟩
def lnv (x : Nat) : Nat := (lnTab.data.getD x 0).toNat
set_option maxRecDepth 100000 in
theorem tz_facts : ∀ x : Fin 256, tzv x.1 ≤ 8 ∧ (x.1 ≠ 0 → tzv x < 8 ∧ x.1.testBit (tzv x) = true ∧ ∀ i : Fin 8, i.1 < tzv x → x.1.testBit i = false) := by decide +kernel
set_option maxRecDepth 100000 in
theorem ln_facts : ∀ x : Fin 256, lnv x.1 ≤ 8 ∧ (x.1 < 2 ^ lnv x.1) ∧ ∀ i : Fin 8, lnv x.1 = i.1 + 1 → x.1.testBit i.1 = true := by decide +kernel
theorem tab_get (T : ByteArray) (x : Nat) (h : x < T.size) : (T[x]'h).toNat = (T.data.getD x 0).toNat := by
  have h' : x < T.data.size := h
  rw [Array.getD_eq_getD_getElem?, Array.getElem?_eq_getElem h']
  rfl
theorem wrap_small (n : Nat) (h : n ≤ 8) : wrap64 (n : Int) = n := by unfold wrap64; omega
theorem bit_full {x i : Nat} (hx : x = 255) (hi : i < 8) : x.testBit i = true := by
  subst hx
  have : i = 0 ∨ i = 1 ∨ i = 2 ∨ i = 3 ∨ i = 4 ∨ i = 5 ∨ i = 6 ∨ i = 7 := by omega
  rcases this with rfl | rfl | rfl | rfl | rfl | rfl | rfl | rfl <;> rfl
set_option maxRecDepth 100000 in
theorem comp_bits : ∀ (x : Fin 256) (i : Fin 8), (255 - x.1).testBit i.1 = !(x.1.testBit i.1) := by decide +kernel
set_option maxRecDepth 100000 in
theorem compl_eq : ∀ y : Fin 256, 255 ^^^ y.1 = 255 - y.1 := by decide +kernel
theorem compl_u8 (y : Nat) (hy : y < 256) : bits BinOp.xor IntKind.u8 IntKind.u8.max (y : Int) = ((255 - y : Nat) : Int) := by
  have : IntKind.u8.max = ((255 : Nat) : Int) := by decide +kernel
  rw [this, u8_xor_nat 255 y (by omega) hy]
  exact congrArg _ (compl_eq ⟨y, hy⟩)
theorem all_full (L : List Nat) (j : Nat) (h : ∀ x, x < j → L.getD x 0 = 255) (k : Nat) (hk : k < 8 * j) : bitOf L k = true := bit_full (h (k / 8) (by omega)) (Nat.mod_lt _ (by omega))
/-- The first bit that is 0, at byte j. -/
theorem first_free (L : List Nat) (hL : octs L) (j : Nat) (h : ∀ x, x < j → L.getD x 0 = 255) (hne : L.getD j 0 ≠ 255) :
    tzv (255 - L.getD j 0) < 8 ∧ bitOf L (j * 8 + tzv (255 - L.getD j 0)) = false ∧ ∀ k, k < j * 8 + tzv (255 - L.getD j 0) → bitOf L k = true := by
  have hx := octs_getD hL j
  have hf := (tz_facts ⟨255 - L.getD j 0, by omega⟩).2 (by simp only; omega)
  simp only at hf
  obtain ⟨h1, h2, h3⟩ := hf
  have hcb := fun (i : Nat) (hi : i < 8) => comp_bits ⟨L.getD j 0, hx⟩ ⟨i, hi⟩
  simp only at hcb
  refine ⟨h1, ?_, fun k hk => ?_⟩
  · have := hcb _ h1
    rw [h2] at this
    unfold bitOf
    rw [show (j * 8 + tzv (255 - L.getD j 0)) / 8 = j by omega, show (j * 8 + tzv (255 - L.getD j 0)) % 8 = tzv (255 - L.getD j 0) by omega]
    simpa using this
  · rcases Nat.lt_or_ge k (8 * j) with hlt | hge
    · exact all_full L j h k hlt
    · have hm : k % 8 < 8 := Nat.mod_lt _ (by omega)
      have := h3 ⟨k % 8, hm⟩ (by simp only; omega)
      simp only at this
      have hc := hcb _ hm
      rw [this] at hc
      unfold bitOf
      rw [show k / 8 = j by omega]
      simpa using hc

/-- Whether k is the least free page's bit. -/
def least (L : List Nat) (k : Nat) : Prop := bitOf L k = false ∧ ∀ j, j < k → bitOf L j = true
/-- What Take does. -/
def TakeOut (b most : Nat) (L : List Nat) (w : World) (e : Ending) (w' : World) : Prop :=
  (e = .returned (.tuple #[.int .i64 0, .int .i64 5]) ∧ w' = w ∧ ∀ k, k < most → bitOf L k = true) ∨
  ∃ k : Nat, k < most ∧ least L k ∧ e = .returned (.tuple #[.int .i64 ((k : Int) + 1), .int .i64 0]) ∧ Mp w' b most (turned L k) ∧ Fr (fun j => j = b) w w'
/-- What Mark and Free answer and leave, of a page that is to be as 'on' says. -/
def setE (most : Nat) (L : List Nat) (on : Bool) (i : Int) : Int := if 1 ≤ i ∧ i ≤ most then (if bitOf L (i.toNat - 1) = on then 7 else 0) else 6
def setL (most : Nat) (L : List Nat) (on : Bool) (i : Int) : List Nat := if 1 ≤ i ∧ i ≤ most then (if bitOf L (i.toNat - 1) = on then L else turned L (i.toNat - 1)) else L
def zeroL : List Nat := List.replicate 512 0
/-- A map's cells. -/
def mc (most : Nat) (L : List Nat) : List Value := .int .i64 most :: cellsOf L
theorem mc_length (most : Nat) (L : List Nat) (h : L.length = 512) : (mc most L).length = 513 := by simp [mc, cellsOf_length, h]
theorem zero_bits (k : Nat) : bitOf zeroL k = false := by
  unfold bitOf zeroL
  rw [List.getD_eq_getElem?_getD, List.getElem?_replicate]
  split <;> simp
end Go.Proofs.YtihkdffihmhnaaaGreat.Al
