
/- A map of pages (alloc), beside the texts of redo. -/
import Derived.Test.YtnckmajfmkkpgaaGreatBB32
import Derived.Laws.IdiomStrings
import Derived.Lib.SlBytesConst
namespace Go.Proofs.YtnckmajfmkkpgaaGreat
open Go.RowKit
theorem Fr.any {S : Nat → Prop} {a b : World} (h : Fr (fun _ => False) a b) : Fr S a b := h.mono (fun _ _ f => f.elim)
theorem Fr.block_eq {S : Nat → Prop} {w w' : World} (f : Fr S w w') {k : Nat} {o : Obj} (h : w.heap[k]? = some o) (hn : ¬ S k) : w'.heap[k]? = some o := by
  rw [f.block k (lt_of_block h) hn]; exact h
theorem Row.lt {w : World} {a : Option Addr} {cap : Nat} {l : List Nat} (h : Row w a cap l) {b off : Nat} (ha : a = some ⟨b, off, none⟩) (hl : l ≠ []) : b < w.heap.size := by
  rcases h.at_ with h0 | ⟨b', off', h1, hb, _⟩
  · exact absurd h0 hl
  · rw [ha] at h1; simp at h1; omega
theorem Has.bytes {w : World} {a : Option Addr} {n c : Nat} {l : List Nat} (h : Has w 1 (.slice a n c) n (cellsOf l)) (hl : octs l) (hs : l.length ≤ 140737488355328) : Row w a c l := by
  have hn : n = l.length := by have := h.1; rw [cellsOf_length] at this; omega
  subst hn
  rcases h.2 with ⟨h1, h0⟩ | ⟨g, cap, hv, hg, hnc, hcm, hth, hra⟩
  · simp only [Value.slice.injEq] at h1
    obtain ⟨rfl, _, rfl⟩ := h1
    have : l = [] := List.eq_nil_of_length_eq_zero h0
    subst this
    exact ⟨Nat.le_refl _, by omega, hs, hl, .inl rfl⟩
  · simp only [Value.slice.injEq, true_and] at hv
    obtain ⟨rfl, rfl⟩ := hv
    exact ⟨hnc, by unfold maxLen at hcm; omega, hs, hl, .inr ⟨g, 0, rfl, hg, fun i hi => by
      have := hra i _ (cellsOf_get l i hi)
      simpa using this⟩⟩
theorem Row.from {w : World} {a : Option Addr} {c : Nat} {l : List Nat} (h : Row w a c l) : From w a (cellsOf l) := by
  rcases h.at_ with h0 | ⟨b, off, rfl, _, hc⟩
  · exact .inl (by rw [h0]; rfl)
  · refine .inr ⟨b, off, rfl, fun j u hu => ?_⟩
    have hj : j < l.length := by have := (List.getElem?_eq_some_iff.1 hu).1; rwa [cellsOf_length] at this
    rw [cellsOf_get l j hj] at hu
    rw [hc j hj]; exact hu

theorem strOf_size (l : List Nat) : (strOf l).size = l.length := by simp [strOf, ByteArray.size]

theorem made_flat {z : Array Value} {size : Nat} (hz : z.size = size) (hp : 0 < size) (n : Nat) : (madeCells z (n * size)).toList = (List.replicate n ()).flatMap (fun _ => z.toList) := by
  have hf : ∀ x : Unit, (z.toList).length = size := fun _ => by simpa using hz
  apply List.ext_getElem?
  intro k
  by_cases hk : k < n * size
  · have hd : k / size < n := (Nat.div_lt_iff_lt_mul hp).2 hk
    have hm : k % size < size := Nat.mod_lt _ hp
    have hk2 : k = k / size * size + k % size := by rw [Nat.mul_comm]; exact (Nat.div_add_mod k size).symm
    have e := flat_get (f := fun _ : Unit => z.toList) (size := size) (fun _ => hf ()) (List.replicate n ()) (k / size) () (by simp [hd]) (k % size) hm
    rw [← hk2] at e
    rw [e]
    have hlt : k % z.size < z.size := by rw [hz]; exact hm
    simp only [madeCells, Array.toList_map, List.getElem?_map, Array.getElem?_toList, Array.getElem?_range, hk, if_true, Option.map_some]
    rw [hz] at hlt ⊢
    rw [Array.getElem?_eq_getElem (by rw [hz]; exact hlt)]
    congr 1
    exact getElem!_pos z (k % size) (by rw [hz]; exact hlt)
  · rw [List.getElem?_eq_none, List.getElem?_eq_none]
    · rw [flat_length (size := size) (fun _ => hf ())]; simp; omega
    · rw [Array.length_toList, size_madeCells]; omega
theorem replicate_flat {α : Type} (f : α → List Value) (x : α) (n : Nat) : (List.replicate n ()).flatMap (fun _ => f x) = (List.replicate n x).flatMap f := by
  induction n with
  | zero => rfl
  | succ n ih => rw [List.replicate_succ, List.replicate_succ, List.flatMap_cons, List.flatMap_cons, ih]
theorem ownsRow.has {w : World} {base : Nat} {e : TypeId} {size : Nat} {v : Value} {n : Nat} {xs : List Value} (h : w.ownsRow base e size v n xs) : Has w size v n xs := by
  refine ⟨h.1, ?_⟩
  rcases h.2 with h2 | ⟨g, cap, cur, rfl, hg, hh, hnc, hcm, hcs, htake⟩
  · exact .inl h2
  · refine .inr ⟨g, cap, rfl, lt_of_block hh, hnc, hcm, there_block hh (by omega), range_block hh (fun j u hu => ?_)⟩
    rw [← htake, List.getElem?_take] at hu
    rw [Nat.zero_add]
    split at hu
    · simpa using hu
    · cases hu
theorem flat_length' {α : Type} {f : α → List Value} {x : α} {size : Nat} (n : Nat) (hl : (f x).length = size) : ((List.replicate n x).flatMap f).length = size * n := by
  induction n with
  | zero => simp
  | succ n ih => rw [List.replicate_succ, List.flatMap_cons, List.length_append, hl, ih, Nat.mul_succ]; omega
theorem Has.made {α : Type} (f : α → List Value) (x : α) {size : Nat} (hp : 0 < size) {z : Value} (hz : z.cells.toList = f x) (hl : (f x).length = size) (n : Nat) (hn : n ≤ maxLen) (w : World) (e : TypeId) :
    Has (w.alloc (.cells (madeCells z.cells (n * size)) e)) size (.slice (some ⟨w.heap.size, 0, none⟩) n n) n ((List.replicate n x).flatMap f) := by
  have hs : z.cells.size = size := by rw [← hl, ← hz]; simp
  have hb := heap_alloc_new w (.cells (madeCells z.cells (n * size)) e)
  refine ⟨by rw [flat_length' n hl, Nat.mul_comm], .inr ⟨_, _, rfl, by simp, Nat.le_refl _, hn, there_block hb (by rw [size_madeCells]; omega), range_block hb (fun j u hu => ?_)⟩⟩
  rw [Nat.zero_add, ← Array.getElem?_toList, made_flat hs hp, hz, replicate_flat]
  exact hu
end Go.Proofs.YtnckmajfmkkpgaaGreat
namespace Go.Proofs.YtnckmajfmkkpgaaGreat.Al
open Go.RowKit

/-- The bit k of bytes. -/
def bitOf (L : List Nat) (k : Nat) : Bool := (L.getD (k / 8) 0).testBit (k % 8)
/-- Bytes with the bit k turned. -/
def turned (L : List Nat) (k : Nat) : List Nat := L.set (k / 8) (L.getD (k / 8) 0 ^^^ 2 ^ (k % 8))

/-- A map at block b: its bound, and its bits. -/
structure Mp (w : World) (b : Nat) (most : Nat) (L : List Nat) : Prop where
  box : Has w 513 (.slice (some ⟨b, 0, none⟩) 1 1) 1 (.int .i64 most :: cellsOf L)
  len : L.length = 512
  byte : octs L
  pos : 1 ≤ most
  top : most ≤ 4096
  tail : ∀ k, most ≤ k → bitOf L k = false

theorem Mp.form {w : World} {b most : Nat} {L : List Nat} (h : Mp w b most L) : b < w.heap.size ∧ w.there b 0 513 ∧ w.rangeAt b 0 (.int .i64 most :: cellsOf L) := by
  obtain ⟨g, cap, hv, hg, _, _, h1, h2⟩ := h.box.form (by omega)
  simp only [Value.slice.injEq, Option.some.injEq, Addr.mk.injEq, and_true, true_and] at hv
  obtain ⟨rfl, rfl⟩ := hv
  exact ⟨hg, by simpa using h1, h2⟩
theorem Mp.lt {w : World} {b most : Nat} {L : List Nat} (h : Mp w b most L) : b < w.heap.size := h.form.1
theorem Mp.cell0 {w : World} {b most : Nat} {L : List Nat} (h : Mp w b most L) : w.cell? ⟨b, 0, none⟩ = some (.int .i64 most) := by
  have := h.form.2.2 0 _ rfl
  simpa using this
theorem Mp.cellB {w : World} {b most : Nat} {L : List Nat} (h : Mp w b most L) (j : Nat) (hj : j < 512) : w.cell? ⟨b, 1 + j, none⟩ = some (.int .u8 ((L.getD j 0 : Nat) : Int)) := by
  have := h.form.2.2 (j + 1) (.int .u8 ((L.getD j 0 : Nat) : Int)) (by rw [List.getElem?_cons_succ]; exact cellsOf_get L j (by rw [h.len]; exact hj))
  rw [Nat.zero_add, Nat.add_comm] at this
  exact this
theorem Mp.free {w : World} {b most : Nat} {L : List Nat} (h : Mp w b most L) (j : Nat) (hj : j < 513) : w.frozen? ⟨b, j, none⟩ = false := by
  have := (h.form.2.1 j hj).2
  simpa using this
theorem Mp.fr {S : Nat → Prop} {w w' : World} {b most : Nat} {L : List Nat} (h : Mp w b most L) (f : Fr S w w') (hn : ¬ S b) : Mp w' b most L :=
  ⟨h.box.fr f (fun k hk => by simp [Value.ownBlock] at hk; rwa [← hk]), h.len, h.byte, h.pos, h.top, h.tail⟩
theorem Mp.same {w w' : World} {b most : Nat} {L : List Nat} (h : Mp w b most L) (f : Fr (fun _ => False) w w') : Mp w' b most L := h.fr f (fun f => f)
theorem Mp.set {w : World} {b most : Nat} {L : List Nat} (h : Mp w b most L) (j x : Nat) (hj : j < 512) (hx : x < 256) (ht : ∀ k, most ≤ k → bitOf (L.set j x) k = false) : Mp (w.setCell ⟨b, 1 + j, none⟩ (.int .u8 x)) b most (L.set j x) := by
  have hb := h.box.set (1 + j) [.int .u8 x] (by simp [cellsOf_length, h.len]; omega)
  refine ⟨?_, by rw [List.length_set]; exact h.len, ?_, h.pos, h.top, ht⟩
  · have e : (Value.int .i64 (most : Int) :: cellsOf L).take (1 + j) ++ [.int .u8 (x : Int)] ++ (Value.int .i64 (most : Int) :: cellsOf L).drop (1 + j + [Value.int .u8 (x : Int)].length) = .int .i64 most :: cellsOf (L.set j x) := by
      have hl : j < (cellsOf L).length := by rw [cellsOf_length, h.len]; exact hj
      have e1 : cellsOf (L.set j x) = (cellsOf L).set j (.int .u8 x) := by unfold cellsOf; rw [List.map_set]
      rw [e1, List.set_eq_take_append_cons_drop, if_pos hl]
      rw [show 1 + j = j + 1 by omega]
      simp
    rw [e] at hb
    exact hb
  · intro y hy
    rcases List.mem_or_eq_of_mem_set hy with h1 | rfl
    · exact h.byte y h1
    · exact hx

theorem bit_lt {x k : Nat} (hx : x < 256) (hk : k < 8) : x ^^^ 2 ^ k < 256 := Nat.xor_lt_two_pow (n := 8) hx (by
  have : 2 ^ k < 2 ^ 8 := Nat.pow_lt_pow_right (by omega) hk
  simpa using this)
theorem bitOf_turned (L : List Nat) (k : Nat) (hk : k / 8 < L.length) (j : Nat) : bitOf (turned L k) j = if j = k then !bitOf L k else bitOf L j := by
  unfold bitOf turned
  by_cases h : j / 8 = k / 8
  · rw [h, List.getD_eq_getElem?_getD, List.getElem?_set_self hk]
    simp only [Option.getD_some]
    rw [Nat.testBit_xor, Nat.testBit_two_pow]
    by_cases hm : j = k
    · subst hm; simp
    · have : k % 8 ≠ j % 8 := by omega
      simp [hm, this]
  · have hne : j ≠ k := fun e => h (by rw [e])
    rw [if_neg hne, List.getD_eq_getElem?_getD, List.getElem?_set_ne (fun e => h e.symm), List.getD_eq_getElem?_getD]

theorem bound_nil (w : World) : Calls Tryz.prog 49 #[.pointer none] w fun e w' => e = .returned (.int .i64 0) ∧ w' = w := by
  go_enter Tryz.func49, Tryz.ntmps49
  go_wp2
  go_ret
  exact ⟨rfl, rfl⟩
theorem bound_any (b most : Nat) (L : List Nat) (w : World) (h : Mp w b most L) : Calls Tryz.prog 49 #[.pointer (some ⟨b, 0, none⟩)] w fun e w' => e = .returned (.int .i64 most) ∧ w' = w := by
  have hc := h.cell0
  go_enter Tryz.func49, Tryz.ntmps49
  go_wp2
  go_ret
  exact ⟨rfl, rfl⟩
theorem isPage_nil (i : Int) (w : World) : Calls Tryz.prog 32 #[.pointer none, .int .i64 i] w fun e w' => e = .returned (.bool false) ∧ w' = w := by
  by_cases h : 1 ≤ i
  · have h0 : decide (i ≤ 0) = false := by simp; omega
    go_enter Tryz.func32, Tryz.ntmps32
    go_wp2_with (refine (bound_nil _).mono ?_; rintro e w' ⟨rfl, rfl⟩)
    go_ret
    exact ⟨rfl, rfl⟩
  · have h0 : i < 1 := by omega
    go_enter Tryz.func32, Tryz.ntmps32
    go_wp2
    go_ret
    exact ⟨rfl, rfl⟩
theorem isPage_any (b most : Nat) (L : List Nat) (w : World) (h : Mp w b most L) (i : Int) : Calls Tryz.prog 32 #[.pointer (some ⟨b, 0, none⟩), .int .i64 i] w fun e w' => e = .returned (.bool (decide (1 ≤ i ∧ i ≤ most))) ∧ w' = w := by
  by_cases h1 : 1 ≤ i
  · have e : decide (1 ≤ i ∧ i ≤ most) = decide (i ≤ most) := by simp [h1]
    rw [e]
    go_enter Tryz.func32, Tryz.ntmps32
    go_wp2_with (refine (bound_any b most L _ h).mono ?_; rintro e w' ⟨rfl, rfl⟩)
    go_ret
    exact ⟨rfl, rfl⟩
  · have h0 : i < 1 := by omega
    have e : decide (1 ≤ i ∧ i ≤ most) = false := by simp; omega
    rw [e]
    go_enter Tryz.func32, Tryz.ntmps32
    go_wp2
    go_ret
    exact ⟨rfl, rfl⟩
theorem ret_tt {a b : Int} {x y : Int} (h : a = b) (k : x = y) : Ending.returned (.tuple #[.int .i64 a, .int .u8 x]) = .returned (.tuple #[.int .i64 b, .int .u8 y]) := by rw [h, k]
theorem pow_lt8 (k : Nat) : 2 ^ (k % 8) < 256 := by
  have : 2 ^ (k % 8) < 2 ^ 8 := Nat.pow_lt_pow_right (by omega) (Nat.mod_lt _ (by omega))
  simpa using this
theorem pow_mod (k : Nat) : (2 : Int) ^ (k % 8) % 256 = ((2 ^ (k % 8) : Nat) : Int) := by
  have := pow_lt8 k
  have e : (2 : Int) ^ (k % 8) = ((2 ^ (k % 8) : Nat) : Int) := by simp
  rw [e]
  exact Int.emod_eq_of_lt (Int.natCast_nonneg _) (Int.ofNat_lt.2 this)
theorem and_bit (y k : Nat) (hy : y < 256) : (bits BinOp.and IntKind.u8 (y : Int) ((2 ^ (k % 8) : Nat) : Int) != 0) = y.testBit (k % 8) := by
  rw [u8_and_nat y _ hy (pow_lt8 k)]
  have hm : k % 8 < 8 := Nat.mod_lt _ (by omega)
  generalize k % 8 = i at hm
  have e : (y &&& 2 ^ i != 0) = y.testBit i := by
    rw [Bool.eq_iff_iff]
    simp only [bne_iff_ne, ne_eq]
    constructor
    · intro h
      obtain ⟨j, hj⟩ := Nat.exists_testBit_of_ne_zero h
      rw [Nat.testBit_and, Nat.testBit_two_pow] at hj
      simp at hj
      rw [hj.2]; exact hj.1
    · intro h h0
      have : (y &&& 2 ^ i).testBit i = true := by rw [Nat.testBit_and, h, Nat.testBit_two_pow]; simp
      rw [h0] at this
      simp at this
  rw [← e]
  rw [Bool.eq_iff_iff]
  simp only [bne_iff_ne, ne_eq]
  exact not_congr Int.ofNat_eq_zero
theorem place_any (k : Nat) (hk : k < 4096) (w : World) : Calls Tryz.prog 51 #[.int .i64 ((k : Int) + 1)] w fun e w' => e = .returned (.tuple #[.int .i64 (k / 8 : Nat), .int .u8 (2 ^ (k % 8) : Nat)]) ∧ Fr (fun _ => False) w w' := by
  go_enter Tryz.func51, Tryz.ntmps51
  go_wp2
  go_region
  all_goals go_wp2
  all_goals go_ret2
  all_goals exact ⟨ret_tt (by omega) (pow_mod k), (Fr.refl _ _).drew⟩
theorem needed_any (k : Nat) (hk : k ≤ 4096) (w : World) : Calls Tryz.prog 48 #[.int .i64 k] w fun e w' => e = .returned (.int .i64 ((k + 7) / 8 : Nat)) ∧ w' = w := by
  go_enter Tryz.func48, Tryz.ntmps48
  go_wp2
  go_ret
  exact ⟨ret_int (by omega), rfl⟩
/-- What Has tells. -/
def hasF (most : Nat) (L : List Nat) (i : Int) : Bool := decide (1 ≤ i ∧ i ≤ most) && bitOf L (i.toNat - 1)
theorem has_nil (i : Int) (w : World) : Calls Tryz.prog 59 #[.pointer none, .int .i64 i] w fun e w' => e = .returned (.bool false) ∧ w' = w := by
  go_enter Tryz.func59, Tryz.ntmps59
  go_wp2_with (refine (isPage_nil _ _).mono ?_; rintro e w' ⟨rfl, rfl⟩)
  go_ret
  exact ⟨rfl, rfl⟩
theorem has_any (b most : Nat) (L : List Nat) (w : World) (h : Mp w b most L) (i : Int) : Calls Tryz.prog 59 #[.pointer (some ⟨b, 0, none⟩), .int .i64 i] w fun e w' => e = .returned (.bool (hasF most L i)) ∧ Fr (fun _ => False) w w' := by
  by_cases hi : 1 ≤ i ∧ i ≤ most
  · obtain ⟨k, rfl⟩ : ∃ k : Nat, i = (k : Int) + 1 := ⟨(i - 1).toNat, by omega⟩
    have hk : k < 4096 := by have := h.top; omega
    have hip := isPage_any b most L w h ((k : Int) + 1)
    rw [decide_eq_true hi] at hip
    have e : hasF most L ((k : Int) + 1) = bitOf L k := by unfold hasF; rw [decide_eq_true hi]; simp
    rw [e]
    have HB : Hid ((bits BinOp.and IntKind.u8 ((L.getD (k / 8) 0 : Nat) : Int) ((2 ^ (k % 8) : Nat) : Int) != 0) = bitOf L k) := and_bit _ k (octs_getD h.byte (k / 8))
    generalize bitOf L k = x at *
    have hc := h.cellB (k / 8) (by omega)
    have hb := h.lt
    have hx := octs_getD h.byte (k / 8)
    have hj : ((k / 8 : Nat) : Int) < 512 := by omega
    have hpl := fun W => place_any k hk W
    have hp2 := pow_lt8 k
    generalize k / 8 = j at *
    generalize 2 ^ (k % 8) = p at *
    generalize L.getD j 0 = y at *
    clear hi e h
    go_enter Tryz.func59, Tryz.ntmps59
    go_wp2_with fail
    refine hip.mono ?_
    rintro e w1 ⟨rfl, rfl⟩
    go_wp2_with fail
    refine (hpl _).mono ?_
    rintro e w1 ⟨rfl, f1⟩
    have hc1 := (f1.cell (p := ⟨b, 1 + j, none⟩) hb (fun f => f)).trans hc
    go_wp2
    go_ret
    exact ⟨by rw [← HB.out]; rfl, f1⟩
  · have hip := isPage_any b most L w h i
    rw [decide_eq_false hi] at hip
    have e : hasF most L i = false := by unfold hasF; rw [decide_eq_false hi]; simp
    rw [e]
    clear hi e
    go_enter Tryz.func59, Tryz.ntmps59
    go_wp2_with (refine hip.mono ?_; rintro e w' ⟨rfl, rfl⟩)
    go_ret
    exact ⟨rfl, Fr.refl _ _⟩

theorem mp_turn {w : World} {b most : Nat} {L : List Nat} (h : Mp w b most L) (k : Nat) (hk : k < most) : Mp (w.setCell ⟨b, 1 + k / 8, none⟩ (.int .u8 ((L.getD (k / 8) 0 ^^^ 2 ^ (k % 8) : Nat) : Int))) b most (turned L k) := by
  have hl : k / 8 < L.length := by have := h.len; have := h.top; omega
  refine h.set (k / 8) _ (by have := h.top; omega) (bit_lt (octs_getD h.byte _) (Nat.mod_lt _ (by omega))) (fun j hj => ?_)
  have := bitOf_turned L k hl j
  rw [if_neg (by omega), h.tail j hj] at this
  exact this
theorem turn_any (b most : Nat) (L : List Nat) (w : World) (h : Mp w b most L) (k : Nat) (hk : k < most) : Calls Tryz.prog 33 #[.pointer (some ⟨b, 0, none⟩), .int .i64 ((k : Int) + 1)] w fun e w' => e = .returned (.tuple #[]) ∧ Mp w' b most (turned L k) ∧ Fr (fun j => j = b) w w' := by
  have hk4 : k < 4096 := by have := h.top; omega
  have hpl := fun W => place_any k hk4 W
  have HX : Hid (bits BinOp.xor IntKind.u8 ((L.getD (k / 8) 0 : Nat) : Int) ((2 ^ (k % 8) : Nat) : Int) = ((L.getD (k / 8) 0 ^^^ 2 ^ (k % 8) : Nat) : Int)) := u8_xor_nat _ _ (octs_getD h.byte (k / 8)) (pow_lt8 k)
  have HM : Hid (∀ W, Mp W b most L → Mp (W.setCell ⟨b, 1 + k / 8, none⟩ (.int .u8 ((L.getD (k / 8) 0 ^^^ 2 ^ (k % 8) : Nat) : Int))) b most (turned L k)) := fun W hW => mp_turn hW k hk
  have hc := h.cellB (k / 8) (by omega)
  have hz := h.free (1 + k / 8) (by omega)
  have hj : ((k / 8 : Nat) : Int) < 512 := by omega
  have hp2 := pow_lt8 k
  generalize k / 8 = j at *
  generalize 2 ^ (k % 8) = p at *
  generalize L.getD j 0 ^^^ p = z at *
  generalize L.getD j 0 = y at *
  go_enter Tryz.func33, Tryz.ntmps33
  go_wp2_with fail
  refine (hpl _).mono ?_
  rintro e w1 ⟨rfl, f1⟩
  have h1 := h.same f1
  have hc1 := (f1.cell (p := ⟨b, 1 + j, none⟩) h.lt (fun f => f)).trans hc
  have hz1 := h1.free (1 + j) (by omega)
  go_wp2
  go_region
  all_goals go_wp2
  all_goals go_end0
  all_goals rw [HX.out]
  all_goals exact ⟨rfl, (HM.out _ h1).same ((Fr.refl _ _).drew), ((f1.any (S := fun j => j = b)).setCell (p := ⟨b, 1 + j, none⟩) (fun _ => rfl) _).drew⟩
/-- How many bits 0 a byte ends with. -/
def tzTab : ByteArray := ⟨#[8, 0, 1, 0, 2, 0, 1, 0, 3, 0, 1, 0, 2, 0, 1, 0, 4, 0, 1, 0, 2, 0, 1, 0, 3, 0, 1, 0, 2, 0, 1, 0, 5, 0, 1, 0, 2, 0, 1, 0, 3, 0, 1, 0, 2, 0, 1, 0, 4, 0, 1, 0, 2, 0, 1, 0, 3, 0, 1, 0, 2, 0, 1, 0, 6, 0, 1, 0, 2, 0, 1, 0, 3, 0, 1, 0, 2, 0, 1, 0, 4, 0, 1, 0, 2, 0, 1, 0, 3, 0, 1, 0, 2, 0, 1, 0, 5, 0, 1, 0, 2, 0, 1, 0, 3, 0, 1, 0, 2, 0, 1, 0, 4, 0, 1, 0, 2, 0, 1, 0, 3, 0, 1, 0, 2, 0, 1, 0, 7, 0, 1, 0, 2, 0, 1, 0, 3, 0, 1, 0, 2, 0, 1, 0, 4, 0, 1, 0, 2, 0, 1, 0, 3, 0, 1, 0, 2, 0, 1, 0, 5, 0, 1, 0, 2, 0, 1, 0, 3, 0, 1, 0, 2, 0, 1, 0, 4, 0, 1, 0, 2, 0, 1, 0, 3, 0, 1, 0, 2, 0, 1, 0, 6, 0, 1, 0, 2, 0, 1, 0, 3, 0, 1, 0, 2, 0, 1, 0, 4, 0, 1, 0, 2, 0, 1, 0, 3, 0, 1, 0, 2, 0, 1, 0, 5, 0, 1, 0, 2, 0, 1, 0, 3, 0, 1, 0, 2, 0, 1, 0, 4, 0, 1, 0, 2, 0, 1, 0, 3, 0, 1, 0, 2, 0, 1, 0]⟩
def tzv (x : Nat) : Nat := (tzTab.data.getD x 0).toNat
/-- How many bits a byte has. -/
def lnTab : ByteArray := ⟨#[0, 1, 2, 2, 3, 3, 3, 3, 4, 4, 4, 4, 4, 4, 4, 4, 5, 5, 5, 5, 5, 5, 5, 5, 5, 5, 5, 5, 5, 5, 5, 5, 6, 6, 6, 6, 6, 6, 6, 6, 6, 6, 6, 6, 6, 6, 6, 6, 6, 6, 6, 6, 6, 6, 6, 6, 6, 6, 6, 6, 6, 6, 6, 6, 7, 7, 7, 7, 7, 7, 7, 7, 7, 7, 7, 7, 7, 7, 7, 7, 7, 7, 7, 7, 7, 7, 7, 7, 7, 7, 7, 7, 7, 7, 7, 7, 7, 7, 7, 7, 7, 7, 7, 7, 7, 7, 7, 7, 7, 7, 7, 7, 7, 7, 7, 7, 7, 7, 7, 7, 7, 7, 7, 7, 7, 7, 7, 7, 8, 8, 8, 8, 8, 8, 8, 8, 8, 8, 8, 8, 8, 8, 8, 8, 8, 8, 8, 8, 8, 8, 8, 8, 8, 8, 8, 8, 8, 8, 8, 8, 8, 8, 8, 8, 8, 8, 8, 8, 8, 8, 8, 8, 8, 8, 8, 8, 8, 8, 8, 8, 8, 8, 8, 8, 8, 8, 8, 8, 8, 8, 8, 8, 8, 8, 8, 8, 8, 8, 8, 8, 8, 8, 8, 8, 8, 8, 8, 8, 8, 8, 8, 8, 8, 8, 8, 8, 8, 8, 8, 8, 8, 8, 8, 8, 8, 8, 8, 8, 8, 8, 8, 8, 8, 8, 8, 8, 8, 8, 8, 8, 8, 8, 8, 8, 8, 8, 8, 8, 8, 8, 8, 8, 8, 8, 8, 8]⟩
def lnv (x : Nat) : Nat := (lnTab.data.getD x 0).toNat
set_option maxRecDepth 100000 in
theorem tz_facts : ∀ x : Fin 256, tzv x.1 ≤ 8 ∧ (x.1 ≠ 0 → tzv x < 8 ∧ x.1.testBit (tzv x) = true ∧ ∀ i : Fin 8, i.1 < tzv x → x.1.testBit i = false) := by decide +kernel
set_option maxRecDepth 100000 in
theorem ln_facts : ∀ x : Fin 256, lnv x.1 ≤ 8 ∧ (x.1 < 2 ^ lnv x.1) ∧ ∀ i : Fin 8, lnv x.1 = i.1 + 1 → x.1.testBit i.1 = true := by decide +kernel
theorem tab_get (T : ByteArray) (x : Nat) (h : x < T.size) : (T[x]'h).toNat = (T.data.getD x 0).toNat := by
  have h' : x < T.data.size := h
  rw [Array.getD_eq_getD_getElem?, Array.getElem?_eq_getElem h']
  rfl
theorem wrap_small (n : Nat) (h : n ≤ 8) : wrap64 (n : Int) = n := by unfold wrap64; omega
set_option maxRecDepth 100000 in
theorem tz_any (x : Nat) (hx : x < 256) (w : World) : Calls Tryz.prog 50 #[.int .u8 x] w fun e w' => e = .returned (.int .i64 (tzv x)) ∧ w' = w := by
  have hk := (tz_facts ⟨x, hx⟩).1
  have hT : x < tzTab.size := hx
  have HG : Hid (wrap64 ((tzTab[x]'hT).toNat : Int) = tzv x) := by
    show wrap64 ((tzTab[x]'hT).toNat : Int) = tzv x
    rw [tab_get]; exact wrap_small _ hk
  clear hk
  go_enter Tryz.func50, Tryz.ntmps50
  go_wp2
  go_ret
  exact ⟨ret_int HG.out, rfl⟩
theorem bit_full {x i : Nat} (hx : x = 255) (hi : i < 8) : x.testBit i = true := by
  subst hx
  have : i = 0 ∨ i = 1 ∨ i = 2 ∨ i = 3 ∨ i = 4 ∨ i = 5 ∨ i = 6 ∨ i = 7 := by omega
  rcases this with rfl | rfl | rfl | rfl | rfl | rfl | rfl | rfl <;> rfl
set_option maxRecDepth 100000 in
theorem comp_bits : ∀ (x : Fin 256) (i : Fin 8), (255 - x.1).testBit i.1 = !(x.1.testBit i.1) := by decide +kernel
set_option maxRecDepth 100000 in
theorem compl_eq : ∀ y : Fin 256, 255 ^^^ y.1 = 255 - y.1 := by decide +kernel
theorem compl_u8 (y : Nat) (hy : y < 256) : bits BinOp.xor IntKind.u8 IntKind.u8.max (y : Int) = ((255 - y : Nat) : Int) := by
  have : IntKind.u8.max = ((255 : Nat) : Int) := by decide +kernel
  rw [this, u8_xor_nat 255 y (by omega) hy]
  exact congrArg _ (compl_eq ⟨y, hy⟩)
theorem all_full (L : List Nat) (j : Nat) (h : ∀ x, x < j → L.getD x 0 = 255) (k : Nat) (hk : k < 8 * j) : bitOf L k = true := bit_full (h (k / 8) (by omega)) (Nat.mod_lt _ (by omega))
/-- The first bit that is 0, at byte j. -/
theorem first_free (L : List Nat) (hL : octs L) (j : Nat) (h : ∀ x, x < j → L.getD x 0 = 255) (hne : L.getD j 0 ≠ 255) :
    tzv (255 - L.getD j 0) < 8 ∧ bitOf L (j * 8 + tzv (255 - L.getD j 0)) = false ∧ ∀ k, k < j * 8 + tzv (255 - L.getD j 0) → bitOf L k = true := by
  have hx := octs_getD hL j
  have hf := (tz_facts ⟨255 - L.getD j 0, by omega⟩).2 (by simp only; omega)
  simp only at hf
  obtain ⟨h1, h2, h3⟩ := hf
  have hcb := fun (i : Nat) (hi : i < 8) => comp_bits ⟨L.getD j 0, hx⟩ ⟨i, hi⟩
  simp only at hcb
  refine ⟨h1, ?_, fun k hk => ?_⟩
  · have := hcb _ h1
    rw [h2] at this
    unfold bitOf
    rw [show (j * 8 + tzv (255 - L.getD j 0)) / 8 = j by omega, show (j * 8 + tzv (255 - L.getD j 0)) % 8 = tzv (255 - L.getD j 0) by omega]
    simpa using this
  · rcases Nat.lt_or_ge k (8 * j) with hlt | hge
    · exact all_full L j h k hlt
    · have hm : k % 8 < 8 := Nat.mod_lt _ (by omega)
      have := h3 ⟨k % 8, hm⟩ (by simp only; omega)
      simp only at this
      have hc := hcb _ hm
      rw [this] at hc
      unfold bitOf
      rw [show k / 8 = j by omega]
      simpa using hc

/-- Whether k is the least free page's bit. -/
def least (L : List Nat) (k : Nat) : Prop := bitOf L k = false ∧ ∀ j, j < k → bitOf L j = true
set_option maxRecDepth 100000 in
set_option maxHeartbeats 1000000 in
theorem leastFree_any (b most : Nat) (L : List Nat) (w : World) (h : Mp w b most L) : Calls Tryz.prog 31 #[.pointer (some ⟨b, 0, none⟩)] w fun e w' => ∃ r : Nat, e = .returned (.int .i64 r) ∧ ((r = 0 ∧ ∀ k, k < most → bitOf L k = true) ∨ ∃ k, r = k + 1 ∧ k < 4096 ∧ least L k) ∧ w' = w := by
  have htop := h.top
  have hn := needed_any most htop w
  have HN : Hid ((most + 7) / 8 ≤ 512 ∧ most ≤ 8 * ((most + 7) / 8)) := ⟨by omega, by omega⟩
  generalize (most + 7) / 8 = n at *
  go_enter Tryz.func31, Tryz.ntmps31
  go_wp2_with fail
  refine (bound_any b most L _ h).mono ?_
  rintro e w1 ⟨rfl, rfl⟩
  go_wp2_with fail
  refine hn.mono ?_
  rintro e w2 ⟨rfl, rfl⟩
  go_wp2
  go_loopw [8] (fun i wr => ∃ j : Nat, j ≤ n ∧ i = .int .i64 j ∧ Hid (∀ x, x < j → L.getD x 0 = 255) ∧ wr = w2) (fun i _ => n - (intOf i).toNat)
  case atStart => exact ⟨0, by omega, rfl, (fun j h => by omega), rfl⟩
  case round =>
    obtain ⟨j, hj, rfl, HE, rfl⟩ := hrel
    by_cases hlt : j < n
    · have hjn : (j : Int) < (n : Int) := by omega
      have hj5 : (j : Int) < 512 := by have := HN.out.1; omega
      have hcell := h.cellB j (by omega)
      have hx := octs_getD h.byte j
      have HF : Hid (L.getD j 0 ≠ 255 → tzv (255 - L.getD j 0) < 8 ∧ bitOf L (j * 8 + tzv (255 - L.getD j 0)) = false ∧ ∀ k, k < j * 8 + tzv (255 - L.getD j 0) → bitOf L k = true) := first_free L h.byte j HE.out
      obtain ⟨y, hy⟩ : ∃ y, y = L.getD j 0 := ⟨_, rfl⟩
      have HY : Hid (y = L.getD j 0) := hy
      rw [← hy] at hcell hx HF
      clear hy
      by_cases h255 : y = 255
      · subst h255
        go_wp2
        go_roundw
        case rel =>
          refine ⟨j + 1, by omega, by go_num, fun x hx => ?_, trivial⟩
          rcases Nat.lt_or_ge x j with h2 | h2
          · exact HE.out x h2
          · rw [show x = j by omega]; exact HY.out.symm
        case measure => simp [intOf]; omega
      · have hne : ((y : Int) != 255) = true := by simp; omega
        have HF2 : Hid (tzv (255 - y) < 8 ∧ bitOf L (j * 8 + tzv (255 - y)) = false ∧ ∀ k, k < j * 8 + tzv (255 - y) → bitOf L k = true) := HF.out h255
        have htz := tz_any (255 - y) (by omega)
        have HC : Hid (bits BinOp.xor IntKind.u8 IntKind.u8.max (y : Int) = ((255 - y : Nat) : Int)) := compl_u8 y hx
        generalize 255 - y = z at *
        obtain ⟨t, ht⟩ : ∃ t, t = tzv z := ⟨_, rfl⟩
        rw [← ht] at HF2 htz
        have ht8 : t < 8 := HF2.out.1
        clear ht HF
        go_wp2_with fail
        rw [HC.out]
        refine (htz _).mono ?_
        rintro e w3 ⟨rfl, rfl⟩
        go_wp2
        go_ret
        exact ⟨j * 8 + t + 1, ret_int (by omega), .inr ⟨j * 8 + t, rfl, by have := HN.out.1; omega, HF2.out.2.1, HF2.out.2.2⟩, rfl⟩
    · have e : j = n := by omega
      subst e
      go_wp2
      go_ret
      exact ⟨0, rfl, .inl ⟨rfl, fun k hk => all_full L j HE.out k (by have := HN.out.2; omega)⟩, rfl⟩

theorem leastFree_nil (w : World) : Calls Tryz.prog 31 #[.pointer none] w fun e w' => e = .returned (.int .i64 0) ∧ w' = w := by
  have hn := needed_any 0 (by omega) w
  go_enter Tryz.func31, Tryz.ntmps31
  go_wp2_with fail
  refine (bound_nil _).mono ?_
  rintro e w1 ⟨rfl, rfl⟩
  go_wp2_with fail
  refine hn.mono ?_
  rintro e w2 ⟨rfl, rfl⟩
  go_wp2
  refine wp_loop_rounds 1 ?_
  rw [rounds_succ]
  go_wp2
  go_ret
  exact ⟨rfl, rfl⟩
theorem isPage_yes (b most : Nat) (L : List Nat) (w : World) (h : Mp w b most L) (k : Nat) (hk : k < most) : Calls Tryz.prog 32 #[.pointer (some ⟨b, 0, none⟩), .int .i64 ((k : Int) + 1)] w fun e w' => e = .returned (.bool true) ∧ w' = w := by
  have := isPage_any b most L w h ((k : Int) + 1)
  rwa [decide_eq_true (show 1 ≤ (k : Int) + 1 ∧ (k : Int) + 1 ≤ most by omega)] at this
theorem isPage_no (b most : Nat) (L : List Nat) (w : World) (h : Mp w b most L) (i : Int) (hi : i < 1 ∨ (most : Int) < i) : Calls Tryz.prog 32 #[.pointer (some ⟨b, 0, none⟩), .int .i64 i] w fun e w' => e = .returned (.bool false) ∧ w' = w := by
  have := isPage_any b most L w h i
  rwa [decide_eq_false (by omega)] at this
theorem take_nil (w : World) : Calls Tryz.prog 17 #[.pointer none] w fun e w' => e = .returned (.tuple #[.int .i64 0, .int .i64 5]) ∧ w' = w := by
  go_enter Tryz.func17, Tryz.ntmps17
  go_wp2_with fail
  refine (leastFree_nil _).mono ?_
  rintro e w1 ⟨rfl, rfl⟩
  go_wp2_with fail
  refine (isPage_nil _ _).mono ?_
  rintro e w1 ⟨rfl, rfl⟩
  go_wp2
  go_ret2
  exact ⟨rfl, rfl⟩
/-- What Take does. -/
def TakeOut (b most : Nat) (L : List Nat) (w : World) (e : Ending) (w' : World) : Prop :=
  (e = .returned (.tuple #[.int .i64 0, .int .i64 5]) ∧ w' = w ∧ ∀ k, k < most → bitOf L k = true) ∨
  ∃ k : Nat, k < most ∧ least L k ∧ e = .returned (.tuple #[.int .i64 ((k : Int) + 1), .int .i64 0]) ∧ Mp w' b most (turned L k) ∧ Fr (fun j => j = b) w w'
theorem take_any (b most : Nat) (L : List Nat) (w : World) (h : Mp w b most L) : Calls Tryz.prog 17 #[.pointer (some ⟨b, 0, none⟩)] w fun e w' => TakeOut b most L w e w' := by
  go_enter Tryz.func17, Tryz.ntmps17
  go_wp2_with fail
  refine (leastFree_any b most L _ h).mono ?_
  rintro e w1 ⟨r, rfl, hr, rfl⟩
  rcases hr with ⟨rfl, hall⟩ | ⟨k, rfl, hk4, hl⟩
  · have HA : Hid (∀ k, k < most → bitOf L k = true) := hall
    clear hall
    go_wp2_with fail
    refine (isPage_no b most L _ h 0 (by omega)).mono ?_
    rintro e w1 ⟨rfl, rfl⟩
    go_wp2
    go_ret2
    exact .inl ⟨rfl, rfl, HA.out⟩
  · have HL : Hid (least L k) := hl
    clear hl
    rw [show (((k + 1 : Nat) : Int)) = (k : Int) + 1 by omega]
    by_cases hkm : k < most
    · have hyes := isPage_yes b most L _ h k hkm
      go_wp2_with fail
      refine hyes.mono ?_
      rintro e w1 ⟨rfl, rfl⟩
      go_wp2_with fail
      refine (turn_any b most L _ h k hkm).mono ?_
      rintro e w2 ⟨rfl, h2, f2⟩
      go_wp2
      go_ret2
      exact .inr ⟨k, hkm, HL.out, rfl, h2, f2⟩
    · have hno := isPage_no b most L _ h ((k : Int) + 1) (by omega)
      have HA : Hid (∀ j, j < most → bitOf L j = true) := fun j hj => HL.out.2 j (by omega)
      go_wp2_with fail
      refine hno.mono ?_
      rintro e w1 ⟨rfl, rfl⟩
      go_wp2
      go_ret2
      exact .inl ⟨rfl, rfl, HA.out⟩
/-- What Mark and Free answer and leave, of a page that is to be as 'on' says. -/
def setE (most : Nat) (L : List Nat) (on : Bool) (i : Int) : Int := if 1 ≤ i ∧ i ≤ most then (if bitOf L (i.toNat - 1) = on then 7 else 0) else 6
def setL (most : Nat) (L : List Nat) (on : Bool) (i : Int) : List Nat := if 1 ≤ i ∧ i ≤ most then (if bitOf L (i.toNat - 1) = on then L else turned L (i.toNat - 1)) else L
theorem has_bit (b most : Nat) (L : List Nat) (w : World) (h : Mp w b most L) (k : Nat) (hk : k < most) : Calls Tryz.prog 59 #[.pointer (some ⟨b, 0, none⟩), .int .i64 ((k : Int) + 1)] w fun e w' => e = .returned (.bool (bitOf L k)) ∧ Fr (fun _ => False) w w' := by
  have := has_any b most L w h ((k : Int) + 1)
  have e : hasF most L ((k : Int) + 1) = bitOf L k := by unfold hasF; rw [decide_eq_true (by omega)]; simp
  rwa [e] at this
theorem mark_any (b most : Nat) (L : List Nat) (w : World) (h : Mp w b most L) (i : Int) : Calls Tryz.prog 37 #[.pointer (some ⟨b, 0, none⟩), .int .i64 i] w fun e w' => e = .returned (.int .i64 (setE most L true i)) ∧ Mp w' b most (setL most L true i) ∧ Fr (fun j => j = b) w w' := by
  unfold setE setL
  by_cases hi : 1 ≤ i ∧ i ≤ most
  · rw [if_pos hi, if_pos hi]
    obtain ⟨k, rfl⟩ : ∃ k : Nat, i = (k : Int) + 1 := ⟨(i - 1).toNat, by omega⟩
    rw [show ((k : Int) + 1).toNat - 1 = k by omega]
    have hkm : k < most := by omega
    have hyes := isPage_yes b most L _ h k hkm
    have hhas := has_bit b most L _ h k hkm
    clear hi
    cases hb : bitOf L k
    · rw [hb] at hhas
      have HB : Hid (bitOf L k = false) := hb
      clear hb
      rw [if_neg (by simp), if_neg (by simp)]
      go_enter Tryz.func37, Tryz.ntmps37
      go_wp2_with fail
      refine hyes.mono ?_
      rintro e w1 ⟨rfl, rfl⟩
      go_wp2_with fail
      refine hhas.mono ?_
      rintro e w2 ⟨rfl, f2⟩
      have h2 := h.same f2
      go_wp2_with fail
      refine (turn_any b most L _ h2 k hkm).mono ?_
      rintro e w3 ⟨rfl, h3, f3⟩
      go_wp2
      go_ret
      exact ⟨rfl, h3, f2.any.trans f3 (fun _ _ e => e)⟩
    · rw [hb] at hhas
      have HB : Hid (bitOf L k = true) := hb
      clear hb
      rw [if_pos rfl, if_pos rfl]
      go_enter Tryz.func37, Tryz.ntmps37
      go_wp2_with fail
      refine hyes.mono ?_
      rintro e w1 ⟨rfl, rfl⟩
      go_wp2_with fail
      refine hhas.mono ?_
      rintro e w2 ⟨rfl, f2⟩
      go_wp2
      go_ret
      exact ⟨rfl, h.same f2, f2.any⟩
  · rw [if_neg hi, if_neg hi]
    have hno := isPage_no b most L _ h i (by omega)
    clear hi
    go_enter Tryz.func37, Tryz.ntmps37
    go_wp2_with fail
    refine hno.mono ?_
    rintro e w1 ⟨rfl, rfl⟩
    go_wp2
    go_ret
    exact ⟨rfl, h, Fr.refl _ _⟩
theorem mark_nil (i : Int) (w : World) : Calls Tryz.prog 37 #[.pointer none, .int .i64 i] w fun e w' => e = .returned (.int .i64 6) ∧ w' = w := by
  go_enter Tryz.func37, Tryz.ntmps37
  go_wp2_with (refine (isPage_nil _ _).mono ?_; rintro e w' ⟨rfl, rfl⟩)
  go_ret
  exact ⟨rfl, rfl⟩
def zeroL : List Nat := List.replicate 512 0
/-- A map's cells. -/
def mc (most : Nat) (L : List Nat) : List Value := .int .i64 most :: cellsOf L
theorem mc_length (most : Nat) (L : List Nat) (h : L.length = 512) : (mc most L).length = 513 := by simp [mc, cellsOf_length, h]
theorem zero_bits (k : Nat) : bitOf zeroL k = false := by
  unfold bitOf zeroL
  rw [List.getD_eq_getElem?_getD, List.getElem?_replicate]
  split <;> simp
theorem mp_new {w : World} {b most : Nat} {L : List Nat} (hb : w.heap[b]? = some (.cells (mc most L).toArray 100)) (hl : L.length = 512) (hL : octs L) (h1 : 1 ≤ most) (h2 : most ≤ 4096) (ht : ∀ k, most ≤ k → bitOf L k = false) : Mp w b most L := by
  refine ⟨⟨by rw [show (Value.int .i64 (most : Int) :: cellsOf L) = mc most L from rfl, mc_length _ _ hl], .inr ⟨b, 1, rfl, lt_of_block hb, Nat.le_refl _, by decide, there_block hb (by rw [List.size_toArray, mc_length _ _ hl]; omega), range_block hb (fun j v hv => ?_)⟩⟩, hl, hL, h1, h2, ht⟩
  rw [Nat.zero_add, List.getElem?_toArray]; exact hv
theorem wpList_buildM {ops : Array Oper} {rest : List Oper} {o : Oper} {a : Act} {w : World} {Q : Exit → Act → World → Prop} (hgd : o.guard = none) (x : Operand) (ho : o.op = .build 100 #[(0, x)]) (i : Nat) (hx : a.eval x = .int .i64 i)
    (h : wpList Tryz.prog ops Q rest (a.put o.dst (.agg (mc i zeroL).toArray)) w) : wpList Tryz.prog ops Q (o :: rest) a w :=
  wpList_plain hgd fun _ hK => by
    have rb : (Instr.build 100 #[(0, .int .i64 i)]).run Tryz.prog w = .ok (.agg (mc i zeroL).toArray) w := run_build w _ _ _ (by kernel_rfl)
    unfold Oper.wp execOp
    simp only [ho, List.map_toArray, List.map_cons, List.map_nil, hx, Sem.run_bind, rb, Result.andThen_ok]
    exact hK _ _ h
theorem anew_bad (n : Int) (h : n < 1 ∨ 4096 < n) (w : World) : Calls Tryz.prog 60 #[.int .i64 n] w fun e w' => e = .returned (.tuple #[.pointer none, .int .i64 1]) ∧ w' = w := by
  rcases h with h | h
  · go_enter Tryz.func60, Tryz.ntmps60
    go_wp2
    go_ret2
    exact ⟨rfl, rfl⟩
  · have h2 : 1 ≤ n := by omega
    go_enter Tryz.func60, Tryz.ntmps60
    go_wp2
    go_ret2
    exact ⟨rfl, rfl⟩
theorem anew_ok (n : Nat) (h1 : 1 ≤ n) (h2 : n ≤ 4096) (w : World) : Calls Tryz.prog 60 #[.int .i64 n] w fun e w' => e = .returned (.tuple #[.pointer (some ⟨w.heap.size, 0, none⟩), .int .i64 0]) ∧ Mp w' w.heap.size n zeroL ∧ Fr (fun _ => False) w w' := by
  have h1' : (1 : Int) ≤ n := by omega
  have h2' : (n : Int) ≤ 4096 := by omega
  go_enter Tryz.func60, Tryz.ntmps60
  go_wp2_with (refine wpList_buildM rfl _ rfl n rfl ?_)
  go_ret2
  have hb := heap_alloc_new w (.cells (mc n zeroL).toArray 100)
  exact ⟨rfl, mp_new hb List.length_replicate (fun x hx => by obtain ⟨_, rfl⟩ := List.mem_replicate.1 hx; omega) h1 h2 (fun k _ => zero_bits k), (Fr.refl _ _).alloc _⟩
end Go.Proofs.YtnckmajfmkkpgaaGreat.Al
