
/- A map of pages in memory; what its small functions do. -/
import Derived.Test.YtgilemiejemgkaaGen
import Derived.Test.YtgilemiejemgkaaMade
namespace Go.Proofs.Ytgilemiejemgkaa
open Go.RowKit

/-- The bit k of bytes. -/
def bitOf (L : List Nat) (k : Nat) : Bool := (L.getD (k / 8) 0).testBit (k % 8)
/-- Bytes with the bit k turned. -/
def turned (L : List Nat) (k : Nat) : List Nat := L.set (k / 8) (L.getD (k / 8) 0 ^^^ 2 ^ (k % 8))

/-- A map at block b: its bound, and its bits. -/
structure Mp (w : World) (b : Nat) (most : Nat) (L : List Nat) : Prop where
  box : Has w 513 (.slice (some ⟨b, 0, none⟩) 1 1) 1 (.int .i64 most :: cellsOf L)
  len : L.length = 512
  byte : octs L
  pos : 1 ≤ most
  top : most ≤ 4096
  tail : ∀ k, most ≤ k → bitOf L k = false

theorem Mp.form {w : World} {b most : Nat} {L : List Nat} (h : Mp w b most L) : b < w.heap.size ∧ w.there b 0 513 ∧ w.rangeAt b 0 (.int .i64 most :: cellsOf L) := by
  obtain ⟨g, cap, hv, hg, _, _, h1, h2⟩ := h.box.form (by omega)
  simp only [Value.slice.injEq, Option.some.injEq, Addr.mk.injEq, and_true, true_and] at hv
  obtain ⟨rfl, rfl⟩ := hv
  exact ⟨hg, by simpa using h1, h2⟩
theorem Mp.lt {w : World} {b most : Nat} {L : List Nat} (h : Mp w b most L) : b < w.heap.size := h.form.1
theorem Mp.cell0 {w : World} {b most : Nat} {L : List Nat} (h : Mp w b most L) : w.cell? ⟨b, 0, none⟩ = some (.int .i64 most) := by
  have := h.form.2.2 0 _ rfl
  simpa using this
theorem Mp.cellB {w : World} {b most : Nat} {L : List Nat} (h : Mp w b most L) (j : Nat) (hj : j < 512) : w.cell? ⟨b, 1 + j, none⟩ = some (.int .u8 ((L.getD j 0 : Nat) : Int)) := by
  have := h.form.2.2 (j + 1) (.int .u8 ((L.getD j 0 : Nat) : Int)) (by rw [List.getElem?_cons_succ]; exact cellsOf_get L j (by rw [h.len]; exact hj))
  rw [Nat.zero_add, Nat.add_comm] at this
  exact this
theorem Mp.free {w : World} {b most : Nat} {L : List Nat} (h : Mp w b most L) (j : Nat) (hj : j < 513) : w.frozen? ⟨b, j, none⟩ = false := by
  have := (h.form.2.1 j hj).2
  simpa using this
theorem Mp.fr {S : Nat → Prop} {w w' : World} {b most : Nat} {L : List Nat} (h : Mp w b most L) (f : Fr S w w') (hn : ¬ S b) : Mp w' b most L :=
  ⟨h.box.fr f (fun k hk => by simp [Value.ownBlock] at hk; rwa [← hk]), h.len, h.byte, h.pos, h.top, h.tail⟩
theorem Mp.same {w w' : World} {b most : Nat} {L : List Nat} (h : Mp w b most L) (f : Fr (fun _ => False) w w') : Mp w' b most L := h.fr f (fun f => f)
theorem Mp.set {w : World} {b most : Nat} {L : List Nat} (h : Mp w b most L) (j x : Nat) (hj : j < 512) (hx : x < 256) (ht : ∀ k, most ≤ k → bitOf (L.set j x) k = false) : Mp (w.setCell ⟨b, 1 + j, none⟩ (.int .u8 x)) b most (L.set j x) := by
  have hb := h.box.set (1 + j) [.int .u8 x] (by simp [cellsOf_length, h.len]; omega)
  refine ⟨?_, by rw [List.length_set]; exact h.len, ?_, h.pos, h.top, ht⟩
  · have e : (Value.int .i64 (most : Int) :: cellsOf L).take (1 + j) ++ [.int .u8 (x : Int)] ++ (Value.int .i64 (most : Int) :: cellsOf L).drop (1 + j + [Value.int .u8 (x : Int)].length) = .int .i64 most :: cellsOf (L.set j x) := by
      have hl : j < (cellsOf L).length := by rw [cellsOf_length, h.len]; exact hj
      have e1 : cellsOf (L.set j x) = (cellsOf L).set j (.int .u8 x) := by unfold cellsOf; rw [List.map_set]
      rw [e1, List.set_eq_take_append_cons_drop, if_pos hl]
      rw [show 1 + j = j + 1 by omega]
      simp
    rw [e] at hb
    exact hb
  · intro y hy
    rcases List.mem_or_eq_of_mem_set hy with h1 | rfl
    · exact h.byte y h1
    · exact hx

theorem bit_lt {x k : Nat} (hx : x < 256) (hk : k < 8) : x ^^^ 2 ^ k < 256 := Nat.xor_lt_two_pow (n := 8) hx (by
  have : 2 ^ k < 2 ^ 8 := Nat.pow_lt_pow_right (by omega) hk
  simpa using this)
theorem bitOf_turned (L : List Nat) (k : Nat) (hk : k / 8 < L.length) (j : Nat) : bitOf (turned L k) j = if j = k then !bitOf L k else bitOf L j := by
  unfold bitOf turned
  by_cases h : j / 8 = k / 8
  · rw [h, List.getD_eq_getElem?_getD, List.getElem?_set_self hk]
    simp only [Option.getD_some]
    rw [Nat.testBit_xor, Nat.testBit_two_pow]
    by_cases hm : j = k
    · subst hm; simp
    · have : k % 8 ≠ j % 8 := by omega
      simp [hm, this]
  · have hne : j ≠ k := fun e => h (by rw [e])
    rw [if_neg hne, List.getD_eq_getElem?_getD, List.getElem?_set_ne (fun e => h e.symm), List.getD_eq_getElem?_getD]

theorem bound_nil (w : World) : Calls Try.prog 27 #[.pointer none] w fun e w' => e = .returned (.int .i64 0) ∧ w' = w := by
  go_enter Try.func27, Try.ntmps27
  go_wp2
  go_ret
  exact ⟨rfl, rfl⟩
theorem bound_any (b most : Nat) (L : List Nat) (w : World) (h : Mp w b most L) : Calls Try.prog 27 #[.pointer (some ⟨b, 0, none⟩)] w fun e w' => e = .returned (.int .i64 most) ∧ w' = w := by
  have hc := h.cell0
  go_enter Try.func27, Try.ntmps27
  go_wp2
  go_ret
  exact ⟨rfl, rfl⟩
theorem isPage_nil (i : Int) (w : World) : Calls Try.prog 24 #[.pointer none, .int .i64 i] w fun e w' => e = .returned (.bool false) ∧ w' = w := by
  by_cases h : 1 ≤ i
  · have h0 : decide (i ≤ 0) = false := by simp; omega
    go_enter Try.func24, Try.ntmps24
    go_wp2_with (refine (bound_nil _).mono ?_; rintro e w' ⟨rfl, rfl⟩)
    go_ret
    exact ⟨rfl, rfl⟩
  · have h0 : i < 1 := by omega
    go_enter Try.func24, Try.ntmps24
    go_wp2
    go_ret
    exact ⟨rfl, rfl⟩
theorem isPage_any (b most : Nat) (L : List Nat) (w : World) (h : Mp w b most L) (i : Int) : Calls Try.prog 24 #[.pointer (some ⟨b, 0, none⟩), .int .i64 i] w fun e w' => e = .returned (.bool (decide (1 ≤ i ∧ i ≤ most))) ∧ w' = w := by
  by_cases h1 : 1 ≤ i
  · have e : decide (1 ≤ i ∧ i ≤ most) = decide (i ≤ most) := by simp [h1]
    rw [e]
    go_enter Try.func24, Try.ntmps24
    go_wp2_with (refine (bound_any b most L _ h).mono ?_; rintro e w' ⟨rfl, rfl⟩)
    go_ret
    exact ⟨rfl, rfl⟩
  · have h0 : i < 1 := by omega
    have e : decide (1 ≤ i ∧ i ≤ most) = false := by simp; omega
    rw [e]
    go_enter Try.func24, Try.ntmps24
    go_wp2
    go_ret
    exact ⟨rfl, rfl⟩
theorem ret_tt {a b : Int} {x y : Int} (h : a = b) (k : x = y) : Ending.returned (.tuple #[.int .i64 a, .int .u8 x]) = .returned (.tuple #[.int .i64 b, .int .u8 y]) := by rw [h, k]
theorem pow_lt8 (k : Nat) : 2 ^ (k % 8) < 256 := by
  have : 2 ^ (k % 8) < 2 ^ 8 := Nat.pow_lt_pow_right (by omega) (Nat.mod_lt _ (by omega))
  simpa using this
theorem pow_mod (k : Nat) : (2 : Int) ^ (k % 8) % 256 = ((2 ^ (k % 8) : Nat) : Int) := by
  have := pow_lt8 k
  have e : (2 : Int) ^ (k % 8) = ((2 ^ (k % 8) : Nat) : Int) := by simp
  rw [e]
  exact Int.emod_eq_of_lt (Int.natCast_nonneg _) (Int.ofNat_lt.2 this)
theorem and_bit (y k : Nat) (hy : y < 256) : (bits BinOp.and IntKind.u8 (y : Int) ((2 ^ (k % 8) : Nat) : Int) != 0) = y.testBit (k % 8) := by
  rw [u8_and_nat y _ hy (pow_lt8 k)]
  have hm : k % 8 < 8 := Nat.mod_lt _ (by omega)
  generalize k % 8 = i at hm
  have e : (y &&& 2 ^ i != 0) = y.testBit i := by
    rw [Bool.eq_iff_iff]
    simp only [bne_iff_ne, ne_eq]
    constructor
    · intro h
      obtain ⟨j, hj⟩ := Nat.exists_testBit_of_ne_zero h
      rw [Nat.testBit_and, Nat.testBit_two_pow] at hj
      simp at hj
      rw [hj.2]; exact hj.1
    · intro h h0
      have : (y &&& 2 ^ i).testBit i = true := by rw [Nat.testBit_and, h, Nat.testBit_two_pow]; simp
      rw [h0] at this
      simp at this
  rw [← e]
  rw [Bool.eq_iff_iff]
  simp only [bne_iff_ne, ne_eq]
  exact not_congr Int.ofNat_eq_zero
theorem place_any (k : Nat) (hk : k < 4096) (w : World) : Calls Try.prog 26 #[.int .i64 ((k : Int) + 1)] w fun e w' => e = .returned (.tuple #[.int .i64 (k / 8 : Nat), .int .u8 (2 ^ (k % 8) : Nat)]) ∧ Fr (fun _ => False) w w' := by
  go_enter Try.func26, Try.ntmps26
  go_wp2
  go_region
  all_goals go_wp2
  all_goals go_ret2
  all_goals exact ⟨ret_tt (by omega) (pow_mod k), (Fr.refl _ _).drew⟩
theorem needed_any (k : Nat) (hk : k ≤ 4096) (w : World) : Calls Try.prog 29 #[.int .i64 k] w fun e w' => e = .returned (.int .i64 ((k + 7) / 8 : Nat)) ∧ w' = w := by
  go_enter Try.func29, Try.ntmps29
  go_wp2
  go_ret
  exact ⟨ret_int (by omega), rfl⟩
theorem lastBits_any (k : Nat) (h1 : 1 ≤ k) (hk : k ≤ 4096) (w : World) : Calls Try.prog 31 #[.int .i64 k] w fun e w' => e = .returned (.int .i64 ((k - 1) % 8 + 1 : Nat)) ∧ w' = w := by
  go_enter Try.func31, Try.ntmps31
  go_wp2
  go_ret
  exact ⟨ret_int (by omega), rfl⟩
/-- What Has tells. -/
def hasF (most : Nat) (L : List Nat) (i : Int) : Bool := decide (1 ≤ i ∧ i ≤ most) && bitOf L (i.toNat - 1)
theorem has_nil (i : Int) (w : World) : Calls Try.prog 15 #[.pointer none, .int .i64 i] w fun e w' => e = .returned (.bool false) ∧ w' = w := by
  go_enter Try.func15, Try.ntmps15
  go_wp2_with (refine (isPage_nil _ _).mono ?_; rintro e w' ⟨rfl, rfl⟩)
  go_ret
  exact ⟨rfl, rfl⟩
theorem has_any (b most : Nat) (L : List Nat) (w : World) (h : Mp w b most L) (i : Int) : Calls Try.prog 15 #[.pointer (some ⟨b, 0, none⟩), .int .i64 i] w fun e w' => e = .returned (.bool (hasF most L i)) ∧ Fr (fun _ => False) w w' := by
  by_cases hi : 1 ≤ i ∧ i ≤ most
  · obtain ⟨k, rfl⟩ : ∃ k : Nat, i = (k : Int) + 1 := ⟨(i - 1).toNat, by omega⟩
    have hk : k < 4096 := by have := h.top; omega
    have hip := isPage_any b most L w h ((k : Int) + 1)
    rw [decide_eq_true hi] at hip
    have e : hasF most L ((k : Int) + 1) = bitOf L k := by unfold hasF; rw [decide_eq_true hi]; simp
    rw [e]
    have HB : Hid ((bits BinOp.and IntKind.u8 ((L.getD (k / 8) 0 : Nat) : Int) ((2 ^ (k % 8) : Nat) : Int) != 0) = bitOf L k) := and_bit _ k (octs_getD h.byte (k / 8))
    generalize bitOf L k = x at *
    have hc := h.cellB (k / 8) (by omega)
    have hb := h.lt
    have hx := octs_getD h.byte (k / 8)
    have hj : ((k / 8 : Nat) : Int) < 512 := by omega
    have hpl := fun W => place_any k hk W
    have hp2 := pow_lt8 k
    generalize k / 8 = j at *
    generalize 2 ^ (k % 8) = p at *
    generalize L.getD j 0 = y at *
    clear hi e h
    go_enter Try.func15, Try.ntmps15
    go_wp2_with fail
    refine hip.mono ?_
    rintro e w1 ⟨rfl, rfl⟩
    go_wp2_with fail
    refine (hpl _).mono ?_
    rintro e w1 ⟨rfl, f1⟩
    have hc1 := (f1.cell (p := ⟨b, 1 + j, none⟩) hb (fun f => f)).trans hc
    go_wp2
    go_ret
    exact ⟨by rw [← HB.out]; rfl, f1⟩
  · have hip := isPage_any b most L w h i
    rw [decide_eq_false hi] at hip
    have e : hasF most L i = false := by unfold hasF; rw [decide_eq_false hi]; simp
    rw [e]
    clear hi e
    go_enter Try.func15, Try.ntmps15
    go_wp2_with (refine hip.mono ?_; rintro e w' ⟨rfl, rfl⟩)
    go_ret
    exact ⟨rfl, Fr.refl _ _⟩
end Go.Proofs.Ytgilemiejemgkaa
