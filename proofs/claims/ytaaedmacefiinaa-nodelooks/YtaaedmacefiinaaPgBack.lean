
/- What the reader finds in what was written, and what it was found in. -/
import Derived.Test.YtaaedmacefiinaaPgDec
namespace Go.Proofs.Ytaaedmacefiinaa
open Go.RowKit Crcm

theorem bval_le (k n : Nat) : val (le k n) = n % 256 ^ k := by
  induction k with
  | zero => simp [le, val, Nat.mod_one]
  | succ k ih =>
    rw [le, val_snoc, ih, le_length, Nat.pow_succ, Nat.mod_mul, Nat.mul_comm (256 ^ k)]
theorem ble_val (l : List Nat) (h : octs l) : le l.length (val l) = l := by
  have key : ∀ (k : Nat) (l : List Nat), l.length = k → octs l → le k (val l) = l := by
    intro k
    induction k with
    | zero => intro l hl _; rw [List.length_eq_zero_iff.1 hl]; rfl
    | succ k ih =>
      intro l hl ho
      rcases List.eq_nil_or_concat l with rfl | ⟨m, x, rfl⟩
      · simp at hl
      · rw [List.concat_eq_append] at hl ho ⊢
        have hm : m.length = k := by simpa using hl
        have om : octs m := fun y hy => ho y (List.mem_append_left _ hy)
        have hx : x < 256 := ho x (by simp)
        have hv := val_lt om
        rw [hm] at hv
        have ih' := ih m hm om
        rw [val_snoc, hm, le]
        have e1 : (val m + x * 256 ^ k) / 256 ^ k % 256 = x := by
          rw [Nat.add_mul_div_right _ _ (Nat.pow_pos (by omega)), Nat.div_eq_of_lt hv, Nat.zero_add, Nat.mod_eq_of_lt hx]
        have e2 : ∀ j, j ≤ k → le j (val m + x * 256 ^ k) = le j (val m) := by
          intro j
          induction j with
          | zero => intro _; rfl
          | succ j ihj =>
            intro hj
            rw [le, le, ihj (by omega)]
            have e3 : 256 ^ k = 256 ^ (k - j - 1) * 256 * 256 ^ j := by
              rw [← Nat.pow_succ, ← Nat.pow_add]; congr 1; omega
            have e4 : (val m + x * 256 ^ k) / 256 ^ j % 256 = val m / 256 ^ j % 256 := by
              rw [e3, ← Nat.mul_assoc, Nat.add_mul_div_right _ _ (Nat.pow_pos (by omega)), ← Nat.mul_assoc, Nat.add_mul_mod_self_right]
            rw [e4]
        rw [e1, e2 k (Nat.le_refl _), ih']
  exact key _ l rfl h
theorem bbsOf_strOf (l : List Nat) (h : octs l) : bsOf (strOf l) = l := by
  unfold bsOf strOf
  simp only [List.map_map]
  conv => rhs; rw [← List.map_id l]
  apply List.map_congr_left
  intro x hx
  have := h x hx
  simp [Function.comp]; omega
/-- A reader that goes well, with l ahead of it. -/
abbrev st (l : List Nat) : RF := ((l, 0), false)
theorem numF_st (k v : Nat) (hk : k = 1 ∨ k = 2 ∨ k = 4 ∨ k = 8) (hv : v < 256 ^ k) (hv2 : v < 9223372036854775808) (r : List Nat) : numF (st (le k v ++ r)) (k : Int) = ((v : Int), st r) := by
  have e1 : (le k v ++ r).take k = le k v := by rw [List.take_append_of_le_length (by rw [le_length]; omega), List.take_of_length_le (by rw [le_length]; omega)]
  have e2 : (le k v ++ r).drop k = r := by rw [List.drop_append_of_le_length (by rw [le_length]; omega), List.drop_eq_nil_of_le (by rw [le_length]; omega), List.nil_append]
  have h : numS (le k v ++ r, 0) (k : Int) = ((v : Int), 0, (r, 0)) := by
    unfold numS
    rw [if_neg (by omega), if_neg (by simp), if_neg (by simp [le_length]; omega), Int.toNat_natCast]
    simp only []
    rw [e1, e2, bval_le, Nat.mod_eq_of_lt hv, if_neg (by omega)]
  unfold numF st
  simp only [h]
  simp
theorem textF_st (s : ByteArray) (m : Nat) (hs : s.size ≤ m) (hm : m ≤ 65535) (r : List Nat) : textF (st (txt s ++ r)) (m : Int) = (s, st r) := by
  have hl : (txt s ++ r).length = s.size + 2 + r.length := by rw [List.length_append, txt_length]
  have e1 : (txt s ++ r).take 2 = le 2 s.size := by
    unfold txt
    rw [List.append_assoc, List.take_append_of_le_length (by rw [le_length]; omega), List.take_of_length_le (by rw [le_length]; omega)]
  have e0 : (txt s ++ r).drop 2 = bsOf s ++ r := by
    unfold txt
    rw [List.append_assoc, List.drop_append_of_le_length (by rw [le_length]; omega), List.drop_eq_nil_of_le (by rw [le_length]; omega), List.nil_append]
  have ev : val (le 2 s.size) = s.size := by rw [bval_le]; exact Nat.mod_eq_of_lt (by omega)
  have e2 : (txt s ++ r).drop (2 + s.size) = r := by
    rw [← List.drop_drop, e0, List.drop_append_of_le_length (by rw [bsOf_length]; omega), List.drop_eq_nil_of_le (by rw [bsOf_length]; omega), List.nil_append]
  have h : textS (txt s ++ r, 0) (m : Int) = (bsOf s, 0, (r, 0)) := by
    unfold textS
    simp only []
    rw [if_neg (by omega), if_neg (by simp), if_neg (by omega), e1, ev, if_neg (by omega), if_neg (by omega), e0, e2]
    rw [List.take_append_of_le_length (by rw [bsOf_length]; omega), List.take_of_length_le (by rw [bsOf_length]; omega)]
  unfold textF st
  simp only [h, strOf_bsOf]
  simp
/-- A number that was read well. -/
theorem numF_ok (l : List Nat) (ho : octs l) (k : Nat) (hk : k = 1 ∨ k = 2 ∨ k = 4 ∨ k = 8) (h : (numF (st l) (k : Int)).2.2 = false) : ∃ v r, l = le k v ++ r ∧ numF (st l) (k : Int) = ((v : Int), st r) ∧ v < 256 ^ k ∧ v < 9223372036854775808 := by
  have h0 : (numS (l, 0) (k : Int)).2.1 = 0 := by
    unfold numF at h
    simpa using h
  unfold numS at h0
  simp only [Int.toNat_natCast] at h0
  rw [if_neg (by omega), if_neg (by simp)] at h0
  by_cases h1 : ((l.length : Int) < (k : Int))
  · rw [if_pos h1] at h0; simp at h0
  · rw [if_neg h1] at h0
    by_cases h2 : 9223372036854775808 ≤ val (l.take k)
    · rw [if_pos h2] at h0; simp at h0
    · have hlk : (l.take k).length = k := by rw [List.length_take]; omega
      have ot := octs_take ho k
      have hv := val_lt ot
      rw [hlk] at hv
      have hle := ble_val _ ot
      rw [hlk] at hle
      have hl : l = le k (val (l.take k)) ++ l.drop k := by rw [hle, List.take_append_drop]
      refine ⟨val (l.take k), l.drop k, hl, ?_, hv, by omega⟩
      have := numF_st k (val (l.take k)) hk hv (by omega) (l.drop k)
      rw [← hl] at this
      exact this
/-- A text that was read well. -/
theorem textF_ok (l : List Nat) (ho : octs l) (m : Nat) (hm : m ≤ 65535) (h : (textF (st l) (m : Int)).2.2 = false) : ∃ s r, l = txt s ++ r ∧ textF (st l) (m : Int) = (s, st r) ∧ s.size ≤ m := by
  have h0 : (textS (l, 0) (m : Int)).2.1 = 0 := by
    unfold textF at h
    simpa using h
  unfold textS at h0
  simp only [] at h0
  rw [if_neg (by omega), if_neg (by simp)] at h0
  by_cases h1 : l.length < 2
  · rw [if_pos h1] at h0; simp at h0
  · rw [if_neg h1] at h0
    by_cases h2 : l.length < 2 + val (l.take 2)
    · rw [if_pos h2] at h0; simp at h0
    · rw [if_neg h2] at h0
      by_cases h3 : (m : Int) < (val (l.take 2) : Int)
      · rw [if_pos h3] at h0; simp at h0
      · obtain ⟨z, hz⟩ : ∃ z, z = val (l.take 2) := ⟨_, rfl⟩
        rw [← hz] at h2 h3
        have ot := octs_take ho 2
        have hle := ble_val _ ot
        rw [show (l.take 2).length = 2 by rw [List.length_take]; omega, ← hz] at hle
        have od : octs ((l.drop 2).take z) := octs_take (fun x hx => ho x (List.mem_of_mem_drop hx)) z
        have hsz : (strOf ((l.drop 2).take z)).size = z := by rw [strOf_size', List.length_take, List.length_drop]; omega
        have hl : l = txt (strOf ((l.drop 2).take z)) ++ (l.drop 2).drop z := by
          unfold txt
          rw [hsz, bbsOf_strOf _ od, List.append_assoc, List.take_append_drop, hle, List.take_append_drop]
        refine ⟨strOf ((l.drop 2).take z), (l.drop 2).drop z, hl, ?_, by omega⟩
        have := textF_st (strOf ((l.drop 2).take z)) m (by omega) hm ((l.drop 2).drop z)
        rw [← hl] at this
        exact this
end Go.Proofs.Ytaaedmacefiinaa
