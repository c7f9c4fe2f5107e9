
/- What was written is read: a checkpoint's bytes, with anything behind them, are decoded to it. -/
import Derived.Test.YtjhbhjakbcplgaaPtSay
import Derived.Laws.StructEq
namespace Go.Proofs.Ytjhbhjakbcplgaa
open Go.RowKit Crcm

theorem val_le (k n : Nat) : val (le k n) = n % 256 ^ k := by
  induction k with
  | zero => simp [le, val, Nat.mod_one]
  | succ k ih =>
    simp only [le]
    rw [val_snoc, ih, le_length, Nat.pow_succ, Nat.mod_mul, Nat.mul_comm (n / 256 ^ k % 256)]
theorem num_back (n : Int) (h0 : 0 ≤ n) (h1 : n < 9223372036854775808) (rest : List Nat) : numS (le 8 n.toNat ++ rest, 0) 8 = (n, 0, (rest, 0)) := by
  have h2 : (le 8 n.toNat).length = 8 := le_length 8 _
  have ht : (le 8 n.toNat ++ rest).take 8 = le 8 n.toNat := by rw [List.take_append_of_le_length (by omega), List.take_of_length_le (by omega)]
  have hd : (le 8 n.toNat ++ rest).drop 8 = rest := by rw [List.drop_append_of_le_length (by omega), List.drop_of_length_le (by omega), List.nil_append]
  have hv : val (le 8 n.toNat) = n.toNat := by rw [val_le]; apply Nat.mod_eq_of_lt; omega
  have hl : (le 8 n.toNat ++ rest).length = 8 + rest.length := by rw [List.length_append, h2]
  have e8 : (8 : Int).toNat = 8 := rfl
  unfold numS
  simp only [e8, ht, hv, hl, hd]
  rw [if_neg (by simp), if_neg (by simp), if_neg (by omega), if_neg (by omega)]
  rw [Int.toNat_of_nonneg h0]
theorem ptOf_back (p : Pn) (h : ptB p = true) : ptOf (pb p) = (p, 0) := by
  have hp := (ptB_iff p).1 h
  have hn : pnums (pb p) = (p, ([], 0)) := by
    obtain ⟨p1, p2, p3⟩ := p
    obtain ⟨q1, q2, q3, q4, q5, q6⟩ := hp
    simp only at q1 q2 q3 q4 q5 q6
    have e1 : numS (pb ⟨p1, p2, p3⟩, 0) 8 = (p1, 0, (le 8 p2.toNat ++ le 8 p3.toNat, 0)) := by
      unfold pb; rw [List.append_assoc]; exact num_back p1 (by omega) (by omega) _
    have e2 : numS (le 8 p2.toNat ++ le 8 p3.toNat, 0) 8 = (p2, 0, (le 8 p3.toNat, 0)) := num_back p2 (by omega) (by omega) _
    have e3 : numS (le 8 p3.toNat, 0) 8 = (p3, 0, ([], 0)) := by
      have := num_back p3 (by omega) (by omega) []
      rwa [List.append_nil] at this
    unfold pnums
    simp only [e1, e2, e3]
  unfold ptOf
  rw [hn]
  simp only
  rw [if_pos ⟨rfl, h⟩]
/-- Bytes that begin with those of a checkpoint. -/
theorem decP_pf (p : Pn) (h : ptB p = true) (r : List Nat) : decP (pf p ++ r) = (p, 0) := by
  have h28 := pf_length p
  have ht : (pf p ++ r).take 28 = pf p := by rw [List.take_append_of_le_length (by omega), List.take_of_length_le (by omega)]
  have h24 := pb_length p
  have e1 : (pf p).take 24 = pb p := by unfold pf; rw [List.take_append_of_le_length (by omega), List.take_of_length_le (by omega)]
  have e2 : (pf p).drop 24 = le4 (crc (pb p)) := by unfold pf; rw [List.drop_append_of_le_length (by omega), List.drop_of_length_le (by omega), List.nil_append]
  unfold decP
  rw [if_neg (by rw [List.length_append]; omega), ht, e1, e2, if_pos (val_le4 _ (crc_lt (pb_octs p))), ptOf_back p h]
theorem decP_short {l : List Nat} (h : l.length < 28) : decP l = (⟨0, 0, 0⟩, 10) := if_pos h
theorem decP_take (l : List Nat) : decP l = decP (l.take 28) := by
  have e : (l.take 28).take 28 = l.take 28 := by rw [List.take_take]; rfl
  unfold decP
  rw [e]
  by_cases h : l.length < 28
  · have h' : (l.take 28).length < 28 := by rw [List.length_take]; omega
    rw [if_pos h, if_pos h']
  · have h' : ¬ (l.take 28).length < 28 := by rw [List.length_take]; omega
    rw [if_neg h, if_neg h']
theorem eql_pt (p1 p2 p3 q1 q2 q3 : Int) (w : World) : (binOp .eql 34 (.agg #[.int .i64 p1, .int .i64 p2, .int .i64 p3]) (.agg #[.int .i64 q1, .int .i64 q2, .int .i64 q3])).run Try.prog w = .ok (.bool (eqP ⟨p1, p2, p3⟩ ⟨q1, q2, q3⟩)) w := by
  have hf : Try.prog.stoodInHeld 34 = false := by kernel_rfl
  have hu : Try.prog.underlying 34 = some (.struct (Try.prog.fieldsOf 34)) := by kernel_rfl
  rw [run_eql_struct, run_equalIn_struct _ _ _ _ _ hu hf]
  simp [Op.eqFields, go_sem]
  by_cases h1 : p1 = q1 <;> by_cases h2 : p2 = q2 <;> by_cases h3 : p3 = q3 <;> simp [eqP, h1, h2, h3]
theorem neq_pt (p1 p2 p3 q1 q2 q3 : Int) (w : World) : (binOp .neq 34 (.agg #[.int .i64 p1, .int .i64 p2, .int .i64 p3]) (.agg #[.int .i64 q1, .int .i64 q2, .int .i64 q3])).run Try.prog w = .ok (.bool (!eqP ⟨p1, p2, p3⟩ ⟨q1, q2, q3⟩)) w := by
  have hf : Try.prog.stoodInHeld 34 = false := by kernel_rfl
  have hu : Try.prog.underlying 34 = some (.struct (Try.prog.fieldsOf 34)) := by kernel_rfl
  rw [run_neq_struct, run_equalIn_struct _ _ _ _ _ hu hf]
  simp [Op.eqFields, go_sem]
  by_cases h1 : p1 = q1 <;> by_cases h2 : p2 = q2 <;> by_cases h3 : p3 = q3 <;> simp [eqP, h1, h2, h3]
end Go.Proofs.Ytjhbhjakbcplgaa
