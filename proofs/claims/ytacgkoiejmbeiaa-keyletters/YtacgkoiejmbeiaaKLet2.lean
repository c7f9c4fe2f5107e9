/- What the document's own more, Letter and Letters tell. -/
import Derived.Test.YtacgkoiejmbeiaaKLet
namespace Go.Proofs.Ytacgkoiejmbeiaa
open Go.RowKit
set_option linter.unusedVariables false

set_option maxRecDepth 100000 in
set_option maxHeartbeats 1000000 in
theorem more_yes (s : ByteArray) (n : Nat) (h3 : n ≤ 3) (hs : s.size ≤ maxLen) (hn : n + 1 ≤ s.size) (hb : ∀ i, 1 ≤ i → i < n + 1 → 128 ≤ (bsOf s).getD i 0 ∧ (bsOf s).getD i 0 ≤ 191) (w : World) :
    Calls Try.prog 36 #[.string s, .int .i64 1, .int .i64 n] w fun e w' => e = .returned (.bool true) ∧ w' = w := by
  unfold maxLen at hs
  have HB : Hid (∀ i, 1 ≤ i → i < n + 1 → 128 ≤ (bsOf s).getD i 0 ∧ (bsOf s).getD i 0 ≤ 191) := hb
  clear hb
  go_enter Try.func36, Try.ntmps36
  go_wp2
  go_loop [7] (fun i => ∃ k : Nat, 1 ≤ k ∧ k ≤ n + 1 ∧ i = .int .i64 k) (fun i => n + 1 - (intOf i).toNat)
  case atStart => exact ⟨1, by omega, by omega, rfl⟩
  case round =>
    obtain ⟨k, hk1, hk2, rfl⟩ := hrel
    by_cases hlt : k < n + 1
    · have hks : k < s.size := by omega
      have A := bs_at s k hks
      have B := HB.out k hk1 hlt
      rw [← A] at B
      have b1 : ¬ (s[k].toNat : Int) < 128 := by omega
      have b2 : ¬ (191 : Int) < (s[k].toNat : Int) := by omega
      clear A B
      go_wp2
      go_round
      case rel => exact ⟨k + 1, by omega, by omega, by go_num⟩
      case measure => simp [intOf]; omega
    · go_wp2
      go_ret
      exact ⟨rfl, rfl⟩
set_option maxRecDepth 100000 in
set_option maxHeartbeats 1000000 in
theorem more_no (s : ByteArray) (n : Nat) (h3 : n ≤ 3) (hs : s.size ≤ maxLen) (hb : s.size < n + 1 ∨ ∃ i, 1 ≤ i ∧ i < n + 1 ∧ ((bsOf s).getD i 0 < 128 ∨ 191 < (bsOf s).getD i 0)) (w : World) :
    Calls Try.prog 36 #[.string s, .int .i64 1, .int .i64 n] w fun e w' => e = .returned (.bool false) ∧ w' = w := by
  unfold maxLen at hs
  by_cases hn : s.size < n + 1
  · clear hb
    go_enter Try.func36, Try.ntmps36
    go_wp2
    go_ret
    exact ⟨rfl, rfl⟩
  · obtain ⟨x, hx1, hx2, hx3⟩ : ∃ i, 1 ≤ i ∧ i < n + 1 ∧ ((bsOf s).getD i 0 < 128 ∨ 191 < (bsOf s).getD i 0) := by
      rcases hb with h | h
      · omega
      · exact h
    have HB : Hid ((bsOf s).getD x 0 < 128 ∨ 191 < (bsOf s).getD x 0) := hx3
    clear hb hx3
    go_enter Try.func36, Try.ntmps36
    go_wp2
    go_loop [7] (fun i => ∃ k : Nat, 1 ≤ k ∧ k ≤ x ∧ i = .int .i64 k) (fun i => n + 1 - (intOf i).toNat)
    case atStart => exact ⟨1, by omega, by omega, rfl⟩
    case round =>
      obtain ⟨k, hk1, hk2, rfl⟩ := hrel
      have hks : k < s.size := by omega
      have A : Hid (s[k].toNat = (bsOf s).getD k 0) := bs_at s k hks
      by_cases c1 : (s[k].toNat : Int) < 128
      · go_wp2
        go_ret
        exact ⟨rfl, rfl⟩
      · by_cases c2 : (191 : Int) < (s[k].toNat : Int)
        · go_wp2
          go_ret
          exact ⟨rfl, rfl⟩
        · have hne : k < x := by
            rcases Nat.lt_or_ge k x with h | h
            · exact h
            · have e : k = x := by omega
              have := HB.out
              rw [← e, ← A.out] at this
              omega
          go_wp2
          go_round
          case rel => exact ⟨k + 1, by omega, by omega, by go_num⟩
          case measure => simp [intOf]; omega

set_option maxRecDepth 100000 in
set_option maxHeartbeats 1000000 in
theorem letter_a (s : ByteArray) (hs : s.size ≤ maxLen) (h0 : 0 < s.size) (hc : (bsOf s).getD 0 0 < 128) (w : World) :
    Calls Try.prog 31 #[.string s] w fun e w' => e = .returned (.int .i64 (ltr (bsOf s) : Nat)) ∧ w' = w := by
  have A0 := bs_at s 0 h0
  have hz := bsOf_length s
  have HV : ltr (bsOf s) = 1 := by
    unfold ltr ltrN
    rw [hz]
    repeat' split
    all_goals omega
  rw [HV]
  clear HV hz
  unfold maxLen at hs
  have i0 : (s[0].toNat : Int) = ((bsOf s).getD 0 0 : Nat) := by rw [A0]
  have q0 : (s[0].toNat : Int) < 128 := by omega
  clear i0 A0 hc
  go_enter Try.func31, Try.ntmps31
  go_wp2
  go_ret
  exact ⟨rfl, rfl⟩

set_option maxRecDepth 100000 in
set_option maxHeartbeats 1000000 in
theorem letter_b (s : ByteArray) (hs : s.size ≤ maxLen) (h0 : 0 < s.size) (h1 : 128 ≤ (bsOf s).getD 0 0) (h2 : (bsOf s).getD 0 0 < 194) (w : World) :
    Calls Try.prog 31 #[.string s] w fun e w' => e = .returned (.int .i64 (ltr (bsOf s) : Nat)) ∧ w' = w := by
  have A0 := bs_at s 0 h0
  have hz := bsOf_length s
  have HV : ltr (bsOf s) = 0 := by
    unfold ltr ltrN
    rw [hz]
    repeat' split
    all_goals omega
  rw [HV]
  clear HV hz
  unfold maxLen at hs
  have i0 : (s[0].toNat : Int) = ((bsOf s).getD 0 0 : Nat) := by rw [A0]
  have q0 : ¬ (s[0].toNat : Int) < 128 := by omega
  have q1 : ¬ (194 : Int) ≤ (s[0].toNat : Int) := by omega
  have q2 : ¬ (224 : Int) ≤ (s[0].toNat : Int) := by omega
  have q3 : ¬ (240 : Int) ≤ (s[0].toNat : Int) := by omega
  clear i0 A0 h1 h2
  go_enter Try.func31, Try.ntmps31
  go_wp2
  go_ret
  exact ⟨rfl, rfl⟩

set_option maxRecDepth 100000 in
set_option maxHeartbeats 1000000 in
theorem letter_c (s : ByteArray) (hs : s.size ≤ maxLen) (h0 : 0 < s.size) (h1 : 194 ≤ (bsOf s).getD 0 0) (h2 : (bsOf s).getD 0 0 ≤ 223) (m : 2 ≤ s.size ∧ (128 ≤ (bsOf s).getD 1 0 ∧ (bsOf s).getD 1 0 ≤ 191)) (w : World) :
    Calls Try.prog 31 #[.string s] w fun e w' => e = .returned (.int .i64 (ltr (bsOf s) : Nat)) ∧ w' = w := by
  have A0 := bs_at s 0 h0
  have hz := bsOf_length s
  have HV : ltr (bsOf s) = 2 := by
    unfold ltr ltrN
    rw [hz]
    repeat' split
    all_goals omega
  have M1 : Hid (∀ w, Calls Try.prog 36 #[.string s, .int .i64 1, .int .i64 1] w fun e w' => e = .returned (.bool true) ∧ w' = w) := fun w => more_yes s 1 (by omega) hs (by omega) (fun i a b => by (have e : i = 1 := by omega); rcases e with rfl <;> omega) w
  rw [HV]
  clear HV hz
  unfold maxLen at hs
  have i0 : (s[0].toNat : Int) = ((bsOf s).getD 0 0 : Nat) := by rw [A0]
  have q0 : ¬ (s[0].toNat : Int) < 128 := by omega
  have q1 : (194 : Int) ≤ (s[0].toNat : Int) := by omega
  have q2 : (s[0].toNat : Int) ≤ 223 := by omega
  have q3 : ¬ (224 : Int) ≤ (s[0].toNat : Int) := by omega
  have q4 : ¬ (240 : Int) ≤ (s[0].toNat : Int) := by omega
  clear i0 A0 h1 h2 m
  go_enter Try.func31, Try.ntmps31
  go_wp2_with fail
  refine (M1.out _).mono ?_
  rintro e w1 ⟨rfl, rfl⟩
  go_wp2
  go_ret
  exact ⟨rfl, rfl⟩

set_option maxRecDepth 100000 in
set_option maxHeartbeats 1000000 in
theorem letter_d (s : ByteArray) (hs : s.size ≤ maxLen) (h0 : 0 < s.size) (h1 : 194 ≤ (bsOf s).getD 0 0) (h2 : (bsOf s).getD 0 0 ≤ 223) (m : ¬ (2 ≤ s.size ∧ (128 ≤ (bsOf s).getD 1 0 ∧ (bsOf s).getD 1 0 ≤ 191))) (w : World) :
    Calls Try.prog 31 #[.string s] w fun e w' => e = .returned (.int .i64 (ltr (bsOf s) : Nat)) ∧ w' = w := by
  have A0 := bs_at s 0 h0
  have hz := bsOf_length s
  have HV : ltr (bsOf s) = 0 := by
    unfold ltr ltrN
    rw [hz]
    repeat' split
    all_goals omega
  have M1 : Hid (∀ w, Calls Try.prog 36 #[.string s, .int .i64 1, .int .i64 1] w fun e w' => e = .returned (.bool false) ∧ w' = w) := fun w => more_no s 1 (by omega) hs (by by_cases q : s.size < 2; exact .inl q; exact .inr (⟨1, by omega, by omega, by omega⟩)) w
  rw [HV]
  clear HV hz
  unfold maxLen at hs
  have i0 : (s[0].toNat : Int) = ((bsOf s).getD 0 0 : Nat) := by rw [A0]
  have q0 : ¬ (s[0].toNat : Int) < 128 := by omega
  have q1 : (194 : Int) ≤ (s[0].toNat : Int) := by omega
  have q2 : (s[0].toNat : Int) ≤ 223 := by omega
  have q3 : ¬ (224 : Int) ≤ (s[0].toNat : Int) := by omega
  have q4 : ¬ (240 : Int) ≤ (s[0].toNat : Int) := by omega
  clear i0 A0 h1 h2 m
  go_enter Try.func31, Try.ntmps31
  go_wp2_with fail
  refine (M1.out _).mono ?_
  rintro e w1 ⟨rfl, rfl⟩
  go_wp2
  go_ret
  exact ⟨rfl, rfl⟩

set_option maxRecDepth 100000 in
set_option maxHeartbeats 1000000 in
theorem letter_e (s : ByteArray) (hs : s.size ≤ maxLen) (h0 : 0 < s.size) (h1 : 224 ≤ (bsOf s).getD 0 0) (h2 : (bsOf s).getD 0 0 ≤ 239) (m : ¬ (3 ≤ s.size ∧ (128 ≤ (bsOf s).getD 1 0 ∧ (bsOf s).getD 1 0 ≤ 191) ∧ (128 ≤ (bsOf s).getD 2 0 ∧ (bsOf s).getD 2 0 ≤ 191))) (w : World) :
    Calls Try.prog 31 #[.string s] w fun e w' => e = .returned (.int .i64 (ltr (bsOf s) : Nat)) ∧ w' = w := by
  have A0 := bs_at s 0 h0
  have hz := bsOf_length s
  have HV : ltr (bsOf s) = 0 := by
    unfold ltr ltrN
    rw [hz]
    repeat' split
    all_goals omega
  have M2 : Hid (∀ w, Calls Try.prog 36 #[.string s, .int .i64 1, .int .i64 2] w fun e w' => e = .returned (.bool false) ∧ w' = w) := fun w => more_no s 2 (by omega) hs (by by_cases q : s.size < 3; exact .inl q; exact .inr (if r1 : (bsOf s).getD 1 0 < 128 ∨ 191 < (bsOf s).getD 1 0 then ⟨1, by omega, by omega, r1⟩ else ⟨2, by omega, by omega, by omega⟩)) w
  rw [HV]
  clear HV hz
  unfold maxLen at hs
  have i0 : (s[0].toNat : Int) = ((bsOf s).getD 0 0 : Nat) := by rw [A0]
  have q0 : ¬ (s[0].toNat : Int) < 128 := by omega
  have q1 : (194 : Int) ≤ (s[0].toNat : Int) := by omega
  have q2 : ¬ (s[0].toNat : Int) ≤ 223 := by omega
  have q3 : (224 : Int) ≤ (s[0].toNat : Int) := by omega
  have q4 : (s[0].toNat : Int) ≤ 239 := by omega
  have q5 : ¬ (240 : Int) ≤ (s[0].toNat : Int) := by omega
  clear i0 A0 h1 h2 m
  go_enter Try.func31, Try.ntmps31
  go_wp2_with fail
  refine (M2.out _).mono ?_
  rintro e w1 ⟨rfl, rfl⟩
  go_wp2
  go_ret
  exact ⟨rfl, rfl⟩

set_option maxRecDepth 100000 in
set_option maxHeartbeats 1000000 in
theorem letter_f (s : ByteArray) (hs : s.size ≤ maxLen) (h0 : 0 < s.size) (h1 : 224 ≤ (bsOf s).getD 0 0) (h2 : (bsOf s).getD 0 0 ≤ 239) (m : 3 ≤ s.size ∧ (128 ≤ (bsOf s).getD 1 0 ∧ (bsOf s).getD 1 0 ≤ 191) ∧ (128 ≤ (bsOf s).getD 2 0 ∧ (bsOf s).getD 2 0 ≤ 191)) (g : (bsOf s).getD 0 0 = 224 ∧ (bsOf s).getD 1 0 < 160) (w : World) :
    Calls Try.prog 31 #[.string s] w fun e w' => e = .returned (.int .i64 (ltr (bsOf s) : Nat)) ∧ w' = w := by
  have A0 := bs_at s 0 h0
  have hz := bsOf_length s
  have HV : ltr (bsOf s) = 0 := by
    unfold ltr ltrN
    rw [hz]
    repeat' split
    all_goals omega
  have M2 : Hid (∀ w, Calls Try.prog 36 #[.string s, .int .i64 1, .int .i64 2] w fun e w' => e = .returned (.bool true) ∧ w' = w) := fun w => more_yes s 2 (by omega) hs (by omega) (fun i a b => by (have e : i = 1 ∨ i = 2 := by omega); rcases e with rfl | rfl <;> omega) w
  rw [HV]
  clear HV hz
  unfold maxLen at hs
  have z1 : 1 < s.size := by omega
  have A1 := bs_at s 1 z1
  have i1 : (s[1].toNat : Int) = ((bsOf s).getD 1 0 : Nat) := by rw [A1]
  have i0 : (s[0].toNat : Int) = ((bsOf s).getD 0 0 : Nat) := by rw [A0]
  have q0 : ¬ (s[0].toNat : Int) < 128 := by omega
  have q1 : (194 : Int) ≤ (s[0].toNat : Int) := by omega
  have q2 : ¬ (s[0].toNat : Int) ≤ 223 := by omega
  have q3 : (224 : Int) ≤ (s[0].toNat : Int) := by omega
  have q4 : (s[0].toNat : Int) ≤ 239 := by omega
  have q5 : ¬ (240 : Int) ≤ (s[0].toNat : Int) := by omega
  have q6 : ((s[0].toNat : Int) == 224) = true := by rw [beq_iff_eq]; omega
  have q7 : (s[1].toNat : Int) < 160 := by omega
  clear i0 A0 i1 A1 h1 h2 m g
  go_enter Try.func31, Try.ntmps31
  go_wp2_with fail
  refine (M2.out _).mono ?_
  rintro e w1 ⟨rfl, rfl⟩
  go_wp2
  go_ret
  exact ⟨rfl, rfl⟩

set_option maxRecDepth 100000 in
set_option maxHeartbeats 1000000 in
theorem letter_g (s : ByteArray) (hs : s.size ≤ maxLen) (h0 : 0 < s.size) (h1 : 224 ≤ (bsOf s).getD 0 0) (h2 : (bsOf s).getD 0 0 ≤ 239) (m : 3 ≤ s.size ∧ (128 ≤ (bsOf s).getD 1 0 ∧ (bsOf s).getD 1 0 ≤ 191) ∧ (128 ≤ (bsOf s).getD 2 0 ∧ (bsOf s).getD 2 0 ≤ 191)) (g : (bsOf s).getD 0 0 = 237 ∧ 159 < (bsOf s).getD 1 0) (w : World) :
    Calls Try.prog 31 #[.string s] w fun e w' => e = .returned (.int .i64 (ltr (bsOf s) : Nat)) ∧ w' = w := by
  have A0 := bs_at s 0 h0
  have hz := bsOf_length s
  have HV : ltr (bsOf s) = 0 := by
    unfold ltr ltrN
    rw [hz]
    repeat' split
    all_goals omega
  have M2 : Hid (∀ w, Calls Try.prog 36 #[.string s, .int .i64 1, .int .i64 2] w fun e w' => e = .returned (.bool true) ∧ w' = w) := fun w => more_yes s 2 (by omega) hs (by omega) (fun i a b => by (have e : i = 1 ∨ i = 2 := by omega); rcases e with rfl | rfl <;> omega) w
  rw [HV]
  clear HV hz
  unfold maxLen at hs
  have z1 : 1 < s.size := by omega
  have A1 := bs_at s 1 z1
  have i1 : (s[1].toNat : Int) = ((bsOf s).getD 1 0 : Nat) := by rw [A1]
  have i0 : (s[0].toNat : Int) = ((bsOf s).getD 0 0 : Nat) := by rw [A0]
  have q0 : ¬ (s[0].toNat : Int) < 128 := by omega
  have q1 : (194 : Int) ≤ (s[0].toNat : Int) := by omega
  have q2 : ¬ (s[0].toNat : Int) ≤ 223 := by omega
  have q3 : (224 : Int) ≤ (s[0].toNat : Int) := by omega
  have q4 : (s[0].toNat : Int) ≤ 239 := by omega
  have q5 : ¬ (240 : Int) ≤ (s[0].toNat : Int) := by omega
  have q6 : ((s[0].toNat : Int) == 224) = false := by rw [beq_eq_false_iff_ne]; omega
  have q7 : ((s[0].toNat : Int) == 237) = true := by rw [beq_iff_eq]; omega
  have q8 : 159 < (s[1].toNat : Int) := by omega
  clear i0 A0 i1 A1 h1 h2 m g
  go_enter Try.func31, Try.ntmps31
  go_wp2_with fail
  refine (M2.out _).mono ?_
  rintro e w1 ⟨rfl, rfl⟩
  go_wp2
  go_ret
  exact ⟨rfl, rfl⟩

set_option maxRecDepth 100000 in
set_option maxHeartbeats 1000000 in
theorem letter_h (s : ByteArray) (hs : s.size ≤ maxLen) (h0 : 0 < s.size) (h1 : 224 ≤ (bsOf s).getD 0 0) (h2 : (bsOf s).getD 0 0 ≤ 239) (m : 3 ≤ s.size ∧ (128 ≤ (bsOf s).getD 1 0 ∧ (bsOf s).getD 1 0 ≤ 191) ∧ (128 ≤ (bsOf s).getD 2 0 ∧ (bsOf s).getD 2 0 ≤ 191)) (g : (bsOf s).getD 0 0 = 224 ∧ ¬ (bsOf s).getD 1 0 < 160) (w : World) :
    Calls Try.prog 31 #[.string s] w fun e w' => e = .returned (.int .i64 (ltr (bsOf s) : Nat)) ∧ w' = w := by
  have A0 := bs_at s 0 h0
  have hz := bsOf_length s
  have HV : ltr (bsOf s) = 3 := by
    unfold ltr ltrN
    rw [hz]
    repeat' split
    all_goals omega
  have M2 : Hid (∀ w, Calls Try.prog 36 #[.string s, .int .i64 1, .int .i64 2] w fun e w' => e = .returned (.bool true) ∧ w' = w) := fun w => more_yes s 2 (by omega) hs (by omega) (fun i a b => by (have e : i = 1 ∨ i = 2 := by omega); rcases e with rfl | rfl <;> omega) w
  rw [HV]
  clear HV hz
  unfold maxLen at hs
  have z1 : 1 < s.size := by omega
  have A1 := bs_at s 1 z1
  have i1 : (s[1].toNat : Int) = ((bsOf s).getD 1 0 : Nat) := by rw [A1]
  have i0 : (s[0].toNat : Int) = ((bsOf s).getD 0 0 : Nat) := by rw [A0]
  have q0 : ¬ (s[0].toNat : Int) < 128 := by omega
  have q1 : (194 : Int) ≤ (s[0].toNat : Int) := by omega
  have q2 : ¬ (s[0].toNat : Int) ≤ 223 := by omega
  have q3 : (224 : Int) ≤ (s[0].toNat : Int) := by omega
  have q4 : (s[0].toNat : Int) ≤ 239 := by omega
  have q5 : ¬ (240 : Int) ≤ (s[0].toNat : Int) := by omega
  have q6 : ((s[0].toNat : Int) == 224) = true := by rw [beq_iff_eq]; omega
  have q7 : ¬ (s[1].toNat : Int) < 160 := by omega
  have q8 : ((s[0].toNat : Int) == 237) = false := by rw [beq_eq_false_iff_ne]; omega
  clear i0 A0 i1 A1 h1 h2 m g
  go_enter Try.func31, Try.ntmps31
  go_wp2_with fail
  refine (M2.out _).mono ?_
  rintro e w1 ⟨rfl, rfl⟩
  go_wp2
  go_ret
  exact ⟨rfl, rfl⟩

set_option maxRecDepth 100000 in
set_option maxHeartbeats 1000000 in
theorem letter_i (s : ByteArray) (hs : s.size ≤ maxLen) (h0 : 0 < s.size) (h1 : 224 ≤ (bsOf s).getD 0 0) (h2 : (bsOf s).getD 0 0 ≤ 239) (m : 3 ≤ s.size ∧ (128 ≤ (bsOf s).getD 1 0 ∧ (bsOf s).getD 1 0 ≤ 191) ∧ (128 ≤ (bsOf s).getD 2 0 ∧ (bsOf s).getD 2 0 ≤ 191)) (g : (bsOf s).getD 0 0 = 237 ∧ ¬ 159 < (bsOf s).getD 1 0) (w : World) :
    Calls Try.prog 31 #[.string s] w fun e w' => e = .returned (.int .i64 (ltr (bsOf s) : Nat)) ∧ w' = w := by
  have A0 := bs_at s 0 h0
  have hz := bsOf_length s
  have HV : ltr (bsOf s) = 3 := by
    unfold ltr ltrN
    rw [hz]
    repeat' split
    all_goals omega
  have M2 : Hid (∀ w, Calls Try.prog 36 #[.string s, .int .i64 1, .int .i64 2] w fun e w' => e = .returned (.bool true) ∧ w' = w) := fun w => more_yes s 2 (by omega) hs (by omega) (fun i a b => by (have e : i = 1 ∨ i = 2 := by omega); rcases e with rfl | rfl <;> omega) w
  rw [HV]
  clear HV hz
  unfold maxLen at hs
  have z1 : 1 < s.size := by omega
  have A1 := bs_at s 1 z1
  have i1 : (s[1].toNat : Int) = ((bsOf s).getD 1 0 : Nat) := by rw [A1]
  have i0 : (s[0].toNat : Int) = ((bsOf s).getD 0 0 : Nat) := by rw [A0]
  have q0 : ¬ (s[0].toNat : Int) < 128 := by omega
  have q1 : (194 : Int) ≤ (s[0].toNat : Int) := by omega
  have q2 : ¬ (s[0].toNat : Int) ≤ 223 := by omega
  have q3 : (224 : Int) ≤ (s[0].toNat : Int) := by omega
  have q4 : (s[0].toNat : Int) ≤ 239 := by omega
  have q5 : ¬ (240 : Int) ≤ (s[0].toNat : Int) := by omega
  have q6 : ((s[0].toNat : Int) == 224) = false := by rw [beq_eq_false_iff_ne]; omega
  have q7 : ((s[0].toNat : Int) == 237) = true := by rw [beq_iff_eq]; omega
  have q8 : ¬ 159 < (s[1].toNat : Int) := by omega
  clear i0 A0 i1 A1 h1 h2 m g
  go_enter Try.func31, Try.ntmps31
  go_wp2_with fail
  refine (M2.out _).mono ?_
  rintro e w1 ⟨rfl, rfl⟩
  go_wp2
  go_ret
  exact ⟨rfl, rfl⟩

set_option maxRecDepth 100000 in
set_option maxHeartbeats 1000000 in
theorem letter_j (s : ByteArray) (hs : s.size ≤ maxLen) (h0 : 0 < s.size) (h1 : 224 ≤ (bsOf s).getD 0 0) (h2 : (bsOf s).getD 0 0 ≤ 239) (m : 3 ≤ s.size ∧ (128 ≤ (bsOf s).getD 1 0 ∧ (bsOf s).getD 1 0 ≤ 191) ∧ (128 ≤ (bsOf s).getD 2 0 ∧ (bsOf s).getD 2 0 ≤ 191)) (g : (bsOf s).getD 0 0 ≠ 224 ∧ (bsOf s).getD 0 0 ≠ 237) (w : World) :
    Calls Try.prog 31 #[.string s] w fun e w' => e = .returned (.int .i64 (ltr (bsOf s) : Nat)) ∧ w' = w := by
  have A0 := bs_at s 0 h0
  have hz := bsOf_length s
  have HV : ltr (bsOf s) = 3 := by
    unfold ltr ltrN
    rw [hz]
    repeat' split
    all_goals omega
  have M2 : Hid (∀ w, Calls Try.prog 36 #[.string s, .int .i64 1, .int .i64 2] w fun e w' => e = .returned (.bool true) ∧ w' = w) := fun w => more_yes s 2 (by omega) hs (by omega) (fun i a b => by (have e : i = 1 ∨ i = 2 := by omega); rcases e with rfl | rfl <;> omega) w
  rw [HV]
  clear HV hz
  unfold maxLen at hs
  have z1 : 1 < s.size := by omega
  have A1 := bs_at s 1 z1
  have i1 : (s[1].toNat : Int) = ((bsOf s).getD 1 0 : Nat) := by rw [A1]
  have i0 : (s[0].toNat : Int) = ((bsOf s).getD 0 0 : Nat) := by rw [A0]
  have q0 : ¬ (s[0].toNat : Int) < 128 := by omega
  have q1 : (194 : Int) ≤ (s[0].toNat : Int) := by omega
  have q2 : ¬ (s[0].toNat : Int) ≤ 223 := by omega
  have q3 : (224 : Int) ≤ (s[0].toNat : Int) := by omega
  have q4 : (s[0].toNat : Int) ≤ 239 := by omega
  have q5 : ¬ (240 : Int) ≤ (s[0].toNat : Int) := by omega
  have q6 : ((s[0].toNat : Int) == 224) = false := by rw [beq_eq_false_iff_ne]; omega
  have q7 : ((s[0].toNat : Int) == 237) = false := by rw [beq_eq_false_iff_ne]; omega
  clear i0 A0 i1 A1 h1 h2 m g
  go_enter Try.func31, Try.ntmps31
  go_wp2_with fail
  refine (M2.out _).mono ?_
  rintro e w1 ⟨rfl, rfl⟩
  go_wp2
  go_ret
  exact ⟨rfl, rfl⟩

set_option maxRecDepth 100000 in
set_option maxHeartbeats 1000000 in
theorem letter_k (s : ByteArray) (hs : s.size ≤ maxLen) (h0 : 0 < s.size) (h1 : 240 ≤ (bsOf s).getD 0 0) (h2 : (bsOf s).getD 0 0 ≤ 244) (m : ¬ (4 ≤ s.size ∧ (128 ≤ (bsOf s).getD 1 0 ∧ (bsOf s).getD 1 0 ≤ 191) ∧ (128 ≤ (bsOf s).getD 2 0 ∧ (bsOf s).getD 2 0 ≤ 191) ∧ (128 ≤ (bsOf s).getD 3 0 ∧ (bsOf s).getD 3 0 ≤ 191))) (w : World) :
    Calls Try.prog 31 #[.string s] w fun e w' => e = .returned (.int .i64 (ltr (bsOf s) : Nat)) ∧ w' = w := by
  have A0 := bs_at s 0 h0
  have hz := bsOf_length s
  have HV : ltr (bsOf s) = 0 := by
    unfold ltr ltrN
    rw [hz]
    repeat' split
    all_goals omega
  have M3 : Hid (∀ w, Calls Try.prog 36 #[.string s, .int .i64 1, .int .i64 3] w fun e w' => e = .returned (.bool false) ∧ w' = w) := fun w => more_no s 3 (by omega) hs (by by_cases q : s.size < 4; exact .inl q; exact .inr (if r1 : (bsOf s).getD 1 0 < 128 ∨ 191 < (bsOf s).getD 1 0 then ⟨1, by omega, by omega, r1⟩ else if r2 : (bsOf s).getD 2 0 < 128 ∨ 191 < (bsOf s).getD 2 0 then ⟨2, by omega, by omega, r2⟩ else ⟨3, by omega, by omega, by omega⟩)) w
  rw [HV]
  clear HV hz
  unfold maxLen at hs
  have i0 : (s[0].toNat : Int) = ((bsOf s).getD 0 0 : Nat) := by rw [A0]
  have q0 : ¬ (s[0].toNat : Int) < 128 := by omega
  have q1 : (194 : Int) ≤ (s[0].toNat : Int) := by omega
  have q2 : ¬ (s[0].toNat : Int) ≤ 223 := by omega
  have q3 : (224 : Int) ≤ (s[0].toNat : Int) := by omega
  have q4 : ¬ (s[0].toNat : Int) ≤ 239 := by omega
  have q5 : (240 : Int) ≤ (s[0].toNat : Int) := by omega
  have q6 : (s[0].toNat : Int) ≤ 244 := by omega
  clear i0 A0 h1 h2 m
  go_enter Try.func31, Try.ntmps31
  go_wp2_with fail
  refine (M3.out _).mono ?_
  rintro e w1 ⟨rfl, rfl⟩
  go_wp2
  go_ret
  exact ⟨rfl, rfl⟩

set_option maxRecDepth 100000 in
set_option maxHeartbeats 1000000 in
theorem letter_l (s : ByteArray) (hs : s.size ≤ maxLen) (h0 : 0 < s.size) (h1 : 240 ≤ (bsOf s).getD 0 0) (h2 : (bsOf s).getD 0 0 ≤ 244) (m : 4 ≤ s.size ∧ (128 ≤ (bsOf s).getD 1 0 ∧ (bsOf s).getD 1 0 ≤ 191) ∧ (128 ≤ (bsOf s).getD 2 0 ∧ (bsOf s).getD 2 0 ≤ 191) ∧ (128 ≤ (bsOf s).getD 3 0 ∧ (bsOf s).getD 3 0 ≤ 191)) (g : (bsOf s).getD 0 0 = 240 ∧ (bsOf s).getD 1 0 < 144) (w : World) :
    Calls Try.prog 31 #[.string s] w fun e w' => e = .returned (.int .i64 (ltr (bsOf s) : Nat)) ∧ w' = w := by
  have A0 := bs_at s 0 h0
  have hz := bsOf_length s
  have HV : ltr (bsOf s) = 0 := by
    unfold ltr ltrN
    rw [hz]
    repeat' split
    all_goals omega
  have M3 : Hid (∀ w, Calls Try.prog 36 #[.string s, .int .i64 1, .int .i64 3] w fun e w' => e = .returned (.bool true) ∧ w' = w) := fun w => more_yes s 3 (by omega) hs (by omega) (fun i a b => by (have e : i = 1 ∨ i = 2 ∨ i = 3 := by omega); rcases e with rfl | rfl | rfl <;> omega) w
  rw [HV]
  clear HV hz
  unfold maxLen at hs
  have z1 : 1 < s.size := by omega
  have A1 := bs_at s 1 z1
  have i1 : (s[1].toNat : Int) = ((bsOf s).getD 1 0 : Nat) := by rw [A1]
  have i0 : (s[0].toNat : Int) = ((bsOf s).getD 0 0 : Nat) := by rw [A0]
  have q0 : ¬ (s[0].toNat : Int) < 128 := by omega
  have q1 : (194 : Int) ≤ (s[0].toNat : Int) := by omega
  have q2 : ¬ (s[0].toNat : Int) ≤ 223 := by omega
  have q3 : (224 : Int) ≤ (s[0].toNat : Int) := by omega
  have q4 : ¬ (s[0].toNat : Int) ≤ 239 := by omega
  have q5 : (240 : Int) ≤ (s[0].toNat : Int) := by omega
  have q6 : (s[0].toNat : Int) ≤ 244 := by omega
  have q7 : ((s[0].toNat : Int) == 240) = true := by rw [beq_iff_eq]; omega
  have q8 : (s[1].toNat : Int) < 144 := by omega
  clear i0 A0 i1 A1 h1 h2 m g
  go_enter Try.func31, Try.ntmps31
  go_wp2_with fail
  refine (M3.out _).mono ?_
  rintro e w1 ⟨rfl, rfl⟩
  go_wp2
  go_ret
  exact ⟨rfl, rfl⟩

set_option maxRecDepth 100000 in
set_option maxHeartbeats 1000000 in
theorem letter_n (s : ByteArray) (hs : s.size ≤ maxLen) (h0 : 0 < s.size) (h1 : 240 ≤ (bsOf s).getD 0 0) (h2 : (bsOf s).getD 0 0 ≤ 244) (m : 4 ≤ s.size ∧ (128 ≤ (bsOf s).getD 1 0 ∧ (bsOf s).getD 1 0 ≤ 191) ∧ (128 ≤ (bsOf s).getD 2 0 ∧ (bsOf s).getD 2 0 ≤ 191) ∧ (128 ≤ (bsOf s).getD 3 0 ∧ (bsOf s).getD 3 0 ≤ 191)) (g : (bsOf s).getD 0 0 = 244 ∧ 143 < (bsOf s).getD 1 0) (w : World) :
    Calls Try.prog 31 #[.string s] w fun e w' => e = .returned (.int .i64 (ltr (bsOf s) : Nat)) ∧ w' = w := by
  have A0 := bs_at s 0 h0
  have hz := bsOf_length s
  have HV : ltr (bsOf s) = 0 := by
    unfold ltr ltrN
    rw [hz]
    repeat' split
    all_goals omega
  have M3 : Hid (∀ w, Calls Try.prog 36 #[.string s, .int .i64 1, .int .i64 3] w fun e w' => e = .returned (.bool true) ∧ w' = w) := fun w => more_yes s 3 (by omega) hs (by omega) (fun i a b => by (have e : i = 1 ∨ i = 2 ∨ i = 3 := by omega); rcases e with rfl | rfl | rfl <;> omega) w
  rw [HV]
  clear HV hz
  unfold maxLen at hs
  have z1 : 1 < s.size := by omega
  have A1 := bs_at s 1 z1
  have i1 : (s[1].toNat : Int) = ((bsOf s).getD 1 0 : Nat) := by rw [A1]
  have i0 : (s[0].toNat : Int) = ((bsOf s).getD 0 0 : Nat) := by rw [A0]
  have q0 : ¬ (s[0].toNat : Int) < 128 := by omega
  have q1 : (194 : Int) ≤ (s[0].toNat : Int) := by omega
  have q2 : ¬ (s[0].toNat : Int) ≤ 223 := by omega
  have q3 : (224 : Int) ≤ (s[0].toNat : Int) := by omega
  have q4 : ¬ (s[0].toNat : Int) ≤ 239 := by omega
  have q5 : (240 : Int) ≤ (s[0].toNat : Int) := by omega
  have q6 : (s[0].toNat : Int) ≤ 244 := by omega
  have q7 : ((s[0].toNat : Int) == 240) = false := by rw [beq_eq_false_iff_ne]; omega
  have q8 : ((s[0].toNat : Int) == 244) = true := by rw [beq_iff_eq]; omega
  have q9 : 143 < (s[1].toNat : Int) := by omega
  clear i0 A0 i1 A1 h1 h2 m g
  go_enter Try.func31, Try.ntmps31
  go_wp2_with fail
  refine (M3.out _).mono ?_
  rintro e w1 ⟨rfl, rfl⟩
  go_wp2
  go_ret
  exact ⟨rfl, rfl⟩

set_option maxRecDepth 100000 in
set_option maxHeartbeats 1000000 in
theorem letter_o (s : ByteArray) (hs : s.size ≤ maxLen) (h0 : 0 < s.size) (h1 : 240 ≤ (bsOf s).getD 0 0) (h2 : (bsOf s).getD 0 0 ≤ 244) (m : 4 ≤ s.size ∧ (128 ≤ (bsOf s).getD 1 0 ∧ (bsOf s).getD 1 0 ≤ 191) ∧ (128 ≤ (bsOf s).getD 2 0 ∧ (bsOf s).getD 2 0 ≤ 191) ∧ (128 ≤ (bsOf s).getD 3 0 ∧ (bsOf s).getD 3 0 ≤ 191)) (g : (bsOf s).getD 0 0 = 240 ∧ ¬ (bsOf s).getD 1 0 < 144) (w : World) :
    Calls Try.prog 31 #[.string s] w fun e w' => e = .returned (.int .i64 (ltr (bsOf s) : Nat)) ∧ w' = w := by
  have A0 := bs_at s 0 h0
  have hz := bsOf_length s
  have HV : ltr (bsOf s) = 4 := by
    unfold ltr ltrN
    rw [hz]
    repeat' split
    all_goals omega
  have M3 : Hid (∀ w, Calls Try.prog 36 #[.string s, .int .i64 1, .int .i64 3] w fun e w' => e = .returned (.bool true) ∧ w' = w) := fun w => more_yes s 3 (by omega) hs (by omega) (fun i a b => by (have e : i = 1 ∨ i = 2 ∨ i = 3 := by omega); rcases e with rfl | rfl | rfl <;> omega) w
  rw [HV]
  clear HV hz
  unfold maxLen at hs
  have z1 : 1 < s.size := by omega
  have A1 := bs_at s 1 z1
  have i1 : (s[1].toNat : Int) = ((bsOf s).getD 1 0 : Nat) := by rw [A1]
  have i0 : (s[0].toNat : Int) = ((bsOf s).getD 0 0 : Nat) := by rw [A0]
  have q0 : ¬ (s[0].toNat : Int) < 128 := by omega
  have q1 : (194 : Int) ≤ (s[0].toNat : Int) := by omega
  have q2 : ¬ (s[0].toNat : Int) ≤ 223 := by omega
  have q3 : (224 : Int) ≤ (s[0].toNat : Int) := by omega
  have q4 : ¬ (s[0].toNat : Int) ≤ 239 := by omega
  have q5 : (240 : Int) ≤ (s[0].toNat : Int) := by omega
  have q6 : (s[0].toNat : Int) ≤ 244 := by omega
  have q7 : ((s[0].toNat : Int) == 240) = true := by rw [beq_iff_eq]; omega
  have q8 : ¬ (s[1].toNat : Int) < 144 := by omega
  have q9 : ((s[0].toNat : Int) == 244) = false := by rw [beq_eq_false_iff_ne]; omega
  clear i0 A0 i1 A1 h1 h2 m g
  go_enter Try.func31, Try.ntmps31
  go_wp2_with fail
  refine (M3.out _).mono ?_
  rintro e w1 ⟨rfl, rfl⟩
  go_wp2
  go_ret
  exact ⟨rfl, rfl⟩

set_option maxRecDepth 100000 in
set_option maxHeartbeats 1000000 in
theorem letter_p (s : ByteArray) (hs : s.size ≤ maxLen) (h0 : 0 < s.size) (h1 : 240 ≤ (bsOf s).getD 0 0) (h2 : (bsOf s).getD 0 0 ≤ 244) (m : 4 ≤ s.size ∧ (128 ≤ (bsOf s).getD 1 0 ∧ (bsOf s).getD 1 0 ≤ 191) ∧ (128 ≤ (bsOf s).getD 2 0 ∧ (bsOf s).getD 2 0 ≤ 191) ∧ (128 ≤ (bsOf s).getD 3 0 ∧ (bsOf s).getD 3 0 ≤ 191)) (g : (bsOf s).getD 0 0 = 244 ∧ ¬ 143 < (bsOf s).getD 1 0) (w : World) :
    Calls Try.prog 31 #[.string s] w fun e w' => e = .returned (.int .i64 (ltr (bsOf s) : Nat)) ∧ w' = w := by
  have A0 := bs_at s 0 h0
  have hz := bsOf_length s
  have HV : ltr (bsOf s) = 4 := by
    unfold ltr ltrN
    rw [hz]
    repeat' split
    all_goals omega
  have M3 : Hid (∀ w, Calls Try.prog 36 #[.string s, .int .i64 1, .int .i64 3] w fun e w' => e = .returned (.bool true) ∧ w' = w) := fun w => more_yes s 3 (by omega) hs (by omega) (fun i a b => by (have e : i = 1 ∨ i = 2 ∨ i = 3 := by omega); rcases e with rfl | rfl | rfl <;> omega) w
  rw [HV]
  clear HV hz
  unfold maxLen at hs
  have z1 : 1 < s.size := by omega
  have A1 := bs_at s 1 z1
  have i1 : (s[1].toNat : Int) = ((bsOf s).getD 1 0 : Nat) := by rw [A1]
  have i0 : (s[0].toNat : Int) = ((bsOf s).getD 0 0 : Nat) := by rw [A0]
  have q0 : ¬ (s[0].toNat : Int) < 128 := by omega
  have q1 : (194 : Int) ≤ (s[0].toNat : Int) := by omega
  have q2 : ¬ (s[0].toNat : Int) ≤ 223 := by omega
  have q3 : (224 : Int) ≤ (s[0].toNat : Int) := by omega
  have q4 : ¬ (s[0].toNat : Int) ≤ 239 := by omega
  have q5 : (240 : Int) ≤ (s[0].toNat : Int) := by omega
  have q6 : (s[0].toNat : Int) ≤ 244 := by omega
  have q7 : ((s[0].toNat : Int) == 240) = false := by rw [beq_eq_false_iff_ne]; omega
  have q8 : ((s[0].toNat : Int) == 244) = true := by rw [beq_iff_eq]; omega
  have q9 : ¬ 143 < (s[1].toNat : Int) := by omega
  clear i0 A0 i1 A1 h1 h2 m g
  go_enter Try.func31, Try.ntmps31
  go_wp2_with fail
  refine (M3.out _).mono ?_
  rintro e w1 ⟨rfl, rfl⟩
  go_wp2
  go_ret
  exact ⟨rfl, rfl⟩

set_option maxRecDepth 100000 in
set_option maxHeartbeats 1000000 in
theorem letter_q (s : ByteArray) (hs : s.size ≤ maxLen) (h0 : 0 < s.size) (h1 : 240 ≤ (bsOf s).getD 0 0) (h2 : (bsOf s).getD 0 0 ≤ 244) (m : 4 ≤ s.size ∧ (128 ≤ (bsOf s).getD 1 0 ∧ (bsOf s).getD 1 0 ≤ 191) ∧ (128 ≤ (bsOf s).getD 2 0 ∧ (bsOf s).getD 2 0 ≤ 191) ∧ (128 ≤ (bsOf s).getD 3 0 ∧ (bsOf s).getD 3 0 ≤ 191)) (g : (bsOf s).getD 0 0 ≠ 240 ∧ (bsOf s).getD 0 0 ≠ 244) (w : World) :
    Calls Try.prog 31 #[.string s] w fun e w' => e = .returned (.int .i64 (ltr (bsOf s) : Nat)) ∧ w' = w := by
  have A0 := bs_at s 0 h0
  have hz := bsOf_length s
  have HV : ltr (bsOf s) = 4 := by
    unfold ltr ltrN
    rw [hz]
    repeat' split
    all_goals omega
  have M3 : Hid (∀ w, Calls Try.prog 36 #[.string s, .int .i64 1, .int .i64 3] w fun e w' => e = .returned (.bool true) ∧ w' = w) := fun w => more_yes s 3 (by omega) hs (by omega) (fun i a b => by (have e : i = 1 ∨ i = 2 ∨ i = 3 := by omega); rcases e with rfl | rfl | rfl <;> omega) w
  rw [HV]
  clear HV hz
  unfold maxLen at hs
  have z1 : 1 < s.size := by omega
  have A1 := bs_at s 1 z1
  have i1 : (s[1].toNat : Int) = ((bsOf s).getD 1 0 : Nat) := by rw [A1]
  have i0 : (s[0].toNat : Int) = ((bsOf s).getD 0 0 : Nat) := by rw [A0]
  have q0 : ¬ (s[0].toNat : Int) < 128 := by omega
  have q1 : (194 : Int) ≤ (s[0].toNat : Int) := by omega
  have q2 : ¬ (s[0].toNat : Int) ≤ 223 := by omega
  have q3 : (224 : Int) ≤ (s[0].toNat : Int) := by omega
  have q4 : ¬ (s[0].toNat : Int) ≤ 239 := by omega
  have q5 : (240 : Int) ≤ (s[0].toNat : Int) := by omega
  have q6 : (s[0].toNat : Int) ≤ 244 := by omega
  have q7 : ((s[0].toNat : Int) == 240) = false := by rw [beq_eq_false_iff_ne]; omega
  have q8 : ((s[0].toNat : Int) == 244) = false := by rw [beq_eq_false_iff_ne]; omega
  clear i0 A0 i1 A1 h1 h2 m g
  go_enter Try.func31, Try.ntmps31
  go_wp2_with fail
  refine (M3.out _).mono ?_
  rintro e w1 ⟨rfl, rfl⟩
  go_wp2
  go_ret
  exact ⟨rfl, rfl⟩

set_option maxRecDepth 100000 in
set_option maxHeartbeats 1000000 in
theorem letter_r (s : ByteArray) (hs : s.size ≤ maxLen) (h0 : 0 < s.size) (h1 : 244 < (bsOf s).getD 0 0) (w : World) :
    Calls Try.prog 31 #[.string s] w fun e w' => e = .returned (.int .i64 (ltr (bsOf s) : Nat)) ∧ w' = w := by
  have A0 := bs_at s 0 h0
  have hz := bsOf_length s
  have HV : ltr (bsOf s) = 0 := by
    unfold ltr ltrN
    rw [hz]
    repeat' split
    all_goals omega
  rw [HV]
  clear HV hz
  unfold maxLen at hs
  have i0 : (s[0].toNat : Int) = ((bsOf s).getD 0 0 : Nat) := by rw [A0]
  have q0 : ¬ (s[0].toNat : Int) < 128 := by omega
  have q1 : (194 : Int) ≤ (s[0].toNat : Int) := by omega
  have q2 : ¬ (s[0].toNat : Int) ≤ 223 := by omega
  have q3 : (224 : Int) ≤ (s[0].toNat : Int) := by omega
  have q4 : ¬ (s[0].toNat : Int) ≤ 239 := by omega
  have q5 : (240 : Int) ≤ (s[0].toNat : Int) := by omega
  have q6 : ¬ (s[0].toNat : Int) ≤ 244 := by omega
  clear i0 A0 h1
  go_enter Try.func31, Try.ntmps31
  go_wp2
  go_ret
  exact ⟨rfl, rfl⟩

theorem letter_any (s : ByteArray) (hs : s.size ≤ maxLen) (h0 : 0 < s.size) (w : World) :
    Calls Try.prog 31 #[.string s] w fun e w' => e = .returned (.int .i64 (ltr (bsOf s) : Nat)) ∧ w' = w := by
  by_cases a1 : (bsOf s).getD 0 0 < 128
  · exact letter_a s hs h0 a1 w
  by_cases a2 : (bsOf s).getD 0 0 < 194
  · exact letter_b s hs h0 (by omega) a2 w
  by_cases a3 : (bsOf s).getD 0 0 ≤ 223
  · by_cases m : 2 ≤ s.size ∧ (128 ≤ (bsOf s).getD 1 0 ∧ (bsOf s).getD 1 0 ≤ 191)
    · exact letter_c s hs h0 (by omega) a3 m w
    · exact letter_d s hs h0 (by omega) a3 m w
  by_cases a4 : (bsOf s).getD 0 0 ≤ 239
  · by_cases m : 3 ≤ s.size ∧ (128 ≤ (bsOf s).getD 1 0 ∧ (bsOf s).getD 1 0 ≤ 191) ∧ (128 ≤ (bsOf s).getD 2 0 ∧ (bsOf s).getD 2 0 ≤ 191)
    · by_cases g1 : (bsOf s).getD 0 0 = 224
      · by_cases g2 : (bsOf s).getD 1 0 < 160
        · exact letter_f s hs h0 (by omega) a4 m ⟨g1, g2⟩ w
        · exact letter_h s hs h0 (by omega) a4 m ⟨g1, g2⟩ w
      · by_cases g3 : (bsOf s).getD 0 0 = 237
        · by_cases g2 : 159 < (bsOf s).getD 1 0
          · exact letter_g s hs h0 (by omega) a4 m ⟨g3, g2⟩ w
          · exact letter_i s hs h0 (by omega) a4 m ⟨g3, g2⟩ w
        · exact letter_j s hs h0 (by omega) a4 m ⟨g1, g3⟩ w
    · exact letter_e s hs h0 (by omega) a4 m w
  by_cases a5 : (bsOf s).getD 0 0 ≤ 244
  · by_cases m : 4 ≤ s.size ∧ (128 ≤ (bsOf s).getD 1 0 ∧ (bsOf s).getD 1 0 ≤ 191) ∧ (128 ≤ (bsOf s).getD 2 0 ∧ (bsOf s).getD 2 0 ≤ 191) ∧ (128 ≤ (bsOf s).getD 3 0 ∧ (bsOf s).getD 3 0 ≤ 191)
    · by_cases g1 : (bsOf s).getD 0 0 = 240
      · by_cases g2 : (bsOf s).getD 1 0 < 144
        · exact letter_l s hs h0 (by omega) a5 m ⟨g1, g2⟩ w
        · exact letter_o s hs h0 (by omega) a5 m ⟨g1, g2⟩ w
      · by_cases g3 : (bsOf s).getD 0 0 = 244
        · by_cases g2 : 143 < (bsOf s).getD 1 0
          · exact letter_n s hs h0 (by omega) a5 m ⟨g3, g2⟩ w
          · exact letter_p s hs h0 (by omega) a5 m ⟨g3, g2⟩ w
        · exact letter_q s hs h0 (by omega) a5 m ⟨g1, g3⟩ w
    · exact letter_k s hs h0 (by omega) a5 m w
  · exact letter_r s hs h0 (by omega) w

set_option maxHeartbeats 1000000 in
theorem rletters_any (s : ByteArray) (hs : s.size ≤ 281474976710656) (w : World) :
    Calls Try.prog 26 #[.string s] w fun e w' => e = .returned (.tuple #[.int .i64 ((lts (bsOf s)).1 : Nat), .bool (lts (bsOf s)).2]) ∧ w' = w := by
  go_enter Try.func26, Try.ntmps26
  go_wp2
  go_loop [0, 4, 5, 6] (fun t c r _ => ∃ (u : ByteArray) (n : Nat) (ok : Bool), u.size + n ≤ s.size ∧ t = .string u ∧ c = .int .i64 n ∧ r = .bool ok ∧ Hid (lts (bsOf s) = (n + (lts (bsOf u)).1, ok && (lts (bsOf u)).2))) (fun t _ _ _ => match t with | .string u => u.size | _ => 0)
  case atStart => exact ⟨s, 0, true, by omega, rfl, rfl, rfl, by show _ = _; simp⟩
  case round =>
    obtain ⟨u, n, ok, hu, rfl, rfl, rfl, HL⟩ := hrel
    by_cases h0 : 0 < u.size
    · have hne : bsOf u ≠ [] := by
        intro e; have := congrArg List.length e; rw [bsOf_length, List.length_nil] at this; omega
      have hg := lts_go _ hne
      have hle := ltr_le _ hne
      have hsp := stp_pos (bsOf u)
      have hsl := stp_le _ hne
      rw [bsOf_length] at hle hsl
      have HG : Hid (lts (bsOf u) = ((lts ((bsOf u).drop (stp (bsOf u)))).1 + 1, decide (ltr (bsOf u) ≠ 0) && (lts ((bsOf u).drop (stp (bsOf u)))).2)) := hg
      have ed : ∀ k, bsOf (u.extract k u.size) = (bsOf u).drop k := fun k => by
        unfold bsOf
        rw [Lib.extract_data, List.map_take, List.map_drop, List.take_of_length_le (by simp)]
      have ED : Hid (∀ k, bsOf (u.extract k u.size) = (bsOf u).drop k) := ed
      have es : ∀ k, (u.extract k u.size).size = u.size - k := fun k => by simp [ByteArray.size_extract]
      have ES : Hid (∀ k, (u.extract k u.size).size = u.size - k) := es
      have hlet := letter_any u (by unfold maxLen; omega) h0 w
      have hst : stp (bsOf u) = if ltr (bsOf u) = 0 then 1 else ltr (bsOf u) := rfl
      clear hg ed es hne hsp hsl
      obtain ⟨k, hk⟩ : ∃ k, k = ltr (bsOf u) := ⟨_, rfl⟩
      rw [← hk] at hle hlet hst
      have HK : Hid (k = ltr (bsOf u)) := hk
      clear hk
      have hk1 := hle.1
      have hk4 := hle.2
      clear hle
      by_cases hz : k = 0
      · rw [if_pos hz] at hst
        have HS : Hid (stp (bsOf u) = 1) := hst
        have hz2 : ((k : Int) == 0) = true := by simp [hz]
        have HZ : Hid (ltr (bsOf u) = 0) := by show _ = _; rw [← HK.out]; exact hz
        clear hst
        go_wp2_with fail
        refine hlet.mono ?_
        rintro e w1 ⟨rfl, rfl⟩
        clear hlet
        go_wp2
        go_round
        case rel =>
          refine ⟨_, n + 1, false, ?_, rfl, by go_num, rfl, ?_⟩
          · rw [ES.out]; omega
          · show _ = _
            rw [HL.out, HG.out, HS.out, ED.out]
            simp [HZ.out]; omega
        case measure => simp [ES.out]; omega
      · rw [if_neg hz] at hst
        have HS : Hid (stp (bsOf u) = k) := hst
        have hz2 : ((k : Int) == 0) = false := by simp; omega
        have HZ : Hid (ltr (bsOf u) ≠ 0) := by show _ ≠ _; rw [← HK.out]; exact hz
        clear hst
        go_wp2_with fail
        refine hlet.mono ?_
        rintro e w1 ⟨rfl, rfl⟩
        clear hlet
        go_wp2
        go_round
        case rel =>
          refine ⟨_, n + 1, ok, ?_, rfl, by go_num, rfl, ?_⟩
          · rw [ES.out]; omega
          · show _ = _
            rw [HL.out, HG.out, HS.out, ED.out]
            simp [HZ.out]; omega
        case measure => simp [ES.out]; omega
    · have e : bsOf u = [] := List.eq_nil_of_length_eq_zero (by rw [bsOf_length]; omega)
      have HE : Hid (lts (bsOf s) = (n, ok)) := by
        show _ = _
        rw [HL.out, e, lts_nil]; simp
      clear e HL
      go_wp2
      go_ret2
      exact ⟨ret_ib2 (by rw [HE.out]) (by rw [HE.out]), rfl⟩
end Go.Proofs.Ytacgkoiejmbeiaa
