
/- What crc.Sum and crc.More tell, and what the document's own Sum and More tell: the same. -/
import Derived.Test.YtbfkacahaocpfaaGoOn
namespace Go.Proofs.Ytbfkacahaocpfaa
open Go.RowKit Crcm

theorem crc_zero (l : List Nat) : reg (0 ^^^ 4294967295) l ^^^ 4294967295 = crc l := by rw [Nat.zero_xor]; rfl

set_option maxRecDepth 100000 in
set_option maxHeartbeats 400000 in
theorem sum_any (a : Option Addr) (n cap : Nat) (l : List Nat) (hn : n = l.length) (w : World) (hr : Row w a cap l) :
    Calls Try.prog 46 #[.slice a n cap] w fun e w' => e = .returned (.int .i64 ((crc l : Nat) : Int)) ∧ w' = w := by
  subst hn
  have hb := crc_lt hr.byte
  go_enter Try.func46, Try.ntmps46
  go_wp2_with fail
  refine (goOn_any 0 (by omega) a cap l _ hr).mono ?_
  rintro e w' ⟨rfl, rfl⟩
  rw [crc_zero]
  go_wp2
  go_ret
  exact ⟨rfl, rfl⟩

set_option maxRecDepth 100000 in
set_option maxHeartbeats 1000000 in
theorem refSum_any (a : Option Addr) (n cap : Nat) (l : List Nat) (hn : n = l.length) (w : World) (hr : Row w a cap l) :
    Calls Try.prog 47 #[.slice a n cap] w fun e w' => e = .returned (.int .i64 ((crc l : Nat) : Int)) ∧ w' = w := by
  subst hn
  have hm := hr.small
  have hl := hr.le
  rcases hr.at_ with h0 | ⟨b, off, rfl, _, hc⟩
  · subst h0
    have hx : bits BinOp.xor IntKind.u32 4294967295 4294967295 = 0 := u32_xor_nat 4294967295 4294967295 (by omega) (by omega)
    go_enter Try.func47, Try.ntmps47
    go_wp2
    refine wp_loop_rounds 1 ?_
    rw [rounds_succ]
    go_wp2
    go_ret
    exact ⟨rfl, rfl⟩
  · go_enter Try.func47, Try.ntmps47
    go_wp2
    go_loop [3, 10] (fun t i => ∃ k : Nat, k ≤ l.length ∧ i = .int .i64 k ∧ t = .int .u32 ((reg 4294967295 (l.take k) : Nat) : Int)) (fun _ i => l.length - (intOf i).toNat)
    case atStart => exact ⟨0, by omega, rfl, rfl⟩
    case round =>
      obtain ⟨k, hk, rfl, rfl⟩ := hrel
      have hrl := reg_lt (s := 4294967295) (by omega) (octs_take hr.byte k)
      by_cases hlt : k < l.length
      · have hcell := hc k hlt
        have hxl := octs_getD hr.byte k
        have HS : Hid (reg 4294967295 (l.take (k + 1)) = steps 8 (reg 4294967295 (l.take k) ^^^ l.getD k 0)) := by
          rw [take_snoc l k hlt, reg_snoc]; rfl
        obtain ⟨x, hxd⟩ : ∃ x, x = l.getD k 0 := ⟨_, rfl⟩
        obtain ⟨r, hrd⟩ : ∃ r, r = reg 4294967295 (l.take k) := ⟨_, rfl⟩
        rw [← hxd] at hcell hxl HS
        rw [← hrd] at hrl HS ⊢
        clear hxd hrd hc
        have hx := u32_xor_nat r x hrl (by omega)
        have hx2 := xor32_lt hrl (show x < 4294967296 by omega)
        obtain ⟨y, hyd⟩ : ∃ y, y = r ^^^ x := ⟨_, rfl⟩
        rw [← hyd] at hx hx2 HS
        clear hyd
        go_wp2
        go_loop [3, 6] (fun t i => ∃ j : Nat, j ≤ 8 ∧ i = .int .i64 j ∧ t = .int .u32 ((steps j y : Nat) : Int)) (fun _ i => 8 - (intOf i).toNat)
        case atStart => exact ⟨0, by omega, rfl, rfl⟩
        case round =>
          obtain ⟨j, hj, rfl, rfl⟩ := hrel
          by_cases hj8 : j < 8
          · go_wp2
            · have h : (bits BinOp.and IntKind.u32 ((steps j y : Nat) : Int) 1 == 1) = true := by assumption
              go_round
              case rel => exact ⟨j + 1, by omega, by go_num, by rw [step_hit _ (steps_lt j hx2) h]; rfl⟩
              case measure => simp [intOf]; omega
            · have h : (bits BinOp.and IntKind.u32 ((steps j y : Nat) : Int) 1 == 1) = false := by assumption
              go_round
              case rel => exact ⟨j + 1, by omega, by go_num, by rw [step_miss _ (steps_lt j hx2) h]; rfl⟩
              case measure => simp [intOf]; omega
          · have e8 : j = 8 := by omega
            subst e8
            go_wp2
            go_round
            case rel => exact ⟨k + 1, by omega, by go_num, by rw [HS.out]⟩
            case measure => simp [intOf]; omega
      · have ek : l.take k = l := List.take_of_length_le (by omega)
        rw [ek] at hrl ⊢
        have hx : bits BinOp.xor IntKind.u32 ((reg 4294967295 l : Nat) : Int) 4294967295 = ((crc l : Nat) : Int) := u32_xor_nat (reg 4294967295 l) 4294967295 hrl (by omega)
        have hx2 := crc_lt hr.byte
        go_wp2
        go_ret
        exact ⟨rfl, rfl⟩

theorem ser_lt {y x j : Nat} (hy : y < 4294967296) (hx : x < 256) : steps j y ^^^ x / 2 ^ j < 4294967296 :=
  xor32_lt (steps_lt j hy) (Nat.lt_of_le_of_lt (Nat.div_le_self _ _) (by omega))
theorem more_bit (y x j : Nat) (hy : y < 4294967296) (hx : x < 256) : bits BinOp.and IntKind.u32 (bits BinOp.xor IntKind.u32 ((steps j y ^^^ x / 2 ^ j : Nat) : Int) ((x : Int) / 2 ^ j)) 1 = ((steps j y % 2 : Nat) : Int) := by
  have hd : x / 2 ^ j < 4294967296 := Nat.lt_of_le_of_lt (Nat.div_le_self _ _) (by omega)
  have e : ((x : Int) / 2 ^ j) = ((x / 2 ^ j : Nat) : Int) := by simp
  rw [e, u32_xor_nat _ _ (ser_lt hy hx) hd, and1_u32 _ (xor32_lt (ser_lt hy hx) hd), Nat.xor_assoc, Nat.xor_self, Nat.xor_zero]
theorem more_hit (r x j : Nat) (hy : r ^^^ x < 4294967296) (hx : x < 256) (h : (bits BinOp.and IntKind.u32 (bits BinOp.xor IntKind.u32 ((steps j (r ^^^ x) ^^^ x / 2 ^ j : Nat) : Int) ((x : Int) / 2 ^ j)) 1 == 1) = true) :
    bits BinOp.xor IntKind.u32 (((steps j (r ^^^ x) ^^^ x / 2 ^ j : Nat) : Int) / 2) 3988292384 = ((steps (j + 1) (r ^^^ x) ^^^ x / 2 ^ (j + 1) : Nat) : Int) := by
  rw [more_bit _ x j hy hx] at h
  have h1 : steps j (r ^^^ x) % 2 = 1 := by simp at h; omega
  have hb := ser_lt (j := j) hy hx
  have e : ((steps j (r ^^^ x) ^^^ x / 2 ^ j : Nat) : Int) / 2 = (((steps j (r ^^^ x) ^^^ x / 2 ^ j) / 2 : Nat) : Int) := by omega
  rw [e, xorp_u32 _ (by omega), ← serial r x j, if_pos h1]
theorem more_miss (r x j : Nat) (hy : r ^^^ x < 4294967296) (hx : x < 256) (h : (bits BinOp.and IntKind.u32 (bits BinOp.xor IntKind.u32 ((steps j (r ^^^ x) ^^^ x / 2 ^ j : Nat) : Int) ((x : Int) / 2 ^ j)) 1 == 1) = false) :
    ((steps j (r ^^^ x) ^^^ x / 2 ^ j : Nat) : Int) / 2 = ((steps (j + 1) (r ^^^ x) ^^^ x / 2 ^ (j + 1) : Nat) : Int) := by
  rw [more_bit _ x j hy hx] at h
  have h1 : ¬ steps j (r ^^^ x) % 2 = 1 := by
    intro e; rw [e] at h; simp at h
  rw [← serial r x j, if_neg h1, Nat.xor_zero]; omega

end Go.Proofs.Ytbfkacahaocpfaa
