
/- What crc.goOn, crc.Sum and crc.More do: the bytes are fed into the register. -/
import Derived.Test.YtbfkacahaocpfaaTurn
namespace Go.Proofs.Ytbfkacahaocpfaa
open Go.RowKit Crcm

theorem cpl_u32 (s : Nat) (h : s < 4294967296) : bits BinOp.xor IntKind.u32 IntKind.u32.max (s : Int) = ((s ^^^ 4294967295 : Nat) : Int) := by
  have := u32_xor_nat 4294967295 s (by omega) h
  rw [Nat.xor_comm] at this
  exact this
theorem xor32_lt {a b : Nat} (ha : a < 4294967296) (hb : b < 4294967296) : a ^^^ b < 4294967296 := Nat.xor_lt_two_pow (n := 32) (by omega) (by omega)
set_option maxRecDepth 100000 in
set_option maxHeartbeats 400000 in
theorem goOn_any (s : Nat) (hs : s < 4294967296) (a : Option Addr) (cap : Nat) (l : List Nat) (w : World) (hr : Row w a cap l) :
    Calls Try.prog 55 #[.int .u32 s, .slice a l.length cap] w fun e w' => e = .returned (.int .u32 ((reg (s ^^^ 4294967295) l ^^^ 4294967295 : Nat) : Int)) ∧ w' = w := by
  have hm := hr.small
  have hl := hr.le
  have hz : s ^^^ 4294967295 < 4294967296 := xor32_lt hs (by omega)
  rcases hr.at_ with h0 | ⟨b, off, rfl, _, hc⟩
  · subst h0
    go_enter Try.func55, Try.ntmps55
    go_wp2
    refine wp_loop_rounds 1 ?_
    rw [rounds_succ]
    go_wp2
    go_ret
    exact ⟨ret_int (by rw [cpl_u32 s hs, cpl_u32 _ hz]; rfl), rfl⟩
  · go_enter Try.func55, Try.ntmps55
    go_wp2
    go_loop [5, 12] (fun t i => ∃ k : Nat, k ≤ l.length ∧ i = .int .i64 k ∧ t = .int .u32 ((reg (s ^^^ 4294967295) (l.take k) : Nat) : Int)) (fun _ i => l.length - (intOf i).toNat)
    case atStart => exact ⟨0, by omega, rfl, val_int (cpl_u32 s hs)⟩
    case round =>
      obtain ⟨k, hk, rfl, rfl⟩ := hrel
      have hrl := reg_lt (s := s ^^^ 4294967295) hz (octs_take hr.byte k)
      by_cases hlt : k < l.length
      · have hcell := hc k hlt
        have hxl := octs_getD hr.byte k
        have HS : Hid (reg (s ^^^ 4294967295) (l.take (k + 1)) = steps 8 (reg (s ^^^ 4294967295) (l.take k) ^^^ l.getD k 0)) := by
          rw [take_snoc l k hlt, reg_snoc]; rfl
        obtain ⟨x, hxd⟩ : ∃ x, x = l.getD k 0 := ⟨_, rfl⟩
        obtain ⟨r, hrd⟩ : ∃ r, r = reg (s ^^^ 4294967295) (l.take k) := ⟨_, rfl⟩
        rw [← hxd] at hcell hxl HS
        rw [← hrd] at hrl HS ⊢
        clear hxd hrd hc
        have hx := u32_xor_nat r x hrl (by omega)
        have hx2 := xor32_lt hrl (show x < 4294967296 by omega)
        go_wp2_with (go_at_call 60; refine (turn_any _ hx2 _).mono ?_; rintro e w' ⟨rfl, rfl⟩)
        go_round
        case rel => exact ⟨k + 1, by omega, by go_num, by rw [HS.out]⟩
        case measure => simp [intOf]; omega
      · have ek : l.take k = l := List.take_of_length_le (by omega)
        rw [ek] at hrl ⊢
        go_wp2
        go_ret
        exact ⟨ret_int (cpl_u32 _ hrl), rfl⟩
end Go.Proofs.Ytbfkacahaocpfaa
