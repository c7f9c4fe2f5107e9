
/- What crc.turn does: eight bits of the register fall out. -/
import Derived.Test.YtbfkacahaocpfaaCrc
namespace Go.Proofs.Ytbfkacahaocpfaa
open Go.RowKit Crcm

theorem and1_u32 (s : Nat) (h : s < 4294967296) : bits .and .u32 (s : Int) 1 = ((s % 2 : Nat) : Int) := by
  have := u32_and_nat s 1 h (by omega)
  rw [nat_mask1] at this
  exact this
theorem xorp_u32 (s : Nat) (h : s < 4294967296) : bits .xor .u32 (s : Int) 3988292384 = ((s ^^^ 3988292384 : Nat) : Int) := u32_xor_nat s 3988292384 h (by omega)

theorem step_hit (t : Nat) (ht : t < 4294967296) (h : (bits BinOp.and IntKind.u32 (t : Int) 1 == 1) = true) : bits BinOp.xor IntKind.u32 ((t : Int) / 2) 3988292384 = ((step1 t : Nat) : Int) := by
  rw [and1_u32 t ht] at h
  have h1 : t % 2 = 1 := by simp at h; omega
  have e : (t : Int) / 2 = ((t / 2 : Nat) : Int) := by omega
  rw [e, xorp_u32 _ (by omega), step1, if_pos h1]
theorem step_miss (t : Nat) (ht : t < 4294967296) (h : (bits BinOp.and IntKind.u32 (t : Int) 1 == 1) = false) : (t : Int) / 2 = ((step1 t : Nat) : Int) := by
  rw [and1_u32 t ht] at h
  have h1 : ¬ t % 2 = 1 := by
    intro e; rw [e] at h; simp at h
  rw [step1, if_neg h1]; omega

set_option maxRecDepth 100000 in
set_option maxHeartbeats 400000 in
theorem turn_any (s : Nat) (hs : s < 4294967296) (w : World) :
    Calls Try.prog 60 #[.int .u32 s] w fun e w' => e = .returned (.int .u32 (steps 8 s)) ∧ w' = w := by
  go_enter Try.func60, Try.ntmps60
  go_wp2
  go_loop [0, 4] (fun t i => ∃ k : Nat, k ≤ 8 ∧ i = .int .i64 k ∧ t = .int .u32 (steps k s)) (fun _ i => 8 - (intOf i).toNat)
  case atStart => exact ⟨0, by omega, rfl, rfl⟩
  case round =>
    obtain ⟨k, hk, rfl, rfl⟩ := hrel
    by_cases hlt : k < 8
    · go_wp2
      · have h : (bits BinOp.and IntKind.u32 ((steps k s : Nat) : Int) 1 == 1) = true := by assumption
        go_round
        case rel => exact ⟨k + 1, by omega, by go_num, by rw [step_hit _ (steps_lt k hs) h]; rfl⟩
        case measure => simp [intOf]; omega
      · have h : (bits BinOp.and IntKind.u32 ((steps k s : Nat) : Int) 1 == 1) = false := by assumption
        go_round
        case rel => exact ⟨k + 1, by omega, by go_num, by rw [step_miss _ (steps_lt k hs) h]; rfl⟩
        case measure => simp [intOf]; omega
    · have e8 : k = 8 := by omega
      subst e8
      go_wp2
      go_ret
      exact ⟨rfl, rfl⟩
end Go.Proofs.Ytbfkacahaocpfaa
