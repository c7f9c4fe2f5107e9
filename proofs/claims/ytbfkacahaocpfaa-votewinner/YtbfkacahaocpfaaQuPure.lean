
/- Majorities and sets, as numbers. -/
import Derived.Test.YtbfkacahaocpfaaQuKit
namespace Go.Proofs.Ytbfkacahaocpfaa.Qu
open Go.RowKit

def nOk (n : Int) : Bool := decide (1 ≤ n) && decide (n ≤ 7)
def nE (n : Int) : Int := if nOk n = true then 0 else 1
def majN (n : Int) : Int := if nOk n = true then n / 2 + 1 else 0
def sB (n a : Int) : Bool := decide (0 ≤ a) && decide (a < 2 ^ n.toNat)
def lookE (n : Int) (xs : List Int) : Int := if nOk n = true then (if xs.all (sB n) = true then 0 else 4) else 1
def inB (a : Int) (i : Nat) : Bool := a / 2 ^ i % 2 == 1
theorem nOk_yes {n : Int} (h1 : 1 ≤ n) (h2 : n ≤ 7) : nOk n = true := by simp [nOk, h1, h2]
theorem nOk_iff {n : Int} : nOk n = true ↔ 1 ≤ n ∧ n ≤ 7 := by simp [nOk]
theorem sB_iff {n a : Int} : sB n a = true ↔ 0 ≤ a ∧ a < 2 ^ n.toNat := by simp [sB]
theorem pow_le7 {n : Int} (h2 : n ≤ 7) : (2 : Int) ^ n.toNat ≤ 128 := by
  have h : ∀ k : Nat, k < 8 → (2 : Int) ^ k ≤ 128 := by decide
  exact h _ (by omega)
theorem sB_lt {n a : Int} (h2 : n ≤ 7) (h : sB n a = true) : 0 ≤ a ∧ a < 128 := by
  have := sB_iff.1 h
  have := pow_le7 h2
  omega
end Go.Proofs.Ytbfkacahaocpfaa.Qu
