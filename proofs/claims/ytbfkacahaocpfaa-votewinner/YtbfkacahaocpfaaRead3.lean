
/- What (*Reader).Text does. -/
import Derived.Test.YtbfkacahaocpfaaRead2
namespace Go.Proofs.Ytbfkacahaocpfaa
open Go.RowKit

theorem row_none (w : World) (a : Option Addr) : Row w a 0 [] := ⟨Nat.le_refl _, by omega, by simp, (fun x hx => by cases hx), .inl rfl⟩
theorem val2_lt {l : List Nat} (h : octs l) : val (l.take 2) < 65536 := by
  have h1 := val_lt (octs_take h 2)
  have h2 : 256 ^ (l.take 2).length ≤ 256 ^ 2 := Nat.pow_le_pow_right (by omega) (List.length_take_le _ _)
  omega

end Go.Proofs.Ytbfkacahaocpfaa
