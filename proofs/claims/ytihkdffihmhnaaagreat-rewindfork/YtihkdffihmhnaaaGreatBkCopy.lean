
/- Copies of pages. -/
import Derived.Test.YtihkdffihmhnaaaGreatBB32
import Derived.Deep.DeepCutAuto
namespace Go.Proofs.YtihkdffihmhnaaaGreat
open Go.RowKit Go.Lib

/-- A node that may be copied. -/
def Smal (n : Nd) : Prop := Short n ∧ n.keys.length ≤ 100000 ∧ n.vals.length ≤ 100000 ∧ n.kids.length ≤ 100000
theorem rt_smal {n : Nd} (h : Rt n) : Smal n := ⟨rt_short3 h, rt_few h⟩
end Go.Proofs.YtihkdffihmhnaaaGreat
