
/- What (*Writer).Text does. -/
import Derived.Test.YtbfkacahaocpfaaWire
import Derived.Test.YtbfkacahaocpfaaAppStr
namespace Go.Proofs.Ytbfkacahaocpfaa
open Go.RowKit

/-- What the last store of Text makes of the writer. -/
theorem Wr.put {w w1 : World} {base wb : Nat} {v v' : Value} {l m : List Nat} (h : Wr w base wb v l) (hg : w.grownBy w1 v.ownBlock) (hown : Mine w1 base v' m) : Wr (w1.setCell ⟨wb, 0, none⟩ v') base wb v' m := by
  have hlt := lt_of_block h.box
  have hne : some wb ≠ v.ownBlock := fun e => by have := (h.own.lt wb e.symm).1; have := h.low; omega
  have hb : w1.heap[wb]? = some (.cells #[v] 96 (0, 0)) := by rw [hg.block wb hlt hne]; exact h.box
  exact ⟨one_setCell hb, h.low, ownsRow_setCell_below hown h.low v'⟩

end Go.Proofs.Ytbfkacahaocpfaa
