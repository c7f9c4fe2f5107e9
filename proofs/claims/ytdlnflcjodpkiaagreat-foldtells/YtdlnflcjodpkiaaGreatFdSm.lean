
/- Whether two results are the same. -/
import Derived.Test.YtdlnflcjodpkiaaGreatFdGvs
import Derived.Test.YtdlnflcjodpkiaaGreatFdAns
namespace Go.Proofs.YtdlnflcjodpkiaaGreat
open Go.RowKit Go.Shelf

/-- Whether two results are the same. -/
def sameB (r x : Rs) : Bool := (r.found == x.found) && ((r.val.toList == x.val.toList) && decide (r.ents = x.ents))
theorem sameB_just {o : Opn} {L : List En} {x : Rs} (hk : o.kind = 4) (hl : ∀ e ∈ L, lookB o e.1 = true) (h : justB L x.ents = false) : sameB (givF o L) x = false := by
  rw [givF_scan hk]
  unfold sameB
  have hf : L.filter (fun e => lookB o e.1) = L := filter_all hl
  rw [hf]
  by_cases he : L = x.ents
  · exfalso
    rw [← he] at h
    unfold justB at h
    rw [allB_yes (fun e h => h)] at h
    simp at h
  · dsimp only
    rw [decide_eq_false he]
    simp
end Go.Proofs.YtdlnflcjodpkiaaGreat
