
/- latticelaw01.speaks answers true. -/
import Derived.Test.YtbfkacahaocpfaaText
import Derived.Test.YtbfkacahaocpfaaRead3
import Derived.Test.YtbfkacahaocpfaaRefNum
namespace Go.Proofs.Ytbfkacahaocpfaa
open Go.RowKit

theorem Wr.ge {w : World} {base wb : Nat} {v : Value} {l : List Nat} (h : Wr w base wb v l) {k : Nat} (hk : wrS wb v k) : wb ≤ k := by
  rcases hk with rfl | hk
  · exact Nat.le_refl _
  · have := (h.own.lt k hk).1; have := h.low; omega
theorem Wr.lt {w : World} {base wb : Nat} {v : Value} {l : List Nat} (h : Wr w base wb v l) {k : Nat} (hk : wrS wb v k) : k < w.heap.size := by
  rcases hk with rfl | hk
  · exact lt_of_block h.box
  · exact (h.own.lt k hk).2
/-- What writes only blocks that are new to 'a' leaves all of 'a'. -/
theorem Fr.above {a b c : World} {S : Nat → Prop} (h : Fr (fun _ => False) a b) (k : Fr S b c) (hS : ∀ i, S i → a.heap.size ≤ i) : Fr (fun _ => False) a c :=
  h.trans k (fun i hi s => by have := hS i s; omega)

theorem octs_app {l m : List Nat} (hl : octs l) (hm : octs m) : octs (l ++ m) := fun x hx => by
  rcases List.mem_append.mp hx with h | h
  · exact hl x h
  · exact hm x h

end Go.Proofs.Ytbfkacahaocpfaa
