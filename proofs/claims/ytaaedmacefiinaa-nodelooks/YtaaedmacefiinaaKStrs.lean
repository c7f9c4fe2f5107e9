
/- Lists of texts in memory. -/
import Derived.Test.YtaaedmacefiinaaBase
namespace Go.Proofs.Ytaaedmacefiinaa
open Go.RowKit

/-- A slice of texts as a walk sees it. -/
structure Strs (w : World) (a : Option Addr) (cap : Nat) (l : List ByteArray) : Prop where
  le : l.length ≤ cap
  max : cap ≤ 9223372036854775807
  text : ∀ s ∈ l, s.size ≤ maxLen
  at_ : l = [] ∨ ∃ b off, a = some ⟨b, off, none⟩ ∧ b < w.heap.size ∧ ∀ i, i < l.length → w.cell? ⟨b, off + i, none⟩ = some (.string (l.getD i ByteArray.empty))
theorem Strs.fr {S : Nat → Prop} {w w' : World} {a : Option Addr} {cap : Nat} {l : List ByteArray} (h : Strs w a cap l) (f : Fr S w w') (hn : ∀ b, b < w.heap.size → (∃ o, a = some ⟨b, o, none⟩) → ¬ S b) : Strs w' a cap l := by
  refine ⟨h.le, h.max, h.text, ?_⟩
  rcases h.at_ with h0 | ⟨b, off, ha, hb, hc⟩
  · exact .inl h0
  · refine .inr ⟨b, off, ha, Nat.lt_of_lt_of_le hb f.size, fun i hi => ?_⟩
    rw [f.cell (p := ⟨b, off + i, none⟩) hb (hn b hb ⟨off, ha⟩)]
    exact hc i hi
theorem Strs.same {w w' : World} {a : Option Addr} {cap : Nat} {l : List ByteArray} (h : Strs w a cap l) (f : Fr (fun _ => False) w w') : Strs w' a cap l := h.fr f (fun _ _ _ f => f)
theorem strs_get {l : List ByteArray} {i : Nat} (h : i < l.length) : l.getD i ByteArray.empty ∈ l := by
  rw [List.getD_eq_getElem?_getD, List.getElem?_eq_getElem h]; exact List.getElem_mem h
end Go.Proofs.Ytaaedmacefiinaa
