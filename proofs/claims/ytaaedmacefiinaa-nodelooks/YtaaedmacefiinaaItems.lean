
/- A slice of items that came in: what lies in memory. -/
import Derived.Test.YtaaedmacefiinaaArgs
import Derived.Deep.Strs
namespace Go.Proofs.Ytaaedmacefiinaa
open Go.ChangeShapes Go.WideShapes Go.ChangeAt Go.RowKit Go.Deep

/-- An item: a number, a size, a text. -/
abbrev It : Type := Int × Int × ByteArray
def itD : It := (0, 0, ByteArray.empty)
def itCells (x : It) : List Value := [.int .i64 x.1, .int .i64 x.2.1, .string x.2.2]
def itWf (x : It) : Prop := (-9223372036854775808 ≤ x.1 ∧ x.1 ≤ 9223372036854775807) ∧ (-9223372036854775808 ≤ x.2.1 ∧ x.2.1 ≤ 9223372036854775807)

structure Items (w : World) (a : Option Addr) (cap : Nat) (its : List It) : Prop where
  le : its.length ≤ cap
  max : cap ≤ 9223372036854775807
  wf : ∀ i, i < its.length → itWf (its.getD i itD)
  at_ : its = [] ∨ ∃ b off, a = some ⟨b, off, none⟩ ∧ b < w.heap.size ∧ ∀ i, i < its.length →
    w.cell? ⟨b, off + i * 3, none⟩ = some (.int .i64 (its.getD i itD).1) ∧ w.cell? ⟨b, off + i * 3 + 1, none⟩ = some (.int .i64 (its.getD i itD).2.1) ∧ w.cell? ⟨b, off + i * 3 + 2, none⟩ = some (.string (its.getD i itD).2.2)

theorem Items.same {w w' : World} {a : Option Addr} {cap : Nat} {its : List It} (h : Items w a cap its) (f : Fr (fun _ => False) w w') : Items w' a cap its := by
  refine ⟨h.le, h.max, h.wf, ?_⟩
  rcases h.at_ with h0 | ⟨b, off, rfl, hb, hc⟩
  · exact .inl h0
  · refine .inr ⟨b, off, rfl, Nat.lt_of_lt_of_le hb f.size, fun i hi => ?_⟩
    obtain ⟨h1, h2, h3⟩ := hc i hi
    exact ⟨(f.cell hb (fun x => x)).trans h1, (f.cell hb (fun x => x)).trans h2, (f.cell hb (fun x => x)).trans h3⟩

/-- What an item reads as. -/
def itData {H : Type} (x : It) : DataW H := .agg [.lit (.int .i64 x.1), .lit (.int .i64 x.2.1), .lit (.string x.2.2.data.toList)]

end Go.Proofs.Ytaaedmacefiinaa
