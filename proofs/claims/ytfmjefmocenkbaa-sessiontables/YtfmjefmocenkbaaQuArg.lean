
/- Numbers that came in. -/
import Derived.Test.YtfmjefmocenkbaaQuKit
import Derived.Test.YtfmjefmocenkbaaArgs
import Derived.ChangeSlices
namespace Go.Proofs.Ytfmjefmocenkbaa
open Go.ChangeShapes Go.WideShapes Go.ChangeAt Go.RowKit

theorem pcellsI : Try.prog.cellsOf 3 = 1 := by kernel_rfl
def wfI (x : Int) : Prop := (Lit.int .i64 x).wf = true
theorem wfI.range {x : Int} (h : wfI x) : -9223372036854775808 ≤ x ∧ x ≤ 9223372036854775807 := by
  unfold wfI Lit.wf at h
  simp at h
  have e1 : IntKind.i64.min = -9223372036854775808 := rfl
  have e2 : IntKind.i64.max = 9223372036854775807 := rfl
  omega
theorem ints_open {H : Type} {enc : TypeId × Value → H} {w : World} {fuel len cap : Nat} {a : Option Addr} {d : DataW H} {p : List MemPlace}
    (h : DataW.trod enc Try.prog w 0 (fun _ => true) true fuel 27 [.slice a len cap] = some (d, p)) (hz : ∀ z ∈ d.weights Try.prog 27, z ≤ reachBytes) :
    ∃ xs : List Int, len = xs.length ∧ xs.length ≤ 17592186043904 ∧ Is w a cap xs ∧ ∀ x ∈ xs, wfI x := by
  rcases open_ints Try.underlying27 Try.underlying3 pcellsI h with ⟨hcs, hx⟩ | ⟨x, l, c, zs, hcs, _, hl, hm, hlen, hx, hc, hw⟩
  · simp at hcs
    obtain ⟨rfl, rfl, rfl⟩ := hcs
    exact ⟨[], rfl, by simp, Is.nil _ _, fun x h => by cases h⟩
  · simp at hcs
    obtain ⟨rfl, rfl, rfl⟩ := hcs
    simp only [if_true] at hlen
    have hd : d = .slice (lits .i64 (zs.take len)) (lits .i64 (zs.drop len)) := by simpa using congrArg Prod.fst hx
    have htl : (zs.take len).length = len := by rw [List.length_take]; omega
    have hb : Try.prog.bytesOf 3 = 8 := by kernel_rfl
    have hlb : len ≤ 17592186043904 := by
      rw [hd] at hz
      simp only [DataW.weights, Try.underlying27] at hz
      have h0 := hz _ (List.mem_cons_self ..)
      rw [hb] at h0
      simp [reachBytes, lits] at h0
      omega
    refine ⟨zs.take len, htl.symm, by omega, ⟨by omega, by unfold maxLen at hm; exact hm, ?_⟩, fun y hy => hw y (List.mem_of_mem_take hy)⟩
    by_cases h0 : len = 0
    · exact .inl (by rw [h0]; rfl)
    · have hc0 := hc 0 (by omega)
      obtain ⟨bk, off, k⟩ := x
      have hk : k = none := by
        have : len ≠ 0 := h0
        cases k with
        | none => rfl
        | some k =>
          simp [World.cell?, Addr.add] at hc0
          split at hc0 <;> cases hc0
      subst hk
      refine .inr ⟨bk, off, rfl, ?_, fun i y hy => ?_⟩
      · exact World.block_lt_of_cell? w _ hc0
      · obtain ⟨hi, he⟩ := List.getElem?_eq_some_iff.1 hy
        have hi' : i < zs.length := by omega
        have := hc i hi'
        rw [show zs.getD i 0 = y by rw [List.getD_eq_getElem?_getD, List.getElem?_eq_getElem hi']; simpa using he] at this
        by_cases hi0 : i = 0
        · subst hi0
          simpa [Addr.add] using this
        · simpa [Addr.add, hi0] using this
end Go.Proofs.Ytfmjefmocenkbaa
