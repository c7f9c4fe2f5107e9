/- A round of a law that writes items with a writer and keeps a second row of bytes beside it: nothing gets in the other's way. -/
import Derived.Test.YtnnaaliadbihkaaRefText
namespace Go.Proofs.Ytnnaaliadbihkaa
open Go.RowKit

/-- The second row stays while the writer writes. -/
theorem want_kept {w wr W0 w2 w3 : World} {vw want : Value} {M : List Nat} (hown : Mine wr (w.heap.size + 1) want M) (hdis : ∀ j, want.ownBlock = some j → vw.ownBlock ≠ some j)
    (f0 : Fr (fun _ => False) wr W0) (hf2 : Fr (wrS w.heap.size vw) W0 w2) (f23 : Fr (fun _ => False) w2 w3) : Mine w3 (w.heap.size + 1) want M := by
  refine ((hown.fr f0 (fun _ _ f => f)).fr hf2 (fun k hk hs => ?_)).fr f23 (fun _ _ f => f)
  rcases hs with h | h
  · have := (hown.lt k hk).1; omega
  · exact hdis k hk h

theorem ww_step {w wr W0 w2 w3 w4 : World} {vw vw' want want' : Value} {M M' : List Nat} (hf : Fr (fun _ => False) w wr) (f0 : Fr (fun _ => False) wr W0) (hwr : Wr wr (w.heap.size + 1) w.heap.size vw M) (hown : Mine wr (w.heap.size + 1) want M)
    (hdis : ∀ j, want.ownBlock = some j → vw.ownBlock ≠ some j) (hw2 : Wr w2 (w.heap.size + 1) w.heap.size vw' M') (hf2 : Fr (wrS w.heap.size vw) W0 w2) (hv2 : vw'.ownBlock = vw.ownBlock ∨ ∃ g, vw'.ownBlock = some g ∧ W0.heap.size ≤ g)
    (f23 : Fr (fun _ => False) w2 w3) (hg : w3.grownBy w4 want.ownBlock) (hat : want'.ownBlock = want.ownBlock ∨ want'.ownBlock = some w3.heap.size) :
    Wr w4 (w.heap.size + 1) w.heap.size vw' M' ∧ (∀ j, want'.ownBlock = some j → vw'.ownBlock ≠ some j) ∧ Fr (fun _ => False) w w4 := by
  have z0 := f0.size
  have z2 := hf2.size
  have z3 := f23.size
  have hd2 : ∀ j, want.ownBlock = some j → vw'.ownBlock ≠ some j := by
    intro j hj e
    rcases hv2 with h | ⟨g, h, hge⟩
    · exact hdis j hj (by rw [← h]; exact e)
    · rw [h] at e
      simp at e
      have := (hown.lt j hj).2
      omega
  have fg : Fr (fun k => want.ownBlock = some k) w3 w4 := (Fr.refl _ w3).grown hg (fun k e _ => e)
  refine ⟨(hw2.fr f23 (fun f => f) (fun _ _ f => f)).fr fg (fun e => by have := (hown.lt _ e).1; omega) (fun k hk e => hd2 k e hk), ?_, ?_⟩
  · intro j hj e
    rcases hat with h | h
    · exact hd2 j (by rw [← h]; exact hj) e
    · rw [h] at hj
      simp at hj
      have := (hw2.own.lt j e).2
      omega
  · have fa : Fr (fun _ => False) w W0 := hf.false_trans f0
    have fb : Fr (fun _ => False) w w2 := fa.above hf2 (fun i hi => hwr.ge hi)
    exact (fb.false_trans f23).above fg (fun i hi => by have := (hown.lt i hi).1; omega)
end Go.Proofs.Ytnnaaliadbihkaa
