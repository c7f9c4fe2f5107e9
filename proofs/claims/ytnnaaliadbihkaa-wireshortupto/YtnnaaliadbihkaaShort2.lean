/- A round that writes an item, keeps it, and notes where it ends: nothing gets in the other's way. -/
import Derived.Test.YtnnaaliadbihkaaShort
namespace Go.Proofs.Ytnnaaliadbihkaa
open Go.RowKit

theorem at_new {v v' : Value} {n m : Nat} (h : v'.ownBlock = v.ownBlock ∨ v'.ownBlock = some n) (hm : m ≤ n) : v'.ownBlock = v.ownBlock ∨ ∃ g, v'.ownBlock = some g ∧ m ≤ g := by
  rcases h with h | h
  · exact .inl h
  · exact .inr ⟨n, h, hm⟩

theorem short_mid {w wr W0 w2 w3 w4 w5 : World} {vw kv ev : Value} {e sz n : Nat} {xs : List Value} (he : wr.ownsRow (w.heap.size + 1) e sz ev n xs) (dev : Dj ev vw) (dek : Dj ev kv)
    (f0 : Fr (fun _ => False) wr W0) (hf2 : Fr (wrS w.heap.size vw) W0 w2) (f23 : Fr (fun _ => False) w2 w3) (hg4 : w3.grownBy w4 kv.ownBlock) (f45 : Fr (fun _ => False) w4 w5) : w5.ownsRow (w.heap.size + 1) e sz ev n xs :=
  owns_fr (owns_grown (row_kept he dev f0 hf2 f23) hg4 dek) f45 (fun _ _ f => f)

theorem short_step {w wr W0 w2 w3 w4 w5 w6 : World} {vw vw2 kv kv' ev ev' : Value} {M M' : List Nat} {k1 k2 nk nk' e1 e2 ne : Nat} {xk xk' xe : List Value} (hf : Fr (fun _ => False) w wr) (f0 : Fr (fun _ => False) wr W0) (hwr : Wr wr (w.heap.size + 1) w.heap.size vw M)
    (hk : wr.ownsRow (w.heap.size + 1) k1 k2 kv nk xk) (he : wr.ownsRow (w.heap.size + 1) e1 e2 ev ne xe) (dkv : Dj kv vw) (dev : Dj ev vw) (dek : Dj ev kv)
    (hw2 : Wr w2 (w.heap.size + 1) w.heap.size vw2 M') (hf2 : Fr (wrS w.heap.size vw) W0 w2) (hv2 : vw2.ownBlock = vw.ownBlock ∨ ∃ g, vw2.ownBlock = some g ∧ W0.heap.size ≤ g)
    (f23 : Fr (fun _ => False) w2 w3) (hg4 : w3.grownBy w4 kv.ownBlock) (hat4 : kv'.ownBlock = kv.ownBlock ∨ kv'.ownBlock = some w3.heap.size) (hk4 : w4.ownsRow (w.heap.size + 1) k1 k2 kv' nk' xk')
    (f45 : Fr (fun _ => False) w4 w5) (hg6 : w5.grownBy w6 ev.ownBlock) (hat6 : ev'.ownBlock = ev.ownBlock ∨ ev'.ownBlock = some w5.heap.size) :
    Wr w6 (w.heap.size + 1) w.heap.size vw2 M' ∧ w6.ownsRow (w.heap.size + 1) k1 k2 kv' nk' xk' ∧ Dj kv' vw2 ∧ Dj ev' vw2 ∧ Dj ev' kv' ∧ Fr (fun _ => False) w w6 := by
  obtain ⟨S1, S2, S3⟩ := rk_step hf f0 hwr hk dkv hw2 hf2 hv2 f23 hg4 hat4
  have he3 := row_kept he dev f0 hf2 f23
  have dev2 : Dj ev vw2 := dev.grow (owns_fr he f0 (fun _ _ f => f)) hv2
  have dek2 : Dj ev kv' := dek.grow he3 (at_new hat4 (Nat.le_refl _))
  have hw5 := S1.fr f45 (fun f => f) (fun _ _ f => f)
  have hk5 := owns_fr hk4 f45 (fun _ _ f => f)
  have he5 := short_mid he dev dek f0 hf2 f23 hg4 f45
  have fg : Fr (fun k => ev.ownBlock = some k) w5 w6 := (Fr.refl _ w5).grown hg6 (fun _ e _ => e)
  refine ⟨hw5.fr fg (fun e => by have := (he5.lt _ e).1; omega) (fun k hk e => dev2 k e hk), owns_grown hk5 hg6 dek2.symm, S2, ?_, ?_, ?_⟩
  · exact (dev2.symm.grow hw5.own (at_new hat6 (Nat.le_refl _))).symm
  · exact (dek2.symm.grow hk5 (at_new hat6 (Nat.le_refl _))).symm
  · exact (S3.false_trans f45).above fg (fun i hi => by have := (he5.lt i hi).1; omega)
end Go.Proofs.Ytnnaaliadbihkaa
