
/- Both tables side by side. -/
import Derived.Test.YtfmjefmocenkbaaSsRs
namespace Go.Proofs.Ytfmjefmocenkbaa
open Go.RowKit

structure Bo (w wr : World) (S R : Nat → Prop) (tb rb : Nat) (L : Wt) (D : List Int) (k : Nat) : Prop where
  tb : Tb wr S tb L D
  rt : ∃ la lc da dc, Rt wr R rb L D la lc da dc
  len : L.length ≤ 1024
  sum : L.length + D.length ≤ k
  dis : ∀ p ∈ L, p.1 ∉ D
  sep : ∀ i, S i → ¬ R i
  newS : ∀ i, S i → w.heap.size ≤ i
  newR : ∀ i, R i → w.heap.size ≤ i
  fr : Fr (fun _ => False) w wr
variable {w wr w4 w' : World} {S R : Nat → Prop} {tb rb : Nat} {L : Wt} {D : List Int} {k : Nat}
theorem Bo.ltR (h : Bo w wr S R tb rb L D k) : ∀ i, R i → i < wr.heap.size := by obtain ⟨la, lc, da, dc, h1⟩ := h.rt; exact h1.lt
theorem Bo.same (h : Bo w wr S R tb rb L D k) (f : Fr (fun _ => False) wr w') : Bo w w' S R tb rb L D k := by
  obtain ⟨la, lc, da, dc, h1⟩ := h.rt
  exact ⟨h.tb.same f, ⟨la, lc, da, dc, h1.same f⟩, h.len, h.sum, h.dis, h.sep, h.newS, h.newR, h.fr.seq' f⟩
theorem Bo.more (h : Bo w wr S R tb rb L D k) : Bo w wr S R tb rb L D (k + 1) := ⟨h.tb, h.rt, h.len, by have := h.sum; omega, h.dis, h.sep, h.newS, h.newR, h.fr⟩
theorem wa_len (hL : L.length ≤ 1024) (r l : Int) : (waL L D r l).length ≤ L.length + 1 ∧ (waL L D r l).length ≤ 1024 := by
  unfold waL
  split
  · rename_i he
    rw [ins_len]
    refine ⟨by omega, ?_⟩
    unfold waE at he
    split at he
    · split at he
      · split at he
        · cases he
        · omega
      · cases he
    · cases he
  · omega
theorem wa_dis (hd : ∀ p ∈ L, p.1 ∉ D) (r l : Int) : ∀ p ∈ waL L D r l, p.1 ∉ D := by
  intro p hp
  unfold waL at hp
  split at hp
  · rename_i he
    rcases List.mem_cons.1 ((ins_perm (r, l) L).mem_iff.1 hp) with rfl | hp
    · intro hd
      unfold waE at he
      split at he
      · split at he
        · rename_i hs
          unfold stN at hs
          split at hs
          · cases hs
          · cases hs
        · cases he
      · cases he
    · exact hd p hp
  · exact hd p hp
theorem Bo.wait (h : Bo w wr S R tb rb L D k) {r l : Int} (hw : WaO wr S tb L D r l w4) (hr : RwO w4 R rb (waL L D r l) D w') : ∃ S' R', Bo w w' S' R' tb rb (waL L D r l) D (k + 1) := by
  obtain ⟨S', h1, h2, h3⟩ := hw
  obtain ⟨R', la, lc, da, dc, k1, k2, k3⟩ := hr
  have hl := wa_len (D := D) h.len r l
  have hR := h.ltR
  have hs := h3.size
  have hd4 : ∀ i, S' i → ¬ R i := fun i hi hr => by
    rcases h1 i hi with h4 | h4
    · exact h.sep i h4 hr
    · have := hR i hr; omega
  refine ⟨S', R', h2.fr k3 hd4, ⟨la, lc, da, dc, k2⟩, hl.2, by have := h.sum; omega, wa_dis h.dis r l, fun i hi hr => ?_, fun i hi => ?_, fun i hi => ?_, (h.fr.trans h3 (fun i hi e => by have := h.newS i e; omega)).trans k3 (fun i hi e => by have := h.newR i e; omega)⟩
  · rcases k1 i hr with h5 | h5
    · exact hd4 i hi h5
    · have := h2.lt i hi; omega
  · rcases h1 i hi with h4 | h4
    · exact h.newS i h4
    · have := h.fr.size; omega
  · rcases k1 i hi with h4 | h4
    · exact h.newR i h4
    · have := h.fr.size; omega
theorem Bo.turn (h : Bo w wr S R tb rb L D k) {L' : Wt} {D' ts : List Int} {v : Value} (ht : Tb w4 S tb L' D') (f : Fr S wr w4) (hr : RsO w4 R rb L' D' ts v w') (h1 : L'.length ≤ 1024) (h2 : L'.length + D'.length ≤ k + 1) (h3 : ∀ p ∈ L', p.1 ∉ D') : ∃ R', Bo w w' S R' tb rb L' D' (k + 1) := by
  obtain ⟨p, q, R', la, lc, da, dc, _, _, k1, k2, k3⟩ := hr
  have hs := f.size
  refine ⟨R', ht.fr k3 h.sep, ⟨la, lc, da, dc, k2⟩, h1, h2, h3, fun i hi hr => ?_, h.newS, fun i hi => ?_, (h.fr.trans f (fun i hi e => by have := h.newS i e; omega)).trans k3 (fun i hi e => by have := h.newR i e; omega)⟩
  · rcases k1 i hr with h5 | h5
    · exact h.sep i hi h5
    · have := ht.lt i hi; omega
  · rcases k1 i hi with h4 | h4
    · exact h.newR i h4
    · have := h.fr.size; omega
theorem settle_facts (hL : Ok L) (h1 : L.length ≤ 1024) (h2 : L.length + D.length ≤ k) (hd : ∀ p ∈ L, p.1 ∉ D) (c : Int) : (rsL c L).length ≤ 1024 ∧ (rsL c L).length + (D ++ tkR c L).length ≤ k + 1 ∧ ∀ p ∈ rsL c L, p.1 ∉ D ++ tkR c L := by
  have hl := tk_len c L
  refine ⟨by omega, by rw [List.length_append]; omega, fun p hp hm => ?_⟩
  have hpL := (List.mem_filter.1 hp).1
  rcases List.mem_append.1 hm with hm | hm
  · exact hd p hpL hm
  · have h1 := lk_rs hL c p.1
    rw [if_pos hm, lk_of (rs_ok hL c).nd hp] at h1
    cases h1
end Go.Proofs.Ytfmjefmocenkbaa
