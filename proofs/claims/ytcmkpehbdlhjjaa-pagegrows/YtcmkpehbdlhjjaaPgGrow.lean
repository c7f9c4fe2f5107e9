
/- A right node less its last entry. -/
import Derived.Test.YtcmkpehbdlhjjaaPgSpeak
import Derived.Test.YtcmkpehbdlhjjaaPgRef3
namespace Go.Proofs.Ytcmkpehbdlhjjaa
open Go.RowKit

def smL (n : Nd) (j : Nat) : Nd := { n with keys := n.keys.take j, vals := n.vals.take j }
def smI (n : Nd) (j : Nat) : Nd := { n with keys := n.keys.take j, kids := n.kids.take (j + 1) }
theorem getD_take' {α : Type} (l : List α) (j i : Nat) (d : α) (h : i < j) : (l.take j).getD i d = l.getD i d := by
  rw [List.getD_eq_getElem?_getD, List.getD_eq_getElem?_getD, List.getElem?_take_of_lt h]
theorem keys_take {n : Nd} (h : ∀ i, i < n.keys.length → kok n.high n.keys i) (j : Nat) : ∀ i, i < (n.keys.take j).length → kok n.high (n.keys.take j) i := by
  intro i hi
  rw [List.length_take] at hi
  have h1 := h i (by omega)
  unfold kok at h1 ⊢
  rw [getD_take' _ _ _ _ (by omega), getD_take' _ _ _ _ (by omega)]
  exact h1
theorem tsz_last (l : List ByteArray) (j : Nat) (h : l.length = j + 1) : tsz l = tsz (l.take j) + ((l.getD j ByteArray.empty).size + 2) := by
  have := tsz_snoc l j (by omega)
  rwa [List.take_of_length_le (by omega)] at this
theorem smL_size {n : Nd} {j : Nat} (r : Rt n) (h0 : n.lev = 0) (hj : n.keys.length = j + 1) : sizeN n = sizeN (smL n j) + (((n.keys.getD j ByteArray.empty).size + 2) + ((n.vals.getD j ByteArray.empty).size + 2)) := by
  have hv := (r.leaf h0).1
  unfold sizeN smL
  rw [if_pos h0, if_pos h0, tsz_last n.keys j hj, tsz_last n.vals j (by omega)]
  simp only []; omega
theorem smI_size {n : Nd} {j : Nat} (r : Rt n) (h0 : ¬ n.lev = 0) (hj : n.keys.length = j + 1) : sizeN n = sizeN (smI n j) + (((n.keys.getD j ByteArray.empty).size + 2) + 4) := by
  have hv := (r.inner h0).1
  unfold sizeN smI
  rw [if_neg h0, if_neg h0, tsz_last n.keys j hj]
  simp only [List.length_take]; omega
theorem smL_right {n : Nd} {j : Nat} (r : Rt n) (h0 : n.lev = 0) (hj : n.keys.length = j + 1) : Rt (smL n j) := by
  have hs := smL_size r h0 hj
  obtain ⟨hv, hk, hx⟩ := r.leaf h0
  refine ⟨r.lev0, r.lev1, r.lsn0, r.lsn1, r.rgt0, r.rgt1, r.high, keys_take r.keys j, fun _ => ⟨?_, hk, ?_⟩, fun h => (h h0).elim, by have := r.size; omega⟩
  · simp only [smL, List.length_take]; omega
  · intro i hi
    simp only [smL, List.length_take] at hi ⊢
    rw [getD_take' _ _ _ _ (by omega)]
    exact hx i (by omega)
theorem smI_right {n : Nd} {j : Nat} (r : Rt n) (h0 : ¬ n.lev = 0) (hj : n.keys.length = j + 1) : Rt (smI n j) := by
  have hs := smI_size r h0 hj
  obtain ⟨hv, hk, hx⟩ := r.inner h0
  refine ⟨r.lev0, r.lev1, r.lsn0, r.lsn1, r.rgt0, r.rgt1, r.high, keys_take r.keys j, fun h => (h0 h).elim, fun _ => ⟨?_, hk, ?_⟩, by have := r.size; omega⟩
  · simp only [smI, List.length_take]; omega
  · intro i hi
    simp only [smI, List.length_take] at hi ⊢
    rw [getD_take' _ _ _ _ (by omega)]
    exact hx i (by omega)
theorem Strs.take {w : World} {a : Option Addr} {cap : Nat} {l : List ByteArray} (h : Strs w a cap l) (j : Nat) : Strs w a cap (l.take j) := by
  obtain ⟨h1, h2, h3, h4⟩ := h
  refine ⟨by rw [List.length_take]; omega, h2, fun s hs => h3 s (List.mem_of_mem_take hs), ?_⟩
  rcases h4 with h4 | ⟨b, off, ha, hb, hc⟩
  · exact .inl (by rw [h4]; simp)
  · refine .inr ⟨b, off, ha, hb, fun i hi => ?_⟩
    rw [List.length_take] at hi
    rw [getD_take' _ _ _ _ (by omega)]
    exact hc i (by omega)
theorem Ints.take {w : World} {a : Option Addr} {cap : Nat} {l : List Int} (h : Ints w a cap l) (j : Nat) : Ints w a cap (l.take j) := by
  obtain ⟨h1, h2, h4⟩ := h
  refine ⟨by rw [List.length_take]; omega, h2, ?_⟩
  rcases h4 with h4 | ⟨b, off, ha, hb, hc⟩
  · exact .inl (by rw [h4]; simp)
  · refine .inr ⟨b, off, ha, hb, fun i hi => ?_⟩
    rw [List.length_take] at hi
    rw [getD_take' _ _ _ _ (by omega)]
    exact hc i (by omega)
theorem Nod.smL {w : World} {n : Nd} {p : Pt} (h : Nod w n p) (j : Nat) : Nod w (smL n j) p :=
  ⟨h.keys.take j, h.vals.take j, h.kids, h.high, (fun s hs => h.ksz s (List.mem_of_mem_take hs)), (fun s hs => h.vsz s (List.mem_of_mem_take hs)), by have := h.klen; show (n.keys.take j).length ≤ _; rw [List.length_take]; omega, by have := h.vlen; show (n.vals.take j).length ≤ _; rw [List.length_take]; omega, h.ilen⟩
theorem Nod.smI {w : World} {n : Nd} {p : Pt} (h : Nod w n p) (j : Nat) : Nod w (smI n j) p :=
  ⟨h.keys.take j, h.vals, h.kids.take (j + 1), h.high, (fun s hs => h.ksz s (List.mem_of_mem_take hs)), h.vsz, by have := h.klen; show (n.keys.take j).length ≤ _; rw [List.length_take]; omega, h.vlen, by have := h.ilen; show (n.kids.take (j + 1)).length ≤ _; rw [List.length_take]; omega⟩
theorem alloc_cell (w : World) (C : Array Value) {b : Nat} (hb : b < w.heap.size) (k : Nat) : (w.alloc (.cells C 25)).cell? ⟨b, k, none⟩ = w.cell? ⟨b, k, none⟩ :=
  (Fr.box w (.cells C 25)).cell (p := ⟨b, k, none⟩) hb (fun f => f)
theorem blk_froz {w : World} {b : Nat} {C : Array Value} {t : TypeId} (h : w.heap[b]? = some (.cells C t (0, 0))) (k : Nat) : w.frozen? ⟨b, k, none⟩ = false := by
  simp [World.frozen?, h]
theorem set_cell_ne (w : World) (g j : Nat) (x : Value) {b : Nat} (hb : b ≠ g) (k : Nat) : (w.setCell ⟨g, j, none⟩ x).cell? ⟨b, k, none⟩ = w.cell? ⟨b, k, none⟩ := by
  have : (w.setCell ⟨g, j, none⟩ x).heap[b]? = w.heap[b]? := by
    show (w.heap.modify g _)[b]? = _
    rw [Array.getElem?_modify]; simp [Ne.symm hb]
  simp only [World.cell?, this]
theorem epage_rt {n : Nd} (r : Rt n) : epage n = 0 := epage_yes ((right_iff n).2 r)
theorem sz_rt {n : Nd} (r : Rt n) : wrap64 (sizeN n : Nat) = (sizeN n : Int) := wrap_id (by have := r.size; omega)
end Go.Proofs.Ytcmkpehbdlhjjaa
