
/- FdRGiv2, FdAns, FdSm. -/
import Derived.Test.YthdbkanbgfajbaaGreatTB12
import Derived.Test.YthdbkanbgfajbaaGreatTB11
/- What the document's own Given gives of a map, for a scan. -/
namespace Go.Proofs.YthdbkanbgfajbaaGreat
open Go.RowKit Go.Shelf

theorem filt_yes {L : List En} {k : Nat} {e : En} {p : En → Bool} (h : L[k]? = some e) (hp : p e = true) : (L.take (k + 1)).filter p = (L.take k).filter p ++ [e] := by
  rw [take_snocH h, List.filter_append, List.filter_cons_of_pos hp]; rfl
theorem filt_no {L : List En} {k : Nat} {e : En} {p : En → Bool} (h : L[k]? = some e) (hp : p e = false) : (L.take (k + 1)).filter p = (L.take k).filter p := by
  rw [take_snocH h, List.filter_append, List.filter_cons_of_neg (by simp [hp])]; simp
end Go.Proofs.YthdbkanbgfajbaaGreat

/- Answer: what an operation gives of entries, or why nothing. -/
namespace Go.Proofs.YthdbkanbgfajbaaGreat
open Go.RowKit Go.Shelf

def rs0 : Rs := ⟨false, ⟨#[]⟩, []⟩
def AnsOut (w : World) (r : Rs) (err : Int) (e : Ending) (w' : World) : Prop := ∃ a c, e = .returned (.tuple #[.agg #[.bool r.found, .string r.val, .slice a r.ents.length c], .int .i64 err]) ∧ Ens w' a c r.ents ∧ (∀ b off, a = some ⟨b, off, none⟩ → w.heap.size ≤ b) ∧ Fr (fun _ => False) w w'
def ansR (L : List En) (o : Opn) : Rs := if mapB L = true ∧ kindB o.kind = true then givF o L else rs0
def ansE (L : List En) (o : Opn) : Int := if mapB L = false then 4 else if kindB o.kind = false then 1 else 0
theorem two_new (w : World) (A B : Obj) : ((w.alloc A).alloc B).heap[w.heap.size]? = some A ∧ ((w.alloc A).alloc B).heap[w.heap.size + 1]? = some B := by
  refine ⟨?_, ?_⟩
  · exact ((Fr.refl (fun _ => False) _).alloc _).blk (heap_alloc_new w _) (fun f => f)
  · have h1 := heap_alloc_new (w.alloc A) B
    rwa [show (w.alloc A).heap.size = w.heap.size + 1 by simp] at h1
theorem set_fr (W : World) (B : Nat) (u0 u1 u2 : Value) : Fr (fun q => q = B) W (((W.setCell ⟨B, 0, none⟩ u0).setCell ⟨B, 1, none⟩ u1).setCell ⟨B, 2, none⟩ u2) := (((Fr.refl (fun q => q = B) W).setCell (p := ⟨B, 0, none⟩) (fun _ => rfl) _).setCell (p := ⟨B, 1, none⟩) (fun _ => rfl) _).setCell (p := ⟨B, 2, none⟩) (fun _ => rfl) _
end Go.Proofs.YthdbkanbgfajbaaGreat

/- Whether two results are the same. -/
namespace Go.Proofs.YthdbkanbgfajbaaGreat
open Go.RowKit Go.Shelf

/-- Whether two results are the same. -/
def sameB (r x : Rs) : Bool := (r.found == x.found) && ((r.val.toList == x.val.toList) && decide (r.ents = x.ents))
theorem sameB_just {o : Opn} {L : List En} {x : Rs} (hk : o.kind = 4) (hl : ∀ e ∈ L, lookB o e.1 = true) (h : justB L x.ents = false) : sameB (givF o L) x = false := by
  rw [givF_scan hk]
  unfold sameB
  have hf : L.filter (fun e => lookB o e.1) = L := filter_all hl
  rw [hf]
  by_cases he : L = x.ents
  · exfalso
    rw [← he] at h
    unfold justB at h
    rw [allB_yes (fun e h => h)] at h
    simp at h
  · dsimp only
    rw [decide_eq_false he]
    simp
end Go.Proofs.YthdbkanbgfajbaaGreat
