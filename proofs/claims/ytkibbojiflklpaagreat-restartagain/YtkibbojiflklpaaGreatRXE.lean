
/- BkCopy, BkOf, BkWith, BkNil, BkDo. -/
import Derived.Test.YtkibbojiflklpaaGreatBB32
import Derived.Deep.DeepCutAuto
import Derived.Test.YtkibbojiflklpaaGreatRXD
/- Copies of pages. -/
namespace Go.Proofs.YtkibbojiflklpaaGreat
open Go.RowKit Go.Lib

/-- A node that may be copied. -/
def Smal (n : Nd) : Prop := Short n ∧ n.keys.length ≤ 100000 ∧ n.vals.length ≤ 100000 ∧ n.kids.length ≤ 100000
theorem rt_smal {n : Nd} (h : Rt n) : Smal n := ⟨rt_short3 h, rt_few h⟩
end Go.Proofs.YtkibbojiflklpaaGreat

/- New and Of. -/
namespace Go.Proofs.YtkibbojiflklpaaGreat
open Go.RowKit

theorem lv_right {ls : List Sl} (h : (leavesF ls).isSome = true) : ariB 0 (psOf ls) = true := by
  cases h1 : ariB 0 (psOf ls)
  · unfold leavesF at h
    rw [h1] at h
    simp at h
  · rfl
/-- The greatest LSN is that of the nodes. -/
theorem maxL_ps {l m : List Sl} (h : psOf l = psOf m) : maxL l = maxL m := by
  have key : ∀ l : List Sl, ∀ x : Int, l.foldl (fun m s => mx m s.nd.lsn) x = (psOf l).foldl (fun m p => mx m p.2.lsn) x := by
    intro l
    induction l with
    | nil => intro x; rfl
    | cons s l ih => intro x; simp only [List.foldl_cons, psOf, List.map_cons]; exact ih _
  unfold maxL
  rw [key, key, h]
theorem has_slot (w : World) (s : Sl) (t : TypeId) : Has (w.alloc (.cells #[.int .i64 s.page, .int .i64 s.nd.lev, .int .i64 s.nd.lsn, .int .i64 s.nd.rgt, .string s.nd.high, .slice s.pt.k s.nd.keys.length s.pt.kc, .slice s.pt.v s.nd.vals.length s.pt.vc, .slice s.pt.i s.nd.kids.length s.pt.ic] t)) 8 (.slice (some ⟨w.heap.size, 0, none⟩) 1 1) 1 (slC s) := by
  have hb := heap_alloc_new w (.cells #[.int .i64 s.page, .int .i64 s.nd.lev, .int .i64 s.nd.lsn, .int .i64 s.nd.rgt, .string s.nd.high, .slice s.pt.k s.nd.keys.length s.pt.kc, .slice s.pt.v s.nd.vals.length s.pt.vc, .slice s.pt.i s.nd.kids.length s.pt.ic] t)
  exact ⟨rfl, .inr ⟨_, _, rfl, by simp, Nat.le_refl _, by unfold maxLen; omega, there_block hb (by simp), range_block hb (fun j v hv => by rw [Nat.zero_add]; simpa [slC] using hv)⟩⟩
end Go.Proofs.YtkibbojiflklpaaGreat

/- Pages with a page's node, where the page is there. -/
namespace Go.Proofs.YtkibbojiflklpaaGreat
open Go.RowKit

end Go.Proofs.YtkibbojiflklpaaGreat

/- A nil tree: do, Say, Pages, Page, Scan. -/
namespace Go.Proofs.YtkibbojiflklpaaGreat
open Go.RowKit

/-- What a tree that takes no records tells of one. -/
def refE (r : Rec) : Int := if erec r = 0 then 6 else erec r
theorem refE_no (r : Rec) : refE r ≠ 0 := by unfold refE; split <;> omega
theorem erec_two (r : Rec) : erec r = 0 ∨ erec r = 90 := by
  cases h : rok r
  · exact .inr (erec_no h)
  · exact .inl (erec_yes h)
theorem cells_set {W : World} {B : Nat} {cs : Array Value} {t : TypeId} (h : W.heap[B]? = some (.cells cs t (0, 0))) (j : Nat) (v : Value) : (W.setCell ⟨B, j, none⟩ v).heap[B]? = some (.cells (cs.setIfInBounds j v) t (0, 0)) := by
  obtain ⟨hlt, he⟩ := Array.getElem?_eq_some_iff.1 h
  show (W.heap.modify B _)[B]? = _
  rw [Array.getElem?_eq_getElem (by rw [Array.size_modify]; exact hlt), Array.getElem_modify_self, he]
  rfl
theorem fin8 {W : World} {B : Nat} {t : TypeId} {r0 r1 r2 r3 r4 r5 r6 r7 : Value} (h : W.heap[B]? = some (.cells #[r0, r1, r2, r3, r4, r5, r6, r7] t (0, 0))) (v0 v1 v2 v3 v4 v5 v6 v7 : Value) :
    ((((((((W.setCell ⟨B, 0, none⟩ v0).setCell ⟨B, 1, none⟩ v1).setCell ⟨B, 2, none⟩ v2).setCell ⟨B, 3, none⟩ v3).setCell ⟨B, 4, none⟩ v4).setCell ⟨B, 5, none⟩ v5).setCell ⟨B, 6, none⟩ v6).setCell ⟨B, 7, none⟩ v7).heap[B]? = some (.cells #[v0, v1, v2, v3, v4, v5, v6, v7] t (0, 0)) ∧ Fr (fun k => k = B) W ((((((((W.setCell ⟨B, 0, none⟩ v0).setCell ⟨B, 1, none⟩ v1).setCell ⟨B, 2, none⟩ v2).setCell ⟨B, 3, none⟩ v3).setCell ⟨B, 4, none⟩ v4).setCell ⟨B, 5, none⟩ v5).setCell ⟨B, 6, none⟩ v6).setCell ⟨B, 7, none⟩ v7) := by
  refine ⟨?_, (((((((((Fr.refl (fun k => k = B) W).setCell (p := ⟨B, 0, none⟩) (fun _ => rfl) v0).setCell (p := ⟨B, 1, none⟩) (fun _ => rfl) v1).setCell (p := ⟨B, 2, none⟩) (fun _ => rfl) v2).setCell (p := ⟨B, 3, none⟩) (fun _ => rfl) v3).setCell (p := ⟨B, 4, none⟩) (fun _ => rfl) v4).setCell (p := ⟨B, 5, none⟩) (fun _ => rfl) v5).setCell (p := ⟨B, 6, none⟩) (fun _ => rfl) v6).setCell (p := ⟨B, 7, none⟩) (fun _ => rfl) v7)⟩
  have h0 : (W.setCell ⟨B, 0, none⟩ v0).heap[B]? = some (.cells #[v0, r1, r2, r3, r4, r5, r6, r7] t (0, 0)) := cells_set h 0 v0
  have h1 : ((W.setCell ⟨B, 0, none⟩ v0).setCell ⟨B, 1, none⟩ v1).heap[B]? = some (.cells #[v0, v1, r2, r3, r4, r5, r6, r7] t (0, 0)) := cells_set h0 1 v1
  have h2 : (((W.setCell ⟨B, 0, none⟩ v0).setCell ⟨B, 1, none⟩ v1).setCell ⟨B, 2, none⟩ v2).heap[B]? = some (.cells #[v0, v1, v2, r3, r4, r5, r6, r7] t (0, 0)) := cells_set h1 2 v2
  have h3 : ((((W.setCell ⟨B, 0, none⟩ v0).setCell ⟨B, 1, none⟩ v1).setCell ⟨B, 2, none⟩ v2).setCell ⟨B, 3, none⟩ v3).heap[B]? = some (.cells #[v0, v1, v2, v3, r4, r5, r6, r7] t (0, 0)) := cells_set h2 3 v3
  have h4 : (((((W.setCell ⟨B, 0, none⟩ v0).setCell ⟨B, 1, none⟩ v1).setCell ⟨B, 2, none⟩ v2).setCell ⟨B, 3, none⟩ v3).setCell ⟨B, 4, none⟩ v4).heap[B]? = some (.cells #[v0, v1, v2, v3, v4, r5, r6, r7] t (0, 0)) := cells_set h3 4 v4
  have h5 : ((((((W.setCell ⟨B, 0, none⟩ v0).setCell ⟨B, 1, none⟩ v1).setCell ⟨B, 2, none⟩ v2).setCell ⟨B, 3, none⟩ v3).setCell ⟨B, 4, none⟩ v4).setCell ⟨B, 5, none⟩ v5).heap[B]? = some (.cells #[v0, v1, v2, v3, v4, v5, r6, r7] t (0, 0)) := cells_set h4 5 v5
  have h6 : (((((((W.setCell ⟨B, 0, none⟩ v0).setCell ⟨B, 1, none⟩ v1).setCell ⟨B, 2, none⟩ v2).setCell ⟨B, 3, none⟩ v3).setCell ⟨B, 4, none⟩ v4).setCell ⟨B, 5, none⟩ v5).setCell ⟨B, 6, none⟩ v6).heap[B]? = some (.cells #[v0, v1, v2, v3, v4, v5, v6, r7] t (0, 0)) := cells_set h5 6 v6
  have h7 : ((((((((W.setCell ⟨B, 0, none⟩ v0).setCell ⟨B, 1, none⟩ v1).setCell ⟨B, 2, none⟩ v2).setCell ⟨B, 3, none⟩ v3).setCell ⟨B, 4, none⟩ v4).setCell ⟨B, 5, none⟩ v5).setCell ⟨B, 6, none⟩ v6).setCell ⟨B, 7, none⟩ v7).heap[B]? = some (.cells #[v0, v1, v2, v3, v4, v5, v6, v7] t (0, 0)) := cells_set h6 7 v7
  exact h7
theorem rec_set0 {w : World} {b : Nat} {c0 c1 c2 c3 c4 c5 c6 c7 x : Value} {t : TypeId} (h : w.heap[b]? = some (.cells #[c0, c1, c2, c3, c4, c5, c6, c7] t (0, 0))) : (w.setCell ⟨b, 0, none⟩ x).heap[b]? = some (.cells #[x, c1, c2, c3, c4, c5, c6, c7] t (0, 0)) := by
  obtain ⟨hlt, he⟩ := Array.getElem?_eq_some_iff.1 h
  show (w.heap.modify b _)[b]? = _
  rw [Array.getElem?_eq_getElem (by rw [Array.size_modify]; exact hlt), Array.getElem_modify_self, he]
  rfl
end Go.Proofs.YtkibbojiflklpaaGreat

/- A record done to a page that is there. -/
namespace Go.Proofs.YtkibbojiflklpaaGreat
open Go.RowKit

theorem Sv.frS {S : Nat → Prop} {w w' : World} {rv : Value} {ls : List Sl} (h : Sv w rv ls) (f : Fr S w w') (h1 : ∀ k, rv.ownBlock = some k → ¬ S k) (h2 : ∀ s ∈ ls, Off S s.nd s.pt) : Sv w' rv ls :=
  ⟨h.has.fr f h1, fun s hs => (h.nod s hs).frS f (h2 s hs), h.off⟩
theorem Off.sub {S T : Nat → Prop} {n : Nd} {p : Pt} (h : Off S n p) (hs : ∀ k, T k → S k) : Off T n p :=
  ⟨h.1.imp id (fun h b o e t => h b o e (hs b t)), h.2.1.imp id (fun h b o e t => h b o e (hs b t)), h.2.2.imp id (fun h b o e t => h b o e (hs b t))⟩
theorem tree_set0 {W : World} {b : Nat} {t : TypeId} {c0 c1 c2 : Value} (h : W.heap[b]? = some (.cells #[c0, c1, c2] t (0, 0))) (u : Value) : (W.setCell ⟨b, 0, none⟩ u).heap[b]? = some (.cells #[u, c1, c2] t (0, 0)) := cells_set h 0 u
theorem set_facts {W V : World} {tb mb B R : Nat} {a : Option Addr} {n c : Nat} {last : Int} {r : Rec} {m : Nd} {q : Pt} {t1 t2 t3 : TypeId} {X : Prop} (h : W.heap[tb]? = some (.cells #[.slice a n c, .pointer (some ⟨mb, 0, none⟩), .int .i64 last] t1 (0, 0)) ∧ W.heap[R]? = some (.cells #[.int .i64 r.lsn, .int .i64 r.ep, .int .i64 r.kind, .int .i64 r.page, .int .i64 r.other, .int .i64 r.req, .string r.key, .string r.val] t2 (0, 0)) ∧ W.heap[B]? = some (.cells #[.int .i64 m.lev, .int .i64 m.lsn, .int .i64 m.rgt, .string m.high, .slice q.k m.keys.length q.kc, .slice q.v m.vals.length q.vc, .slice q.i m.kids.length q.ic] t3 (0, 0)) ∧ X) (h1 : R ≠ tb) (h2 : B ≠ tb) (hV : W.setCell ⟨tb, 0, none⟩ (.slice a n c) = V) :
    (V.cell? ⟨tb, 0, none⟩ = some (.slice a n c) ∧ V.cell? ⟨tb, 1, none⟩ = some (.pointer (some ⟨mb, 0, none⟩)) ∧ V.cell? ⟨tb, 2, none⟩ = some (.int .i64 last)) ∧ (V.cell? ⟨R, 0, none⟩ = some (.int .i64 r.lsn) ∧ V.cell? ⟨R, 1, none⟩ = some (.int .i64 r.ep) ∧ V.cell? ⟨R, 2, none⟩ = some (.int .i64 r.kind) ∧ V.cell? ⟨R, 3, none⟩ = some (.int .i64 r.page) ∧ V.cell? ⟨R, 4, none⟩ = some (.int .i64 r.other) ∧ V.cell? ⟨R, 5, none⟩ = some (.int .i64 r.req) ∧ V.cell? ⟨R, 6, none⟩ = some (.string r.key) ∧ V.cell? ⟨R, 7, none⟩ = some (.string r.val)) ∧ V.cell? ⟨B, 0, none⟩ = some (.int .i64 m.lev) ∧ V.cell? ⟨B, 1, none⟩ = some (.int .i64 m.lsn) ∧ V.cell? ⟨B, 2, none⟩ = some (.int .i64 m.rgt) ∧ V.cell? ⟨B, 3, none⟩ = some (.string m.high) ∧ V.cell? ⟨B, 4, none⟩ = some (.slice q.k m.keys.length q.kc) ∧ V.cell? ⟨B, 5, none⟩ = some (.slice q.v m.vals.length q.vc) ∧ V.cell? ⟨B, 6, none⟩ = some (.slice q.i m.kids.length q.ic) := by
  subst hV
  have f : Fr (fun k => k = tb) W (W.setCell ⟨tb, 0, none⟩ (.slice a n c)) := (Fr.refl (fun k => k = tb) W).setCell (p := ⟨tb, 0, none⟩) (fun _ => rfl) _
  exact ⟨(tree_cells (tree_set0 h.1 _)).1, (rec_cells (f.blk h.2.1 h1)).1, box_cells (f.blk h.2.2.1 h2)⟩
end Go.Proofs.YtkibbojiflklpaaGreat
