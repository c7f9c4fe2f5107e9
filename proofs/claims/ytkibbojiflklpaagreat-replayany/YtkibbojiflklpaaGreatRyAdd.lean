
/- A record that is to wait; the first one is taken away. -/
import Derived.Test.YtkibbojiflklpaaGreatRyRow
import Derived.Deep.RegionLaw
namespace Go.Proofs.YtkibbojiflklpaaGreat
open Go.RowKit Go.Shelf

/-- What a call on a queue leaves: the queue's two cells, the other cells of its block, its row. -/
def QTo (w : World) (qb qo : Nat) (A : Array Value) (t : TypeId) (a : Option Addr) (n c : Nat) (L : List Wg) (w' : World) : Prop := ∃ A2 a2 n2 c2 d2 ws2, w'.heap[qb]? = some (.cells A2 t (0, 0)) ∧ A2.size = A.size ∧ A2[qo]? = some (.slice a2 n2 c2) ∧ A2[qo + 1]? = some (.int .i64 ((d2 : Nat) : Int)) ∧ (∀ j, j ≠ qo → j ≠ qo + 1 → A2[j]? = A[j]?) ∧ Rw w' a2 n2 c2 ws2 ∧ d2 ≤ n2 ∧ n2 ≤ n + 1 ∧ ws2.drop d2 = L ∧ Fr (fun k => k = qb ∨ (Value.slice a n c).ownBlock = some k) w w' ∧ ((Value.slice a2 n2 c2).ownBlock = (Value.slice a n c).ownBlock ∨ ∃ g, (Value.slice a2 n2 c2).ownBlock = some g ∧ w.heap.size ≤ g)
theorem frozen_blk {V : World} {b : Nat} {A : Array Value} {t : TypeId} (h : V.heap[b]? = some (.cells A t (0, 0))) (j : Nat) : V.frozen? ⟨b, j, none⟩ = false := by simp [World.frozen?, h]
theorem cell_blkR {W : World} {b : Nat} {A : Array Value} {t : TypeId} (h : W.heap[b]? = some (.cells A t (0, 0))) (j : Nat) : W.cell? ⟨b, j, none⟩ = A[j]? := cell_of_row W b j A t (0, 0) h
set_option maxRecDepth 100000 in
set_option maxHeartbeats 8000000 in
theorem q_add {qb qo : Nat} {A : Array Value} {t : TypeId} {a : Option Addr} {n c d : Nat} {ws : List Wg} (x : Wg) (w : World) (hA : w.heap[qb]? = some (.cells A t (0, 0))) (h0 : A[qo]? = some (.slice a n c)) (h1 : A[qo + 1]? = some (.int .i64 (d : Int))) (hd : d ≤ n) (hr : Rw w a n c ws) (hn : n ≤ 1000000) (hne : ∀ k, (Value.slice a n c).ownBlock = some k → k ≠ qb) :
    Calls Tryz.prog 44 #[.pointer (some ⟨qb, qo, none⟩), wgV x] w fun e w' => e = .returned (.tuple #[]) ∧ QTo w qb qo A t a n c (ws.drop d ++ [x]) w' := by
  have F0 : Fr (fun _ => False) w (w.alloc (.cells (wgC x).toArray 98)) := Fr.box _ _
  have F1 : Fr (fun _ => False) (w.alloc (.cells (wgC x).toArray 98)) ((w.alloc (.cells (wgC x).toArray 98)).alloc (.cells (wgC x).toArray 98)).drew := (Fr.box _ _).drew
  have hqb := lt_of_block hA
  have hA0 := (F0.block _ hqb (fun e => e)).trans hA
  have hA1 := (F1.block _ (lt_of_block hA0) (fun e => e)).trans hA0
  have hR1 := (hr.fr F0 (fun _ _ e => e)).fr F1 (fun _ _ e => e)
  have hnew : ((w.alloc (.cells (wgC x).toArray 98)).alloc (.cells (wgC x).toArray 98)).drew.rangeAt (w.alloc (.cells (wgC x).toArray 98)).heap.size 0 (wgC x) := range_block (w := ((w.alloc _).alloc _).drew) (heap_alloc_new (w.alloc (.cells (wgC x).toArray 98)) _) (fun j v hv => by rw [Nat.zero_add]; simpa using hv)
  obtain ⟨a', c', w5, hrun, hR5, hF5, hat⟩ := rw_app x hR1 hn _ hnew 86
  have hA5 := (hF5.block _ (lt_of_block hA1) (fun e => hne _ e rfl)).trans hA1
  have x0 := (cell_blkR hA0 qo).trans h0
  have x1 := (cell_blkR hA5 qo).trans h0
  have x2 := frozen_blk hA5 qo
  have hx9 := heap_alloc_new w (.cells (wgC x).toArray 98)
  have HFIN : Hid (QTo w qb qo A t a n c (ws.drop d ++ [x]) (w5.setCell ⟨qb, qo, none⟩ (.slice a' (n + 1) c'))) := by
    have fs : Fr (fun k => k = qb) w5 (w5.setCell ⟨qb, qo, none⟩ (.slice a' (n + 1) c')) := (Fr.refl (fun k => k = qb) w5).setCell (p := ⟨qb, qo, none⟩) (fun _ => rfl) _
    have hz := (F0.seq' F1).size
    have hlt : qo < A.size := (Array.getElem?_eq_some_iff.1 h0).1
    refine ⟨A.setIfInBounds qo (.slice a' (n + 1) c'), a', n + 1, c', d, ws ++ [x], set_blk hA5 qo _, by simp, by simp [hlt], by rw [Array.getElem?_setIfInBounds_ne (by omega)]; exact h1, fun j e1 e2 => Array.getElem?_setIfInBounds_ne (by omega), hR5.fr fs (fun k e ek => ?_), by omega, Nat.le_refl _, ?_, ?_, ?_⟩
    · subst ek
      rcases hat with h | ⟨g, h, hg⟩
      · rw [h] at e; exact hne _ e rfl
      · rw [h] at e; cases e; have := lt_of_block hA1; omega
    · rw [List.drop_append_of_le_length (by rw [← hr.1]; exact hd)]
    · exact (((Fr.refl (fun k => k = qb ∨ (Value.slice a n c).ownBlock = some k) w).trans (F0.seq' F1) (fun _ _ e => e.elim)).trans hF5 (fun k _ e => .inr e)).trans fs (fun k _ e => .inl e)
    · rcases hat with h | ⟨g, h, hg⟩
      · exact .inl h
      · exact .inr ⟨g, h, by omega⟩
  clear hA hA0 hA1 hR1 hnew hF5 hat hA5 F0 F1 hr hR5 h0 h1 hne
  obtain ⟨⟨lsn, ep, kind, page, other, req, key, val⟩, pt⟩ := x
  obtain ⟨z0, z1, z2, z3, z4, z5, z6, z7, z8, z9⟩ := nine_cells hx9
  have x0' : (w.alloc (.cells #[.int .i64 lsn, .int .i64 ep, .int .i64 kind, .int .i64 page, .int .i64 other, .int .i64 req, .string key, .string val, .int .i64 pt] 98)).cell? ⟨qb, qo, none⟩ = some (.slice a n c) := x0
  clear hx9 x0
  unfold wgV
  dsimp only
  have hrun' : (Builtin.append_ #[86, 86] 86 #[.slice a n c, .slice (some ⟨w.heap.size + 1, 0, none⟩) 1 1]).run Tryz.prog ((w.alloc (.cells #[.int .i64 lsn, .int .i64 ep, .int .i64 kind, .int .i64 page, .int .i64 other, .int .i64 req, .string key, .string val, .int .i64 pt] 98)).alloc (.cells #[.int .i64 lsn, .int .i64 ep, .int .i64 kind, .int .i64 page, .int .i64 other, .int .i64 req, .string key, .string val, .int .i64 pt] 98)).drew = .ok (.slice a' (n + 1) c') w5 := by
    have e : (w.alloc (.cells (wgC (⟨lsn, ep, kind, page, other, req, key, val⟩, pt)).toArray 98)).heap.size = w.heap.size + 1 := by simp
    rw [e] at hrun
    exact hrun
  clear hrun
  go_enter Tryz.func44, Tryz.ntmps44
  go_wp2
  go_region_law (refine step_append_run (by rfl) (.tmp 8) (.tmp 10) 86 (by rfl) (by rfl) (by rfl) hrun' ?_)
  all_goals
    go_wp2
    go_end0
    exact ⟨rfl, HFIN.out⟩
end Go.Proofs.YtkibbojiflklpaaGreat
