
/- Queues of records that wait. -/
import Derived.Test.YtkibbojiflklpaaGreatRyNil2
import Derived.Test.YtkibbojiflklpaaGreatBB33
namespace Go.Proofs.YtkibbojiflklpaaGreat
open Go.RowKit Go.Shelf

/-- A record that waits, and the point ahead of it. -/
abbrev Wg := Rec × Int
def wgC (x : Wg) : List Value := recC x.1 ++ [.int .i64 x.2]
def wgV (x : Wg) : Value := .agg #[.int .i64 x.1.lsn, .int .i64 x.1.ep, .int .i64 x.1.kind, .int .i64 x.1.page, .int .i64 x.1.other, .int .i64 x.1.req, .string x.1.key, .string x.1.val, .int .i64 x.2]
theorem wgC_length (x : Wg) : (wgC x).length = 9 := rfl
/-- A row of such records, wherever it begins in its block. -/
structure Wgs (w : World) (a : Option Addr) (cap : Nat) (ws : List Wg) : Prop where
  le : ws.length ≤ cap
  max : cap ≤ 9223372036854775807
  at_ : ws = [] ∨ ∃ b off, a = some ⟨b, off, none⟩ ∧ b < w.heap.size ∧ ∀ i x, ws[i]? = some x → w.rangeAt b (off + i * 9) (wgC x)
theorem Wgs.same {w w' : World} {a : Option Addr} {cap : Nat} {ws : List Wg} (h : Wgs w a cap ws) (f : Fr (fun _ => False) w w') : Wgs w' a cap ws := by
  refine ⟨h.le, h.max, ?_⟩
  rcases h.at_ with h0 | ⟨b, off, rfl, hb, hc⟩
  · exact .inl h0
  · exact .inr ⟨b, off, rfl, Nat.lt_of_lt_of_le hb f.size, fun i r hr => range_fr (hc i r hr) f (fun f => f)⟩
theorem wg_range {w : World} {b o : Nat} {x : Wg} (h : w.rangeAt b o (wgC x)) : w.cell? ⟨b, o, none⟩ = some (.int .i64 x.1.lsn) ∧ w.cell? ⟨b, o + 1, none⟩ = some (.int .i64 x.1.ep) ∧ w.cell? ⟨b, o + 2, none⟩ = some (.int .i64 x.1.kind) ∧ w.cell? ⟨b, o + 3, none⟩ = some (.int .i64 x.1.page) ∧ w.cell? ⟨b, o + 4, none⟩ = some (.int .i64 x.1.other) ∧ w.cell? ⟨b, o + 5, none⟩ = some (.int .i64 x.1.req) ∧ w.cell? ⟨b, o + 6, none⟩ = some (.string x.1.key) ∧ w.cell? ⟨b, o + 7, none⟩ = some (.string x.1.val) ∧ w.cell? ⟨b, o + 8, none⟩ = some (.int .i64 x.2) :=
  ⟨h 0 _ rfl, h 1 _ rfl, h 2 _ rfl, h 3 _ rfl, h 4 _ rfl, h 5 _ rfl, h 6 _ rfl, h 7 _ rfl, h 8 _ rfl⟩
/-- A queue whose two cells stand at qo of block qb; d of its row are done. -/
structure Qu (w : World) (qb qo : Nat) (a : Option Addr) (n c d : Nat) : Prop where
  row : w.cell? ⟨qb, qo, none⟩ = some (.slice a n c)
  done : w.cell? ⟨qb, qo + 1, none⟩ = some (.int .i64 (d : Int))
  fine : d ≤ n
  small : n ≤ 1099511627776
theorem q_waits {qb qo : Nat} {a : Option Addr} {n c d : Nat} (w : World) (h : Qu w qb qo a n c d) : Calls Tryz.prog 81 #[.pointer (some ⟨qb, qo, none⟩)] w fun e w' => e = .returned (.int .i64 ((n : Int) - (d : Int))) ∧ ∃ k, w' = w.drewN k := by
  have x0 := h.row
  have x1 := h.done
  have hs := h.small
  have hf := h.fine
  clear h
  go_enter Tryz.func81, Tryz.ntmps81
  go_wp2
  go_quiet (fail)
  go_wp2
  go_ret
  exact ⟨ret_int (by go_num), _, rfl⟩
theorem set_blk {W : World} {b : Nat} {A : Array Value} {t : TypeId} (h : W.heap[b]? = some (.cells A t (0, 0))) (j : Nat) (v : Value) : (W.setCell ⟨b, j, none⟩ v).heap[b]? = some (.cells (A.setIfInBounds j v) t (0, 0)) := by
  have hlt : b < W.heap.size := (Array.getElem?_eq_some_iff.1 h).1
  have h' : W.heap[b] = .cells A t (0, 0) := by simpa [Array.getElem?_eq_getElem hlt] using h
  show (W.heap.modify b _)[b]? = _
  rw [Array.getElem?_eq_getElem (by rw [Array.size_modify]; exact hlt), Array.getElem_modify_self, h']
  simp
/-- Nine cells that are stored anew. -/
def put9 (W : World) (b : Nat) (v0 v1 v2 v3 v4 v5 v6 v7 v8 : Value) : World := ((((((((W.setCell ⟨b, 0, none⟩ v0).setCell ⟨b, 1, none⟩ v1).setCell ⟨b, 2, none⟩ v2).setCell ⟨b, 3, none⟩ v3).setCell ⟨b, 4, none⟩ v4).setCell ⟨b, 5, none⟩ v5).setCell ⟨b, 6, none⟩ v6).setCell ⟨b, 7, none⟩ v7).setCell ⟨b, 8, none⟩ v8
theorem put9_is {W : World} {b : Nat} {t : TypeId} {c0 c1 c2 c3 c4 c5 c6 c7 c8 : Value} (h : W.heap[b]? = some (.cells #[c0, c1, c2, c3, c4, c5, c6, c7, c8] t (0, 0))) (v0 v1 v2 v3 v4 v5 v6 v7 v8 : Value) :
    (put9 W b v0 v1 v2 v3 v4 v5 v6 v7 v8).heap[b]? = some (.cells #[v0, v1, v2, v3, v4, v5, v6, v7, v8] t (0, 0)) ∧ Fr (fun i => i = b) W (put9 W b v0 v1 v2 v3 v4 v5 v6 v7 v8) := by
  constructor
  · unfold put9
    have s0 : (W.setCell ⟨b, 0, none⟩ v0).heap[b]? = some (.cells #[v0, c1, c2, c3, c4, c5, c6, c7, c8] t (0, 0)) := set_blk h 0 v0
    have s1 : ((W.setCell ⟨b, 0, none⟩ v0).setCell ⟨b, 1, none⟩ v1).heap[b]? = some (.cells #[v0, v1, c2, c3, c4, c5, c6, c7, c8] t (0, 0)) := set_blk s0 1 v1
    have s2 : (((W.setCell ⟨b, 0, none⟩ v0).setCell ⟨b, 1, none⟩ v1).setCell ⟨b, 2, none⟩ v2).heap[b]? = some (.cells #[v0, v1, v2, c3, c4, c5, c6, c7, c8] t (0, 0)) := set_blk s1 2 v2
    have s3 : ((((W.setCell ⟨b, 0, none⟩ v0).setCell ⟨b, 1, none⟩ v1).setCell ⟨b, 2, none⟩ v2).setCell ⟨b, 3, none⟩ v3).heap[b]? = some (.cells #[v0, v1, v2, v3, c4, c5, c6, c7, c8] t (0, 0)) := set_blk s2 3 v3
    have s4 : (((((W.setCell ⟨b, 0, none⟩ v0).setCell ⟨b, 1, none⟩ v1).setCell ⟨b, 2, none⟩ v2).setCell ⟨b, 3, none⟩ v3).setCell ⟨b, 4, none⟩ v4).heap[b]? = some (.cells #[v0, v1, v2, v3, v4, c5, c6, c7, c8] t (0, 0)) := set_blk s3 4 v4
    have s5 : ((((((W.setCell ⟨b, 0, none⟩ v0).setCell ⟨b, 1, none⟩ v1).setCell ⟨b, 2, none⟩ v2).setCell ⟨b, 3, none⟩ v3).setCell ⟨b, 4, none⟩ v4).setCell ⟨b, 5, none⟩ v5).heap[b]? = some (.cells #[v0, v1, v2, v3, v4, v5, c6, c7, c8] t (0, 0)) := set_blk s4 5 v5
    have s6 : (((((((W.setCell ⟨b, 0, none⟩ v0).setCell ⟨b, 1, none⟩ v1).setCell ⟨b, 2, none⟩ v2).setCell ⟨b, 3, none⟩ v3).setCell ⟨b, 4, none⟩ v4).setCell ⟨b, 5, none⟩ v5).setCell ⟨b, 6, none⟩ v6).heap[b]? = some (.cells #[v0, v1, v2, v3, v4, v5, v6, c7, c8] t (0, 0)) := set_blk s5 6 v6
    have s7 : ((((((((W.setCell ⟨b, 0, none⟩ v0).setCell ⟨b, 1, none⟩ v1).setCell ⟨b, 2, none⟩ v2).setCell ⟨b, 3, none⟩ v3).setCell ⟨b, 4, none⟩ v4).setCell ⟨b, 5, none⟩ v5).setCell ⟨b, 6, none⟩ v6).setCell ⟨b, 7, none⟩ v7).heap[b]? = some (.cells #[v0, v1, v2, v3, v4, v5, v6, v7, c8] t (0, 0)) := set_blk s6 7 v7
    have s8 : (((((((((W.setCell ⟨b, 0, none⟩ v0).setCell ⟨b, 1, none⟩ v1).setCell ⟨b, 2, none⟩ v2).setCell ⟨b, 3, none⟩ v3).setCell ⟨b, 4, none⟩ v4).setCell ⟨b, 5, none⟩ v5).setCell ⟨b, 6, none⟩ v6).setCell ⟨b, 7, none⟩ v7).setCell ⟨b, 8, none⟩ v8).heap[b]? = some (.cells #[v0, v1, v2, v3, v4, v5, v6, v7, v8] t (0, 0)) := set_blk s7 8 v8
    exact s8
  · unfold put9
    exact ((((((((((Fr.refl (fun i => i = b) W).setCell (p := ⟨b, 0, none⟩) (fun _ => rfl) v0).setCell (p := ⟨b, 1, none⟩) (fun _ => rfl) v1).setCell (p := ⟨b, 2, none⟩) (fun _ => rfl) v2).setCell (p := ⟨b, 3, none⟩) (fun _ => rfl) v3).setCell (p := ⟨b, 4, none⟩) (fun _ => rfl) v4).setCell (p := ⟨b, 5, none⟩) (fun _ => rfl) v5).setCell (p := ⟨b, 6, none⟩) (fun _ => rfl) v6).setCell (p := ⟨b, 7, none⟩) (fun _ => rfl) v7).setCell (p := ⟨b, 8, none⟩) (fun _ => rfl) v8)
set_option maxRecDepth 100000 in
set_option maxHeartbeats 4000000 in
theorem q_first_no {qb qo : Nat} {a : Option Addr} {n c : Nat} (w : World) (hq : qb < w.heap.size) (h : Qu w qb qo a n c n) : Calls Tryz.prog 46 #[.pointer (some ⟨qb, qo, none⟩)] w fun e w' => e = .returned (.tuple #[.agg #[.int .i64 0, .int .i64 0, .int .i64 0, .int .i64 0, .int .i64 0, .int .i64 0, .string ⟨#[]⟩, .string ⟨#[]⟩, .int .i64 0], .bool false]) ∧ Fr (fun _ => False) w w' := by
  have F0 := Fr.box w (.cells #[.int .i64 0, .int .i64 0, .int .i64 0, .int .i64 0, .int .i64 0, .int .i64 0, .string ⟨#[]⟩, .string ⟨#[]⟩, .int .i64 0] 98)
  have h1 : Qu (w.alloc (.cells #[.int .i64 0, .int .i64 0, .int .i64 0, .int .i64 0, .int .i64 0, .int .i64 0, .string ⟨#[]⟩, .string ⟨#[]⟩, .int .i64 0] 98)) qb qo a n c n := ⟨(F0.cell (p := ⟨qb, qo, none⟩) hq (fun f => f)).trans h.row, (F0.cell (p := ⟨qb, qo + 1, none⟩) hq (fun f => f)).trans h.done, h.fine, h.small⟩
  have hw := q_waits _ h1
  rw [show ((n : Int) - (n : Int)) = 0 by omega] at hw
  have HF : Hid (Fr (fun _ => False) w (w.alloc (.cells #[.int .i64 0, .int .i64 0, .int .i64 0, .int .i64 0, .int .i64 0, .int .i64 0, .string ⟨#[]⟩, .string ⟨#[]⟩, .int .i64 0] 98))) := F0
  have HB : Hid (∀ k, ((w.alloc (.cells #[.int .i64 0, .int .i64 0, .int .i64 0, .int .i64 0, .int .i64 0, .int .i64 0, .string ⟨#[]⟩, .string ⟨#[]⟩, .int .i64 0] 98)).drewN k).heap[w.heap.size]? = some (.cells #[.int .i64 0, .int .i64 0, .int .i64 0, .int .i64 0, .int .i64 0, .int .i64 0, .string ⟨#[]⟩, .string ⟨#[]⟩, .int .i64 0] 98 (0, 0))) := fun k => heap_alloc_new w _
  clear h h1 F0
  go_enter Tryz.func46, Tryz.ntmps46
  go_wp2_with fail
  refine hw.mono ?_
  rintro e w1 ⟨rfl, k, rfl⟩
  obtain ⟨z0, z1, z2, z3, z4, z5, z6, z7, z8, z9⟩ := nine_cells (HB.out k)
  clear hw
  go_wp2
  obtain ⟨hp, fp⟩ := put9_is (HB.out k) (.int .i64 0) (.int .i64 0) (.int .i64 0) (.int .i64 0) (.int .i64 0) (.int .i64 0) (.string ⟨#[]⟩) (.string ⟨#[]⟩) (.int .i64 0)
  obtain ⟨y0, y1, y2, y3, y4, y5, y6, y7, y8, _⟩ := nine_cells hp
  unfold put9 at y0 y1 y2 y3 y4 y5 y6 y7 y8
  refine bodyPost_ret (v := .tuple #[.agg #[.int .i64 0, .int .i64 0, .int .i64 0, .int .i64 0, .int .i64 0, .int .i64 0, .string ⟨#[]⟩, .string ⟨#[]⟩, .int .i64 0], .bool false]) (by simp [results, Tryz.results46, go_sem, y0, y1, y2, y3, y4, y5, y6, y7, y8]) rfl ?_
  exact ⟨rfl, (HF.out.drewN k).trans fp (fun i hi e => by omega)⟩
end Go.Proofs.YtkibbojiflklpaaGreat
