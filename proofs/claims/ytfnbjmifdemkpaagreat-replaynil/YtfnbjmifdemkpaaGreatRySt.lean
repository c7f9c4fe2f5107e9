
/- A replay in memory. -/
import Derived.Test.YtfnbjmifdemkpaaGreatRyMap
namespace Go.Proofs.YtfnbjmifdemkpaaGreat
open Go.RowKit Go.Shelf

/-- What a replay is: its workers, of each the records that wait, what was fed, the point, the greatest LSN that is done, the pages. -/
structure RSt where
  wk : Nat
  L : Nat → List Wg
  fed : Int
  point : Int
  top : Int
  pg : Int → Option Nd
/-- Of a queue: where its row lies. -/
structure QA where
  a : Option Addr
  n : Nat
  c : Nat
  d : Nat
  ws : List Wg
def QA.own (q : QA) : Option Nat := (Value.slice q.a q.n q.c).ownBlock
/-- The cells of a replay. -/
structure RyC (A : Array Value) (m : Nat) (R : RSt) (q : Nat → QA) : Prop where
  size : A.size = 21
  map : A[0]? = some (.map (some m))
  wk : A[1]? = some (.int .i64 (R.wk : Int))
  row : ∀ i, i < 8 → A[2 + 2 * i]? = some (.slice (q i).a (q i).n (q i).c)
  done : ∀ i, i < 8 → A[2 + 2 * i + 1]? = some (.int .i64 ((q i).d : Int))
  fed : A[18]? = some (.int .i64 R.fed)
  point : A[19]? = some (.int .i64 R.point)
  top : A[20]? = some (.int .i64 R.top)
/-- A replay at block b, whose own blocks are in S; no queue's row is longer than N. -/
structure RyI (w : World) (S : Nat → Prop) (b : Nat) (R : RSt) (N : Nat) (A : Array Value) (m cnt : Nat) (q : Nat → QA) (pt : Int → Pt) : Prop where
  blk : w.heap[b]? = some (.cells A 93 (0, 0))
  cells : RyC A m R q
  few : R.wk ≤ 8
  rows : ∀ i, i < 8 → Rw w (q i).a (q i).n (q i).c (q i).ws ∧ (q i).d ≤ (q i).n ∧ (q i).n ≤ N ∧ (q i).ws.drop (q i).d = R.L i
  pages : Mp w m cnt (fun x => (R.pg x).map (fun n => (.agg #[.int .i64 n.lev, .int .i64 n.lsn, .int .i64 n.rgt, .string n.high, .slice (pt x).k n.keys.length (pt x).kc, .slice (pt x).v n.vals.length (pt x).vc, .slice (pt x).i n.kids.length (pt x).ic])))
  cntN : cnt ≤ N
  nods : ∀ x n, R.pg x = some n → Nod w n (pt x) ∧ Off S n (pt x)
  ob : S b
  om : S m
  bm : b ≠ m
  oq : ∀ i k, i < 8 → (q i).own = some k → S k ∧ k ≠ b ∧ k ≠ m
  apart : ∀ i j k, i < 8 → j < 8 → (q i).own = some k → (q j).own = some k → i = j
  lt : ∀ k, S k → k < w.heap.size
def Ry (w : World) (S : Nat → Prop) (b : Nat) (R : RSt) (N : Nat) : Prop := ∃ A m cnt q pt, RyI w S b R N A m cnt q pt
theorem RyI.same {w w' : World} {S : Nat → Prop} {b : Nat} {R : RSt} {N : Nat} {A : Array Value} {m cnt : Nat} {q : Nat → QA} {pt : Int → Pt} (h : RyI w S b R N A m cnt q pt) (f : Fr (fun _ => False) w w') : RyI w' S b R N A m cnt q pt :=
  ⟨(f.block _ (lt_of_block h.blk) (fun e => e)).trans h.blk, h.cells, h.few, fun i hi => ⟨(h.rows i hi).1.fr f (fun _ _ e => e), (h.rows i hi).2⟩, h.pages.same f, h.cntN, fun x n hx => ⟨(h.nods x n hx).1.same f, (h.nods x n hx).2⟩, h.ob, h.om, h.bm, h.oq, h.apart, fun k hk => Nat.lt_of_lt_of_le (h.lt k hk) f.size⟩
theorem Ry.same {w w' : World} {S : Nat → Prop} {b : Nat} {R : RSt} {N : Nat} (h : Ry w S b R N) (f : Fr (fun _ => False) w w') : Ry w' S b R N := by
  obtain ⟨A, m, cnt, q, pt, h⟩ := h
  exact ⟨A, m, cnt, q, pt, h.same f⟩
/-- What a call leaves. -/
def RyTo (w : World) (S : Nat → Prop) (b : Nat) (R : RSt) (N : Nat) (w' : World) : Prop := ∃ S', Ry w' S' b R N ∧ (∀ k, S' k → S k ∨ w.heap.size ≤ k) ∧ (∀ k, S k → S' k) ∧ Fr S w w'
section
variable {w : World} {S : Nat → Prop} {b : Nat} {R : RSt} {N : Nat} {A : Array Value} {m cnt : Nat} {q : Nat → QA} {pt : Int → Pt}
theorem RyI.cell (h : RyI w S b R N A m cnt q pt) : w.cell? ⟨b, 0, none⟩ = some (.map (some m)) ∧ w.cell? ⟨b, 1, none⟩ = some (.int .i64 (R.wk : Int)) ∧ w.cell? ⟨b, 18, none⟩ = some (.int .i64 R.fed) ∧ w.cell? ⟨b, 19, none⟩ = some (.int .i64 R.point) ∧ w.cell? ⟨b, 20, none⟩ = some (.int .i64 R.top) ∧ (∀ j, w.frozen? ⟨b, j, none⟩ = false) ∧ b < w.heap.size :=
  ⟨(cell_blkR h.blk 0).trans h.cells.map, (cell_blkR h.blk 1).trans h.cells.wk, (cell_blkR h.blk 18).trans h.cells.fed, (cell_blkR h.blk 19).trans h.cells.point, (cell_blkR h.blk 20).trans h.cells.top, fun j => frozen_blk h.blk j, lt_of_block h.blk⟩
theorem ry_cnt (w : World) (h : Ry w S b R N) : Calls Tryz.prog 46 #[.pointer (some ⟨b, 0, none⟩)] w fun e w' => e = .returned (.int .i64 (R.wk : Int)) ∧ w' = w := by
  obtain ⟨A, m, cnt, q, pt, h⟩ := h
  obtain ⟨c0, c1, c18, c19, c20, cz, cb⟩ := h.cell
  clear h
  go_enter Tryz.func46, Tryz.ntmps46
  go_wp2
  go_ret
  exact ⟨rfl, rfl⟩
theorem ry_fedv (w : World) (h : Ry w S b R N) : Calls Tryz.prog 21 #[.pointer (some ⟨b, 0, none⟩)] w fun e w' => e = .returned (.int .i64 R.fed) ∧ w' = w := by
  obtain ⟨A, m, cnt, q, pt, h⟩ := h
  obtain ⟨c0, c1, c18, c19, c20, cz, cb⟩ := h.cell
  clear h
  go_enter Tryz.func21, Tryz.ntmps21
  go_wp2
  go_ret
  exact ⟨rfl, rfl⟩
/-- The first record that waits for a worker. -/
def FirO (w : World) (l : List Wg) (e : Ending) (w' : World) : Prop := (e = .returned (.tuple #[wgV (l.headD wgZ), .bool (!l.isEmpty)])) ∧ Fr (fun _ => False) w w'
theorem ry_first (w : World) (h : Ry w S b R N) (hN : N ≤ 1000000) (i : Nat) (hi : i < 8) : Calls Tryz.prog 49 #[.pointer (some ⟨b, 2 + 2 * i, none⟩)] w (FirO w (R.L i)) := by
  obtain ⟨A, m, cnt, q, pt, h⟩ := h
  obtain ⟨hr, hd, hn, hl⟩ := h.rows i hi
  have h0 := (cell_blkR h.blk (2 + 2 * i)).trans (h.cells.row i hi)
  have h1 := (cell_blkR h.blk (2 + 2 * i + 1)).trans (h.cells.done i hi)
  have hq : Qu w b (2 + 2 * i) (q i).a (q i).n (q i).c (q i).d := ⟨h0, h1, hd, by omega⟩
  have hb := lt_of_block h.blk
  cases he : R.L i with
  | nil =>
    have hdn : (q i).d = (q i).n := by
      have : ((q i).ws.drop (q i).d).length = 0 := by rw [hl, he]; rfl
      rw [List.length_drop, ← hr.1] at this
      omega
    rw [hdn] at hq
    exact (q_first_no w hb hq).mono fun e w' ⟨h1, h2⟩ => ⟨h1, h2⟩
  | cons x l =>
    have hx : (q i).ws[(q i).d]? = some x := by
      rw [← List.head?_drop, hl, he]; rfl
    have hdn : (q i).d < (q i).n := by rw [hr.1]; exact (List.getElem?_eq_some_iff.1 hx).1
    obtain ⟨g, off, ea, hg, _⟩ := hr.some (by omega)
    rw [ea] at hq
    have hws := hr.wgs
    rw [ea] at hws
    exact (q_first_yes w hb hq hr.1 hx hws).mono fun e w' ⟨h1, h2⟩ => ⟨h1, h2⟩
end
end Go.Proofs.YtfnbjmifdemkpaaGreat
