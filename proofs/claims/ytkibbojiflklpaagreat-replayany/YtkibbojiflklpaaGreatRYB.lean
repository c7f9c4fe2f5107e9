
/- RyMap, RySt, RyNext, RyLem, RyPt, RyFeed. -/
import Derived.Test.YtkibbojiflklpaaGreatRyAdd
import Derived.Maps.OwnSet
import Derived.Maps.RangeWalk
import Derived.Deep.QuietTactic
import Derived.BigQuiet
import Derived.Deep.DeepCutAuto
import Derived.Deep.RegionHeld3
/- Maps from numbers, in memory, beside the texts of the replay. -/
namespace Go.Proofs.YtkibbojiflklpaaGreat
open Go.RowKit
open Go.Maps (Keyed)

def vR : Value → Option (DataW Value × List MemPlace) := fun v => some (.held v, [])
abbrev Vmap := Int → Option Value
def vupd (M : Vmap) (x : Int) (v : Option Value) : Vmap := fun y => if y = x then v else M y
theorem vupd_same (M : Vmap) (x : Int) (v : Option Value) : vupd M x v x = v := if_pos rfl
theorem vupd_other {M : Vmap} {x y : Int} (v : Option Value) (h : y ≠ x) : vupd M x v y = M y := if_neg h
def wfK (x : Int) : Prop := (Lit.int .i64 x).wf = true
theorem wfK_of {x : Int} (h : -9223372036854775808 ≤ x ∧ x ≤ 9223372036854775807) : wfK x := by
  unfold wfK
  have e1 : IntKind.i64.min = -9223372036854775808 := by decide
  have e2 : IntKind.i64.max = 9223372036854775807 := by decide
  simp [Lit.wf]
  omega
/-- A datum says what a plain map says. -/
structure Like (D : DataW Value) (M : Vmap) : Prop where
  has : ∀ x, wfK x → Maps.has D (.int .i64 x) = (M x).isSome
  at_ : ∀ x s, wfK x → M x = some s → ∀ z, D.atKey (.int .i64 x) z = .held s
  key : ∀ x s, M x = some s → wfK x
theorem keyed3 : Keyed Tryz.prog 3 := Maps.int_keyed Tryz.underlying3
theorem key3 {x : Int} (h : wfK x) : keyOf Tryz.prog 3 (.int .i64 x) = some (.int .i64 x) := Maps.keyOf_int_mk Tryz.underlying3 h
def Mp (w : World) (b n : Nat) (M : Vmap) : Prop := ∃ D, w.ownsMap Tryz.prog 3 vR b n D ∧ Maps.size D = n ∧ Like D M
theorem ownsMap_fit {w : World} {b n : Nat} {D : DataW Value} (h : w.ownsMap Tryz.prog 3 vR b n D) : w.ownsMap Tryz.prog 3 vR b (Maps.size D) D := by
  obtain ⟨es, clock, hb, F, hs, rfl⟩ := h
  exact ⟨es, clock, hb, F, by simp [Maps.size, length_sorted], rfl⟩
theorem Mp.lt {w : World} {b n : Nat} {M : Vmap} (h : Mp w b n M) : b < w.heap.size := by
  obtain ⟨D, h1, _⟩ := h
  exact h1.lt
theorem Mp.fr {S : Nat → Prop} {w w' : World} {b n : Nat} {M : Vmap} (h : Mp w b n M) (f : Fr S w w') (hn : ¬ S b) : Mp w' b n M := by
  obtain ⟨D, h1, h2⟩ := h
  refine ⟨D, ?_, h2⟩
  have hlt := h1.lt
  obtain ⟨es, clock, hb, r⟩ := h1
  exact ⟨es, clock, (f.block b hlt hn).trans hb, r⟩
theorem Mp.same {w w' : World} {b n : Nat} {M : Vmap} (h : Mp w b n M) (f : Fr (fun _ => False) w w') : Mp w' b n M := h.fr f (fun f => f)
theorem Mp.made (w : World) : Mp (w.alloc (.map #[] 0)) w.heap.size 0 (fun _ => none) :=
  ⟨.map [], World.ownsMap_made w Tryz.prog 3 vR, rfl, ⟨fun _ _ => rfl, (fun _ _ _ h => by cases h), (fun _ _ h => by cases h)⟩⟩
theorem look_D {D : DataW Value} {M : Vmap} (hl : Like D M) {x : Int} (hx : wfK x) (zv : Value) : D.atKey (.int .i64 x) (.held zv) = .held ((M x).getD zv) := by
  cases hm : M x with
  | none =>
    have := hl.has x hx
    rw [hm] at this
    exact Maps.atKey_of_not_has this _
  | some s => exact hl.at_ x s hx hm _
theorem int_lit_ne {x y : Int} (h : x ≠ y) : (Lit.int .i64 x) ≠ (Lit.int .i64 y) := fun e => by cases e; exact h rfl
theorem Fr.turned {w w' : World} {b : Nat} (h : w.mapTurned w' b) : Fr (fun k => k = b) w w' := (Fr.refl _ w).grown h.grown (fun k e _ => by simp only [Option.some.injEq] at e; exact e.symm)
theorem Mp.look {mt et : TypeId} (hut : Tryz.prog.underlying mt = some (.map 3 et)) {w : World} {b n : Nat} {M : Vmap} (h : Mp w b n M) {zv : Value} (hz : (zeroValue et).run Tryz.prog w = .ok zv w) {x : Int} (hx : wfK x) :
    (Instr.lookup mt (.map (some b)) (.int .i64 x) true).run Tryz.prog w = .ok (.tuple #[(M x).getD zv, .bool (M x).isSome]) w := by
  obtain ⟨D, h1, _, hl⟩ := h
  obtain ⟨v, ps, hrun, hv⟩ := h1.look_ok keyed3 hut hz (show vR zv = some (.held zv, []) from rfl) (key3 hx)
  rw [look_D hl hx] at hv
  simp only [vR, Option.some.injEq, Prod.mk.injEq, DataW.held.injEq] at hv
  rw [hrun, hl.has x hx, hv.1]
theorem Mp.look1 {mt et : TypeId} (hut : Tryz.prog.underlying mt = some (.map 3 et)) {w : World} {b n : Nat} {M : Vmap} (h : Mp w b n M) {zv : Value} (hz : (zeroValue et).run Tryz.prog w = .ok zv w) {x : Int} (hx : wfK x) :
    (Instr.lookup mt (.map (some b)) (.int .i64 x) false).run Tryz.prog w = .ok ((M x).getD zv) w := by
  obtain ⟨D, h1, _, hl⟩ := h
  obtain ⟨v, ps, hrun, hv⟩ := h1.lookup keyed3 hut hz (show vR zv = some (.held zv, []) from rfl) (key3 hx)
  rw [look_D hl hx] at hv
  simp only [vR, Option.some.injEq, Prod.mk.injEq, DataW.held.injEq] at hv
  rw [hrun, hv.1]
theorem Mp.store {mt et : TypeId} (hut : Tryz.prog.underlying mt = some (.map 3 et)) {w : World} {b n : Nat} {M : Vmap} (h : Mp w b n M) (hn : n ≤ 100000000) {x : Int} (hxw : wfK x) (v : Value) :
    ∃ w', (Instr.mapUpdate mt (.map (some b)) (.int .i64 x) v).run Tryz.prog w = .ok () w' ∧ Mp w' b (if (M x).isSome = true then n else n + 1) (vupd M x (some v)) ∧ Fr (fun k => k = b) w w' := by
  obtain ⟨D, h1, h2, hl⟩ := h
  obtain ⟨w', hrun, hown, hturn⟩ := h1.store keyed3 hut (by unfold maxLen; omega) (key3 hxw) (show vR v = some (.held v, []) from rfl)
  have hm := h1.isMap
  have hkl : WideAt.IsKeyLit (Lit.int .i64 x) := trivial
  have hsz : Maps.size (D.put (.int .i64 x) (.held v)) = if (M x).isSome = true then n else n + 1 := by
    rw [Maps.size_put (h1.tidy keyed3), hl.has x hxw, h2]
  refine ⟨w', hrun, ⟨_, ?_, hsz, ⟨fun y hy => ?_, fun y k hy hk z => ?_, fun y k hk => ?_⟩⟩, Fr.turned hturn⟩
  · have := ownsMap_fit hown
    rw [hsz] at this
    exact this
  · by_cases e : y = x
    · subst e; rw [vupd_same, Maps.has_put_same hm hkl]; rfl
    · rw [vupd_other _ e, Maps.has_put_other (int_lit_ne e), hl.has y hy]
  · by_cases e : y = x
    · subst e
      rw [vupd_same] at hk
      simp only [Option.some.injEq] at hk
      subst hk
      exact Maps.atKey_put_same hm hkl _ _
    · rw [vupd_other _ e] at hk
      rw [Maps.atKey_put_other (int_lit_ne e)]
      exact hl.at_ y k hy hk z
  · by_cases e : y = x
    · subst e; exact hxw
    · rw [vupd_other _ e] at hk; exact hl.key y k hk
theorem Mp.drop {mt et : TypeId} (hut : Tryz.prog.underlying mt = some (.map 3 et)) {w : World} {b n : Nat} {M : Vmap} (h : Mp w b n M) {x : Int} (hx : wfK x) (ty : TypeId) :
    ∃ w', (Builtin.delete_ #[mt, 3] ty #[.map (some b), .int .i64 x]).run Tryz.prog w = .ok (.tuple #[]) w' ∧ Mp w' b (if (M x).isSome = true then n - 1 else n) (vupd M x none) ∧ Fr (fun k => k = b) w w' := by
  obtain ⟨D, h1, h2, hl⟩ := h
  obtain ⟨w', hrun, hown, hturn⟩ := h1.drop keyed3 hut (key3 hx) ty
  have hsz : Maps.size (D.del (.int .i64 x)) = if (M x).isSome = true then n - 1 else n := by
    have := Maps.size_del (k := .int .i64 x) (h1.tidy keyed3)
    rw [hl.has x hx, h2] at this
    split
    · rename_i hs; rw [if_pos hs] at this; omega
    · rename_i hs; rw [if_neg hs] at this; omega
  refine ⟨w', hrun, ⟨_, ?_, hsz, ⟨fun y hy => ?_, fun y k hy hk z => ?_, fun y k hk => ?_⟩⟩, Fr.turned hturn⟩
  · have := ownsMap_fit hown
    rw [hsz] at this
    exact this
  · by_cases e : y = x
    · subst e; rw [vupd_same, Maps.has_del_same]; rfl
    · rw [vupd_other _ e, Maps.has_del_other (int_lit_ne e), hl.has y hy]
  · by_cases e : y = x
    · subst e; rw [vupd_same] at hk; cases hk
    · rw [vupd_other _ e] at hk
      rw [Maps.atKey_del_other (int_lit_ne e)]
      exact hl.at_ y k hy hk z
  · by_cases e : y = x
    · subst e; rw [vupd_same] at hk; cases hk
    · rw [vupd_other _ e] at hk; exact hl.key y k hk
theorem Mp.len {mt et : TypeId} (hut : Tryz.prog.underlying mt = some (.map 3 et)) {w : World} {b n : Nat} {M : Vmap} (h : Mp w b n M) (ty : TypeId) : (Builtin.len_ #[mt] ty #[.map (some b)]).run Tryz.prog w = .ok (.int .i64 (n : Nat)) w := by
  obtain ⟨D, h1, h2, hl⟩ := h
  rw [h1.len hut ty, h2]
end Go.Proofs.YtkibbojiflklpaaGreat

/- A replay in memory. -/
namespace Go.Proofs.YtkibbojiflklpaaGreat
open Go.RowKit Go.Shelf

/-- What a replay is: its workers, of each the records that wait, what was fed, the point, the greatest LSN that is done, the pages. -/
structure RSt where
  wk : Nat
  L : Nat → List Wg
  fed : Int
  point : Int
  top : Int
  pg : Int → Option Nd
/-- Of a queue: where its row lies. -/
structure QA where
  a : Option Addr
  n : Nat
  c : Nat
  d : Nat
  ws : List Wg
def QA.own (q : QA) : Option Nat := (Value.slice q.a q.n q.c).ownBlock
/-- The cells of a replay. -/
structure RyC (A : Array Value) (m : Nat) (R : RSt) (q : Nat → QA) : Prop where
  size : A.size = 21
  map : A[0]? = some (.map (some m))
  wk : A[1]? = some (.int .i64 (R.wk : Int))
  row : ∀ i, i < 8 → A[2 + 2 * i]? = some (.slice (q i).a (q i).n (q i).c)
  done : ∀ i, i < 8 → A[2 + 2 * i + 1]? = some (.int .i64 ((q i).d : Int))
  fed : A[18]? = some (.int .i64 R.fed)
  point : A[19]? = some (.int .i64 R.point)
  top : A[20]? = some (.int .i64 R.top)
/-- A replay at block b, whose own blocks are in S; no queue's row is longer than N. -/
structure RyI (w : World) (S : Nat → Prop) (b : Nat) (R : RSt) (N : Nat) (A : Array Value) (m cnt : Nat) (q : Nat → QA) (pt : Int → Pt) : Prop where
  blk : w.heap[b]? = some (.cells A 91 (0, 0))
  cells : RyC A m R q
  few : R.wk ≤ 8
  rows : ∀ i, i < 8 → Rw w (q i).a (q i).n (q i).c (q i).ws ∧ (q i).d ≤ (q i).n ∧ (q i).n ≤ N ∧ (q i).ws.drop (q i).d = R.L i
  pages : Mp w m cnt (fun x => (R.pg x).map (fun n => (.agg #[.int .i64 n.lev, .int .i64 n.lsn, .int .i64 n.rgt, .string n.high, .slice (pt x).k n.keys.length (pt x).kc, .slice (pt x).v n.vals.length (pt x).vc, .slice (pt x).i n.kids.length (pt x).ic])))
  cntN : cnt ≤ N
  nods : ∀ x n, R.pg x = some n → Nod w n (pt x) ∧ Off S n (pt x)
  ob : S b
  om : S m
  bm : b ≠ m
  oq : ∀ i k, i < 8 → (q i).own = some k → S k ∧ k ≠ b ∧ k ≠ m
  apart : ∀ i j k, i < 8 → j < 8 → (q i).own = some k → (q j).own = some k → i = j
  lt : ∀ k, S k → k < w.heap.size
def Ry (w : World) (S : Nat → Prop) (b : Nat) (R : RSt) (N : Nat) : Prop := ∃ A m cnt q pt, RyI w S b R N A m cnt q pt
theorem RyI.same {w w' : World} {S : Nat → Prop} {b : Nat} {R : RSt} {N : Nat} {A : Array Value} {m cnt : Nat} {q : Nat → QA} {pt : Int → Pt} (h : RyI w S b R N A m cnt q pt) (f : Fr (fun _ => False) w w') : RyI w' S b R N A m cnt q pt :=
  ⟨(f.block _ (lt_of_block h.blk) (fun e => e)).trans h.blk, h.cells, h.few, fun i hi => ⟨(h.rows i hi).1.fr f (fun _ _ e => e), (h.rows i hi).2⟩, h.pages.same f, h.cntN, fun x n hx => ⟨(h.nods x n hx).1.same f, (h.nods x n hx).2⟩, h.ob, h.om, h.bm, h.oq, h.apart, fun k hk => Nat.lt_of_lt_of_le (h.lt k hk) f.size⟩
theorem Ry.same {w w' : World} {S : Nat → Prop} {b : Nat} {R : RSt} {N : Nat} (h : Ry w S b R N) (f : Fr (fun _ => False) w w') : Ry w' S b R N := by
  obtain ⟨A, m, cnt, q, pt, h⟩ := h
  exact ⟨A, m, cnt, q, pt, h.same f⟩
/-- What a call leaves. -/
def RyTo (w : World) (S : Nat → Prop) (b : Nat) (R : RSt) (N : Nat) (w' : World) : Prop := ∃ S', Ry w' S' b R N ∧ (∀ k, S' k → S k ∨ w.heap.size ≤ k) ∧ (∀ k, S k → S' k) ∧ Fr S w w'
section
variable {w : World} {S : Nat → Prop} {b : Nat} {R : RSt} {N : Nat} {A : Array Value} {m cnt : Nat} {q : Nat → QA} {pt : Int → Pt}
theorem RyI.cell (h : RyI w S b R N A m cnt q pt) : w.cell? ⟨b, 0, none⟩ = some (.map (some m)) ∧ w.cell? ⟨b, 1, none⟩ = some (.int .i64 (R.wk : Int)) ∧ w.cell? ⟨b, 18, none⟩ = some (.int .i64 R.fed) ∧ w.cell? ⟨b, 19, none⟩ = some (.int .i64 R.point) ∧ w.cell? ⟨b, 20, none⟩ = some (.int .i64 R.top) ∧ (∀ j, w.frozen? ⟨b, j, none⟩ = false) ∧ b < w.heap.size :=
  ⟨(cell_blkR h.blk 0).trans h.cells.map, (cell_blkR h.blk 1).trans h.cells.wk, (cell_blkR h.blk 18).trans h.cells.fed, (cell_blkR h.blk 19).trans h.cells.point, (cell_blkR h.blk 20).trans h.cells.top, fun j => frozen_blk h.blk j, lt_of_block h.blk⟩
theorem ry_cnt (w : World) (h : Ry w S b R N) : Calls Tryz.prog 43 #[.pointer (some ⟨b, 0, none⟩)] w fun e w' => e = .returned (.int .i64 (R.wk : Int)) ∧ w' = w := by
  obtain ⟨A, m, cnt, q, pt, h⟩ := h
  obtain ⟨c0, c1, c18, c19, c20, cz, cb⟩ := h.cell
  clear h
  go_enter Tryz.func43, Tryz.ntmps43
  go_wp2
  go_ret
  exact ⟨rfl, rfl⟩
theorem ry_fedv (w : World) (h : Ry w S b R N) : Calls Tryz.prog 53 #[.pointer (some ⟨b, 0, none⟩)] w fun e w' => e = .returned (.int .i64 R.fed) ∧ w' = w := by
  obtain ⟨A, m, cnt, q, pt, h⟩ := h
  obtain ⟨c0, c1, c18, c19, c20, cz, cb⟩ := h.cell
  clear h
  go_enter Tryz.func53, Tryz.ntmps53
  go_wp2
  go_ret
  exact ⟨rfl, rfl⟩
/-- The first record that waits for a worker. -/
def FirO (w : World) (l : List Wg) (e : Ending) (w' : World) : Prop := (e = .returned (.tuple #[wgV (l.headD wgZ), .bool (!l.isEmpty)])) ∧ Fr (fun _ => False) w w'
theorem ry_first (w : World) (h : Ry w S b R N) (hN : N ≤ 1000000) (i : Nat) (hi : i < 8) : Calls Tryz.prog 46 #[.pointer (some ⟨b, 2 + 2 * i, none⟩)] w (FirO w (R.L i)) := by
  obtain ⟨A, m, cnt, q, pt, h⟩ := h
  obtain ⟨hr, hd, hn, hl⟩ := h.rows i hi
  have h0 := (cell_blkR h.blk (2 + 2 * i)).trans (h.cells.row i hi)
  have h1 := (cell_blkR h.blk (2 + 2 * i + 1)).trans (h.cells.done i hi)
  have hq : Qu w b (2 + 2 * i) (q i).a (q i).n (q i).c (q i).d := ⟨h0, h1, hd, by omega⟩
  have hb := lt_of_block h.blk
  cases he : R.L i with
  | nil =>
    have hdn : (q i).d = (q i).n := by
      have : ((q i).ws.drop (q i).d).length = 0 := by rw [hl, he]; rfl
      rw [List.length_drop, ← hr.1] at this
      omega
    rw [hdn] at hq
    exact (q_first_no w hb hq).mono fun e w' ⟨h1, h2⟩ => ⟨h1, h2⟩
  | cons x l =>
    have hx : (q i).ws[(q i).d]? = some x := by
      rw [← List.head?_drop, hl, he]; rfl
    have hdn : (q i).d < (q i).n := by rw [hr.1]; exact (List.getElem?_eq_some_iff.1 hx).1
    obtain ⟨g, off, ea, hg, _⟩ := hr.some (by omega)
    rw [ea] at hq
    have hws := hr.wgs
    rw [ea] at hws
    exact (q_first_yes w hb hq hr.1 hx hws).mono fun e w' ⟨h1, h2⟩ => ⟨h1, h2⟩
end
end Go.Proofs.YtkibbojiflklpaaGreat

/- Of all records that wait, the one of the least LSN; the consistent point; up to where all is done. -/
namespace Go.Proofs.YtkibbojiflklpaaGreat
open Go.RowKit Go.Shelf

def stepN (acc : Option Wg) (l : List Wg) : Option Wg := match l.head? with
  | none => acc
  | some x => match acc with
    | none => some x
    | some y => if x.1.lsn < y.1.lsn then some x else some y
def nextN (R : RSt) (k : Nat) : Option Wg := (List.range k).foldl (fun acc i => stepN acc (R.L i)) none
def nextR (R : RSt) : Option Wg := nextN R R.wk
theorem nextN_succ (R : RSt) (k : Nat) : nextN R (k + 1) = stepN (nextN R k) (R.L k) := by unfold nextN; rw [List.range_succ, List.foldl_append]; rfl
def wgA (x : Wg) : Array Value := #[.int .i64 x.1.lsn, .int .i64 x.1.ep, .int .i64 x.1.kind, .int .i64 x.1.page, .int .i64 x.1.other, .int .i64 x.1.req, .string x.1.key, .string x.1.val, .int .i64 x.2]
/-- Nine cells of a block that is not of w. -/
theorem put9_fr {w V : World} {g : Nat} {t : TypeId} {c0 c1 c2 c3 c4 c5 c6 c7 c8 : Value} (h : V.heap[g]? = some (.cells #[c0, c1, c2, c3, c4, c5, c6, c7, c8] t (0, 0))) (f : Fr (fun _ => False) w V) (hg : w.heap.size ≤ g) (v0 v1 v2 v3 v4 v5 v6 v7 v8 : Value) : Fr (fun _ => False) w (put9 V g v0 v1 v2 v3 v4 v5 v6 v7 v8) := f.trans (put9_is h v0 v1 v2 v3 v4 v5 v6 v7 v8).2 (fun i hi e => by omega)
section
variable {S : Nat → Prop} {b : Nat} {R : RSt} {N : Nat}
def NxtO (w : World) (R : RSt) (e : Ending) (w' : World) : Prop := e = .returned (.tuple #[wgV ((nextR R).getD wgZ), .bool (nextR R).isSome]) ∧ Fr (fun _ => False) w w'
set_option maxRecDepth 100000 in
set_option maxHeartbeats 16000000 in
theorem ry_nextv (w : World) (h : Ry w S b R N) (hN : N ≤ 1000000) : Calls Tryz.prog 49 #[.pointer (some ⟨b, 0, none⟩)] w (NxtO w R) := by
  have HR : Hid (∀ W, Fr (fun _ => False) w W → Ry W S b R N) := fun W f => h.same f
  have hwk : R.wk ≤ 8 := by obtain ⟨_, _, _, _, _, h⟩ := h; exact h.few
  have hb : b < w.heap.size := by obtain ⟨_, _, _, _, _, h⟩ := h; exact lt_of_block h.blk
  have f1 := Fr.box w (.cells (wgA wgZ) 98)
  have f2 := Fr.box (w.alloc (.cells (wgA wgZ) 98)) (.cells (wgA wgZ) 98)
  have hcn := ry_cnt _ (HR.out _ (f1.seq' f2))
  have HB2 : Hid (((w.alloc (.cells (wgA wgZ) 98)).alloc (.cells (wgA wgZ) 98)).heap[w.heap.size]? = some (.cells (wgA wgZ) 98 (0, 0))) := f2.blk (heap_alloc_new w _) (fun e => e)
  have HB4 : Hid (((w.alloc (.cells (wgA wgZ) 98)).alloc (.cells (wgA wgZ) 98)).heap[w.heap.size + 1]? = some (.cells (wgA ((nextN R 0).getD wgZ)) 98 (0, 0))) := by
    have := heap_alloc_new (w.alloc (.cells (wgA wgZ) 98)) (.cells (wgA wgZ) 98)
    rwa [show (w.alloc (.cells (wgA wgZ) 98)).heap.size = w.heap.size + 1 by simp] at this
  have HF0 : Hid (Fr (fun _ => False) w ((w.alloc (.cells (wgA wgZ) 98)).alloc (.cells (wgA wgZ) 98))) := f1.seq' f2
  clear h f1 f2
  go_enter Tryz.func49, Tryz.ntmps49
  go_wp2_with fail
  refine hcn.mono ?_
  rintro e w3 ⟨rfl, rfl⟩
  clear hcn
  go_wp2
  go_loopw [5, 11] (fun v i wr => ∃ k : Nat, k ≤ R.wk ∧ i = .int .i64 k ∧ v = .bool (nextN R k).isSome ∧ Hid (wr.heap[w.heap.size + 1]? = some (.cells (wgA ((nextN R k).getD wgZ)) 98 (0, 0))) ∧ Hid (wr.heap[w.heap.size]? = some (.cells (wgA wgZ) 98 (0, 0))) ∧ Hid (Fr (fun _ => False) w wr)) (fun _ i _ => R.wk - (intOf i).toNat)
  case atStart => exact ⟨0, by omega, rfl, rfl, HB4.out, HB2.out, HF0.out⟩
  case round =>
    obtain ⟨k, hk, rfl, rfl, H4, H2, HF⟩ := hrel
    clear HB2 HB4 HF0
    by_cases hlt : k < R.wk
    · have hki : (k : Int) < (R.wk : Int) := by omega
      have hfi := ry_first wr (HR.out _ HF.out) hN k (by omega)
      have HNS : Hid (nextN R (k + 1) = stepN (nextN R k) (R.L k)) := nextN_succ R k
      rw [show 2 + 2 * k = 2 + k * 2 by omega] at hfi
      have hk8 : (k : Int) < 8 := by omega
      obtain ⟨acc, hacc⟩ : ∃ acc, acc = nextN R k := ⟨_, rfl⟩
      rw [← hacc] at H4 HNS
      simp only [← hacc]
      obtain ⟨l, hl⟩ : ∃ l, l = R.L k := ⟨_, rfl⟩
      rw [← hl] at hfi HNS
      unfold FirO at hfi
      clear hl
      cases l with
      | nil =>
        dsimp only [List.headD, List.isEmpty, Bool.not_true] at hfi
        have HNX : Hid (acc = nextN R (k + 1)) := by show _ = _; rw [HNS.out]; rfl
        have HSOME : Hid (acc.isSome = (nextN R (k + 1)).isSome) := by show _ = _; rw [← HNX.out]
        clear hacc HNS
        go_wp2_with fail
        refine hfi.mono ?_
        rintro e w3 ⟨rfl, f3⟩
        have HFX : Hid (Fr (fun _ => False) wr (w3.alloc (.cells (wgA wgZ) 98))) := f3.seq' (Fr.box _ _)
        have HF5 : Hid (Fr (fun _ => False) w (w3.alloc (.cells (wgA wgZ) 98))) := HF.out.seq' HFX.out
        have H45 : Hid ((w3.alloc (.cells (wgA wgZ) 98)).heap[w.heap.size + 1]? = some (.cells (wgA ((nextN R (k + 1)).getD wgZ)) 98 (0, 0))) := by
          show _ = _
          rw [← HNX.out]
          exact HFX.out.blk H4.out (fun e => e)
        have H25 : Hid ((w3.alloc (.cells (wgA wgZ) 98)).heap[w.heap.size]? = some (.cells (wgA wgZ) 98 (0, 0))) := HFX.out.blk H2.out (fun e => e)
        clear hfi f3 H4 H2 HF HFX
        unfold wgV wgZ
        dsimp only
        go_wp2
        go_roundw
        case rel => exact ⟨k + 1, by omega, by go_num, by rw [HSOME.out], H45, H25, HF5⟩
        case measure => simp [intOf]; omega
      | cons x t =>
        dsimp only [List.headD, List.isEmpty, Bool.not_false] at hfi
        cases acc with
        | none =>
          have HNX : Hid (nextN R (k + 1) = some x) := by show _ = _; rw [HNS.out]; rfl
          clear hacc HNS
          dsimp only [Option.isSome]
          go_wp2_with fail
          refine hfi.mono ?_
          rintro e w3 ⟨rfl, f3⟩
          have FX : Fr (fun _ => False) wr (w3.alloc (.cells (wgA x) 98)) := f3.seq' (Fr.box _ _)
          have h4 := FX.blk H4.out (fun e => e)
          have h2 := FX.blk H2.out (fun e => e)
          have FW := HF.out.seq' FX
          obtain ⟨⟨lsn, ep, kind, page, other, req, key, val⟩, pn⟩ := x
          unfold wgA at h4 h2 FW
          unfold wgZ at h4 h2
          unfold wgV
          dsimp only [Option.getD] at h4 h2 FW ⊢
          obtain ⟨z0, z1, z2, z3, z4, z5, z6, z7, z8, z9⟩ := nine_cells h4
          obtain ⟨hp, fp⟩ := put9_is h4 (.int .i64 lsn) (.int .i64 ep) (.int .i64 kind) (.int .i64 page) (.int .i64 other) (.int .i64 req) (.string key) (.string val) (.int .i64 pn)
          have H45 : Hid ((put9 (w3.alloc (.cells #[.int .i64 lsn, .int .i64 ep, .int .i64 kind, .int .i64 page, .int .i64 other, .int .i64 req, .string key, .string val, .int .i64 pn] 98)) (w.heap.size + 1) (.int .i64 lsn) (.int .i64 ep) (.int .i64 kind) (.int .i64 page) (.int .i64 other) (.int .i64 req) (.string key) (.string val) (.int .i64 pn)).heap[w.heap.size + 1]? = some (.cells (wgA ((nextN R (k + 1)).getD wgZ)) 98 (0, 0))) := by
            show _ = _
            rw [HNX.out]; exact hp
          have H25 : Hid ((put9 (w3.alloc (.cells #[.int .i64 lsn, .int .i64 ep, .int .i64 kind, .int .i64 page, .int .i64 other, .int .i64 req, .string key, .string val, .int .i64 pn] 98)) (w.heap.size + 1) (.int .i64 lsn) (.int .i64 ep) (.int .i64 kind) (.int .i64 page) (.int .i64 other) (.int .i64 req) (.string key) (.string val) (.int .i64 pn)).heap[w.heap.size]? = some (.cells (wgA wgZ) 98 (0, 0))) := (fp.block _ (lt_of_block h2) (fun e => by omega)).trans h2
          have HF5 : Hid (Fr (fun _ => False) w (put9 (w3.alloc (.cells #[.int .i64 lsn, .int .i64 ep, .int .i64 kind, .int .i64 page, .int .i64 other, .int .i64 req, .string key, .string val, .int .i64 pn] 98)) (w.heap.size + 1) (.int .i64 lsn) (.int .i64 ep) (.int .i64 kind) (.int .i64 page) (.int .i64 other) (.int .i64 req) (.string key) (.string val) (.int .i64 pn))) := put9_fr h4 FW (by omega) _ _ _ _ _ _ _ _ _
          have hg1 := lt_of_block H4.out
          have hs3 := f3.size
          unfold put9 at H45 H25 HF5
          clear hfi f3 H4 H2 HF FX h4 h2 FW hp fp
          go_wp2
          go_roundw
          case rel => exact ⟨k + 1, by omega, by go_num, by rw [HNX.out], H45, H25, HF5⟩
          case measure => simp [intOf]; omega
        | some y =>
          by_cases hxy : x.1.lsn < y.1.lsn
          · skip
            have HNX : Hid (nextN R (k + 1) = some x) := by show _ = _; rw [HNS.out]; show (if _ then _ else _) = _; rw [if_pos hxy]
            clear hacc HNS
            dsimp only [Option.isSome]
            go_wp2_with fail
            refine hfi.mono ?_
            rintro e w3 ⟨rfl, f3⟩
            have FX : Fr (fun _ => False) wr (w3.alloc (.cells (wgA x) 98)) := f3.seq' (Fr.box _ _)
            have h4 := FX.blk H4.out (fun e => e)
            have h2 := FX.blk H2.out (fun e => e)
            have FW := HF.out.seq' FX
            obtain ⟨⟨lsn, ep, kind, page, other, req, key, val⟩, pn⟩ := x
            obtain ⟨⟨lsn', ep', kind', page', other', req', key', val'⟩, pn'⟩ := y
            dsimp only at hxy
            unfold wgA at h4 h2 FW
            unfold wgZ at h2
            unfold wgV
            dsimp only [Option.getD] at h4 h2 FW ⊢
            obtain ⟨z0, z1, z2, z3, z4, z5, z6, z7, z8, z9⟩ := nine_cells h4
            obtain ⟨hp, fp⟩ := put9_is h4 (.int .i64 lsn) (.int .i64 ep) (.int .i64 kind) (.int .i64 page) (.int .i64 other) (.int .i64 req) (.string key) (.string val) (.int .i64 pn)
            have H45 : Hid ((put9 (w3.alloc (.cells #[.int .i64 lsn, .int .i64 ep, .int .i64 kind, .int .i64 page, .int .i64 other, .int .i64 req, .string key, .string val, .int .i64 pn] 98)) (w.heap.size + 1) (.int .i64 lsn) (.int .i64 ep) (.int .i64 kind) (.int .i64 page) (.int .i64 other) (.int .i64 req) (.string key) (.string val) (.int .i64 pn)).heap[w.heap.size + 1]? = some (.cells (wgA ((nextN R (k + 1)).getD wgZ)) 98 (0, 0))) := by
              show _ = _
              rw [HNX.out]; exact hp
            have H25 : Hid ((put9 (w3.alloc (.cells #[.int .i64 lsn, .int .i64 ep, .int .i64 kind, .int .i64 page, .int .i64 other, .int .i64 req, .string key, .string val, .int .i64 pn] 98)) (w.heap.size + 1) (.int .i64 lsn) (.int .i64 ep) (.int .i64 kind) (.int .i64 page) (.int .i64 other) (.int .i64 req) (.string key) (.string val) (.int .i64 pn)).heap[w.heap.size]? = some (.cells (wgA wgZ) 98 (0, 0))) := (fp.block _ (lt_of_block h2) (fun e => by omega)).trans h2
            have HF5 : Hid (Fr (fun _ => False) w (put9 (w3.alloc (.cells #[.int .i64 lsn, .int .i64 ep, .int .i64 kind, .int .i64 page, .int .i64 other, .int .i64 req, .string key, .string val, .int .i64 pn] 98)) (w.heap.size + 1) (.int .i64 lsn) (.int .i64 ep) (.int .i64 kind) (.int .i64 page) (.int .i64 other) (.int .i64 req) (.string key) (.string val) (.int .i64 pn))) := put9_fr h4 FW (by omega) _ _ _ _ _ _ _ _ _
            have hg1 := lt_of_block H4.out
            have hs3 := f3.size
            unfold put9 at H45 H25 HF5
            clear hfi f3 H4 H2 HF FX h4 h2 FW hp fp
            go_wp2
            go_roundw
            case rel => exact ⟨k + 1, by omega, by go_num, by rw [HNX.out], H45, H25, HF5⟩
            case measure => simp [intOf]; omega
          · have HNX : Hid (nextN R (k + 1) = some y) := by show _ = _; rw [HNS.out]; show (if _ then _ else _) = _; rw [if_neg hxy]
            clear hacc HNS
            dsimp only [Option.isSome]
            go_wp2_with fail
            refine hfi.mono ?_
            rintro e w3 ⟨rfl, f3⟩
            have FX : Fr (fun _ => False) wr (w3.alloc (.cells (wgA x) 98)) := f3.seq' (Fr.box _ _)
            have h4 := FX.blk H4.out (fun e => e)
            have HF5 : Hid (Fr (fun _ => False) w (w3.alloc (.cells (wgA x) 98))) := HF.out.seq' FX
            have H45 : Hid ((w3.alloc (.cells (wgA x) 98)).heap[w.heap.size + 1]? = some (.cells (wgA ((nextN R (k + 1)).getD wgZ)) 98 (0, 0))) := by
              show _ = _
              rw [HNX.out]; exact h4
            have H25 : Hid ((w3.alloc (.cells (wgA x) 98)).heap[w.heap.size]? = some (.cells (wgA wgZ) 98 (0, 0))) := FX.blk H2.out (fun e => e)
            obtain ⟨⟨lsn, ep, kind, page, other, req, key, val⟩, pn⟩ := x
            obtain ⟨⟨lsn', ep', kind', page', other', req', key', val'⟩, pn'⟩ := y
            dsimp only at hxy
            unfold wgA at h4
            unfold wgV
            dsimp only [Option.getD] at h4 ⊢
            obtain ⟨z0, z1, z2, z3, z4, z5, z6, z7, z8, z9⟩ := nine_cells h4
            have hg1 := lt_of_block H4.out
            have hs3 := f3.size
            clear hfi f3 H4 H2 HF FX h4
            go_wp2
            go_roundw
            case rel => exact ⟨k + 1, by omega, by go_num, by rw [HNX.out], H45, H25, HF5⟩
            case measure => simp [intOf]; omega
    · obtain rfl : k = R.wk := by omega
      have hnr : nextN R R.wk = nextR R := rfl
      obtain ⟨acc, hacc⟩ : ∃ acc, acc = nextR R := ⟨_, rfl⟩
      have HACC : Hid (acc = nextR R) := hacc
      rw [hnr, ← hacc] at H4
      simp only [hnr, ← hacc]
      clear hnr hacc
      obtain ⟨⟨⟨lsn, ep, kind, page, other, req, key, val⟩, pn⟩, hX⟩ : ∃ X, X = acc.getD wgZ := ⟨_, rfl⟩
      have HXE : Hid ((⟨⟨lsn, ep, kind, page, other, req, key, val⟩, pn⟩ : Wg) = acc.getD wgZ) := hX
      rw [← hX] at H4
      have h4 := H4.out
      have h2 := H2.out
      unfold wgA at h4 h2
      unfold wgZ at h2
      dsimp only at h4 h2
      obtain ⟨z0, z1, z2, z3, z4, z5, z6, z7, z8, z9⟩ := nine_cells h4
      obtain ⟨u0, u1, u2, u3, u4, u5, u6, u7, u8, u9⟩ := nine_cells h2
      obtain ⟨hp, fp⟩ := put9_is h2 (.int .i64 lsn) (.int .i64 ep) (.int .i64 kind) (.int .i64 page) (.int .i64 other) (.int .i64 req) (.string key) (.string val) (.int .i64 pn)
      have HFF : Hid (Fr (fun _ => False) w (put9 wr w.heap.size (.int .i64 lsn) (.int .i64 ep) (.int .i64 kind) (.int .i64 page) (.int .i64 other) (.int .i64 req) (.string key) (.string val) (.int .i64 pn))) := put9_fr h2 HF.out (Nat.le_refl _) _ _ _ _ _ _ _ _ _
      clear h4 h2 H4 H2 HF hX fp
      go_wp2
      obtain ⟨y0, y1, y2, y3, y4, y5, y6, y7, y8, _⟩ := nine_cells hp
      unfold put9 at y0 y1 y2 y3 y4 y5 y6 y7 y8
      refine bodyPost_ret (v := .tuple #[wgV (⟨lsn, ep, kind, page, other, req, key, val⟩, pn), .bool acc.isSome]) (by simp [results, Tryz.results49, go_sem, y0, y1, y2, y3, y4, y5, y6, y7, y8, wgV]) rfl ?_
      refine ⟨?_, HFF.out⟩
      rw [← HACC.out, ← HXE.out]
end
end Go.Proofs.YtkibbojiflklpaaGreat

/- What becomes of a replay: a number that is stored anew, a queue that is another one. -/
namespace Go.Proofs.YtkibbojiflklpaaGreat
open Go.RowKit Go.Shelf

theorem Off.or {S T : Nat → Prop} {n : Nd} {p : Pt} (h : Off S n p) (g : Off T n p) : Off (fun k => S k ∨ T k) n p := by
  obtain ⟨a1, a2, a3⟩ := h
  obtain ⟨b1, b2, b3⟩ := g
  refine ⟨?_, ?_, ?_⟩
  · rcases a1 with e | a1
    · exact .inl e
    · rcases b1 with e | b1
      · exact .inl e
      · exact .inr fun b o e hs => hs.elim (a1 b o e) (b1 b o e)
  · rcases a2 with e | a1
    · exact .inl e
    · rcases b2 with e | b1
      · exact .inl e
      · exact .inr fun b o e hs => hs.elim (a1 b o e) (b1 b o e)
  · rcases a3 with e | a1
    · exact .inl e
    · rcases b3 with e | b1
      · exact .inl e
      · exact .inr fun b o e hs => hs.elim (a1 b o e) (b1 b o e)
theorem Off.sub {S T : Nat → Prop} {n : Nd} {p : Pt} (h : Off S n p) (g : ∀ k, T k → S k) : Off T n p := by
  obtain ⟨a1, a2, a3⟩ := h
  exact ⟨a1.imp id (fun a b o e t => a b o e (g b t)), a2.imp id (fun a b o e t => a b o e (g b t)), a3.imp id (fun a b o e t => a b o e (g b t))⟩
section
variable {w : World} {S : Nat → Prop} {b : Nat} {R : RSt} {N : Nat} {A : Array Value} {m cnt : Nat} {q : Nat → QA} {pt : Int → Pt}
/-- One of the three numbers is stored anew. -/
theorem RyI.num (h : RyI w S b R N A m cnt q pt) {R2 : RSt} {A2 : Array Value} (j : Nat) (hj : j = 18 ∨ j = 19 ∨ j = 20) (v : Value) (hA : A2 = A.setIfInBounds j v) (h1 : R2.wk = R.wk) (h2 : R2.L = R.L) (h3 : R2.pg = R.pg) (hf : A2[18]? = some (.int .i64 R2.fed)) (hp : A2[19]? = some (.int .i64 R2.point)) (ht : A2[20]? = some (.int .i64 R2.top)) : RyI (w.setCell ⟨b, j, none⟩ v) S b R2 N A2 m cnt q pt ∧ Fr (fun k => k = b) w (w.setCell ⟨b, j, none⟩ v) := by
  have f : Fr (fun k => k = b) w (w.setCell ⟨b, j, none⟩ v) := (Fr.refl (fun k => k = b) w).setCell (p := ⟨b, j, none⟩) (fun _ => rfl) _
  have ho : ∀ k, k ≠ j → A2[k]? = A[k]? := fun k hk => by rw [hA, Array.getElem?_setIfInBounds_ne (by omega)]
  have fS : Fr S w (w.setCell ⟨b, j, none⟩ v) := (Fr.refl S w).trans f (fun k _ e => by rw [e]; exact h.ob)
  refine ⟨⟨?_, ⟨?_, ?_, ?_, fun i hi => ?_, fun i hi => ?_, hf, hp, ht⟩, by rw [h1]; exact h.few, fun i hi => ?_, ?_, h.cntN, fun x n hx => ?_, h.ob, h.om, h.bm, h.oq, h.apart, fun k hk => Nat.lt_of_lt_of_le (h.lt k hk) f.size⟩, f⟩
  · rw [hA]; exact set_blk h.blk j v
  · rw [hA]; simp [h.cells.size]
  · rw [ho 0 (by omega)]; exact h.cells.map
  · rw [ho 1 (by omega), h1]; exact h.cells.wk
  · rw [ho _ (by omega)]; exact h.cells.row i hi
  · rw [ho _ (by omega)]; exact h.cells.done i hi
  · rw [h2]
    exact ⟨(h.rows i hi).1.fr f (fun k e ek => (h.oq i k hi e).2.1 ek), (h.rows i hi).2⟩
  · rw [h3]; exact h.pages.fr f (fun e => h.bm e.symm)
  · rw [h3] at hx
    exact ⟨(h.nods x n hx).1.frS fS (h.nods x n hx).2, (h.nods x n hx).2⟩
def qupd (L : Nat → List Wg) (i : Nat) (l : List Wg) : Nat → List Wg := fun j => if j = i then l else L j
/-- A queue is another one. -/
theorem RyI.que (h : RyI w S b R N A m cnt q pt) {i : Nat} (hi : i < 8) {l : List Wg} {w' : World} (t : QTo w b (2 + 2 * i) A 91 (q i).a (q i).n (q i).c l w') : RyTo w S b { R with L := qupd R.L i l } (N + 1) w' := by
  obtain ⟨A2, a2, n2, c2, d2, ws2, g1, g2, g3, g4, g5, g6, g7, g8, g9, g10, g11⟩ := t
  have fS : Fr S w w' := (Fr.refl S w).trans g10 (fun k _ e => by
    rcases e with e | e
    · rw [e]; exact h.ob
    · exact (h.oq i k hi e).1)
  have hnew : ∀ k, (Value.slice a2 n2 c2).ownBlock = some k → ((q i).own = some k) ∨ w.heap.size ≤ k := fun k e => by
    rcases g11 with h1 | ⟨g, h1, hg⟩
    · exact .inl (by rw [← e, h1]; rfl)
    · rw [h1] at e; cases e; exact .inr hg
  have hbl := lt_of_block h.blk
  have hml := h.pages.lt
  refine ⟨fun k => S k ∨ (Value.slice a2 n2 c2).ownBlock = some k, ⟨A2, m, cnt, fun j => if j = i then ⟨a2, n2, c2, d2, ws2⟩ else q j, pt, g1, ⟨by rw [g2]; exact h.cells.size, ?_, ?_, fun j hj => ?_, fun j hj => ?_, ?_, ?_, ?_⟩, h.few, fun j hj => ?_, ?_, by have := h.cntN; omega, fun x n hx => ?_, .inl h.ob, .inl h.om, h.bm, fun j k hj e => ?_, fun j1 j2 k h1 h2 e1 e2 => ?_, fun k hk => ?_⟩, fun k hk => ?_, fun k hk => .inl hk, fS⟩
  · rw [g5 0 (by omega) (by omega)]; exact h.cells.map
  · rw [g5 1 (by omega) (by omega)]; exact h.cells.wk
  · by_cases e : j = i
    · subst e; simp only [if_true]; exact g3
    · simp only [if_neg e]; rw [g5 _ (by omega) (by omega)]; exact h.cells.row j hj
  · by_cases e : j = i
    · subst e; simp only [if_true]; exact g4
    · simp only [if_neg e]; rw [g5 _ (by omega) (by omega)]; exact h.cells.done j hj
  · rw [g5 18 (by omega) (by omega)]; exact h.cells.fed
  · rw [g5 19 (by omega) (by omega)]; exact h.cells.point
  · rw [g5 20 (by omega) (by omega)]; exact h.cells.top
  · by_cases e : j = i
    · subst e
      simp only [if_true, qupd]
      exact ⟨g6, g7, by have := (h.rows j hj).2.2.1; omega, g9⟩
    · simp only [if_neg e, qupd]
      refine ⟨(h.rows j hj).1.fr g10 (fun k ek hk => ?_), (h.rows j hj).2.1, by have := (h.rows j hj).2.2.1; omega, (h.rows j hj).2.2.2⟩
      rcases hk with hk | hk
      · exact (h.oq j k hj ek).2.1 hk
      · exact e (h.apart j i k hj hi ek hk)
  · refine h.pages.fr g10 (fun e => ?_)
    rcases e with e | e
    · exact h.bm e.symm
    · exact (h.oq i m hi e).2.2 rfl
  · obtain ⟨k1, k2⟩ := h.nods x n hx
    refine ⟨k1.frS fS k2, ?_⟩
    refine (k2.or (T := fun k => w.heap.size ≤ k) (k1.far (fun b' hb' => by omega))).sub (fun k hk => ?_)
    rcases hk with hk | hk
    · exact .inl hk
    · rcases hnew k hk with e | e
      · exact .inl (h.oq i k hi e).1
      · exact .inr e
  · by_cases ej : j = i
    · subst ej
      simp only [if_true, QA.own] at e
      refine ⟨.inr e, ?_⟩
      rcases hnew k e with e | e
      · exact (h.oq j k hj e).2
      · exact ⟨by omega, by omega⟩
    · simp only [if_neg ej] at e
      exact ⟨.inl (h.oq j k hj e).1, (h.oq j k hj e).2⟩
  · have key : ∀ j k, j < 8 → j ≠ i → (q j).own = some k → (Value.slice a2 n2 c2).ownBlock = some k → False := fun j k hj hne e1 e2 => by
      rcases hnew k e2 with e | e
      · exact hne (h.apart j i k hj hi e1 e)
      · have := (h.rows j hj).1.lt (k := k) e1; omega
    by_cases c1 : j1 = i
    · by_cases c2 : j2 = i
      · omega
      · simp only [c1, if_true, QA.own] at e1
        simp only [if_neg c2] at e2
        exact (key j2 k h2 c2 e2 e1).elim
    · by_cases c2 : j2 = i
      · simp only [if_neg c1] at e1
        simp only [c2, if_true, QA.own] at e2
        exact (key j1 k h1 c1 e1 e2).elim
      · simp only [if_neg c1] at e1
        simp only [if_neg c2] at e2
        exact h.apart j1 j2 k h1 h2 e1 e2
  · rcases hk with hk | hk
    · exact Nat.lt_of_lt_of_le (h.lt k hk) fS.size
    · exact g6.lt hk
  · rcases hk with hk | hk
    · exact .inl hk
    · rcases hnew k hk with e | e
      · exact .inl (h.oq i k hi e).1
      · exact .inr e
end
end Go.Proofs.YtkibbojiflklpaaGreat

/- The consistent point; up to where all is done; whether there is a worker. -/
namespace Go.Proofs.YtkibbojiflklpaaGreat
open Go.RowKit Go.Shelf

def pointR (R : RSt) : Int := ((nextR R).map (·.2)).getD R.point
def doneR (R : RSt) : Int := match nextR R with
  | none => R.fed
  | some x => x.1.lsn - 1
section
variable {S : Nat → Prop} {b : Nat} {R : RSt} {N : Nat}
theorem ry_hasv (i : Int) (w : World) (h : Ry w S b R N) : Calls Tryz.prog 45 #[.pointer (some ⟨b, 0, none⟩), .int .i64 i] w fun e w' => e = .returned (.bool (decide (0 ≤ i ∧ i < R.wk))) ∧ w' = w := by
  have hc := ry_cnt w h
  by_cases h0 : 0 ≤ i
  · have h1 : ¬ i < 0 := by omega
    go_enter Tryz.func45, Tryz.ntmps45
    go_wp2_with (go_at_call 43; refine hc.mono ?_; rintro e w' ⟨rfl, hw⟩; subst hw)
    go_ret
    refine ⟨ret_bool ?_, rfl⟩
    first | (simp; omega) | simp [h0]
  · go_enter Tryz.func45, Tryz.ntmps45
    go_wp2_with (go_at_call 43; refine hc.mono ?_; rintro e w' ⟨rfl, hw⟩; subst hw)
    go_ret
    refine ⟨ret_bool ?_, rfl⟩
    first | (simp; omega) | simp [h0]
def PntO (w : World) (R : RSt) (e : Ending) (w' : World) : Prop := e = .returned (.tuple (if pointR R < R.top then #[.int .i64 0, .bool false] else #[.int .i64 (pointR R), .bool true])) ∧ Fr (fun _ => False) w w'
set_option maxRecDepth 100000 in
set_option maxHeartbeats 4000000 in
theorem ry_pointv (w : World) (h : Ry w S b R N) (hN : N ≤ 1000000) (hw1 : 1 ≤ R.wk) : Calls Tryz.prog 15 #[.pointer (some ⟨b, 0, none⟩)] w (PntO w R) := by
  have hc := ry_cnt w h
  have hn := ry_nextv w h hN
  unfold NxtO at hn
  have HR : Hid (∀ W, Fr (fun _ => False) w W → Ry W S b R N) := fun W f => h.same f
  obtain ⟨c18, c19, hb⟩ : w.cell? ⟨b, 18, none⟩ = some (.int .i64 R.fed) ∧ w.cell? ⟨b, 19, none⟩ = some (.int .i64 R.point) ∧ b < w.heap.size := by
    obtain ⟨_, _, _, _, _, hi⟩ := h
    obtain ⟨_, _, h18, h19, _, _, hb⟩ := hi.cell
    exact ⟨h18, h19, hb⟩
  have hwk : ((R.wk : Int) == 0) = false := by simp; omega
  have HTOP : Hid (∀ W, Fr (fun _ => False) w W → W.cell? ⟨b, 20, none⟩ = some (.int .i64 R.top) ∧ b < W.heap.size) := fun W f => by
    obtain ⟨_, _, _, _, _, hi⟩ := HR.out W f
    obtain ⟨_, _, _, _, h20, _, hb⟩ := hi.cell
    exact ⟨h20, hb⟩
  have HPT : Hid (∀ x, nextR R = some x → pointR R = x.2) := fun x hx => by unfold pointR; rw [hx]; rfl
  have HPN : Hid (nextR R = none → pointR R = R.point) := fun hx => by unfold pointR; rw [hx]; rfl
  clear h
  obtain ⟨acc, hacc⟩ : ∃ acc, acc = nextR R := ⟨_, rfl⟩
  rw [← hacc] at hn HPT HPN
  clear hacc
  cases acc with
  | none =>
    have hp := HPN.out rfl
    dsimp only [Option.getD, Option.isSome] at hn
    obtain ⟨p, hpp⟩ : ∃ p, p = R.point := ⟨_, rfl⟩
    rw [← hpp] at c19 hp
    have HPP : Hid (pointR R = p) := hp
    clear hp hpp
    go_enter Tryz.func15, Tryz.ntmps15
    go_wp2_with (go_at_call 43; refine hc.mono ?_; rintro e w ⟨rfl, hw⟩; subst hw)
    refine hn.mono ?_
    rintro e w2 ⟨rfl, f2⟩
    have F3 : Fr (fun _ => False) w (w2.alloc (.cells (wgA wgZ) 98)) := f2.seq' (Fr.box _ _)
    obtain ⟨c20, hb2⟩ := HTOP.out _ F3
    have HF3 : Hid (Fr (fun _ => False) w (w2.alloc (.cells (wgA wgZ) 98))) := F3
    unfold wgA wgZ at c20 hb2 HF3
    unfold wgV wgZ
    dsimp only at c20 hb2 HF3 ⊢
    clear hn hc f2 F3 c18 c19
    by_cases ht : p < R.top
    · have HT : Hid (p < R.top) := ht
      go_wp2
      go_ret2
      refine ⟨?_, HF3.out⟩
      rw [HPP.out, if_pos HT.out]
      rfl
    · have HT : Hid (¬ p < R.top) := ht
      have ht' : decide (p < R.top) = false := decide_eq_false ht
      go_wp2
      go_ret2
      refine ⟨?_, HF3.out⟩
      rw [HPP.out, if_neg (by have h := HT.out; omega)]
      rfl
  | some x =>
    have hp := HPT.out x rfl
    dsimp only [Option.getD, Option.isSome] at hn
    have HPP : Hid (pointR R = x.2) := hp
    clear hp
    go_enter Tryz.func15, Tryz.ntmps15
    go_wp2_with (go_at_call 43; refine hc.mono ?_; rintro e w ⟨rfl, hw⟩; subst hw)
    refine hn.mono ?_
    rintro e w2 ⟨rfl, f2⟩
    have F3 : Fr (fun _ => False) w (w2.alloc (.cells (wgA x) 98)) := f2.seq' (Fr.box _ _)
    obtain ⟨c20, hb2⟩ := HTOP.out _ F3
    have HF3 : Hid (Fr (fun _ => False) w (w2.alloc (.cells (wgA x) 98))) := F3
    obtain ⟨⟨lsn, ep, kind, page, other, req, key, val⟩, p⟩ := x
    unfold wgA at c20 hb2 HF3
    unfold wgV
    dsimp only at c20 hb2 HF3 HPP ⊢
    clear hn hc f2 F3 c18 c19
    by_cases ht : p < R.top
    · have HT : Hid (p < R.top) := ht
      go_wp2
      go_ret2
      refine ⟨?_, HF3.out⟩
      rw [HPP.out, if_pos HT.out]
      rfl
    · have HT : Hid (¬ p < R.top) := ht
      have ht' : decide (p < R.top) = false := decide_eq_false ht
      go_wp2
      go_ret2
      refine ⟨?_, HF3.out⟩
      rw [HPP.out, if_neg (by have h := HT.out; omega)]
      rfl
set_option maxRecDepth 100000 in
set_option maxHeartbeats 4000000 in
theorem ry_donev (w : World) (h : Ry w S b R N) (hN : N ≤ 1000000) (hx : ∀ x, nextR R = some x → 1 ≤ x.1.lsn ∧ x.1.lsn ≤ 1099511627776) : Calls Tryz.prog 19 #[.pointer (some ⟨b, 0, none⟩)] w fun e w' => e = .returned (.int .i64 (doneR R)) ∧ Fr (fun _ => False) w w' := by
  have hn := ry_nextv w h hN
  unfold NxtO at hn
  have HR : Hid (∀ W, Fr (fun _ => False) w W → Ry W S b R N) := fun W f => h.same f
  have HPT : Hid (∀ x, nextR R = some x → doneR R = x.1.lsn - 1) := fun x hx => by unfold doneR; rw [hx]
  have HPN : Hid (nextR R = none → doneR R = R.fed) := fun hx => by unfold doneR; rw [hx]
  clear h
  obtain ⟨acc, hacc⟩ : ∃ acc, acc = nextR R := ⟨_, rfl⟩
  rw [← hacc] at hn HPT HPN hx
  clear hacc
  cases acc with
  | none =>
    have hp := HPN.out rfl
    rw [hp]
    dsimp only [Option.getD, Option.isSome] at hn
    clear hp
    go_enter Tryz.func19, Tryz.ntmps19
    go_wp2_with fail
    refine hn.mono ?_
    rintro e w2 ⟨rfl, f2⟩
    have F3 : Fr (fun _ => False) w (w2.alloc (.cells (wgA wgZ) 98)) := f2.seq' (Fr.box _ _)
    have hfd := ry_fedv _ (HR.out _ F3)
    have HF3 : Hid (Fr (fun _ => False) w (w2.alloc (.cells (wgA wgZ) 98))) := F3
    unfold wgA wgZ at hfd HF3
    unfold wgV wgZ
    dsimp only at hfd HF3 ⊢
    clear hn f2 F3
    go_wp2_with (go_at_call 53; refine hfd.mono ?_; rintro e w' ⟨rfl, hw⟩; subst hw)
    go_ret
    exact ⟨rfl, HF3.out⟩
  | some x =>
    have hp := HPT.out x rfl
    obtain ⟨x1, x2⟩ := hx x rfl
    rw [hp]
    dsimp only [Option.getD, Option.isSome] at hn
    clear hp
    go_enter Tryz.func19, Tryz.ntmps19
    go_wp2_with fail
    refine hn.mono ?_
    rintro e w2 ⟨rfl, f2⟩
    have HF3 : Hid (Fr (fun _ => False) w (w2.alloc (.cells (wgA x) 98))) := f2.seq' (Fr.box _ _)
    obtain ⟨⟨lsn, ep, kind, page, other, req, key, val⟩, p⟩ := x
    unfold wgA at HF3
    unfold wgV
    dsimp only at HF3 x1 x2 ⊢
    clear hn f2
    go_wp2
    go_ret
    exact ⟨rfl, HF3.out⟩
end
end Go.Proofs.YtkibbojiflklpaaGreat

/- A record is fed. -/
namespace Go.Proofs.YtkibbojiflklpaaGreat
open Go.RowKit Go.Shelf

def feedR (R : RSt) (r : Rec) : RSt := if r.kind = 1 ∨ r.kind = 7 then { R with fed := r.lsn, point := r.lsn } else { R with fed := r.lsn, L := qupd R.L (r.page.tmod R.wk).toNat (R.L (r.page.tmod R.wk).toNat ++ [(r, R.point)]) }
section
variable {S : Nat → Prop} {b : Nat} {R : RSt} {N : Nat}
theorem Ry.fedI {w : World} (h : Ry w S b R N) (v : Int) : Ry (w.setCell ⟨b, 18, none⟩ (.int .i64 v)) S b { R with fed := v } N ∧ Fr (fun k => k = b) w (w.setCell ⟨b, 18, none⟩ (.int .i64 v)) := by
  obtain ⟨A, m, cnt, q, pt, h⟩ := h
  have hs := h.cells.size
  obtain ⟨h1, h2⟩ := h.num (R2 := { R with fed := v }) (A2 := A.setIfInBounds 18 (.int .i64 v)) 18 (.inl rfl) (.int .i64 v) rfl rfl rfl rfl (by rw [Array.getElem?_setIfInBounds_self_of_lt (by omega)]) (by rw [Array.getElem?_setIfInBounds_ne (by omega)]; exact h.cells.point) (by rw [Array.getElem?_setIfInBounds_ne (by omega)]; exact h.cells.top)
  exact ⟨⟨_, m, cnt, q, pt, h1⟩, h2⟩
theorem Ry.pointI {w : World} (h : Ry w S b R N) (v : Int) : Ry (w.setCell ⟨b, 19, none⟩ (.int .i64 v)) S b { R with point := v } N ∧ Fr (fun k => k = b) w (w.setCell ⟨b, 19, none⟩ (.int .i64 v)) := by
  obtain ⟨A, m, cnt, q, pt, h⟩ := h
  have hs := h.cells.size
  obtain ⟨h1, h2⟩ := h.num (R2 := { R with point := v }) (A2 := A.setIfInBounds 19 (.int .i64 v)) 19 (.inr (.inl rfl)) (.int .i64 v) rfl rfl rfl rfl (by rw [Array.getElem?_setIfInBounds_ne (by omega)]; exact h.cells.fed) (by rw [Array.getElem?_setIfInBounds_self_of_lt (by omega)]) (by rw [Array.getElem?_setIfInBounds_ne (by omega)]; exact h.cells.top)
  exact ⟨⟨_, m, cnt, q, pt, h1⟩, h2⟩
theorem Ry.topI {w : World} (h : Ry w S b R N) (v : Int) : Ry (w.setCell ⟨b, 20, none⟩ (.int .i64 v)) S b { R with top := v } N ∧ Fr (fun k => k = b) w (w.setCell ⟨b, 20, none⟩ (.int .i64 v)) := by
  obtain ⟨A, m, cnt, q, pt, h⟩ := h
  have hs := h.cells.size
  obtain ⟨h1, h2⟩ := h.num (R2 := { R with top := v }) (A2 := A.setIfInBounds 20 (.int .i64 v)) 20 (.inr (.inr rfl)) (.int .i64 v) rfl rfl rfl rfl (by rw [Array.getElem?_setIfInBounds_ne (by omega)]; exact h.cells.fed) (by rw [Array.getElem?_setIfInBounds_ne (by omega)]; exact h.cells.point) (by rw [Array.getElem?_setIfInBounds_self_of_lt (by omega)])
  exact ⟨⟨_, m, cnt, q, pt, h1⟩, h2⟩
theorem Ry.own {w : World} (h : Ry w S b R N) : S b ∧ (∀ k, S k → k < w.heap.size) := by
  obtain ⟨A, m, cnt, q, pt, h⟩ := h
  exact ⟨h.ob, h.lt⟩
theorem Ry.scal {w : World} (h : Ry w S b R N) : w.cell? ⟨b, 1, none⟩ = some (.int .i64 (R.wk : Int)) ∧ w.cell? ⟨b, 18, none⟩ = some (.int .i64 R.fed) ∧ w.cell? ⟨b, 19, none⟩ = some (.int .i64 R.point) ∧ w.cell? ⟨b, 20, none⟩ = some (.int .i64 R.top) ∧ (∀ j, w.frozen? ⟨b, j, none⟩ = false) ∧ b < w.heap.size := by
  obtain ⟨A, m, cnt, q, pt, h⟩ := h
  exact h.cell.2
theorem ry_addq (x : Wg) (w : World) (h : Ry w S b R N) (hN : N ≤ 1000000) (i : Nat) (hi : i < 8) : Calls Tryz.prog 44 #[.pointer (some ⟨b, 2 + i * 2, none⟩), wgV x] w fun e w' => e = .returned (.tuple #[]) ∧ RyTo w S b { R with L := qupd R.L i (R.L i ++ [x]) } (N + 1) w' := by
  obtain ⟨A, m, cnt, q, pt, h⟩ := h
  obtain ⟨h1, h2, h3, h4⟩ := h.rows i hi
  have hq := q_add (qb := b) (qo := 2 + 2 * i) x w h.blk (h.cells.row i hi) (h.cells.done i hi) h2 h1 (by omega) (fun k e => (h.oq i k hi e).2.1)
  rw [show 2 + 2 * i = 2 + i * 2 by omega] at hq
  refine hq.mono ?_
  rintro e w' ⟨rfl, ht⟩
  rw [h4] at ht
  refine ⟨rfl, ?_⟩
  rw [show 2 + i * 2 = 2 + 2 * i by omega] at ht
  exact h.que hi ht
set_option maxRecDepth 100000 in
set_option maxHeartbeats 8000000 in
theorem ry_feedn (r : Rec) (w : World) (h : Ry w S b R N) (he : erec r = 0) (hl : r.lsn = R.fed + 1) (hf : 0 ≤ R.fed ∧ R.fed ≤ 1099511627776) (hk : r.kind = 1) (hwk : 1 ≤ R.wk) : Calls Tryz.prog 13 #[.pointer (some ⟨b, 0, none⟩), (.agg #[.int .i64 r.lsn, .int .i64 r.ep, .int .i64 r.kind, .int .i64 r.page, .int .i64 r.other, .int .i64 r.req, .string r.key, .string r.val])] w fun e w' => e = .returned (.int .i64 0) ∧ Ry w' S b { R with fed := r.lsn, point := r.lsn } N ∧ Fr S w w' := by
  have hch := rec_check r
  rw [he] at hch
  have HR : Hid (∀ W, Fr (fun _ => False) w W → Ry W S b R N) := fun W f => h.same f
  have hb := h.scal.2.2.2.2.2
  have HOB : Hid (S b) := h.own.1
  have hwk0 : ((R.wk : Int) == 0) = false := by simp; omega
  have hne : (r.lsn != R.fed + 1) = false := by rw [hl]; simp
  obtain ⟨hf1, hf2⟩ := hf
  have hkk : (r.kind == 1) = true := by rw [hk]; rfl
  obtain ⟨lsn, ep, kind, page, other, req, key, val⟩ := r
  dsimp only at hch hne hkk ⊢
  clear h he hl hk hwk
  have HB0 : Hid ((w.alloc (.cells #[.int .i64 lsn, .int .i64 ep, .int .i64 kind, .int .i64 page, .int .i64 other, .int .i64 req, .string key, .string val] 54)).heap[w.heap.size]? = some (.cells #[.int .i64 lsn, .int .i64 ep, .int .i64 kind, .int .i64 page, .int .i64 other, .int .i64 req, .string key, .string val] 54 (0, 0))) := heap_alloc_new w _
  have HF0 : Hid (Fr (fun _ => False) w (w.alloc (.cells #[.int .i64 lsn, .int .i64 ep, .int .i64 kind, .int .i64 page, .int .i64 other, .int .i64 req, .string key, .string val] 54))) := Fr.box _ _
  go_enter Tryz.func13, Tryz.ntmps13
  go_wp2_with fail
  refine (hch _).mono ?_
  rintro e w1 ⟨rfl, f1⟩
  have HF1 : Hid (Fr (fun _ => False) w w1) := HF0.out.seq' f1
  have hb1 := f1.blk HB0.out (fun e => e)
  obtain ⟨⟨p0, p1, p2, p3, p4, p5, p6, p7⟩, pz⟩ := rec_cells hb1
  have hbw := lt_of_block hb1
  obtain ⟨c1, c18, c19, c20, cz, cb⟩ := (HR.out w1 HF1.out).scal
  have hcn : ∀ k, Calls Tryz.prog 43 #[.pointer (some ⟨b, 0, none⟩)] (w1.drewN k) fun e w' => e = .returned (.int .i64 (R.wk : Int)) ∧ w' = w1.drewN k := fun k => ry_cnt _ (HR.out _ (HF1.out.drewN k))
  have HFIN : Hid (∀ k, Ry (((w1.drewN k).setCell ⟨b, 18, none⟩ (.int .i64 lsn)).setCell ⟨b, 19, none⟩ (.int .i64 lsn)) S b { R with fed := lsn, point := lsn } N ∧ Fr S w (((w1.drewN k).setCell ⟨b, 18, none⟩ (.int .i64 lsn)).setCell ⟨b, 19, none⟩ (.int .i64 lsn))) := fun k => by
    obtain ⟨a1, a2⟩ := (HR.out _ (HF1.out.drewN k)).fedI lsn
    obtain ⟨b1, b2⟩ := a1.pointI lsn
    exact ⟨b1, ((((Fr.refl S w).trans (HF1.out.drewN k) (fun _ _ e => e.elim)).trans a2 (fun i _ e => by rw [e]; exact HOB.out)).trans b2 (fun i _ e => by rw [e]; exact HOB.out))⟩
  clear hch f1 hb1
  go_wp2
  go_quiet ((go_at_call 43; exact Calls.quiet_of_same (hcn _)))
  go_wp2
  go_ret
  exact ⟨rfl, HFIN.out _⟩
set_option maxRecDepth 100000 in
set_option maxHeartbeats 16000000 in
theorem ry_feedq (r : Rec) (w : World) (h : Ry w S b R N) (hN : N ≤ 1000000) (he : erec r = 0) (hl : r.lsn = R.fed + 1) (hf : 0 ≤ R.fed ∧ R.fed ≤ 1099511627776) (hk1 : r.kind ≠ 1) (hk7 : r.kind ≠ 7) (hp : 0 ≤ r.page ∧ r.page ≤ 1099511627776) (hwk : 1 ≤ R.wk) (hw8 : R.wk ≤ 8) : Calls Tryz.prog 13 #[.pointer (some ⟨b, 0, none⟩), (.agg #[.int .i64 r.lsn, .int .i64 r.ep, .int .i64 r.kind, .int .i64 r.page, .int .i64 r.other, .int .i64 r.req, .string r.key, .string r.val])] w fun e w' => e = .returned (.int .i64 0) ∧ RyTo w S b { R with fed := r.lsn, L := qupd R.L (r.page.tmod R.wk).toNat (R.L (r.page.tmod R.wk).toNat ++ [(r, R.point)]) } (N + 1) w' := by
  have hch := rec_check r
  rw [he] at hch
  have HR : Hid (∀ W, Fr (fun _ => False) w W → Ry W S b R N) := fun W f => h.same f
  have hb := h.scal.2.2.2.2.2
  have HOB : Hid (S b ∧ ∀ k, S k → k < w.heap.size) := h.own
  have hwk0 : ((R.wk : Int) == 0) = false := by simp; omega
  have hwk1 : ¬ (R.wk : Int) = 0 := by omega
  have hne : (r.lsn != R.fed + 1) = false := by rw [hl]; simp
  obtain ⟨hf1, hf2⟩ := hf
  have hkk1 : (r.kind == 1) = false := by simpa using hk1
  have hkk7 : (r.kind == 7) = false := by simpa using hk7
  obtain ⟨i, hi⟩ : ∃ i : Nat, r.page.tmod (R.wk : Int) = (i : Int) := ⟨(r.page.tmod (R.wk : Int)).toNat, by
    rw [Int.toNat_of_nonneg (Int.tmod_nonneg _ hp.1)]⟩
  have hi8 : i < 8 := by
    have := Int.tmod_lt_of_pos r.page (show (0 : Int) < (R.wk : Int) by omega)
    omega
  rw [hi, Int.toNat_natCast]
  have hii : (i : Int) < 8 := by omega
  have hi0 : (0 : Int) ≤ (i : Int) := by omega
  have hwr : IntKind.i64.wrap (i : Int) = (i : Int) := by simp [IntKind.wrap, IntKind.bits, IntKind.signed]; omega
  have hwr2 : IntKind.i64.wrap (r.page.tmod (R.wk : Int)) = (i : Int) := by rw [hi]; exact hwr
  have hwkn : ¬ R.wk = 0 := by omega
  have hadd : ∀ W, Ry W S b { R with fed := r.lsn } N → Calls Tryz.prog 44 #[.pointer (some ⟨b, 2 + i * 2, none⟩), wgV (r, R.point)] W fun e w' => e = .returned (.tuple #[]) ∧ RyTo W S b { R with fed := r.lsn, L := qupd R.L i (R.L i ++ [(r, R.point)]) } (N + 1) w' := fun W hW => ry_addq (r, R.point) W hW hN i hi8
  obtain ⟨lsn, ep, kind, page, other, req, key, val⟩ := r
  unfold wgV at hadd
  dsimp only at hch hne hkk1 hkk7 hi hwr2 hadd ⊢
  obtain ⟨R2, hR2⟩ : ∃ R2 : RSt, R2 = { R with fed := lsn, L := qupd R.L i (R.L i ++ [((⟨lsn, ep, kind, page, other, req, key, val⟩ : Rec), R.point)]) } := ⟨_, rfl⟩
  rw [← hR2] at hadd ⊢
  have HR2 : Hid (R2.wk = R.wk ∧ R2.point = R.point) := by rw [hR2]; exact ⟨rfl, rfl⟩
  clear h he hl hk1 hk7 hwk hw8 hp hR2
  have HADD : Hid (∀ W, Ry W S b { R with fed := lsn } N → Calls Tryz.prog 44 #[.pointer (some ⟨b, 2 + i * 2, none⟩), .agg #[.int .i64 lsn, .int .i64 ep, .int .i64 kind, .int .i64 page, .int .i64 other, .int .i64 req, .string key, .string val, .int .i64 R.point]] W fun e w' => e = .returned (.tuple #[]) ∧ RyTo W S b R2 (N + 1) w') := hadd
  clear hadd
  have HB0 : Hid ((w.alloc (.cells #[.int .i64 lsn, .int .i64 ep, .int .i64 kind, .int .i64 page, .int .i64 other, .int .i64 req, .string key, .string val] 54)).heap[w.heap.size]? = some (.cells #[.int .i64 lsn, .int .i64 ep, .int .i64 kind, .int .i64 page, .int .i64 other, .int .i64 req, .string key, .string val] 54 (0, 0))) := heap_alloc_new w _
  have HF0 : Hid (Fr (fun _ => False) w (w.alloc (.cells #[.int .i64 lsn, .int .i64 ep, .int .i64 kind, .int .i64 page, .int .i64 other, .int .i64 req, .string key, .string val] 54))) := Fr.box _ _
  go_enter Tryz.func13, Tryz.ntmps13
  go_wp2_with fail
  refine (hch _).mono ?_
  rintro e w1 ⟨rfl, f1⟩
  have HF1 : Hid (Fr (fun _ => False) w w1) := HF0.out.seq' f1
  have HB1 : Hid (w1.heap[w.heap.size]? = some (.cells #[.int .i64 lsn, .int .i64 ep, .int .i64 kind, .int .i64 page, .int .i64 other, .int .i64 req, .string key, .string val] 54 (0, 0))) := f1.blk HB0.out (fun e => e)
  obtain ⟨⟨p0, p1, p2, p3, p4, p5, p6, p7⟩, pz⟩ := rec_cells HB1.out
  have hbw := lt_of_block HB1.out
  obtain ⟨c1, c18, c19, c20, cz, cb⟩ := (HR.out w1 HF1.out).scal
  have hcn : ∀ k, Calls Tryz.prog 43 #[.pointer (some ⟨b, 0, none⟩)] (w1.drewN k) fun e w' => e = .returned (.int .i64 (R.wk : Int)) ∧ w' = w1.drewN k := fun k => ry_cnt _ (HR.out _ (HF1.out.drewN k))
  have HFR : Hid (∀ k, Ry ((w1.drewN k).setCell ⟨b, 18, none⟩ (.int .i64 lsn)).drew S b { R with fed := lsn } N ∧ Fr S w ((w1.drewN k).setCell ⟨b, 18, none⟩ (.int .i64 lsn)).drew) := fun k => by
    obtain ⟨a1, a2⟩ := (HR.out _ (HF1.out.drewN k)).fedI lsn
    exact ⟨a1.same ((Fr.refl _ _).drew), (((Fr.refl S w).trans (HF1.out.drewN k) (fun _ _ e => e.elim)).trans a2 (fun i _ e => by rw [e]; exact HOB.out.1)).drew⟩
  have HSC : Hid (∀ k, ((w1.drewN k).setCell ⟨b, 18, none⟩ (.int .i64 lsn)).drew.cell? ⟨b, 1, none⟩ = some (.int .i64 (R.wk : Int)) ∧ ((w1.drewN k).setCell ⟨b, 18, none⟩ (.int .i64 lsn)).drew.cell? ⟨b, 19, none⟩ = some (.int .i64 R.point)) := fun k => ⟨(HFR.out k).1.scal.1, (HFR.out k).1.scal.2.2.1⟩
  have HBX : Hid (∀ k, ((w1.drewN k).setCell ⟨b, 18, none⟩ (.int .i64 lsn)).drew.heap[w.heap.size]? = some (.cells #[.int .i64 lsn, .int .i64 ep, .int .i64 kind, .int .i64 page, .int .i64 other, .int .i64 req, .string key, .string val] 54 (0, 0))) := fun k => by
    have f : Fr (fun i => i = b) w1 ((w1.drewN k).setCell ⟨b, 18, none⟩ (.int .i64 lsn)).drew := (((Fr.refl (fun i => i = b) w1).drewN k).setCell (p := ⟨b, 18, none⟩) (fun _ => rfl) _).drew
    exact (f.block _ (lt_of_block HB1.out) (fun e => by omega)).trans HB1.out
  have HQ : Hid (∀ W : World, W.heap[w.heap.size]? = some (.cells #[.int .i64 lsn, .int .i64 ep, .int .i64 kind, .int .i64 page, .int .i64 other, .int .i64 req, .string key, .string val] 54 (0, 0)) → (W.cell? ⟨b, 1, none⟩ = some (.int .i64 (R.wk : Int)) ∧ W.cell? ⟨b, 19, none⟩ = some (.int .i64 R.point)) → W.cell? ⟨w.heap.size, 0, none⟩ = some (.int .i64 lsn) ∧ W.cell? ⟨w.heap.size, 1, none⟩ = some (.int .i64 ep) ∧ W.cell? ⟨w.heap.size, 2, none⟩ = some (.int .i64 kind) ∧ W.cell? ⟨w.heap.size, 3, none⟩ = some (.int .i64 page) ∧ W.cell? ⟨w.heap.size, 4, none⟩ = some (.int .i64 other) ∧ W.cell? ⟨w.heap.size, 5, none⟩ = some (.int .i64 req) ∧ W.cell? ⟨w.heap.size, 6, none⟩ = some (.string key) ∧ W.cell? ⟨w.heap.size, 7, none⟩ = some (.string val) ∧ W.cell? ⟨b, 1, none⟩ = some (.int .i64 (R.wk : Int)) ∧ W.cell? ⟨b, 19, none⟩ = some (.int .i64 R.point)) := fun W h1 h2 => by
    obtain ⟨⟨a0, a1, a2, a3, a4, a5, a6, a7⟩, _⟩ := rec_cells h1
    exact ⟨a0, a1, a2, a3, a4, a5, a6, a7, h2.1, h2.2⟩
  clear hch f1
  go_wp2
  go_quiet ((go_at_call 43; exact Calls.quiet_of_same (hcn _)))
  go_wp2
  have q1 := HQ.out _ (HBX.out nq) (HSC.out nq)
  have r1 := HADD.out _ (HFR.out nq).1
  have HFN : Hid (Fr S w ((w1.drewN nq).setCell ⟨b, 18, none⟩ (.int .i64 lsn)).drew ∧ ((w1.drewN nq).setCell ⟨b, 18, none⟩ (.int .i64 lsn)).drew.heap[w.heap.size]? = some (.cells #[.int .i64 lsn, .int .i64 ep, .int .i64 kind, .int .i64 page, .int .i64 other, .int .i64 req, .string key, .string val] 54 (0, 0))) := ⟨(HFR.out nq).2, HBX.out nq⟩
  clear hcn HFR HSC HBX
  go_region_held3 (fun W => W.cell? ⟨w.heap.size, 0, none⟩ = some (.int .i64 lsn) ∧ W.cell? ⟨w.heap.size, 1, none⟩ = some (.int .i64 ep) ∧ W.cell? ⟨w.heap.size, 2, none⟩ = some (.int .i64 kind) ∧ W.cell? ⟨w.heap.size, 3, none⟩ = some (.int .i64 page) ∧ W.cell? ⟨w.heap.size, 4, none⟩ = some (.int .i64 other) ∧ W.cell? ⟨w.heap.size, 5, none⟩ = some (.int .i64 req) ∧ W.cell? ⟨w.heap.size, 6, none⟩ = some (.string key) ∧ W.cell? ⟨w.heap.size, 7, none⟩ = some (.string val) ∧ W.cell? ⟨b, 1, none⟩ = some (.int .i64 (R.wk : Int)) ∧ W.cell? ⟨b, 19, none⟩ = some (.int .i64 R.point))
    (first | with_reducible exact q1 | with_reducible exact q2 | fail)
    (first | (go_at_call 44; refine r1.mono ?_; rintro e w2 ⟨rfl, t2⟩; clear r1; obtain ⟨S2, g1, g2, g3, g4⟩ := t2; have q2 := HQ.out w2 ((g4.block _ (lt_of_block HFN.out.2) (fun hs => by have := HOB.out.2 _ hs; omega)).trans HFN.out.2) (by have h := g1.scal; rw [HR2.out.1, HR2.out.2] at h; exact ⟨h.1, h.2.2.1⟩)))
  have HFIN : Hid (RyTo w S b R2 (N + 1) w2) := ⟨S2, g1, fun k hk => by
    rcases g2 k hk with h | h
    · exact .inl h
    · exact .inr (Nat.le_trans HFN.out.1.size h), g3, HFN.out.1.trans g4 (fun i _ e => e)⟩
  clear g1 g2 g3 g4 q1 q2
  go_wp2
  go_ret
  exact ⟨rfl, HFIN.out⟩
end
end Go.Proofs.YtkibbojiflklpaaGreat
