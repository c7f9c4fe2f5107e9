
/- TcKit, TcPure, TcMem, TcOps, TcNote, TcCall. -/
import Derived.Test.YthdbkanbgfajbaaGreatTB6
import Derived.Maps.OwnSet
import Derived.Maps.RangeWalk
import Derived.Deep.QuietTactic
import Derived.BigQuiet
import Derived.Deep.DeepCutAuto
/- Maps from numbers, in memory, beside the texts of the fold. -/
namespace Go.Proofs.YthdbkanbgfajbaaGreat
open Go.RowKit
open Go.Maps (Keyed)

def zI (x : Int) : Value := .int .i64 x
/-- A map's element is read as it lies there. -/
abbrev Vmap := Int → Option Value
def vupd (M : Vmap) (x : Int) (v : Option Value) : Vmap := fun y => if y = x then v else M y
theorem vupd_same (M : Vmap) (x : Int) (v : Option Value) : vupd M x v x = v := if_pos rfl
theorem vupd_other {M : Vmap} {x y : Int} (v : Option Value) (h : y ≠ x) : vupd M x v y = M y := if_neg h
def wfK (x : Int) : Prop := (Lit.int .i64 x).wf = true
theorem wfK_of {x : Int} (h : -9223372036854775808 ≤ x ∧ x ≤ 9223372036854775807) : wfK x := by
  unfold wfK
  have e1 : IntKind.i64.min = -9223372036854775808 := by decide
  have e2 : IntKind.i64.max = 9223372036854775807 := by decide
  simp [Lit.wf]
  omega
/-- A datum says what a plain map says. -/
structure Like (D : DataW Value) (M : Vmap) : Prop where
  has : ∀ x, wfK x → Maps.has D (.int .i64 x) = (M x).isSome
  at_ : ∀ x s, wfK x → M x = some s → ∀ z, D.atKey (.int .i64 x) z = .held s
  key : ∀ x s, M x = some s → wfK x
theorem keyed3 : Keyed Tryz.prog 3 := Maps.int_keyed Tryz.underlying3
theorem key3 {x : Int} (h : wfK x) : keyOf Tryz.prog 3 (.int .i64 x) = some (.int .i64 x) := Maps.keyOf_int_mk Tryz.underlying3 h
def Mp (w : World) (b n : Nat) (M : Vmap) : Prop := ∃ D, w.ownsMap Tryz.prog 3 vR b n D ∧ Maps.size D = n ∧ Like D M
theorem ownsMap_fit {w : World} {b n : Nat} {D : DataW Value} (h : w.ownsMap Tryz.prog 3 vR b n D) : w.ownsMap Tryz.prog 3 vR b (Maps.size D) D := by
  obtain ⟨es, clock, hb, F, hs, rfl⟩ := h
  exact ⟨es, clock, hb, F, by simp [Maps.size, length_sorted], rfl⟩
theorem Mp.lt {w : World} {b n : Nat} {M : Vmap} (h : Mp w b n M) : b < w.heap.size := by
  obtain ⟨D, h1, _⟩ := h
  exact h1.lt
theorem Mp.fr {S : Nat → Prop} {w w' : World} {b n : Nat} {M : Vmap} (h : Mp w b n M) (f : Fr S w w') (hn : ¬ S b) : Mp w' b n M := by
  obtain ⟨D, h1, h2⟩ := h
  refine ⟨D, ?_, h2⟩
  have hlt := h1.lt
  obtain ⟨es, clock, hb, r⟩ := h1
  exact ⟨es, clock, (f.block b hlt hn).trans hb, r⟩
theorem Mp.same {w w' : World} {b n : Nat} {M : Vmap} (h : Mp w b n M) (f : Fr (fun _ => False) w w') : Mp w' b n M := h.fr f (fun f => f)
theorem Mp.made (w : World) : Mp (w.alloc (.map #[] 0)) w.heap.size 0 (fun _ => none) :=
  ⟨.map [], World.ownsMap_made w Tryz.prog 3 vR, rfl, ⟨fun _ _ => rfl, (fun _ _ _ h => by cases h), (fun _ _ h => by cases h)⟩⟩
theorem look_D {D : DataW Value} {M : Vmap} (hl : Like D M) {x : Int} (hx : wfK x) (zv : Value) : D.atKey (.int .i64 x) (.held zv) = .held ((M x).getD zv) := by
  cases hm : M x with
  | none =>
    have := hl.has x hx
    rw [hm] at this
    exact Maps.atKey_of_not_has this _
  | some s => exact hl.at_ x s hx hm _
theorem int_lit_ne {x y : Int} (h : x ≠ y) : (Lit.int .i64 x) ≠ (Lit.int .i64 y) := fun e => by cases e; exact h rfl
theorem Fr.turned {w w' : World} {b : Nat} (h : w.mapTurned w' b) : Fr (fun k => k = b) w w' := (Fr.refl _ w).grown h.grown (fun k e _ => by simp only [Option.some.injEq] at e; exact e.symm)
theorem Mp.look {mt et : TypeId} (hut : Tryz.prog.underlying mt = some (.map 3 et)) {w : World} {b n : Nat} {M : Vmap} (h : Mp w b n M) {zv : Value} (hz : (zeroValue et).run Tryz.prog w = .ok zv w) {x : Int} (hx : wfK x) :
    (Instr.lookup mt (.map (some b)) (.int .i64 x) true).run Tryz.prog w = .ok (.tuple #[(M x).getD zv, .bool (M x).isSome]) w := by
  obtain ⟨D, h1, _, hl⟩ := h
  obtain ⟨v, ps, hrun, hv⟩ := h1.look_ok keyed3 hut hz (show vR zv = some (.held zv, []) from rfl) (key3 hx)
  rw [look_D hl hx] at hv
  simp only [vR, Option.some.injEq, Prod.mk.injEq, DataW.held.injEq] at hv
  rw [hrun, hl.has x hx, hv.1]
theorem Mp.look1 {mt et : TypeId} (hut : Tryz.prog.underlying mt = some (.map 3 et)) {w : World} {b n : Nat} {M : Vmap} (h : Mp w b n M) {zv : Value} (hz : (zeroValue et).run Tryz.prog w = .ok zv w) {x : Int} (hx : wfK x) :
    (Instr.lookup mt (.map (some b)) (.int .i64 x) false).run Tryz.prog w = .ok ((M x).getD zv) w := by
  obtain ⟨D, h1, _, hl⟩ := h
  obtain ⟨v, ps, hrun, hv⟩ := h1.lookup keyed3 hut hz (show vR zv = some (.held zv, []) from rfl) (key3 hx)
  rw [look_D hl hx] at hv
  simp only [vR, Option.some.injEq, Prod.mk.injEq, DataW.held.injEq] at hv
  rw [hrun, hv.1]
theorem Mp.store {mt et : TypeId} (hut : Tryz.prog.underlying mt = some (.map 3 et)) {w : World} {b n : Nat} {M : Vmap} (h : Mp w b n M) (hn : n ≤ 100000000) {x : Int} (hxw : wfK x) (v : Value) :
    ∃ w', (Instr.mapUpdate mt (.map (some b)) (.int .i64 x) v).run Tryz.prog w = .ok () w' ∧ Mp w' b (if (M x).isSome = true then n else n + 1) (vupd M x (some v)) ∧ Fr (fun k => k = b) w w' := by
  obtain ⟨D, h1, h2, hl⟩ := h
  obtain ⟨w', hrun, hown, hturn⟩ := h1.store keyed3 hut (by unfold maxLen; omega) (key3 hxw) (show vR v = some (.held v, []) from rfl)
  have hm := h1.isMap
  have hkl : WideAt.IsKeyLit (Lit.int .i64 x) := trivial
  have hsz : Maps.size (D.put (.int .i64 x) (.held v)) = if (M x).isSome = true then n else n + 1 := by
    rw [Maps.size_put (h1.tidy keyed3), hl.has x hxw, h2]
  refine ⟨w', hrun, ⟨_, ?_, hsz, ⟨fun y hy => ?_, fun y k hy hk z => ?_, fun y k hk => ?_⟩⟩, Fr.turned hturn⟩
  · have := ownsMap_fit hown
    rw [hsz] at this
    exact this
  · by_cases e : y = x
    · subst e; rw [vupd_same, Maps.has_put_same hm hkl]; rfl
    · rw [vupd_other _ e, Maps.has_put_other (int_lit_ne e), hl.has y hy]
  · by_cases e : y = x
    · subst e
      rw [vupd_same] at hk
      simp only [Option.some.injEq] at hk
      subst hk
      exact Maps.atKey_put_same hm hkl _ _
    · rw [vupd_other _ e] at hk
      rw [Maps.atKey_put_other (int_lit_ne e)]
      exact hl.at_ y k hy hk z
  · by_cases e : y = x
    · subst e; exact hxw
    · rw [vupd_other _ e] at hk; exact hl.key y k hk
theorem Mp.drop {mt et : TypeId} (hut : Tryz.prog.underlying mt = some (.map 3 et)) {w : World} {b n : Nat} {M : Vmap} (h : Mp w b n M) {x : Int} (hx : wfK x) (ty : TypeId) :
    ∃ w', (Builtin.delete_ #[mt, 3] ty #[.map (some b), .int .i64 x]).run Tryz.prog w = .ok (.tuple #[]) w' ∧ Mp w' b (if (M x).isSome = true then n - 1 else n) (vupd M x none) ∧ Fr (fun k => k = b) w w' := by
  obtain ⟨D, h1, h2, hl⟩ := h
  obtain ⟨w', hrun, hown, hturn⟩ := h1.drop keyed3 hut (key3 hx) ty
  have hsz : Maps.size (D.del (.int .i64 x)) = if (M x).isSome = true then n - 1 else n := by
    have := Maps.size_del (k := .int .i64 x) (h1.tidy keyed3)
    rw [hl.has x hx, h2] at this
    split
    · rename_i hs; rw [if_pos hs] at this; omega
    · rename_i hs; rw [if_neg hs] at this; omega
  refine ⟨w', hrun, ⟨_, ?_, hsz, ⟨fun y hy => ?_, fun y k hy hk z => ?_, fun y k hk => ?_⟩⟩, Fr.turned hturn⟩
  · have := ownsMap_fit hown
    rw [hsz] at this
    exact this
  · by_cases e : y = x
    · subst e; rw [vupd_same, Maps.has_del_same]; rfl
    · rw [vupd_other _ e, Maps.has_del_other (int_lit_ne e), hl.has y hy]
  · by_cases e : y = x
    · subst e; rw [vupd_same] at hk; cases hk
    · rw [vupd_other _ e] at hk
      rw [Maps.atKey_del_other (int_lit_ne e)]
      exact hl.at_ y k hy hk z
  · by_cases e : y = x
    · subst e; rw [vupd_same] at hk; cases hk
    · rw [vupd_other _ e] at hk; exact hl.key y k hk
theorem Mp.len {mt et : TypeId} (hut : Tryz.prog.underlying mt = some (.map 3 et)) {w : World} {b n : Nat} {M : Vmap} (h : Mp w b n M) (ty : TypeId) : (Builtin.len_ #[mt] ty #[.map (some b)]).run Tryz.prog w = .ok (.int .i64 (n : Nat)) w := by
  obtain ⟨D, h1, h2, hl⟩ := h
  rw [h1.len hut ty, h2]
end Go.Proofs.YthdbkanbgfajbaaGreat

/- Traces: what the watcher does, as plain functions. -/
namespace Go.Proofs.YthdbkanbgfajbaaGreat
open Go.RowKit

/-- A call that was made. -/
structure Md where
  op : Opn
  node : Int
  ans : Bool
  ref : Bool
/-- What a witness knows. -/
structure Wt where
  calls : Int → Option Md
  order : List Int
  floor : Int → Option Int
  h : List Rec
/-- An answer, and where its entries lie. -/
structure An where
  req : Int
  node : Int
  code : Int
  res : Rs
  ea : Option Addr
  ec : Nat
/-- A step, and where its lists lie. -/
structure Sn where
  kind : Int
  node : Int
  n : Int
  m : Int
  creq : Int
  cnode : Int
  op : Opn
  ba : Option Addr
  bn : Nat
  bc : Nat
  ans : List An
  aa : Option Addr
  ac : Nat
  H : List Rec
  ha : Option Addr
  hc : Nat
def wrB (o : Opn) : Bool := o.kind == 2 || o.kind == 3
def rdB (o : Opn) : Bool := o.kind == 1 || o.kind == 4
def refB (c : Int) : Bool := c == 2 || c == 5 || c == 8 || c == 6
def cupd (M : Int → Option Md) (x : Int) (v : Md) : Int → Option Md := fun y => if y = x then some v else M y
def fupd (M : Int → Option Int) (x : Int) (v : Option Int) : Int → Option Int := fun y => if y = x then v else M y
theorem cupd_same (M : Int → Option Md) (x : Int) (v : Md) : cupd M x v x = some v := if_pos rfl
theorem cupd_other {M : Int → Option Md} {x y : Int} (v : Md) (h : y ≠ x) : cupd M x v y = M y := if_neg h
def callW (W : Wt) (q node : Int) (op : Opn) : Wt := match W.calls q with
  | some _ => W
  | none => { W with calls := cupd W.calls q ⟨op, node, false, false⟩, order := W.order ++ [q] }
def seeW (W : Wt) (s : Sn) : Wt := if s.kind = 1 then callW W s.creq s.cnode s.op else if s.kind = 8 ∨ s.kind = 9 then { W with floor := fupd W.floor s.node none } else W
def noteW (W : Wt) (a : An) : Wt := match W.calls a.req with
  | none => W
  | some c => { W with calls := cupd W.calls a.req { c with ans := true, ref := refB a.code } }
def ackB (W : Wt) (a : An) : Bool := match W.calls a.req with
  | none => false
  | some c => a.code == 1 && wrB c.op
def r2B (W : Wt) (a : An) : Bool := match W.calls a.req with
  | none => false
  | some c => !c.ans && (a.node == c.node && (decide (1 ≤ a.code) && decide (a.code ≤ 8)))
end Go.Proofs.YthdbkanbgfajbaaGreat

/- A witness in memory. -/
namespace Go.Proofs.YthdbkanbgfajbaaGreat
open Go.RowKit

def opA (o : Opn) : Value := .agg #[.int .i64 o.kind, .string o.key, .string o.val]
def mdC (m : Md) : Array Value := #[.int .i64 m.op.kind, .string m.op.key, .string m.op.val, .int .i64 m.node, .bool m.ans, .bool m.ref]
/-- A witness at block b, whose own blocks are in S. -/
structure Wi (w : World) (S : Nat → Prop) (b : Nat) (W : Wt) (K : Nat) (m1 m2 : Nat) (oa : Option Addr) (oc : Nat) (ha : Option Addr) (hc : Nat) (P : Int → Nat) : Prop where
  blk : w.heap[b]? = some (.cells #[.map (some m1), .slice oa W.order.length oc, .map (some m2), .slice ha W.h.length hc] 60 (0, 0))
  calls : ∃ n, n ≤ K ∧ Mp w m1 n (fun x => (W.calls x).map (fun _ => .pointer (some ⟨P x, 0, none⟩)))
  floors : ∃ n, n ≤ K ∧ Mp w m2 n (fun x => (W.floor x).map (fun v => .int .i64 v))
  made : ∀ x c, W.calls x = some c → w.heap[P x]? = some (.cells (mdC c) 62 (0, 0))
  inj : ∀ x y c d, W.calls x = some c → W.calls y = some d → P x = P y → x = y
  row : Has w 1 (.slice oa W.order.length oc) W.order.length (W.order.map zI)
  hist : Recs w ha hc W.h
  few : W.order.length ≤ K
  ob : S b
  om1 : S m1
  om2 : S m2
  oP : ∀ x c, W.calls x = some c → S (P x)
  oo : ∀ g, (Value.slice oa W.order.length oc).ownBlock = some g → S g ∧ g ≠ b ∧ g ≠ m1 ∧ g ≠ m2 ∧ ∀ x c, W.calls x = some c → g ≠ P x
  oh : ∀ g o, ha = some ⟨g, o, none⟩ → W.h ≠ [] → ¬ S g
  n12 : m1 ≠ m2
theorem four_cells {W : World} {b : Nat} {t : TypeId} {c0 c1 c2 c3 : Value} (h : W.heap[b]? = some (.cells #[c0, c1, c2, c3] t (0, 0))) : W.cell? ⟨b, 0, none⟩ = some c0 ∧ W.cell? ⟨b, 1, none⟩ = some c1 ∧ W.cell? ⟨b, 2, none⟩ = some c2 ∧ W.cell? ⟨b, 3, none⟩ = some c3 ∧ (∀ j, W.frozen? ⟨b, j, none⟩ = false) := by
  refine ⟨?_, ?_, ?_, ?_, fun j => ?_⟩ <;> simp [World.cell?, World.frozen?, h]
theorem six_cells {W : World} {b : Nat} {t : TypeId} {c0 c1 c2 c3 c4 c5 : Value} (h : W.heap[b]? = some (.cells #[c0, c1, c2, c3, c4, c5] t (0, 0))) : W.cell? ⟨b, 0, none⟩ = some c0 ∧ W.cell? ⟨b, 1, none⟩ = some c1 ∧ W.cell? ⟨b, 2, none⟩ = some c2 ∧ W.cell? ⟨b, 3, none⟩ = some c3 ∧ W.cell? ⟨b, 4, none⟩ = some c4 ∧ W.cell? ⟨b, 5, none⟩ = some c5 ∧ (∀ j, W.frozen? ⟨b, j, none⟩ = false) := by
  refine ⟨?_, ?_, ?_, ?_, ?_, ?_, fun j => ?_⟩ <;> simp [World.cell?, World.frozen?, h]
theorem blk_lt {w : World} {b : Nat} {o : Obj} (h : w.heap[b]? = some o) : b < w.heap.size := (Array.getElem?_eq_some_iff.1 h).1
/-- Not a cell of its blocks was written. -/
theorem Wi.off {w w' : World} {S T : Nat → Prop} {b : Nat} {W : Wt} {K m1 m2 : Nat} {oa : Option Addr} {oc : Nat} {ha : Option Addr} {hc : Nat} {P : Int → Nat} (h : Wi w S b W K m1 m2 oa oc ha hc P) (f : Fr T w w') (hd : ∀ k, S k → ¬ T k) (hh : ∀ g o, ha = some ⟨g, o, none⟩ → W.h ≠ [] → ¬ T g) : Wi w' S b W K m1 m2 oa oc ha hc P := by
  obtain ⟨n1, hn1, k1⟩ := h.calls
  obtain ⟨n2, hn2, k2⟩ := h.floors
  refine ⟨(f.block b (blk_lt h.blk) (hd _ h.ob)).trans h.blk, ⟨n1, hn1, k1.fr f (hd _ h.om1)⟩, ⟨n2, hn2, k2.fr f (hd _ h.om2)⟩, fun x c hx => (f.block _ (blk_lt (h.made x c hx)) (hd _ (h.oP x c hx))).trans (h.made x c hx), h.inj, h.row.fr f (fun k e => hd _ (h.oo k e).1), ?_, h.few, h.ob, h.om1, h.om2, h.oP, h.oo, h.oh, h.n12⟩
  refine ⟨h.hist.le, h.hist.max, ?_⟩
  rcases h.hist.at_ with h0 | ⟨g, off, rfl, hb, hc⟩
  · exact .inl h0
  · by_cases he : W.h = []
    · exact .inl he
    · exact .inr ⟨g, off, rfl, Nat.lt_of_lt_of_le hb f.size, fun i r hr => range_fr (hc i r hr) f (hh g off rfl he)⟩
theorem Wi.same {w w' : World} {S : Nat → Prop} {b : Nat} {W : Wt} {K m1 m2 : Nat} {oa : Option Addr} {oc : Nat} {ha : Option Addr} {hc : Nat} {P : Int → Nat} (h : Wi w S b W K m1 m2 oa oc ha hc P) (f : Fr (fun _ => False) w w') : Wi w' S b W K m1 m2 oa oc ha hc P := h.off f (fun _ _ f => f) (fun _ _ _ _ f => f)
theorem Wi.more {w : World} {S : Nat → Prop} {b : Nat} {W : Wt} {K K' m1 m2 : Nat} {oa : Option Addr} {oc : Nat} {ha : Option Addr} {hc : Nat} {P : Int → Nat} (h : Wi w S b W K m1 m2 oa oc ha hc P) (hk : K ≤ K') : Wi w S b W K' m1 m2 oa oc ha hc P := by
  obtain ⟨n1, hn1, k1⟩ := h.calls
  obtain ⟨n2, hn2, k2⟩ := h.floors
  exact ⟨h.blk, ⟨n1, by omega, k1⟩, ⟨n2, by omega, k2⟩, h.made, h.inj, h.row, h.hist, by have := h.few; omega, h.ob, h.om1, h.om2, h.oP, h.oo, h.oh, h.n12⟩
/-- The same, with whatever stands for its parts. -/
def Wn (w : World) (S : Nat → Prop) (b : Nat) (W : Wt) (K : Nat) : Prop := (∀ k, S k → k < w.heap.size) ∧ ∃ m1 m2 oa oc ha hc P, Wi w S b W K m1 m2 oa oc ha hc P
/-- What a call leaves that may change a witness: its blocks are those that it had, or new ones. -/
def WnTo (w : World) (S : Nat → Prop) (b : Nat) (W : Wt) (K : Nat) (w' : World) : Prop := ∃ S', Wn w' S' b W K ∧ (∀ k, S' k → S k ∨ w.heap.size ≤ k) ∧ (∀ k, S k → S' k) ∧ Fr S w w'
theorem zeroI : ∀ w, (zeroValue 3).run Tryz.prog w = .ok (.int .i64 0) w := fun w => Tryz.zeroValue3 (w := w)
theorem zeroMd : ∀ w, (zeroValue 63).run Tryz.prog w = .ok (.pointer none) w := fun w => Tryz.zeroValue63 (w := w)
/-- trace.isWrite, isRead, refuses. -/
theorem isWrite_any (o : Opn) (w : World) : Calls Tryz.prog 27 #[opA o] w fun e w' => e = .returned (.bool (wrB o)) ∧ Fr (fun _ => False) w w' := by
  obtain ⟨kind, key, val⟩ := o
  have f0 := Fr.box w (.cells #[.int .i64 kind, .string key, .string val] 30)
  unfold opA wrB
  dsimp only
  by_cases h2 : kind = 2
  · subst h2
    go_enter Tryz.func27, Tryz.ntmps27
    go_wp2
    go_ret
    exact ⟨rfl, f0⟩
  · have e2 : (kind == 2) = false := by simpa using h2
    rw [e2]
    clear h2
    go_enter Tryz.func27, Tryz.ntmps27
    go_wp2
    go_ret
    exact ⟨rfl, f0⟩
theorem isRead_any (o : Opn) (w : World) : Calls Tryz.prog 39 #[opA o] w fun e w' => e = .returned (.bool (rdB o)) ∧ Fr (fun _ => False) w w' := by
  obtain ⟨kind, key, val⟩ := o
  have f0 := Fr.box w (.cells #[.int .i64 kind, .string key, .string val] 30)
  unfold opA rdB
  dsimp only
  by_cases h2 : kind = 1
  · subst h2
    go_enter Tryz.func39, Tryz.ntmps39
    go_wp2
    go_ret
    exact ⟨rfl, f0⟩
  · have e2 : (kind == 1) = false := by simpa using h2
    rw [e2]
    clear h2
    go_enter Tryz.func39, Tryz.ntmps39
    go_wp2
    go_ret
    exact ⟨rfl, f0⟩
theorem refuses_any (c : Int) (w : World) : Calls Tryz.prog 26 #[.int .i64 c] w fun e w' => e = .returned (.bool (refB c)) ∧ w' = w := by
  unfold refB
  go_enter Tryz.func26, Tryz.ntmps26
  go_wp2
  all_goals go_ret
  all_goals refine ⟨ret_bool ?_, rfl⟩
  all_goals simp_all
end Go.Proofs.YthdbkanbgfajbaaGreat

/- What a witness is asked and told. -/
namespace Go.Proofs.YthdbkanbgfajbaaGreat
open Go.RowKit

def wt0 : Wt := ⟨fun _ => none, [], fun _ => none, []⟩
def anV (a : An) : Value := .agg #[.int .i64 a.req, .int .i64 a.node, .int .i64 a.code, .bool a.res.found, .string a.res.val, .slice a.ea a.res.ents.length a.ec]
def anC (a : An) : Array Value := #[.int .i64 a.req, .int .i64 a.node, .int .i64 a.code, .bool a.res.found, .string a.res.val, .slice a.ea a.res.ents.length a.ec]
theorem three_apart (g : Nat) : g ≠ g + 1 ∧ g ≠ g + 2 ∧ g + 1 ≠ g + 2 := by omega
set_option maxRecDepth 100000 in
set_option maxHeartbeats 1000000 in
theorem newW_any (w : World) : Calls Tryz.prog 15 #[] w fun e w' => ∃ b, e = .returned (.pointer (some ⟨b, 0, none⟩)) ∧ (∃ S, Wn w' S b wt0 0 ∧ ∀ k, S k → w.heap.size ≤ k) ∧ Fr (fun _ => False) w w' := by
  have hmm := @run_makeMap Tryz.prog
  go_enter Tryz.func15, Tryz.ntmps15
  go_wp2
  go_ret
  have f1 := Fr.box w (.map #[] 0)
  have f2 := Fr.box (w.alloc (.map #[] 0)) (.map #[] 0)
  have f3 := Fr.box ((w.alloc (.map #[] 0)).alloc (.map #[] 0)) (.cells #[.map (some w.heap.size), .slice none 0 0, .map (some (w.heap.size + 1)), .slice none 0 0] 60)
  have s1 : (w.alloc (.map #[] 0)).heap.size = w.heap.size + 1 := by simp
  have s2 : ((w.alloc (.map #[] 0)).alloc (.map #[] 0)).heap.size = w.heap.size + 2 := by simp
  have k1 : Mp (w.alloc (.map #[] 0)) w.heap.size 0 (fun _ => none) := Mp.made w
  have k2 := Mp.made (w.alloc (.map #[] 0))
  rw [s1] at k2
  have k3 := heap_alloc_new ((w.alloc (.map #[] 0)).alloc (.map #[] 0)) (.cells #[.map (some w.heap.size), .slice none 0 0, .map (some (w.heap.size + 1)), .slice none 0 0] 60)
  rw [s2] at k3
  refine ⟨w.heap.size + 2, by simp, ⟨fun k => k = w.heap.size ∨ k = w.heap.size + 1 ∨ k = w.heap.size + 2, ⟨fun k hk => by simp; omega, w.heap.size, w.heap.size + 1, none, 0, none, 0, fun _ => 0, ?_⟩, fun k hk => by omega⟩, f1.seq' (f2.seq' f3)⟩
  refine ⟨k3, ⟨0, Nat.le_refl _, (k1.same f2).same f3⟩, ⟨0, Nat.le_refl _, k2.same f3⟩, (fun x c h => by cases h), (fun x y c d h => by cases h), Has.nil _ _, ⟨Nat.le_refl _, by simp, .inl rfl⟩, Nat.le_refl _, .inr (.inr rfl), .inl rfl, .inr (.inl rfl), (fun x c h => by cases h), (fun g h => by cases h), (fun g o h => by cases h), by omega⟩

section
variable {S : Nat → Prop} {b : Nat} {W : Wt} {K m1 m2 : Nat} {oa : Option Addr} {oc : Nat} {ha : Option Addr} {hc : Nat} {P : Int → Nat}
/-- A look-up of a call. -/
theorem Wi.look {w : World} (h : Wi w S b W K m1 m2 oa oc ha hc P) {x : Int} (hx : wfK x) : (Instr.lookup 57 (.map (some m1)) (.int .i64 x) true).run Tryz.prog w = .ok (.tuple #[((W.calls x).map (fun _ => Value.pointer (some ⟨P x, 0, none⟩))).getD (.pointer none), .bool (W.calls x).isSome]) w := by
  obtain ⟨n, _, hm⟩ := h.calls
  have := hm.look Tryz.underlying57 (zeroMd w) hx
  rw [this]
  cases W.calls x <;> rfl
theorem Wi.look1 {w : World} (h : Wi w S b W K m1 m2 oa oc ha hc P) {x : Int} (hx : wfK x) : (Instr.lookup 57 (.map (some m1)) (.int .i64 x) false).run Tryz.prog w = .ok (((W.calls x).map (fun _ => Value.pointer (some ⟨P x, 0, none⟩))).getD (.pointer none)) w := by
  obtain ⟨n, _, hm⟩ := h.calls
  exact hm.look1 Tryz.underlying57 (zeroMd w) hx
theorem Wi.flook {w : World} (h : Wi w S b W K m1 m2 oa oc ha hc P) {x : Int} (hx : wfK x) : (Instr.lookup 58 (.map (some m2)) (.int .i64 x) false).run Tryz.prog w = .ok (.int .i64 ((W.floor x).getD 0)) w := by
  obtain ⟨n, _, hm⟩ := h.floors
  have := hm.look1 Tryz.underlying58 (zeroI w) hx
  rw [this]
  cases W.floor x <;> rfl
set_option maxRecDepth 100000 in
set_option maxHeartbeats 4000000 in
theorem acks_wi (a : An) (hx : wfK a.req) (w : World) (h : Wi w S b W K m1 m2 oa oc ha hc P) : Calls Tryz.prog 19 #[.pointer (some ⟨b, 0, none⟩), anV a] w fun e w' => e = .returned (.bool (ackB W a)) ∧ Fr (fun _ => False) w w' := by
  have f0 := Fr.box w (.cells (anC a) 49)
  have h1 := h.same f0
  obtain ⟨c0, c1, c2, c3, cz⟩ := four_cells h1.blk
  have e1 := (h1.same (Fr.drew (Fr.refl _ _))).look hx
  have HM : Hid (∀ c, W.calls a.req = some c → (w.alloc (.cells (anC a) 49)).heap[P a.req]? = some (.cells (mdC c) 62 (0, 0))) := h1.made a.req
  have HF : Hid (Fr (fun _ => False) w (w.alloc (.cells (anC a) 49))) := f0
  have hb : b < w.heap.size := blk_lt h.blk
  clear h h1 f0
  obtain ⟨req, node, code, ⟨found, val, ents⟩, ea, ec⟩ := a
  unfold anV ackB
  unfold anC at *
  dsimp only at *
  cases hq : W.calls req with
  | none =>
    rw [hq] at e1
    dsimp only [Option.map, Option.getD, Option.isSome] at e1
    clear hq HM
    go_enter Tryz.func19, Tryz.ntmps19
    go_wp2
    go_region_law (fail)
    all_goals go_wp2
    all_goals go_ret
    all_goals exact ⟨rfl, HF.out.drew⟩
  | some c =>
    rw [hq] at e1
    dsimp only [Option.map, Option.getD, Option.isSome] at e1
    have hm := HM.out c hq
    obtain ⟨op, cn, ca, cr⟩ := c
    have hw := isWrite_any op
    obtain ⟨kind, key, oval⟩ := op
    unfold opA at hw
    unfold mdC at hm
    dsimp only at hw hm
    obtain ⟨d0, d1, d2, d3, d4, d5, dz⟩ := six_cells hm
    clear hq HM hm
    dsimp only
    cases hc1 : (code == 1) with
    | false =>
      go_enter Tryz.func19, Tryz.ntmps19
      go_wp2
      go_region_law (fail)
      all_goals go_wp2
      all_goals go_ret
      all_goals exact ⟨rfl, HF.out.drew⟩
    | true =>
      go_enter Tryz.func19, Tryz.ntmps19
      go_wp2
      go_region_law (fail)
      all_goals go_wp2_with (go_at_call 27; refine (hw _).mono ?_; rintro e w3 ⟨rfl, f3⟩)
      all_goals go_ret
      all_goals exact ⟨rfl, (HF.out.drew).seq' f3⟩
end
end Go.Proofs.YthdbkanbgfajbaaGreat

/- An answer is noted; a call is taken in. -/
namespace Go.Proofs.YthdbkanbgfajbaaGreat
open Go.RowKit

section
variable {S : Nat → Prop} {b : Nat} {W : Wt} {K m1 m2 : Nat} {oa : Option Addr} {oc : Nat} {ha : Option Addr} {hc : Nat} {P : Int → Nat}
theorem set_blkT {W : World} {b : Nat} {A : Array Value} {t : TypeId} (h : W.heap[b]? = some (.cells A t (0, 0))) (j : Nat) (v : Value) : (W.setCell ⟨b, j, none⟩ v).heap[b]? = some (.cells (A.setIfInBounds j v) t (0, 0)) := by
  have hlt : b < W.heap.size := (Array.getElem?_eq_some_iff.1 h).1
  have h' : W.heap[b] = .cells A t (0, 0) := by simpa [Array.getElem?_eq_getElem hlt] using h
  show (W.heap.modify b _)[b]? = _
  rw [Array.getElem?_eq_getElem (by rw [Array.size_modify]; exact hlt), Array.getElem_modify_self, h']
  simp
/-- A call's block is never another thing of the witness. -/
theorem Wi.apart {w : World} (h : Wi w S b W K m1 m2 oa oc ha hc P) {x : Int} {c : Md} (hx : W.calls x = some c) : P x ≠ b ∧ P x ≠ m1 ∧ P x ≠ m2 := by
  have hp := h.made x c hx
  refine ⟨fun e => ?_, fun e => ?_, fun e => ?_⟩
  · have := h.blk
    rw [← e, hp] at this
    simp [mdC] at this
  · obtain ⟨n, _, D, ⟨es, cl, hb, _⟩, _⟩ := h.calls
    rw [← e, hp] at hb
    cases hb
  · obtain ⟨n, _, D, ⟨es, cl, hb, _⟩, _⟩ := h.floors
    rw [← e, hp] at hb
    cases hb
theorem Wi.bm {w : World} (h : Wi w S b W K m1 m2 oa oc ha hc P) : b ≠ m1 ∧ b ≠ m2 := by
  refine ⟨fun e => ?_, fun e => ?_⟩
  · obtain ⟨n, _, D, ⟨es, cl, hb, _⟩, _⟩ := h.calls
    rw [← e, h.blk] at hb
    cases hb
  · obtain ⟨n, _, D, ⟨es, cl, hb, _⟩, _⟩ := h.floors
    rw [← e, h.blk] at hb
    cases hb
theorem noteW_some {a : An} {c : Md} (hq : W.calls a.req = some c) : noteW W a = { W with calls := cupd W.calls a.req { c with ans := true, ref := refB a.code } } := by
  unfold noteW; rw [hq]
theorem noteW_none {a : An} (hq : W.calls a.req = none) : noteW W a = W := by
  unfold noteW; rw [hq]
theorem Wi.note {w : World} (h : Wi w S b W K m1 m2 oa oc ha hc P) {q : Int} {c : Md} (hq : W.calls q = some c) (r : Bool) :
    Wi ((w.setCell ⟨P q, 4, none⟩ (.bool true)).setCell ⟨P q, 5, none⟩ (.bool r)) S b { W with calls := cupd W.calls q { c with ans := true, ref := r } } K m1 m2 oa oc ha hc P ∧ Fr (fun k => k = P q) w ((w.setCell ⟨P q, 4, none⟩ (.bool true)).setCell ⟨P q, 5, none⟩ (.bool r)) := by
  have f : Fr (fun k => k = P q) w ((w.setCell ⟨P q, 4, none⟩ (.bool true)).setCell ⟨P q, 5, none⟩ (.bool r)) := ((Fr.refl (fun i => i = P q) w).setCell (p := ⟨P q, 4, none⟩) (fun _ => rfl) _).setCell (p := ⟨P q, 5, none⟩) (fun _ => rfl) _
  refine ⟨?_, f⟩
  obtain ⟨a1, a2, a3⟩ := h.apart hq
  obtain ⟨n1, hn1, k1⟩ := h.calls
  obtain ⟨n2, hn2, k2⟩ := h.floors
  have hp := set_blkT (set_blkT (h.made q c hq) 4 (.bool true)) 5 (.bool r)
  have hcs : ∀ x d, cupd W.calls q { c with ans := true, ref := r } x = some d → ∃ d', W.calls x = some d' := fun x d hx => by
    by_cases e : x = q
    · exact ⟨c, by rw [e]; exact hq⟩
    · rw [cupd_other _ e] at hx; exact ⟨d, hx⟩
  refine ⟨(f.block b (blk_lt h.blk) (fun e => a1 e.symm)).trans h.blk, ⟨n1, hn1, ?_⟩, ⟨n2, hn2, k2.fr f (fun e => a3 e.symm)⟩, fun x d hx => ?_, fun x y d1 d2 h1 h2 => ?_, h.row.fr f (fun k e ek => (h.oo k e).2.2.2.2 q c hq ek), ?_, h.few, h.ob, h.om1, h.om2, fun x d hx => ?_, fun g e => ?_, h.oh, h.n12⟩
  · have k1' := k1.fr f (fun e => a2 e.symm)
    rw [show (fun x => (cupd W.calls q { c with ans := true, ref := r } x).map (fun _ => Value.pointer (some ⟨P x, 0, none⟩))) = (fun x => (W.calls x).map (fun _ => Value.pointer (some ⟨P x, 0, none⟩))) from ?_]
    · exact k1'
    · funext x
      by_cases e : x = q
      · rw [e, cupd_same, hq]; rfl
      · rw [cupd_other _ e]
  · dsimp only at hx
    by_cases e : x = q
    · subst e
      rw [cupd_same] at hx
      cases hx
      exact hp
    · rw [cupd_other _ e] at hx
      exact (f.block _ (blk_lt (h.made x d hx)) (fun ek => e (h.inj x q d c hx hq ek))).trans (h.made x d hx)
  · obtain ⟨e1, g1⟩ := hcs x d1 h1
    obtain ⟨e2, g2⟩ := hcs y d2 h2
    exact h.inj x y e1 e2 g1 g2
  · refine ⟨h.hist.le, h.hist.max, ?_⟩
    rcases h.hist.at_ with h0 | ⟨g, off, rfl, hb, hcc⟩
    · exact .inl h0
    · by_cases he : W.h = []
      · exact .inl he
      · exact .inr ⟨g, off, rfl, Nat.lt_of_lt_of_le hb f.size, fun i r hr => range_fr (hcc i r hr) f (fun e => h.oh g off rfl he (by rw [e]; exact h.oP q c hq))⟩
  · obtain ⟨e1, g1⟩ := hcs x d hx
    exact h.oP x e1 g1
  · obtain ⟨z1, z2, z3, z4, z5⟩ := h.oo g e
    exact ⟨z1, z2, z3, z4, fun x d hx => by obtain ⟨e1, g1⟩ := hcs x d hx; exact z5 x e1 g1⟩
set_option maxRecDepth 100000 in
set_option maxHeartbeats 4000000 in
theorem note_wi (a : An) (hx : wfK a.req) (w : World) (h : Wi w S b W K m1 m2 oa oc ha hc P) : Calls Tryz.prog 18 #[.pointer (some ⟨b, 0, none⟩), anV a] w fun e w' => e = .returned (.tuple #[]) ∧ Wi w' S b (noteW W a) K m1 m2 oa oc ha hc P ∧ Fr S w w' := by
  have f0 := Fr.box w (.cells (anC a) 49)
  have h1 := h.same f0
  obtain ⟨c0, c1, c2, c3, cz⟩ := four_cells h1.blk
  have hd := h1.same (Fr.drew (Fr.refl _ _))
  have e1 := hd.look hx
  have HM : Hid (∀ c, W.calls a.req = some c → (w.alloc (.cells (anC a) 49)).heap[P a.req]? = some (.cells (mdC c) 62 (0, 0))) := h1.made a.req
  have HF : Hid (Fr (fun _ => False) w (w.alloc (.cells (anC a) 49))) := f0
  have HD : Hid (Wi (w.alloc (.cells (anC a) 49)).drew S b W K m1 m2 oa oc ha hc P) := hd
  have hb : b < w.heap.size := blk_lt h.blk
  clear h1 f0 hd
  cases hq : W.calls a.req with
  | none =>
    rw [noteW_none hq]
    rw [hq] at e1
    have HN : Hid (Wi w S b W K m1 m2 oa oc ha hc P) := h
    obtain ⟨req, node, code, ⟨found, val, ents⟩, ea, ec⟩ := a
    unfold anV
    unfold anC at *
    dsimp only at *
    dsimp only [Option.map, Option.getD, Option.isSome] at e1
    clear hq HM h
    go_enter Tryz.func18, Tryz.ntmps18
    go_wp2
    go_region_law (fail)
    all_goals go_wp2
    all_goals go_end0
    all_goals exact ⟨rfl, HD.out, HF.out.drew.widen (fun _ f => f.elim)⟩
  | some c =>
    have hn := noteW_some hq
    have HQ : Hid (S (P a.req)) := h.oP a.req c hq
    have hw := refuses_any a.code
    obtain ⟨HW1, HW2⟩ := HD.out.note hq (refB a.code)
    rw [← hn] at HW1
    have HR : Hid (Wi (((w.alloc (.cells (anC a) 49)).drew.setCell ⟨P a.req, 4, none⟩ (.bool true)).setCell ⟨P a.req, 5, none⟩ (.bool (refB a.code))) S b (noteW W a) K m1 m2 oa oc ha hc P ∧ Fr S w (((w.alloc (.cells (anC a) 49)).drew.setCell ⟨P a.req, 4, none⟩ (.bool true)).setCell ⟨P a.req, 5, none⟩ (.bool (refB a.code)))) := ⟨HW1, (HF.out.drew.widen (fun _ f => f.elim)).trans HW2 (fun k _ e => by rw [e]; exact HQ.out)⟩
    rw [hq] at e1
    have hm := HM.out c hq
    obtain ⟨⟨ok, okey, oval⟩, cn, ca, cr⟩ := c
    unfold mdC at hm
    dsimp only at hm
    obtain ⟨d0, d1, d2, d3, d4, d5, dz⟩ := six_cells hm
    clear HM hm hn HW1 HW2 HD HF hq h
    obtain ⟨p, hp⟩ : ∃ p, p = P a.req := ⟨_, rfl⟩
    generalize refB a.code = rb at *
    obtain ⟨req, node, code, ⟨found, val, ents⟩, ea, ec⟩ := a
    unfold anV
    unfold anC at *
    dsimp only at *
    dsimp only [Option.map, Option.getD, Option.isSome] at e1
    rw [← hp] at HR HQ e1 d0 d1 d2 d3 d4 d5
    simp only [← hp] at dz
    have dz4 := dz 4
    have dz5 := dz 5
    clear hp dz
    go_enter Tryz.func18, Tryz.ntmps18
    go_wp2
    go_region_law (fail)
    all_goals go_wp2_with (go_at_call 26; refine (hw _).mono ?_; rintro e w3 ⟨rfl, rfl⟩)
    all_goals go_end0
    all_goals exact ⟨rfl, HR.out⟩
end
end Go.Proofs.YthdbkanbgfajbaaGreat

/- A call is taken in. -/
namespace Go.Proofs.YthdbkanbgfajbaaGreat
open Go.RowKit

section
variable {S : Nat → Prop} {b : Nat} {W : Wt} {K m1 m2 : Nat} {oa : Option Addr} {oc : Nat} {ha : Option Addr} {hc : Nat} {P : Int → Nat}
theorem callW_some {q n : Int} {o : Opn} {c : Md} (hq : W.calls q = some c) : callW W q n o = W := by unfold callW; rw [hq]
theorem callW_none {q n : Int} {o : Opn} (hq : W.calls q = none) : callW W q n o = { W with calls := cupd W.calls q ⟨o, n, false, false⟩, order := W.order ++ [q] } := by unfold callW; rw [hq]
theorem five_cells {W : World} {b : Nat} {t : TypeId} {c0 c1 c2 c3 c4 : Value} (h : W.heap[b]? = some (.cells #[c0, c1, c2, c3, c4] t (0, 0))) : W.cell? ⟨b, 0, none⟩ = some c0 ∧ W.cell? ⟨b, 1, none⟩ = some c1 ∧ W.cell? ⟨b, 2, none⟩ = some c2 ∧ W.cell? ⟨b, 3, none⟩ = some c3 ∧ W.cell? ⟨b, 4, none⟩ = some c4 := by
  refine ⟨?_, ?_, ?_, ?_, ?_⟩ <;> simp [World.cell?, h]
/-- A call is stored in the map, its block right ahead of it. -/
def MdAt (V : World) (S : Nat → Prop) (b : Nat) (W : Wt) (K m1 m2 : Nat) (oa : Option Addr) (oc : Nat) (ha : Option Addr) (hc : Nat) (P : Int → Nat) (q : Int) (c : Md) (w4 : World) : Prop :=
  Wi w4 (fun k => S k ∨ k = V.heap.size) b { W with calls := cupd W.calls q c } (K + 1) m1 m2 oa oc ha hc (fun x => if x = q then V.heap.size else P x) ∧ Fr (fun k => k = m1) V w4 ∧ V.heap.size < w4.heap.size
theorem Wi.store {V : World} (h : Wi V S b W K m1 m2 oa oc ha hc P) {q : Int} (hq : W.calls q = none) (hx : wfK q) (hK : K ≤ 1000000) (n kind : Int) (key val : ByteArray) :
    ∃ w4, (Instr.mapUpdate 57 (.map (some m1)) (.int .i64 q) (.pointer (some ⟨V.heap.size, 0, none⟩))).run Tryz.prog (V.alloc (.cells #[.int .i64 kind, .string key, .string val, .int .i64 n, .bool false, .bool false] 62)).drew = .ok () w4 ∧ Hid (MdAt V S b W K m1 m2 oa oc ha hc P q ⟨⟨kind, key, val⟩, n, false, false⟩ w4) := by
  have f0 : Fr (fun _ => False) V (V.alloc (.cells #[.int .i64 kind, .string key, .string val, .int .i64 n, .bool false, .bool false] 62)).drew := (Fr.box V _).drew
  have hnew : (V.alloc (.cells #[.int .i64 kind, .string key, .string val, .int .i64 n, .bool false, .bool false] 62)).drew.heap[V.heap.size]? = some (.cells #[.int .i64 kind, .string key, .string val, .int .i64 n, .bool false, .bool false] 62 (0, 0)) := heap_alloc_new V _
  have h1 := h.same f0
  obtain ⟨n1, hn1, k1⟩ := h1.calls
  obtain ⟨n2, hn2, k2⟩ := h1.floors
  obtain ⟨w4, hst, k4, f4⟩ := k1.store Tryz.underlying57 (by omega) hx (.pointer (some ⟨V.heap.size, 0, none⟩))
  have hlt := blk_lt hnew
  have old : ∀ x c, W.calls x = some c → P x < V.heap.size := fun x c hc => blk_lt (h.made x c hc)
  have hne : ∀ x c, W.calls x = some c → x ≠ q := fun x c hc e => by rw [e, hq] at hc; cases hc
  have hb : b < V.heap.size := blk_lt h.blk
  have hm1 : m1 < V.heap.size := by obtain ⟨n, _, hm⟩ := h.calls; exact hm.lt
  have hm2 : m2 < V.heap.size := by obtain ⟨n, _, hm⟩ := h.floors; exact hm.lt
  obtain ⟨bm1, bm2⟩ := h.bm
  refine ⟨w4, hst, ?_, (f0.widen (fun _ f => f.elim)).trans f4 (fun _ _ e => e), Nat.lt_of_lt_of_le hlt f4.size⟩
  refine ⟨(f4.block b (blk_lt h1.blk) (fun e => bm1 e)).trans h1.blk, ⟨(if (((W.calls q).map (fun _ => Value.pointer (some ⟨P q, 0, none⟩))).isSome = true) then n1 else n1 + 1), ?_, ?_⟩, ⟨n2, by omega, k2.fr f4 (fun e => h.n12 e.symm)⟩, fun x d hd => ?_, fun x y d1 d2 g1 g2 e => ?_, h1.row.fr f4 (fun k e ek => (h.oo k e).2.2.1 ek), ?_, by have := h.few; show W.order.length ≤ K + 1; omega, .inl h.ob, .inl h.om1, .inl h.om2, fun x d hd => ?_, fun g e => ?_, fun g o e1 e2 e3 => ?_, h.n12⟩
  · split <;> omega
  · rw [show (fun x => (cupd W.calls q ⟨⟨kind, key, val⟩, n, false, false⟩ x).map (fun _ => Value.pointer (some ⟨if x = q then V.heap.size else P x, 0, none⟩))) = vupd (fun x => (W.calls x).map (fun _ => Value.pointer (some ⟨P x, 0, none⟩))) q (some (.pointer (some ⟨V.heap.size, 0, none⟩))) from ?_]
    · exact k4
    · funext x
      by_cases e : x = q
      · rw [e, cupd_same, vupd_same, if_pos rfl]; rfl
      · rw [cupd_other _ e, vupd_other _ e, if_neg e]
  · dsimp only at hd
    by_cases e : x = q
    · subst e
      rw [cupd_same] at hd
      cases hd
      rw [if_pos rfl]
      exact (f4.block _ hlt (fun e => by omega)).trans hnew
    · rw [cupd_other _ e] at hd
      rw [if_neg e]
      exact (f4.block _ (blk_lt (h1.made x d hd)) (fun ek => (h.apart hd).2.1 ek)).trans (h1.made x d hd)
  · dsimp only at g1 g2
    by_cases e1 : x = q
    · by_cases e2 : y = q
      · rw [e1, e2]
      · rw [cupd_other _ e2] at g2
        rw [if_pos e1, if_neg e2] at e
        have := old y d2 g2
        omega
    · rw [cupd_other _ e1] at g1
      by_cases e2 : y = q
      · rw [if_neg e1, if_pos e2] at e
        have := old x d1 g1
        omega
      · rw [cupd_other _ e2] at g2
        rw [if_neg e1, if_neg e2] at e
        exact h.inj x y d1 d2 g1 g2 e
  · refine ⟨h1.hist.le, h1.hist.max, ?_⟩
    rcases h1.hist.at_ with h0 | ⟨g, off, rfl, hb, hcc⟩
    · exact .inl h0
    · by_cases he : W.h = []
      · exact .inl he
      · exact .inr ⟨g, off, rfl, Nat.lt_of_lt_of_le hb f4.size, fun i r hr => range_fr (hcc i r hr) f4 (fun e => h.oh g off rfl he (by rw [e]; exact h.om1))⟩
  · dsimp only at hd
    by_cases e : x = q
    · rw [if_pos e]; exact .inr rfl
    · rw [cupd_other _ e] at hd
      rw [if_neg e]; exact .inl (h.oP x d hd)
  · obtain ⟨z1, z2, z3, z4, z5⟩ := h.oo g e
    refine ⟨.inl z1, z2, z3, z4, fun x d hd => ?_⟩
    dsimp only at hd
    by_cases e : x = q
    · rw [if_pos e]
      have := h.row.lt (by assumption)
      omega
    · rw [cupd_other _ e] at hd
      rw [if_neg e]; exact z5 x d hd
  · rcases e3 with e3 | e3
    · exact h.oh g o e1 e2 e3
    · rcases h.hist.at_ with h0 | ⟨g', off, h0, hb', _⟩
      · exact e2 h0
      · rw [h0] at e1
        cases e1
        omega
end
end Go.Proofs.YthdbkanbgfajbaaGreat
