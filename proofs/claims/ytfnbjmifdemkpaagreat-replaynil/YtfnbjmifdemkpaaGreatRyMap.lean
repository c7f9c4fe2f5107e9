
/- Maps from numbers, in memory, beside the texts of the replay. -/
import Derived.Test.YtfnbjmifdemkpaaGreatRyAdd
import Derived.Maps.OwnSet
import Derived.Maps.RangeWalk
import Derived.Deep.QuietTactic
import Derived.BigQuiet
import Derived.Deep.DeepCutAuto
namespace Go.Proofs.YtfnbjmifdemkpaaGreat
open Go.RowKit
open Go.Maps (Keyed)

def vR : Value → Option (DataW Value × List MemPlace) := fun v => some (.held v, [])
abbrev Vmap := Int → Option Value
def vupd (M : Vmap) (x : Int) (v : Option Value) : Vmap := fun y => if y = x then v else M y
theorem vupd_same (M : Vmap) (x : Int) (v : Option Value) : vupd M x v x = v := if_pos rfl
theorem vupd_other {M : Vmap} {x y : Int} (v : Option Value) (h : y ≠ x) : vupd M x v y = M y := if_neg h
def wfK (x : Int) : Prop := (Lit.int .i64 x).wf = true
theorem wfK_of {x : Int} (h : -9223372036854775808 ≤ x ∧ x ≤ 9223372036854775807) : wfK x := by
  unfold wfK
  have e1 : IntKind.i64.min = -9223372036854775808 := by decide
  have e2 : IntKind.i64.max = 9223372036854775807 := by decide
  simp [Lit.wf]
  omega
/-- A datum says what a plain map says. -/
structure Like (D : DataW Value) (M : Vmap) : Prop where
  has : ∀ x, wfK x → Maps.has D (.int .i64 x) = (M x).isSome
  at_ : ∀ x s, wfK x → M x = some s → ∀ z, D.atKey (.int .i64 x) z = .held s
  key : ∀ x s, M x = some s → wfK x
theorem keyed3 : Keyed Tryz.prog 3 := Maps.int_keyed Tryz.underlying3
theorem key3 {x : Int} (h : wfK x) : keyOf Tryz.prog 3 (.int .i64 x) = some (.int .i64 x) := Maps.keyOf_int_mk Tryz.underlying3 h
def Mp (w : World) (b n : Nat) (M : Vmap) : Prop := ∃ D, w.ownsMap Tryz.prog 3 vR b n D ∧ Maps.size D = n ∧ Like D M
theorem ownsMap_fit {w : World} {b n : Nat} {D : DataW Value} (h : w.ownsMap Tryz.prog 3 vR b n D) : w.ownsMap Tryz.prog 3 vR b (Maps.size D) D := by
  obtain ⟨es, clock, hb, F, hs, rfl⟩ := h
  exact ⟨es, clock, hb, F, by simp [Maps.size, length_sorted], rfl⟩
theorem Mp.lt {w : World} {b n : Nat} {M : Vmap} (h : Mp w b n M) : b < w.heap.size := by
  obtain ⟨D, h1, _⟩ := h
  exact h1.lt
theorem Mp.fr {S : Nat → Prop} {w w' : World} {b n : Nat} {M : Vmap} (h : Mp w b n M) (f : Fr S w w') (hn : ¬ S b) : Mp w' b n M := by
  obtain ⟨D, h1, h2⟩ := h
  refine ⟨D, ?_, h2⟩
  have hlt := h1.lt
  obtain ⟨es, clock, hb, r⟩ := h1
  exact ⟨es, clock, (f.block b hlt hn).trans hb, r⟩
theorem Mp.same {w w' : World} {b n : Nat} {M : Vmap} (h : Mp w b n M) (f : Fr (fun _ => False) w w') : Mp w' b n M := h.fr f (fun f => f)
theorem Mp.made (w : World) : Mp (w.alloc (.map #[] 0)) w.heap.size 0 (fun _ => none) :=
  ⟨.map [], World.ownsMap_made w Tryz.prog 3 vR, rfl, ⟨fun _ _ => rfl, (fun _ _ _ h => by cases h), (fun _ _ h => by cases h)⟩⟩
theorem look_D {D : DataW Value} {M : Vmap} (hl : Like D M) {x : Int} (hx : wfK x) (zv : Value) : D.atKey (.int .i64 x) (.held zv) = .held ((M x).getD zv) := by
  cases hm : M x with
  | none =>
    have := hl.has x hx
    rw [hm] at this
    exact Maps.atKey_of_not_has this _
  | some s => exact hl.at_ x s hx hm _
theorem int_lit_ne {x y : Int} (h : x ≠ y) : (Lit.int .i64 x) ≠ (Lit.int .i64 y) := fun e => by cases e; exact h rfl
theorem Fr.turned {w w' : World} {b : Nat} (h : w.mapTurned w' b) : Fr (fun k => k = b) w w' := (Fr.refl _ w).grown h.grown (fun k e _ => by simp only [Option.some.injEq] at e; exact e.symm)
theorem Mp.look {mt et : TypeId} (hut : Tryz.prog.underlying mt = some (.map 3 et)) {w : World} {b n : Nat} {M : Vmap} (h : Mp w b n M) {zv : Value} (hz : (zeroValue et).run Tryz.prog w = .ok zv w) {x : Int} (hx : wfK x) :
    (Instr.lookup mt (.map (some b)) (.int .i64 x) true).run Tryz.prog w = .ok (.tuple #[(M x).getD zv, .bool (M x).isSome]) w := by
  obtain ⟨D, h1, _, hl⟩ := h
  obtain ⟨v, ps, hrun, hv⟩ := h1.look_ok keyed3 hut hz (show vR zv = some (.held zv, []) from rfl) (key3 hx)
  rw [look_D hl hx] at hv
  simp only [vR, Option.some.injEq, Prod.mk.injEq, DataW.held.injEq] at hv
  rw [hrun, hl.has x hx, hv.1]
theorem Mp.look1 {mt et : TypeId} (hut : Tryz.prog.underlying mt = some (.map 3 et)) {w : World} {b n : Nat} {M : Vmap} (h : Mp w b n M) {zv : Value} (hz : (zeroValue et).run Tryz.prog w = .ok zv w) {x : Int} (hx : wfK x) :
    (Instr.lookup mt (.map (some b)) (.int .i64 x) false).run Tryz.prog w = .ok ((M x).getD zv) w := by
  obtain ⟨D, h1, _, hl⟩ := h
  obtain ⟨v, ps, hrun, hv⟩ := h1.lookup keyed3 hut hz (show vR zv = some (.held zv, []) from rfl) (key3 hx)
  rw [look_D hl hx] at hv
  simp only [vR, Option.some.injEq, Prod.mk.injEq, DataW.held.injEq] at hv
  rw [hrun, hv.1]
theorem Mp.store {mt et : TypeId} (hut : Tryz.prog.underlying mt = some (.map 3 et)) {w : World} {b n : Nat} {M : Vmap} (h : Mp w b n M) (hn : n ≤ 100000000) {x : Int} (hxw : wfK x) (v : Value) :
    ∃ w', (Instr.mapUpdate mt (.map (some b)) (.int .i64 x) v).run Tryz.prog w = .ok () w' ∧ Mp w' b (if (M x).isSome = true then n else n + 1) (vupd M x (some v)) ∧ Fr (fun k => k = b) w w' := by
  obtain ⟨D, h1, h2, hl⟩ := h
  obtain ⟨w', hrun, hown, hturn⟩ := h1.store keyed3 hut (by unfold maxLen; omega) (key3 hxw) (show vR v = some (.held v, []) from rfl)
  have hm := h1.isMap
  have hkl : WideAt.IsKeyLit (Lit.int .i64 x) := trivial
  have hsz : Maps.size (D.put (.int .i64 x) (.held v)) = if (M x).isSome = true then n else n + 1 := by
    rw [Maps.size_put (h1.tidy keyed3), hl.has x hxw, h2]
  refine ⟨w', hrun, ⟨_, ?_, hsz, ⟨fun y hy => ?_, fun y k hy hk z => ?_, fun y k hk => ?_⟩⟩, Fr.turned hturn⟩
  · have := ownsMap_fit hown
    rw [hsz] at this
    exact this
  · by_cases e : y = x
    · subst e; rw [vupd_same, Maps.has_put_same hm hkl]; rfl
    · rw [vupd_other _ e, Maps.has_put_other (int_lit_ne e), hl.has y hy]
  · by_cases e : y = x
    · subst e
      rw [vupd_same] at hk
      simp only [Option.some.injEq] at hk
      subst hk
      exact Maps.atKey_put_same hm hkl _ _
    · rw [vupd_other _ e] at hk
      rw [Maps.atKey_put_other (int_lit_ne e)]
      exact hl.at_ y k hy hk z
  · by_cases e : y = x
    · subst e; exact hxw
    · rw [vupd_other _ e] at hk; exact hl.key y k hk
theorem Mp.drop {mt et : TypeId} (hut : Tryz.prog.underlying mt = some (.map 3 et)) {w : World} {b n : Nat} {M : Vmap} (h : Mp w b n M) {x : Int} (hx : wfK x) (ty : TypeId) :
    ∃ w', (Builtin.delete_ #[mt, 3] ty #[.map (some b), .int .i64 x]).run Tryz.prog w = .ok (.tuple #[]) w' ∧ Mp w' b (if (M x).isSome = true then n - 1 else n) (vupd M x none) ∧ Fr (fun k => k = b) w w' := by
  obtain ⟨D, h1, h2, hl⟩ := h
  obtain ⟨w', hrun, hown, hturn⟩ := h1.drop keyed3 hut (key3 hx) ty
  have hsz : Maps.size (D.del (.int .i64 x)) = if (M x).isSome = true then n - 1 else n := by
    have := Maps.size_del (k := .int .i64 x) (h1.tidy keyed3)
    rw [hl.has x hx, h2] at this
    split
    · rename_i hs; rw [if_pos hs] at this; omega
    · rename_i hs; rw [if_neg hs] at this; omega
  refine ⟨w', hrun, ⟨_, ?_, hsz, ⟨fun y hy => ?_, fun y k hy hk z => ?_, fun y k hk => ?_⟩⟩, Fr.turned hturn⟩
  · have := ownsMap_fit hown
    rw [hsz] at this
    exact this
  · by_cases e : y = x
    · subst e; rw [vupd_same, Maps.has_del_same]; rfl
    · rw [vupd_other _ e, Maps.has_del_other (int_lit_ne e), hl.has y hy]
  · by_cases e : y = x
    · subst e; rw [vupd_same] at hk; cases hk
    · rw [vupd_other _ e] at hk
      rw [Maps.atKey_del_other (int_lit_ne e)]
      exact hl.at_ y k hy hk z
  · by_cases e : y = x
    · subst e; rw [vupd_same] at hk; cases hk
    · rw [vupd_other _ e] at hk; exact hl.key y k hk
theorem Mp.len {mt et : TypeId} (hut : Tryz.prog.underlying mt = some (.map 3 et)) {w : World} {b n : Nat} {M : Vmap} (h : Mp w b n M) (ty : TypeId) : (Builtin.len_ #[mt] ty #[.map (some b)]).run Tryz.prog w = .ok (.int .i64 (n : Nat)) w := by
  obtain ⟨D, h1, h2, hl⟩ := h
  rw [h1.len hut ty, h2]
end Go.Proofs.YtfnbjmifdemkpaaGreat
