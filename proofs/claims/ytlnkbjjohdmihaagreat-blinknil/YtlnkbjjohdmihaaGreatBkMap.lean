
/- A map from pages to pages of a row, in memory. -/
import Derived.Test.YtlnkbjjohdmihaaGreatBkIs2
import Derived.Maps.OwnSet
import Derived.Maps.RangeWalk
import Derived.Deep.QuietTactic
import Derived.BigQuiet
namespace Go.Proofs.YtlnkbjjohdmihaaGreat
open Go.RowKit
open Go.Maps (Keyed)

abbrev Smap := Int → Option Spt
def supd (M : Smap) (x : Int) (v : Option Spt) : Smap := fun y => if y = x then v else M y
theorem supd_same (M : Smap) (x : Int) (v : Option Spt) : supd M x v x = v := if_pos rfl
theorem supd_other {M : Smap} {x y : Int} (v : Option Spt) (h : y ≠ x) : supd M x v y = M y := if_neg h
/-- A map's element is read as it lies there. -/
def vR : Value → Option (DataW Value × List MemPlace) := fun v => some (.held v, [])
def spV (s : Spt) : Value := (.agg #[.int .i64 s.page, .int .i64 s.nd.lev, .int .i64 s.nd.lsn, .int .i64 s.nd.rgt, .string s.nd.high, .slice s.pt.k s.nd.keys.length s.pt.kc, .slice s.pt.v s.nd.vals.length s.pt.vc, .slice s.pt.i s.nd.kids.length s.pt.ic, .string s.low])
def sp0 : Spt := ⟨0, zn, zp, ⟨#[]⟩⟩
def swf (x : Int) : Prop := (Lit.int .i64 x).wf = true
theorem swf_of {x : Int} (h : -9223372036854775808 ≤ x ∧ x ≤ 9223372036854775807) : swf x := by
  unfold swf
  have e1 : IntKind.i64.min = -9223372036854775808 := by decide
  have e2 : IntKind.i64.max = 9223372036854775807 := by decide
  simp [Lit.wf]
  omega
/-- A datum says what a plain map says. -/
structure SLike (D : DataW Value) (M : Smap) : Prop where
  has : ∀ x, swf x → Maps.has D (.int .i64 x) = (M x).isSome
  at_ : ∀ x s, swf x → M x = some s → ∀ z, D.atKey (.int .i64 x) z = .held (spV s)
theorem skeyed : Keyed Tryz.prog 3 := Maps.int_keyed Tryz.underlying3
theorem skey {x : Int} (h : swf x) : keyOf Tryz.prog 3 (.int .i64 x) = some (.int .i64 x) := Maps.keyOf_int_mk Tryz.underlying3 h
theorem szero (w : World) : (zeroValue 96).run Tryz.prog w = .ok (spV sp0) w := by kernel_rfl
def Sm (w : World) (b n : Nat) (M : Smap) : Prop := ∃ D, w.ownsMap Tryz.prog 3 vR b n D ∧ Maps.size D = n ∧ SLike D M
theorem sownsMap_fit {w : World} {b n : Nat} {D : DataW Value} (h : w.ownsMap Tryz.prog 3 vR b n D) : w.ownsMap Tryz.prog 3 vR b (Maps.size D) D := by
  obtain ⟨es, clock, hb, F, hs, rfl⟩ := h
  exact ⟨es, clock, hb, F, by simp [Maps.size, length_sorted], rfl⟩
theorem Sm.lt {w : World} {b n : Nat} {M : Smap} (h : Sm w b n M) : b < w.heap.size := by
  obtain ⟨D, h1, _⟩ := h
  exact h1.lt
theorem Sm.fr {S : Nat → Prop} {w w' : World} {b n : Nat} {M : Smap} (h : Sm w b n M) (f : Fr S w w') (hn : ¬ S b) : Sm w' b n M := by
  obtain ⟨D, h1, h2⟩ := h
  refine ⟨D, ?_, h2⟩
  have hlt := h1.lt
  obtain ⟨es, clock, hb, r⟩ := h1
  exact ⟨es, clock, (f.block b hlt hn).trans hb, r⟩
theorem Sm.same {w w' : World} {b n : Nat} {M : Smap} (h : Sm w b n M) (f : Fr (fun _ => False) w w') : Sm w' b n M := h.fr f (fun f => f)
theorem Sm.made (w : World) : Sm (w.alloc (.map #[] 0)) w.heap.size 0 (fun _ => none) :=
  ⟨.map [], World.ownsMap_made w Tryz.prog 3 vR, rfl, ⟨fun _ _ => rfl, (fun _ _ _ h => by cases h)⟩⟩
theorem Sm.look {w : World} {b n : Nat} {M : Smap} (h : Sm w b n M) {x : Int} (hx : swf x) :
    (Instr.lookup 121 (.map (some b)) (.int .i64 x) true).run Tryz.prog w = .ok (.tuple #[spV ((M x).getD sp0), .bool (M x).isSome]) w := by
  obtain ⟨D, h1, _, hl⟩ := h
  obtain ⟨v, ps, hrun, hv⟩ := h1.look_ok skeyed Tryz.underlying121 (szero w) (show vR (spV sp0) = some (.held (spV sp0), []) from rfl) (skey hx)
  have hd : D.atKey (.int .i64 x) (.held (spV sp0)) = .held (spV ((M x).getD sp0)) := by
    cases hm : M x with
    | none =>
      have := hl.has x hx
      rw [hm] at this
      exact Maps.atKey_of_not_has this _
    | some s => exact hl.at_ x s hx hm _
  rw [hd] at hv
  simp only [vR, Option.some.injEq, Prod.mk.injEq, DataW.held.injEq] at hv
  rw [hrun, hl.has x hx, hv.1]
theorem slit_ne {x y : Int} (h : x ≠ y) : (Lit.int .i64 x) ≠ (Lit.int .i64 y) := fun e => by cases e; exact h rfl
theorem Fr.sturned {w w' : World} {b : Nat} (h : w.mapTurned w' b) : Fr (fun k => k = b) w w' := (Fr.refl _ w).grown h.grown (fun k e _ => by simp only [Option.some.injEq] at e; exact e.symm)
theorem Sm.store {w : World} {b n : Nat} {M : Smap} (h : Sm w b n M) (hn : n ≤ 1000000) {x : Int} (hxw : swf x) (s : Spt) :
    ∃ w' n', (Instr.mapUpdate 121 (.map (some b)) (.int .i64 x) (.agg #[.int .i64 s.page, .int .i64 s.nd.lev, .int .i64 s.nd.lsn, .int .i64 s.nd.rgt, .string s.nd.high, .slice s.pt.k s.nd.keys.length s.pt.kc, .slice s.pt.v s.nd.vals.length s.pt.vc, .slice s.pt.i s.nd.kids.length s.pt.ic, .string s.low])).run Tryz.prog w = .ok () w' ∧ n' ≤ n + 1 ∧ Sm w' b n' (supd M x (some s)) ∧ Fr (fun k => k = b) w w' := by
  obtain ⟨D, h1, h2, hl⟩ := h
  obtain ⟨w', hrun, hown, hturn⟩ := h1.store skeyed Tryz.underlying121 (by unfold maxLen; omega) (skey hxw) (show vR (.agg #[.int .i64 s.page, .int .i64 s.nd.lev, .int .i64 s.nd.lsn, .int .i64 s.nd.rgt, .string s.nd.high, .slice s.pt.k s.nd.keys.length s.pt.kc, .slice s.pt.v s.nd.vals.length s.pt.vc, .slice s.pt.i s.nd.kids.length s.pt.ic, .string s.low]) = some (.held (spV s), []) from rfl)
  have hm := h1.isMap
  have hkl : WideAt.IsKeyLit (Lit.int .i64 x) := trivial
  have hsz : Maps.size (D.put (.int .i64 x) (.held (spV s))) = if (M x).isSome = true then n else n + 1 := by
    rw [Maps.size_put (h1.tidy skeyed), hl.has x hxw, h2]
  refine ⟨w', _, hrun, ?_, ⟨_, sownsMap_fit hown, rfl, ⟨fun y hy => ?_, fun y k hy hk z => ?_⟩⟩, Fr.sturned hturn⟩
  · rw [hsz]; split <;> omega
  · by_cases e : y = x
    · subst e; rw [supd_same, Maps.has_put_same hm hkl]; rfl
    · rw [supd_other _ e, Maps.has_put_other (slit_ne e), hl.has y hy]
  · by_cases e : y = x
    · subst e
      rw [supd_same] at hk
      simp only [Option.some.injEq] at hk
      subst hk
      exact Maps.atKey_put_same hm hkl _ _
    · rw [supd_other _ e] at hk
      rw [Maps.atKey_put_other (slit_ne e)]
      exact hl.at_ y k hy hk z
end Go.Proofs.YtlnkbjjohdmihaaGreat
