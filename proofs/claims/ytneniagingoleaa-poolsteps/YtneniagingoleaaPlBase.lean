
/- Pages that are held, as a map in memory. -/
import Derived.Test.YtneniagingoleaaBase
import Derived.Maps.OwnSet
import Derived.Maps.RangeWalk
import Derived.Deep.QuietTactic
import Derived.BigQuiet
namespace Go.Proofs.Ytneniagingoleaa
open Go.RowKit
open Go.Maps (Keyed)

theorem ret_bool {x y : Bool} (h : x = y) : Ending.returned (.bool x) = .returned (.bool y) := by rw [h]
theorem Fr.seq' {a b c : World} (h : Fr (fun _ => False) a b) (k : Fr (fun _ => False) b c) : Fr (fun _ => False) a c := h.trans k (fun _ _ f => f)
theorem Fr.box (w : World) (o : Obj) : Fr (fun _ => False) w (w.alloc o) := (Fr.refl _ w).alloc o
/-- What is known of a page that is held. -/
structure Hd where
  pins : Int
  lsn : Int
  since : Int
  used : Int
def hdC (h : Hd) : Array Value := #[.int .i64 h.pins, .int .i64 h.lsn, .int .i64 h.since, .int .i64 h.used]
def hdD (h : Hd) : DataW Unit := .agg [.lit (.int .i64 h.pins), .lit (.int .i64 h.lsn), .lit (.int .i64 h.since), .lit (.int .i64 h.used)]
def h0 : Hd := ⟨0, 0, 0, 0⟩
def heldL : List Value → Option (DataW Unit × List MemPlace)
  | [.int .i64 a, .int .i64 b, .int .i64 c, .int .i64 d] => some (hdD ⟨a, b, c, d⟩, [])
  | _ => none
def heldR : Value → Option (DataW Unit × List MemPlace)
  | .agg a => heldL a.toList
  | _ => none
theorem heldR_mk (h : Hd) : heldR (.agg #[.int .i64 h.pins, .int .i64 h.lsn, .int .i64 h.since, .int .i64 h.used]) = some (hdD h, []) := rfl
theorem heldR_inv {v : Value} {y : DataW Unit × List MemPlace} (h : heldR v = some y) : ∃ h : Hd, v = .agg #[.int .i64 h.pins, .int .i64 h.lsn, .int .i64 h.since, .int .i64 h.used] ∧ y = (hdD h, []) := by
  cases v with
  | agg a =>
    obtain ⟨l⟩ := a
    unfold heldR at h
    dsimp only at h
    unfold heldL at h
    split at h
    · rename_i a b c d
      simp only [Option.some.injEq] at h
      exact ⟨⟨a, b, c, d⟩, rfl, h.symm⟩
    · cases h
  | _ => cases h
theorem hdD_inj {a b : Hd} (h : hdD a = hdD b) : a = b := by
  obtain ⟨a1, a2, a3, a4⟩ := a
  obtain ⟨b1, b2, b3, b4⟩ := b
  simp [hdD] at h
  obtain ⟨rfl, rfl, rfl, rfl⟩ := h
  rfl

abbrev Pmap := Int → Option Hd
def upd (M : Pmap) (x : Int) (v : Option Hd) : Pmap := fun y => if y = x then v else M y
theorem upd_same (M : Pmap) (x : Int) (v : Option Hd) : upd M x v x = v := if_pos rfl
theorem upd_other {M : Pmap} {x y : Int} (v : Option Hd) (h : y ≠ x) : upd M x v y = M y := if_neg h
def wfK (x : Int) : Prop := (Lit.int .i64 x).wf = true
theorem wfK_of {x : Int} (h : -9223372036854775808 ≤ x ∧ x ≤ 9223372036854775807) : wfK x := by
  unfold wfK
  have e1 : IntKind.i64.min = -9223372036854775808 := by decide
  have e2 : IntKind.i64.max = 9223372036854775807 := by decide
  simp [Lit.wf]
  omega
/-- A datum says what a plain map says. -/
structure Like (D : DataW Unit) (M : Pmap) : Prop where
  has : ∀ x, wfK x → Maps.has D (.int .i64 x) = (M x).isSome
  at_ : ∀ x h, wfK x → M x = some h → ∀ z, D.atKey (.int .i64 x) z = hdD h
  key : ∀ x h, M x = some h → 1 ≤ x ∧ x ≤ 4096
theorem keyed3 : Keyed Try.prog 3 := Maps.int_keyed Try.underlying3
theorem key3 {x : Int} (h : wfK x) : keyOf Try.prog 3 (.int .i64 x) = some (.int .i64 x) := Maps.keyOf_int_mk Try.underlying3 h
theorem zeroH (w : World) : (zeroValue 66).run Try.prog w = .ok (.agg #[.int .i64 0, .int .i64 0, .int .i64 0, .int .i64 0]) w := by kernel_rfl
/-- A map in memory at block b, of n entries, that says M. -/
def Pm (w : World) (b n : Nat) (M : Pmap) : Prop := ∃ D, w.ownsMap Try.prog 3 heldR b n D ∧ Maps.size D = n ∧ Like D M
theorem ownsMap_fit {w : World} {b n : Nat} {D : DataW Unit} (h : w.ownsMap Try.prog 3 heldR b n D) : w.ownsMap Try.prog 3 heldR b (Maps.size D) D := by
  obtain ⟨es, clock, hb, F, hs, rfl⟩ := h
  exact ⟨es, clock, hb, F, by simp [Maps.size, length_sorted], rfl⟩
theorem Pm.lt {w : World} {b n : Nat} {M : Pmap} (h : Pm w b n M) : b < w.heap.size := by
  obtain ⟨D, h1, _⟩ := h
  exact h1.lt
theorem Pm.fr {S : Nat → Prop} {w w' : World} {b n : Nat} {M : Pmap} (h : Pm w b n M) (f : Fr S w w') (hn : ¬ S b) : Pm w' b n M := by
  obtain ⟨D, h1, h2⟩ := h
  refine ⟨D, ?_, h2⟩
  have hlt := h1.lt
  obtain ⟨es, clock, hb, r⟩ := h1
  exact ⟨es, clock, (f.block b hlt hn).trans hb, r⟩
theorem Pm.same {w w' : World} {b n : Nat} {M : Pmap} (h : Pm w b n M) (f : Fr (fun _ => False) w w') : Pm w' b n M := h.fr f (fun f => f)
theorem look_D {D : DataW Unit} {M : Pmap} (hl : Like D M) {x : Int} (hx : wfK x) :
    D.atKey (.int .i64 x) (hdD h0) = hdD ((M x).getD h0) := by
  cases hm : M x with
  | none =>
    have := hl.has x hx
    rw [hm] at this
    exact Maps.atKey_of_not_has this _
  | some h => exact hl.at_ x h hx hm _
theorem Pm.look {w : World} {b n : Nat} {M : Pmap} (h : Pm w b n M) {x : Int} (hx : wfK x) :
    (Instr.lookup 52 (.map (some b)) (.int .i64 x) true).run Try.prog w = .ok (.tuple #[.agg #[.int .i64 ((M x).getD h0).pins, .int .i64 ((M x).getD h0).lsn, .int .i64 ((M x).getD h0).since, .int .i64 ((M x).getD h0).used], .bool (M x).isSome]) w := by
  obtain ⟨D, h1, _, hl⟩ := h
  obtain ⟨v, ps, hrun, hv⟩ := h1.look_ok keyed3 Try.underlying52 (zeroH w) (heldR_mk h0) (key3 hx)
  obtain ⟨g, rfl, hg⟩ := heldR_inv hv
  simp only [Prod.mk.injEq] at hg
  rw [look_D hl hx] at hg
  have := hdD_inj hg.1
  rw [hrun, hl.has x hx, this]
theorem Pm.look1 {w : World} {b n : Nat} {M : Pmap} (h : Pm w b n M) {x : Int} (hx : wfK x) :
    (Instr.lookup 52 (.map (some b)) (.int .i64 x) false).run Try.prog w = .ok (.agg #[.int .i64 ((M x).getD h0).pins, .int .i64 ((M x).getD h0).lsn, .int .i64 ((M x).getD h0).since, .int .i64 ((M x).getD h0).used]) w := by
  obtain ⟨D, h1, _, hl⟩ := h
  obtain ⟨v, ps, hrun, hv⟩ := h1.lookup keyed3 Try.underlying52 (zeroH w) (heldR_mk h0) (key3 hx)
  obtain ⟨g, rfl, hg⟩ := heldR_inv hv
  simp only [Prod.mk.injEq] at hg
  rw [look_D hl hx] at hg
  have := hdD_inj hg.1
  rw [hrun, this]
theorem int_lit_ne {x y : Int} (h : x ≠ y) : (Lit.int .i64 x) ≠ (Lit.int .i64 y) := fun e => by cases e; exact h rfl
theorem Fr.turned {w w' : World} {b : Nat} (h : w.mapTurned w' b) : Fr (fun k => k = b) w w' := (Fr.refl _ w).grown h.grown (fun k e _ => by simp only [Option.some.injEq] at e; exact e.symm)
theorem Pm.store {w : World} {b n : Nat} {M : Pmap} (h : Pm w b n M) (hn : n ≤ 1000000) {x : Int} (hx : 1 ≤ x ∧ x ≤ 4096) (g : Hd) :
    ∃ w', (Instr.mapUpdate 52 (.map (some b)) (.int .i64 x) (.agg #[.int .i64 g.pins, .int .i64 g.lsn, .int .i64 g.since, .int .i64 g.used])).run Try.prog w = .ok () w' ∧ Pm w' b (if (M x).isSome = true then n else n + 1) (upd M x (some g)) ∧ Fr (fun k => k = b) w w' := by
  obtain ⟨D, h1, h2, hl⟩ := h
  have hxw : wfK x := wfK_of (by omega)
  obtain ⟨w', hrun, hown, hturn⟩ := h1.store keyed3 Try.underlying52 (by unfold maxLen; omega) (key3 hxw) (heldR_mk g)
  have hm := h1.isMap
  have hkl : WideAt.IsKeyLit (Lit.int .i64 x) := trivial
  have hsz : Maps.size (D.put (.int .i64 x) (hdD g)) = if (M x).isSome = true then n else n + 1 := by
    rw [Maps.size_put (h1.tidy keyed3), hl.has x hxw, h2]
  refine ⟨w', hrun, ⟨_, ?_, hsz, ⟨fun y hy => ?_, fun y k hy hk z => ?_, fun y k hk => ?_⟩⟩, Fr.turned hturn⟩
  · have := ownsMap_fit hown
    rw [hsz] at this
    exact this
  · by_cases e : y = x
    · subst e; rw [upd_same, Maps.has_put_same hm hkl]; rfl
    · rw [upd_other _ e, Maps.has_put_other (int_lit_ne e), hl.has y hy]
  · by_cases e : y = x
    · subst e
      rw [upd_same] at hk
      simp only [Option.some.injEq] at hk
      subst hk
      exact Maps.atKey_put_same hm hkl _ _
    · rw [upd_other _ e] at hk
      rw [Maps.atKey_put_other (int_lit_ne e)]
      exact hl.at_ y k hy hk z
  · by_cases e : y = x
    · subst e; exact hx
    · rw [upd_other _ e] at hk; exact hl.key y k hk
theorem Pm.drop {w : World} {b n : Nat} {M : Pmap} (h : Pm w b n M) {x : Int} (hx : wfK x) (ty : TypeId) :
    ∃ w', (Builtin.delete_ #[52, 3] ty #[.map (some b), .int .i64 x]).run Try.prog w = .ok (.tuple #[]) w' ∧ Pm w' b (if (M x).isSome = true then n - 1 else n) (upd M x none) ∧ Fr (fun k => k = b) w w' := by
  obtain ⟨D, h1, h2, hl⟩ := h
  obtain ⟨w', hrun, hown, hturn⟩ := h1.drop keyed3 Try.underlying52 (key3 hx) ty
  have hsz : Maps.size (D.del (.int .i64 x)) = if (M x).isSome = true then n - 1 else n := by
    have := Maps.size_del (k := .int .i64 x) (h1.tidy keyed3)
    rw [hl.has x hx, h2] at this
    split
    · rename_i hs; rw [if_pos hs] at this; omega
    · rename_i hs; rw [if_neg hs] at this; omega
  refine ⟨w', hrun, ⟨_, ?_, hsz, ⟨fun y hy => ?_, fun y k hy hk z => ?_, fun y k hk => ?_⟩⟩, Fr.turned hturn⟩
  · have := ownsMap_fit hown
    rw [hsz] at this
    exact this
  · by_cases e : y = x
    · subst e; rw [upd_same, Maps.has_del_same]; rfl
    · rw [upd_other _ e, Maps.has_del_other (int_lit_ne e), hl.has y hy]
  · by_cases e : y = x
    · subst e; rw [upd_same] at hk; cases hk
    · rw [upd_other _ e] at hk
      rw [Maps.atKey_del_other (int_lit_ne e)]
      exact hl.at_ y k hy hk z
  · by_cases e : y = x
    · subst e; rw [upd_same] at hk; cases hk
    · rw [upd_other _ e] at hk; exact hl.key y k hk
theorem Pm.len {w : World} {b n : Nat} {M : Pmap} (h : Pm w b n M) (ty : TypeId) : (Builtin.len_ #[52] ty #[.map (some b)]).run Try.prog w = .ok (.int .i64 (n : Nat)) w := by
  obtain ⟨D, h1, h2, hl⟩ := h
  rw [h1.len Try.underlying52 ty, h2]
theorem Pm.made (w : World) : Pm (w.alloc (.map #[] 0)) w.heap.size 0 (fun _ => none) :=
  ⟨.map [], World.ownsMap_made w Try.prog 3 heldR, rfl, ⟨fun _ _ => rfl, (fun _ _ _ h => by cases h), (fun _ _ h => by cases h)⟩⟩
end Go.Proofs.Ytneniagingoleaa
