
/- Maps from numbers, in memory; a struct of two cells; a block of numbers. -/
import Derived.Test.YtfmjefmocenkbaaQuKit
import Derived.Maps.OwnSet
import Derived.Maps.RangeWalk
import Derived.Deep.QuietTactic
import Derived.BigQuiet
namespace Go.Proofs.Ytfmjefmocenkbaa
open Go.RowKit
open Go.Maps (Keyed)

/-- A struct of two cells. -/
def Two (w : World) (b : Nat) (t : TypeId) (x y : Value) : Prop := w.heap[b]? = some (.cells #[x, y] t (0, 0))
theorem Two.cells {w : World} {b : Nat} {t : TypeId} {x y : Value} (h : Two w b t x y) : w.cell? ⟨b, 0, none⟩ = some x ∧ w.cell? ⟨b, 1, none⟩ = some y ∧ w.frozen? ⟨b, 0, none⟩ = false ∧ w.frozen? ⟨b, 1, none⟩ = false := by
  unfold Two at h
  refine ⟨?_, ?_, ?_, ?_⟩ <;> simp [World.cell?, World.frozen?, h]
theorem Two.lt {w : World} {b : Nat} {t : TypeId} {x y : Value} (h : Two w b t x y) : b < w.heap.size := (Array.getElem?_eq_some_iff.1 h).1
theorem Two.fr {S : Nat → Prop} {w w' : World} {b : Nat} {t : TypeId} {x y : Value} (h : Two w b t x y) (f : Fr S w w') (hn : ¬ S b) : Two w' b t x y := by
  unfold Two; rw [f.block b h.lt hn]; exact h
theorem Two.new (w : World) (t : TypeId) (x y : Value) : Two (w.alloc (.cells #[x, y] t)) w.heap.size t x y := heap_alloc_new w _
theorem Two.set0 {w : World} {b : Nat} {t : TypeId} {x y : Value} (h : Two w b t x y) (u : Value) : Two (w.setCell ⟨b, 0, none⟩ u) b t u y := by
  have hlt := h.lt
  have h' : w.heap[b] = .cells #[x, y] t (0, 0) := by unfold Two at h; simpa [Array.getElem?_eq_getElem hlt] using h
  show (w.heap.modify b _)[b]? = _
  rw [Array.getElem?_eq_getElem (by rw [Array.size_modify]; exact hlt), Array.getElem_modify_self, h']
  rfl
theorem Two.set1 {w : World} {b : Nat} {t : TypeId} {x y : Value} (h : Two w b t x y) (u : Value) : Two (w.setCell ⟨b, 1, none⟩ u) b t x u := by
  have hlt := h.lt
  have h' : w.heap[b] = .cells #[x, y] t (0, 0) := by unfold Two at h; simpa [Array.getElem?_eq_getElem hlt] using h
  show (w.heap.modify b _)[b]? = _
  rw [Array.getElem?_eq_getElem (by rw [Array.size_modify]; exact hlt), Array.getElem_modify_self, h']
  rfl
theorem Two.fin {w : World} {b : Nat} {t : TypeId} {x y : Value} (h : Two w b t x y) (u v : Value) :
    Two ((w.setCell ⟨b, 0, none⟩ u).setCell ⟨b, 1, none⟩ v) b t u v ∧ Fr (fun i => i = b) w ((w.setCell ⟨b, 0, none⟩ u).setCell ⟨b, 1, none⟩ v) :=
  ⟨(h.set0 u).set1 v, ((Fr.refl (fun i => i = b) w).setCell (p := ⟨b, 0, none⟩) (fun _ => rfl) u).setCell (p := ⟨b, 1, none⟩) (fun _ => rfl) v⟩
/-- A block of numbers. -/
def Nums (w : World) (b : Nat) (t : TypeId) (fs : List Int) : Prop := w.heap[b]? = some (.cells (fs.map zI).toArray t (0, 0))
theorem Nums.lt {w : World} {b : Nat} {t : TypeId} {fs : List Int} (h : Nums w b t fs) : b < w.heap.size := (Array.getElem?_eq_some_iff.1 h).1
theorem Nums.fr {S : Nat → Prop} {w w' : World} {b : Nat} {t : TypeId} {fs : List Int} (h : Nums w b t fs) (f : Fr S w w') (hn : ¬ S b) : Nums w' b t fs := by
  unfold Nums; rw [f.block b h.lt hn]; exact h
theorem Nums.at_ {w : World} {b : Nat} {t : TypeId} {fs : List Int} (h : Nums w b t fs) {k : Nat} {x : Int} (hx : fs[k]? = some x) : w.cell? ⟨b, k, none⟩ = some (.int .i64 x) ∧ w.frozen? ⟨b, k, none⟩ = false := by
  unfold Nums at h
  refine ⟨?_, by simp [World.frozen?, h]⟩
  rw [cell_of_row w b k _ _ _ h]
  simp [hx, zI]
theorem Nums.set {w : World} {b : Nat} {t : TypeId} {fs : List Int} (h : Nums w b t fs) (k : Nat) (u : Int) : Nums (w.setCell ⟨b, k, none⟩ (.int .i64 u)) b t (fs.set k u) ∧ Fr (fun i => i = b) w (w.setCell ⟨b, k, none⟩ (.int .i64 u)) := by
  refine ⟨?_, (Fr.refl (fun i => i = b) w).setCell (p := ⟨b, k, none⟩) (fun _ => rfl) _⟩
  have hlt := h.lt
  have h' : w.heap[b] = .cells (fs.map zI).toArray t (0, 0) := by unfold Nums at h; simpa [Array.getElem?_eq_getElem hlt] using h
  show (w.heap.modify b _)[b]? = _
  rw [Array.getElem?_eq_getElem (by rw [Array.size_modify]; exact hlt), Array.getElem_modify_self, h']
  simp [List.map_set, zI]
/-- A map's element is read as it lies there. -/
abbrev Vmap := Int → Option Value
def vupd (M : Vmap) (x : Int) (v : Option Value) : Vmap := fun y => if y = x then v else M y
theorem vupd_same (M : Vmap) (x : Int) (v : Option Value) : vupd M x v x = v := if_pos rfl
theorem vupd_other {M : Vmap} {x y : Int} (v : Option Value) (h : y ≠ x) : vupd M x v y = M y := if_neg h
def vR : Value → Option (DataW Value × List MemPlace) := fun v => some (.held v, [])
def wfK (x : Int) : Prop := (Lit.int .i64 x).wf = true
theorem wfK_of {x : Int} (h : -9223372036854775808 ≤ x ∧ x ≤ 9223372036854775807) : wfK x := by
  unfold wfK
  have e1 : IntKind.i64.min = -9223372036854775808 := by decide
  have e2 : IntKind.i64.max = 9223372036854775807 := by decide
  simp [Lit.wf]
  omega
/-- A datum says what a plain map says. -/
structure Like (D : DataW Value) (M : Vmap) : Prop where
  has : ∀ x, wfK x → Maps.has D (.int .i64 x) = (M x).isSome
  at_ : ∀ x s, wfK x → M x = some s → ∀ z, D.atKey (.int .i64 x) z = .held s
  key : ∀ x s, M x = some s → wfK x
theorem keyed3 : Keyed Try.prog 3 := Maps.int_keyed Try.underlying3
theorem key3 {x : Int} (h : wfK x) : keyOf Try.prog 3 (.int .i64 x) = some (.int .i64 x) := Maps.keyOf_int_mk Try.underlying3 h
def Mp (w : World) (b n : Nat) (M : Vmap) : Prop := ∃ D, w.ownsMap Try.prog 3 vR b n D ∧ Maps.size D = n ∧ Like D M
theorem ownsMap_fit {w : World} {b n : Nat} {D : DataW Value} (h : w.ownsMap Try.prog 3 vR b n D) : w.ownsMap Try.prog 3 vR b (Maps.size D) D := by
  obtain ⟨es, clock, hb, F, hs, rfl⟩ := h
  exact ⟨es, clock, hb, F, by simp [Maps.size, length_sorted], rfl⟩
theorem Mp.lt {w : World} {b n : Nat} {M : Vmap} (h : Mp w b n M) : b < w.heap.size := by
  obtain ⟨D, h1, _⟩ := h
  exact h1.lt
theorem Mp.fr {S : Nat → Prop} {w w' : World} {b n : Nat} {M : Vmap} (h : Mp w b n M) (f : Fr S w w') (hn : ¬ S b) : Mp w' b n M := by
  obtain ⟨D, h1, h2⟩ := h
  refine ⟨D, ?_, h2⟩
  have hlt := h1.lt
  obtain ⟨es, clock, hb, r⟩ := h1
  exact ⟨es, clock, (f.block b hlt hn).trans hb, r⟩
theorem Mp.same {w w' : World} {b n : Nat} {M : Vmap} (h : Mp w b n M) (f : Fr (fun _ => False) w w') : Mp w' b n M := h.fr f (fun f => f)
theorem Mp.made (w : World) : Mp (w.alloc (.map #[] 0)) w.heap.size 0 (fun _ => none) :=
  ⟨.map [], World.ownsMap_made w Try.prog 3 vR, rfl, ⟨fun _ _ => rfl, (fun _ _ _ h => by cases h), (fun _ _ h => by cases h)⟩⟩
theorem look_D {D : DataW Value} {M : Vmap} (hl : Like D M) {x : Int} (hx : wfK x) (zv : Value) : D.atKey (.int .i64 x) (.held zv) = .held ((M x).getD zv) := by
  cases hm : M x with
  | none =>
    have := hl.has x hx
    rw [hm] at this
    exact Maps.atKey_of_not_has this _
  | some s => exact hl.at_ x s hx hm _
theorem int_lit_ne {x y : Int} (h : x ≠ y) : (Lit.int .i64 x) ≠ (Lit.int .i64 y) := fun e => by cases e; exact h rfl
theorem Fr.turned {w w' : World} {b : Nat} (h : w.mapTurned w' b) : Fr (fun k => k = b) w w' := (Fr.refl _ w).grown h.grown (fun k e _ => by simp only [Option.some.injEq] at e; exact e.symm)
theorem Mp.look {mt et : TypeId} (hut : Try.prog.underlying mt = some (.map 3 et)) {w : World} {b n : Nat} {M : Vmap} (h : Mp w b n M) {zv : Value} (hz : (zeroValue et).run Try.prog w = .ok zv w) {x : Int} (hx : wfK x) :
    (Instr.lookup mt (.map (some b)) (.int .i64 x) true).run Try.prog w = .ok (.tuple #[(M x).getD zv, .bool (M x).isSome]) w := by
  obtain ⟨D, h1, _, hl⟩ := h
  obtain ⟨v, ps, hrun, hv⟩ := h1.look_ok keyed3 hut hz (show vR zv = some (.held zv, []) from rfl) (key3 hx)
  rw [look_D hl hx] at hv
  simp only [vR, Option.some.injEq, Prod.mk.injEq, DataW.held.injEq] at hv
  rw [hrun, hl.has x hx, hv.1]
theorem Mp.look1 {mt et : TypeId} (hut : Try.prog.underlying mt = some (.map 3 et)) {w : World} {b n : Nat} {M : Vmap} (h : Mp w b n M) {zv : Value} (hz : (zeroValue et).run Try.prog w = .ok zv w) {x : Int} (hx : wfK x) :
    (Instr.lookup mt (.map (some b)) (.int .i64 x) false).run Try.prog w = .ok ((M x).getD zv) w := by
  obtain ⟨D, h1, _, hl⟩ := h
  obtain ⟨v, ps, hrun, hv⟩ := h1.lookup keyed3 hut hz (show vR zv = some (.held zv, []) from rfl) (key3 hx)
  rw [look_D hl hx] at hv
  simp only [vR, Option.some.injEq, Prod.mk.injEq, DataW.held.injEq] at hv
  rw [hrun, hv.1]
theorem Mp.store {mt et : TypeId} (hut : Try.prog.underlying mt = some (.map 3 et)) {w : World} {b n : Nat} {M : Vmap} (h : Mp w b n M) (hn : n ≤ 100000000) {x : Int} (hxw : wfK x) (v : Value) :
    ∃ w', (Instr.mapUpdate mt (.map (some b)) (.int .i64 x) v).run Try.prog w = .ok () w' ∧ Mp w' b (if (M x).isSome = true then n else n + 1) (vupd M x (some v)) ∧ Fr (fun k => k = b) w w' := by
  obtain ⟨D, h1, h2, hl⟩ := h
  obtain ⟨w', hrun, hown, hturn⟩ := h1.store keyed3 hut (by unfold maxLen; omega) (key3 hxw) (show vR v = some (.held v, []) from rfl)
  have hm := h1.isMap
  have hkl : WideAt.IsKeyLit (Lit.int .i64 x) := trivial
  have hsz : Maps.size (D.put (.int .i64 x) (.held v)) = if (M x).isSome = true then n else n + 1 := by
    rw [Maps.size_put (h1.tidy keyed3), hl.has x hxw, h2]
  refine ⟨w', hrun, ⟨_, ?_, hsz, ⟨fun y hy => ?_, fun y k hy hk z => ?_, fun y k hk => ?_⟩⟩, Fr.turned hturn⟩
  · have := ownsMap_fit hown
    rw [hsz] at this
    exact this
  · by_cases e : y = x
    · subst e; rw [vupd_same, Maps.has_put_same hm hkl]; rfl
    · rw [vupd_other _ e, Maps.has_put_other (int_lit_ne e), hl.has y hy]
  · by_cases e : y = x
    · subst e
      rw [vupd_same] at hk
      simp only [Option.some.injEq] at hk
      subst hk
      exact Maps.atKey_put_same hm hkl _ _
    · rw [vupd_other _ e] at hk
      rw [Maps.atKey_put_other (int_lit_ne e)]
      exact hl.at_ y k hy hk z
  · by_cases e : y = x
    · subst e; exact hxw
    · rw [vupd_other _ e] at hk; exact hl.key y k hk
theorem Mp.drop {mt et : TypeId} (hut : Try.prog.underlying mt = some (.map 3 et)) {w : World} {b n : Nat} {M : Vmap} (h : Mp w b n M) {x : Int} (hx : wfK x) (ty : TypeId) :
    ∃ w', (Builtin.delete_ #[mt, 3] ty #[.map (some b), .int .i64 x]).run Try.prog w = .ok (.tuple #[]) w' ∧ Mp w' b (if (M x).isSome = true then n - 1 else n) (vupd M x none) ∧ Fr (fun k => k = b) w w' := by
  obtain ⟨D, h1, h2, hl⟩ := h
  obtain ⟨w', hrun, hown, hturn⟩ := h1.drop keyed3 hut (key3 hx) ty
  have hsz : Maps.size (D.del (.int .i64 x)) = if (M x).isSome = true then n - 1 else n := by
    have := Maps.size_del (k := .int .i64 x) (h1.tidy keyed3)
    rw [hl.has x hx, h2] at this
    split
    · rename_i hs; rw [if_pos hs] at this; omega
    · rename_i hs; rw [if_neg hs] at this; omega
  refine ⟨w', hrun, ⟨_, ?_, hsz, ⟨fun y hy => ?_, fun y k hy hk z => ?_, fun y k hk => ?_⟩⟩, Fr.turned hturn⟩
  · have := ownsMap_fit hown
    rw [hsz] at this
    exact this
  · by_cases e : y = x
    · subst e; rw [vupd_same, Maps.has_del_same]; rfl
    · rw [vupd_other _ e, Maps.has_del_other (int_lit_ne e), hl.has y hy]
  · by_cases e : y = x
    · subst e; rw [vupd_same] at hk; cases hk
    · rw [vupd_other _ e] at hk
      rw [Maps.atKey_del_other (int_lit_ne e)]
      exact hl.at_ y k hy hk z
  · by_cases e : y = x
    · subst e; rw [vupd_same] at hk; cases hk
    · rw [vupd_other _ e] at hk; exact hl.key y k hk
theorem Mp.len {mt et : TypeId} (hut : Try.prog.underlying mt = some (.map 3 et)) {w : World} {b n : Nat} {M : Vmap} (h : Mp w b n M) (ty : TypeId) : (Builtin.len_ #[mt] ty #[.map (some b)]).run Try.prog w = .ok (.int .i64 (n : Nat)) w := by
  obtain ⟨D, h1, h2, hl⟩ := h
  rw [h1.len hut ty, h2]
section
variable {ops : Array Oper} {rest : List Oper} {o : Oper} {a : Act} {Q : Exit → Act → World → Prop}
/-- One entry more of a range over a map. -/
theorem wpList_next_mp (w : World) (hg : o.guard = none) (it : Operand) (hop : o.op = Op.next it false) (b r n : Nat) (D : DataW Value) (M : Vmap) (left : Lit → Bool) (cnt : Nat) (hl : Like D M)
    (hit : a.eval it = .pointer (some ⟨r, 0, none⟩)) (h : w.ranges Try.prog 3 vR b r n D left cnt)
    (hDone : (∀ kl, left kl = false) → wpList Try.prog ops Q rest (a.put o.dst (.tuple #[.bool false])) w)
    (hMore : ∀ (x : Int) (v : Value) (w' : World) (cnt' : Nat), M x = some v → wfK x → left (.int .i64 x) = true → w'.ranges Try.prog 3 vR b r n D (fun z => left z && !z.sameKey (.int .i64 x)) cnt' → cnt' < cnt → Fr (fun k => k = r) w w' → w'.heap.size = w.heap.size →
      (Instr.entry (.pointer (some ⟨r, 0, none⟩))).run Try.prog w' = .ok (.tuple #[.int .i64 x, v]) w' → wpList Try.prog ops Q rest (a.put o.dst (.tuple #[.bool true, .int .i64 x, v])) w') :
    wpList Try.prog ops Q (o :: rest) a w := by
  refine wpList_next_ranges w hg it hop 3 keyed3 vR (fun x : Int => Value.int .i64 x) (fun v : Value => v) (fun key kl hkey => ?_) (fun v y hv => ⟨v, rfl⟩) b r n D left cnt hit h (fun _ h2 => hDone h2) ?_
  · obtain ⟨x, rfl, _⟩ := Maps.keyOf_int_inv Try.underlying3 hkey
    exact ⟨x, rfl⟩
  · intro x g kl y w' cnt' hkey hlk hv hat hrg hlt hgr hsz hen
    obtain ⟨x', ex, rfl, hwx⟩ := Maps.keyOf_int_inv Try.underlying3 hkey
    simp only [Value.int.injEq, true_and] at ex
    subst ex
    simp only [vR, Option.some.injEq] at hv
    subst hv
    have hhas := Maps.has_true_of_atKey hat
    rw [hl.has x hwx] at hhas
    obtain ⟨g2, hg2⟩ := Option.isSome_iff_exists.1 hhas
    have hgg := (hat (.held g)).symm.trans (hl.at_ x g2 hwx hg2 (.held g))
    simp only [DataW.held.injEq] at hgg
    subst hgg
    exact hMore x g w' cnt' hg2 hwx hlk hrg hlt ((Fr.refl _ w).grown hgr (fun k e _ => by simp only [Option.some.injEq] at e; exact e.symm)) hsz hen
end
end Go.Proofs.Ytfmjefmocenkbaa
