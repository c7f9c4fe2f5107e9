
/- A map from keys to entries, in memory, as a rising list. -/
import Derived.Test.YtdlnflcjodpkiaaGreatFdHist
import Derived.Maps.OwnSet
import Derived.Maps.RangeWalk
import Derived.StringKeys
namespace Go.Proofs.YtdlnflcjodpkiaaGreat
open Go.RowKit
open Go.Maps (Keyed)

/-- A map's element is read as it lies there. -/
def vR : Value → Option (DataW Value × List MemPlace) := fun v => some (.held v, [])
def enV (e : En) : Value := .agg #[.string e.1, .string e.2]
def en0 : En := (⟨#[]⟩, ⟨#[]⟩)
def kL (x : ByteArray) : Lit := .string x.data.toList
theorem kL_inj {x y : ByteArray} (h : x ≠ y) : kL x ≠ kL y := fun e => by
  simp only [kL, Lit.string.injEq] at e
  have : x.data = y.data := Array.ext' e
  apply h
  cases x; cases y; cases this; rfl
/-- A datum says what a list says. -/
structure ELike (D : DataW Value) (L : List En) : Prop where
  has : ∀ x, x.size ≤ maxLen → Maps.has D (kL x) = (fnd L x).isSome
  at_ : ∀ x e, x.size ≤ maxLen → fnd L x = some e → ∀ z, D.atKey (kL x) z = .held (enV e)
theorem ekeyed : Keyed Tryz.prog 9 := Maps.string_keyed Tryz.underlying9
theorem ekey' {x : ByteArray} (h : x.size ≤ maxLen) : keyOf Tryz.prog 9 (.string x) = some (kL x) := WideMaps.keyOf_string_mk Tryz.underlying9 h
theorem ezero (w : World) : (zeroValue 77).run Tryz.prog w = .ok (enV en0) w := by kernel_rfl
structure Em (w : World) (b : Nat) (L : List En) : Prop where
  ris : Ris L
  sml : ∀ e ∈ L, e.1.size ≤ maxLen
  own : ∃ D, w.ownsMap Tryz.prog 9 vR b L.length D ∧ Maps.size D = L.length ∧ ELike D L
theorem eownsMap_fit {w : World} {b n : Nat} {D : DataW Value} (h : w.ownsMap Tryz.prog 9 vR b n D) : w.ownsMap Tryz.prog 9 vR b (Maps.size D) D := by
  obtain ⟨es, clock, hb, F, hs, rfl⟩ := h
  exact ⟨es, clock, hb, F, by simp [Maps.size, length_sorted], rfl⟩
theorem Em.lt {w : World} {b : Nat} {L : List En} (h : Em w b L) : b < w.heap.size := by
  obtain ⟨D, h1, _⟩ := h.own
  exact h1.lt
theorem Em.fr {S : Nat → Prop} {w w' : World} {b : Nat} {L : List En} (h : Em w b L) (f : Fr S w w') (hn : ¬ S b) : Em w' b L := by
  obtain ⟨D, h1, h2⟩ := h.own
  refine ⟨h.ris, h.sml, D, ?_, h2⟩
  have hlt := h1.lt
  obtain ⟨es, clock, hb, r⟩ := h1
  exact ⟨es, clock, (f.block b hlt hn).trans hb, r⟩
theorem Em.same {w w' : World} {b : Nat} {L : List En} (h : Em w b L) (f : Fr (fun _ => False) w w') : Em w' b L := h.fr f (fun f => f)
theorem Em.made (w : World) : Em (w.alloc (.map #[] 0)) w.heap.size [] :=
  ⟨List.Pairwise.nil, (fun _ h => by cases h), .map [], World.ownsMap_made w Tryz.prog 9 vR, rfl, ⟨fun _ _ => rfl, (fun _ _ _ h => by cases h)⟩⟩
theorem Em.atD {D : DataW Value} {L : List En} (hl : ELike D L) {x : ByteArray} (hx : x.size ≤ maxLen) : D.atKey (kL x) (.held (enV en0)) = .held (enV ((fnd L x).getD en0)) := by
  cases hm : fnd L x with
  | none =>
    have := hl.has x hx
    rw [hm] at this
    exact Maps.atKey_of_not_has this _
  | some s => exact hl.at_ x s hx hm _
theorem Em.look {w : World} {b : Nat} {L : List En} (h : Em w b L) {x : ByteArray} (hx : x.size ≤ maxLen) :
    (Instr.lookup 79 (.map (some b)) (.string x) true).run Tryz.prog w = .ok (.tuple #[.agg #[.string ((fnd L x).getD en0).1, .string ((fnd L x).getD en0).2], .bool (fnd L x).isSome]) w := by
  obtain ⟨D, h1, _, hl⟩ := h.own
  obtain ⟨v, ps, hrun, hv⟩ := h1.look_ok ekeyed Tryz.underlying79 (ezero w) (show vR (enV en0) = some (.held (enV en0), []) from rfl) (ekey' hx)
  rw [Em.atD hl hx] at hv
  simp only [vR, Option.some.injEq, Prod.mk.injEq, DataW.held.injEq] at hv
  rw [hrun, hl.has x hx, hv.1]
  rfl
theorem Em.look1 {w : World} {b : Nat} {L : List En} (h : Em w b L) {x : ByteArray} (hx : x.size ≤ maxLen) :
    (Instr.lookup 79 (.map (some b)) (.string x) false).run Tryz.prog w = .ok (.agg #[.string ((fnd L x).getD en0).1, .string ((fnd L x).getD en0).2]) w := by
  obtain ⟨D, h1, _, hl⟩ := h.own
  obtain ⟨v, ps, hrun, hv⟩ := h1.lookup ekeyed Tryz.underlying79 (ezero w) (show vR (enV en0) = some (.held (enV en0), []) from rfl) (ekey' hx)
  rw [Em.atD hl hx] at hv
  simp only [vR, Option.some.injEq, Prod.mk.injEq, DataW.held.injEq] at hv
  rw [hrun, hv.1]
  rfl
theorem Fr.eturned {w w' : World} {b : Nat} (h : w.mapTurned w' b) : Fr (fun k => k = b) w w' := (Fr.refl _ w).grown h.grown (fun k e _ => by simp only [Option.some.injEq] at e; exact e.symm)
theorem sml_wth {k v : ByteArray} {L : List En} (hr : Ris L) (hs : ∀ e ∈ L, e.1.size ≤ maxLen) (hk : k.size ≤ maxLen) (p : Bool) : ∀ e ∈ wthG k v p L, e.1.size ≤ maxLen := fun e he => by
  rcases (mem_wth hr p e).1 he with ⟨h, _⟩ | ⟨_, rfl⟩
  · exact hs e h
  · exact hk
theorem Em.store {w : World} {b : Nat} {L : List En} (h : Em w b L) (hn : L.length ≤ 1000000) {x : ByteArray} (hx : x.size ≤ maxLen) (v : ByteArray) :
    ∃ w', (Instr.mapUpdate 79 (.map (some b)) (.string x) (.agg #[.string x, .string v])).run Tryz.prog w = .ok () w' ∧ Em w' b (wthG x v false L) ∧ Fr (fun k => k = b) w w' := by
  obtain ⟨D, h1, h2, hl⟩ := h.own
  obtain ⟨w', hrun, hown, hturn⟩ := h1.store ekeyed Tryz.underlying79 (by unfold maxLen; omega) (ekey' hx) (show vR (.agg #[.string x, .string v]) = some (.held (enV (x, v)), []) from rfl)
  have hm := h1.isMap
  have hkl : WideAt.IsKeyLit (kL x) := trivial
  have hsz : Maps.size (D.put (kL x) (.held (enV (x, v)))) = (wthG x v false L).length := by
    rw [Maps.size_put (h1.tidy ekeyed), hl.has x hx, h2, len_wth h.ris]
    simp only [Bool.false_eq_true, if_false]
    split
    · rename_i hs
      obtain ⟨e, he, _⟩ := fnd_some.1 hs
      have := List.length_pos_of_mem he
      omega
    · omega
  refine ⟨w', hrun, ⟨ris_wth h.ris _, sml_wth h.ris h.sml hx _, _, ?_, hsz, ⟨fun y hy => ?_, fun y k hy hk z => ?_⟩⟩, Fr.eturned hturn⟩
  · have := eownsMap_fit hown
    rw [hsz] at this
    exact this
  · rw [fnd_wth h.ris]
    by_cases e : y = x
    · subst e; rw [if_pos rfl, Maps.has_put_same hm hkl]; rfl
    · rw [if_neg e, Maps.has_put_other (kL_inj e), hl.has y hy]
  · rw [fnd_wth h.ris] at hk
    by_cases e : y = x
    · subst e
      rw [if_pos rfl] at hk
      simp only [Bool.false_eq_true, if_false, Option.some.injEq] at hk
      subst hk
      exact Maps.atKey_put_same hm hkl _ _
    · rw [if_neg e] at hk
      rw [Maps.atKey_put_other (kL_inj e)]
      exact hl.at_ y k hy hk z
theorem Em.drop {w : World} {b : Nat} {L : List En} (h : Em w b L) {x : ByteArray} (hx : x.size ≤ maxLen) (v : ByteArray) (ty : TypeId) :
    ∃ w', (Builtin.delete_ #[79, 9] ty #[.map (some b), .string x]).run Tryz.prog w = .ok (.tuple #[]) w' ∧ Em w' b (wthG x v true L) ∧ Fr (fun k => k = b) w w' := by
  obtain ⟨D, h1, h2, hl⟩ := h.own
  obtain ⟨w', hrun, hown, hturn⟩ := h1.drop ekeyed Tryz.underlying79 (ekey' hx) ty
  have hsz : Maps.size (D.del (kL x)) = (wthG x v true L).length := by
    have := Maps.size_del (k := kL x) (h1.tidy ekeyed)
    rw [hl.has x hx, h2] at this
    rw [len_wth h.ris]
    simp only [if_true]
    split
    · rename_i hs; rw [if_pos hs] at this; omega
    · rename_i hs; rw [if_neg hs] at this; omega
  refine ⟨w', hrun, ⟨ris_wth h.ris _, sml_wth h.ris h.sml hx _, _, ?_, hsz, ⟨fun y hy => ?_, fun y k hy hk z => ?_⟩⟩, Fr.eturned hturn⟩
  · have := eownsMap_fit hown
    rw [hsz] at this
    exact this
  · rw [fnd_wth h.ris]
    by_cases e : y = x
    · subst e; rw [if_pos rfl, Maps.has_del_same]; rfl
    · rw [if_neg e, Maps.has_del_other (kL_inj e), hl.has y hy]
  · rw [fnd_wth h.ris] at hk
    by_cases e : y = x
    · subst e; rw [if_pos rfl] at hk; simp at hk
    · rw [if_neg e] at hk
      rw [Maps.atKey_del_other (kL_inj e)]
      exact hl.at_ y k hy hk z
theorem Em.len {w : World} {b : Nat} {L : List En} (h : Em w b L) (ty : TypeId) : (Builtin.len_ #[79] ty #[.map (some b)]).run Tryz.prog w = .ok (.int .i64 (L.length : Nat)) w := by
  obtain ⟨D, h1, h2, hl⟩ := h.own
  rw [h1.len Tryz.underlying79 ty, h2]
/-- A write of a commit. -/
theorem write_any {w : World} {b : Nat} {L : List En} (h : Em w b L) (hn : L.length ≤ 1000000) (r : Rec) (hk : r.key.size ≤ 1000) :
    Calls Tryz.prog 38 #[.map (some b), (.agg #[.int .i64 r.lsn, .int .i64 r.ep, .int .i64 r.kind, .int .i64 r.page, .int .i64 r.other, .int .i64 r.req, .string r.key, .string r.val])] w fun e w' => e = .returned (.tuple #[]) ∧ Em w' b (wth L r) ∧ Fr (fun k => k = b) w w' := by
  obtain ⟨lsn, ep, kind, page, other, req, key, val⟩ := r
  dsimp only at hk ⊢
  unfold wth
  dsimp only
  have hkm : key.size ≤ maxLen := by unfold maxLen; omega
  have f0 : Fr (fun k => k = b) w (w.alloc (.cells #[.int .i64 lsn, .int .i64 ep, .int .i64 kind, .int .i64 page, .int .i64 other, .int .i64 req, .string key, .string val] 53)) := (Fr.refl _ w).alloc _
  have h' := h.fr (Fr.box w (.cells #[.int .i64 lsn, .int .i64 ep, .int .i64 kind, .int .i64 page, .int .i64 other, .int .i64 req, .string key, .string val] 53)) (fun f => f)
  by_cases ho : other = 1
  · subst ho
    obtain ⟨w', hrun, hem, f1⟩ := h'.store hn hkm val
    have HF : Hid (Em w' b (wthG key val false L) ∧ Fr (fun k => k = b) w w') := ⟨hem, f0.trans f1 (fun _ _ e => e)⟩
    have e0 : decide ((1 : Int) ≠ 1) = false := rfl
    rw [e0]
    clear hem f1 h' h f0 hn hkm hk
    go_enter Tryz.func38, Tryz.ntmps38
    go_wp2
    go_end0
    exact ⟨rfl, HF.out⟩
  · have hob : (other == 1) = false := by simpa using ho
    obtain ⟨w', hrun, hem, f1⟩ := h'.drop hkm val 0
    have HF : Hid (Em w' b (wthG key val true L) ∧ Fr (fun k => k = b) w w') := ⟨hem, f0.trans f1 (fun _ _ e => e)⟩
    have e0 : decide (other ≠ 1) = true := by simpa using ho
    rw [e0]
    clear hem f1 h' h f0 hn hkm hk e0 ho
    go_enter Tryz.func38, Tryz.ntmps38
    go_wp2
    go_end0
    exact ⟨rfl, HF.out⟩
end Go.Proofs.YtdlnflcjodpkiaaGreat
