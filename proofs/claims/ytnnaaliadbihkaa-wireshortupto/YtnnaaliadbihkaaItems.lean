/- A slice of items that came in: what lies in memory. -/
import Derived.Test.YtnnaaliadbihkaaArgs
import Derived.Deep.Strs
namespace Go.Proofs.Ytnnaaliadbihkaa
open Go.ChangeShapes Go.WideShapes Go.ChangeAt Go.RowKit Go.Deep

/-- An item: a number, a size, a text. -/
abbrev It : Type := Int × Int × ByteArray
def itD : It := (0, 0, ByteArray.empty)
def itCells (x : It) : List Value := [.int .i64 x.1, .int .i64 x.2.1, .string x.2.2]
def itWf (x : It) : Prop := (-9223372036854775808 ≤ x.1 ∧ x.1 ≤ 9223372036854775807) ∧ (-9223372036854775808 ≤ x.2.1 ∧ x.2.1 ≤ 9223372036854775807)

structure Items (w : World) (a : Option Addr) (cap : Nat) (its : List It) : Prop where
  le : its.length ≤ cap
  max : cap ≤ 9223372036854775807
  wf : ∀ i, i < its.length → itWf (its.getD i itD)
  at_ : its = [] ∨ ∃ b off, a = some ⟨b, off, none⟩ ∧ b < w.heap.size ∧ ∀ i, i < its.length →
    w.cell? ⟨b, off + i * 3, none⟩ = some (.int .i64 (its.getD i itD).1) ∧ w.cell? ⟨b, off + i * 3 + 1, none⟩ = some (.int .i64 (its.getD i itD).2.1) ∧ w.cell? ⟨b, off + i * 3 + 2, none⟩ = some (.string (its.getD i itD).2.2)

theorem Items.same {w w' : World} {a : Option Addr} {cap : Nat} {its : List It} (h : Items w a cap its) (f : Fr (fun _ => False) w w') : Items w' a cap its := by
  refine ⟨h.le, h.max, h.wf, ?_⟩
  rcases h.at_ with h0 | ⟨b, off, rfl, hb, hc⟩
  · exact .inl h0
  · refine .inr ⟨b, off, rfl, Nat.lt_of_lt_of_le hb f.size, fun i hi => ?_⟩
    obtain ⟨h1, h2, h3⟩ := hc i hi
    exact ⟨(f.cell hb (fun x => x)).trans h1, (f.cell hb (fun x => x)).trans h2, (f.cell hb (fun x => x)).trans h3⟩

/-- What an item reads as. -/
def itData {H : Type} (x : It) : DataW H := .agg [.lit (.int .i64 x.1), .lit (.int .i64 x.2.1), .lit (.string x.2.2.data.toList)]

theorem cells27 : Try.prog.cellsOf 27 = 3 := by kernel_rfl

theorem items_open {H : Type} {enc : TypeId × Value → H} {w : World} {fuel len cap : Nat} {a : Option Addr} {d : DataW H} {p : List MemPlace}
    (h : DataW.trod enc Try.prog w 0 (fun _ => true) true fuel 22 [.slice a len cap] = some (d, p)) :
    ∃ its sp : List It, len = its.length ∧ Items w a cap its ∧ (d = .nil ∧ its = [] ∨ d = .slice (its.map itData) (sp.map itData)) := by
  rcases open_slice Try.underlying22 h with ⟨hcs, hx⟩ | ⟨x, l, c, m, n, D, Pl, hcs, _, hl, hm, hmm, hx, heach⟩
  · simp at hcs
    obtain ⟨rfl, rfl, rfl⟩ := hcs
    simp only [Prod.mk.injEq] at hx
    exact ⟨[], [], rfl, ⟨Nat.le_refl _, by omega, fun i hi => absurd hi (Nat.not_lt_zero _), .inl rfl⟩, .inl ⟨hx.1, rfl⟩⟩
  · simp at hcs
    obtain ⟨rfl, rfl, rfl⟩ := hcs
    simp only [if_true] at hmm
    subst hmm
    rw [cells27] at heach
    have each : ∀ i, i < m → ∃ it : It, (∀ j, j < 3 → w.cell? (x.add (i * 3 + j)) = (itCells it)[j]?) ∧ D i = itData it ∧ itWf it := by
      intro i hi
      obtain ⟨cs', hc, ht⟩ := heach i hi
      obtain ⟨_, hlen, hcell⟩ := World.cells?_some hc
      obtain ⟨y0, y1, y2, n', hy, _, h0, h1, h2⟩ := trod_struct3 Try.underlying27 ht
      match cs', hlen with
      | [c0, c1, c2], _ =>
        obtain ⟨v0, e0, x0, wf0⟩ := DataW.trod_int Try.underlying3 h0
        obtain ⟨v1, e1, x1, wf1⟩ := DataW.trod_int Try.underlying3 h1
        obtain ⟨v2, e2, x2, _⟩ := DataW.trod_string Try.underlying9 h2
        have k1 : Try.prog.cellsOf 3 = 1 := by kernel_rfl
        have k2 : Try.prog.cellsOf 9 = 1 := by kernel_rfl
        simp [k1, k2] at e0 e1 e2
        subst e0 e1 e2 x0 x1 x2
        simp only [Prod.mk.injEq] at hy
        refine ⟨(v0, v1, v2), fun j hj => ?_, hy.1, bounds_i64 wf0, bounds_i64 wf1⟩
        rw [← add_add, hcell j hj]; rfl
    obtain ⟨f, hf⟩ := choose_lt (α := It) each
    refine ⟨(List.range len).map f, (List.range (m - len)).map fun j => f (len + j), by simp, ⟨by simpa using hl, by unfold maxLen at hm; omega, ?_, ?_⟩, .inr ?_⟩
    · intro i hi
      simp at hi
      have e : ((List.range len).map f).getD i itD = f i := by simp [List.getD_eq_getElem?_getD, hi]
      rw [e]; exact (hf i (by omega)).2.2
    · by_cases h0 : len = 0
      · exact .inl (by simp [h0])
      · obtain ⟨b, off, spot⟩ := x
        have hc := (hf 0 (by omega)).1 0 (by omega)
        have hspot : spot = none := by simpa [Addr.add] using World.cell?_spot (hc.trans rfl)
        subst hspot
        refine .inr ⟨b, off, rfl, World.block_lt_of_cell? w ⟨b, off, none⟩ (u := .int .i64 (f 0).1) (by rw [Addr.add_lit] at hc; exact hc), fun i hi => ?_⟩
        simp at hi
        have e : ((List.range len).map f).getD i itD = f i := by simp [List.getD_eq_getElem?_getD, hi]
        rw [e]
        have hci := (hf i (by omega)).1
        have q0 := hci 0 (by omega)
        have q1 := hci 1 (by omega)
        have q2 := hci 2 (by omega)
        rw [Addr.add_lit] at q0 q1 q2
        exact ⟨q0, q1, q2⟩
    · simp only [Prod.mk.injEq] at hx
      rw [hx.1, List.map_map, List.map_map]
      congr 1
      · exact List.map_congr_left fun i hi => (hf i (by have := List.mem_range.1 hi; omega)).2.1
      · exact List.map_congr_left fun j hj => (hf (len + j) (by have := List.mem_range.1 hj; omega)).2.1
end Go.Proofs.Ytnnaaliadbihkaa
