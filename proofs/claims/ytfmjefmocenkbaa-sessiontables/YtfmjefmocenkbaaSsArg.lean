
/- Steps and looks that came in. -/
import Derived.Test.YtfmjefmocenkbaaVtArg
namespace Go.Proofs.Ytfmjefmocenkbaa
open Go.ChangeShapes Go.WideShapes Go.ChangeAt Go.RowKit Go.Deep
section
variable {H : Type} {enc : TypeId × Value → H} {w : World}
theorem cellsS24 : Try.prog.cellsOf 31 = 3 := by kernel_rfl
theorem bytesS24 : Try.prog.bytesOf 31 = 8 * 3 := by kernel_rfl
set_option maxRecDepth 100000 in
theorem st24_ints : AllInts H enc w 31 3 := by
  intro fuel cs x hlen h
  obtain ⟨xs, n', _, _, _, hxl, hfl⟩ := DataW.trod_struct Try.underlying31 h
  have t0 := hfl 0 _ rfl
  have t1 := hfl 1 _ rfl
  have t2 := hfl 2 _ rfl
  match xs, hxl with
  | [y0, y1, y2], _ =>
  match cs, hlen with
  | [c0, c1, c2], _ =>
    simp [pcellsI] at t0 t1 t2
    obtain ⟨b0, e0, _, wf0⟩ := DataW.trod_int Try.underlying3 t0
    obtain ⟨b1, e1, _, wf1⟩ := DataW.trod_int Try.underlying3 t1
    obtain ⟨b2, e2, _, wf2⟩ := DataW.trod_int Try.underlying3 t2
    simp only [List.cons.injEq, and_true] at e0 e1 e2
    subst e0 e1 e2
    exact ⟨[b0, b1, b2], rfl, rfl, by intro n hn; simp at hn; rcases hn with rfl | rfl | rfl <;> assumption⟩
theorem cellsL24 : Try.prog.cellsOf 50 = 3 := by kernel_rfl
theorem bytesL24 : Try.prog.bytesOf 50 = 8 * 3 := by kernel_rfl
set_option maxRecDepth 100000 in
theorem lk24_ints : AllInts H enc w 50 3 := by
  intro fuel cs x hlen h
  obtain ⟨xs, n', _, _, _, hxl, hfl⟩ := DataW.trod_struct Try.underlying50 h
  have t0 := hfl 0 _ rfl
  have t1 := hfl 1 _ rfl
  have t2 := hfl 2 _ rfl
  match xs, hxl with
  | [y0, y1, y2], _ =>
  match cs, hlen with
  | [c0, c1, c2], _ =>
    simp [pcellsI] at t0 t1 t2
    obtain ⟨b0, e0, _, wf0⟩ := DataW.trod_int Try.underlying3 t0
    obtain ⟨b1, e1, _, wf1⟩ := DataW.trod_int Try.underlying3 t1
    obtain ⟨b2, e2, _, wf2⟩ := DataW.trod_int Try.underlying3 t2
    simp only [List.cons.injEq, and_true] at e0 e1 e2
    subst e0 e1 e2
    exact ⟨[b0, b1, b2], rfl, rfl, by intro n hn; simp at hn; rcases hn with rfl | rfl | rfl <;> assumption⟩
end
end Go.Proofs.Ytfmjefmocenkbaa
