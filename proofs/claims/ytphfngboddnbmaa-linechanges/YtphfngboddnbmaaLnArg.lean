
/- Timelines and marks that came in. -/
import Derived.Test.YtphfngboddnbmaaLnBase
import Derived.Test.YtphfngboddnbmaaArgs
import Derived.Deep.Strs
namespace Go.Proofs.Ytphfngboddnbmaa
open Go.ChangeShapes Go.WideShapes Go.ChangeAt Go.RowKit Go.Deep
open Go.Proofs.Ytphfngboddnbmaa.Ln

theorem lcellsI : Try.prog.cellsOf 3 = 1 := by kernel_rfl
theorem lcellsM : Try.prog.cellsOf 53 = 2 := by kernel_rfl
theorem lcellsS : Try.prog.cellsOf 22 = 1 := by kernel_rfl
theorem lcellsL : Try.prog.cellsOf 24 = 2 := by kernel_rfl
theorem array2 {α : Type} {cs : Array α} (h : cs.size = 2) : ∃ c0 c1, cs = #[c0, c1] := by
  obtain ⟨l⟩ := cs
  match l, h with
  | [c0, c1], _ => exact ⟨c0, c1, rfl⟩
section
variable {H : Type} {enc : TypeId × Value → H} {w : World}
set_option maxRecDepth 100000 in
theorem mk_in {fuel : Nat} {cs : List Value} {x : DataW H × List MemPlace} (hlen : cs.length = 2) (h : DataW.trod enc Try.prog w 0 (fun _ => true) true fuel 53 cs = some x) : ∃ m : Mk, cs = mkC m := by
  obtain ⟨xs, n', _, _, _, hxl, hfl⟩ := DataW.trod_struct Try.underlying53 h
  have t0 := hfl 0 _ rfl
  have t1 := hfl 1 _ rfl
  match xs, hxl with
  | [y0, y1], _ =>
  match cs, hlen with
  | [c0, c1], _ =>
    simp [lcellsI] at t0 t1
    obtain ⟨b0, e0, _, _⟩ := DataW.trod_int Try.underlying3 t0
    obtain ⟨b1, e1, _, _⟩ := DataW.trod_int Try.underlying3 t1
    simp only [List.cons.injEq, and_true] at e0 e1
    subst e0 e1
    exact ⟨(b0, b1), rfl⟩
set_option maxRecDepth 100000 in
theorem mks_open {fuel : Nat} {cv : Value} {x0 : DataW H × List MemPlace}
    (h : DataW.trod enc Try.prog w 0 (fun _ => true) true fuel 22 [cv] = some x0) :
    ∃ (a : Option Addr) (cap : Nat) (ls : List Mk), cv = .slice a ls.length cap ∧ Mks w a cap ls := by
  obtain ⟨d, p⟩ := x0
  rcases open_slice Try.underlying22 h with ⟨hcs, hx⟩ | ⟨x, len, cap, m, n, D, Pl, hcs, _, hl, hm, hmm, hx, heach⟩
  · simp at hcs
    exact ⟨none, 0, [], hcs, Mks.nil _ _⟩
  · simp at hcs
    subst hcs
    simp only [if_true] at hmm
    subst hmm
    rw [lcellsM] at heach
    have each : ∀ i, i < len → ∃ r : Mk, ∀ j v, (mkC r)[j]? = some v → w.cell? (x.add (i * 2 + j)) = some v := by
      intro i hi
      obtain ⟨cs', hc, ht'⟩ := heach i (by omega)
      obtain ⟨_, hlen, hcell⟩ := World.cells?_some hc
      obtain ⟨r, hr⟩ := mk_in hlen ht'
      refine ⟨r, fun j v hv => ?_⟩
      have hj : j < 2 := by have := (List.getElem?_eq_some_iff.1 hv).1; rwa [mkC_length] at this
      have z := hcell j (by omega)
      rw [add_add] at z
      rw [z, hr]
      exact hv
    have inh : Inhabited Mk := ⟨(0, 0)⟩
    obtain ⟨f, hf⟩ := choose_lt (α := Mk) each
    have hget : ∀ i s, ((List.range len).map f)[i]? = some s → i < len ∧ s = f i := by
      intro i s hs
      have hi : i < len := by have := (List.getElem?_eq_some_iff.1 hs).1; simpa using this
      refine ⟨hi, ?_⟩
      simp [hi] at hs
      exact hs.symm
    refine ⟨some x, m, (List.range len).map f, by simp, ⟨by simpa using hl, by unfold maxLen at hm; omega, ?_⟩⟩
    by_cases h0 : len = 0
    · exact .inl (by simp [h0])
    · obtain ⟨b, off, spot⟩ := x
      have hc := hf 0 (by omega) 0 _ rfl
      have hspot : spot = none := by simpa [Addr.add] using World.cell?_spot hc
      subst hspot
      refine .inr ⟨b, off, rfl, World.block_lt_of_cell? w ⟨b, off + (0 * 2 + 0), none⟩ (by rw [Addr.add_lit] at hc; exact hc), fun i s hs => ?_⟩
      obtain ⟨hi, rfl⟩ := hget i s hs
      intro j v hv
      have := hf i (by omega) j v hv
      rw [Addr.add_lit, ← Nat.add_assoc] at this
      exact this
set_option maxRecDepth 100000 in
theorem line_open {r : Reach} {b0 : Nat} {v : Value} {d : DataW H} {pl : List MemPlace} (hv : Value.okWide Try.prog w r b0 24 v) (h : DataW.Trod enc Try.prog w 0 (fun _ => true) true 24 v d pl) :
    ∃ (a : Option Addr) (c : Nat) (ms : List Mk) (last : Int), v = .agg #[.slice a ms.length c, .int .i64 last] ∧ Mks w a c ms := by
  obtain ⟨cs, rfl, hsz⟩ := okWide_struct Try.underlying24 hv
  obtain ⟨c0, c1, rfl⟩ := array2 (hsz.trans lcellsL)
  obtain ⟨fuel, hf⟩ := h
  obtain ⟨xs, m, _, hx, hl, hlen, hfs⟩ := DataW.trod_struct Try.underlying24 hf
  match xs, hlen with
  | [y0, y1], _ =>
    have t0 := hfs 0 _ rfl
    have t1 := hfs 1 _ rfl
    simp [Value.cells, lcellsI, lcellsS] at t0 t1
    obtain ⟨a, cap, ls, rfl, hM⟩ := mks_open t0
    obtain ⟨f, ef, _, _⟩ := DataW.trod_int Try.underlying3 t1
    simp only [List.cons.injEq, and_true] at ef
    subst ef
    exact ⟨a, cap, ls, f, rfl, hM⟩
set_option maxRecDepth 100000 in
theorem mark_open {r : Reach} {b0 : Nat} {v : Value} {d : DataW H} {pl : List MemPlace} (hv : Value.okWide Try.prog w r b0 53 v) (h : DataW.Trod enc Try.prog w 0 (fun _ => true) true 53 v d pl) :
    ∃ (m : Mk), v = .agg #[.int .i64 m.1, .int .i64 m.2] := by
  obtain ⟨cs, rfl, hsz⟩ := okWide_struct Try.underlying53 hv
  obtain ⟨c0, c1, rfl⟩ := array2 (hsz.trans lcellsM)
  obtain ⟨fuel, hf⟩ := h
  obtain ⟨m, hm⟩ := mk_in (by simp [Value.cells]) hf
  simp [Value.cells, mkC] at hm
  obtain ⟨rfl, rfl⟩ := hm
  exact ⟨m, rfl⟩
end
end Go.Proofs.Ytphfngboddnbmaa
