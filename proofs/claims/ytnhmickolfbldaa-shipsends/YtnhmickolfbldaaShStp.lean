
/- A slice of steps of two numbers each that came in. -/
import Derived.Test.YtnhmickolfbldaaSB8
import Derived.Test.YtnhmickolfbldaaShRSd
import Derived.Deep.Strs
namespace Go.Proofs.Ytnhmickolfbldaa
open Go.ChangeShapes Go.WideShapes Go.ChangeAt Go.RowKit Go.Deep

structure Steps2 (w : World) (a : Option Addr) (cap : Nat) (ss : List (Int × Int)) : Prop where
  le : ss.length ≤ cap
  max : cap ≤ 9223372036854775807
  wf : ∀ s ∈ ss, (-9223372036854775808 ≤ s.1 ∧ s.1 ≤ 9223372036854775807) ∧ (-9223372036854775808 ≤ s.2 ∧ s.2 ≤ 9223372036854775807)
  at_ : ss = [] ∨ ∃ b off, a = some ⟨b, off, none⟩ ∧ b < w.heap.size ∧ ∀ i s, ss[i]? = some s → w.cell? ⟨b, off + i * 2, none⟩ = some (.int .i64 s.1) ∧ w.cell? ⟨b, off + i * 2 + 1, none⟩ = some (.int .i64 s.2)

theorem Steps2.same {w w' : World} {a : Option Addr} {cap : Nat} {ss : List (Int × Int)} (h : Steps2 w a cap ss) (f : Fr (fun _ => False) w w') : Steps2 w' a cap ss := by
  refine ⟨h.le, h.max, h.wf, ?_⟩
  rcases h.at_ with h0 | ⟨b, off, rfl, hb, hc⟩
  · exact .inl h0
  · refine .inr ⟨b, off, rfl, Nat.lt_of_lt_of_le hb f.size, fun i s hs => ?_⟩
    obtain ⟨h1, h2⟩ := hc i s hs
    exact ⟨(f.cell hb (fun x => x)).trans h1, (f.cell hb (fun x => x)).trans h2⟩

set_option maxRecDepth 100000 in
theorem steps2_open {H : Type} {enc : TypeId × Value → H} {w : World} {fuel len cap : Nat} {a : Option Addr} {d : DataW H} {p : List MemPlace} {t e : TypeId} {f0 f1 : Field} (ht : Try.prog.underlying t = some (.slice e)) (he : Try.prog.underlying e = some (.struct #[f0, f1]))
    (hf : (f0.type = 3 ∧ f0.offset = 0) ∧ (f1.type = 3 ∧ f1.offset = 1)) (hce : Try.prog.cellsOf e = 2)
    (h : DataW.trod enc Try.prog w 0 (fun _ => true) true fuel t [.slice a len cap] = some (d, p)) :
    ∃ ss : List (Int × Int), len = ss.length ∧ Steps2 w a cap ss := by
  obtain ⟨⟨e0, g0⟩, ⟨e1, g1⟩⟩ := hf
  rcases open_slice ht h with ⟨hcs, hx⟩ | ⟨x, l, c, m, n, D, Pl, hcs, _, hl, hm, hmm, hx, heach⟩
  · simp at hcs
    obtain ⟨rfl, rfl, rfl⟩ := hcs
    exact ⟨[], rfl, ⟨Nat.le_refl _, by omega, (fun s hs => by cases hs), .inl rfl⟩⟩
  · simp at hcs
    obtain ⟨rfl, rfl, rfl⟩ := hcs
    simp only [if_true] at hmm
    subst hmm
    rw [hce] at heach
    have each : ∀ i, i < m → ∃ s : Int × Int, w.cell? (x.add (i * 2)) = some (.int .i64 s.1) ∧ w.cell? (x.add (i * 2 + 1)) = some (.int .i64 s.2) ∧ (-9223372036854775808 ≤ s.1 ∧ s.1 ≤ 9223372036854775807) ∧ (-9223372036854775808 ≤ s.2 ∧ s.2 ≤ 9223372036854775807) := by
      intro i hi
      obtain ⟨cs', hc, ht'⟩ := heach i hi
      obtain ⟨_, hlen, hcell⟩ := World.cells?_some hc
      obtain ⟨xs, n', _, _, _, hxl, hfl⟩ := DataW.trod_struct he ht'
      have h0 := hfl 0 f0 rfl
      have h1 := hfl 1 f1 rfl
      match xs, hxl with
      | [y0, y1], _ =>
      match cs', hlen with
      | [c0, c1], _ =>
        have k1 : Try.prog.cellsOf 3 = 1 := by kernel_rfl
        rw [e0, g0] at h0
        rw [e1, g1] at h1
        simp [k1] at h0 h1
        obtain ⟨v0, q0, x0, wf0⟩ := DataW.trod_int Try.underlying3 h0
        obtain ⟨v1, q1, x1, wf1⟩ := DataW.trod_int Try.underlying3 h1
        simp at q0 q1
        subst q0 q1
        have z0 := hcell 0 (by omega)
        have z1 := hcell 1 (by omega)
        rw [add_add] at z0 z1
        exact ⟨(v0, v1), z0, z1, bounds_i64 wf0, bounds_i64 wf1⟩
    have inh : Inhabited (Int × Int) := ⟨(0, 0)⟩
    obtain ⟨f, hf⟩ := choose_lt (α := Int × Int) each
    have hget : ∀ i s, ((List.range len).map f)[i]? = some s → i < len ∧ s = f i := by
      intro i s hs
      have hi : i < len := by have := (List.getElem?_eq_some_iff.1 hs).1; simpa using this
      refine ⟨hi, ?_⟩
      simp [hi] at hs
      exact hs.symm
    have hmem : ∀ s ∈ (List.range len).map f, ∃ i, i < len ∧ s = f i := fun s hs => by
      obtain ⟨i, hi, rfl⟩ := List.mem_map.1 hs
      exact ⟨i, List.mem_range.1 hi, rfl⟩
    refine ⟨(List.range len).map f, by simp, ⟨by simpa using hl, by unfold maxLen at hm; omega, fun s hs => ?_, ?_⟩⟩
    · obtain ⟨i, hi, rfl⟩ := hmem s hs
      obtain ⟨_, _, w0, w1⟩ := hf i (by omega)
      exact ⟨w0, w1⟩
    · by_cases h0 : len = 0
      · exact .inl (by simp [h0])
      · obtain ⟨b, off, spot⟩ := x
        have hc := (hf 0 (by omega)).1
        have hspot : spot = none := by simpa [Addr.add] using World.cell?_spot hc
        subst hspot
        refine .inr ⟨b, off, rfl, World.block_lt_of_cell? w ⟨b, off + 0 * 2, none⟩ (by rw [Addr.add_lit] at hc; exact hc), fun i s hs => ?_⟩
        obtain ⟨hi, rfl⟩ := hget i s hs
        obtain ⟨p0, p1, _⟩ := hf i (by omega)
        rw [Addr.add_lit] at p0 p1
        exact ⟨p0, p1⟩
theorem neq_mark (x y : Int) (w : World) : (binOp .neq 24 (.agg #[.int .i64 x, .int .i64 y]) (.agg #[.int .i64 x, .int .i64 y])).run Try.prog w = .ok (.bool false) w := by
  have hf : Try.prog.stoodInHeld 24 = false := by kernel_rfl
  have hu : Try.prog.underlying 24 = some (.struct (Try.prog.fieldsOf 24)) := by kernel_rfl
  rw [run_neq_struct, run_equalIn_struct _ _ _ _ _ hu hf]
  simp [Op.eqFields, go_sem]
end Go.Proofs.Ytnhmickolfbldaa
