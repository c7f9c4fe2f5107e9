
/- Steps of a pool that came in: three numbers each. -/
import Derived.Test.YtneniagingoleaaPlBase
import Derived.Test.YtneniagingoleaaArgs
import Derived.Deep.Strs
namespace Go.Proofs.Ytneniagingoleaa
open Go.ChangeShapes Go.WideShapes Go.ChangeAt Go.RowKit Go.Deep

structure Pst where
  k : Int
  pg : Int
  ls : Int
def pstC (s : Pst) : List Value := [.int .i64 s.k, .int .i64 s.pg, .int .i64 s.ls]
theorem pcellsT : Try.prog.cellsOf 32 = 3 := by kernel_rfl
theorem pcellsI : Try.prog.cellsOf 3 = 1 := by kernel_rfl
structure Psts (w : World) (a : Option Addr) (cap : Nat) (ls : List Pst) : Prop where
  fit : ∀ (i : Nat) (s : Pst), ls[i]? = some s → wfK s.pg ∧ wfK s.ls
  le : ls.length ≤ cap
  max : cap ≤ 9223372036854775807
  at_ : ls = [] ∨ ∃ b off, a = some ⟨b, off, none⟩ ∧ b < w.heap.size ∧ ∀ (i : Nat) (s : Pst), ls[i]? = some s → w.cell? ⟨b, off + i * 3, none⟩ = some (.int .i64 s.k) ∧ w.cell? ⟨b, off + i * 3 + 1, none⟩ = some (.int .i64 s.pg) ∧ w.cell? ⟨b, off + i * 3 + 2, none⟩ = some (.int .i64 s.ls)
theorem Psts.same {w w' : World} {a : Option Addr} {cap : Nat} {ls : List Pst} (h : Psts w a cap ls) (f : Fr (fun _ => False) w w') : Psts w' a cap ls := by
  refine ⟨h.fit, h.le, h.max, ?_⟩
  rcases h.at_ with h0 | ⟨b, off, rfl, hb, hc⟩
  · exact .inl h0
  · refine .inr ⟨b, off, rfl, Nat.lt_of_lt_of_le hb f.size, fun i r hr => ?_⟩
    obtain ⟨h1, h2, h3⟩ := hc i r hr
    exact ⟨(f.cell (p := ⟨b, _, none⟩) hb (fun f => f)).trans h1, (f.cell (p := ⟨b, _, none⟩) hb (fun f => f)).trans h2, (f.cell (p := ⟨b, _, none⟩) hb (fun f => f)).trans h3⟩
theorem Psts.some {w : World} {a : Option Addr} {cap : Nat} {ls : List Pst} (h : Psts w a cap ls) (hn : 0 < ls.length) : ∃ b off, a = some ⟨b, off, none⟩ ∧ b < w.heap.size ∧ ∀ (i : Nat) (s : Pst), ls[i]? = some s → w.cell? ⟨b, off + i * 3, none⟩ = some (.int .i64 s.k) ∧ w.cell? ⟨b, off + i * 3 + 1, none⟩ = some (.int .i64 s.pg) ∧ w.cell? ⟨b, off + i * 3 + 2, none⟩ = some (.int .i64 s.ls) := by
  rcases h.at_ with h0 | h
  · rw [h0] at hn; simp at hn
  · exact h
section
variable {H : Type} {enc : TypeId × Value → H} {w : World}
set_option maxRecDepth 100000 in
theorem pst_in {fuel : Nat} {cs : List Value} {x : DataW H × List MemPlace} (hlen : cs.length = 3) (h : DataW.trod enc Try.prog w 0 (fun _ => true) true fuel 32 cs = some x) : ∃ s : Pst, cs = pstC s ∧ wfK s.pg ∧ wfK s.ls := by
  obtain ⟨xs, n', _, _, _, hxl, hfl⟩ := DataW.trod_struct Try.underlying32 h
  have t0 := hfl 0 _ rfl
  have t1 := hfl 1 _ rfl
  have t2 := hfl 2 _ rfl
  match xs, hxl with
  | [y0, y1, y2], _ =>
  match cs, hlen with
  | [c0, c1, c2], _ =>
    simp [pcellsI] at t0 t1 t2
    obtain ⟨b0, e0, _, _⟩ := DataW.trod_int Try.underlying3 t0
    obtain ⟨b1, e1, _, wf1⟩ := DataW.trod_int Try.underlying3 t1
    obtain ⟨b2, e2, _, wf2⟩ := DataW.trod_int Try.underlying3 t2
    simp only [List.cons.injEq, and_true] at e0 e1 e2
    subst e0 e1 e2
    exact ⟨⟨b0, b1, b2⟩, rfl, wf1, wf2⟩
set_option maxRecDepth 100000 in
theorem psts_open {fuel len cap : Nat} {a : Option Addr} {d : DataW H} {p : List MemPlace} 
    (h : DataW.trod enc Try.prog w 0 (fun _ => true) true fuel 22 [.slice a len cap] = some (d, p)) :
    ∃ ls : List Pst, len = ls.length ∧ Psts w a cap ls ∧ (d = .nil ∧ ls = [] ∨ ∃ elems spare, d = .slice elems spare ∧ elems.length = ls.length) := by
  rcases open_slice Try.underlying22 h with ⟨hcs, hx⟩ | ⟨x, l, c, m, n, D, Pl, hcs, _, hl, hm, hmm, hx, heach⟩
  · simp at hcs
    obtain ⟨rfl, rfl, rfl⟩ := hcs
    simp only [Prod.mk.injEq] at hx
    exact ⟨[], rfl, ⟨(fun i s h => by simp at h), Nat.le_refl _, by omega, .inl rfl⟩, .inl ⟨hx.1, rfl⟩⟩
  · simp at hcs
    obtain ⟨rfl, rfl, rfl⟩ := hcs
    simp only [if_true] at hmm
    subst hmm
    rw [pcellsT] at heach
    have each : ∀ i, i < m → ∃ r : Pst, (wfK r.pg ∧ wfK r.ls) ∧ ∀ j v, (pstC r)[j]? = some v → w.cell? (x.add (i * 3 + j)) = some v := by
      intro i hi
      obtain ⟨cs', hc, ht'⟩ := heach i hi
      obtain ⟨_, hlen, hcell⟩ := World.cells?_some hc
      obtain ⟨r, hr, hfit⟩ := pst_in hlen ht'
      refine ⟨r, hfit, fun j v hv => ?_⟩
      have hj : j < 3 := by have := (List.getElem?_eq_some_iff.1 hv).1; simpa [pstC] using this
      have z := hcell j (by omega)
      rw [add_add] at z
      rw [z, hr]
      exact hv
    have inh : Inhabited Pst := ⟨⟨0, 0, 0⟩⟩
    obtain ⟨f, hf⟩ := choose_lt (α := Pst) each
    have hget : ∀ i s, ((List.range len).map f)[i]? = some s → i < len ∧ s = f i := by
      intro i s hs
      have hi : i < len := by have := (List.getElem?_eq_some_iff.1 hs).1; simpa using this
      refine ⟨hi, ?_⟩
      simp [hi] at hs
      exact hs.symm
    refine ⟨(List.range len).map f, by simp, ⟨(fun i s hs => by obtain ⟨hi, rfl⟩ := hget i s hs; exact (hf i (by omega)).1), by simpa using hl, by unfold maxLen at hm; omega, ?_⟩, .inr ?_⟩
    · by_cases h0 : len = 0
      · exact .inl (by simp [h0])
      · obtain ⟨b, off, spot⟩ := x
        have hc := (hf 0 (by omega)).2 0 _ rfl
        have hspot : spot = none := by simpa [Addr.add] using World.cell?_spot hc
        subst hspot
        refine .inr ⟨b, off, rfl, World.block_lt_of_cell? w ⟨b, off + (0 * 3 + 0), none⟩ (by rw [Addr.add_lit] at hc; exact hc), fun i s hs => ?_⟩
        obtain ⟨hi, rfl⟩ := hget i s hs
        have k0 := (hf i (by omega)).2 0 _ rfl
        have k1 := (hf i (by omega)).2 1 _ rfl
        have k2 := (hf i (by omega)).2 2 _ rfl
        rw [Addr.add_lit, ← Nat.add_assoc] at k0 k1 k2
        exact ⟨k0, k1, k2⟩
    · simp only [Prod.mk.injEq] at hx
      exact ⟨_, _, hx.1, by simp⟩
end
end Go.Proofs.Ytneniagingoleaa
