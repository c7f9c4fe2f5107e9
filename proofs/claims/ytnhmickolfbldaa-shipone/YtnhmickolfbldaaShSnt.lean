
/- A row of sendings that came in. -/
import Derived.Test.YtnhmickolfbldaaShArg
namespace Go.Proofs.Ytnhmickolfbldaa
open Go.ChangeShapes Go.WideShapes Go.ChangeAt Go.RowKit Go.Deep

def wfS (x : Int) : Prop := (Lit.int .i64 x).wf = true
structure Sn9 where
  pg : Int
  fst : Int
def snC (s : Sn9) : List Value := [.int .i64 s.pg, .int .i64 s.fst]
theorem sncellsT : Try.prog.cellsOf 61 = 2 := by kernel_rfl
structure Snts (w : World) (a : Option Addr) (cap : Nat) (ls : List Sn9) : Prop where
  fit : ∀ (i : Nat) (s : Sn9), ls[i]? = some s → wfS s.pg ∧ wfS s.fst
  le : ls.length ≤ cap
  max : cap ≤ 9223372036854775807
  at_ : ls = [] ∨ ∃ b off, a = some ⟨b, off, none⟩ ∧ b < w.heap.size ∧ ∀ (i : Nat) (s : Sn9), ls[i]? = some s → w.cell? ⟨b, off + i * 2, none⟩ = some (.int .i64 s.pg) ∧ w.cell? ⟨b, off + i * 2 + 1, none⟩ = some (.int .i64 s.fst)
theorem Snts.same {w w' : World} {a : Option Addr} {cap : Nat} {ls : List Sn9} (h : Snts w a cap ls) (f : Fr (fun _ => False) w w') : Snts w' a cap ls := by
  refine ⟨h.fit, h.le, h.max, ?_⟩
  rcases h.at_ with h0 | ⟨b, off, rfl, hb, hc⟩
  · exact .inl h0
  · refine .inr ⟨b, off, rfl, Nat.lt_of_lt_of_le hb f.size, fun i r hr => ?_⟩
    obtain ⟨h0, h1⟩ := hc i r hr
    exact ⟨(f.cell (p := ⟨b, _, none⟩) hb (fun f => f)).trans h0, (f.cell (p := ⟨b, _, none⟩) hb (fun f => f)).trans h1⟩
theorem Snts.some {w : World} {a : Option Addr} {cap : Nat} {ls : List Sn9} (h : Snts w a cap ls) (hn : 0 < ls.length) : ∃ b off, a = some ⟨b, off, none⟩ ∧ b < w.heap.size ∧ ∀ (i : Nat) (s : Sn9), ls[i]? = some s → w.cell? ⟨b, off + i * 2, none⟩ = some (.int .i64 s.pg) ∧ w.cell? ⟨b, off + i * 2 + 1, none⟩ = some (.int .i64 s.fst) := by
  rcases h.at_ with h0 | h
  · rw [h0] at hn; simp at hn
  · exact h
section
variable {H : Type} {enc : TypeId × Value → H} {w : World}
set_option maxRecDepth 100000 in
theorem sn_in {fuel : Nat} {cs : List Value} {x : DataW H × List MemPlace} (hlen : cs.length = 2) (h : DataW.trod enc Try.prog w 0 (fun _ => true) true fuel 61 cs = some x) : ∃ s : Sn9, cs = snC s ∧ wfS s.pg ∧ wfS s.fst := by
  obtain ⟨xs, n', _, _, _, hxl, hfl⟩ := DataW.trod_struct Try.underlying61 h
  have t0 := hfl 0 _ rfl
  have t1 := hfl 1 _ rfl
  match xs, hxl with
  | [y0, y1], _ =>
  match cs, hlen with
  | [c0, c1], _ =>
    simp [rcellsI] at t0 t1
    obtain ⟨b0, e0, _, wf0⟩ := DataW.trod_int Try.underlying3 t0
    obtain ⟨b1, e1, _, wf1⟩ := DataW.trod_int Try.underlying3 t1
    simp only [List.cons.injEq, and_true] at e0 e1
    subst e0 e1
    exact ⟨⟨b0, b1⟩, rfl, wf0, wf1⟩
set_option maxRecDepth 100000 in
theorem snts_open {fuel len cap : Nat} {a : Option Addr} {d : DataW H} {p : List MemPlace}
    (h : DataW.trod enc Try.prog w 0 (fun _ => true) true fuel 58 [.slice a len cap] = some (d, p)) (hz : ∀ z ∈ d.weights Try.prog 58, z ≤ reachBytes) :
    ∃ ls : List Sn9, len = ls.length ∧ ls.length ≤ 8796093021952 ∧ Snts w a cap ls := by
  rcases open_slice Try.underlying58 h with ⟨hcs, hx⟩ | ⟨x, l, c, m, n, D, Pl, hcs, _, hl, hm, hmm, hx, heach⟩
  · simp at hcs
    obtain ⟨rfl, rfl, rfl⟩ := hcs
    exact ⟨[], rfl, by simp, ⟨(fun i s h => by simp at h), Nat.le_refl _, by omega, .inl rfl⟩⟩
  · simp at hcs
    obtain ⟨rfl, rfl, rfl⟩ := hcs
    simp only [if_true] at hmm
    subst hmm
    rw [sncellsT] at heach
    have hd : d = .slice ((List.range len).map D) ((List.range (m - len)).map fun j => D (len + j)) := by simpa using congrArg Prod.fst hx
    rw [hd] at hz
    simp only [DataW.weights, Try.underlying58] at hz
    have hb : Try.prog.bytesOf 61 = 16 := by kernel_rfl
    have hlb : len ≤ 8796093021952 := by
      have h0 := hz _ (List.mem_cons_self ..)
      rw [hb] at h0
      simp [reachBytes] at h0
      omega
    have each : ∀ i, i < m → ∃ r : Sn9, (wfS r.pg ∧ wfS r.fst) ∧ ∀ j v, (snC r)[j]? = some v → w.cell? (x.add (i * 2 + j)) = some v := by
      intro i hi
      obtain ⟨cs', hc, ht'⟩ := heach i hi
      obtain ⟨_, hlen, hcell⟩ := World.cells?_some hc
      obtain ⟨r, hr, hfit⟩ := sn_in hlen ht'
      refine ⟨r, hfit, fun j v hv => ?_⟩
      have hj : j < 2 := by have := (List.getElem?_eq_some_iff.1 hv).1; simpa [snC] using this
      have z := hcell j (by omega)
      rw [add_add] at z
      rw [z, hr]
      exact hv
    have inh : Inhabited Sn9 := ⟨⟨0, 0⟩⟩
    obtain ⟨f, hf⟩ := choose_lt (α := Sn9) each
    have hget : ∀ i s, ((List.range len).map f)[i]? = some s → i < len ∧ s = f i := by
      intro i s hs
      have hi : i < len := by have := (List.getElem?_eq_some_iff.1 hs).1; simpa using this
      refine ⟨hi, ?_⟩
      simp [hi] at hs
      exact hs.symm
    refine ⟨(List.range len).map f, by simp, by simpa using hlb, ⟨(fun i s hs => by obtain ⟨hi, rfl⟩ := hget i s hs; exact (hf i (by omega)).1), by simpa using hl, by unfold maxLen at hm; omega, ?_⟩⟩
    by_cases h0 : len = 0
    · exact .inl (by simp [h0])
    · obtain ⟨b, off, spot⟩ := x
      have hc := (hf 0 (by omega)).2 0 _ rfl
      have hspot : spot = none := by simpa [Addr.add] using World.cell?_spot hc
      subst hspot
      refine .inr ⟨b, off, rfl, World.block_lt_of_cell? w ⟨b, off + (0 * 2 + 0), none⟩ (by rw [Addr.add_lit] at hc; exact hc), fun i s hs => ?_⟩
      obtain ⟨hi, rfl⟩ := hget i s hs
      have k0 := (hf i (by omega)).2 0 _ rfl
      have k1 := (hf i (by omega)).2 1 _ rfl
      rw [Addr.add_lit, ← Nat.add_assoc] at k0 k1
      exact ⟨k0, k1⟩
end

end Go.Proofs.Ytnhmickolfbldaa
