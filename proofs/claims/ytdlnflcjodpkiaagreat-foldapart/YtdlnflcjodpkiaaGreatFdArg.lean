
/- Records that came in, with their sizes. -/
import Derived.Test.YtdlnflcjodpkiaaGreatFdRec
import Derived.Test.YtdlnflcjodpkiaaGreatArgs
import Derived.Test.YtdlnflcjodpkiaaGreatHas
import Derived.Deep.Strs
namespace Go.Proofs.YtdlnflcjodpkiaaGreat
open Go.ChangeShapes Go.WideShapes Go.ChangeAt Go.RowKit Go.Deep

theorem bytesRc : Tryz.prog.bytesOf 53 = 80 := by kernel_rfl
theorem weights_all {H : Type} {P : Program} {e : TypeId} {d : DataW H} : ∀ {l : List (DataW H)}, d ∈ l → ∀ z ∈ d.weights P e, z ∈ DataW.weightsAll P e l
  | _ :: _, h, z, hz => by
    simp only [DataW.weightsAll, List.mem_append]
    rcases List.mem_cons.1 h with rfl | h
    · exact .inl hz
    · exact .inr (weights_all h z hz)
section
variable {H : Type} {enc : TypeId × Value → H} {w : World}
set_option maxRecDepth 100000 in
theorem rec_in2 {fuel : Nat} {cs : List Value} {x : DataW H × List MemPlace} (hlen : cs.length = 8) (h : DataW.trod enc Tryz.prog w 0 (fun _ => true) true fuel 53 cs = some x) (hz : ∀ z ∈ x.1.weights Tryz.prog 53, z ≤ reachBytes) : ∃ r : Rec, cs = recC r ∧ r.key.size ≤ 140737488351232 ∧ r.val.size ≤ 140737488351232 := by
  obtain ⟨xs, n', _, hx, _, hxl, hfl⟩ := DataW.trod_struct Tryz.underlying53 h
  have t0 := hfl 0 _ rfl
  have t1 := hfl 1 _ rfl
  have t2 := hfl 2 _ rfl
  have t3 := hfl 3 _ rfl
  have t4 := hfl 4 _ rfl
  have t5 := hfl 5 _ rfl
  have t6 := hfl 6 _ rfl
  have t7 := hfl 7 _ rfl
  match xs, hxl with
  | [y0, y1, y2, y3, y4, y5, y6, y7], _ =>
  match cs, hlen with
  | [c0, c1, c2, c3, c4, c5, c6, c7], _ =>
    simp [rcellsI, rcellsS] at t0 t1 t2 t3 t4 t5 t6 t7
    have hd : x.1 = .agg [y0.1, y1.1, y2.1, y3.1, y4.1, y5.1, y6.1, y7.1] := by simpa using congrArg Prod.fst hx
    rw [hd] at hz
    simp only [DataW.weights, Tryz.underlying53] at hz
    have z6 : ∀ z ∈ y6.1.weights Tryz.prog 9, z ≤ reachBytes := fun z h => hz z (DataW.weights_mem_each (j := 6) rfl rfl z h)
    have z7 : ∀ z ∈ y7.1.weights Tryz.prog 9, z ≤ reachBytes := fun z h => hz z (DataW.weights_mem_each (j := 7) rfl rfl z h)
    obtain ⟨b0, e0, _, _⟩ := DataW.trod_int Tryz.underlying3 t0
    obtain ⟨b1, e1, _, _⟩ := DataW.trod_int Tryz.underlying3 t1
    obtain ⟨b2, e2, _, _⟩ := DataW.trod_int Tryz.underlying3 t2
    obtain ⟨b3, e3, _, _⟩ := DataW.trod_int Tryz.underlying3 t3
    obtain ⟨b4, e4, _, _⟩ := DataW.trod_int Tryz.underlying3 t4
    obtain ⟨b5, e5, _, _⟩ := DataW.trod_int Tryz.underlying3 t5
    obtain ⟨b6, e6, e6', _⟩ := DataW.trod_string Tryz.underlying9 t6
    obtain ⟨b7, e7, e7', _⟩ := DataW.trod_string Tryz.underlying9 t7
    simp only [List.cons.injEq, and_true] at e0 e1 e2 e3 e4 e5 e6 e7
    subst e0 e1 e2 e3 e4 e5 e6 e7
    rw [e6'] at z6
    rw [e7'] at z7
    have w6 := z6 b6.data.toList.length (by simp [DataW.weights])
    have w7 := z7 b7.data.toList.length (by simp [DataW.weights])
    rw [← Lib.size_eq] at w6 w7
    exact ⟨⟨b0, b1, b2, b3, b4, b5, b6, b7⟩, rfl, by simpa [reachBytes] using w6, by simpa [reachBytes] using w7⟩
set_option maxRecDepth 100000 in
theorem recs_open2 {fuel len cap : Nat} {a : Option Addr} {d : DataW H} {p : List MemPlace}
    (h : DataW.trod enc Tryz.prog w 0 (fun _ => true) true fuel 22 [.slice a len cap] = some (d, p)) (hz : ∀ z ∈ d.weights Tryz.prog 22, z ≤ reachBytes) :
    ∃ ls : List Rec, len = ls.length ∧ len * 80 ≤ 140737488355328 ∧ Recs w a cap ls ∧ ∀ r ∈ ls, r.key.size ≤ 140737488351232 ∧ r.val.size ≤ 140737488351232 := by
  rcases open_slice Tryz.underlying22 h with ⟨hcs, hx⟩ | ⟨x, l, c, m, n, D, Pl, hcs, _, hl, hm, hmm, hx, heach⟩
  · simp at hcs
    obtain ⟨rfl, rfl, rfl⟩ := hcs
    exact ⟨[], rfl, by omega, ⟨Nat.le_refl _, by omega, .inl rfl⟩, (fun r hr => by cases hr)⟩
  · simp at hcs
    obtain ⟨rfl, rfl, rfl⟩ := hcs
    simp only [if_true] at hmm
    subst hmm
    rw [rcellsR] at heach
    have hd : d = .slice ((List.range len).map D) ((List.range (m - len)).map fun j => D (len + j)) := by simpa using congrArg Prod.fst hx
    rw [hd] at hz
    simp only [DataW.weights, Tryz.underlying22] at hz
    have hlen8 : len * 80 ≤ 140737488355328 := by
      have := hz _ (List.mem_cons_self ..)
      rw [bytesRc] at this
      simp [reachBytes] at this
      omega
    have hzi : ∀ i, i < len → ∀ z ∈ (D i).weights Tryz.prog 53, z ≤ reachBytes := fun i hi z h =>
      hz z (by simp only [List.mem_cons, List.mem_append]; exact .inr (.inl (weights_all (List.mem_map.2 ⟨i, List.mem_range.2 hi, rfl⟩) z h)))
    have each : ∀ i, i < len → ∃ r : Rec, (∀ j v, (recC r)[j]? = some v → w.cell? (x.add (i * 8 + j)) = some v) ∧ r.key.size ≤ 140737488351232 ∧ r.val.size ≤ 140737488351232 := by
      intro i hi
      obtain ⟨cs', hc, ht'⟩ := heach i (by omega)
      obtain ⟨_, hlen, hcell⟩ := World.cells?_some hc
      obtain ⟨r, hr, hN⟩ := rec_in2 hlen ht' (hzi i hi)
      refine ⟨r, fun j v hv => ?_, hN⟩
      have hj : j < 8 := by have := (List.getElem?_eq_some_iff.1 hv).1; rwa [recC_length] at this
      have z := hcell j (by omega)
      rw [add_add] at z
      rw [z, hr]
      exact hv
    have inh : Inhabited Rec := ⟨rec0⟩
    obtain ⟨f, hf⟩ := choose_lt (α := Rec) each
    have hget : ∀ i s, ((List.range len).map f)[i]? = some s → i < len ∧ s = f i := by
      intro i s hs
      have hi : i < len := by have := (List.getElem?_eq_some_iff.1 hs).1; simpa using this
      refine ⟨hi, ?_⟩
      simp [hi] at hs
      exact hs.symm
    refine ⟨(List.range len).map f, by simp, hlen8, ⟨by simpa using hl, by unfold maxLen at hm; omega, ?_⟩, ?_⟩
    · by_cases h0 : len = 0
      · exact .inl (by simp [h0])
      · obtain ⟨b, off, spot⟩ := x
        have hc := (hf 0 (by omega)).1 0 _ rfl
        have hspot : spot = none := by simpa [Addr.add] using World.cell?_spot hc
        subst hspot
        refine .inr ⟨b, off, rfl, World.block_lt_of_cell? w ⟨b, off + (0 * 8 + 0), none⟩ (by rw [Addr.add_lit] at hc; exact hc), fun i s hs => ?_⟩
        obtain ⟨hi, rfl⟩ := hget i s hs
        intro j v hv
        have := (hf i (by omega)).1 j v hv
        rw [Addr.add_lit, ← Nat.add_assoc] at this
        exact this
    · intro s hs
      obtain ⟨i, hi, rfl⟩ := List.mem_map.1 hs
      exact (hf i (List.mem_range.1 hi)).2
end
end Go.Proofs.YtdlnflcjodpkiaaGreat
