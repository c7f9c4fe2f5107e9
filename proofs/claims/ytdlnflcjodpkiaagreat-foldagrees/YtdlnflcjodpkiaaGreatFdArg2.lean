
/- Entries, an operation, what was asked, three rows of records that came in. -/
import Derived.Test.YtdlnflcjodpkiaaGreatFdArg
import Derived.Test.YtdlnflcjodpkiaaGreatFdOp
import Derived.Test.YtdlnflcjodpkiaaGreatFdGiv2
import Derived.Laws.IdiomArrays
namespace Go.Proofs.YtdlnflcjodpkiaaGreat
open Go.ChangeShapes Go.WideShapes Go.ChangeAt Go.RowKit Go.Deep

theorem bytesEn : Tryz.prog.bytesOf 77 = 32 := by kernel_rfl
theorem cellsEn : Tryz.prog.cellsOf 77 = 2 := by kernel_rfl
theorem cellsOp : Tryz.prog.cellsOf 35 = 3 := by kernel_rfl
theorem cellsRs : Tryz.prog.cellsOf 37 = 3 := by kernel_rfl
theorem cellsAs : Tryz.prog.cellsOf 49 = 7 := by kernel_rfl
theorem cellsBo : Tryz.prog.cellsOf 4 = 1 := by kernel_rfl
theorem cellsEs : Tryz.prog.cellsOf 24 = 1 := by kernel_rfl
theorem cellsRl : Tryz.prog.cellsOf 22 = 1 := by kernel_rfl
theorem cells3 : Tryz.prog.cellsOf 55 = 3 := by kernel_rfl
theorem array3 {α : Type} {cs : Array α} (h : cs.size = 3) : ∃ c0 c1 c2, cs = #[c0, c1, c2] := by
  obtain ⟨l⟩ := cs
  match l, h with
  | [c0, c1, c2], _ => exact ⟨c0, c1, c2, rfl⟩
theorem array7 {α : Type} {cs : Array α} (h : cs.size = 7) : ∃ c0 c1 c2 c3 c4 c5 c6, cs = #[c0, c1, c2, c3, c4, c5, c6] := by
  obtain ⟨l⟩ := cs
  match l, h with
  | [c0, c1, c2, c3, c4, c5, c6], _ => exact ⟨c0, c1, c2, c3, c4, c5, c6, rfl⟩
section
variable {H : Type} {enc : TypeId × Value → H} {w : World}
set_option maxRecDepth 100000 in
theorem ent_in {fuel : Nat} {cs : List Value} {x : DataW H × List MemPlace} (hlen : cs.length = 2) (h : DataW.trod enc Tryz.prog w 0 (fun _ => true) true fuel 77 cs = some x) (hz : ∀ z ∈ x.1.weights Tryz.prog 77, z ≤ reachBytes) : ∃ r : En, cs = enC r ∧ r.1.size ≤ 140737488351232 ∧ r.2.size ≤ 140737488351232 := by
  obtain ⟨xs, n', _, hx, _, hxl, hfl⟩ := DataW.trod_struct Tryz.underlying77 h
  have t6 := hfl 0 _ rfl
  have t7 := hfl 1 _ rfl
  match xs, hxl with
  | [y6, y7], _ =>
  match cs, hlen with
  | [c6, c7], _ =>
    simp [rcellsS] at t6 t7
    have hd : x.1 = .agg [y6.1, y7.1] := by simpa using congrArg Prod.fst hx
    rw [hd] at hz
    simp only [DataW.weights, Tryz.underlying77] at hz
    have z6 : ∀ z ∈ y6.1.weights Tryz.prog 9, z ≤ reachBytes := fun z h => hz z (DataW.weights_mem_each (j := 0) rfl rfl z h)
    have z7 : ∀ z ∈ y7.1.weights Tryz.prog 9, z ≤ reachBytes := fun z h => hz z (DataW.weights_mem_each (j := 1) rfl rfl z h)
    obtain ⟨b6, e6, e6', _⟩ := DataW.trod_string Tryz.underlying9 t6
    obtain ⟨b7, e7, e7', _⟩ := DataW.trod_string Tryz.underlying9 t7
    simp only [List.cons.injEq, and_true] at e6 e7
    subst e6 e7
    rw [e6'] at z6
    rw [e7'] at z7
    have w6 := z6 b6.data.toList.length (by simp [DataW.weights])
    have w7 := z7 b7.data.toList.length (by simp [DataW.weights])
    rw [← Lib.size_eq] at w6 w7
    exact ⟨(b6, b7), rfl, by simpa [reachBytes] using w6, by simpa [reachBytes] using w7⟩
set_option maxRecDepth 100000 in
theorem ents_open {fuel len cap : Nat} {a : Option Addr} {x0 : DataW H × List MemPlace}
    (h : DataW.trod enc Tryz.prog w 0 (fun _ => true) true fuel 24 [.slice a len cap] = some x0) (hz : ∀ z ∈ x0.1.weights Tryz.prog 24, z ≤ reachBytes) :
    ∃ ls : List En, len = ls.length ∧ len * 32 ≤ 140737488355328 ∧ Ens w a cap ls ∧ ∀ r ∈ ls, r.1.size ≤ 140737488351232 ∧ r.2.size ≤ 140737488351232 := by
  obtain ⟨d, p⟩ := x0
  rcases open_slice Tryz.underlying24 h with ⟨hcs, hx⟩ | ⟨x, l, c, m, n, D, Pl, hcs, _, hl, hm, hmm, hx, heach⟩
  · simp at hcs
    obtain ⟨rfl, rfl, rfl⟩ := hcs
    exact ⟨[], rfl, by omega, ⟨Nat.le_refl _, by omega, .inl rfl⟩, (fun r hr => by cases hr)⟩
  · simp at hcs
    obtain ⟨rfl, rfl, rfl⟩ := hcs
    simp only [if_true] at hmm
    subst hmm
    rw [cellsEn] at heach
    have hd : d = .slice ((List.range len).map D) ((List.range (m - len)).map fun j => D (len + j)) := by simpa using congrArg Prod.fst hx
    rw [hd] at hz
    simp only [DataW.weights, Tryz.underlying24] at hz
    have hlen8 : len * 32 ≤ 140737488355328 := by
      have := hz _ (List.mem_cons_self ..)
      rw [bytesEn] at this
      simp [reachBytes] at this
      omega
    have hzi : ∀ i, i < len → ∀ z ∈ (D i).weights Tryz.prog 77, z ≤ reachBytes := fun i hi z h =>
      hz z (by simp only [List.mem_cons, List.mem_append]; exact .inr (.inl (weights_all (List.mem_map.2 ⟨i, List.mem_range.2 hi, rfl⟩) z h)))
    have each : ∀ i, i < len → ∃ r : En, (∀ j v, (enC r)[j]? = some v → w.cell? (x.add (i * 2 + j)) = some v) ∧ r.1.size ≤ 140737488351232 ∧ r.2.size ≤ 140737488351232 := by
      intro i hi
      obtain ⟨cs', hc, ht'⟩ := heach i (by omega)
      obtain ⟨_, hlen, hcell⟩ := World.cells?_some hc
      obtain ⟨r, hr, hN⟩ := ent_in hlen ht' (hzi i hi)
      refine ⟨r, fun j v hv => ?_, hN⟩
      have hj : j < 2 := by have := (List.getElem?_eq_some_iff.1 hv).1; rwa [enC_length] at this
      have z := hcell j (by omega)
      rw [add_add] at z
      rw [z, hr]
      exact hv
    have inh : Inhabited En := ⟨(⟨#[]⟩, ⟨#[]⟩)⟩
    obtain ⟨f, hf⟩ := choose_lt (α := En) each
    have hget : ∀ i s, ((List.range len).map f)[i]? = some s → i < len ∧ s = f i := by
      intro i s hs
      have hi : i < len := by have := (List.getElem?_eq_some_iff.1 hs).1; simpa using this
      refine ⟨hi, ?_⟩
      simp [hi] at hs
      exact hs.symm
    refine ⟨(List.range len).map f, by simp, hlen8, ⟨by simpa using hl, by unfold maxLen at hm; omega, ?_⟩, ?_⟩
    · by_cases h0 : len = 0
      · exact .inl (by simp [h0])
      · obtain ⟨b, off, spot⟩ := x
        have hc := (hf 0 (by omega)).1 0 _ rfl
        have hspot : spot = none := by simpa [Addr.add] using World.cell?_spot hc
        subst hspot
        refine .inr ⟨b, off, rfl, World.block_lt_of_cell? w ⟨b, off + (0 * 2 + 0), none⟩ (by rw [Addr.add_lit] at hc; exact hc), fun i s hs => ?_⟩
        obtain ⟨hi, rfl⟩ := hget i s hs
        intro j v hv
        have := (hf i (by omega)).1 j v hv
        rw [Addr.add_lit, ← Nat.add_assoc] at this
        exact this
    · intro s hs
      obtain ⟨i, hi, rfl⟩ := List.mem_map.1 hs
      exact (hf i (List.mem_range.1 hi)).2
set_option maxRecDepth 100000 in
theorem ents_slice {fuel : Nat} {c : Value} {x : DataW H × List MemPlace}
    (h : DataW.trod enc Tryz.prog w 0 (fun _ => true) true fuel 24 [c] = some x) : ∃ a len cap, c = .slice a len cap := by
  rcases open_slice Tryz.underlying24 h with ⟨hcs, hx⟩ | ⟨x, l, c, m, n, D, Pl, hcs, _⟩
  · simp at hcs
    exact ⟨_, _, _, hcs⟩
  · simp at hcs
    exact ⟨_, _, _, hcs⟩
set_option maxRecDepth 100000 in
theorem recs_slice {fuel : Nat} {c : Value} {x : DataW H × List MemPlace}
    (h : DataW.trod enc Tryz.prog w 0 (fun _ => true) true fuel 22 [c] = some x) : ∃ a len cap, c = .slice a len cap := by
  rcases open_slice Tryz.underlying22 h with ⟨hcs, hx⟩ | ⟨x, l, c, m, n, D, Pl, hcs, _⟩
  · simp at hcs
    exact ⟨_, _, _, hcs⟩
  · simp at hcs
    exact ⟨_, _, _, hcs⟩
set_option maxRecDepth 100000 in
theorem op_in {fuel : Nat} {c5 c6 c7 : Value} {x : DataW H × List MemPlace} (h : DataW.trod enc Tryz.prog w 0 (fun _ => true) true fuel 35 [c5, c6, c7] = some x) (hz : ∀ z ∈ x.1.weights Tryz.prog 35, z ≤ reachBytes) : ∃ o : Opn, c5 = .int .i64 o.kind ∧ c6 = .string o.key ∧ c7 = .string o.val ∧ o.key.size ≤ 140737488351232 ∧ o.val.size ≤ 140737488351232 := by
  obtain ⟨xs, n', _, hx, _, hxl, hfl⟩ := DataW.trod_struct Tryz.underlying35 h
  have t5 := hfl 0 _ rfl
  have t6 := hfl 1 _ rfl
  have t7 := hfl 2 _ rfl
  match xs, hxl with
  | [y5, y6, y7], _ =>
    simp [rcellsS, rcellsI] at t5 t6 t7
    have hd : x.1 = .agg [y5.1, y6.1, y7.1] := by simpa using congrArg Prod.fst hx
    rw [hd] at hz
    simp only [DataW.weights, Tryz.underlying35] at hz
    have z6 : ∀ z ∈ y6.1.weights Tryz.prog 9, z ≤ reachBytes := fun z h => hz z (DataW.weights_mem_each (j := 1) rfl rfl z h)
    have z7 : ∀ z ∈ y7.1.weights Tryz.prog 9, z ≤ reachBytes := fun z h => hz z (DataW.weights_mem_each (j := 2) rfl rfl z h)
    obtain ⟨b5, e5, _, _⟩ := DataW.trod_int Tryz.underlying3 t5
    obtain ⟨b6, e6, e6', _⟩ := DataW.trod_string Tryz.underlying9 t6
    obtain ⟨b7, e7, e7', _⟩ := DataW.trod_string Tryz.underlying9 t7
    simp only [List.cons.injEq, and_true] at e5 e6 e7
    subst e5 e6 e7
    rw [e6'] at z6
    rw [e7'] at z7
    have w6 := z6 b6.data.toList.length (by simp [DataW.weights])
    have w7 := z7 b7.data.toList.length (by simp [DataW.weights])
    rw [← Lib.size_eq] at w6 w7
    exact ⟨⟨b5, b6, b7⟩, rfl, rfl, rfl, by simpa [reachBytes] using w6, by simpa [reachBytes] using w7⟩
set_option maxRecDepth 100000 in
theorem op_open {r : Reach} {b0 : Nat} {v : Value} {d : DataW H} {pl : List MemPlace} (hv : Value.okWide Tryz.prog w r b0 35 v) (h : DataW.Trod enc Tryz.prog w 0 (fun _ => true) true 35 v d pl) (hz : ∀ z ∈ d.weights Tryz.prog 35, z ≤ reachBytes) :
    ∃ (o : Opn), v = .agg #[.int .i64 o.kind, .string o.key, .string o.val] ∧ o.key.size ≤ 140737488351232 ∧ o.val.size ≤ 140737488351232 := by
  obtain ⟨cs, rfl, hsz⟩ := okWide_struct Tryz.underlying35 hv
  obtain ⟨c0, c1, c2, rfl⟩ := array3 (hsz.trans cellsOp)
  obtain ⟨fuel, hf⟩ := h
  obtain ⟨o, rfl, rfl, rfl, h1, h2⟩ := op_in (x := (d, pl)) hf hz
  exact ⟨o, rfl, h1, h2⟩
set_option maxRecDepth 100000 in
theorem asked_open {r : Reach} {b0 : Nat} {v : Value} {d : DataW H} {pl : List MemPlace} (hv : Value.okWide Tryz.prog w r b0 49 v) (h : DataW.Trod enc Tryz.prog w 0 (fun _ => true) true 49 v d pl) (hz : ∀ z ∈ d.weights Tryz.prog 49, z ≤ reachBytes) :
    ∃ (o : Opn) (x : Rs) (a : Option Addr) (c : Nat) (f : Int), v = .agg #[.int .i64 o.kind, .string o.key, .string o.val, .bool x.found, .string x.val, .slice a x.ents.length c, .int .i64 f] ∧ o.key.size ≤ 140737488351232 ∧ o.val.size ≤ 140737488351232 ∧ Ens w a c x.ents ∧ ∀ e ∈ x.ents, e.1.size ≤ 140737488351232 ∧ e.2.size ≤ 140737488351232 := by
  obtain ⟨cs, rfl, hsz⟩ := okWide_struct Tryz.underlying49 hv
  obtain ⟨c0, c1, c2, c3, c4, c5, c6, rfl⟩ := array7 (hsz.trans cellsAs)
  obtain ⟨fuel, hf⟩ := h
  obtain ⟨xs, m, _, hx, hl, hlen, hfs⟩ := DataW.trod_struct Tryz.underlying49 hf
  match xs, hlen with
  | [y0, y1, y2], _ =>
    have t0 := hfs 0 _ rfl
    have t1 := hfs 1 _ rfl
    have t2 := hfs 2 _ rfl
    simp [Value.cells, rcellsI, cellsOp, cellsRs] at t0 t1 t2
    have hd : d = .agg [y0.1, y1.1, y2.1] := by simpa using congrArg Prod.fst hx
    rw [hd] at hz
    simp only [DataW.weights, Tryz.underlying49] at hz
    have z0 : ∀ z ∈ y0.1.weights Tryz.prog 35, z ≤ reachBytes := fun z h => hz z (DataW.weights_mem_each (j := 0) rfl rfl z h)
    have z1 : ∀ z ∈ y1.1.weights Tryz.prog 37, z ≤ reachBytes := fun z h => hz z (DataW.weights_mem_each (j := 1) rfl rfl z h)
    obtain ⟨o, rfl, rfl, rfl, k1, k2⟩ := op_in t0 z0
    obtain ⟨f, ef, _, _⟩ := DataW.trod_int Tryz.underlying3 t2
    simp only [List.cons.injEq, and_true] at ef
    subst ef
    obtain ⟨ys, m2, _, hx2, hl2, hlen2, hfs2⟩ := DataW.trod_struct Tryz.underlying37 t1
    match ys, hlen2 with
    | [u0, u1, u2], _ =>
      have s0 := hfs2 0 _ rfl
      have s1 := hfs2 1 _ rfl
      have s2 := hfs2 2 _ rfl
      simp [cellsBo, rcellsS, cellsEs] at s0 s1 s2
      have hd2 : y1.1 = .agg [u0.1, u1.1, u2.1] := by simpa using congrArg Prod.fst hx2
      rw [hd2] at z1
      simp only [DataW.weights, Tryz.underlying37] at z1
      have z2 : ∀ z ∈ u2.1.weights Tryz.prog 24, z ≤ reachBytes := fun z h => z1 z (DataW.weights_mem_each (j := 2) rfl rfl z h)
      obtain ⟨bb, eb, _⟩ := DataW.trod_bool Tryz.underlying4 s0
      obtain ⟨sv, es, _, _⟩ := DataW.trod_string Tryz.underlying9 s1
      simp only [List.cons.injEq, and_true] at eb es
      subst eb es
      obtain ⟨a, len, cap, rfl⟩ := ents_slice s2
      obtain ⟨L, rfl, hb, hE, hS⟩ := ents_open s2 z2
      exact ⟨o, ⟨bb, sv, L⟩, a, cap, f, rfl, k1, k2, hE, hS⟩
set_option maxRecDepth 100000 in
theorem okWide_three {r : Reach} {b0 : Nat} {v : Value} (h : Value.okWide Tryz.prog w r b0 55 v) : ∃ cs : Array Value, v = .agg cs ∧ cs.size = 3 := by
  simp only [Value.okWide, Tryz.underlying55] at h
  obtain ⟨cs, h1, h2, _⟩ := h
  exact ⟨cs, h1, by rw [h2, cells3]⟩
set_option maxRecDepth 100000 in
theorem three_open {r : Reach} {b0 : Nat} {v : Value} {d : DataW H} {pl : List MemPlace} (hv : Value.okWide Tryz.prog w r b0 55 v) (h : DataW.Trod enc Tryz.prog w 0 (fun _ => true) true 55 v d pl) (hz : ∀ z ∈ d.weights Tryz.prog 55, z ≤ reachBytes) :
    ∃ (a0 a1 a2 : Option Addr) (c0 c1 c2 : Nat) (l0 l1 l2 : List Rec), v = .agg #[.slice a0 l0.length c0, .slice a1 l1.length c1, .slice a2 l2.length c2] ∧ Recs w a0 c0 l0 ∧ Recs w a1 c1 l1 ∧ Recs w a2 c2 l2 ∧ l0.length ≤ 140737488355328 ∧ l1.length ≤ 140737488355328 ∧ l2.length ≤ 140737488355328 := by
  obtain ⟨cs, rfl, hsz⟩ := okWide_three hv
  obtain ⟨c0, c1, c2, rfl⟩ := array3 hsz
  obtain ⟨fuel, hf⟩ := h
  obtain ⟨y0, y1, y2, n, hx, t0, t1, t2⟩ := trod_array3 Tryz.underlying55 cellsRl hf
  have hd : d = .agg [y0.1, y1.1, y2.1] := by simpa using congrArg Prod.fst hx
  rw [hd] at hz
  simp only [DataW.weights, Tryz.underlying55] at hz
  have z0 : ∀ z ∈ y0.1.weights Tryz.prog 22, z ≤ reachBytes := fun z h => hz z (weights_all (by simp) z h)
  have z1 : ∀ z ∈ y1.1.weights Tryz.prog 22, z ≤ reachBytes := fun z h => hz z (weights_all (by simp) z h)
  have z2 : ∀ z ∈ y2.1.weights Tryz.prog 22, z ≤ reachBytes := fun z h => hz z (weights_all (by simp) z h)
  obtain ⟨a0, len0, cap0, rfl⟩ := recs_slice t0
  obtain ⟨a1, len1, cap1, rfl⟩ := recs_slice t1
  obtain ⟨a2, len2, cap2, rfl⟩ := recs_slice t2
  obtain ⟨l0, rfl, g0, r0, _⟩ := recs_open2 (d := y0.1) (p := y0.2) t0 z0
  obtain ⟨l1, rfl, g1, r1, _⟩ := recs_open2 (d := y1.1) (p := y1.2) t1 z1
  obtain ⟨l2, rfl, g2, r2, _⟩ := recs_open2 (d := y2.1) (p := y2.2) t2 z2
  exact ⟨a0, a1, a2, cap0, cap1, cap2, l0, l1, l2, rfl, r0, r1, r2, by omega, by omega, by omega⟩
end
end Go.Proofs.YtdlnflcjodpkiaaGreat
