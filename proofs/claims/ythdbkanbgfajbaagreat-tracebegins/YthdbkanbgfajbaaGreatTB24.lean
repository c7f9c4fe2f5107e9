
/- FdArg2, TcArg. -/
import Derived.Test.YthdbkanbgfajbaaGreatTB23
import Derived.Test.YthdbkanbgfajbaaGreatTB6
import Derived.Laws.IdiomArrays
import Derived.Test.YthdbkanbgfajbaaGreatTB21
/- Entries, an operation, what was asked, three rows of records that came in. -/
namespace Go.Proofs.YthdbkanbgfajbaaGreat
open Go.ChangeShapes Go.WideShapes Go.ChangeAt Go.RowKit Go.Deep

theorem bytesEn : Tryz.prog.bytesOf 107 = 32 := by kernel_rfl
theorem cellsEn : Tryz.prog.cellsOf 107 = 2 := by kernel_rfl
theorem cellsOp : Tryz.prog.cellsOf 30 = 3 := by kernel_rfl
theorem cellsRs : Tryz.prog.cellsOf 47 = 3 := by kernel_rfl
theorem cellsBo : Tryz.prog.cellsOf 4 = 1 := by kernel_rfl
theorem cellsEs : Tryz.prog.cellsOf 45 = 1 := by kernel_rfl
theorem cellsRl : Tryz.prog.cellsOf 37 = 1 := by kernel_rfl
theorem array3 {α : Type} {cs : Array α} (h : cs.size = 3) : ∃ c0 c1 c2, cs = #[c0, c1, c2] := by
  obtain ⟨l⟩ := cs
  match l, h with
  | [c0, c1, c2], _ => exact ⟨c0, c1, c2, rfl⟩
theorem array7 {α : Type} {cs : Array α} (h : cs.size = 7) : ∃ c0 c1 c2 c3 c4 c5 c6, cs = #[c0, c1, c2, c3, c4, c5, c6] := by
  obtain ⟨l⟩ := cs
  match l, h with
  | [c0, c1, c2, c3, c4, c5, c6], _ => exact ⟨c0, c1, c2, c3, c4, c5, c6, rfl⟩
section
variable {H : Type} {enc : TypeId × Value → H} {w : World}
set_option maxRecDepth 100000 in
theorem ent_in {fuel : Nat} {cs : List Value} {x : DataW H × List MemPlace} (hlen : cs.length = 2) (h : DataW.trod enc Tryz.prog w 0 (fun _ => true) true fuel 107 cs = some x) (hz : ∀ z ∈ x.1.weights Tryz.prog 107, z ≤ reachBytes) : ∃ r : En, cs = enC r ∧ r.1.size ≤ 140737488351232 ∧ r.2.size ≤ 140737488351232 := by
  obtain ⟨xs, n', _, hx, _, hxl, hfl⟩ := DataW.trod_struct Tryz.underlying107 h
  have t6 := hfl 0 _ rfl
  have t7 := hfl 1 _ rfl
  match xs, hxl with
  | [y6, y7], _ =>
  match cs, hlen with
  | [c6, c7], _ =>
    simp [rcellsS] at t6 t7
    have hd : x.1 = .agg [y6.1, y7.1] := by simpa using congrArg Prod.fst hx
    rw [hd] at hz
    simp only [DataW.weights, Tryz.underlying107] at hz
    have z6 : ∀ z ∈ y6.1.weights Tryz.prog 9, z ≤ reachBytes := fun z h => hz z (DataW.weights_mem_each (j := 0) rfl rfl z h)
    have z7 : ∀ z ∈ y7.1.weights Tryz.prog 9, z ≤ reachBytes := fun z h => hz z (DataW.weights_mem_each (j := 1) rfl rfl z h)
    obtain ⟨b6, e6, e6', _⟩ := DataW.trod_string Tryz.underlying9 t6
    obtain ⟨b7, e7, e7', _⟩ := DataW.trod_string Tryz.underlying9 t7
    simp only [List.cons.injEq, and_true] at e6 e7
    subst e6 e7
    rw [e6'] at z6
    rw [e7'] at z7
    have w6 := z6 b6.data.toList.length (by simp [DataW.weights])
    have w7 := z7 b7.data.toList.length (by simp [DataW.weights])
    rw [← Lib.size_eq] at w6 w7
    exact ⟨(b6, b7), rfl, by simpa [reachBytes] using w6, by simpa [reachBytes] using w7⟩
set_option maxRecDepth 100000 in
theorem ents_open {fuel len cap : Nat} {a : Option Addr} {x0 : DataW H × List MemPlace}
    (h : DataW.trod enc Tryz.prog w 0 (fun _ => true) true fuel 45 [.slice a len cap] = some x0) (hz : ∀ z ∈ x0.1.weights Tryz.prog 45, z ≤ reachBytes) :
    ∃ ls : List En, len = ls.length ∧ len * 32 ≤ 140737488355328 ∧ Ens w a cap ls ∧ ∀ r ∈ ls, r.1.size ≤ 140737488351232 ∧ r.2.size ≤ 140737488351232 := by
  obtain ⟨d, p⟩ := x0
  rcases open_slice Tryz.underlying45 h with ⟨hcs, hx⟩ | ⟨x, l, c, m, n, D, Pl, hcs, _, hl, hm, hmm, hx, heach⟩
  · simp at hcs
    obtain ⟨rfl, rfl, rfl⟩ := hcs
    exact ⟨[], rfl, by omega, ⟨Nat.le_refl _, by omega, .inl rfl⟩, (fun r hr => by cases hr)⟩
  · simp at hcs
    obtain ⟨rfl, rfl, rfl⟩ := hcs
    simp only [if_true] at hmm
    subst hmm
    rw [cellsEn] at heach
    have hd : d = .slice ((List.range len).map D) ((List.range (m - len)).map fun j => D (len + j)) := by simpa using congrArg Prod.fst hx
    rw [hd] at hz
    simp only [DataW.weights, Tryz.underlying45] at hz
    have hlen8 : len * 32 ≤ 140737488355328 := by
      have := hz _ (List.mem_cons_self ..)
      rw [bytesEn] at this
      simp [reachBytes] at this
      omega
    have hzi : ∀ i, i < len → ∀ z ∈ (D i).weights Tryz.prog 107, z ≤ reachBytes := fun i hi z h =>
      hz z (by simp only [List.mem_cons, List.mem_append]; exact .inr (.inl (weights_all (List.mem_map.2 ⟨i, List.mem_range.2 hi, rfl⟩) z h)))
    have each : ∀ i, i < len → ∃ r : En, (∀ j v, (enC r)[j]? = some v → w.cell? (x.add (i * 2 + j)) = some v) ∧ r.1.size ≤ 140737488351232 ∧ r.2.size ≤ 140737488351232 := by
      intro i hi
      obtain ⟨cs', hc, ht'⟩ := heach i (by omega)
      obtain ⟨_, hlen, hcell⟩ := World.cells?_some hc
      obtain ⟨r, hr, hN⟩ := ent_in hlen ht' (hzi i hi)
      refine ⟨r, fun j v hv => ?_, hN⟩
      have hj : j < 2 := by have := (List.getElem?_eq_some_iff.1 hv).1; rwa [enC_length] at this
      have z := hcell j (by omega)
      rw [add_add] at z
      rw [z, hr]
      exact hv
    have inh : Inhabited En := ⟨(⟨#[]⟩, ⟨#[]⟩)⟩
    obtain ⟨f, hf⟩ := choose_lt (α := En) each
    have hget : ∀ i s, ((List.range len).map f)[i]? = some s → i < len ∧ s = f i := by
      intro i s hs
      have hi : i < len := by have := (List.getElem?_eq_some_iff.1 hs).1; simpa using this
      refine ⟨hi, ?_⟩
      simp [hi] at hs
      exact hs.symm
    refine ⟨(List.range len).map f, by simp, hlen8, ⟨by simpa using hl, by unfold maxLen at hm; omega, ?_⟩, ?_⟩
    · by_cases h0 : len = 0
      · exact .inl (by simp [h0])
      · obtain ⟨b, off, spot⟩ := x
        have hc := (hf 0 (by omega)).1 0 _ rfl
        have hspot : spot = none := by simpa [Addr.add] using World.cell?_spot hc
        subst hspot
        refine .inr ⟨b, off, rfl, World.block_lt_of_cell? w ⟨b, off + (0 * 2 + 0), none⟩ (by rw [Addr.add_lit] at hc; exact hc), fun i s hs => ?_⟩
        obtain ⟨hi, rfl⟩ := hget i s hs
        intro j v hv
        have := (hf i (by omega)).1 j v hv
        rw [Addr.add_lit, ← Nat.add_assoc] at this
        exact this
    · intro s hs
      obtain ⟨i, hi, rfl⟩ := List.mem_map.1 hs
      exact (hf i (List.mem_range.1 hi)).2
set_option maxRecDepth 100000 in
theorem ents_slice {fuel : Nat} {c : Value} {x : DataW H × List MemPlace}
    (h : DataW.trod enc Tryz.prog w 0 (fun _ => true) true fuel 45 [c] = some x) : ∃ a len cap, c = .slice a len cap := by
  rcases open_slice Tryz.underlying45 h with ⟨hcs, hx⟩ | ⟨x, l, c, m, n, D, Pl, hcs, _⟩
  · simp at hcs
    exact ⟨_, _, _, hcs⟩
  · simp at hcs
    exact ⟨_, _, _, hcs⟩
set_option maxRecDepth 100000 in
theorem recs_slice {fuel : Nat} {c : Value} {x : DataW H × List MemPlace}
    (h : DataW.trod enc Tryz.prog w 0 (fun _ => true) true fuel 37 [c] = some x) : ∃ a len cap, c = .slice a len cap := by
  rcases open_slice Tryz.underlying37 h with ⟨hcs, hx⟩ | ⟨x, l, c, m, n, D, Pl, hcs, _⟩
  · simp at hcs
    exact ⟨_, _, _, hcs⟩
  · simp at hcs
    exact ⟨_, _, _, hcs⟩
set_option maxRecDepth 100000 in
theorem op_in {fuel : Nat} {c5 c6 c7 : Value} {x : DataW H × List MemPlace} (h : DataW.trod enc Tryz.prog w 0 (fun _ => true) true fuel 30 [c5, c6, c7] = some x) (hz : ∀ z ∈ x.1.weights Tryz.prog 30, z ≤ reachBytes) : ∃ o : Opn, c5 = .int .i64 o.kind ∧ c6 = .string o.key ∧ c7 = .string o.val ∧ o.key.size ≤ 140737488351232 ∧ o.val.size ≤ 140737488351232 := by
  obtain ⟨xs, n', _, hx, _, hxl, hfl⟩ := DataW.trod_struct Tryz.underlying30 h
  have t5 := hfl 0 _ rfl
  have t6 := hfl 1 _ rfl
  have t7 := hfl 2 _ rfl
  match xs, hxl with
  | [y5, y6, y7], _ =>
    simp [rcellsS, rcellsI] at t5 t6 t7
    have hd : x.1 = .agg [y5.1, y6.1, y7.1] := by simpa using congrArg Prod.fst hx
    rw [hd] at hz
    simp only [DataW.weights, Tryz.underlying30] at hz
    have z6 : ∀ z ∈ y6.1.weights Tryz.prog 9, z ≤ reachBytes := fun z h => hz z (DataW.weights_mem_each (j := 1) rfl rfl z h)
    have z7 : ∀ z ∈ y7.1.weights Tryz.prog 9, z ≤ reachBytes := fun z h => hz z (DataW.weights_mem_each (j := 2) rfl rfl z h)
    obtain ⟨b5, e5, _, _⟩ := DataW.trod_int Tryz.underlying3 t5
    obtain ⟨b6, e6, e6', _⟩ := DataW.trod_string Tryz.underlying9 t6
    obtain ⟨b7, e7, e7', _⟩ := DataW.trod_string Tryz.underlying9 t7
    simp only [List.cons.injEq, and_true] at e5 e6 e7
    subst e5 e6 e7
    rw [e6'] at z6
    rw [e7'] at z7
    have w6 := z6 b6.data.toList.length (by simp [DataW.weights])
    have w7 := z7 b7.data.toList.length (by simp [DataW.weights])
    rw [← Lib.size_eq] at w6 w7
    exact ⟨⟨b5, b6, b7⟩, rfl, rfl, rfl, by simpa [reachBytes] using w6, by simpa [reachBytes] using w7⟩
set_option maxRecDepth 100000 in
theorem op_open {r : Reach} {b0 : Nat} {v : Value} {d : DataW H} {pl : List MemPlace} (hv : Value.okWide Tryz.prog w r b0 30 v) (h : DataW.Trod enc Tryz.prog w 0 (fun _ => true) true 30 v d pl) (hz : ∀ z ∈ d.weights Tryz.prog 30, z ≤ reachBytes) :
    ∃ (o : Opn), v = .agg #[.int .i64 o.kind, .string o.key, .string o.val] ∧ o.key.size ≤ 140737488351232 ∧ o.val.size ≤ 140737488351232 := by
  obtain ⟨cs, rfl, hsz⟩ := okWide_struct Tryz.underlying30 hv
  obtain ⟨c0, c1, c2, rfl⟩ := array3 (hsz.trans cellsOp)
  obtain ⟨fuel, hf⟩ := h
  obtain ⟨o, rfl, rfl, rfl, h1, h2⟩ := op_in (x := (d, pl)) hf hz
  exact ⟨o, rfl, h1, h2⟩
end
end Go.Proofs.YthdbkanbgfajbaaGreat

/- Steps of a trace that came in. -/
namespace Go.Proofs.YthdbkanbgfajbaaGreat
open Go.ChangeShapes Go.WideShapes Go.ChangeAt Go.RowKit Go.Deep

theorem tcellsA : Tryz.prog.cellsOf 49 = 6 := by kernel_rfl
theorem tcellsS : Tryz.prog.cellsOf 39 = 12 := by kernel_rfl
theorem tcellsC : Tryz.prog.cellsOf 35 = 10 := by kernel_rfl
theorem tcellsCa : Tryz.prog.cellsOf 32 = 5 := by kernel_rfl
theorem tcellsO : Tryz.prog.cellsOf 30 = 3 := by kernel_rfl
theorem tcellsR : Tryz.prog.cellsOf 47 = 3 := by kernel_rfl
theorem tcellsAs : Tryz.prog.cellsOf 36 = 1 := by kernel_rfl
theorem tcellsRs : Tryz.prog.cellsOf 37 = 1 := by kernel_rfl
theorem tcellsBs : Tryz.prog.cellsOf 33 = 1 := by kernel_rfl
theorem tbytesA : Tryz.prog.bytesOf 49 = 72 := by kernel_rfl
theorem tbytesS : Tryz.prog.bytesOf 39 = 160 := by kernel_rfl
/-- A row of steps in memory, all in blocks below B. -/
structure Sns (w : World) (B : Nat) (a : Option Addr) (cap : Nat) (l : List Sn) : Prop where
  le : l.length ≤ cap
  max : cap ≤ 9223372036854775807
  at_ : l = [] ∨ ∃ b off, a = some ⟨b, off, none⟩ ∧ b < B ∧ b < w.heap.size ∧ ∀ i s, l[i]? = some s → w.rangeAt b (off + i * 12) (snC s).toList
  ins : ∀ s ∈ l, InS w B s
theorem Sns.fr {T : Nat → Prop} {w w' : World} {B : Nat} {a : Option Addr} {cap : Nat} {l : List Sn} (h : Sns w B a cap l) (f : Fr T w w') (hT : ∀ k, T k → B ≤ k) : Sns w' B a cap l := by
  refine ⟨h.le, h.max, ?_, fun s hs => (h.ins s hs).fr f hT⟩
  rcases h.at_ with h0 | ⟨b, off, e, hb, hw, hc⟩
  · exact .inl h0
  · exact .inr ⟨b, off, e, hb, Nat.lt_of_lt_of_le hw f.size, fun i s hi => range_fr (hc i s hi) f (fun ht => by have := hT b ht; omega)⟩
theorem Sns.same {w w' : World} {B : Nat} {a : Option Addr} {cap : Nat} {l : List Sn} (h : Sns w B a cap l) (f : Fr (fun _ => False) w w') : Sns w' B a cap l := h.fr f (fun _ e => e.elim)
theorem Sns.some {w : World} {B : Nat} {a : Option Addr} {cap : Nat} {l : List Sn} (h : Sns w B a cap l) (hn : 0 < l.length) : ∃ b off, a = some ⟨b, off, none⟩ ∧ b < B ∧ b < w.heap.size ∧ ∀ i s, l[i]? = some s → w.rangeAt b (off + i * 12) (snC s).toList := by
  rcases h.at_ with h0 | h
  · rw [h0] at hn; simp at hn
  · exact h
/-- What the numbers and texts of a step are like that came in. -/
structure SnWf (s : Sn) : Prop where
  creq : wfK s.creq
  node : wfK s.node
  key : s.op.key.size ≤ maxLen
  val : s.op.val.size ≤ maxLen
  ans : ∀ a ∈ s.ans, wfK a.req ∧ wfK a.node ∧ ∀ e ∈ a.res.ents, e.1.size ≤ maxLen
  reqs : ∀ r ∈ s.H, wfK r.req
theorem SnWf.ok {s : Sn} (h : SnWf s) (n1 : s.H.length ≤ 100000) (n2 : s.ans.length ≤ 100000) : SnOk s := ⟨h.creq, h.node, h.key, h.val, h.ans, h.reqs, n1, n2⟩
section
variable {H : Type} {enc : TypeId × Value → H} {w : World}
set_option maxRecDepth 100000 in
theorem rec_in3 {fuel : Nat} {cs : List Value} {x : DataW H × List MemPlace} (hlen : cs.length = 8) (h : DataW.trod enc Tryz.prog w 0 (fun _ => true) true fuel 44 cs = some x) : ∃ r : Rec, cs = recC r ∧ wfK r.req := by
  obtain ⟨xs, n', _, hx, _, hxl, hfl⟩ := DataW.trod_struct Tryz.underlying44 h
  have t0 := hfl 0 _ rfl
  have t1 := hfl 1 _ rfl
  have t2 := hfl 2 _ rfl
  have t3 := hfl 3 _ rfl
  have t4 := hfl 4 _ rfl
  have t5 := hfl 5 _ rfl
  have t6 := hfl 6 _ rfl
  have t7 := hfl 7 _ rfl
  match xs, hxl with
  | [y0, y1, y2, y3, y4, y5, y6, y7], _ =>
  match cs, hlen with
  | [c0, c1, c2, c3, c4, c5, c6, c7], _ =>
    simp [rcellsI, rcellsS] at t0 t1 t2 t3 t4 t5 t6 t7
    obtain ⟨b0, e0, _, _⟩ := DataW.trod_int Tryz.underlying3 t0
    obtain ⟨b1, e1, _, _⟩ := DataW.trod_int Tryz.underlying3 t1
    obtain ⟨b2, e2, _, _⟩ := DataW.trod_int Tryz.underlying3 t2
    obtain ⟨b3, e3, _, _⟩ := DataW.trod_int Tryz.underlying3 t3
    obtain ⟨b4, e4, _, _⟩ := DataW.trod_int Tryz.underlying3 t4
    obtain ⟨b5, e5, _, w5⟩ := DataW.trod_int Tryz.underlying3 t5
    obtain ⟨b6, e6, e6', _⟩ := DataW.trod_string Tryz.underlying9 t6
    obtain ⟨b7, e7, e7', _⟩ := DataW.trod_string Tryz.underlying9 t7
    simp only [List.cons.injEq, and_true] at e0 e1 e2 e3 e4 e5 e6 e7
    subst e0 e1 e2 e3 e4 e5 e6 e7
    exact ⟨⟨b0, b1, b2, b3, b4, b5, b6, b7⟩, rfl, w5⟩
set_option maxRecDepth 100000 in
/-- A slice of structs of n cells that came in. -/
theorem row_open {α : Type} (x0 : α) {st e : TypeId} {n : Nat} (hn : 0 < n) (cells : α → List Value) (hcl : ∀ x, (cells x).length = n) (good : α → Prop) (hst : Tryz.prog.underlying st = some (.slice e)) (hce : Tryz.prog.cellsOf e = n) {fuel len cap : Nat} {a : Option Addr} {d : DataW H} {p : List MemPlace}
    (h : DataW.trod enc Tryz.prog w 0 (fun _ => true) true fuel st [.slice a len cap] = some (d, p)) (hz : ∀ z ∈ d.weights Tryz.prog st, z ≤ reachBytes)
    (hin : ∀ (fuel : Nat) (cs : List Value) (x : DataW H × List MemPlace), cs.length = n → DataW.trod enc Tryz.prog w 0 (fun _ => true) true fuel e cs = some x → (∀ z ∈ x.1.weights Tryz.prog e, z ≤ reachBytes) → ∃ r : α, cs = cells r ∧ good r) :
    ∃ ls : List α, len = ls.length ∧ len * Tryz.prog.bytesOf e ≤ reachBytes ∧ (ls.length ≤ cap ∧ cap ≤ 9223372036854775807 ∧ (ls = [] ∨ ∃ b off, a = some ⟨b, off, none⟩ ∧ b < w.heap.size ∧ ∀ i s, ls[i]? = some s → w.rangeAt b (off + i * n) (cells s))) ∧ ∀ s ∈ ls, good s := by
  rcases open_slice hst h with ⟨hcs, hx⟩ | ⟨x, l, c, m, n', D, Pl, hcs, _, hl, hm, hmm, hx, heach⟩
  · simp at hcs
    obtain ⟨rfl, rfl, rfl⟩ := hcs
    exact ⟨[], rfl, by omega, ⟨Nat.le_refl _, by omega, .inl rfl⟩, (fun r hr => by cases hr)⟩
  · simp at hcs
    obtain ⟨rfl, rfl, rfl⟩ := hcs
    simp only [if_true] at hmm
    subst hmm
    rw [hce] at heach
    have hd : d = .slice ((List.range len).map D) ((List.range (m - len)).map fun j => D (len + j)) := by simpa using congrArg Prod.fst hx
    rw [hd] at hz
    simp only [DataW.weights, hst] at hz
    have hlb : len * Tryz.prog.bytesOf e ≤ reachBytes := by
      have h0 := hz _ (List.mem_cons_self ..)
      refine Nat.le_trans (Nat.mul_le_mul_right _ ?_) h0
      simp
    have hzi : ∀ i, i < len → ∀ z ∈ (D i).weights Tryz.prog e, z ≤ reachBytes := fun i hi z h =>
      hz z (by simp only [List.mem_cons, List.mem_append]; exact .inr (.inl (weights_all (List.mem_map.2 ⟨i, List.mem_range.2 hi, rfl⟩) z h)))
    have each : ∀ i, i < len → ∃ r : α, (∀ j v, (cells r)[j]? = some v → w.cell? (x.add (i * n + j)) = some v) ∧ good r := by
      intro i hi
      obtain ⟨cs', hc, ht'⟩ := heach i (by omega)
      obtain ⟨_, hlen, hcell⟩ := World.cells?_some hc
      obtain ⟨r, hr, hN⟩ := hin _ _ _ hlen ht' (hzi i hi)
      refine ⟨r, fun j v hv => ?_, hN⟩
      have hj : j < n := by have := (List.getElem?_eq_some_iff.1 hv).1; rwa [hcl] at this
      have z := hcell j (by omega)
      rw [add_add] at z
      rw [z, hr]
      exact hv
    have inh : Inhabited α := ⟨x0⟩
    obtain ⟨f, hf⟩ := choose_lt (α := α) each
    have hget : ∀ i s, ((List.range len).map f)[i]? = some s → i < len ∧ s = f i := by
      intro i s hs
      have hi : i < len := by have := (List.getElem?_eq_some_iff.1 hs).1; simpa using this
      refine ⟨hi, ?_⟩
      simp [hi] at hs
      exact hs.symm
    refine ⟨(List.range len).map f, by simp, hlb, ⟨by simpa using hl, by unfold maxLen at hm; omega, ?_⟩, ?_⟩
    · by_cases h0 : len = 0
      · exact .inl (by simp [h0])
      · obtain ⟨b, off, spot⟩ := x
        obtain ⟨y, hy⟩ : ∃ y, (cells (f 0))[0]? = some y := ⟨_, List.getElem?_eq_getElem (by rw [hcl]; exact hn)⟩
        have hc := (hf 0 (by omega)).1 0 _ hy
        have hspot : spot = none := by simpa [Addr.add] using World.cell?_spot hc
        subst hspot
        refine .inr ⟨b, off, rfl, World.block_lt_of_cell? w ⟨b, off + (0 * n + 0), none⟩ (by rw [Addr.add_lit] at hc; exact hc), fun i s hs => ?_⟩
        obtain ⟨hi, rfl⟩ := hget i s hs
        intro j v hv
        have := (hf i (by omega)).1 j v hv
        rw [Addr.add_lit, ← Nat.add_assoc] at this
        exact this
    · intro s hs
      obtain ⟨i, hi, rfl⟩ := List.mem_map.1 hs
      exact (hf i (List.mem_range.1 hi)).2
set_option maxRecDepth 100000 in
theorem sl_slice {st e : TypeId} (hst : Tryz.prog.underlying st = some (.slice e)) {fuel : Nat} {c : Value} {x : DataW H × List MemPlace}
    (h : DataW.trod enc Tryz.prog w 0 (fun _ => true) true fuel st [c] = some x) : ∃ a len cap, c = .slice a len cap := by
  rcases open_slice hst h with ⟨hcs, hx⟩ | ⟨x, l, c, m, n, D, Pl, hcs, _⟩
  · simp at hcs
    exact ⟨_, _, _, hcs⟩
  · simp at hcs
    exact ⟨_, _, _, hcs⟩
/-- What is known of an answer that came in. -/
def AnGood (w : World) (a : An) : Prop := wfK a.req ∧ wfK a.node ∧ (∀ e ∈ a.res.ents, e.1.size ≤ maxLen) ∧ Ens w a.ea a.ec a.res.ents
set_option maxRecDepth 100000 in
theorem an_in (fuel : Nat) (cs : List Value) (x : DataW H × List MemPlace) (hlen : cs.length = 6) (h : DataW.trod enc Tryz.prog w 0 (fun _ => true) true fuel 49 cs = some x) (hz : ∀ z ∈ x.1.weights Tryz.prog 49, z ≤ reachBytes) : ∃ a : An, cs = (anC a).toList ∧ AnGood w a := by
  obtain ⟨xs, n', _, hx, _, hxl, hfl⟩ := DataW.trod_struct Tryz.underlying49 h
  have t0 := hfl 0 _ rfl
  have t1 := hfl 1 _ rfl
  have t2 := hfl 2 _ rfl
  have t3 := hfl 3 _ rfl
  match xs, hxl with
  | [y0, y1, y2, y3], _ =>
  match cs, hlen with
  | [c0, c1, c2, c3, c4, c5], _ =>
    simp [rcellsI, tcellsR] at t0 t1 t2 t3
    have hd : x.1 = .agg [y0.1, y1.1, y2.1, y3.1] := by simpa using congrArg Prod.fst hx
    rw [hd] at hz
    simp only [DataW.weights, Tryz.underlying49] at hz
    have z1 : ∀ z ∈ y3.1.weights Tryz.prog 47, z ≤ reachBytes := fun z h => hz z (DataW.weights_mem_each (j := 3) rfl rfl z h)
    obtain ⟨b0, e0, _, w0⟩ := DataW.trod_int Tryz.underlying3 t0
    obtain ⟨b1, e1, _, w1⟩ := DataW.trod_int Tryz.underlying3 t1
    obtain ⟨b2, e2, _, w2⟩ := DataW.trod_int Tryz.underlying3 t2
    simp only [List.cons.injEq, and_true] at e0 e1 e2
    subst e0 e1 e2
    obtain ⟨ys, m2, _, hx2, hl2, hlen2, hfs2⟩ := DataW.trod_struct Tryz.underlying47 t3
    match ys, hlen2 with
    | [u0, u1, u2], _ =>
      have s0 := hfs2 0 _ rfl
      have s1 := hfs2 1 _ rfl
      have s2 := hfs2 2 _ rfl
      simp [cellsBo, rcellsS, cellsEs] at s0 s1 s2
      have hd2 : y3.1 = .agg [u0.1, u1.1, u2.1] := by simpa using congrArg Prod.fst hx2
      rw [hd2] at z1
      simp only [DataW.weights, Tryz.underlying47] at z1
      have z2 : ∀ z ∈ u2.1.weights Tryz.prog 45, z ≤ reachBytes := fun z h => z1 z (DataW.weights_mem_each (j := 2) rfl rfl z h)
      obtain ⟨bb, eb, _⟩ := DataW.trod_bool Tryz.underlying4 s0
      obtain ⟨sv, es, _, _⟩ := DataW.trod_string Tryz.underlying9 s1
      simp only [List.cons.injEq, and_true] at eb es
      subst eb es
      obtain ⟨a, len, cap, rfl⟩ := ents_slice s2
      obtain ⟨L, rfl, hb, hE, hS⟩ := ents_open s2 z2
      exact ⟨⟨b0, b1, b2, ⟨bb, sv, L⟩, a, cap⟩, rfl, w0, w1, fun e he => by have := (hS e he).1; unfold maxLen; omega, hE⟩
set_option maxRecDepth 100000 in
theorem call_in {fuel : Nat} {c0 c1 c2 c3 c4 : Value} {x : DataW H × List MemPlace} (h : DataW.trod enc Tryz.prog w 0 (fun _ => true) true fuel 32 [c0, c1, c2, c3, c4] = some x) (hz : ∀ z ∈ x.1.weights Tryz.prog 32, z ≤ reachBytes) : ∃ (q n : Int) (o : Opn), c0 = .int .i64 q ∧ c1 = .int .i64 n ∧ c2 = .int .i64 o.kind ∧ c3 = .string o.key ∧ c4 = .string o.val ∧ wfK q ∧ o.key.size ≤ 140737488351232 ∧ o.val.size ≤ 140737488351232 := by
  obtain ⟨xs, n', _, hx, _, hxl, hfl⟩ := DataW.trod_struct Tryz.underlying32 h
  have t0 := hfl 0 _ rfl
  have t1 := hfl 1 _ rfl
  have t2 := hfl 2 _ rfl
  match xs, hxl with
  | [y0, y1, y2], _ =>
    simp [rcellsI, tcellsO] at t0 t1 t2
    have hd : x.1 = .agg [y0.1, y1.1, y2.1] := by simpa using congrArg Prod.fst hx
    rw [hd] at hz
    simp only [DataW.weights, Tryz.underlying32] at hz
    have z2 : ∀ z ∈ y2.1.weights Tryz.prog 30, z ≤ reachBytes := fun z h => hz z (DataW.weights_mem_each (j := 2) rfl rfl z h)
    obtain ⟨b0, e0, _, w0⟩ := DataW.trod_int Tryz.underlying3 t0
    obtain ⟨b1, e1, _, _⟩ := DataW.trod_int Tryz.underlying3 t1
    simp only [List.cons.injEq, and_true] at e0 e1
    subst e0 e1
    obtain ⟨o, rfl, rfl, rfl, k1, k2⟩ := op_in t2 z2
    exact ⟨b0, b1, o, rfl, rfl, rfl, rfl, rfl, w0, k1, k2⟩
/-- What is known of a step that came in. -/
def SnGood (w : World) (s : Sn) : Prop := SnWf s ∧ InS w w.heap.size s ∧ s.ans.length * 72 ≤ reachBytes ∧ s.H.length * 80 ≤ reachBytes
def an0 : An := ⟨0, 0, 0, ⟨false, ⟨#[]⟩, []⟩, none, 0⟩
def sn0 : Sn := ⟨0, 0, 0, 0, 0, 0, ⟨0, ⟨#[]⟩, ⟨#[]⟩⟩, none, 0, 0, [], none, 0, [], none, 0⟩
set_option maxRecDepth 100000 in
set_option maxHeartbeats 2000000 in
theorem sn_in (fuel : Nat) (cs : List Value) (x : DataW H × List MemPlace) (hlen : cs.length = 12) (h : DataW.trod enc Tryz.prog w 0 (fun _ => true) true fuel 39 cs = some x) (hz : ∀ z ∈ x.1.weights Tryz.prog 39, z ≤ reachBytes) : ∃ s : Sn, cs = (snC s).toList ∧ SnGood w s := by
  obtain ⟨xs, n', _, hx, _, hxl, hfl⟩ := DataW.trod_struct Tryz.underlying39 h
  have t0 := hfl 0 _ rfl
  have t1 := hfl 1 _ rfl
  have t2 := hfl 2 _ rfl
  match xs, hxl with
  | [y0, y1, y2], _ =>
  match cs, hlen with
  | [c0, c1, c2, c3, c4, c5, c6, c7, c8, c9, c10, c11], _ =>
    simp [tcellsC, tcellsAs, tcellsRs] at t0 t1 t2
    have hd : x.1 = .agg [y0.1, y1.1, y2.1] := by simpa using congrArg Prod.fst hx
    rw [hd] at hz
    simp only [DataW.weights, Tryz.underlying39] at hz
    have z0 : ∀ z ∈ y0.1.weights Tryz.prog 35, z ≤ reachBytes := fun z h => hz z (DataW.weights_mem_each (j := 0) rfl rfl z h)
    have z1 : ∀ z ∈ y1.1.weights Tryz.prog 36, z ≤ reachBytes := fun z h => hz z (DataW.weights_mem_each (j := 1) rfl rfl z h)
    have z2 : ∀ z ∈ y2.1.weights Tryz.prog 37, z ≤ reachBytes := fun z h => hz z (DataW.weights_mem_each (j := 2) rfl rfl z h)
    obtain ⟨ys, m2, _, hx2, hl2, hlen2, hfs2⟩ := DataW.trod_struct Tryz.underlying35 t0
    match ys, hlen2 with
    | [u0, u1, u2, u3, u4, u5], _ =>
      have s0 := hfs2 0 _ rfl
      have s1 := hfs2 1 _ rfl
      have s2 := hfs2 2 _ rfl
      have s3 := hfs2 3 _ rfl
      have s4 := hfs2 4 _ rfl
      have s5 := hfs2 5 _ rfl
      simp [rcellsI, tcellsCa, tcellsBs] at s0 s1 s2 s3 s4 s5
      have hd2 : y0.1 = .agg [u0.1, u1.1, u2.1, u3.1, u4.1, u5.1] := by simpa using congrArg Prod.fst hx2
      rw [hd2] at z0
      simp only [DataW.weights, Tryz.underlying35] at z0
      have z4 : ∀ z ∈ u4.1.weights Tryz.prog 32, z ≤ reachBytes := fun z h => z0 z (DataW.weights_mem_each (j := 4) rfl rfl z h)
      obtain ⟨b0, e0, _, w0⟩ := DataW.trod_int Tryz.underlying3 s0
      obtain ⟨b1, e1, _, w1⟩ := DataW.trod_int Tryz.underlying3 s1
      obtain ⟨b2, e2, _, w2⟩ := DataW.trod_int Tryz.underlying3 s2
      obtain ⟨b3, e3, _, w3⟩ := DataW.trod_int Tryz.underlying3 s3
      simp only [List.cons.injEq, and_true] at e0 e1 e2 e3
      subst e0 e1 e2 e3
      obtain ⟨q, n, o, rfl, rfl, rfl, rfl, rfl, wq, k1, k2⟩ := call_in s4 z4
      obtain ⟨ab, bn, bc, rfl⟩ := sl_slice Tryz.underlying33 s5
      obtain ⟨aa, an, ac, rfl⟩ := sl_slice Tryz.underlying36 t1
      obtain ⟨ha, hn, hc, rfl⟩ := sl_slice Tryz.underlying37 t2
      obtain ⟨A, rfl, gA, ⟨A1, A2, A3⟩, A4⟩ := row_open an0 (d := y1.1) (p := y1.2) (n := 6) (by omega) (fun a : An => (anC a).toList) (fun _ => rfl) (AnGood w) Tryz.underlying36 tcellsA t1 z1 an_in
      obtain ⟨R, rfl, gR, ⟨R1, R2, R3⟩, R4⟩ := row_open rec0 (d := y2.1) (p := y2.2) (n := 8) (by omega) recC recC_length (fun r => wfK r.req) Tryz.underlying37 rcellsR t2 z2 (fun fuel cs x h1 h2 _ => rec_in3 h1 h2)
      rw [tbytesA] at gA
      rw [bytesRc] at gR
      refine ⟨⟨b0, b1, b2, b3, q, n, o, ab, bn, bc, A, aa, ac, R, ha, hc⟩, rfl, ⟨wq, w1, by unfold maxLen; dsimp only; omega, by unfold maxLen; dsimp only; omega, fun a ha => ⟨(A4 a ha).1, (A4 a ha).2.1, (A4 a ha).2.2.1⟩, R4⟩, ⟨⟨R1, R2, R3⟩, fun g o' e hne => ?_, A1, A2, ?_, fun a ha => ⟨(A4 a ha).2.2.2, fun g o' e hne => ?_⟩⟩, gA, gR⟩
      · rcases R3 with h0 | ⟨b, off, e', hb, _⟩
        · exact absurd h0 hne
        · dsimp only at e; rw [e'] at e; cases e; exact hb
      · rcases A3 with h0 | ⟨b, off, e', hb, hc⟩
        · exact .inl h0
        · exact .inr ⟨b, off, e', hb, hb, hc⟩
      · rcases (A4 a ha).2.2.2.at_ with h0 | ⟨b, off, e', hb, _⟩
        · exact absurd h0 hne
        · rw [e'] at e; cases e; exact hb
set_option maxRecDepth 100000 in
theorem sns_open {fuel len cap : Nat} {a : Option Addr} {d : DataW H} {p : List MemPlace}
    (h : DataW.trod enc Tryz.prog w 0 (fun _ => true) true fuel 22 [.slice a len cap] = some (d, p)) (hz : ∀ z ∈ d.weights Tryz.prog 22, z ≤ reachBytes) :
    ∃ ls : List Sn, len = ls.length ∧ Sns w w.heap.size a cap ls ∧ (∀ s ∈ ls, SnWf s) ∧ (∀ s ∈ ls, s.ans.length * 72 ≤ reachBytes ∧ s.H.length * 80 ≤ reachBytes) ∧ len * 160 ≤ reachBytes := by
  obtain ⟨S, rfl, gS, ⟨S1, S2, S3⟩, S4⟩ := row_open sn0 (n := 12) (by omega) (fun s : Sn => (snC s).toList) (fun _ => rfl) (SnGood w) Tryz.underlying22 tcellsS h hz sn_in
  rw [tbytesS] at gS
  refine ⟨S, rfl, ⟨S1, S2, ?_, fun s hs => (S4 s hs).2.1⟩, fun s hs => (S4 s hs).1, fun s hs => (S4 s hs).2.2, gS⟩
  rcases S3 with h0 | ⟨b, off, e', hb, hc⟩
  · exact .inl h0
  · exact .inr ⟨b, off, e', hb, hb, hc⟩
end
end Go.Proofs.YthdbkanbgfajbaaGreat
