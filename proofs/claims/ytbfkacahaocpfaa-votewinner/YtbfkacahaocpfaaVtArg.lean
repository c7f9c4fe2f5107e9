
/- Rows of structs of numbers that came in. -/
import Derived.Test.YtbfkacahaocpfaaQuArg
import Derived.Deep.Strs
namespace Go.Proofs.Ytbfkacahaocpfaa
open Go.ChangeShapes Go.WideShapes Go.ChangeAt Go.RowKit Go.Deep

/-- A slice of structs of K numbers as a walk sees it. -/
structure Rws (w : World) (a : Option Addr) (cap K : Nat) (rs : List (List Int)) : Prop where
  fit : ∀ r ∈ rs, r.length = K ∧ ∀ n ∈ r, wfI n
  le : rs.length ≤ cap
  max : cap ≤ 9223372036854775807
  at_ : rs = [] ∨ ∃ b off, a = some ⟨b, off, none⟩ ∧ b < w.heap.size ∧ ∀ (i : Nat) r, rs[i]? = some r → ∀ (j : Nat) x, r[j]? = some x → w.cell? ⟨b, off + i * K + j, none⟩ = some (.int .i64 x)
theorem Rws.same {w w' : World} {a : Option Addr} {cap K : Nat} {rs : List (List Int)} (h : Rws w a cap K rs) (f : Fr (fun _ => False) w w') : Rws w' a cap K rs := by
  refine ⟨h.fit, h.le, h.max, ?_⟩
  rcases h.at_ with h0 | ⟨b, off, rfl, hb, hc⟩
  · exact .inl h0
  · exact .inr ⟨b, off, rfl, Nat.lt_of_lt_of_le hb f.size, fun i r hr j x hx => (f.cell (p := ⟨b, _, none⟩) hb (fun f => f)).trans (hc i r hr j x hx)⟩
theorem Rws.some {w : World} {a : Option Addr} {cap K : Nat} {rs : List (List Int)} (h : Rws w a cap K rs) (hn : 0 < rs.length) : ∃ b off, a = some ⟨b, off, none⟩ ∧ b < w.heap.size ∧ ∀ (i : Nat) r, rs[i]? = some r → ∀ (j : Nat) x, r[j]? = some x → w.cell? ⟨b, off + i * K + j, none⟩ = some (.int .i64 x) := by
  rcases h.at_ with h0 | h
  · rw [h0] at hn; simp at hn
  · exact h
section
variable {H : Type} {enc : TypeId × Value → H} {w : World}
/-- All cells of a struct are numbers. -/
def AllInts (H : Type) (enc : TypeId × Value → H) (w : World) (e : TypeId) (K : Nat) : Prop := ∀ (fuel : Nat) (cs : List Value) (x : DataW H × List MemPlace), cs.length = K → DataW.trod enc Try.prog w 0 (fun _ => true) true fuel e cs = some x → ∃ ns : List Int, ns.length = K ∧ cs = ns.map zI ∧ ∀ n ∈ ns, wfI n
set_option maxRecDepth 100000 in
theorem rws_open {st e : TypeId} {K : Nat} (hst : Try.prog.underlying st = some (.slice e)) (hce : Try.prog.cellsOf e = K) (hK : 0 < K) (hbe : Try.prog.bytesOf e = 8 * K) (hin : AllInts H enc w e K) {fuel len cap : Nat} {a : Option Addr} {d : DataW H} {p : List MemPlace}
    (h : DataW.trod enc Try.prog w 0 (fun _ => true) true fuel st [.slice a len cap] = some (d, p)) (hz : ∀ z ∈ d.weights Try.prog st, z ≤ reachBytes) :
    ∃ rs : List (List Int), len = rs.length ∧ rs.length * (8 * K) ≤ 140737488351232 ∧ Rws w a cap K rs := by
  rcases open_slice hst h with ⟨hcs, hx⟩ | ⟨x, l, c, m, n, D, Pl, hcs, _, hl, hm, hmm, hx, heach⟩
  · simp at hcs
    obtain ⟨rfl, rfl, rfl⟩ := hcs
    exact ⟨[], rfl, by simp, ⟨(fun r h => by cases h), Nat.le_refl _, by omega, .inl rfl⟩⟩
  · simp at hcs
    obtain ⟨rfl, rfl, rfl⟩ := hcs
    simp only [if_true] at hmm
    subst hmm
    rw [hce] at heach
    have hd : d = .slice ((List.range len).map D) ((List.range (m - len)).map fun j => D (len + j)) := by simpa using congrArg Prod.fst hx
    rw [hd] at hz
    simp only [DataW.weights, hst] at hz
    have hlb : len * (8 * K) ≤ 140737488351232 := by
      have h0 := hz _ (List.mem_cons_self ..)
      rw [hbe] at h0
      simp [reachBytes] at h0
      refine Nat.le_trans (Nat.mul_le_mul_right _ ?_) h0
      omega
    have each : ∀ i, i < m → ∃ r : List Int, (r.length = K ∧ ∀ n ∈ r, wfI n) ∧ ∀ j v, r[j]? = some v → w.cell? (x.add (i * K + j)) = some (.int .i64 v) := by
      intro i hi
      obtain ⟨cs', hc, ht'⟩ := heach i hi
      obtain ⟨_, hlen, hcell⟩ := World.cells?_some hc
      obtain ⟨r, hr1, hr2, hr3⟩ := hin _ _ _ hlen ht'
      refine ⟨r, ⟨hr1, hr3⟩, fun j v hv => ?_⟩
      have hj : j < K := by have := (List.getElem?_eq_some_iff.1 hv).1; omega
      have z := hcell j (by omega)
      rw [add_add] at z
      rw [z, hr2, List.getElem?_map, hv]; rfl
    have inh : Inhabited (List Int) := ⟨[]⟩
    obtain ⟨f, hf⟩ := choose_lt (α := List Int) each
    have hget : ∀ i s, ((List.range len).map f)[i]? = some s → i < len ∧ s = f i := by
      intro i s hs
      have hi : i < len := by have := (List.getElem?_eq_some_iff.1 hs).1; simpa using this
      refine ⟨hi, ?_⟩
      simp [hi] at hs
      exact hs.symm
    refine ⟨(List.range len).map f, by simp, by simpa using hlb, ⟨(fun r hr => by
      obtain ⟨i, hi⟩ := List.getElem?_of_mem hr
      obtain ⟨hi, rfl⟩ := hget i r hi
      exact (hf i (by omega)).1), by simpa using hl, by unfold maxLen at hm; omega, ?_⟩⟩
    by_cases h0 : len = 0
    · exact .inl (by simp [h0])
    · obtain ⟨b, off, spot⟩ := x
      obtain ⟨y, hy⟩ : ∃ y, (f 0)[0]? = some y := ⟨_, List.getElem?_eq_getElem (by rw [(hf 0 (by omega)).1.1]; exact hK)⟩
      have hc := (hf 0 (by omega)).2 0 _ hy
      have hspot : spot = none := by simpa [Addr.add] using World.cell?_spot hc
      subst hspot
      refine .inr ⟨b, off, rfl, World.block_lt_of_cell? w ⟨b, off + (0 * K + 0), none⟩ (by rw [Addr.add_lit] at hc; exact hc), fun i s hs j v hv => ?_⟩
      obtain ⟨hi, rfl⟩ := hget i s hs
      have k0 := (hf i (by omega)).2 j _ hv
      rw [Addr.add_lit, ← Nat.add_assoc] at k0
      exact k0
theorem cellsMk : Try.prog.cellsOf 26 = 2 := by kernel_rfl
set_option maxRecDepth 100000 in
theorem mark_ints : AllInts H enc w 26 2 := by
  intro fuel cs x hlen h
  obtain ⟨xs, n', _, _, _, hxl, hfl⟩ := DataW.trod_struct Try.underlying26 h
  have t0 := hfl 0 _ rfl
  have t1 := hfl 1 _ rfl
  match xs, hxl with
  | [y0, y1], _ =>
  match cs, hlen with
  | [c0, c1], _ =>
    simp [pcellsI] at t0 t1
    obtain ⟨b0, e0, _, wf0⟩ := DataW.trod_int Try.underlying3 t0
    obtain ⟨b1, e1, _, wf1⟩ := DataW.trod_int Try.underlying3 t1
    simp only [List.cons.injEq, and_true] at e0 e1
    subst e0 e1
    exact ⟨[b0, b1], rfl, rfl, by intro n hn; simp at hn; rcases hn with rfl | rfl <;> assumption⟩
theorem cellsSt : Try.prog.cellsOf 50 = 7 := by kernel_rfl
theorem bytesSt : Try.prog.bytesOf 50 = 8 * 7 := by kernel_rfl
set_option maxRecDepth 100000 in
theorem step_ints : AllInts H enc w 50 7 := by
  intro fuel cs x hlen h
  obtain ⟨xs, n', _, _, _, hxl, hfl⟩ := DataW.trod_struct Try.underlying50 h
  have t0 := hfl 0 _ rfl
  have t1 := hfl 1 _ rfl
  have t2 := hfl 2 _ rfl
  have t3 := hfl 3 _ rfl
  have t4 := hfl 4 _ rfl
  match xs, hxl with
  | [y0, y1, y2, y3, y4], _ =>
  match cs, hlen with
  | [c0, c1, c2, c3, c4, c5, c6], _ =>
    simp [pcellsI, cellsMk] at t0 t1 t2 t3 t4
    obtain ⟨b0, e0, _, wf0⟩ := DataW.trod_int Try.underlying3 t0
    obtain ⟨b1, e1, _, wf1⟩ := DataW.trod_int Try.underlying3 t1
    obtain ⟨b2, e2, _, wf2⟩ := DataW.trod_int Try.underlying3 t2
    obtain ⟨m3, k3, e3, wf3⟩ := mark_ints _ _ _ rfl t3
    obtain ⟨m4, k4, e4, wf4⟩ := mark_ints _ _ _ rfl t4
    simp only [List.cons.injEq, and_true] at e0 e1 e2
    subst e0 e1 e2
    refine ⟨[b0, b1, b2] ++ m3 ++ m4, by simp [k3, k4], ?_, ?_⟩
    · rw [List.map_append, List.map_append, ← e3, ← e4]; rfl
    · intro n hn
      simp only [List.mem_append, List.mem_cons, List.not_mem_nil, or_false] at hn
      rcases hn with ((rfl | rfl | rfl) | hn) | hn
      · exact wf0
      · exact wf1
      · exact wf2
      · exact wf3 n hn
      · exact wf4 n hn
theorem cellsEv : Try.prog.cellsOf 70 = 3 := by kernel_rfl
theorem bytesEv : Try.prog.bytesOf 70 = 8 * 3 := by kernel_rfl
theorem bytesMk : Try.prog.bytesOf 26 = 8 * 2 := by kernel_rfl
set_option maxRecDepth 100000 in
theorem event_ints : AllInts H enc w 70 3 := by
  intro fuel cs x hlen h
  obtain ⟨xs, n', _, _, _, hxl, hfl⟩ := DataW.trod_struct Try.underlying70 h
  have t0 := hfl 0 _ rfl
  have t1 := hfl 1 _ rfl
  have t2 := hfl 2 _ rfl
  match xs, hxl with
  | [y0, y1, y2], _ =>
  match cs, hlen with
  | [c0, c1, c2], _ =>
    simp [pcellsI] at t0 t1 t2
    obtain ⟨b0, e0, _, wf0⟩ := DataW.trod_int Try.underlying3 t0
    obtain ⟨b1, e1, _, wf1⟩ := DataW.trod_int Try.underlying3 t1
    obtain ⟨b2, e2, _, wf2⟩ := DataW.trod_int Try.underlying3 t2
    simp only [List.cons.injEq, and_true] at e0 e1 e2
    subst e0 e1 e2
    exact ⟨[b0, b1, b2], rfl, rfl, by intro n hn; simp at hn; rcases hn with rfl | rfl | rfl <;> assumption⟩
theorem cellsPr : Try.prog.cellsOf 23 = 2 := by kernel_rfl
theorem arr2 {A : Array Value} (h : A.size = 2) : ∃ x y, A = #[x, y] := by
  obtain ⟨l⟩ := A
  match l, h with
  | [x, y], _ => exact ⟨x, y, rfl⟩
set_option maxRecDepth 100000 in
theorem prom_open {r : Reach} {b0 : Nat} {v : Value} {d : DataW H} {pl : List MemPlace} (hv : Value.okWide Try.prog w r b0 23 v) (h : DataW.Trod enc Try.prog w 0 (fun _ => true) true 23 v d pl) :
    ∃ (e f : Int), v = .agg #[.int .i64 e, .int .i64 f] ∧ wfI e ∧ wfI f := by
  obtain ⟨cs, rfl, hsz⟩ := okWide_struct Try.underlying23 hv
  obtain ⟨c0, c1, rfl⟩ := arr2 (hsz.trans cellsPr)
  obtain ⟨fuel, hf⟩ := h
  obtain ⟨xs, n', _, _, _, hxl, hfl⟩ := DataW.trod_struct Try.underlying23 hf
  have t0 := hfl 0 _ rfl
  have t1 := hfl 1 _ rfl
  match xs, hxl with
  | [y0, y1], _ =>
    simp [Value.cells, pcellsI] at t0 t1
    obtain ⟨b0, e0, _, wf0⟩ := DataW.trod_int Try.underlying3 t0
    obtain ⟨b1, e1, _, wf1⟩ := DataW.trod_int Try.underlying3 t1
    simp only [List.cons.injEq, and_true] at e0 e1
    subst e0 e1
    exact ⟨b0, b1, rfl, wf0, wf1⟩
end
end Go.Proofs.Ytbfkacahaocpfaa
