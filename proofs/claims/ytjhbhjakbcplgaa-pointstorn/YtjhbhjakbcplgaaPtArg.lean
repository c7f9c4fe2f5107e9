
/- Checkpoints and dirty pages that came in. -/
import Derived.Test.YtjhbhjakbcplgaaPtBase
import Derived.Test.YtjhbhjakbcplgaaArgs
import Derived.Deep.Strs
namespace Go.Proofs.Ytjhbhjakbcplgaa
open Go.ChangeShapes Go.WideShapes Go.ChangeAt Go.RowKit Go.Deep

theorem pcellsI : Try.prog.cellsOf 3 = 1 := by kernel_rfl
def wfI (x : Int) : Prop := (Lit.int .i64 x).wf = true
theorem wfI.range {x : Int} (h : wfI x) : -9223372036854775808 ≤ x ∧ x ≤ 9223372036854775807 := by
  unfold wfI Lit.wf at h
  simp at h
  have e1 : IntKind.i64.min = -9223372036854775808 := rfl
  have e2 : IntKind.i64.max = 9223372036854775807 := rfl
  omega
structure Dy where
  pg : Int
  fst : Int
def pnC (s : Pn) : List Value := [.int .i64 s.num, .int .i64 s.lsn, .int .i64 s.redo]
theorem pcellsT : Try.prog.cellsOf 34 = 3 := by kernel_rfl
structure Pts (w : World) (a : Option Addr) (cap : Nat) (ls : List Pn) : Prop where
  fit : ∀ (i : Nat) (s : Pn), ls[i]? = some s → wfI s.num ∧ wfI s.lsn ∧ wfI s.redo
  le : ls.length ≤ cap
  max : cap ≤ 9223372036854775807
  at_ : ls = [] ∨ ∃ b off, a = some ⟨b, off, none⟩ ∧ b < w.heap.size ∧ ∀ (i : Nat) (s : Pn), ls[i]? = some s → w.cell? ⟨b, off + i * 3, none⟩ = some (.int .i64 s.num) ∧ w.cell? ⟨b, off + i * 3 + 1, none⟩ = some (.int .i64 s.lsn) ∧ w.cell? ⟨b, off + i * 3 + 2, none⟩ = some (.int .i64 s.redo)
theorem Pts.same {w w' : World} {a : Option Addr} {cap : Nat} {ls : List Pn} (h : Pts w a cap ls) (f : Fr (fun _ => False) w w') : Pts w' a cap ls := by
  refine ⟨h.fit, h.le, h.max, ?_⟩
  rcases h.at_ with h0 | ⟨b, off, rfl, hb, hc⟩
  · exact .inl h0
  · refine .inr ⟨b, off, rfl, Nat.lt_of_lt_of_le hb f.size, fun i r hr => ?_⟩
    obtain ⟨h0, h1, h2⟩ := hc i r hr
    exact ⟨(f.cell (p := ⟨b, _, none⟩) hb (fun f => f)).trans h0, (f.cell (p := ⟨b, _, none⟩) hb (fun f => f)).trans h1, (f.cell (p := ⟨b, _, none⟩) hb (fun f => f)).trans h2⟩
theorem Pts.some {w : World} {a : Option Addr} {cap : Nat} {ls : List Pn} (h : Pts w a cap ls) (hn : 0 < ls.length) : ∃ b off, a = some ⟨b, off, none⟩ ∧ b < w.heap.size ∧ ∀ (i : Nat) (s : Pn), ls[i]? = some s → w.cell? ⟨b, off + i * 3, none⟩ = some (.int .i64 s.num) ∧ w.cell? ⟨b, off + i * 3 + 1, none⟩ = some (.int .i64 s.lsn) ∧ w.cell? ⟨b, off + i * 3 + 2, none⟩ = some (.int .i64 s.redo) := by
  rcases h.at_ with h0 | h
  · rw [h0] at hn; simp at hn
  · exact h
section
variable {H : Type} {enc : TypeId × Value → H} {w : World}
set_option maxRecDepth 100000 in
theorem pn_in {fuel : Nat} {cs : List Value} {x : DataW H × List MemPlace} (hlen : cs.length = 3) (h : DataW.trod enc Try.prog w 0 (fun _ => true) true fuel 34 cs = some x) : ∃ s : Pn, cs = pnC s ∧ wfI s.num ∧ wfI s.lsn ∧ wfI s.redo := by
  obtain ⟨xs, n', _, _, _, hxl, hfl⟩ := DataW.trod_struct Try.underlying34 h
  have t0 := hfl 0 _ rfl
  have t1 := hfl 1 _ rfl
  have t2 := hfl 2 _ rfl
  match xs, hxl with
  | [y0, y1, y2], _ =>
  match cs, hlen with
  | [c0, c1, c2], _ =>
    simp [pcellsI] at t0 t1 t2
    obtain ⟨b0, e0, _, wf0⟩ := DataW.trod_int Try.underlying3 t0
    obtain ⟨b1, e1, _, wf1⟩ := DataW.trod_int Try.underlying3 t1
    obtain ⟨b2, e2, _, wf2⟩ := DataW.trod_int Try.underlying3 t2
    simp only [List.cons.injEq, and_true] at e0 e1 e2
    subst e0 e1 e2
    exact ⟨⟨b0, b1, b2⟩, rfl, wf0, wf1, wf2⟩
set_option maxRecDepth 100000 in
theorem pts_open {fuel len cap : Nat} {a : Option Addr} {d : DataW H} {p : List MemPlace}
    (h : DataW.trod enc Try.prog w 0 (fun _ => true) true fuel 57 [.slice a len cap] = some (d, p)) (hz : ∀ z ∈ d.weights Try.prog 57, z ≤ reachBytes) :
    ∃ ls : List Pn, len = ls.length ∧ ls.length ≤ 8796093021952 ∧ Pts w a cap ls := by
  rcases open_slice Try.underlying57 h with ⟨hcs, hx⟩ | ⟨x, l, c, m, n, D, Pl, hcs, _, hl, hm, hmm, hx, heach⟩
  · simp at hcs
    obtain ⟨rfl, rfl, rfl⟩ := hcs
    exact ⟨[], rfl, by simp, ⟨(fun i s h => by simp at h), Nat.le_refl _, by omega, .inl rfl⟩⟩
  · simp at hcs
    obtain ⟨rfl, rfl, rfl⟩ := hcs
    simp only [if_true] at hmm
    subst hmm
    rw [pcellsT] at heach
    have hd : d = .slice ((List.range len).map D) ((List.range (m - len)).map fun j => D (len + j)) := by simpa using congrArg Prod.fst hx
    rw [hd] at hz
    simp only [DataW.weights, Try.underlying57] at hz
    have hb : Try.prog.bytesOf 34 = 24 := by kernel_rfl
    have hlb : len ≤ 8796093021952 := by
      have h0 := hz _ (List.mem_cons_self ..)
      rw [hb] at h0
      simp [reachBytes] at h0
      omega
    have each : ∀ i, i < m → ∃ r : Pn, (wfI r.num ∧ wfI r.lsn ∧ wfI r.redo) ∧ ∀ j v, (pnC r)[j]? = some v → w.cell? (x.add (i * 3 + j)) = some v := by
      intro i hi
      obtain ⟨cs', hc, ht'⟩ := heach i hi
      obtain ⟨_, hlen, hcell⟩ := World.cells?_some hc
      obtain ⟨r, hr, hfit⟩ := pn_in hlen ht'
      refine ⟨r, hfit, fun j v hv => ?_⟩
      have hj : j < 3 := by have := (List.getElem?_eq_some_iff.1 hv).1; simpa [pnC] using this
      have z := hcell j (by omega)
      rw [add_add] at z
      rw [z, hr]
      exact hv
    have inh : Inhabited Pn := ⟨⟨0, 0, 0⟩⟩
    obtain ⟨f, hf⟩ := choose_lt (α := Pn) each
    have hget : ∀ i s, ((List.range len).map f)[i]? = some s → i < len ∧ s = f i := by
      intro i s hs
      have hi : i < len := by have := (List.getElem?_eq_some_iff.1 hs).1; simpa using this
      refine ⟨hi, ?_⟩
      simp [hi] at hs
      exact hs.symm
    refine ⟨(List.range len).map f, by simp, by simpa using hlb, ⟨(fun i s hs => by obtain ⟨hi, rfl⟩ := hget i s hs; exact (hf i (by omega)).1), by simpa using hl, by unfold maxLen at hm; omega, ?_⟩⟩
    by_cases h0 : len = 0
    · exact .inl (by simp [h0])
    · obtain ⟨b, off, spot⟩ := x
      have hc := (hf 0 (by omega)).2 0 _ rfl
      have hspot : spot = none := by simpa [Addr.add] using World.cell?_spot hc
      subst hspot
      refine .inr ⟨b, off, rfl, World.block_lt_of_cell? w ⟨b, off + (0 * 3 + 0), none⟩ (by rw [Addr.add_lit] at hc; exact hc), fun i s hs => ?_⟩
      obtain ⟨hi, rfl⟩ := hget i s hs
      have k0 := (hf i (by omega)).2 0 _ rfl
      have k1 := (hf i (by omega)).2 1 _ rfl
      have k2 := (hf i (by omega)).2 2 _ rfl
      rw [Addr.add_lit, ← Nat.add_assoc] at k0 k1 k2
      exact ⟨k0, k1, k2⟩
end
def dyC (s : Dy) : List Value := [.int .i64 s.pg, .int .i64 s.fst]
theorem dcellsT : Try.prog.cellsOf 25 = 2 := by kernel_rfl
structure Dys (w : World) (a : Option Addr) (cap : Nat) (ls : List Dy) : Prop where
  fit : ∀ (i : Nat) (s : Dy), ls[i]? = some s → wfI s.pg ∧ wfI s.fst
  le : ls.length ≤ cap
  max : cap ≤ 9223372036854775807
  at_ : ls = [] ∨ ∃ b off, a = some ⟨b, off, none⟩ ∧ b < w.heap.size ∧ ∀ (i : Nat) (s : Dy), ls[i]? = some s → w.cell? ⟨b, off + i * 2, none⟩ = some (.int .i64 s.pg) ∧ w.cell? ⟨b, off + i * 2 + 1, none⟩ = some (.int .i64 s.fst)
theorem Dys.same {w w' : World} {a : Option Addr} {cap : Nat} {ls : List Dy} (h : Dys w a cap ls) (f : Fr (fun _ => False) w w') : Dys w' a cap ls := by
  refine ⟨h.fit, h.le, h.max, ?_⟩
  rcases h.at_ with h0 | ⟨b, off, rfl, hb, hc⟩
  · exact .inl h0
  · refine .inr ⟨b, off, rfl, Nat.lt_of_lt_of_le hb f.size, fun i r hr => ?_⟩
    obtain ⟨h0, h1⟩ := hc i r hr
    exact ⟨(f.cell (p := ⟨b, _, none⟩) hb (fun f => f)).trans h0, (f.cell (p := ⟨b, _, none⟩) hb (fun f => f)).trans h1⟩
theorem Dys.some {w : World} {a : Option Addr} {cap : Nat} {ls : List Dy} (h : Dys w a cap ls) (hn : 0 < ls.length) : ∃ b off, a = some ⟨b, off, none⟩ ∧ b < w.heap.size ∧ ∀ (i : Nat) (s : Dy), ls[i]? = some s → w.cell? ⟨b, off + i * 2, none⟩ = some (.int .i64 s.pg) ∧ w.cell? ⟨b, off + i * 2 + 1, none⟩ = some (.int .i64 s.fst) := by
  rcases h.at_ with h0 | h
  · rw [h0] at hn; simp at hn
  · exact h
section
variable {H : Type} {enc : TypeId × Value → H} {w : World}
set_option maxRecDepth 100000 in
theorem dy_in {fuel : Nat} {cs : List Value} {x : DataW H × List MemPlace} (hlen : cs.length = 2) (h : DataW.trod enc Try.prog w 0 (fun _ => true) true fuel 25 cs = some x) : ∃ s : Dy, cs = dyC s ∧ wfI s.pg ∧ wfI s.fst := by
  obtain ⟨xs, n', _, _, _, hxl, hfl⟩ := DataW.trod_struct Try.underlying25 h
  have t0 := hfl 0 _ rfl
  have t1 := hfl 1 _ rfl
  match xs, hxl with
  | [y0, y1], _ =>
  match cs, hlen with
  | [c0, c1], _ =>
    simp [pcellsI] at t0 t1
    obtain ⟨b0, e0, _, wf0⟩ := DataW.trod_int Try.underlying3 t0
    obtain ⟨b1, e1, _, wf1⟩ := DataW.trod_int Try.underlying3 t1
    simp only [List.cons.injEq, and_true] at e0 e1
    subst e0 e1
    exact ⟨⟨b0, b1⟩, rfl, wf0, wf1⟩
set_option maxRecDepth 100000 in
theorem dys_open {fuel len cap : Nat} {a : Option Addr} {d : DataW H} {p : List MemPlace}
    (h : DataW.trod enc Try.prog w 0 (fun _ => true) true fuel 22 [.slice a len cap] = some (d, p)) (hz : ∀ z ∈ d.weights Try.prog 22, z ≤ reachBytes) :
    ∃ ls : List Dy, len = ls.length ∧ ls.length ≤ 8796093021952 ∧ Dys w a cap ls := by
  rcases open_slice Try.underlying22 h with ⟨hcs, hx⟩ | ⟨x, l, c, m, n, D, Pl, hcs, _, hl, hm, hmm, hx, heach⟩
  · simp at hcs
    obtain ⟨rfl, rfl, rfl⟩ := hcs
    exact ⟨[], rfl, by simp, ⟨(fun i s h => by simp at h), Nat.le_refl _, by omega, .inl rfl⟩⟩
  · simp at hcs
    obtain ⟨rfl, rfl, rfl⟩ := hcs
    simp only [if_true] at hmm
    subst hmm
    rw [dcellsT] at heach
    have hd : d = .slice ((List.range len).map D) ((List.range (m - len)).map fun j => D (len + j)) := by simpa using congrArg Prod.fst hx
    rw [hd] at hz
    simp only [DataW.weights, Try.underlying22] at hz
    have hb : Try.prog.bytesOf 25 = 16 := by kernel_rfl
    have hlb : len ≤ 8796093021952 := by
      have h0 := hz _ (List.mem_cons_self ..)
      rw [hb] at h0
      simp [reachBytes] at h0
      omega
    have each : ∀ i, i < m → ∃ r : Dy, (wfI r.pg ∧ wfI r.fst) ∧ ∀ j v, (dyC r)[j]? = some v → w.cell? (x.add (i * 2 + j)) = some v := by
      intro i hi
      obtain ⟨cs', hc, ht'⟩ := heach i hi
      obtain ⟨_, hlen, hcell⟩ := World.cells?_some hc
      obtain ⟨r, hr, hfit⟩ := dy_in hlen ht'
      refine ⟨r, hfit, fun j v hv => ?_⟩
      have hj : j < 2 := by have := (List.getElem?_eq_some_iff.1 hv).1; simpa [dyC] using this
      have z := hcell j (by omega)
      rw [add_add] at z
      rw [z, hr]
      exact hv
    have inh : Inhabited Dy := ⟨⟨0, 0⟩⟩
    obtain ⟨f, hf⟩ := choose_lt (α := Dy) each
    have hget : ∀ i s, ((List.range len).map f)[i]? = some s → i < len ∧ s = f i := by
      intro i s hs
      have hi : i < len := by have := (List.getElem?_eq_some_iff.1 hs).1; simpa using this
      refine ⟨hi, ?_⟩
      simp [hi] at hs
      exact hs.symm
    refine ⟨(List.range len).map f, by simp, by simpa using hlb, ⟨(fun i s hs => by obtain ⟨hi, rfl⟩ := hget i s hs; exact (hf i (by omega)).1), by simpa using hl, by unfold maxLen at hm; omega, ?_⟩⟩
    by_cases h0 : len = 0
    · exact .inl (by simp [h0])
    · obtain ⟨b, off, spot⟩ := x
      have hc := (hf 0 (by omega)).2 0 _ rfl
      have hspot : spot = none := by simpa [Addr.add] using World.cell?_spot hc
      subst hspot
      refine .inr ⟨b, off, rfl, World.block_lt_of_cell? w ⟨b, off + (0 * 2 + 0), none⟩ (by rw [Addr.add_lit] at hc; exact hc), fun i s hs => ?_⟩
      obtain ⟨hi, rfl⟩ := hget i s hs
      have k0 := (hf i (by omega)).2 0 _ rfl
      have k1 := (hf i (by omega)).2 1 _ rfl
      rw [Addr.add_lit, ← Nat.add_assoc] at k0 k1
      exact ⟨k0, k1⟩
end

theorem array3 {α : Type} {cs : Array α} (h : cs.size = 3) : ∃ c0 c1 c2, cs = #[c0, c1, c2] := by
  obtain ⟨l⟩ := cs
  match l, h with
  | [c0, c1, c2], _ => exact ⟨c0, c1, c2, rfl⟩
section
variable {H : Type} {enc : TypeId × Value → H} {w : World}
set_option maxRecDepth 100000 in
theorem pn_open {r : Reach} {b0 : Nat} {v : Value} {d : DataW H} {pl : List MemPlace} (hv : Value.okWide Try.prog w r b0 34 v) (h : DataW.Trod enc Try.prog w 0 (fun _ => true) true 34 v d pl) :
    ∃ (r : Pn), v = .agg #[.int .i64 r.num, .int .i64 r.lsn, .int .i64 r.redo] ∧ wfI r.num ∧ wfI r.lsn ∧ wfI r.redo := by
  obtain ⟨cs, rfl, hsz⟩ := okWide_struct Try.underlying34 hv
  obtain ⟨c0, c1, c2, rfl⟩ := array3 (hsz.trans pcellsT)
  obtain ⟨fuel, hf⟩ := h
  obtain ⟨r, hr, h1, h2, h3⟩ := pn_in (by simp [Value.cells]) hf
  simp [Value.cells, pnC] at hr
  obtain ⟨rfl, rfl, rfl⟩ := hr
  exact ⟨r, rfl, h1, h2, h3⟩
end
end Go.Proofs.Ytjhbhjakbcplgaa
