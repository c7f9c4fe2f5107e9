
/- Steps of a log that came in: a kind, a number and a record each. -/
import Derived.Test.YtnoadmkkkeianaaGreatYB15
import Derived.Test.YtnoadmkkkeianaaGreatYW1
import Derived.Deep.Strs
namespace Go.Proofs.YtnoadmkkkeianaaGreat
open Go.ChangeShapes Go.WideShapes Go.ChangeAt Go.RowKit Go.Deep

structure Stp where
  k : Int
  n : Int
  r : Rec
def stC (s : Stp) : List Value := [.int .i64 s.k, .int .i64 s.n, .int .i64 s.r.lsn, .int .i64 s.r.ep, .int .i64 s.r.kind, .int .i64 s.r.page, .int .i64 s.r.other, .int .i64 s.r.req, .string s.r.key, .string s.r.val]
theorem stC_length (s : Stp) : (stC s).length = 10 := rfl
theorem rcellsT : Tryz.prog.cellsOf 32 = 10 := by kernel_rfl
def nfit (n : Int) : Prop := -9223372036854775808 ≤ n ∧ n ≤ 9223372036854775807
theorem nfit_of {n : Int} (h : (Lit.int .i64 n).wf = true) : nfit n := by
  unfold nfit
  simp [Lit.wf] at h
  have e1 : IntKind.i64.min = -9223372036854775808 := by decide
  have e2 : IntKind.i64.max = 9223372036854775807 := by decide
  omega
structure Stps (w : World) (a : Option Addr) (cap : Nat) (ls : List Stp) : Prop where
  fit : ∀ (i : Nat) (s : Stp), ls[i]? = some s → nfit s.n
  le : ls.length ≤ cap
  max : cap ≤ 9223372036854775807
  at_ : ls = [] ∨ ∃ b off, a = some ⟨b, off, none⟩ ∧ b < w.heap.size ∧ ∀ i r, ls[i]? = some r → w.rangeAt b (off + i * 10) (stC r)
theorem Stps.same {w w' : World} {a : Option Addr} {cap : Nat} {ls : List Stp} (h : Stps w a cap ls) (f : Fr (fun _ => False) w w') : Stps w' a cap ls := by
  refine ⟨h.fit, h.le, h.max, ?_⟩
  rcases h.at_ with h0 | ⟨b, off, rfl, hb, hc⟩
  · exact .inl h0
  · exact .inr ⟨b, off, rfl, Nat.lt_of_lt_of_le hb f.size, fun i r hr => range_fr (hc i r hr) f (fun f => f)⟩
theorem Stps.some {w : World} {a : Option Addr} {cap : Nat} {ls : List Stp} (h : Stps w a cap ls) (hn : 0 < ls.length) : ∃ b off, a = some ⟨b, off, none⟩ ∧ b < w.heap.size ∧ ∀ i r, ls[i]? = some r → w.rangeAt b (off + i * 10) (stC r) := by
  rcases h.at_ with h0 | h
  · rw [h0] at hn; simp at hn
  · exact h
theorem st_range {w : World} {b o : Nat} {s : Stp} (h : w.rangeAt b o (stC s)) : w.cell? ⟨b, o, none⟩ = some (.int .i64 s.k) ∧ w.cell? ⟨b, o + 1, none⟩ = some (.int .i64 s.n) ∧ w.cell? ⟨b, o + 2, none⟩ = some (.int .i64 s.r.lsn) ∧ w.cell? ⟨b, o + 3, none⟩ = some (.int .i64 s.r.ep) ∧ w.cell? ⟨b, o + 4, none⟩ = some (.int .i64 s.r.kind) ∧ w.cell? ⟨b, o + 5, none⟩ = some (.int .i64 s.r.page) ∧ w.cell? ⟨b, o + 6, none⟩ = some (.int .i64 s.r.other) ∧ w.cell? ⟨b, o + 7, none⟩ = some (.int .i64 s.r.req) ∧ w.cell? ⟨b, o + 8, none⟩ = some (.string s.r.key) ∧ w.cell? ⟨b, o + 9, none⟩ = some (.string s.r.val) :=
  ⟨h 0 _ rfl, h 1 _ rfl, h 2 _ rfl, h 3 _ rfl, h 4 _ rfl, h 5 _ rfl, h 6 _ rfl, h 7 _ rfl, h 8 _ rfl, h 9 _ rfl⟩
theorem st_cells {w' : World} {c0 c1 c2 c3 c4 c5 c6 c7 c8 c9 : Value} {b : Nat} {t : TypeId} (h : w'.heap[b]? = some (.cells #[c0, c1, c2, c3, c4, c5, c6, c7, c8, c9] t (0, 0))) :
    (w'.cell? ⟨b, 0, none⟩ = some c0 ∧ w'.cell? ⟨b, 1, none⟩ = some c1 ∧ w'.cell? ⟨b, 2, none⟩ = some c2 ∧ w'.cell? ⟨b, 3, none⟩ = some c3 ∧ w'.cell? ⟨b, 4, none⟩ = some c4 ∧ w'.cell? ⟨b, 5, none⟩ = some c5 ∧ w'.cell? ⟨b, 6, none⟩ = some c6 ∧ w'.cell? ⟨b, 7, none⟩ = some c7 ∧ w'.cell? ⟨b, 8, none⟩ = some c8 ∧ w'.cell? ⟨b, 9, none⟩ = some c9) ∧ ∀ j, w'.frozen? ⟨b, j, none⟩ = false := by
  refine ⟨⟨?_, ?_, ?_, ?_, ?_, ?_, ?_, ?_, ?_, ?_⟩, fun j => ?_⟩
  all_goals simp [World.cell?, World.frozen?, h]
section
variable {H : Type} {enc : TypeId × Value → H} {w : World}
set_option maxRecDepth 100000 in
theorem stp_in {fuel : Nat} {cs : List Value} {x : DataW H × List MemPlace} (hlen : cs.length = 10) (h : DataW.trod enc Tryz.prog w 0 (fun _ => true) true fuel 32 cs = some x) : ∃ s : Stp, cs = stC s ∧ nfit s.n := by
  obtain ⟨xs, n', _, _, _, hxl, hfl⟩ := DataW.trod_struct Tryz.underlying32 h
  have t0 := hfl 0 _ rfl
  have t1 := hfl 1 _ rfl
  have t2 := hfl 2 _ rfl
  match xs, hxl with
  | [y0, y1, y2], _ =>
  match cs, hlen with
  | [c0, c1, c2, c3, c4, c5, c6, c7, c8, c9], _ =>
    simp [rcellsI, rcellsR] at t0 t1 t2
    obtain ⟨b0, e0, _, _⟩ := DataW.trod_int Tryz.underlying3 t0
    obtain ⟨b1, e1, _, wf1⟩ := DataW.trod_int Tryz.underlying3 t1
    obtain ⟨r, hr⟩ := rec_in (by rfl) t2
    simp only [List.cons.injEq, and_true] at e0 e1
    simp only [recC, List.cons.injEq, and_true] at hr
    obtain ⟨rfl, rfl, rfl, rfl, rfl, rfl, rfl, rfl⟩ := hr
    subst e0 e1
    exact ⟨⟨b0, b1, r⟩, rfl, nfit_of wf1⟩
set_option maxRecDepth 100000 in
theorem stps_open {fuel len cap : Nat} {a : Option Addr} {d : DataW H} {p : List MemPlace} 
    (h : DataW.trod enc Tryz.prog w 0 (fun _ => true) true fuel 22 [.slice a len cap] = some (d, p)) :
    ∃ ls : List Stp, len = ls.length ∧ Stps w a cap ls ∧ (d = .nil ∧ ls = [] ∨ ∃ elems spare, d = .slice elems spare ∧ elems.length = ls.length) := by
  rcases open_slice Tryz.underlying22 h with ⟨hcs, hx⟩ | ⟨x, l, c, m, n, D, Pl, hcs, _, hl, hm, hmm, hx, heach⟩
  · simp at hcs
    obtain ⟨rfl, rfl, rfl⟩ := hcs
    simp only [Prod.mk.injEq] at hx
    exact ⟨[], rfl, ⟨(fun i s h => by simp at h), Nat.le_refl _, by omega, .inl rfl⟩, .inl ⟨hx.1, rfl⟩⟩
  · simp at hcs
    obtain ⟨rfl, rfl, rfl⟩ := hcs
    simp only [if_true] at hmm
    subst hmm
    rw [rcellsT] at heach
    have each : ∀ i, i < m → ∃ r : Stp, nfit r.n ∧ ∀ j v, (stC r)[j]? = some v → w.cell? (x.add (i * 10 + j)) = some v := by
      intro i hi
      obtain ⟨cs', hc, ht'⟩ := heach i hi
      obtain ⟨_, hlen, hcell⟩ := World.cells?_some hc
      obtain ⟨r, hr, hfit⟩ := stp_in hlen ht'
      refine ⟨r, hfit, fun j v hv => ?_⟩
      have hj : j < 10 := by have := (List.getElem?_eq_some_iff.1 hv).1; rwa [stC_length] at this
      have z := hcell j (by omega)
      rw [add_add] at z
      rw [z, hr]
      exact hv
    have inh : Inhabited Stp := ⟨⟨0, 0, rec0⟩⟩
    obtain ⟨f, hf⟩ := choose_lt (α := Stp) each
    have hget : ∀ i s, ((List.range len).map f)[i]? = some s → i < len ∧ s = f i := by
      intro i s hs
      have hi : i < len := by have := (List.getElem?_eq_some_iff.1 hs).1; simpa using this
      refine ⟨hi, ?_⟩
      simp [hi] at hs
      exact hs.symm
    refine ⟨(List.range len).map f, by simp, ⟨(fun i s hs => by obtain ⟨hi, rfl⟩ := hget i s hs; exact (hf i (by omega)).1), by simpa using hl, by unfold maxLen at hm; omega, ?_⟩, .inr ?_⟩
    · by_cases h0 : len = 0
      · exact .inl (by simp [h0])
      · obtain ⟨b, off, spot⟩ := x
        have hc := (hf 0 (by omega)).2 0 _ rfl
        have hspot : spot = none := by simpa [Addr.add] using World.cell?_spot hc
        subst hspot
        refine .inr ⟨b, off, rfl, World.block_lt_of_cell? w ⟨b, off + (0 * 10 + 0), none⟩ (by rw [Addr.add_lit] at hc; exact hc), fun i s hs => ?_⟩
        obtain ⟨hi, rfl⟩ := hget i s hs
        intro j v hv
        have := (hf i (by omega)).2 j v hv
        rw [Addr.add_lit, ← Nat.add_assoc] at this
        exact this
    · simp only [Prod.mk.injEq] at hx
      exact ⟨_, _, hx.1, by simp⟩
end
end Go.Proofs.YtnoadmkkkeianaaGreat
