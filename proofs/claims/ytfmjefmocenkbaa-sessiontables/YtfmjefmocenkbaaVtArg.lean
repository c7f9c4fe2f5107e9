
/- Rows of structs of numbers that came in. -/
import Derived.Test.YtfmjefmocenkbaaQuArg
import Derived.Deep.Strs
namespace Go.Proofs.Ytfmjefmocenkbaa
open Go.ChangeShapes Go.WideShapes Go.ChangeAt Go.RowKit Go.Deep

/-- A slice of structs of K numbers as a walk sees it. -/
structure Rws (w : World) (a : Option Addr) (cap K : Nat) (rs : List (List Int)) : Prop where
  fit : ∀ r ∈ rs, r.length = K ∧ ∀ n ∈ r, wfI n
  le : rs.length ≤ cap
  max : cap ≤ 9223372036854775807
  at_ : rs = [] ∨ ∃ b off, a = some ⟨b, off, none⟩ ∧ b < w.heap.size ∧ ∀ (i : Nat) r, rs[i]? = some r → ∀ (j : Nat) x, r[j]? = some x → w.cell? ⟨b, off + i * K + j, none⟩ = some (.int .i64 x)
theorem Rws.same {w w' : World} {a : Option Addr} {cap K : Nat} {rs : List (List Int)} (h : Rws w a cap K rs) (f : Fr (fun _ => False) w w') : Rws w' a cap K rs := by
  refine ⟨h.fit, h.le, h.max, ?_⟩
  rcases h.at_ with h0 | ⟨b, off, rfl, hb, hc⟩
  · exact .inl h0
  · exact .inr ⟨b, off, rfl, Nat.lt_of_lt_of_le hb f.size, fun i r hr j x hx => (f.cell (p := ⟨b, _, none⟩) hb (fun f => f)).trans (hc i r hr j x hx)⟩
theorem Rws.some {w : World} {a : Option Addr} {cap K : Nat} {rs : List (List Int)} (h : Rws w a cap K rs) (hn : 0 < rs.length) : ∃ b off, a = some ⟨b, off, none⟩ ∧ b < w.heap.size ∧ ∀ (i : Nat) r, rs[i]? = some r → ∀ (j : Nat) x, r[j]? = some x → w.cell? ⟨b, off + i * K + j, none⟩ = some (.int .i64 x) := by
  rcases h.at_ with h0 | h
  · rw [h0] at hn; simp at hn
  · exact h
section
variable {H : Type} {enc : TypeId × Value → H} {w : World}
/-- All cells of a struct are numbers. -/
def AllInts (H : Type) (enc : TypeId × Value → H) (w : World) (e : TypeId) (K : Nat) : Prop := ∀ (fuel : Nat) (cs : List Value) (x : DataW H × List MemPlace), cs.length = K → DataW.trod enc Try.prog w 0 (fun _ => true) true fuel e cs = some x → ∃ ns : List Int, ns.length = K ∧ cs = ns.map zI ∧ ∀ n ∈ ns, wfI n
set_option maxRecDepth 100000 in
theorem rws_open {st e : TypeId} {K : Nat} (hst : Try.prog.underlying st = some (.slice e)) (hce : Try.prog.cellsOf e = K) (hK : 0 < K) (hbe : Try.prog.bytesOf e = 8 * K) (hin : AllInts H enc w e K) {fuel len cap : Nat} {a : Option Addr} {d : DataW H} {p : List MemPlace}
    (h : DataW.trod enc Try.prog w 0 (fun _ => true) true fuel st [.slice a len cap] = some (d, p)) (hz : ∀ z ∈ d.weights Try.prog st, z ≤ reachBytes) :
    ∃ rs : List (List Int), len = rs.length ∧ rs.length * (8 * K) ≤ 140737488351232 ∧ Rws w a cap K rs := by
  rcases open_slice hst h with ⟨hcs, hx⟩ | ⟨x, l, c, m, n, D, Pl, hcs, _, hl, hm, hmm, hx, heach⟩
  · simp at hcs
    obtain ⟨rfl, rfl, rfl⟩ := hcs
    exact ⟨[], rfl, by simp, ⟨(fun r h => by cases h), Nat.le_refl _, by omega, .inl rfl⟩⟩
  · simp at hcs
    obtain ⟨rfl, rfl, rfl⟩ := hcs
    simp only [if_true] at hmm
    subst hmm
    rw [hce] at heach
    have hd : d = .slice ((List.range len).map D) ((List.range (m - len)).map fun j => D (len + j)) := by simpa using congrArg Prod.fst hx
    rw [hd] at hz
    simp only [DataW.weights, hst] at hz
    have hlb : len * (8 * K) ≤ 140737488351232 := by
      have h0 := hz _ (List.mem_cons_self ..)
      rw [hbe] at h0
      simp [reachBytes] at h0
      refine Nat.le_trans (Nat.mul_le_mul_right _ ?_) h0
      omega
    have each : ∀ i, i < m → ∃ r : List Int, (r.length = K ∧ ∀ n ∈ r, wfI n) ∧ ∀ j v, r[j]? = some v → w.cell? (x.add (i * K + j)) = some (.int .i64 v) := by
      intro i hi
      obtain ⟨cs', hc, ht'⟩ := heach i hi
      obtain ⟨_, hlen, hcell⟩ := World.cells?_some hc
      obtain ⟨r, hr1, hr2, hr3⟩ := hin _ _ _ hlen ht'
      refine ⟨r, ⟨hr1, hr3⟩, fun j v hv => ?_⟩
      have hj : j < K := by have := (List.getElem?_eq_some_iff.1 hv).1; omega
      have z := hcell j (by omega)
      rw [add_add] at z
      rw [z, hr2, List.getElem?_map, hv]; rfl
    have inh : Inhabited (List Int) := ⟨[]⟩
    obtain ⟨f, hf⟩ := choose_lt (α := List Int) each
    have hget : ∀ i s, ((List.range len).map f)[i]? = some s → i < len ∧ s = f i := by
      intro i s hs
      have hi : i < len := by have := (List.getElem?_eq_some_iff.1 hs).1; simpa using this
      refine ⟨hi, ?_⟩
      simp [hi] at hs
      exact hs.symm
    refine ⟨(List.range len).map f, by simp, by simpa using hlb, ⟨(fun r hr => by
      obtain ⟨i, hi⟩ := List.getElem?_of_mem hr
      obtain ⟨hi, rfl⟩ := hget i r hi
      exact (hf i (by omega)).1), by simpa using hl, by unfold maxLen at hm; omega, ?_⟩⟩
    by_cases h0 : len = 0
    · exact .inl (by simp [h0])
    · obtain ⟨b, off, spot⟩ := x
      obtain ⟨y, hy⟩ : ∃ y, (f 0)[0]? = some y := ⟨_, List.getElem?_eq_getElem (by rw [(hf 0 (by omega)).1.1]; exact hK)⟩
      have hc := (hf 0 (by omega)).2 0 _ hy
      have hspot : spot = none := by simpa [Addr.add] using World.cell?_spot hc
      subst hspot
      refine .inr ⟨b, off, rfl, World.block_lt_of_cell? w ⟨b, off + (0 * K + 0), none⟩ (by rw [Addr.add_lit] at hc; exact hc), fun i s hs j v hv => ?_⟩
      obtain ⟨hi, rfl⟩ := hget i s hs
      have k0 := (hf i (by omega)).2 j _ hv
      rw [Addr.add_lit, ← Nat.add_assoc] at k0
      exact k0
theorem arr2 {A : Array Value} (h : A.size = 2) : ∃ x y, A = #[x, y] := by
  obtain ⟨l⟩ := A
  match l, h with
  | [x, y], _ => exact ⟨x, y, rfl⟩
end
end Go.Proofs.Ytfmjefmocenkbaa
