
/- A slice of steps that came in: three numbers and a slice of bytes each. -/
import Derived.Test.YtkmjmbpdmgoknaaArgs
import Derived.Test.YtkmjmbpdmgoknaaGen
import Derived.Deep.Strs
namespace Go.Proofs.Ytkmjmbpdmgoknaa
open Go.ChangeShapes Go.WideShapes Go.ChangeAt Go.RowKit Go.Deep

/-- A step: three numbers, where its bytes lie, its bytes. -/
structure St where
  k : Int
  a : Int
  c : Int
  ad : Option Addr
  cap : Nat
  l : List Nat
def st0 : St := ⟨0, 0, 0, none, 0, []⟩
structure Steps (w : World) (a : Option Addr) (cap : Nat) (ss : List St) : Prop where
  le : ss.length ≤ cap
  max : cap ≤ 9223372036854775807
  wf : ∀ s ∈ ss, (-9223372036854775808 ≤ s.k ∧ s.k ≤ 9223372036854775807) ∧ (-9223372036854775808 ≤ s.a ∧ s.a ≤ 9223372036854775807) ∧ (-9223372036854775808 ≤ s.c ∧ s.c ≤ 9223372036854775807)
  row : ∀ s ∈ ss, s.l.length ≤ 65535 → Row w s.ad s.cap s.l
  at_ : ss = [] ∨ ∃ b off, a = some ⟨b, off, none⟩ ∧ b < w.heap.size ∧ ∀ i s, ss[i]? = some s →
    w.cell? ⟨b, off + i * 4, none⟩ = some (.int .i64 s.k) ∧ w.cell? ⟨b, off + i * 4 + 1, none⟩ = some (.int .i64 s.a) ∧ w.cell? ⟨b, off + i * 4 + 2, none⟩ = some (.int .i64 s.c) ∧ w.cell? ⟨b, off + i * 4 + 3, none⟩ = some (.slice s.ad s.l.length s.cap)

theorem Steps.same {w w' : World} {a : Option Addr} {cap : Nat} {ss : List St} (h : Steps w a cap ss) (f : Fr (fun _ => False) w w') : Steps w' a cap ss := by
  refine ⟨h.le, h.max, h.wf, fun s hs hl => (h.row s hs hl).same f, ?_⟩
  rcases h.at_ with h0 | ⟨b, off, rfl, hb, hc⟩
  · exact .inl h0
  · refine .inr ⟨b, off, rfl, Nat.lt_of_lt_of_le hb f.size, fun i s hs => ?_⟩
    obtain ⟨h1, h2, h3, h4⟩ := hc i s hs
    exact ⟨(f.cell hb (fun x => x)).trans h1, (f.cell hb (fun x => x)).trans h2, (f.cell hb (fun x => x)).trans h3, (f.cell hb (fun x => x)).trans h4⟩

/-- Bytes that came in, of whatever length. -/
theorem bytes_in {H : Type} {enc : TypeId × Value → H} {w : World} {fuel : Nat} {v : Value} {x : DataW H × List MemPlace}
    (h : DataW.trod enc Try.prog w 0 (fun _ => true) true fuel 31 [v] = some x) : ∃ (ad : Option Addr) (cap : Nat) (l : List Nat), v = .slice ad l.length cap ∧ (l.length ≤ 65535 → Row w ad cap l) := by
  rcases open_ints Try.underlying31 Try.underlying5 (by kernel_rfl) h with ⟨hcs, _⟩ | ⟨x, len, cap, zs, hcs, _, hl, hm, hz, hx, hcell, hwz⟩
  · simp at hcs
    exact ⟨none, 0, [], hcs, fun _ => row_nil _ _⟩
  · simp at hcs
    have hz' : zs.length = cap := by simpa using hz
    have hr := range_u8 hwz
    refine ⟨some x, cap, (zs.take len).map Int.toNat, by rw [hcs]; simp; omega, fun hsm => ?_⟩
    have hsm' : len ≤ 65535 := by simp at hsm; omega
    refine ⟨by simp; omega, by unfold maxLen at hm; omega, by simp; omega, ?_, ?_⟩
    · intro y hy
      simp only [List.mem_map] at hy
      obtain ⟨z, hzm, rfl⟩ := hy
      have hz2 := List.mem_of_mem_take hzm
      obtain ⟨i, hi, he⟩ := List.getElem_of_mem hz2
      have := hr i
      rw [List.getElem?_eq_getElem hi, Option.getD_some, he] at this
      omega
    · by_cases h0 : len = 0
      · exact .inl (by simp [h0])
      · obtain ⟨b, off, spot⟩ := x
        have hc := hcell 0 (by omega)
        have hspot : spot = none := by simpa [Addr.add] using World.cell?_spot hc
        subst hspot
        refine .inr ⟨b, off, rfl, World.block_lt_of_cell? w ⟨b, off + 0, none⟩ (by rw [Addr.add_lit] at hc; exact hc), fun i hi => ?_⟩
        simp at hi
        have h1 := hcell i (by omega)
        rw [Addr.add_lit] at h1
        rw [h1]
        have h2 := hr i
        simp only [List.getD_eq_getElem?_getD, List.getElem?_map, List.getElem?_take, if_pos (show i < len by omega)]
        rw [List.getElem?_eq_getElem (show i < zs.length by omega)] at h2 ⊢
        simp only [Option.getD_some, Option.map_some] at h2 ⊢
        rw [Int.toNat_of_nonneg h2.1]

set_option maxRecDepth 100000 in
theorem steps_open {H : Type} {enc : TypeId × Value → H} {w : World} {fuel len cap : Nat} {a : Option Addr} {d : DataW H} {p : List MemPlace} {t e : TypeId} {f0 f1 f2 f3 : Field} (ht : Try.prog.underlying t = some (.slice e)) (he : Try.prog.underlying e = some (.struct #[f0, f1, f2, f3]))
    (hf : (f0.type = 3 ∧ f0.offset = 0) ∧ (f1.type = 3 ∧ f1.offset = 1) ∧ (f2.type = 3 ∧ f2.offset = 2) ∧ (f3.type = 31 ∧ f3.offset = 3)) (hce : Try.prog.cellsOf e = 4)
    (h : DataW.trod enc Try.prog w 0 (fun _ => true) true fuel t [.slice a len cap] = some (d, p)) :
    ∃ ss : List St, len = ss.length ∧ Steps w a cap ss ∧ (d = .nil ∧ ss = [] ∨ ∃ elems spare, d = .slice elems spare ∧ elems.length = ss.length) := by
  obtain ⟨⟨e0, g0⟩, ⟨e1, g1⟩, ⟨e2, g2⟩, ⟨e3, g3⟩⟩ := hf
  rcases open_slice ht h with ⟨hcs, hx⟩ | ⟨x, l, c, m, n, D, Pl, hcs, _, hl, hm, hmm, hx, heach⟩
  · simp at hcs
    obtain ⟨rfl, rfl, rfl⟩ := hcs
    simp only [Prod.mk.injEq] at hx
    exact ⟨[], rfl, ⟨Nat.le_refl _, by omega, (fun s hs => by cases hs), (fun s hs => by cases hs), .inl rfl⟩, .inl ⟨hx.1, rfl⟩⟩
  · simp at hcs
    obtain ⟨rfl, rfl, rfl⟩ := hcs
    simp only [if_true] at hmm
    subst hmm
    rw [hce] at heach
    have each : ∀ i, i < m → ∃ s : St, w.cell? (x.add (i * 4)) = some (.int .i64 s.k) ∧ w.cell? (x.add (i * 4 + 1)) = some (.int .i64 s.a) ∧ w.cell? (x.add (i * 4 + 2)) = some (.int .i64 s.c) ∧ w.cell? (x.add (i * 4 + 3)) = some (.slice s.ad s.l.length s.cap) ∧
        (s.l.length ≤ 65535 → Row w s.ad s.cap s.l) ∧ (-9223372036854775808 ≤ s.k ∧ s.k ≤ 9223372036854775807) ∧ (-9223372036854775808 ≤ s.a ∧ s.a ≤ 9223372036854775807) ∧ (-9223372036854775808 ≤ s.c ∧ s.c ≤ 9223372036854775807) := by
      intro i hi
      obtain ⟨cs', hc, ht'⟩ := heach i hi
      obtain ⟨_, hlen, hcell⟩ := World.cells?_some hc
      obtain ⟨xs, n', _, _, _, hxl, hfl⟩ := DataW.trod_struct he ht'
      have h0 := hfl 0 f0 rfl
      have h1 := hfl 1 f1 rfl
      have h2 := hfl 2 f2 rfl
      have h3 := hfl 3 f3 rfl
      match xs, hxl with
      | [y0, y1, y2, y3], _ =>
      match cs', hlen with
      | [c0, c1, c2, c3], _ =>
        have k1 : Try.prog.cellsOf 3 = 1 := by kernel_rfl
        have k2 : Try.prog.cellsOf 31 = 1 := by kernel_rfl
        rw [e0, g0] at h0
        rw [e1, g1] at h1
        rw [e2, g2] at h2
        rw [e3, g3] at h3
        simp [k1, k2] at h0 h1 h2 h3
        obtain ⟨v0, q0, x0, wf0⟩ := DataW.trod_int Try.underlying3 h0
        obtain ⟨v1, q1, x1, wf1⟩ := DataW.trod_int Try.underlying3 h1
        obtain ⟨v2, q2, x2, wf2⟩ := DataW.trod_int Try.underlying3 h2
        obtain ⟨ad, cap', lb, q3, hrow⟩ := bytes_in h3
        simp at q0 q1 q2
        subst q0 q1 q2 q3
        have z0 := hcell 0 (by omega)
        have z1 := hcell 1 (by omega)
        have z2 := hcell 2 (by omega)
        have z3 := hcell 3 (by omega)
        rw [add_add] at z0 z1 z2 z3
        exact ⟨⟨v0, v1, v2, ad, cap', lb⟩, z0, z1, z2, z3, hrow, bounds_i64 wf0, bounds_i64 wf1, bounds_i64 wf2⟩
    have inh : Inhabited St := ⟨st0⟩
    obtain ⟨f, hf⟩ := choose_lt (α := St) each
    have hget : ∀ i s, ((List.range len).map f)[i]? = some s → i < len ∧ s = f i := by
      intro i s hs
      have hi : i < len := by have := (List.getElem?_eq_some_iff.1 hs).1; simpa using this
      refine ⟨hi, ?_⟩
      simp [hi] at hs
      exact hs.symm
    have hmem : ∀ s ∈ (List.range len).map f, ∃ i, i < len ∧ s = f i := fun s hs => by
      obtain ⟨i, hi, rfl⟩ := List.mem_map.1 hs
      exact ⟨i, List.mem_range.1 hi, rfl⟩
    refine ⟨(List.range len).map f, by simp, ⟨by simpa using hl, by unfold maxLen at hm; omega, fun s hs => ?_, fun s hs => ?_, ?_⟩, .inr ?_⟩
    · obtain ⟨i, hi, rfl⟩ := hmem s hs
      obtain ⟨_, _, _, _, _, w0, w1, w2⟩ := hf i (by omega)
      exact ⟨w0, w1, w2⟩
    · obtain ⟨i, hi, rfl⟩ := hmem s hs
      exact (hf i (by omega)).2.2.2.2.1
    · by_cases h0 : len = 0
      · exact .inl (by simp [h0])
      · obtain ⟨b, off, spot⟩ := x
        have hc := (hf 0 (by omega)).1
        have hspot : spot = none := by simpa [Addr.add] using World.cell?_spot hc
        subst hspot
        refine .inr ⟨b, off, rfl, World.block_lt_of_cell? w ⟨b, off + 0 * 4, none⟩ (by rw [Addr.add_lit] at hc; exact hc), fun i s hs => ?_⟩
        obtain ⟨hi, rfl⟩ := hget i s hs
        obtain ⟨p0, p1, p2, p3, _⟩ := hf i (by omega)
        rw [Addr.add_lit] at p0 p1 p2 p3
        exact ⟨p0, p1, p2, p3⟩
    · simp only [Prod.mk.injEq] at hx
      exact ⟨_, _, hx.1, by simp⟩
end Go.Proofs.Ytkmjmbpdmgoknaa
