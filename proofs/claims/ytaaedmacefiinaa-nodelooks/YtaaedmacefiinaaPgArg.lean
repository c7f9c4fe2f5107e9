
/- A node that came in. -/
import Derived.Test.YtaaedmacefiinaaArgs
import Derived.Test.YtaaedmacefiinaaPgNode
import Derived.SliceStrings
import Derived.Lib.SmallJoins
namespace Go.Proofs.Ytaaedmacefiinaa
open Go.ChangeShapes Go.WideShapes Go.ChangeAt Go.RowKit

theorem cellsI : Try.prog.cellsOf 3 = 1 := by kernel_rfl
theorem cellsS : Try.prog.cellsOf 9 = 1 := by kernel_rfl
theorem cellsSs : Try.prog.cellsOf 22 = 1 := by kernel_rfl
theorem cellsIs : Try.prog.cellsOf 23 = 1 := by kernel_rfl
theorem cellsN : Try.prog.cellsOf 25 = 7 := by kernel_rfl
theorem bytesS : Try.prog.bytesOf 9 = 16 := by kernel_rfl
theorem bytesI : Try.prog.bytesOf 3 = 8 := by kernel_rfl

section
variable {H : Type} {enc : TypeId × Value → H} {w : World} {base : Nat} {spare : Nat → Bool} {held : Bool}

theorem strs_part {fuel : Nat} {c : Value} {x : DataW H × List MemPlace} (h : DataW.trod enc Try.prog w base spare held fuel 22 [c] = some x) (hz : ∀ z ∈ x.1.weights Try.prog 22, z ≤ reachBytes) :
    ∃ (a : Option Addr) (cap : Nat) (l : List ByteArray), c = .slice a l.length cap ∧ Strs w a cap l ∧ (∀ s ∈ l, s.size ≤ 140737488351232) ∧ l.length ≤ 140737488351232 := by
  rcases open_strings Try.underlying22 Try.underlying9 cellsS h with ⟨hcs, _⟩ | ⟨y, len, cap, ss, hcs, _, hl, hm, hzz, hx, hcell, hsz⟩
  · simp only [List.cons.injEq, and_true] at hcs
    subst hcs
    exact ⟨none, 0, [], rfl, ⟨by simp, by omega, (fun s hs => by cases hs), .inl rfl⟩, (fun s hs => by cases hs), by simp⟩
  · simp only [List.cons.injEq, and_true] at hcs
    subst hcs
    have hlen : len ≤ ss.length := by rw [hzz]; split <;> omega
    have hll : (ss.take len).length = len := by simp; omega
    have hx1 : x.1 = .slice (strs (ss.take len)) (strs (ss.drop len)) := by rw [hx]
    rw [hx1] at hz
    have w1 := hz (((strs (H := H) (ss.take len)).length + (strs (H := H) (ss.drop len)).length) * Try.prog.bytesOf 9) (by simp [DataW.weights, Try.underlying22])
    have wl : len ≤ 140737488351232 := by
      rw [bytesS] at w1
      simp only [strs, List.length_map, List.length_take, List.length_drop, reachBytes] at w1
      omega
    have ws : ∀ s ∈ ss.take len, s.size ≤ 140737488351232 := fun s hs => by
      have : s.data.toList.length ∈ DataW.weights Try.prog 22 (.slice (strs (H := H) (ss.take len)) (strs (ss.drop len))) := by
        simp only [DataW.weights, Try.underlying22, List.mem_cons, List.mem_append]
        refine .inr (.inl ?_)
        have key : ∀ l : List ByteArray, s ∈ l → s.data.toList.length ∈ DataW.weightsAll Try.prog 9 (strs (H := H) l) := by
          intro l
          induction l with
          | nil => intro h; cases h
          | cons b r ih =>
            intro h
            simp only [strs, List.map_cons, DataW.weightsAll, List.mem_append]
            rcases List.mem_cons.1 h with rfl | h
            · left; simp [DataW.weights]
            · right; exact ih h
        exact key _ hs
      have := hz _ this
      rw [← Lib.size_eq] at this
      simpa [reachBytes] using this
    refine ⟨some y, cap, ss.take len, by rw [hll], ⟨by omega, by unfold maxLen at hm; omega, fun s hs => hsz s (List.mem_of_mem_take hs), ?_⟩, ws, by omega⟩
    by_cases h0 : len = 0
    · exact .inl (by simp [h0])
    · obtain ⟨b, off, spot⟩ := y
      have hc0 := hcell 0 (by omega)
      have hspot : spot = none := by simpa [Addr.add] using World.cell?_spot hc0
      subst hspot
      refine .inr ⟨b, off, rfl, World.block_lt_of_cell? w ⟨b, off + 0, none⟩ (by rw [Addr.add_lit] at hc0; exact hc0), fun i hi => ?_⟩
      rw [hll] at hi
      have h1 := hcell i (by omega)
      rw [Addr.add_lit] at h1
      rw [h1, List.getD_eq_getElem?_getD, List.getD_eq_getElem?_getD, List.getElem?_take, if_pos hi]
theorem ints_part {fuel : Nat} {c : Value} {x : DataW H × List MemPlace} (h : DataW.trod enc Try.prog w base spare held fuel 23 [c] = some x) (hz : ∀ z ∈ x.1.weights Try.prog 23, z ≤ reachBytes) :
    ∃ (a : Option Addr) (cap : Nat) (l : List Int), c = .slice a l.length cap ∧ Ints w a cap l ∧ l.length ≤ 140737488351232 := by
  rcases open_ints Try.underlying23 Try.underlying3 cellsI h with ⟨hcs, _⟩ | ⟨y, len, cap, ss, hcs, _, hl, hm, hzz, hx, hcell, _⟩
  · simp only [List.cons.injEq, and_true] at hcs
    subst hcs
    exact ⟨none, 0, [], rfl, ⟨by simp, by omega, .inl rfl⟩, by simp⟩
  · simp only [List.cons.injEq, and_true] at hcs
    subst hcs
    have hlen : len ≤ ss.length := by rw [hzz]; split <;> omega
    have hll : (ss.take len).length = len := by simp; omega
    have hx1 : x.1 = .slice (lits .i64 (ss.take len)) (lits .i64 (ss.drop len)) := by rw [hx]
    rw [hx1] at hz
    have w1 := hz (((lits (H := H) .i64 (ss.take len)).length + (lits (H := H) .i64 (ss.drop len)).length) * Try.prog.bytesOf 3) (by simp [DataW.weights, Try.underlying23])
    have wl : len ≤ 140737488351232 := by
      rw [bytesI] at w1
      simp only [lits, List.length_map, List.length_take, List.length_drop, reachBytes] at w1
      omega
    refine ⟨some y, cap, ss.take len, by rw [hll], ⟨by omega, by unfold maxLen at hm; omega, ?_⟩, by omega⟩
    by_cases h0 : len = 0
    · exact .inl (by simp [h0])
    · obtain ⟨b, off, spot⟩ := y
      have hc0 := hcell 0 (by omega)
      have hspot : spot = none := by simpa [Addr.add] using World.cell?_spot hc0
      subst hspot
      refine .inr ⟨b, off, rfl, World.block_lt_of_cell? w ⟨b, off + 0, none⟩ (by rw [Addr.add_lit] at hc0; exact hc0), fun i hi => ?_⟩
      rw [hll] at hi
      have h1 := hcell i (by omega)
      rw [Addr.add_lit] at h1
      rw [h1, List.getD_eq_getElem?_getD, List.getD_eq_getElem?_getD, List.getElem?_take, if_pos hi]

theorem array7 {α : Type} {cs : Array α} (h : cs.size = 7) : ∃ c0 c1 c2 c3 c4 c5 c6, cs = #[c0, c1, c2, c3, c4, c5, c6] := by
  obtain ⟨l⟩ := cs
  match l, h with
  | [c0, c1, c2, c3, c4, c5, c6], _ => exact ⟨c0, c1, c2, c3, c4, c5, c6, rfl⟩
set_option maxRecDepth 100000 in
theorem node_open {r : Reach} {b0 : Nat} {v : Value} {d : DataW H} {pl : List MemPlace} (hv : Value.okWide Try.prog w r b0 25 v) (h : DataW.Trod enc Try.prog w base spare held 25 v d pl) (hz : ∀ z ∈ d.weights Try.prog 25, z ≤ reachBytes) :
    ∃ (n : Nd) (p : Pt), v = (.agg #[.int .i64 n.lev, .int .i64 n.lsn, .int .i64 n.rgt, .string n.high, .slice p.k n.keys.length p.kc, .slice p.v n.vals.length p.vc, .slice p.i n.kids.length p.ic]) ∧ Nod w n p := by
  obtain ⟨cs, rfl, hsz⟩ := okWide_struct Try.underlying25 hv
  obtain ⟨c0, c1, c2, c3, c4, c5, c6, rfl⟩ := array7 (hsz.trans cellsN)
  obtain ⟨fuel, hf⟩ := h
  obtain ⟨xs, m, _, hx, hl, hlen, hfs⟩ := DataW.trod_struct Try.underlying25 hf
  match xs, hlen with
  | [y0, y1, y2, y3, y4, y5, y6], _ =>
    have t0 := hfs 0 _ rfl
    have t1 := hfs 1 _ rfl
    have t2 := hfs 2 _ rfl
    have t3 := hfs 3 _ rfl
    have t4 := hfs 4 _ rfl
    have t5 := hfs 5 _ rfl
    have t6 := hfs 6 _ rfl
    simp [Value.cells, cellsI, cellsS, cellsSs, cellsIs] at t0 t1 t2 t3 t4 t5 t6
    have hd : d = .agg [y0.1, y1.1, y2.1, y3.1, y4.1, y5.1, y6.1] := by simpa using congrArg Prod.fst hx
    rw [hd] at hz
    simp only [DataW.weights, Try.underlying25] at hz
    have z3 : ∀ z ∈ y3.1.weights Try.prog 9, z ≤ reachBytes := fun z h => hz z (DataW.weights_mem_each (j := 3) rfl rfl z h)
    have z4 : ∀ z ∈ y4.1.weights Try.prog 22, z ≤ reachBytes := fun z h => hz z (DataW.weights_mem_each (j := 4) rfl rfl z h)
    have z5 : ∀ z ∈ y5.1.weights Try.prog 22, z ≤ reachBytes := fun z h => hz z (DataW.weights_mem_each (j := 5) rfl rfl z h)
    have z6 : ∀ z ∈ y6.1.weights Try.prog 23, z ≤ reachBytes := fun z h => hz z (DataW.weights_mem_each (j := 6) rfl rfl z h)
    obtain ⟨b0, e0, _, _⟩ := DataW.trod_int Try.underlying3 t0
    obtain ⟨b1, e1, _, _⟩ := DataW.trod_int Try.underlying3 t1
    obtain ⟨b2, e2, _, _⟩ := DataW.trod_int Try.underlying3 t2
    obtain ⟨b3, e3, e3', _⟩ := DataW.trod_string Try.underlying9 t3
    simp only [List.cons.injEq, and_true] at e0 e1 e2 e3
    subst e0 e1 e2 e3
    rw [e3'] at z3
    have w3 := z3 b3.data.toList.length (by simp [DataW.weights])
    rw [← Lib.size_eq] at w3
    obtain ⟨ak, ck, lk, rfl, s4, s4s, s4l⟩ := strs_part t4 z4
    obtain ⟨av, cv, lv, rfl, s5, s5s, s5l⟩ := strs_part t5 z5
    obtain ⟨ai, ci, li, rfl, s6, s6l⟩ := ints_part t6 z6
    exact ⟨⟨b0, b1, b2, b3, lk, lv, li⟩, ⟨ak, ck, av, cv, ai, ci⟩, rfl, s4, s5, s6, by simpa [reachBytes] using w3, s4s, s5s, s4l, s5l, s6l⟩
end
end Go.Proofs.Ytaaedmacefiinaa
