
/- PgArg, RdArgs, RdBy, RdSpeak. -/
import Derived.Test.YtlgceleelhppdaaDP9
import Derived.Test.YtlgceleelhppdaaDP3
import Derived.SliceStrings
import Derived.Lib.SmallJoins
import Derived.Test.YtlgceleelhppdaaDP33
import Derived.Test.YtlgceleelhppdaaDP29
/- A node that came in. -/
namespace Go.Proofs.Ytlgceleelhppdaa
open Go.ChangeShapes Go.WideShapes Go.ChangeAt Go.RowKit

theorem cellsI : Try.prog.cellsOf 3 = 1 := by kernel_rfl
theorem cellsS : Try.prog.cellsOf 9 = 1 := by kernel_rfl
theorem cellsSs : Try.prog.cellsOf 37 = 1 := by kernel_rfl
theorem cellsIs : Try.prog.cellsOf 38 = 1 := by kernel_rfl
theorem cellsN : Try.prog.cellsOf 40 = 7 := by kernel_rfl
theorem bytesS : Try.prog.bytesOf 9 = 16 := by kernel_rfl
theorem bytesI : Try.prog.bytesOf 3 = 8 := by kernel_rfl

section
variable {H : Type} {enc : TypeId × Value → H} {w : World} {base : Nat} {spare : Nat → Bool} {held : Bool}

theorem strs_part {fuel : Nat} {c : Value} {x : DataW H × List MemPlace} (h : DataW.trod enc Try.prog w base spare held fuel 37 [c] = some x) (hz : ∀ z ∈ x.1.weights Try.prog 37, z ≤ reachBytes) :
    ∃ (a : Option Addr) (cap : Nat) (l : List ByteArray), c = .slice a l.length cap ∧ Strs w a cap l ∧ (∀ s ∈ l, s.size ≤ 140737488351232) ∧ l.length ≤ 140737488351232 := by
  rcases open_strings Try.underlying37 Try.underlying9 cellsS h with ⟨hcs, _⟩ | ⟨y, len, cap, ss, hcs, _, hl, hm, hzz, hx, hcell, hsz⟩
  · simp only [List.cons.injEq, and_true] at hcs
    subst hcs
    exact ⟨none, 0, [], rfl, ⟨by simp, by omega, (fun s hs => by cases hs), .inl rfl⟩, (fun s hs => by cases hs), by simp⟩
  · simp only [List.cons.injEq, and_true] at hcs
    subst hcs
    have hlen : len ≤ ss.length := by rw [hzz]; split <;> omega
    have hll : (ss.take len).length = len := by simp; omega
    have hx1 : x.1 = .slice (strs (ss.take len)) (strs (ss.drop len)) := by rw [hx]
    rw [hx1] at hz
    have w1 := hz (((strs (H := H) (ss.take len)).length + (strs (H := H) (ss.drop len)).length) * Try.prog.bytesOf 9) (by simp [DataW.weights, Try.underlying37])
    have wl : len ≤ 140737488351232 := by
      rw [bytesS] at w1
      simp only [strs, List.length_map, List.length_take, List.length_drop, reachBytes] at w1
      omega
    have ws : ∀ s ∈ ss.take len, s.size ≤ 140737488351232 := fun s hs => by
      have : s.data.toList.length ∈ DataW.weights Try.prog 37 (.slice (strs (H := H) (ss.take len)) (strs (ss.drop len))) := by
        simp only [DataW.weights, Try.underlying37, List.mem_cons, List.mem_append]
        refine .inr (.inl ?_)
        have key : ∀ l : List ByteArray, s ∈ l → s.data.toList.length ∈ DataW.weightsAll Try.prog 9 (strs (H := H) l) := by
          intro l
          induction l with
          | nil => intro h; cases h
          | cons b r ih =>
            intro h
            simp only [strs, List.map_cons, DataW.weightsAll, List.mem_append]
            rcases List.mem_cons.1 h with rfl | h
            · left; simp [DataW.weights]
            · right; exact ih h
        exact key _ hs
      have := hz _ this
      rw [← Lib.size_eq] at this
      simpa [reachBytes] using this
    refine ⟨some y, cap, ss.take len, by rw [hll], ⟨by omega, by unfold maxLen at hm; omega, fun s hs => hsz s (List.mem_of_mem_take hs), ?_⟩, ws, by omega⟩
    by_cases h0 : len = 0
    · exact .inl (by simp [h0])
    · obtain ⟨b, off, spot⟩ := y
      have hc0 := hcell 0 (by omega)
      have hspot : spot = none := by simpa [Addr.add] using World.cell?_spot hc0
      subst hspot
      refine .inr ⟨b, off, rfl, World.block_lt_of_cell? w ⟨b, off + 0, none⟩ (by rw [Addr.add_lit] at hc0; exact hc0), fun i hi => ?_⟩
      rw [hll] at hi
      have h1 := hcell i (by omega)
      rw [Addr.add_lit] at h1
      rw [h1, List.getD_eq_getElem?_getD, List.getD_eq_getElem?_getD, List.getElem?_take, if_pos hi]
theorem ints_part {fuel : Nat} {c : Value} {x : DataW H × List MemPlace} (h : DataW.trod enc Try.prog w base spare held fuel 38 [c] = some x) (hz : ∀ z ∈ x.1.weights Try.prog 38, z ≤ reachBytes) :
    ∃ (a : Option Addr) (cap : Nat) (l : List Int), c = .slice a l.length cap ∧ Ints w a cap l ∧ l.length ≤ 140737488351232 := by
  rcases open_ints Try.underlying38 Try.underlying3 cellsI h with ⟨hcs, _⟩ | ⟨y, len, cap, ss, hcs, _, hl, hm, hzz, hx, hcell, _⟩
  · simp only [List.cons.injEq, and_true] at hcs
    subst hcs
    exact ⟨none, 0, [], rfl, ⟨by simp, by omega, .inl rfl⟩, by simp⟩
  · simp only [List.cons.injEq, and_true] at hcs
    subst hcs
    have hlen : len ≤ ss.length := by rw [hzz]; split <;> omega
    have hll : (ss.take len).length = len := by simp; omega
    have hx1 : x.1 = .slice (lits .i64 (ss.take len)) (lits .i64 (ss.drop len)) := by rw [hx]
    rw [hx1] at hz
    have w1 := hz (((lits (H := H) .i64 (ss.take len)).length + (lits (H := H) .i64 (ss.drop len)).length) * Try.prog.bytesOf 3) (by simp [DataW.weights, Try.underlying38])
    have wl : len ≤ 140737488351232 := by
      rw [bytesI] at w1
      simp only [lits, List.length_map, List.length_take, List.length_drop, reachBytes] at w1
      omega
    refine ⟨some y, cap, ss.take len, by rw [hll], ⟨by omega, by unfold maxLen at hm; omega, ?_⟩, by omega⟩
    by_cases h0 : len = 0
    · exact .inl (by simp [h0])
    · obtain ⟨b, off, spot⟩ := y
      have hc0 := hcell 0 (by omega)
      have hspot : spot = none := by simpa [Addr.add] using World.cell?_spot hc0
      subst hspot
      refine .inr ⟨b, off, rfl, World.block_lt_of_cell? w ⟨b, off + 0, none⟩ (by rw [Addr.add_lit] at hc0; exact hc0), fun i hi => ?_⟩
      rw [hll] at hi
      have h1 := hcell i (by omega)
      rw [Addr.add_lit] at h1
      rw [h1, List.getD_eq_getElem?_getD, List.getD_eq_getElem?_getD, List.getElem?_take, if_pos hi]

theorem array7 {α : Type} {cs : Array α} (h : cs.size = 7) : ∃ c0 c1 c2 c3 c4 c5 c6, cs = #[c0, c1, c2, c3, c4, c5, c6] := by
  obtain ⟨l⟩ := cs
  match l, h with
  | [c0, c1, c2, c3, c4, c5, c6], _ => exact ⟨c0, c1, c2, c3, c4, c5, c6, rfl⟩
set_option maxRecDepth 100000 in
theorem node_open {r : Reach} {b0 : Nat} {v : Value} {d : DataW H} {pl : List MemPlace} (hv : Value.okWide Try.prog w r b0 40 v) (h : DataW.Trod enc Try.prog w base spare held 40 v d pl) (hz : ∀ z ∈ d.weights Try.prog 40, z ≤ reachBytes) :
    ∃ (n : Nd) (p : Pt), v = (.agg #[.int .i64 n.lev, .int .i64 n.lsn, .int .i64 n.rgt, .string n.high, .slice p.k n.keys.length p.kc, .slice p.v n.vals.length p.vc, .slice p.i n.kids.length p.ic]) ∧ Nod w n p := by
  obtain ⟨cs, rfl, hsz⟩ := okWide_struct Try.underlying40 hv
  obtain ⟨c0, c1, c2, c3, c4, c5, c6, rfl⟩ := array7 (hsz.trans cellsN)
  obtain ⟨fuel, hf⟩ := h
  obtain ⟨xs, m, _, hx, hl, hlen, hfs⟩ := DataW.trod_struct Try.underlying40 hf
  match xs, hlen with
  | [y0, y1, y2, y3, y4, y5, y6], _ =>
    have t0 := hfs 0 _ rfl
    have t1 := hfs 1 _ rfl
    have t2 := hfs 2 _ rfl
    have t3 := hfs 3 _ rfl
    have t4 := hfs 4 _ rfl
    have t5 := hfs 5 _ rfl
    have t6 := hfs 6 _ rfl
    simp [Value.cells, cellsI, cellsS, cellsSs, cellsIs] at t0 t1 t2 t3 t4 t5 t6
    have hd : d = .agg [y0.1, y1.1, y2.1, y3.1, y4.1, y5.1, y6.1] := by simpa using congrArg Prod.fst hx
    rw [hd] at hz
    simp only [DataW.weights, Try.underlying40] at hz
    have z3 : ∀ z ∈ y3.1.weights Try.prog 9, z ≤ reachBytes := fun z h => hz z (DataW.weights_mem_each (j := 3) rfl rfl z h)
    have z4 : ∀ z ∈ y4.1.weights Try.prog 37, z ≤ reachBytes := fun z h => hz z (DataW.weights_mem_each (j := 4) rfl rfl z h)
    have z5 : ∀ z ∈ y5.1.weights Try.prog 37, z ≤ reachBytes := fun z h => hz z (DataW.weights_mem_each (j := 5) rfl rfl z h)
    have z6 : ∀ z ∈ y6.1.weights Try.prog 38, z ≤ reachBytes := fun z h => hz z (DataW.weights_mem_each (j := 6) rfl rfl z h)
    obtain ⟨b0, e0, _, _⟩ := DataW.trod_int Try.underlying3 t0
    obtain ⟨b1, e1, _, _⟩ := DataW.trod_int Try.underlying3 t1
    obtain ⟨b2, e2, _, _⟩ := DataW.trod_int Try.underlying3 t2
    obtain ⟨b3, e3, e3', _⟩ := DataW.trod_string Try.underlying9 t3
    simp only [List.cons.injEq, and_true] at e0 e1 e2 e3
    subst e0 e1 e2 e3
    rw [e3'] at z3
    have w3 := z3 b3.data.toList.length (by simp [DataW.weights])
    rw [← Lib.size_eq] at w3
    obtain ⟨ak, ck, lk, rfl, s4, s4s, s4l⟩ := strs_part t4 z4
    obtain ⟨av, cv, lv, rfl, s5, s5s, s5l⟩ := strs_part t5 z5
    obtain ⟨ai, ci, li, rfl, s6, s6l⟩ := ints_part t6 z6
    exact ⟨⟨b0, b1, b2, b3, lk, lv, li⟩, ⟨ak, ck, av, cv, ai, ci⟩, rfl, s4, s5, s6, by simpa [reachBytes] using w3, s4s, s5s, s4l, s5l, s6l⟩
end
end Go.Proofs.Ytlgceleelhppdaa

/- Pages and records that came in, with their sizes. -/
namespace Go.Proofs.Ytlgceleelhppdaa
open Go.ChangeShapes Go.WideShapes Go.ChangeAt Go.RowKit Go.Deep

theorem cellsSl : Try.prog.cellsOf 42 = 8 := by kernel_rfl
theorem bytesRc : Try.prog.bytesOf 30 = 80 := by kernel_rfl
theorem bytesSl : Try.prog.bytesOf 42 = 120 := by kernel_rfl
theorem weights_all {H : Type} {P : Program} {e : TypeId} {d : DataW H} : ∀ {l : List (DataW H)}, d ∈ l → ∀ z ∈ d.weights P e, z ∈ DataW.weightsAll P e l
  | _ :: _, h, z, hz => by
    simp only [DataW.weightsAll, List.mem_append]
    rcases List.mem_cons.1 h with rfl | h
    · exact .inl hz
    · exact .inr (weights_all h z hz)
section
variable {H : Type} {enc : TypeId × Value → H} {w : World}
set_option maxRecDepth 100000 in
theorem node_in {fuel : Nat} {c0 c1 c2 c3 c4 c5 c6 : Value} {x : DataW H × List MemPlace} (hf : DataW.trod enc Try.prog w 0 (fun _ => true) true fuel 40 [c0, c1, c2, c3, c4, c5, c6] = some x) (hz : ∀ z ∈ x.1.weights Try.prog 40, z ≤ reachBytes) :
    ∃ (n : Nd) (p : Pt), [c0, c1, c2, c3, c4, c5, c6] = [.int .i64 n.lev, .int .i64 n.lsn, .int .i64 n.rgt, .string n.high, .slice p.k n.keys.length p.kc, .slice p.v n.vals.length p.vc, .slice p.i n.kids.length p.ic] ∧ Nod w n p := by
  obtain ⟨xs, m, _, hx, hl, hlen, hfs⟩ := DataW.trod_struct Try.underlying40 hf
  match xs, hlen with
  | [y0, y1, y2, y3, y4, y5, y6], _ =>
    have t0 := hfs 0 _ rfl
    have t1 := hfs 1 _ rfl
    have t2 := hfs 2 _ rfl
    have t3 := hfs 3 _ rfl
    have t4 := hfs 4 _ rfl
    have t5 := hfs 5 _ rfl
    have t6 := hfs 6 _ rfl
    simp [cellsI, cellsS, cellsSs, cellsIs] at t0 t1 t2 t3 t4 t5 t6
    have hd : x.1 = .agg [y0.1, y1.1, y2.1, y3.1, y4.1, y5.1, y6.1] := by simpa using congrArg Prod.fst hx
    rw [hd] at hz
    simp only [DataW.weights, Try.underlying40] at hz
    have z3 : ∀ z ∈ y3.1.weights Try.prog 9, z ≤ reachBytes := fun z h => hz z (DataW.weights_mem_each (j := 3) rfl rfl z h)
    have z4 : ∀ z ∈ y4.1.weights Try.prog 37, z ≤ reachBytes := fun z h => hz z (DataW.weights_mem_each (j := 4) rfl rfl z h)
    have z5 : ∀ z ∈ y5.1.weights Try.prog 37, z ≤ reachBytes := fun z h => hz z (DataW.weights_mem_each (j := 5) rfl rfl z h)
    have z6 : ∀ z ∈ y6.1.weights Try.prog 38, z ≤ reachBytes := fun z h => hz z (DataW.weights_mem_each (j := 6) rfl rfl z h)
    obtain ⟨b0, e0, _, _⟩ := DataW.trod_int Try.underlying3 t0
    obtain ⟨b1, e1, _, _⟩ := DataW.trod_int Try.underlying3 t1
    obtain ⟨b2, e2, _, _⟩ := DataW.trod_int Try.underlying3 t2
    obtain ⟨b3, e3, e3', _⟩ := DataW.trod_string Try.underlying9 t3
    simp only [List.cons.injEq, and_true] at e0 e1 e2 e3
    subst e0 e1 e2 e3
    rw [e3'] at z3
    have w3 := z3 b3.data.toList.length (by simp [DataW.weights])
    rw [← Lib.size_eq] at w3
    obtain ⟨ak, ck, lk, rfl, s4, s4s, s4l⟩ := strs_part t4 z4
    obtain ⟨av, cv, lv, rfl, s5, s5s, s5l⟩ := strs_part t5 z5
    obtain ⟨ai, ci, li, rfl, s6, s6l⟩ := ints_part t6 z6
    exact ⟨⟨b0, b1, b2, b3, lk, lv, li⟩, ⟨ak, ck, av, cv, ai, ci⟩, rfl, s4, s5, s6, by simpa [reachBytes] using w3, s4s, s5s, s4l, s5l, s6l⟩
set_option maxRecDepth 100000 in
theorem slot_in {fuel : Nat} {cs : List Value} {x : DataW H × List MemPlace} (hlen : cs.length = 8) (h : DataW.trod enc Try.prog w 0 (fun _ => true) true fuel 42 cs = some x) (hz : ∀ z ∈ x.1.weights Try.prog 42, z ≤ reachBytes) : ∃ s : Sl, cs = slC s ∧ Nod w s.nd s.pt := by
  obtain ⟨xs, n', _, hx, _, hxl, hfl⟩ := DataW.trod_struct Try.underlying42 h
  have t0 := hfl 0 _ rfl
  have t1 := hfl 1 _ rfl
  match xs, hxl with
  | [y0, y1], _ =>
  match cs, hlen with
  | [c0, c1, c2, c3, c4, c5, c6, c7], _ =>
    simp [cellsI, cellsN] at t0 t1
    have hd : x.1 = .agg [y0.1, y1.1] := by simpa using congrArg Prod.fst hx
    rw [hd] at hz
    simp only [DataW.weights, Try.underlying42] at hz
    have z1 : ∀ z ∈ y1.1.weights Try.prog 40, z ≤ reachBytes := fun z h => hz z (DataW.weights_mem_each (j := 1) rfl rfl z h)
    obtain ⟨b0, e0, _, _⟩ := DataW.trod_int Try.underlying3 t0
    simp only [List.cons.injEq, and_true] at e0
    subst e0
    obtain ⟨n, p, e1, hn⟩ := node_in t1 z1
    exact ⟨⟨b0, n, p⟩, by rw [e1]; rfl, hn⟩
def sl0 : Sl := ⟨0, zn, zp⟩
set_option maxRecDepth 100000 in
theorem slots_open {fuel len cap : Nat} {a : Option Addr} {d : DataW H} {p : List MemPlace}
    (h : DataW.trod enc Try.prog w 0 (fun _ => true) true fuel 22 [.slice a len cap] = some (d, p)) (hz : ∀ z ∈ d.weights Try.prog 22, z ≤ reachBytes) :
    ∃ ls : List Sl, len = ls.length ∧ Slots w a cap ls := by
  rcases open_slice Try.underlying22 h with ⟨hcs, hx⟩ | ⟨x, l, c, m, n, D, Pl, hcs, _, hl, hm, hmm, hx, heach⟩
  · simp at hcs
    obtain ⟨rfl, rfl, rfl⟩ := hcs
    exact ⟨[], rfl, ⟨Nat.le_refl _, by omega, .inl rfl, (fun s hs => by cases hs)⟩⟩
  · simp at hcs
    obtain ⟨rfl, rfl, rfl⟩ := hcs
    simp only [if_true] at hmm
    subst hmm
    rw [cellsSl] at heach
    have hd : d = .slice ((List.range len).map D) ((List.range (m - len)).map fun j => D (len + j)) := by simpa using congrArg Prod.fst hx
    rw [hd] at hz
    simp only [DataW.weights, Try.underlying22] at hz
    have hzi : ∀ i, i < len → ∀ z ∈ (D i).weights Try.prog 42, z ≤ reachBytes := fun i hi z h =>
      hz z (by simp only [List.mem_cons, List.mem_append]; exact .inr (.inl (weights_all (List.mem_map.2 ⟨i, List.mem_range.2 hi, rfl⟩) z h)))
    have each : ∀ i, i < len → ∃ r : Sl, (∀ j v, (slC r)[j]? = some v → w.cell? (x.add (i * 8 + j)) = some v) ∧ Nod w r.nd r.pt := by
      intro i hi
      obtain ⟨cs', hc, ht'⟩ := heach i (by omega)
      obtain ⟨_, hlen, hcell⟩ := World.cells?_some hc
      obtain ⟨r, hr, hN⟩ := slot_in hlen ht' (hzi i hi)
      refine ⟨r, fun j v hv => ?_, hN⟩
      have hj : j < 8 := by have := (List.getElem?_eq_some_iff.1 hv).1; rwa [slC_length] at this
      have z := hcell j (by omega)
      rw [add_add] at z
      rw [z, hr]
      exact hv
    have inh : Inhabited Sl := ⟨sl0⟩
    obtain ⟨f, hf⟩ := choose_lt (α := Sl) each
    have hget : ∀ i s, ((List.range len).map f)[i]? = some s → i < len ∧ s = f i := by
      intro i s hs
      have hi : i < len := by have := (List.getElem?_eq_some_iff.1 hs).1; simpa using this
      refine ⟨hi, ?_⟩
      simp [hi] at hs
      exact hs.symm
    refine ⟨(List.range len).map f, by simp, ⟨by simpa using hl, by unfold maxLen at hm; omega, ?_, ?_⟩⟩
    · by_cases h0 : len = 0
      · exact .inl (by simp [h0])
      · obtain ⟨b, off, spot⟩ := x
        have hc := (hf 0 (by omega)).1 0 _ rfl
        have hspot : spot = none := by simpa [Addr.add] using World.cell?_spot hc
        subst hspot
        refine .inr ⟨b, off, rfl, World.block_lt_of_cell? w ⟨b, off + (0 * 8 + 0), none⟩ (by rw [Addr.add_lit] at hc; exact hc), fun i s hs => ?_⟩
        obtain ⟨hi, rfl⟩ := hget i s hs
        intro j v hv
        have := (hf i (by omega)).1 j v hv
        rw [Addr.add_lit, ← Nat.add_assoc] at this
        exact this
    · intro s hs
      obtain ⟨i, hi, rfl⟩ := List.mem_map.1 hs
      exact (hf i (List.mem_range.1 hi)).2
set_option maxRecDepth 100000 in
theorem rec_in2 {fuel : Nat} {cs : List Value} {x : DataW H × List MemPlace} (hlen : cs.length = 8) (h : DataW.trod enc Try.prog w 0 (fun _ => true) true fuel 30 cs = some x) (hz : ∀ z ∈ x.1.weights Try.prog 30, z ≤ reachBytes) : ∃ r : Rec, cs = recC r ∧ r.key.size ≤ 140737488351232 ∧ r.val.size ≤ 140737488351232 := by
  obtain ⟨xs, n', _, hx, _, hxl, hfl⟩ := DataW.trod_struct Try.underlying30 h
  have t0 := hfl 0 _ rfl
  have t1 := hfl 1 _ rfl
  have t2 := hfl 2 _ rfl
  have t3 := hfl 3 _ rfl
  have t4 := hfl 4 _ rfl
  have t5 := hfl 5 _ rfl
  have t6 := hfl 6 _ rfl
  have t7 := hfl 7 _ rfl
  match xs, hxl with
  | [y0, y1, y2, y3, y4, y5, y6, y7], _ =>
  match cs, hlen with
  | [c0, c1, c2, c3, c4, c5, c6, c7], _ =>
    simp [rcellsI, rcellsS] at t0 t1 t2 t3 t4 t5 t6 t7
    have hd : x.1 = .agg [y0.1, y1.1, y2.1, y3.1, y4.1, y5.1, y6.1, y7.1] := by simpa using congrArg Prod.fst hx
    rw [hd] at hz
    simp only [DataW.weights, Try.underlying30] at hz
    have z6 : ∀ z ∈ y6.1.weights Try.prog 9, z ≤ reachBytes := fun z h => hz z (DataW.weights_mem_each (j := 6) rfl rfl z h)
    have z7 : ∀ z ∈ y7.1.weights Try.prog 9, z ≤ reachBytes := fun z h => hz z (DataW.weights_mem_each (j := 7) rfl rfl z h)
    obtain ⟨b0, e0, _, _⟩ := DataW.trod_int Try.underlying3 t0
    obtain ⟨b1, e1, _, _⟩ := DataW.trod_int Try.underlying3 t1
    obtain ⟨b2, e2, _, _⟩ := DataW.trod_int Try.underlying3 t2
    obtain ⟨b3, e3, _, _⟩ := DataW.trod_int Try.underlying3 t3
    obtain ⟨b4, e4, _, _⟩ := DataW.trod_int Try.underlying3 t4
    obtain ⟨b5, e5, _, _⟩ := DataW.trod_int Try.underlying3 t5
    obtain ⟨b6, e6, e6', _⟩ := DataW.trod_string Try.underlying9 t6
    obtain ⟨b7, e7, e7', _⟩ := DataW.trod_string Try.underlying9 t7
    simp only [List.cons.injEq, and_true] at e0 e1 e2 e3 e4 e5 e6 e7
    subst e0 e1 e2 e3 e4 e5 e6 e7
    rw [e6'] at z6
    rw [e7'] at z7
    have w6 := z6 b6.data.toList.length (by simp [DataW.weights])
    have w7 := z7 b7.data.toList.length (by simp [DataW.weights])
    rw [← Lib.size_eq] at w6 w7
    exact ⟨⟨b0, b1, b2, b3, b4, b5, b6, b7⟩, rfl, by simpa [reachBytes] using w6, by simpa [reachBytes] using w7⟩
set_option maxRecDepth 100000 in
theorem recs_open2 {fuel len cap : Nat} {a : Option Addr} {d : DataW H} {p : List MemPlace}
    (h : DataW.trod enc Try.prog w 0 (fun _ => true) true fuel 23 [.slice a len cap] = some (d, p)) (hz : ∀ z ∈ d.weights Try.prog 23, z ≤ reachBytes) :
    ∃ ls : List Rec, len = ls.length ∧ len * 80 ≤ 140737488355328 ∧ Recs w a cap ls ∧ ∀ r ∈ ls, r.key.size ≤ 140737488351232 ∧ r.val.size ≤ 140737488351232 := by
  rcases open_slice Try.underlying23 h with ⟨hcs, hx⟩ | ⟨x, l, c, m, n, D, Pl, hcs, _, hl, hm, hmm, hx, heach⟩
  · simp at hcs
    obtain ⟨rfl, rfl, rfl⟩ := hcs
    exact ⟨[], rfl, by omega, ⟨Nat.le_refl _, by omega, .inl rfl⟩, (fun r hr => by cases hr)⟩
  · simp at hcs
    obtain ⟨rfl, rfl, rfl⟩ := hcs
    simp only [if_true] at hmm
    subst hmm
    rw [rcellsR] at heach
    have hd : d = .slice ((List.range len).map D) ((List.range (m - len)).map fun j => D (len + j)) := by simpa using congrArg Prod.fst hx
    rw [hd] at hz
    simp only [DataW.weights, Try.underlying23] at hz
    have hlen8 : len * 80 ≤ 140737488355328 := by
      have := hz _ (List.mem_cons_self ..)
      rw [bytesRc] at this
      simp [reachBytes] at this
      omega
    have hzi : ∀ i, i < len → ∀ z ∈ (D i).weights Try.prog 30, z ≤ reachBytes := fun i hi z h =>
      hz z (by simp only [List.mem_cons, List.mem_append]; exact .inr (.inl (weights_all (List.mem_map.2 ⟨i, List.mem_range.2 hi, rfl⟩) z h)))
    have each : ∀ i, i < len → ∃ r : Rec, (∀ j v, (recC r)[j]? = some v → w.cell? (x.add (i * 8 + j)) = some v) ∧ r.key.size ≤ 140737488351232 ∧ r.val.size ≤ 140737488351232 := by
      intro i hi
      obtain ⟨cs', hc, ht'⟩ := heach i (by omega)
      obtain ⟨_, hlen, hcell⟩ := World.cells?_some hc
      obtain ⟨r, hr, hN⟩ := rec_in2 hlen ht' (hzi i hi)
      refine ⟨r, fun j v hv => ?_, hN⟩
      have hj : j < 8 := by have := (List.getElem?_eq_some_iff.1 hv).1; rwa [recC_length] at this
      have z := hcell j (by omega)
      rw [add_add] at z
      rw [z, hr]
      exact hv
    have inh : Inhabited Rec := ⟨rec0⟩
    obtain ⟨f, hf⟩ := choose_lt (α := Rec) each
    have hget : ∀ i s, ((List.range len).map f)[i]? = some s → i < len ∧ s = f i := by
      intro i s hs
      have hi : i < len := by have := (List.getElem?_eq_some_iff.1 hs).1; simpa using this
      refine ⟨hi, ?_⟩
      simp [hi] at hs
      exact hs.symm
    refine ⟨(List.range len).map f, by simp, hlen8, ⟨by simpa using hl, by unfold maxLen at hm; omega, ?_⟩, ?_⟩
    · by_cases h0 : len = 0
      · exact .inl (by simp [h0])
      · obtain ⟨b, off, spot⟩ := x
        have hc := (hf 0 (by omega)).1 0 _ rfl
        have hspot : spot = none := by simpa [Addr.add] using World.cell?_spot hc
        subst hspot
        refine .inr ⟨b, off, rfl, World.block_lt_of_cell? w ⟨b, off + (0 * 8 + 0), none⟩ (by rw [Addr.add_lit] at hc; exact hc), fun i s hs => ?_⟩
        obtain ⟨hi, rfl⟩ := hget i s hs
        intro j v hv
        have := (hf i (by omega)).1 j v hv
        rw [Addr.add_lit, ← Nat.add_assoc] at this
        exact this
    · intro s hs
      obtain ⟨i, hi, rfl⟩ := List.mem_map.1 hs
      exact (hf i (List.mem_range.1 hi)).2
end
end Go.Proofs.Ytlgceleelhppdaa

/- Records gathered page by page. -/
namespace Go.Proofs.Ytlgceleelhppdaa
open Go.RowKit

def onP (x : Int) (r : Rec) : Bool := r.page == x
/-- The records of the pages 1 to q, page by page. -/
def byQ (rs : List Rec) : Nat → List Rec
  | 0 => []
  | q + 1 => byQ rs q ++ rs.filter (onP ((q : Int) + 1))
def inQ (q : Nat) (r : Rec) : Bool := decide (1 ≤ r.page ∧ r.page ≤ (q : Int))
theorem byQ_mem {rs : List Rec} {q : Nat} {r : Rec} (h : r ∈ byQ rs q) : r ∈ rs ∧ 1 ≤ r.page ∧ r.page ≤ (q : Int) := by
  induction q with
  | zero => cases h
  | succ q ih =>
    unfold byQ at h
    rcases List.mem_append.1 h with h | h
    · have := ih h; exact ⟨this.1, this.2.1, by omega⟩
    · obtain ⟨h1, h2⟩ := List.mem_filter.1 h
      have : r.page = (q : Int) + 1 := by simpa [onP] using h2
      exact ⟨h1, by omega, by omega⟩
theorem count_split (rs : List Rec) (q : Nat) : (rs.filter (inQ q)).length + (rs.filter (onP ((q : Int) + 1))).length = (rs.filter (inQ (q + 1))).length := by
  induction rs with
  | nil => rfl
  | cons r rs ih =>
    by_cases h1 : inQ q r = true
    · have h2 : onP ((q : Int) + 1) r = false := by simp [inQ, onP] at h1 ⊢; omega
      have h3 : inQ (q + 1) r = true := by simp [inQ] at h1 ⊢; omega
      simp only [List.filter_cons, h1, h2, h3, if_true, List.length_cons]
      simp; omega
    · by_cases h2 : onP ((q : Int) + 1) r = true
      · have h3 : inQ (q + 1) r = true := by simp [inQ, onP] at h2 ⊢; omega
        simp only [List.filter_cons, h1, h2, h3, if_true, List.length_cons]
        simp; omega
      · have h3 : ¬ inQ (q + 1) r = true := by simp [inQ, onP] at h1 h2 ⊢; omega
        simp only [List.filter_cons, h1, h2, h3]
        simpa using ih
theorem byQ_length (rs : List Rec) (q : Nat) : (byQ rs q).length = (rs.filter (inQ q)).length := by
  induction q with
  | zero =>
    have : rs.filter (inQ 0) = [] := by
      rw [List.filter_eq_nil_iff]; intro r _ f; simp [inQ] at f; omega
    rw [this]; rfl
  | succ q ih => unfold byQ; rw [List.length_append, ih]; exact count_split rs q
theorem byQ_le (rs : List Rec) (q : Nat) : (byQ rs q).length ≤ rs.length := by rw [byQ_length]; exact List.length_filter_le _ _
/-- While page q + 1 is gathered. -/
def byJ (rs : List Rec) (q j : Nat) : List Rec := byQ rs q ++ (rs.take j).filter (onP ((q : Int) + 1))
theorem byJ_zero (rs : List Rec) (q : Nat) : byJ rs q 0 = byQ rs q := by simp [byJ]
theorem byJ_end (rs : List Rec) (q : Nat) : byJ rs q rs.length = byQ rs (q + 1) := by unfold byJ; rw [List.take_length]; rfl
theorem byJ_le (rs : List Rec) (q j : Nat) : (byJ rs q j).length ≤ rs.length := by
  have h1 := byQ_le rs (q + 1)
  unfold byQ at h1
  unfold byJ
  rw [List.length_append] at h1 ⊢
  have : ((rs.take j).filter (onP ((q : Int) + 1))).length ≤ (rs.filter (onP ((q : Int) + 1))).length := by
    conv => rhs; rw [← List.take_append_drop j rs]
    rw [List.filter_append, List.length_append]; omega
  omega
theorem byJ_yes {rs : List Rec} {q j : Nat} {r : Rec} (h : rs[j]? = some r) (hp : r.page = (q : Int) + 1) : byJ rs q (j + 1) = byJ rs q j ++ [r] := by
  unfold byJ
  rw [take_snocR h, List.filter_append, ← List.append_assoc]
  congr 1
  simp [onP, hp]
theorem byJ_no {rs : List Rec} {q j : Nat} {r : Rec} (h : rs[j]? = some r) (hp : r.page ≠ (q : Int) + 1) : byJ rs q (j + 1) = byJ rs q j := by
  unfold byJ
  rw [take_snocR h, List.filter_append]
  have : [r].filter (onP ((q : Int) + 1)) = [] := by simp [onP, hp]
  rw [this, List.append_nil]
theorem byQ_filter (rs : List Rec) (q : Nat) (x : Int) : (byQ rs q).filter (onP x) = if 1 ≤ x ∧ x ≤ (q : Int) then rs.filter (onP x) else [] := by
  induction q with
  | zero => rw [if_neg (by omega)]; rfl
  | succ q ih =>
    unfold byQ
    rw [List.filter_append, ih]
    have hf : (rs.filter (onP ((q : Int) + 1))).filter (onP x) = if x = (q : Int) + 1 then rs.filter (onP x) else [] := by
      rw [List.filter_filter]
      split
      · rename_i e; subst e; simp
      · rename_i e
        rw [List.filter_eq_nil_iff]
        intro r _ f
        simp [onP] at f
        omega
    rw [hf]
    by_cases h1 : 1 ≤ x ∧ x ≤ (q : Int)
    · rw [if_pos h1, if_neg (by omega), if_pos (by omega), List.append_nil]
    · rw [if_neg h1]
      by_cases h2 : x = (q : Int) + 1
      · rw [if_pos h2, if_pos (by omega), List.nil_append]
      · rw [if_neg h2, if_neg (by omega)]; rfl
/-- What was gathered replays to the same pages. -/
theorem by_done {ps qs : List (Int × Nd)} {rs : List Rec} {q : Nat} (h : PsOk ps) (k : Srt qs) (hq : q ≤ 4096) (hall : q = 4096 ∨ (byQ rs q).length = rs.length) (e : rplP ps rs = (qs, 0)) : rplP ps (byQ rs q) = (qs, 0) := by
  refine by_page ps qs rs _ h k (fun x hx => ?_) (fun r hr => by have := byQ_mem hr; omega) e
  show (byQ rs q).filter (onP x) = rs.filter (onP x)
  rw [byQ_filter]
  by_cases h1 : 1 ≤ x ∧ x ≤ (q : Int)
  · rw [if_pos h1]
  · rw [if_neg h1]
    rcases hall with rfl | hall
    · omega
    · rw [byQ_length] at hall
      symm
      rw [List.filter_eq_nil_iff]
      intro r hr f
      have : inQ q r = true := by
        have := List.length_filter_eq_length_iff.1 hall r hr
        exact this
      simp [inQ, onP] at this f
      omega
theorem rpl_ok {ps : List (Int × Nd)} (h : PsOk ps) (rs : List Rec) : PsOk (rplP ps rs).1 := by
  induction rs generalizing ps with
  | nil => exact h
  | cons r rs ih =>
    unfold rplP
    split
    · rename_i h0; exact ih (h.step r h0)
    · exact ⟨List.Pairwise.nil, (fun x hx => by cases hx)⟩
theorem rplA_ok {ps qs : List (Int × Nd)} {rs : List Rec} (e : rplA ps rs = (qs, 0)) : ariB 0 ps = true ∧ PsOk ps ∧ PsOk qs ∧ rplP ps rs = (qs, 0) := by
  unfold rplA at e
  by_cases h : ariB 0 ps = true
  · rw [if_pos h] at e
    have hp := ari_psok h
    have := rpl_ok hp rs
    rw [e] at this
    exact ⟨h, hp, this, e⟩
  · rw [if_neg h] at e
    simp only [Prod.mk.injEq] at e
    exact absurd e.2 (by decide)
theorem Has.recsR {w : World} {a : Option Addr} {n c : Nat} {ls : List Rec} (hn : n = ls.length) (h : Has w 8 (.slice a n c) n (ls.flatMap recC)) : Recs w a c ls := by
  subst hn
  obtain ⟨a', c', he, h1, h2⟩ := h.slice
  simp only [Value.slice.injEq, true_and] at he
  obtain ⟨rfl, rfl⟩ := he
  refine ⟨h1, by unfold maxLen at h2; exact h2, ?_⟩
  by_cases h0 : ls.length = 0
  · exact .inl (List.length_eq_zero_iff.1 h0)
  · obtain ⟨g, cap, hv, hg, _⟩ := h.form (by omega)
    simp only [Value.slice.injEq, true_and] at hv
    obtain ⟨rfl, rfl⟩ := hv
    refine .inr ⟨g, 0, rfl, hg, fun i m hm => ?_⟩
    rw [Nat.zero_add]
    exact h.elem recC_length hm
theorem riseR_mem {rs : List Rec} {r : Rec} (h : r ∈ riseR rs) : ∃ t ∈ rs, r.key = t.key ∧ r.val = t.val := by
  obtain ⟨i, hi⟩ := List.getElem?_of_mem h
  unfold riseR at hi
  rw [List.getElem?_mapIdx] at hi
  cases ht : rs[i]? with
  | none => rw [ht] at hi; cases hi
  | some t =>
    rw [ht] at hi
    simp only [Option.map_some, Option.some.injEq] at hi
    exact ⟨t, List.mem_of_getElem? ht, by rw [← hi]; exact ⟨rfl, rfl⟩⟩
end Go.Proofs.Ytlgceleelhppdaa

/- A record is done once. -/
namespace Go.Proofs.Ytlgceleelhppdaa
open Go.RowKit

def sn0 : Nd := ⟨0, 4, 0, ⟨#[]⟩, [], [], []⟩
def sn1 : Nd := ⟨0, 5, 0, ⟨#[]⟩, [⟨#[97]⟩], [⟨#[120]⟩], []⟩
def sr5 : Rec := ⟨5, 0, 2, 1, 0, 0, ⟨#[97]⟩, ⟨#[120]⟩⟩
theorem s_ap1 : apN sn0 true sr5 = sn1 ∧ apD sn0 true sr5 = true ∧ apE sn0 true sr5 = 0 := by
  refine ⟨?_, ?_, ?_⟩ <;> kernel_rfl
theorem s_ap2 : apN sn1 true sr5 = sn1 ∧ apD sn1 true sr5 = false ∧ apE sn1 true sr5 = 0 := by
  refine ⟨?_, ?_, ?_⟩ <;> kernel_rfl
theorem sn0_nod (w : World) : Nod w sn0 zp := ⟨⟨Nat.le_refl _, by simp [zp], (fun s hs => by cases hs), .inl rfl⟩, ⟨Nat.le_refl _, by simp [zp], (fun s hs => by cases hs), .inl rfl⟩, ⟨Nat.le_refl _, by simp [zp], .inl rfl⟩, by decide, (fun s hs => by cases hs), (fun s hs => by cases hs), by simp [sn0], by simp [sn0], by simp [sn0]⟩
theorem s_call1 (w : World) : Calls Try.prog 13 #[.agg #[.int .i64 0, .int .i64 4, .int .i64 0, .string ⟨#[]⟩, .slice none 0 0, .slice none 0 0, .slice none 0 0], .bool true, .agg #[.int .i64 5, .int .i64 0, .int .i64 2, .int .i64 1, .int .i64 0, .int .i64 0, .string ⟨#[97]⟩, .string ⟨#[120]⟩]] w fun e w' => ∃ q : Pt, e = .returned (.tuple #[.agg #[.int .i64 0, .int .i64 5, .int .i64 0, .string ⟨#[]⟩, .slice q.k 1 q.kc, .slice q.v 1 q.vc, .slice q.i 0 q.ic], .bool true, .int .i64 0]) ∧ Nod w' sn1 q ∧ Fr (fun _ => False) w w' ∧ Nw w q := by
  have h := apply_any sn0 zp true sr5 (by decide) (by decide) w (sn0_nod w)
  rw [s_ap1.1, s_ap1.2.1, s_ap1.2.2] at h
  exact h
theorem s_call2 (q : Pt) (w : World) (hn : Nod w sn1 q) : Calls Try.prog 13 #[.agg #[.int .i64 0, .int .i64 5, .int .i64 0, .string ⟨#[]⟩, .slice q.k 1 q.kc, .slice q.v 1 q.vc, .slice q.i 0 q.ic], .bool true, .agg #[.int .i64 5, .int .i64 0, .int .i64 2, .int .i64 1, .int .i64 0, .int .i64 0, .string ⟨#[97]⟩, .string ⟨#[120]⟩]] w fun e w' => ∃ q : Pt, e = .returned (.tuple #[.agg #[.int .i64 0, .int .i64 5, .int .i64 0, .string ⟨#[]⟩, .slice q.k 1 q.kc, .slice q.v 1 q.vc, .slice q.i 0 q.ic], .bool false, .int .i64 0]) ∧ Nod w' sn1 q ∧ Fr (fun _ => False) w w' ∧ Nw w q := by
  have h := apply_any sn1 q true sr5 (by decide) (by decide) w hn
  rw [s_ap2.1, s_ap2.2.1, s_ap2.2.2] at h
  exact h
theorem s_plain (p q : Pt) (w : World) (h1 : Nod w sn1 p) (h2 : Nod w sn1 q) : Calls Try.prog 14 #[.agg #[.int .i64 0, .int .i64 5, .int .i64 0, .string ⟨#[]⟩, .slice p.k 1 p.kc, .slice p.v 1 p.vc, .slice p.i 0 p.ic], .agg #[.int .i64 0, .int .i64 5, .int .i64 0, .string ⟨#[]⟩, .slice q.k 1 q.kc, .slice q.v 1 q.vc, .slice q.i 0 q.ic]] w fun e w' => e = .returned (.bool true) ∧ Fr (fun _ => False) w w' := plain_same sn1 p q w h1 h2
set_option maxRecDepth 100000 in
set_option maxHeartbeats 4000000 in
theorem dspeaks_any (w : World) : Calls Try.prog 6 #[] w fun e w' => e = .returned (.bool true) ∧ Fr (fun _ => False) w w' := by
  have f0 := Fr.box w (.cells #[.int .i64 5, .int .i64 0, .int .i64 2, .int .i64 1, .int .i64 0, .int .i64 0, .string ⟨#[97]⟩, .string ⟨#[120]⟩] 30)
  have hb0 := heap_alloc_new w (.cells #[.int .i64 5, .int .i64 0, .int .i64 2, .int .i64 1, .int .i64 0, .int .i64 0, .string ⟨#[97]⟩, .string ⟨#[120]⟩] 30)
  obtain ⟨⟨r0, r1, r2, r3, r4, r5, r6, r7⟩, _⟩ := rec_cells hb0
  go_enter Try.func6, Try.ntmps6
  go_wp2_with fail
  refine (s_call1 _).mono ?_
  rintro e w1 ⟨p, rfl, nd1, f1, _⟩
  clear r0 r1 r2 r3 r4 r5 r6 r7
  have fa := Fr.box w1 (.cells #[.int .i64 0, .int .i64 5, .int .i64 0, .string ⟨#[]⟩, .slice p.k 1 p.kc, .slice p.v 1 p.vc, .slice p.i 0 p.ic] 40)
  have hA := heap_alloc_new w1 (.cells #[.int .i64 0, .int .i64 5, .int .i64 0, .string ⟨#[]⟩, .slice p.k 1 p.kc, .slice p.v 1 p.vc, .slice p.i 0 p.ic] 40)
  have hb1 := fa.blk (f1.blk hb0 (fun f => f)) (fun f => f)
  obtain ⟨⟨r0, r1, r2, r3, r4, r5, r6, r7⟩, _⟩ := rec_cells hb1
  obtain ⟨⟨a0, a1, a2, a3, a4, a5, a6⟩, _⟩ := node_cells hA
  go_wp2_with fail
  refine (s_call2 p _ (nd1.same fa)).mono ?_
  rintro e w2 ⟨q, rfl, nd2, f2, _⟩
  clear r0 r1 r2 r3 r4 r5 r6 r7 a0 a1 a2 a3 a4 a5 a6
  have fc := Fr.box w2 (.cells #[.int .i64 0, .int .i64 5, .int .i64 0, .string ⟨#[]⟩, .slice q.k 1 q.kc, .slice q.v 1 q.vc, .slice q.i 0 q.ic] 40)
  have hA2 := fc.blk (f2.blk hA (fun f => f)) (fun f => f)
  obtain ⟨⟨a0, a1, a2, a3, a4, a5, a6⟩, _⟩ := node_cells hA2
  obtain ⟨⟨b0, b1, b2, b3, b4, b5, b6⟩, _⟩ := node_cells (heap_alloc_new w2 (.cells #[.int .i64 0, .int .i64 5, .int .i64 0, .string ⟨#[]⟩, .slice q.k 1 q.kc, .slice q.v 1 q.vc, .slice q.i 0 q.ic] 40))
  have nd1' := ((nd1.same fa).same f2).same fc
  have nd2' := nd2.same fc
  go_wp2_with fail
  refine (s_plain p q _ nd1' nd2').mono ?_
  rintro e w3 ⟨rfl, f3⟩
  go_wp2
  go_ret
  exact ⟨rfl, ((((f0.seq' f1).seq' fa).seq' f2).seq' fc).seq' f3⟩
end Go.Proofs.Ytlgceleelhppdaa
