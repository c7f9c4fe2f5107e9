
/- NdSplit2, NdCut. -/
import Derived.Test.YtnckmajfmkkpgaaGreatBB18
import Derived.Test.YtnckmajfmkkpgaaGreatBB15
/- What Split tells. -/
namespace Go.Proofs.YtnckmajfmkkpgaaGreat
open Go.RowKit

def splE (n : Nd) : Int := if rightB n = true then (if n.keys.length < 2 then 7 else 0) else 70
/-- The parting key. -/
def splS (n : Nd) (m : Nat) : ByteArray := if n.lev = 0 then (n.keys.getD m ByteArray.empty).extract 0 (cmn (bsOf (n.keys.getD (m - 1) ByteArray.empty)) (bsOf (n.keys.getD m ByteArray.empty)) + 1) else n.keys.getD m ByteArray.empty
def SplOut (n : Nd) (w : World) (e : Ending) (w' : World) : Prop :=
  Fr (fun _ => False) w w' ∧ ((splE n ≠ 0 ∧ e = .returned (.tuple #[.string ⟨#[]⟩, .int .i64 (splE n)])) ∨ (splE n = 0 ∧ Rt n ∧ ∃ m, Mid n m ∧ e = .returned (.tuple #[.string (splS n m), .int .i64 0])))
theorem cpl_m1 {a b : List Nat} (h : cpl a b < 0) : cpl a b = -1 := by
  rcases cpl_vals a b with h1 | h1 | h1 <;> omega
end Go.Proofs.YtnckmajfmkkpgaaGreat

/- Cutting slices of texts and of numbers, and copies of them. -/
namespace Go.Proofs.YtnckmajfmkkpgaaGreat
open Go.RowKit

/-- Where a part of a slice lies. -/
def cutA (a : Option Addr) (c b : Nat) : Option Addr := if c = b then a else a.map (·.add (b * 1))
def slS (v : Value) (b e : Int) := Instr.sliceAt 25 v (some (.int .i64 b)) (some (.int .i64 e)) none
def slI (v : Value) (b e : Int) := Instr.sliceAt 26 v (some (.int .i64 b)) (some (.int .i64 e)) none
theorem slS_eq (v : Value) (b e : Int) : Instr.sliceAt 25 v (some (.int .i64 b)) (some (.int .i64 e)) none = slS v b e := by unfold slS; rfl
theorem slI_eq (v : Value) (b e : Int) : Instr.sliceAt 26 v (some (.int .i64 b)) (some (.int .i64 e)) none = slI v b e := by unfold slI; rfl
theorem sizeS (w : World) : (sizeOf 9).run Tryz.prog w = .ok 1 w := by
  obtain ⟨i0, hi, hz0, hz1, hz2⟩ := info_parts infoStr
  simp [sizeOf, typeInfo, hi, hz1]
theorem sizeI (w : World) : (sizeOf 3).run Tryz.prog w = .ok 1 w := by
  obtain ⟨i0, hi, hz0, hz1, hz2⟩ := info_parts infoInt
  simp [sizeOf, typeInfo, hi, hz1]
theorem run_slS (a : Option Addr) (n c b e : Nat) (h1 : b ≤ e) (h2 : e ≤ c) (w : World) : (slS (.slice a n c) (b : Int) (e : Int)).run Tryz.prog w = .ok (.slice (cutA a c b) (e - b) (c - b)) w := by
  unfold slS
  have hu : Tryz.prog.underlying 25 = some (.slice (Tryz.prog.elem 25)) := by kernel_rfl
  have he : Tryz.prog.elem 25 = 9 := by kernel_rfl
  rw [run_sliceAt_slice (h := hu), run_slice_lh (ht := hu) (h0 := by omega) (h1 := by omega) (h2 := by omega), he, sizeS]
  simp [Result.andThen, sliced, cutA]
theorem run_slI (a : Option Addr) (n c b e : Nat) (h1 : b ≤ e) (h2 : e ≤ c) (w : World) : (slI (.slice a n c) (b : Int) (e : Int)).run Tryz.prog w = .ok (.slice (cutA a c b) (e - b) (c - b)) w := by
  unfold slI
  have hu : Tryz.prog.underlying 26 = some (.slice (Tryz.prog.elem 26)) := by kernel_rfl
  have he : Tryz.prog.elem 26 = 3 := by kernel_rfl
  rw [run_sliceAt_slice (h := hu), run_slice_lh (ht := hu) (h0 := by omega) (h1 := by omega) (h2 := by omega), he, sizeI]
  simp [Result.andThen, sliced, cutA]
theorem cut_s {w : World} {a : Option Addr} {c : Nat} {l : List ByteArray} (h : Strs w a c l) (b e : Nat) (h1 : b ≤ e) (h2 : e ≤ l.length) : Strs w (cutA a c b) (c - b) ((l.take e).drop b) := by
  have hl := h.le
  have hlen : ((l.take e).drop b).length = e - b := by simp; omega
  refine ⟨by rw [hlen]; omega, by have := h.max; omega, fun s hs => h.text s (List.mem_of_mem_take (List.mem_of_mem_drop hs)), ?_⟩
  by_cases hbe : b = e
  · exact .inl (List.eq_nil_of_length_eq_zero (by rw [hlen]; omega))
  · rcases h.at_ with h0 | ⟨bk, off, rfl, hb, hc⟩
    · rw [h0] at h2; simp at h2; omega
    · refine .inr ⟨bk, off + b, ?_, hb, fun i hi => ?_⟩
      · unfold cutA; rw [if_neg (by omega)]; simp [Addr.add]
      · rw [hlen] at hi
        have := hc (b + i) (by omega)
        rw [Nat.add_assoc, this, List.getD_eq_getElem?_getD, List.getD_eq_getElem?_getD, List.getElem?_drop, List.getElem?_take, if_pos (by omega)]
theorem cut_i {w : World} {a : Option Addr} {c : Nat} {l : List Int} (h : Ints w a c l) (b e : Nat) (h1 : b ≤ e) (h2 : e ≤ l.length) : Ints w (cutA a c b) (c - b) ((l.take e).drop b) := by
  have hl := h.le
  have hlen : ((l.take e).drop b).length = e - b := by simp; omega
  refine ⟨by rw [hlen]; omega, by have := h.max; omega, ?_⟩
  by_cases hbe : b = e
  · exact .inl (List.eq_nil_of_length_eq_zero (by rw [hlen]; omega))
  · rcases h.at_ with h0 | ⟨bk, off, rfl, hb, hc⟩
    · rw [h0] at h2; simp at h2; omega
    · refine .inr ⟨bk, off + b, ?_, hb, fun i hi => ?_⟩
      · unfold cutA; rw [if_neg (by omega)]; simp [Addr.add]
      · rw [hlen] at hi
        have := hc (b + i) (by omega)
        rw [Nat.add_assoc, this, List.getD_eq_getElem?_getD, List.getD_eq_getElem?_getD, List.getElem?_drop, List.getElem?_take, if_pos (by omega)]
theorem Strs.from {w : World} {a : Option Addr} {c : Nat} {l : List ByteArray} (h : Strs w a c l) : From w a (strCells l) := by
  rcases h.at_ with h0 | ⟨b, off, rfl, _, hc⟩
  · exact .inl (by rw [h0]; rfl)
  · refine .inr ⟨b, off, rfl, fun j u hu => ?_⟩
    have hj : j < l.length := by have := (List.getElem?_eq_some_iff.1 hu).1; simpa [strCells] using this
    rw [strCells, List.getElem?_map, List.getElem?_eq_getElem hj] at hu
    rw [hc j hj, List.getD_eq_getElem?_getD, List.getElem?_eq_getElem hj]; exact hu
theorem Ints.from {w : World} {a : Option Addr} {c : Nat} {l : List Int} (h : Ints w a c l) : From w a (intCells l) := by
  rcases h.at_ with h0 | ⟨b, off, rfl, _, hc⟩
  · exact .inl (by rw [h0]; rfl)
  · refine .inr ⟨b, off, rfl, fun j u hu => ?_⟩
    have hj : j < l.length := by have := (List.getElem?_eq_some_iff.1 hu).1; simpa [intCells] using this
    rw [intCells, List.getElem?_map, List.getElem?_eq_getElem hj] at hu
    rw [hc j hj, List.getD_eq_getElem?_getD, List.getElem?_eq_getElem hj]; exact hu
theorem has_empty (w : World) (size : Nat) (e : TypeId) : Has (w.alloc (.cells #[] e)) size (.slice (some ⟨w.heap.size, 0, none⟩) 0 0) 0 [] :=
  ⟨by simp, .inr ⟨_, _, rfl, by simp, Nat.le_refl _, by decide, (fun j hj => by omega), (fun j v hv => by cases hv)⟩⟩
/-- A copy of texts. -/
def CpS (w : World) (l : List ByteArray) (e : Ending) (w' : World) : Prop :=
  ∃ a' c', e = .returned (.slice a' l.length c') ∧ Has w' 1 (.slice a' l.length c') l.length (strCells l) ∧ Fr (fun _ => False) w w' ∧ (∀ k, (Value.slice a' l.length c').ownBlock = some k → w.heap.size ≤ k)
def CpI (w : World) (l : List Int) (e : Ending) (w' : World) : Prop :=
  ∃ a' c', e = .returned (.slice a' l.length c') ∧ Has w' 1 (.slice a' l.length c') l.length (intCells l) ∧ Fr (fun _ => False) w w' ∧ (∀ k, (Value.slice a' l.length c').ownBlock = some k → w.heap.size ≤ k)
set_option maxRecDepth 100000 in
set_option maxHeartbeats 1000000 in
theorem clone_s (a : Option Addr) (n c : Nat) (l : List ByteArray) (w : World) (hr : Strs w a c l) (hn : n = l.length) (hs : l.length ≤ 100000) : Calls Tryz.prog 29 #[.slice a n c] w fun e w' => CpS w l e w' := by
  obtain ⟨i0, hi, hz0, hz1, hz2⟩ := info_parts infoStr
  have hq := fun W => Lib.run_eql_slice_nil (P := Tryz.prog) W 25 9 a n c 0 0 Tryz.underlying25
  have hsl : (strCells l).length = l.length := by simp [strCells]
  cases a with
  | none =>
    have hl : l = [] := by
      rcases hr.at_ with h | ⟨_, _, h, _⟩
      · exact h
      · cases h
    subst hl
    obtain rfl : n = 0 := by simpa using hn
    clear hn hsl hs
    go_enter Tryz.func29, Tryz.ntmps29
    go_wp2
    go_ret
    exact ⟨none, 0, rfl, Has.nil _ _, Fr.refl _ _, fun k hk => by cases hk⟩
  | some x =>
    have HE : Hid (Has (w.alloc (.cells #[] 9)) 1 (.slice (some ⟨w.heap.size, 0, none⟩) 0 0) 0 []) := has_empty w 1 _
    have f1 : Fr (fun _ => False) w (w.alloc (.cells #[] 9)) := (Fr.refl _ _).alloc _
    have hr1 := (hr.same f1).from
    have HN : Hid (n = l.length) := hn
    have HSL : Hid ((strCells l).length = l.length) := hsl
    have hs' : n ≤ 100000 := by omega
    clear hn hs hsl
    go_enter Tryz.func29, Tryz.ntmps29
    go_wp2_with (at_builtin; refine wpList_append_has _ rfl _ _ 25 25 9 9 rfl i0 _ 1 16 Tryz.underlying25 Tryz.underlying25 hi hz0 hz1 hz2 rfl (by omega) (.slice (some ⟨w.heap.size, 0, none⟩) 0 0) 0 [] rfl HE.out (some x) n c (strCells l) rfl (by rw [HSL.out, HN.out]; omega) hr1 (strCells_one l) (by unfold maxLen; omega) (by omega) ?_; intro am cm w2 hown hfr hat)
    go_ret
    rw [Nat.zero_add, List.nil_append] at hown
    rw [Nat.zero_add] at hat
    rw [HN.out] at hown hat
    refine ⟨am, cm, by rw [← HN.out]; rfl, hown, f1.above hfr ?_, fun k hk => ?_⟩
    · rintro i ⟨e, _⟩
      simp [Value.ownBlock] at e
      omega
    · rw [hk] at hat
      rcases hat with e | e <;> simp [Value.ownBlock] at e <;> omega
set_option maxRecDepth 100000 in
set_option maxHeartbeats 1000000 in
theorem clone_i (a : Option Addr) (n c : Nat) (l : List Int) (w : World) (hr : Ints w a c l) (hn : n = l.length) (hs : l.length ≤ 100000) : Calls Tryz.prog 30 #[.slice a n c] w fun e w' => CpI w l e w' := by
  obtain ⟨i0, hi, hz0, hz1, hz2⟩ := info_parts infoInt
  have hq := fun W => Lib.run_eql_slice_nil (P := Tryz.prog) W 26 3 a n c 0 0 Tryz.underlying26
  have hsl : (intCells l).length = l.length := by simp [intCells]
  cases a with
  | none =>
    have hl : l = [] := by
      rcases hr.at_ with h | ⟨_, _, h, _⟩
      · exact h
      · cases h
    subst hl
    obtain rfl : n = 0 := by simpa using hn
    clear hn hsl hs
    go_enter Tryz.func30, Tryz.ntmps30
    go_wp2
    go_ret
    exact ⟨none, 0, rfl, Has.nil _ _, Fr.refl _ _, fun k hk => by cases hk⟩
  | some x =>
    have HE : Hid (Has (w.alloc (.cells #[] 3)) 1 (.slice (some ⟨w.heap.size, 0, none⟩) 0 0) 0 []) := has_empty w 1 _
    have f1 : Fr (fun _ => False) w (w.alloc (.cells #[] 3)) := (Fr.refl _ _).alloc _
    have hr1 := (hr.same f1).from
    have HN : Hid (n = l.length) := hn
    have HSL : Hid ((intCells l).length = l.length) := hsl
    have hs' : n ≤ 100000 := by omega
    clear hn hs hsl
    go_enter Tryz.func30, Tryz.ntmps30
    go_wp2_with (at_builtin; refine wpList_append_has _ rfl _ _ 26 26 3 3 rfl i0 _ 1 8 Tryz.underlying26 Tryz.underlying26 hi hz0 hz1 hz2 rfl (by omega) (.slice (some ⟨w.heap.size, 0, none⟩) 0 0) 0 [] rfl HE.out (some x) n c (intCells l) rfl (by rw [HSL.out, HN.out]; omega) hr1 (intCells_one l) (by unfold maxLen; omega) (by omega) ?_; intro am cm w2 hown hfr hat)
    go_ret
    rw [Nat.zero_add, List.nil_append] at hown
    rw [Nat.zero_add] at hat
    rw [HN.out] at hown hat
    refine ⟨am, cm, by rw [← HN.out]; rfl, hown, f1.above hfr ?_, fun k hk => ?_⟩
    · rintro i ⟨e, _⟩
      simp [Value.ownBlock] at e
      omega
    · rw [hk] at hat
      rcases hat with e | e <;> simp [Value.ownBlock] at e <;> omega
end Go.Proofs.YtnckmajfmkkpgaaGreat
