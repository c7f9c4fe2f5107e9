
/- A pool in memory; what its small functions tell. -/
import Derived.Test.YtneniagingoleaaPlBase
namespace Go.Proofs.Ytneniagingoleaa
open Go.RowKit

theorem four_cells {w : World} {b : Nat} {t : TypeId} {c0 c1 c2 c3 : Value} (h : w.heap[b]? = some (.cells #[c0, c1, c2, c3] t (0, 0))) :
    (w.cell? ⟨b, 0, none⟩ = some c0 ∧ w.cell? ⟨b, 1, none⟩ = some c1 ∧ w.cell? ⟨b, 2, none⟩ = some c2 ∧ w.cell? ⟨b, 3, none⟩ = some c3) ∧ ∀ j, w.frozen? ⟨b, j, none⟩ = false := by
  refine ⟨⟨?_, ?_, ?_, ?_⟩, fun j => ?_⟩
  all_goals simp [World.cell?, World.frozen?, h]
theorem four_setCell {w : World} {b : Nat} {t : TypeId} {c0 c1 c2 c3 : Value} {j : Nat} (h : w.heap[b]? = some (.cells #[c0, c1, c2, c3] t (0, 0))) (x : Value) :
    (w.setCell ⟨b, j, none⟩ x).heap[b]? = some (.cells (#[c0, c1, c2, c3].setIfInBounds j x) t (0, 0)) := by
  have hlt := lt_of_block h
  have h' : w.heap[b] = .cells #[c0, c1, c2, c3] t (0, 0) := by simpa [Array.getElem?_eq_getElem hlt] using h
  show (w.heap.modify b _)[b]? = _
  rw [Array.getElem?_eq_getElem (by simpa using hlt), Array.getElem_modify_self, h']
  rfl
/-- A pool at block pb, its pages in the map at block mb. -/
structure Pl (w : World) (pb : Nat) (fr : Int) (mb n : Nat) (us fl : Int) (M : Pmap) : Prop where
  box : w.heap[pb]? = some (.cells #[.int .i64 fr, .map (some mb), .int .i64 us, .int .i64 fl] 54 (0, 0))
  map : Pm w mb n M
  ne : pb ≠ mb
def plS (pb mb : Nat) : Nat → Prop := fun k => k = pb ∨ k = mb
section
variable {w w' : World} {pb : Nat} {fr : Int} {mb n : Nat} {us fl : Int} {M : Pmap}
theorem Pl.same (h : Pl w pb fr mb n us fl M) (f : Fr (fun _ => False) w w') : Pl w' pb fr mb n us fl M :=
  ⟨by rw [f.block pb (lt_of_block h.box) (fun f => f)]; exact h.box, h.map.same f, h.ne⟩
theorem Pl.setFl (h : Pl w pb fr mb n us fl M) (x : Int) : Pl (w.setCell ⟨pb, 3, none⟩ (.int .i64 x)) pb fr mb n us x M ∧ Fr (fun k => k = pb) w (w.setCell ⟨pb, 3, none⟩ (.int .i64 x)) := by
  have fs : Fr (fun k => k = pb) w (w.setCell ⟨pb, 3, none⟩ (.int .i64 x)) := (Fr.refl (fun k => k = pb) w).setCell (p := ⟨pb, 3, none⟩) (fun _ => rfl) _
  exact ⟨⟨four_setCell (j := 3) h.box _, h.map.fr fs (fun e => h.ne e.symm), h.ne⟩, fs⟩
theorem Pl.setUs (h : Pl w pb fr mb n us fl M) (x : Int) : Pl (w.setCell ⟨pb, 2, none⟩ (.int .i64 x)) pb fr mb n x fl M ∧ Fr (fun k => k = pb) w (w.setCell ⟨pb, 2, none⟩ (.int .i64 x)) := by
  have fs : Fr (fun k => k = pb) w (w.setCell ⟨pb, 2, none⟩ (.int .i64 x)) := (Fr.refl (fun k => k = pb) w).setCell (p := ⟨pb, 2, none⟩) (fun _ => rfl) _
  exact ⟨⟨four_setCell (j := 2) h.box _, h.map.fr fs (fun e => h.ne e.symm), h.ne⟩, fs⟩
theorem Pl.setMap {n' : Nat} {M' : Pmap} (h : Pl w pb fr mb n us fl M) (f : Fr (fun k => k = mb) w w') (hm : Pm w' mb n' M') : Pl w' pb fr mb n' us fl M' :=
  ⟨by rw [f.block pb (lt_of_block h.box) h.ne]; exact h.box, hm, h.ne⟩
end

set_option maxRecDepth 100000 in
set_option maxHeartbeats 400000 in
theorem within_any (x a b : Int) (w : World) : Calls Try.prog 23 #[.int .i64 x, .int .i64 a, .int .i64 b] w fun e w' => e = .returned (.bool (decide (a ≤ x ∧ x ≤ b))) ∧ w' = w := by
  by_cases h : a ≤ x
  · have hd : decide (a ≤ x) = true := decide_eq_true h
    go_enter Try.func23, Try.ntmps23
    go_wp2
    all_goals go_ret
    all_goals exact ⟨ret_bool (by rw [Bool.eq_iff_iff]; simp; try omega), rfl⟩
  · have hn : decide (a ≤ x ∧ x ≤ b) = false := decide_eq_false (fun e => h e.1)
    rw [hn]
    have hd : decide (a ≤ x) = false := decide_eq_false h
    go_enter Try.func23, Try.ntmps23
    go_wp2
    all_goals go_ret
    all_goals exact ⟨rfl, rfl⟩
set_option maxRecDepth 100000 in
set_option maxHeartbeats 400000 in
theorem isDirty_any (h : Hd) (w : World) : Calls Try.prog 30 #[.agg #[.int .i64 h.pins, .int .i64 h.lsn, .int .i64 h.since, .int .i64 h.used]] w fun e w' => e = .returned (.bool (h.since != 0)) ∧ Fr (fun _ => False) w w' := by
  go_enter Try.func30, Try.ntmps30
  go_wp2
  go_ret
  exact ⟨rfl, Fr.box w _⟩
set_option maxRecDepth 100000 in
set_option maxHeartbeats 400000 in
theorem all_nil (w : World) : Calls Try.prog 29 #[.pointer none] w fun e w' => e = .returned (.map none) ∧ w' = w := by
  go_enter Try.func29, Try.ntmps29
  go_wp2
  go_ret
  exact ⟨rfl, rfl⟩
section
variable (pb : Nat) (fr : Int) (mb n : Nat) (us fl : Int) (M : Pmap) (w : World)
set_option maxRecDepth 100000 in
set_option maxHeartbeats 400000 in
theorem all_pl (h : Pl w pb fr mb n us fl M) : Calls Try.prog 29 #[.pointer (some ⟨pb, 0, none⟩)] w fun e w' => e = .returned (.map (some mb)) ∧ w' = w := by
  obtain ⟨⟨c0, c1, c2, c3⟩, z⟩ := four_cells h.box
  go_enter Try.func29, Try.ntmps29
  go_wp2
  go_ret
  exact ⟨rfl, rfl⟩
set_option maxRecDepth 100000 in
set_option maxHeartbeats 400000 in
theorem empty_nil : Calls Try.prog 36 #[.pointer none] w fun e w' => e = .returned (.bool false) ∧ Fr (fun _ => False) w w' := by
  go_enter Try.func36, Try.ntmps36
  go_wp2_with fail
  go_quiet (fail)
  go_wp2
  go_ret
  exact ⟨rfl, Fr.drewN (Fr.refl _ _) _⟩
set_option maxRecDepth 100000 in
set_option maxHeartbeats 1000000 in
theorem empty_pl (h : Pl w pb fr mb n us fl M) : Calls Try.prog 36 #[.pointer (some ⟨pb, 0, none⟩)] w fun e w' => e = .returned (.bool (decide ((n : Int) < fr))) ∧ Fr (fun _ => False) w w' := by
  have fd := (Fr.refl (fun _ => False) w).drew
  obtain ⟨⟨c0, c1, c2, c3⟩, z⟩ := four_cells (h.same fd).box
  have hln := fun ty => (h.same fd).map.len ty
  clear z
  go_enter Try.func36, Try.ntmps36
  go_wp2_with fail
  go_region_law (fail)
  all_goals
    go_wp2
    go_ret
    exact ⟨rfl, fd⟩
def needV (fl l : Int) : Int := if l ≤ fl then 0 else l
def flF (fl l : Int) : Int := if l ≤ fl then fl else l
set_option maxRecDepth 100000 in
set_option maxHeartbeats 400000 in
theorem flushFor_pl (l : Int) (h : Pl w pb fr mb n us fl M) : Calls Try.prog 40 #[.pointer (some ⟨pb, 0, none⟩), .int .i64 l] w fun e w' => e = .returned (.int .i64 (needV fl l)) ∧ Pl w' pb fr mb n us (flF fl l) M ∧ Fr (fun k => k = pb) w w' := by
  obtain ⟨⟨c0, c1, c2, c3⟩, z⟩ := four_cells h.box
  have z3 := z 3
  by_cases hl : l ≤ fl
  · have e1 : needV fl l = 0 := if_pos hl
    have e2 : flF fl l = fl := if_pos hl
    rw [e1, e2]
    clear e1 e2
    go_enter Try.func40, Try.ntmps40
    go_wp2
    go_ret
    exact ⟨rfl, h, Fr.refl _ _⟩
  · have e1 : needV fl l = l := if_neg hl
    have e2 : flF fl l = l := if_neg hl
    rw [e1, e2]
    clear e1 e2
    go_enter Try.func40, Try.ntmps40
    go_wp2
    go_ret
    exact ⟨rfl, h.setFl l⟩
/-- Why a page has no pins to be taken away. -/
def pinE (M : Pmap) (x : Int) : Int := match M x with | none => 6 | some h => if h.pins = 0 then 7 else 0
def pinH (M : Pmap) (x : Int) : Hd := match M x with | none => h0 | some h => if h.pins = 0 then h0 else h
theorem h0_agg : (Value.agg #[.int .i64 h0.pins, .int .i64 h0.lsn, .int .i64 h0.since, .int .i64 h0.used]) = .agg #[.int .i64 0, .int .i64 0, .int .i64 0, .int .i64 0] := rfl
set_option maxRecDepth 100000 in
set_option maxHeartbeats 1000000 in
theorem pinned_pl (x : Int) (hx : wfK x) (h : Pl w pb fr mb n us fl M) : Calls Try.prog 39 #[.pointer (some ⟨pb, 0, none⟩), .int .i64 x] w fun e w' => e = .returned (.tuple #[.agg #[.int .i64 (pinH M x).pins, .int .i64 (pinH M x).lsn, .int .i64 (pinH M x).since, .int .i64 (pinH M x).used], .int .i64 (pinE M x)]) ∧ Fr (fun _ => False) w w' := by
  have fb := Fr.box w (.cells #[.int .i64 0, .int .i64 0, .int .i64 0, .int .i64 0] 66)
  have hal := all_pl pb fr mb n us fl M _ (h.same fb)
  have hlk := (h.same fb).map.look hx
  cases hm : M x with
  | none =>
    have e1 : pinE M x = 6 := by unfold pinE; rw [hm]
    have e2 : pinH M x = h0 := by unfold pinH; rw [hm]
    rw [e1, e2, h0_agg]
    rw [hm] at hlk
    clear e1 e2 hm
    go_enter Try.func39, Try.ntmps39
    go_wp2_with (go_at_call 29; refine hal.mono ?_; rintro e w' ⟨rfl, rfl⟩)
    refine bodyPost_ret (v := .tuple #[.agg #[.int .i64 0, .int .i64 0, .int .i64 0, .int .i64 0], .int .i64 6]) (by simp [results, Try.results39, go_sem]) rfl ⟨rfl, ?_⟩
    repeat (first | exact Fr.refl _ _ | apply Fr.alloc)
  | some g =>
    rw [hm] at hlk
    by_cases hp : g.pins = 0
    · have e1 : pinE M x = 7 := by unfold pinE; rw [hm]; exact if_pos hp
      have e2 : pinH M x = h0 := by unfold pinH; rw [hm]; exact if_pos hp
      rw [e1, e2, h0_agg]
      have hpb : (g.pins == 0) = true := by simpa using hp
      clear e1 e2 hm hp
      obtain ⟨p, l, s, u⟩ := g
      dsimp only [Option.getD, Option.isSome] at hlk hpb
      go_enter Try.func39, Try.ntmps39
      go_wp2_with (go_at_call 29; refine hal.mono ?_; rintro e w' ⟨rfl, rfl⟩)
      refine bodyPost_ret (v := .tuple #[.agg #[.int .i64 0, .int .i64 0, .int .i64 0, .int .i64 0], .int .i64 7]) (by simp [results, Try.results39, go_sem]) rfl ⟨rfl, ?_⟩
      repeat (first | exact Fr.refl _ _ | apply Fr.alloc)
    · have e1 : pinE M x = 0 := by unfold pinE; rw [hm]; exact if_neg hp
      have e2 : pinH M x = g := by unfold pinH; rw [hm]; exact if_neg hp
      rw [e1, e2]
      have hpb : (g.pins == 0) = false := by simpa using hp
      clear e1 e2 hm hp
      obtain ⟨p, l, s, u⟩ := g
      dsimp only [Option.getD, Option.isSome] at hlk hpb ⊢
      go_enter Try.func39, Try.ntmps39
      go_wp2_with (go_at_call 29; refine hal.mono ?_; rintro e w' ⟨rfl, rfl⟩)
      refine bodyPost_ret (v := .tuple #[.agg #[.int .i64 p, .int .i64 l, .int .i64 s, .int .i64 u], .int .i64 0]) (by simp [results, Try.results39, go_sem]) rfl ⟨rfl, ?_⟩
      repeat (first | exact Fr.refl _ _ | apply Fr.alloc | apply Fr.setCell)
end
end Go.Proofs.Ytneniagingoleaa
