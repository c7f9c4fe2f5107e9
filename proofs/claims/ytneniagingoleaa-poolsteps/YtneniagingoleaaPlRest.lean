
/- What Clean, Flushed, Pins and New do. -/
import Derived.Test.YtneniagingoleaaPlGet
namespace Go.Proofs.Ytneniagingoleaa
open Go.RowKit

def clE (M : Pmap) (x : Int) : Int := match M x with | none => 6 | some h => if h.since = 0 then 7 else 0
def clN (M : Pmap) (x fl : Int) : Int := match M x with | none => 0 | some h => if h.since = 0 then 0 else needV fl h.lsn
def clF (M : Pmap) (x fl : Int) : Int := match M x with | none => fl | some h => if h.since = 0 then fl else flF fl h.lsn
def clM (M : Pmap) (x : Int) : Pmap := match M x with | none => M | some h => if h.since = 0 then M else upd M x (some ⟨h.pins, h.lsn, 0, h.used⟩)
section
variable (pb : Nat) (fr : Int) (mb n : Nat) (us fl : Int) (M : Pmap) (w : World)
set_option maxRecDepth 100000 in
set_option maxHeartbeats 2000000 in
theorem clean_pl (x : Int) (hxw : wfK x) (hn : n ≤ 1000000) (h : Pl w pb fr mb n us fl M) : Calls Try.prog 21 #[.pointer (some ⟨pb, 0, none⟩), .int .i64 x] w fun e w' => e = .returned (.tuple #[.int .i64 (clN M x fl), .int .i64 (clE M x)]) ∧ Pl w' pb fr mb n us (clF M x fl) (clM M x) ∧ Fr (plS pb mb) w w' := by
  have hal := all_pl pb fr mb n us fl M w h
  have hlk := h.map.look hxw
  cases hm : M x with
  | none =>
    have e1 : clE M x = 6 := by unfold clE; rw [hm]
    have e2 : clN M x fl = 0 := by unfold clN; rw [hm]
    have e3 : clF M x fl = fl := by unfold clF; rw [hm]
    have e4 : clM M x = M := by unfold clM; rw [hm]
    rw [e1, e2, e3, e4]
    rw [hm] at hlk
    dsimp only [Option.getD, Option.isSome, h0] at hlk
    clear e1 e2 e3 e4 hm
    go_enter Try.func21, Try.ntmps21
    go_wp2_with (go_at_call 29; refine hal.mono ?_; rintro e w' ⟨rfl, hw⟩; have hw2 := hw.symm; clear hw; subst hw2)
    go_ret2
    have fb := Fr.box w (.cells #[.int .i64 0, .int .i64 0, .int .i64 0, .int .i64 0] 66)
    exact ⟨rfl, h.same fb, fb.mono (fun _ _ f => f.elim)⟩
  | some g =>
    rw [hm] at hlk
    have HK := h.map.key hm
    have HN : Hid (∀ (W : World) (M' : Pmap), Pm W mb (if (M x).isSome = true then n else n + 1) M' → Pm W mb n M') := fun W M' h => upd_n hm h
    obtain ⟨p, l, s, u⟩ := g
    dsimp only [Option.getD, Option.isSome] at hlk
    have hdi := fun W => isDirty_any ⟨p, l, s, u⟩ W
    dsimp only at hdi
    by_cases hs : s = 0
    · have e1 : clE M x = 7 := by unfold clE; rw [hm]; exact if_pos hs
      have e2 : clN M x fl = 0 := by unfold clN; rw [hm]; exact if_pos hs
      have e3 : clF M x fl = fl := by unfold clF; rw [hm]; exact if_pos hs
      have e4 : clM M x = M := by unfold clM; rw [hm]; exact if_pos hs
      rw [e1, e2, e3, e4]
      subst hs
      clear e1 e2 e3 e4 hm HN
      go_enter Try.func21, Try.ntmps21
      go_wp2_with (go_at_call 29; refine hal.mono ?_; rintro e w' ⟨rfl, hw⟩; have hw2 := hw.symm; clear hw; subst hw2)
      refine (hdi _).mono ?_
      rintro e w2 ⟨rfl, f2⟩
      have F2 := (Fr.box w (.cells #[.int .i64 p, .int .i64 l, .int .i64 0, .int .i64 u] 66)).seq' f2
      go_wp2
      go_ret2
      exact ⟨rfl, h.same F2, F2.mono (fun _ _ f => f.elim)⟩
    · have e1 : clE M x = 0 := by unfold clE; rw [hm]; exact if_neg hs
      have e2 : clN M x fl = needV fl l := by unfold clN; rw [hm]; exact if_neg hs
      have e3 : clF M x fl = flF fl l := by unfold clF; rw [hm]; exact if_neg hs
      have e4 : clM M x = upd M x (some ⟨p, l, 0, u⟩) := by unfold clM; rw [hm]; exact if_neg hs
      rw [e1, e2, e3, e4]
      clear e1 e2 e3 e4
      have hff := fun W hW => flushFor_pl pb fr mb n us fl (upd M x (some ⟨p, l, 0, u⟩)) W l hW
      generalize needV fl l = nv at *
      generalize flF fl l = nf at *
      have hsb : (s != 0) = true := by simpa using hs
      have hpbw := lt_of_block h.box
      have hmbw := h.map.lt
      obtain ⟨A, hAd⟩ : ∃ A, A = w.heap.size := ⟨_, rfl⟩
      have HAW : Hid (w.heap.size = A) := hAd.symm
      have hpA : pb < A := by omega
      have hmA : mb < A := by omega
      clear hm hs hpbw hmbw hAd
      go_enter Try.func21, Try.ntmps21
      go_wp2_with (go_at_call 29; refine hal.mono ?_; rintro e w' ⟨rfl, hw⟩; have hw2 := hw.symm; clear hw; subst hw2)
      refine (hdi _).mono ?_
      clear hdi hlk hal
      rintro e w2 ⟨rfl, f2⟩
      have F2 := (Fr.box w (.cells #[.int .i64 p, .int .i64 l, .int .i64 s, .int .i64 u] 66)).seq' f2
      have hB2 := f2.keep (heap_alloc_new w (.cells #[.int .i64 p, .int .i64 l, .int .i64 s, .int .i64 u] 66)) (fun f => f)
      rw [HAW.out] at hB2 ⊢
      have hB3 := four_setCell (j := 2) hB2 (.int .i64 0)
      have fs : Fr (fun k => k = A) w2 (w2.setCell ⟨A, 2, none⟩ (.int .i64 0)) := (Fr.refl (fun k => k = A) w2).setCell (p := ⟨A, 2, none⟩) (fun _ => rfl) _
      have hP3 := (h.same F2).fr fs (by omega) (by omega)
      have F3 : Fr (fun _ => False) w (w2.setCell ⟨A, 2, none⟩ (.int .i64 0)) := F2.trans fs (fun i hi e => by have := HAW.out; omega)
      obtain ⟨W3, hW3⟩ : ∃ W, W = w2.setCell ⟨A, 2, none⟩ (.int .i64 0) := ⟨_, rfl⟩
      have HW3 : Hid (w2.setCell ⟨A, 2, none⟩ (.int .i64 0) = W3) := hW3.symm
      rw [← hW3] at hB3 hP3 F3
      obtain ⟨⟨b0, b1, b2, b3⟩, zb⟩ := four_cells hB2
      have zb2 := zb 2
      clear zb hW3 fs F2 f2 hB2
      go_upto_region 7 with fail
      rw [HW3.out]
      clear b0 b1 b2 b3 zb2
      have hP4 := hP3.same ((Fr.refl (fun _ => False) W3).drew)
      have hB4 : W3.drew.heap[A]? = some (.cells #[.int .i64 p, .int .i64 l, .int .i64 0, .int .i64 u] 66 (0, 0)) := hB3
      obtain ⟨w5, hrun, hpm, hfr⟩ := hP4.map.store hn HK ⟨p, l, 0, u⟩
      dsimp only at hrun
      have hP5 := hP4.setMap hfr (HN.out _ _ hpm)
      have hB5 := hfr.keep hB4 (by omega)
      have F5 : Fr (plS pb mb) w w5 := (F3.drew.mono (T := plS pb mb) (fun _ _ f => f.elim)).trans hfr (fun _ _ e => .inr e)
      obtain ⟨⟨c0, c1, c2, c3⟩, zc⟩ := four_cells hP4.box
      obtain ⟨⟨b0, b1, b2, b3⟩, zb⟩ := four_cells hB4
      clear zc zb hP3 hP4 hB3 hB4 hpm hfr F3 HN
      go_region_law (fail)
      all_goals
        obtain ⟨⟨d0, d1, d2, d3⟩, zd⟩ := four_cells hB5
        clear zd
        go_wp2_with fail
        refine (hff _ hP5).mono ?_
        rintro e w6 ⟨rfl, hP6, f6⟩
        go_wp2
        go_ret2
        exact ⟨rfl, hP6, F5.trans f6 (fun _ _ e => .inl e)⟩
def fdE (l : Int) : Int := if 0 ≤ l ∧ l ≤ 1099511627776 then 0 else 1
def fdF (fl l : Int) : Int := if 0 ≤ l ∧ l ≤ 1099511627776 then flF fl l else fl
set_option maxRecDepth 100000 in
set_option maxHeartbeats 1000000 in
theorem flushed_pl (l : Int) (h : Pl w pb fr mb n us fl M) : Calls Try.prog 22 #[.pointer (some ⟨pb, 0, none⟩), .int .i64 l] w fun e w' => e = .returned (.int .i64 (fdE l)) ∧ Pl w' pb fr mb n us (fdF fl l) M ∧ Fr (plS pb mb) w w' := by
  have hwi := within_at l 0 1099511627776 w
  have hff := flushFor_pl pb fr mb n us fl M w l h
  by_cases hl : 0 ≤ l ∧ l ≤ 1099511627776
  · rw [decide_eq_true hl] at hwi
    have e1 : fdE l = 0 := if_pos hl
    have e2 : fdF fl l = flF fl l := if_pos hl
    rw [e1, e2]
    clear e1 e2 hl
    go_enter Try.func22, Try.ntmps22
    go_wp2_with (go_at_call 23; refine hwi.mono ?_; rintro e w' ⟨rfl, rfl⟩)
    refine hff.mono ?_
    rintro e w6 ⟨rfl, hP6, f6⟩
    go_wp2
    go_ret
    exact ⟨rfl, hP6, f6.mono (fun _ _ e => .inl e)⟩
  · rw [decide_eq_false hl] at hwi
    have e1 : fdE l = 1 := if_neg hl
    have e2 : fdF fl l = fl := if_neg hl
    rw [e1, e2]
    clear e1 e2 hl hff
    go_enter Try.func22, Try.ntmps22
    go_wp2_with (go_at_call 23; refine hwi.mono ?_; rintro e w' ⟨rfl, rfl⟩)
    go_ret
    exact ⟨rfl, h, Fr.refl _ _⟩
set_option maxRecDepth 100000 in
set_option maxHeartbeats 1000000 in
theorem pins_pl (x : Int) (hxw : wfK x) (h : Pl w pb fr mb n us fl M) : Calls Try.prog 16 #[.pointer (some ⟨pb, 0, none⟩), .int .i64 x] w fun e w' => e = .returned (.int .i64 ((M x).getD h0).pins) ∧ w = w' := by
  have hal := all_pl pb fr mb n us fl M w h
  have hlk := h.map.look1 hxw
  generalize (M x).getD h0 = g at *
  obtain ⟨p, l, s, u⟩ := g
  dsimp only at hlk ⊢
  have hfd := fun W => run_pins p l s u W
  go_enter Try.func16, Try.ntmps16
  go_wp2_with (go_at_call 29; refine hal.mono ?_; rintro e w' ⟨rfl, hw⟩; have hw2 := hw.symm; clear hw; subst hw2)
  go_ret
  exact ⟨rfl, rfl⟩
set_option maxRecDepth 100000 in
set_option maxHeartbeats 1000000 in
theorem pnew_no (k : Int) (hk : ¬ (1 ≤ k ∧ k ≤ 64)) : Calls Try.prog 7 #[.int .i64 k] w fun e w' => e = .returned (.tuple #[.pointer none, .int .i64 1]) ∧ w = w' := by
  have hwi := within_at k 1 64 w
  rw [decide_eq_false hk] at hwi
  clear hk
  go_enter Try.func7, Try.ntmps7
  go_wp2_with (go_at_call 23; refine hwi.mono ?_; rintro e w' ⟨rfl, rfl⟩)
  go_ret2
  exact ⟨rfl, rfl⟩
set_option maxRecDepth 100000 in
set_option maxHeartbeats 1000000 in
theorem pnew_yes (k : Int) (hk : 1 ≤ k ∧ k ≤ 64) : Calls Try.prog 7 #[.int .i64 k] w fun e w' => e = .returned (.tuple #[.pointer (some ⟨w.heap.size + 1, 0, none⟩), .int .i64 0]) ∧ Pl w' (w.heap.size + 1) k w.heap.size 0 0 0 (fun _ => none) ∧ Fr (fun _ => False) w w' := by
  have hwi := within_at k 1 64 w
  rw [decide_eq_true hk] at hwi
  have hmm := @run_makeMap Try.prog
  have hpm := (Pm.made w).same (Fr.box (w.alloc (.map #[] 0)) (.cells #[.int .i64 k, .map (some w.heap.size), .int .i64 0, .int .i64 0] 54))
  have hbx := heap_alloc_new (w.alloc (.map #[] 0)) (.cells #[.int .i64 k, .map (some w.heap.size), .int .i64 0, .int .i64 0] 54)
  rw [show (w.alloc (.map #[] 0)).heap.size = w.heap.size + 1 by simp] at hbx
  have HF : Hid (Fr (fun _ => False) w ((w.alloc (.map #[] 0)).alloc (.cells #[.int .i64 k, .map (some w.heap.size), .int .i64 0, .int .i64 0] 54))) := (Fr.box w _).alloc _
  clear hk
  go_enter Try.func7, Try.ntmps7
  go_wp2_with (go_at_call 23; refine hwi.mono ?_; rintro e w' ⟨rfl, rfl⟩)
  go_ret2
  exact ⟨rfl, ⟨hbx, hpm, by omega⟩, HF.out⟩
end
end Go.Proofs.Ytneniagingoleaa
