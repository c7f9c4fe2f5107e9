
/- Where an LSN stands among a timeline's marks. -/
import Derived.Test.YtphfngboddnbmaaLnBase
namespace Go.Proofs.Ytphfngboddnbmaa
open Go.RowKit
open Go.Proofs.Ytphfngboddnbmaa.Ln

def cmpI (a b : Int) : Int := if a < b then -1 else if b < a then 1 else 0
theorem inan_any (a : Int) (w : World) : Calls Try.prog 36 #[.int .i64 a] w fun e w' => e = .returned (.bool false) ∧ w' = w := by
  go_enter Try.func36, Try.ntmps36
  go_wp2
  go_ret
  exact ⟨by simp, rfl⟩
theorem icmp_any (a b : Int) (w : World) : Calls Try.prog 35 #[.int .i64 a, .int .i64 b] w fun e w' => e = .returned (.int .i64 (cmpI a b)) ∧ w' = w := by
  by_cases h : a < b
  · have e1 : cmpI a b = -1 := if_pos h
    rw [e1]
    go_enter Try.func35, Try.ntmps35
    go_wp2_with (go_at_call 36; refine (inan_any _ _).mono ?_; rintro e w' ⟨rfl, rfl⟩)
    go_ret
    exact ⟨rfl, rfl⟩
  · by_cases h2 : b < a
    · have e1 : cmpI a b = 1 := (if_neg h).trans (if_pos h2)
      rw [e1]
      go_enter Try.func35, Try.ntmps35
      go_wp2_with (go_at_call 36; refine (inan_any _ _).mono ?_; rintro e w' ⟨rfl, rfl⟩)
      go_ret
      exact ⟨rfl, rfl⟩
    · have e1 : cmpI a b = 0 := (if_neg h).trans (if_neg h2)
      rw [e1]
      go_enter Try.func35, Try.ntmps35
      go_wp2_with (go_at_call 36; refine (inan_any _ _).mono ?_; rintro e w' ⟨rfl, rfl⟩)
      go_ret
      exact ⟨rfl, rfl⟩
theorem mkCmp_any (m : Mk) (x : Int) (w : World) : Calls Try.prog 34 #[.agg #[.int .i64 m.1, .int .i64 m.2], .int .i64 x] w fun e w' => e = .returned (.int .i64 (cmpI m.2 x)) ∧ Fr (fun _ => False) w w' := by
  have f0 := Fr.box w (.cells #[.int .i64 m.1, .int .i64 m.2] 53)
  have hc := fun W => icmp_any m.2 x W
  go_enter Try.func34, Try.ntmps34
  go_wp2_with (go_at_call 35; refine (hc _).mono ?_; rintro e w' ⟨rfl, rfl⟩)
  go_ret
  exact ⟨rfl, f0⟩
def BsOut (ms : List Mk) (x : Int) (w : World) (e : Ending) (w' : World) : Prop := ∃ bb, e = .returned (.tuple #[.int .i64 (upN ms x : Nat), .bool bb]) ∧ Fr (fun _ => False) w w'
set_option maxRecDepth 100000 in
set_option maxHeartbeats 4000000 in
theorem bsm_any (a : Option Addr) (len cap : Nat) (ls : List Mk) (hl : len = ls.length) (hf : ls.length ≤ 8796093021952) (hr : Up ls) (x : Int) (w : World) (h : Mks w a cap ls) : Calls Try.prog 33 #[.slice a len cap, .int .i64 x, .func (.func 34) #[] #[]] w (BsOut ls x w) := by
  subst hl
  have hle := h.le
  have hmx := h.max
  have HS : Hid (∀ W, Fr (fun _ => False) w W → Mks W a cap ls) := fun W f => h.same f
  have HRI : Hid (Up ls) := hr
  clear h hr
  go_enter Try.func33, Try.ntmps33
  go_wp2
  go_loopw [9, 10] (fun i j wr => ∃ (p q : Nat), p ≤ q ∧ q ≤ ls.length ∧ i = .int .i64 p ∧ j = .int .i64 q ∧ Hid (∀ i s, ls[i]? = some s → i < p → s.2 < x) ∧ Hid (∀ i s, ls[i]? = some s → q ≤ i → x ≤ s.2) ∧ Fr (fun _ => False) w wr) (fun i j _ => (intOf j).toNat - (intOf i).toNat)
  case atStart => exact ⟨0, ls.length, by omega, by omega, rfl, rfl, (fun i s _ h => by omega), (fun i s hs h => by have := (List.getElem?_eq_some_iff.1 hs).1; omega), Fr.refl _ _⟩
  case round =>
    obtain ⟨p, q, hpq, hq, rfl, rfl, H1, H2, F⟩ := hrel
    by_cases hlt : p < q
    · have hpm : p ≤ (p + q) / 2 := by omega
      have hmq : (p + q) / 2 < q := by omega
      obtain ⟨s, hs⟩ : ∃ s, ls[(p + q) / 2]? = some s := ⟨_, List.getElem?_eq_getElem (by omega)⟩
      obtain ⟨b, off, rfl, hb, hc⟩ := (HS.out _ F).some (by omega)
      obtain ⟨q0, q1⟩ := mk_range (hc ((p + q) / 2) s hs)
      have hcm := mkCmp_any s x
      have hpi : (p : Int) < (q : Int) := by omega
      have HSS : Hid (ls[(p + q) / 2]? = some s) := hs
      clear hs hc
      by_cases hx : s.2 < x
      · have hce : cmpI s.2 x = -1 := if_pos hx
        rw [hce] at hcm
        have HN1 : Hid (∀ i t, ls[i]? = some t → i < (p + q) / 2 + 1 → t.2 < x) := fun i t ht hi => by
          rcases Nat.lt_or_ge i ((p + q) / 2) with e | e
          · have := (up_lt HRI.out e ht HSS.out).2; omega
          · have e2 : i = (p + q) / 2 := by omega
            rw [e2, HSS.out] at ht; cases ht; exact hx
        clear hx hce
        go_wp2_with fail
        refine (hcm _).mono ?_
        rintro e w1 ⟨rfl, f1⟩
        go_wp2
        go_roundw
        case rel => exact ⟨(p + q) / 2 + 1, q, by omega, by omega, by go_num, rfl, HN1, H2, F.seq' f1⟩
        case measure => simp [intOf]; omega
      · have hce : ∃ c, cmpI s.2 x = c ∧ decide (c < 0) = false := by
          unfold cmpI
          rw [if_neg hx]
          split
          · exact ⟨1, rfl, rfl⟩
          · exact ⟨0, rfl, rfl⟩
        obtain ⟨c, hc1, hc2⟩ := hce
        rw [hc1] at hcm
        have HN2 : Hid (∀ i t, ls[i]? = some t → (p + q) / 2 ≤ i → x ≤ t.2) := fun i t ht hi => by
          rcases Nat.lt_or_ge ((p + q) / 2) i with e | e
          · have := (up_lt HRI.out e HSS.out ht).2; omega
          · have e2 : i = (p + q) / 2 := by omega
            rw [e2, HSS.out] at ht; cases ht; omega
        clear hx hc1
        go_wp2_with fail
        refine (hcm _).mono ?_
        rintro e w1 ⟨rfl, f1⟩
        go_wp2
        go_roundw
        case rel => exact ⟨p, (p + q) / 2, by omega, by omega, rfl, by go_num, H1, HN2, F.seq' f1⟩
        case measure => simp [intOf]; omega
    · obtain rfl : p = q := by omega
      have HA : Hid (upN ls x = p) := upN_eq HRI.out hq H1.out (fun i s hs hi => by have := H2.out i s hs hi; omega)
      clear H1 H2
      by_cases hl2 : p < ls.length
      · obtain ⟨s, hs⟩ : ∃ s, ls[p]? = some s := ⟨_, List.getElem?_eq_getElem hl2⟩
        obtain ⟨b, off, rfl, hb, hc⟩ := (HS.out _ F).some (by omega)
        obtain ⟨q0, q1⟩ := mk_range (hc p s hs)
        have hcm := mkCmp_any s x
        have hpi : (p : Int) < (ls.length : Int) := by omega
        generalize cmpI s.2 x = c at *
        clear hs hc
        go_wp2_with fail
        refine (hcm _).mono ?_
        rintro e w1 ⟨rfl, f1⟩
        go_wp2
        go_ret2
        exact ⟨_, by rw [HA.out]; rfl, F.seq' f1⟩
      · have hpi : decide ((p : Int) < (ls.length : Int)) = false := decide_eq_false (by omega)
        go_wp2
        go_ret2
        exact ⟨_, by rw [HA.out]; rfl, F⟩
set_option maxRecDepth 100000 in
set_option maxHeartbeats 1000000 in
theorem upTo_any (a : Option Addr) (n c : Nat) (ms : List Mk) (last x : Int) (hn : n = ms.length) (hr : Right ms last) (hx0 : 0 ≤ x) (hx1 : x ≤ 1099511627776) (w : World) (h : Mks w a c ms) : Calls Try.prog 32 #[.agg #[.slice a n c, .int .i64 last], .int .i64 x] w fun e w' => e = .returned (.int .i64 (upN ms (x + 1) : Nat)) ∧ Fr (fun _ => False) w w' := by
  subst hn
  have F1 : Fr (fun _ => False) w (w.alloc (.cells #[.slice a ms.length c, .int .i64 last] 24)) := Fr.box _ _
  have hb := bsm_any a ms.length c ms rfl (by have := right_len hr; omega) hr.up (x + 1) _ (h.same F1)
  clear h hr
  go_enter Try.func32, Try.ntmps32
  go_wp2_with fail
  refine hb.mono ?_
  rintro e w1 ⟨bb, rfl, f1⟩
  go_wp2
  go_ret
  exact ⟨rfl, F1.seq' f1⟩
set_option maxRecDepth 100000 in
set_option maxHeartbeats 1000000 in
theorem epochAt_any (a : Option Addr) (n c : Nat) (ms : List Mk) (last x : Int) (hn : n = ms.length) (hr : Right ms last) (hx0 : 0 ≤ x) (hx1 : x ≤ 1099511627776) (w : World) (h : Mks w a c ms) : Calls Try.prog 24 #[.agg #[.slice a n c, .int .i64 last], .int .i64 x] w fun e w' => e = .returned (.int .i64 (epF ms x)) ∧ Fr (fun _ => False) w w' := by
  subst hn
  have F1 : Fr (fun _ => False) w (w.alloc (.cells #[.slice a ms.length c, .int .i64 last] 24)) := Fr.box _ _
  have hu := upTo_any a ms.length c ms last x rfl hr hx0 hx1 _ (h.same F1)
  have HA : Hid (epF ms x = if upN ms (x + 1) = 0 then 0 else (ms.getD (upN ms (x + 1) - 1) (0, 0)).1) := epF_at hr.up x
  have hle := upN_le ms (x + 1)
  have hl := right_len hr
  have HT : Hid (Two (w.alloc (.cells #[.slice a ms.length c, .int .i64 last] 24)) w.heap.size 24 (.slice a ms.length c) (.int .i64 last)) := Two.new w _ _ _
  obtain ⟨u, hU⟩ : ∃ u, u = upN ms (x + 1) := ⟨_, rfl⟩
  rw [← hU] at hu HA hle
  clear hU
  have HM := h
  have hcx := h.max
  by_cases h0 : u = 0
  · rw [h0] at hu HA
    have HR : Hid (epF ms x = 0) := HA.out
    clear HA hr h0 hle h HM hcx
    go_enter Try.func24, Try.ntmps24
    go_wp2_with fail
    refine hu.mono ?_
    rintro e w1 ⟨rfl, f1⟩
    go_wp2
    go_ret
    exact ⟨ret_int HR.out.symm, F1.seq' f1⟩
  · obtain ⟨v, rfl⟩ : ∃ v, u = v + 1 := ⟨u - 1, by omega⟩
    obtain ⟨m, hm⟩ : ∃ m, ms[v]? = some m := ⟨_, List.getElem?_eq_getElem (by omega)⟩
    have HR : Hid (epF ms x = m.1) := by
      show _ = _
      rw [HA.out, if_neg h0, Nat.add_sub_cancel, List.getD_eq_getElem?_getD, hm]; rfl
    have h0' : (((v + 1 : Nat) : Int) == 0) = false := by rw [beq_eq_false_iff_ne]; omega
    have HS : Hid (∀ W, Fr (fun _ => False) w W → W.cell? ⟨W.heap.size, 0, none⟩ = W.cell? ⟨W.heap.size, 0, none⟩) := fun _ _ => rfl
    obtain ⟨b, off, rfl, hb, hc⟩ := h.some (by omega)
    have HC : Hid (∀ W, Fr (fun _ => False) w W → W.rangeAt b (off + v * 2) (mkC m)) := fun W f => range_fr (hc v m hm) f (fun f => f)
    clear HA hr h0 h HM hc hm HS
    go_enter Try.func24, Try.ntmps24
    go_wp2_with fail
    refine hu.mono ?_
    rintro e w1 ⟨rfl, f1⟩
    obtain ⟨x0, x1, _⟩ := (HT.out.fr f1 (fun f => f)).cells
    obtain ⟨q0, q1⟩ := mk_range (HC.out _ (F1.seq' f1))
    go_wp2
    go_ret
    exact ⟨ret_int HR.out.symm, F1.seq' f1⟩
end Go.Proofs.Ytphfngboddnbmaa
