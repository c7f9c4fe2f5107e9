
/- Which timelines are right: the program's Check. -/
import Derived.Test.YtphfngboddnbmaaLnBase
namespace Go.Proofs.Ytphfngboddnbmaa
open Go.RowKit
open Go.Proofs.Ytphfngboddnbmaa.Ln

theorem okm_not {last : Int} {p : Mk} {f : Bool} {m : Mk} (h : ¬ ((f = true → m.2 = 1) ∧ p.2 < m.2 ∧ m.2 ≤ last ∧ p.1 < m.1 ∧ numB m.1 = true)) : okm last p f m = false := by
  rw [← Bool.not_eq_true]
  intro e
  refine h ?_
  simp only [okm, Bool.and_eq_true, decide_eq_true_eq, Bool.or_eq_true, Bool.not_eq_true'] at e
  exact ⟨fun hf => by rw [hf] at e; simpa using e.1, e.2⟩
theorem okm_yes {last : Int} {p : Mk} {f : Bool} {m : Mk} (h0 : f = true → m.2 = 1) (h1 : p.2 < m.2) (h2 : m.2 ≤ last) (h3 : p.1 < m.1) (h4 : numB m.1 = true) : okm last p f m = true := by
  simp only [okm, Bool.and_eq_true, decide_eq_true_eq, Bool.or_eq_true, Bool.not_eq_true']
  refine ⟨?_, h1, h2, h3, h4⟩
  cases f
  · exact .inl rfl
  · exact .inr (h0 rfl)
set_option maxRecDepth 100000 in
set_option maxHeartbeats 4000000 in
theorem rises_any (a : Option Addr) (n c : Nat) (ms : List Mk) (last : Int) (hn : n = ms.length) (w : World) (h : Mks w a c ms) : Calls Try.prog 29 #[.agg #[.slice a n c, .int .i64 last]] w fun e w' => e = .returned (.bool (risB last (-1, 0) true ms)) ∧ Fr (fun _ => False) w w' := by
  subst hn
  have hle := h.le
  have hmx := h.max
  obtain ⟨W0, hW0⟩ : ∃ W, W = (w.alloc (.cells #[.slice a ms.length c, .int .i64 last] 24)).alloc (.cells #[.int .i64 (-1), .int .i64 0] 53) := ⟨_, rfl⟩
  have F0 : Fr (fun _ => False) w W0 := by rw [hW0]; exact (Fr.box _ _).alloc _
  have hz0 : W0.heap.size = w.heap.size + 2 := by rw [hW0]; simp
  have T1 : Two W0 w.heap.size 24 (.slice a ms.length c) (.int .i64 last) := by rw [hW0]; exact (Two.new w _ _ _).fr (Fr.box _ _) (fun f => f)
  have T2 : Two W0 (w.heap.size + 1) 53 (.int .i64 (-1)) (.int .i64 0) := by
    have := Two.new (w.alloc (.cells #[.slice a ms.length c, .int .i64 last] 24)) 53 (.int .i64 (-1)) (.int .i64 0)
    rw [World.size_alloc] at this
    rw [hW0]; exact this
  have HS : Hid (∀ W, Fr (fun k => k = w.heap.size + 1) W0 W → Mks W a c ms) := fun W f => h.fr' F0 f (by omega)
  have HT1 : Hid (∀ W, Fr (fun k => k = w.heap.size + 1) W0 W → Two W w.heap.size 24 (.slice a ms.length c) (.int .i64 last)) := fun W f => T1.fr f (fun e => by omega)
  have HT2 : Hid (Two W0 (w.heap.size + 1) 53 (.int .i64 (-1)) (.int .i64 0)) := T2
  have HF0 : Hid (Fr (fun _ => False) w W0) := F0
  have HZ0 : Hid (W0.heap.size = w.heap.size + 2) := hz0
  have HW0 : Hid (W0 = (w.alloc (.cells #[.slice a ms.length c, .int .i64 last] 24)).alloc (.cells #[.int .i64 (-1), .int .i64 0] 53)) := hW0
  clear T1 T2 F0 hz0 hW0 h
  go_enter Try.func29, Try.ntmps29
  go_wp2
  go_loopw [10] (fun i wr => ∃ (k : Nat) (p : Mk), k ≤ ms.length ∧ i = .int .i64 k ∧ Hid (risB last p (decide (k = 0)) (ms.drop k) = risB last (-1, 0) true ms) ∧ Hid (Two wr (w.heap.size + 1) 53 (.int .i64 p.1) (.int .i64 p.2)) ∧ Hid (Fr (fun k => k = w.heap.size + 1) W0 wr)) (fun i _ => ms.length - (intOf i).toNat)
  case atStart => exact ⟨0, (-1, 0), by omega, rfl, rfl, by rw [← HW0.out]; exact HT2, by rw [← HW0.out]; exact Fr.refl _ _⟩
  case round =>
    obtain ⟨k, p, hk, rfl, HE, HP, HF⟩ := hrel
    have hzr := HF.out.size
    rw [HZ0.out] at hzr
    have HFW : Hid (Fr (fun _ => False) w wr) := HF0.out.trans HF.out (fun i hi e => by omega)
    by_cases hlt : k < ms.length
    · obtain ⟨m, hm⟩ : ∃ m, ms[k]? = some m := ⟨_, List.getElem?_eq_getElem hlt⟩
      obtain ⟨b, off, rfl, hb, hc⟩ := (HS.out _ HF.out).some (by omega)
      obtain ⟨q0, q1⟩ := mk_range (hc k m hm)
      have HNX : Hid (risB last p (decide (k = 0)) (ms.drop k) = (okm last p (decide (k = 0)) m && risB last m false (ms.drop (k + 1)))) := ris_drop hm _ _ _
      obtain ⟨W1, hW1⟩ : ∃ W, W = wr.alloc (.cells #[.int .i64 m.1, .int .i64 m.2] 53) := ⟨_, rfl⟩
      have f1 : Fr (fun _ => False) wr W1 := by rw [hW1]; exact Fr.box _ _
      have TM : Two W1 wr.heap.size 53 (.int .i64 m.1) (.int .i64 m.2) := by rw [hW1]; exact Two.new _ _ _ _
      obtain ⟨x0, x1, _⟩ := TM.cells
      obtain ⟨y0, y1, y2, y3⟩ := (HP.out.fr f1 (fun f => f)).cells
      obtain ⟨z0, z1, _⟩ := ((HT1.out _ HF.out).fr f1 (fun f => f)).cells
      have HTP : Hid (Two W1 (w.heap.size + 1) 53 (.int .i64 p.1) (.int .i64 p.2)) := HP.out.fr f1 (fun f => f)
      have HF1 : Hid (Fr (fun k => k = w.heap.size + 1) W0 W1) := HF.out.trans f1 (fun _ _ f => f.elim)
      have HFW1 : Hid (Fr (fun _ => False) w W1) := HFW.out.seq' f1
      have hki : (k : Int) < (ms.length : Int) := by omega
      have hnum := fun W => isNumber_any m.1 W
      obtain ⟨m1, m2⟩ := m
      obtain ⟨p1, p2⟩ := p
      dsimp only at *
      rw [hW1] at x0 x1 y0 y1 y2 y3 z0 z1
      have HW1 : Hid (W1 = wr.alloc (.cells #[.int .i64 m1, .int .i64 m2] 53)) := hW1
      clear hm hc TM f1 hW1 HP HF
      have bad : ¬ ((decide (k = 0) = true → m2 = 1) ∧ p2 < m2 ∧ m2 ≤ last ∧ p1 < m1 ∧ numB m1 = true) → risB last (-1, 0) true ms = false := fun hb => by
        rw [← HE.out, HNX.out, okm_not hb]; rfl
      have HBAD : Hid (¬ ((decide (k = 0) = true → m2 = 1) ∧ p2 < m2 ∧ m2 ≤ last ∧ p1 < m1 ∧ numB m1 = true) → risB last (-1, 0) true ms = false) := bad
      clear bad
      by_cases c0 : k = 0
      · have d0 : ((k : Int) == 0) = true := by rw [beq_iff_eq]; omega
        have HC0 : Hid (k = 0) := c0
        clear c0
        by_cases c1 : m2 = 1
        · have d1 : (m2 != 1) = false := by rw [c1]; rfl
          have HC1 : Hid (m2 = 1) := c1
          clear c1
          by_cases c2 : p2 < m2
          · have d2 : decide (m2 ≤ p2) = false := decide_eq_false (by omega)
            by_cases c3 : m2 ≤ last
            · have d3 : decide (last < m2) = false := decide_eq_false (by omega)
              by_cases c4 : p1 < m1
              · have d4 : decide (m1 ≤ p1) = false := decide_eq_false (by omega)
                cases c5 : numB m1
                · rw [c5] at hnum
                  have HR : Hid (risB last (-1, 0) true ms = false) := HBAD.out (fun h => by have := h.2.2.2.2; rw [c5] at this; exact Bool.noConfusion this)
                  clear HBAD HNX HE
                  go_wp2_with fail
                  refine (hnum _).mono ?_
                  rintro e w2 ⟨rfl, rfl⟩
                  go_wp2
                  go_ret
                  exact ⟨ret_bool HR.out.symm, by rw [← HW1.out]; exact HFW1.out⟩
                · rw [c5] at hnum
                  have HR : Hid (risB last (m1, m2) (decide (k + 1 = 0)) (ms.drop (k + 1)) = risB last (-1, 0) true ms) := by
                    show _ = _
                    rw [← HE.out, HNX.out, okm_yes (fun hf => HC1.out) c2 c3 c4 c5, decide_eq_false (by omega)]; rfl
                  clear HBAD HNX HE c5
                  go_wp2_with fail
                  refine (hnum _).mono ?_
                  rintro e w2 ⟨rfl, rfl⟩
                  go_wp2
                  obtain ⟨t1, t2⟩ := HTP.out.fin (.int .i64 m1) (.int .i64 m2)
                  rw [HW1.out] at t1 t2
                  have t3 := HF1.out
                  rw [HW1.out] at t3
                  go_roundw
                  case rel => exact ⟨k + 1, (m1, m2), by omega, by go_num, HR, t1, t3.trans t2 (fun _ _ e => e)⟩
                  case measure => simp [intOf]; omega
              · have d4 : decide (m1 ≤ p1) = true := decide_eq_true (by omega)
                have HR : Hid (risB last (-1, 0) true ms = false) := HBAD.out (fun h => c4 h.2.2.2.1)
                clear HBAD HNX HE
                go_wp2
                go_ret
                exact ⟨ret_bool HR.out.symm, by rw [← HW1.out]; exact HFW1.out⟩
            · have d3 : decide (last < m2) = true := decide_eq_true (by omega)
              have HR : Hid (risB last (-1, 0) true ms = false) := HBAD.out (fun h => c3 h.2.2.1)
              clear HBAD HNX HE
              go_wp2
              go_ret
              exact ⟨ret_bool HR.out.symm, by rw [← HW1.out]; exact HFW1.out⟩
          · have d2 : decide (m2 ≤ p2) = true := decide_eq_true (by omega)
            have HR : Hid (risB last (-1, 0) true ms = false) := HBAD.out (fun h => c2 h.2.1)
            clear HBAD HNX HE
            go_wp2
            go_ret
            exact ⟨ret_bool HR.out.symm, by rw [← HW1.out]; exact HFW1.out⟩
        · have d1 : (m2 != 1) = true := by simpa using c1
          have HR : Hid (risB last (-1, 0) true ms = false) := HBAD.out (fun h => c1 (h.1 (decide_eq_true HC0.out)))
          clear HBAD HNX HE c1
          go_wp2
          go_ret
          exact ⟨ret_bool HR.out.symm, by rw [← HW1.out]; exact HFW1.out⟩
      · have d0 : ((k : Int) == 0) = false := by rw [beq_eq_false_iff_ne]; omega
        by_cases c2 : p2 < m2
        · have d2 : decide (m2 ≤ p2) = false := decide_eq_false (by omega)
          by_cases c3 : m2 ≤ last
          · have d3 : decide (last < m2) = false := decide_eq_false (by omega)
            by_cases c4 : p1 < m1
            · have d4 : decide (m1 ≤ p1) = false := decide_eq_false (by omega)
              cases c5 : numB m1
              · rw [c5] at hnum
                have HR : Hid (risB last (-1, 0) true ms = false) := HBAD.out (fun h => by have := h.2.2.2.2; rw [c5] at this; exact Bool.noConfusion this)
                clear HBAD HNX HE
                go_wp2_with fail
                refine (hnum _).mono ?_
                rintro e w2 ⟨rfl, rfl⟩
                go_wp2
                go_ret
                exact ⟨ret_bool HR.out.symm, by rw [← HW1.out]; exact HFW1.out⟩
              · rw [c5] at hnum
                have HR : Hid (risB last (m1, m2) (decide (k + 1 = 0)) (ms.drop (k + 1)) = risB last (-1, 0) true ms) := by
                  show _ = _
                  rw [← HE.out, HNX.out, okm_yes (fun hf => absurd (of_decide_eq_true hf) c0) c2 c3 c4 c5, decide_eq_false (by omega)]; rfl
                clear HBAD HNX HE c5
                go_wp2_with fail
                refine (hnum _).mono ?_
                rintro e w2 ⟨rfl, rfl⟩
                go_wp2
                obtain ⟨t1, t2⟩ := HTP.out.fin (.int .i64 m1) (.int .i64 m2)
                rw [HW1.out] at t1 t2
                have t3 := HF1.out
                rw [HW1.out] at t3
                go_roundw
                case rel => exact ⟨k + 1, (m1, m2), by omega, by go_num, HR, t1, t3.trans t2 (fun _ _ e => e)⟩
                case measure => simp [intOf]; omega
            · have d4 : decide (m1 ≤ p1) = true := decide_eq_true (by omega)
              have HR : Hid (risB last (-1, 0) true ms = false) := HBAD.out (fun h => c4 h.2.2.2.1)
              clear HBAD HNX HE
              go_wp2
              go_ret
              exact ⟨ret_bool HR.out.symm, by rw [← HW1.out]; exact HFW1.out⟩
          · have d3 : decide (last < m2) = true := decide_eq_true (by omega)
            have HR : Hid (risB last (-1, 0) true ms = false) := HBAD.out (fun h => c3 h.2.2.1)
            clear HBAD HNX HE
            go_wp2
            go_ret
            exact ⟨ret_bool HR.out.symm, by rw [← HW1.out]; exact HFW1.out⟩
        · have d2 : decide (m2 ≤ p2) = true := decide_eq_true (by omega)
          have HR : Hid (risB last (-1, 0) true ms = false) := HBAD.out (fun h => c2 h.2.1)
          clear HBAD HNX HE
          go_wp2
          go_ret
          exact ⟨ret_bool HR.out.symm, by rw [← HW1.out]; exact HFW1.out⟩
    · have HR : Hid (risB last (-1, 0) true ms = true) := by
        show _ = _
        rw [← HE.out, List.drop_eq_nil_of_le (by omega)]; rfl
      go_wp2
      go_ret
      exact ⟨ret_bool HR.out.symm, HFW.out⟩
end Go.Proofs.Ytphfngboddnbmaa
