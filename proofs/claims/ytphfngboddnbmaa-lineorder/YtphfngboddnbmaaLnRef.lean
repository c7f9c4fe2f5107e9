
/- The document's own answer: which timelines are right, and the epoch at an LSN. -/
import Derived.Test.YtphfngboddnbmaaLnChk
import Derived.Deep.QuietTactic
import Derived.BigQuiet
namespace Go.Proofs.Ytphfngboddnbmaa
open Go.RowKit
open Go.Proofs.Ytphfngboddnbmaa.Ln

theorem epF_take {ms : List Mk} {k : Nat} {m : Mk} (h : ms[k]? = some m) (x : Int) : epF (ms.take (k + 1)) x = if m.2 ≤ x then m.1 else epF (ms.take k) x := by
  rw [List.take_succ_eq_append_getElem (List.getElem?_eq_some_iff.1 h).1, (List.getElem?_eq_some_iff.1 h).2, epF_snoc]
set_option maxRecDepth 100000 in
set_option maxHeartbeats 4000000 in
theorem repoch_any (a : Option Addr) (n c : Nat) (ms : List Mk) (last x : Int) (hn : n = ms.length) (w : World) (h : Mks w a c ms) : Calls Try.prog 25 #[.agg #[.slice a n c, .int .i64 last], .int .i64 x] w fun e w' => e = .returned (.int .i64 (epF ms x)) ∧ Fr (fun _ => False) w w' := by
  subst hn
  have hle := h.le
  have hmx := h.max
  have F1 : Fr (fun _ => False) w (w.alloc (.cells #[.slice a ms.length c, .int .i64 last] 30)) := Fr.box _ _
  have HS : Hid (∀ W, Fr (fun _ => False) w W → Mks W a c ms) := fun W f => h.same f
  clear h
  go_enter Try.func25, Try.ntmps25
  go_wp2
  go_loopw [11, 5] (fun i t wr => ∃ (k : Nat) (y : Int), k ≤ ms.length ∧ i = .int .i64 k ∧ t = .int .i64 y ∧ Hid (y = epF (ms.take k) x) ∧ Fr (fun _ => False) w wr) (fun i _ _ => ms.length - (intOf i).toNat)
  case atStart => exact ⟨0, 0, by omega, rfl, rfl, rfl, F1⟩
  case round =>
    obtain ⟨k, y, hk, rfl, rfl, HY, F⟩ := hrel
    by_cases hlt : k < ms.length
    · obtain ⟨m, hm⟩ : ∃ m, ms[k]? = some m := ⟨_, List.getElem?_eq_getElem hlt⟩
      obtain ⟨b, off, rfl, hb, hc⟩ := (HS.out _ F).some (by omega)
      obtain ⟨q0, q1⟩ := mk_range (hc k m hm)
      have HN : Hid (epF (ms.take (k + 1)) x = if m.2 ≤ x then m.1 else epF (ms.take k) x) := epF_take hm x
      have hki : (k : Int) < (ms.length : Int) := by omega
      have FB := F.alloc (.cells #[.int .i64 m.1, .int .i64 m.2] 53)
      clear hm hc
      by_cases hx : m.2 ≤ x
      · have HN2 : Hid (m.1 = epF (ms.take (k + 1)) x) := by show _ = _; rw [HN.out, if_pos hx]
        clear HN
        go_wp2
        go_roundw
        case rel => exact ⟨k + 1, m.1, by omega, by go_num, rfl, HN2, FB⟩
        case measure => simp [intOf]; omega
      · have HN2 : Hid (y = epF (ms.take (k + 1)) x) := by show _ = _; rw [HN.out, if_neg hx]; exact HY.out
        clear HN HY
        go_wp2
        go_roundw
        case rel => exact ⟨k + 1, y, by omega, by go_num, rfl, HN2, FB⟩
        case measure => simp [intOf]; omega
    · have HN2 : Hid (y = epF ms x) := by show _ = _; rw [HY.out, List.take_of_length_le (by omega)]
      clear HY
      go_wp2
      go_ret
      exact ⟨ret_int HN2.out, F⟩
set_option maxRecDepth 100000 in
set_option maxHeartbeats 8000000 in
theorem rright_any (a : Option Addr) (n c : Nat) (ms : List Mk) (last : Int) (hn : n = ms.length) (w : World) (h : Mks w a c ms) : Calls Try.prog 15 #[.agg #[.slice a n c, .int .i64 last]] w fun e w' => e = .returned (.bool (linB ms last)) ∧ Fr (fun _ => False) w w' := by
  subst hn
  have hnum := fun W => rin_any last W
  have F1 : Fr (fun _ => False) w (w.alloc (.cells #[.slice a ms.length c, .int .i64 last] 30)) := Fr.box _ _
  have HT : Hid (Two (w.alloc (.cells #[.slice a ms.length c, .int .i64 last] 30)) w.heap.size 30 (.slice a ms.length c) (.int .i64 last)) := Two.new w _ _ _
  have HL : Hid (linB ms last = (numB last && ((decide (last = 0) == decide (ms.length = 0)) && risB last (-1, 0) true ms))) := rfl
  have hle := h.le
  have hmx := h.max
  have HS : Hid (∀ W, Fr (fun _ => False) (w.alloc (.cells #[.slice a ms.length c, .int .i64 last] 30)) W → Mks W a c ms) := fun W f => h.same (F1.seq' f)
  clear h
  cases cn : numB last
  · rw [cn] at hnum
    have HR : Hid (linB ms last = false) := by show _ = _; rw [HL.out, cn]; rfl
    clear cn HL HS
    go_enter Try.func15, Try.ntmps15
    go_wp2_with fail
    refine (hnum _).mono ?_
    rintro e w2 ⟨rfl, rfl⟩
    go_wp2
    go_ret
    exact ⟨ret_bool HR.out.symm, F1⟩
  · rw [cn] at hnum
    by_cases c3 : decide (last = 0) = decide (ms.length = 0)
    rotate_left
    · have HR : Hid (linB ms last = false) := by
        show _ = _
        rw [HL.out, cn]
        have : (decide (last = 0) == decide (ms.length = 0)) = false := by rw [beq_eq_false_iff_ne]; exact c3
        rw [this]; rfl
      have hd : ((last == 0) = true ∧ ((ms.length : Int) == 0) = false) ∨ ((last == 0) = false ∧ ((ms.length : Int) == 0) = true) := by
        by_cases e1 : last = 0
        · left
          refine ⟨by rw [e1]; rfl, ?_⟩
          rw [beq_eq_false_iff_ne]
          intro e2
          exact c3 (by rw [decide_eq_decide]; exact ⟨fun _ => by omega, fun _ => e1⟩)
        · right
          refine ⟨by rw [beq_eq_false_iff_ne]; exact e1, ?_⟩
          rw [beq_iff_eq]
          by_cases e2 : ms.length = 0
          · omega
          · exact absurd (by rw [decide_eq_decide]; exact ⟨fun h => absurd h e1, fun h => absurd h e2⟩) c3
      clear cn HL HS c3
      rcases hd with ⟨d1, d2⟩ | ⟨d1, d2⟩
      · have d3 : decide ((ms.length : Int) = 0) = false := decide_eq_false (by rw [beq_eq_false_iff_ne] at d2; exact d2)
        go_enter Try.func15, Try.ntmps15
        go_wp2_with fail
        refine (hnum _).mono ?_
        rintro e w2 ⟨rfl, rfl⟩
        go_wp2
        go_ret
        exact ⟨ret_bool HR.out.symm, F1⟩
      · have d3 : decide ((ms.length : Int) = 0) = true := decide_eq_true (by rw [beq_iff_eq] at d2; exact d2)
        go_enter Try.func15, Try.ntmps15
        go_wp2_with fail
        refine (hnum _).mono ?_
        rintro e w2 ⟨rfl, rfl⟩
        go_wp2
        go_ret
        exact ⟨ret_bool HR.out.symm, F1⟩
    · have HLR : Hid (linB ms last = risB last (-1, 0) true ms) := by
        show _ = _
        rw [HL.out, cn, c3, beq_self_eq_true]; rfl
      have hdd : (last == 0) = ((ms.length : Int) == 0) := by
        by_cases e1 : last = 0
        · have e2 : ms.length = 0 := of_decide_eq_true (by rw [← c3]; exact decide_eq_true e1)
          rw [e1, e2]; rfl
        · have e2 : ¬ ms.length = 0 := of_decide_eq_false (by rw [← c3]; exact decide_eq_false e1)
          rw [show (last == 0) = false by rw [beq_eq_false_iff_ne]; exact e1]
          symm
          rw [beq_eq_false_iff_ne]; omega
      have HD : Hid ((last == 0) = ((ms.length : Int) == 0)) := hdd
      clear HL cn c3 hdd
      obtain ⟨W0, hW0⟩ : ∃ W, W = w.alloc (.cells #[.slice a ms.length c, .int .i64 last] 30) := ⟨_, rfl⟩
      have HW0 : Hid (W0 = w.alloc (.cells #[.slice a ms.length c, .int .i64 last] 30)) := hW0
      rw [← hW0] at HT F1 HS
      clear hW0
      go_enter Try.func15, Try.ntmps15
      go_wp2_with fail
      refine (hnum _).mono ?_
      rintro e w2 ⟨rfl, rfl⟩
      have d1 : (last == 0) = ((ms.length : Int) == 0) := HD.out
      cases d2 : ((ms.length : Int) == 0)
      · rw [d2] at d1
        have d3 : decide ((ms.length : Int) = 0) = false := decide_eq_false (by rw [beq_eq_false_iff_ne] at d2; exact d2)
        have hl0 : 0 < ms.length := by rw [beq_eq_false_iff_ne] at d2; omega
        obtain ⟨b, off, rfl, hb, hc⟩ := (HS.out _ (Fr.refl _ _)).some hl0
        have HC : Hid (∀ (i : Nat) m, ms[i]? = some m → ∀ W, Fr (fun _ => False) W0 W → W.rangeAt b (off + i * 2) (mkC m)) := fun i m hm W f => range_fr (hc i m hm) f (fun f => f)
        clear hc HS
        go_wp2
        go_loopw [22] (fun i wr => ∃ (k : Nat) (p : Mk), k ≤ ms.length ∧ i = .int .i64 k ∧ Hid ((k = 0 ∧ p = (-1, 0)) ∨ ∃ j, k = j + 1 ∧ ms[j]? = some p) ∧ Hid (risB last p (decide (k = 0)) (ms.drop k) = risB last (-1, 0) true ms) ∧ Hid (Fr (fun _ => False) W0 wr)) (fun i _ => ms.length - (intOf i).toNat)
        case atStart => exact ⟨0, (-1, 0), by omega, rfl, .inl ⟨rfl, rfl⟩, rfl, by rw [← HW0.out]; exact Fr.refl _ _⟩
        case round =>
          obtain ⟨k, p, hk, rfl, HK, HE, HF⟩ := hrel
          by_cases hlt : k < ms.length
          · obtain ⟨m, hm⟩ : ∃ m, ms[k]? = some m := ⟨_, List.getElem?_eq_getElem hlt⟩
            have HNX : Hid (risB last p (decide (k = 0)) (ms.drop k) = (okm last p (decide (k = 0)) m && risB last m false (ms.drop (k + 1)))) := ris_drop hm _ _ _
            obtain ⟨q0, q1⟩ := mk_range (HC.out k m hm _ HF.out)
            have HM : Hid (ms[k]? = some m) := hm
            have f1 := Fr.box wr (.cells #[.int .i64 m.1, .int .i64 m.2] 53)
            have HF1 : Hid (Fr (fun _ => False) W0 (wr.alloc (.cells #[.int .i64 m.1, .int .i64 m.2] 53))) := HF.out.seq' f1
            obtain ⟨x0, x1, _⟩ := (Two.new wr 53 (.int .i64 m.1) (.int .i64 m.2)).cells
            obtain ⟨z0, z1, _⟩ := (HT.out.fr HF1.out (fun f => f)).cells
            have HFW1 : Hid (Fr (fun _ => False) w (wr.alloc (.cells #[.int .i64 m.1, .int .i64 m.2] 53))) := F1.seq' HF1.out
            have hki : (k : Int) < (ms.length : Int) := by omega
            have hnm := fun W => rin_any m.1 W
            have HBAD : Hid (¬ ((decide (k = 0) = true → m.2 = 1) ∧ p.2 < m.2 ∧ m.2 ≤ last ∧ p.1 < m.1 ∧ numB m.1 = true) → linB ms last = false) := fun hb => by
              rw [HLR.out, ← HE.out, HNX.out, okm_not hb]; rfl
            clear hm f1 HF
            cases c5 : numB m.1
            · rw [c5] at hnm
              have HR : Hid (linB ms last = false) := HBAD.out (fun h => by have := h.2.2.2.2; rw [c5] at this; exact Bool.noConfusion this)
              clear HBAD HNX HE c5 HK
              go_wp2_with fail
              refine (hnm _).mono ?_
              rintro e w3 ⟨rfl, rfl⟩
              go_wp2
              go_ret
              exact ⟨ret_bool HR.out.symm, HFW1.out⟩
            · rw [c5] at hnm
              have HC5 : Hid (numB m.1 = true) := c5
              clear c5
              by_cases c3 : m.2 ≤ last
              rotate_left
              · have HR : Hid (linB ms last = false) := HBAD.out (fun h => c3 h.2.2.1)
                have d6 : decide (last < m.2) = true := decide_eq_true (by omega)
                clear HBAD HNX HE c3 HK
                go_wp2_with fail
                refine (hnm _).mono ?_
                rintro e w3 ⟨rfl, rfl⟩
                go_wp2
                go_ret
                exact ⟨ret_bool HR.out.symm, HFW1.out⟩
              · have d6 : decide (last < m.2) = false := decide_eq_false (by omega)
                rcases HK.out with ⟨c0, hp⟩ | ⟨j, rfl, hj⟩
                · have d0 : ((k : Int) == 0) = true := by rw [beq_iff_eq]; omega
                  have d8 : decide (0 < (k : Int)) = false := decide_eq_false (by omega)
                  have d9 : decide (0 < k) = false := decide_eq_false (by omega)
                  have HC0 : Hid (k = 0) := c0
                  have HPP : Hid (p = (-1, 0)) := hp
                  clear c0 hp
                  by_cases c1 : m.2 = 1
                  · have d7 : (m.2 != 1) = false := by rw [c1]; rfl
                    have HR : Hid (risB last m (decide (k + 1 = 0)) (ms.drop (k + 1)) = risB last (-1, 0) true ms) := by
                      show _ = _
                      have hn5 := numB_iff.1 HC5.out
                      rw [← HE.out, HNX.out, okm_yes (fun _ => c1) (by rw [HPP.out]; show 0 < m.2; omega) c3 (by rw [HPP.out]; show -1 < m.1; omega) HC5.out, decide_eq_false (by omega)]; rfl
                    clear HBAD HNX HE c1
                    go_wp2_with fail
                    refine (hnm _).mono ?_
                    rintro e w3 ⟨rfl, rfl⟩
                    go_wp2
                    go_quiet (fail)
                    go_wp2
                    go_roundw
                    case rel => exact ⟨k + 1, m, by omega, by go_num, .inr ⟨k, rfl, HM.out⟩, HR, Fr.drewN HF1.out _⟩
                    case measure => simp [intOf]; omega
                  · have d7 : (m.2 != 1) = true := by simpa using c1
                    have HR : Hid (linB ms last = false) := HBAD.out (fun h => c1 (h.1 (decide_eq_true HC0.out)))
                    clear HBAD HNX HE c1
                    go_wp2_with fail
                    refine (hnm _).mono ?_
                    rintro e w3 ⟨rfl, rfl⟩
                    go_wp2
                    go_ret
                    exact ⟨ret_bool HR.out.symm, HFW1.out⟩
                · have d0 : ((j : Int) + 1 == 0) = false := by rw [beq_eq_false_iff_ne]; omega
                  have d8 : decide (0 < (j : Int) + 1) = true := decide_eq_true (by omega)
                  have d9 : decide (0 < j + 1) = true := decide_eq_true (by omega)
                  obtain ⟨r0, r1⟩ := mk_range (HC.out j p hj _ HF1.out)
                  have j1 : IntKind.i64.wrap (j : Int) = (j : Int) := by simp [IntKind.wrap, IntKind.bits, IntKind.signed]; omega
                  have j2 : (0 : Int) ≤ (j : Int) := by omega
                  have j3 : (j : Int) < (ms.length : Int) := by omega
                  have j4 : IntKind.i64.wrap ((j : Int) + 1 - 1) = (j : Int) := by simp [IntKind.wrap, IntKind.bits, IntKind.signed]; omega
                  clear hj HK
                  by_cases c1 : p.2 < m.2
                  · have d7 : decide (m.2 ≤ p.2) = false := decide_eq_false (by omega)
                    by_cases c2 : p.1 < m.1
                    · have d5 : decide (m.1 ≤ p.1) = false := decide_eq_false (by omega)
                      have HR : Hid (risB last m (decide (j + 1 + 1 = 0)) (ms.drop (j + 1 + 1)) = risB last (-1, 0) true ms) := by
                        show _ = _
                        rw [← HE.out, HNX.out, okm_yes (fun h => absurd (of_decide_eq_true h) (by omega)) c1 c3 c2 HC5.out, decide_eq_false (by omega)]; rfl
                      clear HBAD HNX HE
                      go_wp2_with fail
                      refine (hnm _).mono ?_
                      rintro e w3 ⟨rfl, rfl⟩
                      go_wp2
                      go_quiet (fail)
                      go_wp2
                      go_roundw
                      case rel => exact ⟨j + 1 + 1, m, by omega, by go_num, .inr ⟨j + 1, rfl, HM.out⟩, HR, Fr.drewN HF1.out _⟩
                      case measure => simp [intOf]; omega
                    · have d5 : decide (m.1 ≤ p.1) = true := decide_eq_true (by omega)
                      have HR : Hid (linB ms last = false) := HBAD.out (fun h => c2 h.2.2.2.1)
                      clear HBAD HNX HE c2
                      go_wp2_with fail
                      refine (hnm _).mono ?_
                      rintro e w3 ⟨rfl, rfl⟩
                      go_wp2
                      go_quiet (fail)
                      go_wp2
                      go_ret
                      exact ⟨ret_bool HR.out.symm, Fr.drewN HFW1.out _⟩
                  · have d7 : decide (m.2 ≤ p.2) = true := decide_eq_true (by omega)
                    have HR : Hid (linB ms last = false) := HBAD.out (fun h => c1 h.2.1)
                    clear HBAD HNX HE c1
                    go_wp2_with fail
                    refine (hnm _).mono ?_
                    rintro e w3 ⟨rfl, rfl⟩
                    go_wp2
                    go_quiet (fail)
                    go_wp2
                    go_ret
                    exact ⟨ret_bool HR.out.symm, Fr.drewN HFW1.out _⟩
          · have HR : Hid (linB ms last = true) := by
              show _ = _
              rw [HLR.out, ← HE.out, List.drop_eq_nil_of_le (by omega)]; rfl
            have HFW : Hid (Fr (fun _ => False) w wr) := F1.seq' HF.out
            go_wp2
            go_ret
            exact ⟨ret_bool HR.out.symm, HFW.out⟩
      · rw [d2] at d1
        have d3 : decide ((ms.length : Int) = 0) = true := decide_eq_true (by rw [beq_iff_eq] at d2; exact d2)
        have hl0 : ms.length = 0 := by rw [beq_iff_eq] at d2; omega
        have HR : Hid (linB ms last = true) := by show _ = _; rw [HLR.out, List.length_eq_zero_iff.1 hl0]; rfl
        have d4 : decide (0 < (ms.length : Int)) = false := decide_eq_false (by omega)
        have d5 : decide (0 < ms.length) = false := decide_eq_false (by omega)
        clear hl0
        go_wp2
        refine wp_loop_rounds 1 ?_
        rw [rounds_succ]
        go_wp2
        go_ret
        exact ⟨ret_bool HR.out.symm, by rw [← HW0.out]; exact F1⟩
end Go.Proofs.Ytphfngboddnbmaa
