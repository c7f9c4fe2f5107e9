
/- The document's own answers on sets. -/
import Derived.Test.YtnjfihmghhjfcaaQuBase
namespace Go.Proofs.Ytnjfihmghhjfcaa
open Go.RowKit
open Go.Proofs.Ytnjfihmghhjfcaa.Qu

theorem tdiv2 {x : Int} (h : 0 ≤ x) : x.tdiv 2 = x / 2 := by rw [Int.tdiv_eq_ediv_of_nonneg h]
theorem tmod2 {x : Int} (h : 0 ≤ x) : x.tmod 2 = x % 2 := by rw [Int.tmod_eq_emod_of_nonneg h]
set_option maxRecDepth 100000 in
set_option maxHeartbeats 4000000 in
theorem rin_any (a i : Int) (h0 : 0 ≤ a) (h1 : a < 128) (hi : 0 ≤ i) (hj : i < 7) (w : World) : Calls Try.prog 16 #[.int .i64 a, .int .i64 i] w fun e w' => e = .returned (.bool (inB a i.toNat)) ∧ w' = w := by
  go_enter Try.func16, Try.ntmps16
  go_wp2
  go_loopw [0, 5] (fun s v wr => ∃ (k : Nat) (x : Int), k ≤ i.toNat ∧ v = .int .i64 k ∧ s = .int .i64 x ∧ x = a / 2 ^ k ∧ wr = w) (fun _ v _ => i.toNat - (intOf v).toNat)
  case atStart => exact ⟨0, a, by omega, rfl, rfl, by simp, rfl⟩
  case round =>
    obtain ⟨k, x, hk, rfl, rfl, hx, rfl⟩ := hrel
    have HX : Hid (x = a / 2 ^ k) := hx
    have hp : (0 : Int) < 2 ^ k := Int.pow_pos (by decide)
    have x0 : 0 ≤ x := by rw [hx]; exact Int.ediv_nonneg h0 (by omega)
    have x1 : x < 128 := by rw [hx]; exact Int.lt_of_le_of_lt (Int.ediv_le_self _ h0) h1
    have ht := tdiv2 x0
    have hm := tmod2 x0
    clear hx hp
    by_cases hlt : (k : Int) < i
    · go_wp2
      refine ⟨⟨k + 1, x / 2, by omega, by simp, by simp, ?_, trivial⟩, by simp [intOf]; omega⟩
      rw [HX.out, Int.ediv_ediv_of_nonneg (Int.le_of_lt (Int.pow_pos (by decide))), Int.pow_succ]
    · have hkn : k = i.toNat := by omega
      go_wp2
      go_ret
      refine ⟨?_, rfl⟩
      rw [← hkn]
      show _ = Ending.returned (.bool (a / 2 ^ k % 2 == 1))
      rw [← HX.out]
      rfl
set_option maxRecDepth 100000 in
set_option maxHeartbeats 4000000 in
theorem asked_any (n a b : Int) (w : World) : Calls Try.prog 8 #[.int .i64 n, .int .i64 a, .int .i64 b] w fun e w' => e = .returned (.int .i64 (lookE n [a, b])) ∧ w' = w := by
  by_cases h1 : n < 1
  · rw [look_no (by simp [nOk]; omega)]
    go_enter Try.func8, Try.ntmps8
    go_wp2
    go_ret
    exact ⟨rfl, rfl⟩
  · have h1' : decide (n < 1) = false := by simpa using h1
    by_cases h2 : 7 < n
    · rw [look_no (by simp [nOk]; omega)]
      go_enter Try.func8, Try.ntmps8
      go_wp2
      go_ret
      exact ⟨rfl, rfl⟩
    · have h2' : decide (7 < n) = false := by simpa using h2
      have HE : Hid (lookE n [a, b] = if (sB n a && sB n b) = true then 0 else 4) := by
        show _ = _
        have h3 : nOk n = true := nOk_yes (by omega) (by omega)
        simp [lookE, h3]
      go_enter Try.func8, Try.ntmps8
      go_wp2
      go_loopw [7, 8] (fun s v wr => ∃ (k : Nat) (x : Int), k ≤ n.toNat ∧ v = .int .i64 k ∧ s = .int .i64 x ∧ x = 2 ^ k ∧ wr = w) (fun _ v _ => n.toNat - (intOf v).toNat)
      case atStart => exact ⟨0, 1, by omega, rfl, rfl, by simp, rfl⟩
      case round =>
        obtain ⟨k, x, hk, rfl, rfl, hx, rfl⟩ := hrel
        have HX : Hid (x = 2 ^ k) := hx
        have hp : 0 < x ∧ x ≤ 128 := by
          rw [hx]
          refine ⟨Int.pow_pos (by decide), ?_⟩
          have h : ∀ k : Nat, k < 8 → (2 : Int) ^ k ≤ 128 := by decide
          exact h k (by omega)
        obtain ⟨x0, x1⟩ := hp
        clear hx
        by_cases hlt : (k : Int) < n
        · go_wp2
          refine ⟨⟨k + 1, x * 2, by omega, by simp, by simp, ?_, trivial⟩, by simp [intOf]; omega⟩
          rw [HX.out, Int.pow_succ]
        · have hkn : k = n.toNat := by omega
          have HA : Hid (sB n a = (decide (0 ≤ a) && decide (a < x))) := by show _ = _; rw [HX.out, hkn]; rfl
          have HB : Hid (sB n b = (decide (0 ≤ b) && decide (b < x))) := by show _ = _; rw [HX.out, hkn]; rfl
          have hlt' : decide ((k : Int) < n) = false := by simpa using hlt
          clear hkn hk HX
          by_cases g1 : a < 0
          · go_wp2
            go_ret
            refine ⟨?_, rfl⟩
            rw [HE.out, HA.out, if_neg (by simp; omega)]; rfl
          · have g1' : decide (a < 0) = false := by simpa using g1
            by_cases g2 : x ≤ a
            · go_wp2
              go_ret
              refine ⟨?_, rfl⟩
              rw [HE.out, HA.out, if_neg (by simp; omega)]; rfl
            · have g2' : decide (x ≤ a) = false := by simpa using g2
              by_cases g3 : b < 0
              · go_wp2
                go_ret
                refine ⟨?_, rfl⟩
                rw [HE.out, HB.out, if_neg (by simp; omega)]; rfl
              · have g3' : decide (b < 0) = false := by simpa using g3
                by_cases g4 : x ≤ b
                · go_wp2
                  go_ret
                  refine ⟨?_, rfl⟩
                  rw [HE.out, HB.out, if_neg (by simp; omega)]; rfl
                · have g4' : decide (x ≤ b) = false := by simpa using g4
                  go_wp2
                  go_ret
                  refine ⟨?_, rfl⟩
                  rw [HE.out, HA.out, HB.out, if_pos (by simp; omega)]; rfl
theorem look_one {n a : Int} : lookE n [a, 0] = lookE n [a] := by
  unfold lookE
  by_cases h : nOk n = true
  · rw [if_pos h, if_pos h]
    have : sB n 0 = true := by simp [sB]; exact Int.pow_pos (by decide)
    simp [this]
  · rw [if_neg h, if_neg h]
set_option maxRecDepth 100000 in
set_option maxHeartbeats 4000000 in
theorem rwith_any (n a i : Int) (w : World) : Calls Try.prog 14 #[.int .i64 n, .int .i64 a, .int .i64 i] w fun e w' => e = .returned (.tuple #[.int .i64 (withR n a i), .int .i64 (withE n a i)]) ∧ w' = w := by
  have hlk := asked_any n a 0 w
  rw [look_one] at hlk
  by_cases hz : lookE n [a] = 0
  · obtain ⟨h1, h2, h3⟩ := look_ok hz
    have h4 := sB_lt h2 (h3 a (by simp))
    rw [hz] at hlk
    by_cases g1 : i < 0
    · rw [show withE n a i = 6 by unfold withE; rw [if_pos hz, if_neg (by omega)], show withR n a i = 0 by unfold withR withE; rw [if_pos hz, if_neg (by omega)]]
      clear hz h3
      go_enter Try.func14, Try.ntmps14
      go_wp2_with (go_at_call 8; refine hlk.mono ?_; rintro e w1 ⟨rfl, rfl⟩)
      go_ret2
      exact ⟨rfl, rfl⟩
    · have g1' : decide (i < 0) = false := by simpa using g1
      by_cases g2 : n ≤ i
      · rw [show withE n a i = 6 by unfold withE; rw [if_pos hz, if_neg (by omega)], show withR n a i = 0 by unfold withR withE; rw [if_pos hz, if_neg (by omega)]]
        clear hz h3
        go_enter Try.func14, Try.ntmps14
        go_wp2_with (go_at_call 8; refine hlk.mono ?_; rintro e w1 ⟨rfl, rfl⟩)
        go_ret2
        exact ⟨rfl, rfl⟩
      · have g2' : decide (n ≤ i) = false := by simpa using g2
        have hE : withE n a i = 0 := by unfold withE; rw [if_pos hz, if_pos ⟨by omega, by omega⟩]
        rw [hE, show withR n a i = withN a i.toNat by unfold withR; rw [if_pos hE]]
        obtain ⟨hp0, hp1⟩ := shl_small (n := i) (by omega) (by omega)
        have hi0 : 0 ≤ i := by omega
        have hi7 : i < 7 := by omega
        have hri := rin_any a i h4.1 h4.2 hi0 hi7 w
        obtain ⟨h40, h41⟩ := h4
        cases hb : inB a i.toNat with
        | true =>
          rw [show withN a i.toNat = a by unfold withN; rw [hb]; rfl]
          rw [hb] at hri
          clear hz h3 hE hb
          go_enter Try.func14, Try.ntmps14
          go_wp2_with (first | (go_at_call 8; refine hlk.mono ?_; rintro e w1 ⟨rfl, rfl⟩) | (go_at_call 16; refine hri.mono ?_; rintro e w2 ⟨rfl, rfl⟩))
          go_ret2
          exact ⟨rfl, rfl⟩
        | false =>
          rw [show withN a i.toNat = a + 2 ^ i.toNat by unfold withN; rw [hb]; rfl]
          rw [hb] at hri
          clear hz h3 hE hb
          go_enter Try.func14, Try.ntmps14
          go_wp2_with (first | (go_at_call 8; refine hlk.mono ?_; rintro e w1 ⟨rfl, rfl⟩) | (go_at_call 16; refine hri.mono ?_; rintro e w2 ⟨rfl, rfl⟩))
          go_ret2
          exact ⟨rfl, rfl⟩
  · have hE : withE n a i = lookE n [a] := by unfold withE; rw [if_neg hz]
    rw [hE, show withR n a i = 0 by unfold withR; rw [hE, if_neg hz]]
    clear hE
    go_enter Try.func14, Try.ntmps14
    go_wp2_with (go_at_call 8; refine hlk.mono ?_; rintro e w1 ⟨rfl, rfl⟩)
    go_ret2
    exact ⟨rfl, rfl⟩
end Go.Proofs.Ytnjfihmghhjfcaa
