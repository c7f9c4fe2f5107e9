
/- The order of keys, told with nothing but draws. -/
import Derived.Test.YtdlnflcjodpkiaaGreatFdMap
namespace Go.Proofs.YtdlnflcjodpkiaaGreat
open Go.RowKit

/-- A world ahead by draws alone. -/
structure Dr (w w' : World) : Prop where
  ex : ∃ q, w' = w.drewN q
theorem Dr.refl (w : World) : Dr w w := ⟨0, rfl⟩
theorem Dr.drewN {a w : World} (h : Dr a w) (n : Nat) : Dr a (w.drewN n) := by
  obtain ⟨q, rfl⟩ := h.ex
  exact ⟨q + n, by simp [World.drewN, Nat.add_assoc]⟩
theorem Dr.fr {S : Nat → Prop} {a w : World} (h : Dr a w) : Fr S a w := by
  obtain ⟨q, rfl⟩ := h.ex
  exact (Fr.refl _ _).drewN q
set_option maxRecDepth 100000 in
set_option maxHeartbeats 1000000 in
theorem commonD_any (a b : ByteArray) (ha : a.size ≤ maxLen) (hb : b.size ≤ maxLen) (w : World) :
    Calls Tryz.prog 93 #[.string a, .string b] w fun e w' => e = .returned (.int .i64 (cmn (bsOf a) (bsOf b) : Nat)) ∧ Dr w w' := by
  unfold maxLen at ha hb
  by_cases hm : (b.size : Int) < (a.size : Int)
  all_goals
    go_enter Tryz.func93, Tryz.ntmps93
    go_wp2
    go_loopw [13, 6] (fun i _ wr => ∃ k : Nat, k ≤ a.size ∧ k ≤ b.size ∧ i = .int .i64 k ∧ Hid (∀ j, j < k → (bsOf a).getD j 0 = (bsOf b).getD j 0) ∧ Dr w wr) (fun i _ _ => a.size - (intOf i).toNat)
    case atStart => exact ⟨0, by omega, by omega, rfl, (fun j h => by omega), Dr.refl _⟩
    case round =>
      obtain ⟨k, hk, hk2, rfl, HE, hf⟩ := hrel
      by_cases hlt : k < a.size ∧ k < b.size
      · obtain ⟨h1, h2⟩ := hlt
        have HA : Hid (a[k].toNat = (bsOf a).getD k 0) := bs_at a k h1
        have HB : Hid (b[k].toNat = (bsOf b).getD k 0) := bs_at b k h2
        go_wp2
        go_quiet (fail)
        go_wp2
        · go_ret
          exact ⟨ret_int (by rw [cmn_is (bsOf a) (bsOf b) k (by rw [bsOf_length]; omega) (by rw [bsOf_length]; omega) HE.out (.inr (.inr (by rw [← HA.out, ← HB.out]; exact bne_nat ‹_›)))]), hf.drewN _⟩
        · go_roundw
          case rel =>
            refine ⟨k + 1, by omega, by omega, by go_num, fun j hj => ?_, hf.drewN _⟩
            rcases Nat.lt_or_ge j k with h | h
            · exact HE.out j h
            · have e : j = k := by omega
              rw [e, ← HA.out, ← HB.out]; exact beq_nat ‹_›
          case measure => simp [intOf]; omega
      · have e : k = a.size ∨ k = b.size := by omega
        have HM : Hid (k = a.size ∨ k = b.size) := e
        have hge : ¬ (k : Int) < (a.size : Int) ∨ ¬ (k : Int) < (b.size : Int) := by omega
        clear e hlt
        go_wp2
        go_ret
        exact ⟨ret_int (by rw [cmn_is (bsOf a) (bsOf b) k (by rw [bsOf_length]; omega) (by rw [bsOf_length]; omega) HE.out (by rw [bsOf_length, bsOf_length]; have := HM.out; omega)]; omega), hf⟩
set_option maxRecDepth 100000 in
set_option maxHeartbeats 1000000 in
theorem compareD_any (a b : ByteArray) (ha : a.size ≤ maxLen) (hb : b.size ≤ maxLen) (w : World) :
    Calls Tryz.prog 74 #[.string a, .string b] w fun e w' => e = .returned (.int .i64 (cpl (bsOf a) (bsOf b))) ∧ Dr w w' := by
  have hc := cpl_at (bsOf a) (bsOf b)
  have hl := cmn_le (bsOf a) (bsOf b)
  have common := commonD_any a b ha hb w
  unfold maxLen at ha hb
  rw [bsOf_length, bsOf_length] at hc hl
  obtain ⟨n, hn⟩ : ∃ n, n = cmn (bsOf a) (bsOf b) := ⟨_, rfl⟩
  rw [← hn] at hc hl common
  clear hn
  have l1 := hl.1
  have l2 := hl.2
  clear hl
  by_cases hx : n < a.size ∧ n < b.size
  · rw [if_pos hx] at hc
    obtain ⟨h1, h2⟩ := hx
    have HA := bs_at a n h1
    have HB := bs_at b n h2
    rw [← HA, ← HB] at hc
    have HC : Hid (cpl (bsOf a) (bsOf b) = cpn a[n].toNat b[n].toNat) := hc
    clear hc HA HB
    go_enter Tryz.func74, Tryz.ntmps74
    go_wp2_with fail
    refine common.mono ?_
    rintro e w1 ⟨rfl, hf⟩
    clear common
    go_wp2
    go_quiet ((go_at_call 94; exact Calls.quiet_of_same (cmpb_any _ _ _)))
    go_wp2
    go_ret
    exact ⟨ret_int HC.out.symm, hf.drewN _⟩
  · rw [if_neg hx] at hc
    have HC : Hid (cpl (bsOf a) (bsOf b) = cpn a.size b.size) := hc
    clear hc
    by_cases h1 : n < a.size
    · have h2 : ¬ (n : Int) < (b.size : Int) := by omega
      have h3 : decide ((n : Int) < (b.size : Int)) = false := by simpa using h2
      clear hx
      go_enter Tryz.func74, Tryz.ntmps74
      go_wp2_with fail
      refine common.mono ?_
      rintro e w1 ⟨rfl, hf⟩
      clear common
      go_wp2_with (go_at_call 95; refine (cmpi_any _ _ _).mono ?_; rintro e w2 ⟨rfl, rfl⟩)
      go_ret
      exact ⟨ret_int HC.out.symm, hf⟩
    · have h2 : ¬ (n : Int) < (a.size : Int) := by omega
      have h3 : decide ((n : Int) < (a.size : Int)) = false := by simpa using h2
      clear hx
      go_enter Tryz.func74, Tryz.ntmps74
      go_wp2_with fail
      refine common.mono ?_
      rintro e w1 ⟨rfl, hf⟩
      clear common
      go_wp2_with (go_at_call 95; refine (cmpi_any _ _ _).mono ?_; rintro e w2 ⟨rfl, rfl⟩)
      go_ret
      exact ⟨ret_int HC.out.symm, hf⟩
end Go.Proofs.YtdlnflcjodpkiaaGreat
