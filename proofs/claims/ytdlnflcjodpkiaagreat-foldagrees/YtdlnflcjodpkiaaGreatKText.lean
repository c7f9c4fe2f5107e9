
/- What key.Check, Value, Common and Compare tell, and what the document's own tell. -/
import Derived.Test.YtdlnflcjodpkiaaGreatKMath
import Derived.Deep.QuietTactic
import Derived.BigQuiet
import Derived.Lib.Strings
namespace Go.Proofs.YtdlnflcjodpkiaaGreat
open Go.RowKit

theorem bs_at (s : ByteArray) (k : Nat) (h : k < s.size) : s[k].toNat = (bsOf s).getD k 0 := by
  have h' : k < s.data.toList.length := by simpa using h
  unfold bsOf
  rw [List.getD_eq_getElem?_getD, List.getElem?_map, List.getElem?_eq_getElem h']
  rfl
theorem bs_nil {s : ByteArray} (h : s.size = 0) : s.toList.isEmpty = true := by
  rw [Lib.toList_data, List.isEmpty_iff, ← List.length_eq_zero_iff, ← Lib.size_eq]; exact h
theorem bs_not_nil {s : ByteArray} (h : s.size ≠ 0) : s.toList.isEmpty = false := by
  rw [Lib.toList_data, ← Bool.not_eq_true, List.isEmpty_iff, ← List.length_eq_zero_iff, ← Lib.size_eq]; exact h
theorem bs_extract (s : ByteArray) (k : Nat) : bsOf (s.extract 0 k) = (bsOf s).take k := by
  unfold bsOf; rw [Lib.extract_data]; simp [List.map_take]
theorem bs_inj {a b : ByteArray} (h : bsOf a = bsOf b) : a = b := by rw [← strOf_bsOf a, ← strOf_bsOf b, h]


def ekey (n : Nat) : Nat := if n = 0 ∨ 16 < n then 50 else 0
def evalu (n : Nat) : Nat := if 32 < n then 51 else 0
theorem ekey_no {n : Nat} (h : n = 0 ∨ 16 < n) : ekey n = 50 := if_pos h
theorem ekey_ok {n : Nat} (h : n ≠ 0) (k : n ≤ 16) : ekey n = 0 := if_neg (by omega)
theorem ekey_lt (n : Nat) : ekey n < 256 := by unfold ekey; split <;> omega
theorem evalu_lt (n : Nat) : evalu n < 256 := by unfold evalu; split <;> omega

set_option maxRecDepth 100000 in
set_option maxHeartbeats 400000 in
theorem kcheck_any (s : ByteArray) (w : World) :
    Calls Tryz.prog 78 #[.string s] w fun e w' => e = .returned (.int .i64 (ekey s.size : Nat)) ∧ w' = w := by
  by_cases h0 : s.size = 0
  · have he := bs_nil h0
    rw [ekey_no (.inl h0)]
    clear h0
    go_enter Tryz.func78, Tryz.ntmps78
    go_wp2
    go_ret
    exact ⟨rfl, rfl⟩
  · have he := bs_not_nil h0
    by_cases h1 : 16 < s.size
    · rw [ekey_no (.inr h1)]
      have h2 : (16 : Int) < (s.size : Int) := by omega
      clear h0
      go_enter Tryz.func78, Tryz.ntmps78
      go_wp2
      go_ret
      exact ⟨rfl, rfl⟩
    · rw [ekey_ok h0 (by omega)]
      have h2 : ¬ (16 : Int) < (s.size : Int) := by omega
      clear h0
      go_enter Tryz.func78, Tryz.ntmps78
      go_wp2
      go_ret
      exact ⟨rfl, rfl⟩
set_option maxRecDepth 100000 in
set_option maxHeartbeats 400000 in
theorem rcheck_any (s : ByteArray) (w : World) :
    Calls Tryz.prog 50 #[.string s] w fun e w' => e = .returned (.int .i64 (ekey s.size : Nat)) ∧ w' = w := by
  by_cases h0 : s.size = 0
  · rw [ekey_no (.inl h0)]
    have h2 : (s.size : Int) < 1 := by omega
    clear h0
    go_enter Tryz.func50, Tryz.ntmps50
    go_wp2
    go_ret
    exact ⟨rfl, rfl⟩
  · have h3 : ¬ (s.size : Int) < 1 := by omega
    by_cases h1 : 16 < s.size
    · rw [ekey_no (.inr h1)]
      have h2 : (16 : Int) < (s.size : Int) := by omega
      clear h0
      go_enter Tryz.func50, Tryz.ntmps50
      go_wp2
      go_ret
      exact ⟨rfl, rfl⟩
    · rw [ekey_ok h0 (by omega)]
      have h2 : ¬ (16 : Int) < (s.size : Int) := by omega
      clear h0
      go_enter Tryz.func50, Tryz.ntmps50
      go_wp2
      go_ret
      exact ⟨rfl, rfl⟩
set_option maxRecDepth 100000 in
set_option maxHeartbeats 400000 in
theorem kvalue_any (s : ByteArray) (w : World) :
    Calls Tryz.prog 79 #[.string s] w fun e w' => e = .returned (.int .i64 (evalu s.size : Nat)) ∧ w' = w := by
  by_cases h1 : 32 < s.size
  · rw [show evalu s.size = 51 from if_pos h1]
    have h2 : (32 : Int) < (s.size : Int) := by omega
    go_enter Tryz.func79, Tryz.ntmps79
    go_wp2
    go_ret
    exact ⟨rfl, rfl⟩
  · rw [show evalu s.size = 0 from if_neg h1]
    have h2 : ¬ (32 : Int) < (s.size : Int) := by omega
    go_enter Tryz.func79, Tryz.ntmps79
    go_wp2
    go_ret
    exact ⟨rfl, rfl⟩
set_option maxRecDepth 100000 in
set_option maxHeartbeats 400000 in
theorem rvalue_any (s : ByteArray) (w : World) :
    Calls Tryz.prog 51 #[.string s] w fun e w' => e = .returned (.int .i64 (evalu s.size : Nat)) ∧ w' = w := by
  by_cases h1 : 32 < s.size
  · rw [show evalu s.size = 51 from if_pos h1]
    have h2 : (32 : Int) < (s.size : Int) := by omega
    go_enter Tryz.func51, Tryz.ntmps51
    go_wp2
    go_ret
    exact ⟨rfl, rfl⟩
  · rw [show evalu s.size = 0 from if_neg h1]
    have h2 : ¬ (32 : Int) < (s.size : Int) := by omega
    go_enter Tryz.func51, Tryz.ntmps51
    go_wp2
    go_ret
    exact ⟨rfl, rfl⟩

theorem bne_nat {x y : Nat} (h : ((x : Int) != (y : Int)) = true) : x ≠ y := by
  intro e; subst e; simp at h
theorem beq_nat {x y : Nat} (h : ((x : Int) != (y : Int)) = false) : x = y := by
  have : (x : Int) = (y : Int) := by simpa using h
  omega

set_option maxRecDepth 100000 in
set_option maxHeartbeats 1000000 in
theorem common_any (a b : ByteArray) (ha : a.size ≤ maxLen) (hb : b.size ≤ maxLen) (w : World) :
    Calls Tryz.prog 93 #[.string a, .string b] w fun e w' => e = .returned (.int .i64 (cmn (bsOf a) (bsOf b) : Nat)) ∧ Fr (fun _ => False) w w' := by
  unfold maxLen at ha hb
  by_cases hm : (b.size : Int) < (a.size : Int)
  all_goals
    go_enter Tryz.func93, Tryz.ntmps93
    go_wp2
    go_loopw [13, 6] (fun i _ wr => ∃ k : Nat, k ≤ a.size ∧ k ≤ b.size ∧ i = .int .i64 k ∧ Hid (∀ j, j < k → (bsOf a).getD j 0 = (bsOf b).getD j 0) ∧ Fr (fun _ => False) w wr) (fun i _ _ => a.size - (intOf i).toNat)
    case atStart => exact ⟨0, by omega, by omega, rfl, (fun j h => by omega), Fr.refl _ _⟩
    case round =>
      obtain ⟨k, hk, hk2, rfl, HE, hf⟩ := hrel
      by_cases hlt : k < a.size ∧ k < b.size
      · obtain ⟨h1, h2⟩ := hlt
        have HA : Hid (a[k].toNat = (bsOf a).getD k 0) := bs_at a k h1
        have HB : Hid (b[k].toNat = (bsOf b).getD k 0) := bs_at b k h2
        go_wp2
        go_quiet (fail)
        go_wp2
        · go_ret
          exact ⟨ret_int (by rw [cmn_is (bsOf a) (bsOf b) k (by rw [bsOf_length]; omega) (by rw [bsOf_length]; omega) HE.out (.inr (.inr (by rw [← HA.out, ← HB.out]; exact bne_nat ‹_›)))]), hf.drewN _⟩
        · go_roundw
          case rel =>
            refine ⟨k + 1, by omega, by omega, by go_num, fun j hj => ?_, hf.drewN _⟩
            rcases Nat.lt_or_ge j k with h | h
            · exact HE.out j h
            · have e : j = k := by omega
              rw [e, ← HA.out, ← HB.out]; exact beq_nat ‹_›
          case measure => simp [intOf]; omega
      · have e : k = a.size ∨ k = b.size := by omega
        have HM : Hid (k = a.size ∨ k = b.size) := e
        have hge : ¬ (k : Int) < (a.size : Int) ∨ ¬ (k : Int) < (b.size : Int) := by omega
        clear e hlt
        go_wp2
        go_ret
        exact ⟨ret_int (by rw [cmn_is (bsOf a) (bsOf b) k (by rw [bsOf_length]; omega) (by rw [bsOf_length]; omega) HE.out (by rw [bsOf_length, bsOf_length]; have := HM.out; omega)]; omega), hf⟩

set_option maxRecDepth 100000 in
set_option maxHeartbeats 400000 in
theorem cmpb_any (x y : Nat) (w : World) :
    Calls Tryz.prog 94 #[.int .u8 x, .int .u8 y] w fun e w' => e = .returned (.int .i64 (cpn x y)) ∧ w' = w := by
  by_cases h1 : x < y
  · rw [show cpn x y = -1 from if_pos h1]
    go_enter Tryz.func94, Tryz.ntmps94
    go_wp2
    go_ret
    exact ⟨rfl, rfl⟩
  · by_cases h2 : y < x
    · rw [show cpn x y = 1 by unfold cpn; rw [if_neg h1, if_pos h2]]
      go_enter Tryz.func94, Tryz.ntmps94
      go_wp2
      go_ret
      exact ⟨rfl, rfl⟩
    · rw [show cpn x y = 0 by unfold cpn; rw [if_neg h1, if_neg h2]]
      go_enter Tryz.func94, Tryz.ntmps94
      go_wp2
      go_ret
      exact ⟨rfl, rfl⟩
set_option maxRecDepth 100000 in
set_option maxHeartbeats 400000 in
theorem cmpi_any (x y : Nat) (w : World) :
    Calls Tryz.prog 95 #[.int .i64 x, .int .i64 y] w fun e w' => e = .returned (.int .i64 (cpn x y)) ∧ w' = w := by
  by_cases h1 : x < y
  · rw [show cpn x y = -1 from if_pos h1]
    go_enter Tryz.func95, Tryz.ntmps95
    go_wp2
    go_ret
    exact ⟨rfl, rfl⟩
  · by_cases h2 : y < x
    · rw [show cpn x y = 1 by unfold cpn; rw [if_neg h1, if_pos h2]]
      go_enter Tryz.func95, Tryz.ntmps95
      go_wp2
      go_ret
      exact ⟨rfl, rfl⟩
    · rw [show cpn x y = 0 by unfold cpn; rw [if_neg h1, if_neg h2]]
      go_enter Tryz.func95, Tryz.ntmps95
      go_wp2
      go_ret
      exact ⟨rfl, rfl⟩

set_option maxRecDepth 100000 in
set_option maxHeartbeats 1000000 in
theorem compare_any (a b : ByteArray) (ha : a.size ≤ maxLen) (hb : b.size ≤ maxLen) (w : World) :
    Calls Tryz.prog 74 #[.string a, .string b] w fun e w' => e = .returned (.int .i64 (cpl (bsOf a) (bsOf b))) ∧ Fr (fun _ => False) w w' := by
  have hc := cpl_at (bsOf a) (bsOf b)
  have hl := cmn_le (bsOf a) (bsOf b)
  have common := common_any a b ha hb w
  unfold maxLen at ha hb
  rw [bsOf_length, bsOf_length] at hc hl
  obtain ⟨n, hn⟩ : ∃ n, n = cmn (bsOf a) (bsOf b) := ⟨_, rfl⟩
  rw [← hn] at hc hl common
  clear hn
  have l1 := hl.1
  have l2 := hl.2
  clear hl
  by_cases hx : n < a.size ∧ n < b.size
  · rw [if_pos hx] at hc
    obtain ⟨h1, h2⟩ := hx
    have HA := bs_at a n h1
    have HB := bs_at b n h2
    rw [← HA, ← HB] at hc
    have HC : Hid (cpl (bsOf a) (bsOf b) = cpn a[n].toNat b[n].toNat) := hc
    clear hc HA HB
    go_enter Tryz.func74, Tryz.ntmps74
    go_wp2_with fail
    refine common.mono ?_
    rintro e w1 ⟨rfl, hf⟩
    clear common
    go_wp2
    go_quiet ((go_at_call 94; exact Calls.quiet_of_same (cmpb_any _ _ _)))
    go_wp2
    go_ret
    exact ⟨ret_int HC.out.symm, hf.drewN _⟩
  · rw [if_neg hx] at hc
    have HC : Hid (cpl (bsOf a) (bsOf b) = cpn a.size b.size) := hc
    clear hc
    by_cases h1 : n < a.size
    · have h2 : ¬ (n : Int) < (b.size : Int) := by omega
      have h3 : decide ((n : Int) < (b.size : Int)) = false := by simpa using h2
      clear hx
      go_enter Tryz.func74, Tryz.ntmps74
      go_wp2_with fail
      refine common.mono ?_
      rintro e w1 ⟨rfl, hf⟩
      clear common
      go_wp2_with (go_at_call 95; refine (cmpi_any _ _ _).mono ?_; rintro e w2 ⟨rfl, rfl⟩)
      go_ret
      exact ⟨ret_int HC.out.symm, hf⟩
    · have h2 : ¬ (n : Int) < (a.size : Int) := by omega
      have h3 : decide ((n : Int) < (a.size : Int)) = false := by simpa using h2
      clear hx
      go_enter Tryz.func74, Tryz.ntmps74
      go_wp2_with fail
      refine common.mono ?_
      rintro e w1 ⟨rfl, hf⟩
      clear common
      go_wp2_with (go_at_call 95; refine (cmpi_any _ _ _).mono ?_; rintro e w2 ⟨rfl, rfl⟩)
      go_ret
      exact ⟨ret_int HC.out.symm, hf⟩
end Go.Proofs.YtdlnflcjodpkiaaGreat
