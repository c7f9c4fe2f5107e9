
/- The document's own order of keys, told with nothing but draws. -/
import Derived.Test.YtdlnflcjodpkiaaGreatFdCmp
namespace Go.Proofs.YtdlnflcjodpkiaaGreat
open Go.RowKit

set_option maxRecDepth 100000 in
set_option maxHeartbeats 1000000 in
theorem rcompareD_any (a b : ByteArray) (ha : a.size ≤ maxLen) (hb : b.size ≤ maxLen) (w : World) :
    Calls Tryz.prog 52 #[.string a, .string b] w fun e w' => e = .returned (.int .i64 (cpl (bsOf a) (bsOf b))) ∧ Dr w w' := by
  unfold maxLen at ha hb
  go_enter Tryz.func52, Tryz.ntmps52
  go_wp2
  go_loopw [5] (fun i wr => ∃ k : Nat, k ≤ a.size ∧ k ≤ b.size ∧ i = .int .i64 k ∧ Hid (∀ j, j < k → (bsOf a).getD j 0 = (bsOf b).getD j 0) ∧ Dr w wr) (fun i _ => a.size - (intOf i).toNat)
  case atStart => exact ⟨0, by omega, by omega, rfl, (fun j h => by omega), Dr.refl _⟩
  case round =>
    obtain ⟨k, hk, hk2, rfl, HE, hf⟩ := hrel
    have ks1 : k ≤ (bsOf a).length := by rw [bsOf_length]; omega
    have ks2 : k ≤ (bsOf b).length := by rw [bsOf_length]; omega
    have KS1 : Hid (k ≤ (bsOf a).length) := ks1
    have KS2 : Hid (k ≤ (bsOf b).length) := ks2
    clear ks1 ks2
    by_cases hlt : k < a.size ∧ k < b.size
    · obtain ⟨h1, h2⟩ := hlt
      have HA : Hid (a[k].toNat = (bsOf a).getD k 0) := bs_at a k h1
      have HB : Hid (b[k].toNat = (bsOf b).getD k 0) := bs_at b k h2
      have K1 : Hid (k < (bsOf a).length) := by show _ < _; rw [bsOf_length]; exact h1
      have K2 : Hid (k < (bsOf b).length) := by show _ < _; rw [bsOf_length]; exact h2
      by_cases x1 : a[k].toNat < b[k].toNat
      · have X1 : Hid (a[k].toNat < b[k].toNat) := x1
        go_wp2
        go_quiet (fail)
        go_wp2
        go_ret
        exact ⟨ret_int (by rw [cpl_lt (bsOf a) (bsOf b) k K1.out K2.out HE.out (by rw [← HA.out, ← HB.out]; exact X1.out)]), hf.drewN _⟩
      · by_cases x2 : b[k].toNat < a[k].toNat
        · have X2 : Hid (b[k].toNat < a[k].toNat) := x2
          go_wp2
          go_quiet (fail)
          go_wp2
          go_quiet (fail)
          go_wp2
          go_ret
          exact ⟨ret_int (by rw [cpl_gt (bsOf a) (bsOf b) k K1.out K2.out HE.out (by rw [← HA.out, ← HB.out]; exact X2.out)]), (hf.drewN _).drewN _⟩
        · have X3 : Hid (a[k].toNat = b[k].toNat) := by show _ = _; omega
          go_wp2
          go_quiet (fail)
          go_wp2
          go_quiet (fail)
          go_wp2
          go_roundw
          case rel =>
            refine ⟨k + 1, by omega, by omega, by go_num, fun j hj => ?_, hf.drewN _⟩
            rcases Nat.lt_or_ge j k with h | h
            · exact HE.out j h
            · have e : j = k := by omega
              rw [e, ← HA.out, ← HB.out]; exact X3.out
          case measure => simp [intOf]; omega
    · have hkk : k = a.size ∨ k = b.size := by omega
      have HC : Hid (cpl (bsOf a) (bsOf b) = cpn a.size b.size) := by
        have := cpl_len (bsOf a) (bsOf b) k (by rw [bsOf_length, bsOf_length]; exact hkk) KS1.out KS2.out HE.out
        rw [bsOf_length, bsOf_length] at this; exact this
      clear hkk
      by_cases x1 : a.size < b.size
      · have X1 : Hid (cpn a.size b.size = -1) := if_pos x1
        have e : ¬ (k : Int) < (a.size : Int) := by omega
        clear hlt
        go_wp2
        go_ret
        exact ⟨ret_int (by rw [HC.out, X1.out]), hf⟩
      · by_cases x2 : b.size < a.size
        · have X1 : Hid (cpn a.size b.size = 1) := by show cpn _ _ = _; unfold cpn; rw [if_neg x1, if_pos x2]
          have e : ¬ (k : Int) < (b.size : Int) := by omega
          have e2 : (k : Int) < (a.size : Int) := by omega
          clear hlt
          go_wp2
          go_ret
          exact ⟨ret_int (by rw [HC.out, X1.out]), hf⟩
        · have X1 : Hid (cpn a.size b.size = 0) := by show cpn _ _ = _; unfold cpn; rw [if_neg x1, if_neg x2]
          have e : ¬ (k : Int) < (a.size : Int) := by omega
          clear hlt
          go_wp2
          go_ret
          exact ⟨ret_int (by rw [HC.out, X1.out]), hf⟩
end Go.Proofs.YtdlnflcjodpkiaaGreat
