
/- What the document's own Size tells. -/
import Derived.Test.YtaaedmacefiinaaPgCheck3
namespace Go.Proofs.Ytaaedmacefiinaa
open Go.RowKit

theorem wrap_step (g s q : Nat) (h : q = g + (s + 2)) : wrap64 (wrap64 (wrap64 (g : Int) + 2) + (s : Int)) = wrap64 (q : Int) := by
  subst h; unfold wrap64; omega
theorem wrap_four (g s q : Nat) (h : q = g + 4 * s) : wrap64 (wrap64 (g : Int) + 4 * (s : Int)) = wrap64 (q : Int) := by
  subst h; rw [wrap_add]; congr 1
theorem strs_some {w : World} {a : Option Addr} {cap : Nat} {l : List ByteArray} (h : Strs w a cap l) {k : Nat} (hk : k < l.length) : ∃ b off, a = some ⟨b, off, none⟩ ∧ b < w.heap.size ∧ ∀ i, i < l.length → w.cell? ⟨b, off + i, none⟩ = some (.string (l.getD i ByteArray.empty)) := by
  rcases h.at_ with h0 | h0
  · rw [h0] at hk; simp at hk
  · exact h0
theorem ints_some {w : World} {a : Option Addr} {cap : Nat} {l : List Int} (h : Ints w a cap l) {k : Nat} (hk : k < l.length) : ∃ b off, a = some ⟨b, off, none⟩ ∧ b < w.heap.size ∧ ∀ i, i < l.length → w.cell? ⟨b, off + i, none⟩ = some (.int .i64 (l.getD i 0)) := by
  rcases h.at_ with h0 | h0
  · rw [h0] at hk; simp at hk
  · exact h0

set_option maxRecDepth 100000 in
set_option maxHeartbeats 2000000 in
theorem rsize_any0 (n : Nd) (pk : Option Addr) (pkc : Nat) (pv : Option Addr) (pvc : Nat) (pi : Option Addr) (pic : Nat) (w : World) (h : Nod w n ⟨pk, pkc, pv, pvc, pi, pic⟩) :
    Calls Try.prog 80 #[(.agg #[.int .i64 n.lev, .int .i64 n.lsn, .int .i64 n.rgt, .string n.high, .slice pk n.keys.length pkc, .slice pv n.vals.length pvc, .slice pi n.kids.length pic])] w fun e w' => e = .returned (.int .i64 (wrap64 (sizeN n : Nat))) ∧ Fr (fun _ => False) w w' := by
  have f0 := Fr.box w (.cells #[.int .i64 n.lev, .int .i64 n.lsn, .int .i64 n.rgt, .string n.high, .slice pk n.keys.length pkc, .slice pv n.vals.length pvc, .slice pi n.kids.length pic] 25)
  have hh := h.high
  have hil := h.ilen
  have hkl := h.klen
  have hvl := h.vlen
  have hk := (h.same f0).keys
  have hv := (h.same f0).vals
  have hkc := hk.le
  have hkm := hk.max
  have hvc := hv.le
  have hvm := hv.max
  simp only at hkc hkm hvc hvm
  go_enter Try.func80, Try.ntmps80
  go_wp2
  go_loop [3, 15] (fun t i => ∃ k : Nat, k ≤ n.keys.length ∧ i = .int .i64 k ∧ t = .int .i64 (wrap64 ((21 + n.high.size + tsz (n.keys.take k) : Nat) : Int))) (fun _ i => n.keys.length - (intOf i).toNat)
  case atStart => exact ⟨0, by omega, rfl, val_int (by simp [tsz]; unfold wrap64; omega)⟩
  case round =>
    obtain ⟨k, hkk, rfl, rfl⟩ := hrel
    by_cases hlt : k < n.keys.length
    · obtain ⟨b, off, e, hb, hc⟩ := strs_some hk hlt
      have hcell := hc k hlt
      have hsz := h.ksz _ (strs_get hlt)
      have HS : Hid (tsz (n.keys.take (k + 1)) = tsz (n.keys.take k) + ((n.keys.getD k ByteArray.empty).size + 2)) := tsz_snoc n.keys k hlt
      obtain ⟨s, hs⟩ : ∃ s, s = n.keys.getD k ByteArray.empty := ⟨_, rfl⟩
      rw [← hs] at hcell hsz HS
      obtain ⟨t, ht⟩ : ∃ t, t = tsz (n.keys.take k) := ⟨_, rfl⟩
      rw [← ht] at HS ⊢
      clear hs ht hc
      subst e
      obtain ⟨g, hg⟩ : ∃ g, g = 21 + n.high.size + t := ⟨_, rfl⟩
      rw [← hg]
      have HG : Hid (g = 21 + n.high.size + t) := hg
      clear hg
      go_wp2
      go_round
      case rel => exact ⟨k + 1, by omega, by go_num, val_int (wrap_step g s.size _ (by rw [HS.out, HG.out]; omega))⟩
      case measure => simp [intOf]; omega
    · have e : n.keys.take k = n.keys := List.take_of_length_le (by omega)
      rw [e]
      clear e
      by_cases h0 : n.lev = 0
      · have e0 : (n.lev == 0) = true := by simp [h0]
        have HZ : Hid (sizeN n = 21 + n.high.size + tsz n.keys + tsz n.vals) := by show sizeN n = _; unfold sizeN; rw [if_pos h0]
        clear h0
        obtain ⟨g, hg⟩ : ∃ g, g = 21 + n.high.size + tsz n.keys := ⟨_, rfl⟩
        rw [← hg]
        have HG : Hid (sizeN n = g + tsz n.vals) := by show _ = _; rw [HZ.out, hg]
        clear hg
        go_wp2
        go_loop [3, 31] (fun t i => ∃ k : Nat, k ≤ n.vals.length ∧ i = .int .i64 k ∧ t = .int .i64 (wrap64 ((g + tsz (n.vals.take k) : Nat) : Int))) (fun _ i => n.vals.length - (intOf i).toNat)
        case atStart => exact ⟨0, by omega, rfl, val_int (by simp [tsz])⟩
        case round =>
          obtain ⟨j, hjj, rfl, rfl⟩ := hrel
          by_cases hlj : j < n.vals.length
          · obtain ⟨b, off, e, hb, hc⟩ := strs_some hv hlj
            have hcell := hc j hlj
            have hsz := h.vsz _ (strs_get hlj)
            have HS : Hid (tsz (n.vals.take (j + 1)) = tsz (n.vals.take j) + ((n.vals.getD j ByteArray.empty).size + 2)) := tsz_snoc n.vals j hlj
            obtain ⟨s, hs⟩ : ∃ s, s = n.vals.getD j ByteArray.empty := ⟨_, rfl⟩
            rw [← hs] at hcell hsz HS
            obtain ⟨t, ht⟩ : ∃ t, t = tsz (n.vals.take j) := ⟨_, rfl⟩
            rw [← ht] at HS ⊢
            clear hs ht hc
            subst e
            obtain ⟨q, hq⟩ : ∃ q, q = g + t := ⟨_, rfl⟩
            rw [← hq]
            have HQ : Hid (q = g + t) := hq
            clear hq
            go_wp2
            go_round
            case rel => exact ⟨j + 1, by omega, by go_num, val_int (wrap_step q s.size _ (by rw [HS.out, HQ.out]; omega))⟩
            case measure => simp [intOf]; omega
          · have e : n.vals.take j = n.vals := List.take_of_length_le (by omega)
            rw [e, ← HG.out]
            go_wp2
            go_ret
            exact ⟨rfl, f0⟩
      · have e0 : (n.lev == 0) = false := by simpa using h0
        have HZ : Hid (sizeN n = 21 + n.high.size + tsz n.keys + 4 * n.kids.length) := by show sizeN n = _; unfold sizeN; rw [if_neg h0]
        clear h0
        obtain ⟨g, hg⟩ : ∃ g, g = 21 + n.high.size + tsz n.keys := ⟨_, rfl⟩
        rw [← hg]
        have HG : Hid (sizeN n = g + 4 * n.kids.length) := by show _ = _; rw [HZ.out, hg]
        clear hg
        go_wp2
        go_ret
        exact ⟨ret_int (wrap_four g n.kids.length _ HG.out), f0⟩
theorem rsize_any (n : Nd) (p : Pt) (w : World) (h : Nod w n p) : Calls Try.prog 80 #[(.agg #[.int .i64 n.lev, .int .i64 n.lsn, .int .i64 n.rgt, .string n.high, .slice p.k n.keys.length p.kc, .slice p.v n.vals.length p.vc, .slice p.i n.kids.length p.ic])] w fun e w' => e = .returned (.int .i64 (wrap64 (sizeN n : Nat))) ∧ Fr (fun _ => False) w w' :=
  rsize_any0 n p.k p.kc p.v p.vc p.i p.ic w h
end Go.Proofs.Ytaaedmacefiinaa
