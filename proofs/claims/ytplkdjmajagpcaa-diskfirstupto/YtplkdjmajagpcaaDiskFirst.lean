/- For every list of steps of up to 1048576 values and every number latticelaw03.DiskFirst answers true: a crash that keeps the first writes is as if the others had never been (3.3). -/
import Derived.Test.YtplkdjmajagpcaaArgs
import Derived.Test.YtplkdjmajagpcaaDkTwo
import Derived.Test.YtplkdjmajagpcaaSteps
import Derived.Test.YtplkdjmajagpcaaBulk
import Derived.JoinedCond
import Derived.Test.YtplkdjmajagpcaaDkTwo
namespace Go.Proofs.Ytplkdjmajagpcaa.diskFirst
open Go.ChangeShapes Go.WideShapes Go.ChangeAt Go.RowKit
open Go.ChangeMaps (open_string shut_string)
set_option linter.unusedVariables false

theorem own : ownKnob Try.prog.godebug = none := by kernel_rfl
theorem laidOut : laidOutB Try.prog = true := by kernel_rfl
theorem bytes8 : Try.prog.bytesOf 5 = 1 := by kernel_rfl

set_option maxRecDepth 100000 in
set_option maxHeartbeats 4000000 in
theorem walk (w : World) (a0 : Option Addr) (len0 cap0 : Nat) (ss0 : List St) (hl0 : len0 = ss0.length) (z0 : ss0.length ≤ 1048576) (hr0 : Steps w a0 cap0 ss0) (keep : Int) (w1 : (Lit.int .i64 keep).wf = true) :
    Calls Try.prog 7 #[.slice a0 len0 cap0, .int .i64 keep] w fun e w' => e = .returned (.bool true) ∧ Fr (fun _ => False) w w' := by
  clear w1
  obtain ⟨n, hn⟩ : ∃ n, n = ss0.length := ⟨_, rfl⟩
  have HN : Hid (n = ss0.length) := hn
  rw [hl0, ← hn]
  rw [← hn] at z0
  clear hl0 hn
  go_enter Try.func7, Try.ntmps7
  go_wp2_with fail
  refine (dnew_ok 4 (by omega) (by omega) _).mono ?_
  rintro e w1 ⟨rfl, k1, f1⟩
  have d1 := DkA.new k1 f1
  clear k1
  go_wp2_with fail
  refine (dnew_ok 4 (by omega) (by omega) _).mono ?_
  rintro e w2 ⟨rfl, k2, f2⟩
  have d2 := DkA.new k2 f2
  have z1 : w.heap.size + 2 ≤ w1.heap.size := by
    have := d1.dk.lt (.inl rfl)
    omega
  have ht : Two w w2 (w.heap.size + 1) (.slice (some ⟨w.heap.size, 0, none⟩) 4 4) (.slice none 0 0) (List.replicate 4 zeroSec) [] (w1.heap.size + 1) (.slice (some ⟨w1.heap.size, 0, none⟩) 4 4) (.slice none 0 0) (List.replicate 4 zeroSec) [] := by
    refine ⟨d1.same f2, ⟨d2.dk, fun k hk => by have := d2.low k hk; omega, f1.false_trans f2⟩, fun k hk e => ?_⟩
    have h1 := d1.dk.lt hk
    have h2 := d2.low k e
    omega
  clear k2 f2 d1 d2 f1
  generalize w.heap.size + 1 = db at ht ⊢
  generalize w1.heap.size + 1 = xb at ht ⊢
  generalize Value.slice (some ⟨w.heap.size, 0, none⟩) 4 4 = lv at ht
  generalize Value.slice (some ⟨w1.heap.size, 0, none⟩) 4 4 = lx at ht
  clear z1
  go_wp2
  go_loopw [9, 43] (fun u t wr => ∃ (k : Nat) (wv : Value), k ≤ n ∧ t = .int .i64 k ∧ u = .int .i64 (qs 4 (ss0.take k)).length ∧ Two w wr db lv wv (List.replicate 4 zeroSec) (qs 4 (ss0.take k)) xb lx (.slice none 0 0) (List.replicate 4 zeroSec) [])
    (fun _ t _ => n - (intOf t).toNat)
  case atStart => exact ⟨0, _, by omega, rfl, by simp [qs], by simpa [qs] using ht⟩
  case round =>
  clear ht
  obtain ⟨k, wv, hk, rfl, rfl, ht⟩ := hrel
  by_cases hlt : k < n
  · skip
    obtain ⟨st, hst⟩ : ∃ st, ss0[k]? = some st := ⟨_, List.getElem?_eq_getElem (by rw [← HN.out]; exact hlt)⟩
    have hS := hr0.same ht.d.fr
    have hmem := List.mem_of_getElem? hst
    have hrow := hS.row st hmem
    have HST : Hid (ss0[k]? = some st) := hst
    rcases hS.at_ with h0 | ⟨b, off, ha0, hb, hcell⟩
    · rw [h0] at hst; cases hst
    obtain ⟨c0, c1, c2, c3⟩ := hcell k st hst
    subst ha0
    have hki : (k : Int) < (n : Int) := by omega
    have fW : Fr (fun _ => False) wr (wr.alloc (.cells #[.int .i64 st.k, .int .i64 st.a, .int .i64 st.c, .slice st.ad st.l.length st.cap] 33)) := (Fr.refl (fun _ => False) wr).alloc _
    have tW := ht.same fW
    have hrW : st.l.length ≤ 65535 → Row (wr.alloc (.cells #[.int .i64 st.k, .int .i64 st.a, .int .i64 st.c, .slice st.ad st.l.length st.cap] 33)) st.ad st.cap st.l := fun h => (hrow h).same fW
    clear hrow hst hmem hS hcell fW
    obtain ⟨Q, hQ⟩ : ∃ Q, Q = qs 4 (ss0.take k) := ⟨_, rfl⟩
    have hQl : Q.length ≤ k := by rw [hQ]; exact qs_len 4 ss0 k
    have HQ : Hid (Q ++ acc 4 st = qs 4 (ss0.take (k + 1))) := by
      show _ = _
      rw [qs_snoc 4 HST.out, hQ]
    rw [← hQ] at tW ⊢
    clear hQ ht
    go_wp2_with fail
    refine (write_all db lv wv _ Q _ tW.d.dk st.a st.ad st.cap st.l hrW (by omega)).mono ?_
    obtain ⟨hw1, hw2⟩ := wrS_acc (List.replicate 4 zeroSec) Q st
    rw [List.length_replicate] at hw1 hw2
    rw [hw1]
    rintro e w5 ⟨rfl, wv5, k5, f5, o5⟩
    have t5 := tW.go k5 f5 o5
    generalize (wrS (List.replicate 4 zeroSec) Q st.a st.l).1 = r5 at *
    clear k5 f5 o5 tW hw1 hrW
    rcases hw2 with ⟨rfl, ha⟩ | ⟨hr5, ha⟩
    · have hlen : (qs 4 (ss0.take (k + 1))).length = Q.length + 1 := by rw [← HQ.out, List.length_append, ha]
      rw [HQ.out] at t5
      have HL : Hid ((qs 4 (ss0.take (k + 1))).length = Q.length + 1) := hlen
      clear ha hlen
      go_wp2
      go_roundw
      case rel => exact ⟨k + 1, _, by omega, by go_num, by rw [HL.out]; go_num, t5⟩
      case measure => simp [intOf]; omega
    · have hlen : (qs 4 (ss0.take (k + 1))).length = Q.length := by rw [← HQ.out, ha, List.append_nil]
      rw [HQ.out] at t5
      have HL : Hid ((qs 4 (ss0.take (k + 1))).length = Q.length) := hlen
      clear ha hlen
      go_wp2
      go_roundw
      case rel => exact ⟨k + 1, _, by omega, by go_num, by rw [HL.out], t5⟩
      case measure => simp [intOf]; omega
  have hkn : n = k := by omega
  subst hkn
  have hall : ss0.take n = ss0 := by rw [HN.out, List.take_length]
  rw [hall] at ht ⊢
  have hqb : (qs 4 ss0).length ≤ 1048576 := by have := qs_len 4 ss0 n; rw [hall] at this; omega
  clear hlt hall hk
  by_cases hkeep : keep < 0 ∨ ((qs 4 ss0).length : Int) < keep
  · obtain ⟨kp, hkp'⟩ : ∃ kp, kp = (qs 4 ss0).length := ⟨_, rfl⟩
    have hkp : kp ≤ (qs 4 ss0).length := by omega
    rcases hkeep with hneg | hbig
    · go_wp2
      rw [← hkp']
      clear hkp'
      have hkpi : (kp : Int) ≤ ((qs 4 ss0).length : Int) := by omega
      have HKP : Hid (kp ≤ (qs 4 ss0).length) := hkp
      clear hkp
      go_loopw [67] (fun t wr => ∃ (k : Nat) (wx : Value), k ≤ n ∧ t = .int .i64 k ∧ Two w wr db lv wv (List.replicate 4 zeroSec) (qs 4 ss0) xb lx wx (List.replicate 4 zeroSec) ((qs 4 (ss0.take k)).take kp))
        (fun t _ => n - (intOf t).toNat)
      case atStart => exact ⟨0, _, by omega, rfl, by simpa [qs] using ht⟩
      case round =>
      clear ht
      obtain ⟨k, wx, hk, rfl, ht⟩ := hrel
      by_cases hlt : k < n
      · skip
        obtain ⟨st, hst⟩ : ∃ st, ss0[k]? = some st := ⟨_, List.getElem?_eq_getElem (by rw [← HN.out]; exact hlt)⟩
        have hS := hr0.same ht.d.fr
        have hmem := List.mem_of_getElem? hst
        have hrow := hS.row st hmem
        have HST : Hid (ss0[k]? = some st) := hst
        rcases hS.at_ with h0 | ⟨b, off, ha0, hb, hcell⟩
        · rw [h0] at hst; cases hst
        obtain ⟨c0, c1, c2, c3⟩ := hcell k st hst
        subst ha0
        have hki : (k : Int) < (n : Int) := by omega
        have fW : Fr (fun _ => False) wr (wr.alloc (.cells #[.int .i64 st.k, .int .i64 st.a, .int .i64 st.c, .slice st.ad st.l.length st.cap] 33)) := (Fr.refl (fun _ => False) wr).alloc _
        have tW := ht.same fW
        have hrW : st.l.length ≤ 65535 → Row (wr.alloc (.cells #[.int .i64 st.k, .int .i64 st.a, .int .i64 st.c, .slice st.ad st.l.length st.cap] 33)) st.ad st.cap st.l := fun h => (hrow h).same fW
        clear hrow hst hmem hS hcell fW
        obtain ⟨R, hR⟩ : ∃ R, R = (qs 4 (ss0.take k)).take kp := ⟨_, rfl⟩
        have hRl : R.length ≤ 1048576 := by have := qs_len 4 ss0 k; rw [hR, List.length_take]; omega
        have hnext : Hid (∀ h : kp ≤ R.length, R = (qs 4 (ss0.take (k + 1))).take kp) := fun h => by
          rw [qs_snoc 4 HST.out, hR, List.take_append_of_le_length (by rw [hR, List.length_take] at h; omega)]
        have hnext2 : Hid (∀ h : R.length < kp, R ++ acc 4 st = (qs 4 (ss0.take (k + 1))).take kp) := fun h => by
          have e : R = qs 4 (ss0.take k) := by rw [hR, List.take_of_length_le]; rw [hR, List.length_take] at h; omega
          have := acc_le 4 st
          rw [qs_snoc 4 HST.out, ← e, List.take_of_length_le (by rw [List.length_append]; omega)]
        rw [← hR] at tW
        clear hR ht
        go_wp2_with fail
        refine (waits_any xb lx wx _ R _ tW.x.dk).mono ?_
        rintro e w5 ⟨rfl, rfl⟩
        by_cases hc : R.length < kp
        · have hci : (R.length : Int) < (kp : Int) := by omega
          have hN := hnext2.out hc
          clear hnext hnext2 hc
          go_wp2_with fail
          refine (write_all xb lx wx _ R _ tW.x.dk st.a st.ad st.cap st.l hrW (by omega)).mono ?_
          rintro e w6 ⟨rfl, wx6, k6, f6, o6⟩
          have t6 := (tW.swap.go k6 f6 o6).swap
          rw [(wrS_acc _ R st).1, List.length_replicate, hN] at t6
          generalize (wrS (List.replicate 4 zeroSec) R st.a st.l).1 = r6 at *
          clear k6 f6 o6 tW hN hrW
          go_wp2
          go_roundw
          case rel => exact ⟨k + 1, _, by omega, by go_num, t6⟩
          case measure => simp [intOf]; omega
        · have hcd : decide ((R.length : Int) < (kp : Int)) = false := by simp; omega
          have hN := hnext.out (by omega)
          rw [hN] at tW
          clear hnext hnext2 hrW hN
          go_wp2
          go_roundw
          case rel => exact ⟨k + 1, _, by omega, by go_num, tW⟩
          case measure => simp [intOf]; omega
      have hkn : n = k := by omega
      subst hkn
      have hall : ss0.take n = ss0 := by rw [HN.out, List.take_length]
      rw [hall] at ht
      clear hlt hall
      go_wp2_with fail
      refine (sync_all xb lx wx _ _ _ ht.x.dk).mono ?_
      rintro e w5 ⟨rfl, wx5, k5, f5, o5⟩
      have t5 := (ht.swap.go k5 f5 o5).swap
      clear k5 f5 o5 ht
      go_wp2_with fail
      refine (crash_ok db lv wv _ _ _ t5.d.dk kp 0 HKP.out (by omega)).mono ?_
      rintro e w6 ⟨rfl, k6, f6⟩
      have t6 := t5.go k6 f6 (Ow.empty _ _ _ _)
      rw [crashed_zero] at t6
      have hM : (doAll (List.replicate 4 zeroSec) ((qs 4 ss0).take kp)).length = 4 := by rw [doAll_length, List.length_replicate]
      generalize doAll (List.replicate 4 zeroSec) ((qs 4 ss0).take kp) = M at *
      clear k6 f6 t5
      go_wp2
      go_loopw [14] (fun t wr => ∃ j : Nat, j ≤ 4 ∧ t = .int .i64 j ∧ Two w wr db lv (.slice none 0 0) M [] xb lx wx5 M [])
        (fun t _ => 4 - (intOf t).toNat)
      case atStart => exact ⟨0, by omega, rfl, t6⟩
      case round =>
      obtain ⟨j, hj, rfl, t7⟩ := hrel
      by_cases hlt : j < 4
      · have hji : (j : Int) < 4 := by omega
        go_wp2_with fail
        refine (read_ok db lv _ _ _ _ t7.d.dk j (by omega)).mono ?_
        rintro e w8 ⟨a8, rfl, r8, f8, _⟩
        have t8 := t7.same f8
        go_wp2_with fail
        refine (read_ok xb lx _ _ _ _ t8.x.dk j (by omega)).mono ?_
        rintro e w9 ⟨a9, rfl, r9, f9, _⟩
        have t9 := t8.same f9
        have r89 := r8.same f9
        generalize seen M [] j = s at *
        have s256 := s.2.1
        have cva := run_str (P := Try.prog) (src := 31) (dst := 9) Try.underlying31 Try.underlying5 Try.underlying9 r89 256 s256.symm
        have cvb := run_str (P := Try.prog) (src := 31) (dst := 9) Try.underlying31 Try.underlying5 Try.underlying9 r9 256 s256.symm
        clear r8 r9 r89 t7 t8 f8 f9 s256
        go_wp2
        go_roundw
        case rel => exact ⟨j + 1, by omega, by go_num, t9⟩
        case measure => simp [intOf]; omega
      have hj4 : j = 4 := by omega
      subst hj4
      clear hlt
      go_wp2_with fail
      refine (dspeaks_any _).mono ?_
      rintro e w10 ⟨rfl, f10⟩
      go_wp2
      go_ret
      exact ⟨rfl, t7.d.fr.false_trans f10⟩
    · by_cases hneg : keep < 0
      · exfalso; omega
      · have hpos : 0 ≤ keep := by omega
        go_wp2
        rw [← hkp']
        clear hkp'
        have hkpi : (kp : Int) ≤ ((qs 4 ss0).length : Int) := by omega
        have HKP : Hid (kp ≤ (qs 4 ss0).length) := hkp
        clear hkp
        go_loopw [67] (fun t wr => ∃ (k : Nat) (wx : Value), k ≤ n ∧ t = .int .i64 k ∧ Two w wr db lv wv (List.replicate 4 zeroSec) (qs 4 ss0) xb lx wx (List.replicate 4 zeroSec) ((qs 4 (ss0.take k)).take kp))
          (fun t _ => n - (intOf t).toNat)
        case atStart => exact ⟨0, _, by omega, rfl, by simpa [qs] using ht⟩
        case round =>
        clear ht
        obtain ⟨k, wx, hk, rfl, ht⟩ := hrel
        by_cases hlt : k < n
        · skip
          obtain ⟨st, hst⟩ : ∃ st, ss0[k]? = some st := ⟨_, List.getElem?_eq_getElem (by rw [← HN.out]; exact hlt)⟩
          have hS := hr0.same ht.d.fr
          have hmem := List.mem_of_getElem? hst
          have hrow := hS.row st hmem
          have HST : Hid (ss0[k]? = some st) := hst
          rcases hS.at_ with h0 | ⟨b, off, ha0, hb, hcell⟩
          · rw [h0] at hst; cases hst
          obtain ⟨c0, c1, c2, c3⟩ := hcell k st hst
          subst ha0
          have hki : (k : Int) < (n : Int) := by omega
          have fW : Fr (fun _ => False) wr (wr.alloc (.cells #[.int .i64 st.k, .int .i64 st.a, .int .i64 st.c, .slice st.ad st.l.length st.cap] 33)) := (Fr.refl (fun _ => False) wr).alloc _
          have tW := ht.same fW
          have hrW : st.l.length ≤ 65535 → Row (wr.alloc (.cells #[.int .i64 st.k, .int .i64 st.a, .int .i64 st.c, .slice st.ad st.l.length st.cap] 33)) st.ad st.cap st.l := fun h => (hrow h).same fW
          clear hrow hst hmem hS hcell fW
          obtain ⟨R, hR⟩ : ∃ R, R = (qs 4 (ss0.take k)).take kp := ⟨_, rfl⟩
          have hRl : R.length ≤ 1048576 := by have := qs_len 4 ss0 k; rw [hR, List.length_take]; omega
          have hnext : Hid (∀ h : kp ≤ R.length, R = (qs 4 (ss0.take (k + 1))).take kp) := fun h => by
            rw [qs_snoc 4 HST.out, hR, List.take_append_of_le_length (by rw [hR, List.length_take] at h; omega)]
          have hnext2 : Hid (∀ h : R.length < kp, R ++ acc 4 st = (qs 4 (ss0.take (k + 1))).take kp) := fun h => by
            have e : R = qs 4 (ss0.take k) := by rw [hR, List.take_of_length_le]; rw [hR, List.length_take] at h; omega
            have := acc_le 4 st
            rw [qs_snoc 4 HST.out, ← e, List.take_of_length_le (by rw [List.length_append]; omega)]
          rw [← hR] at tW
          clear hR ht
          go_wp2_with fail
          refine (waits_any xb lx wx _ R _ tW.x.dk).mono ?_
          rintro e w5 ⟨rfl, rfl⟩
          by_cases hc : R.length < kp
          · have hci : (R.length : Int) < (kp : Int) := by omega
            have hN := hnext2.out hc
            clear hnext hnext2 hc
            go_wp2_with fail
            refine (write_all xb lx wx _ R _ tW.x.dk st.a st.ad st.cap st.l hrW (by omega)).mono ?_
            rintro e w6 ⟨rfl, wx6, k6, f6, o6⟩
            have t6 := (tW.swap.go k6 f6 o6).swap
            rw [(wrS_acc _ R st).1, List.length_replicate, hN] at t6
            generalize (wrS (List.replicate 4 zeroSec) R st.a st.l).1 = r6 at *
            clear k6 f6 o6 tW hN hrW
            go_wp2
            go_roundw
            case rel => exact ⟨k + 1, _, by omega, by go_num, t6⟩
            case measure => simp [intOf]; omega
          · have hcd : decide ((R.length : Int) < (kp : Int)) = false := by simp; omega
            have hN := hnext.out (by omega)
            rw [hN] at tW
            clear hnext hnext2 hrW hN
            go_wp2
            go_roundw
            case rel => exact ⟨k + 1, _, by omega, by go_num, tW⟩
            case measure => simp [intOf]; omega
        have hkn : n = k := by omega
        subst hkn
        have hall : ss0.take n = ss0 := by rw [HN.out, List.take_length]
        rw [hall] at ht
        clear hlt hall
        go_wp2_with fail
        refine (sync_all xb lx wx _ _ _ ht.x.dk).mono ?_
        rintro e w5 ⟨rfl, wx5, k5, f5, o5⟩
        have t5 := (ht.swap.go k5 f5 o5).swap
        clear k5 f5 o5 ht
        go_wp2_with fail
        refine (crash_ok db lv wv _ _ _ t5.d.dk kp 0 HKP.out (by omega)).mono ?_
        rintro e w6 ⟨rfl, k6, f6⟩
        have t6 := t5.go k6 f6 (Ow.empty _ _ _ _)
        rw [crashed_zero] at t6
        have hM : (doAll (List.replicate 4 zeroSec) ((qs 4 ss0).take kp)).length = 4 := by rw [doAll_length, List.length_replicate]
        generalize doAll (List.replicate 4 zeroSec) ((qs 4 ss0).take kp) = M at *
        clear k6 f6 t5
        go_wp2
        go_loopw [14] (fun t wr => ∃ j : Nat, j ≤ 4 ∧ t = .int .i64 j ∧ Two w wr db lv (.slice none 0 0) M [] xb lx wx5 M [])
          (fun t _ => 4 - (intOf t).toNat)
        case atStart => exact ⟨0, by omega, rfl, t6⟩
        case round =>
        obtain ⟨j, hj, rfl, t7⟩ := hrel
        by_cases hlt : j < 4
        · have hji : (j : Int) < 4 := by omega
          go_wp2_with fail
          refine (read_ok db lv _ _ _ _ t7.d.dk j (by omega)).mono ?_
          rintro e w8 ⟨a8, rfl, r8, f8, _⟩
          have t8 := t7.same f8
          go_wp2_with fail
          refine (read_ok xb lx _ _ _ _ t8.x.dk j (by omega)).mono ?_
          rintro e w9 ⟨a9, rfl, r9, f9, _⟩
          have t9 := t8.same f9
          have r89 := r8.same f9
          generalize seen M [] j = s at *
          have s256 := s.2.1
          have cva := run_str (P := Try.prog) (src := 31) (dst := 9) Try.underlying31 Try.underlying5 Try.underlying9 r89 256 s256.symm
          have cvb := run_str (P := Try.prog) (src := 31) (dst := 9) Try.underlying31 Try.underlying5 Try.underlying9 r9 256 s256.symm
          clear r8 r9 r89 t7 t8 f8 f9 s256
          go_wp2
          go_roundw
          case rel => exact ⟨j + 1, by omega, by go_num, t9⟩
          case measure => simp [intOf]; omega
        have hj4 : j = 4 := by omega
        subst hj4
        clear hlt
        go_wp2_with fail
        refine (dspeaks_any _).mono ?_
        rintro e w10 ⟨rfl, f10⟩
        go_wp2
        go_ret
        exact ⟨rfl, t7.d.fr.false_trans f10⟩
  · obtain ⟨kp, rfl⟩ : ∃ kp : Nat, keep = kp := ⟨keep.toNat, by omega⟩
    have hkp : kp ≤ (qs 4 ss0).length := by omega
    have hd2 : decide (((qs 4 ss0).length : Int) < (kp : Int)) = false := by simp; omega
    have hd0 : decide ((kp : Int) < 0) = false := by simp
    have hd2n : decide ((qs 4 ss0).length < kp) = false := by simp; omega
    clear hkeep
    go_wp2
    have hkpi : (kp : Int) ≤ ((qs 4 ss0).length : Int) := by omega
    have HKP : Hid (kp ≤ (qs 4 ss0).length) := hkp
    clear hkp
    go_loopw [67] (fun t wr => ∃ (k : Nat) (wx : Value), k ≤ n ∧ t = .int .i64 k ∧ Two w wr db lv wv (List.replicate 4 zeroSec) (qs 4 ss0) xb lx wx (List.replicate 4 zeroSec) ((qs 4 (ss0.take k)).take kp))
      (fun t _ => n - (intOf t).toNat)
    case atStart => exact ⟨0, _, by omega, rfl, by simpa [qs] using ht⟩
    case round =>
    clear ht
    obtain ⟨k, wx, hk, rfl, ht⟩ := hrel
    by_cases hlt : k < n
    · skip
      obtain ⟨st, hst⟩ : ∃ st, ss0[k]? = some st := ⟨_, List.getElem?_eq_getElem (by rw [← HN.out]; exact hlt)⟩
      have hS := hr0.same ht.d.fr
      have hmem := List.mem_of_getElem? hst
      have hrow := hS.row st hmem
      have HST : Hid (ss0[k]? = some st) := hst
      rcases hS.at_ with h0 | ⟨b, off, ha0, hb, hcell⟩
      · rw [h0] at hst; cases hst
      obtain ⟨c0, c1, c2, c3⟩ := hcell k st hst
      subst ha0
      have hki : (k : Int) < (n : Int) := by omega
      have fW : Fr (fun _ => False) wr (wr.alloc (.cells #[.int .i64 st.k, .int .i64 st.a, .int .i64 st.c, .slice st.ad st.l.length st.cap] 33)) := (Fr.refl (fun _ => False) wr).alloc _
      have tW := ht.same fW
      have hrW : st.l.length ≤ 65535 → Row (wr.alloc (.cells #[.int .i64 st.k, .int .i64 st.a, .int .i64 st.c, .slice st.ad st.l.length st.cap] 33)) st.ad st.cap st.l := fun h => (hrow h).same fW
      clear hrow hst hmem hS hcell fW
      obtain ⟨R, hR⟩ : ∃ R, R = (qs 4 (ss0.take k)).take kp := ⟨_, rfl⟩
      have hRl : R.length ≤ 1048576 := by have := qs_len 4 ss0 k; rw [hR, List.length_take]; omega
      have hnext : Hid (∀ h : kp ≤ R.length, R = (qs 4 (ss0.take (k + 1))).take kp) := fun h => by
        rw [qs_snoc 4 HST.out, hR, List.take_append_of_le_length (by rw [hR, List.length_take] at h; omega)]
      have hnext2 : Hid (∀ h : R.length < kp, R ++ acc 4 st = (qs 4 (ss0.take (k + 1))).take kp) := fun h => by
        have e : R = qs 4 (ss0.take k) := by rw [hR, List.take_of_length_le]; rw [hR, List.length_take] at h; omega
        have := acc_le 4 st
        rw [qs_snoc 4 HST.out, ← e, List.take_of_length_le (by rw [List.length_append]; omega)]
      rw [← hR] at tW
      clear hR ht
      go_wp2_with fail
      refine (waits_any xb lx wx _ R _ tW.x.dk).mono ?_
      rintro e w5 ⟨rfl, rfl⟩
      by_cases hc : R.length < kp
      · have hci : (R.length : Int) < (kp : Int) := by omega
        have hN := hnext2.out hc
        clear hnext hnext2 hc
        go_wp2_with fail
        refine (write_all xb lx wx _ R _ tW.x.dk st.a st.ad st.cap st.l hrW (by omega)).mono ?_
        rintro e w6 ⟨rfl, wx6, k6, f6, o6⟩
        have t6 := (tW.swap.go k6 f6 o6).swap
        rw [(wrS_acc _ R st).1, List.length_replicate, hN] at t6
        generalize (wrS (List.replicate 4 zeroSec) R st.a st.l).1 = r6 at *
        clear k6 f6 o6 tW hN hrW
        go_wp2
        go_roundw
        case rel => exact ⟨k + 1, _, by omega, by go_num, t6⟩
        case measure => simp [intOf]; omega
      · have hcd : decide ((R.length : Int) < (kp : Int)) = false := by simp; omega
        have hN := hnext.out (by omega)
        rw [hN] at tW
        clear hnext hnext2 hrW hN
        go_wp2
        go_roundw
        case rel => exact ⟨k + 1, _, by omega, by go_num, tW⟩
        case measure => simp [intOf]; omega
    have hkn : n = k := by omega
    subst hkn
    have hall : ss0.take n = ss0 := by rw [HN.out, List.take_length]
    rw [hall] at ht
    clear hlt hall
    go_wp2_with fail
    refine (sync_all xb lx wx _ _ _ ht.x.dk).mono ?_
    rintro e w5 ⟨rfl, wx5, k5, f5, o5⟩
    have t5 := (ht.swap.go k5 f5 o5).swap
    clear k5 f5 o5 ht
    go_wp2_with fail
    refine (crash_ok db lv wv _ _ _ t5.d.dk kp 0 HKP.out (by omega)).mono ?_
    rintro e w6 ⟨rfl, k6, f6⟩
    have t6 := t5.go k6 f6 (Ow.empty _ _ _ _)
    rw [crashed_zero] at t6
    have hM : (doAll (List.replicate 4 zeroSec) ((qs 4 ss0).take kp)).length = 4 := by rw [doAll_length, List.length_replicate]
    generalize doAll (List.replicate 4 zeroSec) ((qs 4 ss0).take kp) = M at *
    clear k6 f6 t5
    go_wp2
    go_loopw [14] (fun t wr => ∃ j : Nat, j ≤ 4 ∧ t = .int .i64 j ∧ Two w wr db lv (.slice none 0 0) M [] xb lx wx5 M [])
      (fun t _ => 4 - (intOf t).toNat)
    case atStart => exact ⟨0, by omega, rfl, t6⟩
    case round =>
    obtain ⟨j, hj, rfl, t7⟩ := hrel
    by_cases hlt : j < 4
    · have hji : (j : Int) < 4 := by omega
      go_wp2_with fail
      refine (read_ok db lv _ _ _ _ t7.d.dk j (by omega)).mono ?_
      rintro e w8 ⟨a8, rfl, r8, f8, _⟩
      have t8 := t7.same f8
      go_wp2_with fail
      refine (read_ok xb lx _ _ _ _ t8.x.dk j (by omega)).mono ?_
      rintro e w9 ⟨a9, rfl, r9, f9, _⟩
      have t9 := t8.same f9
      have r89 := r8.same f9
      generalize seen M [] j = s at *
      have s256 := s.2.1
      have cva := run_str (P := Try.prog) (src := 31) (dst := 9) Try.underlying31 Try.underlying5 Try.underlying9 r89 256 s256.symm
      have cvb := run_str (P := Try.prog) (src := 31) (dst := 9) Try.underlying31 Try.underlying5 Try.underlying9 r9 256 s256.symm
      clear r8 r9 r89 t7 t8 f8 f9 s256
      go_wp2
      go_roundw
      case rel => exact ⟨j + 1, by omega, by go_num, t9⟩
      case measure => simp [intOf]; omega
    have hj4 : j = 4 := by omega
    subst hj4
    clear hlt
    go_wp2_with fail
    refine (dspeaks_any _).mono ?_
    rintro e w10 ⟨rfl, f10⟩
    go_wp2
    go_ret
    exact ⟨rfl, t7.d.fr.false_trans f10⟩

set_option maxRecDepth 100000 in
theorem lifted (os : Os) (started : os.Started) (H : Type) (enc : TypeId × Value → H) (F : Stop.Interp) :
    ReturnsInHanded {} Try.checked os 7 .any ((Rows.OpenSpec.upto Rows.diskFirstSpec).pre6 enc Try.prog Try.f7 Rows.diskFirstUptoRow.domain false) (((Rows.OpenSpec.upto Rows.diskFirstSpec).at F).post enc Try.prog Try.f7 false true false false) := by
  refine returnsInHanded_of_cond (C := Try.checked) (s := Rows.OpenSpec.upto Rows.diskFirstSpec) (k := Rows.uptoSmall) rfl own started (by kernel_rfl) Try.func7
    (OpenSpec.witness (enc := enc) (C := Try.checked) (s := Rows.OpenSpec.upto Rows.diskFirstSpec) (k := Rows.uptoSmall) rfl false ⟨#[], #[.slice none 0 0, .int .i64 0], []⟩ 8 (by kernel_rfl) (by kernel_rfl) (by kernel_rfl)
      (x := ([.nil, .lit (.int .i64 0)], [], [])) (by kernel_rfl) rfl (by kernel_rfl)) ?_
  intro W base args ds gs before hval0 hW hcnd hk0 _
  have hbulk : Rows.uptoBulkAll (ds ++ gs) ≤ 1048576 := of_decide_eq_true hk0
  clear hk0
  have hval : ∀ (j : Nat) t v, Try.f7.params[j]? = some t → args[j]? = some v → Value.okWide Try.prog W .any base t v := hval0
  have hW' := hW
  obtain ⟨p, q, hA0, hV, rfl, hfz, hnd⟩ := hW
  have hA : DataW.TrodAll enc Try.prog W 0 (fun _ => true) true Try.f7.params.toList args.toList ds p := hA0
  rw [Try.params7] at hA hval
  obtain ⟨v0, vs0, d0, ds0, p0, q0, hargs, rfl, rfl, h0, r0⟩ := trodAll_cons hA
  obtain ⟨v1, vs1, d1, ds1, p1, q1, rfl, rfl, rfl, h1, r1⟩ := trodAll_cons r0
  obtain ⟨rfl, rfl, rfl⟩ := trodAll_nil r1
  obtain rfl : args = #[v0, v1] := by cases args; simp_all
  obtain ⟨rfl, rfl⟩ := trodVars_none hV
  obtain ⟨a0, len0, cap0, rfl⟩ := okWide_slice Try.underlying22 (hval 0 22 v0 rfl rfl)
  have k0 := h0
  have lt0 : ∀ x ∈ p0, x.block < W.heap.size := by obtain ⟨m, hm⟩ := k0; exact DataW.trod_lt m _ _ _ hm
  obtain ⟨ss0, hl0, z0, hr0⟩ : ∃ ss : List St, len0 = ss.length ∧ ss.length ≤ 1048576 ∧ Steps W a0 cap0 ss := by
    obtain ⟨fuel, hf⟩ := h0
    obtain ⟨ss, e1, e2, e3⟩ := steps_open Try.underlying22 Try.underlying33 ⟨⟨rfl, rfl⟩, ⟨rfl, rfl⟩, ⟨rfl, rfl⟩, ⟨rfl, rfl⟩⟩ (by kernel_rfl) hf
    refine ⟨ss, e1, ?_, e2⟩
    have hb := Nat.le_trans (bulk_part (l := [d0, d1] ++ []) (j := 0) rfl) hbulk
    rcases e3 with ⟨_, rfl⟩ | ⟨elems, spare, rfl, hel⟩
    · simp
    · have := bulk_slice elems spare
      omega
  obtain ⟨a1, rfl, rfl, rfl, w1⟩ := open_int Try.underlying3 (hval 1 3 v1 rfl rfl) h1
  clear hA0 hval0
  refine (walk W a0 len0 cap0 ss0 hl0 z0 hr0 a1 w1).mono fun e W' ⟨he, fr⟩ => ?_
  have bel : Below W.heap.size W W' := fr.below (Nat.le_refl _) (fun _ f => f.elim)
  subst he
  exact ⟨_, rfl, _, _, _, [], _, [], hW', trodAll_mk1 (shut_bool Try.underlying4 _), (trodAll_cons_mk (Below.trod laidOut (by kernel_rfl) (of_decide_eq_true (by kernel_rfl)) k0 bel lt0) (trodAll_cons_mk (shut_int Try.underlying3 w1) trodAll_mk0)), rfl, bel.frame _, fun h => by cases h⟩

theorem proved : Rows.DiskFirstUptoSaid :=
  OpenClaim.holds_of_cond 7 Try.f7 rfl rfl rfl rfl rfl rfl rfl ⟨rfl, rfl, rfl, rfl, rfl⟩ rfl rfl rfl rfl rfl (by kernel_rfl) Try.func7 (by kernel_rfl)
    (of_decide_eq_true (by kernel_rfl)) (by unfold Func.isWrapper; first | (rw [if_pos (by decide +kernel)]; kernel_rfl) | (rw [if_neg (by decide +kernel)]; exact ⟨rfl, rfl⟩))
    (fun os started H enc _ F => lifted os started H enc F)
end Go.Proofs.Ytplkdjmajagpcaa.diskFirst
namespace Go.Proofs.Ytplkdjmajagpcaa
theorem diskFirst_holds : Rows.DiskFirstUptoSaid := diskFirst.proved
#print axioms diskFirst_holds
end Go.Proofs.Ytplkdjmajagpcaa
