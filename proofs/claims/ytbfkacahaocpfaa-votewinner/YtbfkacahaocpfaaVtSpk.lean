
/- The small case that each statement asks first. -/
import Derived.Test.YtbfkacahaocpfaaVtTly
namespace Go.Proofs.Ytbfkacahaocpfaa
open Go.RowKit
open Go.Proofs.Ytbfkacahaocpfaa.Qu

set_option maxRecDepth 100000 in
set_option maxHeartbeats 8000000 in
theorem vtspk_any (w : World) : Calls Try.prog 14 #[] w fun e w' => e = .returned (.bool true) ∧ Fr (fun _ => False) w w' := by
  have hnew := vnew_yes 3 (-1) (by decide) w
  have HC : Hid (∀ W : World, Calls Try.prog 24 #[.int .i64 3, .int .i64 4, .int .i64 1] W fun r w' => ∃ b, r = .returned (.tuple #[.pointer (some ⟨b, 0, none⟩), .int .i64 0]) ∧ W.heap.size ≤ b ∧ Ta w' b 3 4 2 ∧ Fr (fun _ => False) W w') := fun W => by
    have := count_yes 3 4 1 (by decide +kernel) (by decide) W
    rw [show withR 3 0 1 = 2 by decide +kernel] at this; exact this
  have HA1 : Hid (∀ (W : World) b, Vt W b 3 (-1) → Calls Try.prog 17 #[.pointer (some ⟨b, 0, none⟩), .int .i64 1, .int .i64 4, .agg #[.int .i64 2, .int .i64 9], .agg #[.int .i64 2, .int .i64 8]] W fun r w' => r = .returned (.bool true) ∧ VtTo W b 4 1 w') := fun W b h => by
    have := ask_any b 3 (-1) 1 4 2 9 2 8 W h
    rw [show askB 3 (-1) 1 4 (2, 9) (2, 8) = true by decide, show askE 3 1 4 = 4 by decide, show askF 3 (-1) 1 4 (2, 9) (2, 8) = 1 by decide] at this; exact this
  have HA2 : Hid (∀ (W : World) b, Vt W b 4 1 → Calls Try.prog 17 #[.pointer (some ⟨b, 0, none⟩), .int .i64 2, .int .i64 4, .agg #[.int .i64 2, .int .i64 9], .agg #[.int .i64 2, .int .i64 8]] W fun r w' => r = .returned (.bool false) ∧ VtTo W b 4 1 w') := fun W b h => by
    have := ask_any b 4 1 2 4 2 9 2 8 W h
    rw [show askB 4 1 2 4 (2, 9) (2, 8) = false by decide, show askE 4 2 4 = 4 by decide, show askF 4 1 2 4 (2, 9) (2, 8) = 1 by decide] at this; exact this
  have HW1 : Hid (∀ (W : World) b, Ta W b 3 4 2 → Calls Try.prog 27 #[.pointer (some ⟨b, 0, none⟩)] W fun r w' => r = .returned (.bool false) ∧ Fr (fun _ => False) W w') := fun W b h => by
    have := won_any b 3 4 2 W h
    rw [show hasM 3 2 = false by decide +kernel] at this; exact this
  have HW2 : Hid (∀ (W : World) b, Ta W b 3 4 3 → Calls Try.prog 27 #[.pointer (some ⟨b, 0, none⟩)] W fun r w' => r = .returned (.bool true) ∧ Fr (fun _ => False) W w') := fun W b h => by
    have := won_any b 3 4 3 W h
    rw [show hasM 3 3 = true by decide +kernel] at this; exact this
  have HVO : Hid (∀ (W : World) b, Ta W b 3 4 2 → Calls Try.prog 26 #[.pointer (some ⟨b, 0, none⟩), .int .i64 0, .int .i64 4] W fun r w' => r = .returned (.bool true) ∧ Ta w' b 3 4 3 ∧ Fr (fun i => i = b) W w') := fun W b h => by
    have := tvote_any b 3 4 2 0 4 W h
    rw [show tvB 3 4 2 0 4 = true by decide +kernel, show tvS 3 4 2 0 4 = 3 by decide +kernel] at this; exact this
  have hq := fun W => eql_prom 4 1 4 1 W
  rw [show decide ((4 : Int) = 4 ∧ (1 : Int) = 1) = true by decide] at hq
  go_enter Try.func14, Try.ntmps14
  go_wp2_with fail
  refine hnew.mono ?_
  rintro r w1 ⟨vb, rfl, hvb, hvt, f1⟩
  have HVB : Hid (w.heap.size ≤ vb) := hvb
  have HV1 : Hid (Vt w1 vb 3 (-1)) := hvt
  have F1 : Hid (Fr (fun _ => False) w w1) := f1
  clear hvb hvt f1 hnew
  go_wp2_with fail
  refine (HC.out _).mono ?_
  rintro r w2 ⟨tb, rfl, htb, hta, f2⟩
  have HNE : Hid (vb ≠ tb) := by have := Two.lt HV1.out; intro e; omega
  have HTB : Hid (w.heap.size ≤ tb) := by have := F1.out.size; show _ ≤ _; omega
  have HV2 : Hid (Vt w2 vb 3 (-1)) := Two.fr HV1.out f2 (fun f => f)
  have HT2 : Hid (Ta w2 tb 3 4 2) := hta
  have F2 : Hid (Fr (fun _ => False) w w2) := F1.out.seq' f2
  clear htb hta f2 HV1 F1
  go_wp2_with fail
  refine (HA1.out _ _ HV2.out).mono ?_
  rintro r w3 ⟨rfl, hv3, f3⟩
  have HV3 : Hid (Vt w3 vb 4 1) := hv3
  have HT3 : Hid (Ta w3 tb 3 4 2) := Thr.fr HT2.out f3 (fun e => HNE.out e.symm)
  have F3 : Hid (Fr (fun _ => False) w w3) := F2.out.trans f3 (fun i hi e => by have := HVB.out; omega)
  clear hv3 f3 HV2 HT2 F2
  go_wp2_with fail
  refine (HA2.out _ _ HV3.out).mono ?_
  rintro r w4 ⟨rfl, hv4, f4⟩
  have HV4 : Hid (Vt w4 vb 4 1) := hv4
  have HT4 : Hid (Ta w4 tb 3 4 2) := Thr.fr HT3.out f4 (fun e => HNE.out e.symm)
  have F4 : Hid (Fr (fun _ => False) w w4) := F3.out.trans f4 (fun i hi e => by have := HVB.out; omega)
  clear hv4 f4 HV3 HT3 F3
  go_wp2_with fail
  refine (HW1.out _ _ HT4.out).mono ?_
  rintro r w5 ⟨rfl, f5⟩
  have HV5 : Hid (Vt w5 vb 4 1) := Two.fr HV4.out f5 (fun f => f)
  have HT5 : Hid (Ta w5 tb 3 4 2) := Thr.fr HT4.out f5 (fun f => f)
  have F5 : Hid (Fr (fun _ => False) w w5) := F4.out.seq' f5
  clear f5 HV4 HT4 F4
  go_wp2_with fail
  refine (HVO.out _ _ HT5.out).mono ?_
  rintro r w6 ⟨rfl, ht6, f6⟩
  have HV6 : Hid (Vt w6 vb 4 1) := Two.fr HV5.out f6 (fun e => HNE.out e)
  have HT6 : Hid (Ta w6 tb 3 4 3) := ht6
  have F6 : Hid (Fr (fun _ => False) w w6) := F5.out.trans f6 (fun i hi e => by have := HTB.out; omega)
  clear f6 ht6 HV5 HT5 F5
  go_wp2_with fail
  refine (HW2.out _ _ HT6.out).mono ?_
  rintro r w7 ⟨rfl, f7⟩
  have HV7 : Hid (Vt w7 vb 4 1) := Two.fr HV6.out f7 (fun f => f)
  have HT7 : Hid (Ta w7 tb 3 4 3) := Thr.fr HT6.out f7 (fun f => f)
  have F7 : Hid (Fr (fun _ => False) w w7) := F6.out.seq' f7
  clear f7 HV6 HT6 F6
  go_wp2_with fail
  refine (prom_any _ _ _ _ HV7.out).mono ?_
  rintro r w8 ⟨rfl, f8⟩
  have HT8 : Hid (Ta w8 tb 3 4 3) := Thr.fr HT7.out f8 (fun f => f)
  have F8 : Hid (Fr (fun _ => False) w w8) := F7.out.seq' f8
  clear f8 HV7 HT7 F7
  go_wp2_with fail
  refine (epoch_any _ _ _ _ _ HT8.out).mono ?_
  rintro r w9 ⟨rfl, rfl⟩
  go_wp2
  go_ret
  exact ⟨rfl, F8.out⟩
end Go.Proofs.Ytbfkacahaocpfaa
