
/- Of any looks, the program's session and the document's read the same, tell the same codes and have the same floors behind each look, and the example speaks; with no condition but those of the statement's own form. -/
import Derived.Test.YtfmjefmocenkbaaArgs
import Derived.Test.YtfmjefmocenkbaaSsSpk
import Derived.Test.YtfmjefmocenkbaaSsArg
import Derived.Test.YtfmjefmocenkbaaSsRef
namespace Go.Proofs.Ytfmjefmocenkbaa.sessionReads
open Go.ChangeShapes Go.WideShapes Go.ChangeAt Go.RowKit
open Go.ChangeMaps (open_string shut_string)
set_option linter.unusedVariables false

theorem own : ownKnob Try.prog.godebug = none := by kernel_rfl
theorem laidOut : laidOutB Try.prog = true := by kernel_rfl
theorem bytes8 : Try.prog.bytesOf 5 = 1 := by kernel_rfl

open Go.RowKit
theorem arr3 {r : List Int} (h : r.length = 3) : ∃ x y z, r = [x, y, z] := by
  match r, h with
  | [x, y, z], _ => exact ⟨x, y, z, rfl⟩
theorem geq_not (p x : Int) : decide (x ≤ p) = !decide (p < x) := by
  by_cases h : p < x
  · simp [h]
  · have : x ≤ p := by omega
    simp [h, this]
set_option maxRecDepth 100000 in
set_option maxHeartbeats 16000000 in
theorem walk (w : World) (a1 : Option Addr) (len1 cap1 : Nat) (rs : List (List Int)) (hl1 : len1 = rs.length) (hb1 : rs.length * (8 * 3) ≤ 140737488351232) (hr1 : Rws w a1 cap1 3 rs) :
    Calls Try.prog 4 #[.slice a1 len1 cap1] w fun e w' => e = .returned (.bool true) ∧ Fr (fun _ => False) w w' := by
  have HSP : Hid (∀ W, Calls Try.prog 19 #[] W fun e w' => e = .returned (.bool true) ∧ Fr (fun _ => False) W w') := ssspk_any
  have hle := hr1.le
  have hmx := hr1.max
  rw [← hl1] at hle hb1
  have HS : Hid (∀ W, Fr (fun _ => False) w W → Rws W a1 cap1 3 rs) := fun W f => hr1.same f
  have HL : Hid (len1 = rs.length) := hl1
  have HFIT : Hid (∀ r ∈ rs, r.length = 3) := fun r h => (hr1.fit r h).1
  clear hl1 hr1
  go_enter Try.func4, Try.ntmps4
  go_wp2_with fail
  refine (begin_any w).mono ?_
  rintro e w1 ⟨sb, rfl, hsb, M1, F1⟩
  have F2 := F1.seq' (Fr.box w1 (.cells #[.int .i64 0, .int .i64 0, .int .i64 0, .int .i64 0, .int .i64 0, .int .i64 0, .int .i64 0] 48))
  have M2 := M1.fr (Fr.box w1 (.cells #[.int .i64 0, .int .i64 0, .int .i64 0, .int .i64 0, .int .i64 0, .int .i64 0, .int .i64 0] 48)) (fun f => f)
  have K2 : Nums (w1.alloc (.cells #[.int .i64 0, .int .i64 0, .int .i64 0, .int .i64 0, .int .i64 0, .int .i64 0, .int .i64 0] 48)) w1.heap.size 48 [0, 0, 0, 0, 0, 0, 0] := heap_alloc_new w1 _
  have HNE : Hid (sb < w1.heap.size ∧ w.heap.size ≤ sb ∧ w.heap.size ≤ w1.heap.size) := ⟨M1.lt, by omega, F1.size⟩
  obtain ⟨lb, hlb⟩ : ∃ lb, lb = w1.heap.size := ⟨_, rfl⟩
  have HLB : Hid (w1.heap.size = lb) := hlb.symm
  rw [← hlb] at HNE
  have HM2 : Hid (Nums (w1.alloc (.cells #[.int .i64 0, .int .i64 0, .int .i64 0, .int .i64 0, .int .i64 0, .int .i64 0, .int .i64 0] 48)) sb 69 [0, 0, 0, 0, 0, 0, 0]) := M2
  have HK2 : Hid (Nums (w1.alloc (.cells #[.int .i64 0, .int .i64 0, .int .i64 0, .int .i64 0, .int .i64 0, .int .i64 0, .int .i64 0] 48)) lb 48 [0, 0, 0, 0, 0, 0, 0]) := by rw [hlb]; exact K2
  have HF2 : Hid (Fr (fun _ => False) w (w1.alloc (.cells #[.int .i64 0, .int .i64 0, .int .i64 0, .int .i64 0, .int .i64 0, .int .i64 0, .int .i64 0] 48))) := F2
  clear hsb M1 F1 F2 M2 K2 hlb
  go_wp2
  rw [HLB.out]
  go_loopw [19] (fun i wr => ∃ (k : Nat) (fs : List Int), k ≤ len1 ∧ i = .int .i64 k ∧ Hid (fs.length = 7) ∧ Hid (Nums wr sb 69 fs) ∧ Hid (Nums wr lb 48 fs) ∧ Hid (Fr (fun _ => False) w wr)) (fun i _ => len1 - (intOf i).toNat)
  case atStart => exact ⟨0, [0, 0, 0, 0, 0, 0, 0], by omega, rfl, rfl, HM2, HK2, HF2⟩
  case round =>
    obtain ⟨k, fs, hk, rfl, HFL, HM, HK, HF⟩ := hrel
    clear HM2 HK2 HF2
    by_cases hlt : k < len1
    · obtain ⟨r, hr⟩ : ∃ r, rs[k]? = some r := ⟨_, List.getElem?_eq_getElem (by have := HL.out; omega)⟩
      obtain ⟨b1, o1, rfl, hb1l, hc⟩ := (HS.out _ HF.out).some (by have := HL.out; omega)
      obtain ⟨kd, nd, pt, rfl⟩ := arr3 (HFIT.out r (List.mem_of_getElem? hr))
      have c0 := hc k _ hr 0 kd rfl
      have c1 := hc k _ hr 1 nd rfl
      have c2 := hc k _ hr 2 pt rfl
      rw [Nat.add_zero] at c0
      have i1 : (k : Int) < (len1 : Int) := by omega
      clear hc hr
      have F0 := Fr.box wr (.cells #[.int .i64 kd, .int .i64 nd, .int .i64 pt] 50)
      have NB : Nums (wr.alloc (.cells #[.int .i64 kd, .int .i64 nd, .int .i64 pt] 50)) wr.heap.size 50 [kd, nd, pt] := heap_alloc_new wr _
      have x0 := (NB.at_ (k := 0) rfl).1
      have x1 := (NB.at_ (k := 1) rfl).1
      have x2 := (NB.at_ (k := 2) rfl).1
      have hsl := HM.out.lt
      have hll := HK.out.lt
      have HNB : Hid (Nums (wr.alloc (.cells #[.int .i64 kd, .int .i64 nd, .int .i64 pt] 50)) wr.heap.size 50 [kd, nd, pt]) := NB
      have HM1 : Hid (Nums (wr.alloc (.cells #[.int .i64 kd, .int .i64 nd, .int .i64 pt] 50)) sb 69 fs) := HM.out.fr F0 (fun f => f)
      have HK1 : Hid (Nums (wr.alloc (.cells #[.int .i64 kd, .int .i64 nd, .int .i64 pt] 50)) lb 48 fs) := HK.out.fr F0 (fun f => f)
      have HF1 : Hid (Fr (fun _ => False) w (wr.alloc (.cells #[.int .i64 kd, .int .i64 nd, .int .i64 pt] 50))) := HF.out.seq' F0
      have HSL : Hid (sb < wr.heap.size ∧ lb < wr.heap.size) := ⟨hsl, hll⟩
      obtain ⟨xb, hxb⟩ : ∃ xb, xb = wr.heap.size := ⟨_, rfl⟩
      have HXB : Hid (wr.heap.size = xb) := hxb.symm
      rw [← hxb] at HNB HSL
      clear F0 NB hsl hll HM HK HF hxb
      obtain ⟨W1, hW1⟩ : ∃ W1, W1 = wr.alloc (.cells #[.int .i64 kd, .int .i64 nd, .int .i64 pt] 50) := ⟨_, rfl⟩
      rw [← hW1] at HNB HM1 HK1 HF1
      have HW1 : Hid (wr.alloc (.cells #[.int .i64 kd, .int .i64 nd, .int .i64 pt] 50) = W1) := hW1.symm
      have HNEQ : Hid (sb ≠ lb ∧ sb ≠ xb ∧ lb ≠ xb) := by have := HNE.out; have := HSL.out; exact ⟨by omega, by omega, by omega⟩
      clear hW1
      by_cases hkd : kd = 2
      · subst hkd
        go_wp2_with fail
        rw [HW1.out, HXB.out]
        clear x0 x1 x2 c0 c1 c2 HXB HW1
        have G1 : Fr (fun _ => False) W1 W1.drew := (Fr.refl _ W1).drew
        have q1 := ((HNB.out.fr G1 (fun f => f)).at_ (k := 1) rfl).1
        have r1 := again_any nd W1.drew (HM1.out.fr G1 (fun f => f)) HFL.out
        obtain ⟨cd, hcd⟩ : ∃ cd : Int, cd = if ndB nd = true then 0 else 1 := ⟨_, rfl⟩
        have HCD : Hid ((if ndB nd = true then (0 : Int) else 1) = cd) := hcd.symm
        rw [← hcd] at r1
        clear hcd
        go_region_held3 (fun W => W.cell? ⟨xb, 1, none⟩ = some (.int .i64 nd))
          (first | with_reducible exact q1 | with_reducible exact q2 | with_reducible exact q3 | fail)
          (first | (go_at_call 21; refine r1.mono ?_; rintro r w4 ⟨rfl, hv4, f4⟩; clear r1; have B4 := (HNB.out.fr G1 (fun f => f)).fr f4 (fun e => HNEQ.out.2.1 e.symm); have q2 := (B4.at_ (k := 1) rfl).1; have X4 := (HK1.out.fr G1 (fun f => f)).fr f4 (fun e => HNEQ.out.1 e.symm); have r2 := ragain_any nd w4 X4 HFL.out; rw [HCD.out] at r2)
                 | (go_at_call 22; refine r2.mono ?_; rintro r w5 ⟨rfl, hx5, f5⟩; clear r2; have B5 := B4.fr f5 (fun e => HNEQ.out.2.2 e.symm); have q3 := (B5.at_ (k := 1) rfl).1))
        have HMX : Hid (Nums w5 sb 69 (agF fs nd)) := hv4.fr f5 (fun e => HNEQ.out.1 e)
        have HKX : Hid (Nums w5 lb 48 (agF fs nd)) := hx5
        have HNX : Hid (Nums w5 xb 50 [2, nd, pt]) := B5
        have HFX : Hid (Fr (fun _ => False) w w5) := ((HF1.out.seq' G1).trans f4 (fun i hi e => by have := HNE.out; omega)).trans f5 (fun i hi e => by have := HNE.out; omega)
        have HLX : Hid ((agF fs nd).length = 7) := by rw [agF_len]; exact HFL
        clear q1 q2 q3 G1 hv4 f4 B4 X4 hx5 f5 B5 HNB HM1 HK1 HF1 HFL HCD
        generalize agF fs nd = gs at *
        cases hnd : ndB nd with
        | true =>
          obtain ⟨q, hq, hq7⟩ := ndB_nat hnd
          have HQ : Hid (nd = q) := hq
          clear hq
          obtain ⟨v, hv⟩ : ∃ v, (gs)[q]? = some v := ⟨_, List.getElem?_eq_getElem (by have := HLX.out; omega)⟩
          have e4 : flN (gs) nd = v := by rw [HQ.out]; simp [flN, hv]
          have y1 := (HNX.out.at_ (k := 1) rfl).1
          obtain ⟨z0, z1⟩ := HKX.out.at_ hv
          have HFL2 : Hid (∀ n, Calls Try.prog 25 #[.pointer (some ⟨sb, 0, none⟩), .int .i64 nd] (w5.drewN n) fun e w' => e = .returned (.int .i64 v) ∧ w5.drewN n = w') := fun n => by
            have := floor_any nd (w5.drewN n) (HMX.out.fr ((Fr.refl (fun _ => False) w5).drewN n) (fun f => f)) HLX.out
            rw [hnd, if_pos rfl, e4] at this
            exact this
          have g1 : decide (0 ≤ nd) = true := by rw [HQ.out]; simp
          have g2 : decide (nd < 7) = true := by rw [HQ.out]; simp; omega
          have g3 : 0 ≤ nd := by rw [HQ.out]; omega
          have g4 : nd < 7 := by rw [HQ.out]; omega
          have g5 : nd.toNat = q := by rw [HQ.out]; rfl
          clear hv hnd e4
          go_wp2
          go_quiet (fail)
          go_wp2_with fail
          refine (HFL2.out _).mono ?_
          rintro e w8 ⟨rfl, rfl⟩
          go_wp2
          go_roundw
          case rel => exact ⟨k + 1, gs, by omega, by go_num, HLX, HMX.out.fr ((Fr.refl (fun _ => False) w5).drewN _) (fun f => f), HKX.out.fr ((Fr.refl (fun _ => False) w5).drewN _) (fun f => f), HFX.out.drewN _⟩
          case measure => simp [intOf]; omega
        | false =>
          have y1 := (HNX.out.at_ (k := 1) rfl).1
          have hfl : Calls Try.prog 25 #[.pointer (some ⟨sb, 0, none⟩), .int .i64 nd] w5 fun e w' => e = .returned (.int .i64 0) ∧ w5 = w' := by
            have := floor_any nd w5 HMX.out HLX.out
            rw [hnd, if_neg (by simp)] at this
            exact this
          have hn : nd < 0 ∨ 6 < nd := by simp [ndB, inB] at hnd; omega
          clear hnd
          by_cases g : 0 ≤ nd
          · have g1 : decide (0 ≤ nd) = true := by simpa using g
            have g2 : decide (nd < 7) = false := by simp; omega
            clear hn
            go_wp2_with fail
            refine hfl.mono ?_
            rintro e w8 ⟨rfl, rfl⟩
            go_wp2
            go_roundw
            case rel => exact ⟨k + 1, gs, by omega, by go_num, HLX, HMX, HKX, HFX⟩
            case measure => simp [intOf]; omega
          · have g1 : decide (0 ≤ nd) = false := by simpa using g
            clear hn
            go_wp2_with fail
            refine hfl.mono ?_
            rintro e w8 ⟨rfl, rfl⟩
            go_wp2
            go_roundw
            case rel => exact ⟨k + 1, gs, by omega, by go_num, HLX, HMX, HKX, HFX⟩
            case measure => simp [intOf]; omega
      · have hkb : (kd == 2) = false := by simpa using hkd
        have r1 := read_any nd pt W1 HM1.out HFL.out
        go_wp2_with fail
        rw [HW1.out, HXB.out]
        refine r1.mono ?_
        rintro r w4 ⟨rfl, hv4, f4⟩
        have B4 := HNB.out.fr f4 (fun e => HNEQ.out.2.1 e.symm)
        have X4 := HK1.out.fr f4 (fun e => HNEQ.out.1 e.symm)
        have r2 := rread_any nd pt w4 X4 HFL.out
        have u1 := (B4.at_ (k := 1) rfl).1
        have u2 := (B4.at_ (k := 2) rfl).1
        have HM4 : Hid (Nums w4 sb 69 (rdF fs nd pt)) := hv4
        have HB4 : Hid (Nums w4 xb 50 [kd, nd, pt]) := B4
        have HF4 : Hid (Fr (fun _ => False) w w4) := HF1.out.trans f4 (fun i hi e => by have := HNE.out; omega)
        have HLX : Hid ((rdF fs nd pt).length = 7) := by rw [rdF_len]; exact HFL
        clear x0 x1 x2 c0 c1 c2 HXB HW1 r1 hv4 f4 B4 X4 HNB HM1 HK1 HF1 HFL
        generalize rdB fs nd pt = rb at *
        generalize rdE nd pt = re at *
        generalize rdF fs nd pt = gs at *
        go_wp2_with fail
        refine r2.mono ?_
        rintro r w5 ⟨rfl, hx5, f5⟩
        have HMX : Hid (Nums w5 sb 69 gs) := HM4.out.fr f5 (fun e => HNEQ.out.1 e)
        have HKX : Hid (Nums w5 lb 48 gs) := hx5
        have HNX : Hid (Nums w5 xb 50 [kd, nd, pt]) := HB4.out.fr f5 (fun e => HNEQ.out.2.2 e.symm)
        have HFX : Hid (Fr (fun _ => False) w w5) := HF4.out.trans f5 (fun i hi e => by have := HNE.out; omega)
        clear u1 u2 r2 hx5 f5 HM4 HB4 HF4
        cases hnd : ndB nd with
        | true =>
          obtain ⟨q, hq, hq7⟩ := ndB_nat hnd
          have HQ : Hid (nd = q) := hq
          clear hq
          obtain ⟨v, hv⟩ : ∃ v, (gs)[q]? = some v := ⟨_, List.getElem?_eq_getElem (by have := HLX.out; omega)⟩
          have e4 : flN (gs) nd = v := by rw [HQ.out]; simp [flN, hv]
          have y1 := (HNX.out.at_ (k := 1) rfl).1
          obtain ⟨z0, z1⟩ := HKX.out.at_ hv
          have HFL2 : Hid (∀ n, Calls Try.prog 25 #[.pointer (some ⟨sb, 0, none⟩), .int .i64 nd] (w5.drewN n) fun e w' => e = .returned (.int .i64 v) ∧ w5.drewN n = w') := fun n => by
            have := floor_any nd (w5.drewN n) (HMX.out.fr ((Fr.refl (fun _ => False) w5).drewN n) (fun f => f)) HLX.out
            rw [hnd, if_pos rfl, e4] at this
            exact this
          have g1 : decide (0 ≤ nd) = true := by rw [HQ.out]; simp
          have g2 : decide (nd < 7) = true := by rw [HQ.out]; simp; omega
          have g3 : 0 ≤ nd := by rw [HQ.out]; omega
          have g4 : nd < 7 := by rw [HQ.out]; omega
          have g5 : nd.toNat = q := by rw [HQ.out]; rfl
          clear hv hnd e4
          go_wp2
          go_quiet (fail)
          go_wp2_with fail
          refine (HFL2.out _).mono ?_
          rintro e w8 ⟨rfl, rfl⟩
          go_wp2
          go_roundw
          case rel => exact ⟨k + 1, gs, by omega, by go_num, HLX, HMX.out.fr ((Fr.refl (fun _ => False) w5).drewN _) (fun f => f), HKX.out.fr ((Fr.refl (fun _ => False) w5).drewN _) (fun f => f), HFX.out.drewN _⟩
          case measure => simp [intOf]; omega
        | false =>
          have y1 := (HNX.out.at_ (k := 1) rfl).1
          have hfl : Calls Try.prog 25 #[.pointer (some ⟨sb, 0, none⟩), .int .i64 nd] w5 fun e w' => e = .returned (.int .i64 0) ∧ w5 = w' := by
            have := floor_any nd w5 HMX.out HLX.out
            rw [hnd, if_neg (by simp)] at this
            exact this
          have hn : nd < 0 ∨ 6 < nd := by simp [ndB, inB] at hnd; omega
          clear hnd
          by_cases g : 0 ≤ nd
          · have g1 : decide (0 ≤ nd) = true := by simpa using g
            have g2 : decide (nd < 7) = false := by simp; omega
            clear hn
            go_wp2_with fail
            refine hfl.mono ?_
            rintro e w8 ⟨rfl, rfl⟩
            go_wp2
            go_roundw
            case rel => exact ⟨k + 1, gs, by omega, by go_num, HLX, HMX, HKX, HFX⟩
            case measure => simp [intOf]; omega
          · have g1 : decide (0 ≤ nd) = false := by simpa using g
            clear hn
            go_wp2_with fail
            refine hfl.mono ?_
            rintro e w8 ⟨rfl, rfl⟩
            go_wp2
            go_roundw
            case rel => exact ⟨k + 1, gs, by omega, by go_num, HLX, HMX, HKX, HFX⟩
            case measure => simp [intOf]; omega
    · have hke : k = len1 := by omega
      subst hke
      have hsp := HSP.out wr
      have HFW : Hid (Fr (fun _ => False) w wr) := HF
      clear HM HK
      go_wp2_with (go_at_call 19; refine hsp.mono ?_; rintro e w9 ⟨rfl, f9⟩)
      go_ret
      exact ⟨rfl, HFW.out.seq' f9⟩

set_option maxRecDepth 100000 in
theorem lifted (os : Os) (started : os.Started) (H : Type) (enc : TypeId × Value → H) :
    ReturnsInHanded {} Try.checked os 4 .any (Rows.sessionReadsSpec.pre6 enc Try.prog Try.f4 Rows.sessionReadsRow.domain false) (Rows.sessionReadsSpec.post enc Try.prog Try.f4 false true false false) := by
  refine returnsInHanded_of_change_sized (C := Try.checked) own started (by kernel_rfl) Try.func4
    (ChangeSpec.witness6 (enc := enc) (C := Try.checked) false ⟨#[], #[.slice none 0 0], []⟩ 8 (by kernel_rfl) (by kernel_rfl) (by kernel_rfl) (by kernel_rfl)) ?_
  intro W base args ds gs before hval0 hW hcnd hsz0 _
  have hsz : (DataW.weightsEach Try.prog (Try.f4.params.toList ++ Rows.sessionReadsSpec.plain.varTypes Try.prog) (ds ++ gs)).all (· ≤ reachBytes) = true := hsz0
  clear hsz0
  have hval : ∀ (j : Nat) t v, Try.f4.params[j]? = some t → args[j]? = some v → Value.okWide Try.prog W .any base t v := hval0
  have hW' := hW
  obtain ⟨p, q, hA0, hV, rfl, hfz, hnd⟩ := hW
  have hA : DataW.TrodAll enc Try.prog W 0 (fun _ => true) true Try.f4.params.toList args.toList ds p := hA0
  rw [Try.params4] at hA hval hsz
  obtain ⟨v0, vs0, d0, ds0, p0, q0, hargs, rfl, rfl, h0, r0⟩ := trodAll_cons hA
  obtain ⟨rfl, rfl, rfl⟩ := trodAll_nil r0
  obtain rfl : args = #[v0] := by cases args; simp_all
  obtain ⟨rfl, rfl⟩ := trodVars_none hV
  obtain ⟨a0, len0, cap0, rfl⟩ := okWide_slice Try.underlying42 (hval 0 42 v0 rfl rfl)
  have k0 := h0
  have lt0 : ∀ x ∈ p0, x.block < W.heap.size := by obtain ⟨m, hm⟩ := k0; exact DataW.trod_lt m _ _ _ hm
  have wz0 : ∀ z ∈ d0.weights Try.prog 42, z ≤ reachBytes := fun z hz => by simpa using List.all_eq_true.1 hsz z (DataW.weights_mem_each (j := 0) rfl rfl z hz)
  obtain ⟨rs0, hl0, hb0, hr0⟩ : ∃ rs : List (List Int), len0 = rs.length ∧ rs.length * (8 * 3) ≤ 140737488351232 ∧ Rws W a0 cap0 3 rs := by
    obtain ⟨fuel, hf⟩ := h0
    exact rws_open Try.underlying42 cellsL24 (by decide) bytesL24 lk24_ints hf wz0
  clear hA0 hval0
  refine (walk W a0 len0 cap0 rs0 hl0 hb0 hr0).mono fun e W' ⟨he, fr⟩ => ?_
  have bel : Below W.heap.size W W' := fr.below (Nat.le_refl _) (fun _ f => f.elim)
  subst he
  exact ⟨_, rfl, _, _, _, [], _, [], hW', trodAll_mk1 (shut_bool Try.underlying4 _), (trodAll_cons_mk (Below.trod laidOut (by kernel_rfl) (of_decide_eq_true (by kernel_rfl)) k0 bel lt0) trodAll_mk0), rfl, bel.frame _, fun h => by cases h⟩

theorem proved : Rows.SessionReadsSaid :=
  OpenClaim.holds_of_wide 4 Try.f4 rfl rfl rfl rfl rfl rfl rfl ⟨rfl, rfl, rfl, rfl, rfl⟩ rfl rfl rfl rfl rfl (by kernel_rfl) Try.func4 (by kernel_rfl)
    (of_decide_eq_true (by kernel_rfl)) (by unfold Func.isWrapper; first | (rw [if_pos (by decide +kernel)]; kernel_rfl) | (rw [if_neg (by decide +kernel)]; exact ⟨rfl, rfl⟩))
    (fun os started H enc _ => lifted os started H enc)
end Go.Proofs.Ytfmjefmocenkbaa.sessionReads
namespace Go.Proofs.Ytfmjefmocenkbaa
theorem sessionReads_holds : Rows.SessionReadsSaid := sessionReads.proved
#print axioms sessionReads_holds
end Go.Proofs.Ytfmjefmocenkbaa
