
/- Of any steps, the program's table and the document's tell the same codes, the same requests in the same order and the same states, and as many wait, behind each step, and the example speaks; with no condition but those of the statement's own form. -/
import Derived.Test.YtfmjefmocenkbaaArgs
import Derived.Test.YtfmjefmocenkbaaSsSpk
import Derived.Test.YtfmjefmocenkbaaSsArg
import Derived.Test.YtfmjefmocenkbaaSsBo
namespace Go.Proofs.Ytfmjefmocenkbaa.sessionTables
open Go.ChangeShapes Go.WideShapes Go.ChangeAt Go.RowKit
open Go.ChangeMaps (open_string shut_string)
set_option linter.unusedVariables false

theorem own : ownKnob Try.prog.godebug = none := by kernel_rfl
theorem laidOut : laidOutB Try.prog = true := by kernel_rfl
theorem bytes8 : Try.prog.bytesOf 5 = 1 := by kernel_rfl

open Go.RowKit
theorem arr3 {r : List Int} (h : r.length = 3) : ∃ x y z, r = [x, y, z] := by
  match r, h with
  | [x, y, z], _ => exact ⟨x, y, z, rfl⟩
set_option maxRecDepth 100000 in
set_option maxHeartbeats 16000000 in
theorem walk (w : World) (a1 : Option Addr) (len1 cap1 : Nat) (rs : List (List Int)) (hl1 : len1 = rs.length) (hb1 : rs.length * (8 * 3) ≤ 140737488351232) (hr1 : Rws w a1 cap1 3 rs) :
    Calls Try.prog 3 #[.slice a1 len1 cap1] w fun e w' => e = .returned (.bool true) ∧ Fr (fun _ => False) w w' := by
  have HSP : Hid (∀ W, Calls Try.prog 19 #[] W fun e w' => e = .returned (.bool true) ∧ Fr (fun _ => False) W w') := ssspk_any
  have hle := hr1.le
  have hmx := hr1.max
  rw [← hl1] at hle hb1
  have HS : Hid (∀ W, Fr (fun _ => False) w W → Rws W a1 cap1 3 rs) := fun W f => hr1.same f
  have HL : Hid (len1 = rs.length) := hl1
  have HFIT : Hid (∀ r ∈ rs, r.length = 3) := fun r h => (hr1.fit r h).1
  have HWFI : Hid (∀ r ∈ rs, ∀ n ∈ r, wfK n) := fun r h n hn => (hr1.fit r h).2 n hn
  clear hl1 hr1
  go_enter Try.func3, Try.ntmps3
  go_wp2_with fail
  refine (snew_any w).mono ?_
  rintro e w1 ⟨tb, rfl, hsb, T1, F1⟩
  have hR := Rt.new w1
  have F2 := Fr.box w1 (.cells #[.slice none 0 0, .slice none 0 0] 29)
  have hbl := T1.lt tb rfl
  obtain ⟨rb, hrb⟩ : ∃ rb, rb = w1.heap.size := ⟨_, rfl⟩
  have HRB : Hid (w1.heap.size = rb) := hrb.symm
  rw [← hrb] at hR
  have HB0 : Hid (Bo w (w1.alloc (.cells #[.slice none 0 0, .slice none 0 0] 29)) (fun i => i = tb) (fun i => i = rb) tb rb [] [] 0) := ⟨T1.same F2, ⟨none, 0, none, 0, hR⟩, by simp, by simp, (fun _ h => by cases h), fun i e e2 => by omega, fun i e => by omega, fun i e => by have := F1.size; omega, F1.seq' F2⟩
  clear hsb T1 F1 F2 hR hbl hrb
  go_wp2
  rw [HRB.out]
  go_loopw [14] (fun i wr => ∃ (k : Nat) (L : Wt) (D : List Int) (S R : Nat → Prop), k ≤ len1 ∧ i = .int .i64 k ∧ Hid (Bo w wr S R tb rb L D k)) (fun i _ => len1 - (intOf i).toNat)
  case atStart => exact ⟨0, [], [], _, _, by omega, rfl, HB0⟩
  case round =>
    obtain ⟨k, L, D, S, R, hk, rfl, HBO⟩ := hrel
    clear HB0
    by_cases hlt : k < len1
    · obtain ⟨r, hr⟩ : ∃ r, rs[k]? = some r := ⟨_, List.getElem?_eq_getElem (by have := HL.out; omega)⟩
      obtain ⟨b1, o1, rfl, hb1l, hc⟩ := (HS.out _ HBO.out.fr).some (by have := HL.out; omega)
      have hwq := HWFI.out r (List.mem_of_getElem? hr)
      obtain ⟨kd, rq, ln, rfl⟩ := arr3 (HFIT.out r (List.mem_of_getElem? hr))
      have HWQ : Hid (wfK rq) := hwq rq (by simp)
      have c0 := hc k _ hr 0 kd rfl
      have c1 := hc k _ hr 1 rq rfl
      have c2 := hc k _ hr 2 ln rfl
      rw [Nat.add_zero] at c0
      have i1 : (k : Int) < (len1 : Int) := by omega
      have NB : Nums (wr.alloc (.cells #[.int .i64 kd, .int .i64 rq, .int .i64 ln] 31)) wr.heap.size 31 [kd, rq, ln] := heap_alloc_new wr _
      have x0 := (NB.at_ (k := 0) rfl).1
      have x1 := (NB.at_ (k := 1) rfl).1
      have x2 := (NB.at_ (k := 2) rfl).1
      have F0 := Fr.box wr (.cells #[.int .i64 kd, .int .i64 rq, .int .i64 ln] 31)
      have hB1 := HBO.out.same F0
      by_cases h2000 : k < 2000
      · have d1 : decide ((2000 : Int) ≤ (k : Int)) = false := by simp; omega
        have d2 : decide (2000 ≤ k) = false := by simp; omega
        obtain ⟨xb, hxb⟩ : ∃ xb, xb = wr.heap.size := ⟨_, rfl⟩
        have HXB : Hid (wr.heap.size = xb) := hxb.symm
        have HNEQ : Hid (¬ S xb ∧ ¬ R xb) := ⟨fun h => by have := HBO.out.tb.lt xb h; omega, fun h => by have := HBO.out.ltR xb h; omega⟩
        rw [← hxb] at NB
        obtain ⟨W1, hW1⟩ : ∃ W1, W1 = (wr.alloc (.cells #[.int .i64 kd, .int .i64 rq, .int .i64 ln] 31)) := ⟨_, rfl⟩
        rw [← hW1] at NB hB1
        have HW1 : Hid ((wr.alloc (.cells #[.int .i64 kd, .int .i64 rq, .int .i64 ln] 31)) = W1) := hW1.symm
        have HNB : Hid (Nums W1 xb 31 [kd, rq, ln]) := NB
        have HB1 : Hid (Bo w W1 S R tb rb L D k) := hB1
        clear hc hr NB F0 hB1 HBO hwq hxb hW1
        by_cases g0 : kd = 0
        · subst g0
          go_wp2_with fail
          rw [HW1.out, HXB.out]
          clear x0 x1 x2 c0 c1 c2 HXB HW1

          have G1 : Fr (fun _ => False) W1 W1.drew := (Fr.refl _ W1).drew
          have B1 := HB1.out.same G1
          have N1 := HNB.out.fr G1 (fun f => f)
          have q1 : W1.drew.cell? ⟨xb, 1, none⟩ = some (.int .i64 rq) ∧ W1.drew.cell? ⟨xb, 2, none⟩ = some (.int .i64 ln) := ⟨(N1.at_ (k := 1) rfl).1, (N1.at_ (k := 2) rfl).1⟩
          have r1 := wait_any rq ln W1.drew B1.tb B1.len
          obtain ⟨cd, hcd⟩ : ∃ cd, cd = waE L D rq ln := ⟨_, rfl⟩
          have HCD : Hid (waE L D rq ln = cd) := hcd.symm
          rw [← hcd] at r1
          clear hcd
          go_region_held3 (fun W => W.cell? ⟨xb, 1, none⟩ = some (.int .i64 rq) ∧ W.cell? ⟨xb, 2, none⟩ = some (.int .i64 ln))
            (first | with_reducible exact q1 | with_reducible exact q2 | with_reducible exact q3 | fail)
            (first | (go_at_call 9; refine r1.mono ?_; rintro r w4 ⟨rfl, hw4⟩; clear r1; have f4 : Fr S W1.drew w4 := (by obtain ⟨S', _, _, f⟩ := hw4; exact f); have N4 := N1.fr f4 (fun e => HNEQ.out.1 e); have q2 : w4.cell? ⟨xb, 1, none⟩ = some (.int .i64 rq) ∧ w4.cell? ⟨xb, 2, none⟩ = some (.int .i64 ln) := ⟨(N4.at_ (k := 1) rfl).1, (N4.at_ (k := 2) rfl).1⟩; obtain ⟨la, lc, da, dc, hrt⟩ := B1.rt; have r2 := rwait_any rq ln (hrt.fr f4 (fun i hi e => B1.sep i e hi)) B1.dis B1.len; rw [HCD.out] at r2)
                   | (go_at_call 10; refine r2.mono ?_; rintro r w5 ⟨rfl, hw5⟩; clear r2; have f5 : Fr R w4 w5 := (by obtain ⟨_, _, _, _, _, _, _, f⟩ := hw5; exact f); have N5 := N4.fr f5 (fun e => HNEQ.out.2 e); have q3 : w5.cell? ⟨xb, 1, none⟩ = some (.int .i64 rq) ∧ w5.cell? ⟨xb, 2, none⟩ = some (.int .i64 ln) := ⟨(N5.at_ (k := 1) rfl).1, (N5.at_ (k := 2) rfl).1⟩))
          obtain ⟨S2, R2, hb2⟩ := B1.wait hw4 hw5
          obtain ⟨L2, hL2⟩ : ∃ L2, L2 = waL L D rq ln := ⟨_, rfl⟩
          rw [← hL2] at hb2
          have HB : Hid (Bo w w5 S2 R2 tb rb L2 D (k + 1)) := hb2
          have HNX : Hid (Nums w5 xb 31 [0, rq, ln]) := N5
          clear q1 q2 q3 G1 B1 N1 N4 N5 hw4 hw5 hb2 hL2 HB1 HNB HCD hrt f4 f5 HNEQ

          -- the states behind a step
          obtain ⟨la, lc, da, dc, hrt⟩ := HB.out.rt
          have G1 : Fr (fun _ => False) w5 w5.drew := (Fr.refl _ w5).drew
          have HCX : Hid (∀ W, Fr (fun _ => False) w5 W → W.cell? ⟨xb, 1, none⟩ = some (.int .i64 rq) ∧ W.cell? ⟨rb, 0, none⟩ = some (.slice la (L2).length lc)) := fun W f => ⟨((HNX.out.fr f (fun f => f)).at_ (k := 1) rfl).1, ((hrt.same f).two.cells).1⟩
          have HRS : Hid (∀ W, Fr (fun _ => False) w5 W → Calls Try.prog 17 #[.pointer (some ⟨rb, 0, none⟩), .int .i64 rq] W fun e w' => e = .returned (.int .i64 (stN (L2) (D) rq)) ∧ Fr (fun _ => False) W w') := fun W f => by rw [← rstN_eq HB.out.dis rq]; exact rstate_any rq (hrt.same f)
          have HPS : Hid (∀ W, Fr (fun _ => False) w5 W → Calls Try.prog 16 #[.pointer (some ⟨tb, 0, none⟩), .int .i64 rq] W fun e w' => e = .returned (.int .i64 (stN (L2) (D) rq)) ∧ Fr (fun _ => False) W w') := fun W f => state_any rq HWQ.out W (HB.out.tb.same f)
          have HWT : Hid (∀ W, Fr (fun _ => False) w5 W → Calls Try.prog 18 #[.pointer (some ⟨tb, 0, none⟩)] W fun e w' => e = .returned (.int .i64 ((L2).length : Nat)) ∧ w' = W) := fun W f => waiting_any W (HB.out.tb.same f)
          clear hrt
          obtain ⟨sv, hsv⟩ : ∃ sv, sv = stN (L2) (D) rq := ⟨_, rfl⟩
          rw [← hsv] at HRS HPS
          obtain ⟨nl, hnl⟩ : ∃ nl, nl = (L2).length := ⟨_, rfl⟩
          rw [← hnl] at HCX HWT
          clear hsv hnl
          have q1 := HCX.out _ G1
          go_wp2_with fail
          go_region_held3 (fun W => W.cell? ⟨xb, 1, none⟩ = some (.int .i64 rq) ∧ W.cell? ⟨rb, 0, none⟩ = some (.slice la nl lc))
            (first | with_reducible exact q1 | with_reducible exact q2 | with_reducible exact q3 | fail)
            (first | (go_at_call 16; refine (HPS.out _ G1).mono ?_; rintro r w6 ⟨rfl, f6⟩; have G2 := G1.seq' f6; have q2 := HCX.out _ G2)
                   | (go_at_call 17; refine (HRS.out _ G2).mono ?_; rintro r w7 ⟨rfl, f7⟩; have G3 := G2.seq' f7; have q3 := HCX.out _ G3)
                   | (go_at_call 18; refine (HWT.out _ G3).mono ?_; rintro r w8 ⟨rfl, rfl⟩))
          all_goals
            have HBF : Hid (Bo w _ S2 R2 tb rb (L2) (D) (k + 1)) := HB.out.same G3
            clear q1 q2 q3 HCX HRS HPS HWT HNX HB
            go_wp2
            go_roundw
            case rel => exact ⟨k + 1, _, _, _, _, by omega, by go_num, HBF⟩
            case measure => simp [intOf]; omega
        · have g0' : (kd == 0) = false := by simpa using g0
          by_cases g1 : kd = 1
          · subst g1
            go_wp2_with fail
            rw [HW1.out, HXB.out]
            clear x0 x1 x2 c0 c1 c2 HXB HW1

            have G1 : Fr (fun _ => False) W1 W1.drew := (Fr.refl _ W1).drew
            have B1 := HB1.out.same G1
            have N1 := HNB.out.fr G1 (fun f => f)
            have q1 : W1.drew.cell? ⟨xb, 1, none⟩ = some (.int .i64 rq) ∧ W1.drew.cell? ⟨xb, 2, none⟩ = some (.int .i64 ln) := ⟨(N1.at_ (k := 1) rfl).1, (N1.at_ (k := 2) rfl).1⟩
            have r1 := wait_any rq ln W1.drew B1.tb B1.len
            obtain ⟨cd, hcd⟩ : ∃ cd, cd = waE L D rq ln := ⟨_, rfl⟩
            have HCD : Hid (waE L D rq ln = cd) := hcd.symm
            rw [← hcd] at r1
            clear hcd
            go_region_held3 (fun W => W.cell? ⟨xb, 1, none⟩ = some (.int .i64 rq) ∧ W.cell? ⟨xb, 2, none⟩ = some (.int .i64 ln))
              (first | with_reducible exact q1 | with_reducible exact q2 | with_reducible exact q3 | fail)
              (first | (go_at_call 9; refine r1.mono ?_; rintro r w4 ⟨rfl, hw4⟩; clear r1; have f4 : Fr S W1.drew w4 := (by obtain ⟨S', _, _, f⟩ := hw4; exact f); have N4 := N1.fr f4 (fun e => HNEQ.out.1 e); have q2 : w4.cell? ⟨xb, 1, none⟩ = some (.int .i64 rq) ∧ w4.cell? ⟨xb, 2, none⟩ = some (.int .i64 ln) := ⟨(N4.at_ (k := 1) rfl).1, (N4.at_ (k := 2) rfl).1⟩; obtain ⟨la, lc, da, dc, hrt⟩ := B1.rt; have r2 := rwait_any rq ln (hrt.fr f4 (fun i hi e => B1.sep i e hi)) B1.dis B1.len; rw [HCD.out] at r2)
                     | (go_at_call 10; refine r2.mono ?_; rintro r w5 ⟨rfl, hw5⟩; clear r2; have f5 : Fr R w4 w5 := (by obtain ⟨_, _, _, _, _, _, _, f⟩ := hw5; exact f); have N5 := N4.fr f5 (fun e => HNEQ.out.2 e); have q3 : w5.cell? ⟨xb, 1, none⟩ = some (.int .i64 rq) ∧ w5.cell? ⟨xb, 2, none⟩ = some (.int .i64 ln) := ⟨(N5.at_ (k := 1) rfl).1, (N5.at_ (k := 2) rfl).1⟩))
            obtain ⟨S2, R2, hb2⟩ := B1.wait hw4 hw5
            obtain ⟨L2, hL2⟩ : ∃ L2, L2 = waL L D rq ln := ⟨_, rfl⟩
            rw [← hL2] at hb2
            have HB : Hid (Bo w w5 S2 R2 tb rb L2 D (k + 1)) := hb2
            have HNX : Hid (Nums w5 xb 31 [1, rq, ln]) := N5
            clear q1 q2 q3 G1 B1 N1 N4 N5 hw4 hw5 hb2 hL2 HB1 HNB HCD hrt f4 f5 HNEQ

            -- the states behind a step
            obtain ⟨la, lc, da, dc, hrt⟩ := HB.out.rt
            have G1 : Fr (fun _ => False) w5 w5.drew := (Fr.refl _ w5).drew
            have HCX : Hid (∀ W, Fr (fun _ => False) w5 W → W.cell? ⟨xb, 1, none⟩ = some (.int .i64 rq) ∧ W.cell? ⟨rb, 0, none⟩ = some (.slice la (L2).length lc)) := fun W f => ⟨((HNX.out.fr f (fun f => f)).at_ (k := 1) rfl).1, ((hrt.same f).two.cells).1⟩
            have HRS : Hid (∀ W, Fr (fun _ => False) w5 W → Calls Try.prog 17 #[.pointer (some ⟨rb, 0, none⟩), .int .i64 rq] W fun e w' => e = .returned (.int .i64 (stN (L2) (D) rq)) ∧ Fr (fun _ => False) W w') := fun W f => by rw [← rstN_eq HB.out.dis rq]; exact rstate_any rq (hrt.same f)
            have HPS : Hid (∀ W, Fr (fun _ => False) w5 W → Calls Try.prog 16 #[.pointer (some ⟨tb, 0, none⟩), .int .i64 rq] W fun e w' => e = .returned (.int .i64 (stN (L2) (D) rq)) ∧ Fr (fun _ => False) W w') := fun W f => state_any rq HWQ.out W (HB.out.tb.same f)
            have HWT : Hid (∀ W, Fr (fun _ => False) w5 W → Calls Try.prog 18 #[.pointer (some ⟨tb, 0, none⟩)] W fun e w' => e = .returned (.int .i64 ((L2).length : Nat)) ∧ w' = W) := fun W f => waiting_any W (HB.out.tb.same f)
            clear hrt
            obtain ⟨sv, hsv⟩ : ∃ sv, sv = stN (L2) (D) rq := ⟨_, rfl⟩
            rw [← hsv] at HRS HPS
            obtain ⟨nl, hnl⟩ : ∃ nl, nl = (L2).length := ⟨_, rfl⟩
            rw [← hnl] at HCX HWT
            clear hsv hnl
            have q1 := HCX.out _ G1
            go_wp2_with fail
            go_region_held3 (fun W => W.cell? ⟨xb, 1, none⟩ = some (.int .i64 rq) ∧ W.cell? ⟨rb, 0, none⟩ = some (.slice la nl lc))
              (first | with_reducible exact q1 | with_reducible exact q2 | with_reducible exact q3 | fail)
              (first | (go_at_call 16; refine (HPS.out _ G1).mono ?_; rintro r w6 ⟨rfl, f6⟩; have G2 := G1.seq' f6; have q2 := HCX.out _ G2)
                     | (go_at_call 17; refine (HRS.out _ G2).mono ?_; rintro r w7 ⟨rfl, f7⟩; have G3 := G2.seq' f7; have q3 := HCX.out _ G3)
                     | (go_at_call 18; refine (HWT.out _ G3).mono ?_; rintro r w8 ⟨rfl, rfl⟩))
            all_goals
              have HBF : Hid (Bo w _ S2 R2 tb rb (L2) (D) (k + 1)) := HB.out.same G3
              clear q1 q2 q3 HCX HRS HPS HWT HNX HB
              go_wp2
              go_roundw
              case rel => exact ⟨k + 1, _, _, _, _, by omega, by go_num, HBF⟩
              case measure => simp [intOf]; omega
          · have g1' : (kd == 1) = false := by simpa using g1
            by_cases g2 : kd = 2
            · subst g2
              go_wp2_with fail
              rw [HW1.out, HXB.out]
              clear x0 x1 x2 c0 c1 c2 HXB HW1

              have G1 : Fr (fun _ => False) W1 W1.drew := (Fr.refl _ W1).drew
              have B1 := HB1.out.same G1
              have N1 := HNB.out.fr G1 (fun f => f)
              have q1 : W1.drew.cell? ⟨xb, 2, none⟩ = some (.int .i64 ln) := (N1.at_ (k := 2) rfl).1
              have hDl : D.length ≤ 2000 := by have := B1.sum; omega
              have r1 := settle_any ln W1.drew B1.tb B1.len (by have := B1.len; omega)
              obtain ⟨ts, hts⟩ : ∃ ts, ts = tkR ln L := ⟨_, rfl⟩
              have HTS : Hid (tkR ln L = ts) := hts.symm
              rw [← hts] at r1
              clear hts
              go_region_held3 (fun W => W.cell? ⟨xb, 2, none⟩ = some (.int .i64 ln))
                (first | with_reducible exact q1 | with_reducible exact q2 | with_reducible exact q3 | with_reducible exact q4 | fail)
                (first | (go_at_call 12; refine r1.mono ?_; rintro r w4 ⟨p4, k4, rfl, hir4, ht4, f4⟩; clear r1; have N4 := N1.fr f4 (fun e => HNEQ.out.1 e); have q2 : w4.cell? ⟨xb, 2, none⟩ = some (.int .i64 ln) := (N4.at_ (k := 2) rfl).1; obtain ⟨la, lc, da, dc, hrt⟩ := B1.rt; have r2 := rsettle_any ln (hrt.fr f4 (fun i hi e => B1.sep i e hi)) B1.len (by omega); rw [HTS.out] at r2)
                       | (go_at_call 13; refine r2.mono ?_; rintro r w5 ⟨v5, rfl, hw5⟩; clear r2; obtain ⟨p5, k5, R5, la5, lc5, da5, dc5, rfl, is5, m1, m2, f5⟩ := hw5; have N5 := N4.fr f5 (fun e => HNEQ.out.2 e); have q3 : w5.cell? ⟨xb, 2, none⟩ = some (.int .i64 ln) := (N5.at_ (k := 2) rfl).1; have is4 := (hir4.fr f5 (fun i hi _ e => by have := B1.ltR i e; omega)).is; have r3 := plain_is p4 p5 k4 k5 ts w5 is4 is5)
                       | (go_at_call 11; refine r3.mono ?_; rintro r w6 ⟨rfl, f6⟩; clear r3; have N6 := N5.fr f6 (fun f => f); have q4 : w6.cell? ⟨xb, 2, none⟩ = some (.int .i64 ln) := (N6.at_ (k := 2) rfl).1))
              obtain ⟨a1, a2, a3⟩ := settle_facts B1.tb.ok B1.len B1.sum B1.dis ln
              rw [HTS.out] at a2 a3
              obtain ⟨R2, hb2⟩ := B1.turn ht4 f4 (ts := ts) (v := .slice p5 ts.length k5) ⟨p5, k5, R5, la5, lc5, da5, dc5, rfl, is5, m1, m2, f5⟩ a1 a2 a3
              have hb3 := hb2.same f6
              obtain ⟨L2, hL2⟩ : ∃ L2, L2 = rsL ln L := ⟨_, rfl⟩
              obtain ⟨D2, hD2⟩ : ∃ D2, D2 = D ++ ts := ⟨_, rfl⟩
              rw [← hL2, ← hD2] at hb3
              have HB : Hid (Bo w w6 S R2 tb rb L2 D2 (k + 1)) := hb3
              have HNX : Hid (Nums w6 xb 31 [2, rq, ln]) := N6
              clear q1 q2 q3 q4 G1 B1 N1 N4 N5 N6 ht4 hir4 hb2 hb3 hL2 hD2 HB1 HNB HTS hrt f4 f5 f6 HNEQ is4 is5 m1 m2 a1 a2 a3 hDl

              -- the states behind a step
              obtain ⟨la, lc, da, dc, hrt⟩ := HB.out.rt
              have G1 : Fr (fun _ => False) w6 w6.drew := (Fr.refl _ w6).drew
              have HCX : Hid (∀ W, Fr (fun _ => False) w6 W → W.cell? ⟨xb, 1, none⟩ = some (.int .i64 rq) ∧ W.cell? ⟨rb, 0, none⟩ = some (.slice la (L2).length lc)) := fun W f => ⟨((HNX.out.fr f (fun f => f)).at_ (k := 1) rfl).1, ((hrt.same f).two.cells).1⟩
              have HRS : Hid (∀ W, Fr (fun _ => False) w6 W → Calls Try.prog 17 #[.pointer (some ⟨rb, 0, none⟩), .int .i64 rq] W fun e w' => e = .returned (.int .i64 (stN (L2) (D2) rq)) ∧ Fr (fun _ => False) W w') := fun W f => by rw [← rstN_eq HB.out.dis rq]; exact rstate_any rq (hrt.same f)
              have HPS : Hid (∀ W, Fr (fun _ => False) w6 W → Calls Try.prog 16 #[.pointer (some ⟨tb, 0, none⟩), .int .i64 rq] W fun e w' => e = .returned (.int .i64 (stN (L2) (D2) rq)) ∧ Fr (fun _ => False) W w') := fun W f => state_any rq HWQ.out W (HB.out.tb.same f)
              have HWT : Hid (∀ W, Fr (fun _ => False) w6 W → Calls Try.prog 18 #[.pointer (some ⟨tb, 0, none⟩)] W fun e w' => e = .returned (.int .i64 ((L2).length : Nat)) ∧ w' = W) := fun W f => waiting_any W (HB.out.tb.same f)
              clear hrt
              obtain ⟨sv, hsv⟩ : ∃ sv, sv = stN (L2) (D2) rq := ⟨_, rfl⟩
              rw [← hsv] at HRS HPS
              obtain ⟨nl, hnl⟩ : ∃ nl, nl = (L2).length := ⟨_, rfl⟩
              rw [← hnl] at HCX HWT
              clear hsv hnl
              have q1 := HCX.out _ G1
              go_wp2_with fail
              go_region_held3 (fun W => W.cell? ⟨xb, 1, none⟩ = some (.int .i64 rq) ∧ W.cell? ⟨rb, 0, none⟩ = some (.slice la nl lc))
                (first | with_reducible exact q1 | with_reducible exact q2 | with_reducible exact q3 | fail)
                (first | (go_at_call 16; refine (HPS.out _ G1).mono ?_; rintro r w6 ⟨rfl, f6⟩; have G2 := G1.seq' f6; have q2 := HCX.out _ G2)
                       | (go_at_call 17; refine (HRS.out _ G2).mono ?_; rintro r w7 ⟨rfl, f7⟩; have G3 := G2.seq' f7; have q3 := HCX.out _ G3)
                       | (go_at_call 18; refine (HWT.out _ G3).mono ?_; rintro r w8 ⟨rfl, rfl⟩))
              all_goals
                have HBF : Hid (Bo w _ S R2 tb rb (L2) (D2) (k + 1)) := HB.out.same G3
                clear q1 q2 q3 HCX HRS HPS HWT HNX HB
                go_wp2
                go_roundw
                case rel => exact ⟨k + 1, _, _, _, _, by omega, by go_num, HBF⟩
                case measure => simp [intOf]; omega
            · have g2' : (kd == 2) = false := by simpa using g2
              by_cases g3 : kd = 3
              · subst g3
                go_wp2_with fail
                rw [HW1.out, HXB.out]
                clear x0 x1 x2 c0 c1 c2 HXB HW1

                have B1 := HB1.out
                have N1 := HNB.out
                have r1 := leave_any W1 B1.tb B1.len
                obtain ⟨ts, hts⟩ : ∃ ts, ts = L.map Prod.fst := ⟨_, rfl⟩
                have HTS : Hid (L.map Prod.fst = ts) := hts.symm
                rw [← hts] at r1
                refine r1.mono ?_
                rintro r w4 ⟨p4, k4, rfl, hir4, ht4, f4⟩
                have N4 := N1.fr f4 (fun e => HNEQ.out.1 e)
                obtain ⟨la, lc, da, dc, hrt⟩ := B1.rt
                have r2 := rleave_any (hrt.fr f4 (fun i hi e => B1.sep i e hi)) B1.len
                rw [HTS.out] at r2
                have HB1' : Hid (Bo w W1 S R tb rb L D k) := B1
                have HI4 : Hid (Ir w4 W1.heap.size p4 k4 ts) := hir4
                have HT4 : Hid (Tb w4 S tb [] D) := ht4
                have HF4 : Hid (Fr S W1 w4) := f4
                have HN4 : Hid (Nums w4 xb 31 [3, rq, ln]) := N4
                clear r1 B1 N1 N4 hir4 ht4 f4 hrt hts HB1 HNB HTS
                go_wp2_with fail
                refine r2.mono ?_
                rintro r w5 ⟨v5, rfl, hw5⟩
                obtain ⟨p5, k5, R5, la5, lc5, da5, dc5, rfl, is5, m1, m2, f5⟩ := hw5
                have N5 := HN4.out.fr f5 (fun e => HNEQ.out.2 e)
                have is4 := (HI4.out.fr f5 (fun i hi _ e => by have := HB1'.out.ltR i e; omega)).is
                have r3 := plain_is p4 p5 k4 k5 ts w5 is4 is5
                obtain ⟨R2, hb2⟩ := HB1'.out.turn HT4.out HF4.out (ts := ts) (v := .slice p5 ts.length k5) ⟨p5, k5, R5, la5, lc5, da5, dc5, rfl, is5, m1, m2, f5⟩ (by simp) (by have := HB1'.out.sum; simp; omega) (fun _ h => by cases h)
                have HB5 : Hid (Bo w w5 S R2 tb rb [] D (k + 1)) := hb2
                have HN5 : Hid (Nums w5 xb 31 [3, rq, ln]) := N5
                clear r2 is4 is5 m1 m2 f5 N5 hb2 HI4 HT4 HF4 HN4 HB1' HNEQ
                go_wp2_with fail
                refine r3.mono ?_
                rintro r w6 ⟨rfl, f6⟩
                obtain ⟨L2, hL2⟩ : ∃ L2 : Wt, L2 = [] := ⟨_, rfl⟩
                have HB : Hid (Bo w w6 S R2 tb rb L2 D (k + 1)) := by rw [hL2]; exact HB5.out.same f6
                have HNX : Hid (Nums w6 xb 31 [3, rq, ln]) := HN5.out.fr f6 (fun f => f)
                clear r3 f6 HB5 HN5 hL2

                -- the states behind a step
                obtain ⟨la, lc, da, dc, hrt⟩ := HB.out.rt
                have G1 : Fr (fun _ => False) w6 w6.drew := (Fr.refl _ w6).drew
                have HCX : Hid (∀ W, Fr (fun _ => False) w6 W → W.cell? ⟨xb, 1, none⟩ = some (.int .i64 rq) ∧ W.cell? ⟨rb, 0, none⟩ = some (.slice la (L2).length lc)) := fun W f => ⟨((HNX.out.fr f (fun f => f)).at_ (k := 1) rfl).1, ((hrt.same f).two.cells).1⟩
                have HRS : Hid (∀ W, Fr (fun _ => False) w6 W → Calls Try.prog 17 #[.pointer (some ⟨rb, 0, none⟩), .int .i64 rq] W fun e w' => e = .returned (.int .i64 (stN (L2) (D) rq)) ∧ Fr (fun _ => False) W w') := fun W f => by rw [← rstN_eq HB.out.dis rq]; exact rstate_any rq (hrt.same f)
                have HPS : Hid (∀ W, Fr (fun _ => False) w6 W → Calls Try.prog 16 #[.pointer (some ⟨tb, 0, none⟩), .int .i64 rq] W fun e w' => e = .returned (.int .i64 (stN (L2) (D) rq)) ∧ Fr (fun _ => False) W w') := fun W f => state_any rq HWQ.out W (HB.out.tb.same f)
                have HWT : Hid (∀ W, Fr (fun _ => False) w6 W → Calls Try.prog 18 #[.pointer (some ⟨tb, 0, none⟩)] W fun e w' => e = .returned (.int .i64 ((L2).length : Nat)) ∧ w' = W) := fun W f => waiting_any W (HB.out.tb.same f)
                clear hrt
                obtain ⟨sv, hsv⟩ : ∃ sv, sv = stN (L2) (D) rq := ⟨_, rfl⟩
                rw [← hsv] at HRS HPS
                obtain ⟨nl, hnl⟩ : ∃ nl, nl = (L2).length := ⟨_, rfl⟩
                rw [← hnl] at HCX HWT
                clear hsv hnl
                have q1 := HCX.out _ G1
                go_wp2_with fail
                go_region_held3 (fun W => W.cell? ⟨xb, 1, none⟩ = some (.int .i64 rq) ∧ W.cell? ⟨rb, 0, none⟩ = some (.slice la nl lc))
                  (first | with_reducible exact q1 | with_reducible exact q2 | with_reducible exact q3 | fail)
                  (first | (go_at_call 16; refine (HPS.out _ G1).mono ?_; rintro r w6 ⟨rfl, f6⟩; have G2 := G1.seq' f6; have q2 := HCX.out _ G2)
                         | (go_at_call 17; refine (HRS.out _ G2).mono ?_; rintro r w7 ⟨rfl, f7⟩; have G3 := G2.seq' f7; have q3 := HCX.out _ G3)
                         | (go_at_call 18; refine (HWT.out _ G3).mono ?_; rintro r w8 ⟨rfl, rfl⟩))
                all_goals
                  have HBF : Hid (Bo w _ S R2 tb rb (L2) (D) (k + 1)) := HB.out.same G3
                  clear q1 q2 q3 HCX HRS HPS HWT HNX HB
                  go_wp2
                  go_roundw
                  case rel => exact ⟨k + 1, _, _, _, _, by omega, by go_num, HBF⟩
                  case measure => simp [intOf]; omega
              · have g3' : (kd == 3) = false := by simpa using g3
                have HB : Hid (Bo w W1 S R tb rb L D (k + 1)) := HB1.out.more
                have HNX : Hid (Nums W1 xb 31 [kd, rq, ln]) := HNB
                go_upto_region 20 with fail
                rw [HW1.out, HXB.out]
                clear x0 x1 x2 c0 c1 c2 HXB HW1 HB1 HNB HNEQ

                -- the states behind a step
                obtain ⟨la, lc, da, dc, hrt⟩ := HB.out.rt
                have G1 : Fr (fun _ => False) W1 W1.drew := (Fr.refl _ W1).drew
                have HCX : Hid (∀ W, Fr (fun _ => False) W1 W → W.cell? ⟨xb, 1, none⟩ = some (.int .i64 rq) ∧ W.cell? ⟨rb, 0, none⟩ = some (.slice la (L).length lc)) := fun W f => ⟨((HNX.out.fr f (fun f => f)).at_ (k := 1) rfl).1, ((hrt.same f).two.cells).1⟩
                have HRS : Hid (∀ W, Fr (fun _ => False) W1 W → Calls Try.prog 17 #[.pointer (some ⟨rb, 0, none⟩), .int .i64 rq] W fun e w' => e = .returned (.int .i64 (stN (L) (D) rq)) ∧ Fr (fun _ => False) W w') := fun W f => by rw [← rstN_eq HB.out.dis rq]; exact rstate_any rq (hrt.same f)
                have HPS : Hid (∀ W, Fr (fun _ => False) W1 W → Calls Try.prog 16 #[.pointer (some ⟨tb, 0, none⟩), .int .i64 rq] W fun e w' => e = .returned (.int .i64 (stN (L) (D) rq)) ∧ Fr (fun _ => False) W w') := fun W f => state_any rq HWQ.out W (HB.out.tb.same f)
                have HWT : Hid (∀ W, Fr (fun _ => False) W1 W → Calls Try.prog 18 #[.pointer (some ⟨tb, 0, none⟩)] W fun e w' => e = .returned (.int .i64 ((L).length : Nat)) ∧ w' = W) := fun W f => waiting_any W (HB.out.tb.same f)
                clear hrt
                obtain ⟨sv, hsv⟩ : ∃ sv, sv = stN (L) (D) rq := ⟨_, rfl⟩
                rw [← hsv] at HRS HPS
                obtain ⟨nl, hnl⟩ : ∃ nl, nl = (L).length := ⟨_, rfl⟩
                rw [← hnl] at HCX HWT
                clear hsv hnl
                have q1 := HCX.out _ G1
                go_wp2_with fail
                go_region_held3 (fun W => W.cell? ⟨xb, 1, none⟩ = some (.int .i64 rq) ∧ W.cell? ⟨rb, 0, none⟩ = some (.slice la nl lc))
                  (first | with_reducible exact q1 | with_reducible exact q2 | with_reducible exact q3 | fail)
                  (first | (go_at_call 16; refine (HPS.out _ G1).mono ?_; rintro r w6 ⟨rfl, f6⟩; have G2 := G1.seq' f6; have q2 := HCX.out _ G2)
                         | (go_at_call 17; refine (HRS.out _ G2).mono ?_; rintro r w7 ⟨rfl, f7⟩; have G3 := G2.seq' f7; have q3 := HCX.out _ G3)
                         | (go_at_call 18; refine (HWT.out _ G3).mono ?_; rintro r w8 ⟨rfl, rfl⟩))
                all_goals
                  have HBF : Hid (Bo w _ S R tb rb (L) (D) (k + 1)) := HB.out.same G3
                  clear q1 q2 q3 HCX HRS HPS HWT HNX HB
                  go_wp2
                  go_roundw
                  case rel => exact ⟨k + 1, _, _, _, _, by omega, by go_num, HBF⟩
                  case measure => simp [intOf]; omega
      · have d1 : decide ((2000 : Int) ≤ (k : Int)) = true := by simp; omega
        have d2 : decide (2000 ≤ k) = true := by simp; omega
        have hsp := HSP.out (wr.alloc (.cells #[.int .i64 kd, .int .i64 rq, .int .i64 ln] 31))
        have HFW : Hid (Fr (fun _ => False) w (wr.alloc (.cells #[.int .i64 kd, .int .i64 rq, .int .i64 ln] 31))) := hB1.fr
        clear HBO hB1 F0 hc hr NB hwq
        go_wp2_with (go_at_call 19; refine hsp.mono ?_; rintro e w9 ⟨rfl, f9⟩)
        go_ret
        exact ⟨rfl, HFW.out.seq' f9⟩
    · have hke : k = len1 := by omega
      subst hke
      have hsp := HSP.out wr
      have HFW : Hid (Fr (fun _ => False) w wr) := HBO.out.fr
      clear HBO
      go_wp2_with (go_at_call 19; refine hsp.mono ?_; rintro e w9 ⟨rfl, f9⟩)
      go_ret
      exact ⟨rfl, HFW.out.seq' f9⟩

set_option maxRecDepth 100000 in
theorem lifted (os : Os) (started : os.Started) (H : Type) (enc : TypeId × Value → H) :
    ReturnsInHanded {} Try.checked os 3 .any (Rows.sessionTablesSpec.pre6 enc Try.prog Try.f3 Rows.sessionTablesRow.domain false) (Rows.sessionTablesSpec.post enc Try.prog Try.f3 false true false false) := by
  refine returnsInHanded_of_change_sized (C := Try.checked) own started (by kernel_rfl) Try.func3
    (ChangeSpec.witness6 (enc := enc) (C := Try.checked) false ⟨#[], #[.slice none 0 0], []⟩ 8 (by kernel_rfl) (by kernel_rfl) (by kernel_rfl) (by kernel_rfl)) ?_
  intro W base args ds gs before hval0 hW hcnd hsz0 _
  have hsz : (DataW.weightsEach Try.prog (Try.f3.params.toList ++ Rows.sessionTablesSpec.plain.varTypes Try.prog) (ds ++ gs)).all (· ≤ reachBytes) = true := hsz0
  clear hsz0
  have hval : ∀ (j : Nat) t v, Try.f3.params[j]? = some t → args[j]? = some v → Value.okWide Try.prog W .any base t v := hval0
  have hW' := hW
  obtain ⟨p, q, hA0, hV, rfl, hfz, hnd⟩ := hW
  have hA : DataW.TrodAll enc Try.prog W 0 (fun _ => true) true Try.f3.params.toList args.toList ds p := hA0
  rw [Try.params3] at hA hval hsz
  obtain ⟨v0, vs0, d0, ds0, p0, q0, hargs, rfl, rfl, h0, r0⟩ := trodAll_cons hA
  obtain ⟨rfl, rfl, rfl⟩ := trodAll_nil r0
  obtain rfl : args = #[v0] := by cases args; simp_all
  obtain ⟨rfl, rfl⟩ := trodVars_none hV
  obtain ⟨a0, len0, cap0, rfl⟩ := okWide_slice Try.underlying22 (hval 0 22 v0 rfl rfl)
  have k0 := h0
  have lt0 : ∀ x ∈ p0, x.block < W.heap.size := by obtain ⟨m, hm⟩ := k0; exact DataW.trod_lt m _ _ _ hm
  have wz0 : ∀ z ∈ d0.weights Try.prog 22, z ≤ reachBytes := fun z hz => by simpa using List.all_eq_true.1 hsz z (DataW.weights_mem_each (j := 0) rfl rfl z hz)
  obtain ⟨rs0, hl0, hb0, hr0⟩ : ∃ rs : List (List Int), len0 = rs.length ∧ rs.length * (8 * 3) ≤ 140737488351232 ∧ Rws W a0 cap0 3 rs := by
    obtain ⟨fuel, hf⟩ := h0
    exact rws_open Try.underlying22 cellsS24 (by decide) bytesS24 st24_ints hf wz0
  clear hA0 hval0
  refine (walk W a0 len0 cap0 rs0 hl0 hb0 hr0).mono fun e W' ⟨he, fr⟩ => ?_
  have bel : Below W.heap.size W W' := fr.below (Nat.le_refl _) (fun _ f => f.elim)
  subst he
  exact ⟨_, rfl, _, _, _, [], _, [], hW', trodAll_mk1 (shut_bool Try.underlying4 _), (trodAll_cons_mk (Below.trod laidOut (by kernel_rfl) (of_decide_eq_true (by kernel_rfl)) k0 bel lt0) trodAll_mk0), rfl, bel.frame _, fun h => by cases h⟩

theorem proved : Rows.SessionTablesSaid :=
  OpenClaim.holds_of_wide 3 Try.f3 rfl rfl rfl rfl rfl rfl rfl ⟨rfl, rfl, rfl, rfl, rfl⟩ rfl rfl rfl rfl rfl (by kernel_rfl) Try.func3 (by kernel_rfl)
    (of_decide_eq_true (by kernel_rfl)) (by unfold Func.isWrapper; first | (rw [if_pos (by decide +kernel)]; kernel_rfl) | (rw [if_neg (by decide +kernel)]; exact ⟨rfl, rfl⟩))
    (fun os started H enc _ => lifted os started H enc)
end Go.Proofs.Ytfmjefmocenkbaa.sessionTables
namespace Go.Proofs.Ytfmjefmocenkbaa
theorem sessionTables_holds : Rows.SessionTablesSaid := sessionTables.proved
#print axioms sessionTables_holds
end Go.Proofs.Ytfmjefmocenkbaa
