
/- Of up to seven nodes, any events of theirs (at most 400 of them) and any ends of their logs, in each epoch at most one tally is won, and the example speaks; with no condition but those of the statement's own form. -/
import Derived.Test.YtbfkacahaocpfaaArgs
import Derived.Test.YtbfkacahaocpfaaVwMem
import Derived.Deep.RegionHeld3
import Derived.Deep.RegionWith
import Derived.Deep.CutBlock
import Derived.Deep.QuietTactic
import Derived.BigQuiet
namespace Go.Proofs.Ytbfkacahaocpfaa.voteWinner
open Go.ChangeShapes Go.WideShapes Go.ChangeAt Go.RowKit
open Go.ChangeMaps (open_string shut_string)
set_option linter.unusedVariables false

theorem own : ownKnob Try.prog.godebug = none := by kernel_rfl
theorem laidOut : laidOutB Try.prog = true := by kernel_rfl
theorem bytes8 : Try.prog.bytesOf 5 = 1 := by kernel_rfl

open Go.RowKit
open Go.Proofs.Ytbfkacahaocpfaa.Qu
set_option maxRecDepth 100000 in
set_option maxHeartbeats 64000000 in
theorem walk (w : World) (n0 : Int) (_ : (Lit.int .i64 n0).wf = true) (a1 : Option Addr) (len1 cap1 : Nat) (rs : List (List Int)) (hl1 : len1 = rs.length) (_ : rs.length * (8 * 3) ≤ 140737488351232) (hr1 : Rws w a1 cap1 3 rs) (a2 : Option Addr) (len2 cap2 : Nat) (ms : List (List Int)) (hl2 : len2 = ms.length) (_ : ms.length * (8 * 2) ≤ 140737488351232) (hr2 : Rws w a2 cap2 2 ms) :
    Calls Try.prog 6 #[.int .i64 n0, .slice a1 len1 cap1, .slice a2 len2 cap2] w fun e w' => e = .returned (.bool true) ∧ Fr (fun _ => False) w w' := by
  have HSP : Hid (∀ W, Calls Try.prog 14 #[] W fun e w' => e = .returned (.bool true) ∧ Fr (fun _ => False) W w') := vtspk_any
  have hle := hr1.le
  have hmx := hr1.max
  have hle2 := hr2.le
  have hmx2 := hr2.max
  rw [← hl1] at hle
  rw [← hl2] at hle2
  have HS : Hid (∀ W, Fr (fun _ => False) w W → Rws W a1 cap1 3 rs) := fun W f => hr1.same f
  have HL : Hid (len1 = rs.length) := hl1
  have HFIT : Hid (∀ r ∈ rs, r.length = 3) := fun r h => (hr1.fit r h).1
  have HS2 : Hid (∀ W, Fr (fun _ => False) w W → Rws W a2 cap2 2 ms) := fun W f => hr2.same f
  have HL2 : Hid (len2 = ms.length) := hl2
  have HFIT2 : Hid (∀ r ∈ ms, r.length = 2) := fun r h => (hr2.fit r h).1
  clear hl1 hr1 hl2 hr2
  by_cases g1 : n0 < 1
  · go_enter Try.func6, Try.ntmps6
    go_wp2_with fail
    refine (HSP.out _).mono ?_
    rintro r w4 ⟨rfl, f4⟩
    go_wp2
    go_ret
    exact ⟨rfl, f4⟩
  have g1' : decide (n0 < 1) = false := by simpa using g1
  by_cases g2 : 7 < n0
  · go_enter Try.func6, Try.ntmps6
    go_wp2_with fail
    refine (HSP.out _).mono ?_
    rintro r w4 ⟨rfl, f4⟩
    go_wp2
    go_ret
    exact ⟨rfl, f4⟩
  have g2' : decide (7 < n0) = false := by simpa using g2
  by_cases g3 : 400 < len1
  · have g3' : (400 : Int) < (len1 : Int) := by omega
    go_enter Try.func6, Try.ntmps6
    go_wp2_with fail
    refine (HSP.out _).mono ?_
    rintro r w4 ⟨rfl, f4⟩
    go_wp2
    go_ret
    exact ⟨rfl, f4⟩
  have g3' : decide ((400 : Int) < (len1 : Int)) = false := by simp; omega
  have g3'' : decide (400 < len1) = false := by simp; omega
  obtain ⟨n, rfl⟩ : ∃ n : Nat, n0 = n := ⟨n0.toNat, by omega⟩
  have hn1 : 1 ≤ n := by omega
  have hn7 : n ≤ 7 := by omega
  have ms0 := Mem.start w (fun _ => 0) n
  obtain ⟨A, hA⟩ : ∃ A, A = w.heap.size := ⟨_, rfl⟩
  obtain ⟨W0, hW0⟩ : ∃ W, W = ((w.alloc (.cells #[.pointer none, .pointer none, .pointer none, .pointer none, .pointer none, .pointer none, .pointer none] 65)).alloc (.cells #[.pointer none, .pointer none, .pointer none, .pointer none, .pointer none, .pointer none, .pointer none] 67)).alloc (.cells #[.int .i64 0, .int .i64 0, .int .i64 0, .int .i64 0, .int .i64 0, .int .i64 0, .int .i64 0, .int .i64 0, .int .i64 0, .int .i64 0, .int .i64 0, .int .i64 0, .int .i64 0, .int .i64 0] 68) := ⟨_, rfl⟩
  have F0 : Fr (fun _ => False) w W0 := by rw [hW0]; exact ((Fr.box _ _).seq' (Fr.box _ _)).seq' (Fr.box _ _)
  rw [← hW0] at ms0
  have HW0 : Hid (((w.alloc (.cells #[.pointer none, .pointer none, .pointer none, .pointer none, .pointer none, .pointer none, .pointer none] 65)).alloc (.cells #[.pointer none, .pointer none, .pointer none, .pointer none, .pointer none, .pointer none, .pointer none] 67)).alloc (.cells #[.int .i64 0, .int .i64 0, .int .i64 0, .int .i64 0, .int .i64 0, .int .i64 0, .int .i64 0, .int .i64 0, .int .i64 0, .int .i64 0, .int .i64 0, .int .i64 0, .int .i64 0, .int .i64 0] 68) = W0) := hW0.symm
  have HM0 : Hid (Mem A W0 A (A + 1) (A + 1 + 1) n 0 ⟨fun _ => 0, fun _ => 0, fun _ => -1, fun _ => none, fun _ => 0, fun _ => 0⟩ (fun _ => (0, 0)) (.slice none 0 0) []) := by rw [hA]; exact ms0
  have HA : Hid (w.heap.size = A) := hA.symm
  have HF0 : Hid (Fr (fun _ => False) w W0) := F0
  clear ms0 hA hW0 F0
  go_enter Try.func6, Try.ntmps6
  go_upto_region 6 with fail
  rw [HW0.out, HA.out]
  go_wp2
  go_loopw [10] (fun i wr => ∃ (k : Nat) (vb : Nat → Nat) (en : Nat → Int × Int), k ≤ n ∧ i = .int .i64 k ∧ Hid (Mem A wr A (A + 1) (A + 1 + 1) n k ⟨vb, fun _ => 0, fun _ => -1, fun _ => none, fun _ => 0, fun _ => 0⟩ en (.slice none 0 0) []) ∧ Hid (Fr (fun _ => False) w wr)) (fun i _ => n - (intOf i).toNat)
  case atStart => exact ⟨0, fun _ => 0, fun _ => (0, 0), by omega, rfl, HM0, HF0⟩
  case round =>
    obtain ⟨k, vb, en, hk, rfl, HM, HFW⟩ := hrel
    by_cases hlt : k < n
    · have hnew := vnew_yes 0 (-1) (by decide) wr
      go_wp2_with fail
      refine hnew.mono ?_
      rintro r w1 ⟨b, rfl, hb, hvt, f1⟩
      have HM1 := HM.out.same f1
      obtain ⟨v0, x0, x1⟩ := HM1.vx (i := k) (by omega)
      have hl := HM.out.ltA
      have HM2 := HM1.newv (by omega) (b := b) (e := 0) (f' := -1) ⟨rfl, rfl, rfl⟩ hvt (by have := HFW.out.size; have := HA.out; omega) (by omega) (fun j hj e => by have := Two.lt (HM.out.vt j hj); omega) (fun j hj e => by cases e) (fun q hq => by cases hq)
      have HFS : Hid (Fr (fun _ => False) w (w1.setCell ⟨A, k, none⟩ (.pointer (some ⟨b, 0, none⟩)))) := (HFW.out.seq' f1).trans ((Fr.refl (fun i => i = A) w1).setCell (p := ⟨A, k, none⟩) (fun _ => rfl) _) (fun i hi e => by have := HA.out; omega)
      have HM2' : Hid (Mem A (w1.setCell ⟨A, k, none⟩ (.pointer (some ⟨b, 0, none⟩))) A (A + 1) (A + 1 + 1) n (k + 1) ⟨upd vb k b, fun _ => 0, fun _ => -1, fun _ => none, fun _ => 0, fun _ => 0⟩ en (.slice none 0 0) []) := HM2
      clear HM1 HM2 hl hvt hb f1
      go_upto_region 13 with fail
      generalize w1.setCell ⟨A, k, none⟩ (.pointer (some ⟨b, 0, none⟩)) = W2 at *
      clear x0 x1 hnew
      by_cases hk2 : k < len2
      · have hk2' : (k : Int) < (len2 : Int) := by omega
        obtain ⟨row, hrow⟩ : ∃ r, ms[k]? = some r := ⟨_, List.getElem?_eq_getElem (by have := HL2.out; omega)⟩
        have hl2' := HFIT2.out row (List.mem_of_getElem? hrow)
        obtain ⟨b2, off2, rfl, hb2, hc2⟩ := (HS2.out _ HFS.out).some (by have := HL2.out; omega)
        match row, hl2' with
        | [mx, my], _ =>
        have c0 := hc2 k _ hrow 0 _ rfl
        have c1 := hc2 k _ hrow 1 _ rfl
        rw [Nat.add_zero] at c0
        obtain ⟨y0, y1, y2, y3⟩ := HM2'.out.ea (i := k) (by omega)
        have HM3 : Hid (Mem A ((W2.setCell ⟨A + 1 + 1, k * 2, none⟩ (.int .i64 mx)).setCell ⟨A + 1 + 1, k * 2 + 1, none⟩ (.int .i64 my)) A (A + 1) (A + 1 + 1) n (k + 1) ⟨upd vb k b, fun _ => 0, fun _ => -1, fun _ => none, fun _ => 0, fun _ => 0⟩ (upd en k (mx, my)) (.slice none 0 0) []) := HM2'.out.ends (by omega) mx my
        have HF3 : Hid (Fr (fun _ => False) w ((W2.setCell ⟨A + 1 + 1, k * 2, none⟩ (.int .i64 mx)).setCell ⟨A + 1 + 1, k * 2 + 1, none⟩ (.int .i64 my))) := HFS.out.trans (((Fr.refl (fun i => i = A + 1 + 1) W2).setCell (p := ⟨A + 1 + 1, k * 2, none⟩) (fun _ => rfl) _).setCell (p := ⟨A + 1 + 1, k * 2 + 1, none⟩) (fun _ => rfl) _) (fun i hi e => by have := HA.out; omega)
        clear hrow hc2 hl2' HM2' HFS
        go_wp2
        exact ⟨⟨k + 1, _, _, by omega, by simp, HM3, HF3⟩, by simp [intOf]; omega⟩
      · have hk2' : decide ((k : Int) < (len2 : Int)) = false := by simp; omega
        go_wp2
        exact ⟨⟨k + 1, _, _, by omega, by simp, HM2', HFS⟩, by simp [intOf]; omega⟩
    · have hkn : k = n := by omega
      subst hkn
      have HI0 : Hid (Inv k ⟨vb, fun _ => 0, fun _ => -1, fun _ => none, fun _ => 0, fun _ => 0⟩ (fun _ _ => none) 0 []) := Inv.start k vb
      go_wp2
      go_loopw [13, 67] (fun gv i wr => ∃ (q : Nat) (S : Sx) (V : Vf) (won : List (Int × Int)), q ≤ len1 ∧ won.length ≤ q ∧ i = .int .i64 q ∧ Hid (Inv k S V q won) ∧ Hid (Mem A wr A (A + 1) (A + 1 + 1) k k S en gv won) ∧ Hid (Fr (fun _ => False) w wr)) (fun _ i _ => len1 - (intOf i).toNat)
      case atStart => exact ⟨0, _, _, [], by omega, by simp, rfl, HI0, HM, HFW⟩
      case round =>
        obtain ⟨q, S, V, won, hq, hwq, rfl, HI, HMM, HFR⟩ := hrel
        by_cases hlq : q < len1
        · obtain ⟨row, hrow⟩ : ∃ r, rs[q]? = some r := ⟨_, List.getElem?_eq_getElem (by have := HL.out; omega)⟩
          have hl3 := HFIT.out row (List.mem_of_getElem? hrow)
          obtain ⟨b, off, rfl, hb, hc⟩ := (HS.out _ HFR.out).some (by have := HL.out; omega)
          obtain ⟨ga, gc, rfl, hg1, hg2⟩ := HMM.out.wn.slice
          match row, hl3 with
          | [kd, who0, whom0], _ =>
          have c0 := hc q _ hrow 0 _ rfl
          have c1 := hc q _ hrow 1 _ rfl
          have c2 := hc q _ hrow 2 _ rfl
          rw [Nat.add_zero] at c0
          obtain ⟨W1, hW1⟩ : ∃ W, W = wr.alloc (.cells #[.int .i64 kd, .int .i64 who0, .int .i64 whom0] 70) := ⟨_, rfl⟩
          obtain ⟨sb, hsb⟩ : ∃ sb, sb = wr.heap.size := ⟨_, rfl⟩
          have B1 := Blk.new wr #[.int .i64 kd, .int .i64 who0, .int .i64 whom0] 70
          have G := Fr.box wr (.cells #[.int .i64 kd, .int .i64 who0, .int .i64 whom0] 70)
          rw [← hW1] at B1 G
          rw [← hsb] at B1
          have HSB2 : Hid (A ≤ sb ∧ sb ≠ A ∧ sb ≠ A + 1 ∧ sb ≠ A + 1 + 1 ∧ (∀ j, j < k → S.vb j ≠ sb) ∧ (∀ j, j < k → S.tp j ≠ some sb)) := by
            have hl := HMM.out.ltA
            have h2 := HFR.out.size
            have h3 := HA.out
            exact ⟨by omega, by omega, by omega, by omega, fun j hj e => by have := Two.lt (HMM.out.vt j hj); omega, fun j hj e => by have := Thr.lt (HMM.out.tt j hj _ e); omega⟩
          have HGS0 : Hid ((Value.slice ga won.length gc).ownBlock ≠ some sb) := fun e => by have := HMM.out.wn.lt e; omega
          have HM1 : Hid (Mem A W1 A (A + 1) (A + 1 + 1) k k S en (.slice ga won.length gc) won) := HMM.out.same G
          have HF1 : Hid (Fr (fun _ => False) w W1) := HFR.out.seq' G
          have HB1 : Hid (Blk W1 sb #[.int .i64 kd, .int .i64 who0, .int .i64 whom0] 70) := B1
          have HW1 : Hid (wr.alloc (.cells #[.int .i64 kd, .int .i64 who0, .int .i64 whom0] 70) = W1) := hW1.symm
          have HSB : Hid (wr.heap.size = sb) := hsb.symm
          clear hrow hc B1 G hW1 hsb hl3 HMM HFR
          go_upto_region 19 with fail
          rw [HW1.out, HSB.out]
          clear c0 c1 c2 HW1 HSB
          have j0 : W1.cell? ⟨sb, 0, none⟩ = some (.int .i64 kd) := HB1.out.cell rfl
          have j1 : W1.cell? ⟨sb, 1, none⟩ = some (.int .i64 who0) := HB1.out.cell rfl
          have j2 : W1.cell? ⟨sb, 2, none⟩ = some (.int .i64 whom0) := HB1.out.cell rfl
          have HI1 : Hid (Inv k S V ((q : Int) + 1) won) := HI.out.next (by omega)
          by_cases z1 : who0 < 0
          · go_wp2
            exact ⟨⟨q + 1, S, V, won, by omega, by omega, by simp, HI1, HM1, HF1⟩, by simp [intOf]; omega⟩
          have z1' : decide (who0 < 0) = false := by simpa using z1
          by_cases z2 : (k : Int) ≤ who0
          · go_wp2
            exact ⟨⟨q + 1, S, V, won, by omega, by omega, by simp, HI1, HM1, HF1⟩, by simp [intOf]; omega⟩
          have z2' : decide ((k : Int) ≤ who0) = false := by simpa using z2
          by_cases z3 : whom0 < 0
          · go_wp2
            exact ⟨⟨q + 1, S, V, won, by omega, by omega, by simp, HI1, HM1, HF1⟩, by simp [intOf]; omega⟩
          have z3' : decide (whom0 < 0) = false := by simpa using z3
          by_cases z4 : (k : Int) ≤ whom0
          · go_wp2
            exact ⟨⟨q + 1, S, V, won, by omega, by omega, by simp, HI1, HM1, HF1⟩, by simp [intOf]; omega⟩
          have z4' : decide ((k : Int) ≤ whom0) = false := by simpa using z4
          obtain ⟨who, rfl⟩ : ∃ m : Nat, who0 = m := ⟨who0.toNat, by omega⟩
          obtain ⟨whom, rfl⟩ : ∃ m : Nat, whom0 = m := ⟨whom0.toNat, by omega⟩
          have hw : who < k := by omega
          have hm : whom < k := by omega
          have hw7 : who < 7 := by omega
          have hm7 : whom < 7 := by omega
          have hw7' : (who : Int) < 7 := by omega
          have hm7' : (whom : Int) < 7 := by omega
          go_upto_if 93 with fail
          go_cut [20] (fun _ wc => ∃ (S' : Sx) (V' : Vf), Hid (Inv k S' V' ((q : Int) + 1) won) ∧ Hid (Mem A wc A (A + 1) (A + 1 + 1) k k S' en (.slice ga won.length gc) won) ∧ Hid (Blk wc sb #[.int .i64 kd, .int .i64 who, .int .i64 whom] 70) ∧ Hid (Fr (fun _ => False) w wc))
          case first =>
            by_cases g0 : kd = 0
            · have hkd : kd = 0 := g0
              obtain ⟨hrg, hek⟩ := HI.out.rg who hw
              obtain ⟨he0, _, _, _⟩ := rgt_iff hrg
              have hst : stE (S.e who) who = 0 := by
                unfold stE
                rw [if_pos (by simp [nodB]; omega), if_neg (by omega)]
              have HST : Hid (∀ W, Vt W (S.vb who) (S.e who) (S.f who) → Calls Try.prog 21 #[.pointer (some ⟨S.vb who, 0, none⟩), .int .i64 who] W fun r w' => r = .returned (.tuple #[.int .i64 (S.e who + 1), .int .i64 0]) ∧ VtTo W (S.vb who) (S.e who + 1) who w') := fun W hv => by
                have := stand_any (S.vb who) (S.e who) (S.f who) who W hv hrg
                rw [show stN (S.e who) who = S.e who + 1 by unfold stN; rw [if_pos hst], hst] at this
                exact this
              have hwe := withE_ok hn1 hn7 (sB_zero k) hw
              have HCT : Hid (∀ W : World, Calls Try.prog 24 #[.int .i64 k, .int .i64 (S.e who + 1), .int .i64 who] W fun r w' => ∃ b, r = .returned (.tuple #[.pointer (some ⟨b, 0, none⟩), .int .i64 0]) ∧ W.heap.size ≤ b ∧ Ta w' b k (S.e who + 1) (withN 0 who) ∧ Fr (fun _ => False) W w') := fun W => by
                have := count_yes k (S.e who + 1) who hwe.1 (by simp [epB]; omega) W
                rw [hwe.2] at this
                exact this
              have HIN : Hid (∀ b, Inv k (standS S who b) (vot V who (S.e who + 1) who) ((q : Int) + 1) won) := fun b => HI.out.stand hn7 (by omega) hw b
              subst hkd
              clear hwe hst hrg hek he0
              go_wp2_with fail
              have G1 : Fr (fun _ => False) W1 W1.drew := (Fr.refl _ W1).drew
              have q1 : W1.drew.cell? ⟨sb, 1, none⟩ = some (.int .i64 who) ∧ W1.drew.cell? ⟨A, who, none⟩ = some (.pointer (some ⟨S.vb who, 0, none⟩)) := ⟨(HB1.out.fr G1 (fun f => f)).cell rfl, ((HM1.out.same G1).va hw).1⟩
              have r1 := HST.out W1.drew ((HM1.out.same G1).vt who hw)
              go_region_held3 (fun W => W.cell? ⟨sb, 1, none⟩ = some (.int .i64 who) ∧ W.cell? ⟨A, who, none⟩ = some (.pointer (some ⟨S.vb who, 0, none⟩)))
                (first | with_reducible exact q1 | with_reducible exact q2 | fail)
                (first | (go_at_call 21; refine r1.mono ?_; rintro r w2 ⟨rfl, t2⟩; clear r1; have HM2 := (HM1.out.same G1).ask hw t2; have B2 := (HB1.out.fr G1 (fun f => f)).fr t2.2 (fun e => HSB2.out.2.2.2.2.1 who hw e.symm); have q2 : w2.cell? ⟨sb, 1, none⟩ = some (.int .i64 who) ∧ w2.cell? ⟨A, who, none⟩ = some (.pointer (some ⟨S.vb who, 0, none⟩)) := ⟨B2.cell rfl, (HM2.va hw).1⟩))
              have HM2' : Hid (Mem A w2 A (A + 1) (A + 1 + 1) k k (askS S who (S.e who + 1) who) en (.slice ga won.length gc) won) := HM2
              have HB2 : Hid (Blk w2 sb #[.int .i64 0, .int .i64 who, .int .i64 whom] 70) := B2
              have HF2 : Hid (Fr (fun _ => False) w w2) := (HF1.out.seq' G1).trans t2.2 (fun i hi e => by have := (HM1.out.vo who hw).1; have := HA.out; omega)
              have j1' := q2.1
              clear q1 q2 HM2 B2 t2 G1 j0 j1 j2
              go_wp2_with fail
              refine (HCT.out _).mono ?_
              rintro r w3 ⟨tb, rfl, htb, hta, f3⟩
              have HM3 := HM2'.out.same f3
              have HB3 : Hid (Blk w3 sb #[.int .i64 0, .int .i64 who, .int .i64 whom] 70) := HB2.out.fr f3 (fun f => f)
              have j1'' : w3.cell? ⟨sb, 1, none⟩ = some (.int .i64 who) := HB3.out.cell rfl
              obtain ⟨t0, t1⟩ := HM3.ta (i := who) (by omega)
              have hlA := HM2'.out.ltA
              have HM4 : Hid (Mem A (w3.setCell ⟨A + 1, who, none⟩ (.pointer (some ⟨tb, 0, none⟩))) A (A + 1) (A + 1 + 1) k k (standS S who tb) en (.slice ga won.length gc) won) := HM3.put hn7 hw hta (by have := HF2.out.size; have := HA.out; omega) (by omega) (fun j hj e => by have := Two.lt (HM2'.out.vt j hj); rw [e] at this; omega) (fun j hj e => by have := Thr.lt (HM2'.out.tt j hj _ e); omega) (fun q hq e => by have := HM2'.out.wn.lt hq; omega)
              have HF4 : Hid (Fr (fun _ => False) w (w3.setCell ⟨A + 1, who, none⟩ (.pointer (some ⟨tb, 0, none⟩)))) := (HF2.out.seq' f3).trans ((Fr.refl (fun i => i = A + 1) w3).setCell (p := ⟨A + 1, who, none⟩) (fun _ => rfl) _) (fun i hi e => by have := HA.out; omega)
              have HB4 : Hid (Blk (w3.setCell ⟨A + 1, who, none⟩ (.pointer (some ⟨tb, 0, none⟩))) sb #[.int .i64 0, .int .i64 who, .int .i64 whom] 70) := HB3.out.fr ((Fr.refl (fun i => i = A + 1) w3).setCell (p := ⟨A + 1, who, none⟩) (fun _ => rfl) _) (fun e => HSB2.out.2.2.1 e)
              clear j1' HM3 htb hta f3 hlA
              go_wp2
              go_meet
              exact ⟨_, _, HIN.out tb, HM4, HB4, HF4⟩
            · have g0' : (kd == 0) = false := by simpa using g0
              obtain ⟨t0, t1⟩ := HM1.out.ta (i := who) (by omega)
              cases htp : S.tp who with
              | none =>
                rw [htp] at t0
                have t0' : W1.cell? ⟨A + 1, who, none⟩ = some (.pointer none) := t0
                clear t0
                go_wp2
                go_meet
                exact ⟨S, V, HI1, HM1, HB1, HF1⟩
              | some tb =>
                rw [htp] at t0
                have t0' : W1.cell? ⟨A + 1, who, none⟩ = some (.pointer (some ⟨tb, 0, none⟩)) := t0
                clear t0
                have HTP : Hid (S.tp who = some tb) := htp
                clear htp
                go_wp2_with fail
                refine (epoch_any tb k (S.te who) (S.ts who) _ (HM1.out.tt who hw tb HTP.out)).mono ?_
                rintro r w2 ⟨rfl, rfl⟩
                have G1 : Fr (fun _ => False) w2 w2.drew := (Fr.refl _ w2).drew
                have HQ : Hid (∀ W, Mem A W A (A + 1) (A + 1 + 1) k k S en (.slice ga won.length gc) won → Blk W sb #[.int .i64 kd, .int .i64 who, .int .i64 whom] 70 → (W.cell? ⟨sb, 1, none⟩ = some (.int .i64 who) ∧ W.cell? ⟨sb, 2, none⟩ = some (.int .i64 whom)) ∧ W.cell? ⟨A, whom, none⟩ = some (.pointer (some ⟨S.vb whom, 0, none⟩)) ∧ (W.cell? ⟨A + 1 + 1, who * 2, none⟩ = some (.int .i64 (en who).1) ∧ W.cell? ⟨A + 1 + 1, who * 2 + 1, none⟩ = some (.int .i64 (en who).2)) ∧ (W.cell? ⟨A + 1 + 1, whom * 2, none⟩ = some (.int .i64 (en whom).1) ∧ W.cell? ⟨A + 1 + 1, whom * 2 + 1, none⟩ = some (.int .i64 (en whom).2))) := fun W hM hB =>
                  ⟨⟨hB.cell rfl, hB.cell rfl⟩, (hM.va hm).1, ⟨(hM.ea (i := who) (by omega)).1, (hM.ea (i := who) (by omega)).2.1⟩, ⟨(hM.ea (i := whom) (by omega)).1, (hM.ea (i := whom) (by omega)).2.1⟩⟩
                have q1 := HQ.out _ (HM1.out.same G1) (HB1.out.fr G1 (fun f => f))
                have r1 := ask_any (S.vb whom) (S.e whom) (S.f whom) who (S.te who) (en who).1 (en who).2 (en whom).1 (en whom).2 w2.drew ((HM1.out.same G1).vt whom hm)
                go_wp2_with fail
                go_region_held3 (fun W => (W.cell? ⟨sb, 1, none⟩ = some (.int .i64 who) ∧ W.cell? ⟨sb, 2, none⟩ = some (.int .i64 whom)) ∧ W.cell? ⟨A, whom, none⟩ = some (.pointer (some ⟨S.vb whom, 0, none⟩)) ∧ (W.cell? ⟨A + 1 + 1, who * 2, none⟩ = some (.int .i64 (en who).1) ∧ W.cell? ⟨A + 1 + 1, who * 2 + 1, none⟩ = some (.int .i64 (en who).2)) ∧ (W.cell? ⟨A + 1 + 1, whom * 2, none⟩ = some (.int .i64 (en whom).1) ∧ W.cell? ⟨A + 1 + 1, whom * 2 + 1, none⟩ = some (.int .i64 (en whom).2)))
                  (first | with_reducible exact q1 | with_reducible exact q2 | fail)
                  (first | (go_at_call 17; refine r1.mono ?_; rintro r w3 ⟨rfl, t3⟩; clear r1; have HM3 := (HM1.out.same G1).ask hm t3; have B3 := (HB1.out.fr G1 (fun f => f)).fr t3.2 (fun e => HSB2.out.2.2.2.2.1 whom hm e.symm); have q2 : (w3.cell? ⟨sb, 1, none⟩ = some (.int .i64 who) ∧ w3.cell? ⟨sb, 2, none⟩ = some (.int .i64 whom)) ∧ w3.cell? ⟨A, whom, none⟩ = some (.pointer (some ⟨S.vb whom, 0, none⟩)) ∧ (w3.cell? ⟨A + 1 + 1, who * 2, none⟩ = some (.int .i64 (en who).1) ∧ w3.cell? ⟨A + 1 + 1, who * 2 + 1, none⟩ = some (.int .i64 (en who).2)) ∧ (w3.cell? ⟨A + 1 + 1, whom * 2, none⟩ = some (.int .i64 (en whom).1) ∧ w3.cell? ⟨A + 1 + 1, whom * 2 + 1, none⟩ = some (.int .i64 (en whom).2)) := ⟨⟨B3.cell rfl, B3.cell rfl⟩, (HM3.va hm).1, ⟨(HM3.ea (i := who) (by omega)).1, (HM3.ea (i := who) (by omega)).2.1⟩, ⟨(HM3.ea (i := whom) (by omega)).1, (HM3.ea (i := whom) (by omega)).2.1⟩⟩))
                have HM3' : Hid (Mem A w3 A (A + 1) (A + 1 + 1) k k (askS S whom (askE (S.e whom) who (S.te who)) (askF (S.e whom) (S.f whom) who (S.te who) ((en who).1, (en who).2) ((en whom).1, (en whom).2))) en (.slice ga won.length gc) won) := HM3
                have HB3 : Hid (Blk w3 sb #[.int .i64 kd, .int .i64 who, .int .i64 whom] 70) := B3
                have HF3 : Hid (Fr (fun _ => False) w w3) := (HF1.out.seq' G1).trans t3.2 (fun i hi e => by have := (HM1.out.vo whom hm).1; have := HA.out; omega)
                clear q1 q2 HM3 B3 t3 G1 HQ j0 j1 j2 t0' t1
                cases hab : askB (S.e whom) (S.f whom) who (S.te who) ((en who).1, (en who).2) ((en whom).1, (en whom).2) with
                | false =>
                  have HIN : Hid (Inv k (askS S whom (askE (S.e whom) who (S.te who)) (askF (S.e whom) (S.f whom) who (S.te who) ((en who).1, (en who).2) ((en whom).1, (en whom).2))) V ((q : Int) + 1) won) := HI1.out.askNo hn7 hw hm (HI1.out.t who hw (by rw [HTP.out]; simp)).2.1 hab
                  clear hab
                  go_wp2
                  go_meet
                  exact ⟨_, _, HIN, HM3', HB3, HF3⟩
                | true =>
                  obtain ⟨_, _, hsb3, _⟩ := HI1.out.t who hw (by rw [HTP.out]; simp)
                  have HIN := HI1.out.askYes hn7 hw hm (by rw [HTP.out]; simp) hab
                  obtain ⟨S3, hS3⟩ : ∃ X, X = askS S whom (askE (S.e whom) who (S.te who)) (askF (S.e whom) (S.f whom) who (S.te who) ((en who).1, (en who).2) ((en whom).1, (en whom).2)) := ⟨_, rfl⟩
                  have hS3t : S3.tp = S.tp ∧ S3.te = S.te ∧ S3.ts = S.ts := by rw [hS3]; exact ⟨rfl, rfl, rfl⟩
                  rw [← hS3] at HM3' HIN
                  have HINH : Hid (Inv k (addS S3 who (withN (S.ts who) whom)) (vot V whom (S.te who) who) ((q : Int) + 1) won) := HIN
                  have hwe := withE_ok hn1 hn7 hsb3 hm
                  have HTP3 : Hid (S3.tp who = some tb) := by show _ = _; rw [hS3t.1]; exact HTP.out
                  have HTV : Hid (∀ W, Ta W tb k (S3.te who) (S3.ts who) → Calls Try.prog 26 #[.pointer (some ⟨tb, 0, none⟩), .int .i64 whom, .int .i64 (S.te who)] W fun r w' => r = .returned (.bool true) ∧ Ta w' tb k (S3.te who) (withN (S.ts who) whom) ∧ Fr (fun i => i = tb) W w') := fun W h => by
                    rw [hS3t.2.1, hS3t.2.2] at h
                    have := tvote_any tb k (S.te who) (S.ts who) whom (S.te who) W h
                    have e1 : tvB k (S.te who) (S.ts who) whom (S.te who) = true := by simp [tvB, hwe.1]
                    rw [show tvS k (S.te who) (S.ts who) whom (S.te who) = withN (S.ts who) whom by unfold tvS; rw [if_pos e1, hwe.2], e1] at this
                    rw [hS3t.2.1]
                    exact this
                  clear hab HIN hwe hsb3 hS3 hS3t HI HI1 HM1 HB1 HF1
                  go_upto_region 29 with fail
                  have G1 : Fr (fun _ => False) w3 w3.drew := (Fr.refl _ w3).drew
                  have hta := ((HM3'.out.same G1).ta (i := who) (by omega)).1
                  rw [HTP3.out] at hta
                  have q1 : (w3.drew.cell? ⟨sb, 1, none⟩ = some (.int .i64 who) ∧ w3.drew.cell? ⟨sb, 2, none⟩ = some (.int .i64 whom)) ∧ w3.drew.cell? ⟨A + 1, who, none⟩ = some (.pointer (some ⟨tb, 0, none⟩)) := ⟨⟨(HB3.out.fr G1 (fun f => f)).cell rfl, (HB3.out.fr G1 (fun f => f)).cell rfl⟩, hta⟩
                  have r1 := HTV.out w3.drew ((HM3'.out.same G1).tt who hw tb HTP3.out)
                  clear hta
                  go_region_held3 (fun W => (W.cell? ⟨sb, 1, none⟩ = some (.int .i64 who) ∧ W.cell? ⟨sb, 2, none⟩ = some (.int .i64 whom)) ∧ W.cell? ⟨A + 1, who, none⟩ = some (.pointer (some ⟨tb, 0, none⟩)))
                    (first | with_reducible exact q1 | with_reducible exact q2 | fail)
                    (first | (go_at_call 26; refine r1.mono ?_; rintro r w4 ⟨rfl, ta4, f4⟩; clear r1; have HM4 := (HM3'.out.same G1).add hw HTP3.out ta4 f4; have B4 := (HB3.out.fr G1 (fun f => f)).fr f4 (fun e => HSB2.out.2.2.2.2.2 who hw (by rw [HTP.out, e])); have hta4 : w4.cell? ⟨A + 1, who, none⟩ = some (tpV (S3.tp who)) := (HM4.ta (i := who) (by omega)).1; rw [HTP3.out] at hta4; have q2 : (w4.cell? ⟨sb, 1, none⟩ = some (.int .i64 who) ∧ w4.cell? ⟨sb, 2, none⟩ = some (.int .i64 whom)) ∧ w4.cell? ⟨A + 1, who, none⟩ = some (.pointer (some ⟨tb, 0, none⟩)) := ⟨⟨B4.cell rfl, B4.cell rfl⟩, hta4⟩))
                  have HM4' : Hid (Mem A w4 A (A + 1) (A + 1 + 1) k k (addS S3 who (withN (S.ts who) whom)) en (.slice ga won.length gc) won) := HM4
                  have HB4 : Hid (Blk w4 sb #[.int .i64 kd, .int .i64 who, .int .i64 whom] 70) := B4
                  have HF4 : Hid (Fr (fun _ => False) w w4) := (HF3.out.seq' G1).trans f4 (fun i hi e => by have := (HM3'.out.tof who hw tb HTP3.out).1; have := HA.out; omega)
                  clear q1 q2 HM4 B4 G1 hta4
                  go_wp2
                  go_meet
                  exact ⟨_, _, HINH, HM4', HB4, HF4⟩
          case rest =>
            obtain ⟨S', V', HI3, HM3, HB3, HF3⟩ := hcut
            clear HI HI1 HM1 HB1 HF1 j0 j1 j2 HSB2
            have j1 : wc.cell? ⟨sb, 1, none⟩ = some (.int .i64 who) := HB3.out.cell rfl
            have t0 := (HM3.out.ta (i := who) (by omega)).1
            cases htp : S'.tp who with
            | none =>
              rw [htp] at t0
              have t0' : wc.cell? ⟨A + 1, who, none⟩ = some (.pointer none) := t0
              clear t0 htp
              go_wp2
              exact ⟨⟨q + 1, S', V', won, by omega, by omega, by simp, HI3, HM3, HF3⟩, by simp [intOf]; omega⟩
            | some tb =>
              rw [htp] at t0
              have t0' : wc.cell? ⟨A + 1, who, none⟩ = some (.pointer (some ⟨tb, 0, none⟩)) := t0
              have HTP : Hid (S'.tp who = some tb) := htp
              have hwon := won_any tb k (S'.te who) (S'.ts who) wc (HM3.out.tt who hw tb htp)
              clear t0 htp
              cases hh : hasM k (S'.ts who) with
              | false =>
                rw [hh] at hwon
                clear hh
                go_wp2_with fail
                refine hwon.mono ?_
                rintro r w4 ⟨rfl, f4⟩
                have HM4 : Hid (Mem A w4 A (A + 1) (A + 1 + 1) k k S' en (.slice ga won.length gc) won) := HM3.out.same f4
                have HF4 : Hid (Fr (fun _ => False) w w4) := HF3.out.seq' f4
                clear hwon
                go_wp2
                exact ⟨⟨q + 1, S', V', won, by omega, by omega, by simp, HI3, HM4, HF4⟩, by simp [intOf]; omega⟩
              | true =>
                rw [hh] at hwon
                obtain ⟨hone, hin⟩ := HI3.out.one hw (by rw [HTP.out]; simp) hh
                have HONE : Hid (∀ g ∈ won, g.1 = S'.te who → g.2 = who) := hone
                have HIN : Hid (Inv k S' V' ((q : Int) + 1) (won ++ [(S'.te who, (who : Int))])) := hin
                clear hh hone hin
                go_wp2_with fail
                refine hwon.mono ?_
                rintro r w4 ⟨rfl, f4⟩
                have HM4 : Hid (Mem A w4 A (A + 1) (A + 1 + 1) k k S' en (.slice ga won.length gc) won) := HM3.out.same f4
                have HB4 : Hid (Blk w4 sb #[.int .i64 kd, .int .i64 who, .int .i64 whom] 70) := HB3.out.fr f4 (fun f => f)
                have HF4 : Hid (Fr (fun _ => False) w w4) := HF3.out.seq' f4
                have HGS : Hid ((Value.slice ga won.length gc).ownBlock ≠ some sb) := HGS0.out
                have HTA : Hid (∀ W, Fr (fun _ => False) w4 W → Ta W tb k (S'.te who) (S'.ts who)) := fun W f => (HM4.out.same f).tt who hw tb HTP.out
                obtain ⟨te, hte⟩ : ∃ z, z = S'.te who := ⟨_, rfl⟩
                rw [← hte] at HTA HONE HIN
                clear hwon f4 HM3 HB3 HF3 hte j1 t0'
                go_wp2
                go_loopw [173] (fun i w6 => ∃ m : Nat, m ≤ won.length ∧ i = .int .i64 m ∧ Hid (Fr (fun _ => False) w4 w6)) (fun i _ => won.length - (intOf i).toNat)
                case atStart => exact ⟨0, by omega, rfl, Fr.refl _ _⟩
                case round =>
                  obtain ⟨m, hmw, rfl, HF6⟩ := hrel
                  by_cases hlm : m < won.length
                  · obtain ⟨g, hg⟩ : ∃ g, won[m]? = some g := ⟨_, List.getElem?_eq_getElem hlm⟩
                    obtain ⟨gg, cap, hv, hgb, _, _, _, hra⟩ := (HM4.out.same HF6.out).wn.form (by omega)
                    simp only [Value.slice.injEq, true_and] at hv
                    obtain ⟨rfl, rfl⟩ := hv
                    have hat := gv_at hra hg
                    rw [Nat.zero_add] at hat
                    obtain ⟨g1, g2⟩ := g
                    have n3 := HONE.out (g1, g2) (List.mem_of_getElem? hg)
                    simp only at n3
                    have k0 : wr.cell? ⟨gg, m * 3, none⟩ = some (.int .i64 g1) := by have := hat 0 _ rfl; rwa [Nat.add_zero] at this
                    have k1 : wr.cell? ⟨gg, m * 3 + 1, none⟩ = some (.int .i64 0) := hat 1 _ rfl
                    have k2 : wr.cell? ⟨gg, m * 3 + 2, none⟩ = some (.int .i64 g2) := hat 2 _ rfl
                    obtain ⟨W7, hW7⟩ : ∃ W, W = wr.alloc (.cells #[.int .i64 g1, .int .i64 0, .int .i64 g2] 61) := ⟨_, rfl⟩
                    obtain ⟨cb, hcb⟩ : ∃ cb, cb = wr.heap.size := ⟨_, rfl⟩
                    have f7 := Fr.box wr (.cells #[.int .i64 g1, .int .i64 0, .int .i64 g2] 61)
                    have B7 := Blk.new wr #[.int .i64 g1, .int .i64 0, .int .i64 g2] 61
                    rw [← hW7] at f7 B7
                    rw [← hcb] at B7
                    have HF7 : Hid (Fr (fun _ => False) w4 W7) := HF6.out.seq' f7
                    have HB7 : Hid (Blk W7 cb #[.int .i64 g1, .int .i64 0, .int .i64 g2] 61) := B7
                    have HW7 : Hid (wr.alloc (.cells #[.int .i64 g1, .int .i64 0, .int .i64 g2] 61) = W7) := hW7.symm
                    have HCB : Hid (wr.heap.size = cb) := hcb.symm
                    clear hW7 hcb f7 B7 hat hra hg
                    go_upto_region 35 with fail
                    rw [HW7.out, HCB.out]
                    clear k0 k1 k2 HW7 HCB
                    have G1 : Fr (fun _ => False) W7 W7.drew := (Fr.refl _ W7).drew
                    have q1 : (W7.drew.cell? ⟨cb, 0, none⟩ = some (.int .i64 g1) ∧ W7.drew.cell? ⟨cb, 2, none⟩ = some (.int .i64 g2)) ∧ W7.drew.cell? ⟨sb, 1, none⟩ = some (.int .i64 who) := ⟨⟨(HB7.out.fr G1 (fun f => f)).cell rfl, (HB7.out.fr G1 (fun f => f)).cell rfl⟩, ((HB4.out.fr HF7.out (fun f => f)).fr G1 (fun f => f)).cell rfl⟩
                    have r1 := epoch_any tb k te (S'.ts who) W7.drew (HTA.out _ (HF7.out.seq' G1))
                    have HF8 : Hid (Fr (fun _ => False) w4 W7.drew) := HF7.out.seq' G1
                    by_cases hge : g1 = te
                    · have hg2 := n3 hge
                      have hget : (g1 == te) = true := by simpa using hge
                      have hgw : (g2 == (who : Int)) = true := by simpa using hg2
                      have hgw' : (g2 != (who : Int)) = false := by simpa using hg2
                      clear n3 hg2 hge
                      go_region_held3 (fun W => (W.cell? ⟨cb, 0, none⟩ = some (.int .i64 g1) ∧ W.cell? ⟨cb, 2, none⟩ = some (.int .i64 g2)) ∧ W.cell? ⟨sb, 1, none⟩ = some (.int .i64 who))
                        (first | with_reducible exact q1 | fail)
                        (first | (go_at_call 25; refine r1.mono ?_; rintro r w8 ⟨rfl, rfl⟩; clear r1))
                      go_wp2
                      exact ⟨⟨m + 1, by omega, by simp, HF8⟩, by simp [intOf]; omega⟩
                    · have hge' : (g1 == te) = false := by simpa using hge
                      have l0 : W7.cell? ⟨cb, 0, none⟩ = some (.int .i64 g1) := HB7.out.cell rfl
                      have l2 : W7.cell? ⟨cb, 2, none⟩ = some (.int .i64 g2) := HB7.out.cell rfl
                      have l1 : W7.cell? ⟨sb, 1, none⟩ = some (.int .i64 who) := (HB4.out.fr HF7.out (fun f => f)).cell rfl
                      have kE : ∀ N, Calls Try.prog 25 #[.pointer (some ⟨tb, 0, none⟩)] (W7.drewN N) fun r w' => r = .returned (.int .i64 te) ∧ w' = W7.drewN N := fun N => epoch_any tb k te (S'.ts who) _ (HTA.out _ (HF7.out.seq' ((Fr.refl _ W7).drewN N)))
                      clear n3 r1 q1 G1 HF8 hge
                      go_quiet (first | (go_at_call 25; exact Calls.quiet_of_same (kE _)))
                      go_wp2
                      exact ⟨⟨m + 1, by omega, by simp, HF7.out.drewN _⟩, by simp [intOf]; omega⟩
                  · have hmn : m = won.length := by omega
                    obtain ⟨i0', hi, hz0, hz1, hz2⟩ := info_parts infoG
                    have hws : won.length ≤ 400 := by omega
                    go_upto_region 38 with fail
                    have G1 : Fr (fun _ => False) wr wr.drew := (Fr.refl _ wr).drew
                    have FA : Fr (fun _ => False) wr (wr.alloc (.cells #[.int .i64 te, .int .i64 0, .int .i64 who] 61)).drew := (Fr.box wr (.cells #[.int .i64 te, .int .i64 0, .int .i64 who] 61)).drew
                    have HM7 : Hid (Mem A (wr.alloc (.cells #[.int .i64 te, .int .i64 0, .int .i64 who] 61)).drew A (A + 1) (A + 1 + 1) k k S' en (.slice ga won.length gc) won) := (HM4.out.same HF6.out).same FA
                    have HF7 : Hid (Fr (fun _ => False) w (wr.alloc (.cells #[.int .i64 te, .int .i64 0, .int .i64 who] 61)).drew) := (HF4.out.seq' HF6.out).seq' FA
                    have HB6 : Hid (Blk wr sb #[.int .i64 kd, .int .i64 who, .int .i64 whom] 70) := HB4.out.fr HF6.out (fun f => f)
                    have hfrom : From (wr.alloc (.cells #[.int .i64 te, .int .i64 0, .int .i64 who] 61)).drew (some ⟨wr.heap.size, 0, none⟩) (gvC (te, (who : Int))) := .inr ⟨wr.heap.size, 0, rfl, range_block (w := (wr.alloc (.cells #[.int .i64 te, .int .i64 0, .int .i64 who] 61)).drew) (heap_alloc_new wr _) (fun j v hv => by rw [Nat.zero_add]; simpa [gvC] using hv)⟩
                    have q1 : wr.drew.cell? ⟨sb, 1, none⟩ = some (.int .i64 who) := (HB6.out.fr G1 (fun f => f)).cell rfl
                    have q2 : (wr.alloc (.cells #[.int .i64 te, .int .i64 0, .int .i64 who] 61)).drew.cell? ⟨sb, 1, none⟩ = some (.int .i64 who) := (HB6.out.fr FA (fun f => f)).cell rfl
                    have r1 := epoch_any tb k te (S'.ts who) wr.drew (HTA.out _ (HF6.out.seq' G1))
                    have hbase : A ≤ (wr.alloc (.cells #[.int .i64 te, .int .i64 0, .int .i64 who] 61)).drew.heap.size := by have := HF7.out.size; have := HA.out; omega
                    go_region_held3 (fun W => W.cell? ⟨sb, 1, none⟩ = some (.int .i64 who))
                      (first | with_reducible exact q1 | with_reducible exact q2 | with_reducible exact hq3 | fail)
                      (first
                        | (go_at_call 25; refine r1.mono ?_; rintro r w8 ⟨rfl, rfl⟩; clear r1)
                        | (refine step_append_has _ (by rfl) _ _ 59 59 61 61 (by rfl) i0' _ 3 24 Try.underlying59 Try.underlying59 hi hz0 hz1 hz2 (by rfl) (by omega) (.slice ga won.length gc) won.length (won.flatMap gvC) (by rfl) HM7.out.wn (some ⟨wr.heap.size, 0, none⟩) 1 1 (gvC (te, (who : Int))) (by rfl) (by rfl) hfrom (by intro u hu; simp only [gvC, List.mem_cons, List.not_mem_nil, or_false] at hu; rcases hu with h | h | h <;> (subst h; rfl)) (by unfold maxLen; omega) (by omega) ?_; intro am cm w9 hown hfr hat; have HM9 := HM7.out.won hbase hown rfl hfr hat; have hq3 : w9.cell? ⟨sb, 1, none⟩ = some (.int .i64 who) := ((HB6.out.fr FA (fun f => f)).fr hfr (fun e => HGS.out e.1)).cell rfl))
                    have HM9' : Hid (Mem A w9 A (A + 1) (A + 1 + 1) k k S' en (.slice am (won.length + 1) cm) (won ++ [(te, (who : Int))])) := HM9
                    have HF9 : Hid (Fr (fun _ => False) w w9) := HF7.out.trans hfr (fun i hi e => by have := (HM7.out.wo i e.1).1; have := HA.out; omega)
                    clear HM9 hown hfr hat hq3 q1 q2 hfrom FA G1
                    go_wp2
                    exact ⟨⟨q + 1, S', V', won ++ [(te, (who : Int))], by omega, by simp; omega, by simp, HIN, HM9', HF9⟩, by simp [intOf]; omega⟩
        · have hqn : q = len1 := by omega
          subst hqn
          go_wp2_with fail
          refine (HSP.out _).mono ?_
          rintro r w4 ⟨rfl, f4⟩
          go_wp2
          go_ret
          exact ⟨rfl, HFR.out.seq' f4⟩

set_option maxRecDepth 100000 in
theorem lifted (os : Os) (started : os.Started) (H : Type) (enc : TypeId × Value → H) :
    ReturnsInHanded {} Try.checked os 6 .any (Rows.voteWinnerSpec.pre6 enc Try.prog Try.f6 Rows.voteWinnerRow.domain false) (Rows.voteWinnerSpec.post enc Try.prog Try.f6 false true false false) := by
  refine returnsInHanded_of_change_sized (C := Try.checked) own started (by kernel_rfl) Try.func6
    (ChangeSpec.witness6 (enc := enc) (C := Try.checked) false ⟨#[], #[.int .i64 0, .slice none 0 0, .slice none 0 0], []⟩ 8 (by kernel_rfl) (by kernel_rfl) (by kernel_rfl) (by kernel_rfl)) ?_
  intro W base args ds gs before hval0 hW hcnd hsz0 _
  have hsz : (DataW.weightsEach Try.prog (Try.f6.params.toList ++ Rows.voteWinnerSpec.plain.varTypes Try.prog) (ds ++ gs)).all (· ≤ reachBytes) = true := hsz0
  clear hsz0
  have hval : ∀ (j : Nat) t v, Try.f6.params[j]? = some t → args[j]? = some v → Value.okWide Try.prog W .any base t v := hval0
  have hW' := hW
  obtain ⟨p, q, hA0, hV, rfl, hfz, hnd⟩ := hW
  have hA : DataW.TrodAll enc Try.prog W 0 (fun _ => true) true Try.f6.params.toList args.toList ds p := hA0
  rw [Try.params6] at hA hval hsz
  obtain ⟨v0, vs0, d0, ds0, p0, q0, hargs, rfl, rfl, h0, r0⟩ := trodAll_cons hA
  obtain ⟨v1, vs1, d1, ds1, p1, q1, rfl, rfl, rfl, h1, r1⟩ := trodAll_cons r0
  obtain ⟨v2, vs2, d2, ds2, p2, q2, rfl, rfl, rfl, h2, r2⟩ := trodAll_cons r1
  obtain ⟨rfl, rfl, rfl⟩ := trodAll_nil r2
  obtain rfl : args = #[v0, v1, v2] := by cases args; simp_all
  obtain ⟨rfl, rfl⟩ := trodVars_none hV
  obtain ⟨a1, len1, cap1, rfl⟩ := okWide_slice Try.underlying63 (hval 1 63 v1 rfl rfl)
  have k1 := h1
  have lt1 : ∀ x ∈ p1, x.block < W.heap.size := by obtain ⟨m, hm⟩ := k1; exact DataW.trod_lt m _ _ _ hm
  have wz1 : ∀ z ∈ d1.weights Try.prog 63, z ≤ reachBytes := fun z hz => by simpa using List.all_eq_true.1 hsz z (DataW.weights_mem_each (j := 1) rfl rfl z hz)
  obtain ⟨rs1, hl1, hb1, hr1⟩ : ∃ rs : List (List Int), len1 = rs.length ∧ rs.length * (8 * 3) ≤ 140737488351232 ∧ Rws W a1 cap1 3 rs := by
    obtain ⟨fuel, hf⟩ := h1
    exact rws_open Try.underlying63 cellsEv (by decide) bytesEv event_ints hf wz1
  obtain ⟨a2, len2, cap2, rfl⟩ := okWide_slice Try.underlying64 (hval 2 64 v2 rfl rfl)
  have k2 := h2
  have lt2 : ∀ x ∈ p2, x.block < W.heap.size := by obtain ⟨m, hm⟩ := k2; exact DataW.trod_lt m _ _ _ hm
  have wz2 : ∀ z ∈ d2.weights Try.prog 64, z ≤ reachBytes := fun z hz => by simpa using List.all_eq_true.1 hsz z (DataW.weights_mem_each (j := 2) rfl rfl z hz)
  obtain ⟨rs2, hl2, hb2, hr2⟩ : ∃ rs : List (List Int), len2 = rs.length ∧ rs.length * (8 * 2) ≤ 140737488351232 ∧ Rws W a2 cap2 2 rs := by
    obtain ⟨fuel, hf⟩ := h2
    exact rws_open Try.underlying64 cellsMk (by decide) bytesMk mark_ints hf wz2
  obtain ⟨a0, rfl, rfl, rfl, w0⟩ := open_int Try.underlying3 (hval 0 3 v0 rfl rfl) h0
  clear hA0 hval0
  refine (walk W a0 w0 a1 len1 cap1 rs1 hl1 hb1 hr1 a2 len2 cap2 rs2 hl2 hb2 hr2).mono fun e W' ⟨he, fr⟩ => ?_
  have bel : Below W.heap.size W W' := fr.below (Nat.le_refl _) (fun _ f => f.elim)
  subst he
  exact ⟨_, rfl, _, _, _, [], _, [], hW', trodAll_mk1 (shut_bool Try.underlying4 _), (trodAll_cons_mk (shut_int Try.underlying3 w0) (trodAll_cons_mk (Below.trod laidOut (by kernel_rfl) (of_decide_eq_true (by kernel_rfl)) k1 bel lt1) (trodAll_cons_mk (Below.trod laidOut (by kernel_rfl) (of_decide_eq_true (by kernel_rfl)) k2 bel lt2) trodAll_mk0))), rfl, bel.frame _, fun h => by cases h⟩

theorem proved : Rows.VoteWinnerSaid :=
  OpenClaim.holds_of_wide 6 Try.f6 rfl rfl rfl rfl rfl rfl rfl ⟨rfl, rfl, rfl, rfl, rfl⟩ rfl rfl rfl rfl rfl (by kernel_rfl) Try.func6 (by kernel_rfl)
    (of_decide_eq_true (by kernel_rfl)) (by unfold Func.isWrapper; first | (rw [if_pos (by decide +kernel)]; kernel_rfl) | (rw [if_neg (by decide +kernel)]; exact ⟨rfl, rfl⟩))
    (fun os started H enc _ => lifted os started H enc)
end Go.Proofs.Ytbfkacahaocpfaa.voteWinner
namespace Go.Proofs.Ytbfkacahaocpfaa
theorem voteWinner_holds : Rows.VoteWinnerSaid := voteWinner.proved
#print axioms voteWinner_holds
end Go.Proofs.Ytbfkacahaocpfaa
