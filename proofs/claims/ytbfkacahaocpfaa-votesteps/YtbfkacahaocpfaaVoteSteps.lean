
/- Of any promise and any steps, the program's voter and the document's tell the same and have the same promise behind each step, and the example speaks; with no condition but those of the statement's own form. -/
import Derived.Test.YtbfkacahaocpfaaArgs
import Derived.Test.YtbfkacahaocpfaaVtStp
import Derived.Test.YtbfkacahaocpfaaVtArg
namespace Go.Proofs.Ytbfkacahaocpfaa.voteSteps
open Go.ChangeShapes Go.WideShapes Go.ChangeAt Go.RowKit
open Go.ChangeMaps (open_string shut_string)
set_option linter.unusedVariables false

theorem own : ownKnob Try.prog.godebug = none := by kernel_rfl
theorem laidOut : laidOutB Try.prog = true := by kernel_rfl
theorem bytes8 : Try.prog.bytesOf 5 = 1 := by kernel_rfl

open Go.RowKit
set_option maxRecDepth 100000 in
set_option maxHeartbeats 16000000 in
theorem walk (w : World) (pe pf : Int) (_ : wfI pe) (_ : wfI pf) (a1 : Option Addr) (len1 cap1 : Nat) (rs : List (List Int)) (hl1 : len1 = rs.length) (hb1 : rs.length * (8 * 7) ≤ 140737488351232) (hr1 : Rws w a1 cap1 7 rs) :
    Calls Try.prog 4 #[.agg #[.int .i64 pe, .int .i64 pf], .slice a1 len1 cap1] w fun e w' => e = .returned (.bool true) ∧ Fr (fun _ => False) w w' := by
  have HSP : Hid (∀ W, Calls Try.prog 14 #[] W fun e w' => e = .returned (.bool true) ∧ Fr (fun _ => False) W w') := vtspk_any
  have hle := hr1.le
  have hmx := hr1.max
  rw [← hl1] at hle hb1
  have HS : Hid (∀ W, Fr (fun _ => False) w W → Rws W a1 cap1 7 rs) := fun W f => hr1.same f
  have HL : Hid (len1 = rs.length) := hl1
  have HFIT : Hid (∀ r ∈ rs, r.length = 7) := fun r h => (hr1.fit r h).1
  have F0 := Fr.box w (.cells #[.int .i64 pe, .int .i64 pf] 23)
  have T := Two.new w 23 (.int .i64 pe) (.int .i64 pf)
  obtain ⟨x0, x1, _⟩ := T.cells
  have HT : Hid (Two (w.alloc (.cells #[.int .i64 pe, .int .i64 pf] 23)) w.heap.size 23 (.int .i64 pe) (.int .i64 pf)) := T
  have HF0 : Hid (Fr (fun _ => False) w (w.alloc (.cells #[.int .i64 pe, .int .i64 pf] 23))) := F0
  have HRI : Hid (∀ W, Calls Try.prog 16 #[.agg #[.int .i64 pe, .int .i64 pf]] W fun r w' => r = .returned (.bool (rgtB pe pf)) ∧ Fr (fun _ => False) W w') := right_any pe pf
  clear hl1 hr1 F0 T
  cases hrg : rgtB pe pf with
  | false =>
    have hnew := vnew_no pe pf hrg (w.alloc (.cells #[.int .i64 pe, .int .i64 pf] 23))
    rw [hrg] at HRI
    clear hrg
    go_enter Try.func4, Try.ntmps4
    go_wp2_with fail
    refine hnew.mono ?_
    rintro r w1 ⟨rfl, f1⟩
    obtain ⟨y0, y1, _⟩ := (HT.out.fr f1 (fun f => f)).cells
    have F1 := HF0.out.seq' f1
    have T2 := Two.new w1 47 (.int .i64 pe) (.int .i64 pf)
    obtain ⟨z0, z1, _⟩ := T2.cells
    have F2 := F1.seq' (Fr.box w1 (.cells #[.int .i64 pe, .int .i64 pf] 47))
    clear x0 x1 T2 F1 f1 hnew
    go_wp2_with fail
    refine (HRI.out _).mono ?_
    rintro r w3 ⟨rfl, f3⟩
    go_wp2_with fail
    refine (HSP.out _).mono ?_
    rintro r w4 ⟨rfl, f4⟩
    go_wp2
    go_ret
    exact ⟨rfl, (F2.seq' f3).seq' f4⟩
  | true =>
    have hnew := vnew_yes pe pf hrg (w.alloc (.cells #[.int .i64 pe, .int .i64 pf] 23))
    rw [hrg] at HRI
    have HRG0 : Hid (rgtB pe pf = true) := hrg
    clear hrg
    go_enter Try.func4, Try.ntmps4
    go_wp2_with fail
    refine hnew.mono ?_
    rintro r w1 ⟨vb, rfl, hvb, hvt, f1⟩
    obtain ⟨y0, y1, _⟩ := (HT.out.fr f1 (fun f => f)).cells
    have F1 := HF0.out.seq' f1
    have T2 := Two.new w1 47 (.int .i64 pe) (.int .i64 pf)
    obtain ⟨z0, z1, _⟩ := T2.cells
    obtain ⟨rb, hrb⟩ : ∃ rb, rb = w1.heap.size := ⟨_, rfl⟩
    have f2 := Fr.box w1 (.cells #[.int .i64 pe, .int .i64 pf] 47)
    have HNR : Hid (vb ≠ rb) := by have := Two.lt hvt; show _ ≠ _; omega
    have HVB : Hid (w.heap.size ≤ vb) := by have := HF0.out.size; show _ ≤ _; omega
    have HRB : Hid (w.heap.size ≤ rb) := by have := F1.size; show _ ≤ _; omega
    have hvt2 := Two.fr hvt f2 (fun f => f)
    have F2 := F1.seq' f2
    rw [← hrb] at T2 z0 z1
    have HSZ : Hid (w1.heap.size = rb) := hrb.symm
    clear x0 x1 F1 f1 hnew hvb hvt f2 hrb
    go_wp2_with fail
    rw [HSZ.out]
    refine (HRI.out _).mono ?_
    rintro r w3 ⟨rfl, f3⟩
    have HV3 : Hid (Vt w3 vb pe pf) := Two.fr hvt2 f3 (fun f => f)
    have HX3 : Hid (Vr w3 rb pe pf) := Two.fr T2 f3 (fun f => f)
    have HF3 : Hid (Fr (fun _ => False) w w3) := F2.seq' f3
    clear hvt2 T2 F2 f3 y0 y1 z0 z1 HSZ
    go_wp2
    go_loopw [50] (fun i wr => ∃ (k : Nat) (e f : Int), k ≤ len1 ∧ i = .int .i64 k ∧ Hid (rgtB e f = true) ∧ Hid (Vt wr vb e f) ∧ Hid (Vr wr rb e f) ∧ Hid (Fr (fun _ => False) w wr)) (fun i _ => len1 - (intOf i).toNat)
    case atStart => exact ⟨0, pe, pf, by omega, rfl, HRG0, HV3, HX3, HF3⟩
    case round =>
      obtain ⟨k, e, f, hk, rfl, HRG, HV, HX, HFW⟩ := hrel
      by_cases hlt : k < len1
      · obtain ⟨row, hrow⟩ : ∃ r, rs[k]? = some r := ⟨_, List.getElem?_eq_getElem (by have := HL.out; omega)⟩
        have hl7 := HFIT.out row (List.mem_of_getElem? hrow)
        obtain ⟨b, off, rfl, hb, hc⟩ := (HS.out _ HFW.out).some (by have := HL.out; omega)
        match row, hl7 with
        | [kd, frm, ep, x, y, u, v], _ =>
        have c0 := hc k _ hrow 0 _ rfl
        have c1 := hc k _ hrow 1 _ rfl
        have c2 := hc k _ hrow 2 _ rfl
        have c3 := hc k _ hrow 3 _ rfl
        have c4 := hc k _ hrow 4 _ rfl
        have c5 := hc k _ hrow 5 _ rfl
        have c6 := hc k _ hrow 6 _ rfl
        rw [Nat.add_zero] at c0
        obtain ⟨W1, hW1⟩ : ∃ W, W = wr.alloc (.cells (stC kd frm ep x y u v) 50) := ⟨_, rfl⟩
        obtain ⟨sb, hsb⟩ : ∃ sb, sb = wr.heap.size := ⟨_, rfl⟩
        have B1 := Blk.new wr (stC kd frm ep x y u v) 50
        have G := Fr.box wr (.cells (stC kd frm ep x y u v) 50)
        rw [← hW1] at B1 G
        rw [← hsb] at B1
        have j0 : W1.cell? ⟨sb, 0, none⟩ = some (.int .i64 kd) := B1.cell (j := 0) rfl
        have j1 := B1.six.1
        have HNS : Hid (vb ≠ sb ∧ rb ≠ sb) := by
          have h1 := Two.lt HV.out
          have h2 := Two.lt HX.out
          exact ⟨by omega, by omega⟩
        have HB1 : Hid (Blk W1 sb (stC kd frm ep x y u v) 50) := B1
        have HG : Hid (Fr (fun _ => False) wr W1) := G
        have HW1 : Hid (wr.alloc (.cells #[.int .i64 kd, .int .i64 frm, .int .i64 ep, .int .i64 x, .int .i64 y, .int .i64 u, .int .i64 v] 50) = W1) := hW1.symm
        have HSB : Hid (wr.heap.size = sb) := hsb.symm
        clear hrow hc B1 G hW1 hsb hl7
        go_upto_region 10 with fail
        rw [HW1.out, HSB.out]
        clear c0 c1 c2 c3 c4 c5 c6 HW1 HSB
        by_cases g0 : kd = 0
        · subst g0
          go_wp2_with fail
          have G1 : Fr (fun _ => False) wr W1.drew := (HG.out).drew
          have q1 := (HB1.out.fr (Fr.refl (fun _ => False) W1).drew (fun f => f)).six
          have r1 := ask_any vb e f frm ep x y u v W1.drew (Two.fr HV.out G1 (fun f => f))
          go_region_held3 (fun W => W.cell? ⟨sb, 1, none⟩ = some (.int .i64 frm) ∧ W.cell? ⟨sb, 2, none⟩ = some (.int .i64 ep) ∧ W.cell? ⟨sb, 3, none⟩ = some (.int .i64 x) ∧ W.cell? ⟨sb, 4, none⟩ = some (.int .i64 y) ∧ W.cell? ⟨sb, 5, none⟩ = some (.int .i64 u) ∧ W.cell? ⟨sb, 6, none⟩ = some (.int .i64 v))
            (first | with_reducible exact q1 | with_reducible exact q2 | with_reducible exact q3 | fail)
            (first | (go_at_call 17; refine r1.mono ?_; rintro r w4 ⟨rfl, hv4, f4⟩; clear r1; have B4 := (HB1.out.fr (Fr.refl (fun _ => False) W1).drew (fun f => f)).fr f4 (fun e => HNS.out.1 e.symm); have q2 := B4.six; have X4 : Vr w4 rb e f := Two.fr (Two.fr HX.out G1 (fun f => f)) f4 (fun e => HNR.out e.symm); have r2 := rask_any rb e f frm ep x y u v w4 X4 HRG.out)
                   | (go_at_call 18; refine r2.mono ?_; rintro r w5 ⟨rfl, hx5, f5⟩; clear r2; have q3 := (B4.fr f5 (fun e => HNS.out.2 e.symm)).six))
          have hv3 : Vt w5 vb (askE e frm ep) (askF e f frm ep (x, y) (u, v)) := Two.fr hv4 f5 (fun e => HNR.out e)
          have hx3 : Vr w5 rb (askE e frm ep) (askF e f frm ep (x, y) (u, v)) := hx5
          have F3 : Fr (fun _ => False) w w5 := ((HFW.out.seq' G1).trans f4 (fun i hi e => by have := HVB.out; omega)).trans f5 (fun i hi e => by have := HRB.out; omega)

          have HR3 : Hid (rgtB (askE e frm ep) (askF e f frm ep (x, y) (u, v)) = true) := ask_right HRG.out
          have HV3 : Hid (Vt w5 vb (askE e frm ep) (askF e f frm ep (x, y) (u, v))) := hv3
          have HX3 : Hid (Vr w5 rb (askE e frm ep) (askF e f frm ep (x, y) (u, v))) := hx3
          have HF3 : Hid (Fr (fun _ => False) w w5) := F3
          clear hv3 hx3 F3 hv4 hx5 f4 f5 q1 q2 q3 B4 X4 G1 HB1 HG HV HX HFW HRG HNS
          generalize (askE e frm ep) = e3 at *
          generalize (askF e f frm ep (x, y) (u, v)) = f3 at *
          go_wp2_with fail
          have i0 := run_ep e3 f3
          have i1 := run_fo e3 f3
          have G1 : Fr (fun _ => False) w5 w5.drew := (Fr.refl _ w5).drew
          have q1 := (HX3.out.fr G1 (fun f => f)).two
          have r1 := prom_any vb e3 f3 w5.drew (Two.fr HV3.out G1 (fun f => f))
          go_region_held3 (fun W => W.cell? ⟨rb, 0, none⟩ = some (.int .i64 e3) ∧ W.cell? ⟨rb, 1, none⟩ = some (.int .i64 f3))
            (first | with_reducible exact q1 | with_reducible exact q2 | with_reducible exact q3 | fail)
            (first | (go_at_call 23; refine r1.mono ?_; rintro r w6 ⟨rfl, f6⟩; clear r1; have G2 := G1.seq' f6; have q2 := (HX3.out.fr G2 (fun f => f)).two; have r2 := prom_any vb e3 f3 w6 (Two.fr HV3.out G2 (fun f => f)))
                   | (go_at_call 23; refine r2.mono ?_; rintro r w7 ⟨rfl, f7⟩; clear r2; have G3 := G2.seq' f7; have q3 := (HX3.out.fr G3 (fun f => f)).two))
          have V7 := Two.fr HV3.out G3 (fun f => f)
          have X7 := Two.fr HX3.out G3 (fun f => f)
          have F7 := HF3.out.seq' G3
          have HD : Hid (Vt w7 vb e3 f3 ∧ Vr w7 rb e3 f3 ∧ Fr (fun _ => False) w w7) := ⟨V7, X7, F7⟩
          clear V7 X7 F7 HV3 HX3 HF3 q1 q2 q3 G1 G2 G3
          go_wp2
          refine ⟨⟨k + 1, e3, f3, by omega, by simp, HR3, HD.out.1, HD.out.2.1, HD.out.2.2⟩, by simp [intOf]; omega⟩
        · have g0' : (kd == 0) = false := by simpa using g0
          by_cases g1 : kd = 1
          · subst g1
            go_wp2_with fail
            have G1 : Fr (fun _ => False) wr W1.drew := (HG.out).drew
            have q1 := (HB1.out.fr (Fr.refl (fun _ => False) W1).drew (fun f => f)).six
            have r1 := ask_any vb e f frm ep x y u v W1.drew (Two.fr HV.out G1 (fun f => f))
            go_region_held3 (fun W => W.cell? ⟨sb, 1, none⟩ = some (.int .i64 frm) ∧ W.cell? ⟨sb, 2, none⟩ = some (.int .i64 ep) ∧ W.cell? ⟨sb, 3, none⟩ = some (.int .i64 x) ∧ W.cell? ⟨sb, 4, none⟩ = some (.int .i64 y) ∧ W.cell? ⟨sb, 5, none⟩ = some (.int .i64 u) ∧ W.cell? ⟨sb, 6, none⟩ = some (.int .i64 v))
              (first | with_reducible exact q1 | with_reducible exact q2 | with_reducible exact q3 | fail)
              (first | (go_at_call 17; refine r1.mono ?_; rintro r w4 ⟨rfl, hv4, f4⟩; clear r1; have B4 := (HB1.out.fr (Fr.refl (fun _ => False) W1).drew (fun f => f)).fr f4 (fun e => HNS.out.1 e.symm); have q2 := B4.six; have X4 : Vr w4 rb e f := Two.fr (Two.fr HX.out G1 (fun f => f)) f4 (fun e => HNR.out e.symm); have r2 := rask_any rb e f frm ep x y u v w4 X4 HRG.out)
                     | (go_at_call 18; refine r2.mono ?_; rintro r w5 ⟨rfl, hx5, f5⟩; clear r2; have q3 := (B4.fr f5 (fun e => HNS.out.2 e.symm)).six))
            have hv3 : Vt w5 vb (askE e frm ep) (askF e f frm ep (x, y) (u, v)) := Two.fr hv4 f5 (fun e => HNR.out e)
            have hx3 : Vr w5 rb (askE e frm ep) (askF e f frm ep (x, y) (u, v)) := hx5
            have F3 : Fr (fun _ => False) w w5 := ((HFW.out.seq' G1).trans f4 (fun i hi e => by have := HVB.out; omega)).trans f5 (fun i hi e => by have := HRB.out; omega)

            have HR3 : Hid (rgtB (askE e frm ep) (askF e f frm ep (x, y) (u, v)) = true) := ask_right HRG.out
            have HV3 : Hid (Vt w5 vb (askE e frm ep) (askF e f frm ep (x, y) (u, v))) := hv3
            have HX3 : Hid (Vr w5 rb (askE e frm ep) (askF e f frm ep (x, y) (u, v))) := hx3
            have HF3 : Hid (Fr (fun _ => False) w w5) := F3
            clear hv3 hx3 F3 hv4 hx5 f4 f5 q1 q2 q3 B4 X4 G1 HB1 HG HV HX HFW HRG HNS
            generalize (askE e frm ep) = e3 at *
            generalize (askF e f frm ep (x, y) (u, v)) = f3 at *
            go_wp2_with fail
            have i0 := run_ep e3 f3
            have i1 := run_fo e3 f3
            have G1 : Fr (fun _ => False) w5 w5.drew := (Fr.refl _ w5).drew
            have q1 := (HX3.out.fr G1 (fun f => f)).two
            have r1 := prom_any vb e3 f3 w5.drew (Two.fr HV3.out G1 (fun f => f))
            go_region_held3 (fun W => W.cell? ⟨rb, 0, none⟩ = some (.int .i64 e3) ∧ W.cell? ⟨rb, 1, none⟩ = some (.int .i64 f3))
              (first | with_reducible exact q1 | with_reducible exact q2 | with_reducible exact q3 | fail)
              (first | (go_at_call 23; refine r1.mono ?_; rintro r w6 ⟨rfl, f6⟩; clear r1; have G2 := G1.seq' f6; have q2 := (HX3.out.fr G2 (fun f => f)).two; have r2 := prom_any vb e3 f3 w6 (Two.fr HV3.out G2 (fun f => f)))
                     | (go_at_call 23; refine r2.mono ?_; rintro r w7 ⟨rfl, f7⟩; clear r2; have G3 := G2.seq' f7; have q3 := (HX3.out.fr G3 (fun f => f)).two))
            have V7 := Two.fr HV3.out G3 (fun f => f)
            have X7 := Two.fr HX3.out G3 (fun f => f)
            have F7 := HF3.out.seq' G3
            have HD : Hid (Vt w7 vb e3 f3 ∧ Vr w7 rb e3 f3 ∧ Fr (fun _ => False) w w7) := ⟨V7, X7, F7⟩
            clear V7 X7 F7 HV3 HX3 HF3 q1 q2 q3 G1 G2 G3
            go_wp2
            refine ⟨⟨k + 1, e3, f3, by omega, by simp, HR3, HD.out.1, HD.out.2.1, HD.out.2.2⟩, by simp [intOf]; omega⟩
          · have g1' : (kd == 1) = false := by simpa using g1
            by_cases g2 : kd = 2
            · subst g2
              go_wp2_with fail
              have G1 : Fr (fun _ => False) wr W1.drew := (HG.out).drew
              have q1 := (HB1.out.fr (Fr.refl (fun _ => False) W1).drew (fun f => f)).six
              have r1 := see_any vb e f ep W1.drew (Two.fr HV.out G1 (fun f => f))
              go_region_held3 (fun W => W.cell? ⟨sb, 1, none⟩ = some (.int .i64 frm) ∧ W.cell? ⟨sb, 2, none⟩ = some (.int .i64 ep) ∧ W.cell? ⟨sb, 3, none⟩ = some (.int .i64 x) ∧ W.cell? ⟨sb, 4, none⟩ = some (.int .i64 y) ∧ W.cell? ⟨sb, 5, none⟩ = some (.int .i64 u) ∧ W.cell? ⟨sb, 6, none⟩ = some (.int .i64 v))
                (first | with_reducible exact q1 | with_reducible exact q2 | with_reducible exact q3 | fail)
                (first | (go_at_call 19; refine r1.mono ?_; rintro r w4 ⟨rfl, hv4, f4⟩; clear r1; have B4 := (HB1.out.fr (Fr.refl (fun _ => False) W1).drew (fun f => f)).fr f4 (fun e => HNS.out.1 e.symm); have q2 := B4.six; have X4 : Vr w4 rb e f := Two.fr (Two.fr HX.out G1 (fun f => f)) f4 (fun e => HNR.out e.symm); have r2 := rsee_any rb e f ep w4 X4)
                       | (go_at_call 20; refine r2.mono ?_; rintro r w5 ⟨rfl, hx5, f5⟩; clear r2; have q3 := (B4.fr f5 (fun e => HNS.out.2 e.symm)).six))
              have hv3 : Vt w5 vb (if seeB e ep then ep else e) (if seeB e ep then -1 else f) := Two.fr hv4 f5 (fun e => HNR.out e)
              have hx3 : Vr w5 rb (if seeB e ep then ep else e) (if seeB e ep then -1 else f) := hx5
              have F3 : Fr (fun _ => False) w w5 := ((HFW.out.seq' G1).trans f4 (fun i hi e => by have := HVB.out; omega)).trans f5 (fun i hi e => by have := HRB.out; omega)

              have HR3 : Hid (rgtB (if seeB e ep then ep else e) (if seeB e ep then -1 else f) = true) := see_right HRG.out
              have HV3 : Hid (Vt w5 vb (if seeB e ep then ep else e) (if seeB e ep then -1 else f)) := hv3
              have HX3 : Hid (Vr w5 rb (if seeB e ep then ep else e) (if seeB e ep then -1 else f)) := hx3
              have HF3 : Hid (Fr (fun _ => False) w w5) := F3
              clear hv3 hx3 F3 hv4 hx5 f4 f5 q1 q2 q3 B4 X4 G1 HB1 HG HV HX HFW HRG HNS
              generalize (if seeB e ep then ep else e) = e3 at *
              generalize (if seeB e ep then -1 else f) = f3 at *
              go_wp2_with fail
              have i0 := run_ep e3 f3
              have i1 := run_fo e3 f3
              have G1 : Fr (fun _ => False) w5 w5.drew := (Fr.refl _ w5).drew
              have q1 := (HX3.out.fr G1 (fun f => f)).two
              have r1 := prom_any vb e3 f3 w5.drew (Two.fr HV3.out G1 (fun f => f))
              go_region_held3 (fun W => W.cell? ⟨rb, 0, none⟩ = some (.int .i64 e3) ∧ W.cell? ⟨rb, 1, none⟩ = some (.int .i64 f3))
                (first | with_reducible exact q1 | with_reducible exact q2 | with_reducible exact q3 | fail)
                (first | (go_at_call 23; refine r1.mono ?_; rintro r w6 ⟨rfl, f6⟩; clear r1; have G2 := G1.seq' f6; have q2 := (HX3.out.fr G2 (fun f => f)).two; have r2 := prom_any vb e3 f3 w6 (Two.fr HV3.out G2 (fun f => f)))
                       | (go_at_call 23; refine r2.mono ?_; rintro r w7 ⟨rfl, f7⟩; clear r2; have G3 := G2.seq' f7; have q3 := (HX3.out.fr G3 (fun f => f)).two))
              have V7 := Two.fr HV3.out G3 (fun f => f)
              have X7 := Two.fr HX3.out G3 (fun f => f)
              have F7 := HF3.out.seq' G3
              have HD : Hid (Vt w7 vb e3 f3 ∧ Vr w7 rb e3 f3 ∧ Fr (fun _ => False) w w7) := ⟨V7, X7, F7⟩
              clear V7 X7 F7 HV3 HX3 HF3 q1 q2 q3 G1 G2 G3
              go_wp2
              refine ⟨⟨k + 1, e3, f3, by omega, by simp, HR3, HD.out.1, HD.out.2.1, HD.out.2.2⟩, by simp [intOf]; omega⟩
            · have g2' : (kd == 2) = false := by simpa using g2
              go_wp2_with fail
              refine (stand_any vb e f frm _ (Two.fr HV.out HG.out (fun f => f)) HRG.out).mono ?_
              rintro r w4 ⟨rfl, hv4, f4⟩
              have B4 := HB1.out.fr f4 (fun e => HNS.out.1 e.symm)
              have X4 : Vr w4 rb e f := Two.fr (Two.fr HX.out HG.out (fun f => f)) f4 (fun e => HNR.out e.symm)
              obtain ⟨k1, _⟩ := B4.six
              clear j0 j1
              go_wp2_with fail
              refine (rstand_any rb e f frm _ X4 HRG.out).mono ?_
              rintro r w5 ⟨rfl, hx5, f5⟩
              have hv3 : Vt w5 vb (if stE e frm = 0 then e + 1 else e) (if stE e frm = 0 then frm else f) := Two.fr hv4 f5 (fun e => HNR.out e)
              have hx3 : Vr w5 rb (if stE e frm = 0 then e + 1 else e) (if stE e frm = 0 then frm else f) := hx5
              have F3 : Fr (fun _ => False) w w5 := ((HFW.out.seq' HG.out).trans f4 (fun i hi e => by have := HVB.out; omega)).trans f5 (fun i hi e => by have := HRB.out; omega)
              generalize stN e frm = sn at *

              have HR3 : Hid (rgtB (if stE e frm = 0 then e + 1 else e) (if stE e frm = 0 then frm else f) = true) := stand_right HRG.out
              have HV3 : Hid (Vt w5 vb (if stE e frm = 0 then e + 1 else e) (if stE e frm = 0 then frm else f)) := hv3
              have HX3 : Hid (Vr w5 rb (if stE e frm = 0 then e + 1 else e) (if stE e frm = 0 then frm else f)) := hx3
              have HF3 : Hid (Fr (fun _ => False) w w5) := F3
              clear hv3 hx3 F3 hv4 hx5 f4 f5 k1 B4 X4 HB1 HG HV HX HFW HRG HNS
              generalize (if stE e frm = 0 then e + 1 else e) = e3 at *
              generalize (if stE e frm = 0 then frm else f) = f3 at *
              go_wp2_with fail
              have i0 := run_ep e3 f3
              have i1 := run_fo e3 f3
              have G1 : Fr (fun _ => False) w5 w5.drew := (Fr.refl _ w5).drew
              have q1 := (HX3.out.fr G1 (fun f => f)).two
              have r1 := prom_any vb e3 f3 w5.drew (Two.fr HV3.out G1 (fun f => f))
              go_region_held3 (fun W => W.cell? ⟨rb, 0, none⟩ = some (.int .i64 e3) ∧ W.cell? ⟨rb, 1, none⟩ = some (.int .i64 f3))
                (first | with_reducible exact q1 | with_reducible exact q2 | with_reducible exact q3 | fail)
                (first | (go_at_call 23; refine r1.mono ?_; rintro r w6 ⟨rfl, f6⟩; clear r1; have G2 := G1.seq' f6; have q2 := (HX3.out.fr G2 (fun f => f)).two; have r2 := prom_any vb e3 f3 w6 (Two.fr HV3.out G2 (fun f => f)))
                       | (go_at_call 23; refine r2.mono ?_; rintro r w7 ⟨rfl, f7⟩; clear r2; have G3 := G2.seq' f7; have q3 := (HX3.out.fr G3 (fun f => f)).two))
              have V7 := Two.fr HV3.out G3 (fun f => f)
              have X7 := Two.fr HX3.out G3 (fun f => f)
              have F7 := HF3.out.seq' G3
              have HD : Hid (Vt w7 vb e3 f3 ∧ Vr w7 rb e3 f3 ∧ Fr (fun _ => False) w w7) := ⟨V7, X7, F7⟩
              clear V7 X7 F7 HV3 HX3 HF3 q1 q2 q3 G1 G2 G3
              go_wp2
              refine ⟨⟨k + 1, e3, f3, by omega, by simp, HR3, HD.out.1, HD.out.2.1, HD.out.2.2⟩, by simp [intOf]; omega⟩
      · have hkn : k = len1 := by omega
        subst hkn
        go_wp2_with fail
        refine (HSP.out _).mono ?_
        rintro r w4 ⟨rfl, f4⟩
        go_wp2
        go_ret
        exact ⟨rfl, HFW.out.seq' f4⟩

set_option maxRecDepth 100000 in
theorem lifted (os : Os) (started : os.Started) (H : Type) (enc : TypeId × Value → H) :
    ReturnsInHanded {} Try.checked os 4 .any (Rows.voteStepsSpec.pre6 enc Try.prog Try.f4 Rows.voteStepsRow.domain false) (Rows.voteStepsSpec.post enc Try.prog Try.f4 false true false false) := by
  refine returnsInHanded_of_change_sized (C := Try.checked) own started (by kernel_rfl) Try.func4
    (ChangeSpec.witness6 (enc := enc) (C := Try.checked) false ⟨#[], #[.agg #[.int .i64 0, .int .i64 0], .slice none 0 0], []⟩ 8 (by kernel_rfl) (by kernel_rfl) (by kernel_rfl) (by kernel_rfl)) ?_
  intro W base args ds gs before hval0 hW hcnd hsz0 _
  have hsz : (DataW.weightsEach Try.prog (Try.f4.params.toList ++ Rows.voteStepsSpec.plain.varTypes Try.prog) (ds ++ gs)).all (· ≤ reachBytes) = true := hsz0
  clear hsz0
  have hval : ∀ (j : Nat) t v, Try.f4.params[j]? = some t → args[j]? = some v → Value.okWide Try.prog W .any base t v := hval0
  have hW' := hW
  obtain ⟨p, q, hA0, hV, rfl, hfz, hnd⟩ := hW
  have hA : DataW.TrodAll enc Try.prog W 0 (fun _ => true) true Try.f4.params.toList args.toList ds p := hA0
  rw [Try.params4] at hA hval hsz
  obtain ⟨v0, vs0, d0, ds0, p0, q0, hargs, rfl, rfl, h0, r0⟩ := trodAll_cons hA
  obtain ⟨v1, vs1, d1, ds1, p1, q1, rfl, rfl, rfl, h1, r1⟩ := trodAll_cons r0
  obtain ⟨rfl, rfl, rfl⟩ := trodAll_nil r1
  obtain rfl : args = #[v0, v1] := by cases args; simp_all
  obtain ⟨rfl, rfl⟩ := trodVars_none hV
  have k0 := h0
  have lt0 : ∀ x ∈ p0, x.block < W.heap.size := by obtain ⟨m, hm⟩ := k0; exact DataW.trod_lt m _ _ _ hm
  obtain ⟨pe0, pf0, rfl, we0, wf0⟩ := prom_open (hval 0 23 v0 rfl rfl) h0
  obtain ⟨a1, len1, cap1, rfl⟩ := okWide_slice Try.underlying41 (hval 1 41 v1 rfl rfl)
  have k1 := h1
  have lt1 : ∀ x ∈ p1, x.block < W.heap.size := by obtain ⟨m, hm⟩ := k1; exact DataW.trod_lt m _ _ _ hm
  have wz1 : ∀ z ∈ d1.weights Try.prog 41, z ≤ reachBytes := fun z hz => by simpa using List.all_eq_true.1 hsz z (DataW.weights_mem_each (j := 1) rfl rfl z hz)
  obtain ⟨rs1, hl1, hb1, hr1⟩ : ∃ rs : List (List Int), len1 = rs.length ∧ rs.length * (8 * 7) ≤ 140737488351232 ∧ Rws W a1 cap1 7 rs := by
    obtain ⟨fuel, hf⟩ := h1
    exact rws_open Try.underlying41 cellsSt (by decide) bytesSt step_ints hf wz1
  clear hA0 hval0
  refine (walk W pe0 pf0 we0 wf0 a1 len1 cap1 rs1 hl1 hb1 hr1).mono fun e W' ⟨he, fr⟩ => ?_
  have bel : Below W.heap.size W W' := fr.below (Nat.le_refl _) (fun _ f => f.elim)
  subst he
  exact ⟨_, rfl, _, _, _, [], _, [], hW', trodAll_mk1 (shut_bool Try.underlying4 _), (trodAll_cons_mk (Below.trod laidOut (by kernel_rfl) (of_decide_eq_true (by kernel_rfl)) k0 bel lt0) (trodAll_cons_mk (Below.trod laidOut (by kernel_rfl) (of_decide_eq_true (by kernel_rfl)) k1 bel lt1) trodAll_mk0)), rfl, bel.frame _, fun h => by cases h⟩

theorem proved : Rows.VoteStepsSaid :=
  OpenClaim.holds_of_wide 4 Try.f4 rfl rfl rfl rfl rfl rfl rfl ⟨rfl, rfl, rfl, rfl, rfl⟩ rfl rfl rfl rfl rfl (by kernel_rfl) Try.func4 (by kernel_rfl)
    (of_decide_eq_true (by kernel_rfl)) (by unfold Func.isWrapper; first | (rw [if_pos (by decide +kernel)]; kernel_rfl) | (rw [if_neg (by decide +kernel)]; exact ⟨rfl, rfl⟩))
    (fun os started H enc _ => lifted os started H enc)
end Go.Proofs.Ytbfkacahaocpfaa.voteSteps
namespace Go.Proofs.Ytbfkacahaocpfaa
theorem voteSteps_holds : Rows.VoteStepsSaid := voteSteps.proved
#print axioms voteSteps_holds
end Go.Proofs.Ytbfkacahaocpfaa
