
/- For any records and any sendings: a log that takes only what another one sent, in any order, however often, is always a beginning of it, and all of it where each record came in turn, and the example speaks; with no condition but those of the statement's own form. -/
import Derived.Test.YtnhmickolfbldaaSB8
import Derived.Test.YtnhmickolfbldaaShOneM
import Derived.Test.YtnhmickolfbldaaShSpk
import Derived.Test.YtnhmickolfbldaaShBoth
import Derived.Test.YtnhmickolfbldaaShSnt
namespace Go.Proofs.Ytnhmickolfbldaa.shipOne
open Go.ChangeShapes Go.WideShapes Go.ChangeAt Go.RowKit
open Go.ChangeMaps (open_string shut_string)
set_option linter.unusedVariables false

theorem own : ownKnob Try.prog.godebug = none := by kernel_rfl
theorem laidOut : laidOutB Try.prog = true := by kernel_rfl
theorem bytes8 : Try.prog.bytesOf 5 = 1 := by kernel_rfl

open Go.RowKit
set_option maxRecDepth 100000 in
set_option maxHeartbeats 16000000 in
theorem walk (w : World) (a : Option Addr) (q c : Nat) (rs : List Rec) (hq : q = rs.length) (hb : q * 80 ≤ 140737488355328) (h : Recs w a c rs) (hz : ∀ r ∈ rs, r.key.size ≤ 140737488351232 ∧ r.val.size ≤ 140737488351232) (a' : Option Addr) (q' c' : Nat) (ss : List Sn9) (hq' : q' = ss.length) (hsz : ss.length ≤ 8796093021952) (h' : Snts w a' c' ss) :
    Calls Try.prog 5 #[.slice a q c, .slice a' q' c'] w fun e w' => e = .returned (.bool true) ∧ Fr (fun _ => False) w w' := by
  have HSP : Hid (∀ W, Calls Try.prog 14 #[] W fun e w' => e = .returned (.bool true) ∧ Fr (fun _ => False) W w') := shspk_any
  have hbo := both_any a q c rs hq w h
  have HBO : Hid (∀ W e w', BoOut W rs e w' → ∃ rv rrv, e = .returned (.tuple #[.pointer (some ⟨W.heap.size, 0, none⟩), .pointer (some ⟨W.heap.size + 1, 0, none⟩)]) ∧ Bth W w' rv rrv (bthL rs)) := fun W e w' h => h
  have HWL : Hid (Wl (bthL rs)) := bth_wl rs
  have HS2 : Hid (∀ W, Fr (fun _ => False) w W → Snts W a' c' ss) := fun W f => h'.same f
  have hle : q' ≤ c' := by rw [hq']; exact h'.le
  have hmx := h'.max
  have HQ' : Hid (q' = ss.length) := hq'
  have hqb : q' ≤ 8796093021952 := by omega
  generalize bthL rs = X at *
  have hbig := HWL.out.big
  have hnw := wnew_any
  clear h h' hz hb hq hq' hsz
  go_enter Try.func5, Try.ntmps5
  go_wp2_with fail
  refine hbo.mono ?_
  intro e w1 hout
  obtain ⟨rv, rrv, rfl, B⟩ := HBO.out w e w1 hout
  have HX : Hid (∀ W, Fr (fun _ => False) w1 W → Lg W w.heap.size rv X 0) := fun W f => (B.same f).lg
  have HF1 : Hid (Fr (fun _ => False) w w1) := B.fr
  clear hbo hout HBO B
  go_wp2_with fail
  refine (hnw _).mono ?_
  rintro e w2 ⟨rfl, l2, f2, z2⟩
  have o2 : ∀ k, lgS w1.heap.size (.slice none 0 0) k → w1.heap.size ≤ k := by
    rintro k (e | e)
    · omega
    · cases e
  have hla := last_lg w.heap.size rv X 0 w2 (HX.out _ f2) HWL.out
  obtain ⟨yb, hyb⟩ : ∃ b, b = w1.heap.size := ⟨_, rfl⟩
  have HL0 : Hid (Lg w2 yb (.slice none 0 0) (X.take 0) 0) := by rw [hyb, List.take_zero]; exact l2
  have HO0 : Hid (∀ k, lgS yb (.slice none 0 0) k → w1.heap.size ≤ k) := by rw [hyb]; exact o2
  rw [← hyb]
  generalize lastE X = le at *
  clear l2 o2 z2 hyb hnw
  go_wp2_with fail
  refine hla.mono ?_
  rintro e w3 ⟨rfl, f3⟩
  have HF3 : Hid (Fr (fun _ => False) w1 w3) := f2.seq' f3
  have HL3 : Hid (Lg w3 yb (.slice none 0 0) (X.take 0) 0) := HL0.out.same f3
  clear f2 f3 HL0 hla
  have hwC : IntKind.i64.wrap ((q' : Int) + (X.length : Int)) = (q' : Int) + (X.length : Int) := by simp [IntKind.wrap, IntKind.bits, IntKind.signed]; omega
  have hwD : IntKind.i64.wrap ((q' : Int) + (X.length : Int) + 1) = (q' : Int) + (X.length : Int) + 1 := by simp [IntKind.wrap, IntKind.bits, IntKind.signed]; omega
  have hwE : IntKind.i64.wrap ((X.length : Int) + 1) = (X.length : Int) + 1 := by simp [IntKind.wrap, IntKind.bits, IntKind.signed]; omega
  go_wp2
  go_loopw [10] (fun i wr => ∃ (k j : Nat) (rvY : Value), k ≤ q' + X.length + 1 ∧ i = .int .i64 k ∧ Hid (Lg wr yb rvY (X.take j) 0) ∧ Hid (∀ k, lgS yb rvY k → w1.heap.size ≤ k) ∧ Hid (Fr (fun _ => False) w1 wr) ∧ Hid (j ≤ X.length ∧ (q' ≤ k → min (k - q') X.length ≤ j))) (fun i _ => q' + X.length + 1 - (intOf i).toNat)
  case atStart => exact ⟨0, 0, _, by omega, rfl, HL3, HO0, HF3, ⟨by omega, fun h => by omega⟩⟩
  case round =>
    obtain ⟨k, j, rvY, hk, rfl, HL, HO, HF, HJ⟩ := hrel
    by_cases hlt : k < q' + X.length + 1
    · have hlt' : (k : Int) < (q' : Int) + (X.length : Int) + 1 := by omega
      have hwA : IntKind.i64.wrap ((k : Int) - (q' : Int)) = (k : Int) - (q' : Int) := by simp [IntKind.wrap, IntKind.bits, IntKind.signed]; omega
      have hwB : IntKind.i64.wrap ((k : Int) - (q' : Int) + 1) = (k : Int) - (q' : Int) + 1 := by simp [IntKind.wrap, IntKind.bits, IntKind.signed]; omega
      have T0 := Two.new wr 61 (.int .i64 ((k : Int) - (q' : Int) + 1)) (.int .i64 1)
      have fB := Fr.box wr (.cells #[.int .i64 ((k : Int) - (q' : Int) + 1), .int .i64 1] 61)
      obtain ⟨t0, t1, t2, t3⟩ := T0.cells
      go_upto_if 58 with fail
      go_cut [] (fun wc => ∃ (f0 mny : Int), Hid (Two wc wr.heap.size 61 (.int .i64 f0) (.int .i64 mny)) ∧ Hid (Fr (fun _ => False) wr wc) ∧ Hid (q' ≤ k → f0 = (k : Int) - q' + 1 ∧ mny = 1))
      case first =>
        by_cases hkq : k < q'
        · have dk : (k : Int) < (q' : Int) := by omega
          have dk' : decide ((k : Int) < (q' : Int)) = true := decide_eq_true dk
          obtain ⟨s, hs⟩ : ∃ s, ss[k]? = some s := ⟨_, List.getElem?_eq_getElem (by have := HQ'.out; omega)⟩
          have hst := HS2.out _ ((HF1.out.seq' HF.out).seq' fB)
          obtain ⟨b, off, rfl, hb, hc⟩ := hst.some (by have := HQ'.out; omega)
          obtain ⟨q0, q1⟩ := hc k s hs
          have HE : Hid (Two (wr.alloc (.cells #[.int .i64 s.pg, .int .i64 s.fst] 61)) wr.heap.size 61 (.int .i64 s.pg) (.int .i64 s.fst)) := Two.new wr _ _ _
          have HG : Hid (Fr (fun _ => False) wr (wr.alloc (.cells #[.int .i64 s.pg, .int .i64 s.fst] 61))) := Fr.box wr _
          clear hst hc hs T0
          go_wp2
          go_meet
          exact ⟨s.pg, s.fst, HE, HG, fun h => by omega⟩
        · have dk' : decide ((k : Int) < (q' : Int)) = false := decide_eq_false (by omega)
          have dk2 : decide (k < q') = false := decide_eq_false hkq
          go_wp2
          go_meet
          exact ⟨_, _, T0, fB, fun _ => ⟨rfl, rfl⟩⟩
      case rest =>
      obtain ⟨f0, mny, HTa, HFa, HKa⟩ := hcut
      clear t0 t1 t2 t3 T0 fB
      obtain ⟨t0, t1, t2, t3⟩ := HTa.out.cells
      have HTA : Hid (∀ nq, Two (wc.drewN nq) wr.heap.size 61 (.int .i64 f0) (.int .i64 mny) ∧ Fr (fun _ => False) wr (wc.drewN nq)) := fun nq => ⟨HTa.out.fr (Fr.drewN (Fr.refl (fun _ => False) wc) nq) (fun f => f), Fr.drewN HFa.out nq⟩
      obtain ⟨W0, hW0⟩ : ∃ W, W = wc := ⟨_, rfl⟩
      rw [← hW0] at HTa HFa t0 t1 t2 t3 HTA ⊢
      clear hW0
      obtain ⟨BB, hBB⟩ : ∃ b : Bool, b = (decide (f0 < 1) || decide ((X.length : Int) + 1 < f0)) := ⟨_, rfl⟩
      have HBB : Hid (BB = (decide (f0 < 1) || decide ((X.length : Int) + 1 < f0))) := hBB
      go_upto_region 12 with fail
      go_cut [72] (fun t wc => t = .bool BB ∧ ∃ W, W0 = W ∧ W = wc)
      case first =>
        by_cases c1 : f0 < 1
        · have d1 : decide (f0 < 1) = true := decide_eq_true c1
          rw [d1] at hBB
          have e1 : BB = true := hBB
          go_wp2
          all_goals go_meet
          all_goals exact ⟨by rw [e1], _, rfl, rfl⟩
        · have d1 : decide (f0 < 1) = false := decide_eq_false c1
          rw [d1] at hBB
          have e1 : BB = decide ((X.length : Int) + 1 < f0) := hBB
          by_cases c2 : (X.length : Int) + 1 < f0
          · have d2 : decide ((X.length : Int) + 1 < f0) = true := decide_eq_true c2
            rw [d2] at e1
            go_wp2
            all_goals go_meet
            all_goals exact ⟨by rw [e1], _, rfl, rfl⟩
          · have d2 : decide ((X.length : Int) + 1 < f0) = false := decide_eq_false c2
            rw [d2] at e1
            go_wp2
            all_goals go_meet
            all_goals exact ⟨by rw [e1], _, rfl, rfl⟩
      case rest =>
      obtain ⟨rfl, _, rfl, rfl⟩ := hcut
      clear hBB
      go_upto_if 72 with fail
      go_cut [] (fun wc => ∃ (fn : Nat), Hid (Two wc wr.heap.size 61 (.int .i64 fn) (.int .i64 mny)) ∧ Hid (Fr (fun _ => False) wr wc) ∧ Hid ((1 ≤ fn ∧ fn ≤ X.length + 1) ∧ (q' ≤ k → fn = k - q' + 1 ∧ mny = 1)))
      case first =>
        cases BB
        · have hk0 := HBB.out
          rw [eq_comm, Bool.or_eq_false_iff, decide_eq_false_iff_not, decide_eq_false_iff_not] at hk0
          have e0 : f0 = ((f0.toNat : Nat) : Int) := by omega
          have HR : Hid (Two W0 wr.heap.size 61 (.int .i64 (f0.toNat : Nat)) (.int .i64 mny)) := by rw [← e0]; exact HTa
          have HK : Hid ((1 ≤ f0.toNat ∧ f0.toNat ≤ X.length + 1) ∧ (q' ≤ k → f0.toNat = k - q' + 1 ∧ mny = 1)) := ⟨by omega, fun h => by have := HKa.out h; omega⟩
          go_wp2
          go_meet
          exact ⟨f0.toNat, HR, HFa, HK⟩
        · have hk0 := HBB.out
          rw [eq_comm, Bool.or_eq_true, decide_eq_true_eq, decide_eq_true_eq] at hk0
          have HR : Hid (Two (W0.setCell ⟨wr.heap.size, 0, none⟩ (.int .i64 1)) wr.heap.size 61 (.int .i64 ((1 : Nat) : Int)) (.int .i64 mny)) := HTa.out.set0 _
          have HG : Hid (Fr (fun _ => False) wr (W0.setCell ⟨wr.heap.size, 0, none⟩ (.int .i64 1))) := HFa.out.trans ((Fr.refl (fun i => i = wr.heap.size) W0).setCell (p := ⟨wr.heap.size, 0, none⟩) (fun _ => rfl) _) (fun i hi e => by omega)
          have HK : Hid ((1 ≤ 1 ∧ 1 ≤ X.length + 1) ∧ (q' ≤ k → 1 = k - q' + 1 ∧ mny = 1)) := ⟨by omega, fun h => by have := HKa.out h; omega⟩
          go_wp2
          go_meet
          exact ⟨1, HR, HG, HK⟩
      case rest =>
      obtain ⟨fn, HTb, HFb, HKb⟩ := hcut
      clear t0 t1 t2 t3 HTa HFa HKa HTA HBB
      obtain ⟨t0, t1, t2, t3⟩ := HTb.out.cells
      have hsn := snew_yes (fn : Int) (by have := HKb.out; omega) (by have := HKb.out; omega) wc
      go_wp2_with fail
      refine hsn.mono ?_
      rintro e w5 ⟨rfl, T5, f5⟩
      have HF5 : Hid (Fr (fun _ => False) wr w5) := HFb.out.seq' f5
      have hsd := send_any wc.heap.size fn 0 mny (by have := HKb.out; omega) (by have := HKb.out; omega) w.heap.size rv X 0 w5 T5 (HX.out _ (HF.out.seq' HF5.out)) hbig
      clear t0 t1 t2 t3
      obtain ⟨t0, t1, t2, t3⟩ := (HTb.out.fr f5 (fun f => f)).cells
      obtain ⟨j', E, l', hTs, hj1, hj2, hE, hj3⟩ := take_sent HWL.out fn mny HKb.out.1.1 HKb.out.1.2 j HJ.out.1
      have hql := frF_len X fn mny
      have HSD : Hid (∀ e w', SdOut w5 X fn mny e w' → ∃ a c, e = .returned (.tuple #[.agg #[.int .i64 (gtR X ((fn : Int) - 1)).ep, .int .i64 (gtR X ((fn : Int) - 1)).lsn], .slice a (frF X fn mny).length c]) ∧ Recs w' a c (frF X fn mny) ∧ Nwr w5 a (frF X fn mny) ∧ Fr (fun _ => False) w5 w') := fun e w' h => h
      have HTK : Hid (∀ W rvY a c, Lg W yb rvY (X.take j) 0 → Recs W a c (frF X fn mny) → (∀ k, lgS yb rvY k → ∀ b o, a = some ⟨b, o, none⟩ → frF X fn mny ≠ [] → k ≠ b) → Calls Try.prog 10 #[.pointer (some ⟨yb, 0, none⟩), .agg #[.int .i64 (gtR X ((fn : Int) - 1)).ep, .int .i64 (gtR X ((fn : Int) - 1)).lsn], .slice a (frF X fn mny).length c] W fun e w' => e = .returned (.tuple #[.int .i64 l', .bool false, .int .i64 E]) ∧ LgTo W yb rvY (X.take j') w') := fun W rvY a c hl hr ho => by
        have := take_any yb rvY (X.take j) (gtR X ((fn : Int) - 1)).ep (gtR X ((fn : Int) - 1)).lsn a _ c (frF X fn mny) rfl (by omega) W hl (wl_take HWL.out j) hr ho
        rw [hTs] at this
        exact this
      have HJN : Hid (j' ≤ X.length ∧ (q' ≤ k + 1 → min (k + 1 - q') X.length ≤ j')) := ⟨hj2, fun h => by
        by_cases hq0 : q' ≤ k
        · have h1 := HJ.out.2 hq0
          obtain ⟨h2, h3⟩ := HKb.out.2 hq0
          by_cases hl0 : fn ≤ X.length
          · have := hj3 (by omega) (by omega) hl0; omega
          · omega
        · omega⟩
      generalize SdOut w5 X fn mny = OUT at *
      generalize (gtR X ((fn : Int) - 1)).ep = ge at *
      generalize (gtR X ((fn : Int) - 1)).lsn = gl at *
      generalize frF X fn mny = Q at *
      clear hTs hj1 hj3 hql hsn T5 f5
      go_wp2_with fail
      refine hsd.mono ?_
      intro e w6 hout
      obtain ⟨a6, c6, rfl, r6, n6, f6⟩ := HSD.out e w6 hout
      have b6 := Fr.box w6 (.cells #[.int .i64 ge, .int .i64 gl] 24)
      obtain ⟨v0, v1, _⟩ := (Two.new w6 24 (.int .i64 ge) (.int .i64 gl)).cells
      have HFB : Hid (Fr (fun _ => False) wr (w6.alloc (.cells #[.int .i64 ge, .int .i64 gl] 24))) := (HF5.out.seq' f6).seq' b6
      have htk := HTK.out _ rvY a6 c6 (HL.out.same HFB.out) (r6.same b6) (fun k e b o hb hne => by
        have h1 := n6 b o hb hne
        have h2 := HF5.out.size
        rcases e with e | e
        · have := lt_of_block HL.out.box; omega
        · have := HL.out.has.lt e; omega)
      clear hsd hout HSD HTK r6 n6 f6 b6 t0 t1 t2 t3
      go_wp2_with fail
      refine htk.mono ?_
      rintro e w7 ⟨rfl, hto⟩
      obtain ⟨rvZ, LZ, OZ, FZ⟩ := lg_step (HF.out.seq' HFB.out) HO.out hto
      have HLZ : Hid (Lg w7 yb rvZ (X.take j') 0) := LZ
      have HOZ : Hid (∀ k, lgS yb rvZ k → w1.heap.size ≤ k) := OZ
      have HFZ : Hid (Fr (fun _ => False) w1 w7) := FZ
      have hWZ := wl_take HWL.out j'
      have hlen : (X.take j').length = j' := by rw [List.length_take]; omega
      have hla := last_lg yb rvZ (X.take j') 0 w7 LZ hWZ
      rw [hlen] at hla
      have HLE : Hid ((X.take j').length = j') := hlen
      clear htk hto LZ OZ FZ v0 v1 hWZ hlen
      generalize lastE (X.take j') = lz at *
      go_wp2_with fail
      refine hla.mono ?_
      rintro e w8 ⟨rfl, g8⟩
      have HF8 : Hid (Fr (fun _ => False) w1 w8) := HFZ.out.seq' g8
      have HL8 : Hid (Lg w8 yb rvZ (X.take j') 0) := HLZ.out.same g8
      have hfa := from_lg 1 100000 (by omega) yb rvZ (X.take j') 0 w8 HL8.out (by rw [HLE.out]; omega)
      rw [frF_whole (by rw [HLE.out]; omega), HLE.out] at hfa
      have HFX : Hid (∀ W, Fr (fun _ => False) w8 W → Calls Try.prog 13 #[.pointer (some ⟨w.heap.size, 0, none⟩), .int .i64 1, .int .i64 (j' : Int)] W fun e w' => ∃ a c, e = .returned (.slice a j' c) ∧ Recs w' a c (X.take j') ∧ Nwr W a (X.take j') ∧ Fr (fun _ => False) W w') := fun W f => by
        have := from_lg 1 (j' : Int) (by omega) w.heap.size rv X 0 W (HX.out _ (HF8.out.seq' f)) hbig
        rw [frF_first, HLE.out] at this
        exact this
      have HPL : Hid (∀ (b1 b2 : Option Addr) (d1 d2 : Nat) W, Recs W b1 d1 (X.take j') → Recs W b2 d2 (X.take j') → Calls Try.prog 12 #[.slice b1 j' d1, .slice b2 j' d2] W fun e w' => e = .returned (.bool true) ∧ Fr (fun _ => False) W w') := fun b1 b2 d1 d2 W h1 h2 => plain_recs b1 b2 _ _ d1 d2 _ HLE.out.symm HLE.out.symm W h1 h2
      have dgt : decide ((X.length : Int) < (j' : Int)) = false := decide_eq_false (by omega)
      clear hla g8 HLZ HFZ HTb HFb HKb HF5 HFB
      rcases hE with rfl | rfl
      all_goals
        go_wp2_with fail
        refine hfa.mono ?_
        rintro e w9 ⟨a9, c9, rfl, r9, _, g9⟩
        have hfx := HFX.out w9 g9
        have HR9 : Hid (Recs w9 a9 c9 (X.take j')) := r9
        have HF9 : Hid (Fr (fun _ => False) w8 w9) := g9
        clear hfa r9 g9
        go_wp2_with fail
        refine hfx.mono ?_
        rintro e w10 ⟨aX, cX, rfl, rX, _, gX⟩
        have hpl := HPL.out _ _ _ _ _ (HR9.out.same gX) rX
        have HFT : Hid (Fr (fun _ => False) w8 w10) := HF9.out.seq' gX
        clear hfx rX gX
        go_wp2_with fail
        refine hpl.mono ?_
        rintro e w11 ⟨rfl, gY⟩
        have HFE : Hid (Fr (fun _ => False) w8 w11) := HFT.out.seq' gY
        clear hpl gY
        go_wp2
        go_roundw
        case rel => exact ⟨k + 1, j', rvZ, by omega, by go_num, HL8.out.same HFE.out, HOZ, HF8.out.seq' HFE.out, HJN⟩
        case measure => simp [intOf]; omega
    · have hki : decide ((k : Int) < (q' : Int) + (X.length : Int) + 1) = false := decide_eq_false (by omega)
      have hjX : j = X.length := by have := HJ.out; omega
      have hXX : X.take j = X := by rw [hjX, List.take_length]
      have hla := last_lg yb rvY X 0 wr (by have := HL.out; rw [hXX] at this; exact this) HWL.out
      have HFW : Hid (Fr (fun _ => False) w wr) := HF1.out.seq' HF.out
      generalize lastE X = lz at *
      go_wp2_with fail
      refine hla.mono ?_
      rintro e w8 ⟨rfl, g8⟩
      have hsp := HSP.out w8
      have deq : (((X.length : Nat) : Int) == ((X.length : Nat) : Int)) = true := by simp
      go_wp2_with fail
      refine hsp.mono ?_
      rintro e w9 ⟨rfl, g9⟩
      go_wp2
      go_ret
      exact ⟨rfl, (HFW.out.seq' g8).seq' g9⟩

set_option maxRecDepth 100000 in
theorem lifted (os : Os) (started : os.Started) (H : Type) (enc : TypeId × Value → H) :
    ReturnsInHanded {} Try.checked os 5 .any (Rows.shipOneSpec.pre6 enc Try.prog Try.f5 Rows.shipOneRow.domain false) (Rows.shipOneSpec.post enc Try.prog Try.f5 false true false false) := by
  refine returnsInHanded_of_change_sized (C := Try.checked) own started (by kernel_rfl) Try.func5
    (ChangeSpec.witness6 (enc := enc) (C := Try.checked) false ⟨#[], #[.slice none 0 0, .slice none 0 0], []⟩ 8 (by kernel_rfl) (by kernel_rfl) (by kernel_rfl) (by kernel_rfl)) ?_
  intro W base args ds gs before hval0 hW hcnd hsz0 _
  have hsz : (DataW.weightsEach Try.prog (Try.f5.params.toList ++ Rows.shipOneSpec.plain.varTypes Try.prog) (ds ++ gs)).all (· ≤ reachBytes) = true := hsz0
  clear hsz0
  have hval : ∀ (j : Nat) t v, Try.f5.params[j]? = some t → args[j]? = some v → Value.okWide Try.prog W .any base t v := hval0
  have hW' := hW
  obtain ⟨p, q, hA0, hV, rfl, hfz, hnd⟩ := hW
  have hA : DataW.TrodAll enc Try.prog W 0 (fun _ => true) true Try.f5.params.toList args.toList ds p := hA0
  rw [Try.params5] at hA hval hsz
  obtain ⟨v0, vs0, d0, ds0, p0, q0, hargs, rfl, rfl, h0, r0⟩ := trodAll_cons hA
  obtain ⟨v1, vs1, d1, ds1, p1, q1, rfl, rfl, rfl, h1, r1⟩ := trodAll_cons r0
  obtain ⟨rfl, rfl, rfl⟩ := trodAll_nil r1
  obtain rfl : args = #[v0, v1] := by cases args; simp_all
  obtain ⟨rfl, rfl⟩ := trodVars_none hV
  obtain ⟨a0, len0, cap0, rfl⟩ := okWide_slice Try.underlying22 (hval 0 22 v0 rfl rfl)
  have k0 := h0
  have lt0 : ∀ x ∈ p0, x.block < W.heap.size := by obtain ⟨m, hm⟩ := k0; exact DataW.trod_lt m _ _ _ hm
  have wz0 : ∀ z ∈ d0.weights Try.prog 22, z ≤ reachBytes := fun z hz => by simpa using List.all_eq_true.1 hsz z (DataW.weights_mem_each (j := 0) rfl rfl z hz)
  obtain ⟨ls0, hl0, hb0, hr0, hz0⟩ : ∃ ls : List Rec, len0 = ls.length ∧ len0 * 80 ≤ 140737488355328 ∧ Recs W a0 cap0 ls ∧ ∀ r ∈ ls, r.key.size ≤ 140737488351232 ∧ r.val.size ≤ 140737488351232 := by
    obtain ⟨fuel, hf⟩ := h0
    exact recs_open2 hf wz0
  obtain ⟨a1, len1, cap1, rfl⟩ := okWide_slice Try.underlying58 (hval 1 58 v1 rfl rfl)
  have k1 := h1
  have lt1 : ∀ x ∈ p1, x.block < W.heap.size := by obtain ⟨m, hm⟩ := k1; exact DataW.trod_lt m _ _ _ hm
  have wz1 : ∀ z ∈ d1.weights Try.prog 58, z ≤ reachBytes := fun z hz => by simpa using List.all_eq_true.1 hsz z (DataW.weights_mem_each (j := 1) rfl rfl z hz)
  obtain ⟨ls1, hl1, z1, hr1⟩ : ∃ ls : List Sn9, len1 = ls.length ∧ ls.length ≤ 8796093021952 ∧ Snts W a1 cap1 ls := by
    obtain ⟨fuel, hf⟩ := h1
    exact snts_open hf wz1
  clear hA0 hval0
  refine (walk W a0 len0 cap0 ls0 hl0 hb0 hr0 hz0 a1 len1 cap1 ls1 hl1 z1 hr1).mono fun e W' ⟨he, fr⟩ => ?_
  have bel : Below W.heap.size W W' := fr.below (Nat.le_refl _) (fun _ f => f.elim)
  subst he
  exact ⟨_, rfl, _, _, _, [], _, [], hW', trodAll_mk1 (shut_bool Try.underlying4 _), (trodAll_cons_mk (Below.trod laidOut (by kernel_rfl) (of_decide_eq_true (by kernel_rfl)) k0 bel lt0) (trodAll_cons_mk (Below.trod laidOut (by kernel_rfl) (of_decide_eq_true (by kernel_rfl)) k1 bel lt1) trodAll_mk0)), rfl, bel.frame _, fun h => by cases h⟩

theorem proved : Rows.ShipOneSaid :=
  OpenClaim.holds_of_wide 5 Try.f5 rfl rfl rfl rfl rfl rfl rfl ⟨rfl, rfl, rfl, rfl, rfl⟩ rfl rfl rfl rfl rfl (by kernel_rfl) Try.func5 (by kernel_rfl)
    (of_decide_eq_true (by kernel_rfl)) (by unfold Func.isWrapper; first | (rw [if_pos (by decide +kernel)]; kernel_rfl) | (rw [if_neg (by decide +kernel)]; exact ⟨rfl, rfl⟩))
    (fun os started H enc _ => lifted os started H enc)
end Go.Proofs.Ytnhmickolfbldaa.shipOne
namespace Go.Proofs.Ytnhmickolfbldaa
theorem shipOne_holds : Rows.ShipOneSaid := shipOne.proved
#print axioms shipOne_holds
end Go.Proofs.Ytnhmickolfbldaa
