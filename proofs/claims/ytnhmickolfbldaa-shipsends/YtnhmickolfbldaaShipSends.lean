
/- For any records, any beginning and any steps, a sender of package ship does at each step as the document's own, and the example speaks; with no condition but those of the statement's own form. -/
import Derived.Test.YtnhmickolfbldaaSB8
import Derived.Test.YtnhmickolfbldaaShRSd
import Derived.Test.YtnhmickolfbldaaShSpk
import Derived.Test.YtnhmickolfbldaaShBoth
import Derived.Test.YtnhmickolfbldaaShArg
import Derived.Test.YtnhmickolfbldaaShStp
namespace Go.Proofs.Ytnhmickolfbldaa.shipSends
open Go.ChangeShapes Go.WideShapes Go.ChangeAt Go.RowKit
open Go.ChangeMaps (open_string shut_string)
set_option linter.unusedVariables false

theorem own : ownKnob Try.prog.godebug = none := by kernel_rfl
theorem laidOut : laidOutB Try.prog = true := by kernel_rfl
theorem bytes8 : Try.prog.bytesOf 5 = 1 := by kernel_rfl

open Go.RowKit
set_option maxRecDepth 100000 in
set_option maxHeartbeats 16000000 in
theorem walk (w : World) (a : Option Addr) (q c : Nat) (rs : List Rec) (hq : q = rs.length) (hb : q * 80 ≤ 140737488355328) (h : Recs w a c rs) (hz : ∀ r ∈ rs, r.key.size ≤ 140737488351232 ∧ r.val.size ≤ 140737488351232) (x : Int) (wf : (Lit.int .i64 x).wf = true) (a' : Option Addr) (q' c' : Nat) (ss : List (Int × Int)) (hq' : q' = ss.length) (h' : Steps2 w a' c' ss) :
    Calls Try.prog 4 #[.slice a q c, .int .i64 x, .slice a' q' c'] w fun e w' => e = .returned (.bool true) ∧ Fr (fun _ => False) w w' := by
  have HSP : Hid (∀ W, Calls Try.prog 14 #[] W fun e w' => e = .returned (.bool true) ∧ Fr (fun _ => False) W w') := shspk_any
  have hbo := both_any a q c rs hq w h
  have HBO : Hid (∀ W e w', BoOut W rs e w' → ∃ rv rrv, e = .returned (.tuple #[.pointer (some ⟨W.heap.size, 0, none⟩), .pointer (some ⟨W.heap.size + 1, 0, none⟩)]) ∧ Bth W w' rv rrv (bthL rs)) := fun W e w' h => h
  have HWL : Hid (Wl (bthL rs)) := bth_wl rs
  have HS2 : Hid (∀ W, Fr (fun _ => False) w W → Steps2 W a' c' ss) := fun W f => h'.same f
  have hle : q' ≤ c' := by rw [hq']; exact h'.le
  have hmx := h'.max
  have HQ' : Hid (q' = ss.length) := hq'
  generalize bthL rs = L at *
  have hbig := HWL.out.big
  clear h h' hz hb hq hq' wf
  by_cases hx : 1 ≤ x ∧ x ≤ 1099511627776
  rotate_left
  · have hs := snew_no x hx
    have ht := rsnew_no x hx
    clear hx
    go_enter Try.func4, Try.ntmps4
    go_wp2_with fail
    refine hbo.mono ?_
    intro e w1 hout
    obtain ⟨rv, rrv, rfl, B⟩ := HBO.out w e w1 hout
    have F1 := B.fr
    clear hbo hout B
    go_wp2_with fail
    refine (hs _).mono ?_
    rintro e w2 ⟨rfl, rfl⟩
    go_wp2_with fail
    refine (ht _).mono ?_
    rintro e w2 ⟨rfl, rfl⟩
    go_wp2_with fail
    refine (HSP.out _).mono ?_
    rintro e w3 ⟨rfl, f3⟩
    go_wp2
    go_ret
    exact ⟨rfl, F1.seq' f3⟩
  have hs := fun W => snew_yes x hx.1 hx.2 W
  have ht := fun W => rsnew_yes x hx.1 hx.2 W
  go_enter Try.func4, Try.ntmps4
  go_wp2_with fail
  refine hbo.mono ?_
  intro e w1 hout
  obtain ⟨rv, rrv, rfl, B⟩ := HBO.out w e w1 hout
  clear hbo hout
  go_wp2_with fail
  refine (hs _).mono ?_
  rintro e w2 ⟨rfl, T2, f2⟩
  go_wp2_with fail
  refine (ht _).mono ?_
  rintro e w3 ⟨rfl, T3, f3⟩
  have B3 := (B.same f2).same f3
  have HZ : Hid (w1.heap.size < w2.heap.size ∧ w2.heap.size < w3.heap.size ∧ w.heap.size + 1 < w1.heap.size) := ⟨T2.lt, T3.lt, by have := lt_of_block B.rlg.box; exact this⟩
  have HOB : Hid (∀ k, lgS w.heap.size rv k ∨ lgS (w.heap.size + 1) rrv k → k < w1.heap.size) := fun k e => by
    rcases e with (e | e) | (e | e)
    · rw [e]; exact lt_of_block B.lg.box
    · exact B.lg.has.lt e
    · rw [e]; exact lt_of_block B.rlg.box
    · exact B.rlg.has.lt e
  have HBT : Hid (∀ W, Fr (fun k => k = w1.heap.size ∨ k = w2.heap.size) w3 W → Bth w W rv rrv L) := fun W f => by
    have z := HZ.out
    refine ⟨B3.lg.fr f ?_ ?_, B3.rlg.fr f ?_ ?_, B3.o1, B3.o2, B3.fr.trans f (fun i hi e => by omega)⟩
    · intro e; omega
    · intro k hk e; have := HOB.out k (.inl (.inr hk)); omega
    · intro e; omega
    · intro k hk e; have := HOB.out k (.inr (.inr hk)); omega
  have HS0 : Hid (Two w3 w1.heap.size 85 (.int .i64 x) (.int .i64 0)) := T2.fr f3 (fun f => f)
  have HT0 : Hid (Two w3 w2.heap.size 56 (.int .i64 x) (.int .i64 0)) := T3
  clear T2 T3 f2 f3 B B3 hs ht HBO
  go_wp2
  go_loopw [51] (fun i wr => ∃ (k : Nat) (n m : Int), k ≤ q' ∧ i = .int .i64 k ∧ (0 ≤ m ∧ m < n ∧ n ≤ 1099511627776) ∧ Hid (Two wr w1.heap.size 85 (.int .i64 n) (.int .i64 m)) ∧ Hid (Two wr w2.heap.size 56 (.int .i64 n) (.int .i64 m)) ∧ Hid (Fr (fun k => k = w1.heap.size ∨ k = w2.heap.size) w3 wr)) (fun i _ => q' - (intOf i).toNat)
  case atStart => exact ⟨0, x, 0, by omega, rfl, ⟨by omega, by omega, by omega⟩, HS0, HT0, Fr.refl _ _⟩
  case round =>
    obtain ⟨k, n, m, hk, rfl, ⟨hm0, hm1, hm2⟩, HS, HT, HF⟩ := hrel
    by_cases hlt : k < q'
    · obtain ⟨s, hs⟩ : ∃ s, ss[k]? = some s := ⟨_, List.getElem?_eq_getElem (by have := HQ'.out; omega)⟩
      have hst := HS2.out _ (HBT.out _ HF.out).fr
      obtain ⟨b, off, rfl, hb, hc⟩ : ∃ b off, a' = some ⟨b, off, none⟩ ∧ b < wr.heap.size ∧ ∀ i s, ss[i]? = some s → wr.cell? ⟨b, off + i * 2, none⟩ = some (.int .i64 s.1) ∧ wr.cell? ⟨b, off + i * 2 + 1, none⟩ = some (.int .i64 s.2) := by
        rcases hst.at_ with h0 | h0
        · rw [h0] at hs; simp at hs
        · exact h0
      obtain ⟨q0, q1⟩ := hc k s hs
      obtain ⟨pK, pN⟩ := s
      dsimp only at q0 q1
      have hki : (k : Int) < (q' : Int) := by omega
      have fB := Fr.box wr (.cells #[.int .i64 pK, .int .i64 pN] 48)
      have HP : Hid (∀ W, Fr (fun _ => False) (wr.alloc (.cells #[.int .i64 pK, .int .i64 pN] 48)) W → Two W wr.heap.size 48 (.int .i64 pK) (.int .i64 pN)) := fun W f => (Two.new wr _ _ _).fr f (fun f => f)
      have HS1 : Hid (Two (wr.alloc (.cells #[.int .i64 pK, .int .i64 pN] 48)) w1.heap.size 85 (.int .i64 n) (.int .i64 m)) := HS.out.fr fB (fun f => f)
      have HT1 : Hid (Two (wr.alloc (.cells #[.int .i64 pK, .int .i64 pN] 48)) w2.heap.size 56 (.int .i64 n) (.int .i64 m)) := HT.out.fr fB (fun f => f)
      have HF1 : Hid (Fr (fun k => k = w1.heap.size ∨ k = w2.heap.size) w3 (wr.alloc (.cells #[.int .i64 pK, .int .i64 pN] 48))) := HF.out.trans fB (fun _ _ e => e.elim)
      have HZ0 : Hid (w1.heap.size < w2.heap.size ∧ w2.heap.size < wr.heap.size) := ⟨HZ.out.1, HT.out.lt⟩
      obtain ⟨y0, y1⟩ := (HP.out _ (Fr.refl _ _)).fst
      have p1 := (HP.out _ (Fr.drew (Fr.refl _ _))).fst
      clear hc hs hst fB HS HT HF
      have HZ := HZ0
      by_cases k0 : pK = 0
      · have d0 : (pK == 0) = true := by rw [k0]; rfl
        clear k0
        have hqa := acked_any w1.heap.size n m pN hm0 _ (HS1.out.fr (Fr.drew (Fr.refl (fun _ => False) _)) (fun f => f))
        have hqb := fun W (hT : Two W w2.heap.size 56 (.int .i64 n) (.int .i64 m)) => racked_any w2.heap.size n m pN hm0 W hT
        obtain ⟨B, hB⟩ : ∃ b, b = ackB m pN := ⟨_, rfl⟩
        obtain ⟨N, hN⟩ : ∃ x : Int, x = (if ackB m pN then pN + 1 else n) := ⟨_, rfl⟩
        obtain ⟨M, hM⟩ : ∃ x : Int, x = (if ackB m pN then pN else m) := ⟨_, rfl⟩
        rw [← hN, ← hM, ← hB] at hqa
        have HQB : Hid (∀ W, Two W w2.heap.size 56 (.int .i64 n) (.int .i64 m) → Calls Try.prog 18 #[.pointer (some ⟨w2.heap.size, 0, none⟩), .int .i64 pN] W (StOut W w2.heap.size 56 B N M)) := fun W hT => by
          have := hqb W hT
          rw [← hN, ← hM, ← hB] at this
          exact this
        have hbd : 0 ≤ M ∧ M < N ∧ N ≤ 1099511627776 := by
          rw [hN, hM]
          clear hqa hqb HQB
          cases hb : ackB m pN
          · exact ⟨hm0, hm1, hm2⟩
          · unfold ackB at hb
            rw [Bool.and_eq_true, decide_eq_true_eq, decide_eq_true_eq] at hb
            simp only [if_true]
            omega
        obtain ⟨bd0, bd1, bd2⟩ := hbd
        have HBD : Hid (0 ≤ M ∧ M < N ∧ N ≤ 1099511627776) := ⟨bd0, bd1, bd2⟩
        have hbb : (B != B) = false := by cases B <;> rfl
        clear hB hN hM hqb
        go_wp2_with fail
        go_region_held3 (fun W => W.cell? ⟨wr.heap.size, 0, none⟩ = some (.int .i64 pK) ∧ W.cell? ⟨wr.heap.size, 1, none⟩ = some (.int .i64 pN))
          (first | with_reducible exact p1 | with_reducible exact p2 | with_reducible exact p3 | fail)
          (first
            | (go_at_call 17; refine hqa.mono ?_; rintro e w5 ⟨rfl, t5, f5⟩; clear hqa; have p2 := ((HP.out _ (Fr.refl _ _)).fr (Fr.drew (Fr.refl (fun _ => False) _)) (fun f => f)).fr f5 (by have := HZ.out; omega) |>.fst; have tb5 := (HT1.out.fr (Fr.drew (Fr.refl (fun _ => False) _)) (fun f => f)).fr f5 (by have := HZ.out; omega); have hqb := HQB.out _ tb5; have HPw := (((HP.out _ (Fr.refl _ _)).fr (Fr.drew (Fr.refl (fun _ => False) _)) (fun f => f)).fr f5 (by have := HZ.out; omega)))
            | (go_at_call 18; refine hqb.mono ?_; rintro e w6 ⟨rfl, t6, f6⟩; clear hqb; have p3 := (HPw.fr f6 (by have := HZ.out; omega)).fst))
        have HSB2 : Hid (Two w6 w1.heap.size 85 (.int .i64 N) (.int .i64 M)) := t5.fr f6 (by have := HZ.out; omega)
        have HTB : Hid (Two w6 w2.heap.size 56 (.int .i64 N) (.int .i64 M)) := t6
        have HFW : Hid (Fr (fun k => k = w1.heap.size ∨ k = w2.heap.size) w3 w6) := ((HF1.out.trans (Fr.drew (Fr.refl (fun _ => False) _)) (fun _ _ e => e.elim)).trans f5 (fun _ _ e => .inl e)).trans f6 (fun _ _ e => .inr e)
        clear t5 f5 t6 f6 HPw p1 p2 p3 tb5 HQB HP HT1 HS1 HF1
        obtain ⟨ua, ub, _⟩ := HTB.out.cells
        have hat := at_some _ N M _ HSB2.out
        have hne1 : (N != N) = false := by simp
        have hne2 : (M != M) = false := by simp
        have hge : decide (N ≤ M) = false := decide_eq_false (by omega)
        go_wp2_with fail
        refine hat.mono ?_
        rintro e w9 ⟨rfl, g9⟩
        have HSB9 : Hid (Two w9 w1.heap.size 85 (.int .i64 N) (.int .i64 M)) := HSB2.out.fr g9 (fun f => f)
        have HTB9 : Hid (Two w9 w2.heap.size 56 (.int .i64 N) (.int .i64 M)) := HTB.out.fr g9 (fun f => f)
        have HF9 : Hid (Fr (fun k => k = w1.heap.size ∨ k = w2.heap.size) w3 w9) := HFW.out.trans g9 (fun _ _ e => e.elim)
        clear ua ub
        obtain ⟨ua, ub, _⟩ := HTB9.out.cells
        clear hat g9 HSB2 HTB HFW
        go_wp2
        go_roundw
        case rel => exact ⟨k + 1, N, M, by omega, by go_num, HBD.out, HSB9, HTB9, HF9⟩
        case measure => simp [intOf]; omega
      · have d0 : (pK == 0) = false := by rw [beq_eq_false_iff_ne]; exact k0
        by_cases k1 : pK = 1
        · have d1 : (pK == 1) = true := by rw [k1]; rfl
          clear k0 k1
          have hqa := refused_any w1.heap.size n m pN hm0 hm1 hm2 _ (HS1.out.fr (Fr.drew (Fr.refl (fun _ => False) _)) (fun f => f))
          have hqb := fun W (hT : Two W w2.heap.size 56 (.int .i64 n) (.int .i64 m)) => rrefused_any w2.heap.size n m pN hm0 hm1 hm2 W hT
          obtain ⟨B, hB⟩ : ∃ b, b = refB n m := ⟨_, rfl⟩
          obtain ⟨N, hN⟩ : ∃ x : Int, x = (if refB n m then refN n m pN else n) := ⟨_, rfl⟩
          obtain ⟨M, hM⟩ : ∃ x : Int, x = m := ⟨_, rfl⟩
          rw [← hN, ← hB, ← hM] at hqa
          have HQB : Hid (∀ W, Two W w2.heap.size 56 (.int .i64 n) (.int .i64 m) → Calls Try.prog 20 #[.pointer (some ⟨w2.heap.size, 0, none⟩), .int .i64 pN] W (StOut W w2.heap.size 56 B N M)) := fun W hT => by
            have := hqb W hT
            rw [← hN, ← hB, ← hM] at this
            exact this
          have hbd : 0 ≤ M ∧ M < N ∧ N ≤ 1099511627776 := by
            rw [hN, hM]
            clear hqa hqb HQB
            cases hb : refB n m
            · exact ⟨hm0, hm1, hm2⟩
            · unfold refB at hb
              rw [decide_eq_true_eq] at hb
              simp only [if_true]
              unfold refN
              split <;> omega
          obtain ⟨bd0, bd1, bd2⟩ := hbd
          have HBD : Hid (0 ≤ M ∧ M < N ∧ N ≤ 1099511627776) := ⟨bd0, bd1, bd2⟩
          have hbb : (B != B) = false := by cases B <;> rfl
          clear hB hN hM hqb
          go_wp2_with fail
          go_region_held3 (fun W => W.cell? ⟨wr.heap.size, 0, none⟩ = some (.int .i64 pK) ∧ W.cell? ⟨wr.heap.size, 1, none⟩ = some (.int .i64 pN))
            (first | with_reducible exact p1 | with_reducible exact p2 | with_reducible exact p3 | fail)
            (first
              | (go_at_call 19; refine hqa.mono ?_; rintro e w5 ⟨rfl, t5, f5⟩; clear hqa; have p2 := ((HP.out _ (Fr.refl _ _)).fr (Fr.drew (Fr.refl (fun _ => False) _)) (fun f => f)).fr f5 (by have := HZ.out; omega) |>.fst; have tb5 := (HT1.out.fr (Fr.drew (Fr.refl (fun _ => False) _)) (fun f => f)).fr f5 (by have := HZ.out; omega); have hqb := HQB.out _ tb5; have HPw := (((HP.out _ (Fr.refl _ _)).fr (Fr.drew (Fr.refl (fun _ => False) _)) (fun f => f)).fr f5 (by have := HZ.out; omega)))
              | (go_at_call 20; refine hqb.mono ?_; rintro e w6 ⟨rfl, t6, f6⟩; clear hqb; have p3 := (HPw.fr f6 (by have := HZ.out; omega)).fst))
          have HSB2 : Hid (Two w6 w1.heap.size 85 (.int .i64 N) (.int .i64 M)) := t5.fr f6 (by have := HZ.out; omega)
          have HTB : Hid (Two w6 w2.heap.size 56 (.int .i64 N) (.int .i64 M)) := t6
          have HFW : Hid (Fr (fun k => k = w1.heap.size ∨ k = w2.heap.size) w3 w6) := ((HF1.out.trans (Fr.drew (Fr.refl (fun _ => False) _)) (fun _ _ e => e.elim)).trans f5 (fun _ _ e => .inl e)).trans f6 (fun _ _ e => .inr e)
          clear t5 f5 t6 f6 HPw p1 p2 p3 tb5 HQB HP HT1 HS1 HF1
          obtain ⟨ua, ub, _⟩ := HTB.out.cells
          have hat := at_some _ N M _ HSB2.out
          have hne1 : (N != N) = false := by simp
          have hne2 : (M != M) = false := by simp
          have hge : decide (N ≤ M) = false := decide_eq_false (by omega)
          go_wp2_with fail
          refine hat.mono ?_
          rintro e w9 ⟨rfl, g9⟩
          have HSB9 : Hid (Two w9 w1.heap.size 85 (.int .i64 N) (.int .i64 M)) := HSB2.out.fr g9 (fun f => f)
          have HTB9 : Hid (Two w9 w2.heap.size 56 (.int .i64 N) (.int .i64 M)) := HTB.out.fr g9 (fun f => f)
          have HF9 : Hid (Fr (fun k => k = w1.heap.size ∨ k = w2.heap.size) w3 w9) := HFW.out.trans g9 (fun _ _ e => e.elim)
          clear ua ub
          obtain ⟨ua, ub, _⟩ := HTB9.out.cells
          clear hat g9 HSB2 HTB HFW
          go_wp2
          go_roundw
          case rel => exact ⟨k + 1, N, M, by omega, by go_num, HBD.out, HSB9, HTB9, HF9⟩
          case measure => simp [intOf]; omega
        · have d1 : (pK == 1) = false := by rw [beq_eq_false_iff_ne]; exact k1
          clear k0 k1
          have hsd := send_any w1.heap.size n m pN (by omega) hm2 w.heap.size rv L 0 _ HS1.out (HBT.out _ HF1.out).lg hbig
          have HSD : Hid (∀ e w', SdOut (wr.alloc (.cells #[.int .i64 pK, .int .i64 pN] 48)) L n pN e w' → ∃ a c, e = .returned (.tuple #[.agg #[.int .i64 (gtR L (n - 1)).ep, .int .i64 (gtR L (n - 1)).lsn], .slice a (frF L n pN).length c]) ∧ Recs w' a c (frF L n pN) ∧ Fr (fun _ => False) (wr.alloc (.cells #[.int .i64 pK, .int .i64 pN] 48)) w') := fun e w' h => by
            obtain ⟨a, c, h1, h2, _, h4⟩ := h
            exact ⟨a, c, h1, h2, h4⟩
          have HRS : Hid (∀ W, Two W w2.heap.size 56 (.int .i64 n) (.int .i64 m) → Rlg W (w.heap.size + 1) rrv L 0 → Calls Try.prog 22 #[.pointer (some ⟨w2.heap.size, 0, none⟩), .pointer (some ⟨w.heap.size + 1, 0, none⟩), .int .i64 pN] W fun e w' => ∃ a c, e = .returned (.tuple #[.agg #[.int .i64 (gtR L (n - 1)).ep, .int .i64 (gtR L (n - 1)).lsn], .slice a (frF L n pN).length c]) ∧ Recs w' a c (frF L n pN) ∧ Fr (fun _ => False) W w') := fun W hT hl => rsend_any w2.heap.size n m pN (by omega) hm2 (w.heap.size + 1) rrv L 0 W hT hl HWL.out
          have HPL : Hid (∀ (b1 b2 : Option Addr) (d1 d2 : Nat) W, Recs W b1 d1 (frF L n pN) → Recs W b2 d2 (frF L n pN) → Calls Try.prog 12 #[.slice b1 (frF L n pN).length d1, .slice b2 (frF L n pN).length d2] W fun e w' => e = .returned (.bool true) ∧ Fr (fun _ => False) W w') := fun b1 b2 d1 d2 W h1 h2 => plain_recs b1 b2 _ _ d1 d2 _ rfl rfl W h1 h2
          generalize SdOut (wr.alloc (.cells #[.int .i64 pK, .int .i64 pN] 48)) L n pN = OUT at *
          generalize (gtR L (n - 1)).ep = ge at *
          generalize (gtR L (n - 1)).lsn = gl at *
          generalize frF L n pN = Q at *
          have hneq := fun W => neq_mark ge gl W
          go_wp2_with fail
          refine hsd.mono ?_
          intro e w4 hout
          obtain ⟨a4, c4, rfl, r4, g4⟩ := HSD.out e w4 hout
          have b4 := Fr.box w4 (.cells #[.int .i64 ge, .int .i64 gl] 24)
          have G4 := g4.seq' b4
          have R4 := r4.same b4
          have HR4 : Hid (Recs (w4.alloc (.cells #[.int .i64 ge, .int .i64 gl] 24)) a4 c4 Q) := R4
          have HM4 : Hid (Two (w4.alloc (.cells #[.int .i64 ge, .int .i64 gl] 24)) w4.heap.size 24 (.int .i64 ge) (.int .i64 gl)) := Two.new _ _ _ _
          have HG4 : Hid (Fr (fun _ => False) (wr.alloc (.cells #[.int .i64 pK, .int .i64 pN] 48)) (w4.alloc (.cells #[.int .i64 ge, .int .i64 gl] 24))) := G4
          have hrs := HRS.out _ (HT1.out.fr G4 (fun f => f)) (HBT.out _ (HF1.out.trans G4 (fun _ _ e => e.elim))).rlg
          clear p1
          obtain ⟨p1a, p1b⟩ := (HP.out _ G4).fst
          clear hsd hout HSD r4 g4 b4 R4 G4
          go_wp2_with fail
          generalize w4.alloc (.cells #[.int .i64 ge, .int .i64 gl] 24) = W4 at *
          generalize w4.heap.size = B4 at *
          refine hrs.mono ?_
          rintro e w5 ⟨a5, c5, rfl, r5, g5⟩
          have b5 := Fr.box w5 (.cells #[.int .i64 ge, .int .i64 gl] 24)
          have G5 := g5.seq' b5
          obtain ⟨v0, v1, _⟩ := (HM4.out.fr G5 (fun f => f)).cells
          obtain ⟨u0, u1, _⟩ := (Two.new w5 24 (.int .i64 ge) (.int .i64 gl)).cells
          have hpl := HPL.out _ _ _ _ _ (HR4.out.same G5) (r5.same b5)
          have HG5 : Hid (Fr (fun _ => False) (wr.alloc (.cells #[.int .i64 pK, .int .i64 pN] 48)) (w5.alloc (.cells #[.int .i64 ge, .int .i64 gl] 24))) := HG4.out.seq' G5
          clear hrs r5 g5 b5 G5 p1a p1b
          go_wp2_with fail
          refine hpl.mono ?_
          rintro e w6 ⟨rfl, g6⟩
          obtain ⟨N, hN⟩ : ∃ x : Int, x = n := ⟨_, rfl⟩
          obtain ⟨M, hM⟩ : ∃ x : Int, x = m := ⟨_, rfl⟩
          have bd1 : M < N := by omega
          have HBD : Hid (0 ≤ M ∧ M < N ∧ N ≤ 1099511627776) := by show _ ∧ _; omega
          have G6 := HG5.out.seq' g6
          have HSB2 : Hid (Two w6 w1.heap.size 85 (.int .i64 N) (.int .i64 M)) := by rw [hN, hM]; exact HS1.out.fr G6 (fun f => f)
          have HTB : Hid (Two w6 w2.heap.size 56 (.int .i64 N) (.int .i64 M)) := by rw [hN, hM]; exact HT1.out.fr G6 (fun f => f)
          have HFW : Hid (Fr (fun k => k = w1.heap.size ∨ k = w2.heap.size) w3 w6) := HF1.out.trans G6 (fun _ _ e => e.elim)
          clear hN hM hpl g6 G6 v0 v1 u0 u1 HR4 HM4 HG4 HG5 HP HT1 HS1 HF1 HPL HRS
          obtain ⟨ua, ub, _⟩ := HTB.out.cells
          have hat := at_some _ N M _ HSB2.out
          have hne1 : (N != N) = false := by simp
          have hne2 : (M != M) = false := by simp
          have hge : decide (N ≤ M) = false := decide_eq_false (by omega)
          go_wp2_with fail
          refine hat.mono ?_
          rintro e w9 ⟨rfl, g9⟩
          have HSB9 : Hid (Two w9 w1.heap.size 85 (.int .i64 N) (.int .i64 M)) := HSB2.out.fr g9 (fun f => f)
          have HTB9 : Hid (Two w9 w2.heap.size 56 (.int .i64 N) (.int .i64 M)) := HTB.out.fr g9 (fun f => f)
          have HF9 : Hid (Fr (fun k => k = w1.heap.size ∨ k = w2.heap.size) w3 w9) := HFW.out.trans g9 (fun _ _ e => e.elim)
          clear ua ub
          obtain ⟨ua, ub, _⟩ := HTB9.out.cells
          clear hat g9 HSB2 HTB HFW
          go_wp2
          go_roundw
          case rel => exact ⟨k + 1, N, M, by omega, by go_num, HBD.out, HSB9, HTB9, HF9⟩
          case measure => simp [intOf]; omega
    · have hki : decide ((k : Int) < (q' : Int)) = false := decide_eq_false (by omega)
      have FW := (HBT.out _ HF.out).fr
      go_wp2_with fail
      refine (HSP.out _).mono ?_
      rintro e w9 ⟨rfl, g9⟩
      go_wp2
      go_ret
      exact ⟨rfl, FW.seq' g9⟩

set_option maxRecDepth 100000 in
theorem lifted (os : Os) (started : os.Started) (H : Type) (enc : TypeId × Value → H) :
    ReturnsInHanded {} Try.checked os 4 .any (Rows.shipSendsSpec.pre6 enc Try.prog Try.f4 Rows.shipSendsRow.domain false) (Rows.shipSendsSpec.post enc Try.prog Try.f4 false true false false) := by
  refine returnsInHanded_of_change_sized (C := Try.checked) own started (by kernel_rfl) Try.func4
    (ChangeSpec.witness6 (enc := enc) (C := Try.checked) false ⟨#[], #[.slice none 0 0, .int .i64 0, .slice none 0 0], []⟩ 8 (by kernel_rfl) (by kernel_rfl) (by kernel_rfl) (by kernel_rfl)) ?_
  intro W base args ds gs before hval0 hW hcnd hsz0 _
  have hsz : (DataW.weightsEach Try.prog (Try.f4.params.toList ++ Rows.shipSendsSpec.plain.varTypes Try.prog) (ds ++ gs)).all (· ≤ reachBytes) = true := hsz0
  clear hsz0
  have hval : ∀ (j : Nat) t v, Try.f4.params[j]? = some t → args[j]? = some v → Value.okWide Try.prog W .any base t v := hval0
  have hW' := hW
  obtain ⟨p, q, hA0, hV, rfl, hfz, hnd⟩ := hW
  have hA : DataW.TrodAll enc Try.prog W 0 (fun _ => true) true Try.f4.params.toList args.toList ds p := hA0
  rw [Try.params4] at hA hval hsz
  obtain ⟨v0, vs0, d0, ds0, p0, q0, hargs, rfl, rfl, h0, r0⟩ := trodAll_cons hA
  obtain ⟨v1, vs1, d1, ds1, p1, q1, rfl, rfl, rfl, h1, r1⟩ := trodAll_cons r0
  obtain ⟨v2, vs2, d2, ds2, p2, q2, rfl, rfl, rfl, h2, r2⟩ := trodAll_cons r1
  obtain ⟨rfl, rfl, rfl⟩ := trodAll_nil r2
  obtain rfl : args = #[v0, v1, v2] := by cases args; simp_all
  obtain ⟨rfl, rfl⟩ := trodVars_none hV
  obtain ⟨a0, len0, cap0, rfl⟩ := okWide_slice Try.underlying22 (hval 0 22 v0 rfl rfl)
  have k0 := h0
  have lt0 : ∀ x ∈ p0, x.block < W.heap.size := by obtain ⟨m, hm⟩ := k0; exact DataW.trod_lt m _ _ _ hm
  have wz0 : ∀ z ∈ d0.weights Try.prog 22, z ≤ reachBytes := fun z hz => by simpa using List.all_eq_true.1 hsz z (DataW.weights_mem_each (j := 0) rfl rfl z hz)
  obtain ⟨ls0, hl0, hb0, hr0, hz0⟩ : ∃ ls : List Rec, len0 = ls.length ∧ len0 * 80 ≤ 140737488355328 ∧ Recs W a0 cap0 ls ∧ ∀ r ∈ ls, r.key.size ≤ 140737488351232 ∧ r.val.size ≤ 140737488351232 := by
    obtain ⟨fuel, hf⟩ := h0
    exact recs_open2 hf wz0
  obtain ⟨a2, len2, cap2, rfl⟩ := okWide_slice Try.underlying40 (hval 2 40 v2 rfl rfl)
  have k2 := h2
  have lt2 : ∀ x ∈ p2, x.block < W.heap.size := by obtain ⟨m, hm⟩ := k2; exact DataW.trod_lt m _ _ _ hm
  obtain ⟨ss2, hl2, hr2⟩ : ∃ ss : List (Int × Int), len2 = ss.length ∧ Steps2 W a2 cap2 ss := by
    obtain ⟨fuel, hf⟩ := h2
    exact steps2_open Try.underlying40 Try.underlying48 ⟨⟨rfl, rfl⟩, ⟨rfl, rfl⟩⟩ (by kernel_rfl) hf
  obtain ⟨a1, rfl, rfl, rfl, w1⟩ := open_int Try.underlying3 (hval 1 3 v1 rfl rfl) h1
  clear hA0 hval0
  refine (walk W a0 len0 cap0 ls0 hl0 hb0 hr0 hz0 a1 w1 a2 len2 cap2 ss2 hl2 hr2).mono fun e W' ⟨he, fr⟩ => ?_
  have bel : Below W.heap.size W W' := fr.below (Nat.le_refl _) (fun _ f => f.elim)
  subst he
  exact ⟨_, rfl, _, _, _, [], _, [], hW', trodAll_mk1 (shut_bool Try.underlying4 _), (trodAll_cons_mk (Below.trod laidOut (by kernel_rfl) (of_decide_eq_true (by kernel_rfl)) k0 bel lt0) (trodAll_cons_mk (shut_int Try.underlying3 w1) (trodAll_cons_mk (Below.trod laidOut (by kernel_rfl) (of_decide_eq_true (by kernel_rfl)) k2 bel lt2) trodAll_mk0))), rfl, bel.frame _, fun h => by cases h⟩

theorem proved : Rows.ShipSendsSaid :=
  OpenClaim.holds_of_wide 4 Try.f4 rfl rfl rfl rfl rfl rfl rfl ⟨rfl, rfl, rfl, rfl, rfl⟩ rfl rfl rfl rfl rfl (by kernel_rfl) Try.func4 (by kernel_rfl)
    (of_decide_eq_true (by kernel_rfl)) (by unfold Func.isWrapper; first | (rw [if_pos (by decide +kernel)]; kernel_rfl) | (rw [if_neg (by decide +kernel)]; exact ⟨rfl, rfl⟩))
    (fun os started H enc _ => lifted os started H enc)
end Go.Proofs.Ytnhmickolfbldaa.shipSends
namespace Go.Proofs.Ytnhmickolfbldaa
theorem shipSends_holds : Rows.ShipSendsSaid := shipSends.proved
#print axioms shipSends_holds
end Go.Proofs.Ytnhmickolfbldaa
