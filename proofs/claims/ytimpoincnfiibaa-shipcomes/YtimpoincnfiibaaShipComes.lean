
/- Of any two rows of records and any number, a sender that begins there and a receiver that answer one another come to one log, of logs that part once, within the turns that the statement gives, and the example speaks; with no condition but those of the statement's own form. -/
import Derived.Test.YtimpoincnfiibaaSB8
import Derived.Test.YtimpoincnfiibaaShCoW
import Derived.Test.YtimpoincnfiibaaShSpk
import Derived.Test.YtimpoincnfiibaaShArg
import Derived.Deep.DeepCutAuto
namespace Go.Proofs.Ytimpoincnfiibaa.shipComes
open Go.ChangeShapes Go.WideShapes Go.ChangeAt Go.RowKit
open Go.ChangeMaps (open_string shut_string)
set_option linter.unusedVariables false

theorem own : ownKnob Try.prog.godebug = none := by kernel_rfl
theorem laidOut : laidOutB Try.prog = true := by kernel_rfl
theorem bytes8 : Try.prog.bytesOf 5 = 1 := by kernel_rfl

open Go.RowKit Crcm
theorem own_off {w w' : World} {lb sb : Nat} {rv : Value} {L : List Rec} {B : Nat} (t : LgTo w lb rv L w') (hB : B ≤ w.heap.size) (hs : sb < w.heap.size) (ho : ∀ k, lgS lb rv k → B ≤ k ∧ k ≠ sb) : ∃ rv', Lg w' lb rv' L 0 ∧ (∀ k, lgS lb rv' k → B ≤ k ∧ k ≠ sb) ∧ Fr (lgS lb rv) w w' := by
  obtain ⟨rv', h1, h2, h3⟩ := t
  refine ⟨rv', h1, fun k hk => ?_, h2⟩
  rcases hk with e | e
  · exact ho k (.inl e)
  · rcases h3 with q | ⟨g, q1, q2⟩
    · exact ho k (.inr (by rw [← q]; exact e))
    · rw [q1] at e
      simp at e
      omega
set_option maxRecDepth 100000 in
set_option maxHeartbeats 16000000 in
theorem walk (w : World) (a : Option Addr) (q c : Nat) (rs : List Rec) (hq : q = rs.length) (hb : q * 80 ≤ 140737488355328) (h : Recs w a c rs) (hz : ∀ r ∈ rs, r.key.size ≤ 140737488351232 ∧ r.val.size ≤ 140737488351232) (a' : Option Addr) (q' c' : Nat) (rs' : List Rec) (hq' : q' = rs'.length) (hb' : q' * 80 ≤ 140737488355328) (h' : Recs w a' c' rs') (hz' : ∀ r ∈ rs', r.key.size ≤ 140737488351232 ∧ r.val.size ≤ 140737488351232) (next : Int) (wf : (Lit.int .i64 next).wf = true) :
    Calls Try.prog 3 #[.slice a q c, .slice a' q' c', .int .i64 next] w fun e w' => e = .returned (.bool true) ∧ Fr (fun _ => False) w w' := by
  have HSP : Hid (∀ W, Calls Try.prog 7 #[] W fun e w' => e = .returned (.bool true) ∧ Fr (fun _ => False) W w') := shspk_any
  have hbo := both_any a q c rs hq w h
  have HBO2 : Hid (∀ W, Fr (fun _ => False) w W → Calls Try.prog 4 #[.slice a' q' c'] W (BoOut W rs')) := fun W f => both_any a' q' c' rs' hq' W (h'.same f)
  have HWX : Hid (Wl (bthL rs)) := bth_wl rs
  have HWY : Hid (Wl (bthL rs')) := bth_wl rs'
  have HBO : Hid (∀ W e w', BoOut W rs e w' → ∃ rv rrv, e = .returned (.tuple #[.pointer (some ⟨W.heap.size, 0, none⟩), .pointer (some ⟨W.heap.size + 1, 0, none⟩)]) ∧ Bth W w' rv rrv (bthL rs)) := fun W e w' h => h
  have HBO' : Hid (∀ W e w', BoOut W rs' e w' → ∃ rv rrv, e = .returned (.tuple #[.pointer (some ⟨W.heap.size, 0, none⟩), .pointer (some ⟨W.heap.size + 1, 0, none⟩)]) ∧ Bth W w' rv rrv (bthL rs')) := fun W e w' h => h
  generalize bthL rs = X at *
  generalize bthL rs' = Y0 at *
  have hbX := HWX.out.big
  have hbY := HWY.out.big
  have hnx : -9223372036854775808 ≤ next ∧ next ≤ 9223372036854775807 := by
    unfold Lit.wf at wf
    simp at wf
    have e1 : IntKind.i64.min = -9223372036854775808 := rfl
    have e2 : IntKind.i64.max = 9223372036854775807 := rfl
    omega
  clear h h' hz hz' hb hb' hq hq' wf
  go_enter Try.func3, Try.ntmps3
  go_wp2_with fail
  refine hbo.mono ?_
  intro e w1 hout
  obtain ⟨rv, rrv, rfl, B⟩ := HBO.out w e w1 hout
  have HX : Hid (∀ W, Fr (fun _ => False) w1 W → Lg W w.heap.size rv X 0) := fun W f => (B.same f).lg
  have HF1 : Hid (Fr (fun _ => False) w w1) := B.fr
  obtain ⟨xb, hxb⟩ : ∃ b, b = w.heap.size := ⟨_, rfl⟩
  rw [← hxb] at HX ⊢
  clear hbo hout HBO B hxb
  go_wp2_with fail
  refine (HBO2.out _ HF1.out).mono ?_
  intro e w2 hout
  obtain ⟨rv2, rrv2, rfl, B2⟩ := HBO'.out w1 e w2 hout
  obtain ⟨yb, hyb⟩ : ∃ b, b = w1.heap.size := ⟨_, rfl⟩
  have HY2 : Hid (Lg w2 yb rv2 Y0 0) := by rw [hyb]; exact B2.lg
  have HO2 : Hid (∀ k, lgS yb rv2 k → w1.heap.size ≤ k) := by
    rintro k (e | e)
    · omega
    · have := (B2.o1 k e).1; omega
  have HF2 : Hid (Fr (fun _ => False) w1 w2) := B2.fr
  rw [← hyb]
  clear hout HBO2 HBO' B2 hyb
  have hla := last_lg xb rv X 0 w2 (HX.out _ HF2.out) HWX.out
  go_wp2_with fail
  refine hla.mono ?_
  rintro e w3 ⟨rfl, f3⟩
  have HF3 : Hid (Fr (fun _ => False) w1 w3) := HF2.out.seq' f3
  have HY3 : Hid (Lg w3 yb rv2 Y0 0) := HY2.out.same f3
  have hlb := last_lg yb rv2 Y0 0 w3 HY3.out HWY.out
  clear hla f3 HF2 HY2
  go_wp2_with fail
  refine hlb.mono ?_
  rintro e w4 ⟨rfl, f4⟩
  have HF4 : Hid (Fr (fun _ => False) w1 w4) := HF3.out.seq' f4
  have HY4 : Hid (Lg w4 yb rv2 Y0 0) := HY3.out.same f4
  have hpa := parts_any xb yb rv rv2 X Y0 w4 (HX.out _ HF4.out) HY4.out HWX.out HWY.out
  generalize lastE X = eX at *
  generalize lastE Y0 = eY at *
  clear hlb f4 HF3 HY3
  by_cases z1 : 2000 < (X.length : Int) + (Y0.length : Int)
  · go_wp2_with fail
    refine (HSP.out _).mono ?_
    rintro e w5 ⟨rfl, f5⟩
    go_wp2
    go_ret
    exact ⟨rfl, (HF1.out.seq' HF4.out).seq' f5⟩
  have z1' : decide (2000 < (X.length : Int) + (Y0.length : Int)) = false := decide_eq_false z1
  by_cases z2 : eX < eY
  · go_wp2_with fail
    refine (HSP.out _).mono ?_
    rintro e w5 ⟨rfl, f5⟩
    go_wp2
    go_ret
    exact ⟨rfl, (HF1.out.seq' HF4.out).seq' f5⟩
  have z2' : decide (eX < eY) = false := decide_eq_false z2
  go_wp2_with fail
  refine hpa.mono ?_
  rintro e w5 ⟨pb, rfl, hpb, f5⟩
  have HF5 : Hid (Fr (fun _ => False) w1 w5) := HF4.out.seq' f5
  have HY5 : Hid (Lg w5 yb rv2 Y0 0) := HY4.out.same f5
  have HPP : Hid (pb = true → Prt X Y0) := hpb
  clear hpa f5 hpb HF4 HY4
  cases pb with
  | false =>
    go_wp2_with fail
    refine (HSP.out _).mono ?_
    rintro e w6 ⟨rfl, f6⟩
    go_wp2
    go_ret
    exact ⟨rfl, (HF1.out.seq' HF5.out).seq' f6⟩
  | true =>
    have HPR : Hid (Prt X Y0) := HPP.out rfl
    clear HPP
    by_cases hn : 1 ≤ next ∧ next ≤ 1099511627776
    · obtain ⟨hn1, hn2⟩ := hn
      have hsn := snew_yes next hn1 hn2 w5
      go_wp2_with fail
      refine hsn.mono ?_
      rintro e w6 ⟨rfl, t6, f6⟩
      obtain ⟨sb, hsb⟩ : ∃ b, b = w5.heap.size := ⟨_, rfl⟩
      rw [← hsb] at t6 ⊢
      have HT6 : Hid (Two w6 sb 57 (.int .i64 next) (.int .i64 0)) := t6
      have HF6 : Hid (Fr (fun _ => False) w1 w6) := HF5.out.seq' f6
      have HY6 : Hid (Lg w6 yb rv2 Y0 0) := HY5.out.same f6
      have HO6 : Hid (∀ k, lgS yb rv2 k → w1.heap.size ≤ k ∧ k ≠ sb) := fun k hk => ⟨HO2.out k hk, by
        have h1 : k < w5.heap.size := by
          rcases hk with e | e
          · have := lt_of_block HY5.out.box; omega
          · exact HY5.out.has.lt e
        omega⟩
      have HSB : Hid (w1.heap.size ≤ sb) := by have := HF5.out.size; show _ ≤ _; omega
      clear hsn t6 f6 hsb HF5 HY5 HO2
      obtain ⟨T, hT⟩ : ∃ T, T = X.length + Y0.length + 3 := ⟨_, rfl⟩
      have hwa : IntKind.i64.wrap ((X.length : Int) + (Y0.length : Int)) = (X.length : Int) + (Y0.length : Int) := by simp [IntKind.wrap, IntKind.bits, IntKind.signed]; omega
      have hwb : IntKind.i64.wrap ((X.length : Int) + (Y0.length : Int) + 3) = (X.length : Int) + (Y0.length : Int) + 3 := by simp [IntKind.wrap, IntKind.bits, IntKind.signed]; omega
      go_wp2
      go_loopw [17] (fun i wr => ∃ (t : Nat) (nx mt : Int) (rvY : Value) (Y : List Rec), t ≤ T ∧ i = .int .i64 t ∧ 0 ≤ mt ∧ mt < nx ∧ nx ≤ 1099511627776 ∧ Hid (Wl Y) ∧ Hid (next ≤ X.length + 1 → Tn X Y0 next t nx mt Y) ∧ Hid (Two wr sb 57 (.int .i64 nx) (.int .i64 mt)) ∧ Hid (Lg wr yb rvY Y 0) ∧ Hid (∀ k, lgS yb rvY k → w1.heap.size ≤ k ∧ k ≠ sb) ∧ Hid (Fr (fun _ => False) w1 wr)) (fun i _ => T - (intOf i).toNat)
      case atStart => exact ⟨0, next, 0, rv2, Y0, by omega, rfl, by omega, by omega, by omega, HWY, (fun _ => Tn.zero), HT6, HY6, HO6, HF6⟩
      case round =>
        obtain ⟨t, nx, mt, rvY, Y, htT, rfl, hm0, hmn, hn4, HWT, HTN, HTS, HLY, HOY, HFR⟩ := hrel
        by_cases hlt : t < T
        · have hlt' : (t : Int) < (X.length : Int) + (Y0.length : Int) + 3 := by omega
          have hl1 : X.length ≤ 2000 ∧ Y0.length ≤ 2000 := by omega
          have hsd := send_any sb nx mt 5 (by omega) hn4 xb rv X 0 wr HTS.out (HX.out _ HFR.out) hbX
          have hql := frF_len X nx 5
          have HSD : Hid (∀ e w', SdOut wr X nx 5 e w' → ∃ a c, e = .returned (.tuple #[.agg #[.int .i64 (gtR X (nx - 1)).ep, .int .i64 (gtR X (nx - 1)).lsn], .slice a (frF X nx 5).length c]) ∧ Recs w' a c (frF X nx 5) ∧ Nwr wr a (frF X nx 5) ∧ Fr (fun _ => False) wr w') := fun e w' h => h
          have hWN := takeR_wl HWT.out (gtR X (nx - 1)).ep (gtR X (nx - 1)).lsn (frF X nx 5)
          have htn2 : next ≤ X.length + 1 → Tn X Y0 next (t + 1) (tnX X Y nx mt) (tnM X Y nx mt) (tnT X Y nx).1 := fun h => Tn.step HWX.out HWY.out hl1 HPR.out hn1 h (HTN.out h)
          unfold tnX tnM tnT at htn2
          have htk0 : ∀ W a c, Lg W yb rvY Y 0 → Recs W a c (frF X nx 5) → (∀ k, lgS yb rvY k → ∀ b o, a = some ⟨b, o, none⟩ → frF X nx 5 ≠ [] → k ≠ b) → Calls Try.prog 10 #[.pointer (some ⟨yb, 0, none⟩), .agg #[.int .i64 (gtR X (nx - 1)).ep, .int .i64 (gtR X (nx - 1)).lsn], .slice a (frF X nx 5).length c] W (TkOut W yb rvY (takeR Y (gtR X (nx - 1)).ep (gtR X (nx - 1)).lsn (frF X nx 5))) := fun W a c hl hr ho => take_any yb rvY Y _ _ a _ c (frF X nx 5) rfl (by omega) W hl HWT.out hr ho
          obtain ⟨Y', l', ct, er, hTe⟩ : ∃ a b c d, takeR Y (gtR X (nx - 1)).ep (gtR X (nx - 1)).lsn (frF X nx 5) = (a, b, c, d) := ⟨_, _, _, _, rfl⟩
          rw [hTe] at htk0 htn2 hWN
          simp only at htn2 hWN
          have HWN : Hid (Wl Y') := hWN
          have HT2 : Hid (next ≤ X.length + 1 → Tn X Y0 next (t + 1) (if er = 0 then (if ackB mt l' then l' + 1 else nx) else (if refB nx mt then refN nx mt (Y'.length : Int) else nx)) (if er = 0 then (if ackB mt l' then l' else mt) else mt) Y') := htn2
          have HTK : Hid (∀ W a c, Lg W yb rvY Y 0 → Recs W a c (frF X nx 5) → (∀ k, lgS yb rvY k → ∀ b o, a = some ⟨b, o, none⟩ → frF X nx 5 ≠ [] → k ≠ b) → Calls Try.prog 10 #[.pointer (some ⟨yb, 0, none⟩), .agg #[.int .i64 (gtR X (nx - 1)).ep, .int .i64 (gtR X (nx - 1)).lsn], .slice a (frF X nx 5).length c] W fun e w' => e = .returned (.tuple #[.int .i64 l', .bool ct, .int .i64 er]) ∧ LgTo W yb rvY Y' w') := htk0
          clear hTe htk0 htn2 hWN hql hl1 HTN
          generalize SdOut wr X nx 5 = OUT at *
          generalize (gtR X (nx - 1)).ep = ge at *
          generalize (gtR X (nx - 1)).lsn = gl at *
          generalize frF X nx 5 = Q at *
          go_wp2_with fail
          refine hsd.mono ?_
          intro e w6 hout
          obtain ⟨a6, c6, rfl, r6, n6, f6⟩ := HSD.out e w6 hout
          have b6 := Fr.box w6 (.cells #[.int .i64 ge, .int .i64 gl] 36)
          obtain ⟨v0, v1, _⟩ := (Two.new w6 36 (.int .i64 ge) (.int .i64 gl)).cells
          have HFB : Hid (Fr (fun _ => False) wr (w6.alloc (.cells #[.int .i64 ge, .int .i64 gl] 36))) := f6.seq' b6
          have htk := HTK.out _ a6 c6 (HLY.out.same HFB.out) (r6.same b6) (fun k e b o hb hne => by
            have h1 := n6 b o hb hne
            rcases e with e | e
            · have := lt_of_block HLY.out.box; omega
            · have := HLY.out.has.lt e; omega)
          clear hsd hout HSD HTK r6 n6 f6 b6
          go_wp2_with fail
          refine htk.mono ?_
          rintro e w7 ⟨rfl, hto⟩
          have hz1 := (HFR.out.seq' HFB.out).size
          have hz2 := HTS.out.lt
          have hz3 := HFB.out.size
          obtain ⟨rvZ, LZ, OZ, FZ⟩ := own_off hto hz1 (Nat.lt_of_lt_of_le hz2 hz3) HOY.out
          have HLZ : Hid (Lg w7 yb rvZ Y' 0) := LZ
          have HOZ : Hid (∀ k, lgS yb rvZ k → w1.heap.size ≤ k ∧ k ≠ sb) := OZ
          have HFZ : Hid (Fr (fun _ => False) w1 w7) := (HFR.out.seq' HFB.out).trans FZ (fun i hi e => by have := (HOY.out i e).1; omega)
          have HT7 : Hid (Two w7 sb 57 (.int .i64 nx) (.int .i64 mt)) := (HTS.out.fr HFB.out (fun f => f)).fr FZ (fun e => (HOY.out sb e).2 rfl)
          clear htk hto LZ OZ FZ v0 v1 hz1 hz2 hz3 HFB HLY HOY HTS HFR
          by_cases her : er = 0
          · subst her
            have hak := acked_any sb nx mt l' hm0 w7 HT7.out
            have HAK : Hid (∀ e w', StOut w7 sb 57 (ackB mt l') (if ackB mt l' then l' + 1 else nx) (if ackB mt l' then l' else mt) e w' → e = .returned (.bool (ackB mt l')) ∧ Two w' sb 57 (.int .i64 (if ackB mt l' then l' + 1 else nx)) (.int .i64 (if ackB mt l' then l' else mt)) ∧ Fr (fun k => k = sb) w7 w') := fun e w' h => h
            have hb3 : 0 ≤ (if ackB mt l' then l' else mt) ∧ (if ackB mt l' then l' else mt) < (if ackB mt l' then l' + 1 else nx) ∧ (if ackB mt l' then l' + 1 else nx) ≤ 1099511627776 := by
              by_cases hA : ackB mt l' = true
              · rw [if_pos hA, if_pos hA]
                simp [ackB] at hA
                omega
              · rw [if_neg hA, if_neg hA]
                omega
            have HT3 : Hid (next ≤ X.length + 1 → Tn X Y0 next (t + 1) (if ackB mt l' then l' + 1 else nx) (if ackB mt l' then l' else mt) Y') := fun h => by
              have := HT2.out h
              rwa [if_pos rfl, if_pos rfl] at this
            generalize (if ackB mt l' then l' + 1 else nx) = nx' at *
            generalize (if ackB mt l' then l' else mt) = mt' at *
            generalize ackB mt l' = bk at *
            generalize StOut w7 sb 57 bk nx' mt' = OUT2 at *
            clear HT2
            go_wp2_with fail
            refine hak.mono ?_
            intro e w8 hout
            obtain ⟨rfl, T8, f8⟩ := HAK.out e w8 hout
            have HT8 : Hid (Two w8 sb 57 (.int .i64 nx') (.int .i64 mt')) := T8
            have HL8 : Hid (Lg w8 yb rvZ Y' 0) := HLZ.out.fr f8 (fun e => (HOZ.out yb (.inl rfl)).2 e) (fun k hk e => (HOZ.out k (.inr hk)).2 e)
            have HF8 : Hid (Fr (fun _ => False) w1 w8) := HFZ.out.trans f8 (fun i hi e => by have := HSB.out; omega)
            clear hak HAK hout T8 f8 HLZ HFZ
            go_wp2
            go_roundw
            case rel => exact ⟨t + 1, nx', mt', rvZ, Y', by omega, by go_num, hb3.1, hb3.2.1, hb3.2.2, HWN, HT3, HT8, HL8, HOZ, HF8⟩
            case measure => simp [intOf]; omega
          · have d0 : (er == 0) = false := by simpa using her
            have d1 : decide (er = 0) = false := by simpa using her
            have hla := last_lg yb rvZ Y' 0 w7 HLZ.out HWN.out
            have hb3 : mt < (if refB nx mt then refN nx mt (Y'.length : Int) else nx) ∧ (if refB nx mt then refN nx mt (Y'.length : Int) else nx) ≤ 1099511627776 := by
              by_cases hA : refB nx mt = true
              · rw [if_pos hA]
                simp [refB] at hA
                unfold refN
                split <;> omega
              · rw [if_neg hA]
                omega
            have HT3 : Hid (next ≤ X.length + 1 → Tn X Y0 next (t + 1) (if refB nx mt then refN nx mt (Y'.length : Int) else nx) mt Y') := fun h => by
              have := HT2.out h
              rwa [if_neg her, if_neg her] at this
            have HRF : Hid (∀ W, Two W sb 57 (.int .i64 nx) (.int .i64 mt) → Calls Try.prog 12 #[.pointer (some ⟨sb, 0, none⟩), .int .i64 (Y'.length : Int)] W fun e w' => e = .returned (.bool (refB nx mt)) ∧ Two w' sb 57 (.int .i64 (if refB nx mt then refN nx mt (Y'.length : Int) else nx)) (.int .i64 mt) ∧ Fr (fun k => k = sb) W w') := fun W h => refused_any sb nx mt (Y'.length : Int) hm0 hmn hn4 W h
            generalize (if refB nx mt then refN nx mt (Y'.length : Int) else nx) = nx' at *
            generalize refB nx mt = bk at *
            generalize lastE Y' = lz at *
            clear HT2
            go_wp2_with fail
            refine hla.mono ?_
            rintro e w8 ⟨rfl, g8⟩
            have hrf := HRF.out w8 (HT7.out.fr g8 (fun f => f))
            have HL8 : Hid (Lg w8 yb rvZ Y' 0) := HLZ.out.same g8
            have HF8 : Hid (Fr (fun _ => False) w1 w8) := HFZ.out.seq' g8
            clear hla HRF g8 HLZ HFZ HT7
            go_wp2_with fail
            refine hrf.mono ?_
            rintro e w9 ⟨rfl, T9, f9⟩
            have HT9 : Hid (Two w9 sb 57 (.int .i64 nx') (.int .i64 mt)) := T9
            have HL9 : Hid (Lg w9 yb rvZ Y' 0) := HL8.out.fr f9 (fun e => (HOZ.out yb (.inl rfl)).2 e) (fun k hk e => (HOZ.out k (.inr hk)).2 e)
            have HF9 : Hid (Fr (fun _ => False) w1 w9) := HF8.out.trans f9 (fun i hi e => by have := HSB.out; omega)
            clear hrf T9 f9 HL8 HF8
            go_wp2
            go_roundw
            case rel => exact ⟨t + 1, nx', mt, rvZ, Y', by omega, by go_num, hm0, hb3.1, hb3.2, HWN, HT3, HT9, HL9, HOZ, HF9⟩
            case measure => simp [intOf]; omega
        · have hlt' : decide ((t : Int) < (X.length : Int) + (Y0.length : Int) + 3) = false := decide_eq_false (by omega)
          have hat := at_some sb nx mt wr HTS.out
          have HFW : Hid (Fr (fun _ => False) w wr) := HF1.out.seq' HFR.out
          go_wp2_with fail
          refine hat.mono ?_
          rintro e w7 ⟨rfl, f7⟩
          have HF7 : Hid (Fr (fun _ => False) w w7) := HFW.out.seq' f7
          by_cases hlast : (X.length : Int) + 1 < next
          · clear hat f7
            go_wp2_with fail
            refine (HSP.out _).mono ?_
            rintro e w8 ⟨rfl, f8⟩
            go_wp2
            go_ret
            exact ⟨rfl, HF7.out.seq' f8⟩
          · have dl : decide ((X.length : Int) + 1 < next) = false := decide_eq_false hlast
            obtain ⟨hme, hag⟩ := (HTN.out (by omega)).fin (by omega)
            have hli := line_any xb yb rv rvY X Y w7 (HX.out _ (HFR.out.seq' f7)) (HLY.out.same f7) HWX.out HWT.out hag
            subst hme
            clear hat f7 hag
            go_wp2_with fail
            refine hli.mono ?_
            rintro e w8 ⟨rfl, f8⟩
            have HF8 : Hid (Fr (fun _ => False) w w8) := HF7.out.seq' f8
            clear hli f8
            go_wp2_with fail
            refine (HSP.out _).mono ?_
            rintro e w9 ⟨rfl, f9⟩
            go_wp2
            go_ret
            exact ⟨rfl, HF8.out.seq' f9⟩
    · have hsn := snew_no next hn w5
      go_wp2_with fail
      refine hsn.mono ?_
      rintro e w6 ⟨rfl, rfl⟩
      go_wp2_with fail
      refine (HSP.out _).mono ?_
      rintro e w7 ⟨rfl, f7⟩
      go_wp2
      go_ret
      exact ⟨rfl, (HF1.out.seq' HF5.out).seq' f7⟩

set_option maxRecDepth 100000 in
theorem lifted (os : Os) (started : os.Started) (H : Type) (enc : TypeId × Value → H) :
    ReturnsInHanded {} Try.checked os 3 .any (Rows.shipComesSpec.pre6 enc Try.prog Try.f3 Rows.shipComesRow.domain false) (Rows.shipComesSpec.post enc Try.prog Try.f3 false true false false) := by
  refine returnsInHanded_of_change_sized (C := Try.checked) own started (by kernel_rfl) Try.func3
    (ChangeSpec.witness6 (enc := enc) (C := Try.checked) false ⟨#[], #[.slice none 0 0, .slice none 0 0, .int .i64 0], []⟩ 8 (by kernel_rfl) (by kernel_rfl) (by kernel_rfl) (by kernel_rfl)) ?_
  intro W base args ds gs before hval0 hW hcnd hsz0 _
  have hsz : (DataW.weightsEach Try.prog (Try.f3.params.toList ++ Rows.shipComesSpec.plain.varTypes Try.prog) (ds ++ gs)).all (· ≤ reachBytes) = true := hsz0
  clear hsz0
  have hval : ∀ (j : Nat) t v, Try.f3.params[j]? = some t → args[j]? = some v → Value.okWide Try.prog W .any base t v := hval0
  have hW' := hW
  obtain ⟨p, q, hA0, hV, rfl, hfz, hnd⟩ := hW
  have hA : DataW.TrodAll enc Try.prog W 0 (fun _ => true) true Try.f3.params.toList args.toList ds p := hA0
  rw [Try.params3] at hA hval hsz
  obtain ⟨v0, vs0, d0, ds0, p0, q0, hargs, rfl, rfl, h0, r0⟩ := trodAll_cons hA
  obtain ⟨v1, vs1, d1, ds1, p1, q1, rfl, rfl, rfl, h1, r1⟩ := trodAll_cons r0
  obtain ⟨v2, vs2, d2, ds2, p2, q2, rfl, rfl, rfl, h2, r2⟩ := trodAll_cons r1
  obtain ⟨rfl, rfl, rfl⟩ := trodAll_nil r2
  obtain rfl : args = #[v0, v1, v2] := by cases args; simp_all
  obtain ⟨rfl, rfl⟩ := trodVars_none hV
  obtain ⟨a0, len0, cap0, rfl⟩ := okWide_slice Try.underlying22 (hval 0 22 v0 rfl rfl)
  have k0 := h0
  have lt0 : ∀ x ∈ p0, x.block < W.heap.size := by obtain ⟨m, hm⟩ := k0; exact DataW.trod_lt m _ _ _ hm
  have wz0 : ∀ z ∈ d0.weights Try.prog 22, z ≤ reachBytes := fun z hz => by simpa using List.all_eq_true.1 hsz z (DataW.weights_mem_each (j := 0) rfl rfl z hz)
  obtain ⟨ls0, hl0, hb0, hr0, hz0⟩ : ∃ ls : List Rec, len0 = ls.length ∧ len0 * 80 ≤ 140737488355328 ∧ Recs W a0 cap0 ls ∧ ∀ r ∈ ls, r.key.size ≤ 140737488351232 ∧ r.val.size ≤ 140737488351232 := by
    obtain ⟨fuel, hf⟩ := h0
    exact recs_open2 hf wz0
  obtain ⟨a1, len1, cap1, rfl⟩ := okWide_slice Try.underlying22 (hval 1 22 v1 rfl rfl)
  have k1 := h1
  have lt1 : ∀ x ∈ p1, x.block < W.heap.size := by obtain ⟨m, hm⟩ := k1; exact DataW.trod_lt m _ _ _ hm
  have wz1 : ∀ z ∈ d1.weights Try.prog 22, z ≤ reachBytes := fun z hz => by simpa using List.all_eq_true.1 hsz z (DataW.weights_mem_each (j := 1) rfl rfl z hz)
  obtain ⟨ls1, hl1, hb1, hr1, hz1⟩ : ∃ ls : List Rec, len1 = ls.length ∧ len1 * 80 ≤ 140737488355328 ∧ Recs W a1 cap1 ls ∧ ∀ r ∈ ls, r.key.size ≤ 140737488351232 ∧ r.val.size ≤ 140737488351232 := by
    obtain ⟨fuel, hf⟩ := h1
    exact recs_open2 hf wz1
  obtain ⟨a2, rfl, rfl, rfl, w2⟩ := open_int Try.underlying3 (hval 2 3 v2 rfl rfl) h2
  clear hA0 hval0
  refine (walk W a0 len0 cap0 ls0 hl0 hb0 hr0 hz0 a1 len1 cap1 ls1 hl1 hb1 hr1 hz1 a2 w2).mono fun e W' ⟨he, fr⟩ => ?_
  have bel : Below W.heap.size W W' := fr.below (Nat.le_refl _) (fun _ f => f.elim)
  subst he
  exact ⟨_, rfl, _, _, _, [], _, [], hW', trodAll_mk1 (shut_bool Try.underlying4 _), (trodAll_cons_mk (Below.trod laidOut (by kernel_rfl) (of_decide_eq_true (by kernel_rfl)) k0 bel lt0) (trodAll_cons_mk (Below.trod laidOut (by kernel_rfl) (of_decide_eq_true (by kernel_rfl)) k1 bel lt1) (trodAll_cons_mk (shut_int Try.underlying3 w2) trodAll_mk0))), rfl, bel.frame _, fun h => by cases h⟩

theorem proved : Rows.ShipComesSaid :=
  OpenClaim.holds_of_wide 3 Try.f3 rfl rfl rfl rfl rfl rfl rfl ⟨rfl, rfl, rfl, rfl, rfl⟩ rfl rfl rfl rfl rfl (by kernel_rfl) Try.func3 (by kernel_rfl)
    (of_decide_eq_true (by kernel_rfl)) (by unfold Func.isWrapper; first | (rw [if_pos (by decide +kernel)]; kernel_rfl) | (rw [if_neg (by decide +kernel)]; exact ⟨rfl, rfl⟩))
    (fun os started H enc _ => lifted os started H enc)
end Go.Proofs.Ytimpoincnfiibaa.shipComes
namespace Go.Proofs.Ytimpoincnfiibaa
theorem shipComes_holds : Rows.ShipComesSaid := shipComes.proved
#print axioms shipComes_holds
end Go.Proofs.Ytimpoincnfiibaa
