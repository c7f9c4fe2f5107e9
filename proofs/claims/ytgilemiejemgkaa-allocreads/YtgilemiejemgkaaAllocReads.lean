
/- For every bound and all bytes latticelaw08.AllocReads answers true: the bytes that are a map's, and no others, are read as that map (8.2); no condition. -/
import Derived.Test.YtgilemiejemgkaaArgs
import Derived.Test.YtgilemiejemgkaaAlSpeak
import Derived.Test.YtgilemiejemgkaaAlFrom
namespace Go.Proofs.Ytgilemiejemgkaa.allocReads
open Go.ChangeShapes Go.WideShapes Go.ChangeAt Go.RowKit
open Go.ChangeMaps (open_string shut_string)
set_option linter.unusedVariables false

theorem own : ownKnob Try.prog.godebug = none := by kernel_rfl
theorem laidOut : laidOutB Try.prog = true := by kernel_rfl
theorem bytes8 : Try.prog.bytesOf 5 = 1 := by kernel_rfl

theorem alike_has {most : Nat} {L : List Nat} {V : List Bool} (h : Alike most L V) (i : Int) : rhasF (most + 1) V i = hasF most L i := by
  unfold rhasF hasF
  by_cases hi : 1 ≤ i ∧ i ≤ most
  · have hi2 : 1 ≤ i ∧ i < ((most + 1 : Nat) : Int) := by omega
    rw [decide_eq_true hi, decide_eq_true hi2]
    obtain ⟨k, rfl⟩ : ∃ k : Nat, i = (k : Int) + 1 := ⟨(i - 1).toNat, by omega⟩
    rw [show ((k : Int) + 1).toNat = k + 1 by omega, show k + 1 - 1 = k by omega, h.bits k (by omega)]
  · have hi2 : ¬ (1 ≤ i ∧ i < ((most + 1 : Nat) : Int)) := by omega
    rw [decide_eq_false hi, decide_eq_false hi2]; rfl
set_option maxRecDepth 100000 in
set_option maxHeartbeats 8000000 in
theorem walk (w : World) (a0 : Int) (w0 : (Lit.int .i64 a0).wf = true) (a1 : Option Addr) (len1 cap1 : Nat) (l1 : List Nat) (hl1 : len1 = l1.length) (z1 : cap1 ≤ 140737488351232) (hr1 : Row w a1 cap1 l1) :
    Calls Try.prog 4 #[.int .i64 a0, .slice a1 len1 cap1] w fun e w' => e = .returned (.bool true) ∧ Fr (fun _ => False) w w' := by
  clear w0 z1
  have HN : Hid (len1 = l1.length) := hl1
  by_cases hbad : a0 < 1 ∨ 4096 < a0
  · have hne := from_bad a0 hbad (.slice a1 len1 cap1) w
    have hrn := rfrom_bad a0 hbad (.slice a1 len1 cap1) w
    clear hbad hl1
    go_enter Try.func4, Try.ntmps4
    go_wp2_with fail
    refine hne.mono ?_
    rintro e w1 ⟨rfl, rfl⟩
    go_wp2_with fail
    refine hrn.mono ?_
    rintro e w1 ⟨rfl, rfl⟩
    go_wp2_with fail
    refine (aspeaks_any _).mono ?_
    rintro e w2 ⟨rfl, f2⟩
    go_wp2
    go_ret
    exact ⟨rfl, f2⟩
  obtain ⟨most, rfl⟩ : ∃ m : Nat, a0 = m := ⟨a0.toNat, by omega⟩
  have hm1 : 1 ≤ most := by omega
  have hm2 : most ≤ 4096 := by omega
  clear hbad
  by_cases hok : fromOK most l1
  · have hfm := from_ok most hm1 hm2 a1 len1 cap1 l1 hl1 w hr1 hok
    have hlen : l1.length = (most + 7) / 8 := hok.1
    have HT : Hid ((l1 ++ List.replicate (512 - l1.length) 0).take ((most + 7) / 8) = l1) := by
      show _ = _
      rw [← hlen, List.take_left]
    have HL8 : Hid (l1.length = (most + 7) / 8) := hlen
    have HOK : Hid (fromOK most l1) := hok
    clear hl1 hok hlen
    go_enter Try.func4, Try.ntmps4
    go_wp2_with fail
    refine hfm.mono ?_
    rintro e w1 ⟨rfl, m1, f1⟩
    clear hfm
    go_wp2_with fail
    refine (rfrom_any most hm1 hm2 a1 len1 cap1 l1 HN.out _ (hr1.same f1)).mono ?_
    rintro e w2 hout
    rcases hout with ⟨hno, _⟩ | ⟨_, V, rfl, r2, like, f2⟩
    · exact absurd HOK.out hno
    have m2 := m1.same f2
    have f02 := f1.false_trans f2
    generalize l1 ++ List.replicate (512 - l1.length) 0 = L at *
    generalize hbn : w.heap.size = b at *
    generalize w1.heap.size + 1 = rb at *
    generalize w1.heap.size = rg at *
    clear hbn m1 f1 f2
    have HLK : Hid (Alike most L V) := like
    clear like
    go_wp2
    go_loopw [9] (fun t wr => ∃ (j : Nat), j ≤ 100 ∧ t = .int .i64 j ∧ Mp wr b most L ∧ RM wr rb rg (most + 1) V ∧ Fr (fun _ => False) w wr) (fun t _ => 100 - (intOf t).toNat)
    case atStart => exact ⟨0, by omega, rfl, m2, r2, f02⟩
    case round =>
      clear m2 r2 f02
      obtain ⟨j, hj, rfl, hM, hR, hf⟩ := hrel
      by_cases hlt : j ≤ most + 1 ∧ j < 100
      · have h1j : (j : Int) ≤ (most : Int) + 1 := by omega
        have h2j : (j : Int) < 100 := by omega
        have hd1 : decide ((j : Int) ≤ (most : Int) + 1) = true := by simp; omega
        have hd2 : decide ((j : Int) < 100) = true := by simp; omega
        have hd3 : decide (j < 100) = true := by simp; omega
        have hh := has_any b most L _ hM j
        have hrh := fun W (hW : RM W rb rg (most + 1) V) => rhas_any rb rg (most + 1) V W hW j
        rw [alike_has HLK.out] at hrh
        generalize hasF most L (j : Int) = x at *
        clear hlt
        go_wp2_with fail
        refine hh.mono ?_
        rintro e w3 ⟨rfl, f3⟩
        have hM3 := hM.same f3
        have hR3 := hR.same f3
        have hf3 := hf.false_trans f3
        go_wp2_with fail
        refine (hrh _ hR3).mono ?_
        rintro e w4 ⟨rfl, rfl⟩
        go_wp2
        go_roundw
        case rel => exact ⟨j + 1, by omega, by go_num, hM3, hR3, hf3⟩
        case measure => simp [intOf]; omega
      · have hRd := hR.same ((Fr.refl (fun _ => False) wr).drew)
        have hMd := hM.same ((Fr.refl (fun _ => False) wr).drew)
        have hfd := hf.drew
        have HC : Hid (cntV V (most + 1) = cnt L most) := HLK.out.cnt most (Nat.le_refl _)
        have HMB : Hid (∀ W, Mp W b most L → Calls Try.prog 19 #[.pointer (some ⟨b, 0, none⟩)] W fun e w' => ∃ a' c', e = .returned (.slice a' len1 c') ∧ Row w' a' c' l1 ∧ Fr (fun _ => False) W w') := fun W hW => by
          have := mbytes_any b most L W hW
          rw [HT.out, ← HL8.out, ← HN.out] at this
          exact this
        have HUS : Hid (∀ W, Mp W b most L → Calls Try.prog 17 #[.pointer (some ⟨b, 0, none⟩)] W fun e w' => e = .returned (.int .i64 (cnt L most)) ∧ Fr (fun _ => False) W w') := fun W hW => used_any b most L W hW
        have HCT : Hid (∀ W, RM W rb rg (most + 1) V → Calls Try.prog 18 #[.pointer (some ⟨rb, 0, none⟩)] W fun e w' => e = .returned (.int .i64 (cnt L most)) ∧ w' = W) := fun W hW => by
          have := count_any rb rg (most + 1) V W hW
          rw [HC.out] at this
          exact this
        generalize cnt L most = c at *
        have cvl := fun (W : World) (h : Fr (fun _ => False) w W) => run_str (P := Try.prog) (src := 41) (dst := 9) Try.underlying41 Try.underlying5 Try.underlying9 (hr1.same h) len1 HN.out
        by_cases hjm : j ≤ most + 1
        · have hj1 : j = 100 := by omega
          subst hj1
          have hd1 : decide ((100 : Int) ≤ (most : Int) + 1) = true := by simp; omega
          have hj2 : (100 : Int) ≤ (most : Int) + 1 := by omega
          clear hlt hjm
          go_wp2_with fail
          go_region_with (first
            | (go_at_call 19; refine (HMB.out _ hMd).mono ?_; rintro e w5 ⟨a5, c5, rfl, r5, f5⟩; have hM5 := hMd.same f5; have hR5 := hRd.same f5; have f05 := hfd.false_trans f5; have f55 := Fr.refl (fun _ => False) w5; have cv5 := fun (W : World) (h : Fr (fun _ => False) w5 W) => run_str (P := Try.prog) (src := 41) (dst := 9) Try.underlying41 Try.underlying5 Try.underlying9 (r5.same h) len1 HN.out)
            | (go_at_call 17; refine (HUS.out _ hM5).mono ?_; rintro e w6 ⟨rfl, f6⟩; have hR6 := hR5.same f6; have f06 := f05.false_trans f6; have f56 := f6)
            | (go_at_call 18; refine (HCT.out _ hR6).mono ?_; rintro e w7 ⟨rfl, rfl⟩)
            | (go_at_call 9; refine (aspeaks_any _).mono ?_; rintro e w8 ⟨rfl, f8⟩; have f08 := f06.false_trans f8))
          all_goals
            go_wp2
            go_ret
            exact ⟨rfl, f08⟩
        · have hd1 : decide ((j : Int) ≤ (most : Int) + 1) = false := by simp; omega
          have hj2 : (most : Int) + 1 < (j : Int) := by omega
          clear hlt hjm
          go_wp2_with fail
          go_region_with (first
            | (go_at_call 19; refine (HMB.out _ hMd).mono ?_; rintro e w5 ⟨a5, c5, rfl, r5, f5⟩; have hM5 := hMd.same f5; have hR5 := hRd.same f5; have f05 := hfd.false_trans f5; have f55 := Fr.refl (fun _ => False) w5; have cv5 := fun (W : World) (h : Fr (fun _ => False) w5 W) => run_str (P := Try.prog) (src := 41) (dst := 9) Try.underlying41 Try.underlying5 Try.underlying9 (r5.same h) len1 HN.out)
            | (go_at_call 17; refine (HUS.out _ hM5).mono ?_; rintro e w6 ⟨rfl, f6⟩; have hR6 := hR5.same f6; have f06 := f05.false_trans f6; have f56 := f6)
            | (go_at_call 18; refine (HCT.out _ hR6).mono ?_; rintro e w7 ⟨rfl, rfl⟩)
            | (go_at_call 9; refine (aspeaks_any _).mono ?_; rintro e w8 ⟨rfl, f8⟩; have f08 := f06.false_trans f8))
          all_goals
            go_wp2
            go_ret
            exact ⟨rfl, f08⟩
  · have hfm := from_no most hm1 hm2 a1 len1 cap1 l1 hl1 w hr1 hok
    have HOK : Hid (¬ fromOK most l1) := hok
    clear hl1 hok
    go_enter Try.func4, Try.ntmps4
    go_wp2_with fail
    refine hfm.mono ?_
    rintro e w1 ⟨rfl, f1⟩
    clear hfm
    go_wp2_with fail
    refine (rfrom_any most hm1 hm2 a1 len1 cap1 l1 HN.out _ (hr1.same f1)).mono ?_
    rintro e w2 hout
    rcases hout with ⟨_, rfl, f2⟩ | ⟨hyes, _⟩
    · go_wp2_with fail
      refine (aspeaks_any _).mono ?_
      rintro e w3 ⟨rfl, f3⟩
      go_wp2
      go_ret
      exact ⟨rfl, (f1.false_trans f2).false_trans f3⟩
    · exact absurd hyes HOK.out

set_option maxRecDepth 100000 in
theorem lifted (os : Os) (started : os.Started) (H : Type) (enc : TypeId × Value → H) :
    ReturnsInHanded {} Try.checked os 4 .any (Rows.allocReadsSpec.pre6 enc Try.prog Try.f4 Rows.allocReadsRow.domain false) (Rows.allocReadsSpec.post enc Try.prog Try.f4 false true false false) := by
  refine returnsInHanded_of_change_sized (C := Try.checked) own started (by kernel_rfl) Try.func4
    (ChangeSpec.witness6 (enc := enc) (C := Try.checked) false ⟨#[], #[.int .i64 0, .slice none 0 0], []⟩ 8 (by kernel_rfl) (by kernel_rfl) (by kernel_rfl) (by kernel_rfl)) ?_
  intro W base args ds gs before hval0 hW hcnd hsz0 _
  have hsz : (DataW.weightsEach Try.prog (Try.f4.params.toList ++ Rows.allocReadsSpec.plain.varTypes Try.prog) (ds ++ gs)).all (· ≤ reachBytes) = true := hsz0
  clear hsz0
  have hval : ∀ (j : Nat) t v, Try.f4.params[j]? = some t → args[j]? = some v → Value.okWide Try.prog W .any base t v := hval0
  have hW' := hW
  obtain ⟨p, q, hA0, hV, rfl, hfz, hnd⟩ := hW
  have hA : DataW.TrodAll enc Try.prog W 0 (fun _ => true) true Try.f4.params.toList args.toList ds p := hA0
  rw [Try.params4] at hA hval hsz
  obtain ⟨v0, vs0, d0, ds0, p0, q0, hargs, rfl, rfl, h0, r0⟩ := trodAll_cons hA
  obtain ⟨v1, vs1, d1, ds1, p1, q1, rfl, rfl, rfl, h1, r1⟩ := trodAll_cons r0
  obtain ⟨rfl, rfl, rfl⟩ := trodAll_nil r1
  obtain rfl : args = #[v0, v1] := by cases args; simp_all
  obtain ⟨rfl, rfl⟩ := trodVars_none hV
  obtain ⟨a1, len1, cap1, rfl⟩ := okWide_slice Try.underlying41 (hval 1 41 v1 rfl rfl)
  have k1 := h1
  have lt1 : ∀ x ∈ p1, x.block < W.heap.size := by obtain ⟨m, hm⟩ := k1; exact DataW.trod_lt m _ _ _ hm
  obtain ⟨l1, hl1, z1, hr1⟩ : ∃ l : List Nat, len1 = l.length ∧ cap1 ≤ 140737488351232 ∧ Row W a1 cap1 l := by
    obtain ⟨fuel, hf⟩ := h1
    rcases open_ints Try.underlying41 Try.underlying5 (by kernel_rfl) hf with ⟨hcs, _⟩ | ⟨x, l, c, zs, hcs, _, hl, hm, hz, hx, hcell, hwz⟩
    · simp [Value.cells] at hcs
      obtain ⟨rfl, rfl, rfl⟩ := hcs
      exact ⟨[], rfl, by omega, row_nil _ _⟩
    · simp [Value.cells] at hcs
      obtain ⟨rfl, rfl, rfl⟩ := hcs
      have hz' : zs.length = cap1 := by simpa using hz
      have hd : d1 = .slice (lits .u8 (zs.take len1)) (lits .u8 (zs.drop len1)) := congrArg Prod.fst hx
      have hcap : cap1 ≤ 140737488351232 := by
        have := sized_slice hsz (j := 1) (t := 41) (e := 5) rfl (by rw [hd]; rfl) Try.underlying41
        rw [bytes8] at this
        simp only [lits, List.length_map, List.length_take, List.length_drop, reachBytes] at this
        omega
      obtain ⟨l, h1, h2⟩ := row_of_ints hl (Nat.le_trans hcap (by omega)) hz' hcell hwz
      exact ⟨l, h1, hcap, h2⟩
  obtain ⟨a0, rfl, rfl, rfl, w0⟩ := open_int Try.underlying3 (hval 0 3 v0 rfl rfl) h0
  clear hA0 hval0
  refine (walk W a0 w0 a1 len1 cap1 l1 hl1 z1 hr1).mono fun e W' ⟨he, fr⟩ => ?_
  have bel : Below W.heap.size W W' := fr.below (Nat.le_refl _) (fun _ f => f.elim)
  subst he
  exact ⟨_, rfl, _, _, _, [], _, [], hW', trodAll_mk1 (shut_bool Try.underlying4 _), (trodAll_cons_mk (shut_int Try.underlying3 w0) (trodAll_cons_mk (Below.trod laidOut (by kernel_rfl) (of_decide_eq_true (by kernel_rfl)) k1 bel lt1) trodAll_mk0)), rfl, bel.frame _, fun h => by cases h⟩

theorem proved : Rows.AllocReadsSaid :=
  OpenClaim.holds_of_wide 4 Try.f4 rfl rfl rfl rfl rfl rfl rfl ⟨rfl, rfl, rfl, rfl, rfl⟩ rfl rfl rfl rfl rfl (by kernel_rfl) Try.func4 (by kernel_rfl)
    (of_decide_eq_true (by kernel_rfl)) (by unfold Func.isWrapper; first | (rw [if_pos (by decide +kernel)]; kernel_rfl) | (rw [if_neg (by decide +kernel)]; exact ⟨rfl, rfl⟩))
    (fun os started H enc _ => lifted os started H enc)
end Go.Proofs.Ytgilemiejemgkaa.allocReads
namespace Go.Proofs.Ytgilemiejemgkaa
theorem allocReads_holds : Rows.AllocReadsSaid := allocReads.proved
#print axioms allocReads_holds
end Go.Proofs.Ytgilemiejemgkaa
