
/- For every number of frames and every list of steps latticelaw11.PoolSteps answers true: each call of a pool tells what the document's pool tells, step by step; no condition. -/
import Derived.Test.YtneniagingoleaaArgs
import Derived.Test.YtneniagingoleaaPlSpeak
import Derived.Test.YtneniagingoleaaPrAsk
import Derived.Test.YtneniagingoleaaPrLast
import Derived.Test.YtneniagingoleaaPlSort
import Derived.Deep.RegionHeld3
import Derived.Deep.DeepCutAuto
namespace Go.Proofs.Ytneniagingoleaa.poolSteps
open Go.ChangeShapes Go.WideShapes Go.ChangeAt Go.RowKit
open Go.ChangeMaps (open_string shut_string)
set_option linter.unusedVariables false

theorem own : ownKnob Try.prog.godebug = none := by kernel_rfl
theorem laidOut : laidOutB Try.prog = true := by kernel_rfl
theorem bytes8 : Try.prog.bytesOf 5 = 1 := by kernel_rfl

set_option maxRecDepth 100000 in
set_option maxHeartbeats 8000000 in
theorem walk (w : World) (k : Int) (wk : (Lit.int .i64 k).wf = true) (a0 : Option Addr) (len0 cap0 : Nat) (st : List Pst) (hl0 : len0 = st.length) (hr0 : Psts w a0 cap0 st) :
    Calls Try.prog 3 #[.int .i64 k, .slice a0 len0 cap0] w fun e w' => e = .returned (.bool true) ∧ Fr (fun _ => False) w w' := by
  clear wk
  by_cases hk : 1 ≤ k ∧ k ≤ 64
  · subst hl0
    have hle0 := hr0.le
    have hmx0 := hr0.max
    have HFIT : Hid (∀ (i : Nat) (s : Pst), st[i]? = some s → wfK s.pg ∧ wfK s.ls) := hr0.fit
    have HRS : Hid (∀ W, Fr (fun _ => False) w W → Psts W a0 cap0 st) := fun W f => hr0.same f
    have HBIG : Hid (st.length ≤ 9223372036854775807) := Nat.le_trans hle0 hmx0
    have HK : Hid (1 ≤ k ∧ k ≤ 64) := hk
    clear hr0
    have hnw := pnew_yes w k hk
    have hnr := fun W => rnew_yes W k hk
    obtain ⟨mb, hmb⟩ : ∃ mb, mb = w.heap.size := ⟨_, rfl⟩
    rw [← hmb] at hnw
    obtain ⟨pb, hpb⟩ : ∃ pb, pb = mb + 1 := ⟨_, rfl⟩
    rw [← hpb] at hnw
    have HMB : Hid (w.heap.size ≤ mb ∧ w.heap.size ≤ pb) := ⟨by omega, by omega⟩
    clear hmb hpb hk
    go_enter Try.func3, Try.ntmps3
    go_wp2_with fail
    refine hnw.mono ?_
    clear hnw
    rintro e wa ⟨rfl, ha, fa⟩
    go_wp2_with fail
    refine (hnr _).mono ?_
    clear hnr
    rintro e wb ⟨rfl, hb, fb⟩
    have hrlt := lt_of_block hb.box
    obtain ⟨rb, hrb⟩ : ∃ rb, rb = wa.heap.size := ⟨_, rfl⟩
    have HRB : Hid (wa.heap.size = rb) := hrb.symm
    rw [← hrb] at hb
    have hpl := lt_of_block ha.box
    have hml := ha.map.lt
    have hT0 : Tie (fun _ => none) 0 0 [] 0 := ⟨by simp, by simp, by simp, (fun x g => ⟨(fun e => by cases e), (fun h => by obtain ⟨z, hz, _⟩ := h; cases hz)⟩), rfl, by simp, by simp, by simp⟩
    have hBo : Bo wb w.heap.size pb mb rb (.slice none 0 0) k 0 0 (fun _ => none) 0 [] 0 := ⟨ha.same fb, hb, hT0, ⟨HMB.out.2, HMB.out.1, by have := fa.size; omega, by omega, by omega, fun g e => by cases e⟩, ⟨HK.out.1, HK.out.2, by have := HK.out.1; simp; omega⟩⟩
    have HBo : Hid (Bo wb w.heap.size pb mb rb (.slice none 0 0) k 0 0 (fun _ => none) 0 [] 0) := hBo
    have F0 := fa.seq' fb
    clear hBo hT0 ha hb fa fb hrlt hpl hml
    rw [HRB.out]
    clear hrb
    go_wp2
    go_loopw [40] (fun i wr => ∃ (q : Nat) (rv : Value) (us fl : Int) (M : Pmap) (n : Nat) (Z : List (Fm × Int)), q ≤ st.length ∧ i = .int .i64 q ∧ Hid (Bo wr w.heap.size pb mb rb rv k us fl M n Z q) ∧ Fr (fun _ => False) w wr) (fun i _ => st.length - (intOf i).toNat)
    case atStart => exact ⟨0, _, _, _, _, _, _, by omega, rfl, HBo, F0⟩
    case round =>
      obtain ⟨q, rv, us, fl, M, n, Z, hq, rfl, HB, F⟩ := hrel
      clear HBo F0
      by_cases hlt : q < st.length
      · obtain ⟨s, hs⟩ : ∃ s, st[q]? = some s := ⟨_, List.getElem?_eq_getElem hlt⟩
        obtain ⟨b, off, rfl, hbw, hcells⟩ := (HRS.out _ F).some (by omega)
        obtain ⟨q0, q1, q2⟩ := hcells q s hs
        obtain ⟨hpg, hls⟩ := HFIT.out q s hs
        have hqi : (q : Int) < (st.length : Int) := by omega
        have hqk : q ≤ 9223372036854775806 := by have := HBIG.out; omega
        obtain ⟨kk, pg, ls⟩ := s
        dsimp only at q0 q1 q2 hpg hls
        have fbx := Fr.box wr (.cells #[.int .i64 kk, .int .i64 pg, .int .i64 ls] 32)
        have hsx := heap_alloc_new wr (.cells #[.int .i64 kk, .int .i64 pg, .int .i64 ls] 32)
        have hB1 := HB.out.same fbx
        have hFs := F.size
        have hask := asks_any w.heap.size pb mb rb rv k us fl M n Z q _ kk pg ls hpg hls hqk (by simp; omega) hB1
        clear hs hcells hB1 hls
        go_wp2_with fail
        refine hask.mono ?_
        rintro e w1 ⟨rfl, rv1, us1, fl1, M1, n1, Z1, hB2, f1⟩
        clear hask q0 q1 q2
        have hpw := lt_of_block HB.out.pl.box
        have hmw := HB.out.pl.map.lt
        have hrw := lt_of_block HB.out.rp.box
        have hsp := HB.out.sp
        have nS : ¬ (plS pb mb wr.heap.size ∨ rpS rb rv wr.heap.size) := fun e => by
          rcases e with (e | e) | (e | e)
          · omega
          · omega
          · omega
          · have := HB.out.rp.has.lt e; omega
        have HSX : Hid (∀ W, Fr (fun _ => False) w1 W → W.heap[wr.heap.size]? = some (.cells #[.int .i64 kk, .int .i64 pg, .int .i64 ls] 32 (0, 0))) := fun W f => f.keep (f1.keep hsx nS) (fun f => f)
        have HB2 : Hid (∀ W, Fr (fun _ => False) w1 W → Bo W w.heap.size pb mb rb rv1 k us1 fl1 M1 n1 Z1 (q + 1)) := fun W f => hB2.same f
        have HF1 : Hid (∀ W, Fr (fun _ => False) w1 W → Fr (fun _ => False) w W) := fun W f => ((F.seq' fbx).trans f1 (fun i hi e => by rcases e with (e | e) | (e | e) <;> first | (have := hsp.p; have := hsp.m; have := hsp.r; omega) | (have := (hsp.v i e).1; omega))).seq' f
        have hol := oldest_pl pb k mb n1 us1 fl1 M1 w1 hB2.pl
        go_wp2_with fail
        refine hol.mono ?_
        rintro e w2 ⟨r, rfl, hr, f2⟩
        obtain ⟨ho1, ho2⟩ := hB2.tie.old hr
        have hor := roldest_rp rb k fl1 rv1 (fms Z1) w2 (HB2.out _ f2).rp
        rw [ho1, ho2] at hor
        clear hol hr ho1 ho2
        go_wp2_with fail
        refine hor.mono ?_
        rintro e w3 ⟨rfl, f3⟩
        clear hor
        have F3 := f2.seq' f3
        have d3 := F3.drew
        have q0 := (rp_cells (HSX.out _ d3)).1.2.1
        obtain ⟨pv, hpv⟩ : ∃ pv, pv = ((M1 pg).getD h0).pins := ⟨_, rfl⟩
        have HPV : Hid (((M1 pg).getD h0).pins = pv) := hpv.symm
        have HPR : Hid (∀ W, Rp W rb k fl1 rv1 (fms Z1) → Calls Try.prog 17 #[.pointer (some ⟨rb, 0, none⟩), .int .i64 pg] W fun e w' => e = .returned (.int .i64 pv) ∧ Fr (fun _ => False) W w') := fun W hW => by
          have h1 := rpins_rp rb k fl1 rv1 (fms Z1) W pg hW
          have h2 := hB2.tie.pinsAt pg
          rw [hpv, h2]
          cases hf : (fms Z1)[fI (fms Z1) pg]? with
          | none => simp only [hf] at h1; exact h1
          | some f => simp only [hf] at h1; exact h1
        obtain ⟨T, hT⟩ : ∃ T, T = (fms Z1).map Fm.page := ⟨_, rfl⟩
        have HTP : Hid (∀ ts, Keep M1 n1 ts → ts.Pairwise (fun x y => ((M1 x).getD h0).used ≤ ((M1 y).getD h0).used) → T = ts) := fun ts h1 h2 => by rw [hT]; exact (hB2.tie.pages h1 h2).symm
        have HRP : Hid (∀ W, Rp W rb k fl1 rv1 (fms Z1) → Calls Try.prog 15 #[.pointer (some ⟨rb, 0, none⟩)] W fun e w' => ∃ v', e = .returned v' ∧ Has w' 1 v' T.length (intC T) ∧ Fr (fun _ => False) W w') := fun W hW => by rw [hT]; exact rpages_rp rb k fl1 rv1 (fms Z1) W hW
        have hn1 : n1 ≤ 1000000 := by have := hB2.fit; omega
        have HPGW : Hid (wfK pg) := hpg
        clear hpv hT hB2 hsx f1 fbx hpg nS hsp hpw hmw hrw
        generalize wr.heap.size = A at *
        go_wp2_with fail
        go_region_held3 (fun W => W.cell? ⟨A, 1, none⟩ = some (.int .i64 pg))
          (first | with_reducible exact q0 | with_reducible exact qa | with_reducible exact qb | with_reducible exact qc | with_reducible exact qd)
          (first
            | (go_at_call 14; refine (pages_pl (HB2.out _ d3).pl hn1).mono ?_; rintro e w4 ⟨v4, ts, rfl, hkp, hst, hrow, f4⟩; have hts := HTP.out ts hkp hst; subst hts; clear hkp hst; obtain ⟨a4, c4, rfl, hI4⟩ := Ir.of hrow; clear hrow; have d4 := d3.seq' f4; have qa := (rp_cells (HSX.out _ d4)).1.2.1)
            | (go_at_call 15; refine (HRP.out _ (HB2.out _ d4).rp).mono ?_; rintro e w5 ⟨v5, rfl, hh5, f5⟩; obtain ⟨a5, c5, rfl, hI5⟩ := has_ir hh5; clear hh5; have hI4b := hI4.fr f5 (fun _ _ _ f => f); have d5 := d4.seq' f5; have qb := (rp_cells (HSX.out _ d5)).1.2.1)
            | (go_at_call 13; refine (plain_ints a4 a5 c4 c5 _ _ _ _ hI4b hI5).mono ?_; rintro e w6 ⟨rfl, f6⟩; have d6 := d5.seq' f6; have qc := (rp_cells (HSX.out _ d6)).1.2.1)
            | (go_at_call 16; refine (pins_pl pb k mb n1 us1 fl1 M1 _ pg HPGW.out (HB2.out _ d6).pl).mono ?_; rw [HPV.out]; rintro e w7 ⟨rfl, rfl⟩)
            | (go_at_call 17; refine (HPR.out _ (HB2.out _ d6).rp).mono ?_; rintro e w8 ⟨rfl, f8⟩; have d8 := d6.seq' f8; have qd := (rp_cells (HSX.out _ d8)).1.2.1))
        all_goals
          have hBF : Hid (Bo _ w.heap.size pb mb rb rv1 k us1 fl1 M1 n1 Z1 (q + 1)) := HB2.out _ d8
          have hFF := HF1.out _ d8
          go_wp2
          go_roundw
          case rel => exact ⟨q + 1, _, _, _, _, _, _, by omega, by go_num, hBF, hFF⟩
          case measure => simp [intOf]; omega
      · go_wp2_with fail
        refine (pspeaks_any _).mono ?_
        rintro e w9 ⟨rfl, f9⟩
        go_wp2
        go_ret
        exact ⟨rfl, F.seq' f9⟩
  · have hnw := pnew_no w k hk
    have hnr := fun W => rnew_no W k hk
    clear hk hr0 hl0
    go_enter Try.func3, Try.ntmps3
    go_wp2_with (first | (go_at_call 7; refine hnw.mono ?_; rintro e w' ⟨rfl, rfl⟩) | (go_at_call 8; refine (hnr _).mono ?_; rintro e w' ⟨rfl, rfl⟩))
    refine (pspeaks_any _).mono ?_
    rintro e w9 ⟨rfl, f9⟩
    go_wp2
    go_ret
    exact ⟨rfl, f9⟩

set_option maxRecDepth 100000 in
theorem lifted (os : Os) (started : os.Started) (H : Type) (enc : TypeId × Value → H) :
    ReturnsInHanded {} Try.checked os 3 .any (Rows.poolStepsSpec.pre6 enc Try.prog Try.f3 Rows.poolStepsRow.domain false) (Rows.poolStepsSpec.post enc Try.prog Try.f3 false true false false) := by
  refine returnsInHanded_of_change_sized (C := Try.checked) own started (by kernel_rfl) Try.func3
    (ChangeSpec.witness6 (enc := enc) (C := Try.checked) false ⟨#[], #[.int .i64 0, .slice none 0 0], []⟩ 8 (by kernel_rfl) (by kernel_rfl) (by kernel_rfl) (by kernel_rfl)) ?_
  intro W base args ds gs before hval0 hW hcnd hsz0 _
  have hsz : (DataW.weightsEach Try.prog (Try.f3.params.toList ++ Rows.poolStepsSpec.plain.varTypes Try.prog) (ds ++ gs)).all (· ≤ reachBytes) = true := hsz0
  clear hsz0
  have hval : ∀ (j : Nat) t v, Try.f3.params[j]? = some t → args[j]? = some v → Value.okWide Try.prog W .any base t v := hval0
  have hW' := hW
  obtain ⟨p, q, hA0, hV, rfl, hfz, hnd⟩ := hW
  have hA : DataW.TrodAll enc Try.prog W 0 (fun _ => true) true Try.f3.params.toList args.toList ds p := hA0
  rw [Try.params3] at hA hval hsz
  obtain ⟨v0, vs0, d0, ds0, p0, q0, hargs, rfl, rfl, h0, r0⟩ := trodAll_cons hA
  obtain ⟨v1, vs1, d1, ds1, p1, q1, rfl, rfl, rfl, h1, r1⟩ := trodAll_cons r0
  obtain ⟨rfl, rfl, rfl⟩ := trodAll_nil r1
  obtain rfl : args = #[v0, v1] := by cases args; simp_all
  obtain ⟨rfl, rfl⟩ := trodVars_none hV
  obtain ⟨a1, len1, cap1, rfl⟩ := okWide_slice Try.underlying22 (hval 1 22 v1 rfl rfl)
  have k1 := h1
  have lt1 : ∀ x ∈ p1, x.block < W.heap.size := by obtain ⟨m, hm⟩ := k1; exact DataW.trod_lt m _ _ _ hm
  obtain ⟨ls1, hl1, hr1⟩ : ∃ ls : List Pst, len1 = ls.length ∧ Psts W a1 cap1 ls := by
    obtain ⟨fuel, hf⟩ := h1
    obtain ⟨ls, e1, e2, e3⟩ := psts_open hf
    exact ⟨ls, e1, e2⟩
  obtain ⟨a0, rfl, rfl, rfl, w0⟩ := open_int Try.underlying3 (hval 0 3 v0 rfl rfl) h0
  clear hA0 hval0
  refine (walk W a0 w0 a1 len1 cap1 ls1 hl1 hr1).mono fun e W' ⟨he, fr⟩ => ?_
  have bel : Below W.heap.size W W' := fr.below (Nat.le_refl _) (fun _ f => f.elim)
  subst he
  exact ⟨_, rfl, _, _, _, [], _, [], hW', trodAll_mk1 (shut_bool Try.underlying4 _), (trodAll_cons_mk (shut_int Try.underlying3 w0) (trodAll_cons_mk (Below.trod laidOut (by kernel_rfl) (of_decide_eq_true (by kernel_rfl)) k1 bel lt1) trodAll_mk0)), rfl, bel.frame _, fun h => by cases h⟩

theorem proved : Rows.PoolStepsSaid :=
  OpenClaim.holds_of_wide 3 Try.f3 rfl rfl rfl rfl rfl rfl rfl ⟨rfl, rfl, rfl, rfl, rfl⟩ rfl rfl rfl rfl rfl (by kernel_rfl) Try.func3 (by kernel_rfl)
    (of_decide_eq_true (by kernel_rfl)) (by unfold Func.isWrapper; first | (rw [if_pos (by decide +kernel)]; kernel_rfl) | (rw [if_neg (by decide +kernel)]; exact ⟨rfl, rfl⟩))
    (fun os started H enc _ => lifted os started H enc)
end Go.Proofs.Ytneniagingoleaa.poolSteps
namespace Go.Proofs.Ytneniagingoleaa
theorem poolSteps_holds : Rows.PoolStepsSaid := poolSteps.proved
#print axioms poolSteps_holds
end Go.Proofs.Ytneniagingoleaa
