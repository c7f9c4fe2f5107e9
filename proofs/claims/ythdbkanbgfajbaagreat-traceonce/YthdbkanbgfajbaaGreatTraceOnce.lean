
/- For any trace that breaks no rule each number that trace.Acked tells stands once among the commits that fold.History tells of the last step's records and is none of those that trace.Open tells, and the small cases come true; no condition but those of the statement's own form. -/
import Derived.Test.YthdbkanbgfajbaaGreatTB3
import Derived.Test.YthdbkanbgfajbaaGreatTB27
import Derived.Test.YthdbkanbgfajbaaGreatTB24
namespace Go.Proofs.YthdbkanbgfajbaaGreat.traceOnce
open Go.ChangeShapes Go.WideShapes Go.ChangeAt Go.RowKit
open Go.ChangeMaps (open_string shut_string)
set_option linter.unusedVariables false

theorem own : ownKnob Tryz.prog.godebug = none := by kernel_rfl
theorem laidOut : laidOutB Tryz.prog = true := by kernel_rfl
theorem bytes8 : Tryz.prog.bytesOf 5 = 1 := by kernel_rfl

open Go.RowKit
theorem cnt_step {hs : List Rec} {q : Int} {j : Nat} {r : Rec} (h : hs[j]? = some r) : ((hs.take (j + 1)).filter (fun r => r.req == q)).length = ((hs.take j).filter (fun r => r.req == q)).length + if r.req = q then 1 else 0 := by
  rw [List.take_add_one, h, List.filter_append, List.length_append]
  by_cases e : r.req = q <;> simp [e]
theorem cnt_le (hs : List Rec) (q : Int) (j : Nat) : ((hs.take j).filter (fun r => r.req == q)).length ≤ j := by
  refine Nat.le_trans (List.length_filter_le _ _) ?_
  rw [List.length_take]; omega
set_option maxRecDepth 100000 in
set_option maxHeartbeats 16000000 in
theorem walk (w : World) (a0 : Option Addr) (len0 cap0 : Nat) (l : List Sn) (hl0 : len0 = l.length) (hr0 : Sns w w.heap.size a0 cap0 l) (hw0 : ∀ s ∈ l, SnWf s) (hz0 : ∀ s ∈ l, s.ans.length * 72 ≤ reachBytes ∧ s.H.length * 80 ≤ reachBytes) (hb0 : len0 * 160 ≤ reachBytes) :
    Calls Tryz.prog 4 #[.slice a0 len0 cap0] w fun e w' => e = .returned (.bool true) ∧ Fr (fun _ => False) w w' := by
  have HSP : Hid (∀ W, Calls Tryz.prog 7 #[] W fun e w' => e = .returned (.bool true) ∧ Fr (fun _ => False) W w') := tspeaks_any
  have hlg := large_any a0 len0 cap0 l hl0 hz0 w hr0
  have hle : len0 ≤ cap0 := by rw [hl0]; exact hr0.le
  have hmx := hr0.max
  have HR : Hid (Sns w w.heap.size a0 cap0 l) := hr0
  have HW : Hid (∀ s ∈ l, SnWf s) := hw0
  have HN : Hid (len0 = l.length) := hl0
  clear hr0 hw0 hz0 hl0 hb0
  go_enter Tryz.func4, Tryz.ntmps4
  go_wp2_with fail
  refine hlg.mono ?_
  rintro e w2 ⟨b, rfl, hb, f2⟩
  cases b with
  | true =>
    clear hlg
    go_wp2_with (go_at_call 7; refine (HSP.out _).mono ?_; rintro e w3 ⟨rfl, f3⟩)
    go_ret
    exact ⟨rfl, f2.seq' f3⟩
  | false =>
    have HS : Hid (Small l) := small_of HW.out (hb rfl)
    have hl3 : len0 ≤ 300 := by have := (hb rfl).1; have := HN.out; omega
    have HF2 : Hid (Fr (fun _ => False) w w2) := f2
    clear hlg hb f2
    by_cases h0 : len0 = 0
    · subst h0
      clear hl3
      go_wp2_with (go_at_call 7; refine (HSP.out _).mono ?_; rintro e w3 ⟨rfl, f3⟩)
      go_ret
      exact ⟨rfl, HF2.out.seq' f3⟩
    obtain ⟨p, rfl⟩ : ∃ p, len0 = p + 1 := ⟨len0 - 1, by omega⟩
    clear h0
    have hc1 := check_any a0 (p + 1) cap0 l HN.out HS.out w2 HF2.out.size (HR.out.same HF2.out)
    unfold ChkE at hc1
    go_wp2_with fail
    refine hc1.mono ?_
    rintro e w3 ⟨a, i, rfl, hk1, f3⟩
    have HF3 : Hid (Fr (fun _ => False) w w3) := HF2.out.seq' f3
    clear hc1 f3 HF2
    by_cases ha : a = 0
    · subst ha
      have HK : Hid (Keeps l l.length) := by
        rcases hk1 with ⟨_, _, h⟩ | ⟨h, _⟩
        · exact h
        · exact absurd rfl h
      obtain ⟨s, hs⟩ : ∃ s, l[p]? = some s := ⟨_, List.getElem?_eq_getElem (by have := HN.out; omega)⟩
      have HLA : Hid (l.getLast? = some s) := by
        show _ = _
        rw [List.getLast?_eq_getElem?, ← HN.out]; exact hs
      have hmem := List.mem_of_getElem? hs
      have HSM : Hid (s ∈ l) := hmem
      obtain ⟨g, o, rfl, hgB, hgw, hcc⟩ := (HR.out.same HF3.out).some (by have := HN.out; omega)
      obtain ⟨c0, c1, c2, c3, c4, c5, c6, c7, c8, c9, c10, c11⟩ := sn_range (hcc p s hs)
      have HO := open_any (some ⟨g, o, none⟩) (p + 1) cap0 l HN.out HS.out w3 (HR.out.same HF3.out)
      obtain ⟨ha', hha⟩ : ∃ x, x = s.ha := ⟨_, rfl⟩
      obtain ⟨nh, hnh⟩ : ∃ x, x = s.H.length := ⟨_, rfl⟩
      rw [← hha, ← hnh] at c11
      have HHI : Hid (∀ W, Fr (fun _ => False) w W → Calls Tryz.prog 11 #[.slice ha' nh s.hc] W (RcOut W (hist s.H))) := fun W f => by
        have := (HS.out.each s hmem).2
        rw [hha]
        exact history_any s.ha nh s.hc s.H hnh (by omega) W ((HR.out.same f).ins s hmem).hist
      have HONE : Hid (∀ q ∈ ackedL l, ((hist s.H).filter (fun r => r.req == q)).length = 1 ∧ q ∉ openL l) := fun q hq => once_all HLA.out HK.out hq
      have hlh : (hist s.H).length ≤ 2000 := by have := (HS.out.each s hmem).2; have := List.length_filter_le comB s.H; unfold hist; omega
      unfold RowE at HO
      unfold RcOut at HHI
      clear hk1 hcc hs hmem hha hnh
      go_wp2_with fail
      refine HO.mono ?_
      rintro e w4 ⟨ao, co, rfl, r4, f4⟩
      have HF4 : Hid (Fr (fun _ => False) w w4) := HF3.out.seq' f4
      have HIO : Hid (Ir w4 0 ao co (openL l)) := r4
      have hoo := r4.le
      have hom := r4.max
      have HA := acked_any (some ⟨g, o, none⟩) (p + 1) cap0 l HN.out HS.out w4 (HR.out.same HF4.out)
      unfold RowE at HA
      clear HO f4 r4 HF3 c0 c1 c2 c3 c4 c5 c6 c7 c8 c9 c10 c11
      go_wp2_with fail
      refine HA.mono ?_
      rintro e w5 ⟨aa, ca, rfl, r5, f5⟩
      have HF5 : Hid (Fr (fun _ => False) w w5) := HF4.out.seq' f5
      have HIA : Hid (Ir w5 0 aa ca (ackedL l)) := r5
      have HIO5 : Hid (Ir w5 0 ao co (openL l)) := HIO.out.fr f5 (fun _ _ _ e => e)
      have hao := r5.le
      have ham := r5.max
      clear HA f5 r5 HF4 HIO
      obtain ⟨no, hno⟩ : ∃ x, x = (openL l).length := ⟨_, rfl⟩
      obtain ⟨na, hna⟩ : ∃ x, x = (ackedL l).length := ⟨_, rfl⟩
      have HNO : Hid (no = (openL l).length) := hno
      have HNA : Hid (na = (ackedL l).length) := hna
      obtain ⟨hs, hhs⟩ : ∃ x, x = hist s.H := ⟨_, rfl⟩
      obtain ⟨nn, hnn⟩ : ∃ x, x = hs.length := ⟨_, rfl⟩
      rw [← hhs] at HHI HONE hlh
      rw [← hnn] at HHI hlh
      rw [← hno] at hoo ⊢
      rw [← hna] at hao ⊢
      have HNN : Hid (nn = hs.length) := hnn
      clear hhs hnn hno hna
      go_wp2_with fail
      go_loopw [48] (fun i wo => ∃ k : Nat, k ≤ na ∧ i = .int .i64 k ∧ Hid (Fr (fun _ => False) w5 wo)) (fun i _ => na - (intOf i).toNat)
      case atStart => exact ⟨0, by omega, rfl, Fr.refl _ _⟩
      case round =>
        obtain ⟨wo, rfl⟩ : ∃ x, x = wr := ⟨wr, rfl⟩
        obtain ⟨k, hk, rfl, HF⟩ := hrel
        by_cases hlt : k < na
        · obtain ⟨q, hq⟩ : ∃ q, (ackedL l)[k]? = some q := ⟨_, List.getElem?_eq_getElem (by have := HNA.out; omega)⟩
          obtain ⟨gb, rfl, _, hgb, hgc⟩ := (HIA.out.fr HF.out (fun _ _ _ e => e)).some (by have := HNA.out; omega)
          have k0 := hgc k q hq
          have HQ : Hid ((hs.filter (fun r => r.req == q)).length = 1 ∧ q ∉ openL l) := HONE.out q (List.mem_of_getElem? hq)
          have hki : (k : Int) < (na : Int) := by omega
          have hh := HHI.out wo (HF5.out.seq' HF.out)
          clear hq hgc
          go_wp2_with fail
          refine hh.mono ?_
          rintro e w6 ⟨b6, c6, rfl, r6, _, f6⟩
          have HF6 : Hid (Fr (fun _ => False) w5 w6) := HF.out.seq' f6
          have HR6 : Hid (Recs w6 b6 c6 hs) := r6
          have hc6 : nn ≤ c6 := by rw [HNN.out]; exact r6.le
          have hd6 := r6.max
          clear hh f6 r6 HF k0
          go_wp2
          go_loopw [10, 55] (fun v i wq => ∃ j t : Nat, j ≤ nn ∧ i = .int .i64 j ∧ v = .int .i64 t ∧ t ≤ j ∧ Hid (t = ((hs.take j).filter (fun r => r.req == q)).length) ∧ Hid (Fr (fun _ => False) w6 wq)) (fun _ i _ => nn - (intOf i).toNat)
          case atStart => exact ⟨0, 0, by omega, rfl, rfl, by omega, rfl, Fr.refl _ _⟩
          case round =>
            obtain ⟨wq, rfl⟩ : ∃ x, x = wr := ⟨wr, rfl⟩
            obtain ⟨j, t, hj, rfl, rfl, htj, HT, HFQ⟩ := hrel
            by_cases hlj : j < nn
            · obtain ⟨r, hr⟩ : ∃ r, hs[j]? = some r := ⟨_, List.getElem?_eq_getElem (by have := HNN.out; omega)⟩
              obtain ⟨bb, off, rfl, hbb, hcc⟩ := (HR6.out.same HFQ.out).some (by have := HNN.out; omega)
              obtain ⟨q0, q1, q2, q3, q4, q5, q6, q7⟩ := rec_range (hcc j r hr)
              have hji : (j : Int) < (nn : Int) := by omega
              have HST : Hid (((hs.take (j + 1)).filter (fun r => r.req == q)).length = t + if r.req = q then 1 else 0) := by show _ = _; rw [cnt_step hr, ← HT.out]
              have HFB : Hid (Fr (fun _ => False) w6 (wq.alloc (.cells #[.int .i64 r.lsn, .int .i64 r.ep, .int .i64 r.kind, .int .i64 r.page, .int .i64 r.other, .int .i64 r.req, .string r.key, .string r.val] 44))) := HFQ.out.seq' (Fr.box _ _)
              clear hr hcc HT HFQ
              by_cases hrq : r.req = q
              · have HT2 : Hid (t + 1 = ((hs.take (j + 1)).filter (fun r => r.req == q)).length) := by show _ = _; rw [HST.out, if_pos hrq]
                have hrq' : (r.req == q) = true := by simpa using hrq
                clear HST hrq
                go_wp2
                go_roundw
                case rel => exact ⟨j + 1, t + 1, by omega, by go_num, by go_num, by omega, HT2, HFB⟩
                case measure => simp [intOf]; omega
              · have HT2 : Hid (t = ((hs.take (j + 1)).filter (fun r => r.req == q)).length) := by show _ = _; rw [HST.out, if_neg hrq]; rfl
                have hrq' : (r.req == q) = false := by simpa using hrq
                clear HST hrq
                go_wp2
                go_roundw
                case rel => exact ⟨j + 1, t, by omega, by go_num, rfl, by omega, HT2, HFB⟩
                case measure => simp [intOf]; omega
            · obtain rfl : j = nn := by omega
              have ht1 : t = 1 := by have := HT.out; rw [HNN.out, List.take_length, HQ.out.1] at this; exact this
              subst ht1
              have HF7 : Hid (Fr (fun _ => False) w5 wq) := HF6.out.seq' HFQ.out
              clear HT HFQ HF6 HR6
              go_wp2
              go_loopw [68] (fun i wz => ∃ m : Nat, m ≤ no ∧ i = .int .i64 m ∧ wz = wq) (fun i _ => no - (intOf i).toNat)
              case atStart => exact ⟨0, by omega, rfl, rfl⟩
              case round =>
                obtain ⟨wz, rfl⟩ : ∃ x, x = wr := ⟨wr, rfl⟩
                obtain ⟨m, hm, rfl, rfl⟩ := hrel
                by_cases hlm : m < no
                · obtain ⟨x, hx⟩ : ∃ x, (openL l)[m]? = some x := ⟨_, List.getElem?_eq_getElem (by have := HNO.out; omega)⟩
                  obtain ⟨ob, rfl, _, hob, hoc⟩ := (HIO5.out.fr HF7.out (fun _ _ _ e => e)).some (by have := HNO.out; omega)
                  have k1 := hoc m x hx
                  have hmi : (m : Int) < (no : Int) := by omega
                  have hxq : (x == q) = false := by
                    simp only [beq_eq_false_iff_ne]
                    intro e
                    subst e
                    exact HQ.out.2 (List.mem_of_getElem? hx)
                  clear hx hoc
                  go_wp2
                  go_roundw
                  case rel => exact ⟨m + 1, by omega, by go_num, by first | rfl | trivial⟩
                  case measure => simp [intOf]; omega
                · have HF8 := HF7
                  go_wp2
                  go_roundw
                  case rel => exact ⟨k + 1, by omega, by go_num, HF8⟩
                  case measure => simp [intOf]; omega
        · go_wp2_with (go_at_call 7; refine (HSP.out _).mono ?_; rintro e w6 ⟨rfl, f6⟩)
          go_ret
          exact ⟨rfl, (HF5.out.seq' HF.out).seq' f6⟩
    · have ha' : (a != 0) = true := by simpa using ha
      clear hk1 ha
      go_wp2_with (go_at_call 7; refine (HSP.out _).mono ?_; rintro e w4 ⟨rfl, f4⟩)
      go_ret
      exact ⟨rfl, HF3.out.seq' f4⟩

set_option maxRecDepth 100000 in
theorem lifted (os : Os) (started : os.Started) (H : Type) (enc : TypeId × Value → H) :
    ReturnsInHanded {} Tryz.checked os 4 .any (Rows.traceOnceSpec.pre6 enc Tryz.prog Tryz.f4 Rows.traceOnceRow.domain false) (Rows.traceOnceSpec.post enc Tryz.prog Tryz.f4 false true false false) := by
  refine returnsInHanded_of_change_sized (C := Tryz.checked) own started (by kernel_rfl) Tryz.func4
    (ChangeSpec.witness6 (enc := enc) (C := Tryz.checked) false ⟨#[], #[.slice none 0 0], []⟩ 8 (by kernel_rfl) (by kernel_rfl) (by kernel_rfl) (by kernel_rfl)) ?_
  intro W base args ds gs before hval0 hW hcnd hsz0 _
  have hsz : (DataW.weightsEach Tryz.prog (Tryz.f4.params.toList ++ Rows.traceOnceSpec.plain.varTypes Tryz.prog) (ds ++ gs)).all (· ≤ reachBytes) = true := hsz0
  clear hsz0
  have hval : ∀ (j : Nat) t v, Tryz.f4.params[j]? = some t → args[j]? = some v → Value.okWide Tryz.prog W .any base t v := hval0
  have hW' := hW
  obtain ⟨p, q, hA0, hV, rfl, hfz, hnd⟩ := hW
  have hA : DataW.TrodAll enc Tryz.prog W 0 (fun _ => true) true Tryz.f4.params.toList args.toList ds p := hA0
  rw [Tryz.params4] at hA hval hsz
  obtain ⟨v0, vs0, d0, ds0, p0, q0, hargs, rfl, rfl, h0, r0⟩ := trodAll_cons hA
  obtain ⟨rfl, rfl, rfl⟩ := trodAll_nil r0
  obtain rfl : args = #[v0] := by cases args; simp_all
  obtain ⟨rfl, rfl⟩ := trodVars_none hV
  obtain ⟨a0, len0, cap0, rfl⟩ := okWide_slice Tryz.underlying22 (hval 0 22 v0 rfl rfl)
  have k0 := h0
  have lt0 : ∀ x ∈ p0, x.block < W.heap.size := by obtain ⟨m, hm⟩ := k0; exact DataW.trod_lt m _ _ _ hm
  have wz0 : ∀ z ∈ d0.weights Tryz.prog 22, z ≤ reachBytes := fun z hz => by simpa using List.all_eq_true.1 hsz z (DataW.weights_mem_each (j := 0) rfl rfl z hz)
  obtain ⟨ls0, hl0, hr0, hw0, hz0, hb0⟩ : ∃ ls : List Sn, len0 = ls.length ∧ Sns W W.heap.size a0 cap0 ls ∧ (∀ s ∈ ls, SnWf s) ∧ (∀ s ∈ ls, s.ans.length * 72 ≤ reachBytes ∧ s.H.length * 80 ≤ reachBytes) ∧ len0 * 160 ≤ reachBytes := by
    obtain ⟨fuel, hf⟩ := h0
    exact sns_open hf wz0
  clear hA0 hval0
  refine (walk W a0 len0 cap0 ls0 hl0 hr0 hw0 hz0 hb0).mono fun e W' ⟨he, fr⟩ => ?_
  have bel : Below W.heap.size W W' := fr.below (Nat.le_refl _) (fun _ f => f.elim)
  subst he
  exact ⟨_, rfl, _, _, _, [], _, [], hW', trodAll_mk1 (shut_bool Tryz.underlying4 _), (trodAll_cons_mk (Below.trod laidOut (by kernel_rfl) (of_decide_eq_true (by kernel_rfl)) k0 bel lt0) trodAll_mk0), rfl, bel.frame _, fun h => by cases h⟩

theorem proved : Rows.TraceOnceSaid :=
  OpenClaim.holds_of_wide 4 Tryz.f4 rfl rfl rfl rfl rfl rfl rfl ⟨rfl, rfl, rfl, rfl, rfl⟩ rfl rfl rfl rfl rfl (by kernel_rfl) Tryz.func4 (by kernel_rfl)
    (of_decide_eq_true (by kernel_rfl)) (by unfold Func.isWrapper; first | (rw [if_pos (by decide +kernel)]; kernel_rfl) | (rw [if_neg (by decide +kernel)]; exact ⟨rfl, rfl⟩))
    (fun os started H enc _ => lifted os started H enc)
end Go.Proofs.YthdbkanbgfajbaaGreat.traceOnce
namespace Go.Proofs.YthdbkanbgfajbaaGreat
theorem traceOnce_holds : Rows.TraceOnceSaid := traceOnce.proved
#print axioms traceOnce_holds
end Go.Proofs.YthdbkanbgfajbaaGreat
