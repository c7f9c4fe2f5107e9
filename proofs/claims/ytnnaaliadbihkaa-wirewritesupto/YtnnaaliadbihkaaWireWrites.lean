/- Where what comes in is of bulk at most 1048576, latticelaw01.WireWrites answers true and leaves its argument as it was: each call writes what the document says, byte by byte, or tells why nothing (1.1). -/
import Derived.Test.YtnnaaliadbihkaaArgs
import Derived.Test.YtnnaaliadbihkaaBulk2
import Derived.Test.YtnnaaliadbihkaaWStep
import Derived.Test.YtnnaaliadbihkaaBulk
import Derived.JoinedCond
namespace Go.Proofs.Ytnnaaliadbihkaa.wireWrites
open Go.ChangeShapes Go.WideShapes Go.ChangeAt Go.RowKit
open Go.ChangeMaps (open_string shut_string)
set_option linter.unusedVariables false

theorem own : ownKnob Try.prog.godebug = none := by kernel_rfl
theorem laidOut : laidOutB Try.prog = true := by kernel_rfl
theorem bytes8 : Try.prog.bytesOf 5 = 1 := by kernel_rfl

set_option maxRecDepth 100000 in
set_option maxHeartbeats 4000000 in
theorem walk (w : World) (a0 : Option Addr) (len0 cap0 : Nat) (its : List It) (hl0 : len0 = its.length) (z0 : wt its ≤ 1048576) (hr0 : Items w a0 cap0 its) :
    Calls Try.prog 3 #[.slice a0 len0 cap0] w fun e w' => e = .returned (.bool true) ∧ Fr (fun _ => False) w w' := by
  obtain ⟨i0, hi, hz0, hz1, hz2⟩ := info_parts info8
  subst hl0
  have e0 := hr0.le
  have e1 := hr0.max
  have f1 : Fr (fun _ => False) w (w.alloc (.cells #[.slice none 0 0] 60)) := (Fr.refl (fun _ => False) w).alloc _
  go_enter Try.func3, Try.ntmps3
  go_wp2_with fail
  refine (new_any _).mono ?_
  rintro e w1 ⟨rfl, rfl⟩
  go_wp2
  go_loopw [4, 14] (fun v i wr => ∃ (k : Nat) (av : Option Addr) (cv : Nat) (vw : Value), k ≤ its.length ∧ i = .int .i64 k ∧ v = .slice av (outs (its.take k)).length cv ∧ Mine wr (w.heap.size + 1) (.slice av (outs (its.take k)).length cv) (outs (its.take k)) ∧ Wr wr (w.heap.size + 1) w.heap.size vw (outs (its.take k)) ∧ (∀ j, (Value.slice av (outs (its.take k)).length cv).ownBlock = some j → vw.ownBlock ≠ some j) ∧ Fr (fun _ => False) w wr)
    (fun _ i _ => its.length - (intOf i).toNat)
  case atStart => exact ⟨0, none, 0, .slice none 0 0, by omega, rfl, rfl, World.ownsRow_nil _ _ _ _, Wr.new w, (fun j e => by simp [Value.ownBlock] at e), f1⟩
  case round =>
    obtain ⟨k, av, cv, vw, hk, rfl, rfl, hown, hwr, hdis, hf⟩ := hrel
    by_cases hlt : k < its.length
    · obtain ⟨b, off, rfl, hb, hc⟩ := hr0.at_.resolve_left (fun h => by rw [h] at hlt; simp at hlt)
      obtain ⟨c0, c1, c2⟩ := hc k hlt
      clear hc
      have d0 := (hf.cell (p := ⟨b, off + k * 3, none⟩) hb (fun f => f)).trans c0
      have d1 := (hf.cell (p := ⟨b, off + k * 3 + 1, none⟩) hb (fun f => f)).trans c1
      have d2 := (hf.cell (p := ⟨b, off + k * 3 + 2, none⟩) hb (fun f => f)).trans c2
      clear c0 c1 c2
      have hwf := hr0.wf k hlt
      have hws := wt_part its k hlt
      have hol := outs_len (its.take k)
      have HO : Hid (outs (its.take (k + 1)) = outs (its.take k) ++ outIt (its.getD k itD)) := outs_succ its k hlt
      obtain ⟨x, hx⟩ : ∃ x, x = its.getD k itD := ⟨_, rfl⟩
      rw [← hx] at d0 d1 d2 hwf hws HO
      clear hx
      obtain ⟨n, size, s⟩ := x
      obtain ⟨M, hM⟩ : ∃ M, M = outs (its.take k) := ⟨_, rfl⟩
      rw [← hM] at hown hwr hdis hol HO ⊢
      clear hM
      simp only at d0 d1 d2 hws
      obtain ⟨hwf0, hwf1⟩ := hwf
      simp only at hwf0 hwf1
      have hM : M.length + s.size + 65600 ≤ 140737488355328 := by omega
      clear hws hol
      have HD : Hid (∀ j, (Value.slice av M.length cv).ownBlock = some j → vw.ownBlock ≠ some j) := hdis
      clear hdis
      have zr := hf.size
      have lwb := lt_of_block hwr.box
      by_cases hsz : size = 0
      · subst hsz
        have f0 : Fr (fun _ => False) wr (wr.alloc (.cells #[.int .i64 n, .int .i64 0, .string s] 27)) := (Fr.refl (fun _ => False) wr).alloc _
        have hw0 := hwr.fr f0 (fun f => f) (fun _ _ f => f)
        by_cases hlong : 65535 < s.size
        · have hoi : outIt (n, 0, s) = [] := by unfold outIt; rw [if_pos rfl, if_neg (by simpa using hlong)]
          have HO2 : Hid (outs (its.take (k + 1)) = M) := by
            have := HO.out
            rw [hoi, List.append_nil] at this
            exact this
          have i1 : ¬ (s.size : Int) ≤ 65535 := by omega
          go_wp2_with fail
          refine (text_long _ s hlong _).mono ?_
          rintro e w2 ⟨rfl, rfl⟩
          go_wp2
          go_roundw
          case rel =>
            refine ⟨k + 1, av, cv, vw, by omega, by go_num, ?_⟩
            rw [HO2.out]
            exact ⟨rfl, hown.alloc _, hw0, HD.out, hf.false_trans f0⟩
          case measure => simp [intOf]; omega
        · have hs2 : s.size ≤ 65535 := by omega
          have hoi : outIt (n, 0, s) = le 2 s.size ++ bsOf s := by unfold outIt; rw [if_pos rfl, if_pos (by simpa using hs2)]
          have i1 : (s.size : Int) ≤ 65535 := by omega
          go_wp2_with fail
          refine (text_ok s hs2 (w.heap.size + 1) w.heap.size vw M _ hw0 (by simp; omega) (by omega)).mono ?_
          rintro e w2 ⟨rfl, vw2, hw2, hf2, hv2⟩
          rw [List.append_assoc] at hw2
          have cb : w2.heap[wr.heap.size]? = some (.cells #[.int .i64 n, .int .i64 0, .string s] 27 (0, 0)) := by
            rw [hf2.block wr.heap.size (by simp) (fun h => by have := hwr.lt h; omega)]; exact heap_alloc_new wr _
          have cc2 : w2.cell? ⟨wr.heap.size, 2, none⟩ = some (.string s) := by simp [World.cell?, cb]
          clear cb
          go_wp2_with fail
          refine (refText_any s hs2 _).mono ?_
          rintro e w3 ⟨v3, rfl, m3⟩
          have o3 : octs (le 2 s.size ++ bsOf s) := octs_app (le_octs _ _) (bsOf_octs _)
          have hl3 : (le 2 s.size ++ bsOf s).length = 2 + s.size := by simp [le_length, bsOf_length]
          obtain ⟨o, ho⟩ : ∃ o, o = le 2 s.size ++ bsOf s := ⟨_, rfl⟩
          rw [← ho] at o3 hl3 m3 hw2 hoi
          have HO2 : Hid (outs (its.take (k + 1)) = M ++ o) := by
            have := HO.out
            rw [hoi] at this
            exact this
          clear ho hoi
          obtain ⟨a3, c3, hv3, hr3⟩ := m3.own.row o3 (by omega)
          rw [hv3]
          have hown3 := want_kept hown HD.out f0 hf2 m3.fr
          have zz : w.heap.size + 1 ≤ w3.heap.size := by have := hf2.size; have := m3.fr.size; simp at *; omega
          have hol : M.length + o.length ≤ 140737488355328 := by omega
          clear hl3 hv3
          go_wp2_with (at_builtin; refine wpList_append_row _ rfl _ _ 25 25 5 rfl i0 Try.underlying25 Try.underlying25 hi hz0 hz1 hz2 (w.heap.size + 1) (.slice av M.length cv) M rfl hown3 a3 o.length c3 o rfl rfl hr3 hol zz ?_; intro a4 c4 w4 hown4 hgrow4 hat4)
          go_roundw
          case rel =>
            obtain ⟨S1, S2, S3⟩ := ww_step hf f0 hwr hown HD.out hw2 hf2 hv2 m3.fr hgrow4 hat4
            refine ⟨k + 1, a4, c4, vw2, by omega, by go_num, ?_⟩
            rw [HO2.out, List.length_append]
            exact ⟨rfl, hown4, S1, S2, S3⟩
          case measure => simp [intOf]; omega
      · have HZ : Hid (¬ size = 0) := hsz
        have hsz0 : (size == 0) = false := by simpa using hsz
        clear hsz
        have f0 : Fr (fun _ => False) wr (wr.alloc (.cells #[.int .i64 n, .int .i64 size, .string s] 27)) := (Fr.refl (fun _ => False) wr).alloc _
        have hw0 := hwr.fr f0 (fun f => f) (fun _ _ f => f)
        cases hfb : fitB n size
        · have hoi : outIt (n, size, s) = [] := by unfold outIt; rw [if_neg HZ.out, if_neg (by simp [hfb])]
          have HO2 : Hid (outs (its.take (k + 1)) = M) := by
            have := HO.out
            rw [hoi, List.append_nil] at this
            exact this
          have HF : Hid (fitB n size = false) := hfb
          clear hfb hoi
          go_wp2_with fail
          refine (wnum_no _ n size HF.out hwf0 _).mono ?_
          rintro e w2 ⟨rfl, rfl⟩
          go_wp2_with fail
          refine (refFits_any n size _).mono ?_
          rw [HF.out]
          rintro e w2 ⟨rfl, rfl⟩
          go_wp2
          go_roundw
          case rel =>
            refine ⟨k + 1, av, cv, vw, by omega, by go_num, ?_⟩
            rw [HO2.out]
            exact ⟨rfl, hown.alloc _, hw0, HD.out, hf.false_trans f0⟩
          case measure => simp [intOf]; omega
        · obtain ⟨nn, rfl⟩ := Int.eq_ofNat_of_zero_le (a := n) (fitB_fit hfb).1
          obtain ⟨ss, rfl⟩ := Int.eq_ofNat_of_zero_le (a := size) (by have := fitB_sized hfb; omega)
          have hss : ss ≤ 8 := by have := fitB_sized hfb; omega
          have hoi : outIt ((nn : Int), (ss : Int), s) = le ss nn := by unfold outIt; rw [if_neg HZ.out, if_pos (by simp [hfb])]; simp
          have HF : Hid (fitB (nn : Int) (ss : Int) = true) := hfb
          clear hfb
          go_wp2_with fail
          refine (wnum_yes nn ss (fitB_fit HF.out) (w.heap.size + 1) w.heap.size vw M _ hw0 (by simp; omega) (by omega)).mono ?_
          rintro e w2 ⟨rfl, vw2, hw2, hf2, hv2⟩
          have cb : w2.heap[wr.heap.size]? = some (.cells #[.int .i64 nn, .int .i64 ss, .string s] 27 (0, 0)) := by
            rw [hf2.block wr.heap.size (by simp) (fun h => by have := hwr.lt h; omega)]; exact heap_alloc_new wr _
          have cc0 : w2.cell? ⟨wr.heap.size, 0, none⟩ = some (.int .i64 nn) := by simp [World.cell?, cb]
          have cc1 : w2.cell? ⟨wr.heap.size, 1, none⟩ = some (.int .i64 ss) := by simp [World.cell?, cb]
          clear cb
          go_wp2_with fail
          refine (refFits_any nn ss _).mono ?_
          rw [HF.out]
          rintro e w2' ⟨rfl, rfl⟩
          go_wp2_with fail
          refine (refNum_any nn ss (by omega) hss _).mono ?_
          rintro e w3 ⟨v3, rfl, m3⟩
          have o3 := le_octs ss nn
          have hl3 := le_length ss nn
          obtain ⟨o, ho⟩ : ∃ o, o = le ss nn := ⟨_, rfl⟩
          rw [← ho] at o3 hl3 m3 hw2 hoi
          have HO2 : Hid (outs (its.take (k + 1)) = M ++ o) := by
            have := HO.out
            rw [hoi] at this
            exact this
          clear ho hoi
          obtain ⟨a3, c3, hv3, hr3⟩ := m3.own.row o3 (by omega)
          rw [hv3]
          have hown3 := want_kept hown HD.out f0 hf2 m3.fr
          have zz : w.heap.size + 1 ≤ w3.heap.size := by have := hf2.size; have := m3.fr.size; simp at *; omega
          have hol : M.length + o.length ≤ 140737488355328 := by omega
          clear hl3 hv3
          go_wp2_with (at_builtin; refine wpList_append_row _ rfl _ _ 25 25 5 rfl i0 Try.underlying25 Try.underlying25 hi hz0 hz1 hz2 (w.heap.size + 1) (.slice av M.length cv) M rfl hown3 a3 o.length c3 o rfl rfl hr3 hol zz ?_; intro a4 c4 w4 hown4 hgrow4 hat4)
          go_roundw
          case rel =>
            obtain ⟨S1, S2, S3⟩ := ww_step hf f0 hwr hown HD.out hw2 hf2 hv2 m3.fr hgrow4 hat4
            refine ⟨k + 1, a4, c4, vw2, by omega, by go_num, ?_⟩
            rw [HO2.out, List.length_append]
            exact ⟨rfl, hown4, S1, S2, S3⟩
          case measure => simp [intOf]; omega
    · have ek : its.take k = its := List.take_of_length_le (by omega)
      rw [ek] at hown hwr hdis ⊢
      have hoc := outs_octs its
      have hol : (outs its).length ≤ 2097152 := by have := outs_len its; omega
      obtain ⟨M, hM⟩ : ∃ M, M = outs its := ⟨_, rfl⟩
      rw [← hM] at hown hwr hoc hol ⊢
      clear hM ek hdis
      obtain ⟨a5, c5, he5, hrw⟩ := hown.row hoc (by omega)
      simp only [Value.slice.injEq, true_and] at he5
      obtain ⟨rfl, rfl⟩ := he5
      have cvw := fun (W : World) (h : Fr (fun _ => False) wr W) => run_str (P := Try.prog) (src := 25) (dst := 9) Try.underlying25 Try.underlying5 Try.underlying9 (hrw.same h) M.length rfl
      have fd : Fr (fun _ => False) wr wr.drew := (Fr.refl (fun _ => False) wr).drew
      have hwd := hwr.fr fd (fun f => f) (fun _ _ f => f)
      have hfd := hf.drew
      clear hwr hown hrw
      go_wp2
      go_region_with (first
        | (go_at_call 15; refine (bytes_any (w.heap.size + 1) w.heap.size vw M hoc (by omega) _ ?_).mono ?_; exact hwd; rintro e w5 ⟨v5, rfl, m5⟩; obtain ⟨a5, c5, hv5, hr5⟩ := m5.own.row hoc (by omega); rw [hv5]; have f5 := fd.false_trans m5.fr; have f05 := hfd.false_trans m5.fr; have cv5 := run_str (P := Try.prog) (src := 25) (dst := 9) Try.underlying25 Try.underlying5 Try.underlying9 hr5 M.length rfl)
        | (go_at_call 16; refine (speaks_any _).mono ?_; rintro e w7 ⟨rfl, f7⟩))
      all_goals
        go_wp2
        go_ret
        exact ⟨rfl, f05.false_trans f7⟩

set_option maxRecDepth 100000 in
theorem lifted (os : Os) (started : os.Started) (H : Type) (enc : TypeId × Value → H) (F : Stop.Interp) :
    ReturnsInHanded {} Try.checked os 3 .any ((Rows.OpenSpec.upto Rows.wireWritesSpec).pre6 enc Try.prog Try.f3 Rows.wireWritesUptoRow.domain false) (((Rows.OpenSpec.upto Rows.wireWritesSpec).at F).post enc Try.prog Try.f3 false true false false) := by
  refine returnsInHanded_of_cond (C := Try.checked) (s := Rows.OpenSpec.upto Rows.wireWritesSpec) (k := Rows.uptoSmall) rfl own started (by kernel_rfl) Try.func3
    (OpenSpec.witness (enc := enc) (C := Try.checked) (s := Rows.OpenSpec.upto Rows.wireWritesSpec) (k := Rows.uptoSmall) rfl false ⟨#[], #[.slice none 0 0], []⟩ 8 (by kernel_rfl) (by kernel_rfl) (by kernel_rfl)
      (x := ([.nil], [], [])) (by kernel_rfl) rfl (by kernel_rfl)) ?_
  intro W base args ds gs before hval0 hW hcnd hk0 _
  have hbulk : Rows.uptoBulkAll (ds ++ gs) ≤ 1048576 := of_decide_eq_true hk0
  clear hk0
  have hval : ∀ (j : Nat) t v, Try.f3.params[j]? = some t → args[j]? = some v → Value.okWide Try.prog W .any base t v := hval0
  have hW' := hW
  obtain ⟨p, q, hA0, hV, rfl, hfz, hnd⟩ := hW
  have hA : DataW.TrodAll enc Try.prog W 0 (fun _ => true) true Try.f3.params.toList args.toList ds p := hA0
  rw [Try.params3] at hA hval
  obtain ⟨v0, vs0, d0, ds0, p0, q0, hargs, rfl, rfl, h0, r0⟩ := trodAll_cons hA
  obtain ⟨rfl, rfl, rfl⟩ := trodAll_nil r0
  obtain rfl : args = #[v0] := by cases args; simp_all
  obtain ⟨rfl, rfl⟩ := trodVars_none hV
  obtain ⟨a0, len0, cap0, rfl⟩ := okWide_slice Try.underlying22 (hval 0 22 v0 rfl rfl)
  have k0 := h0
  have lt0 : ∀ x ∈ p0, x.block < W.heap.size := by obtain ⟨m, hm⟩ := k0; exact DataW.trod_lt m _ _ _ hm
  obtain ⟨its0, hl0, z0, hr0⟩ : ∃ its : List It, len0 = its.length ∧ wt its ≤ 1048576 ∧ Items W a0 cap0 its := by
    obtain ⟨fuel, hf⟩ := h0
    obtain ⟨its, sp, e1, e2, e3⟩ := items_open hf
    exact ⟨its, e1, wt_bound e3 (Nat.le_trans (bulk_part (l := [d0] ++ []) (j := 0) rfl) hbulk), e2⟩
  clear hA0 hval0
  refine (walk W a0 len0 cap0 its0 hl0 z0 hr0).mono fun e W' ⟨he, fr⟩ => ?_
  have bel : Below W.heap.size W W' := fr.below (Nat.le_refl _) (fun _ f => f.elim)
  subst he
  exact ⟨_, rfl, _, _, _, [], _, [], hW', trodAll_mk1 (shut_bool Try.underlying4 _), (trodAll_cons_mk (Below.trod laidOut (by kernel_rfl) (of_decide_eq_true (by kernel_rfl)) k0 bel lt0) trodAll_mk0), rfl, bel.frame _, fun h => by cases h⟩

theorem proved : Rows.WireWritesUptoSaid :=
  OpenClaim.holds_of_cond 3 Try.f3 rfl rfl rfl rfl rfl rfl rfl ⟨rfl, rfl, rfl, rfl, rfl⟩ rfl rfl rfl rfl rfl (by kernel_rfl) Try.func3 (by kernel_rfl)
    (of_decide_eq_true (by kernel_rfl)) (by unfold Func.isWrapper; first | (rw [if_pos (by decide +kernel)]; kernel_rfl) | (rw [if_neg (by decide +kernel)]; exact ⟨rfl, rfl⟩))
    (fun os started H enc _ F => lifted os started H enc F)
end Go.Proofs.Ytnnaaliadbihkaa.wireWrites
namespace Go.Proofs.Ytnnaaliadbihkaa
theorem wireWrites_holds : Rows.WireWritesUptoSaid := wireWrites.proved
#print axioms wireWrites_holds
end Go.Proofs.Ytnnaaliadbihkaa
