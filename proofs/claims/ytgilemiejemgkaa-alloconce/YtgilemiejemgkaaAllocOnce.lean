
/- For every bound and every list of steps latticelaw08.AllocOnce answers true: no page is taken twice, unless it was freed between (8.3); no condition. -/
import Derived.Test.YtgilemiejemgkaaArgs
import Derived.Test.YtgilemiejemgkaaAlSpeak
import Derived.Test.YtgilemiejemgkaaBools
import Derived.Test.YtgilemiejemgkaaSteps2
namespace Go.Proofs.Ytgilemiejemgkaa.allocOnce
open Go.ChangeShapes Go.WideShapes Go.ChangeAt Go.RowKit
open Go.ChangeMaps (open_string shut_string)
set_option linter.unusedVariables false

theorem own : ownKnob Try.prog.godebug = none := by kernel_rfl
theorem laidOut : laidOutB Try.prog = true := by kernel_rfl
theorem bytes8 : Try.prog.bytesOf 5 = 1 := by kernel_rfl

/-- What is held is what is in use. -/
def Held (most : Nat) (L : List Nat) (V : List Bool) : Prop := ∀ k, k < most → V.getD (k + 1) false = bitOf L k
theorem held_turned {most : Nat} {L : List Nat} {V : List Bool} (h : Held most L V) (hl : V.length = most + 1) (hL : L.length = 512) (k : Nat) (hk : k < most) (hm : most ≤ 4096) (x : Bool) (hx : x = !bitOf L k) : Held most (turned L k) (V.set (k + 1) x) := by
  intro j hj
  rw [bitOf_turned L k (by omega) j, List.getD_eq_getElem?_getD]
  by_cases e : j = k
  · subst e
    rw [if_pos rfl, List.getElem?_set_self (by omega)]; exact hx
  · rw [if_neg e, List.getElem?_set_ne (by omega), ← List.getD_eq_getElem?_getD]; exact h j hj
set_option maxRecDepth 100000 in
set_option maxHeartbeats 8000000 in
theorem walk (w : World) (a0 : Int) (w0 : (Lit.int .i64 a0).wf = true) (a1 : Option Addr) (len1 cap1 : Nat) (ss1 : List (Int × Int)) (hl1 : len1 = ss1.length) (hr1 : Steps2 w a1 cap1 ss1) :
    Calls Try.prog 5 #[.int .i64 a0, .slice a1 len1 cap1] w fun e w' => e = .returned (.bool true) ∧ Fr (fun _ => False) w w' := by
  clear w0
  obtain ⟨n, hn⟩ : ∃ n, n = ss1.length := ⟨_, rfl⟩
  have HN : Hid (n = ss1.length) := hn
  have hnm : n ≤ 9223372036854775807 := by have := hr1.le; have := hr1.max; omega
  rw [hl1, ← hn]
  clear hl1 hn
  by_cases hbad : a0 < 1 ∨ 4096 < a0
  · have HB : Hid (a0 < 1 ∨ 4096 < a0) := hbad
    have hne := anew_bad a0 hbad w
    rcases hbad with hb | hb
    · go_enter Try.func5, Try.ntmps5
      go_wp2_with fail
      refine hne.mono ?_
      rintro e w1 ⟨rfl, rfl⟩
      go_wp2_with fail
      refine (aspeaks_any _).mono ?_
      rintro e w2 ⟨rfl, f2⟩
      go_wp2
      go_ret
      exact ⟨rfl, f2⟩
    · have hb1 : 1 ≤ a0 := by omega
      go_enter Try.func5, Try.ntmps5
      go_wp2_with fail
      refine hne.mono ?_
      rintro e w1 ⟨rfl, rfl⟩
      go_wp2_with fail
      refine (aspeaks_any _).mono ?_
      rintro e w2 ⟨rfl, f2⟩
      go_wp2
      go_ret
      exact ⟨rfl, f2⟩
  obtain ⟨most, rfl⟩ : ∃ m : Nat, a0 = m := ⟨a0.toNat, by omega⟩
  have hm1 : 1 ≤ most := by omega
  have hm2 : most ≤ 4096 := by omega
  clear hbad
  obtain ⟨i0, hi, hz0, hz1, hz2⟩ := info_parts infob
  have hmk := fun (w : World) => run_make (P := Try.prog) w 47 4 i0 _ Try.underlying47 hi hz0 .i64 .i64 ((most : Int) + 1) ((most : Int) + 1) (by omega) (by omega) (by rw [hz2]; omega) (by omega)
  obtain ⟨N, hN⟩ : ∃ N, N = most + 1 := ⟨_, rfl⟩
  rw [hz1, show ((most : Int) + 1).toNat = N by omega] at hmk
  have HNN : Hid (N = most + 1) := hN
  clear hN hz0 hi hz1 hz2
  have HM : Hid (∀ W : World, Bl (W.alloc (.cells (madeCells (Value.bool false).cells (N * 1)) 4)) W.heap.size N (List.replicate N false)) := fun W => bl_made W N (by have := HNN.out; unfold maxLen; omega)
  generalize madeCells (Value.bool false).cells (N * 1) = C at *
  go_enter Try.func5, Try.ntmps5
  go_wp2_with fail
  refine (anew_ok most hm1 hm2 _).mono ?_
  rintro e w1 ⟨rfl, m1, f1⟩
  have hb0 : w.heap.size ≤ w.heap.size := Nat.le_refl _
  obtain ⟨b, hb⟩ : ∃ b, b = w.heap.size := ⟨_, rfl⟩
  rw [← hb] at m1 ⊢
  have HB : Hid (b = w.heap.size) := hb
  clear hb hb0
  have f2 : Fr (fun _ => False) w1 (w1.alloc (.cells C 4)) := (Fr.refl _ _).alloc _
  have m2 := m1.same f2
  have v2 := HM.out w1
  have fw2 := f1.false_trans f2
  have hbg : b < w1.heap.size := m1.lt
  obtain ⟨g, hg⟩ : ∃ g, g = w1.heap.size := ⟨_, rfl⟩
  have HG : Hid (g = w1.heap.size) := hg
  rw [← hg] at v2
  have HGB : Hid (b < g ∧ w.heap.size ≤ b ∧ w.heap.size ≤ g) := ⟨by omega, by rw [HB.out]; exact Nat.le_refl _, by have := HB.out; omega⟩
  clear hbg f2 f1 m1 HM
  go_wp2
  rw [← hg]
  clear hg
  generalize w1.alloc (.cells C 4) = w2 at *
  go_loopw [38] (fun t wr => ∃ (k : Nat) (L : List Nat) (V : List Bool), k ≤ n ∧ t = .int .i64 k ∧ Mp wr b most L ∧ Bl wr g N V ∧ Hid (Held most L V) ∧ Fr (fun _ => False) w wr) (fun t _ => n - (intOf t).toNat)
  case atStart => exact ⟨0, zeroL, _, by omega, rfl, m2, v2, (fun k hk => by rw [zero_bits, List.getD_eq_getElem?_getD, List.getElem?_replicate]; split <;> rfl), fw2⟩
  case round =>
    clear m2 v2 fw2
    obtain ⟨k, L, V, hk, rfl, hM, hV, HH, hf⟩ := hrel
    by_cases hlt : k < n
    · obtain ⟨st, hst⟩ : ∃ st, ss1[k]? = some st := ⟨_, List.getElem?_eq_getElem (by rw [← HN.out]; exact hlt)⟩
      have hS := hr1.same hf
      rcases hS.at_ with h0 | ⟨sb, off, ha0, hsb, hcell⟩
      · rw [h0] at hst; cases hst
      obtain ⟨c0, c1⟩ := hcell k st hst
      subst ha0
      have hki : (k : Int) < (n : Int) := by omega
      obtain ⟨kk, aa⟩ := st
      simp only at c0 c1
      have fS : Fr (fun _ => False) wr (wr.alloc (.cells #[.int .i64 kk, .int .i64 aa] 32)) := (Fr.refl (fun _ => False) wr).alloc _
      have hM2 := hM.same fS
      have hV2 := hV.same fS
      have hf2 := hf.false_trans fS
      have hbS := heap_alloc_new wr (.cells #[.int .i64 kk, .int .i64 aa] 32)
      have hneS : Hid (b ≠ wr.heap.size) := fun e => Nat.lt_irrefl _ (e ▸ hM.lt)
      have hneB : Hid (¬ g = b) := by have := HGB.out; show ¬ _; omega
      clear hst hS hcell hsb fS
      by_cases hk2 : kk = 2
      · subst hk2
        by_cases hin : 1 ≤ aa ∧ aa ≤ most
        · obtain ⟨j, rfl⟩ : ∃ j : Nat, aa = (j : Int) + 1 := ⟨(aa - 1).toNat, by omega⟩
          have hj : j < most := by omega
          have hfr := free_any b most L _ hM2 ((j : Int) + 1)
          unfold setE setL at hfr
          rw [if_pos hin, if_pos hin, show ((j : Int) + 1).toNat - 1 = j by omega] at hfr
          have h1a : (1 : Int) ≤ (j : Int) + 1 := by omega
          have h2a : (j : Int) + 1 ≤ (most : Int) := by omega
          clear hin
          have HH1 := HH.out j hj
          cases hbit : bitOf L j
          · rw [hbit, if_pos rfl, if_pos rfl] at hfr
            clear hbit HH1
            go_wp2_with fail
            refine hfr.mono ?_
            rintro e w3 ⟨rfl, m3, f3⟩
            have v3 := hV2.fr f3 hneB.out
            have fw3 := hf2.above f3 (fun i e => by have := HGB.out; omega)
            clear hfr
            go_wp2
            go_roundw
            case rel => exact ⟨k + 1, _, _, by omega, by go_num, m3, v3, HH, fw3⟩
            case measure => simp [intOf]; omega
          · rw [hbit, if_neg (by simp), if_neg (by simp)] at hfr
            rw [hbit] at HH1
            have hH2 : Hid (Held most (turned L j) (V.set (j + 1) false)) := held_turned HH.out (by rw [hV.len, HNN.out]) hM.len j hj hm2 false (by rw [hbit]; rfl)
            clear hbit
            go_wp2_with fail
            refine hfr.mono ?_
            rintro e w3 ⟨rfl, m3, f3⟩
            have b3 := f3.block_eq hbS (fun e => hneS.out e.symm)
            have q3 := cell_of_row w3 _ 1 _ _ _ b3
            simp only [List.getElem?_toArray, List.getElem?_cons_zero, List.getElem?_cons_succ] at q3
            have v3 := hV2.fr f3 hneB.out
            have fw3 := hf2.above f3 (fun i e => by have := HGB.out; omega)
            clear hfr
            obtain ⟨vc, vz, vs⟩ := v3.at_ (k := j + 1) (by have := HNN.out; omega)
            rw [HH1] at vc
            have hjN : (j : Int) + 1 < (N : Int) := by have := HNN.out; omega
            have f4 := fw3.setCell (p := ⟨g, j + 1, none⟩) (fun h => by have := HGB.out; simp only at h; omega) (.bool false)
            have v4 := vs false
            have m4 := m3.fr ((Fr.refl (fun x => x = g) w3).setCell (p := ⟨g, j + 1, none⟩) (fun _ => rfl) (.bool false)) (fun e => hneB.out e.symm)
            clear vs
            go_wp2
            go_roundw
            case rel => exact ⟨k + 1, _, _, by omega, by go_num, m4, v4, hH2, f4⟩
            case measure => simp [intOf]; omega
        · have hfr := free_any b most L _ hM2 aa
          unfold setE setL at hfr
          rw [if_neg hin, if_neg hin] at hfr
          clear hin
          go_wp2_with fail
          refine hfr.mono ?_
          rintro e w3 ⟨rfl, m3, f3⟩
          have v3 := hV2.fr f3 hneB.out
          have fw3 := hf2.above f3 (fun i e => by have := HGB.out; omega)
          clear hfr
          go_wp2
          go_roundw
          case rel => exact ⟨k + 1, _, _, by omega, by go_num, m3, v3, HH, fw3⟩
          case measure => simp [intOf]; omega
      · have hk2' : (kk == 2) = false := by simpa using hk2
        go_wp2_with fail
        refine (take_any b most L _ hM2).mono ?_
        rintro e w3 ht
        rcases ht with ⟨rfl, e3, hall⟩ | ⟨j, hj, hl, rfl, m3, f3⟩
        · have HA : Hid (∀ k, k < most → bitOf L k = true) := hall
          have hM3 : Mp w3 b most L := by rw [e3]; exact hM2
          have hV3 : Bl w3 g N V := by rw [e3]; exact hV2
          have hf3 : Fr (fun _ => False) w w3 := by rw [e3]; exact hf2
          clear e3 hall hbS hM2 hV2 hf2
          go_wp2
          go_loopw [12] (fun t wx => ∃ j : Nat, 1 ≤ j ∧ j ≤ most + 1 ∧ t = .int .i64 j ∧ wx = w3) (fun t _ => most + 1 - (intOf t).toNat)
          case atStart => exact ⟨1, by omega, by omega, rfl, rfl⟩
          case round =>
            obtain ⟨j, hj1, hj2, rfl, rfl⟩ := hrel
            by_cases hjl : j ≤ most
            · have hji : (j : Int) ≤ (most : Int) := by omega
              have hjN : (j : Int) < (N : Int) := by have := HNN.out; omega
              obtain ⟨vc, _, _⟩ := hV3.at_ (k := j) (by have := HNN.out; omega)
              have hx : V.getD j false = true := by
                have := HH.out (j - 1) (by omega)
                rw [show j - 1 + 1 = j by omega, HA.out (j - 1) (by omega)] at this
                exact this
              rw [hx] at vc
              clear hx
              go_wp2
              go_roundw
              case rel => exact ⟨j + 1, by omega, by omega, by go_num, trivial⟩
              case measure => simp [intOf]; omega
            · have e : j = most + 1 := by omega
              subst e
              have hd : decide (((most + 1 : Nat) : Int) ≤ (most : Int)) = false := by simp; omega
              go_wp2
              go_roundw
              case rel => exact ⟨k + 1, _, _, by omega, by go_num, hM3, hV3, HH, hf3⟩
              case measure => simp [intOf]; omega
        · have HL : Hid (least L j) := hl
          have HH1 := HH.out j hj
          rw [hl.1] at HH1
          have hH2 : Hid (Held most (turned L j) (V.set (j + 1) true)) := held_turned HH.out (by rw [hV.len, HNN.out]) hM.len j hj hm2 true (by rw [hl.1]; rfl)
          clear hl
          have h1a : (1 : Int) ≤ (j : Int) + 1 := by omega
          have h2a : (j : Int) + 1 ≤ (most : Int) := by omega
          have v3 := hV2.fr f3 hneB.out
          have fw3 := hf2.above f3 (fun i e => by have := HGB.out; omega)
          obtain ⟨vc, vz, vs⟩ := v3.at_ (k := j + 1) (by have := HNN.out; omega)
          rw [HH1] at vc
          have hjN : (j : Int) + 1 < (N : Int) := by have := HNN.out; omega
          have f4 := fw3.setCell (p := ⟨g, j + 1, none⟩) (fun h => by have := HGB.out; simp only at h; omega) (.bool true)
          have v4 := vs true
          have m4 := m3.fr ((Fr.refl (fun x => x = g) w3).setCell (p := ⟨g, j + 1, none⟩) (fun _ => rfl) (.bool true)) (fun e => hneB.out e.symm)
          clear vs
          go_wp2
          go_roundw
          case rel => exact ⟨k + 1, _, _, by omega, by go_num, m4, v4, hH2, f4⟩
          case measure => simp [intOf]; omega
    · have e : k = n := by omega
      subst e
      go_wp2_with fail
      refine (aspeaks_any _).mono ?_
      rintro e w9 ⟨rfl, f9⟩
      go_wp2
      go_ret
      exact ⟨rfl, hf.false_trans f9⟩

set_option maxRecDepth 100000 in
theorem lifted (os : Os) (started : os.Started) (H : Type) (enc : TypeId × Value → H) :
    ReturnsInHanded {} Try.checked os 5 .any (Rows.allocOnceSpec.pre6 enc Try.prog Try.f5 Rows.allocOnceRow.domain false) (Rows.allocOnceSpec.post enc Try.prog Try.f5 false true false false) := by
  refine returnsInHanded_of_change_sized (C := Try.checked) own started (by kernel_rfl) Try.func5
    (ChangeSpec.witness6 (enc := enc) (C := Try.checked) false ⟨#[], #[.int .i64 0, .slice none 0 0], []⟩ 8 (by kernel_rfl) (by kernel_rfl) (by kernel_rfl) (by kernel_rfl)) ?_
  intro W base args ds gs before hval0 hW hcnd hsz0 _
  have hsz : (DataW.weightsEach Try.prog (Try.f5.params.toList ++ Rows.allocOnceSpec.plain.varTypes Try.prog) (ds ++ gs)).all (· ≤ reachBytes) = true := hsz0
  clear hsz0
  have hval : ∀ (j : Nat) t v, Try.f5.params[j]? = some t → args[j]? = some v → Value.okWide Try.prog W .any base t v := hval0
  have hW' := hW
  obtain ⟨p, q, hA0, hV, rfl, hfz, hnd⟩ := hW
  have hA : DataW.TrodAll enc Try.prog W 0 (fun _ => true) true Try.f5.params.toList args.toList ds p := hA0
  rw [Try.params5] at hA hval hsz
  obtain ⟨v0, vs0, d0, ds0, p0, q0, hargs, rfl, rfl, h0, r0⟩ := trodAll_cons hA
  obtain ⟨v1, vs1, d1, ds1, p1, q1, rfl, rfl, rfl, h1, r1⟩ := trodAll_cons r0
  obtain ⟨rfl, rfl, rfl⟩ := trodAll_nil r1
  obtain rfl : args = #[v0, v1] := by cases args; simp_all
  obtain ⟨rfl, rfl⟩ := trodVars_none hV
  obtain ⟨a1, len1, cap1, rfl⟩ := okWide_slice Try.underlying22 (hval 1 22 v1 rfl rfl)
  have k1 := h1
  have lt1 : ∀ x ∈ p1, x.block < W.heap.size := by obtain ⟨m, hm⟩ := k1; exact DataW.trod_lt m _ _ _ hm
  obtain ⟨ss1, hl1, hr1⟩ : ∃ ss : List (Int × Int), len1 = ss.length ∧ Steps2 W a1 cap1 ss := by
    obtain ⟨fuel, hf⟩ := h1
    exact steps2_open Try.underlying22 Try.underlying32 ⟨⟨rfl, rfl⟩, ⟨rfl, rfl⟩⟩ (by kernel_rfl) hf
  obtain ⟨a0, rfl, rfl, rfl, w0⟩ := open_int Try.underlying3 (hval 0 3 v0 rfl rfl) h0
  clear hA0 hval0
  refine (walk W a0 w0 a1 len1 cap1 ss1 hl1 hr1).mono fun e W' ⟨he, fr⟩ => ?_
  have bel : Below W.heap.size W W' := fr.below (Nat.le_refl _) (fun _ f => f.elim)
  subst he
  exact ⟨_, rfl, _, _, _, [], _, [], hW', trodAll_mk1 (shut_bool Try.underlying4 _), (trodAll_cons_mk (shut_int Try.underlying3 w0) (trodAll_cons_mk (Below.trod laidOut (by kernel_rfl) (of_decide_eq_true (by kernel_rfl)) k1 bel lt1) trodAll_mk0)), rfl, bel.frame _, fun h => by cases h⟩

theorem proved : Rows.AllocOnceSaid :=
  OpenClaim.holds_of_wide 5 Try.f5 rfl rfl rfl rfl rfl rfl rfl ⟨rfl, rfl, rfl, rfl, rfl⟩ rfl rfl rfl rfl rfl (by kernel_rfl) Try.func5 (by kernel_rfl)
    (of_decide_eq_true (by kernel_rfl)) (by unfold Func.isWrapper; first | (rw [if_pos (by decide +kernel)]; kernel_rfl) | (rw [if_neg (by decide +kernel)]; exact ⟨rfl, rfl⟩))
    (fun os started H enc _ => lifted os started H enc)
end Go.Proofs.Ytgilemiejemgkaa.allocOnce
namespace Go.Proofs.Ytgilemiejemgkaa
theorem allocOnce_holds : Rows.AllocOnceSaid := allocOnce.proved
#print axioms allocOnce_holds
end Go.Proofs.Ytgilemiejemgkaa
