
/- For any pages that are a tree, the keys of its entries rise, Scan tells all of them, and Get tells each one's value; of pages that are none, Of tells no tree and Check an error; and the example speaks; with no condition but those of the statement's own form. -/
import Derived.Test.YtnooogjcajlodaaGreatBB9
import Derived.Test.YtnooogjcajlodaaGreatBN8
import Derived.Test.YtnooogjcajlodaaGreatBN2
import Derived.Test.YtnooogjcajlodaaGreatBN3
import Derived.Deep.DeepCutAuto
import Derived.Deep.RegionHeld3
import Derived.Deep.QuietTactic
import Derived.BigQuiet
namespace Go.Proofs.YtnooogjcajlodaaGreat.blinkRises
open Go.ChangeShapes Go.WideShapes Go.ChangeAt Go.RowKit
open Go.ChangeMaps (open_string shut_string)
set_option linter.unusedVariables false

theorem own : ownKnob Tryz.prog.godebug = none := by kernel_rfl
theorem laidOut : laidOutB Tryz.prog = true := by kernel_rfl
theorem bytes8 : Tryz.prog.bytesOf 5 = 1 := by kernel_rfl

set_option maxRecDepth 100000 in
set_option maxHeartbeats 4000000 in
theorem walk (w : World) (a0 : Option Addr) (len0 cap0 : Nat) (ls : List Sl) (hl0 : len0 = ls.length) (hr0 : Slots w a0 cap0 ls) :
    Calls Tryz.prog 3 #[.slice a0 len0 cap0] w fun e w' => e = .returned (.bool true) ∧ Fr (fun _ => False) w w' := by
  have hof := bof_any a0 len0 cap0 ls hl0 w hr0
  have HL0 : Hid (len0 = ls.length) := hl0
  have HR0 : Hid (Slots w a0 cap0 ls) := hr0
  clear hl0 hr0
  go_enter Tryz.func3, Tryz.ntmps3
  go_wp2_with fail
  refine hof.mono ?_
  clear hof
  intro e w1 ho
  obtain ⟨f1, ⟨hno, rfl⟩ | ⟨hyes, tb, mb, a, n, c, lp, rfl, hps, htr, _, _, _⟩⟩ := ho
  · have hck := check_call a0 len0 cap0 ls HL0.out w1 (HR0.out.same f1)
    have hce : ckE ls = 130 := by unfold ckE; rw [hno]; rfl
    rw [hce] at hck
    clear hno hce
    go_wp2_with (first
      | (go_at_call 7; refine hck.mono ?_; rintro e w2 ⟨rfl, f2⟩)
      | (go_at_call 8; refine (bspeaks_any _).mono ?_; rintro e w3 ⟨rfl, f3⟩))
    go_ret
    exact ⟨rfl, (f1.seq' f2).seq' f3⟩
  · obtain ⟨L, hL⟩ : ∃ L, L = treeE ls := ⟨_, rfl⟩
    have hLp : treeE lp = L := by rw [hL]; exact tree_ps hps
    have HF : Hid (L.length ≤ 2000000) := by show _ ≤ _; rw [hL]; exact treeE_few ls
    have HRI : Hid ((L.map Prod.fst).Pairwise Kl) := by show List.Pairwise _ _; rw [hL]; exact tree_rise ls
    have HKS : Hid (∀ e ∈ L, e.1.size ≤ 16) := by show ∀ e ∈ L, _; rw [hL]; exact tree_key ls
    have hen := entries_yes a0 len0 cap0 ls HL0.out hyes w1 (HR0.out.same f1)
    rw [← hL] at hen
    have HLP : Hid (treeE lp = L) := hLp
    have HTR : Hid (TrS w1 tb mb a n c lp (maxL ls)) := htr
    clear hL hLp htr hps hyes
    go_wp2_with fail
    refine hen.mono ?_
    clear hen
    rintro e w2 ⟨v, rfl, hh, f2⟩
    obtain ⟨av, cv, rfl, hens⟩ := Ens.of hh
    have hle := hens.le
    have hmx := hens.max
    have HEN : Hid (Ens w2 av cv L) := hens
    have HT2 : Hid (TrS w2 tb mb a n c lp (maxL ls)) := HTR.out.same f2
    have HFW : Hid (Fr (fun _ => False) w w2) := f1.seq' f2
    obtain ⟨m, hm⟩ : ∃ m, m = L.length := ⟨_, rfl⟩
    have HM : Hid (m = L.length) := hm
    rw [← hm] at hle ⊢
    have hm2 : m ≤ 2000000 := by rw [hm]; exact HF.out
    clear hm hh hens f1 f2 HTR
    have hsc := scan_all (some ⟨tb, 0, none⟩) ⟨#[]⟩ ⟨#[]⟩ ((m : Int) + 1) (fun x => by rw [show (⟨#[]⟩ : ByteArray).toList = [] by rw [Lib.toList_data]]; cases x.toList <;> rfl) (by rw [Lib.toList_data]) a n c lp HT2.out.len (by rw [HLP.out, ← HM.out]; omega) (by rw [HLP.out, ← HM.out]; omega) w2 (HT2.out.sv.slots HT2.out.len) (fun W f => all_some tb a n c mb _ W (HT2.out.same f).tr)
    rw [HLP.out, ← HM.out] at hsc
    go_wp2_with fail
    refine hsc.mono ?_
    clear hsc
    rintro e w3 ⟨vs, rfl, hh3, f3⟩
    rw [HM.out] at hh3
    obtain ⟨az, cz, rfl, hens3⟩ := Ens.of hh3
    have hes := ents_same av az m m cv cz L HM.out HM.out w3 (HEN.out.same f3) hens3
    rw [← HM.out]
    clear hh3 hens3
    go_wp2_with fail
    refine hes.mono ?_
    clear hes
    rintro e w4 ⟨rfl, f4⟩
    have HE4 : Hid (Ens w4 av cv L) := (HEN.out.same f3).same f4
    have HT4 : Hid (TrS w4 tb mb a n c lp (maxL ls)) := (HT2.out.same f3).same f4
    have HW4 : Hid (Fr (fun _ => False) w w4) := (HFW.out.seq' f3).seq' f4
    clear HEN HT2 HFW f3 f4
    go_wp2
    go_loopw [47] (fun i wr => ∃ k : Nat, k ≤ m ∧ i = .int .i64 k ∧ Hid (Fr (fun _ => False) w4 wr)) (fun i _ => m - (intOf i).toNat)
    case atStart => exact ⟨0, by omega, rfl, Fr.refl _ _⟩
    case round =>
      obtain ⟨k, hk, rfl, HF4⟩ := hrel
      by_cases hlt : k < m
      · have hlt2 : k < L.length := by have := HM.out; omega
        obtain ⟨⟨x, y⟩, hx⟩ : ∃ e, L[k]? = some e := ⟨_, List.getElem?_eq_getElem hlt2⟩
        obtain ⟨g, rfl, hg, hc⟩ := HE4.out.some (by omega)
        obtain ⟨k1, k2⟩ := hc k _ hx
        have k1' := (HF4.out.cell (p := ⟨g, k * 2, none⟩) hg (fun f => f)).trans k1
        have k2' := (HF4.out.cell (p := ⟨g, k * 2 + 1, none⟩) hg (fun f => f)).trans k2
        have HC : Hid (g < w4.heap.size ∧ ∀ i e, L[i]? = some e → w4.cell? ⟨g, i * 2, none⟩ = some (.string e.1) ∧ w4.cell? ⟨g, i * 2 + 1, none⟩ = some (.string e.2)) := ⟨hg, hc⟩
        have HX : Hid (L[k]? = some (x, y)) := hx
        have HFN : Hid (fndE L x = some (x, y)) := found_at HRI.out hx
        obtain ⟨eb, heb⟩ : ∃ q, q = wr.heap.size := ⟨_, rfl⟩
        obtain ⟨W1, hW1⟩ : ∃ W1, W1 = wr.alloc (.cells #[.string x, .string y] 35) := ⟨_, rfl⟩
        have fb : Fr (fun _ => False) wr W1 := by rw [hW1]; exact Fr.box wr _
        have hx2 : W1.heap[eb]? = some (.cells #[.string x, .string y] 35 (0, 0)) := by rw [hW1, heb]; exact heap_alloc_new wr _
        have HW1 : Hid (wr.alloc (.cells #[.string x, .string y] 35) = W1) := hW1.symm
        have HEB : Hid (wr.heap.size = eb) := heb.symm
        have HF1 : Hid (Fr (fun _ => False) w4 W1) := HF4.out.seq' fb
        clear hW1 heb fb hx hc k1 k2 hg hlt2 HF4
        go_upto_region 10 with fail
        rw [HW1.out, HEB.out]
        obtain ⟨d0, d1⟩ := two_cells hx2
        have hge := Go.Proofs.YtnooogjcajlodaaGreat.get_any (some ⟨tb, 0, none⟩) x a n c lp HT4.out.len W1 ((HT4.out.same HF1.out).sv.slots HT4.out.len) (fun W f => all_some tb a n c mb _ W ((HT4.out.same HF1.out).same f).tr)
        rw [HLP.out, HFN.out, show geV (some (x, y)) = y from rfl, show (some (x, y)).isSome = true from rfl] at hge
        go_wp2_with fail
        refine hge.mono ?_
        clear hge
        rintro e w5 ⟨rfl, f5⟩
        have HX5 : Hid (∀ W, Fr (fun _ => False) w5 W → W.cell? ⟨eb, 0, none⟩ = some (.string x) ∧ W.cell? ⟨eb, 1, none⟩ = some (.string y)) := fun W f => two_cells (f.blk (f5.blk hx2 (fun f => f)) (fun f => f))
        have HF5 : Hid (Fr (fun _ => False) w4 w5) := HF1.out.seq' f5
        clear d0 d1 hx2 f5 HF1
        obtain ⟨d0, d1⟩ := HX5.out _ (Fr.refl _ _)
        have hby : (y.toList == y.toList) = true := by simp
        by_cases hk0 : 0 < k
        · obtain ⟨⟨x', y'⟩, hx'⟩ : ∃ e, L[k - 1]? = some e := ⟨_, List.getElem?_eq_getElem (by have := HM.out; omega)⟩
          have hkl := rise_at HRI.out hx' HX.out (by omega)
          have hcm := fun W => rcompare_any x' x (by have := HKS.out _ (List.mem_of_getElem? hx'); unfold maxLen; simp only at this; omega) (by have := HKS.out _ (List.mem_of_getElem? HX.out); unfold maxLen; simp only at this; omega) W
          have hm1 : cpl (bsOf x') (bsOf x) = -1 := by
            have h1 : cpl (bsOf x') (bsOf x) < 0 := hkl
            rcases cpl_vals (bsOf x') (bsOf x) with h | h | h <;> omega
          rw [hm1] at hcm
          have HQ : Hid (∀ W, Fr (fun _ => False) w5 W → (W.cell? ⟨g, (k - 1) * 2, none⟩ = some (.string x') ∧ W.cell? ⟨eb, 0, none⟩ = some (.string x) ∧ W.cell? ⟨eb, 1, none⟩ = some (.string y))) := fun W f => ⟨((HF5.out.seq' f).cell (p := ⟨g, (k - 1) * 2, none⟩) HC.out.1 (fun f => f)).trans (HC.out.2 (k - 1) _ hx').1, HX5.out _ f⟩
          have g0 := (Fr.refl (fun _ => False) w5).drew
          have hki : (0 : Int) < (k : Int) := by omega
          have hk1 : (0 : Int) ≤ (k : Int) - 1 := by omega
          have hk2 : (k : Int) - 1 < (m : Int) := by omega
          have hk3 : ((k : Int) - 1).toNat = k - 1 := by omega
          have hk4 : (1 : Int) ≤ (k : Int) := by omega
          have hk5 : 1 ≤ k := by omega
          have hk6 : (k : Int) < (m : Int) + 1 := by omega
          have hk7 : ¬ ((k : Int) - 1 < 0) := by omega
          have hwk : IntKind.i64.wrap ((k : Int) - 1) = (k : Int) - 1 := by rw [IntKind.wrap_i64]; omega
          have hk8 : wrap64 ((k : Int) - 1) = (k : Int) - 1 := by unfold wrap64; omega
          have hwk : IntKind.i64.wrap ((k : Int) - 1) = (k : Int) - 1 := by rw [IntKind.wrap_i64]; omega
          clear hx' hkl hm1 d0 d1
          go_wp2_with fail
          go_region_held3 (fun W => (W.cell? ⟨g, (k - 1) * 2, none⟩ = some (.string x') ∧ W.cell? ⟨eb, 0, none⟩ = some (.string x) ∧ W.cell? ⟨eb, 1, none⟩ = some (.string y)))
            (first | with_reducible exact HQ.out _ g0 | with_reducible exact HQ.out _ g1)
            (first | (go_at_call 13; refine (hcm _).mono ?_; rintro e w6 ⟨rfl, m1⟩; have g1 := g0.seq' m1))
          go_wp2
          go_roundw
          case rel => exact ⟨k + 1, by omega, by go_num, HF5.out.seq' g1⟩
          case measure => simp [intOf]; omega
        · have hki : ¬ ((0 : Int) < (k : Int)) := by omega
          go_wp2
          go_quiet (fail)
          go_wp2
          go_roundw
          case rel => exact ⟨k + 1, by omega, by go_num, HF5.out.drewN _⟩
          case measure => simp [intOf]; omega
      · go_wp2_with (go_at_call 8; refine (bspeaks_any _).mono ?_; rintro e w7 ⟨rfl, f7⟩)
        go_ret
        exact ⟨rfl, (HW4.out.seq' HF4.out).seq' f7⟩

set_option maxRecDepth 100000 in
theorem lifted (os : Os) (started : os.Started) (H : Type) (enc : TypeId × Value → H) :
    ReturnsInHanded {} Tryz.checked os 3 .any (Rows.blinkRisesSpec.pre6 enc Tryz.prog Tryz.f3 Rows.blinkRisesRow.domain false) (Rows.blinkRisesSpec.post enc Tryz.prog Tryz.f3 false true false false) := by
  refine returnsInHanded_of_change_sized (C := Tryz.checked) own started (by kernel_rfl) Tryz.func3
    (ChangeSpec.witness6 (enc := enc) (C := Tryz.checked) false ⟨#[], #[.slice none 0 0], []⟩ 8 (by kernel_rfl) (by kernel_rfl) (by kernel_rfl) (by kernel_rfl)) ?_
  intro W base args ds gs before hval0 hW hcnd hsz0 _
  have hsz : (DataW.weightsEach Tryz.prog (Tryz.f3.params.toList ++ Rows.blinkRisesSpec.plain.varTypes Tryz.prog) (ds ++ gs)).all (· ≤ reachBytes) = true := hsz0
  clear hsz0
  have hval : ∀ (j : Nat) t v, Tryz.f3.params[j]? = some t → args[j]? = some v → Value.okWide Tryz.prog W .any base t v := hval0
  have hW' := hW
  obtain ⟨p, q, hA0, hV, rfl, hfz, hnd⟩ := hW
  have hA : DataW.TrodAll enc Tryz.prog W 0 (fun _ => true) true Tryz.f3.params.toList args.toList ds p := hA0
  rw [Tryz.params3] at hA hval hsz
  obtain ⟨v0, vs0, d0, ds0, p0, q0, hargs, rfl, rfl, h0, r0⟩ := trodAll_cons hA
  obtain ⟨rfl, rfl, rfl⟩ := trodAll_nil r0
  obtain rfl : args = #[v0] := by cases args; simp_all
  obtain ⟨rfl, rfl⟩ := trodVars_none hV
  obtain ⟨a0, len0, cap0, rfl⟩ := okWide_slice Tryz.underlying22 (hval 0 22 v0 rfl rfl)
  have k0 := h0
  have lt0 : ∀ x ∈ p0, x.block < W.heap.size := by obtain ⟨m, hm⟩ := k0; exact DataW.trod_lt m _ _ _ hm
  have wz0 : ∀ z ∈ d0.weights Tryz.prog 22, z ≤ reachBytes := fun z hz => by simpa using List.all_eq_true.1 hsz z (DataW.weights_mem_each (j := 0) rfl rfl z hz)
  obtain ⟨ls0, hl0, hr0⟩ : ∃ ls : List Sl, len0 = ls.length ∧ Slots W a0 cap0 ls := by
    obtain ⟨fuel, hf⟩ := h0
    exact slots_open hf wz0
  clear hA0 hval0
  refine (walk W a0 len0 cap0 ls0 hl0 hr0).mono fun e W' ⟨he, fr⟩ => ?_
  have bel : Below W.heap.size W W' := fr.below (Nat.le_refl _) (fun _ f => f.elim)
  subst he
  exact ⟨_, rfl, _, _, _, [], _, [], hW', trodAll_mk1 (shut_bool Tryz.underlying4 _), (trodAll_cons_mk (Below.trod laidOut (by kernel_rfl) (of_decide_eq_true (by kernel_rfl)) k0 bel lt0) trodAll_mk0), rfl, bel.frame _, fun h => by cases h⟩

theorem proved : Rows.BlinkRisesSaid :=
  OpenClaim.holds_of_wide 3 Tryz.f3 rfl rfl rfl rfl rfl rfl rfl ⟨rfl, rfl, rfl, rfl, rfl⟩ rfl rfl rfl rfl rfl (by kernel_rfl) Tryz.func3 (by kernel_rfl)
    (of_decide_eq_true (by kernel_rfl)) (by unfold Func.isWrapper; first | (rw [if_pos (by decide +kernel)]; kernel_rfl) | (rw [if_neg (by decide +kernel)]; exact ⟨rfl, rfl⟩))
    (fun os started H enc _ => lifted os started H enc)
end Go.Proofs.YtnooogjcajlodaaGreat.blinkRises
namespace Go.Proofs.YtnooogjcajlodaaGreat
theorem blinkRises_holds : Rows.BlinkRisesSaid := blinkRises.proved
#print axioms blinkRises_holds
end Go.Proofs.YtnooogjcajlodaaGreat
