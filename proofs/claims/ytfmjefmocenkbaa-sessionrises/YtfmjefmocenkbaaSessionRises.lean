
/- Of any looks, what a session reads on a node between two of its starts is at points that do not fall, and it reads just what is not below the last one, and the example speaks; with no condition but those of the statement's own form. -/
import Derived.Test.YtfmjefmocenkbaaArgs
import Derived.Test.YtfmjefmocenkbaaSsSpk
import Derived.Test.YtfmjefmocenkbaaSsArg
namespace Go.Proofs.Ytfmjefmocenkbaa.sessionRises
open Go.ChangeShapes Go.WideShapes Go.ChangeAt Go.RowKit
open Go.ChangeMaps (open_string shut_string)
set_option linter.unusedVariables false

theorem own : ownKnob Try.prog.godebug = none := by kernel_rfl
theorem laidOut : laidOutB Try.prog = true := by kernel_rfl
theorem bytes8 : Try.prog.bytesOf 5 = 1 := by kernel_rfl

open Go.RowKit
theorem arr3 {r : List Int} (h : r.length = 3) : ∃ x y z, r = [x, y, z] := by
  match r, h with
  | [x, y, z], _ => exact ⟨x, y, z, rfl⟩
theorem geq_not (p x : Int) : decide (x ≤ p) = !decide (p < x) := by
  by_cases h : p < x
  · simp [h]
  · have : x ≤ p := by omega
    simp [h, this]
set_option maxRecDepth 100000 in
set_option maxHeartbeats 16000000 in
theorem walk (w : World) (a1 : Option Addr) (len1 cap1 : Nat) (rs : List (List Int)) (hl1 : len1 = rs.length) (hb1 : rs.length * (8 * 3) ≤ 140737488351232) (hr1 : Rws w a1 cap1 3 rs) :
    Calls Try.prog 6 #[.slice a1 len1 cap1] w fun e w' => e = .returned (.bool true) ∧ Fr (fun _ => False) w w' := by
  have HSP : Hid (∀ W, Calls Try.prog 19 #[] W fun e w' => e = .returned (.bool true) ∧ Fr (fun _ => False) W w') := ssspk_any
  have hle := hr1.le
  have hmx := hr1.max
  rw [← hl1] at hle hb1
  have HS : Hid (∀ W, Fr (fun _ => False) w W → Rws W a1 cap1 3 rs) := fun W f => hr1.same f
  have HL : Hid (len1 = rs.length) := hl1
  have HFIT : Hid (∀ r ∈ rs, r.length = 3) := fun r h => (hr1.fit r h).1
  clear hl1 hr1
  go_enter Try.func6, Try.ntmps6
  go_wp2_with fail
  refine (begin_any w).mono ?_
  rintro e w1 ⟨sb, rfl, hsb, M1, F1⟩
  have F2 := F1.seq' (Fr.box w1 (.cells #[.int .i64 0, .int .i64 0, .int .i64 0, .int .i64 0, .int .i64 0, .int .i64 0, .int .i64 0] 46))
  have M2 := M1.fr (Fr.box w1 (.cells #[.int .i64 0, .int .i64 0, .int .i64 0, .int .i64 0, .int .i64 0, .int .i64 0, .int .i64 0] 46)) (fun f => f)
  have K2 : Nums (w1.alloc (.cells #[.int .i64 0, .int .i64 0, .int .i64 0, .int .i64 0, .int .i64 0, .int .i64 0, .int .i64 0] 46)) w1.heap.size 46 [0, 0, 0, 0, 0, 0, 0] := heap_alloc_new w1 _
  have HNE : Hid (sb < w1.heap.size ∧ w.heap.size ≤ sb ∧ w.heap.size ≤ w1.heap.size) := ⟨M1.lt, by omega, F1.size⟩
  obtain ⟨lb, hlb⟩ : ∃ lb, lb = w1.heap.size := ⟨_, rfl⟩
  have HLB : Hid (w1.heap.size = lb) := hlb.symm
  rw [← hlb] at HNE
  have HM2 : Hid (Nums (w1.alloc (.cells #[.int .i64 0, .int .i64 0, .int .i64 0, .int .i64 0, .int .i64 0, .int .i64 0, .int .i64 0] 46)) sb 69 [0, 0, 0, 0, 0, 0, 0]) := M2
  have HK2 : Hid (Nums (w1.alloc (.cells #[.int .i64 0, .int .i64 0, .int .i64 0, .int .i64 0, .int .i64 0, .int .i64 0, .int .i64 0] 46)) lb 46 [0, 0, 0, 0, 0, 0, 0]) := by rw [hlb]; exact K2
  have HF2 : Hid (Fr (fun _ => False) w (w1.alloc (.cells #[.int .i64 0, .int .i64 0, .int .i64 0, .int .i64 0, .int .i64 0, .int .i64 0, .int .i64 0] 46))) := F2
  clear hsb M1 F1 F2 M2 K2 hlb
  go_wp2
  rw [HLB.out]
  go_loopw [14] (fun i wr => ∃ (k : Nat) (fs : List Int), k ≤ len1 ∧ i = .int .i64 k ∧ Hid (fs.length = 7) ∧ Hid (Nums wr sb 69 fs) ∧ Hid (Nums wr lb 46 fs) ∧ Hid (Fr (fun _ => False) w wr)) (fun i _ => len1 - (intOf i).toNat)
  case atStart => exact ⟨0, [0, 0, 0, 0, 0, 0, 0], by omega, rfl, rfl, HM2, HK2, HF2⟩
  case round =>
    obtain ⟨k, fs, hk, rfl, HFL, HM, HK, HF⟩ := hrel
    clear HM2 HK2 HF2
    by_cases hlt : k < len1
    · obtain ⟨r, hr⟩ : ∃ r, rs[k]? = some r := ⟨_, List.getElem?_eq_getElem (by have := HL.out; omega)⟩
      obtain ⟨b1, o1, rfl, hb1l, hc⟩ := (HS.out _ HF.out).some (by have := HL.out; omega)
      obtain ⟨kd, nd, pt, rfl⟩ := arr3 (HFIT.out r (List.mem_of_getElem? hr))
      have c0 := hc k _ hr 0 kd rfl
      have c1 := hc k _ hr 1 nd rfl
      have c2 := hc k _ hr 2 pt rfl
      rw [Nat.add_zero] at c0
      have i1 : (k : Int) < (len1 : Int) := by omega
      clear hc hr
      have F0 := Fr.box wr (.cells #[.int .i64 kd, .int .i64 nd, .int .i64 pt] 50)
      have NB : Nums (wr.alloc (.cells #[.int .i64 kd, .int .i64 nd, .int .i64 pt] 50)) wr.heap.size 50 [kd, nd, pt] := heap_alloc_new wr _
      have x0 := (NB.at_ (k := 0) rfl).1
      have x1 := (NB.at_ (k := 1) rfl).1
      have x2 := (NB.at_ (k := 2) rfl).1
      have hsl := HM.out.lt
      have hll := HK.out.lt
      have HNB : Hid (Nums (wr.alloc (.cells #[.int .i64 kd, .int .i64 nd, .int .i64 pt] 50)) wr.heap.size 50 [kd, nd, pt]) := NB
      have HM1 : Hid (Nums (wr.alloc (.cells #[.int .i64 kd, .int .i64 nd, .int .i64 pt] 50)) sb 69 fs) := HM.out.fr F0 (fun f => f)
      have HK1 : Hid (Nums (wr.alloc (.cells #[.int .i64 kd, .int .i64 nd, .int .i64 pt] 50)) lb 46 fs) := HK.out.fr F0 (fun f => f)
      have HF1 : Hid (Fr (fun _ => False) w (wr.alloc (.cells #[.int .i64 kd, .int .i64 nd, .int .i64 pt] 50))) := HF.out.seq' F0
      have HSL : Hid (sb < wr.heap.size ∧ lb < wr.heap.size) := ⟨hsl, hll⟩
      obtain ⟨xb, hxb⟩ : ∃ xb, xb = wr.heap.size := ⟨_, rfl⟩
      have HXB : Hid (wr.heap.size = xb) := hxb.symm
      rw [← hxb] at HNB HSL
      clear F0 NB hsl hll HM HK HF hxb
      by_cases hkd : kd = 2
      · subst hkd
        have hag := again_any nd _ HM1.out HFL.out
        cases hnd : ndB nd with
        | true =>
          rw [hnd, if_pos rfl] at hag
          obtain ⟨q, hq, hq7⟩ := ndB_nat hnd
          have HQ : Hid (nd = q) := hq
          clear hq
          go_wp2_with fail
          refine hag.mono ?_
          rintro e w2 ⟨rfl, M2, f2⟩
          rw [HXB.out]
          have hne : sb ≠ lb := by have := HNE.out; omega
          have N2 := HNB.out.fr f2 (fun e => by have := HSL.out; omega)
          have K2 := HK1.out.fr f2 (fun e => by omega)
          have y1 := (N2.at_ (k := 1) rfl).1
          obtain ⟨v, hv⟩ : ∃ v, fs[q]? = some v := ⟨_, List.getElem?_eq_getElem (by have := HFL.out; omega)⟩
          obtain ⟨z0, z1⟩ := K2.at_ hv
          obtain ⟨K3, f3⟩ := K2.set q 0
          have HM3 : Hid (Nums (w2.setCell ⟨lb, q, none⟩ (.int .i64 0)) sb 69 (fs.set q 0)) := by
            have := M2.fr f3 (fun e => hne e)
            rw [show agF fs nd = fs.set q 0 by rw [agF, if_pos hnd, HQ.out]; rfl] at this
            exact this
          have HK3 : Hid (Nums (w2.setCell ⟨lb, q, none⟩ (.int .i64 0)) lb 46 (fs.set q 0)) := K3
          have HF3 : Hid (Fr (fun _ => False) w (w2.setCell ⟨lb, q, none⟩ (.int .i64 0))) := (HF1.out.trans f2 (fun i hi e => by have := HNE.out; omega)).trans f3 (fun i hi e => by have := HNE.out; omega)
          have HL3 : Hid ((fs.set q 0).length = 7) := by rw [List.length_set]; exact HFL
          clear hag x0 x1 x2 c0 c1 c2 N2 K2 K3 f2 f3 M2 hv hnd HNB HM1 HK1 HF1 HFL hne
          have hq := HQ.out
          clear HQ
          subst hq
          go_wp2
          go_roundw
          case rel => exact ⟨k + 1, fs.set q 0, by omega, by go_num, HL3, HM3, HK3, HF3⟩
          case measure => simp [intOf]; omega
        | false =>
          rw [hnd, if_neg (by simp)] at hag
          go_wp2_with fail
          refine hag.mono ?_
          rintro e w2 ⟨rfl, M2, f2⟩
          have hne : sb ≠ lb := by have := HNE.out; omega
          have HM3 : Hid (Nums w2 sb 69 fs) := by
            rw [show agF fs nd = fs by rw [agF, if_neg (by rw [hnd]; simp)]] at M2
            exact M2
          have HK3 : Hid (Nums w2 lb 46 fs) := HK1.out.fr f2 (fun e => hne e.symm)
          have HF3 : Hid (Fr (fun _ => False) w w2) := HF1.out.trans f2 (fun i hi e => by have := HNE.out; omega)
          clear hag x0 x1 x2 c0 c1 c2 f2 M2 hnd HNB HM1 HK1 HF1 hne
          go_wp2
          go_roundw
          case rel => exact ⟨k + 1, fs, by omega, by go_num, HFL, HM3, HK3, HF3⟩
          case measure => simp [intOf]; omega
      · have hkb : (kd == 2) = false := by simpa using hkd
        have hrd := read_any nd pt _ HM1.out HFL.out
        have hne : sb ≠ lb := by have := HNE.out; omega
        cases hz : (ndB nd && ptB pt) with
        | false =>
          have e1 : rdE nd pt = 1 := by rw [rdE, hz]; rfl
          have e2 : rdB fs nd pt = false := by rw [rdB, hz]; rfl
          have e3 : rdF fs nd pt = fs := by rw [rdF, e2]; rfl
          rw [e1, e2, e3] at hrd
          clear e1 e2 e3
          go_wp2_with fail
          refine hrd.mono ?_
          rintro e w2 ⟨rfl, M2, f2⟩
          have HM3 : Hid (Nums w2 sb 69 fs) := M2
          have HK3 : Hid (Nums w2 lb 46 fs) := HK1.out.fr f2 (fun e => hne e.symm)
          have HF3 : Hid (Fr (fun _ => False) w w2) := HF1.out.trans f2 (fun i hi e => by have := HNE.out; omega)
          clear hrd x0 x1 x2 c0 c1 c2 f2 M2 hz HNB HM1 HK1 HF1 hne
          go_wp2
          go_roundw
          case rel => exact ⟨k + 1, fs, by omega, by go_num, HFL, HM3, HK3, HF3⟩
          case measure => simp [intOf]; omega
        | true =>
          have e1 : rdE nd pt = 0 := by rw [rdE, hz]; rfl
          have hnd : ndB nd = true := by simp at hz; exact hz.1
          obtain ⟨q, hq, hq7⟩ := ndB_nat hnd
          have HQ : Hid (nd = q) := hq
          obtain ⟨v, hv⟩ : ∃ v, fs[q]? = some v := ⟨_, List.getElem?_eq_getElem (by have := HFL.out; omega)⟩
          have e4 : flN fs nd = v := by rw [HQ.out]; simp [flN, hv]
          clear hq
          have e2 : rdB fs nd pt = !decide (pt < v) := by rw [rdB, hz, e4]; rfl
          by_cases hlp : pt < v
          · have e5 : rdB fs nd pt = false := by rw [e2]; simp [hlp]
            have e3 : rdF fs nd pt = fs := by rw [rdF, e5]; rfl
            have hgq : decide (v ≤ pt) = false := by simp; omega
            rw [e1, e5, e3] at hrd
            clear e1 e2 e3 e4 e5
            go_wp2_with fail
            refine hrd.mono ?_
            rintro e w2 ⟨rfl, M2, f2⟩
            rw [HXB.out]
            have N2 := HNB.out.fr f2 (fun e => by have := HSL.out; omega)
            have K2 := HK1.out.fr f2 (fun e => hne e.symm)
            have y1 := (N2.at_ (k := 1) rfl).1
            have y2 := (N2.at_ (k := 2) rfl).1
            obtain ⟨z0, z1⟩ := K2.at_ hv
            have HM3 : Hid (Nums w2 sb 69 fs) := M2
            have HK3 : Hid (Nums w2 lb 46 fs) := K2
            have HF3 : Hid (Fr (fun _ => False) w w2) := HF1.out.trans f2 (fun i hi e => by have := HNE.out; omega)
            clear hrd x0 x1 x2 c0 c1 c2 N2 K2 f2 M2 hv hnd hz HNB HM1 HK1 HF1 hne
            have hq := HQ.out
            clear HQ
            subst hq
            go_wp2
            go_quiet (fail)
            go_wp2
            go_roundw
            case rel => exact ⟨k + 1, fs, by omega, by go_num, HFL, HM3.out.fr ((Fr.refl (fun _ => False) w2).drewN _) (fun f => f), HK3.out.fr ((Fr.refl (fun _ => False) w2).drewN _) (fun f => f), HF3.out.drewN _⟩
            case measure => simp [intOf]; omega
          · have e5 : rdB fs nd pt = true := by rw [e2]; simp; omega
            have e3 : rdF fs nd pt = fs.set q pt := by rw [rdF, e5, if_pos rfl, HQ.out]; rfl
            have hgq : decide (v ≤ pt) = true := by simp; omega
            rw [e1, e5, e3] at hrd
            clear e1 e2 e3 e4 e5
            go_wp2_with fail
            refine hrd.mono ?_
            rintro e w2 ⟨rfl, M2, f2⟩
            rw [HXB.out]
            have N2 := HNB.out.fr f2 (fun e => by have := HSL.out; omega)
            have K2 := HK1.out.fr f2 (fun e => hne e.symm)
            have y1 := (N2.at_ (k := 1) rfl).1
            have y2 := (N2.at_ (k := 2) rfl).1
            obtain ⟨z0, z1⟩ := K2.at_ hv
            have HM3 : Hid (∀ n, Nums ((w2.drewN n).setCell ⟨lb, q, none⟩ (.int .i64 pt)) sb 69 (fs.set q pt)) := fun n => (M2.fr ((Fr.refl (fun _ => False) w2).drewN n) (fun f => f)).fr ((K2.fr ((Fr.refl (fun _ => False) w2).drewN n) (fun f => f)).set q pt).2 hne
            have HK3 : Hid (∀ n, Nums ((w2.drewN n).setCell ⟨lb, q, none⟩ (.int .i64 pt)) lb 46 (fs.set q pt)) := fun n => ((K2.fr ((Fr.refl (fun _ => False) w2).drewN n) (fun f => f)).set q pt).1
            have HF3 : Hid (∀ n, Fr (fun _ => False) w ((w2.drewN n).setCell ⟨lb, q, none⟩ (.int .i64 pt))) := fun n => ((HF1.out.trans f2 (fun i hi e => by have := HNE.out; omega)).drewN n).setCell (p := ⟨lb, q, none⟩) (fun h => by have := HNE.out; have h' : lb < w.heap.size := h; omega) _
            have HL3 : Hid ((fs.set q pt).length = 7) := by rw [List.length_set]; exact HFL
            clear hrd x0 x1 x2 c0 c1 c2 N2 K2 f2 M2 hv hnd hz HNB HM1 HK1 HF1 hne HFL
            have hq := HQ.out
            clear HQ
            subst hq
            go_wp2
            go_quiet (fail)
            go_wp2
            go_roundw
            case rel => exact ⟨k + 1, fs.set q pt, by omega, by go_num, HL3, HM3.out _, HK3.out _, HF3.out _⟩
            case measure => simp [intOf]; omega
    · have hke : k = len1 := by omega
      subst hke
      have hsp := HSP.out wr
      have HFW : Hid (Fr (fun _ => False) w wr) := HF
      clear HM HK
      go_wp2_with (go_at_call 19; refine hsp.mono ?_; rintro e w9 ⟨rfl, f9⟩)
      go_ret
      exact ⟨rfl, HFW.out.seq' f9⟩

set_option maxRecDepth 100000 in
theorem lifted (os : Os) (started : os.Started) (H : Type) (enc : TypeId × Value → H) :
    ReturnsInHanded {} Try.checked os 6 .any (Rows.sessionRisesSpec.pre6 enc Try.prog Try.f6 Rows.sessionRisesRow.domain false) (Rows.sessionRisesSpec.post enc Try.prog Try.f6 false true false false) := by
  refine returnsInHanded_of_change_sized (C := Try.checked) own started (by kernel_rfl) Try.func6
    (ChangeSpec.witness6 (enc := enc) (C := Try.checked) false ⟨#[], #[.slice none 0 0], []⟩ 8 (by kernel_rfl) (by kernel_rfl) (by kernel_rfl) (by kernel_rfl)) ?_
  intro W base args ds gs before hval0 hW hcnd hsz0 _
  have hsz : (DataW.weightsEach Try.prog (Try.f6.params.toList ++ Rows.sessionRisesSpec.plain.varTypes Try.prog) (ds ++ gs)).all (· ≤ reachBytes) = true := hsz0
  clear hsz0
  have hval : ∀ (j : Nat) t v, Try.f6.params[j]? = some t → args[j]? = some v → Value.okWide Try.prog W .any base t v := hval0
  have hW' := hW
  obtain ⟨p, q, hA0, hV, rfl, hfz, hnd⟩ := hW
  have hA : DataW.TrodAll enc Try.prog W 0 (fun _ => true) true Try.f6.params.toList args.toList ds p := hA0
  rw [Try.params6] at hA hval hsz
  obtain ⟨v0, vs0, d0, ds0, p0, q0, hargs, rfl, rfl, h0, r0⟩ := trodAll_cons hA
  obtain ⟨rfl, rfl, rfl⟩ := trodAll_nil r0
  obtain rfl : args = #[v0] := by cases args; simp_all
  obtain ⟨rfl, rfl⟩ := trodVars_none hV
  obtain ⟨a0, len0, cap0, rfl⟩ := okWide_slice Try.underlying42 (hval 0 42 v0 rfl rfl)
  have k0 := h0
  have lt0 : ∀ x ∈ p0, x.block < W.heap.size := by obtain ⟨m, hm⟩ := k0; exact DataW.trod_lt m _ _ _ hm
  have wz0 : ∀ z ∈ d0.weights Try.prog 42, z ≤ reachBytes := fun z hz => by simpa using List.all_eq_true.1 hsz z (DataW.weights_mem_each (j := 0) rfl rfl z hz)
  obtain ⟨rs0, hl0, hb0, hr0⟩ : ∃ rs : List (List Int), len0 = rs.length ∧ rs.length * (8 * 3) ≤ 140737488351232 ∧ Rws W a0 cap0 3 rs := by
    obtain ⟨fuel, hf⟩ := h0
    exact rws_open Try.underlying42 cellsL24 (by decide) bytesL24 lk24_ints hf wz0
  clear hA0 hval0
  refine (walk W a0 len0 cap0 rs0 hl0 hb0 hr0).mono fun e W' ⟨he, fr⟩ => ?_
  have bel : Below W.heap.size W W' := fr.below (Nat.le_refl _) (fun _ f => f.elim)
  subst he
  exact ⟨_, rfl, _, _, _, [], _, [], hW', trodAll_mk1 (shut_bool Try.underlying4 _), (trodAll_cons_mk (Below.trod laidOut (by kernel_rfl) (of_decide_eq_true (by kernel_rfl)) k0 bel lt0) trodAll_mk0), rfl, bel.frame _, fun h => by cases h⟩

theorem proved : Rows.SessionRisesSaid :=
  OpenClaim.holds_of_wide 6 Try.f6 rfl rfl rfl rfl rfl rfl rfl ⟨rfl, rfl, rfl, rfl, rfl⟩ rfl rfl rfl rfl rfl (by kernel_rfl) Try.func6 (by kernel_rfl)
    (of_decide_eq_true (by kernel_rfl)) (by unfold Func.isWrapper; first | (rw [if_pos (by decide +kernel)]; kernel_rfl) | (rw [if_neg (by decide +kernel)]; exact ⟨rfl, rfl⟩))
    (fun os started H enc _ => lifted os started H enc)
end Go.Proofs.Ytfmjefmocenkbaa.sessionRises
namespace Go.Proofs.Ytfmjefmocenkbaa
theorem sessionRises_holds : Rows.SessionRisesSaid := sessionRises.proved
#print axioms sessionRises_holds
end Go.Proofs.Ytfmjefmocenkbaa
