
/- Of any steps of a table, each request is told by Settle once at most, and behind it it is done, and the example speaks; with no condition but those of the statement's own form. -/
import Derived.Test.YtfmjefmocenkbaaArgs
import Derived.Test.YtfmjefmocenkbaaSsSpk
import Derived.Test.YtfmjefmocenkbaaSsArg
import Derived.Test.YtfmjefmocenkbaaSsOnce
namespace Go.Proofs.Ytfmjefmocenkbaa.sessionOnce
open Go.ChangeShapes Go.WideShapes Go.ChangeAt Go.RowKit
open Go.ChangeMaps (open_string shut_string)
set_option linter.unusedVariables false

theorem own : ownKnob Try.prog.godebug = none := by kernel_rfl
theorem laidOut : laidOutB Try.prog = true := by kernel_rfl
theorem bytes8 : Try.prog.bytesOf 5 = 1 := by kernel_rfl

open Go.RowKit
theorem arr3 {r : List Int} (h : r.length = 3) : ∃ x y z, r = [x, y, z] := by
  match r, h with
  | [x, y, z], _ => exact ⟨x, y, z, rfl⟩
set_option maxRecDepth 100000 in
set_option maxHeartbeats 16000000 in
theorem walk (w : World) (a1 : Option Addr) (len1 cap1 : Nat) (rs : List (List Int)) (hl1 : len1 = rs.length) (hb1 : rs.length * (8 * 3) ≤ 140737488351232) (hr1 : Rws w a1 cap1 3 rs) :
    Calls Try.prog 5 #[.slice a1 len1 cap1] w fun e w' => e = .returned (.bool true) ∧ Fr (fun _ => False) w w' := by
  have HSP : Hid (∀ W, Calls Try.prog 19 #[] W fun e w' => e = .returned (.bool true) ∧ Fr (fun _ => False) W w') := ssspk_any
  have hle := hr1.le
  have hmx := hr1.max
  rw [← hl1] at hle hb1
  have HS : Hid (∀ W, Fr (fun _ => False) w W → Rws W a1 cap1 3 rs) := fun W f => hr1.same f
  have HL : Hid (len1 = rs.length) := hl1
  have HFIT : Hid (∀ r ∈ rs, r.length = 3) := fun r h => (hr1.fit r h).1
  clear hl1 hr1
  go_enter Try.func5, Try.ntmps5
  go_wp2_with fail
  refine (snew_any w).mono ?_
  rintro e w1 ⟨tb, rfl, hsb, T1, F1⟩
  have HO1 : Hid (On w w1 (fun i => i = tb) tb [] [] (.slice none 0 0) 0) := ⟨T1, by simp, by simp, (fun _ h => by cases h), has_nil w1, (fun g h => by cases h), fun i e => by omega, F1⟩
  clear hsb T1 F1
  go_wp2
  go_loopw [4, 16] (fun tv i wr => ∃ (k : Nat) (L : Wt) (D : List Int) (S : Nat → Prop) (a : Option Addr) (c : Nat), k ≤ len1 ∧ tv = .slice a D.length c ∧ i = .int .i64 k ∧ Hid (On w wr S tb L D (.slice a D.length c) k)) (fun _ i _ => len1 - (intOf i).toNat)
  case atStart => exact ⟨0, [], [], _, none, 0, by omega, rfl, rfl, HO1⟩
  case round =>
    obtain ⟨k, L, D, S, a, c, hk, rfl, rfl, HO⟩ := hrel
    clear HO1
    by_cases hlt : k < len1
    · obtain ⟨r, hr⟩ : ∃ r, rs[k]? = some r := ⟨_, List.getElem?_eq_getElem (by have := HL.out; omega)⟩
      obtain ⟨b1, o1, rfl, hb1l, hc⟩ := (HS.out _ HO.out.fr).some (by have := HL.out; omega)
      obtain ⟨kd, rq, ln, rfl⟩ := arr3 (HFIT.out r (List.mem_of_getElem? hr))
      have c0 := hc k _ hr 0 kd rfl
      have c1 := hc k _ hr 1 rq rfl
      have c2 := hc k _ hr 2 ln rfl
      rw [Nat.add_zero] at c0
      have i1 : (k : Int) < (len1 : Int) := by omega
      have NB : Nums (wr.alloc (.cells #[.int .i64 kd, .int .i64 rq, .int .i64 ln] 31)) wr.heap.size 31 [kd, rq, ln] := heap_alloc_new wr _
      have x0 := (NB.at_ (k := 0) rfl).1
      have x1 := (NB.at_ (k := 1) rfl).1
      have x2 := (NB.at_ (k := 2) rfl).1
      have F0 := Fr.box wr (.cells #[.int .i64 kd, .int .i64 rq, .int .i64 ln] 31)
      have HO1 : Hid (On w (wr.alloc (.cells #[.int .i64 kd, .int .i64 rq, .int .i64 ln] 31)) S tb L D (.slice a D.length c) k) := HO.out.same F0
      clear hc hr NB F0
      by_cases h1000 : k < 1000
      · have d1 : decide ((1000 : Int) ≤ (k : Int)) = false := by simp; omega
        have d2 : decide (1000 ≤ k) = false := by simp; omega
        by_cases g0 : kd = 0
        · subst g0
          have hwa := wait_any rq ln _ HO1.out.tb HO1.out.len
          clear HO
          go_wp2_with fail
          refine hwa.mono ?_
          rintro e w2 ⟨rfl, hw2⟩
          obtain ⟨S2, O2⟩ := HO1.out.wait hw2
          have HO2 : Hid (On w w2 S2 tb (waL L D rq ln) D (.slice a D.length c) (k + 1)) := O2
          clear hwa hw2 O2 HO1 x0 x1 x2 c0 c1 c2
          go_wp2
          go_roundw
          case rel => exact ⟨k + 1, _, D, S2, a, c, by omega, rfl, by go_num, HO2⟩
          case measure => simp [intOf]; omega
        · have g0' : (kd == 0) = false := by simpa using g0
          by_cases g1 : kd = 1
          · subst g1
            have hwa := wait_any rq ln _ HO1.out.tb HO1.out.len
            clear HO
            go_wp2_with fail
            refine hwa.mono ?_
            rintro e w2 ⟨rfl, hw2⟩
            obtain ⟨S2, O2⟩ := HO1.out.wait hw2
            have HO2 : Hid (On w w2 S2 tb (waL L D rq ln) D (.slice a D.length c) (k + 1)) := O2
            clear hwa hw2 O2 HO1 x0 x1 x2 c0 c1 c2
            go_wp2
            go_roundw
            case rel => exact ⟨k + 1, _, D, S2, a, c, by omega, rfl, by go_num, HO2⟩
            case measure => simp [intOf]; omega
          · have g1' : (kd == 1) = false := by simpa using g1
            by_cases g3 : kd = 3
            · subst g3
              have hwa := leave_any _ HO1.out.tb HO1.out.len
              clear HO
              go_wp2_with fail
              refine hwa.mono ?_
              rintro e w2 ⟨p2, q2, rfl, _, ht2, f2⟩
              have HO2 : Hid (On w w2 S tb [] D (.slice a D.length c) (k + 1)) := HO1.out.leave ht2 f2
              clear hwa ht2 f2 HO1 x0 x1 x2 c0 c1 c2
              go_wp2
              go_roundw
              case rel => exact ⟨k + 1, [], D, S, a, c, by omega, rfl, by go_num, HO2⟩
              case measure => simp [intOf]; omega
            · have g3' : (kd == 3) = false := by simpa using g3
              have hwa := settle_any ln _ HO1.out.tb HO1.out.len (by have := HO1.out.sum; omega)
              obtain ⟨ts, hts⟩ : ∃ ts, ts = tkR ln L := ⟨_, rfl⟩
              rw [← hts] at hwa
              have HTS : Hid (tkR ln L = ts) := hts.symm
              have HOK : Hid (Ok L ∧ L.length ≤ 1024 ∧ L.length + D.length ≤ k ∧ ∀ p ∈ L, p.1 ∉ D) := ⟨HO1.out.tb.ok, HO1.out.len, HO1.out.sum, HO1.out.dis⟩
              have HTN : Hid (∀ j x, ts[j]? = some x → x ∉ D ++ ts.take j ∧ stN (rsL ln L) (D ++ ts) x = 2 ∧ wfK x) := fun j x hx => by rw [hts] at hx ⊢; exact told_new HOK.out.1 HOK.out.2.2.2 hx
              have HTL : Hid (ts.length ≤ 1024) := by have := tk_len ln L; have := HOK.out.2.1; show _ ≤ _; rw [hts]; omega
              obtain ⟨B, hB⟩ : ∃ B, B = (wr.alloc (.cells #[.int .i64 kd, .int .i64 rq, .int .i64 ln] 31)).heap.size := ⟨_, rfl⟩
              clear HO hts
              go_wp2_with fail
              refine hwa.mono ?_
              rintro e w2 ⟨p, q, rfl, hir, ht2, f2⟩
              have hm0 := HO1.out.settle (c := ln) (p := p) (q := q) (w' := w2) (by rw [HTS.out]; exact hir) (by rw [HTS.out]; exact ht2) f2
              rw [HTS.out, ← hB] at hm0
              have HM0 : Hid (∃ a' c', Value.slice a D.length c = .slice a' (D ++ ts.take 0).length c' ∧ Md w w2 S tb (rsL ln L) D ts 0 (.slice a' (D ++ ts.take 0).length c') p q B) := ⟨a, c, by simp, by simpa using hm0⟩
              have hq1 := hir.le
              have hq2 := hir.max
              clear hwa hm0 hir ht2 f2 HO1 x0 x1 x2 c0 c1 c2 hB
              go_wp2
              go_loopw [4, 30] (fun tv i wz => ∃ (j : Nat) (a' : Option Addr) (c' : Nat), j ≤ ts.length ∧ tv = .slice a' (D ++ ts.take j).length c' ∧ i = .int .i64 j ∧ Hid (Md w wz S tb (rsL ln L) D ts j (.slice a' (D ++ ts.take j).length c') p q B)) (fun _ i _ => ts.length - (intOf i).toNat)
              case atStart =>
                obtain ⟨a', c', e1, e2⟩ := HM0.out
                exact ⟨0, a', c', by omega, e1, rfl, e2⟩
              case round =>
                rename World => W3
                obtain ⟨j, a', c', hj, rfl, rfl, HM⟩ := hrel
                clear HM0
                by_cases hjt : j < ts.length
                · obtain ⟨x, hx⟩ : ∃ x, ts[j]? = some x := ⟨_, List.getElem?_eq_getElem hjt⟩
                  obtain ⟨t1, t2, t3⟩ := HTN.out j x hx
                  obtain ⟨bp, rfl, _, _, hcl⟩ := HM.out.row.some (by omega)
                  have cx := hcl j x hx
                  have hst := state_any x t3 W3 HM.out.tb
                  rw [t2] at hst
                  have ib := has_bound HM.out.told
                  have HX : Hid (ts[j]? = some x) := hx
                  obtain ⟨E, hE⟩ : ∃ E, E = D ++ ts.take j := ⟨_, rfl⟩
                  have HEE : Hid (D ++ ts.take j = E) := hE.symm
                  have HEL : Hid (E.length ≤ 3000) := by show _ ≤ _; rw [hE, List.length_append, List.length_take]; have := HTL.out; have := HOK.out.2.2.1; omega
                  have HMS : Hid (∀ v' W, Has W 1 v' (E ++ [x]).length ((E ++ [x]).map zI) → ∀ W0, Fr (fun _ => False) W3 W0 → Fr (fun k => (Value.slice a' E.length c').ownBlock = some k) W0 W → (v'.ownBlock = (Value.slice a' E.length c').ownBlock ∨ v'.ownBlock = some (W0.heap.size + 1)) → Md w W S tb (rsL ln L) D ts (j + 1) v' (some ⟨bp, 0, none⟩) q B) := by
                    intro v' W h1 W0 f0 f1 hv
                    rw [hE] at h1 f1 hv
                    exact (HM.out.same f0).tell hx h1 f1 hv
                  have HTD : Hid (Has W3 1 (.slice a' E.length c') E.length (E.map zI)) := by have := HM.out.told; rw [← hE] at this; exact this
                  have HNI : Hid (x ∉ E) := by show x ∉ E; rw [hE]; exact t1
                  rw [← hE]
                  have ib1 := ib.1
                  have ib2 := ib.2
                  rw [← hE] at ib1
                  have j1 : (j : Int) < (ts.length : Int) := by omega
                  have HES : Hid (E ++ [x] = D ++ ts.take (j + 1)) := by show _ = _; rw [hE, List.append_assoc, List.take_add_one, hx]; rfl
                  clear hx t1 t2 t3 hcl ib HM hE
                  go_wp2
                  go_loopw [36] (fun i wz => ∃ m : Nat, m ≤ E.length ∧ i = .int .i64 m ∧ W3 = wz) (fun i _ => E.length - (intOf i).toNat)
                  case atStart => exact ⟨0, by omega, rfl, rfl⟩
                  case round =>
                    obtain ⟨m, hm, rfl, rfl⟩ := hrel
                    by_cases hmE : m < E.length
                    · obtain ⟨y, hy⟩ : ∃ y, E[m]? = some y := ⟨_, List.getElem?_eq_getElem hmE⟩
                      obtain ⟨bt, rfl, hct⟩ := has_cell HTD.out (by omega)
                      have cy := hct m y hy
                      have hyx : (y == x) = false := by
                        rw [beq_eq_false_iff_ne]
                        rintro rfl
                        exact HNI.out (List.mem_of_getElem? hy)
                      have m1 : (m : Int) < (E.length : Int) := by omega
                      clear hct hy
                      go_wp2
                      go_roundw
                      case rel => exact ⟨m + 1, by omega, by go_num, trivial⟩
                      case measure => simp [intOf]; omega
                    · have hmm : m = E.length := by omega
                      subst hmm
                      go_wp2_with fail
                      refine hst.mono ?_
                      rintro e w5 ⟨rfl, f5⟩
                      obtain ⟨a6, c6, w6, hrun, hh6, f6, ho6⟩ := app_has x (HTD.out.fr f5 (fun _ _ f => f)) (by have := HEL.out; omega)
                      have HM6 : Hid (Md w w6 S tb (rsL ln L) D ts (j + 1) (.slice a6 (D ++ ts.take (j + 1)).length c6) (some ⟨bp, 0, none⟩) q B) := by
                        have := HMS.out _ w6 hh6 w5 f5 f6 ho6
                        rw [show E.length + 1 = (D ++ ts.take (j + 1)).length by rw [← HES.out]; simp] at this
                        exact this
                      have HLE : Hid (E.length + 1 = (D ++ ts.take (j + 1)).length) := by show _ = _; rw [← HES.out]; simp
                      clear hst hh6 f6 ho6 f5 HMS HTD
                      go_wp2_with (at_builtin; refine append_step rfl _ _ 27 rfl rfl rfl hrun ?_)
                      refine ⟨⟨j + 1, a6, c6, by omega, by rw [HLE.out], by simp, HM6⟩, by simp [intOf]; omega⟩
                · have hje : j = ts.length := by omega
                  subst hje
                  have HO2 : Hid (On w W3 S tb (rsL ln L) (D ++ ts) (.slice a' (D ++ ts).length c') (k + 1)) := by
                    have hm := HM.out
                    rw [List.take_length] at hm
                    have h1 : Md w W3 S tb (rsL ln L) D (tkR ln L) (tkR ln L).length (.slice a' (D ++ ts).length c') p q B := by
                      rw [HTS.out]
                      have := HM.out
                      rw [List.take_length] at this
                      exact this
                    have := h1.done rfl HOK.out.1 HOK.out.2.1 HOK.out.2.2.1 HOK.out.2.2.2
                    rw [HTS.out] at this
                    exact this
                  rw [List.take_length]
                  clear HM
                  go_wp2
                  go_roundw
                  case rel => exact ⟨k + 1, _, D ++ ts, S, a', c', by omega, rfl, by go_num, HO2⟩
                  case measure => simp [intOf]; omega
      · have d1 : decide ((1000 : Int) ≤ (k : Int)) = true := by simp; omega
        have d2 : decide (1000 ≤ k) = true := by simp; omega
        have hsp := HSP.out (wr.alloc (.cells #[.int .i64 kd, .int .i64 rq, .int .i64 ln] 31))
        have HFW : Hid (Fr (fun _ => False) w (wr.alloc (.cells #[.int .i64 kd, .int .i64 rq, .int .i64 ln] 31))) := HO1.out.fr
        clear HO HO1
        go_wp2_with (go_at_call 19; refine hsp.mono ?_; rintro e w9 ⟨rfl, f9⟩)
        go_ret
        exact ⟨rfl, HFW.out.seq' f9⟩
    · have hke : k = len1 := by omega
      subst hke
      have hsp := HSP.out wr
      have HFW : Hid (Fr (fun _ => False) w wr) := HO.out.fr
      clear HO
      go_wp2_with (go_at_call 19; refine hsp.mono ?_; rintro e w9 ⟨rfl, f9⟩)
      go_ret
      exact ⟨rfl, HFW.out.seq' f9⟩

set_option maxRecDepth 100000 in
theorem lifted (os : Os) (started : os.Started) (H : Type) (enc : TypeId × Value → H) :
    ReturnsInHanded {} Try.checked os 5 .any (Rows.sessionOnceSpec.pre6 enc Try.prog Try.f5 Rows.sessionOnceRow.domain false) (Rows.sessionOnceSpec.post enc Try.prog Try.f5 false true false false) := by
  refine returnsInHanded_of_change_sized (C := Try.checked) own started (by kernel_rfl) Try.func5
    (ChangeSpec.witness6 (enc := enc) (C := Try.checked) false ⟨#[], #[.slice none 0 0], []⟩ 8 (by kernel_rfl) (by kernel_rfl) (by kernel_rfl) (by kernel_rfl)) ?_
  intro W base args ds gs before hval0 hW hcnd hsz0 _
  have hsz : (DataW.weightsEach Try.prog (Try.f5.params.toList ++ Rows.sessionOnceSpec.plain.varTypes Try.prog) (ds ++ gs)).all (· ≤ reachBytes) = true := hsz0
  clear hsz0
  have hval : ∀ (j : Nat) t v, Try.f5.params[j]? = some t → args[j]? = some v → Value.okWide Try.prog W .any base t v := hval0
  have hW' := hW
  obtain ⟨p, q, hA0, hV, rfl, hfz, hnd⟩ := hW
  have hA : DataW.TrodAll enc Try.prog W 0 (fun _ => true) true Try.f5.params.toList args.toList ds p := hA0
  rw [Try.params5] at hA hval hsz
  obtain ⟨v0, vs0, d0, ds0, p0, q0, hargs, rfl, rfl, h0, r0⟩ := trodAll_cons hA
  obtain ⟨rfl, rfl, rfl⟩ := trodAll_nil r0
  obtain rfl : args = #[v0] := by cases args; simp_all
  obtain ⟨rfl, rfl⟩ := trodVars_none hV
  obtain ⟨a0, len0, cap0, rfl⟩ := okWide_slice Try.underlying22 (hval 0 22 v0 rfl rfl)
  have k0 := h0
  have lt0 : ∀ x ∈ p0, x.block < W.heap.size := by obtain ⟨m, hm⟩ := k0; exact DataW.trod_lt m _ _ _ hm
  have wz0 : ∀ z ∈ d0.weights Try.prog 22, z ≤ reachBytes := fun z hz => by simpa using List.all_eq_true.1 hsz z (DataW.weights_mem_each (j := 0) rfl rfl z hz)
  obtain ⟨rs0, hl0, hb0, hr0⟩ : ∃ rs : List (List Int), len0 = rs.length ∧ rs.length * (8 * 3) ≤ 140737488351232 ∧ Rws W a0 cap0 3 rs := by
    obtain ⟨fuel, hf⟩ := h0
    exact rws_open Try.underlying22 cellsS24 (by decide) bytesS24 st24_ints hf wz0
  clear hA0 hval0
  refine (walk W a0 len0 cap0 rs0 hl0 hb0 hr0).mono fun e W' ⟨he, fr⟩ => ?_
  have bel : Below W.heap.size W W' := fr.below (Nat.le_refl _) (fun _ f => f.elim)
  subst he
  exact ⟨_, rfl, _, _, _, [], _, [], hW', trodAll_mk1 (shut_bool Try.underlying4 _), (trodAll_cons_mk (Below.trod laidOut (by kernel_rfl) (of_decide_eq_true (by kernel_rfl)) k0 bel lt0) trodAll_mk0), rfl, bel.frame _, fun h => by cases h⟩

theorem proved : Rows.SessionOnceSaid :=
  OpenClaim.holds_of_wide 5 Try.f5 rfl rfl rfl rfl rfl rfl rfl ⟨rfl, rfl, rfl, rfl, rfl⟩ rfl rfl rfl rfl rfl (by kernel_rfl) Try.func5 (by kernel_rfl)
    (of_decide_eq_true (by kernel_rfl)) (by unfold Func.isWrapper; first | (rw [if_pos (by decide +kernel)]; kernel_rfl) | (rw [if_neg (by decide +kernel)]; exact ⟨rfl, rfl⟩))
    (fun os started H enc _ => lifted os started H enc)
end Go.Proofs.Ytfmjefmocenkbaa.sessionOnce
namespace Go.Proofs.Ytfmjefmocenkbaa
theorem sessionOnce_holds : Rows.SessionOnceSaid := sessionOnce.proved
#print axioms sessionOnce_holds
end Go.Proofs.Ytfmjefmocenkbaa
