
/- Whenever a dirty page is let go or cleaned, the log is flushed up to its last change, or is told to be ahead of it. -/
import Derived.Test.YtlcdkgbjlkoahaaArgs
import Derived.Test.YtlcdkgbjlkoahaaPlLog
import Derived.Deep.DeepCutAuto
import Derived.Deep.RegionHeld3
import Derived.Deep.RegionWith
namespace Go.Proofs.Ytlcdkgbjlkoahaa.poolLog
open Go.ChangeShapes Go.WideShapes Go.ChangeAt Go.RowKit
open Go.ChangeMaps (open_string shut_string)
set_option linter.unusedVariables false

theorem own : ownKnob Try.prog.godebug = none := by kernel_rfl
theorem laidOut : laidOutB Try.prog = true := by kernel_rfl
theorem bytes8 : Try.prog.bytesOf 5 = 1 := by kernel_rfl

theorem three_cells {w : World} {b : Nat} {t : TypeId} {c0 c1 c2 : Value} (h : w.heap[b]? = some (.cells #[c0, c1, c2] t (0, 0))) :
    (w.cell? ⟨b, 0, none⟩ = some c0 ∧ w.cell? ⟨b, 1, none⟩ = some c1 ∧ w.cell? ⟨b, 2, none⟩ = some c2) ∧ ∀ j, w.frozen? ⟨b, j, none⟩ = false := by
  refine ⟨⟨?_, ?_, ?_⟩, fun j => ?_⟩
  all_goals simp [World.cell?, World.frozen?, h]
set_option maxRecDepth 100000 in
set_option maxHeartbeats 8000000 in
theorem walk (w : World) (k : Int) (wk : (Lit.int .i64 k).wf = true) (a0 : Option Addr) (len0 cap0 : Nat) (st : List Pst) (hl0 : len0 = st.length) (hr0 : Psts w a0 cap0 st) :
    Calls Try.prog 4 #[.int .i64 k, .slice a0 len0 cap0] w fun e w' => e = .returned (.bool true) ∧ Fr (fun _ => False) w w' := by
  clear wk
  by_cases hk : 1 ≤ k ∧ k ≤ 64
  · subst hl0
    have hle0 := hr0.le
    have hmx0 := hr0.max
    have HFIT : Hid (∀ (i : Nat) (s : Pst), st[i]? = some s → wfK s.pg ∧ wfK s.ls) := hr0.fit
    have HRS : Hid (∀ W, Fr (fun _ => False) w W → Psts W a0 cap0 st) := fun W f => hr0.same f
    clear hr0
    have hnw := pnew_yes w k hk
    obtain ⟨mb, hmb⟩ : ∃ mb, mb = w.heap.size := ⟨_, rfl⟩
    have HMB0 : Hid (mb = w.heap.size) := hmb
    rw [← hmb] at hnw
    obtain ⟨pb, hpb⟩ : ∃ pb, pb = mb + 1 := ⟨_, rfl⟩
    rw [← hpb] at hnw
    have HMB : Hid (w.heap.size ≤ mb ∧ w.heap.size ≤ pb) := ⟨by omega, by omega⟩
    have hpm : mb < pb := by omega
    clear hmb hpb
    go_enter Try.func4, Try.ntmps4
    go_wp2_with fail
    refine hnw.mono ?_
    clear hnw
    rintro e wa ⟨rfl, ha, fa⟩
    have hAra := Ar.new wa
    have xa := Fr.box wa (.cells Try.zeroCells41 41)
    obtain ⟨lb, hlb⟩ : ∃ lb, lb = wa.heap.size := ⟨_, rfl⟩
    have hpl : pb < lb := by rw [hlb]; exact lt_of_block ha.box
    have HLB : Hid (w.heap.size ≤ lb) := by show _ ≤ _; rw [hlb]; exact fa.size
    have hPa := ha.same xa
    have Fa := fa.seq' xa
    rw [← hlb] at hAra
    obtain ⟨W0, hW0⟩ : ∃ W, W = wa.alloc (.cells Try.zeroCells41 41) := ⟨_, rfl⟩
    have HW0 : Hid (wa.alloc (.cells Try.zeroCells41 41) = W0) := hW0.symm
    rw [← hW0] at hAra hPa Fa
    have hlmb : mb < lb := by omega
    clear hW0 ha fa xa
    go_wp2
    rw [HW0.out, ← hlb]
    clear hlb HW0
    go_loopw [35, 7] (fun i t wr => ∃ (q n : Nat) (us fl : Int) (M : Pmap) (f : Nat → Int), q ≤ st.length ∧ i = .int .i64 q ∧ t = .int .i64 fl ∧ Pl wr pb k mb n us fl M ∧ Ar wr lb f ∧ Hid (LogI M f) ∧ 0 ≤ fl ∧ (n : Int) ≤ k ∧ Fr (fun _ => False) w wr)
      (fun i _ _ => st.length - (intOf i).toNat)
    case atStart => exact ⟨0, 0, 0, 0, fun _ => none, fun _ => 0, by omega, rfl, rfl, hPa, hAra, logI_start, by omega, by omega, Fa⟩
    case round =>
      obtain ⟨q, n, us, fl, M, f, hq, rfl, rfl, hP, hAr, HI, h0, hnk, F⟩ := hrel
      clear hPa hAra Fa
      by_cases hlt : q < st.length
      · obtain ⟨ab, off, ea, hab, hcs⟩ := (HRS.out _ F).some (by omega)
        obtain ⟨s, hs⟩ : ∃ s, st[q]? = some s := ⟨st[q], List.getElem?_eq_getElem hlt⟩
        obtain ⟨q0, q1, q2⟩ := hcs q s hs
        obtain ⟨wpg, wln⟩ := HFIT.out q s hs
        obtain ⟨kd, pg, ln⟩ := s
        dsimp only at q0 q1 q2 wpg wln
        clear hs hcs
        subst ea
        have hkey : ∀ x g, M x = some g → 1 ≤ x ∧ x ≤ 4096 := fun x g hm => hP.map.key hm
        obtain ⟨W1, hW1⟩ : ∃ W, W = wr.alloc (.cells #[.int .i64 kd, .int .i64 pg, .int .i64 ln] 32) := ⟨_, rfl⟩
        have HW1 : Hid (wr.alloc (.cells #[.int .i64 kd, .int .i64 pg, .int .i64 ln] 32) = W1) := hW1.symm
        have fb : Fr (fun _ => False) wr W1 := by rw [hW1]; exact Fr.box wr _
        obtain ⟨sb, hsb⟩ : ∃ sb, sb = wr.heap.size := ⟨_, rfl⟩
        have hx1 : W1.heap[sb]? = some (.cells #[.int .i64 kd, .int .i64 pg, .int .i64 ln] 32 (0, 0)) := by rw [hW1, hsb]; exact heap_alloc_new wr _
        have hsl : lb < sb := by rw [hsb]; exact hAr.1
        have hP1 := hP.same fb
        have hAr1 := hAr.same fb
        have F1 := F.seq' fb
        have HX : Hid (True) := trivial
        clear hW1 hP hAr fb F
        go_upto_region 9 with fail
        rw [HW1.out, ← hsb]
        clear hsb HW1 q0 q1 q2
        obtain ⟨⟨s0, s1, s2⟩, z3⟩ := three_cells hx1
        by_cases h0k : kd = 0
        · subst h0k
          have hge := get_pl pb k mb n us fl M W1 pg wpg (by omega) hP1
          go_wp2_with fail
          refine hge.mono ?_
          clear hge
          rintro e w2 ⟨hit, wr2, out, need, er, M2, n2, us2, fl2, rfl, hgo, hP2, f2⟩
          have hdec := get_log hgo HI.out h0 hnk hk.1 hkey
          have f2S : ∀ i, i < W1.heap.size → plS pb mb i → (fun _ => False) i ∨ (i = pb ∨ i = mb) := fun i _ e => .inr e
          have hAr2 := hAr1.fr f2 (fun e => by rcases e with e | e <;> omega)
          have G2 : Fr (fun _ => False) w w2 := F1.trans f2 (fun i hi e => by have := HMB.out; rcases e with e | e <;> omega)
          have xb := Fr.box w2 (.cells #[.bool hit, .bool wr2, .int .i64 out, .int .i64 need] 43)
          have hP3 := hP2.same xb
          have hAr3 := hAr2.same xb
          have G3 := G2.seq' xb
          clear hgo f2 f2S hP2 hAr2 G2 xb hP1 hAr1 hx1 F1 HI z3
          rcases hdec with ⟨rfl, rfl, o, rfl, ho1, ho2, hle, h02, hfl, hI2, hnk2⟩ | ⟨hno, rfl, hI2, hnk2⟩
          · have HIZ : Hid (LogI M2 (upf f o 0)) := hI2
            obtain ⟨WZ, hWZ⟩ : ∃ W, W = w2.alloc (.cells #[.bool hit, .bool true, .int .i64 (o : Int), .int .i64 need] 43) := ⟨_, rfl⟩
            have HWZ : Hid (w2.alloc (.cells #[.bool hit, .bool true, .int .i64 (o : Int), .int .i64 need] 43) = WZ) := hWZ.symm
            rw [← hWZ] at hP3 hAr3 G3
            clear hWZ hI2
            have hPZ := hP3
            have hArZ := hAr3
            have FZ := G3
            clear hP3 hAr3 G3
            go_upto_region 31 with fail
            rw [HWZ.out]
            obtain ⟨⟨i0, i1, i2, i3⟩, ⟨d1, d2, d3, d4⟩, ho3⟩ := o_facts ho1 ho2
            have hoc := (hArZ.2 o ho3).1
            have hof := (hArZ.2 o ho3).2
            obtain ⟨hAr2, hP2, FF⟩ := out_tail (o := o) hArZ hPZ FZ HLB.out hpl hlmb 0
            have hnc := need_case hfl h0 hle
            have HFF : Hid (Fr (fun _ => False) w _) := FF
            clear hArZ hPZ FZ FF ho1 ho2 ho3 hfl hle h02 hkey
            rcases hnc with ⟨hnd, rfl, hfo, h0n⟩ | ⟨hnd, rfl, hfo⟩
            · go_wp2
              go_roundw
              case rel => exact ⟨q + 1, n2, us2, need, M2, upf f o 0, by omega, by go_num, rfl, hP2, hAr2, HIZ, h0n, hnk2, HFF.out⟩
              case measure => simp [intOf]; omega
            · go_wp2
              go_roundw
              case rel => exact ⟨q + 1, n2, us2, fl, M2, upf f o 0, by omega, by go_num, rfl, hP2, hAr2, HIZ, h0, hnk2, HFF.out⟩
              case measure => simp [intOf]; omega
          · have HIZ : Hid (LogI M2 f) := hI2
            clear hI2
            by_cases her : er = 0
            · subst her
              obtain rfl : wr2 = false := hno.elim (fun h => absurd rfl h) (fun h => h)
              clear hno
              go_wp2
              go_roundw
              case rel => exact ⟨q + 1, n2, us2, fl2, M2, f, by omega, by go_num, rfl, hP3, hAr3, HIZ, h0, hnk2, G3⟩
              case measure => simp [intOf]; omega
            · have heb : (er == 0) = false := by simpa using her
              clear her hno
              go_wp2
              go_roundw
              case rel => exact ⟨q + 1, n2, us2, fl2, M2, f, by omega, by go_num, rfl, hP3, hAr3, HIZ, h0, hnk2, G3⟩
              case measure => simp [intOf]; omega
        · by_cases h1k : kd = 1
          · subst h1k
            clear h0k
            have hge := get_pl pb k mb n us fl M W1 pg wpg (by omega) hP1
            go_wp2_with fail
            refine hge.mono ?_
            clear hge
            rintro e w2 ⟨hit, wr2, out, need, er, M2, n2, us2, fl2, rfl, hgo, hP2, f2⟩
            have hdec := get_log hgo HI.out h0 hnk hk.1 hkey
            have f2S : ∀ i, i < W1.heap.size → plS pb mb i → (fun _ => False) i ∨ (i = pb ∨ i = mb) := fun i _ e => .inr e
            have hAr2 := hAr1.fr f2 (fun e => by rcases e with e | e <;> omega)
            have G2 : Fr (fun _ => False) w w2 := F1.trans f2 (fun i hi e => by have := HMB.out; rcases e with e | e <;> omega)
            have xb := Fr.box w2 (.cells #[.bool hit, .bool wr2, .int .i64 out, .int .i64 need] 43)
            have hP3 := hP2.same xb
            have hAr3 := hAr2.same xb
            have G3 := G2.seq' xb
            clear hgo f2 f2S hP2 hAr2 G2 xb hP1 hAr1 hx1 F1 HI z3
            rcases hdec with ⟨rfl, rfl, o, rfl, ho1, ho2, hle, h02, hfl, hI2, hnk2⟩ | ⟨hno, rfl, hI2, hnk2⟩
            · have HIZ : Hid (LogI M2 (upf f o 0)) := hI2
              obtain ⟨WZ, hWZ⟩ : ∃ W, W = w2.alloc (.cells #[.bool hit, .bool true, .int .i64 (o : Int), .int .i64 need] 43) := ⟨_, rfl⟩
              have HWZ : Hid (w2.alloc (.cells #[.bool hit, .bool true, .int .i64 (o : Int), .int .i64 need] 43) = WZ) := hWZ.symm
              rw [← hWZ] at hP3 hAr3 G3
              clear hWZ hI2
              have hPZ := hP3
              have hArZ := hAr3
              have FZ := G3
              clear hP3 hAr3 G3
              go_upto_region 31 with fail
              rw [HWZ.out]
              obtain ⟨⟨i0, i1, i2, i3⟩, ⟨d1, d2, d3, d4⟩, ho3⟩ := o_facts ho1 ho2
              have hoc := (hArZ.2 o ho3).1
              have hof := (hArZ.2 o ho3).2
              obtain ⟨hAr2, hP2, FF⟩ := out_tail (o := o) hArZ hPZ FZ HLB.out hpl hlmb 0
              have hnc := need_case hfl h0 hle
              have HFF : Hid (Fr (fun _ => False) w _) := FF
              clear hArZ hPZ FZ FF ho1 ho2 ho3 hfl hle h02 hkey
              rcases hnc with ⟨hnd, rfl, hfo, h0n⟩ | ⟨hnd, rfl, hfo⟩
              · go_wp2
                go_roundw
                case rel => exact ⟨q + 1, n2, us2, need, M2, upf f o 0, by omega, by go_num, rfl, hP2, hAr2, HIZ, h0n, hnk2, HFF.out⟩
                case measure => simp [intOf]; omega
              · go_wp2
                go_roundw
                case rel => exact ⟨q + 1, n2, us2, fl, M2, upf f o 0, by omega, by go_num, rfl, hP2, hAr2, HIZ, h0, hnk2, HFF.out⟩
                case measure => simp [intOf]; omega
            · have HIZ : Hid (LogI M2 f) := hI2
              clear hI2
              by_cases her : er = 0
              · subst her
                obtain rfl : wr2 = false := hno.elim (fun h => absurd rfl h) (fun h => h)
                clear hno
                go_wp2
                go_roundw
                case rel => exact ⟨q + 1, n2, us2, fl2, M2, f, by omega, by go_num, rfl, hP3, hAr3, HIZ, h0, hnk2, G3⟩
                case measure => simp [intOf]; omega
              · have heb : (er == 0) = false := by simpa using her
                clear her hno
                go_wp2
                go_roundw
                case rel => exact ⟨q + 1, n2, us2, fl2, M2, f, by omega, by go_num, rfl, hP3, hAr3, HIZ, h0, hnk2, G3⟩
                case measure => simp [intOf]; omega
          · have e0 : (kd == 0) = false := by simpa using h0k
            have e1 : (kd == 1) = false := by simpa using h1k
            clear h0k h1k
            by_cases h2k : kd = 2
            · subst h2k
              clear e0 e1
              have hun := unpin_pl pb k mb n us fl M W1 pg wpg (by omega) hP1
              have HIZ : Hid (LogI (unM M pg) f) := unpin_log HI.out
              go_wp2_with fail
              refine hun.mono ?_
              clear hun
              rintro e w2 ⟨rfl, hP2, f2⟩
              have hAr2 := hAr1.fr f2 (by omega)
              have G2 : Fr (fun _ => False) w w2 := F1.trans f2 (fun i hi e => by have := HMB.out; omega)
              clear hP1 hAr1 hx1 F1 HI z3 f2
              go_wp2
              go_roundw
              case rel => exact ⟨q + 1, n, us, fl, unM M pg, f, by omega, by go_num, rfl, hP2, hAr2, HIZ, h0, hnk, G2⟩
              case measure => simp [intOf]; omega
            · have e2 : (kd == 2) = false := by simpa using h2k
              clear h2k
              by_cases h3k : kd = 3
              · subst h3k
                clear e0 e1 e2
                have hun := unpin_pl pb k mb n us fl M W1 pg wpg (by omega) hP1
                have HIZ : Hid (LogI (unM M pg) f) := unpin_log HI.out
                go_wp2_with fail
                refine hun.mono ?_
                clear hun
                rintro e w2 ⟨rfl, hP2, f2⟩
                have hAr2 := hAr1.fr f2 (by omega)
                have G2 : Fr (fun _ => False) w w2 := F1.trans f2 (fun i hi e => by have := HMB.out; omega)
                clear hP1 hAr1 hx1 F1 HI z3 f2
                go_wp2
                go_roundw
                case rel => exact ⟨q + 1, n, us, fl, unM M pg, f, by omega, by go_num, rfl, hP2, hAr2, HIZ, h0, hnk, G2⟩
                case measure => simp [intOf]; omega
              · have e3 : (kd == 3) = false := by simpa using h3k
                clear h3k
                by_cases h4k : kd = 4
                · subst h4k
                  clear e0 e1 e2 e3
                  have hdi := fun W hW => dirty_pl pb k mb n us fl M W pg ln wpg (by omega) hW
                  have hdec := dirty_log (x := pg) (l := ln) HI.out hkey
                  generalize diE M pg ln = er at hdi hdec
                  generalize diM M pg ln = M2 at hdi hdec
                  have g0 := (Fr.refl (fun _ => False) W1).drew
                  have hP1d := hP1.same g0
                  have hAr1d := hAr1.same g0
                  have F1d := F1.seq' g0
                  have hx1d := g0.keep hx1 (fun f => f)
                  have k0 := (three_cells hx1d).1
                  have HK2 : Hid (∀ w2, Fr (fun k => k = mb) W1.drew w2 → Ar w2 lb f ∧ Fr (fun _ => False) w w2 ∧ w2.heap[sb]? = some (.cells #[.int .i64 4, .int .i64 pg, .int .i64 ln] 32 (0, 0))) := fun w2 f2 => ⟨hAr1d.fr f2 (by omega), F1d.trans f2 (fun i hi e => by have := HMB.out; omega), f2.keep hx1d (by omega)⟩
                  rcases hdec with ⟨rfl, o, rfl, ho1, ho2, hI1, hI2⟩ | ⟨hno, hI1⟩
                  · have HIA : Hid (LogI M2 f) := hI1
                    have HIB : Hid (LogI M2 (upf f o ln)) := hI2
                    obtain ⟨⟨i0, i1, i2, i3⟩, ⟨d1, d2, d3, d4⟩, ho3⟩ := o_facts ho1 ho2
                    have HRD : Hid (∀ w2, Ar w2 lb f → w2.cell? ⟨lb, o, none⟩ = some (.int .i64 (f o))) := fun w2 h => (h.2 o ho3).1
                    have k0b := HRD.out _ hAr1d
                    clear hI1 hI2 HI
                    go_wp2_with fail
                    clear s0 s1 s2 z3
                    go_region_held3 (fun W => W.cell? ⟨sb, 1, none⟩ = some (.int .i64 (o : Int)) ∧ W.cell? ⟨sb, 2, none⟩ = some (.int .i64 ln) ∧ W.cell? ⟨lb, o, none⟩ = some (.int .i64 (f o)))
                      (first | with_reducible exact ⟨k0.2.1, k0.2.2, k0b⟩ | with_reducible exact ⟨k2.2.1, k2.2.2, k2b⟩)
                      ((go_at_call 20; refine (hdi _ hP1d).mono ?_; rintro e w2 ⟨rfl, hP2, f2⟩; obtain ⟨hAr2, G2, hx2⟩ := HK2.out _ f2; have k2 := (three_cells hx2).1; have k2b := HRD.out _ hAr2))
                    all_goals
                      clear k0 k0b k2b HRD HK2 hP1 hP1d hAr1 hAr1d F1 F1d hx1 hx1d
                      obtain ⟨s0, s1, s2⟩ := k2
                      by_cases hlt : f o < ln
                      · have hoc := (hAr2.2 o ho3).1
                        have hof := (hAr2.2 o ho3).2
                        obtain ⟨hAr3, hP3, G3⟩ := out_tail (o := o) hAr2 hP2 G2 HLB.out hpl hlmb ln
                        clear hP2 hAr2 G2
                        go_wp2
                        go_roundw
                        case rel => exact ⟨q + 1, n, us, fl, M2, upf f o ln, by omega, by go_num, rfl, hP3, hAr3, HIB, h0, hnk, G3⟩
                        case measure => simp [intOf]; omega
                      · go_wp2
                        go_roundw
                        case rel => exact ⟨q + 1, n, us, fl, M2, f, by omega, by go_num, rfl, hP2, hAr2, HIA, h0, hnk, G2⟩
                        case measure => simp [intOf]; omega
                  · have HIA : Hid (LogI M2 f) := hI1
                    clear hI1 HI
                    have heb : (er == 0) = false := by rw [beq_eq_false_iff_ne]; rcases hno with rfl | rfl | rfl <;> decide
                    clear hno
                    go_wp2_with fail
                    clear s0 s1 s2 z3
                    obtain ⟨k00, k01, k02⟩ := k0
                    first
                      | go_region_with (first | (go_at_call 20; refine (hdi _ hP1d).mono ?_; rintro e w2 ⟨rfl, hP2, f2⟩; obtain ⟨hAr2, G2, hx2⟩ := HK2.out _ f2; obtain ⟨⟨k20, k21, k22⟩, _⟩ := three_cells hx2))
                      | fail
                    all_goals
                      go_wp2
                      go_roundw
                      case rel => exact ⟨q + 1, n, us, fl, M2, f, by omega, by go_num, rfl, hP2, hAr2, HIA, h0, hnk, G2⟩
                      case measure => simp [intOf]; omega
                · have e4 : (kd == 4) = false := by simpa using h4k
                  clear h4k
                  by_cases h5k : kd = 5
                  · subst h5k
                    clear e0 e1 e2 e3 e4
                    have hcl := clean_pl pb k mb n us fl M W1 pg wpg (by omega) hP1
                    have hdec := clean_log (x := pg) (fl := fl) HI.out h0 hkey
                    generalize clN M pg fl = need at hcl hdec
                    generalize clE M pg = er at hcl hdec
                    generalize clF M pg fl = fl2 at hcl hdec
                    generalize clM M pg = M2 at hcl hdec
                    go_wp2_with fail
                    refine hcl.mono ?_
                    clear hcl
                    rintro e w2 ⟨rfl, hP2, f2⟩
                    have hAr2 := hAr1.fr f2 (fun e => by rcases e with e | e <;> omega)
                    have G2 : Fr (fun _ => False) w w2 := F1.trans f2 (fun i hi e => by have := HMB.out; rcases e with e | e <;> omega)
                    have hx2 := f2.keep hx1 (fun e => by rcases e with e | e <;> omega)
                    clear hP1 hAr1 hx1 F1 HI z3 f2 s0 s1 s2
                    obtain ⟨⟨s0, s1, s2⟩, z3⟩ := three_cells hx2
                    rcases hdec with ⟨rfl, o, rfl, ho1, ho2, hle, h02, hfl, hI2⟩ | ⟨hno, rfl, hI2⟩
                    · have HIZ : Hid (LogI M2 (upf f o 0)) := hI2
                      have hPZ := hP2
                      have hArZ := hAr2
                      have FZ := G2
                      have hnk2 := hnk
                      clear hP2 hAr2 G2 hI2 z3 hx2
                      go_upto_region 31 with fail
                      clear s0 s1 s2
                      obtain ⟨⟨i0, i1, i2, i3⟩, ⟨d1, d2, d3, d4⟩, ho3⟩ := o_facts ho1 ho2
                      have hoc := (hArZ.2 o ho3).1
                      have hof := (hArZ.2 o ho3).2
                      obtain ⟨hAr2, hP2, FF⟩ := out_tail (o := o) hArZ hPZ FZ HLB.out hpl hlmb 0
                      have hnc := need_case hfl h0 hle
                      have HFF : Hid (Fr (fun _ => False) w _) := FF
                      clear hArZ hPZ FZ FF ho1 ho2 ho3 hfl hle h02 hkey
                      rcases hnc with ⟨hnd, rfl, hfo, h0n⟩ | ⟨hnd, rfl, hfo⟩
                      · go_wp2
                        go_roundw
                        case rel => exact ⟨q + 1, n, us, need, M2, upf f o 0, by omega, by go_num, rfl, hP2, hAr2, HIZ, h0n, hnk2, HFF.out⟩
                        case measure => simp [intOf]; omega
                      · go_wp2
                        go_roundw
                        case rel => exact ⟨q + 1, n, us, fl, M2, upf f o 0, by omega, by go_num, rfl, hP2, hAr2, HIZ, h0, hnk2, HFF.out⟩
                        case measure => simp [intOf]; omega
                    · have HIZ : Hid (LogI M2 f) := hI2
                      have heb : (er == 0) = false := by simpa using hno
                      clear hI2 hno z3 hx2
                      go_wp2
                      go_roundw
                      case rel => exact ⟨q + 1, n, us, fl2, M2, f, by omega, by go_num, rfl, hP2, hAr2, HIZ, h0, hnk, G2⟩
                      case measure => simp [intOf]; omega
                  · have e5 : (kd == 5) = false := by simpa using h5k
                    clear h5k
                    have hfd := flushed_pl pb k mb n us fl M W1 ln hP1
                    have HIZ : Hid (LogI M f) := HI
                    have hx := HX.out
                    by_cases hl : 0 ≤ ln ∧ ln ≤ 1099511627776
                    · have e1 : fdE ln = 0 := if_pos hl
                      have e2 : fdF fl ln = flF fl ln := if_pos hl
                      rw [e1, e2] at hfd
                      clear e1 e2
                      go_wp2_with fail
                      refine hfd.mono ?_
                      clear hfd
                      rintro e w2 ⟨rfl, hP2, f2⟩
                      have hAr2 := hAr1.fr f2 (fun e => by rcases e with e | e <;> omega)
                      have G2 : Fr (fun _ => False) w w2 := F1.trans f2 (fun i hi e => by have := HMB.out; rcases e with e | e <;> omega)
                      have hx2 := f2.keep hx1 (fun e => by rcases e with e | e <;> omega)
                      clear hP1 hAr1 hx1 F1 HI z3 f2 s0 s1 s2
                      obtain ⟨⟨s0, s1, s2⟩, z3⟩ := three_cells hx2
                      by_cases hlt : fl < ln
                      · have e3 : flF fl ln = ln := if_neg (by omega)
                        rw [e3] at hP2
                        have h0n : 0 ≤ ln := hl.1
                        have hln : ¬ ln < 0 := by omega
                        clear e3 hl hx2 z3
                        go_wp2
                        go_roundw
                        case rel => exact ⟨q + 1, n, us, ln, M, f, by omega, by go_num, rfl, hP2, hAr2, HIZ, h0n, hnk, G2⟩
                        case measure => simp [intOf]; omega
                      · have e3 : flF fl ln = fl := if_pos (by omega)
                        rw [e3] at hP2
                        clear e3 hl hx2 z3
                        go_wp2
                        go_roundw
                        case rel => exact ⟨q + 1, n, us, fl, M, f, by omega, by go_num, rfl, hP2, hAr2, HIZ, h0, hnk, G2⟩
                        case measure => simp [intOf]; omega
                    · have e1 : fdE ln = 1 := if_neg hl
                      have e2 : fdF fl ln = fl := if_neg hl
                      rw [e1, e2] at hfd
                      clear e1 e2 hl
                      go_wp2_with fail
                      refine hfd.mono ?_
                      clear hfd
                      rintro e w2 ⟨rfl, hP2, f2⟩
                      have hAr2 := hAr1.fr f2 (fun e => by rcases e with e | e <;> omega)
                      have G2 : Fr (fun _ => False) w w2 := F1.trans f2 (fun i hi e => by have := HMB.out; rcases e with e | e <;> omega)
                      clear hP1 hAr1 hx1 F1 HI z3 f2 s0 s1 s2
                      go_wp2
                      go_roundw
                      case rel => exact ⟨q + 1, n, us, fl, M, f, by omega, by go_num, rfl, hP2, hAr2, HIZ, h0, hnk, G2⟩
                      case measure => simp [intOf]; omega
      · go_wp2_with fail
        refine (pspeaks_any _).mono ?_
        rintro e w9 ⟨rfl, f9⟩
        go_wp2
        go_ret
        exact ⟨rfl, F.seq' f9⟩
  · have hnw := pnew_no w k hk
    clear hk hr0 hl0
    go_enter Try.func4, Try.ntmps4
    go_wp2_with (go_at_call 7; refine hnw.mono ?_; rintro e w' ⟨rfl, rfl⟩)
    refine (pspeaks_any _).mono ?_
    rintro e w9 ⟨rfl, f9⟩
    go_wp2
    go_ret
    exact ⟨rfl, f9⟩

set_option maxRecDepth 100000 in
theorem lifted (os : Os) (started : os.Started) (H : Type) (enc : TypeId × Value → H) :
    ReturnsInHanded {} Try.checked os 4 .any (Rows.poolLogSpec.pre6 enc Try.prog Try.f4 Rows.poolLogRow.domain false) (Rows.poolLogSpec.post enc Try.prog Try.f4 false true false false) := by
  refine returnsInHanded_of_change_sized (C := Try.checked) own started (by kernel_rfl) Try.func4
    (ChangeSpec.witness6 (enc := enc) (C := Try.checked) false ⟨#[], #[.int .i64 0, .slice none 0 0], []⟩ 8 (by kernel_rfl) (by kernel_rfl) (by kernel_rfl) (by kernel_rfl)) ?_
  intro W base args ds gs before hval0 hW hcnd hsz0 _
  have hsz : (DataW.weightsEach Try.prog (Try.f4.params.toList ++ Rows.poolLogSpec.plain.varTypes Try.prog) (ds ++ gs)).all (· ≤ reachBytes) = true := hsz0
  clear hsz0
  have hval : ∀ (j : Nat) t v, Try.f4.params[j]? = some t → args[j]? = some v → Value.okWide Try.prog W .any base t v := hval0
  have hW' := hW
  obtain ⟨p, q, hA0, hV, rfl, hfz, hnd⟩ := hW
  have hA : DataW.TrodAll enc Try.prog W 0 (fun _ => true) true Try.f4.params.toList args.toList ds p := hA0
  rw [Try.params4] at hA hval hsz
  obtain ⟨v0, vs0, d0, ds0, p0, q0, hargs, rfl, rfl, h0, r0⟩ := trodAll_cons hA
  obtain ⟨v1, vs1, d1, ds1, p1, q1, rfl, rfl, rfl, h1, r1⟩ := trodAll_cons r0
  obtain ⟨rfl, rfl, rfl⟩ := trodAll_nil r1
  obtain rfl : args = #[v0, v1] := by cases args; simp_all
  obtain ⟨rfl, rfl⟩ := trodVars_none hV
  obtain ⟨a1, len1, cap1, rfl⟩ := okWide_slice Try.underlying22 (hval 1 22 v1 rfl rfl)
  have k1 := h1
  have lt1 : ∀ x ∈ p1, x.block < W.heap.size := by obtain ⟨m, hm⟩ := k1; exact DataW.trod_lt m _ _ _ hm
  obtain ⟨ls1, hl1, hr1⟩ : ∃ ls : List Pst, len1 = ls.length ∧ Psts W a1 cap1 ls := by
    obtain ⟨fuel, hf⟩ := h1
    obtain ⟨ls, e1, e2, e3⟩ := psts_open hf
    exact ⟨ls, e1, e2⟩
  obtain ⟨a0, rfl, rfl, rfl, w0⟩ := open_int Try.underlying3 (hval 0 3 v0 rfl rfl) h0
  clear hA0 hval0
  refine (walk W a0 w0 a1 len1 cap1 ls1 hl1 hr1).mono fun e W' ⟨he, fr⟩ => ?_
  have bel : Below W.heap.size W W' := fr.below (Nat.le_refl _) (fun _ f => f.elim)
  subst he
  exact ⟨_, rfl, _, _, _, [], _, [], hW', trodAll_mk1 (shut_bool Try.underlying4 _), (trodAll_cons_mk (shut_int Try.underlying3 w0) (trodAll_cons_mk (Below.trod laidOut (by kernel_rfl) (of_decide_eq_true (by kernel_rfl)) k1 bel lt1) trodAll_mk0)), rfl, bel.frame _, fun h => by cases h⟩

theorem proved : Rows.PoolLogSaid :=
  OpenClaim.holds_of_wide 4 Try.f4 rfl rfl rfl rfl rfl rfl rfl ⟨rfl, rfl, rfl, rfl, rfl⟩ rfl rfl rfl rfl rfl (by kernel_rfl) Try.func4 (by kernel_rfl)
    (of_decide_eq_true (by kernel_rfl)) (by unfold Func.isWrapper; first | (rw [if_pos (by decide +kernel)]; kernel_rfl) | (rw [if_neg (by decide +kernel)]; exact ⟨rfl, rfl⟩))
    (fun os started H enc _ => lifted os started H enc)
end Go.Proofs.Ytlcdkgbjlkoahaa.poolLog
namespace Go.Proofs.Ytlcdkgbjlkoahaa
theorem poolLog_holds : Rows.PoolLogSaid := poolLog.proved
#print axioms poolLog_holds
end Go.Proofs.Ytlcdkgbjlkoahaa
