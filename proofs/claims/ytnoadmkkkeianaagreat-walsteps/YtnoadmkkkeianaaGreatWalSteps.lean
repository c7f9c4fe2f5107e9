
/- Every log, step by step, is the one that the document says: LSNs, epochs, what is cut, what is flushed, its bytes. -/
import Derived.Test.YtnoadmkkkeianaaGreatYB4
import Derived.Test.YtnoadmkkkeianaaGreatYW4
import Derived.Test.YtnoadmkkkeianaaGreatWrStep
import Derived.Test.YtnoadmkkkeianaaGreatWgArg
import Derived.Deep.DeepCutAuto
import Derived.Deep.RegionWith
namespace Go.Proofs.YtnoadmkkkeianaaGreat.walSteps
open Go.ChangeShapes Go.WideShapes Go.ChangeAt Go.RowKit
open Go.ChangeMaps (open_string shut_string)
set_option linter.unusedVariables false

theorem own : ownKnob Tryz.prog.godebug = none := by kernel_rfl
theorem laidOut : laidOutB Tryz.prog = true := by kernel_rfl
theorem bytes8 : Tryz.prog.bytesOf 5 = 1 := by kernel_rfl

open Go.Proofs.YtnoadmkkkeianaaGreat.Crcm

set_option maxRecDepth 100000 in
set_option maxHeartbeats 8000000 in
theorem walk (w : World) (a0 : Option Addr) (len0 cap0 : Nat) (st : List Stp) (hl0 : len0 = st.length) (hr0 : Stps w a0 cap0 st) :
    Calls Tryz.prog 3 #[.slice a0 len0 cap0] w fun e w' => e = .returned (.bool true) ∧ Fr (fun _ => False) w w' := by
  subst hl0
  have hle := hr0.le
  have hmx := hr0.max
  have HFIT : Hid (∀ (i : Nat) (s : Stp), st[i]? = some s → nfit s.n) := hr0.fit
  have HRS : Hid (∀ W, Fr (fun _ => False) w W → Stps W a0 cap0 st) := fun W f => hr0.same f
  clear hr0
  obtain ⟨lb, hlbd⟩ : ∃ lb, lb = w.heap.size := ⟨_, rfl⟩
  have hlw : w.heap.size ≤ lb := by omega
  have HLW : Hid (w.heap.size ≤ lb) := hlw
  have hnw := wnew_any w
  rw [← hlbd] at hnw
  clear hlbd hlw
  go_enter Tryz.func3, Tryz.ntmps3
  go_wp2_with fail
  refine hnw.mono ?_
  clear hnw
  rintro e w1 ⟨rfl, lg1, f1, hzw⟩
  have fb := Fr.box w1 (.cells #[.slice none 0 0, .int .i64 0] 28)
  have lgA := lg1.same fb
  have FA := f1.seq' fb
  have hlt1 := lt_of_block lg1.box
  obtain ⟨rb, hrb⟩ : ∃ rb, rb = w1.heap.size := ⟨_, rfl⟩
  have rgA : Rlg (w1.alloc (.cells #[.slice none 0 0, .int .i64 0] 28)) rb (.slice none 0 0) [] 0 := by rw [hrb]; exact ⟨heap_alloc_new w1 _, Has.nil _ _, fun g e => by cases e⟩
  have SA : Sep lb rb (.slice none 0 0) (.slice none 0 0) := ⟨by omega, (fun g e => by cases e), (fun g e => by cases e), (fun g e => by cases e)⟩
  have HRW : Hid (w.heap.size ≤ rb) := by show _ ≤ _; rw [hrb]; exact f1.size
  obtain ⟨W0, hW0⟩ : ∃ W, W = w1.alloc (.cells #[.slice none 0 0, .int .i64 0] 28) := ⟨_, rfl⟩
  have HW0 : Hid (w1.alloc (.cells #[.slice none 0 0, .int .i64 0] 28) = W0) := hW0.symm
  rw [← hW0] at rgA lgA FA
  clear hW0 lg1 f1 hzw fb hlt1
  go_wp2
  rw [HW0.out, ← hrb]
  clear hrb HW0
  go_loopw [18] (fun i wr => ∃ (k : Nat) (ls : List Rec) (fl : Int) (rv rx : Value), k ≤ st.length ∧ i = .int .i64 k ∧ Lg wr lb rv ls fl ∧ Rlg wr rb rx ls fl ∧ Sep lb rb rv rx ∧ Hid (Wl ls) ∧ Fr (fun _ => False) w wr)
    (fun i _ => st.length - (intOf i).toNat)
  case atStart => exact ⟨0, [], 0, .slice none 0 0, .slice none 0 0, by omega, rfl, lgA, rgA, SA, wl_nil, FA⟩
  case round =>
    obtain ⟨k, ls, fl, rv, rx, hk, rfl, lg, rg, sp, WL, F⟩ := hrel
    clear lgA rgA SA FA
    have hlw := HLW.out
    have hrw := HRW.out
    by_cases hlt : k < st.length
    · obtain ⟨ab, off, ea, hab, hcs⟩ := (HRS.out _ F).some (by omega)
      obtain ⟨s, hs⟩ : ∃ s, st[k]? = some s := ⟨st[k], List.getElem?_eq_getElem hlt⟩
      obtain ⟨q0, q1, q2, q3, q4, q5, q6, q7, q8, q9⟩ := st_range (hcs k s hs)
      have hnf0 := HFIT.out k s hs
      obtain ⟨kd, n, r⟩ := s
      dsimp only at q0 q1 q2 q3 q4 q5 q6 q7 q8 q9 hnf0
      have HNF : Hid (nfit n) := hnf0
      have hnf : -9223372036854775808 ≤ n ∧ n ≤ 9223372036854775807 := hnf0
      clear hs hcs hnf0
      subst ea
      obtain ⟨W1, hW1⟩ : ∃ W, W = wr.alloc (.cells #[.int .i64 kd, .int .i64 n, .int .i64 r.lsn, .int .i64 r.ep, .int .i64 r.kind, .int .i64 r.page, .int .i64 r.other, .int .i64 r.req, .string r.key, .string r.val] 32) := ⟨_, rfl⟩
      have HW1 : Hid (wr.alloc (.cells #[.int .i64 kd, .int .i64 n, .int .i64 r.lsn, .int .i64 r.ep, .int .i64 r.kind, .int .i64 r.page, .int .i64 r.other, .int .i64 r.req, .string r.key, .string r.val] 32) = W1) := hW1.symm
      have fb : Fr (fun _ => False) wr W1 := by rw [hW1]; exact Fr.box wr _
      obtain ⟨sb, hsb⟩ : ∃ sb, sb = wr.heap.size := ⟨_, rfl⟩
      have hx1 : W1.heap[sb]? = some (.cells #[.int .i64 kd, .int .i64 n, .int .i64 r.lsn, .int .i64 r.ep, .int .i64 r.kind, .int .i64 r.page, .int .i64 r.other, .int .i64 r.req, .string r.key, .string r.val] 32 (0, 0)) := by rw [hW1, hsb]; exact heap_alloc_new wr _
      have of1 : Off sb lb rb rv rx := ⟨by have := lt_of_block lg.box; omega, by have := lt_of_block rg.box; omega, fun g e => by have := lg.has.lt e; omega, fun g e => by have := rg.has.lt e; omega⟩
      have lg1 := lg.same fb
      have rg1 := rg.same fb
      have F1 := F.seq' fb
      clear hW1 lg rg fb F
      go_upto_region 8 with fail
      rw [HW1.out, ← hsb]
      clear hsb HW1 q0 q1 q2 q3 q4 q5 q6 q7 q8 q9
      by_cases h0 : kd = 0
      · subst h0
        have hap := app1 r lb rv ls fl _ lg1 WL.out
        have hrp := fun W hW => app2 r rb rx ls fl W hW WL.out
        have WL2 : Hid (Wl (apL ls r)) := wl_ap WL.out r
        obtain ⟨⟨d0, d1, d2, d3, d4, d5, d6, d7, d8, d9⟩, z⟩ := st_cells hx1
        go_wp2_with fail
        refine hap.mono ?_
        clear hap
        rintro e w2 ⟨rfl, rv2, lg2, f2, o2⟩
        have G2 := fr_lg F1 lg1 hlw f2
        obtain ⟨rg2, s2, of2, hx2⟩ := two1 rg1 sp of1 hx1 f2 o2
        clear d0 d1 d2 d3 d4 d5 d6 d7 d8 d9 z hx1 f2 o2 lg1 rg1 of1 F1
        obtain ⟨⟨d0, d1, d2, d3, d4, d5, d6, d7, d8, d9⟩, z⟩ := st_cells hx2
        go_wp2_with fail
        refine (hrp _ rg2).mono ?_
        clear hrp
        rintro e w3 ⟨rfl, rx3, rgZ, f3, o3⟩
        have FZ := fr_rlg G2 rg2 hrw f3
        obtain ⟨lgZ, sZ, ofZ, xZ⟩ := two2 lg2 s2 of2 hx2 f3 o3
        clear d0 d1 d2 d3 d4 d5 d6 d7 d8 d9 z hx2 f3 o3 lg2 rg2 of2 G2 s2

        obtain ⟨⟨d0, d1, d2, d3, d4, d5, d6, d7, d8, d9⟩, z⟩ := st_cells xZ
        have hsm := lsame_any n hnf lb rb rv2 rx3 (apL ls r) fl _ lgZ rgZ WL2.out
        go_wp2_with fail
        refine hsm.mono ?_
        clear hsm
        rintro e w9 ⟨rfl, f9⟩
        have lg9 := lgZ.same f9
        have rg9 := rgZ.same f9
        have F9 := FZ.seq' f9
        clear d0 d1 d2 d3 d4 d5 d6 d7 d8 d9 z xZ lgZ rgZ FZ
        go_wp2
        go_roundw
        case rel => exact ⟨k + 1, (apL ls r), fl, rv2, rx3, by omega, by go_num, lg9, rg9, sZ, WL2, F9⟩
        case measure => simp [intOf]; omega
      · by_cases h1 : kd = 1
        · subst h1
          clear h0
          have hap := app1 r lb rv ls fl _ lg1 WL.out
          have hrp := fun W hW => app2 r rb rx ls fl W hW WL.out
          have WL2 : Hid (Wl (apL ls r)) := wl_ap WL.out r
          obtain ⟨⟨d0, d1, d2, d3, d4, d5, d6, d7, d8, d9⟩, z⟩ := st_cells hx1
          go_wp2_with fail
          refine hap.mono ?_
          clear hap
          rintro e w2 ⟨rfl, rv2, lg2, f2, o2⟩
          have G2 := fr_lg F1 lg1 hlw f2
          obtain ⟨rg2, s2, of2, hx2⟩ := two1 rg1 sp of1 hx1 f2 o2
          clear d0 d1 d2 d3 d4 d5 d6 d7 d8 d9 z hx1 f2 o2 lg1 rg1 of1 F1
          obtain ⟨⟨d0, d1, d2, d3, d4, d5, d6, d7, d8, d9⟩, z⟩ := st_cells hx2
          go_wp2_with fail
          refine (hrp _ rg2).mono ?_
          clear hrp
          rintro e w3 ⟨rfl, rx3, rgZ, f3, o3⟩
          have FZ := fr_rlg G2 rg2 hrw f3
          obtain ⟨lgZ, sZ, ofZ, xZ⟩ := two2 lg2 s2 of2 hx2 f3 o3
          clear d0 d1 d2 d3 d4 d5 d6 d7 d8 d9 z hx2 f3 o3 lg2 rg2 of2 G2 s2

          obtain ⟨⟨d0, d1, d2, d3, d4, d5, d6, d7, d8, d9⟩, z⟩ := st_cells xZ
          have hsm := lsame_any n hnf lb rb rv2 rx3 (apL ls r) fl _ lgZ rgZ WL2.out
          go_wp2_with fail
          refine hsm.mono ?_
          clear hsm
          rintro e w9 ⟨rfl, f9⟩
          have lg9 := lgZ.same f9
          have rg9 := rgZ.same f9
          have F9 := FZ.seq' f9
          clear d0 d1 d2 d3 d4 d5 d6 d7 d8 d9 z xZ lgZ rgZ FZ
          go_wp2
          go_roundw
          case rel => exact ⟨k + 1, (apL ls r), fl, rv2, rx3, by omega, by go_num, lg9, rg9, sZ, WL2, F9⟩
          case measure => simp [intOf]; omega
        · have e0 : (kd == 0) = false := by simpa using h0
          have e1 : (kd == 1) = false := by simpa using h1
          clear h0 h1
          by_cases h2 : kd = 2
          · subst h2
            clear e0 e1
            have WL2 : Hid (Wl (cuL ls n)) := wl_cu WL.out n (fun m => wl_take WL.out m)
            have C1 := cut1 n lb rv ls fl
            have C2 := cut2 n rb rx ls fl
            have g0 := (Fr.refl (fun _ => False) W1).drew
            have lg1d := lg1.same g0
            have rg1d := rg1.same g0
            have F1d := F1.seq' g0
            have hx1d := hx1
            rw [← g0.block sb (lt_of_block hx1) (fun f => f)] at hx1d
            have k0 := (st_cells hx1d).1.2.1
            obtain ⟨⟨d0, d1, d2, d3, d4, d5, d6, d7, d8, d9⟩, z⟩ := st_cells hx1
            go_wp2_with fail
            clear d0 d1 d2 d3 d4 d5 d6 d7 d8 d9 z
            go_region_held3 (fun W => W.cell? ⟨sb, 1, none⟩ = some (.int .i64 n))
              (first | with_reducible exact k0 | with_reducible exact k2 | with_reducible exact k3)
              ((first
                | (go_at_call 8; refine (C1 _ lg1d WL.out).mono ?_; rintro e w2 ⟨rfl, rv2, lg2, f2, o2⟩; have G2 := fr_lg F1d lg1d hlw f2; obtain ⟨rg2, s2, of2, hx2⟩ := two1 rg1d sp of1 hx1d f2 o2; have k2 := (st_cells hx2).1.2.1)
                | (go_at_call 9; refine (C2 _ rg2 WL.out).mono ?_; rintro e w3 ⟨rfl, rx3, rgZ, f3, o3⟩; have FZ := fr_rlg G2 rg2 hrw f3; obtain ⟨lgZ, sZ, ofZ, xZ⟩ := two2 lg2 s2 of2 hx2 f3 o3; have k3 := (st_cells xZ).1.2.1)))
            clear k0 k2 k3 hx1 hx1d hx2 lg1 lg1d rg1 rg1d F1 F1d lg2 rg2 G2 of1 of2 s2 g0 f2 f3 o2 o3

            obtain ⟨⟨d0, d1, d2, d3, d4, d5, d6, d7, d8, d9⟩, z⟩ := st_cells xZ
            have hsm := lsame_any n hnf lb rb rv2 rx3 (cuL ls n) (cuF ls fl n) _ lgZ rgZ WL2.out
            go_wp2_with fail
            refine hsm.mono ?_
            clear hsm
            rintro e w9 ⟨rfl, f9⟩
            have lg9 := lgZ.same f9
            have rg9 := rgZ.same f9
            have F9 := FZ.seq' f9
            clear d0 d1 d2 d3 d4 d5 d6 d7 d8 d9 z xZ lgZ rgZ FZ
            go_wp2
            go_roundw
            case rel => exact ⟨k + 1, (cuL ls n), (cuF ls fl n), rv2, rx3, by omega, by go_num, lg9, rg9, sZ, WL2, F9⟩
            case measure => simp [intOf]; omega
          · have e2 : (kd == 2) = false := by simpa using h2
            clear h2
            by_cases h3 : kd = 3
            · subst h3
              clear e0 e1 e2
              have _hh := trivial
              have C1 := flu1 n lb rv ls fl
              have C2 := flu2 n rb rx ls fl
              have g0 := (Fr.refl (fun _ => False) W1).drew
              have lg1d := lg1.same g0
              have rg1d := rg1.same g0
              have F1d := F1.seq' g0
              have hx1d := hx1
              rw [← g0.block sb (lt_of_block hx1) (fun f => f)] at hx1d
              have k0 := (st_cells hx1d).1.2.1
              obtain ⟨⟨d0, d1, d2, d3, d4, d5, d6, d7, d8, d9⟩, z⟩ := st_cells hx1
              go_wp2_with fail
              clear d0 d1 d2 d3 d4 d5 d6 d7 d8 d9 z
              go_region_held3 (fun W => W.cell? ⟨sb, 1, none⟩ = some (.int .i64 n))
                (first | with_reducible exact k0 | with_reducible exact k2 | with_reducible exact k3)
                ((first
                  | (go_at_call 10; refine (C1 _ lg1d WL.out).mono ?_; rintro e w2 ⟨rfl, rv2, lg2, f2, o2⟩; have G2 := fr_lg F1d lg1d hlw f2; obtain ⟨rg2, s2, of2, hx2⟩ := two1 rg1d sp of1 hx1d f2 o2; have k2 := (st_cells hx2).1.2.1)
                  | (go_at_call 11; refine (C2 _ rg2).mono ?_; rintro e w3 ⟨rfl, rx3, rgZ, f3, o3⟩; have FZ := fr_rlg G2 rg2 hrw f3; obtain ⟨lgZ, sZ, ofZ, xZ⟩ := two2 lg2 s2 of2 hx2 f3 o3; have k3 := (st_cells xZ).1.2.1)))
              clear k0 k2 k3 hx1 hx1d hx2 lg1 lg1d rg1 rg1d F1 F1d lg2 rg2 G2 of1 of2 s2 g0 f2 f3 o2 o3

              obtain ⟨⟨d0, d1, d2, d3, d4, d5, d6, d7, d8, d9⟩, z⟩ := st_cells xZ
              have hsm := lsame_any n hnf lb rb rv2 rx3 ls (fuF ls fl n) _ lgZ rgZ WL.out
              go_wp2_with fail
              refine hsm.mono ?_
              clear hsm
              rintro e w9 ⟨rfl, f9⟩
              have lg9 := lgZ.same f9
              have rg9 := rgZ.same f9
              have F9 := FZ.seq' f9
              clear d0 d1 d2 d3 d4 d5 d6 d7 d8 d9 z xZ lgZ rgZ FZ
              go_wp2
              go_roundw
              case rel => exact ⟨k + 1, ls, (fuF ls fl n), rv2, rx3, by omega, by go_num, lg9, rg9, sZ, WL, F9⟩
              case measure => simp [intOf]; omega
            · have e3 : (kd == 3) = false := by simpa using h3
              clear h3
              have lgZ := lg1
              have rgZ := rg1
              have FZ := F1
              have sZ := sp
              have xZ := hx1
              clear lg1 rg1 F1 hx1

              obtain ⟨⟨d0, d1, d2, d3, d4, d5, d6, d7, d8, d9⟩, z⟩ := st_cells xZ
              have hsm := lsame_any n hnf lb rb rv rx ls fl _ lgZ rgZ WL.out
              go_wp2_with fail
              refine hsm.mono ?_
              clear hsm
              rintro e w9 ⟨rfl, f9⟩
              have lg9 := lgZ.same f9
              have rg9 := rgZ.same f9
              have F9 := FZ.seq' f9
              clear d0 d1 d2 d3 d4 d5 d6 d7 d8 d9 z xZ lgZ rgZ FZ
              go_wp2
              go_roundw
              case rel => exact ⟨k + 1, ls, fl, rv, rx, by omega, by go_num, lg9, rg9, sZ, WL, F9⟩
              case measure => simp [intOf]; omega
    · have hby := bytes_lg lb rv ls fl
      have hrb := rbytes_lg rb rx ls fl
      have HO : Hid (octs (lfr ls)) := lfr_octs _
      have hfl := lfr_wl WL.out ls.length
      rw [List.take_length] at hfl
      obtain ⟨L, hLd⟩ : ∃ L, L = lfr ls := ⟨_, rfl⟩
      rw [← hLd] at hby hrb HO hfl
      clear hLd
      have g0 := (Fr.refl (fun _ => False) wr).drew
      have HLg : Hid (∀ W, Fr (fun _ => False) wr W → Lg W lb rv ls fl) := fun W f => lg.same f
      have HRg : Hid (∀ W, Fr (fun _ => False) wr W → Rlg W rb rx ls fl) := fun W f => rg.same f
      clear lg rg
      go_wp2_with fail
      go_region_with (first
        | (go_at_call 13; refine (hby _ (HLg.out _ g0) WL.out).mono ?_; rintro e w5 ⟨v5, rfl, m5⟩; obtain ⟨a5, c5, rfl, r5⟩ := m5.own.row HO.out (by omega); have f5 := m5.fr; have g5 := g0.seq' f5; have f55 := Fr.refl (fun _ => False) w5; have cv5 := fun (W : World) (h : Fr (fun _ => False) w5 W) => run_str (P := Tryz.prog) (src := 41) (dst := 9) Tryz.underlying41 Tryz.underlying5 Tryz.underlying9 (r5.same h) L.length rfl)
        | (go_at_call 14; refine (hrb _ (HRg.out _ g5) WL.out).mono ?_; rintro e w6 ⟨v6, rfl, m6⟩; obtain ⟨a6, c6, rfl, r6⟩ := m6.own.row HO.out (by omega); have f6 := m6.fr; have g6 := g5.seq' f6; have cv6 := run_str (P := Tryz.prog) (src := 41) (dst := 9) Tryz.underlying41 Tryz.underlying5 Tryz.underlying9 r6 L.length rfl)
        | (go_at_call 15; refine (wspeaks_any _).mono ?_; rintro e w7 ⟨rfl, f7⟩; have f07 := (F.seq' g6).seq' f7))
      all_goals
        go_wp2
        go_ret
        exact ⟨rfl, f07⟩

set_option maxRecDepth 100000 in
theorem lifted (os : Os) (started : os.Started) (H : Type) (enc : TypeId × Value → H) :
    ReturnsInHanded {} Tryz.checked os 3 .any (Rows.walStepsSpec.pre6 enc Tryz.prog Tryz.f3 Rows.walStepsRow.domain false) (Rows.walStepsSpec.post enc Tryz.prog Tryz.f3 false true false false) := by
  refine returnsInHanded_of_change_sized (C := Tryz.checked) own started (by kernel_rfl) Tryz.func3
    (ChangeSpec.witness6 (enc := enc) (C := Tryz.checked) false ⟨#[], #[.slice none 0 0], []⟩ 8 (by kernel_rfl) (by kernel_rfl) (by kernel_rfl) (by kernel_rfl)) ?_
  intro W base args ds gs before hval0 hW hcnd hsz0 _
  have hsz : (DataW.weightsEach Tryz.prog (Tryz.f3.params.toList ++ Rows.walStepsSpec.plain.varTypes Tryz.prog) (ds ++ gs)).all (· ≤ reachBytes) = true := hsz0
  clear hsz0
  have hval : ∀ (j : Nat) t v, Tryz.f3.params[j]? = some t → args[j]? = some v → Value.okWide Tryz.prog W .any base t v := hval0
  have hW' := hW
  obtain ⟨p, q, hA0, hV, rfl, hfz, hnd⟩ := hW
  have hA : DataW.TrodAll enc Tryz.prog W 0 (fun _ => true) true Tryz.f3.params.toList args.toList ds p := hA0
  rw [Tryz.params3] at hA hval hsz
  obtain ⟨v0, vs0, d0, ds0, p0, q0, hargs, rfl, rfl, h0, r0⟩ := trodAll_cons hA
  obtain ⟨rfl, rfl, rfl⟩ := trodAll_nil r0
  obtain rfl : args = #[v0] := by cases args; simp_all
  obtain ⟨rfl, rfl⟩ := trodVars_none hV
  obtain ⟨a0, len0, cap0, rfl⟩ := okWide_slice Tryz.underlying22 (hval 0 22 v0 rfl rfl)
  have k0 := h0
  have lt0 : ∀ x ∈ p0, x.block < W.heap.size := by obtain ⟨m, hm⟩ := k0; exact DataW.trod_lt m _ _ _ hm
  obtain ⟨ls0, hl0, hr0⟩ : ∃ ls : List Stp, len0 = ls.length ∧ Stps W a0 cap0 ls := by
    obtain ⟨fuel, hf⟩ := h0
    obtain ⟨ls, e1, e2, e3⟩ := stps_open hf
    exact ⟨ls, e1, e2⟩
  clear hA0 hval0
  refine (walk W a0 len0 cap0 ls0 hl0 hr0).mono fun e W' ⟨he, fr⟩ => ?_
  have bel : Below W.heap.size W W' := fr.below (Nat.le_refl _) (fun _ f => f.elim)
  subst he
  exact ⟨_, rfl, _, _, _, [], _, [], hW', trodAll_mk1 (shut_bool Tryz.underlying4 _), (trodAll_cons_mk (Below.trod laidOut (by kernel_rfl) (of_decide_eq_true (by kernel_rfl)) k0 bel lt0) trodAll_mk0), rfl, bel.frame _, fun h => by cases h⟩

theorem proved : Rows.WalStepsSaid :=
  OpenClaim.holds_of_wide 3 Tryz.f3 rfl rfl rfl rfl rfl rfl rfl ⟨rfl, rfl, rfl, rfl, rfl⟩ rfl rfl rfl rfl rfl (by kernel_rfl) Tryz.func3 (by kernel_rfl)
    (of_decide_eq_true (by kernel_rfl)) (by unfold Func.isWrapper; first | (rw [if_pos (by decide +kernel)]; kernel_rfl) | (rw [if_neg (by decide +kernel)]; exact ⟨rfl, rfl⟩))
    (fun os started H enc _ => lifted os started H enc)
end Go.Proofs.YtnoadmkkkeianaaGreat.walSteps
namespace Go.Proofs.YtnoadmkkkeianaaGreat
theorem walSteps_holds : Rows.WalStepsSaid := walSteps.proved
#print axioms walSteps_holds
end Go.Proofs.YtnoadmkkkeianaaGreat
