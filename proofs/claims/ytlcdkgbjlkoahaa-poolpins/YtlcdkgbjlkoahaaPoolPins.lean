
/- For every number of frames and every list of steps latticelaw11.PoolPins answers true: no page that is pinned is let go, and never more are held than there are frames; no condition. -/
import Derived.Test.YtlcdkgbjlkoahaaArgs
import Derived.Test.YtlcdkgbjlkoahaaPlArg
import Derived.Test.YtlcdkgbjlkoahaaPlPins
import Derived.Test.YtlcdkgbjlkoahaaPlSort
import Derived.Deep.DeepCutAuto
import Derived.Deep.RegionHeld3
import Derived.Deep.RegionWith
namespace Go.Proofs.Ytlcdkgbjlkoahaa.poolPins
open Go.ChangeShapes Go.WideShapes Go.ChangeAt Go.RowKit
open Go.ChangeMaps (open_string shut_string)
set_option linter.unusedVariables false

theorem own : ownKnob Try.prog.godebug = none := by kernel_rfl
theorem laidOut : laidOutB Try.prog = true := by kernel_rfl
theorem bytes8 : Try.prog.bytesOf 5 = 1 := by kernel_rfl

theorem append_step {P : Program} {w w' : World} {ops : Array Oper} {rest : List Oper} {o : Oper} {ac : Act} {Q : Exit → Act → World → Prop} {v x v' : Value} (hgd : o.guard = none) (sl xo : Operand) (t : TypeId)
    (ho : o.op = .call { callee := .builtin .append, args := #[sl, xo], argTypes := #[t, t] }) (hse : ac.eval sl = v) (hxe : ac.eval xo = x) (hrun : (Builtin.append_ #[t, t] o.type #[v, x]).run P w = .ok v' w')
    (h : wpList P ops Q rest (ac.put o.dst v') w') : wpList P ops Q (o :: rest) ac w :=
  wpList_plain hgd fun _ hK => by
    unfold Oper.wp execOp
    simp only [ho, resolve, invoke, builtin, Sem.run_bind, Sem.run_pure, Result.andThen_ok, List.map_toArray, List.map_cons, List.map_nil, hse, hxe, hrun]
    exact hK _ _ h
theorem three_cells {w : World} {b : Nat} {t : TypeId} {c0 c1 c2 : Value} (h : w.heap[b]? = some (.cells #[c0, c1, c2] t (0, 0))) :
    (w.cell? ⟨b, 0, none⟩ = some c0 ∧ w.cell? ⟨b, 1, none⟩ = some c1 ∧ w.cell? ⟨b, 2, none⟩ = some c2) ∧ ∀ j, w.frozen? ⟨b, j, none⟩ = false := by
  refine ⟨⟨?_, ?_, ?_⟩, fun j => ?_⟩
  all_goals simp [World.cell?, World.frozen?, h]
set_option maxRecDepth 100000 in
set_option maxHeartbeats 8000000 in
theorem walk (w : World) (k : Int) (wk : (Lit.int .i64 k).wf = true) (a0 : Option Addr) (len0 cap0 : Nat) (st : List Pst) (hl0 : len0 = st.length) (hr0 : Psts w a0 cap0 st) :
    Calls Try.prog 5 #[.int .i64 k, .slice a0 len0 cap0] w fun e w' => e = .returned (.bool true) ∧ Fr (fun _ => False) w w' := by
  clear wk
  by_cases hk : 1 ≤ k ∧ k ≤ 64
  · subst hl0
    have hle0 := hr0.le
    have hmx0 := hr0.max
    have HFIT : Hid (∀ (i : Nat) (s : Pst), st[i]? = some s → wfK s.pg ∧ wfK s.ls) := hr0.fit
    have HRS : Hid (∀ W, Fr (fun _ => False) w W → Psts W a0 cap0 st) := fun W f => hr0.same f
    clear hr0
    have hnw := pnew_yes w k hk
    obtain ⟨mb, hmb⟩ : ∃ mb, mb = w.heap.size := ⟨_, rfl⟩
    rw [← hmb] at hnw
    obtain ⟨pb, hpb⟩ : ∃ pb, pb = mb + 1 := ⟨_, rfl⟩
    rw [← hpb] at hnw
    have HMB : Hid (w.heap.size ≤ mb ∧ w.heap.size ≤ pb) := ⟨by omega, by omega⟩
    clear hmb hpb
    go_enter Try.func5, Try.ntmps5
    go_wp2_with fail
    refine hnw.mono ?_
    clear hnw
    rintro e wa ⟨rfl, ha, fa⟩
    go_wp2
    go_loopw [35] (fun i wr => ∃ (q n : Nat) (us fl : Int) (M : Pmap), q ≤ st.length ∧ i = .int .i64 q ∧ Pl wr pb k mb n us fl M ∧ (n : Int) ≤ k ∧ Fr (fun _ => False) w wr)
      (fun i _ => st.length - (intOf i).toNat)
    case atStart => exact ⟨0, 0, 0, 0, fun _ => none, by omega, rfl, ha, by omega, fa⟩
    case round =>
      obtain ⟨q, n, us, fl, M, hq, rfl, hP, hnk, F⟩ := hrel
      clear ha fa
      by_cases hlt : q < st.length
      · obtain ⟨ab, off, ea, hab, hcs⟩ := (HRS.out _ F).some (by omega)
        obtain ⟨s, hs⟩ : ∃ s, st[q]? = some s := ⟨st[q], List.getElem?_eq_getElem hlt⟩
        obtain ⟨q0, q1, q2⟩ := hcs q s hs
        obtain ⟨wpg, wln⟩ := HFIT.out q s hs
        obtain ⟨kd, pg, ln⟩ := s
        dsimp only at q0 q1 q2 wpg wln
        clear hs hcs
        subst ea
        have hkey : ∀ x g, M x = some g → 1 ≤ x ∧ x ≤ 4096 := fun x g hm => hP.map.key hm
        obtain ⟨W1, hW1⟩ : ∃ W, W = wr.alloc (.cells #[.int .i64 kd, .int .i64 pg, .int .i64 ln] 32) := ⟨_, rfl⟩
        have HW1 : Hid (wr.alloc (.cells #[.int .i64 kd, .int .i64 pg, .int .i64 ln] 32) = W1) := hW1.symm
        have fb : Fr (fun _ => False) wr W1 := by rw [hW1]; exact Fr.box wr _
        obtain ⟨sb, hsb⟩ : ∃ sb, sb = wr.heap.size := ⟨_, rfl⟩
        have hx1 : W1.heap[sb]? = some (.cells #[.int .i64 kd, .int .i64 pg, .int .i64 ln] 32 (0, 0)) := by rw [hW1, hsb]; exact heap_alloc_new wr _
        have hpS : pb < sb := by rw [hsb]; exact lt_of_block hP.box
        have hmS : mb < sb := by rw [hsb]; exact hP.map.lt
        have hP1 := hP.same fb
        have F1 := F.seq' fb
        have hpg := pages_pl hP1 (by omega)
        have hsW : sb < W1.heap.size := lt_of_block hx1
        clear hW1 hP fb F
        go_wp2_with fail
        rw [HW1.out, ← hsb]
        clear hsb HW1 q0 q1 q2
        refine hpg.mono ?_
        clear hpg
        rintro e W2 ⟨v, ts, rfl, hk2, _, hrow, f2⟩
        obtain ⟨va, vc, rfl, hir⟩ := Ir.of hrow
        have hP2 := hP1.same f2
        have hx2 := f2.keep hx1 (fun f => f)
        have F2 := F1.seq' f2
        have htl := hk2.len
        have HK : Hid (Keep M n ts) := hk2
        have hB2 := f2.size
        obtain ⟨B, hBd⟩ : ∃ B, B = W1.heap.size := ⟨_, rfl⟩
        rw [← hBd] at hir hB2 hsW
        have htn : ts.length ≤ 64 := by omega
        obtain ⟨C, hCd⟩ : ∃ C, C = W2.heap.size := ⟨_, rfl⟩
        have HC : Hid (W2.heap.size = C) := hCd.symm
        have hpC : pb < C := by omega
        have hmC : mb < C := by omega
        have hsC : sb < C := by omega
        have hBC : B ≤ C := by omega
        clear hrow hP1 F1 f2 hx1 hk2 hBd htl hCd hB2
        go_wp2
        go_loopw [43, 10] (fun i t wq => ∃ (j : Nat) (l : List Int), j ≤ ts.length ∧ i = .int .i64 j ∧ l = (ts.take j).map (fun x => ((M x).getD h0).pins) ∧ wq.ownsRow C 3 1 t l.length (l.map encZ) ∧ Fr (fun i => C ≤ i) W2 wq)
          (fun i _ _ => ts.length - (intOf i).toNat)
        case atStart => exact ⟨0, [], by omega, rfl, rfl, ⟨rfl, .inl ⟨rfl, rfl⟩⟩, Fr.refl _ _⟩
        case round =>
          obtain ⟨j, l, hj, rfl, hl, hrow, f3⟩ := hrel
          have hP3 := hP2.fr f3 (by omega) (by omega)
          have hx3 := f3.keep hx2 (by omega)
          have F3 : Fr (fun _ => False) w _ := F2.trans f3 (fun i hi e => by have := F2.size; have := HC.out; omega)
          by_cases hj2 : j < ts.length
          · obtain ⟨gb, rfl, hg1, hg2, hgc⟩ := hir.some (by omega)
            obtain ⟨x, hx⟩ : ∃ x, ts[j]? = some x := ⟨ts[j], List.getElem?_eq_getElem hj2⟩
            have hxc := (f3.cell (p := ⟨gb, j, none⟩) hg2 (by have := HC.out; show ¬ C ≤ gb; omega)).trans (hgc j x hx)
            have hxw : wfK x := by
              obtain ⟨g, hg⟩ := Option.isSome_iff_exists.1 ((HK.out.mem x).1 (List.mem_of_getElem? hx))
              have := hkey x g hg
              exact wfK_of (by omega)
            have hpin := pins_pl pb k mb n us fl M _ x hxw hP3
            have hll : l.length = j := by rw [hl]; simp; omega
            obtain ⟨a', c', w', hrun, hown, fa⟩ := app_one ((M x).getD h0).pins hrow (by have := f3.size; have := HC.out; omega) (by omega)
            have hl2 : l ++ [((M x).getD h0).pins] = (ts.take (j + 1)).map (fun x => ((M x).getD h0).pins) := by rw [hl, List.take_add_one, hx]; simp
            have HL2 : Hid (l ++ [((M x).getD h0).pins] = (ts.take (j + 1)).map (fun x => ((M x).getD h0).pins)) := hl2
            have HOW : Hid (w'.ownsRow C 3 1 (.slice a' (l.length + 1) c') (l ++ [((M x).getD h0).pins]).length ((l ++ [((M x).getD h0).pins]).map encZ)) := hown
            have F4 : Fr (fun i => C ≤ i) W2 w' := f3.trans fa (fun i _ e => e)
            generalize ((M x).getD h0).pins = pv at hpin hrun HL2 HOW
            clear hl hl2 hown hll hrow hgc hx fa f3 hP3 hx3 F3
            go_wp2_with (first
              | (go_at_call 16; refine hpin.mono ?_; rintro e w'' ⟨rfl, rfl⟩)
              | (at_builtin; refine append_step rfl _ _ 37 rfl rfl rfl hrun ?_))
            go_roundw
            case rel => exact ⟨j + 1, l ++ [pv], by omega, by go_num, HL2.out, HOW.out, F4⟩
            case measure => simp [intOf]; omega
          · obtain rfl : j = ts.length := by omega
            rw [List.take_length] at hl
            have hll : l.length = ts.length := by rw [hl]; simp
            obtain ⟨pa, pc, rfl, hpr⟩ := Ir.of hrow
            have hir3 := hir.fr f3 (fun i h1 h2 => by have := HC.out; show ¬ C ≤ i; omega)
            have HL : Hid (l = ts.map (fun x => ((M x).getD h0).pins)) := hl
            obtain ⟨⟨s0, s1, s2⟩, z3⟩ := three_cells hx3
            have hge := get_pl pb k mb n us fl M _ pg wpg (by omega) hP3
            clear hl hP2 hx2 F2 hrow
            go_wp2_with fail
            refine hge.mono ?_
            clear hge
            rintro e w4 ⟨hit, wr2, out, need, er, M2, n2, us2, fl2, rfl, hgo, hP4, f4⟩
            obtain ⟨hp0, hnk2⟩ := get_pins hgo hnk hk.1 hkey
            have hir4 := hir3.fr f4 (fun i h1 _ e => by rcases e with e | e <;> omega)
            have hpr4 := hpr.fr f4 (fun i h1 _ e => by rcases e with e | e <;> omega)
            have hx4 := f4.keep hx3 (fun e => by rcases e with e | e <;> omega)
            have F4 : Fr (fun _ => False) w w4 := F3.trans f4 (fun i hi e => by have := HMB.out; rcases e with e | e <;> omega)
            obtain ⟨gB, hgB⟩ : ∃ gB, gB = w4.heap.size := ⟨_, rfl⟩
            obtain ⟨W5, hW5⟩ : ∃ W, W = w4.alloc (.cells #[.bool hit, .bool wr2, .int .i64 out, .int .i64 need] 43) := ⟨_, rfl⟩
            have HW5 : Hid (w4.alloc (.cells #[.bool hit, .bool wr2, .int .i64 out, .int .i64 need] 43) = W5) := hW5.symm
            have fb5 : Fr (fun _ => False) w4 W5 := by rw [hW5]; exact Fr.box w4 _
            have hg5 : W5.heap[gB]? = some (.cells #[.bool hit, .bool wr2, .int .i64 out, .int .i64 need] 43 (0, 0)) := by rw [hW5, hgB]; exact heap_alloc_new w4 _
            have hir5 := hir4.fr fb5 (fun _ _ _ f => f)
            have hpr5 := hpr4.fr fb5 (fun _ _ _ f => f)
            have hx5 := fb5.keep hx4 (fun f => f)
            have F5 := F4.seq' fb5
            have hP5 := hP4.same fb5
            have hgm : mb < gB := by rw [hgB]; exact hP4.map.lt
            have HP0 : Hid (((M out).getD h0).pins = 0) := hp0
            clear hir hir3 hir4 hpr hpr4 hx3 hx4 F3 F4 hW5 fb5 hgo hP4 f4 hP3 f3 s0 s1 s2 z3 hp0
            obtain ⟨⟨s0, s1, s2⟩, z3⟩ := three_cells hx5
            by_cases her : er = 0
            · subst her
              by_cases hkd : 1 < kd
              · have hun := unpin_pl pb k mb n2 us2 fl2 M2 W5 pg wpg (by omega) hP5
                go_upto_region 15 with fail
                rw [HW5.out, ← hgB]
                clear hgB HW5
                go_wp2_with fail
                refine hun.mono ?_
                clear hun
                rintro e W6 ⟨rfl, hP6, f6⟩
                have hir6 := hir5.fr f6 (fun i h1 _ e => by omega)
                have hpr6 := hpr5.fr f6 (fun i h1 _ e => by omega)
                have hg6 := f6.keep hg5 (by omega)
                have F6 : Fr (fun _ => False) w W6 := F5.trans f6 (fun i hi e => by have := HMB.out; omega)
                clear hir5 hpr5 hg5 hP5 hx5 F5 s0 s1 s2 z3 f6
                have hpg := pages_pl hP6 (by omega)
                go_wp2_with fail
                refine hpg.mono ?_
                clear hpg
                rintro e W7 ⟨v7, ts7, rfl, hk7, _, hrow7, f7⟩
                obtain ⟨va7, vc7, rfl, hir7⟩ := Ir.of hrow7
                have hn7 : ¬ k < (ts7.length : Int) := by rw [hk7.len]; omega
                have hn8 : (ts7.length : Int) ≤ k := by omega
                have hirX := hir6.fr f7 (fun _ _ _ f => f)
                have hprX := hpr6.fr f7 (fun _ _ _ f => f)
                have hgX := f7.keep hg6 (fun f => f)
                have hPX := hP6.same f7
                have FX := F6.seq' f7
                clear hir6 hpr6 hg6 hP6 F6 f7 hrow7 hk7 hir7
                obtain ⟨⟨g0, g1, g2, g3⟩, zg⟩ := four_cells hgX
                go_wp2
                go_loopw [79] (fun i wq => ∃ j : Nat, j ≤ ts.length ∧ i = .int .i64 j ∧ wq = W7) (fun i _ => ts.length - (intOf i).toNat)
                case atStart => exact ⟨0, by omega, rfl, rfl⟩
                case round =>
                  obtain ⟨j, hj, rfl, hw⟩ := hrel
                  subst hw
                  by_cases hj2 : j < ts.length
                  · obtain ⟨gb, rfl, _, _, hgc⟩ := hirX.some (by omega)
                    obtain ⟨qb, rfl, _, _, hpc⟩ := hprX.some (by omega)
                    obtain ⟨x, hx⟩ : ∃ x, ts[j]? = some x := ⟨ts[j], List.getElem?_eq_getElem hj2⟩
                    have hxc := hgc j x hx
                    have hpx : l[j]? = some ((M x).getD h0).pins := by rw [HL.out, List.getElem?_map, hx]; rfl
                    have hpc' := hpc j _ hpx
                    clear hgc hpc hpx hx
                    by_cases ho : out = x
                    · subst ho
                      rw [HP0.out] at hpc'
                      go_wp2
                      go_roundw
                      case rel => exact ⟨j + 1, by omega, by go_num, trivial⟩
                      case measure => simp [intOf]; omega
                    · have ho' : (out == x) = false := by simpa using ho
                      go_wp2
                      go_roundw
                      case rel => exact ⟨j + 1, by omega, by go_num, trivial⟩
                      case measure => simp [intOf]; omega
                  · go_wp2
                    go_roundw
                    case rel => exact ⟨q + 1, n2, us2, fl2, _, by omega, by go_num, hPX, hnk2, FX⟩
                    case measure => simp [intOf]; omega
              · have hkd' : kd ≤ 1 := by omega
                have hir6 := hir5
                have hpr6 := hpr5
                have hg6 := hg5
                have F6 := F5
                have hP6 := hP5
                clear hir5 hpr5 hg5 hP5 hx5 F5
                have hpg := pages_pl hP6 (by omega)
                go_upto_region 15 with fail
                rw [HW5.out, ← hgB]
                clear hgB HW5
                go_wp2_with fail
                refine hpg.mono ?_
                clear hpg
                rintro e W7 ⟨v7, ts7, rfl, hk7, _, hrow7, f7⟩
                obtain ⟨va7, vc7, rfl, hir7⟩ := Ir.of hrow7
                have hn7 : ¬ k < (ts7.length : Int) := by rw [hk7.len]; omega
                have hn8 : (ts7.length : Int) ≤ k := by omega
                have hirX := hir6.fr f7 (fun _ _ _ f => f)
                have hprX := hpr6.fr f7 (fun _ _ _ f => f)
                have hgX := f7.keep hg6 (fun f => f)
                have hPX := hP6.same f7
                have FX := F6.seq' f7
                clear hir6 hpr6 hg6 hP6 F6 f7 hrow7 hk7 hir7
                obtain ⟨⟨g0, g1, g2, g3⟩, zg⟩ := four_cells hgX
                go_wp2
                go_loopw [79] (fun i wq => ∃ j : Nat, j ≤ ts.length ∧ i = .int .i64 j ∧ wq = W7) (fun i _ => ts.length - (intOf i).toNat)
                case atStart => exact ⟨0, by omega, rfl, rfl⟩
                case round =>
                  obtain ⟨j, hj, rfl, hw⟩ := hrel
                  subst hw
                  by_cases hj2 : j < ts.length
                  · obtain ⟨gb, rfl, _, _, hgc⟩ := hirX.some (by omega)
                    obtain ⟨qb, rfl, _, _, hpc⟩ := hprX.some (by omega)
                    obtain ⟨x, hx⟩ : ∃ x, ts[j]? = some x := ⟨ts[j], List.getElem?_eq_getElem hj2⟩
                    have hxc := hgc j x hx
                    have hpx : l[j]? = some ((M x).getD h0).pins := by rw [HL.out, List.getElem?_map, hx]; rfl
                    have hpc' := hpc j _ hpx
                    clear hgc hpc hpx hx
                    by_cases ho : out = x
                    · subst ho
                      rw [HP0.out] at hpc'
                      go_wp2
                      go_roundw
                      case rel => exact ⟨j + 1, by omega, by go_num, trivial⟩
                      case measure => simp [intOf]; omega
                    · have ho' : (out == x) = false := by simpa using ho
                      go_wp2
                      go_roundw
                      case rel => exact ⟨j + 1, by omega, by go_num, trivial⟩
                      case measure => simp [intOf]; omega
                  · go_wp2
                    go_roundw
                    case rel => exact ⟨q + 1, n2, us2, fl2, _, by omega, by go_num, hPX, hnk2, FX⟩
                    case measure => simp [intOf]; omega
            · have heb : (er == 0) = false := by simpa using her
              have hir6 := hir5
              have hpr6 := hpr5
              have hg6 := hg5
              have F6 := F5
              have hP6 := hP5
              clear hir5 hpr5 hg5 hP5 hx5 F5
              have hpg := pages_pl hP6 (by omega)
              go_upto_region 15 with fail
              rw [HW5.out, ← hgB]
              clear hgB HW5
              go_wp2_with fail
              refine hpg.mono ?_
              clear hpg
              rintro e W7 ⟨v7, ts7, rfl, hk7, _, hrow7, f7⟩
              obtain ⟨va7, vc7, rfl, hir7⟩ := Ir.of hrow7
              have hn7 : ¬ k < (ts7.length : Int) := by rw [hk7.len]; omega
              have hn8 : (ts7.length : Int) ≤ k := by omega
              have hirX := hir6.fr f7 (fun _ _ _ f => f)
              have hprX := hpr6.fr f7 (fun _ _ _ f => f)
              have hgX := f7.keep hg6 (fun f => f)
              have hPX := hP6.same f7
              have FX := F6.seq' f7
              clear hir6 hpr6 hg6 hP6 F6 f7 hrow7 hk7 hir7
              obtain ⟨⟨g0, g1, g2, g3⟩, zg⟩ := four_cells hgX
              go_wp2
              go_loopw [79] (fun i wq => ∃ j : Nat, j ≤ ts.length ∧ i = .int .i64 j ∧ wq = W7) (fun i _ => ts.length - (intOf i).toNat)
              case atStart => exact ⟨0, by omega, rfl, rfl⟩
              case round =>
                obtain ⟨j, hj, rfl, hw⟩ := hrel
                subst hw
                by_cases hj2 : j < ts.length
                · obtain ⟨gb, rfl, _, _, hgc⟩ := hirX.some (by omega)
                  obtain ⟨qb, rfl, _, _, hpc⟩ := hprX.some (by omega)
                  obtain ⟨x, hx⟩ : ∃ x, ts[j]? = some x := ⟨ts[j], List.getElem?_eq_getElem hj2⟩
                  have hxc := hgc j x hx
                  have hpx : l[j]? = some ((M x).getD h0).pins := by rw [HL.out, List.getElem?_map, hx]; rfl
                  have hpc' := hpc j _ hpx
                  clear hgc hpc hpx hx
                  by_cases ho : out = x
                  · subst ho
                    rw [HP0.out] at hpc'
                    go_wp2
                    go_roundw
                    case rel => exact ⟨j + 1, by omega, by go_num, trivial⟩
                    case measure => simp [intOf]; omega
                  · have ho' : (out == x) = false := by simpa using ho
                    go_wp2
                    go_roundw
                    case rel => exact ⟨j + 1, by omega, by go_num, trivial⟩
                    case measure => simp [intOf]; omega
                · go_wp2
                  go_roundw
                  case rel => exact ⟨q + 1, n2, us2, fl2, _, by omega, by go_num, hPX, hnk2, FX⟩
                  case measure => simp [intOf]; omega
      · go_wp2_with fail
        refine (pspeaks_any _).mono ?_
        rintro e w9 ⟨rfl, f9⟩
        go_wp2
        go_ret
        exact ⟨rfl, F.seq' f9⟩
  · have hnw := pnew_no w k hk
    clear hk hr0 hl0
    go_enter Try.func5, Try.ntmps5
    go_wp2_with (go_at_call 7; refine hnw.mono ?_; rintro e w' ⟨rfl, rfl⟩)
    refine (pspeaks_any _).mono ?_
    rintro e w9 ⟨rfl, f9⟩
    go_wp2
    go_ret
    exact ⟨rfl, f9⟩

set_option maxRecDepth 100000 in
theorem lifted (os : Os) (started : os.Started) (H : Type) (enc : TypeId × Value → H) :
    ReturnsInHanded {} Try.checked os 5 .any (Rows.poolPinsSpec.pre6 enc Try.prog Try.f5 Rows.poolPinsRow.domain false) (Rows.poolPinsSpec.post enc Try.prog Try.f5 false true false false) := by
  refine returnsInHanded_of_change_sized (C := Try.checked) own started (by kernel_rfl) Try.func5
    (ChangeSpec.witness6 (enc := enc) (C := Try.checked) false ⟨#[], #[.int .i64 0, .slice none 0 0], []⟩ 8 (by kernel_rfl) (by kernel_rfl) (by kernel_rfl) (by kernel_rfl)) ?_
  intro W base args ds gs before hval0 hW hcnd hsz0 _
  have hsz : (DataW.weightsEach Try.prog (Try.f5.params.toList ++ Rows.poolPinsSpec.plain.varTypes Try.prog) (ds ++ gs)).all (· ≤ reachBytes) = true := hsz0
  clear hsz0
  have hval : ∀ (j : Nat) t v, Try.f5.params[j]? = some t → args[j]? = some v → Value.okWide Try.prog W .any base t v := hval0
  have hW' := hW
  obtain ⟨p, q, hA0, hV, rfl, hfz, hnd⟩ := hW
  have hA : DataW.TrodAll enc Try.prog W 0 (fun _ => true) true Try.f5.params.toList args.toList ds p := hA0
  rw [Try.params5] at hA hval hsz
  obtain ⟨v0, vs0, d0, ds0, p0, q0, hargs, rfl, rfl, h0, r0⟩ := trodAll_cons hA
  obtain ⟨v1, vs1, d1, ds1, p1, q1, rfl, rfl, rfl, h1, r1⟩ := trodAll_cons r0
  obtain ⟨rfl, rfl, rfl⟩ := trodAll_nil r1
  obtain rfl : args = #[v0, v1] := by cases args; simp_all
  obtain ⟨rfl, rfl⟩ := trodVars_none hV
  obtain ⟨a1, len1, cap1, rfl⟩ := okWide_slice Try.underlying22 (hval 1 22 v1 rfl rfl)
  have k1 := h1
  have lt1 : ∀ x ∈ p1, x.block < W.heap.size := by obtain ⟨m, hm⟩ := k1; exact DataW.trod_lt m _ _ _ hm
  obtain ⟨ls1, hl1, hr1⟩ : ∃ ls : List Pst, len1 = ls.length ∧ Psts W a1 cap1 ls := by
    obtain ⟨fuel, hf⟩ := h1
    obtain ⟨ls, e1, e2, e3⟩ := psts_open hf
    exact ⟨ls, e1, e2⟩
  obtain ⟨a0, rfl, rfl, rfl, w0⟩ := open_int Try.underlying3 (hval 0 3 v0 rfl rfl) h0
  clear hA0 hval0
  refine (walk W a0 w0 a1 len1 cap1 ls1 hl1 hr1).mono fun e W' ⟨he, fr⟩ => ?_
  have bel : Below W.heap.size W W' := fr.below (Nat.le_refl _) (fun _ f => f.elim)
  subst he
  exact ⟨_, rfl, _, _, _, [], _, [], hW', trodAll_mk1 (shut_bool Try.underlying4 _), (trodAll_cons_mk (shut_int Try.underlying3 w0) (trodAll_cons_mk (Below.trod laidOut (by kernel_rfl) (of_decide_eq_true (by kernel_rfl)) k1 bel lt1) trodAll_mk0)), rfl, bel.frame _, fun h => by cases h⟩

theorem proved : Rows.PoolPinsSaid :=
  OpenClaim.holds_of_wide 5 Try.f5 rfl rfl rfl rfl rfl rfl rfl ⟨rfl, rfl, rfl, rfl, rfl⟩ rfl rfl rfl rfl rfl (by kernel_rfl) Try.func5 (by kernel_rfl)
    (of_decide_eq_true (by kernel_rfl)) (by unfold Func.isWrapper; first | (rw [if_pos (by decide +kernel)]; kernel_rfl) | (rw [if_neg (by decide +kernel)]; exact ⟨rfl, rfl⟩))
    (fun os started H enc _ => lifted os started H enc)
end Go.Proofs.Ytlcdkgbjlkoahaa.poolPins
namespace Go.Proofs.Ytlcdkgbjlkoahaa
theorem poolPins_holds : Rows.PoolPinsSaid := poolPins.proved
#print axioms poolPins_holds
end Go.Proofs.Ytlcdkgbjlkoahaa
