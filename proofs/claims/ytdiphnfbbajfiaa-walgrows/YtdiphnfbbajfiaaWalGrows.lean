
/- Whatever is appended and cut: LSNs follow one another without a gap, and epochs never fall. -/
import Derived.Test.YtdiphnfbbajfiaaYB4
import Derived.Test.YtdiphnfbbajfiaaYW4
import Derived.Test.YtdiphnfbbajfiaaWgArg
import Derived.Test.YtdiphnfbbajfiaaWlCut
import Derived.Test.YtdiphnfbbajfiaaWlTorn
import Derived.Deep.DeepCutAuto
namespace Go.Proofs.Ytdiphnfbbajfiaa.walGrows
open Go.ChangeShapes Go.WideShapes Go.ChangeAt Go.RowKit
open Go.ChangeMaps (open_string shut_string)
set_option linter.unusedVariables false

theorem own : ownKnob Try.prog.godebug = none := by kernel_rfl
theorem laidOut : laidOutB Try.prog = true := by kernel_rfl
theorem bytes8 : Try.prog.bytesOf 5 = 1 := by kernel_rfl

open Go.Proofs.Ytdiphnfbbajfiaa.Crcm

set_option maxRecDepth 100000 in
set_option maxHeartbeats 4000000 in
theorem walk (w : World) (a0 : Option Addr) (len0 cap0 : Nat) (st : List Stp) (hl0 : len0 = st.length) (hr0 : Stps w a0 cap0 st) :
    Calls Try.prog 9 #[.slice a0 len0 cap0] w fun e w' => e = .returned (.bool true) ∧ Fr (fun _ => False) w w' := by
  subst hl0
  have hle := hr0.le
  have hmx := hr0.max
  have HRS : Hid (∀ W, Fr (fun _ => False) w W → Stps W a0 cap0 st) := fun W f => hr0.same f
  clear hr0
  obtain ⟨lb, hlbd⟩ : ∃ lb, lb = w.heap.size := ⟨_, rfl⟩
  have HLB : Hid (lb = w.heap.size) := hlbd
  have hnw := wnew_any w
  rw [← hlbd] at hnw
  clear hlbd
  go_enter Try.func9, Try.ntmps9
  go_wp2_with fail
  refine hnw.mono ?_
  clear hnw
  rintro e w1 ⟨rfl, lg1, f1, hzw⟩
  go_wp2
  go_loopw [20] (fun i wr => ∃ (k : Nat) (ls : List Rec) (rv : Value), k ≤ st.length ∧ i = .int .i64 k ∧ Lg wr lb rv ls 0 ∧ Hid (Wl ls) ∧ Fr (fun _ => False) w wr)
    (fun i _ => st.length - (intOf i).toNat)
  case atStart => exact ⟨0, [], .slice none 0 0, by omega, rfl, lg1, wl_nil, f1⟩
  case round =>
    obtain ⟨k, ls, rv, hk, rfl, lg, WL, F⟩ := hrel
    clear lg1 f1 hzw
    by_cases hlt : k < st.length
    · obtain ⟨ab, off, ea, hab, hcs⟩ := (HRS.out _ F).some (by omega)
      obtain ⟨s, hs⟩ : ∃ s, st[k]? = some s := ⟨st[k], List.getElem?_eq_getElem hlt⟩
      obtain ⟨q0, q1, q2, q3, q4, q5, q6, q7, q8, q9⟩ := st_range (hcs k s hs)
      obtain ⟨kd, n, r⟩ := s
      dsimp only at q0 q1 q2 q3 q4 q5 q6 q7 q8 q9
      clear hs hcs
      subst ea
      obtain ⟨W1, hW1⟩ : ∃ W, W = wr.alloc (.cells #[.int .i64 kd, .int .i64 n, .int .i64 r.lsn, .int .i64 r.ep, .int .i64 r.kind, .int .i64 r.page, .int .i64 r.other, .int .i64 r.req, .string r.key, .string r.val] 60) := ⟨_, rfl⟩
      have HW1 : Hid (wr.alloc (.cells #[.int .i64 kd, .int .i64 n, .int .i64 r.lsn, .int .i64 r.ep, .int .i64 r.kind, .int .i64 r.page, .int .i64 r.other, .int .i64 r.req, .string r.key, .string r.val] 60) = W1) := hW1.symm
      have fb : Fr (fun _ => False) wr W1 := by rw [hW1]; exact Fr.box wr _
      have hx1 : W1.heap[wr.heap.size]? = some (.cells #[.int .i64 kd, .int .i64 n, .int .i64 r.lsn, .int .i64 r.ep, .int .i64 r.kind, .int .i64 r.page, .int .i64 r.other, .int .i64 r.req, .string r.key, .string r.val] 60 (0, 0)) := by rw [hW1]; exact heap_alloc_new wr _
      obtain ⟨sb, hsb⟩ : ∃ sb, sb = wr.heap.size := ⟨_, rfl⟩
      have HSB : Hid (sb = wr.heap.size) := hsb
      have HX1 : Hid (W1.heap[sb]? = some (.cells #[.int .i64 kd, .int .i64 n, .int .i64 r.lsn, .int .i64 r.ep, .int .i64 r.kind, .int .i64 r.page, .int .i64 r.other, .int .i64 r.req, .string r.key, .string r.val] 60 (0, 0))) := by rw [hsb]; exact hx1
      have hls : lb < sb := by rw [hsb]; exact lt_of_block lg.box
      have hos : ∀ g, rv.ownBlock = some g → g < sb := fun g e => by rw [hsb]; exact lg.has.lt e
      have HOS : Hid (∀ g, rv.ownBlock = some g → g < sb) := hos
      have HOW : Hid (∀ g, rv.ownBlock = some g → lb < g) := lg.own
      have hwsz : w.heap.size ≤ sb := by rw [hsb]; exact F.size
      have lgb := lg.same fb
      have Fb := F.seq' fb
      have hbig := WL.out.big
      clear hW1 hx1 hos lg fb
      have hla := last_lg _ _ _ _ _ lgb WL.out
      go_wp2_with fail
      rw [HW1.out]
      rw [← hsb]
      clear hsb
      refine hla.mono ?_
      clear hla
      rintro e w2 ⟨rfl, f2⟩
      clear q0 q1 q2 q3 q4 q5 q6 q7 q8 q9
      have lg2 := lgb.same f2
      have F2 := Fb.seq' f2
      have hx2 : w2.heap[sb]? = some (.cells #[.int .i64 kd, .int .i64 n, .int .i64 r.lsn, .int .i64 r.ep, .int .i64 r.kind, .int .i64 r.page, .int .i64 r.other, .int .i64 r.req, .string r.key, .string r.val] 60 (0, 0)) := by rw [f2.block sb (lt_of_block HX1.out) (fun f => f)]; exact HX1.out
      clear lgb Fb f2
      obtain ⟨⟨d0, d1, d2, d3, d4, d5, d6, d7, d8, d9⟩, z⟩ := st_cells hx2
      by_cases hkd : kd = 2
      · subst hkd
        by_cases hn : 0 ≤ n ∧ n ≤ ls.length
        · obtain ⟨m, rfl⟩ : ∃ m : Nat, n = m := ⟨n.toNat, by omega⟩
          have hml : m ≤ ls.length := by omega
          have hcu := cut_yes m lb rv ls w2 lg2 hbig hml
          have WL2 : Hid (Wl (ls.take m)) := wl_take WL.out m
          have HTL : Hid ((ls.take m).length = m) := by show _ = _; rw [List.length_take]; omega
          clear hn
          go_wp2_with fail
          refine hcu.mono ?_
          clear hcu
          rintro e w3 ⟨rfl, rv3, lg3, f3, hrv3⟩
          have F3 := F2.trans f3 (S := fun _ => False) (fun i hi e => Or.elim e (fun e => by have := HLB.out; omega) (fun e => by have := HOW.out i e; have := HLB.out; omega))
          have hx3 := hx2
          rw [← f3.block sb (lt_of_block hx2) (fun e => Or.elim e (fun e => by omega) (fun e => by have := HOS.out _ e; omega))] at hx3
          clear d0 d1 d2 d3 d4 d5 d6 d7 d8 d9 z hx2 f3
          have hla := last_lg _ _ _ _ _ lg3 WL2.out
          rw [HTL.out] at hla
          obtain ⟨⟨d0, d1, d2, d3, d4, d5, d6, d7, d8, d9⟩, z⟩ := st_cells hx3
          go_wp2_with fail
          refine hla.mono ?_
          clear hla
          rintro e w4 ⟨rfl, f4⟩
          have lg4 := lg3.same f4
          have F4 := F3.seq' f4
          have hx4 := hx3
          rw [← f4.block sb (lt_of_block hx3) (fun f => f)] at hx4
          clear d0 d1 d2 d3 d4 d5 d6 d7 d8 d9 z hx3 f4 lg3
          obtain ⟨⟨d0, d1, d2, d3, d4, d5, d6, d7, d8, d9⟩, z⟩ := st_cells hx4
          have hfd := flushed_lg _ _ _ _ _ lg4
          have h0m : ¬ ((m : Int) < 0) := by omega
          go_wp2_with fail
          refine hfd.mono ?_
          clear hfd
          rintro e w5 ⟨rfl, rfl⟩
          go_wp2
          go_roundw
          case rel => exact ⟨k + 1, ls.take m, rv3, by omega, by go_num, lg4, WL2, F4⟩
          case measure => simp [intOf]; omega
        · have hcu := cut_no n lb rv ls 0 w2 lg2 hbig hn
          clear hn
          go_wp2_with fail
          refine hcu.mono ?_
          clear hcu
          rintro e w3 ⟨rfl, rfl⟩
          go_wp2
          go_roundw
          case rel => exact ⟨k + 1, ls, rv, by omega, by go_num, lg2, WL, F2⟩
          case measure => simp [intOf]; omega
      · have hkb : (kd == 2) = false := by simpa using hkd
        clear hkd
        have hap0 := append_lg r lb rv ls 0 w2 lg2 WL.out
        have WL2 : Hid (Wl (apL ls r)) := wl_ap WL.out r
        have hwr : IntKind.i64.wrap ((ls.length : Int) + 1) = (ls.length : Int) + 1 := by simp [IntKind.wrap, IntKind.bits, IntKind.signed]; omega
        have hsz2 : sb < w2.heap.size := lt_of_block hx2
        have HPUT : Hid (∀ w3 rv3, Lg w3 lb rv3 (apL ls r) 0 → Fr (lgS lb rv) w2 w3 → (rv3.ownBlock = rv.ownBlock ∨ ∃ g, rv3.ownBlock = some g ∧ w2.heap.size ≤ g) → w3.heap[sb]? = some (.cells #[.int .i64 kd, .int .i64 n, .int .i64 r.lsn, .int .i64 r.ep, .int .i64 r.kind, .int .i64 r.page, .int .i64 r.other, .int .i64 r.req, .string r.key, .string r.val] 60 (0, 0)) ∧ Lg (w3.setCell ⟨sb, 2, none⟩ (.int .i64 ((ls.length : Int) + 1))) lb rv3 (apL ls r) 0 ∧ Fr (fun _ => False) w (w3.setCell ⟨sb, 2, none⟩ (.int .i64 ((ls.length : Int) + 1)))) := fun w3 rv3 lg3 f3 hrv3 => by
          have F3 := F2.trans f3 (S := fun _ => False) (fun i hi e => Or.elim e (fun e => by have := HLB.out; omega) (fun e => by have := HOW.out i e; have := HLB.out; omega))
          have fs : Fr (fun k => k = sb) w3 (w3.setCell ⟨sb, 2, none⟩ (.int .i64 ((ls.length : Int) + 1))) := (Fr.refl (fun k => k = sb) w3).setCell (p := ⟨sb, 2, none⟩) (fun _ => rfl) _
          refine ⟨?_, lg3.fr fs (by omega) (fun g e e2 => ?_), F3.trans fs (fun i hi e => by omega)⟩
          · rw [f3.block sb (lt_of_block hx2) (fun e => Or.elim e (fun e => by omega) (fun e => by have := HOS.out _ e; omega))]; exact hx2
          · rcases hrv3 with h1 | ⟨g2, h1, h2⟩
            · rw [h1] at e; have := HOS.out g e; omega
            · rw [h1] at e; simp only [Option.some.injEq] at e; omega
        by_cases hE : apE ls r = 0
        · have hN : apN ls r = (ls.length : Int) + 1 := by unfold apN; rw [if_pos hE]
          rw [hE, hN] at hap0
          have hok : rok (nx ls r) = true ∧ refus ls r.ep = 0 := by
            unfold apE at hE
            split at hE
            · rename_i h1; exact ⟨h1, hE⟩
            · exact absurd hE (by decide)
          have hep : ¬ r.ep < lastE ls := fun h => by
            have := hok.2
            unfold refus at this
            rw [if_pos h] at this
            exact absurd this (by decide)
          have hrt := fun W => right_any (nx ls r) W
          rw [hok.1] at hrt
          have HRT : Hid (∀ W, Calls Try.prog 28 #[.agg #[.int .i64 ((ls.length : Int) + 1), .int .i64 r.ep, .int .i64 r.kind, .int .i64 r.page, .int .i64 r.other, .int .i64 r.req, .string r.key, .string r.val]] W fun e w' => e = .returned (.bool true) ∧ Fr (fun _ => False) W w') := hrt
          clear hE hN hok hrt
          generalize lastE ls = le at *
          go_wp2_with fail
          refine hap0.mono ?_
          clear hap0
          rintro e w3 ⟨rfl, rv3, lg3, f3, hrv3⟩
          obtain ⟨hx3, lg4, F4⟩ := HPUT.out _ _ lg3 f3 hrv3
          clear d0 d1 d2 d3 d4 d5 d6 d7 d8 d9 z hx2 f3 lg3 lg2 hrv3 HPUT
          obtain ⟨⟨d0, d1, d2, d3, d4, d5, d6, d7, d8, d9⟩, z⟩ := st_cells hx3
          go_wp2_with fail
          refine (HRT.out _).mono ?_
          clear HRT
          rintro e w5 ⟨rfl, f5⟩
          have lg5 := lg4.same f5
          have F5 := F4.seq' f5
          go_wp2
          go_roundw
          case rel => exact ⟨k + 1, apL ls r, rv3, by omega, by go_num, lg5, WL2, F5⟩
          case measure => simp [intOf]; omega
        · have hN : apN ls r = 0 := by unfold apN; rw [if_neg hE]
          rw [hN] at hap0
          have heb : (apE ls r == 0) = false := by simpa using hE
          have heb2 : (apE ls r != 0) = true := by simpa using hE
          generalize apE ls r = er at *
          clear hE hN
          generalize lastE ls = le at *
          go_wp2_with fail
          refine hap0.mono ?_
          clear hap0
          rintro e w3 ⟨rfl, rv3, lg3, f3, hrv3⟩
          obtain ⟨hx3, lg4, F4⟩ := HPUT.out _ _ lg3 f3 hrv3
          clear d0 d1 d2 d3 d4 d5 d6 d7 d8 d9 z hx2 f3 lg3 lg2 hrv3 HPUT
          obtain ⟨⟨d0, d1, d2, d3, d4, d5, d6, d7, d8, d9⟩, z⟩ := st_cells hx3
          go_wp2
          go_roundw
          case rel => exact ⟨k + 1, apL ls r, rv3, by omega, by go_num, lg4, WL2, F4⟩
          case measure => simp [intOf]; omega
    · have hbig := WL.out.big
      have hfy := from_lg 1 100000 ⟨by omega, by omega⟩ _ _ _ _ _ lg hbig
      rw [frF_all ls (by omega)] at hfy
      go_wp2_with fail
      refine hfy.mono ?_
      clear hfy hlt hk HRS hle hmx lg
      rintro e w2 ⟨a2, c2, rfl, k2, f2⟩
      have F2 := F.seq' f2
      have HK2 : Hid (∀ W, Fr (fun _ => False) w2 W → Recs W a2 c2 ls) := fun W f => k2.same f
      have hlc := k2.le
      have hcx := k2.max
      clear k2 f2 F
      go_wp2
      go_loopw [96, 12] (fun i t wr => ∃ (q : Nat) (x : Int), q ≤ ls.length ∧ i = .int .i64 q ∧ t = .int .i64 x ∧ Hid (∀ r, ls[q]? = some r → x ≤ r.ep) ∧ Fr (fun _ => False) w2 wr)
        (fun i _ _ => ls.length - (intOf i).toNat)
      case atStart => exact ⟨0, 0, by omega, rfl, rfl, fun r hr => (rok_rg (WL.out.each 0 r hr).1).ep0, Fr.refl _ _⟩
      case round =>
        obtain ⟨q, x, hq, rfl, rfl, HX, FZ⟩ := hrel
        by_cases hlt : q < ls.length
        · obtain ⟨ab, off, ea, hab, hcs⟩ := (HK2.out _ FZ).some (by omega)
          obtain ⟨r, hr⟩ : ∃ r, ls[q]? = some r := ⟨ls[q], List.getElem?_eq_getElem hlt⟩
          obtain ⟨q0, q1, q2, q3, q4, q5, q6, q7⟩ := rec_range (hcs q r hr)
          have hls := (WL.out.each q r hr).2
          have hxe : ¬ r.ep < x := by have := HX.out r hr; omega
          have HUP : Hid (∀ r', ls[q + 1]? = some r' → r.ep ≤ r'.ep) := fun r' h => WL.out.up q r r' hr h
          have hwr : IntKind.i64.wrap ((q : Int) + 1) = (q : Int) + 1 := by simp [IntKind.wrap, IntKind.bits, IntKind.signed]; omega
          have hnb : (r.lsn != (q : Int) + 1) = false := by simp [hls]
          clear hr hcs hls
          subst ea
          have FZ2 := FZ.seq' (Fr.box wr (.cells #[.int .i64 r.lsn, .int .i64 r.ep, .int .i64 r.kind, .int .i64 r.page, .int .i64 r.other, .int .i64 r.req, .string r.key, .string r.val] 23))
          go_wp2
          go_roundw
          case rel => exact ⟨q + 1, r.ep, by omega, by go_num, rfl, HUP, FZ2⟩
          case measure => simp [intOf]; omega
        · go_wp2_with fail
          refine (wspeaks_any _).mono ?_
          rintro e w9 ⟨rfl, f9⟩
          go_wp2
          go_ret
          exact ⟨rfl, (F2.seq' FZ).seq' f9⟩

set_option maxRecDepth 100000 in
theorem lifted (os : Os) (started : os.Started) (H : Type) (enc : TypeId × Value → H) :
    ReturnsInHanded {} Try.checked os 9 .any (Rows.walGrowsSpec.pre6 enc Try.prog Try.f9 Rows.walGrowsRow.domain false) (Rows.walGrowsSpec.post enc Try.prog Try.f9 false true false false) := by
  refine returnsInHanded_of_change_sized (C := Try.checked) own started (by kernel_rfl) Try.func9
    (ChangeSpec.witness6 (enc := enc) (C := Try.checked) false ⟨#[], #[.slice none 0 0], []⟩ 8 (by kernel_rfl) (by kernel_rfl) (by kernel_rfl) (by kernel_rfl)) ?_
  intro W base args ds gs before hval0 hW hcnd hsz0 _
  have hsz : (DataW.weightsEach Try.prog (Try.f9.params.toList ++ Rows.walGrowsSpec.plain.varTypes Try.prog) (ds ++ gs)).all (· ≤ reachBytes) = true := hsz0
  clear hsz0
  have hval : ∀ (j : Nat) t v, Try.f9.params[j]? = some t → args[j]? = some v → Value.okWide Try.prog W .any base t v := hval0
  have hW' := hW
  obtain ⟨p, q, hA0, hV, rfl, hfz, hnd⟩ := hW
  have hA : DataW.TrodAll enc Try.prog W 0 (fun _ => true) true Try.f9.params.toList args.toList ds p := hA0
  rw [Try.params9] at hA hval hsz
  obtain ⟨v0, vs0, d0, ds0, p0, q0, hargs, rfl, rfl, h0, r0⟩ := trodAll_cons hA
  obtain ⟨rfl, rfl, rfl⟩ := trodAll_nil r0
  obtain rfl : args = #[v0] := by cases args; simp_all
  obtain ⟨rfl, rfl⟩ := trodVars_none hV
  obtain ⟨a0, len0, cap0, rfl⟩ := okWide_slice Try.underlying58 (hval 0 58 v0 rfl rfl)
  have k0 := h0
  have lt0 : ∀ x ∈ p0, x.block < W.heap.size := by obtain ⟨m, hm⟩ := k0; exact DataW.trod_lt m _ _ _ hm
  obtain ⟨ls0, hl0, hr0⟩ : ∃ ls : List Stp, len0 = ls.length ∧ Stps W a0 cap0 ls := by
    obtain ⟨fuel, hf⟩ := h0
    obtain ⟨ls, e1, e2, e3⟩ := stps_open hf
    exact ⟨ls, e1, e2⟩
  clear hA0 hval0
  refine (walk W a0 len0 cap0 ls0 hl0 hr0).mono fun e W' ⟨he, fr⟩ => ?_
  have bel : Below W.heap.size W W' := fr.below (Nat.le_refl _) (fun _ f => f.elim)
  subst he
  exact ⟨_, rfl, _, _, _, [], _, [], hW', trodAll_mk1 (shut_bool Try.underlying4 _), (trodAll_cons_mk (Below.trod laidOut (by kernel_rfl) (of_decide_eq_true (by kernel_rfl)) k0 bel lt0) trodAll_mk0), rfl, bel.frame _, fun h => by cases h⟩

theorem proved : Rows.WalGrowsSaid :=
  OpenClaim.holds_of_wide 9 Try.f9 rfl rfl rfl rfl rfl rfl rfl ⟨rfl, rfl, rfl, rfl, rfl⟩ rfl rfl rfl rfl rfl (by kernel_rfl) Try.func9 (by kernel_rfl)
    (of_decide_eq_true (by kernel_rfl)) (by unfold Func.isWrapper; first | (rw [if_pos (by decide +kernel)]; kernel_rfl) | (rw [if_neg (by decide +kernel)]; exact ⟨rfl, rfl⟩))
    (fun os started H enc _ => lifted os started H enc)
end Go.Proofs.Ytdiphnfbbajfiaa.walGrows
namespace Go.Proofs.Ytdiphnfbbajfiaa
theorem walGrows_holds : Rows.WalGrowsSaid := walGrows.proved
#print axioms walGrows_holds
end Go.Proofs.Ytdiphnfbbajfiaa
