
/- Of a log's bytes, cut anywhere, just the whole records are read, and whatever stands behind changes nothing of them. -/
import Derived.Test.YtcmkpmilnplhmaaWT1
import Derived.Test.YtcmkpmilnplhmaaWTI
import Derived.Test.YtcmkpmilnplhmaaWTJ
import Derived.Test.YtcmkpmilnplhmaaWTE
import Derived.Deep.DeepCutAuto
namespace Go.Proofs.Ytcmkpmilnplhmaa.walTorn
open Go.ChangeShapes Go.WideShapes Go.ChangeAt Go.RowKit
open Go.ChangeMaps (open_string shut_string)
set_option linter.unusedVariables false

theorem own : ownKnob Try.prog.godebug = none := by kernel_rfl
theorem laidOut : laidOutB Try.prog = true := by kernel_rfl
theorem bytes8 : Try.prog.bytesOf 5 = 1 := by kernel_rfl

open Go.Proofs.Ytcmkpmilnplhmaa.Crcm

set_option maxRecDepth 100000 in
set_option maxHeartbeats 4000000 in
theorem walk (w : World) (a0 : Option Addr) (len0 cap0 : Nat) (rs : List Rec) (hl0 : len0 = rs.length) (hr0 : Recs w a0 cap0 rs) (a1 : Int) (w1 : (Lit.int .i64 a1).wf = true) (a2 : Option Addr) (len2 cap2 : Nat) (l2 : List Nat) (hl2 : len2 = l2.length) (z2 : cap2 ≤ 140737488351232) (hr2 : Row w a2 cap2 l2) :
    Calls Try.prog 3 #[.slice a0 len0 cap0, .int .i64 a1, .slice a2 len2 cap2] w fun e w' => e = .returned (.bool true) ∧ Fr (fun _ => False) w w' := by
  obtain ⟨i0, hi, hz0, hz1, hz2⟩ := info_parts info8
  obtain ⟨iN, hiN, hN0, hN1, hN2⟩ := info_parts infoNum
  have M1 : Hid (Try.prog.info? 3 = some iN) := hiN
  have M2 : Hid (iN.zero = some (.int .i64 0)) := hN0
  have M3 : Hid (iN.size = 1) := hN1
  have M4 : Hid (iN.bytes = 8) := hN2
  have HI : Hid (Try.prog.info? 5 = some i0 ∧ i0.zero = some (.int .u8 0) ∧ i0.size = 1 ∧ i0.bytes = 1) := ⟨hi, hz0, hz1, hz2⟩
  clear hiN hN0 hN1 hN2 hi hz0 hz1 hz2
  subst hl0
  subst hl2
  have hb1 := bounds_i64 w1
  have HB1 : Hid (-9223372036854775808 ≤ a1 ∧ a1 ≤ 9223372036854775807) := hb1
  have hle := hr0.le
  have hmx := hr0.max
  have HRS : Hid (∀ W, Fr (fun _ => False) w W → Recs W a0 cap0 rs) := fun W f => hr0.same f
  have HR2 : Hid (∀ W, Fr (fun _ => False) w W → Row W a2 cap2 l2) := fun W f => hr2.same f
  have hl2c := hr2.le
  clear hr0 hr2 w1 hb1
  obtain ⟨lb, hlbd⟩ : ∃ lb, lb = w.heap.size := ⟨_, rfl⟩
  have HLB : Hid (lb = w.heap.size) := hlbd
  have hnw := wnew_any w
  rw [← hlbd] at hnw
  clear hlbd
  go_enter Try.func3, Try.ntmps3
  go_wp2_with fail
  refine hnw.mono ?_
  clear hnw
  rintro e w1 ⟨rfl, lg1, f1, hzw⟩
  go_wp2
  go_loopw [31, 8] (fun i t wr => ∃ (k : Nat) (ls : List Rec) (rv vt : Value), k ≤ rs.length ∧ i = .int .i64 k ∧ t = vt ∧ Lg wr lb rv ls 0 ∧ Hid (Wl ls) ∧ Has wr 1 vt (ends ls).length ((ends ls).flatMap numC) ∧ (∀ g, vt.ownBlock = some g → lb < g ∧ rv.ownBlock ≠ some g) ∧ Fr (fun _ => False) w wr)
    (fun i _ _ => rs.length - (intOf i).toNat)
  case atStart => exact ⟨0, [], .slice none 0 0, .slice none 0 0, by omega, rfl, rfl, lg1, wl_nil, Has.nil _ _, (fun g e => by cases e), f1⟩
  case round =>
    obtain ⟨k, ls, rv, vt, hk, rfl, rfl, lg, WL, ht, hap, F⟩ := hrel
    clear lg1 f1 hzw
    by_cases hlt : k < rs.length
    · obtain ⟨ab, off, ea, hab, hcs⟩ := (HRS.out _ F).some (by omega)
      obtain ⟨r, hr, htk⟩ := take_one rs k hlt
      obtain ⟨q0, q1, q2, q3, q4, q5, q6, q7⟩ := rec_range (hcs k r hr)
      clear hr htk hcs
      subst ea
      have fb := Fr.box wr (.cells #[.int .i64 r.lsn, .int .i64 r.ep, .int .i64 r.kind, .int .i64 r.page, .int .i64 r.other, .int .i64 r.req, .string r.key, .string r.val] 28)
      have lgb := lg.same fb
      have hap0 := append_lg r lb rv ls 0 _ lgb WL.out
      have WL2 : Hid (Wl (apL ls r)) := wl_ap WL.out r
      have HAP : Hid (∀ g, u8.ownBlock = some g → lb < g ∧ rv.ownBlock ≠ some g) := hap
      have HLT : Hid (∀ g, u8.ownBlock = some g → g < wr.heap.size) := fun g e => ht.lt e
      have HOW : Hid (∀ g, rv.ownBlock = some g → lb < g) := lg.own
      have HZB : Hid ((wr.alloc (.cells #[.int .i64 r.lsn, .int .i64 r.ep, .int .i64 r.kind, .int .i64 r.page, .int .i64 r.other, .int .i64 r.req, .string r.key, .string r.val] 28)).heap.size = wr.heap.size + 1) := by show _ = _; simp
      have hlw : lb < wr.heap.size := lt_of_block lg.box
      clear hap lgb
      by_cases he : apE ls r = 0
      · have HN : Hid (apN ls r = (ls.length : Int) + 1) := by show _ = _; unfold apN; rw [if_pos he]
        have hL : apL ls r = ls ++ [nx ls r] := by unfold apL; rw [if_pos he]
        have HEN : Hid (ends (apL ls r) = ends ls ++ [((lfr (apL ls r)).length : Int)]) := by show _ = _; rw [hL]; exact ends_snoc ls _
        have hbig := WL2.out.big
        have hbl : (ends ls).length ≤ 65536 := by rw [ends_length]; exact WL.out.big
        rw [he] at hap0
        clear hL he
        go_wp2_with fail
        refine hap0.mono ?_
        clear hap0
        rintro e w2 ⟨rfl, rv2, lg2, f2, hrv2⟩
        clear q0 q1 q2 q3 q4 q5 q6 q7
        have ht2 := (ht.fr fb (fun _ _ f => f)).fr f2 (fun g e e2 => Or.elim e2 (fun e2 => by have := (HAP.out g e).1; omega) (fun e2 => (HAP.out g e).2 e2))
        have F2 := (F.seq' fb).trans f2 (S := fun _ => False) (fun i hi e => Or.elim e (fun e => by have := HLB.out; omega) (fun e => by have := HOW.out i e; have := HLB.out; omega))
        have hap2 : ∀ g, u8.ownBlock = some g → lb < g ∧ rv2.ownBlock ≠ some g := fun g e => ⟨(HAP.out g e).1, fun e2 => by
          rcases hrv2 with h1 | ⟨g2, h1, h2⟩
          · rw [h1] at e2; exact (HAP.out g e).2 e2
          · rw [h1] at e2; simp only [Option.some.injEq] at e2; have := HLT.out g e; have := HZB.out; omega⟩
        have HAP2 : Hid (∀ g, u8.ownBlock = some g → lb < g ∧ rv2.ownBlock ≠ some g) := hap2
        clear hap2 f2 hrv2
        have hby := bytes_lg lb rv2 (apL ls r) 0 w2 lg2 WL2.out
        have HO : Hid (octs (lfr (apL ls r))) := lfr_octs _
        have hfl := lfr_wl WL2.out (apL ls r).length
        rw [List.take_length] at hfl
        obtain ⟨L, hLd⟩ : ∃ L, L = lfr (apL ls r) := ⟨_, rfl⟩
        have HLD : Hid (L = lfr (apL ls r)) := hLd
        rw [← hLd] at hby HO hfl HEN
        clear hLd
        go_wp2_with fail
        refine hby.mono ?_
        clear hby
        rintro e w3 ⟨v3, rfl, m3⟩
        obtain ⟨a3, c3, rfl, r3⟩ := m3.own.row HO.out (by omega)
        have f3 := m3.fr
        have lg3 := lg2.same f3
        have ht3 := ht2.fr f3 (fun _ _ f => f)
        have F3 := F2.seq' f3
        clear m3 r3 lg2 ht2
        have fb3 := Fr.box w3 (.cells #[.int .i64 (L.length : Int)] 3)
        have ht4 := ht3.fr fb3 (fun _ _ f => f)
        have hnews : From (w3.alloc (.cells #[.int .i64 (L.length : Int)] 3)) (some ⟨w3.heap.size, 0, none⟩) (numC (L.length : Int)) := .inr ⟨_, _, rfl, range_block (heap_alloc_new w3 _) (fun j v hv => by rw [Nat.zero_add]; simpa [numC] using hv)⟩
        obtain ⟨ne, hne⟩ : ∃ ne, ne = (ends ls).length := ⟨_, rfl⟩
        have HNE : Hid (ne = (ends ls).length) := hne
        rw [← hne] at ht4 hbl
        clear hne
        go_wp2_with (at_builtin; refine wpList_append_has _ rfl (.tmp 43) (.tmp 47) 26 26 3 3 rfl iN (.int .i64 0) 1 8 Try.underlying26 Try.underlying26 M1.out M2.out M3.out M4.out rfl (by omega) u8 ne ((ends ls).flatMap numC) rfl ht4 (some ⟨w3.heap.size, 0, none⟩) 1 1 (numC (L.length : Int)) rfl rfl hnews (by simp [numC, Value.oneCell']) (by unfold maxLen; omega) (by omega) ?_; intro a5 c5 w5 ht5 f5 hat5)
        have hz3 : (w3.alloc (.cells #[.int .i64 (L.length : Int)] 3)).heap.size = w3.heap.size + 1 := by simp
        rw [hz3] at hat5
        have F5 := (F3.seq' fb3).trans f5 (S := fun _ => False) (fun i hi e => by have := (HAP2.out i e.1).1; have := HLB.out; omega)
        have lg5 := (lg3.same fb3).fr f5 (fun e => by have := (HAP2.out lb e.1).1; omega) (fun g e e2 => (HAP2.out g e2.1).2 e)
        have hlen : ne + 1 = (ends (apL ls r)).length := by rw [HEN.out, List.length_append, HNE.out]; rfl
        have ht6 : Has w5 1 (.slice a5 (ends (apL ls r)).length c5) (ends (apL ls r)).length ((ends (apL ls r)).flatMap numC) := by
          rw [← hlen, HEN.out, List.flatMap_append]
          simpa using ht5
        have hap5 : ∀ g, (Value.slice a5 (ends (apL ls r)).length c5).ownBlock = some g → lb < g ∧ rv2.ownBlock ≠ some g := fun g e => by
          have e' : (Value.slice a5 (ne + 1) c5).ownBlock = some g := by rw [hlen]; exact e
          rcases hat5 with h1 | h1
          · rw [h1] at e'; exact HAP2.out g e'
          · rw [h1] at e'; simp only [Option.some.injEq] at e'
            refine ⟨by have := F3.size; have := HLB.out; omega, fun e2 => ?_⟩
            have := lg3.has.lt e2
            omega
        rw [hlen]
        clear hlen ht5 hat5
        go_wp2
        go_roundw
        case rel => exact ⟨k + 1, apL ls r, rv2, _, by omega, by go_num, rfl, lg5, WL2, ht6, hap5, F5⟩
        case measure => simp [intOf]; omega
      · have hL : apL ls r = ls := by unfold apL; rw [if_neg he]
        have heb : (apE ls r == 0) = false := by simpa using he
        rw [hL] at hap0
        generalize apE ls r = er at *
        generalize apN ls r = nr at *
        clear he hL WL2
        go_wp2_with fail
        refine hap0.mono ?_
        clear hap0
        rintro e w2 ⟨rfl, rv2, lg2, f2, hrv2⟩
        clear q0 q1 q2 q3 q4 q5 q6 q7
        have ht2 := (ht.fr fb (fun _ _ f => f)).fr f2 (fun g e e2 => Or.elim e2 (fun e2 => by have := (HAP.out g e).1; omega) (fun e2 => (HAP.out g e).2 e2))
        have F2 := (F.seq' fb).trans f2 (S := fun _ => False) (fun i hi e => Or.elim e (fun e => by have := HLB.out; omega) (fun e => by have := HOW.out i e; have := HLB.out; omega))
        have hap2 : ∀ g, u8.ownBlock = some g → lb < g ∧ rv2.ownBlock ≠ some g := fun g e => ⟨(HAP.out g e).1, fun e2 => by
          rcases hrv2 with h1 | ⟨g2, h1, h2⟩
          · rw [h1] at e2; exact (HAP.out g e).2 e2
          · rw [h1] at e2; simp only [Option.some.injEq] at e2; have := HLT.out g e; have := HZB.out; omega⟩
        go_wp2
        go_roundw
        case rel => exact ⟨k + 1, ls, rv2, u8, by omega, by go_num, rfl, lg2, WL, ht2, hap2, F2⟩
        case measure => simp [intOf]; omega
    · have hel := ends_length ls
      obtain ⟨av, cv, rfl, _, _⟩ := ht.slice
      rw [hel] at ht ⊢
      have HT : Hid (∀ W, Fr (fun _ => False) wr W → Has W 1 (.slice av ls.length cv) ls.length ((ends ls).flatMap numC)) := fun W f => ht.fr f (fun _ _ f => f)
      have hbig := WL.out.big
      have hby := bytes_lg lb rv ls 0 wr lg WL.out
      have HO : Hid (octs (lfr ls)) := lfr_octs _
      have hfl := lfr_wl WL.out ls.length
      rw [List.take_length] at hfl
      have hts := torn_split ls WL.out
      obtain ⟨L, hLd⟩ : ∃ L, L = lfr ls := ⟨_, rfl⟩
      rw [← hLd] at hby HO hfl hts
      have HTS : Hid (∀ ct, ct ≤ L.length → ∃ k y, k ≤ ls.length ∧ L.take ct = lfr (ls.take k) ++ y ∧ (rdec y).2.2 ≠ 0 ∧ (lfr (ls.take k)).length ≤ ct ∧ (k < ls.length → ct < (lfr (ls.take (k + 1))).length)) := hts
      clear hLd hel hap ht hts HRS
      go_wp2_with fail
      refine hby.mono ?_
      clear hby
      rintro e w3 ⟨v3, rfl, m3⟩
      clear hlt hk
      obtain ⟨a3, c3, rfl, r3⟩ := m3.own.row HO.out (by omega)
      have f3 := m3.fr
      have lg3 := lg.same f3
      have F3 := F.seq' f3
      have HT3 : Hid (Has w3 1 (.slice av ls.length cv) ls.length ((ends ls).flatMap numC)) := HT.out w3 f3
      clear m3 lg HT f3
      obtain ⟨B, hB⟩ : ∃ B : Bool, B = decide (a1 < 0 ∨ (L.length : Int) < a1) := ⟨_, rfl⟩
      have HB : Hid (B = decide (a1 < 0 ∨ (L.length : Int) < a1)) := hB
      clear hB
      have hb1 := HB1.out
      go_upto_region 13 with fail
      go_cut [59] (fun b wc => b = .bool B ∧ w3 = wc)
      case first =>
        by_cases hneg : a1 < 0
        · have hBt : B = true := by rw [HB.out]; exact decide_eq_true (Or.inl hneg)
          subst hBt
          go_wp2
          go_meet
          exact ⟨rfl, rfl⟩
        · have hn0 : decide (a1 < 0) = false := decide_eq_false hneg
          by_cases hgt : (L.length : Int) < a1
          · have hb0 : decide ((L.length : Int) < a1) = true := decide_eq_true hgt
            have hBt : B = true := by rw [HB.out]; exact decide_eq_true (Or.inr hgt)
            subst hBt
            go_wp2
            go_meet
            exact ⟨by simp, rfl⟩
          · have hb0 : decide ((L.length : Int) < a1) = false := decide_eq_false hgt
            have hBf : B = false := by rw [HB.out]; exact decide_eq_false (by omega)
            subst hBf
            go_wp2
            go_meet
            exact ⟨by simp, rfl⟩
      case rest =>
      obtain ⟨rfl, rfl⟩ := hcut
      go_upto_if 59 with fail
      go_cut [1] (fun t wc => ∃ k : Nat, t = .int .i64 k ∧ k ≤ L.length ∧ w3 = wc)
      case first =>
        cases B
        · have hno : ¬ (a1 < 0 ∨ (L.length : Int) < a1) := of_decide_eq_false HB.out.symm
          go_wp2
          go_meet
          exact ⟨a1.toNat, val_int (by omega), by omega, rfl⟩
        · go_wp2
          go_meet
          exact ⟨L.length, rfl, by omega, rfl⟩
      case rest =>
      obtain ⟨ct, rfl, hct, rfl⟩ := hcut
      clear HB hb1 HB1
      obtain ⟨kk, y, hkk, hsp, hy, hcl, hcu⟩ := HTS.out ct hct
      have HEG : Hid (∀ i, i < ls.length → ((lfr (ls.take (i + 1))).length ≤ ct ↔ i < kk)) := fun i hi => by
        constructor
        · intro h1
          by_cases h2 : i < kk
          · exact h2
          · exfalso
            have := hcu (by omega)
            have := lfr_mono ls (kk + 1) (i + 1) (by omega)
            omega
        · intro h1
          have := lfr_mono ls (i + 1) kk (by omega)
          omega
      have WLK := wl_take WL.out kk
      have HWR : Hid (wread (L.take ct) = (ls.take kk, (lfr (ls.take kk)).length)) := by show _ = _; rw [hsp]; exact wread_torn _ WLK y hy
      have HKL : Hid ((ls.take kk).length = kk) := by show _ = _; rw [List.length_take]; omega
      have HKT : Hid (L.take (lfr (ls.take kk)).length = lfr (ls.take kk)) := by
        show _ = _
        have : (L.take ct).take (lfr (ls.take kk)).length = lfr (ls.take kk) := by rw [hsp, List.take_left']; rfl
        rwa [List.take_take, Nat.min_eq_left hcl] at this
      clear hcu hsp hy HTS
      have hctc : ct ≤ c3 := by have := r3.le; omega
      go_wp2
      go_loopw [64, 14] (fun i t wr => ∃ q m : Nat, q ≤ ls.length ∧ i = .int .i64 q ∧ t = .int .i64 m ∧ Hid (m = min q kk) ∧ w3 = wr)
        (fun i _ _ => ls.length - (intOf i).toNat)
      case atStart => exact ⟨0, 0, by omega, rfl, rfl, by show _ = _; omega, rfl⟩
      case round =>
        obtain ⟨q, m, hq, rfl, rfl, HM, rfl⟩ := hrel
        have hmq : m ≤ 65536 := by have := HM.out; omega
        by_cases hlt : q < ls.length
        · have hhk := HT3.out
          obtain ⟨g, cap, hv, _⟩ := hhk.form (by omega)
          simp only [Value.slice.injEq, true_and] at hv
          obtain ⟨rfl, rfl⟩ := hv
          have hce := hhk.elem numC_length (ends_get ls q hlt) 0 _ rfl
          simp only [Nat.mul_one, Nat.add_zero] at hce
          have hx := HEG.out q hlt
          obtain ⟨x, hxd⟩ : ∃ x, x = (lfr (ls.take (q + 1))).length := ⟨_, rfl⟩
          rw [← hxd] at hx hce
          clear hxd hhk
          by_cases hqk : q < kk
          · have hxc : (x : Int) ≤ (ct : Int) := by have := hx.2 hqk; omega
            have hm2 : m + 1 = min (q + 1) kk := by have := HM.out; omega
            clear hx
            go_wp2
            go_roundw
            case rel => exact ⟨q + 1, m + 1, by omega, by go_num, by go_num, hm2, trivial⟩
            case measure => simp [intOf]; omega
          · have hxc : ¬ (x : Int) ≤ (ct : Int) := fun h => hqk (hx.1 (by omega))
            have hm2 : m = min (q + 1) kk := by have := HM.out; omega
            clear hx
            go_wp2
            go_roundw
            case rel => exact ⟨q + 1, m, by omega, by go_num, rfl, hm2, trivial⟩
            case measure => simp [intOf]; omega
        · have hmk : m = kk := by have := HM.out; omega
          subst hmk
          clear HM HEG HT3
          obtain ⟨K, hKd⟩ : ∃ K, K = ls.take m := ⟨_, rfl⟩
          have HKD : Hid (K = ls.take m) := hKd
          rw [← hKd] at WLK HWR HKL HKT hcl
          clear hKd
          have HOK : Hid (octs (lfr K)) := lfr_octs _
          have HMO : Hid (∀ y, ∃ t n, wread (lfr K ++ y) = (K ++ t, (lfr K).length + n)) := fun y => wread_more K WLK y
          obtain ⟨G, hGd⟩ : ∃ G, G = lfr K := ⟨_, rfl⟩
          rw [← hGd] at HWR HKT hcl HOK HMO
          clear hGd
          have hctl : ct = (L.take ct).length := by rw [List.length_take]; omega
          have hrd := read_any a3 ct c3 (L.take ct) hctl w3 (r3.take ct)
          rw [HWR.out] at hrd
          dsimp only at hrd
          rw [HKL.out] at hrd
          obtain ⟨lb2, hlb2⟩ : ∃ lb2, lb2 = w3.heap.size := ⟨_, rfl⟩
          rw [← hlb2] at hrd
          have hctc2 : (ct : Int) ≤ (c3 : Int) := by omega
          clear hctl
          have HLB2 : Hid (lb2 = w3.heap.size) := hlb2
          clear hlb2
          go_wp2_with fail
          refine hrd.mono ?_
          clear hrd
          rintro e w4 ⟨rfl, rv4, l4, _, f4, _⟩
          have F4 := F3.seq' f4
          have x4 := lg3.same f4
          have r4 := r3.same f4
          clear lg3 r3 f4
          have hla := last_lg _ _ _ _ _ l4 WLK
          rw [HKL.out] at hla
          go_wp2_with fail
          refine hla.mono ?_
          clear hla
          rintro e w5 ⟨rfl, f5⟩
          clear hlt hq
          have F5 := F4.seq' f5
          have x5 := x4.same f5
          have l5 := l4.same f5
          have r5 := r4.same f5
          have hu : (G.length : Int) ≤ (ct : Int) := by omega
          have hgl : G.length ≤ 26214400 := by omega
          have HKB : Hid (K.length ≤ 65536) := WLK.big
          have hfy := from_lg 1 100000 ⟨by omega, by omega⟩ _ _ _ _ _ l5 HKB.out
          rw [frF_all K (by have := HKB.out; omega), HKL.out] at hfy
          have HFX : Hid (∀ W, Lg W lb rv ls 0 → Calls Try.prog 10 #[.pointer (some ⟨lb, 0, none⟩), .int .i64 1, .int .i64 (m : Int)] W fun e w' => ∃ a c, e = .returned (.slice a m c) ∧ Recs w' a c K ∧ Fr (fun _ => False) W w') := fun W h => by
            have := from_lg 1 (m : Int) ⟨by omega, by omega⟩ _ _ _ _ W h WL.out.big
            rw [frF_first, ← HKD.out, HKL.out] at this
            exact this
          clear x4 l4 r4 f5 hle hmx hbig
          go_wp2_with fail
          refine hfy.mono ?_
          clear hfy
          rintro e w6 ⟨a6, c6, rfl, k6, f6⟩
          have F6 := F5.seq' f6
          have x6 := x5.same f6
          have l6 := l5.same f6
          have r6 := r5.same f6
          clear x5 l5 r5 f6
          go_wp2_with fail
          refine (HFX.out _ x6).mono ?_
          rintro e w7 ⟨a7, c7, rfl, k7, f7⟩
          have F7 := F6.seq' f7
          have x7 := x6.same f7
          have l7 := l6.same f7
          have r7 := r6.same f7
          have k67 := k6.same f7
          clear x6 l6 r6 f7 k6
          have hpl := plain_recs a6 a7 m m c6 c7 K HKL.out.symm HKL.out.symm _ k67 k7
          go_wp2_with fail
          refine hpl.mono ?_
          clear hpl
          rintro e w8 ⟨rfl, f8⟩
          have F8 := F7.seq' f8
          have x8 := x7.same f8
          have l8 := l7.same f8
          have r8 := r7.same f8
          clear x7 l7 r7 f8 k67 k7
          have hfd := flushed_lg _ _ _ _ _ l8
          go_wp2_with fail
          refine hfd.mono ?_
          clear hfd
          rintro e w9 ⟨rfl, rfl⟩
          clear l8
          have hu2 : (G.length : Int) ≤ (c3 : Int) := by omega
          have rg := r8.take G.length
          rw [HKT.out] at rg
          have hi := HI.out.1
          have hz0 := HI.out.2.1
          have hz1 := HI.out.2.2.1
          have hz2 := HI.out.2.2.2
          rename World => W9
          go_wp2_with (first
            | (at_builtin; refine wpList_append_row _ rfl (.tmp 109) (.tmp 112) 23 23 5 rfl i0 Try.underlying23 Try.underlying23 hi hz0 hz1 hz2 W9.heap.size (.slice none 0 0) [] rfl (World.ownsRow_nil _ _ _ _) a3 G.length c3 G rfl rfl rg (by simp; omega) (Nat.le_refl _) ?_; intro a10 c10 w10 hown10 hgrow10 hat10; have m10 : Mine w10 W9.heap.size (.slice a10 G.length c10) G := (by simpa using hown10); have f10 : Fr (fun _ => False) W9 w10 := Fr.ofGrown hgrow10; clear hown10 hat10)
            | (at_builtin; refine wpList_append_rowW _ rfl (.tmp 114) (.tmp 115) 23 23 5 rfl i0 Try.underlying23 Try.underlying23 hi hz0 hz1 hz2 W9.heap.size (.slice a10 G.length c10) G rfl m10 a2 l2.length cap2 l2 rfl rfl (HR2.out _ (F8.seq' f10)) (by omega) f10.size ?_; intro a11 c11 w11 m11 hgrow11; have f11 := f10.fresh hgrow11 (fun k e => (m10.lt k e).1)))
          have hb2 := (HR2.out _ (F8.seq' f10)).byte
          have hoc : octs (G ++ l2) := fun x hx => by
            rcases List.mem_append.1 hx with h | h
            · exact HOK.out x h
            · exact hb2 x h
          obtain ⟨a12, c12, he12, r12⟩ := m11.rowW hoc (by rw [List.length_append]; omega)
          simp only [Value.slice.injEq] at he12
          obtain ⟨rfl, _, rfl⟩ := he12
          obtain ⟨t, n, hwm⟩ := HMO.out l2
          have hrd := read_any a11 (G.length + l2.length) c11 (G ++ l2) (by rw [List.length_append]) w11 r12
          rw [hwm] at hrd
          dsimp only at hrd
          have F11 := F8.seq' f11
          have x11 := x8.same f11
          have HZ : Hid (frF (K ++ t) 1 (m : Int) = K) := by
            show _ = _
            rw [frF_first, List.take_append_of_le_length (by have := HKL.out; omega), List.take_of_length_le (by have := HKL.out; omega)]
          have hzl : (m : Int) ≤ ((K ++ t).length : Int) := by rw [List.length_append]; have := HKL.out; omega
          obtain ⟨Z, hZd⟩ : ∃ Z, Z = K ++ t := ⟨_, rfl⟩
          rw [← hZd] at hrd HZ hzl
          obtain ⟨s, hsd⟩ : ∃ s, s = G.length + n := ⟨_, rfl⟩
          rw [← hsd] at hrd
          have hsl : (G.length : Int) ≤ (s : Int) := by omega
          clear hZd hsd hwm hoc m11 hgrow11 x8 r8 rg r12 m10 hgrow10 hi hz0 hz1 hz2
          obtain ⟨lb3, hlb3⟩ : ∃ lb3, lb3 = w11.heap.size := ⟨_, rfl⟩
          rw [← hlb3] at hrd
          clear hlb3
          refine hrd.mono ?_
          clear hrd
          rintro e w12 ⟨rfl, rv12, l12, wl12, f12, _⟩
          have F12 := F11.seq' f12
          have x12 := x11.same f12
          clear x11 f12
          have hla := last_lg _ _ _ _ _ l12 wl12
          dsimp only
          go_wp2_with fail
          refine hla.mono ?_
          clear hla
          rintro e w13 ⟨rfl, f13⟩
          dsimp only
          have F13 := F12.seq' f13
          have x13 := x12.same f13
          have l13 := l12.same f13
          clear x12 l12 f13
          have hfy := from_lg 1 (m : Int) ⟨by omega, by omega⟩ _ _ _ _ _ l13 wl12.big
          rw [HZ.out, HKL.out] at hfy
          go_wp2_with fail
          refine hfy.mono ?_
          clear hfy
          rintro e w14 ⟨a14, c14, rfl, k14, f14⟩
          dsimp only
          have F14 := F13.seq' f14
          have x14 := x13.same f14
          clear x13 l13 f14
          go_wp2_with fail
          refine (HFX.out _ x14).mono ?_
          rintro e w15 ⟨a15, c15, rfl, k15, f15⟩
          dsimp only
          have F15 := F14.seq' f15
          have k145 := k14.same f15
          clear x14 f15 k14
          have hpl := plain_recs a14 a15 m m c14 c15 K HKL.out.symm HKL.out.symm _ k145 k15
          go_wp2_with fail
          refine hpl.mono ?_
          clear hpl
          rintro e w16 ⟨rfl, f16⟩
          dsimp only
          have F16 := F15.seq' f16
          go_wp2_with fail
          refine (wspeaks_any _).mono ?_
          rintro e w17 ⟨rfl, f17⟩
          dsimp only
          go_wp2
          go_ret
          exact ⟨rfl, F16.seq' f17⟩

set_option maxRecDepth 100000 in
theorem lifted (os : Os) (started : os.Started) (H : Type) (enc : TypeId × Value → H) :
    ReturnsInHanded {} Try.checked os 3 .any (Rows.walTornSpec.pre6 enc Try.prog Try.f3 Rows.walTornRow.domain false) (Rows.walTornSpec.post enc Try.prog Try.f3 false true false false) := by
  refine returnsInHanded_of_change_sized (C := Try.checked) own started (by kernel_rfl) Try.func3
    (ChangeSpec.witness6 (enc := enc) (C := Try.checked) false ⟨#[], #[.slice none 0 0, .int .i64 0, .slice none 0 0], []⟩ 8 (by kernel_rfl) (by kernel_rfl) (by kernel_rfl) (by kernel_rfl)) ?_
  intro W base args ds gs before hval0 hW hcnd hsz0 _
  have hsz : (DataW.weightsEach Try.prog (Try.f3.params.toList ++ Rows.walTornSpec.plain.varTypes Try.prog) (ds ++ gs)).all (· ≤ reachBytes) = true := hsz0
  clear hsz0
  have hval : ∀ (j : Nat) t v, Try.f3.params[j]? = some t → args[j]? = some v → Value.okWide Try.prog W .any base t v := hval0
  have hW' := hW
  obtain ⟨p, q, hA0, hV, rfl, hfz, hnd⟩ := hW
  have hA : DataW.TrodAll enc Try.prog W 0 (fun _ => true) true Try.f3.params.toList args.toList ds p := hA0
  rw [Try.params3] at hA hval hsz
  obtain ⟨v0, vs0, d0, ds0, p0, q0, hargs, rfl, rfl, h0, r0⟩ := trodAll_cons hA
  obtain ⟨v1, vs1, d1, ds1, p1, q1, rfl, rfl, rfl, h1, r1⟩ := trodAll_cons r0
  obtain ⟨v2, vs2, d2, ds2, p2, q2, rfl, rfl, rfl, h2, r2⟩ := trodAll_cons r1
  obtain ⟨rfl, rfl, rfl⟩ := trodAll_nil r2
  obtain rfl : args = #[v0, v1, v2] := by cases args; simp_all
  obtain ⟨rfl, rfl⟩ := trodVars_none hV
  obtain ⟨a0, len0, cap0, rfl⟩ := okWide_slice Try.underlying22 (hval 0 22 v0 rfl rfl)
  have k0 := h0
  have lt0 : ∀ x ∈ p0, x.block < W.heap.size := by obtain ⟨m, hm⟩ := k0; exact DataW.trod_lt m _ _ _ hm
  obtain ⟨ls0, hl0, hr0⟩ : ∃ ls : List Rec, len0 = ls.length ∧ Recs W a0 cap0 ls := by
    obtain ⟨fuel, hf⟩ := h0
    obtain ⟨ls, e1, e2, e3⟩ := recs_open hf
    exact ⟨ls, e1, e2⟩
  obtain ⟨a2, len2, cap2, rfl⟩ := okWide_slice Try.underlying23 (hval 2 23 v2 rfl rfl)
  have k2 := h2
  have lt2 : ∀ x ∈ p2, x.block < W.heap.size := by obtain ⟨m, hm⟩ := k2; exact DataW.trod_lt m _ _ _ hm
  obtain ⟨l2, hl2, z2, hr2⟩ : ∃ l : List Nat, len2 = l.length ∧ cap2 ≤ 140737488351232 ∧ Row W a2 cap2 l := by
    obtain ⟨fuel, hf⟩ := h2
    rcases open_ints Try.underlying23 Try.underlying5 (by kernel_rfl) hf with ⟨hcs, _⟩ | ⟨x, l, c, zs, hcs, _, hl, hm, hz, hx, hcell, hwz⟩
    · simp [Value.cells] at hcs
      obtain ⟨rfl, rfl, rfl⟩ := hcs
      exact ⟨[], rfl, by omega, row_nil _ _⟩
    · simp [Value.cells] at hcs
      obtain ⟨rfl, rfl, rfl⟩ := hcs
      have hz' : zs.length = cap2 := by simpa using hz
      have hd : d2 = .slice (lits .u8 (zs.take len2)) (lits .u8 (zs.drop len2)) := congrArg Prod.fst hx
      have hcap : cap2 ≤ 140737488351232 := by
        have := sized_slice hsz (j := 2) (t := 23) (e := 5) rfl (by rw [hd]; rfl) Try.underlying23
        rw [bytes8] at this
        simp only [lits, List.length_map, List.length_take, List.length_drop, reachBytes] at this
        omega
      obtain ⟨l, h1, h2⟩ := row_of_ints hl (Nat.le_trans hcap (by omega)) hz' hcell hwz
      exact ⟨l, h1, hcap, h2⟩
  obtain ⟨a1, rfl, rfl, rfl, w1⟩ := open_int Try.underlying3 (hval 1 3 v1 rfl rfl) h1
  clear hA0 hval0
  refine (walk W a0 len0 cap0 ls0 hl0 hr0 a1 w1 a2 len2 cap2 l2 hl2 z2 hr2).mono fun e W' ⟨he, fr⟩ => ?_
  have bel : Below W.heap.size W W' := fr.below (Nat.le_refl _) (fun _ f => f.elim)
  subst he
  exact ⟨_, rfl, _, _, _, [], _, [], hW', trodAll_mk1 (shut_bool Try.underlying4 _), (trodAll_cons_mk (Below.trod laidOut (by kernel_rfl) (of_decide_eq_true (by kernel_rfl)) k0 bel lt0) (trodAll_cons_mk (shut_int Try.underlying3 w1) (trodAll_cons_mk (Below.trod laidOut (by kernel_rfl) (of_decide_eq_true (by kernel_rfl)) k2 bel lt2) trodAll_mk0))), rfl, bel.frame _, fun h => by cases h⟩

theorem proved : Rows.WalTornSaid :=
  OpenClaim.holds_of_wide 3 Try.f3 rfl rfl rfl rfl rfl rfl rfl ⟨rfl, rfl, rfl, rfl, rfl⟩ rfl rfl rfl rfl rfl (by kernel_rfl) Try.func3 (by kernel_rfl)
    (of_decide_eq_true (by kernel_rfl)) (by unfold Func.isWrapper; first | (rw [if_pos (by decide +kernel)]; kernel_rfl) | (rw [if_neg (by decide +kernel)]; exact ⟨rfl, rfl⟩))
    (fun os started H enc _ => lifted os started H enc)
end Go.Proofs.Ytcmkpmilnplhmaa.walTorn
namespace Go.Proofs.Ytcmkpmilnplhmaa
theorem walTorn_holds : Rows.WalTornSaid := walTorn.proved
#print axioms walTorn_holds
end Go.Proofs.Ytcmkpmilnplhmaa
