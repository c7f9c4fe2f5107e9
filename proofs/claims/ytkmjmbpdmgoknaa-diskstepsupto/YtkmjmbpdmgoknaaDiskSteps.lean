
/- For every number and every list of steps of up to 1048576 values latticelaw03.DiskSteps answers true: every disk, step by step, what is seen, what lasts, what waits (3.1 to 3.3). -/
import Derived.Test.YtkmjmbpdmgoknaaArgs
import Derived.Test.YtkmjmbpdmgoknaaBulk
import Derived.JoinedCond
import Derived.Test.YtkmjmbpdmgoknaaDsPair
import Derived.Test.YtkmjmbpdmgoknaaDsSame
import Derived.Test.YtkmjmbpdmgoknaaSteps
import Derived.Deep.RegionHeld
import Derived.Deep.RegionHeld3
namespace Go.Proofs.Ytkmjmbpdmgoknaa.diskSteps
open Go.ChangeShapes Go.WideShapes Go.ChangeAt Go.RowKit
open Go.ChangeMaps (open_string shut_string)
set_option linter.unusedVariables false

theorem own : ownKnob Try.prog.godebug = none := by kernel_rfl
theorem laidOut : laidOutB Try.prog = true := by kernel_rfl
theorem bytes8 : Try.prog.bytesOf 5 = 1 := by kernel_rfl

theorem As_new (n : Nat) : As (List.replicate n (none, zeroSec)) = List.replicate n zeroSec := by simp [As]
theorem wrS_len (L : List Sec) (Q : List (Nat × Sec)) (i : Int) (l : List Nat) : (wrS L Q i l).2.length ≤ Q.length + 1 := by
  unfold wrS
  split
  · simp
  · split <;> simp
theorem crS_len (L : List Sec) (Q : List (Nat × Sec)) (k t : Int) : (crS L Q k t).2.2.length ≤ Q.length := by
  unfold crS
  split <;> simp
theorem crS_sync (L : List Sec) (Q : List (Nat × Sec)) : crS L Q Q.length 0 = (0, doAll L Q, []) := by
  unfold crS
  rw [if_neg (by omega), Int.toNat_natCast, crashed_all]

set_option maxRecDepth 100000 in
set_option maxHeartbeats 16000000 in
theorem walk (w : World) (sectors : Int) (w0 : (Lit.int .i64 sectors).wf = true) (a1 : Option Addr) (len1 cap1 : Nat) (ss1 : List St) (hl1 : len1 = ss1.length) (z1 : ss1.length ≤ 1048576) (hr1 : Steps w a1 cap1 ss1) :
    Calls Try.prog 3 #[.int .i64 sectors, .slice a1 len1 cap1] w fun e w' => e = .returned (.bool true) ∧ Fr (fun _ => False) w w' := by
  clear w0
  obtain ⟨n, hn⟩ : ∃ n, n = ss1.length := ⟨_, rfl⟩
  have HN : Hid (n = ss1.length) := hn
  rw [← hn] at z1
  rw [hl1, ← hn]
  clear hl1 hn
  by_cases hbad : sectors < 1 ∨ 8192 < sectors
  · have HB : Hid (sectors < 1 ∨ 8192 < sectors) := hbad
    clear hbad
    go_enter Try.func3, Try.ntmps3
    go_wp2_with fail
    refine (dnew_bad sectors HB.out _).mono ?_
    rintro e w1 ⟨rfl, rfl⟩
    go_wp2_with fail
    refine (dsnew_bad sectors HB.out _).mono ?_
    rintro e w1 ⟨rfl, rfl⟩
    go_wp2_with fail
    refine (dspeaks_any _).mono ?_
    rintro e w2 ⟨rfl, f2⟩
    go_wp2
    go_ret
    exact ⟨rfl, f2⟩
  obtain ⟨m, rfl⟩ : ∃ m : Nat, sectors = m := ⟨sectors.toNat, by omega⟩
  have hm1 : 1 ≤ m := by omega
  have hm2 : m ≤ 8192 := by omega
  have hm1' : (1 : Int) ≤ (m : Int) := by omega
  have hm2' : (m : Int) ≤ 8192 := by omega
  clear hbad
  go_enter Try.func3, Try.ntmps3
  go_wp2_with fail
  refine (dnew_ok m hm1 hm2 _).mono ?_
  rintro e w1 ⟨rfl, k1, f1⟩
  have d1 := DkA.new k1 f1
  clear k1 f1
  generalize w.heap.size + 1 = db at d1 ⊢
  generalize Value.slice (some ⟨w.heap.size, 0, none⟩) m m = lv at d1
  go_wp2_with fail
  refine (dsnew_ok m hm1 hm2 _).mono ?_
  rintro e w2 ⟨rfl, r2, f2⟩
  have hP : Both w w2 db lv (.slice none 0 0) (As (List.replicate m (none, zeroSec))) (Bs []) (w1.heap.size + 1) (.slice (some ⟨w1.heap.size, 0, none⟩) m m) (.slice none 0 0) (List.replicate m (none, zeroSec)) [] := by
    have hlow : w.heap.size ≤ w1.heap.size := d1.fr.size
    have hr : ∀ k, rkS (w1.heap.size + 1) (.slice (some ⟨w1.heap.size, 0, none⟩) m m) (.slice none 0 0) k → w1.heap.size ≤ k := fun k hk => by
      rcases hk with e | e | e
      · omega
      · simp [Value.ownBlock] at e; omega
      · cases e
    refine ⟨by rw [As_new]; exact d1.same f2, r2, fun k hk => by have := hr k hk; omega, fun k hk e => by have := d1.dk.lt hk; have := hr k e; omega, fun k hk e => ?_⟩
    rcases e with ⟨p, hp, e⟩ | ⟨q, hq, _⟩
    · obtain ⟨_, rfl⟩ := List.mem_replicate.1 hp
      cases e
    · cases hq
  clear r2 f2 d1
  generalize Value.slice (some ⟨w1.heap.size, 0, none⟩) m m = lx at hP
  generalize w1.heap.size + 1 = rb at hP ⊢
  go_wp2
  go_loopw [36] (fun t wr => ∃ (k : Nat) (wv qx : Value) (A : List (Option Nat × Sec)) (B : List (Nat × Nat × Sec)), k ≤ n ∧ B.length ≤ k ∧ t = .int .i64 k ∧ Both w wr db lv wv (As A) (Bs B) rb lx qx A B)
    (fun t _ => n - (intOf t).toNat)
  case atStart => exact ⟨0, _, _, _, [], by omega, by simp, rfl, hP⟩
  case round =>
  clear hP
  obtain ⟨k, wv, qx, A, B, hk, hBk, rfl, hP⟩ := hrel
  by_cases hlt : k < n
  · obtain ⟨st, hst⟩ : ∃ st, ss1[k]? = some st := ⟨_, List.getElem?_eq_getElem (by rw [← HN.out]; exact hlt)⟩
    have hS := hr1.same hP.d.fr
    have hmem := List.mem_of_getElem? hst
    have hrow0 := hr1.row st hmem
    rcases hS.at_ with h0 | ⟨b, off, ha0, hb, hcell⟩
    · rw [h0] at hst; cases hst
    obtain ⟨c0, c1, c2, c3⟩ := hcell k st hst
    subst ha0
    have hki : (k : Int) < (n : Int) := by omega
    obtain ⟨kk, aa, cc, ad, cp, l⟩ := st
    simp only at c0 c1 c2 c3 hrow0
    obtain ⟨OB, hOB⟩ : ∃ x, x = Obj.cells #[.int .i64 kk, .int .i64 aa, .int .i64 cc, .slice ad l.length cp] 33 := ⟨_, rfl⟩
    have fW : Fr (fun _ => False) wr (wr.alloc (.cells #[.int .i64 kk, .int .i64 aa, .int .i64 cc, .slice ad l.length cp] 33)) := (Fr.refl (fun _ => False) wr).alloc _
    have hW := hP.same fW
    have hbS := heap_alloc_new wr (.cells #[.int .i64 kk, .int .i64 aa, .int .i64 cc, .slice ad l.length cp] 33)
    have hoD : ¬ dkS db lv wv wr.heap.size := fun e => Nat.lt_irrefl _ (hP.d.dk.lt e)
    have hoR : ¬ rkS rb lx qx wr.heap.size := fun e => Nat.lt_irrefl _ (hP.r.lt e)
    have hzS := lt_of_block hbS
    clear hS hcell hst hmem hOB OB fW hP
    by_cases hk0 : kk = 0
    · subst hk0
      have fd : Fr (fun _ => False) (wr.alloc (.cells #[.int .i64 0, .int .i64 aa, .int .i64 cc, .slice ad l.length cp] 33)) ((wr.alloc (.cells #[.int .i64 0, .int .i64 aa, .int .i64 cc, .slice ad l.length cp] 33)).drew) := (Fr.refl (fun _ => False) _).drew
      have hWd := hW.same fd
      have hbd : (wr.alloc (.cells #[.int .i64 0, .int .i64 aa, .int .i64 cc, .slice ad l.length cp] 33)).drew.heap[wr.heap.size]? = some (.cells #[.int .i64 0, .int .i64 aa, .int .i64 cc, .slice ad l.length cp] 33 (0, 0)) := hbS
      have q1 := cell_at hbd 1
      have q2 := cell_at hbd 2
      have q3 := cell_at hbd 3
      simp only [List.getElem?_toArray, List.getElem?_cons_zero, List.getElem?_cons_succ] at q1 q2 q3
      have hrd : l.length ≤ 65535 → Row ((wr.alloc (.cells #[.int .i64 0, .int .i64 aa, .int .i64 cc, .slice ad l.length cp] 33)).drew) ad cp l := fun h => (hrow0 h).same hWd.d.fr
      clear hW
      go_wp2_with fail
      go_region_held (fun W => W.cell? ⟨wr.heap.size, 1, none⟩ = some (.int .i64 aa) ∧ W.cell? ⟨wr.heap.size, 2, none⟩ = some (.int .i64 cc) ∧ W.cell? ⟨wr.heap.size, 3, none⟩ = some (.slice ad l.length cp))
        (first | exact ⟨q1, q2, q3⟩ | exact ⟨q1a, q2a, q3a⟩ | exact ⟨q1b, q2b, q3b⟩)
        (first
          | (go_at_call 7; refine (write_all db lv wv (As A) (Bs B) _ hWd.d.dk aa ad cp l hrd (by rw [Bs_length]; omega)).mono ?_; rintro e w5 ⟨rfl, wv5, k5, f5, o5⟩; have h5 := hWd.goD k5 f5 o5; have b5 := f5.block_eq hbd hoD; have q1a := cell_at b5 1; have q2a := cell_at b5 2; have q3a := cell_at b5 3; simp only [List.getElem?_toArray, List.getElem?_cons_zero, List.getElem?_cons_succ] at q1a q2a q3a)
          | (go_at_call 8; refine (dswrite_all rb lx qx A B _ h5.r aa ad cp l (fun h => (hrow0 h).same h5.d.fr) (by omega)).mono ?_; rintro e w6 ⟨rfl, qx6, B6, k6, e6, f6, o6, s6⟩; have h6 := h5.goR k6 f6 o6 s6; have b6 := f6.block_eq b5 hoR; have q1b := cell_at b6 1; have q2b := cell_at b6 2; have q3b := cell_at b6 3; simp only [List.getElem?_toArray, List.getElem?_cons_zero, List.getElem?_cons_succ] at q1b q2b q3b))
      all_goals
        have hBT : B6.length ≤ k + 1 := by
          have h1 := wrS_len (As A) (Bs B) aa l
          rw [← e6, Bs_length, Bs_length] at h1; omega
        rw [← e6] at h6
        have hX := h6
        generalize (wrS (As A) (Bs B) aa l).1 = rr at *
        have hT := hX
        have qT : w6.cell? ⟨wr.heap.size, 1, none⟩ = some (.int .i64 aa) := q1b
        clear h6 h5 e6 k5 k6 f5 f6 o5 o6 s6 b5 b6 hWd hbd hbS q1 q2 q3 q1a q2a q3a q1b q2b q3b hrd hoD hoR hX
        go_wp2_with (go_at_call 12; refine (same_all db lv _ _ _ rb lx _ _ _ _ hT.d.dk hT.r rfl rfl _).mono ?_; rintro e wT ⟨rfl, fT⟩; replace hT := hT.same fT)
        go_roundw
        case rel => exact ⟨k + 1, _, _, _, _, by omega, hBT, by go_num, hT⟩
        case measure => simp [intOf]; omega
    have hk0' : (kk == 0) = false := by simpa using hk0
    by_cases hk1 : kk = 1
    · subst hk1
      have p1 := cell_at hbS 1
      simp only [List.getElem?_toArray, List.getElem?_cons_zero, List.getElem?_cons_succ] at p1
      go_wp2_with fail
      refine (sync_all db lv wv (As A) (Bs B) _ hW.d.dk).mono ?_
      rintro e w5 ⟨rfl, wv5, k5, f5, o5⟩
      have h5 := hW.goD k5 f5 o5
      have b5 := f5.block_eq hbS hoD
      have q5 := h5.r.cell1
      obtain ⟨aq, cq, rfl, _⟩ := h5.r.waits.slice
      clear k5 f5 o5 hbS
      go_wp2_with fail
      refine (dscrash_all rb lx _ A B _ h5.r _ _).mono ?_
      rintro e w6 ⟨rfl, qx6, A6, B6, k6, e6, e7, f6, o6, s6⟩
      have h6 := h5.goR k6 f6 o6 s6
      have b6 := f6.block_eq b5 hoR
      have q1b := cell_at b6 1
      simp only [List.getElem?_toArray, List.getElem?_cons_zero, List.getElem?_cons_succ] at q1b
      have e8 : crS (As A) (Bs B) (B.length : Int) 0 = (0, doAll (As A) (Bs B), []) := by
        have := crS_sync (As A) (Bs B)
        rwa [Bs_length] at this
      have hBT : B6.length ≤ k + 1 := by
        rw [e8] at e7
        rw [← Bs_length, e7]; simp
      rw [e8] at e6 e7 ⊢
      simp only at e6 e7
      rw [← e6, ← e7] at h6
      have hX := h6
      have hT := hX
      have qT : w6.cell? ⟨wr.heap.size, 1, none⟩ = some (.int .i64 aa) := q1b
      clear h6 h5 e6 e7 e8 k6 f6 o6 s6 b5 b6 q1b p1 q5 hoD hoR hX hW
      go_wp2_with (go_at_call 12; refine (same_all db lv _ _ _ rb lx _ _ _ _ hT.d.dk hT.r rfl rfl _).mono ?_; rintro e wT ⟨rfl, fT⟩; replace hT := hT.same fT)
      go_roundw
      case rel => exact ⟨k + 1, _, _, _, _, by omega, hBT, by go_num, hT⟩
      case measure => simp [intOf]; omega
    have hk1' : (kk == 1) = false := by simpa using hk1
    by_cases hk2 : kk = 2
    · subst hk2
      have fd : Fr (fun _ => False) (wr.alloc (.cells #[.int .i64 2, .int .i64 aa, .int .i64 cc, .slice ad l.length cp] 33)) ((wr.alloc (.cells #[.int .i64 2, .int .i64 aa, .int .i64 cc, .slice ad l.length cp] 33)).drew) := (Fr.refl (fun _ => False) _).drew
      have hWd := hW.same fd
      have hbd : (wr.alloc (.cells #[.int .i64 2, .int .i64 aa, .int .i64 cc, .slice ad l.length cp] 33)).drew.heap[wr.heap.size]? = some (.cells #[.int .i64 2, .int .i64 aa, .int .i64 cc, .slice ad l.length cp] 33 (0, 0)) := hbS
      have q1 := cell_at hbd 1
      have q2 := cell_at hbd 2
      have q3 := cell_at hbd 3
      simp only [List.getElem?_toArray, List.getElem?_cons_zero, List.getElem?_cons_succ] at q1 q2 q3
      clear hW
      go_wp2_with fail
      go_region_held (fun W => W.cell? ⟨wr.heap.size, 1, none⟩ = some (.int .i64 aa) ∧ W.cell? ⟨wr.heap.size, 2, none⟩ = some (.int .i64 cc) ∧ W.cell? ⟨wr.heap.size, 3, none⟩ = some (.slice ad l.length cp))
        (first | exact ⟨q1, q2, q3⟩ | exact ⟨q1a, q2a, q3a⟩ | exact ⟨q1b, q2b, q3b⟩)
        (first
          | (go_at_call 11; refine (crash_all db lv wv (As A) (Bs B) _ hWd.d.dk aa cc).mono ?_; rintro e w5 ⟨rfl, wv5, k5, f5, o5⟩; have h5 := hWd.goD k5 f5 o5; have b5 := f5.block_eq hbd hoD; have q1a := cell_at b5 1; have q2a := cell_at b5 2; have q3a := cell_at b5 3; simp only [List.getElem?_toArray, List.getElem?_cons_zero, List.getElem?_cons_succ] at q1a q2a q3a)
          | (go_at_call 10; refine (dscrash_all rb lx qx A B _ h5.r aa cc).mono ?_; rintro e w6 ⟨rfl, qx6, A6, B6, k6, e6, e7, f6, o6, s6⟩; have h6 := h5.goR k6 f6 o6 s6; have b6 := f6.block_eq b5 hoR; have q1b := cell_at b6 1; have q2b := cell_at b6 2; have q3b := cell_at b6 3; simp only [List.getElem?_toArray, List.getElem?_cons_zero, List.getElem?_cons_succ] at q1b q2b q3b))
      all_goals
        have hBT : B6.length ≤ k + 1 := by
          have h1 := crS_len (As A) (Bs B) aa cc
          rw [← e7, Bs_length, Bs_length] at h1; omega
        rw [← e6, ← e7] at h6
        have hX := h6
        generalize (crS (As A) (Bs B) aa cc).1 = rr at *
        have hT := hX
        have qT : w6.cell? ⟨wr.heap.size, 1, none⟩ = some (.int .i64 aa) := q1b
        clear h6 h5 e6 e7 k5 k6 f5 f6 o5 o6 s6 b5 b6 hWd hbd hbS q1 q2 q3 q1a q2a q3a q1b q2b q3b hoD hoR hX
        go_wp2_with (go_at_call 12; refine (same_all db lv _ _ _ rb lx _ _ _ _ hT.d.dk hT.r rfl rfl _).mono ?_; rintro e wT ⟨rfl, fT⟩; replace hT := hT.same fT)
        go_roundw
        case rel => exact ⟨k + 1, _, _, _, _, by omega, hBT, by go_num, hT⟩
        case measure => simp [intOf]; omega
    have hk2' : (kk == 2) = false := by simpa using hk2
    have p1 := cell_at hbS 1
    simp only [List.getElem?_toArray, List.getElem?_cons_zero, List.getElem?_cons_succ] at p1
    have hBT : B.length ≤ k + 1 := by omega
    have hX := hW
    have hT := hX
    have qT : (wr.alloc (.cells #[.int .i64 kk, .int .i64 aa, .int .i64 cc, .slice ad l.length cp] 33)).cell? ⟨wr.heap.size, 1, none⟩ = some (.int .i64 aa) := p1
    clear hX hoD hoR
    go_wp2_with (go_at_call 12; refine (same_all db lv _ _ _ rb lx _ _ _ _ hT.d.dk hT.r rfl rfl _).mono ?_; rintro e wT ⟨rfl, fT⟩; replace hT := hT.same fT)
    go_roundw
    case rel => exact ⟨k + 1, _, _, _, _, by omega, hBT, by go_num, hT⟩
    case measure => simp [intOf]; omega
  have hkn : n = k := by omega
  subst hkn
  clear hlt
  go_wp2_with fail
  refine (dspeaks_any _).mono ?_
  rintro e w9 ⟨rfl, f9⟩
  go_wp2
  go_ret
  exact ⟨rfl, hP.d.fr.false_trans f9⟩

set_option maxRecDepth 100000 in
theorem lifted (os : Os) (started : os.Started) (H : Type) (enc : TypeId × Value → H) (F : Stop.Interp) :
    ReturnsInHanded {} Try.checked os 3 .any ((Rows.OpenSpec.upto Rows.diskStepsSpec).pre6 enc Try.prog Try.f3 Rows.diskStepsUptoRow.domain false) (((Rows.OpenSpec.upto Rows.diskStepsSpec).at F).post enc Try.prog Try.f3 false true false false) := by
  refine returnsInHanded_of_cond (C := Try.checked) (s := Rows.OpenSpec.upto Rows.diskStepsSpec) (k := Rows.uptoSmall) rfl own started (by kernel_rfl) Try.func3
    (OpenSpec.witness (enc := enc) (C := Try.checked) (s := Rows.OpenSpec.upto Rows.diskStepsSpec) (k := Rows.uptoSmall) rfl false ⟨#[], #[.int .i64 0, .slice none 0 0], []⟩ 8 (by kernel_rfl) (by kernel_rfl) (by kernel_rfl)
      (x := ([.lit (.int .i64 0), .nil], [], [])) (by kernel_rfl) rfl (by kernel_rfl)) ?_
  intro W base args ds gs before hval0 hW hcnd hk0 _
  have hbulk : Rows.uptoBulkAll (ds ++ gs) ≤ 1048576 := of_decide_eq_true hk0
  clear hk0
  have hval : ∀ (j : Nat) t v, Try.f3.params[j]? = some t → args[j]? = some v → Value.okWide Try.prog W .any base t v := hval0
  have hW' := hW
  obtain ⟨p, q, hA0, hV, rfl, hfz, hnd⟩ := hW
  have hA : DataW.TrodAll enc Try.prog W 0 (fun _ => true) true Try.f3.params.toList args.toList ds p := hA0
  rw [Try.params3] at hA hval
  obtain ⟨v0, vs0, d0, ds0, p0, q0, hargs, rfl, rfl, h0, r0⟩ := trodAll_cons hA
  obtain ⟨v1, vs1, d1, ds1, p1, q1, rfl, rfl, rfl, h1, r1⟩ := trodAll_cons r0
  obtain ⟨rfl, rfl, rfl⟩ := trodAll_nil r1
  obtain rfl : args = #[v0, v1] := by cases args; simp_all
  obtain ⟨rfl, rfl⟩ := trodVars_none hV
  obtain ⟨a1, len1, cap1, rfl⟩ := okWide_slice Try.underlying22 (hval 1 22 v1 rfl rfl)
  have k1 := h1
  have lt1 : ∀ x ∈ p1, x.block < W.heap.size := by obtain ⟨m, hm⟩ := k1; exact DataW.trod_lt m _ _ _ hm
  obtain ⟨ss1, hl1, z1, hr1⟩ : ∃ ss : List St, len1 = ss.length ∧ ss.length ≤ 1048576 ∧ Steps W a1 cap1 ss := by
    obtain ⟨fuel, hf⟩ := h1
    obtain ⟨ss, e1, e2, e3⟩ := steps_open Try.underlying22 Try.underlying33 ⟨⟨rfl, rfl⟩, ⟨rfl, rfl⟩, ⟨rfl, rfl⟩, ⟨rfl, rfl⟩⟩ (by kernel_rfl) hf
    refine ⟨ss, e1, ?_, e2⟩
    have hb := Nat.le_trans (bulk_part (l := [d0, d1] ++ []) (j := 1) rfl) hbulk
    rcases e3 with ⟨_, rfl⟩ | ⟨elems, spare, rfl, hel⟩
    · simp
    · have := bulk_slice elems spare
      omega
  obtain ⟨a0, rfl, rfl, rfl, w0⟩ := open_int Try.underlying3 (hval 0 3 v0 rfl rfl) h0
  clear hA0 hval0
  refine (walk W a0 w0 a1 len1 cap1 ss1 hl1 z1 hr1).mono fun e W' ⟨he, fr⟩ => ?_
  have bel : Below W.heap.size W W' := fr.below (Nat.le_refl _) (fun _ f => f.elim)
  subst he
  exact ⟨_, rfl, _, _, _, [], _, [], hW', trodAll_mk1 (shut_bool Try.underlying4 _), (trodAll_cons_mk (shut_int Try.underlying3 w0) (trodAll_cons_mk (Below.trod laidOut (by kernel_rfl) (of_decide_eq_true (by kernel_rfl)) k1 bel lt1) trodAll_mk0)), rfl, bel.frame _, fun h => by cases h⟩

theorem proved : Rows.DiskStepsUptoSaid :=
  OpenClaim.holds_of_cond 3 Try.f3 rfl rfl rfl rfl rfl rfl rfl ⟨rfl, rfl, rfl, rfl, rfl⟩ rfl rfl rfl rfl rfl (by kernel_rfl) Try.func3 (by kernel_rfl)
    (of_decide_eq_true (by kernel_rfl)) (by unfold Func.isWrapper; first | (rw [if_pos (by decide +kernel)]; kernel_rfl) | (rw [if_neg (by decide +kernel)]; exact ⟨rfl, rfl⟩))
    (fun os started H enc _ F => lifted os started H enc F)
end Go.Proofs.Ytkmjmbpdmgoknaa.diskSteps
namespace Go.Proofs.Ytkmjmbpdmgoknaa
theorem diskSteps_holds : Rows.DiskStepsUptoSaid := diskSteps.proved
#print axioms diskSteps_holds
end Go.Proofs.Ytkmjmbpdmgoknaa
