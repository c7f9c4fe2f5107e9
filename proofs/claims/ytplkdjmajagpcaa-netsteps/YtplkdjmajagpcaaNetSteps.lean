/- For every number and every list of steps latticelaw04.NetSteps answers true: every net, step by step, what is in flight, and what is picked (4.1 to 4.3); no condition. -/
import Derived.Test.YtplkdjmajagpcaaArgs
import Derived.Test.YtplkdjmajagpcaaNetPair
import Derived.Test.YtplkdjmajagpcaaNetPair
import Derived.Test.YtplkdjmajagpcaaRefNet3
import Derived.Deep.RegionHeld
namespace Go.Proofs.Ytplkdjmajagpcaa.netSteps
open Go.ChangeShapes Go.WideShapes Go.ChangeAt Go.RowKit
open Go.ChangeMaps (open_string shut_string)
set_option linter.unusedVariables false

theorem own : ownKnob Try.prog.godebug = none := by kernel_rfl
theorem laidOut : laidOutB Try.prog = true := by kernel_rfl
theorem bytes8 : Try.prog.bytesOf 5 = 1 := by kernel_rfl

theorem str0 : strOf [] = ⟨#[]⟩ := rfl
theorem erase_map {α β : Type} (f : α → β) (l : List α) (i : Nat) : (l.map f).eraseIdx i = (l.eraseIdx i).map f := by
  rw [List.eraseIdx_eq_take_drop_succ, List.eraseIdx_eq_take_drop_succ, List.map_append, List.map_take, List.map_drop]
def copyR (R : List Say) (i : Int) : Int × List Say := if i < 0 ∨ (R.length : Int) ≤ i then (6, R) else if R.length = 1024 then (5, R) else (0, R ++ [R.getD i.toNat (0, 0, [])])
theorem copy_all (nb : Nat) (nodes : Int) (nv : Value) (ms : List Msg) (R : List Say) (w : World) (h : Net w nb nodes nv ms) (hR : R = ms.map Msg.cont) (i : Int) : Calls Try.prog 27 #[.pointer (some ⟨nb, 0, none⟩), .int .i64 i] w fun e w' => e = .returned (.int .i64 (copyR R i).1) ∧
    ∃ nv' ms', Net w' nb nodes nv' ms' ∧ ms'.map Msg.cont = (copyR R i).2 ∧ Fr (netS nb nv) w w' ∧ (nv'.ownBlock = nv.ownBlock ∨ ∃ g, nv'.ownBlock = some g ∧ w.heap.size ≤ g) ∧ (∀ m ∈ ms', m ∈ ms ∨ ∀ b off, m.a = some ⟨b, off, none⟩ → w.heap.size ≤ b) := by
  have hl : R.length = ms.length := by rw [hR, List.length_map]
  unfold copyR
  by_cases h1 : i < 0 ∨ (R.length : Int) ≤ i
  · rw [if_pos h1]
    refine (copy_no nb nodes nv ms w h i (by rw [← hl]; exact h1)).mono ?_
    rintro e w' ⟨rfl, rfl⟩
    exact ⟨rfl, nv, ms, h, hR.symm, Fr.refl _ _, .inl rfl, fun m hm => .inl hm⟩
  · rw [if_neg h1]
    obtain ⟨j, rfl⟩ : ∃ j : Nat, i = j := ⟨i.toNat, by omega⟩
    obtain ⟨m, hm⟩ : ∃ m, ms[j]? = some m := ⟨_, List.getElem?_eq_getElem (by omega)⟩
    by_cases h3 : R.length = 1024
    · rw [if_pos h3]
      refine (copy_full nb nodes nv ms w h j m hm (by omega)).mono ?_
      rintro e w' ⟨rfl, f1⟩
      exact ⟨rfl, nv, ms, h.same f1, hR.symm, f1.any, .inl rfl, fun m hm => .inl hm⟩
    · rw [if_neg h3]
      refine (copy_ok nb nodes nv ms w h j m hm (by have := h.len; omega)).mono ?_
      rintro e w' ⟨rfl, nv', k, f1, o⟩
      refine ⟨rfl, nv', _, k, ?_, f1, o, fun m' hm' => ?_⟩
      · have hg : R.getD j (0, 0, []) = m.cont := by rw [hR, List.getD_eq_getElem?_getD, List.getElem?_map, hm]; rfl
        rw [Int.toNat_natCast, hg, List.map_append, hR]; rfl
      · rcases List.mem_append.1 hm' with h4 | h4
        · exact .inl h4
        · obtain rfl := List.mem_singleton.1 h4
          exact .inl (List.mem_of_getElem? hm)
theorem rcopy_all (rb : Nat) (nodes : Int) (rv : Value) (R : List Say) (w : World) (h : RN w rb nodes rv R) (i : Int) : Calls Try.prog 28 #[.pointer (some ⟨rb, 0, none⟩), .int .i64 i] w fun e w' => e = .returned (.int .i64 (copyR R i).1) ∧
    ∃ rv', RN w' rb nodes rv' (copyR R i).2 ∧ Fr (rnS rb rv) w w' ∧ (∀ k, rnS rb rv' k → rnS rb rv k ∨ w.heap.size ≤ k) := by
  unfold copyR
  by_cases h1 : i < 0 ∨ (R.length : Int) ≤ i
  · rw [if_pos h1]
    refine (rcopy_no rb nodes rv R w h i h1).mono ?_
    rintro e w' ⟨rfl, rfl⟩
    exact ⟨rfl, rv, h, Fr.refl _ _, fun _ hk => .inl hk⟩
  · rw [if_neg h1]
    obtain ⟨j, rfl⟩ : ∃ j : Nat, i = j := ⟨i.toNat, by omega⟩
    obtain ⟨x, hx⟩ : ∃ x, R[j]? = some x := ⟨_, List.getElem?_eq_getElem (by omega)⟩
    by_cases h3 : R.length = 1024
    · rw [if_pos h3]
      refine (rcopy_full rb nodes rv R w h j (by omega) h3).mono ?_
      rintro e w' ⟨rfl, rfl⟩
      exact ⟨rfl, rv, h, Fr.refl _ _, fun _ hk => .inl hk⟩
    · rw [if_neg h3]
      have hg : R.getD j (0, 0, []) = x := by rw [List.getD_eq_getElem?_getD, hx]; rfl
      rw [Int.toNat_natCast, hg]
      refine (rcopy_ok rb nodes rv R w h j x hx (by have := h.len; omega)).mono ?_
      rintro e w' ⟨rfl, hq⟩
      exact ⟨rfl, hq⟩

set_option maxRecDepth 100000 in
set_option maxHeartbeats 8000000 in
theorem walk (w : World) (nodes : Int) (w0 : (Lit.int .i64 nodes).wf = true) (a1 : Option Addr) (len1 cap1 : Nat) (ss1 : List St) (hl1 : len1 = ss1.length) (hr1 : Steps w a1 cap1 ss1) :
    Calls Try.prog 8 #[.int .i64 nodes, .slice a1 len1 cap1] w fun e w' => e = .returned (.bool true) ∧ Fr (fun _ => False) w w' := by
  clear w0
  obtain ⟨n, hn⟩ : ∃ n, n = ss1.length := ⟨_, rfl⟩
  have HN : Hid (n = ss1.length) := hn
  have hnm : n ≤ 9223372036854775807 := by have := hr1.le; have := hr1.max; omega
  rw [hl1, ← hn]
  clear hl1 hn
  by_cases hbad : nodes < 1 ∨ 7 < nodes
  · have HB : Hid (nodes < 1 ∨ 7 < nodes) := hbad
    clear hbad
    go_enter Try.func8, Try.ntmps8
    go_wp2_with fail
    refine (new_bad nodes HB.out _).mono ?_
    rintro e w1 ⟨rfl, rfl⟩
    go_wp2_with fail
    refine (rnew_bad nodes HB.out _).mono ?_
    rintro e w1 ⟨rfl, rfl⟩
    go_wp2_with fail
    refine (speaks_any _).mono ?_
    rintro e w2 ⟨rfl, f2⟩
    go_wp2
    go_ret
    exact ⟨rfl, f2⟩
  have hn1 : 1 ≤ nodes := by omega
  have hn7 : nodes ≤ 7 := by omega
  clear hbad
  go_enter Try.func8, Try.ntmps8
  go_wp2_with fail
  refine (new_ok nodes hn1 hn7 _).mono ?_
  rintro e w1 ⟨rfl, e1⟩
  have n1 : NetA w w1 w.heap.size nodes (.slice none 0 0) [] := by rw [e1]; exact NetA.new nodes hn1 hn7 w
  clear e1
  generalize w.heap.size = nb at n1 ⊢
  go_wp2_with fail
  refine (rnew_ok nodes hn1 hn7 _).mono ?_
  rintro e w2 ⟨rfl, e2⟩
  have f2 : Fr (fun _ => False) w1 w2 := by rw [e2]; exact (Fr.refl (fun _ => False) w1).alloc _
  have r2 : RN w2 w1.heap.size nodes (.slice none 0 0) [] := by rw [e2]; exact RN.new nodes w1
  have hP : Pr w w2 nb nodes (.slice none 0 0) [] w1.heap.size (.slice none 0 0) [] := by
    refine ⟨n1.same f2, r2, fun k hk => ?_, fun k hk e => ?_, fun m hm => by cases hm⟩
    · rcases hk with e | e
      · have := n1.fr.size; omega
      · cases e
    · have := n1.net.lt e
      rcases hk with e | e
      · omega
      · cases e
  clear e2 f2 r2 n1
  generalize w1.heap.size = rb at hP ⊢
  go_wp2
  go_loopw [42] (fun t wr => ∃ (k : Nat) (nv : Value) (ms : List Msg) (rv : Value), k ≤ n ∧ k ≤ 300 ∧ t = .int .i64 k ∧ Pr w wr nb nodes nv ms rb rv (ms.map Msg.cont))
    (fun t _ => n - (intOf t).toNat)
  case atStart => exact ⟨0, _, [], _, by omega, by omega, rfl, hP⟩
  case round =>
  clear hP
  obtain ⟨k, nv, ms, rv, hk, hk3, rfl, hP⟩ := hrel
  by_cases hlt : k < n
  · obtain ⟨st, hst⟩ : ∃ st, ss1[k]? = some st := ⟨_, List.getElem?_eq_getElem (by rw [← HN.out]; exact hlt)⟩
    have hS := hr1.same hP.net.fr
    have hmem := List.mem_of_getElem? hst
    have hrow0 := hr1.row st hmem
    rcases hS.at_ with h0 | ⟨b, off, ha0, hb, hcell⟩
    · rw [h0] at hst; cases hst
    obtain ⟨c0, c1, c2, c3⟩ := hcell k st hst
    subst ha0
    have hki : (k : Int) < (n : Int) := by omega
    obtain ⟨kk, aa, cc, ad, cp, l⟩ := st
    simp only at c0 c1 c2 c3 hrow0
    have fW : Fr (fun _ => False) wr (wr.alloc (.cells #[.int .i64 kk, .int .i64 aa, .int .i64 cc, .slice ad l.length cp] 59)) := (Fr.refl (fun _ => False) wr).alloc _
    have hW := hP.same fW
    have hbS := heap_alloc_new wr (.cells #[.int .i64 kk, .int .i64 aa, .int .i64 cc, .slice ad l.length cp] 59)
    have hoS : Oth nb nv rb rv wr.heap.size := ⟨fun e => Nat.lt_irrefl _ (hP.net.net.lt e), fun e => Nat.lt_irrefl _ (hP.ref.lt e)⟩
    have hzS : wr.heap.size < (wr.alloc (.cells #[.int .i64 kk, .int .i64 aa, .int .i64 cc, .slice ad l.length cp] 59)).heap.size := lt_of_block hbS
    clear hst hmem hS hcell hP fW
    by_cases h300 : k = 300
    · subst h300
      go_wp2_with fail
      refine (speaks_any _).mono ?_
      rintro e w9 ⟨rfl, f9⟩
      go_wp2
      go_ret
      exact ⟨rfl, hW.net.fr.false_trans f9⟩
    have hk30 : (k : Int) < 300 := by omega
    have hkd : decide ((300 : Int) ≤ (k : Int)) = false := by simp; omega
    have hkdn : decide (300 ≤ k) = false := by simp; omega
    clear h300
    by_cases hk2 : kk = 2
    · subst hk2
      by_cases hin : aa < 0 ∨ (ms.length : Int) ≤ aa
      · have HI : Hid (aa < 0 ∨ (ms.length : Int) ≤ aa) := hin
        clear hin
        go_wp2_with fail
        refine (pick_no nb nodes nv ms _ hW.net.net aa HI.out).mono ?_
        rintro e w5 ⟨rfl, f5⟩
        have f5' : Fr (fun _ => False) w5 (w5.alloc (.cells #[.int .i64 0, .int .i64 0, .slice none 0 0] 61)) := (Fr.refl (fun _ => False) w5).alloc _
        have h5 := (hW.same f5).same f5'
        have b5 := f5'.block_eq (f5.block_eq hbS (fun f => f)) (fun f => f)
        have q5 := cell_at b5 1
        simp only [List.getElem?_toArray, List.getElem?_cons_zero, List.getElem?_cons_succ] at q5
        have v5 := heap_alloc_new w5 (.cells #[.int .i64 0, .int .i64 0, .slice none 0 0] 61)
        clear hW hbS f5 f5'
        go_wp2_with fail
        refine (rpick_no rb nodes rv _ _ h5.ref aa (by rw [List.length_map]; exact HI.out)).mono ?_
        rintro e w6 ⟨rfl, f6⟩
        have f6' : Fr (fun _ => False) w6 (w6.alloc (.cells #[.int .i64 0, .int .i64 0, .string ⟨#[]⟩] 65)) := (Fr.refl (fun _ => False) w6).alloc _
        have hT := (h5.same f6).same f6'
        have v6 := f6'.block_eq (f6.block_eq v5 (fun f => f)) (fun f => f)
        have p0 := cell_at v6 0
        have p1 := cell_at v6 1
        have p2 := cell_at v6 2
        simp only [List.getElem?_toArray, List.getElem?_cons_zero, List.getElem?_cons_succ] at p0 p1 p2
        have cv := run_str (P := Try.prog) (src := 31) (dst := 9) Try.underlying31 Try.underlying5 Try.underlying9 (row_nil (w6.alloc (.cells #[.int .i64 0, .int .i64 0, .string ⟨#[]⟩] 65)) none) 0 rfl
        rw [str0] at cv
        obtain ⟨nvT, rfl⟩ : ∃ x, x = nv := ⟨_, rfl⟩
        obtain ⟨msT, rfl⟩ : ∃ x, x = ms := ⟨_, rfl⟩
        obtain ⟨rvT, rfl⟩ : ∃ x, x = rv := ⟨_, rfl⟩
        clear h5 b5 q5 v5 v6 f6 f6'
        have hoc : ∀ m ∈ msT, octs m.l := fun m hm => (hT.net.net.bytes m hm).1.byte
        go_wp2_with fail
        refine (same_flight nb nodes nvT msT rb rvT _ hT.net.net hT.ref hoc).mono ?_
        rintro e wF ⟨rfl, fF⟩
        have hTF := hT.same fF
        clear hT hoc
        go_wp2
        go_roundw
        case rel => exact ⟨k + 1, _, _, _, by omega, by omega, by go_num, hTF⟩
        case measure => simp [intOf]; omega
      · obtain ⟨i, rfl⟩ : ∃ i : Nat, aa = i := ⟨aa.toNat, by omega⟩
        obtain ⟨m, hm⟩ : ∃ m, ms[i]? = some m := ⟨_, List.getElem?_eq_getElem (by omega)⟩
        have hmm := List.mem_of_getElem? hm
        have omm := (hW.net.net.bytes m hmm).1.byte
        have smm := hW.net.net.small m hmm
        have hmc : (ms.map Msg.cont)[i]? = some m.cont := by rw [List.getElem?_map, hm]; rfl
        have hpk := pick_ok nb nodes nv ms _ hW.net.net i m hm
        obtain ⟨mf, mt, ma, mcp, ml⟩ := m
        simp only [Msg.cont] at omm smm hmc hpk
        have HMC : Hid ((ms.map Msg.cont)[i]? = some (mf, mt, ml)) := hmc
        clear hin hm hmm hmc
        go_wp2_with fail
        refine hpk.mono ?_
        rintro e w5 ⟨a5, c5, rfl, g5, nv5, k5, f5, o5, d5⟩
        have h5 := hW.goN k5 f5 o5 (fun m hm => .inl (List.mem_of_mem_eraseIdx hm))
        have r5 : Row w5 a5 c5 ml := g5.has.bytes omm (Nat.le_trans smm (by omega))
        have s5 := f5.block_eq hbS hoS.1
        have oS5 := hoS.goN (w := wr.alloc (.cells #[.int .i64 2, .int .i64 (i : Int), .int .i64 cc, .slice ad l.length cp] 59)) hzS o5
        have hnew5 := g5.new
        have hap5 : ∀ b off, a5 = some ⟨b, off, none⟩ → ¬ rnS rb rv b := fun b off ha e => by
          have h1 := hnew5 b (by rw [ha]; rfl)
          have h2 := hW.ref.lt e
          omega
        have f5' : Fr (fun _ => False) w5 (w5.alloc (.cells #[.int .i64 mf, .int .i64 mt, .slice a5 ml.length c5] 61)) := (Fr.refl (fun _ => False) w5).alloc _
        have h6 := h5.same f5'
        have r6 := r5.same f5'
        have s6 := f5'.block_eq s5 (fun f => f)
        have q6 := cell_at s6 1
        simp only [List.getElem?_toArray, List.getElem?_cons_zero, List.getElem?_cons_succ] at q6
        have v6 := heap_alloc_new w5 (.cells #[.int .i64 mf, .int .i64 mt, .slice a5 ml.length c5] 61)
        have hv6 : ¬ rnS rb rv w5.heap.size := fun e => Nat.lt_irrefl _ (h5.ref.lt e)
        clear hpk k5 f5 o5 d5 g5 hW hbS hnew5 h5 r5 s5 f5' hzS hoS
        go_wp2_with fail
        refine (rpick_ok rb nodes rv _ _ h6.ref i (mf, mt, ml) HMC.out).mono ?_
        rintro e w7 ⟨rfl, rv7, k7, f7, o7⟩
        have h7 := h6.goR k7 f7 o7
        rw [erase_map] at h7
        have r7 := r6.fr f7 (fun b off ha _ => hap5 b off ha)
        have v7 := f7.block_eq v6 hv6
        have f7' : Fr (fun _ => False) w7 (w7.alloc (.cells #[.int .i64 mf, .int .i64 mt, .string (strOf ml)] 65)) := (Fr.refl (fun _ => False) w7).alloc _
        have hT := h7.same f7'
        have v8 := f7'.block_eq v7 (fun f => f)
        have p0 := cell_at v8 0
        have p1 := cell_at v8 1
        have p2 := cell_at v8 2
        simp only [List.getElem?_toArray, List.getElem?_cons_zero, List.getElem?_cons_succ] at p0 p1 p2
        have cv := run_str (P := Try.prog) (src := 31) (dst := 9) Try.underlying31 Try.underlying5 Try.underlying9 (r7.same f7') ml.length rfl
        obtain ⟨nvT, rfl⟩ : ∃ x, x = nv5 := ⟨_, rfl⟩
        obtain ⟨msT, hmsT⟩ : ∃ x, x = ms.eraseIdx i := ⟨_, rfl⟩
        rw [← hmsT] at hT
        obtain ⟨rvT, rfl⟩ : ∃ x, x = rv7 := ⟨_, rfl⟩
        clear h6 r6 s6 q6 v6 hv6 k7 f7 o7 h7 r7 v7 f7' v8 hmsT hap5 oS5
        have hoc : ∀ m ∈ msT, octs m.l := fun m hm => (hT.net.net.bytes m hm).1.byte
        go_wp2_with fail
        refine (same_flight nb nodes nvT msT rb rvT _ hT.net.net hT.ref hoc).mono ?_
        rintro e wF ⟨rfl, fF⟩
        have hTF := hT.same fF
        clear hT hoc
        go_wp2
        go_roundw
        case rel => exact ⟨k + 1, _, _, _, by omega, by omega, by go_num, hTF⟩
        case measure => simp [intOf]; omega
    · have hk2' : (kk == 2) = false := by simpa using hk2
      by_cases hk3' : kk = 3
      · subst hk3'
        by_cases hin : aa < 0 ∨ (ms.length : Int) ≤ aa
        · have HI : Hid (aa < 0 ∨ (ms.length : Int) ≤ aa) := hin
          clear hin
          go_wp2_with fail
          refine (rpick_no rb nodes rv _ _ hW.ref aa (by rw [List.length_map]; exact HI.out)).mono ?_
          rintro e w5 ⟨rfl, f5⟩
          have f5' : Fr (fun _ => False) w5 (w5.alloc (.cells #[.int .i64 0, .int .i64 0, .string ⟨#[]⟩] 65)) := (Fr.refl (fun _ => False) w5).alloc _
          have h5 := (hW.same f5).same f5'
          have b5 := f5'.block_eq (f5.block_eq hbS (fun f => f)) (fun f => f)
          have q5 := cell_at b5 1
          simp only [List.getElem?_toArray, List.getElem?_cons_zero, List.getElem?_cons_succ] at q5
          clear hW hbS f5 f5'
          go_wp2_with fail
          refine (drop_no nb nodes nv ms _ h5.net.net aa HI.out).mono ?_
          rintro e w6 ⟨rfl, rfl⟩
          have hT := h5
          obtain ⟨nvT, rfl⟩ : ∃ x, x = nv := ⟨_, rfl⟩
          obtain ⟨msT, rfl⟩ : ∃ x, x = ms := ⟨_, rfl⟩
          obtain ⟨rvT, rfl⟩ : ∃ x, x = rv := ⟨_, rfl⟩
          clear h5 b5 q5
          have hoc : ∀ m ∈ msT, octs m.l := fun m hm => (hT.net.net.bytes m hm).1.byte
          go_wp2_with fail
          refine (same_flight nb nodes nvT msT rb rvT _ hT.net.net hT.ref hoc).mono ?_
          rintro e wF ⟨rfl, fF⟩
          have hTF := hT.same fF
          clear hT hoc
          go_wp2
          go_roundw
          case rel => exact ⟨k + 1, _, _, _, by omega, by omega, by go_num, hTF⟩
          case measure => simp [intOf]; omega
        · obtain ⟨i, rfl⟩ : ∃ i : Nat, aa = i := ⟨aa.toNat, by omega⟩
          have hil : i < ms.length := by omega
          obtain ⟨m, hm⟩ : ∃ m, ms[i]? = some m := ⟨_, List.getElem?_eq_getElem hil⟩
          have hmc : (ms.map Msg.cont)[i]? = some m.cont := by rw [List.getElem?_map, hm]; rfl
          obtain ⟨mf, mt, ma, mcp, ml⟩ := m
          simp only [Msg.cont] at hmc
          have HMC : Hid ((ms.map Msg.cont)[i]? = some (mf, mt, ml)) := hmc
          have HIL : Hid (i < ms.length) := hil
          clear hin hm hmc hil
          go_wp2_with fail
          refine (rpick_ok rb nodes rv _ _ hW.ref i (mf, mt, ml) HMC.out).mono ?_
          rintro e w5 ⟨rfl, rv5, k5, f5, o5⟩
          have h5 := hW.goR k5 f5 o5
          have s5 := f5.block_eq hbS hoS.2
          have f5' : Fr (fun _ => False) w5 (w5.alloc (.cells #[.int .i64 mf, .int .i64 mt, .string (strOf ml)] 65)) := (Fr.refl (fun _ => False) w5).alloc _
          have h6 := h5.same f5'
          have s6 := f5'.block_eq s5 (fun f => f)
          have q6 := cell_at s6 1
          simp only [List.getElem?_toArray, List.getElem?_cons_zero, List.getElem?_cons_succ] at q6
          clear k5 f5 o5 hW hbS h5 s5 f5'
          go_wp2_with fail
          refine (drop_ok nb nodes nv ms _ h6.net.net i HIL.out).mono ?_
          rintro e w7 ⟨rfl, nv7, k7, f7, o7⟩
          have hT := h6.goN k7 f7 o7 (fun m hm => .inl (List.mem_of_mem_eraseIdx hm))
          rw [erase_map] at hT
          obtain ⟨nvT, rfl⟩ : ∃ x, x = nv7 := ⟨_, rfl⟩
          obtain ⟨msT, hmsT⟩ : ∃ x, x = ms.eraseIdx i := ⟨_, rfl⟩
          rw [← hmsT] at hT
          obtain ⟨rvT, rfl⟩ : ∃ x, x = rv5 := ⟨_, rfl⟩
          clear h6 s6 q6 k7 f7 o7 hmsT
          have hoc : ∀ m ∈ msT, octs m.l := fun m hm => (hT.net.net.bytes m hm).1.byte
          go_wp2_with fail
          refine (same_flight nb nodes nvT msT rb rvT _ hT.net.net hT.ref hoc).mono ?_
          rintro e wF ⟨rfl, fF⟩
          have hTF := hT.same fF
          clear hT hoc
          go_wp2
          go_roundw
          case rel => exact ⟨k + 1, _, _, _, by omega, by omega, by go_num, hTF⟩
          case measure => simp [intOf]; omega
      · have hk3'' : (kk == 3) = false := by simpa using hk3'
        by_cases hk4 : kk = 4
        · subst hk4
          have hWd := hW.same ((Fr.refl (fun _ => False) (wr.alloc (.cells #[.int .i64 4, .int .i64 aa, .int .i64 cc, .slice ad l.length cp] 59))).drew)
          have hbd : (wr.alloc (.cells #[.int .i64 4, .int .i64 aa, .int .i64 cc, .slice ad l.length cp] 59)).drew.heap[wr.heap.size]? = some (.cells #[.int .i64 4, .int .i64 aa, .int .i64 cc, .slice ad l.length cp] 59 (0, 0)) := hbS
          have q1 := cell_at hbd 1
          have q2 := cell_at hbd 2
          have q3 := cell_at hbd 3
          simp only [List.getElem?_toArray, List.getElem?_cons_zero, List.getElem?_cons_succ] at q1 q2 q3
          have p1 := cell_at hbS 1
          have p2 := cell_at hbS 2
          have p3 := cell_at hbS 3
          simp only [List.getElem?_toArray, List.getElem?_cons_zero, List.getElem?_cons_succ] at p1 p2 p3
          obtain ⟨R, hRR⟩ : ∃ R, R = ms.map Msg.cont := ⟨_, rfl⟩
          rw [← hRR] at hWd
          have HRR : Hid (R = ms.map Msg.cont) := hRR
          clear hRR hW
          go_wp2_with fail
          go_region_held (fun w' => w'.cell? ⟨wr.heap.size, 1, none⟩ = some (.int .i64 aa))
            (first | exact q1 | exact q1a | exact q1b)
            (first
              | (go_at_call 27; refine (copy_all nb nodes nv ms R _ hWd.net.net HRR.out aa).mono ?_; rintro e w5 ⟨rfl, nv5, ms5, k5, c5, f5, o5, n5⟩; have h5 := hWd.goN k5 f5 o5 n5; have b5 := f5.block_eq hbd hoS.1; have q1a := cell_at b5 1; have oS5 := hoS.goN hzS o5; simp only [List.getElem?_toArray, List.getElem?_cons_zero, List.getElem?_cons_succ] at q1a)
              | (go_at_call 28; refine (rcopy_all rb nodes rv R _ h5.ref aa).mono ?_; rintro e w6 ⟨rfl, rv6, k6, f6, o6⟩; have h6 := h5.goR k6 f6 o6; have b6 := f6.block_eq b5 oS5.2; have q1b := cell_at b6 1; simp only [List.getElem?_toArray, List.getElem?_cons_zero, List.getElem?_cons_succ] at q1b))
          all_goals
            rw [← c5] at h6
            have hT := h6
            obtain ⟨nvT, rfl⟩ : ∃ x, x = nv5 := ⟨_, rfl⟩
            obtain ⟨msT, rfl⟩ : ∃ x, x = ms5 := ⟨_, rfl⟩
            obtain ⟨rvT, rfl⟩ : ∃ x, x = rv6 := ⟨_, rfl⟩
            generalize (copyR R aa).1 = rr at *
            clear h6 h5 c5 k5 k6 f5 f6 o5 o6 n5 b5 b6 hWd hbd hbS oS5 hoS q1 p1 p2 p3 q2 q3
            have hoc : ∀ m ∈ msT, octs m.l := fun m hm => (hT.net.net.bytes m hm).1.byte
            go_wp2_with fail
            refine (same_flight nb nodes nvT msT rb rvT _ hT.net.net hT.ref hoc).mono ?_
            rintro e wF ⟨rfl, fF⟩
            have hTF := hT.same fF
            clear hT hoc
            go_wp2
            go_roundw
            case rel => exact ⟨k + 1, _, _, _, by omega, by omega, by go_num, hTF⟩
            case measure => simp [intOf]; omega
        · have hk4' : (kk == 4) = false := by simpa using hk4
          have hWd := hW.same ((Fr.refl (fun _ => False) (wr.alloc (.cells #[.int .i64 kk, .int .i64 aa, .int .i64 cc, .slice ad l.length cp] 59))).drew)
          have hbd : (wr.alloc (.cells #[.int .i64 kk, .int .i64 aa, .int .i64 cc, .slice ad l.length cp] 59)).drew.heap[wr.heap.size]? = some (.cells #[.int .i64 kk, .int .i64 aa, .int .i64 cc, .slice ad l.length cp] 59 (0, 0)) := hbS
          have q1 := cell_at hbd 1
          have q2 := cell_at hbd 2
          have q3 := cell_at hbd 3
          simp only [List.getElem?_toArray, List.getElem?_cons_zero, List.getElem?_cons_succ] at q1 q2 q3
          have p1 := cell_at hbS 1
          have p2 := cell_at hbS 2
          have p3 := cell_at hbS 3
          simp only [List.getElem?_toArray, List.getElem?_cons_zero, List.getElem?_cons_succ] at p1 p2 p3
          obtain ⟨R, hRR⟩ : ∃ R, R = ms.map Msg.cont := ⟨_, rfl⟩
          rw [← hRR] at hWd
          have HRR : Hid (R = ms.map Msg.cont) := hRR
          clear hRR hW
          have hrd : l.length ≤ 65535 → Row ((wr.alloc (.cells #[.int .i64 kk, .int .i64 aa, .int .i64 cc, .slice ad l.length cp] 59)).drew) ad cp l := fun h => (hrow0 h).same hWd.net.fr
          go_wp2_with fail
          go_region_held (fun w' => w'.cell? ⟨wr.heap.size, 1, none⟩ = some (.int .i64 aa) ∧ w'.cell? ⟨wr.heap.size, 2, none⟩ = some (.int .i64 cc) ∧ w'.cell? ⟨wr.heap.size, 3, none⟩ = some (.slice ad l.length cp))
            (first | exact ⟨q1, q2, q3⟩ | exact ⟨q1a, q2a, q3a⟩ | exact ⟨q1b, q2b, q3b⟩)
            (first
              | (go_at_call 29; refine (send_all nb nodes nv ms R _ hWd.net.net HRR.out aa cc ad cp l hrd).mono ?_; rintro e w5 ⟨rfl, nv5, ms5, k5, c5, f5, o5, n5, _⟩; have h5 := hWd.goN k5 f5 o5 n5; have b5 := f5.block_eq hbd hoS.1; have q1a := cell_at b5 1; have q2a := cell_at b5 2; have q3a := cell_at b5 3; have oS5 := hoS.goN hzS o5; simp only [List.getElem?_toArray, List.getElem?_cons_zero, List.getElem?_cons_succ] at q1a q2a q3a)
              | (go_at_call 30; refine (rsend_all nodes rb rv R _ h5.ref aa cc ad cp l (fun h => (hrow0 h).same h5.net.fr)).mono ?_; rintro e w6 ⟨rfl, rv6, k6, f6, o6⟩; have h6 := h5.goR k6 f6 o6; have b6 := f6.block_eq b5 oS5.2; have q1b := cell_at b6 1; have q2b := cell_at b6 2; have q3b := cell_at b6 3; simp only [List.getElem?_toArray, List.getElem?_cons_zero, List.getElem?_cons_succ] at q1b q2b q3b))
          all_goals
            rw [← c5] at h6
            have hT := h6
            obtain ⟨nvT, rfl⟩ : ∃ x, x = nv5 := ⟨_, rfl⟩
            obtain ⟨msT, rfl⟩ : ∃ x, x = ms5 := ⟨_, rfl⟩
            obtain ⟨rvT, rfl⟩ : ∃ x, x = rv6 := ⟨_, rfl⟩
            generalize (sendR nodes R aa cc l).1 = rr at *
            clear h6 h5 c5 k5 k6 f5 f6 o5 o6 n5 b5 b6 hWd hbd hbS oS5 hoS q1 p1 p2 p3 q2 q3
            have hoc : ∀ m ∈ msT, octs m.l := fun m hm => (hT.net.net.bytes m hm).1.byte
            go_wp2_with fail
            refine (same_flight nb nodes nvT msT rb rvT _ hT.net.net hT.ref hoc).mono ?_
            rintro e wF ⟨rfl, fF⟩
            have hTF := hT.same fF
            clear hT hoc
            go_wp2
            go_roundw
            case rel => exact ⟨k + 1, _, _, _, by omega, by omega, by go_num, hTF⟩
            case measure => simp [intOf]; omega
  have hkn : n = k := by omega
  subst hkn
  clear hlt
  go_wp2_with fail
  refine (speaks_any _).mono ?_
  rintro e w9 ⟨rfl, f9⟩
  go_wp2
  go_ret
  exact ⟨rfl, hP.net.fr.false_trans f9⟩

set_option maxRecDepth 100000 in
theorem lifted (os : Os) (started : os.Started) (H : Type) (enc : TypeId × Value → H) :
    ReturnsInHanded {} Try.checked os 8 .any (Rows.netStepsSpec.pre6 enc Try.prog Try.f8 Rows.netStepsRow.domain false) (Rows.netStepsSpec.post enc Try.prog Try.f8 false true false false) := by
  refine returnsInHanded_of_change_sized (C := Try.checked) own started (by kernel_rfl) Try.func8
    (ChangeSpec.witness6 (enc := enc) (C := Try.checked) false ⟨#[], #[.int .i64 0, .slice none 0 0], []⟩ 8 (by kernel_rfl) (by kernel_rfl) (by kernel_rfl) (by kernel_rfl)) ?_
  intro W base args ds gs before hval0 hW hcnd hsz0 _
  have hsz : (DataW.weightsEach Try.prog (Try.f8.params.toList ++ Rows.netStepsSpec.plain.varTypes Try.prog) (ds ++ gs)).all (· ≤ reachBytes) = true := hsz0
  clear hsz0
  have hval : ∀ (j : Nat) t v, Try.f8.params[j]? = some t → args[j]? = some v → Value.okWide Try.prog W .any base t v := hval0
  have hW' := hW
  obtain ⟨p, q, hA0, hV, rfl, hfz, hnd⟩ := hW
  have hA : DataW.TrodAll enc Try.prog W 0 (fun _ => true) true Try.f8.params.toList args.toList ds p := hA0
  rw [Try.params8] at hA hval hsz
  obtain ⟨v0, vs0, d0, ds0, p0, q0, hargs, rfl, rfl, h0, r0⟩ := trodAll_cons hA
  obtain ⟨v1, vs1, d1, ds1, p1, q1, rfl, rfl, rfl, h1, r1⟩ := trodAll_cons r0
  obtain ⟨rfl, rfl, rfl⟩ := trodAll_nil r1
  obtain rfl : args = #[v0, v1] := by cases args; simp_all
  obtain ⟨rfl, rfl⟩ := trodVars_none hV
  obtain ⟨a1, len1, cap1, rfl⟩ := okWide_slice Try.underlying51 (hval 1 51 v1 rfl rfl)
  have k1 := h1
  have lt1 : ∀ x ∈ p1, x.block < W.heap.size := by obtain ⟨m, hm⟩ := k1; exact DataW.trod_lt m _ _ _ hm
  obtain ⟨ss1, hl1, hr1⟩ : ∃ ss : List St, len1 = ss.length ∧ Steps W a1 cap1 ss := by
    obtain ⟨fuel, hf⟩ := h1
    obtain ⟨ss, e1, e2, e3⟩ := steps_open Try.underlying51 Try.underlying59 ⟨⟨rfl, rfl⟩, ⟨rfl, rfl⟩, ⟨rfl, rfl⟩, ⟨rfl, rfl⟩⟩ (by kernel_rfl) hf
    exact ⟨ss, e1, e2⟩
  obtain ⟨a0, rfl, rfl, rfl, w0⟩ := open_int Try.underlying3 (hval 0 3 v0 rfl rfl) h0
  clear hA0 hval0
  refine (walk W a0 w0 a1 len1 cap1 ss1 hl1 hr1).mono fun e W' ⟨he, fr⟩ => ?_
  have bel : Below W.heap.size W W' := fr.below (Nat.le_refl _) (fun _ f => f.elim)
  subst he
  exact ⟨_, rfl, _, _, _, [], _, [], hW', trodAll_mk1 (shut_bool Try.underlying4 _), (trodAll_cons_mk (shut_int Try.underlying3 w0) (trodAll_cons_mk (Below.trod laidOut (by kernel_rfl) (of_decide_eq_true (by kernel_rfl)) k1 bel lt1) trodAll_mk0)), rfl, bel.frame _, fun h => by cases h⟩

theorem proved : Rows.NetStepsSaid :=
  OpenClaim.holds_of_wide 8 Try.f8 rfl rfl rfl rfl rfl rfl rfl ⟨rfl, rfl, rfl, rfl, rfl⟩ rfl rfl rfl rfl rfl (by kernel_rfl) Try.func8 (by kernel_rfl)
    (of_decide_eq_true (by kernel_rfl)) (by unfold Func.isWrapper; first | (rw [if_pos (by decide +kernel)]; kernel_rfl) | (rw [if_neg (by decide +kernel)]; exact ⟨rfl, rfl⟩))
    (fun os started H enc _ => lifted os started H enc)
end Go.Proofs.Ytplkdjmajagpcaa.netSteps
namespace Go.Proofs.Ytplkdjmajagpcaa
theorem netSteps_holds : Rows.NetStepsSaid := netSteps.proved
#print axioms netSteps_holds
end Go.Proofs.Ytplkdjmajagpcaa
