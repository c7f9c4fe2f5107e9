
/- For every bound and every list of steps latticelaw08.AllocSteps answers true: step by step a map takes, marks, frees and has the pages that the document says, and has its bytes (8.1, 8.2); no condition. -/
import Derived.Test.YtgilemiejemgkaaArgs
import Derived.Test.YtgilemiejemgkaaAlSpeak
import Derived.Test.YtgilemiejemgkaaAlRef2
import Derived.Test.YtgilemiejemgkaaSteps2
import Derived.Deep.RegionHeld
namespace Go.Proofs.Ytgilemiejemgkaa.allocSteps
open Go.ChangeShapes Go.WideShapes Go.ChangeAt Go.RowKit
open Go.ChangeMaps (open_string shut_string)
set_option linter.unusedVariables false

theorem own : ownKnob Try.prog.godebug = none := by kernel_rfl
theorem laidOut : laidOutB Try.prog = true := by kernel_rfl
theorem bytes8 : Try.prog.bytesOf 5 = 1 := by kernel_rfl

theorem alike_turned {most : Nat} {L : List Nat} {V : List Bool} (h : Alike most L V) (hL : L.length = 512) (k : Nat) (hk : k < most) (hm : most ≤ 4096) (x : Bool) (hx : x = !bitOf L k) : Alike most (turned L k) (V.set (k + 1) x) := by
  have hl := h.len
  refine ⟨by rw [List.length_set]; exact hl, ?_, fun j hj => ?_⟩
  · rw [List.getD_eq_getElem?_getD, List.getElem?_set_ne (by omega), ← List.getD_eq_getElem?_getD]; exact h.zero
  · rw [bitOf_turned L k (by omega) j, List.getD_eq_getElem?_getD]
    by_cases e : j = k
    · subst e
      rw [if_pos rfl, List.getElem?_set_self (by omega)]; exact hx
    · rw [if_neg e, List.getElem?_set_ne (by omega), ← List.getD_eq_getElem?_getD]; exact h.bits j hj
theorem alike_set {most : Nat} {L : List Nat} {V : List Bool} (h : Alike most L V) (hL : L.length = 512) (hm : most ≤ 4096) (on : Bool) (i : Int) : rsetE (most + 1) V on i = setE most L on i ∧ Alike most (setL most L on i) (rsetV (most + 1) V on i) := by
  unfold rsetE setE rsetV setL
  by_cases hi : 1 ≤ i ∧ i ≤ most
  · have hi2 : 1 ≤ i ∧ i < ((most + 1 : Nat) : Int) := by omega
    rw [if_pos hi, if_pos hi2, if_pos hi, if_pos hi2]
    obtain ⟨k, rfl⟩ : ∃ k : Nat, i = (k : Int) + 1 := ⟨(i - 1).toNat, by omega⟩
    rw [show ((k : Int) + 1).toNat = k + 1 by omega, show k + 1 - 1 = k by omega, h.bits k (by omega)]
    by_cases hb : bitOf L k = on
    · simp only [if_pos hb]
      exact ⟨trivial, h⟩
    · simp only [if_neg hb]
      refine ⟨trivial, alike_turned h hL k (by omega) hm on ?_⟩
      cases on <;> cases hx : bitOf L k <;> simp_all
  · have hi2 : ¬ (1 ≤ i ∧ i < ((most + 1 : Nat) : Int)) := by omega
    rw [if_neg hi, if_neg hi2, if_neg hi, if_neg hi2]
    exact ⟨rfl, h⟩
theorem alike_has {most : Nat} {L : List Nat} {V : List Bool} (h : Alike most L V) (i : Int) : rhasF (most + 1) V i = hasF most L i := by
  unfold rhasF hasF
  by_cases hi : 1 ≤ i ∧ i ≤ most
  · have hi2 : 1 ≤ i ∧ i < ((most + 1 : Nat) : Int) := by omega
    rw [decide_eq_true hi, decide_eq_true hi2]
    obtain ⟨k, rfl⟩ : ∃ k : Nat, i = (k : Int) + 1 := ⟨(i - 1).toNat, by omega⟩
    rw [show ((k : Int) + 1).toNat = k + 1 by omega, show k + 1 - 1 = k by omega, h.bits k (by omega)]
  · have hi2 : ¬ (1 ≤ i ∧ i < ((most + 1 : Nat) : Int)) := by omega
    rw [decide_eq_false hi, decide_eq_false hi2]; rfl
/-- A map and the document's, new to w0, alike. -/
structure PA (w0 w : World) (b most : Nat) (L : List Nat) (rb rg : Nat) (V : List Bool) : Prop where
  mp : Mp w b most L
  ref : RM w rb rg (most + 1) V
  like : Alike most L V
  fr : Fr (fun _ => False) w0 w
theorem PA.same {w0 w w' : World} {b most : Nat} {L : List Nat} {rb rg : Nat} {V : List Bool} (h : PA w0 w b most L rb rg V) (f : Fr (fun _ => False) w w') : PA w0 w' b most L rb rg V := ⟨h.mp.same f, h.ref.same f, h.like, h.fr.false_trans f⟩
/-- Where both lie. -/
structure Lie (w0 : World) (b rb rg : Nat) : Prop where
  b0 : w0.heap.size ≤ b
  r0 : w0.heap.size ≤ rb
  g0 : w0.heap.size ≤ rg
  br : rb ≠ b
  bg : rg ≠ b
theorem alike_zero (most : Nat) : Alike most zeroL (List.replicate (most + 1) false) :=
  ⟨List.length_replicate, by simp, fun k hk => by rw [zero_bits, List.getD_eq_getElem?_getD, List.getElem?_replicate]; split <;> rfl⟩
set_option maxRecDepth 100000 in
set_option maxHeartbeats 8000000 in
theorem walk (w : World) (a0 : Int) (w0 : (Lit.int .i64 a0).wf = true) (a1 : Option Addr) (len1 cap1 : Nat) (ss1 : List (Int × Int)) (hl1 : len1 = ss1.length) (hr1 : Steps2 w a1 cap1 ss1) :
    Calls Try.prog 3 #[.int .i64 a0, .slice a1 len1 cap1] w fun e w' => e = .returned (.bool true) ∧ Fr (fun _ => False) w w' := by
  clear w0
  obtain ⟨n, hn⟩ : ∃ n, n = ss1.length := ⟨_, rfl⟩
  have HN : Hid (n = ss1.length) := hn
  have hnm : n ≤ 9223372036854775807 := by have := hr1.le; have := hr1.max; omega
  rw [hl1, ← hn]
  clear hl1 hn
  by_cases hbad : a0 < 1 ∨ 4096 < a0
  · have hne := anew_bad a0 hbad w
    have hrn := rnew_bad a0 hbad w
    clear hbad
    go_enter Try.func3, Try.ntmps3
    go_wp2_with fail
    refine hne.mono ?_
    rintro e w1 ⟨rfl, rfl⟩
    go_wp2_with fail
    refine hrn.mono ?_
    rintro e w1 ⟨rfl, rfl⟩
    go_wp2_with fail
    refine (aspeaks_any _).mono ?_
    rintro e w2 ⟨rfl, f2⟩
    go_wp2
    go_ret
    exact ⟨rfl, f2⟩
  obtain ⟨most, rfl⟩ : ∃ m : Nat, a0 = m := ⟨a0.toNat, by omega⟩
  have hm1 : 1 ≤ most := by omega
  have hm2 : most ≤ 4096 := by omega
  clear hbad
  go_enter Try.func3, Try.ntmps3
  go_wp2_with fail
  refine (anew_ok most hm1 hm2 _).mono ?_
  rintro e w1 ⟨rfl, m1, f1⟩
  go_wp2_with fail
  refine (rnew_ok most hm1 hm2 _).mono ?_
  rintro e w2 ⟨rfl, r2, f2⟩
  have hP : PA w w2 w.heap.size most zeroL (w1.heap.size + 1) w1.heap.size (List.replicate (most + 1) false) := ⟨m1.same f2, r2, alike_zero most, f1.false_trans f2⟩
  have hLie : Lie w w.heap.size (w1.heap.size + 1) w1.heap.size := by
    have := m1.lt
    exact ⟨Nat.le_refl _, by omega, by omega, by omega, by omega⟩
  generalize w.heap.size = b at hP hLie ⊢
  generalize w1.heap.size + 1 = rb at hP hLie ⊢
  generalize w1.heap.size = rg at hP hLie ⊢
  have HL : Hid (Lie w b rb rg) := hLie
  clear hLie m1 f1 r2 f2
  go_wp2
  go_loopw [40] (fun t wr => ∃ (k : Nat) (L : List Nat) (V : List Bool), k ≤ n ∧ t = .int .i64 k ∧ PA w wr b most L rb rg V) (fun t _ => n - (intOf t).toNat)
  case atStart => exact ⟨0, _, _, by omega, rfl, hP⟩
  case round =>
    clear hP
    obtain ⟨k, L, V, hk, rfl, hP⟩ := hrel
    by_cases hlt : k < n
    · obtain ⟨st, hst⟩ : ∃ st, ss1[k]? = some st := ⟨_, List.getElem?_eq_getElem (by rw [← HN.out]; exact hlt)⟩
      have hS := hr1.same hP.fr
      rcases hS.at_ with h0 | ⟨sb, off, ha0, hsb, hcell⟩
      · rw [h0] at hst; cases hst
      obtain ⟨c0, c1⟩ := hcell k st hst
      subst ha0
      have hki : (k : Int) < (n : Int) := by omega
      obtain ⟨kk, aa⟩ := st
      simp only at c0 c1
      have fS : Fr (fun _ => False) wr (wr.alloc (.cells #[.int .i64 kk, .int .i64 aa] 32)) := (Fr.refl (fun _ => False) wr).alloc _
      have hP2 := hP.same fS
      have hbS := heap_alloc_new wr (.cells #[.int .i64 kk, .int .i64 aa] 32)
      have hsS : Hid (wr.heap.size ≠ b ∧ wr.heap.size ≠ rb ∧ wr.heap.size ≠ rg) := ⟨fun e => Nat.lt_irrefl _ (e ▸ hP.mp.lt), fun e => Nat.lt_irrefl _ (e ▸ lt_of_block hP.ref.box), fun e => Nat.lt_irrefl _ (e ▸ hP.ref.row.lt)⟩
      obtain ⟨sB, hsB⟩ : ∃ s, s = wr.heap.size := ⟨_, rfl⟩
      clear hst hS hcell hsb fS hP
      have HSB : Hid (sB = wr.heap.size) := hsB
      rw [← hsB] at hbS hsS
      by_cases hk0 : kk = 0
      · subst hk0
        go_wp2_with fail
        refine (take_any b most L _ hP2.mp).mono ?_
        rw [← hsB]
        clear hsB
        rintro e w3 ht
        rcases ht with ⟨rfl, e3, hall⟩ | ⟨j, hj, hl, rfl, m3, f3⟩
        · have HA : Hid (∀ k, k < most → bitOf L k = true) := hall
          have hP3 : PA w w3 b most L rb rg V := by rw [e3]; exact hP2
          have b3 : w3.heap[sB]? = some (.cells #[.int .i64 0, .int .i64 aa] 32) := by rw [e3]; exact hbS
          clear e3 hall hbS hP2
          go_wp2_with fail
          refine (rtake_any rb rg (most + 1) V _ hP3.ref (by omega)).mono ?_
          rintro e w4 ht
          rcases ht with ⟨rfl, e4, _⟩ | ⟨j, hj1, hj2, hvf, _⟩
          · subst e4
            have hD := hP3.same ((Fr.refl (fun _ => False) _).drew)
            have bD := ((Fr.refl (fun _ => False) _).drew).block_eq b3 (fun f => f)
            have qD := cell_of_row _ sB 1 _ _ _ bD
            simp only [List.getElem?_toArray, List.getElem?_cons_zero, List.getElem?_cons_succ] at qD
            go_wp2_with fail
            go_region_held3 (fun W => W.cell? ⟨sB, 1, none⟩ = some (.int .i64 aa))
              (first | with_reducible exact qD | with_reducible exact qE)
              (first
                | (go_at_call 15; refine (has_any b most _ _ hD.mp aa).mono ?_; rintro e wE ⟨rfl, fE⟩; have hE := hD.same fE; have bE := fE.block_eq bD (fun f => f); have qE := cell_of_row wE sB 1 _ _ _ bE; simp only [List.getElem?_toArray, List.getElem?_cons_zero, List.getElem?_cons_succ] at qE)
                | (go_at_call 16; refine (rhas_any rb rg (most + 1) _ _ hE.ref aa).mono ?_; rw [alike_has hE.like]; rintro e wF ⟨rfl, rfl⟩))
            generalize hasF most L aa = hx at *
            go_wp2
            go_roundw
            case rel => exact ⟨k + 1, _, _, by omega, by go_num, hE⟩
            case measure => simp [intOf]; omega
          · exfalso
            have := hP3.like.bits (j - 1) (by omega)
            rw [show j - 1 + 1 = j by omega, hvf, HA.out (j - 1) (by omega)] at this
            cases this
        · have HL2 : Hid (least L j) := hl
          clear hl
          have r3 := hP2.ref.fr f3 HL.out.br HL.out.bg
          have b3 := f3.block_eq hbS hsS.out.1
          have fw3 := hP2.fr.above f3 (fun i e => by rw [e]; exact HL.out.b0)
          have hlike := hP2.like
          have hln := hP2.mp.len
          clear hbS hP2
          go_wp2_with fail
          refine (rtake_any rb rg (most + 1) V _ r3 (by omega)).mono ?_
          rintro e w4 ht
          rcases ht with ⟨rfl, e4, hall⟩ | ⟨i, hi1, hi2, hvf, hvt, he, r4, f4⟩
          · exfalso
            have := hall (j + 1) (by omega) (by omega)
            rw [hlike.bits j hj, HL2.out.1] at this
            cases this
          · have hij : i = j + 1 := by
              rcases Nat.lt_trichotomy i (j + 1) with h | h | h
              · have := HL2.out.2 (i - 1) (by omega)
                rw [← hlike.bits (i - 1) (by omega), show i - 1 + 1 = i by omega, hvf] at this
                cases this
              · exact h
              · have := hvt (j + 1) (by omega) h
                rw [hlike.bits j hj, HL2.out.1] at this
                cases this
            subst hij
            rw [show (((j + 1 : Nat) : Int)) = (j : Int) + 1 by omega] at he
            subst he
            have hP4 : PA w w4 b most (turned L j) rb rg (V.set (j + 1) true) := ⟨m3.fr f4 (fun e => HL.out.bg e.symm), r4, alike_turned hlike hln j hj hm2 true (by rw [HL2.out.1]; rfl), fw3.above f4 (fun i e => by rw [e]; exact HL.out.g0)⟩
            have b4 := f4.block_eq b3 hsS.out.2.2
            clear hvf hvt r4 f4 b3 fw3 hlike hln r3 m3 f3
            have hD := hP4.same ((Fr.refl (fun _ => False) _).drew)
            have bD := ((Fr.refl (fun _ => False) _).drew).block_eq b4 (fun f => f)
            have qD := cell_of_row _ sB 1 _ _ _ bD
            simp only [List.getElem?_toArray, List.getElem?_cons_zero, List.getElem?_cons_succ] at qD
            go_wp2_with fail
            go_region_held3 (fun W => W.cell? ⟨sB, 1, none⟩ = some (.int .i64 aa))
              (first | with_reducible exact qD | with_reducible exact qE)
              (first
                | (go_at_call 15; refine (has_any b most _ _ hD.mp aa).mono ?_; rintro e wE ⟨rfl, fE⟩; have hE := hD.same fE; have bE := fE.block_eq bD (fun f => f); have qE := cell_of_row wE sB 1 _ _ _ bE; simp only [List.getElem?_toArray, List.getElem?_cons_zero, List.getElem?_cons_succ] at qE)
                | (go_at_call 16; refine (rhas_any rb rg (most + 1) _ _ hE.ref aa).mono ?_; rw [alike_has hE.like]; rintro e wF ⟨rfl, rfl⟩))
            generalize hasF most (turned L j) aa = hx at *
            go_wp2
            go_roundw
            case rel => exact ⟨k + 1, _, _, by omega, by go_num, hE⟩
            case measure => simp [intOf]; omega
      · have hk0' : (kk == 0) = false := by simpa using hk0
        by_cases hk1 : kk = 1
        · subst hk1
          have hD0 := hP2.same ((Fr.refl (fun _ => False) _).drew)
          have bD0 := ((Fr.refl (fun _ => False) _).drew).block_eq hbS (fun f => f)
          have qD0 := cell_of_row _ sB 1 _ _ _ bD0
          simp only [List.getElem?_toArray, List.getElem?_cons_zero, List.getElem?_cons_succ] at qD0
          have hln := hP2.mp.len
          clear hP2 hbS
          go_wp2_with fail
          rw [← hsB]
          clear hsB
          go_region_held3 (fun W => W.cell? ⟨sB, 1, none⟩ = some (.int .i64 aa))
            (first | with_reducible exact qD0 | with_reducible exact q3 | with_reducible exact q4)
            (first
              | (go_at_call 12; refine (mark_any b most L _ hD0.mp aa).mono ?_; rintro e w3 ⟨rfl, m3, f3⟩; have r3 := hD0.ref.fr f3 HL.out.br HL.out.bg; have b3 := f3.block_eq bD0 hsS.out.1; have fw3 := hD0.fr.above f3 (fun i e => by rw [e]; exact HL.out.b0); have q3 := cell_of_row w3 sB 1 _ _ _ b3; simp only [List.getElem?_toArray, List.getElem?_cons_zero, List.getElem?_cons_succ] at q3)
              | (go_at_call 13; refine (rset_any rb rg (most + 1) V _ r3 aa true).mono ?_; rw [(alike_set hD0.like hln hm2 true aa).1]; rintro e w4 ⟨rfl, r4, f4⟩; have b4 := f4.block_eq b3 hsS.out.2.2; have hP4 : PA w w4 b most _ rb rg _ := ⟨m3.fr f4 (fun e => HL.out.bg e.symm), r4, (alike_set hD0.like hln hm2 true aa).2, fw3.above f4 (fun i e => by rw [e]; exact HL.out.g0)⟩; have q4 := cell_of_row w4 sB 1 _ _ _ b4; simp only [List.getElem?_toArray, List.getElem?_cons_zero, List.getElem?_cons_succ] at q4))
          generalize setE most L true aa = se at *
          generalize setL most L true aa = L4 at *
          generalize rsetV (most + 1) V true aa = V4 at *
          clear r3 f3 m3 b3 fw3 q3 r4 f4 hD0 bD0 qD0
          have hD := hP4.same ((Fr.refl (fun _ => False) _).drew)
          have bD := ((Fr.refl (fun _ => False) _).drew).block_eq b4 (fun f => f)
          have qD := cell_of_row _ sB 1 _ _ _ bD
          simp only [List.getElem?_toArray, List.getElem?_cons_zero, List.getElem?_cons_succ] at qD
          go_wp2_with fail
          go_region_held3 (fun W => W.cell? ⟨sB, 1, none⟩ = some (.int .i64 aa))
            (first | with_reducible exact qD | with_reducible exact qE)
            (first
              | (go_at_call 15; refine (has_any b most _ _ hD.mp aa).mono ?_; rintro e wE ⟨rfl, fE⟩; have hE := hD.same fE; have bE := fE.block_eq bD (fun f => f); have qE := cell_of_row wE sB 1 _ _ _ bE; simp only [List.getElem?_toArray, List.getElem?_cons_zero, List.getElem?_cons_succ] at qE)
              | (go_at_call 16; refine (rhas_any rb rg (most + 1) _ _ hE.ref aa).mono ?_; rw [alike_has hE.like]; rintro e wF ⟨rfl, rfl⟩))
          generalize hasF most L4 aa = hx at *
          go_wp2
          go_roundw
          case rel => exact ⟨k + 1, _, _, by omega, by go_num, hE⟩
          case measure => simp [intOf]; omega
        · have hk1' : (kk == 1) = false := by simpa using hk1
          by_cases hk2 : kk = 2
          · subst hk2
            have hD0 := hP2.same ((Fr.refl (fun _ => False) _).drew)
            have bD0 := ((Fr.refl (fun _ => False) _).drew).block_eq hbS (fun f => f)
            have qD0 := cell_of_row _ sB 1 _ _ _ bD0
            simp only [List.getElem?_toArray, List.getElem?_cons_zero, List.getElem?_cons_succ] at qD0
            have hln := hP2.mp.len
            clear hP2 hbS
            go_wp2_with fail
            rw [← hsB]
            clear hsB
            go_region_held3 (fun W => W.cell? ⟨sB, 1, none⟩ = some (.int .i64 aa))
              (first | with_reducible exact qD0 | with_reducible exact q3 | with_reducible exact q4)
              (first
                | (go_at_call 14; refine (free_any b most L _ hD0.mp aa).mono ?_; rintro e w3 ⟨rfl, m3, f3⟩; have r3 := hD0.ref.fr f3 HL.out.br HL.out.bg; have b3 := f3.block_eq bD0 hsS.out.1; have fw3 := hD0.fr.above f3 (fun i e => by rw [e]; exact HL.out.b0); have q3 := cell_of_row w3 sB 1 _ _ _ b3; simp only [List.getElem?_toArray, List.getElem?_cons_zero, List.getElem?_cons_succ] at q3)
                | (go_at_call 13; refine (rset_any rb rg (most + 1) V _ r3 aa false).mono ?_; rw [(alike_set hD0.like hln hm2 false aa).1]; rintro e w4 ⟨rfl, r4, f4⟩; have b4 := f4.block_eq b3 hsS.out.2.2; have hP4 : PA w w4 b most _ rb rg _ := ⟨m3.fr f4 (fun e => HL.out.bg e.symm), r4, (alike_set hD0.like hln hm2 false aa).2, fw3.above f4 (fun i e => by rw [e]; exact HL.out.g0)⟩; have q4 := cell_of_row w4 sB 1 _ _ _ b4; simp only [List.getElem?_toArray, List.getElem?_cons_zero, List.getElem?_cons_succ] at q4))
            generalize setE most L false aa = se at *
            generalize setL most L false aa = L4 at *
            generalize rsetV (most + 1) V false aa = V4 at *
            clear r3 f3 m3 b3 fw3 q3 r4 f4 hD0 bD0 qD0
            have hD := hP4.same ((Fr.refl (fun _ => False) _).drew)
            have bD := ((Fr.refl (fun _ => False) _).drew).block_eq b4 (fun f => f)
            have qD := cell_of_row _ sB 1 _ _ _ bD
            simp only [List.getElem?_toArray, List.getElem?_cons_zero, List.getElem?_cons_succ] at qD
            go_wp2_with fail
            go_region_held3 (fun W => W.cell? ⟨sB, 1, none⟩ = some (.int .i64 aa))
              (first | with_reducible exact qD | with_reducible exact qE)
              (first
                | (go_at_call 15; refine (has_any b most _ _ hD.mp aa).mono ?_; rintro e wE ⟨rfl, fE⟩; have hE := hD.same fE; have bE := fE.block_eq bD (fun f => f); have qE := cell_of_row wE sB 1 _ _ _ bE; simp only [List.getElem?_toArray, List.getElem?_cons_zero, List.getElem?_cons_succ] at qE)
                | (go_at_call 16; refine (rhas_any rb rg (most + 1) _ _ hE.ref aa).mono ?_; rw [alike_has hE.like]; rintro e wF ⟨rfl, rfl⟩))
            generalize hasF most L4 aa = hx at *
            go_wp2
            go_roundw
            case rel => exact ⟨k + 1, _, _, by omega, by go_num, hE⟩
            case measure => simp [intOf]; omega
          · have hk2' : (kk == 2) = false := by simpa using hk2
            have hD := hP2.same ((Fr.refl (fun _ => False) _).drew)
            have bD := ((Fr.refl (fun _ => False) _).drew).block_eq hbS (fun f => f)
            have qD := cell_of_row _ sB 1 _ _ _ bD
            simp only [List.getElem?_toArray, List.getElem?_cons_zero, List.getElem?_cons_succ] at qD
            go_wp2_with fail
            rw [← hsB]
            clear hsB
            go_region_held3 (fun W => W.cell? ⟨sB, 1, none⟩ = some (.int .i64 aa))
              (first | with_reducible exact qD | with_reducible exact qE)
              (first
                | (go_at_call 15; refine (has_any b most _ _ hD.mp aa).mono ?_; rintro e wE ⟨rfl, fE⟩; have hE := hD.same fE; have bE := fE.block_eq bD (fun f => f); have qE := cell_of_row wE sB 1 _ _ _ bE; simp only [List.getElem?_toArray, List.getElem?_cons_zero, List.getElem?_cons_succ] at qE)
                | (go_at_call 16; refine (rhas_any rb rg (most + 1) _ _ hE.ref aa).mono ?_; rw [alike_has hE.like]; rintro e wF ⟨rfl, rfl⟩))
            generalize hasF most L aa = hx at *
            go_wp2
            go_roundw
            case rel => exact ⟨k + 1, _, _, by omega, by go_num, hE⟩
            case measure => simp [intOf]; omega
    · have e : k = n := by omega
      subst e
      have hD := hP.same ((Fr.refl (fun _ => False) _).drew)
      have hus := used_any b most L _ hD.mp
      have HC : Hid (cntV V (most + 1) = cnt L most) := hD.like.cnt most (Nat.le_refl _)
      have hcl := cnt_le L most
      have htl := hD.mp.tail
      have hoc := hD.mp.byte
      have hlen := hD.mp.len
      have HK : Hid ((L.take ((most + 7) / 8)).length = (most + 7) / 8) := by show _ = _; rw [List.length_take]; omega
      have HMB : Hid (∀ W, Mp W b most L → Calls Try.prog 19 #[.pointer (some ⟨b, 0, none⟩)] W fun e w' => ∃ a' c', e = .returned (.slice a' ((most + 7) / 8) c') ∧ Row w' a' c' (L.take ((most + 7) / 8)) ∧ Fr (fun _ => False) W w') := fun W hW => mbytes_any b most L W hW
      have HRB : Hid (∀ W, RM W rb rg (most + 1) V → Alike most L V → Calls Try.prog 20 #[.pointer (some ⟨rb, 0, none⟩)] W fun e w' => ∃ a' c', e = .returned (.slice a' ((most + 7) / 8) c') ∧ Row w' a' c' (L.take ((most + 7) / 8)) ∧ Fr (fun _ => False) W w') := fun W hW ha => rbytes_any rb rg most V W hW L ha hoc hlen hm1 hm2 htl
      generalize L.take ((most + 7) / 8) = K at *
      generalize (most + 7) / 8 = m at *
      obtain ⟨c, hc⟩ : ∃ c, c = cnt L most := ⟨_, rfl⟩
      rw [← hc] at hus HC
      clear hc hcl
      go_wp2_with fail
      go_region_with (first
        | (go_at_call 17; refine hus.mono ?_; rintro e w3 ⟨rfl, f3⟩; have h3 := hD.same f3)
        | (go_at_call 18; refine (count_any rb rg (most + 1) V _ h3.ref).mono ?_; rw [HC.out]; rintro e w4 ⟨rfl, rfl⟩)
        | (go_at_call 19; refine (HMB.out _ h3.mp).mono ?_; rintro e w5 ⟨a5, c5, rfl, r5, f5⟩; have h5 := h3.same f5; have f55 := Fr.refl (fun _ => False) w5; have cv5 := fun (W : World) (h : Fr (fun _ => False) w5 W) => run_str (P := Try.prog) (src := 41) (dst := 9) Try.underlying41 Try.underlying5 Try.underlying9 (r5.same h) m HK.out.symm)
        | (go_at_call 20; refine (HRB.out _ h5.ref h5.like).mono ?_; rintro e w6 ⟨a6, c6, rfl, r6, f6⟩; have h6 := h5.same f6; have cv6 := run_str (P := Try.prog) (src := 41) (dst := 9) Try.underlying41 Try.underlying5 Try.underlying9 r6 m HK.out.symm)
        | (go_at_call 9; refine (aspeaks_any _).mono ?_; rintro e w7 ⟨rfl, f7⟩; have f07 := h6.fr.false_trans f7))
      all_goals
        go_wp2
        go_ret
        exact ⟨rfl, f07⟩

set_option maxRecDepth 100000 in
theorem lifted (os : Os) (started : os.Started) (H : Type) (enc : TypeId × Value → H) :
    ReturnsInHanded {} Try.checked os 3 .any (Rows.allocStepsSpec.pre6 enc Try.prog Try.f3 Rows.allocStepsRow.domain false) (Rows.allocStepsSpec.post enc Try.prog Try.f3 false true false false) := by
  refine returnsInHanded_of_change_sized (C := Try.checked) own started (by kernel_rfl) Try.func3
    (ChangeSpec.witness6 (enc := enc) (C := Try.checked) false ⟨#[], #[.int .i64 0, .slice none 0 0], []⟩ 8 (by kernel_rfl) (by kernel_rfl) (by kernel_rfl) (by kernel_rfl)) ?_
  intro W base args ds gs before hval0 hW hcnd hsz0 _
  have hsz : (DataW.weightsEach Try.prog (Try.f3.params.toList ++ Rows.allocStepsSpec.plain.varTypes Try.prog) (ds ++ gs)).all (· ≤ reachBytes) = true := hsz0
  clear hsz0
  have hval : ∀ (j : Nat) t v, Try.f3.params[j]? = some t → args[j]? = some v → Value.okWide Try.prog W .any base t v := hval0
  have hW' := hW
  obtain ⟨p, q, hA0, hV, rfl, hfz, hnd⟩ := hW
  have hA : DataW.TrodAll enc Try.prog W 0 (fun _ => true) true Try.f3.params.toList args.toList ds p := hA0
  rw [Try.params3] at hA hval hsz
  obtain ⟨v0, vs0, d0, ds0, p0, q0, hargs, rfl, rfl, h0, r0⟩ := trodAll_cons hA
  obtain ⟨v1, vs1, d1, ds1, p1, q1, rfl, rfl, rfl, h1, r1⟩ := trodAll_cons r0
  obtain ⟨rfl, rfl, rfl⟩ := trodAll_nil r1
  obtain rfl : args = #[v0, v1] := by cases args; simp_all
  obtain ⟨rfl, rfl⟩ := trodVars_none hV
  obtain ⟨a1, len1, cap1, rfl⟩ := okWide_slice Try.underlying22 (hval 1 22 v1 rfl rfl)
  have k1 := h1
  have lt1 : ∀ x ∈ p1, x.block < W.heap.size := by obtain ⟨m, hm⟩ := k1; exact DataW.trod_lt m _ _ _ hm
  obtain ⟨ss1, hl1, hr1⟩ : ∃ ss : List (Int × Int), len1 = ss.length ∧ Steps2 W a1 cap1 ss := by
    obtain ⟨fuel, hf⟩ := h1
    exact steps2_open Try.underlying22 Try.underlying32 ⟨⟨rfl, rfl⟩, ⟨rfl, rfl⟩⟩ (by kernel_rfl) hf
  obtain ⟨a0, rfl, rfl, rfl, w0⟩ := open_int Try.underlying3 (hval 0 3 v0 rfl rfl) h0
  clear hA0 hval0
  refine (walk W a0 w0 a1 len1 cap1 ss1 hl1 hr1).mono fun e W' ⟨he, fr⟩ => ?_
  have bel : Below W.heap.size W W' := fr.below (Nat.le_refl _) (fun _ f => f.elim)
  subst he
  exact ⟨_, rfl, _, _, _, [], _, [], hW', trodAll_mk1 (shut_bool Try.underlying4 _), (trodAll_cons_mk (shut_int Try.underlying3 w0) (trodAll_cons_mk (Below.trod laidOut (by kernel_rfl) (of_decide_eq_true (by kernel_rfl)) k1 bel lt1) trodAll_mk0)), rfl, bel.frame _, fun h => by cases h⟩

theorem proved : Rows.AllocStepsSaid :=
  OpenClaim.holds_of_wide 3 Try.f3 rfl rfl rfl rfl rfl rfl rfl ⟨rfl, rfl, rfl, rfl, rfl⟩ rfl rfl rfl rfl rfl (by kernel_rfl) Try.func3 (by kernel_rfl)
    (of_decide_eq_true (by kernel_rfl)) (by unfold Func.isWrapper; first | (rw [if_pos (by decide +kernel)]; kernel_rfl) | (rw [if_neg (by decide +kernel)]; exact ⟨rfl, rfl⟩))
    (fun os started H enc _ => lifted os started H enc)
end Go.Proofs.Ytgilemiejemgkaa.allocSteps
namespace Go.Proofs.Ytgilemiejemgkaa
theorem allocSteps_holds : Rows.AllocStepsSaid := allocSteps.proved
#print axioms allocSteps_holds
end Go.Proofs.Ytgilemiejemgkaa
