
/- TcOpn2, TcSpk, TcSpk2. -/
import Derived.Test.YthdbkanbgfajbaaGreatTB25
import Derived.Laws.Rows
/- Which calls are open. -/
namespace Go.Proofs.YthdbkanbgfajbaaGreat
open Go.RowKit

theorem opS_notes {W : Wt} {s : Sn} : opS W s = (s.ans.take s.ans.length).foldl noteW (seeW W s) := by rw [List.take_length]; rfl
theorem notes_step {W : Wt} {l : List An} {j : Nat} {x : An} (h : l[j]? = some x) : (l.take (j + 1)).foldl noteW W = noteW ((l.take j).foldl noteW W) x := by rw [take_an h, List.foldl_append]; rfl
def opnJ (W : Wt) (j : Nat) : List Int := (W.order.take j).filter fun x => !ansB W x
theorem opnJ_yes {W : Wt} {j : Nat} {x : Int} (h : W.order[j]? = some x) (hb : ansB W x = false) : opnJ W (j + 1) = opnJ W j ++ [x] := by
  unfold opnJ; rw [List.take_add_one, h, List.filter_append]; simp [hb]
theorem opnJ_no {W : Wt} {j : Nat} {x : Int} (h : W.order[j]? = some x) (hb : ansB W x = true) : opnJ W (j + 1) = opnJ W j := by
  unfold opnJ; rw [List.take_add_one, h, List.filter_append]; simp [hb]
theorem opnJ_len (W : Wt) (j : Nat) : (opnJ W j).length ≤ j := by
  unfold opnJ
  refine Nat.le_trans (List.length_filter_le _ _) ?_
  rw [List.length_take]; omega
set_option maxRecDepth 100000 in
set_option maxHeartbeats 8000000 in
theorem open_any {B : Nat} (a : Option Addr) (n c : Nat) (l : List Sn) (hn : n = l.length) (hs : Small l) (w : World) (h : Sns w B a c l) :
    Calls Tryz.prog 9 #[.slice a n c] w (RowE w (openL l)) := by
  obtain ⟨iR, hiR, hR0, hR1, hR2⟩ := info_parts infoInt
  have hle : n ≤ c := by rw [hn]; exact h.le
  have hmx := h.max
  have hl3 : n ≤ 300 := by rw [hn]; exact hs.len
  have HS : Hid (∀ W, Fr (fun _ => False) w W → Sns W B a c l) := fun W f => h.same f
  have HZ : Hid (Small l) := hs
  have HN : Hid (n = l.length) := hn
  clear h hn hs
  go_enter Tryz.func9, Tryz.ntmps9
  go_wp2_with (go_at_call 15; refine (newW_any _).mono ?_; rintro e w2 ⟨b, rfl, hw2, f2⟩)
  have HA0 : Hid (Ak w w2 b (opF (l.take 0)) (0 * 2) (.slice none 0 0) []) := wt0_ak hw2 f2
  clear hw2 f2
  go_loopw [14] (fun i wo => ∃ k : Nat, k ≤ n ∧ i = .int .i64 k ∧ Hid (Ak w wo b (opF (l.take k)) (k * 2) (.slice none 0 0) [])) (fun i _ => n - (intOf i).toNat)
  case atStart => exact ⟨0, by omega, rfl, HA0⟩
  case round =>
    obtain ⟨wo, rfl⟩ : ∃ x, x = wr := ⟨wr, rfl⟩
    obtain ⟨k, hk, rfl, HA⟩ := hrel
    clear HA0
    by_cases hlt : k < n
    · obtain ⟨s, hsk⟩ : ∃ s, l[k]? = some s := ⟨_, List.getElem?_eq_getElem (by have := HN.out; omega)⟩
      have hmem := List.mem_of_getElem? hsk
      have HSN : Hid (Sns wo B a c l) := HS.out _ HA.out.frame
      obtain ⟨g, o, rfl, hgB, hgw, hcc⟩ := HSN.out.some (by have := HN.out; omega)
      obtain ⟨c0, c1, c2, c3, c4, c5, c6, c7, c8, c9, c10, c11⟩ := sn_range (hcc k s hsk)
      have hki : (k : Int) < (n : Int) := by omega
      obtain ⟨W, hW⟩ : ∃ W, W = opF (l.take k) := ⟨_, rfl⟩
      have HWW : Hid (W = opF (l.take k)) := hW
      have HWH : Hid (W.h = []) := by show _ = _; rw [hW]; exact opF_h _
      rw [← hW] at HA
      have hcall : Calls Tryz.prog 17 #[.pointer (some ⟨b, 0, none⟩), chV s] (wo.alloc (.cells (snC s) 39)) fun e w' => e = .returned (.tuple #[]) ∧ Ak w w' b (seeW W s) ((k + 1) * 2) (.slice none 0 0) [] ∧ w'.heap[wo.heap.size]? = some (.cells (snC s) 39 (0, 0)) := by
        obtain ⟨S, h1, h2⟩ := HA.out.box (snC s) 39
        refine (see_any s (HZ.out.wf s hmem).creq (HZ.out.wf s hmem).node _ (by omega) h1).mono ?_
        rintro e w' ⟨rfl, ht⟩
        obtain ⟨q1, q2⟩ := h2 _ _ _ (by rw [seeW_h]; exact HWH.out) ht
        exact ⟨rfl, q1.more (by omega), q2⟩
      obtain ⟨aa, haa⟩ : ∃ x, x = s.aa := ⟨_, rfl⟩
      have HAA : Hid (aa = s.aa) := haa
      obtain ⟨na, hna⟩ : ∃ x, x = s.ans.length := ⟨_, rfl⟩
      have HNA : Hid (na = s.ans.length) := hna
      have hal : na ≤ s.ac := by rw [hna]; exact (HSN.out.ins s hmem).al
      have ham : s.ac ≤ 9223372036854775807 := (HSN.out.ins s hmem).am
      have HSK : Hid (l[k]? = some s) := hsk
      clear hcc hsk hmem HA HSN haa hna hW
      unfold snC chV at hcall
      go_wp2_with fail
      refine hcall.mono ?_
      rintro e w3 ⟨rfl, ha3, hb3⟩
      clear hcall c0 c1 c2 c3 c4 c5 c6 c7 c8 c9 c10 c11
      obtain ⟨⟨c0, c1, c2, c3, c4, c5, c6, c7, c8, c9, c10, c11⟩, hg⟩ := sn_cells HAA.out hb3
      rw [← HNA.out] at c10
      have HA3 : Hid (Ak w w3 b ((s.ans.take 0).foldl noteW (seeW W s)) ((k + 1) * 2) (.slice none 0 0) []) := ha3
      clear ha3 hb3
      go_wp2
      clear c0 c1 c2 c3 c4 c5 c6 c7 c8 c9 c10 c11 hg
      go_loopw [25] (fun i wq => ∃ j : Nat, j ≤ na ∧ i = .int .i64 j ∧ Hid (Ak w wq b ((s.ans.take j).foldl noteW (seeW W s)) ((k + 1) * 2) (.slice none 0 0) [])) (fun i _ => na - (intOf i).toNat)
      case atStart => exact ⟨0, by omega, rfl, HA3⟩
      case round =>
        obtain ⟨wq, rfl⟩ : ∃ x, x = wr := ⟨wr, rfl⟩
        obtain ⟨j, hj, rfl, HA⟩ := hrel
        clear HA3
        by_cases hlj : j < na
        · obtain ⟨x, hx⟩ : ∃ x, s.ans[j]? = some x := ⟨_, List.getElem?_eq_getElem (by have := HNA.out; omega)⟩
          have hxm : x ∈ s.ans := List.mem_of_getElem? hx
          have hmem := List.mem_of_getElem? HSK.out
          have hin := (HS.out _ HA.out.frame).ins s hmem
          obtain ⟨ga, oa, ea, _, hga, hcc⟩ : ∃ g o, s.aa = some ⟨g, o, none⟩ ∧ g < B ∧ g < wq.heap.size ∧ ∀ i a, s.ans[i]? = some a → wq.rangeAt g (o + i * 6) (anC a).toList := by
            rcases hin.at_ with h0 | h
            · rw [h0] at hx; cases hx
            · exact h
          obtain ⟨q0, q1, q2, q3, q4, q5⟩ := an_range (hcc j x hx)
          rw [← HAA.out] at ea
          subst ea
          have hji : (j : Int) < (na : Int) := by omega
          have hak : Calls Tryz.prog 18 #[.pointer (some ⟨b, 0, none⟩), anV x] (wq.alloc (.cells (anC x) 49)) fun e w' => e = .returned (.tuple #[]) ∧ Ak w w' b ((s.ans.take (j + 1)).foldl noteW (seeW W s)) ((k + 1) * 2) (.slice none 0 0) [] := by
            have F2 : Fr (fun _ => False) wq (wq.alloc (.cells (anC x) 49)) := Fr.box _ _
            obtain ⟨S, h1, h2⟩ := (HA.out.same F2).parts
            refine (note_any ((HZ.out.wf s hmem).ans x hxm).1 _ h1).mono ?_
            rintro e w' ⟨rfl, ht⟩
            refine ⟨rfl, ?_⟩
            rw [notes_step hx]
            exact h2 _ _ _ (by rw [noteW_h, notesW_h, seeW_h]; exact HWH.out) ht
          clear hx hxm hmem hin hcc HA
          unfold anV anC at hak
          go_wp2_with fail
          refine hak.mono ?_
          rintro e w4 ⟨rfl, ha4⟩
          have HA4 : Hid (Ak w w4 b ((s.ans.take (j + 1)).foldl noteW (seeW W s)) ((k + 1) * 2) (.slice none 0 0) []) := ha4
          clear ha4 hak q0 q1 q2 q3 q4 q5
          go_wp2
          go_roundw
          case rel => exact ⟨j + 1, by omega, by go_num, HA4⟩
          case measure => simp [intOf]; omega
        · obtain rfl : j = na := by omega
          have HA6 : Hid (Ak w wq b (opF (l.take (k + 1))) ((k + 1) * 2) (.slice none 0 0) []) := by
            show Ak _ _ _ _ _ _ _
            rw [opF_step HSK.out, opS_notes, ← HWW.out, ← HNA.out]; exact HA.out
          clear HA
          go_wp2
          go_roundw
          case rel => exact ⟨k + 1, by omega, by go_num, HA6⟩
          case measure => simp [intOf]; omega
    · obtain rfl : k = n := by omega
      have HO : Hid (openL l = opnJ (opF l) (opF l).order.length) := by show _ = _; unfold openL opnJ; rw [List.take_length]
      have HC : Hid (∀ x ∈ (opF l).order, ∃ c, (opF l).calls x = some c) := fun x hx => by
        have := ord_all (l := l) (k := l.length) (Nat.le_refl _)
        rw [List.take_length] at this
        cases hq : (opF l).calls x with
        | some c => exact ⟨c, rfl⟩
        | none => rw [this.1] at hx; exact absurd hx ((this.2 x).1 hq)
      have hA := HA.out
      rw [show l.take k = l by rw [HN.out, List.take_length]] at hA
      obtain ⟨W, hW⟩ : ∃ W, W = opF l := ⟨_, rfl⟩
      rw [← hW] at hA HO HC
      obtain ⟨m1, m2, oa, oc, ha, hc, P, hA⟩ := hA
      have HA2 : Hid (Aw w wo b W (k * 2) m1 m2 oa oc ha hc P (.slice none 0 0) (opnJ W 0)) := hA
      obtain ⟨c1, hbw, hfew⟩ : wo.cell? ⟨b, 1, none⟩ = some (.slice oa W.order.length oc) ∧ b < wo.heap.size ∧ W.order.length ≤ 600 := by
        obtain ⟨S, _, hwi, _⟩ := hA
        exact ⟨(four_cells hwi.blk).2.1, blk_lt hwi.blk, by have := hwi.few; omega⟩
      have hoc : W.order.length ≤ oc ∧ oc ≤ 9223372036854775807 := by
        obtain ⟨S, _, hwi, _⟩ := hA
        obtain ⟨a', c', e, h1, h2⟩ := hwi.row.slice
        simp only [Value.slice.injEq, true_and] at e
        obtain ⟨_, rfl⟩ := e
        unfold maxLen at h2
        omega
      obtain ⟨hoc1, hoc2⟩ := hoc
      obtain ⟨no, hno⟩ : ∃ no, no = W.order.length := ⟨_, rfl⟩
      have HNO : Hid (no = W.order.length) := hno
      rw [← hno] at c1 hfew hoc1
      clear HA hA hW hno HS HZ
      go_wp2
      clear c1 hbw
      go_loopw [8, 39] (fun v i wq => ∃ (j m : Nat) (a' : Option Addr) (c' : Nat), j ≤ no ∧ i = .int .i64 j ∧ v = .slice a' m c' ∧ m ≤ j ∧ Hid (m = (opnJ W j).length) ∧ Hid (Aw w wq b W (k * 2) m1 m2 oa oc ha hc P (.slice a' m c') (opnJ W j))) (fun _ i _ => no - (intOf i).toNat)
      case atStart => exact ⟨0, 0, none, 0, by omega, rfl, rfl, by omega, rfl, HA2⟩
      case round =>
        obtain ⟨wq, rfl⟩ : ∃ x, x = wr := ⟨wr, rfl⟩
        obtain ⟨j, m, a', c', hj, rfl, rfl, hmj, HM, HA⟩ := hrel
        clear HA2
        by_cases hlj : j < no
        · obtain ⟨x, hx⟩ : ∃ x, W.order[j]? = some x := ⟨_, List.getElem?_eq_getElem (by have := HNO.out; omega)⟩
          obtain ⟨c, hc⟩ := HC.out x (List.mem_of_getElem? hx)
          obtain ⟨S, hA1, hwi, hA3⟩ := HA.out
          have hwk : wfK x := by
            obtain ⟨_, _, D, _, _, hl⟩ := hwi.calls
            exact hl.key x _ (by rw [hc]; rfl)
          obtain ⟨g, cap, hv, hgw, _, _, _, hrg⟩ := hwi.row.form (by have := HNO.out; omega)
          simp only [Value.slice.injEq, true_and] at hv
          obtain ⟨rfl, rfl⟩ := hv
          have k0 : wq.cell? ⟨g, j, none⟩ = some (.int .i64 x) := by
            have := hrg j (zI x) (by rw [List.getElem?_map, hx]; rfl)
            rwa [Nat.zero_add] at this
          obtain ⟨y0, y1, y2, y3, yz⟩ := four_cells hwi.blk
          have e1 := hwi.look1 hwk
          have e2 := (hwi.same (Fr.drew (Fr.refl _ _))).look1 hwk
          rw [hc] at e1 e2
          dsimp only [Option.map, Option.getD] at e1 e2
          have hmd := hwi.made x c hc
          obtain ⟨op, cn, ca, cr⟩ := c
          unfold mdC at hmd
          dsimp only at hmd
          obtain ⟨d0, d1, d2, d3, d4, d5, dz⟩ := six_cells hmd
          have hbw := blk_lt hwi.blk
          have hpw := blk_lt hmd
          have hji : (j : Int) < (no : Int) := by omega
          have HX : Hid (W.order[j]? = some x) := hx
          have HAB : Hid (ansB W x = ca) := by show _ = _; unfold ansB; rw [hc]
          clear hx hc hA1 hwi hA3 hrg hmd
          cases ca with
          | true =>
            have HJ : Hid (opnJ W (j + 1) = opnJ W j) := opnJ_no HX.out HAB.out
            have HA4 : Hid (Aw w wq b W (k * 2) m1 m2 (some ⟨g, 0, none⟩) oc ha hc P (.slice a' m c') (opnJ W (j + 1))) := by
              show Aw _ _ _ _ _ _ _ _ _ _ _ _ _ _
              rw [HJ.out]; exact HA.out
            have HM4 : Hid (m = (opnJ W (j + 1)).length) := by show _ = _; rw [HJ.out]; exact HM.out
            clear HA HM HAB HJ
            go_wp2
            go_roundw
            case rel => exact ⟨j + 1, m, a', c', by omega, by go_num, rfl, by omega, HM4, HA4⟩
            case measure => simp [intOf]; omega
          | false =>
            have HJ : Hid (opnJ W (j + 1) = opnJ W j ++ [x]) := opnJ_yes HX.out HAB.out
            have F5 : Fr (fun _ => False) wq (wq.alloc (.cells #[.int .i64 x] 3)) := Fr.box _ _
            have HA5 : Hid (Aw w (wq.alloc (.cells #[.int .i64 x] 3)) b W (k * 2) m1 m2 (some ⟨g, 0, none⟩) oc ha hc P (.slice a' m c') (opnJ W j)) := HA.out.same F5
            have HRW : Hid (Has (wq.alloc (.cells #[.int .i64 x] 3)) 1 (.slice a' m c') m ((opnJ W j).map zI)) := by
              have h2 : Ak w (wq.alloc (.cells #[.int .i64 x] 3)) b W (k * 2) (.slice a' m c') (opnJ W j) := ⟨_, _, _, _, _, _, _, HA5.out⟩
              have := h2.has.1
              rw [← HM.out] at this
              exact this
            have HNE : Hid (From (wq.alloc (.cells #[.int .i64 x] 3)) (some ⟨wq.heap.size, 0, none⟩) [.int .i64 x]) := int_one wq x
            clear HA HAB F5
            go_wp2_with (at_builtin; refine wpList_append_has _ rfl (.tmp 53) (.tmp 55) 40 40 3 3 rfl iR _ 1 8 Tryz.underlying40 Tryz.underlying40 hiR hR0 hR1 hR2 rfl (by omega) (.slice a' m c') m ((opnJ W j).map zI) rfl HRW.out (some ⟨wq.heap.size, 0, none⟩) 1 1 [.int .i64 x] rfl rfl HNE.out (by simp [Value.oneCell']) (by unfold maxLen; omega) (by omega) ?_; intro a4 c4 w8 ht4 f34 hat4)
            have HA6 : Hid (Aw w w8 b W (k * 2) m1 m2 (some ⟨g, 0, none⟩) oc ha hc P (.slice a4 (m + 1) c4) (opnJ W (j + 1))) := by
              show Aw _ _ _ _ _ _ _ _ _ _ _ _ _ _
              rw [HJ.out]
              exact HA5.out.app (by rw [← HM.out]; exact ht4) f34 hat4
            have HM6 : Hid (m + 1 = (opnJ W (j + 1)).length) := by show _ = _; rw [HJ.out, List.length_append, ← HM.out]; rfl
            clear ht4 f34 hat4 HA5 HRW HNE HJ HM k0 y0 y1 y2 y3 yz e1 e2 d0 d1 d2 d3 d4 d5 dz
            go_wp2
            go_roundw
            case rel => exact ⟨j + 1, m + 1, a4, c4, by omega, by go_num, rfl, by omega, HM6, HA6⟩
            case measure => simp [intOf]; omega
        · obtain rfl : j = no := by omega
          have HFIN : Hid (RowE w (openL l) (.returned (.slice a' m c')) wq) := by
            have h1 := HM.out
            have h2 : Ak w wq b W (k * 2) (.slice a' m c') (opnJ W j) := ⟨_, _, _, _, _, _, _, HA.out⟩
            rw [HNO.out, ← HO.out] at h1 h2
            subst h1
            exact ⟨a', c', rfl, Ir.ofHas rfl h2.has.1, h2.frame⟩
          clear HA HM
          go_wp2
          go_ret
          exact HFIN.out
end Go.Proofs.YthdbkanbgfajbaaGreat

/- The small cases that each statement asks first. -/
namespace Go.Proofs.YthdbkanbgfajbaaGreat
open Go.RowKit

def kA : ByteArray := ⟨#[97]⟩
def kX : ByteArray := ⟨#[120]⟩
def rP : Rec := ⟨1, 0, 7, 0, 1, 1, kA, kX⟩
def aP : An := ⟨1, 0, 1, ⟨false, ⟨#[]⟩, []⟩, none, 0⟩
/-- A step: a put or nothing, answered or not, with a history or none. -/
def mkS (q : Int) (A Hh : Bool) (g0 g1 : Nat) : Sn where
  kind := if q = 0 then 0 else 1
  node := 0
  n := 0
  m := 0
  creq := q
  cnode := 0
  op := if q = 0 then ⟨0, ⟨#[]⟩, ⟨#[]⟩⟩ else ⟨2, kA, kX⟩
  ba := none
  bn := 0
  bc := 0
  ans := if A = true then [aP] else []
  aa := if A = true then some ⟨g1, 0, none⟩ else none
  ac := if A = true then 1 else 0
  H := if Hh = true then [rP] else []
  ha := if Hh = true then some ⟨g0, 0, none⟩ else none
  hc := if Hh = true then 1 else 0
theorem mk_wf (q : Int) (A Hh : Bool) (g0 g1 : Nat) (h : q = 0 ∨ q = 1 ∨ q = 4) : SnWf (mkS q A Hh g0 g1) := by
  have e0 : wfK 0 := wfK_of (by omega)
  have e1 : wfK 1 := wfK_of (by omega)
  refine ⟨wfK_of (by show _ ≤ q ∧ q ≤ _; omega), e0, ?_, ?_, ?_, ?_⟩
  · have key : ∀ k : ByteArray, k.size ≤ 1 → k.size ≤ maxLen := fun k h => by unfold maxLen; omega
    rcases h with rfl | rfl | rfl <;> exact key _ (by first | exact Nat.zero_le _ | exact Nat.le_refl _)
  · have key : ∀ k : ByteArray, k.size ≤ 1 → k.size ≤ maxLen := fun k h => by unfold maxLen; omega
    rcases h with rfl | rfl | rfl <;> exact key _ (by first | exact Nat.zero_le _ | exact Nat.le_refl _)
  · cases A
    · intro a ha; cases ha
    · intro a ha
      have : a = aP := by simpa [mkS] using ha
      subst this
      exact ⟨e1, e0, fun e he => by cases he⟩
  · cases Hh
    · intro r hr; cases hr
    · intro r hr
      have : r = rP := by simpa [mkS] using hr
      subst this
      exact e1
theorem mk_len (q : Int) (A Hh : Bool) (g0 g1 : Nat) : (mkS q A Hh g0 g1).ans.length ≤ 2000 ∧ (mkS q A Hh g0 g1).H.length ≤ 2000 := by
  cases A <;> cases Hh <;> (refine ⟨?_, ?_⟩ <;> simp [mkS])
theorem mk_ins {V : World} {g0 g1 : Nat} (h0 : V.heap[g0]? = some (.cells #[.int .i64 1, .int .i64 0, .int .i64 7, .int .i64 0, .int .i64 1, .int .i64 1, .string kA, .string kX] 44 (0, 0))) (h1 : V.heap[g1]? = some (.cells #[.int .i64 1, .int .i64 0, .int .i64 1, .bool false, .string ⟨#[]⟩, .slice none 0 0] 49 (0, 0))) (q : Int) (A Hh : Bool) : InS V V.heap.size (mkS q A Hh g0 g1) := by
  refine ⟨?_, ?_, ?_, ?_, ?_, ?_⟩
  · cases Hh
    · exact ⟨Nat.le_refl _, Nat.zero_le _, .inl rfl⟩
    · refine ⟨Nat.le_refl _, (by decide : (1 : Nat) ≤ 9223372036854775807), .inr ⟨g0, 0, rfl, blk_lt h0, fun i r hr => ?_⟩⟩
      have hr' : ([rP] : List Rec)[i]? = some r := hr
      cases i with
      | zero =>
        simp only [List.getElem?_cons_zero, Option.some.injEq] at hr'
        subst hr'
        exact range_block h0 (fun j v hv => by rw [Nat.zero_add]; rw [← Array.getElem?_toList]; exact hv)
      | succ i => simp at hr'
  · intro g o e hne
    cases Hh
    · exact absurd rfl hne
    · have e' : some (⟨g0, 0, none⟩ : Addr) = some ⟨g, o, none⟩ := e
      cases e'
      exact blk_lt h0
  · cases A <;> exact Nat.le_refl _
  · cases A
    · exact Nat.zero_le _
    · exact (by decide : (1 : Nat) ≤ 9223372036854775807)
  · cases A
    · exact .inl rfl
    · refine .inr ⟨g1, 0, rfl, blk_lt h1, blk_lt h1, fun i a ha => ?_⟩
      have ha' : ([aP] : List An)[i]? = some a := ha
      cases i with
      | zero =>
        simp only [List.getElem?_cons_zero, Option.some.injEq] at ha'
        subst ha'
        exact range_block h1 (fun j v hv => by rw [Nat.zero_add]; rw [← Array.getElem?_toList]; exact hv)
      | succ i => simp at ha'
  · intro a ha
    cases A
    · cases ha
    · have : a = aP := by simpa [mkS] using ha
      subst this
      exact ⟨⟨Nat.le_refl _, Nat.zero_le _, .inl rfl⟩, fun g o e _ => by cases e⟩
theorem mk_sns {V : World} {g : Nat} {l : List Sn} {C : Array Value} (hl : ∀ s ∈ l, InS V V.heap.size s) (hc : V.heap[g]? = some (.cells C 39 (0, 0))) (hC : C.toList = l.flatMap fun s => (snC s).toList) (hn : l.length ≤ 300) : Sns V V.heap.size (some ⟨g, 0, none⟩) l.length l := by
  refine ⟨Nat.le_refl _, by omega, .inr ⟨g, 0, rfl, blk_lt hc, blk_lt hc, fun i s hs => ?_⟩, hl⟩
  refine range_block hc (fun j v hv => ?_)
  rw [← Array.getElem?_toList, hC, Nat.zero_add]
  clear hC hc hl hn
  induction l generalizing i with
  | nil => simp at hs
  | cons t l ih =>
    rw [List.flatMap_cons]
    have ht : (snC t).toList.length = 12 := rfl
    cases i with
    | zero =>
      simp only [List.getElem?_cons_zero, Option.some.injEq] at hs
      subst hs
      have hj : j < 12 := by have := (List.getElem?_eq_some_iff.1 hv).1; rwa [ht] at this
      rw [List.getElem?_append_left (by rw [ht]; omega)]
      rw [show 0 * 12 + j = j by omega]
      exact hv
    | succ i =>
      rw [List.getElem?_append_right (by rw [ht]; omega), ht]
      have := ih i (by simpa using hs)
      rw [show (i + 1) * 12 + j - 12 = i * 12 + j by omega]
      exact this
theorem mk_small {l : List Sn} (hn : l.length ≤ 300) (h : ∀ s ∈ l, ∃ q A Hh g0 g1, s = mkS q A Hh g0 g1 ∧ (q = 0 ∨ q = 1 ∨ q = 4)) : Small l :=
  ⟨fun s hs => by obtain ⟨q, A, Hh, g0, g1, rfl, hq⟩ := h s hs; exact mk_wf _ _ _ _ _ hq, hn, fun s hs => by obtain ⟨q, A, Hh, g0, g1, rfl, hq⟩ := h s hs; exact mk_len _ _ _ _ _⟩
def spT1 (g0 g1 : Nat) : List Sn := [mkS 1 false false g0 g1, mkS 0 true true g0 g1]
def spT2 (g0 g1 : Nat) : List Sn := [mkS 1 false false g0 g1, mkS 0 true false g0 g1]
def spT3 (g0 g1 : Nat) : List Sn := [mkS 1 true true g0 g1, mkS 0 true true g0 g1]
def spT4 (g0 g1 : Nat) : List Sn := [mkS 4 false false g0 g1]
theorem two_cases {l : List Sn} {x y : Sn} (hl : l = [x, y]) {r i : Int} (h : ChkO l r i) : (r = 0 ∧ brk wt0 x = 0 ∧ brk (brkW wt0 x) y = 0) ∨ (r ≠ 0 ∧ i = 0 ∧ brk wt0 x = r) ∨ (r ≠ 0 ∧ i = 1 ∧ brk wt0 x = 0 ∧ brk (brkW wt0 x) y = r) := by
  subst hl
  rcases h with ⟨h1, _, h3⟩ | ⟨h1, k, s, rfl, hs, hb, hk⟩
  · exact .inl ⟨h1, h3 0 x (by simp) rfl, h3 1 y (by simp) rfl⟩
  · match k, hs with
    | 0, hs => cases hs; exact .inr (.inl ⟨h1, rfl, hb⟩)
    | 1, hs => cases hs; exact .inr (.inr ⟨h1, rfl, hk 0 x (by omega) rfl, hb⟩)
theorem sp1 {g0 g1 : Nat} {r i : Int} (h : ChkO (spT1 g0 g1) r i) : r = 0 := by
  have e1 : brk wt0 (mkS 1 false false g0 g1) = 0 := by kernel_rfl
  have e2 : brk (brkW wt0 (mkS 1 false false g0 g1)) (mkS 0 true true g0 g1) = 0 := by kernel_rfl
  rcases two_cases rfl h with ⟨h, _, _⟩ | ⟨h, _, k⟩ | ⟨h, _, _, k⟩
  · exact h
  · rw [e1] at k; exact absurd k.symm h
  · rw [e2] at k; exact absurd k.symm h
theorem sp2 {g0 g1 : Nat} {r i : Int} (h : ChkO (spT2 g0 g1) r i) : r = 3 ∧ i = 1 := by
  have e1 : brk wt0 (mkS 1 false false g0 g1) = 0 := by kernel_rfl
  have e2 : brk (brkW wt0 (mkS 1 false false g0 g1)) (mkS 0 true false g0 g1) = 3 := by kernel_rfl
  rcases two_cases rfl h with ⟨h, _, k⟩ | ⟨h, _, k⟩ | ⟨h, hi, _, k⟩
  · rw [e2] at k; omega
  · rw [e1] at k; exact absurd k.symm h
  · rw [e2] at k; exact ⟨k.symm, hi⟩
theorem sp3 {g0 g1 : Nat} {r i : Int} (h : ChkO (spT3 g0 g1) r i) : r = 2 := by
  have e1 : brk wt0 (mkS 1 true true g0 g1) = 0 := by kernel_rfl
  have e2 : brk (brkW wt0 (mkS 1 true true g0 g1)) (mkS 0 true true g0 g1) = 2 := by kernel_rfl
  rcases two_cases rfl h with ⟨h, _, k⟩ | ⟨h, _, k⟩ | ⟨h, hi, _, k⟩
  · rw [e2] at k; omega
  · rw [e1] at k; exact absurd k.symm h
  · rw [e2] at k; exact k.symm
theorem sp4 (g0 g1 : Nat) : openL (spT4 g0 g1) = [4] := by kernel_rfl
set_option maxRecDepth 100000 in
set_option maxHeartbeats 1000000 in
theorem put_any (q : Int) (w : World) : Calls Tryz.prog 13 #[.int .i64 q] w fun e w' => e = .returned (.agg #[.int .i64 1, .int .i64 0, .int .i64 0, .int .i64 0, .int .i64 q, .int .i64 0, .int .i64 2, .string kA, .string kX, .slice none 0 0]) ∧ Fr (fun _ => False) w w' := by
  go_enter Tryz.func13, Tryz.ntmps13
  go_wp2
  ((try simp only [Exit.inBlock, Exit.then]); refine bodyPost_ret (v := .agg #[.int .i64 1, .int .i64 0, .int .i64 0, .int .i64 0, .int .i64 q, .int .i64 0, .int .i64 2, .string ⟨#[97]⟩, .string ⟨#[120]⟩, .slice none 0 0]) (results_cell_row rfl _ _ w.heap.size 35 #[.int .i64 1, .int .i64 0, .int .i64 0, .int .i64 0, .int .i64 q, .int .i64 0, .int .i64 2, .string ⟨#[97]⟩, .string ⟨#[120]⟩, .slice none 0 0] (0, 0) _ rfl (heap_alloc_new w _) Tryz.underlying35 rfl (by kernel_rfl)) rfl ?_)
  exact ⟨rfl, Fr.box _ _⟩
end Go.Proofs.YthdbkanbgfajbaaGreat

/- The small cases come true. -/
namespace Go.Proofs.YthdbkanbgfajbaaGreat
open Go.RowKit

theorem four_ir (w : World) : Ir (w.alloc (.cells #[.int .i64 4] 3)) 0 (some ⟨w.heap.size, 0, none⟩) 1 [4] := by
  refine ⟨Nat.le_refl _, by omega, .inr ⟨w.heap.size, rfl, Nat.zero_le _, by simp, fun i x hx => ?_⟩⟩
  cases i with
  | zero =>
    simp only [List.getElem?_cons_zero, Option.some.injEq] at hx
    subst hx
    exact one_cell_ir (heap_alloc_new w _)
  | succ i => simp at hx
set_option maxRecDepth 100000 in
set_option maxHeartbeats 8000000 in
theorem tspeaks_any (w : World) : Calls Tryz.prog 7 #[] w fun e w' => e = .returned (.bool true) ∧ Fr (fun _ => False) w w' := by
  obtain ⟨V, hV⟩ : ∃ V, V = (w.alloc (.cells #[.int .i64 1, .int .i64 0, .int .i64 7, .int .i64 0, .int .i64 1, .int .i64 1, .string ⟨#[97]⟩, .string ⟨#[120]⟩] 44)).alloc (.cells #[.int .i64 1, .int .i64 0, .int .i64 1, .bool false, .string ⟨#[]⟩, .slice none 0 0] 49) := ⟨_, rfl⟩
  have HV : Hid (V = (w.alloc (.cells #[.int .i64 1, .int .i64 0, .int .i64 7, .int .i64 0, .int .i64 1, .int .i64 1, .string ⟨#[97]⟩, .string ⟨#[120]⟩] 44)).alloc (.cells #[.int .i64 1, .int .i64 0, .int .i64 1, .bool false, .string ⟨#[]⟩, .slice none 0 0] 49)) := hV
  have HFV : Hid (Fr (fun _ => False) w V) := by
    show Fr _ _ _
    rw [hV]; exact (Fr.box _ _).seq' (Fr.box _ _)
  have HG : Hid (∀ W, Fr (fun _ => False) V W → W.heap[w.heap.size]? = some (.cells #[.int .i64 1, .int .i64 0, .int .i64 7, .int .i64 0, .int .i64 1, .int .i64 1, .string kA, .string kX] 44 (0, 0)) ∧ W.heap[w.heap.size + 1]? = some (.cells #[.int .i64 1, .int .i64 0, .int .i64 1, .bool false, .string ⟨#[]⟩, .slice none 0 0] 49 (0, 0))) := fun W f => by
    have g0 := heap_alloc_new w (.cells #[.int .i64 1, .int .i64 0, .int .i64 7, .int .i64 0, .int .i64 1, .int .i64 1, .string ⟨#[97]⟩, .string ⟨#[120]⟩] 44)
    have g1 := heap_alloc_new (w.alloc (.cells #[.int .i64 1, .int .i64 0, .int .i64 7, .int .i64 0, .int .i64 1, .int .i64 1, .string ⟨#[97]⟩, .string ⟨#[120]⟩] 44)) (.cells #[.int .i64 1, .int .i64 0, .int .i64 1, .bool false, .string ⟨#[]⟩, .slice none 0 0] 49)
    rw [show (w.alloc (.cells #[.int .i64 1, .int .i64 0, .int .i64 7, .int .i64 0, .int .i64 1, .int .i64 1, .string ⟨#[97]⟩, .string ⟨#[120]⟩] 44)).heap.size = w.heap.size + 1 by simp] at g1
    have g2 := ((Fr.box _ (.cells #[.int .i64 1, .int .i64 0, .int .i64 1, .bool false, .string ⟨#[]⟩, .slice none 0 0] 49)).block _ (blk_lt g0) (fun e => e)).trans g0
    rw [← hV] at g1 g2
    exact ⟨(f.block _ (blk_lt g2) (fun e => e)).trans g2, (f.block _ (blk_lt g1) (fun e => e)).trans g1⟩
  have HC1 : Hid (∀ W, Fr (fun _ => False) V W → Calls Tryz.prog 8 #[.slice (some ⟨W.heap.size, 0, none⟩) 2 2] (W.alloc (.cells (#[.int .i64 1, .int .i64 0, .int .i64 0, .int .i64 0, .int .i64 1, .int .i64 0, .int .i64 2, .string kA, .string kX, .slice none 0 0, .slice none 0 0, .slice none 0 0, .int .i64 0, .int .i64 0, .int .i64 0, .int .i64 0, .int .i64 0, .int .i64 0, .int .i64 0, .string ⟨#[]⟩, .string ⟨#[]⟩, .slice none 0 0, .slice (some ⟨w.heap.size + 1, 0, none⟩) 1 1, .slice (some ⟨w.heap.size, 0, none⟩) 1 1]) 39)) fun e w' => (∃ i : Int, e = .returned (.tuple #[.int .i64 0, .int .i64 i, .int .i64 0])) ∧ Fr (fun _ => False) V w') := fun W f => by
    have f2 := f.seq' (Fr.box W (.cells (#[.int .i64 1, .int .i64 0, .int .i64 0, .int .i64 0, .int .i64 1, .int .i64 0, .int .i64 2, .string kA, .string kX, .slice none 0 0, .slice none 0 0, .slice none 0 0, .int .i64 0, .int .i64 0, .int .i64 0, .int .i64 0, .int .i64 0, .int .i64 0, .int .i64 0, .string ⟨#[]⟩, .string ⟨#[]⟩, .slice none 0 0, .slice (some ⟨w.heap.size + 1, 0, none⟩) 1 1, .slice (some ⟨w.heap.size, 0, none⟩) 1 1]) 39))
    obtain ⟨h0, h1⟩ := HG.out _ f2
    refine (check_any (some ⟨W.heap.size, 0, none⟩) 2 2 (spT1 w.heap.size (w.heap.size + 1)) rfl (mk_small (Nat.le_of_ble_eq_true rfl) (fun s hs => ?_)) _ (Nat.le_refl _) (mk_sns (l := spT1 w.heap.size (w.heap.size + 1)) (fun s hs => ?_) (heap_alloc_new W _) rfl (Nat.le_of_ble_eq_true rfl))).mono ?_
    · rcases List.mem_cons.1 hs with rfl | hs
      · exact ⟨_, _, _, _, _, rfl, by omega⟩
      · rw [List.mem_singleton.1 hs]; exact ⟨_, _, _, _, _, rfl, by omega⟩
    · rcases List.mem_cons.1 hs with rfl | hs
      · exact mk_ins h0 h1 _ _ _
      · rw [List.mem_singleton.1 hs]; exact mk_ins h0 h1 _ _ _
    · rintro e w' ⟨r, i, rfl, hk, f3⟩
      rw [sp1 hk]
      exact ⟨⟨i, rfl⟩, f2.seq' f3⟩
  have HC2 : Hid (∀ W, Fr (fun _ => False) V W → Calls Tryz.prog 8 #[.slice (some ⟨W.heap.size, 0, none⟩) 2 2] (W.alloc (.cells (#[.int .i64 1, .int .i64 0, .int .i64 0, .int .i64 0, .int .i64 1, .int .i64 0, .int .i64 2, .string kA, .string kX, .slice none 0 0, .slice none 0 0, .slice none 0 0, .int .i64 0, .int .i64 0, .int .i64 0, .int .i64 0, .int .i64 0, .int .i64 0, .int .i64 0, .string ⟨#[]⟩, .string ⟨#[]⟩, .slice none 0 0, .slice (some ⟨w.heap.size + 1, 0, none⟩) 1 1, .slice none 0 0]) 39)) fun e w' => e = .returned (.tuple #[.int .i64 3, .int .i64 1, .int .i64 0]) ∧ Fr (fun _ => False) V w') := fun W f => by
    have f2 := f.seq' (Fr.box W (.cells (#[.int .i64 1, .int .i64 0, .int .i64 0, .int .i64 0, .int .i64 1, .int .i64 0, .int .i64 2, .string kA, .string kX, .slice none 0 0, .slice none 0 0, .slice none 0 0, .int .i64 0, .int .i64 0, .int .i64 0, .int .i64 0, .int .i64 0, .int .i64 0, .int .i64 0, .string ⟨#[]⟩, .string ⟨#[]⟩, .slice none 0 0, .slice (some ⟨w.heap.size + 1, 0, none⟩) 1 1, .slice none 0 0]) 39))
    obtain ⟨h0, h1⟩ := HG.out _ f2
    refine (check_any (some ⟨W.heap.size, 0, none⟩) 2 2 (spT2 w.heap.size (w.heap.size + 1)) rfl (mk_small (Nat.le_of_ble_eq_true rfl) (fun s hs => ?_)) _ (Nat.le_refl _) (mk_sns (l := spT2 w.heap.size (w.heap.size + 1)) (fun s hs => ?_) (heap_alloc_new W _) rfl (Nat.le_of_ble_eq_true rfl))).mono ?_
    · rcases List.mem_cons.1 hs with rfl | hs
      · exact ⟨_, _, _, _, _, rfl, by omega⟩
      · rw [List.mem_singleton.1 hs]; exact ⟨_, _, _, _, _, rfl, by omega⟩
    · rcases List.mem_cons.1 hs with rfl | hs
      · exact mk_ins h0 h1 _ _ _
      · rw [List.mem_singleton.1 hs]; exact mk_ins h0 h1 _ _ _
    · rintro e w' ⟨r, i, rfl, hk, f3⟩
      rw [(sp2 hk).1, (sp2 hk).2]
      exact ⟨rfl, f2.seq' f3⟩
  have HC3 : Hid (∀ W, Fr (fun _ => False) V W → Calls Tryz.prog 8 #[.slice (some ⟨W.heap.size, 0, none⟩) 2 2] (W.alloc (.cells (#[.int .i64 1, .int .i64 0, .int .i64 0, .int .i64 0, .int .i64 1, .int .i64 0, .int .i64 2, .string kA, .string kX, .slice none 0 0, .slice (some ⟨w.heap.size + 1, 0, none⟩) 1 1, .slice (some ⟨w.heap.size, 0, none⟩) 1 1, .int .i64 0, .int .i64 0, .int .i64 0, .int .i64 0, .int .i64 0, .int .i64 0, .int .i64 0, .string ⟨#[]⟩, .string ⟨#[]⟩, .slice none 0 0, .slice (some ⟨w.heap.size + 1, 0, none⟩) 1 1, .slice (some ⟨w.heap.size, 0, none⟩) 1 1]) 39)) fun e w' => (∃ i : Int, e = .returned (.tuple #[.int .i64 2, .int .i64 i, .int .i64 0])) ∧ Fr (fun _ => False) V w') := fun W f => by
    have f2 := f.seq' (Fr.box W (.cells (#[.int .i64 1, .int .i64 0, .int .i64 0, .int .i64 0, .int .i64 1, .int .i64 0, .int .i64 2, .string kA, .string kX, .slice none 0 0, .slice (some ⟨w.heap.size + 1, 0, none⟩) 1 1, .slice (some ⟨w.heap.size, 0, none⟩) 1 1, .int .i64 0, .int .i64 0, .int .i64 0, .int .i64 0, .int .i64 0, .int .i64 0, .int .i64 0, .string ⟨#[]⟩, .string ⟨#[]⟩, .slice none 0 0, .slice (some ⟨w.heap.size + 1, 0, none⟩) 1 1, .slice (some ⟨w.heap.size, 0, none⟩) 1 1]) 39))
    obtain ⟨h0, h1⟩ := HG.out _ f2
    refine (check_any (some ⟨W.heap.size, 0, none⟩) 2 2 (spT3 w.heap.size (w.heap.size + 1)) rfl (mk_small (Nat.le_of_ble_eq_true rfl) (fun s hs => ?_)) _ (Nat.le_refl _) (mk_sns (l := spT3 w.heap.size (w.heap.size + 1)) (fun s hs => ?_) (heap_alloc_new W _) rfl (Nat.le_of_ble_eq_true rfl))).mono ?_
    · rcases List.mem_cons.1 hs with rfl | hs
      · exact ⟨_, _, _, _, _, rfl, by omega⟩
      · rw [List.mem_singleton.1 hs]; exact ⟨_, _, _, _, _, rfl, by omega⟩
    · rcases List.mem_cons.1 hs with rfl | hs
      · exact mk_ins h0 h1 _ _ _
      · rw [List.mem_singleton.1 hs]; exact mk_ins h0 h1 _ _ _
    · rintro e w' ⟨r, i, rfl, hk, f3⟩
      rw [sp3 hk]
      exact ⟨⟨i, rfl⟩, f2.seq' f3⟩
  have HC4 : Hid (∀ W, Fr (fun _ => False) V W → Calls Tryz.prog 9 #[.slice (some ⟨W.heap.size, 0, none⟩) 1 1] (W.alloc (.cells (#[.int .i64 1, .int .i64 0, .int .i64 0, .int .i64 0, .int .i64 4, .int .i64 0, .int .i64 2, .string kA, .string kX, .slice none 0 0, .slice none 0 0, .slice none 0 0]) 39)) fun e w' => (∃ a c, e = .returned (.slice a 1 c) ∧ Ir w' 0 a c [4]) ∧ Fr (fun _ => False) V w') := fun W f => by
    have f2 := f.seq' (Fr.box W (.cells (#[.int .i64 1, .int .i64 0, .int .i64 0, .int .i64 0, .int .i64 4, .int .i64 0, .int .i64 2, .string kA, .string kX, .slice none 0 0, .slice none 0 0, .slice none 0 0]) 39))
    obtain ⟨h0, h1⟩ := HG.out _ f2
    refine (open_any (some ⟨W.heap.size, 0, none⟩) 1 1 (spT4 w.heap.size (w.heap.size + 1)) rfl (mk_small (Nat.le_of_ble_eq_true rfl) (fun s hs => ?_)) _ (mk_sns (l := spT4 w.heap.size (w.heap.size + 1)) (fun s hs => ?_) (heap_alloc_new W _) rfl (Nat.le_of_ble_eq_true rfl))).mono ?_
    · rw [List.mem_singleton.1 hs]; exact ⟨_, _, _, _, _, rfl, by omega⟩
    · rw [List.mem_singleton.1 hs]; exact mk_ins h0 h1 _ _ _
    · rintro e w' ⟨a, c, rfl, hr, f3⟩
      rw [sp4] at hr ⊢
      exact ⟨⟨a, c, rfl, hr⟩, f2.seq' f3⟩
  have HPL : Hid (∀ a c W, Ir W 0 a c [4] → Calls Tryz.prog 12 #[.slice a 1 c, .slice (some ⟨W.heap.size, 0, none⟩) 1 1] (W.alloc (.cells #[.int .i64 4] 3)) fun e w' => e = .returned (.bool true) ∧ Fr (fun _ => False) (W.alloc (.cells #[.int .i64 4] 3)) w') := fun a c W h => plain_ints a _ c 1 0 0 [4] _ (h.fr (Fr.box W _) (fun _ _ _ e => e)) (four_ir W)
  clear hV
  go_enter Tryz.func7, Tryz.ntmps7
  go_wp2_with fail
  refine (put_any 1 _).mono ?_
  rintro e w1 ⟨rfl, f1⟩
  rw [← HV.out] at f1
  have HF1 : Hid (Fr (fun _ => False) V w1) := f1
  have hc := HC1.out w1 f1
  clear f1
  unfold kA kX at hc
  go_wp2_with fail
  refine hc.mono ?_
  rintro e w2 ⟨⟨i1, rfl⟩, f2⟩
  have HF2 : Hid (Fr (fun _ => False) V w2) := f2
  clear hc f2 HF1
  go_wp2_with fail
  refine (put_any 1 _).mono ?_
  rintro e w3 ⟨rfl, f3⟩
  have HF3 : Hid (Fr (fun _ => False) V w3) := HF2.out.seq' f3
  have hc := HC2.out w3 HF3.out
  clear f3 HF2
  unfold kA kX at hc
  go_wp2_with fail
  refine hc.mono ?_
  rintro e w4 ⟨rfl, f4⟩
  have HF4 : Hid (Fr (fun _ => False) V w4) := f4
  clear hc f4 HF3
  go_wp2_with fail
  refine (put_any 1 _).mono ?_
  rintro e w5 ⟨rfl, f5⟩
  have HF5 : Hid (Fr (fun _ => False) V w5) := HF4.out.seq' f5
  have hc := HC3.out w5 HF5.out
  clear f5 HF4
  unfold kA kX at hc
  go_wp2_with fail
  refine hc.mono ?_
  rintro e w6 ⟨⟨i3, rfl⟩, f6⟩
  have HF6 : Hid (Fr (fun _ => False) V w6) := f6
  clear hc f6 HF5
  go_wp2_with fail
  refine (put_any 4 _).mono ?_
  rintro e w7 ⟨rfl, f7⟩
  have HF7 : Hid (Fr (fun _ => False) V w7) := HF6.out.seq' f7
  have hc := HC4.out w7 HF7.out
  clear f7 HF6
  unfold kA kX at hc
  go_wp2_with fail
  refine hc.mono ?_
  rintro e w8 ⟨⟨a8, c8, rfl, r8⟩, f8⟩
  have HF8 : Hid (Fr (fun _ => False) V w8) := f8
  have hp := HPL.out a8 c8 w8 r8
  clear hc f8 HF7 r8
  go_wp2_with fail
  refine hp.mono ?_
  rintro e w9 ⟨rfl, f9⟩
  have HF9 : Hid (Fr (fun _ => False) w w9) := HFV.out.seq' ((HF8.out.seq' (Fr.box _ _)).seq' f9)
  clear hp f9 HF8
  go_wp2
  go_ret
  exact ⟨rfl, HF9.out⟩
end Go.Proofs.YthdbkanbgfajbaaGreat
