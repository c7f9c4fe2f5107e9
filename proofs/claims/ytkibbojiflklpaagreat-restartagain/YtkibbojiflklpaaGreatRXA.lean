
/- BkFind, Over, BkSpot, BkRow, BkSeq, BkRows. -/
import Derived.Test.YtkibbojiflklpaaGreatBB31
import Derived.Deep.DeepCutAuto
import Derived.RangeFuncNested
import Derived.RangeFuncBound
import Derived.RangeFuncCalls
import Derived.RangeFuncLeaves
import Derived.Test.YtkibbojiflklpaaGreatBB1
import Derived.Test.YtkibbojiflklpaaGreatBB13
import Derived.Test.YtkibbojiflklpaaGreatBB3
import Derived.Test.YtkibbojiflklpaaGreatBB20
import Derived.Shelf.Abstract
import Derived.Shelf.RegionOpen
import Derived.WalkKit
import Derived.OwnWalkIn
import Derived.TacticsInMore
import Derived.LoopNIn
import Derived.LoopIn
/- Blink's pages: whether they are right, where one stands, its node. -/
namespace Go.Proofs.YtkibbojiflklpaaGreat
open Go.RowKit

set_option maxRecDepth 100000 in
set_option maxHeartbeats 2000000 in
theorem bareRight_any (a : Option Addr) (len cap : Nat) (ls : List Sl) (hl : len = ls.length) (w : World) (h : Slots w a cap ls) : Calls Tryz.prog 94 #[.slice a len cap] w fun e w' => e = .returned (.bool (ariB 0 (psOf ls))) ∧ Fr (fun _ => False) w w' := by
  subst hl
  have hle := h.le
  have hmx := h.max
  have HS : Hid (∀ W, Fr (fun _ => False) w W → Slots W a cap ls) := fun W f => h.same f
  clear h
  go_enter Tryz.func94, Tryz.ntmps94
  go_wp2
  go_loopw [8, 3] (fun i t wr => ∃ (k : Nat) (x : Int), k ≤ ls.length ∧ i = .int .i64 k ∧ t = .int .i64 x ∧ Hid (ariB x (psOf (ls.drop k)) = ariB 0 (psOf ls)) ∧ Fr (fun _ => False) w wr) (fun i _ _ => ls.length - (intOf i).toNat)
  case atStart => exact ⟨0, 0, by omega, rfl, rfl, rfl, Fr.refl _ _⟩
  case round =>
    obtain ⟨k, x, hk, rfl, rfl, HE, F⟩ := hrel
    by_cases hlt : k < ls.length
    · obtain ⟨s, hs⟩ : ∃ s, ls[k]? = some s := ⟨_, List.getElem?_eq_getElem hlt⟩
      obtain ⟨b, off, rfl, hb, hc⟩ := (HS.out _ F).some (by omega)
      obtain ⟨q0, q1, q2, q3, q4, q5, q6, q7⟩ := sl_range (hc k s hs)
      have HNX : Hid (ariB x (psOf (ls.drop k)) = (decide (x < s.page) && decide (s.page ≤ 4096) && rightB s.nd && ariB s.page (psOf (ls.drop (k + 1))))) := ari_next x hs
      have hnd := (HS.out _ F).nod s (List.mem_of_getElem? hs)
      have hki : (k : Int) < (ls.length : Int) := by omega
      have FB := F.alloc (.cells #[.int .i64 s.page, .int .i64 s.nd.lev, .int .i64 s.nd.lsn, .int .i64 s.nd.rgt, .string s.nd.high, .slice s.pt.k s.nd.keys.length s.pt.kc, .slice s.pt.v s.nd.vals.length s.pt.vc, .slice s.pt.i s.nd.kids.length s.pt.ic] 35)
      have hnb := hnd.same (Fr.box wr (.cells #[.int .i64 s.page, .int .i64 s.nd.lev, .int .i64 s.nd.lsn, .int .i64 s.nd.rgt, .string s.nd.high, .slice s.pt.k s.nd.keys.length s.pt.kc, .slice s.pt.v s.nd.vals.length s.pt.vc, .slice s.pt.i s.nd.kids.length s.pt.ic] 35))
      have hck := check_any s.nd s.pt _ hnb
      clear hs hc hnd
      by_cases h1 : x < s.page
      · have d1 : decide (s.page ≤ x) = false := decide_eq_false (by omega)
        by_cases h2 : s.page ≤ 4096
        · have d2 : decide (4096 < s.page) = false := decide_eq_false (by omega)
          rw [decide_eq_true h1, decide_eq_true h2, Bool.true_and, Bool.true_and] at HNX
          cases hr : rightB s.nd
          · rw [epage_no hr] at hck
            have HR : Hid (ariB 0 (psOf ls) = false) := by show _ = _; rw [← HE.out, HNX.out, hr]; rfl
            clear hr h1 h2 HNX
            go_wp2_with fail
            refine hck.mono ?_
            rintro e w1 ⟨rfl, f1⟩
            go_wp2
            go_ret
            exact ⟨ret_bool HR.out.symm, FB.seq' f1⟩
          · rw [epage_yes hr] at hck
            have HR : Hid (ariB s.page (psOf (ls.drop (k + 1))) = ariB 0 (psOf ls)) := by show _ = _; rw [← HE.out, HNX.out, hr]; rfl
            clear hr h1 h2 HNX
            go_wp2_with fail
            refine hck.mono ?_
            rintro e w1 ⟨rfl, f1⟩
            have hbx := f1.blk (heap_alloc_new wr (.cells #[.int .i64 s.page, .int .i64 s.nd.lev, .int .i64 s.nd.lsn, .int .i64 s.nd.rgt, .string s.nd.high, .slice s.pt.k s.nd.keys.length s.pt.kc, .slice s.pt.v s.nd.vals.length s.pt.vc, .slice s.pt.i s.nd.kids.length s.pt.ic] 35)) (fun f => f)
            obtain ⟨⟨e0, e1, e2, e3, e4, e5, e6, e7⟩, _⟩ := rec_cells hbx
            clear q0 q1 q2 q3 q4 q5 q6 q7 hck
            go_wp2
            go_roundw
            case rel => exact ⟨k + 1, s.page, by omega, by go_num, rfl, HR, FB.seq' f1⟩
            case measure => simp [intOf]; omega
        · have d2 : decide (4096 < s.page) = true := decide_eq_true (by omega)
          have HR : Hid (ariB 0 (psOf ls) = false) := by show _ = _; rw [← HE.out, HNX.out, decide_eq_false h2]; simp
          clear h1 h2 HNX
          go_wp2
          go_ret
          exact ⟨ret_bool HR.out.symm, FB⟩
      · have d1 : decide (s.page ≤ x) = true := decide_eq_true (by omega)
        have HR : Hid (ariB 0 (psOf ls) = false) := by show _ = _; rw [← HE.out, HNX.out, decide_eq_false h1]; rfl
        clear h1 HNX
        go_wp2
        go_ret
        exact ⟨ret_bool HR.out.symm, FB⟩
    · have HR : Hid (ariB 0 (psOf ls) = true) := by
        show _ = _
        rw [← HE.out, List.drop_of_length_le (by omega)]; rfl
      go_wp2
      go_ret
      exact ⟨ret_bool HR.out.symm, F⟩
theorem bslotCmp_any (s : Sl) (x : Int) (w : World) : Calls Tryz.prog 200 #[(.agg #[.int .i64 s.page, .int .i64 s.nd.lev, .int .i64 s.nd.lsn, .int .i64 s.nd.rgt, .string s.nd.high, .slice s.pt.k s.nd.keys.length s.pt.kc, .slice s.pt.v s.nd.vals.length s.pt.vc, .slice s.pt.i s.nd.kids.length s.pt.ic]), .int .i64 x] w fun e w' => e = .returned (.int .i64 (cmpI s.page x)) ∧ Fr (fun _ => False) w w' := by
  have f0 := Fr.box w (.cells #[.int .i64 s.page, .int .i64 s.nd.lev, .int .i64 s.nd.lsn, .int .i64 s.nd.rgt, .string s.nd.high, .slice s.pt.k s.nd.keys.length s.pt.kc, .slice s.pt.v s.nd.vals.length s.pt.vc, .slice s.pt.i s.nd.kids.length s.pt.ic] 35)
  have hc := fun W => icmp_any s.page x W
  go_enter Tryz.func200, Tryz.ntmps200
  go_wp2_with (go_at_call 77; refine (hc _).mono ?_; rintro e w' ⟨rfl, rfl⟩)
  go_ret
  exact ⟨rfl, f0⟩
set_option maxRecDepth 100000 in
set_option maxHeartbeats 4000000 in
theorem bbs_any (a : Option Addr) (len cap : Nat) (ls : List Sl) (hl : len = ls.length) (hf : ls.length ≤ 100000) (hr : Rise ls) (x : Int) (w : World) (h : Slots w a cap ls) : Calls Tryz.prog 199 #[.slice a len cap, .int .i64 x, .func (.func 200) #[] #[]] w fun e w' => e = .returned (.tuple #[.int .i64 (ahead ls x : Nat), .bool (hasB ls x)]) ∧ Fr (fun _ => False) w w' := by
  subst hl
  have hle := h.le
  have hmx := h.max
  have HS : Hid (∀ W, Fr (fun _ => False) w W → Slots W a cap ls) := fun W f => h.same f
  have HRI : Hid (Rise ls) := hr
  clear h hr
  go_enter Tryz.func199, Tryz.ntmps199
  go_wp2
  go_loopw [9, 10] (fun i j wr => ∃ (p q : Nat), p ≤ q ∧ q ≤ ls.length ∧ i = .int .i64 p ∧ j = .int .i64 q ∧ Hid (∀ i s, ls[i]? = some s → i < p → s.page < x) ∧ Hid (∀ i s, ls[i]? = some s → q ≤ i → x ≤ s.page) ∧ Fr (fun _ => False) w wr) (fun i j _ => (intOf j).toNat - (intOf i).toNat)
  case atStart => exact ⟨0, ls.length, by omega, by omega, rfl, rfl, (fun i s _ h => by omega), (fun i s hs h => by have := (List.getElem?_eq_some_iff.1 hs).1; omega), Fr.refl _ _⟩
  case round =>
    obtain ⟨p, q, hpq, hq, rfl, rfl, H1, H2, F⟩ := hrel
    by_cases hlt : p < q
    · have hpm : p ≤ (p + q) / 2 := by omega
      have hmq : (p + q) / 2 < q := by omega
      obtain ⟨s, hs⟩ : ∃ s, ls[(p + q) / 2]? = some s := ⟨_, List.getElem?_eq_getElem (by omega)⟩
      obtain ⟨b, off, rfl, hb, hc⟩ := (HS.out _ F).some (by omega)
      obtain ⟨q0, q1, q2, q3, q4, q5, q6, q7⟩ := sl_range (hc ((p + q) / 2) s hs)
      have hcm := bslotCmp_any s x
      have hpi : (p : Int) < (q : Int) := by omega
      have HSS : Hid (ls[(p + q) / 2]? = some s) := hs
      clear hs hc
      by_cases hx : s.page < x
      · have hce : cmpI s.page x = -1 := if_pos hx
        rw [hce] at hcm
        have HN1 : Hid (∀ i t, ls[i]? = some t → i < (p + q) / 2 + 1 → t.page < x) := fun i t ht hi => by
          rcases Nat.lt_or_ge i ((p + q) / 2) with e | e
          · have := HRI.out i ((p + q) / 2) t s e ht HSS.out; omega
          · have e2 : i = (p + q) / 2 := by omega
            rw [e2, HSS.out] at ht; cases ht; exact hx
        clear hx hce
        go_wp2_with fail
        refine (hcm _).mono ?_
        rintro e w1 ⟨rfl, f1⟩
        go_wp2
        go_roundw
        case rel => exact ⟨(p + q) / 2 + 1, q, by omega, by omega, by go_num, rfl, HN1, H2, F.seq' f1⟩
        case measure => simp [intOf]; omega
      · have hce : ∃ c, cmpI s.page x = c ∧ decide (c < 0) = false := by
          unfold cmpI
          rw [if_neg hx]
          split
          · exact ⟨1, rfl, rfl⟩
          · exact ⟨0, rfl, rfl⟩
        obtain ⟨c, hc1, hc2⟩ := hce
        rw [hc1] at hcm
        have HN2 : Hid (∀ i t, ls[i]? = some t → (p + q) / 2 ≤ i → x ≤ t.page) := fun i t ht hi => by
          rcases Nat.lt_or_ge ((p + q) / 2) i with e | e
          · have := HRI.out ((p + q) / 2) i s t e HSS.out ht; omega
          · have e2 : i = (p + q) / 2 := by omega
            rw [e2, HSS.out] at ht; cases ht; omega
        clear hx hc1
        go_wp2_with fail
        refine (hcm _).mono ?_
        rintro e w1 ⟨rfl, f1⟩
        go_wp2
        go_roundw
        case rel => exact ⟨p, (p + q) / 2, by omega, by omega, rfl, by go_num, H1, HN2, F.seq' f1⟩
        case measure => simp [intOf]; omega
    · obtain rfl : p = q := by omega
      have HA : Hid (ahead ls x = p) := ahead_eq HRI.out hq H1.out (fun i s hs hi => by have := H2.out i s hs hi; omega)
      have HHB : Hid (hasB ls x = match ls[p]? with | none => false | some s => s.page == x) := by show _ = _; unfold hasB; rw [HA.out]; cases ls[p]? <;> rfl
      clear H1 H2
      by_cases hl2 : p < ls.length
      · obtain ⟨s, hs⟩ : ∃ s, ls[p]? = some s := ⟨_, List.getElem?_eq_getElem hl2⟩
        obtain ⟨b, off, rfl, hb, hc⟩ := (HS.out _ F).some (by omega)
        obtain ⟨q0, q1, q2, q3, q4, q5, q6, q7⟩ := sl_range (hc p s hs)
        have hcm := bslotCmp_any s x
        have hpi : (p : Int) < (ls.length : Int) := by omega
        have HH2 : Hid (hasB ls x = (cmpI s.page x == 0)) := by
          show _ = _
          rw [HHB.out, hs]
          dsimp only
          unfold cmpI
          rw [Bool.eq_iff_iff]
          simp only [beq_iff_eq]
          split
          · constructor <;> intro e <;> omega
          · split <;> constructor <;> intro e <;> omega
        generalize cmpI s.page x = c at *
        clear hs hc
        go_wp2_with fail
        refine (hcm _).mono ?_
        rintro e w1 ⟨rfl, f1⟩
        go_wp2
        go_ret2
        exact ⟨by rw [HA.out, HH2.out]; rfl, F.seq' f1⟩
      · have HH2 : Hid (hasB ls x = false) := by show _ = _; rw [HHB.out, List.getElem?_eq_none (by omega)]
        have hpi : decide ((p : Int) < (ls.length : Int)) = false := decide_eq_false (by omega)
        go_wp2
        go_ret2
        exact ⟨by rw [HA.out, HH2.out]; rfl, F⟩

theorem bplace_any (a : Option Addr) (len cap : Nat) (ls : List Sl) (hl : len = ls.length) (hf : ls.length ≤ 100000) (hr : Rise ls) (x : Int) (w : World) (h : Slots w a cap ls) : Calls Tryz.prog 180 #[.slice a len cap, .int .i64 x] w fun e w' => e = .returned (.tuple #[.int .i64 (ahead ls x : Nat), .bool (hasB ls x)]) ∧ Fr (fun _ => False) w w' := by
  have hb := bbs_any a len cap ls hl hf hr x w h
  generalize ahead ls x = n at *
  generalize hasB ls x = t at *
  clear h hr hl hf
  go_enter Tryz.func180, Tryz.ntmps180
  go_wp2_with fail
  refine hb.mono ?_
  rintro e w1 ⟨rfl, f1⟩
  go_wp2
  go_ret2
  exact ⟨rfl, f1⟩
/-- What find tells: the page's node as it lies there, or nothing. -/
def BfOut (ls : List Sl) (x : Int) (w : World) (e : Ending) (w' : World) : Prop := Fr (fun _ => False) w w' ∧
  ((∃ s, s ∈ ls ∧ ls[ahead ls x]? = some s ∧ hasB ls x = true ∧ s.page = x ∧ e = .returned (.tuple #[(.agg #[.int .i64 s.nd.lev, .int .i64 s.nd.lsn, .int .i64 s.nd.rgt, .string s.nd.high, .slice s.pt.k s.nd.keys.length s.pt.kc, .slice s.pt.v s.nd.vals.length s.pt.vc, .slice s.pt.i s.nd.kids.length s.pt.ic]), .bool true])) ∨ (hasB ls x = false ∧ e = .returned (.tuple #[.agg #[.int .i64 0, .int .i64 0, .int .i64 0, .string ⟨#[]⟩, .slice none 0 0, .slice none 0 0, .slice none 0 0], .bool false])))
set_option maxRecDepth 100000 in
set_option maxHeartbeats 2000000 in
theorem bfind_any (a : Option Addr) (len cap : Nat) (ls : List Sl) (hl : len = ls.length) (hf : ls.length ≤ 100000) (hr : Rise ls) (x : Int) (w : World) (h : Slots w a cap ls) : Calls Tryz.prog 133 #[.slice a len cap, .int .i64 x] w fun e w' => BfOut ls x w e w' := by
  have f0 : Fr (fun _ => False) w (w.alloc (.cells #[.int .i64 0, .int .i64 0, .int .i64 0, .string ⟨#[]⟩, .slice none 0 0, .slice none 0 0, .slice none 0 0] 33)) := Fr.box w _
  have hb := bplace_any a len cap ls hl hf hr x _ (h.same f0)
  have HZ : Hid (∀ W, Fr (fun _ => False) (w.alloc (.cells #[.int .i64 0, .int .i64 0, .int .i64 0, .string ⟨#[]⟩, .slice none 0 0, .slice none 0 0, .slice none 0 0] 33)) W → W.heap[w.heap.size]? = some (.cells #[.int .i64 0, .int .i64 0, .int .i64 0, .string ⟨#[]⟩, .slice none 0 0, .slice none 0 0, .slice none 0 0] 33 (0, 0))) := fun W f => f.blk (heap_alloc_new w _) (fun f => f)
  have HS : Hid (∀ W, Fr (fun _ => False) (w.alloc (.cells #[.int .i64 0, .int .i64 0, .int .i64 0, .string ⟨#[]⟩, .slice none 0 0, .slice none 0 0, .slice none 0 0] 33)) W → Slots W a cap ls) := fun W f => (h.same f0).same f
  have hle : len ≤ cap := by rw [hl]; exact h.le
  have hmx := h.max
  have HL : Hid (len = ls.length) := hl
  clear h hr hf hl
  cases hh : hasB ls x
  · rw [hh] at hb
    have HHB : Hid (hasB ls x = false) := hh
    generalize ahead ls x = n at *
    clear hh
    go_enter Tryz.func133, Tryz.ntmps133
    go_wp2_with fail
    refine hb.mono ?_
    rintro e w1 ⟨rfl, f1⟩
    clear hb
    obtain ⟨hq, ff⟩ := fin7 (HZ.out _ f1) (.int .i64 0) (.int .i64 0) (.int .i64 0) (.string ⟨#[]⟩) (.slice none 0 0) (.slice none 0 0) (.slice none 0 0)
    obtain ⟨⟨s0, s1, s2, s3, s4, s5, s6⟩, sz⟩ := node_cells (HZ.out _ f1)
    have y0 := sz 0; have y1 := sz 1; have y2 := sz 2; have y3 := sz 3; have y4 := sz 4; have y5 := sz 5; have y6 := sz 6
    have fff := (f0.seq' f1).trans ff (S := fun _ => False) (fun i hi e => by omega)
    clear sz
    go_wp2
    generalize (((((((w1.setCell ⟨w.heap.size, 0, none⟩ (.int .i64 0)).setCell ⟨w.heap.size, 1, none⟩ (.int .i64 0)).setCell ⟨w.heap.size, 2, none⟩ (.int .i64 0)).setCell ⟨w.heap.size, 3, none⟩ (.string ⟨#[]⟩)).setCell ⟨w.heap.size, 4, none⟩ (.slice none 0 0)).setCell ⟨w.heap.size, 5, none⟩ (.slice none 0 0)).setCell ⟨w.heap.size, 6, none⟩ (.slice none 0 0)) = Wf at hq fff ⊢
    obtain ⟨⟨g0, g1, g2, g3, g4, g5, g6⟩, _⟩ := node_cells hq
    exact bodyPost_ret (v := .tuple #[.agg #[.int .i64 0, .int .i64 0, .int .i64 0, .string ⟨#[]⟩, .slice none 0 0, .slice none 0 0, .slice none 0 0], .bool false]) (by simp [results, Tryz.results133, go_sem, g0, g1, g2, g3, g4, g5, g6]) rfl ⟨fff, .inr ⟨HHB.out, rfl⟩⟩
  · obtain ⟨s, hs, hsx⟩ : ∃ s, ls[ahead ls x]? = some s ∧ s.page = x := by
      have hh' := hh
      unfold hasB at hh'
      split at hh'
      · cases hh'
      · rename_i s hs; exact ⟨s, hs, by simpa using hh'⟩
    have HSS : Hid (s ∈ ls ∧ ls[ahead ls x]? = some s ∧ hasB ls x = true ∧ s.page = x) := ⟨List.mem_of_getElem? hs, hs, hh, hsx⟩
    rw [hh] at hb
    have hlt : ahead ls x < len := by rw [HL.out]; exact (List.getElem?_eq_some_iff.1 hs).1
    obtain ⟨n, hn⟩ : ∃ n, n = ahead ls x := ⟨_, rfl⟩
    rw [← hn] at hb hlt hs
    have hki : (n : Int) < (len : Int) := by omega
    have HSI : Hid (ls[n]? = some s) := hs
    clear hh hn hsx hs
    go_enter Tryz.func133, Tryz.ntmps133
    go_wp2_with fail
    refine hb.mono ?_
    rintro e w1 ⟨rfl, f1⟩
    clear hb
    obtain ⟨b, off, rfl, hbb, hc⟩ := (HS.out _ f1).some (by have := HL.out; omega)
    obtain ⟨q0, q1, q2, q3, q4, q5, q6, q7⟩ := sl_range (hc n s HSI.out)
    clear hc
    obtain ⟨hq, ff⟩ := fin7 (HZ.out _ f1) (.int .i64 s.nd.lev) (.int .i64 s.nd.lsn) (.int .i64 s.nd.rgt) (.string s.nd.high) (.slice s.pt.k s.nd.keys.length s.pt.kc) (.slice s.pt.v s.nd.vals.length s.pt.vc) (.slice s.pt.i s.nd.kids.length s.pt.ic)
    obtain ⟨⟨s0, s1, s2, s3, s4, s5, s6⟩, sz⟩ := node_cells (HZ.out _ f1)
    have y0 := sz 0; have y1 := sz 1; have y2 := sz 2; have y3 := sz 3; have y4 := sz 4; have y5 := sz 5; have y6 := sz 6
    have fff := (f0.seq' f1).trans ff (S := fun _ => False) (fun i hi e => by omega)
    clear sz
    go_wp2
    generalize (((((((w1.setCell ⟨w.heap.size, 0, none⟩ (.int .i64 s.nd.lev)).setCell ⟨w.heap.size, 1, none⟩ (.int .i64 s.nd.lsn)).setCell ⟨w.heap.size, 2, none⟩ (.int .i64 s.nd.rgt)).setCell ⟨w.heap.size, 3, none⟩ (.string s.nd.high)).setCell ⟨w.heap.size, 4, none⟩ (.slice s.pt.k s.nd.keys.length s.pt.kc)).setCell ⟨w.heap.size, 5, none⟩ (.slice s.pt.v s.nd.vals.length s.pt.vc)).setCell ⟨w.heap.size, 6, none⟩ (.slice s.pt.i s.nd.kids.length s.pt.ic)) = Wf at hq fff ⊢
    obtain ⟨⟨g0, g1, g2, g3, g4, g5, g6⟩, _⟩ := node_cells hq
    exact bodyPost_ret (v := .tuple #[(.agg #[.int .i64 s.nd.lev, .int .i64 s.nd.lsn, .int .i64 s.nd.rgt, .string s.nd.high, .slice s.pt.k s.nd.keys.length s.pt.kc, .slice s.pt.v s.nd.vals.length s.pt.vc, .slice s.pt.i s.nd.kids.length s.pt.ic]), .bool true]) (by simp [results, Tryz.results133, go_sem, g0, g1, g2, g3, g4, g5, g6]) rfl ⟨fff, .inl ⟨s, HSS.out.1, HSS.out.2.1, HSS.out.2.2.1, HSS.out.2.2.2, rfl⟩⟩
end Go.Proofs.YtkibbojiflklpaaGreat

/- A range over a function, said by frames: what an iterator owes, and what the caller owes who ranges over it. -/
namespace Go.Proofs.YtkibbojiflklpaaGreat
open Go.RowKit

theorem Fr.put (w : World) (r : Nat) (o : Obj) : Fr (fun k => k = r) w (w.putObj r o) :=
  ⟨rfl, rfl, rfl, by simp, fun _ _ h => World.putObj_heap_other h⟩
theorem Fr.widen {S T : Nat → Prop} {a b : World} (h : Fr S a b) (hs : ∀ k, S k → T k) : Fr T a b :=
  ⟨h.os, h.tape, h.output, h.size, fun k hk hT => h.block k hk (fun e => hT (hs k e))⟩
/-- What the caller of an iterator holds between two rounds (J), while a round may write some blocks (T), of which the iterator reads none (R). -/
structure Tend {α : Type} (R : Nat → Prop) (T : World → Nat → Prop) (J : List α → World → Prop) : Prop where
  steady : ∀ pre A B, J pre A → Fr (fun _ => False) A B → J pre B
  old : ∀ pre A k, J pre A → T A k → k < A.heap.size
  back : ∀ pre A B k, J pre A → Fr (fun _ => False) A B → T B k → T A k
  apart : ∀ pre A k, J pre A → T A k → ¬ R k
/-- What an iterator owes: each round is asked for what comes next; all come, or a round has said that no more shall. -/
def Iter {α : Type} (P : Program) (g : Nat) (lb : Array Value) (encs : α → Array Value) (R : Nat → Prop) (M : List α → α → World → Prop) (S : List α → Prop) (w : World) : Prop :=
  ∀ (l : Nat) (T : World → Nat → Prop) (J Jx : List α → World → Prop) (W : World), Fr (fun k => ¬ R k) w W → Tend R T J → (∀ pre A B, Jx pre A → Fr (fun _ => False) A B → Jx pre B) →
    (∀ pre x W1, J pre W1 → M pre x W1 → YieldAt Fence.wide 0 P l (encs x) W1 fun e W' => (e = .returned (.bool true) ∧ J (pre ++ [x]) W' ∧ Fr (T W1) W1 W' ∧ ∀ k, T W' k → T W1 k ∨ W1.heap.size ≤ k) ∨ (e = .returned (.bool false) ∧ Jx (pre ++ [x]) W')) →
    J [] W →
    CallsIn Fence.wide 0 P g (#[.func (.yield l) #[] #[]] ++ lb) W fun e W' => (∃ v, e = .returned v) ∧ ((∃ xs, S xs ∧ J xs W') ∨ (∃ pre, Jx pre W'))
/-- How a round may be left. -/
def RndOut {α : Type} (T : World → Nat → Prop) (I : List α → World → Prop) (Ix : Code → List α → World → Prop) (xs : List α) (W : World) : Exit → Act → World → Prop
  | .normal, _, W' => Fr (T W) W W' ∧ (∀ k, T W' k → T W k ∨ W.heap.size ≤ k) ∧ I xs W'
  | .ret, _, W' => Fr (T W) W W' ∧ Ix .ret xs W'
  | .exit id, _, W' => Fr (T W) W W' ∧ Ix (.exit id) xs W'
  | .goto t, _, W' => Fr (T W) W W' ∧ Ix (.goto t) xs W'
  | .panic _, _, _ => False
  | .outgrown, _, _ => False
/-- The caller's statement. -/
theorem over {α : Type} {P : Program} {g : Operand} {ps : Array Tmp} {assign body : Code} {Q : Exit → Act → World → Prop} {a : Act} {w : World} {gf : Nat} {lb : Array Value}
    (hg : a.eval g = .func (.func gf) #[] lb) (eg : ∀ args w, (callFunc gf args).run P w = .ok (.enter gf args) w) {encs : α → Array Value} {R : Nat → Prop} {M : List α → α → World → Prop} {S : List α → Prop} {w0 : World}
    (hit : Iter P gf lb encs R M S w0) (hw : Fr (fun k => ¬ R k) w0 w) (hps : ∀ x, (encs x).size = ps.size)
    (T : World → Nat → Prop) (I : List α → World → Prop) (Ix : Code → List α → World → Prop)
    (st : ∀ pre A B, I pre A → Fr (fun k => k = w.heap.size ∨ k = w.heap.size + 1) A B → I pre B)
    (stx : ∀ c pre A B, Ix c pre A → Fr (fun k => k = w.heap.size ∨ k = w.heap.size + 1) A B → Ix c pre B)
    (ol : ∀ pre A k, I pre A → T A k → k < A.heap.size)
    (bk : ∀ pre A B k, I pre A → Fr (fun k => k = w.heap.size ∨ k = w.heap.size + 1) A B → T B k → T A k)
    (ap : ∀ pre A k, I pre A → T A k → ¬ R k ∧ k ≠ w.heap.size ∧ k ≠ w.heap.size + 1)
    (h0 : I [] w)
    (hround : ∀ (pre : List α) (x : α) (W : World), I pre W → M pre x W → w.heap.size + 2 ≤ W.heap.size → (∀ k cs t f, (k = w.heap.size ∨ k = w.heap.size + 1) → W.heap[k]? ≠ some (.cells cs t f)) →
      assign.wpIn (Fence.wide.inRound (w.heap.size + 1)) 0 P (Exit.then (fun a₁ w₁ => Fr (fun _ => False) W w₁ ∧ ∀ W2, Fr (fun k => k = w.heap.size + 1) w₁ W2 → body.wpIn (Fence.wide.inRound (w.heap.size + 1)) 0 P (RndOut T I Ix (pre ++ [x]) W2) a₁ W2) (fun _ _ _ => False))
        { tmps := (ps.zip (encs x)).foldl (fun t (p, v) => t.setIfInBounds p v) a.tmps, defers := [] } W)
    (hdone : ∀ (xs : List α) (W : World), S xs → I xs W → W.heap[w.heap.size]? = some (.deferred (some [])) → Q .normal { a with defers := { target := .collected w.heap.size, args := #[] } :: a.defers } W)
    (hstop : ∀ (c : Code) (pre : List α) (W : World), Ix c pre W → W.heap[w.heap.size]? = some (.deferred (some [])) → c.wpIn Fence.wide 0 P Q { a with defers := { target := .collected w.heap.size, args := #[] } :: a.defers } W) :
    (Code.rangeFunc g ps assign body).wpIn Fence.wide 0 P Q a w := by
  refine wpIn_rangeFunc (F := Fence.wide) (n := 0) (fun fn _ => ?_)
  let mk : LoopState → Option Code → Loop := fun s p => { state := s, pending := p, fn, tmps := a.tmps, params := ps, assign, body, defers := w.heap.size }
  let V : World := (w.alloc (.deferred (some []))).alloc (.loop (mk .ready none))
  have hVl : V.heap[w.heap.size + 1]? = some (.loop (mk .ready none)) := by
    have := World.alloc_heap_new (w.alloc (.deferred (some []))) (.loop (mk .ready none))
    rwa [World.size_alloc] at this
  have fV : Fr (fun _ => False) w V := ((Fr.refl _ w).alloc _).alloc _
  have hVd : V.heap[w.heap.size]? = some (.deferred (some [])) := by
    have h1 : Fr (fun _ => False) (w.alloc (.deferred (some []))) V := (Fr.refl _ _).alloc _
    rw [h1.block _ (by simp) (fun f => f)]
    exact World.alloc_heap_new w _
  refine ⟨w.heap.size + 1, [{ target := .collected w.heap.size, args := #[] }], V, { target := .fn (.func gf) lb, args := #[.func (.yield (w.heap.size + 1)) #[] #[]] }, V, gf, #[.func (.yield (w.heap.size + 1)) #[] #[]] ++ lb, V, run_enterLoop_outer _ _ _ _ _, ?_, fun _ _ => trivial, ?_, fun h => by simp [Fence.wide] at h, ?_⟩
  · simp only [resolve, hg]
    simp [go_sem]
  · simp [invoke, go_sem, eg]
  have wide : ∀ {A B : World}, Fr (fun _ => False) A B → Fr (fun k => k = w.heap.size ∨ k = w.heap.size + 1) A B := fun f => f.widen (fun _ h => h.elim)
  refine (hit (w.heap.size + 1) T
    (fun pre W => I pre W ∧ W.heap[w.heap.size + 1]? = some (.loop (mk .ready none)) ∧ W.heap[w.heap.size]? = some (.deferred (some [])))
    (fun pre W => ∃ c, Ix c pre W ∧ W.heap[w.heap.size + 1]? = some (.loop (mk .done (some c))) ∧ W.heap[w.heap.size]? = some (.deferred (some [])))
    V (hw.trans fV (fun _ _ f => f.elim)) ⟨?_, ?_, ?_, ?_⟩ ?_ ?_ ⟨st _ _ _ h0 (wide fV), hVl, hVd⟩).mono ?_
  · rintro pre A B ⟨h1, h2, h3⟩ f
    exact ⟨st _ _ _ h1 (wide f), (f.block _ (Array.getElem?_eq_some_iff.1 h2).1 (fun f => f)).trans h2, (f.block _ (Array.getElem?_eq_some_iff.1 h3).1 (fun f => f)).trans h3⟩
  · rintro pre A k ⟨h1, _⟩ ht
    exact ol pre A k h1 ht
  · rintro pre A B k ⟨h1, _⟩ f ht
    exact bk pre A B k h1 (wide f) ht
  · rintro pre A k ⟨h1, _⟩ ht
    exact (ap pre A k h1 ht).1
  · rintro pre A B ⟨c, h1, h2, h3⟩ f
    exact ⟨c, stx _ _ _ _ h1 (wide f), (f.block _ (Array.getElem?_eq_some_iff.1 h2).1 (fun f => f)).trans h2, (f.block _ (Array.getElem?_eq_some_iff.1 h3).1 (fun f => f)).trans h3⟩
  · rintro pre x W ⟨h1, h2, h3⟩ hM
    have hlt := (Array.getElem?_eq_some_iff.1 h2).1
    refine ⟨fn, _, assign, body, run_yield h2 (hps x), roundIn_of_wpIn trivial ?_⟩
    refine wpIn_mono (hround pre x W h1 hM (by omega) (fun k cs t f hk e => by
      rcases hk with rfl | rfl
      · rw [h3] at e; cases e
      · rw [h2] at e; cases e)) ?_
    intro e a1 w1 he
    cases e with
    | normal =>
      obtain ⟨f1, hb⟩ := he
      have hl1 : w1.heap[w.heap.size + 1]? = some (.loop (mk .ready none)) := (f1.block _ hlt (fun f => f)).trans h2
      have hd1 : w1.heap[w.heap.size]? = some (.deferred (some [])) := (f1.block _ (by omega) (fun f => f)).trans h3
      have hz1 := f1.size
      refine ⟨_, run_beginRound hl1 rfl, ?_⟩
      have fb := Fr.put w1 (w.heap.size + 1) (.loop { mk .ready none with state := .busy })
      have hI1 := st _ _ _ h1 (wide f1)
      have hl2 : (w1.putObj (w.heap.size + 1) (.loop { mk .ready none with state := .busy })).heap[w.heap.size + 1]? = some (.loop { mk .ready none with state := .busy }) := World.putObj_heap_same (by omega)
      have hd2 : (w1.putObj (w.heap.size + 1) (.loop { mk .ready none with state := .busy })).heap[w.heap.size]? = some (.deferred (some [])) := (World.putObj_heap_other (by omega)).trans hd1
      have hb' := hb _ fb
      have hI2 := st _ _ _ hI1 (fb.widen (fun k h => .inr h))
      have hT2 : ∀ k, T (w1.putObj (w.heap.size + 1) (.loop { mk .ready none with state := .busy })) k → T W k := fun k hk => bk _ _ _ _ h1 (wide f1) (bk _ _ _ _ hI1 (fb.widen (fun k h => .inr h)) hk)
      have hN2 : ∀ k, T (w1.putObj (w.heap.size + 1) (.loop { mk .ready none with state := .busy })) k → k ≠ w.heap.size ∧ k ≠ w.heap.size + 1 := fun k hk => (ap _ _ _ hI2 hk).2
      have hz2 : (w1.putObj (w.heap.size + 1) (.loop { mk .ready none with state := .busy })).heap.size = w1.heap.size := by simp
      have hk2 : ∀ k, k ≠ w.heap.size + 1 → (w1.putObj (w.heap.size + 1) (.loop { mk .ready none with state := .busy })).heap[k]? = w1.heap[k]? := fun k hk => World.putObj_heap_other hk
      have ho2 : (w1.putObj (w.heap.size + 1) (.loop { mk .ready none with state := .busy })).os = w1.os ∧ (w1.putObj (w.heap.size + 1) (.loop { mk .ready none with state := .busy })).tape = w1.tape ∧ (w1.putObj (w.heap.size + 1) (.loop { mk .ready none with state := .busy })).output = w1.output := ⟨rfl, rfl, rfl⟩
      generalize w1.putObj (w.heap.size + 1) (.loop { mk .ready none with state := .busy }) = W2 at *
      refine wpIn_mono hb' ?_
      -- behind the body: the record is put back
      have fin : ∀ (jump : Option Code) (W3 : World), Fr (T W2) W2 W3 →
          (Instr.endRound (w.heap.size + 1) jump).run P W3 = .ok (.bool jump.isNone) (W3.putObj (w.heap.size + 1) (.loop (mk (if jump.isNone then .ready else .done) jump))) ∧
          (W3.putObj (w.heap.size + 1) (.loop (mk (if jump.isNone then .ready else .done) jump))).heap[w.heap.size + 1]? = some (.loop (mk (if jump.isNone then .ready else .done) jump)) ∧
          (W3.putObj (w.heap.size + 1) (.loop (mk (if jump.isNone then .ready else .done) jump))).heap[w.heap.size]? = some (.deferred (some [])) ∧
          Fr (fun k => k = w.heap.size ∨ k = w.heap.size + 1) W3 (W3.putObj (w.heap.size + 1) (.loop (mk (if jump.isNone then .ready else .done) jump))) := fun jump W3 f3 => by
        have hl3 := (f3.block (w.heap.size + 1) (by omega) (fun h => (hN2 _ h).2 rfl)).trans hl2
        have hd3 := (f3.block w.heap.size (by omega) (fun h => (hN2 _ h).1 rfl)).trans hd2
        exact ⟨run_endRound jump hl3, World.putObj_heap_same (Array.getElem?_eq_some_iff.1 hl3).1, (World.putObj_heap_other (by omega)).trans hd3, (Fr.put _ _ _).widen (fun k h => .inr h)⟩
      intro e2 a2 W3 hp
      cases e2 with
      | normal =>
        obtain ⟨f3, hg3, hi3⟩ := hp
        obtain ⟨hr, hl4, hd4, f4⟩ := fin none W3 f3
        refine ⟨_, _, hr, .inl ⟨rfl, ⟨st _ _ _ hi3 f4, hl4, hd4⟩, ?_, fun k hk => ?_⟩⟩
        rotate_left
        · rcases hg3 k (bk _ _ _ _ hi3 f4 hk) with h | h
          · exact .inl (hT2 k h)
          · exact .inr (by omega)
        have hz3 := f3.size
        refine ⟨?_, ?_, ?_, ?_, ?_⟩
        · rw [f4.os, f3.os, ho2.1, f1.os]
        · rw [f4.tape, f3.tape, ho2.2.1, f1.tape]
        · rw [f4.output, f3.output, ho2.2.2, f1.output]
        · have := f4.size; omega
        · intro k hk hT
          by_cases e : k = w.heap.size + 1
          · subst e; rw [h2]; exact hl4
          · rw [World.putObj_heap_other e, f3.block k (by omega) (fun h => hT (hT2 k h)), hk2 k e, f1.block k hk (fun f => f)]
      | ret =>
        obtain ⟨f3, hi3⟩ := hp
        obtain ⟨hr, hl4, hd4, f4⟩ := fin (some .ret) W3 f3
        exact ⟨_, _, hr, .inr ⟨rfl, .ret, stx _ _ _ _ hi3 f4, hl4, hd4⟩⟩
      | exit id =>
        obtain ⟨f3, hi3⟩ := hp
        obtain ⟨hr, hl4, hd4, f4⟩ := fin (some (.exit id)) W3 f3
        exact ⟨_, _, hr, .inr ⟨rfl, .exit id, stx _ _ _ _ hi3 f4, hl4, hd4⟩⟩
      | goto t =>
        obtain ⟨f3, hi3⟩ := hp
        obtain ⟨hr, hl4, hd4, f4⟩ := fin (some (.goto t)) W3 f3
        exact ⟨_, _, hr, .inr ⟨rfl, .goto t, stx _ _ _ _ hi3 f4, hl4, hd4⟩⟩
      | panic _ => exact hp.elim
      | outgrown => exact hp.elim
    | ret => exact he.elim
    | exit _ => exact he.elim
    | goto _ => exact he.elim
    | panic _ => exact he.elim
    | outgrown => exact he.elim
  · rintro e W2 ⟨⟨v, rfl⟩, (⟨xs, hS, hi, hl, hd⟩ | ⟨pre, c, hi, hl, hd⟩)⟩
    · exact ⟨none, _, run_endLoop hl (by simp [mk]), hdone xs _ hS (st _ _ _ hi ((Fr.put _ _ _).widen (fun k h => .inr h))) ((World.putObj_heap_other (by omega)).trans hd)⟩
    · exact ⟨some c, _, run_endLoop hl (by simp [mk]), hstop c pre _ (stx _ _ _ _ hi ((Fr.put _ _ _).widen (fun k h => .inr h))) ((World.putObj_heap_other (by omega)).trans hd)⟩
end Go.Proofs.YtkibbojiflklpaaGreat

/- A page of a row with its low end; rows that a loop over an iterator gathers. -/
namespace Go.Proofs.YtkibbojiflklpaaGreat
open Go.RowKit Go.Shelf
attribute [local go_sem] Oper.semAt_some

/-- A page of a row, with its low end. -/
structure Spt where
  page : Int
  nd : Nd
  pt : Pt
  low : ByteArray
def spC (s : Spt) : List Value := [.int .i64 s.page, .int .i64 s.nd.lev, .int .i64 s.nd.lsn, .int .i64 s.nd.rgt, .string s.nd.high, .slice s.pt.k s.nd.keys.length s.pt.kc, .slice s.pt.v s.nd.vals.length s.pt.vc, .slice s.pt.i s.nd.kids.length s.pt.ic, .string s.low]
theorem spC_length (s : Spt) : (spC s).length = 9 := rfl
theorem spC_one (s : Spt) : ∀ u ∈ spC s, u.oneCell' = true := by
  intro u hu
  simp only [spC, List.mem_cons, List.not_mem_nil, or_false] at hu
  rcases hu with h | h | h | h | h | h | h | h | h <;> (subst h; rfl)
theorem sp_range {w : World} {b o : Nat} {s : Spt} (h : w.rangeAt b o (spC s)) : (w.cell? ⟨b, o, none⟩ = some (.int .i64 s.page) ∧ w.cell? ⟨b, o + 1, none⟩ = some (.int .i64 s.nd.lev) ∧ w.cell? ⟨b, o + 2, none⟩ = some (.int .i64 s.nd.lsn) ∧ w.cell? ⟨b, o + 3, none⟩ = some (.int .i64 s.nd.rgt) ∧ w.cell? ⟨b, o + 4, none⟩ = some (.string s.nd.high) ∧ w.cell? ⟨b, o + 5, none⟩ = some (.slice s.pt.k s.nd.keys.length s.pt.kc) ∧ w.cell? ⟨b, o + 6, none⟩ = some (.slice s.pt.v s.nd.vals.length s.pt.vc) ∧ w.cell? ⟨b, o + 7, none⟩ = some (.slice s.pt.i s.nd.kids.length s.pt.ic) ∧ w.cell? ⟨b, o + 8, none⟩ = some (.string s.low)) :=
  ⟨h 0 _ rfl, h 1 _ rfl, h 2 _ rfl, h 3 _ rfl, h 4 _ rfl, h 5 _ rfl, h 6 _ rfl, h 7 _ rfl, h 8 _ rfl⟩
theorem wpListIn_append_has {F : Fence} {nd : Nat} {P : Program} (w : World) {ops : Array Oper} {rest : List Oper} {o : Oper} {ac : Act} {Q : Exit → Act → World → Prop} (hgd : o.guard = none) (s x : Operand) (t tx e e' : TypeId)
    (ho : o.op = .call { callee := .builtin .append, args := #[s, x], argTypes := #[t, tx] }) (i : TypeInfo) (z : Value) (size bytes : Nat) (ht : P.underlying t = some (.slice e)) (hx : P.underlying tx = some (.slice e')) (hi : P.info? e = some i) (hz : i.zero = some z)
    (hsize : i.size = size) (hby : i.bytes = bytes) (hzs : z.cells.size = size) (hsz : 0 < size)
    (v : Value) (n : Nat) (xs : List Value) (hse : ac.eval s = v) (hown : Has w size v n xs)
    (a : Option Addr) (m c : Nat) (news : List Value) (hxe : ac.eval x = .slice a m c) (hl : news.length = m * size) (hnews : From w a news) (h1 : ∀ u ∈ news, u.oneCell' = true)
    (h63 : n + m ≤ maxLen) (hbytes : (n + m) * bytes ≤ 140737488355328)
    (h : ∀ a' c' w', Has w' size (.slice a' (n + m) c') (n + m) (xs ++ news) → Fr (fun k => v.ownBlock = some k ∧ 0 < m) w w' → ((Value.slice a' (n + m) c').ownBlock = v.ownBlock ∨ (Value.slice a' (n + m) c').ownBlock = some w.heap.size) → wpListIn F nd P ops Q rest (ac.put o.dst (.slice a' (n + m) c')) w') : wpListIn F nd P ops Q (o :: rest) ac w := by
  refine wpListIn_plain hgd fun K hK' => ?_
  obtain ⟨v', w', hrun, h2, h3, h4⟩ := run_append_has (P := P) w t tx o.type e e' i z size bytes ht hx hi hz hsize hby hzs hsz v n xs hown a m c news hl hnews h1 h63 hbytes
  obtain ⟨a', c', rfl, _⟩ := h2.slice
  unfold Oper.wpIn
  refine ⟨?_, ?_⟩
  · simp [Oper.about, ho, resolve, Target.leads, Sem.run_pure]
  · rw [Oper.semAt_plain F _ _ (by rw [ho]; intro c hc'; cases hc')]
    simp [execOp, ho, resolve, invoke, builtin, hse, hxe, hrun, Result.andThen]
    exact hK' _ _ (h a' c' w' h2 h3 h4)
theorem one_cells {W : World} {B : Nat} {v : Value} {t : TypeId} (h : W.heap[B]? = some (.cells #[v] t (0, 0))) : W.cell? ⟨B, 0, none⟩ = some v ∧ W.frozen? ⟨B, 0, none⟩ = false := by
  constructor <;> simp [World.cell?, World.frozen?, h]
theorem one_setCell {W : World} {B : Nat} {v : Value} {t : TypeId} (h : W.heap[B]? = some (.cells #[v] t (0, 0))) (u : Value) : (W.setCell ⟨B, 0, none⟩ u).heap[B]? = some (.cells #[u] t (0, 0)) := by
  obtain ⟨hlt, he⟩ := Array.getElem?_eq_some_iff.1 h
  show (W.heap.modify B _)[B]? = _
  rw [Array.getElem?_eq_getElem (by rw [Array.size_modify]; exact hlt), Array.getElem_modify_self, he]
  rfl
/-- A row that is being gathered: its slice lies in a box, its memory in blocks that are new. -/
structure Gat (W : World) (B lo : Nat) (t : TypeId) (sz : Nat) (v : Value) (n : Nat) (cs : List Value) : Prop where
  blk : W.heap[B]? = some (.cells #[v] t (0, 0))
  has : Has W sz v n cs
  own : ∀ g, v.ownBlock = some g → lo ≤ g
  low : B < lo
theorem Gat.fr {S : Nat → Prop} {W W' : World} {B lo : Nat} {t : TypeId} {sz : Nat} {v : Value} {n : Nat} {cs : List Value} (h : Gat W B lo t sz v n cs) (f : Fr S W W') (hB : ¬ S B) (hS : ∀ k, lo ≤ k → ¬ S k) : Gat W' B lo t sz v n cs :=
  ⟨f.blk h.blk hB, h.has.fr f (fun k hk => hS k (h.own k hk)), h.own, h.low⟩
theorem Gat.next {W W8 : World} {B lo : Nat} {t : TypeId} {sz : Nat} {v v4 : Value} {n : Nat} {cs news : List Value} (h : Gat W B lo t sz v n cs) (hlo : lo ≤ W.heap.size) (ht : Has W8 sz v4 (n + 1) (cs ++ news)) (f : Fr (fun k => v.ownBlock = some k ∧ 0 < 1) W W8) (hat : v4.ownBlock = v.ownBlock ∨ v4.ownBlock = some W.heap.size) :
    W8.heap[B]? = some (.cells #[v] t (0, 0)) ∧ Gat (W8.setCell ⟨B, 0, none⟩ v4) B lo t sz v4 (n + 1) (cs ++ news) ∧ Fr (fun k => k = B ∨ v.ownBlock = some k) W (W8.setCell ⟨B, 0, none⟩ v4) := by
  have hb : W8.heap[B]? = some (.cells #[v] t (0, 0)) := f.blk h.blk (fun e => by have := h.own _ e.1; have := h.low; omega)
  have ho : ∀ g, v4.ownBlock = some g → lo ≤ g := fun g e => by
    rcases hat with e1 | e1
    · rw [e1] at e; exact h.own g e
    · rw [e1] at e; simp at e; omega
  have fs : Fr (fun k => k = B) W8 (W8.setCell ⟨B, 0, none⟩ v4) := (Fr.refl (fun k => k = B) W8).setCell (p := ⟨B, 0, none⟩) (fun _ => rfl) v4
  refine ⟨hb, ⟨one_setCell hb v4, ht.fr fs (fun k hk e => by have := ho k hk; have := h.low; omega), ho, h.low⟩, ?_⟩
  exact (f.widen (fun k e => .inr e.1)).trans fs (fun i _ e => .inl e)
end Go.Proofs.YtkibbojiflklpaaGreat

/- The pages of a row, as the iterator row gives them. -/
namespace Go.Proofs.YtkibbojiflklpaaGreat
open Go.RowKit Go.Shelf
attribute [local go_sem] Oper.semAt_some

/-- The pages of a row, from a page on. -/
def rowS (ls : List Sl) : Nat → Int → ByteArray → List Spt
  | 0, _, _ => []
  | k + 1, x, low => if hasB ls x = true then (match ls[ahead ls x]? with | none => [] | some s => ⟨x, s.nd, s.pt, low⟩ :: rowS ls k s.nd.rgt s.nd.high) else []
theorem rowS_no {ls : List Sl} {x : Int} (k : Nat) (low : ByteArray) (h : hasB ls x = false) : rowS ls k x low = [] := by
  cases k with
  | zero => rfl
  | succ k => simp [rowS, h]
theorem rowS_yes {ls : List Sl} {x : Int} {s : Sl} (k : Nat) (low : ByteArray) (h : hasB ls x = true) (hs : ls[ahead ls x]? = some s) : rowS ls (k + 1) x low = ⟨x, s.nd, s.pt, low⟩ :: rowS ls k s.nd.rgt s.nd.high := by
  simp [rowS, h, hs]
theorem bfind_yes {a : Option Addr} {len cap : Nat} {ls : List Sl} {x : Int} {w : World} {s : Sl} (h : Calls Tryz.prog 133 #[.slice a len cap, .int .i64 x] w fun e w' => BfOut ls x w e w') (hb : hasB ls x = true) (hs : ls[ahead ls x]? = some s) :
    Calls Tryz.prog 133 #[.slice a len cap, .int .i64 x] w fun e w' => e = .returned (.tuple #[(.agg #[.int .i64 s.nd.lev, .int .i64 s.nd.lsn, .int .i64 s.nd.rgt, .string s.nd.high, .slice s.pt.k s.nd.keys.length s.pt.kc, .slice s.pt.v s.nd.vals.length s.pt.vc, .slice s.pt.i s.nd.kids.length s.pt.ic]), .bool true]) ∧ Fr (fun _ => False) w w' := h.mono fun e w' ⟨f, ho⟩ => by
  rcases ho with ⟨t, _, ht, _, _, rfl⟩ | ⟨hn, _⟩
  · rw [hs] at ht; cases ht; exact ⟨rfl, f⟩
  · rw [hb] at hn; cases hn
theorem bfind_no {a : Option Addr} {len cap : Nat} {ls : List Sl} {x : Int} {w : World} (h : Calls Tryz.prog 133 #[.slice a len cap, .int .i64 x] w fun e w' => BfOut ls x w e w') (hb : hasB ls x = false) :
    Calls Tryz.prog 133 #[.slice a len cap, .int .i64 x] w fun e w' => e = .returned (.tuple #[.agg #[.int .i64 0, .int .i64 0, .int .i64 0, .string ⟨#[]⟩, .slice none 0 0, .slice none 0 0, .slice none 0 0], .bool false]) ∧ Fr (fun _ => False) w w' := h.mono fun e w' ⟨f, ho⟩ => by
  rcases ho with ⟨t, _, _, hn, _, _⟩ | ⟨_, rfl⟩
  · rw [hb] at hn; cases hn
  · exact ⟨rfl, f⟩
theorem has_some {ls : List Sl} {x : Int} (h : hasB ls x = true) : ∃ s, ls[ahead ls x]? = some s ∧ s.page = x := by
  unfold hasB at h
  split at h
  · cases h
  · rename_i s hs; exact ⟨s, hs, by simpa using h⟩
/-- What a round leaves of what an iterator holds. -/
theorem Tend.on {α : Type} {R : Nat → Prop} {T : World → Nat → Prop} {J : List α → World → Prop} (h : Tend R T J) {pre : List α} {w A B C : World} (hA : J pre A) (f : Fr (fun _ => False) A B) (g : Fr (T B) B C) (hw : Fr (fun k => ¬ R k) w A) : Fr (fun k => ¬ R k) w C ∧ ∀ k, A.heap.size ≤ k → k < B.heap.size → C.heap[k]? = B.heap[k]? :=
  ⟨(hw.trans f (fun _ _ f => f.elim)).trans g (fun i _ e => h.apart pre A i hA (h.back pre A B i hA f e)), fun k hk hk2 => g.block k hk2 (fun e => by have := h.old pre A k hA (h.back pre A B k hA f e); omega)⟩
set_option maxRecDepth 100000 in
set_option maxHeartbeats 4000000 in
theorem row_iter (a : Option Addr) (n c : Nat) (ls : List Sl) (hn : n = ls.length) (hf : ls.length ≤ 100000) (hr : Rise ls) (first : Int) (Bf Bl : Nat) (R : Nat → Prop) (w : World)
    (hS : ∀ W, Fr (fun k => ¬ R k) w W → Slots W a c ls) (hcf : ∀ W, Fr (fun k => ¬ R k) w W → W.cell? ⟨Bf, 0, none⟩ = some (.int .i64 first)) (hcl : ∀ W, Fr (fun k => ¬ R k) w W → W.cell? ⟨Bl, 0, none⟩ = some (.slice a n c)) :
    Iter Tryz.prog 182 #[.pointer (some ⟨Bf, 0, none⟩), .pointer (some ⟨Bl, 0, none⟩)] (fun s : Spt => #[(.agg #[.int .i64 s.page, .int .i64 s.nd.lev, .int .i64 s.nd.lsn, .int .i64 s.nd.rgt, .string s.nd.high, .slice s.pt.k s.nd.keys.length s.pt.kc, .slice s.pt.v s.nd.vals.length s.pt.vc, .slice s.pt.i s.nd.kids.length s.pt.ic, .string s.low])]) R (fun pre x _ => pre ++ [x] <+: rowS ls n first ByteArray.empty) (fun xs => xs = rowS ls n first ByteArray.empty) w := by
  intro l T J Jx W hW hT hJx hY h0
  have hle : n ≤ c := by rw [hn]; exact (hS W hW).le
  have hmx := (hS W hW).max
  have HFD : Hid (∀ W x, Fr (fun k => ¬ R k) w W → Calls Tryz.prog 133 #[.slice a n c, .int .i64 x] W fun e w' => BfOut ls x W e w') := fun W x f => bfind_any a n c ls hn hf hr x W (hS W f)
  have HCL : Hid (∀ W, Fr (fun k => ¬ R k) w W → W.cell? ⟨Bl, 0, none⟩ = some (.slice a n c)) := hcl
  have HN : Hid (n = ls.length) := hn
  have HT : Hid (Tend R T J) := hT
  have HJX : Hid (∀ pre A B, Jx pre A → Fr (fun _ => False) A B → Jx pre B) := hJx
  have HY : Hid (∀ pre x W1, J pre W1 → pre ++ [x] <+: rowS ls n first ByteArray.empty → YieldAt Fence.wide 0 Tryz.prog l #[(.agg #[.int .i64 x.page, .int .i64 x.nd.lev, .int .i64 x.nd.lsn, .int .i64 x.nd.rgt, .string x.nd.high, .slice x.pt.k x.nd.keys.length x.pt.kc, .slice x.pt.v x.nd.vals.length x.pt.vc, .slice x.pt.i x.nd.kids.length x.pt.ic, .string x.low])] W1 fun e W' => (e = .returned (.bool true) ∧ J (pre ++ [x]) W' ∧ Fr (T W1) W1 W' ∧ ∀ k, T W' k → T W1 k ∨ W1.heap.size ≤ k) ∨ (e = .returned (.bool false) ∧ Jx (pre ++ [x]) W')) := hY
  have HJ0 : Hid (J [] W) := h0
  have HW : Hid (Fr (fun k => ¬ R k) w W) := hW
  have c1 := hcf W hW
  have c2 := hcl W hW
  clear hS hcf hcl hT hJx hY h0 hn hr hf hW
  refine callsIn_of_wp Tryz.func182 rfl trivial ?_ rfl
  simp only [Tryz.ntmps182, List.size_toArray, List.length_cons, List.length_nil, Nat.reduceAdd, Nat.reduceSub, Array.replicate_succ, Array.replicate_zero, List.push_toArray, List.append_toArray, List.nil_append, List.cons_append]
  gi_wp2
  gi_loopw [11, 4, 5] (fun i nx lw wr => ∃ (k : Nat) (x : Int) (low : ByteArray) (pre : List Spt), k ≤ n ∧ i = .int .i64 k ∧ nx = .int .i64 x ∧ lw = .string low ∧ Hid (pre ++ rowS ls (n - k) x low = rowS ls n first ByteArray.empty) ∧ Hid (J pre wr) ∧ Fr (fun k => ¬ R k) w wr) (fun i _ _ _ => n - (intOf i).toNat)
  case atStart => exact ⟨0, first, ByteArray.empty, [], by omega, rfl, rfl, rfl, rfl, HJ0, HW.out⟩
  case round =>
    obtain ⟨k, x, low, pre, hk, rfl, rfl, rfl, HE, HJ, F⟩ := hrel
    by_cases hlt : k < n
    · have hki : (k : Int) < (n : Int) := by omega
      have c2 := HCL.out _ F
      have hfd := HFD.out _ x F
      have HSZ : Hid (n - k = (n - (k + 1)) + 1) := by show _ = _; omega
      cases hh : hasB ls x
      · have hfn := bfind_no hfd hh
        have HS0 : Hid (pre = rowS ls n first ByteArray.empty) := by show _ = _; rw [← HE.out, rowS_no _ _ hh, List.append_nil]
        clear hfd hh HE
        gi_wp2
        refine ⟨trivial, rfl, (callsIn_wide.2 hfn).mono ?_⟩
        rintro e w1 ⟨rfl, f1⟩
        gi_wp2
        refine ⟨fun _ h => (by cases h), ?_⟩
        gi_wp2
        refine bodyPost_ret (results_none rfl _ _ _) rfl ?_
        exact ⟨⟨_, rfl⟩, .inl ⟨pre, HS0.out, HT.out.steady _ _ _ HJ.out (f1.alloc _)⟩⟩
      · obtain ⟨s, hs, hsx⟩ := has_some hh
        have hfy := bfind_yes hfd hh hs
        have HR2 : Hid (rowS ls (n - k) x low = ⟨x, s.nd, s.pt, low⟩ :: rowS ls (n - (k + 1)) s.nd.rgt s.nd.high) := by show _ = _; rw [HSZ.out]; exact rowS_yes _ _ hh hs
        clear hfd hh hs hsx
        gi_wp2
        refine ⟨trivial, rfl, (callsIn_wide.2 hfy).mono ?_⟩
        rintro e w1 ⟨rfl, f1⟩
        have fB := f1.alloc (.cells #[.int .i64 s.nd.lev, .int .i64 s.nd.lsn, .int .i64 s.nd.rgt, .string s.nd.high, .slice s.pt.k s.nd.keys.length s.pt.kc, .slice s.pt.v s.nd.vals.length s.pt.vc, .slice s.pt.i s.nd.kids.length s.pt.ic] 33)
        have hJ1 := HT.out.steady _ _ _ HJ.out fB
        obtain ⟨fn, tmps, assign, body, hy, hR⟩ := HY.out pre ⟨x, s.nd, s.pt, low⟩ _ hJ1 (by rw [← HE.out, HR2.out]; exact ⟨rowS ls (n - (k + 1)) s.nd.rgt s.nd.high, by simp⟩)
        dsimp only at hy
        gi_wp2
        refine ⟨rfl, hR.mono ?_⟩
        rintro e W3 (⟨rfl, hJ3, hk3, _⟩ | ⟨rfl, hJx3⟩)
        · obtain ⟨FW3, hbl⟩ := HT.out.on HJ.out fB hk3 F
          have hbx := (hbl w1.heap.size (by have := f1.size; omega) (by simp)).trans (heap_alloc_new w1 (.cells #[.int .i64 s.nd.lev, .int .i64 s.nd.lsn, .int .i64 s.nd.rgt, .string s.nd.high, .slice s.pt.k s.nd.keys.length s.pt.kc, .slice s.pt.v s.nd.vals.length s.pt.vc, .slice s.pt.i s.nd.kids.length s.pt.ic] 33))
          obtain ⟨c0, c1, c2', c3, c4, c5, c6⟩ := box_cells hbx
          have HE2 : Hid ((pre ++ [⟨x, s.nd, s.pt, low⟩]) ++ rowS ls (n - (k + 1)) s.nd.rgt s.nd.high = rowS ls n first ByteArray.empty) := by show _ = _; rw [← HE.out, HR2.out]; simp
          have HJ3 : Hid (J (pre ++ [⟨x, s.nd, s.pt, low⟩]) W3) := hJ3
          clear hJ3 hk3 hbl hbx hR hy hJ1
          have hmo : Tryz.prog.follows .mixedOrders = true := by kernel_rfl
          gi_wp2
          gi_region_with_o (fail)
          all_goals gi_wp2
          all_goals go_roundw
          all_goals first
            | exact ⟨k + 1, s.nd.rgt, s.nd.high, pre ++ [⟨x, s.nd, s.pt, low⟩], by omega, by go_num, rfl, rfl, HE2, HT.out.steady _ _ _ HJ3.out ((Fr.refl _ W3).drew), FW3.trans ((Fr.refl (fun _ => False) W3).drew) (fun _ _ f => f.elim)⟩
            | (simp [intOf]; omega)
        · gi_wp2
          refine bodyPost_ret (results_none rfl _ _ _) rfl ?_
          exact ⟨⟨_, rfl⟩, .inr ⟨_, hJx3⟩⟩
    · have HS0 : Hid (pre = rowS ls n first ByteArray.empty) := by
        show _ = _
        rw [← HE.out, show n - k = 0 by omega]
        simp [rowS]
      gi_wp2
      go_end0
      exact ⟨⟨_, rfl⟩, .inl ⟨pre, HS0.out, HJ.out⟩⟩
end Go.Proofs.YtkibbojiflklpaaGreat

/- slices.Collect of what an iterator gives. -/
namespace Go.Proofs.YtkibbojiflklpaaGreat
open Go.RowKit Go.Shelf
attribute [local go_sem] Oper.semAt_some
theorem nine_cells {W : World} {b : Nat} {t : TypeId} {c0 c1 c2 c3 c4 c5 c6 c7 c8 : Value} (h : W.heap[b]? = some (.cells #[c0, c1, c2, c3, c4, c5, c6, c7, c8] t (0, 0))) : W.cell? ⟨b, 0, none⟩ = some c0 ∧ W.cell? ⟨b, 1, none⟩ = some c1 ∧ W.cell? ⟨b, 2, none⟩ = some c2 ∧ W.cell? ⟨b, 3, none⟩ = some c3 ∧ W.cell? ⟨b, 4, none⟩ = some c4 ∧ W.cell? ⟨b, 5, none⟩ = some c5 ∧ W.cell? ⟨b, 6, none⟩ = some c6 ∧ W.cell? ⟨b, 7, none⟩ = some c7 ∧ W.cell? ⟨b, 8, none⟩ = some c8 := by
  refine ⟨?_, ?_, ?_, ?_, ?_, ?_, ?_, ?_, ?_⟩ <;> simp [World.cell?, h]

theorem infoSpt : (Tryz.prog.info? 194).map (fun i => (i.zero, i.size, i.bytes)) = some (some (.agg #[.int .i64 0, .int .i64 0, .int .i64 0, .int .i64 0, .string ⟨#[]⟩, .slice none 0 0, .slice none 0 0, .slice none 0 0, .string ⟨#[]⟩]), 9, 136) := by kernel_rfl
/-- What gathers Spt. -/
def GthSpt (w : World) (L pre : List Spt) (W : World) : Prop := pre <+: L ∧ Fr (fun _ => False) w W ∧ ∃ v, Gat W w.heap.size (w.heap.size + 3) 118 9 v pre.length (pre.flatMap spC)
set_option maxRecDepth 100000 in
set_option maxHeartbeats 4000000 in
theorem appendSeqSpt (gf : Nat) (lb : Array Value) (eg : ∀ args w, (callFunc gf args).run Tryz.prog w = .ok (.enter gf args) w) (R : Nat → Prop) (M : List Spt → Spt → World → Prop) (L : List Spt) (hL : L.length ≤ 100000000) (w0 w : World)
    (hM : ∀ pre x W, M pre x W → pre ++ [x] <+: L) (hit : Iter Tryz.prog gf lb (fun s : Spt => #[(.agg #[.int .i64 s.page, .int .i64 s.nd.lev, .int .i64 s.nd.lsn, .int .i64 s.nd.rgt, .string s.nd.high, .slice s.pt.k s.nd.keys.length s.pt.kc, .slice s.pt.v s.nd.vals.length s.pt.vc, .slice s.pt.i s.nd.kids.length s.pt.ic, .string s.low])]) R M (fun xs => xs = L) w0) (hw : Fr (fun k => ¬ R k) w0 w) (hR : ∀ k, R k → k < w.heap.size) :
    Calls Tryz.prog 181 #[.slice none 0 0, .func (.func gf) #[] lb] w fun e W' => ∃ v, e = .returned v ∧ Has W' 9 v L.length (L.flatMap spC) ∧ (∀ g, v.ownBlock = some g → w.heap.size ≤ g) ∧ Fr (fun _ => False) w W' := by
  obtain ⟨i0, hi, hz0, hz1, hz2⟩ := info_parts infoSpt
  refine (callsIn_wide (n := 0)).1 ?_
  refine callsIn_of_wp_marks Tryz.func181 rfl trivial ?_ rfl
  simp only [Tryz.ntmps181, List.size_toArray, List.length_cons, List.length_nil, Nat.reduceAdd, Nat.reduceSub, Array.replicate_succ, Array.replicate_zero, List.push_toArray, List.append_toArray, List.nil_append, List.cons_append]
  gi_wp2
  have f0 : Fr (fun _ => False) w (w.alloc (.cells #[.slice none 0 0] 118)) := Fr.box w _
  have hb0 := heap_alloc_new w (.cells #[.slice none 0 0] 118)
  refine over (gf := gf) (lb := lb) rfl eg hit (hw.trans f0 (fun _ _ f => f.elim)) (fun _ => rfl)
    (fun W k => k = w.heap.size ∨ ∃ v, W.cell? ⟨w.heap.size, 0, none⟩ = some v ∧ v.ownBlock = some k) (GthSpt w L) (fun _ _ _ => False) ?st (fun _ _ _ _ h _ => h) ?ol ?bk ?ap ?h0 ?round ?done (fun _ _ _ h => h.elim)
  case st =>
    rintro pre A B ⟨hp, f, v, hg⟩ fn
    simp only [World.size_alloc] at fn
    exact ⟨hp, f.trans fn (fun i hi e => by omega), v, hg.fr fn (by omega) (fun k hk e => by omega)⟩
  case ol =>
    rintro pre A k ⟨hp, f, v, hg⟩ (rfl | ⟨u, hu, ho⟩)
    · exact lt_of_block hg.blk
    · rw [(one_cells hg.blk).1] at hu
      cases hu
      exact hg.has.lt ho
  case bk =>
    rintro pre A B k ⟨hp, f, v, hg⟩ fn (rfl | ⟨u, hu, ho⟩)
    · exact .inl rfl
    · simp only [World.size_alloc] at fn
      have hg2 := hg.fr fn (by omega) (fun k hk e => by omega)
      rw [(one_cells hg2.blk).1] at hu
      cases hu
      exact .inr ⟨v, (one_cells hg.blk).1, ho⟩
  case ap =>
    rintro pre A k ⟨hp, f, v, hg⟩ (rfl | ⟨u, hu, ho⟩)
    · exact ⟨fun h => by have := hR _ h; omega, by simp, by simp; omega⟩
    · rw [(one_cells hg.blk).1] at hu
      cases hu
      have := hg.own k ho
      exact ⟨fun h => by have := hR _ h; omega, by simp; omega, by simp; omega⟩
  case h0 => exact ⟨List.nil_prefix, f0, .slice none 0 0, hb0, Has.nil _ _, (fun g e => by cases e), by omega⟩
  case round =>
    rintro pre x W ⟨hp, f, v, hg⟩ hm hz _
    simp only [World.size_alloc] at hz ⊢
    have hpx := hM _ _ _ hm
    clear hm
    gi_wp2
    refine ⟨Fr.box W _, fun W2 f2 => ?_⟩
    have hg2 := (hg.fr (Fr.box W (.cells #[.int .i64 x.page, .int .i64 x.nd.lev, .int .i64 x.nd.lsn, .int .i64 x.nd.rgt, .string x.nd.high, .slice x.pt.k x.nd.keys.length x.pt.kc, .slice x.pt.v x.nd.vals.length x.pt.vc, .slice x.pt.i x.nd.kids.length x.pt.ic, .string x.low] 194)) (fun f => f) (fun _ _ f => f)).fr f2 (by omega) (fun k hk e => by omega)
    have hbx := f2.blk (heap_alloc_new W (.cells #[.int .i64 x.page, .int .i64 x.nd.lev, .int .i64 x.nd.lsn, .int .i64 x.nd.rgt, .string x.nd.high, .slice x.pt.k x.nd.keys.length x.pt.kc, .slice x.pt.v x.nd.vals.length x.pt.vc, .slice x.pt.i x.nd.kids.length x.pt.ic, .string x.low] 194)) (by omega)
    have hsz2 := f2.size
    simp only [World.size_alloc] at hsz2
    have hfw : Fr (fun _ => False) w W2 := (f.seq' (Fr.box W _)).trans f2 (fun i hi e => by omega)
    have hlen : pre.length ≤ 100000000 := by have := hpx.length_le; simp at this; omega
    obtain ⟨c0, _⟩ := one_cells hg2.blk
    obtain ⟨e0, e1, e2, e3, e4, e5, e6, e7, e8⟩ := nine_cells hbx
    have hg3 := hg2.fr (Fr.box W2 (.cells #[.int .i64 x.page, .int .i64 x.nd.lev, .int .i64 x.nd.lsn, .int .i64 x.nd.rgt, .string x.nd.high, .slice x.pt.k x.nd.keys.length x.pt.kc, .slice x.pt.v x.nd.vals.length x.pt.vc, .slice x.pt.i x.nd.kids.length x.pt.ic, .string x.low] 194)) (fun f => f) (fun _ _ f => f)
    have HG3 : Hid (Gat (W2.alloc (.cells #[.int .i64 x.page, .int .i64 x.nd.lev, .int .i64 x.nd.lsn, .int .i64 x.nd.rgt, .string x.nd.high, .slice x.pt.k x.nd.keys.length x.pt.kc, .slice x.pt.v x.nd.vals.length x.pt.vc, .slice x.pt.i x.nd.kids.length x.pt.ic, .string x.low] 194)) w.heap.size (w.heap.size + 3) 118 9 v pre.length (pre.flatMap spC)) := hg3
    have HFR : Hid (From (W2.alloc (.cells #[.int .i64 x.page, .int .i64 x.nd.lev, .int .i64 x.nd.lsn, .int .i64 x.nd.rgt, .string x.nd.high, .slice x.pt.k x.nd.keys.length x.pt.kc, .slice x.pt.v x.nd.vals.length x.pt.vc, .slice x.pt.i x.nd.kids.length x.pt.ic, .string x.low] 194)) (some ⟨W2.heap.size, 0, none⟩) (spC x)) := .inr ⟨_, _, rfl, range_block (heap_alloc_new W2 (.cells #[.int .i64 x.page, .int .i64 x.nd.lev, .int .i64 x.nd.lsn, .int .i64 x.nd.rgt, .string x.nd.high, .slice x.pt.k x.nd.keys.length x.pt.kc, .slice x.pt.v x.nd.vals.length x.pt.vc, .slice x.pt.i x.nd.kids.length x.pt.ic, .string x.low] 194)) (xs := spC x) (o := 0) (fun j u hu => by rw [Nat.zero_add]; simpa [spC] using hu)⟩
    have HFW : Hid (Fr (fun _ => False) w W2) := hfw
    have HPX : Hid (pre ++ [x] <+: L) := hpx
    have HV : Hid (W2.cell? ⟨w.heap.size, 0, none⟩ = some v) := c0
    obtain ⟨av, cv, hvv, _, _⟩ := hg3.has.slice
    subst hvv
    obtain ⟨n, hn⟩ : ∃ n, n = pre.length := ⟨_, rfl⟩
    rw [← hn] at HG3 hlen HV c0
    have HNN : Hid (n = pre.length) := hn
    clear hn hg hg2 hg3 hp hbx hfw hpx f f2 hb0 f0
    gi_wp2_with (gi_at_builtin; refine Hid.out (?_ : Hid _))
    unfold Hid
    refine wpListIn_append_has _ rfl (.tmp 8) (.tmp 10) 118 118 194 194 rfl i0 _ 9 136 Tryz.underlying118 Tryz.underlying118 hi hz0 hz1 hz2 rfl (by omega) (.slice av n cv) n (pre.flatMap spC) rfl HG3.out.has (some ⟨W2.heap.size, 0, none⟩) 1 1 (spC x) rfl rfl HFR.out (spC_one _) (by unfold maxLen; omega) (by omega) ?_
    intro a4 c4 w8 ht4 f4 hat4
    obtain ⟨hb8, hg8, f8⟩ := HG3.out.next (by simp; omega) ht4 f4 hat4
    obtain ⟨d0, d1⟩ := one_cells hb8
    gi_wp2
    refine ⟨?_, ?_, HPX.out, ?_, .slice a4 (n + 1) c4, ?_⟩
    · refine ((Fr.box W2 (.cells #[.int .i64 x.page, .int .i64 x.nd.lev, .int .i64 x.nd.lsn, .int .i64 x.nd.rgt, .string x.nd.high, .slice x.pt.k x.nd.keys.length x.pt.kc, .slice x.pt.v x.nd.vals.length x.pt.vc, .slice x.pt.i x.nd.kids.length x.pt.ic, .string x.low] 194)).widen (fun _ f => f.elim)).trans f8 (fun i hi e => ?_)
      rcases e with e | e
      · exact .inl e
      · exact .inr ⟨_, HV.out, e⟩
    · rintro k (e | ⟨u, hu, ho⟩)
      · exact .inl (.inl e)
      · rw [(one_cells hg8.blk).1] at hu
        cases hu
        rcases hat4 with e | e
        · rw [e] at ho; exact .inl (.inr ⟨_, HV.out, ho⟩)
        · rw [e] at ho; simp at ho; exact .inr (by omega)
    · exact HFW.out.trans (((Fr.box W2 (.cells #[.int .i64 x.page, .int .i64 x.nd.lev, .int .i64 x.nd.lsn, .int .i64 x.nd.rgt, .string x.nd.high, .slice x.pt.k x.nd.keys.length x.pt.kc, .slice x.pt.v x.nd.vals.length x.pt.vc, .slice x.pt.i x.nd.kids.length x.pt.ic, .string x.low] 194)).widen (T := fun k => k = w.heap.size ∨ (Value.slice av n cv).ownBlock = some k) (fun _ f => f.elim)).trans f8 (fun i _ e => e)) (fun i hi e => by
        rcases e with e | e
        · omega
        · have := HG3.out.own _ e; omega)
    · rw [List.length_append, List.flatMap_append, ← HNN.out]
      simpa using hg8
  case done =>
    rintro xs W rfl ⟨hp, f, v, hg⟩ hK
    obtain ⟨c0, _⟩ := one_cells hg.blk
    have hKd := run_takeDeferred (P := Tryz.prog) hK
    gi_wp2
    refine ⟨by simp, .inl ⟨_, _, rfl, hKd, ?_⟩⟩
    have fd := Fr.put W (w.alloc (.cells #[.slice none 0 0] 118)).heap.size (.deferred none)
    exact ⟨_, results_tmp rfl _ _ _, v, rfl, hg.has.fr fd (fun k hk e => by have := hg.own k hk; simp at e; omega), (fun g e => by have := hg.own g e; omega), f.trans fd (fun i hi e => by simp at e; omega)⟩
end Go.Proofs.YtkibbojiflklpaaGreat

/- The rows of pages, level by level, as the iterator rows gives them. -/
namespace Go.Proofs.YtkibbojiflklpaaGreat
open Go.RowKit Go.Shelf
attribute [local go_sem] Oper.semAt_some

theorem row_call (a : Option Addr) (n c : Nat) (x : Int) (w : World) : Calls Tryz.prog 135 #[.slice a n c, .int .i64 x] w fun e w' => e = .returned (.func (.func 182) #[] #[.pointer (some ⟨w.heap.size + 1, 0, none⟩), .pointer (some ⟨w.heap.size, 0, none⟩)]) ∧ w' = (w.alloc (.cells #[.slice a n c] 120)).alloc (.cells #[.int .i64 x] 3) := by
  go_enter Tryz.func135, Tryz.ntmps135
  go_wp2
  go_ret
  exact ⟨rfl, rfl⟩
theorem rowS_len (ls : List Sl) (k : Nat) (x : Int) (low : ByteArray) : (rowS ls k x low).length ≤ k := by
  induction k generalizing x low with
  | zero => simp [rowS]
  | succ k ih =>
    cases hh : hasB ls x
    · rw [rowS_no _ _ hh]; simp
    · obtain ⟨s, hs, _⟩ := has_some hh
      rw [rowS_yes _ _ hh hs]
      have := ih s.nd.rgt s.nd.high
      simp
      omega
/-- What slices.Collect makes of a row. -/
theorem collect_row (a : Option Addr) (n c : Nat) (ls : List Sl) (hn : n = ls.length) (hf : ls.length ≤ 100000) (hr : Rise ls) (x : Int) (w : World) (h : Slots w a c ls) :
    Calls Tryz.prog 134 #[.func (.func 182) #[] #[.pointer (some ⟨w.heap.size + 1, 0, none⟩), .pointer (some ⟨w.heap.size, 0, none⟩)]] ((w.alloc (.cells #[.slice a n c] 120)).alloc (.cells #[.int .i64 x] 3)) fun e W' => ∃ v, e = .returned v ∧ Has W' 9 v (rowS ls n x ByteArray.empty).length ((rowS ls n x ByteArray.empty).flatMap spC) ∧ (∀ g, v.ownBlock = some g → w.heap.size ≤ g) ∧ Fr (fun _ => False) w W' := by
  have f0 : Fr (fun _ => False) w ((w.alloc (.cells #[.slice a n c] 120)).alloc (.cells #[.int .i64 x] 3)) := ((Fr.refl _ _).alloc _).alloc _
  have hb1 : ((w.alloc (.cells #[.slice a n c] 120)).alloc (.cells #[.int .i64 x] 3)).heap[w.heap.size]? = some (.cells #[.slice a n c] 120 (0, 0)) := (Fr.box (w.alloc (.cells #[.slice a n c] 120)) (.cells #[.int .i64 x] 3)).blk (heap_alloc_new w _) (fun f => f)
  have hb2 : ((w.alloc (.cells #[.slice a n c] 120)).alloc (.cells #[.int .i64 x] 3)).heap[w.heap.size + 1]? = some (.cells #[.int .i64 x] 3 (0, 0)) := by
    have := heap_alloc_new (w.alloc (.cells #[.slice a n c] 120)) (.cells #[.int .i64 x] 3)
    rwa [show (w.alloc (.cells #[.slice a n c] 120)).heap.size = w.heap.size + 1 by simp] at this
  have hsz : ((w.alloc (.cells #[.slice a n c] 120)).alloc (.cells #[.int .i64 x] 3)).heap.size = w.heap.size + 2 := by simp
  have hS := h.same f0
  generalize (w.alloc (.cells #[.slice a n c] 120)).alloc (.cells #[.int .i64 x] 3) = V at *
  have keep : ∀ {W : World}, Fr (fun k => ¬ (fun k => k < V.heap.size) k) V W → Fr (fun _ => False) V W := fun f => ⟨f.os, f.tape, f.output, f.size, fun k hk _ => f.block k hk (fun e => e hk)⟩
  have hit := row_iter a n c ls hn hf hr x (w.heap.size + 1) w.heap.size (fun k => k < V.heap.size) V (fun W f => hS.same (keep f)) (fun W f => (one_cells ((keep f).blk hb2 (fun f => f))).1) (fun W f => (one_cells ((keep f).blk hb1 (fun f => f))).1)
  have hap := appendSeqSpt 182 #[.pointer (some ⟨w.heap.size + 1, 0, none⟩), .pointer (some ⟨w.heap.size, 0, none⟩)] (enters_of Tryz.func182 (by kernel_rfl) rfl) (fun k => k < V.heap.size) _ (rowS ls n x ByteArray.empty) (by have := rowS_len ls n x ByteArray.empty; omega) V V (fun pre y W h => h) hit (Fr.refl _ _) (fun k h => h)
  clear hit hb1 hb2 hS
  obtain ⟨L, hL⟩ : ∃ L, L = rowS ls n x ByteArray.empty := ⟨_, rfl⟩
  rw [← hL] at hap ⊢
  clear hL hn hf hr h
  obtain ⟨m, hm⟩ : ∃ m, m = L.length := ⟨_, rfl⟩
  rw [← hm] at hap ⊢
  clear hm
  go_enter Tryz.func134, Tryz.ntmps134
  go_wp2_with fail
  refine hap.mono ?_
  rintro e w1 ⟨v, rfl, hh, ho, f1⟩
  obtain ⟨av, cv, rfl, _, _⟩ := hh.slice
  go_wp2
  go_ret
  exact ⟨_, rfl, hh, fun g e => by have := ho g e; omega, f0.seq' f1⟩
/-- A level and its row, and where the row lies. -/
structure Lvl where
  lev : Int
  row : List Spt
  a : Option Addr
  c : Nat
def lvK (x : Lvl) : Int × List Spt := (x.lev, x.row)
def nxt (f : Int → List (Int × List Spt)) : List Spt → List (Int × List Spt)
  | [] => []
  | s :: _ => match s.nd.kids with | [] => [] | y :: _ => f y
theorem nxt_leaf (f : Int → List (Int × List Spt)) {s : Spt} (r : List Spt) (h : s.nd.kids = []) : nxt f (s :: r) = [] := by simp [nxt, h]
theorem nxt_kid (f : Int → List (Int × List Spt)) {s : Spt} (r : List Spt) {y : Int} {ys : List Int} (h : s.nd.kids = y :: ys) : nxt f (s :: r) = f y := by simp [nxt, h]
/-- The rows from a level down, the first page of the first one being given. -/
def rowsF (ls : List Sl) : Nat → Int → List (Int × List Spt)
  | 0, _ => []
  | k + 1, x => ((k : Int), rowS ls ls.length x ByteArray.empty) :: nxt (rowsF ls k) (rowS ls ls.length x ByteArray.empty)
/-- What a round is handed: the row lies in new memory. -/
def LvM (L : List (Int × List Spt)) (lo : Nat) (pre : List Lvl) (x : Lvl) (W : World) : Prop := (pre ++ [x]).map lvK <+: L ∧ Has W 9 (.slice x.a x.row.length x.c) x.row.length (x.row.flatMap spC) ∧ ∀ g, (Value.slice x.a x.row.length x.c).ownBlock = some g → lo ≤ g
theorem has_first {W : World} {g n c : Nat} {s : Spt} {r : List Spt} (h : Has W 9 (.slice (some ⟨g, 0, none⟩) n c) n ((s :: r).flatMap spC)) : W.cell? ⟨g, 0, none⟩ = some (.int .i64 s.page) ∧ W.cell? ⟨g, 7, none⟩ = some (.slice s.pt.i s.nd.kids.length s.pt.ic) := by
  have h2 := h.elem (i := 0) spC_length (l := s :: r) rfl
  have h3 := sp_range h2
  simp only [Nat.zero_mul, Nat.zero_add] at h3
  exact ⟨h3.1, h3.2.2.2.2.2.2.2.1⟩
theorem rowS_mem {ls : List Sl} (k : Nat) (x : Int) (low : ByteArray) : ∀ s ∈ rowS ls k x low, ∃ t ∈ ls, s.nd = t.nd ∧ s.pt = t.pt ∧ s.page = t.page := by
  induction k generalizing x low with
  | zero => intro s hs; simp [rowS] at hs
  | succ k ih =>
    cases hh : hasB ls x
    · rw [rowS_no _ _ hh]; intro s hs; cases hs
    · obtain ⟨t, ht, htx⟩ := has_some hh
      rw [rowS_yes _ _ hh ht]
      intro s hs
      rcases List.mem_cons.1 hs with rfl | hs
      · exact ⟨t, List.mem_of_getElem? ht, rfl, rfl, htx.symm⟩
      · exact ih _ _ s hs
set_option maxRecDepth 100000 in
set_option maxHeartbeats 4000000 in
theorem rows_iter (a : Option Addr) (n c : Nat) (ls : List Sl) (hn : n = ls.length) (hf : ls.length ≤ 100000) (hr : Rise ls) (top : Nat) (htop : top ≤ 21) (Bl : Nat) (R : Nat → Prop) (w : World)
    (hz : (if hasB ls 1 = true then ((ls[ahead ls 1]?).map (fun s => s.nd.lev)).getD 0 else 0) = (top : Int) - 1)
    (hS : ∀ W, Fr (fun k => ¬ R k) w W → Slots W a c ls) (hcl : ∀ W, Fr (fun k => ¬ R k) w W → W.cell? ⟨Bl, 0, none⟩ = some (.slice a n c)) :
    Iter Tryz.prog 132 #[.pointer (some ⟨Bl, 0, none⟩)] (fun x : Lvl => #[.int .i64 x.lev, .slice x.a x.row.length x.c]) R (LvM (rowsF ls top 1) w.heap.size) (fun xs => xs.map lvK = rowsF ls top 1) w := by
  intro l T J Jx W hW hT hJx hY h0
  have hmx := (hS W hW).max
  have HN : Hid (n = ls.length) := hn
  have HS : Hid (∀ W, Fr (fun k => ¬ R k) w W → Slots W a c ls) := hS
  have HCL : Hid (∀ W, Fr (fun k => ¬ R k) w W → W.cell? ⟨Bl, 0, none⟩ = some (.slice a n c)) := hcl
  have HCO : Hid (∀ (x : Int) (W : World), Fr (fun k => ¬ R k) w W → Calls Tryz.prog 134 #[.func (.func 182) #[] #[.pointer (some ⟨W.heap.size + 1, 0, none⟩), .pointer (some ⟨W.heap.size, 0, none⟩)]] ((W.alloc (.cells #[.slice a n c] 120)).alloc (.cells #[.int .i64 x] 3)) fun e W' => ∃ v, e = .returned v ∧ Has W' 9 v (rowS ls n x ByteArray.empty).length ((rowS ls n x ByteArray.empty).flatMap spC) ∧ (∀ g, v.ownBlock = some g → W.heap.size ≤ g) ∧ Fr (fun _ => False) W W') := fun x W f => collect_row a n c ls hn hf hr x W (hS W f)
  have hfd := bfind_any a n c ls hn hf hr 1 W (hS W hW)
  have HT : Hid (Tend R T J) := hT
  have HY : Hid (∀ pre x W1, J pre W1 → LvM (rowsF ls top 1) w.heap.size pre x W1 → YieldAt Fence.wide 0 Tryz.prog l #[.int .i64 x.lev, .slice x.a x.row.length x.c] W1 fun e W' => (e = .returned (.bool true) ∧ J (pre ++ [x]) W' ∧ Fr (T W1) W1 W' ∧ ∀ k, T W' k → T W1 k ∨ W1.heap.size ≤ k) ∨ (e = .returned (.bool false) ∧ Jx (pre ++ [x]) W')) := hY
  have c2 := hcl W hW
  have hroot : ∃ (n0 : Nd) (p0 : Pt) (b0 : Bool), n0.lev = (top : Int) - 1 ∧ Calls Tryz.prog 133 #[.slice a n c, .int .i64 1] W fun e w' => e = .returned (.tuple #[(.agg #[.int .i64 n0.lev, .int .i64 n0.lsn, .int .i64 n0.rgt, .string n0.high, .slice p0.k n0.keys.length p0.kc, .slice p0.v n0.vals.length p0.vc, .slice p0.i n0.kids.length p0.ic]), .bool b0]) ∧ Fr (fun _ => False) W w' := by
    cases hh : hasB ls 1
    · rw [hh] at hz
      exact ⟨zn, zp, false, by rw [← hz]; rfl, bfind_no hfd hh⟩
    · obtain ⟨s, hs, _⟩ := has_some hh
      rw [hh, hs] at hz
      exact ⟨s.nd, s.pt, true, by rw [← hz]; rfl, bfind_yes hfd hh hs⟩
  obtain ⟨n0, p0, b0, hlev, hroot⟩ := hroot
  have HLV : Hid (n0.lev = (top : Int) - 1) := hlev
  have HJ0 : Hid (J [] W) := h0
  have HW : Hid (Fr (fun k => ¬ R k) w W) := hW
  clear hS hcl hT hJx hY h0 hn hr hf hW hfd hz hlev
  refine callsIn_of_wp Tryz.func132 rfl trivial ?_ rfl
  simp only [Tryz.ntmps132, List.size_toArray, List.length_cons, List.length_nil, Nat.reduceAdd, Nat.reduceSub, Array.replicate_succ, Array.replicate_zero, List.push_toArray, List.append_toArray, List.nil_append, List.cons_append]
  gi_wp2
  refine ⟨trivial, rfl, (callsIn_wide.2 hroot).mono ?_⟩
  rintro e w1 ⟨rfl, f1⟩
  rw [HLV.out]
  have f1a := f1.alloc (.cells #[.int .i64 n0.lev, .int .i64 n0.lsn, .int .i64 n0.rgt, .string n0.high, .slice p0.k n0.keys.length p0.kc, .slice p0.v n0.vals.length p0.vc, .slice p0.i n0.kids.length p0.ic] 33)
  have HJ1 : Hid (J [] (w1.alloc (.cells #[.int .i64 n0.lev, .int .i64 n0.lsn, .int .i64 n0.rgt, .string n0.high, .slice p0.k n0.keys.length p0.kc, .slice p0.v n0.vals.length p0.vc, .slice p0.i n0.kids.length p0.ic] 33))) := HT.out.steady _ _ _ HJ0.out f1a
  have F1 : Hid (Fr (fun k => ¬ R k) w (w1.alloc (.cells #[.int .i64 n0.lev, .int .i64 n0.lsn, .int .i64 n0.rgt, .string n0.high, .slice p0.k n0.keys.length p0.kc, .slice p0.v n0.vals.length p0.vc, .slice p0.i n0.kids.length p0.ic] 33))) := HW.out.trans f1a (fun _ _ f => f.elim)
  rw [HLV.out] at HJ1 F1
  clear hroot f1 f1a
  gi_wp2
  gi_loopw [6, 3] (fun lv fi wr => ∃ (k : Nat) (x : Int) (pre : List Lvl), k ≤ top ∧ lv = .int .i64 ((k : Int) - 1) ∧ fi = .int .i64 x ∧ Hid (pre.map lvK ++ rowsF ls k x = rowsF ls top 1) ∧ Hid (J pre wr) ∧ Hid (Fr (fun k => ¬ R k) w wr)) (fun lv _ _ => (intOf lv + 1).toNat)
  case atStart => exact ⟨top, 1, [], by omega, rfl, rfl, rfl, HJ1, F1⟩
  case round =>
    obtain ⟨k, x, pre, hk, rfl, rfl, HE, HJ, F⟩ := hrel
    cases k with
    | zero =>
      have HS0 : Hid (pre.map lvK = rowsF ls top 1) := by show _ = _; rw [← HE.out]; simp [rowsF]
      have e0 : ((0 : Nat) : Int) - 1 = -1 := by omega
      rw [e0]
      gi_wp2
      go_end0
      exact ⟨⟨_, rfl⟩, .inl ⟨pre, HS0.out, HJ.out⟩⟩
    | succ j =>
      have e0 : ((j + 1 : Nat) : Int) - 1 = (j : Int) := by omega
      rw [e0]
      have c2 := HCL.out _ F.out
      have hj0 : (0 : Int) ≤ (j : Int) := by omega
      have hco := HCO.out x wr F.out
      obtain ⟨r, hr⟩ : ∃ r, r = rowS ls n x ByteArray.empty := ⟨_, rfl⟩
      rw [← hr] at hco
      have HRX : Hid (rowsF ls (j + 1) x = ((j : Int), r) :: nxt (rowsF ls j) r) := by show _ = _; rw [hr, HN.out]; rfl
      have HMB : Hid (∀ s ∈ r, ∃ t ∈ ls, s.nd = t.nd ∧ s.pt = t.pt ∧ s.page = t.page) := by rw [hr]; exact rowS_mem _ _ _
      clear hr
      gi_wp2
      refine ⟨trivial, rfl, (callsIn_wide.2 (row_call a n c x _)).mono ?_⟩
      rintro e w' ⟨rfl, rfl⟩
      gi_wp2
      refine ⟨trivial, rfl, (callsIn_wide.2 hco).mono ?_⟩
      rintro e w2 ⟨v, rfl, hh, ho, f2⟩
      obtain ⟨av, cv, rfl, hcv, hcm⟩ := hh.slice
      have hJ2 := HT.out.steady _ _ _ HJ.out f2
      have hzw := F.out.size
      obtain ⟨fn, tmps, assign, body, hy, hR⟩ := HY.out pre (Lvl.mk (j : Int) r av cv) _ hJ2 ⟨by rw [List.map_append, ← HE.out, HRX.out]; exact ⟨nxt (rowsF ls j) r, by simp [lvK]⟩, hh, fun g e => by have := ho g e; omega⟩
      dsimp only at hy
      have HH : Hid (Has w2 9 (.slice av r.length cv) r.length (r.flatMap spC)) := hh
      have HO : Hid (∀ g, (Value.slice av r.length cv).ownBlock = some g → wr.heap.size ≤ g) := ho
      obtain ⟨m, hm⟩ : ∃ m, m = r.length := ⟨_, rfl⟩
      rw [← hm] at hy HH HO ⊢
      have HM : Hid (m = r.length) := hm
      have hmc : m ≤ cv ∧ cv ≤ 9223372036854775807 := by rw [hm]; unfold maxLen at hcm; exact ⟨hcv, hcm⟩
      clear hco hh ho hm hcv hcm
      gi_wp2
      refine ⟨rfl, hR.mono ?_⟩
      rintro e W3 (⟨rfl, hJ3, hk3, _⟩ | ⟨rfl, hJx3⟩)
      · obtain ⟨FW3, _⟩ := HT.out.on HJ.out f2 hk3 F.out
        have hH3 := HH.out.fr hk3 (fun g hg e => by have := HO.out g hg; have := HT.out.old _ _ _ HJ.out (HT.out.back _ _ _ _ HJ.out f2 e); omega)
        have hS3 := HS.out _ FW3
        have HE3 : Hid ((pre ++ [(Lvl.mk (j : Int) r av cv)]).map lvK ++ nxt (rowsF ls j) r = rowsF ls top 1) := by show _ = _; rw [← HE.out, HRX.out]; simp [lvK]
        have HJ3 : Hid (J (pre ++ [(Lvl.mk (j : Int) r av cv)]) W3) := hJ3
        have FW : Hid (Fr (fun k => ¬ R k) w W3) := FW3
        clear hk3 hR hy hJ2 f2 hJ3 FW3
        cases r with
        | nil =>
          obtain rfl : m = 0 := HM.out
          have HS0 : Hid ((pre ++ [(Lvl.mk (j : Int) [] av cv)]).map lvK = rowsF ls top 1) := by show _ = _; rw [← HE3.out]; simp [nxt]
          clear hH3 hS3 HE HE3 HRX HMB
          gi_wp2
          refine bodyPost_ret (results_none rfl _ _ _) rfl ?_
          exact ⟨⟨_, rfl⟩, .inl ⟨_, HS0.out, HJ3.out⟩⟩
        | cons s r =>
          obtain ⟨g, c3, e3, hg3, _⟩ := hH3.form (by rw [HM.out]; simp)
          simp only [Value.slice.injEq, true_and] at e3
          obtain ⟨rfl, rfl⟩ := e3
          obtain ⟨k0, k7⟩ := has_first hH3
          obtain ⟨t, ht, hnd, hpt, _⟩ := HMB.out s (by simp)
          have hki := (hS3.nod t ht).kids
          rw [← hnd, ← hpt] at hki
          have hmp : (0 : Int) < (m : Int) := by have := HM.out; simp at this; omega
          have hm0 : ((m : Int) == 0) = false := by simp; omega
          have hil := hki.le
          have him := hki.max
          cases hkd : s.nd.kids with
          | nil =>
            have HS0 : Hid ((pre ++ [(Lvl.mk (j : Int) (s :: r) (some ⟨g, 0, none⟩) cv)]).map lvK = rowsF ls top 1) := by show _ = _; rw [← HE3.out, nxt_leaf _ _ hkd]; simp
            rw [hkd] at k7
            clear hH3 hS3 HE HE3 HRX HMB hki hkd hnd hpt ht
            gi_wp2
            refine bodyPost_ret (results_none rfl _ _ _) rfl ?_
            exact ⟨⟨_, rfl⟩, .inl ⟨_, HS0.out, HJ3.out⟩⟩
          | cons y ys =>
            rw [hkd] at hki
            obtain ⟨bk, ok, hpk, hbk, hck⟩ := ints_some hki (k := 0) (by simp)
            have q0 := hck 0 (by simp)
            have HE4 : Hid ((pre ++ [(Lvl.mk (j : Int) (s :: r) (some ⟨g, 0, none⟩) cv)]).map lvK ++ rowsF ls j y = rowsF ls top 1) := by show _ = _; rw [← HE3.out, nxt_kid _ _ hkd]
            rw [hkd, hpk] at k7
            rw [hkd] at hil
            simp only [List.length_cons] at k7 hil
            simp only [List.getD_cons_zero, Nat.add_zero] at q0
            obtain ⟨z, hz⟩ : ∃ z, z = ys.length := ⟨_, rfl⟩
            rw [← hz] at k7 hil
            have hz0 : (((z : Int) + 1) == 0) = false := by simp; omega
            clear hH3 hS3 HE HE3 HRX HMB hki hkd hnd hpt ht hck hpk hz
            gi_wp2
            go_roundw
            case rel => exact ⟨j, y, _, by omega, by go_num, rfl, HE4, HJ3, FW⟩
            case measure => simp [intOf]
      · gi_wp2
        refine bodyPost_ret (results_none rfl _ _ _) rfl ?_
        exact ⟨⟨_, rfl⟩, .inr ⟨_, hJx3⟩⟩
end Go.Proofs.YtkibbojiflklpaaGreat
