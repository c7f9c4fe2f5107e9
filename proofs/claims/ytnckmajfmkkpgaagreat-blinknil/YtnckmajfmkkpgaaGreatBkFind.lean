
/- Blink's pages: whether they are right, where one stands, its node. -/
import Derived.Test.YtnckmajfmkkpgaaGreatBB31
import Derived.Deep.DeepCutAuto
namespace Go.Proofs.YtnckmajfmkkpgaaGreat
open Go.RowKit

set_option maxRecDepth 100000 in
set_option maxHeartbeats 2000000 in
theorem bareRight_any (a : Option Addr) (len cap : Nat) (ls : List Sl) (hl : len = ls.length) (w : World) (h : Slots w a cap ls) : Calls Tryz.prog 23 #[.slice a len cap] w fun e w' => e = .returned (.bool (ariB 0 (psOf ls))) ∧ Fr (fun _ => False) w w' := by
  subst hl
  have hle := h.le
  have hmx := h.max
  have HS : Hid (∀ W, Fr (fun _ => False) w W → Slots W a cap ls) := fun W f => h.same f
  clear h
  go_enter Tryz.func23, Tryz.ntmps23
  go_wp2
  go_loopw [8, 3] (fun i t wr => ∃ (k : Nat) (x : Int), k ≤ ls.length ∧ i = .int .i64 k ∧ t = .int .i64 x ∧ Hid (ariB x (psOf (ls.drop k)) = ariB 0 (psOf ls)) ∧ Fr (fun _ => False) w wr) (fun i _ _ => ls.length - (intOf i).toNat)
  case atStart => exact ⟨0, 0, by omega, rfl, rfl, rfl, Fr.refl _ _⟩
  case round =>
    obtain ⟨k, x, hk, rfl, rfl, HE, F⟩ := hrel
    by_cases hlt : k < ls.length
    · obtain ⟨s, hs⟩ : ∃ s, ls[k]? = some s := ⟨_, List.getElem?_eq_getElem hlt⟩
      obtain ⟨b, off, rfl, hb, hc⟩ := (HS.out _ F).some (by omega)
      obtain ⟨q0, q1, q2, q3, q4, q5, q6, q7⟩ := sl_range (hc k s hs)
      have HNX : Hid (ariB x (psOf (ls.drop k)) = (decide (x < s.page) && decide (s.page ≤ 4096) && rightB s.nd && ariB s.page (psOf (ls.drop (k + 1))))) := ari_next x hs
      have hnd := (HS.out _ F).nod s (List.mem_of_getElem? hs)
      have hki : (k : Int) < (ls.length : Int) := by omega
      have FB := F.alloc (.cells #[.int .i64 s.page, .int .i64 s.nd.lev, .int .i64 s.nd.lsn, .int .i64 s.nd.rgt, .string s.nd.high, .slice s.pt.k s.nd.keys.length s.pt.kc, .slice s.pt.v s.nd.vals.length s.pt.vc, .slice s.pt.i s.nd.kids.length s.pt.ic] 62)
      have hnb := hnd.same (Fr.box wr (.cells #[.int .i64 s.page, .int .i64 s.nd.lev, .int .i64 s.nd.lsn, .int .i64 s.nd.rgt, .string s.nd.high, .slice s.pt.k s.nd.keys.length s.pt.kc, .slice s.pt.v s.nd.vals.length s.pt.vc, .slice s.pt.i s.nd.kids.length s.pt.ic] 62))
      have hck := check_any s.nd s.pt _ hnb
      clear hs hc hnd
      by_cases h1 : x < s.page
      · have d1 : decide (s.page ≤ x) = false := decide_eq_false (by omega)
        by_cases h2 : s.page ≤ 4096
        · have d2 : decide (4096 < s.page) = false := decide_eq_false (by omega)
          rw [decide_eq_true h1, decide_eq_true h2, Bool.true_and, Bool.true_and] at HNX
          cases hr : rightB s.nd
          · rw [epage_no hr] at hck
            have HR : Hid (ariB 0 (psOf ls) = false) := by show _ = _; rw [← HE.out, HNX.out, hr]; rfl
            clear hr h1 h2 HNX
            go_wp2_with fail
            refine hck.mono ?_
            rintro e w1 ⟨rfl, f1⟩
            go_wp2
            go_ret
            exact ⟨ret_bool HR.out.symm, FB.seq' f1⟩
          · rw [epage_yes hr] at hck
            have HR : Hid (ariB s.page (psOf (ls.drop (k + 1))) = ariB 0 (psOf ls)) := by show _ = _; rw [← HE.out, HNX.out, hr]; rfl
            clear hr h1 h2 HNX
            go_wp2_with fail
            refine hck.mono ?_
            rintro e w1 ⟨rfl, f1⟩
            have hbx := f1.blk (heap_alloc_new wr (.cells #[.int .i64 s.page, .int .i64 s.nd.lev, .int .i64 s.nd.lsn, .int .i64 s.nd.rgt, .string s.nd.high, .slice s.pt.k s.nd.keys.length s.pt.kc, .slice s.pt.v s.nd.vals.length s.pt.vc, .slice s.pt.i s.nd.kids.length s.pt.ic] 62)) (fun f => f)
            obtain ⟨⟨e0, e1, e2, e3, e4, e5, e6, e7⟩, _⟩ := rec_cells hbx
            clear q0 q1 q2 q3 q4 q5 q6 q7 hck
            go_wp2
            go_roundw
            case rel => exact ⟨k + 1, s.page, by omega, by go_num, rfl, HR, FB.seq' f1⟩
            case measure => simp [intOf]; omega
        · have d2 : decide (4096 < s.page) = true := decide_eq_true (by omega)
          have HR : Hid (ariB 0 (psOf ls) = false) := by show _ = _; rw [← HE.out, HNX.out, decide_eq_false h2]; simp
          clear h1 h2 HNX
          go_wp2
          go_ret
          exact ⟨ret_bool HR.out.symm, FB⟩
      · have d1 : decide (s.page ≤ x) = true := decide_eq_true (by omega)
        have HR : Hid (ariB 0 (psOf ls) = false) := by show _ = _; rw [← HE.out, HNX.out, decide_eq_false h1]; rfl
        clear h1 HNX
        go_wp2
        go_ret
        exact ⟨ret_bool HR.out.symm, FB⟩
    · have HR : Hid (ariB 0 (psOf ls) = true) := by
        show _ = _
        rw [← HE.out, List.drop_of_length_le (by omega)]; rfl
      go_wp2
      go_ret
      exact ⟨ret_bool HR.out.symm, F⟩
theorem bslotCmp_any (s : Sl) (x : Int) (w : World) : Calls Tryz.prog 46 #[(.agg #[.int .i64 s.page, .int .i64 s.nd.lev, .int .i64 s.nd.lsn, .int .i64 s.nd.rgt, .string s.nd.high, .slice s.pt.k s.nd.keys.length s.pt.kc, .slice s.pt.v s.nd.vals.length s.pt.vc, .slice s.pt.i s.nd.kids.length s.pt.ic]), .int .i64 x] w fun e w' => e = .returned (.int .i64 (cmpI s.page x)) ∧ Fr (fun _ => False) w w' := by
  have f0 := Fr.box w (.cells #[.int .i64 s.page, .int .i64 s.nd.lev, .int .i64 s.nd.lsn, .int .i64 s.nd.rgt, .string s.nd.high, .slice s.pt.k s.nd.keys.length s.pt.kc, .slice s.pt.v s.nd.vals.length s.pt.vc, .slice s.pt.i s.nd.kids.length s.pt.ic] 62)
  have hc := fun W => icmp_any s.page x W
  go_enter Tryz.func46, Tryz.ntmps46
  go_wp2_with (go_at_call 47; refine (hc _).mono ?_; rintro e w' ⟨rfl, rfl⟩)
  go_ret
  exact ⟨rfl, f0⟩
set_option maxRecDepth 100000 in
set_option maxHeartbeats 4000000 in
theorem bbs_any (a : Option Addr) (len cap : Nat) (ls : List Sl) (hl : len = ls.length) (hf : ls.length ≤ 100000) (hr : Rise ls) (x : Int) (w : World) (h : Slots w a cap ls) : Calls Tryz.prog 45 #[.slice a len cap, .int .i64 x, .func (.func 46) #[] #[]] w fun e w' => e = .returned (.tuple #[.int .i64 (ahead ls x : Nat), .bool (hasB ls x)]) ∧ Fr (fun _ => False) w w' := by
  subst hl
  have hle := h.le
  have hmx := h.max
  have HS : Hid (∀ W, Fr (fun _ => False) w W → Slots W a cap ls) := fun W f => h.same f
  have HRI : Hid (Rise ls) := hr
  clear h hr
  go_enter Tryz.func45, Tryz.ntmps45
  go_wp2
  go_loopw [9, 10] (fun i j wr => ∃ (p q : Nat), p ≤ q ∧ q ≤ ls.length ∧ i = .int .i64 p ∧ j = .int .i64 q ∧ Hid (∀ i s, ls[i]? = some s → i < p → s.page < x) ∧ Hid (∀ i s, ls[i]? = some s → q ≤ i → x ≤ s.page) ∧ Fr (fun _ => False) w wr) (fun i j _ => (intOf j).toNat - (intOf i).toNat)
  case atStart => exact ⟨0, ls.length, by omega, by omega, rfl, rfl, (fun i s _ h => by omega), (fun i s hs h => by have := (List.getElem?_eq_some_iff.1 hs).1; omega), Fr.refl _ _⟩
  case round =>
    obtain ⟨p, q, hpq, hq, rfl, rfl, H1, H2, F⟩ := hrel
    by_cases hlt : p < q
    · have hpm : p ≤ (p + q) / 2 := by omega
      have hmq : (p + q) / 2 < q := by omega
      obtain ⟨s, hs⟩ : ∃ s, ls[(p + q) / 2]? = some s := ⟨_, List.getElem?_eq_getElem (by omega)⟩
      obtain ⟨b, off, rfl, hb, hc⟩ := (HS.out _ F).some (by omega)
      obtain ⟨q0, q1, q2, q3, q4, q5, q6, q7⟩ := sl_range (hc ((p + q) / 2) s hs)
      have hcm := bslotCmp_any s x
      have hpi : (p : Int) < (q : Int) := by omega
      have HSS : Hid (ls[(p + q) / 2]? = some s) := hs
      clear hs hc
      by_cases hx : s.page < x
      · have hce : cmpI s.page x = -1 := if_pos hx
        rw [hce] at hcm
        have HN1 : Hid (∀ i t, ls[i]? = some t → i < (p + q) / 2 + 1 → t.page < x) := fun i t ht hi => by
          rcases Nat.lt_or_ge i ((p + q) / 2) with e | e
          · have := HRI.out i ((p + q) / 2) t s e ht HSS.out; omega
          · have e2 : i = (p + q) / 2 := by omega
            rw [e2, HSS.out] at ht; cases ht; exact hx
        clear hx hce
        go_wp2_with fail
        refine (hcm _).mono ?_
        rintro e w1 ⟨rfl, f1⟩
        go_wp2
        go_roundw
        case rel => exact ⟨(p + q) / 2 + 1, q, by omega, by omega, by go_num, rfl, HN1, H2, F.seq' f1⟩
        case measure => simp [intOf]; omega
      · have hce : ∃ c, cmpI s.page x = c ∧ decide (c < 0) = false := by
          unfold cmpI
          rw [if_neg hx]
          split
          · exact ⟨1, rfl, rfl⟩
          · exact ⟨0, rfl, rfl⟩
        obtain ⟨c, hc1, hc2⟩ := hce
        rw [hc1] at hcm
        have HN2 : Hid (∀ i t, ls[i]? = some t → (p + q) / 2 ≤ i → x ≤ t.page) := fun i t ht hi => by
          rcases Nat.lt_or_ge ((p + q) / 2) i with e | e
          · have := HRI.out ((p + q) / 2) i s t e HSS.out ht; omega
          · have e2 : i = (p + q) / 2 := by omega
            rw [e2, HSS.out] at ht; cases ht; omega
        clear hx hc1
        go_wp2_with fail
        refine (hcm _).mono ?_
        rintro e w1 ⟨rfl, f1⟩
        go_wp2
        go_roundw
        case rel => exact ⟨p, (p + q) / 2, by omega, by omega, rfl, by go_num, H1, HN2, F.seq' f1⟩
        case measure => simp [intOf]; omega
    · obtain rfl : p = q := by omega
      have HA : Hid (ahead ls x = p) := ahead_eq HRI.out hq H1.out (fun i s hs hi => by have := H2.out i s hs hi; omega)
      have HHB : Hid (hasB ls x = match ls[p]? with | none => false | some s => s.page == x) := by show _ = _; unfold hasB; rw [HA.out]; cases ls[p]? <;> rfl
      clear H1 H2
      by_cases hl2 : p < ls.length
      · obtain ⟨s, hs⟩ : ∃ s, ls[p]? = some s := ⟨_, List.getElem?_eq_getElem hl2⟩
        obtain ⟨b, off, rfl, hb, hc⟩ := (HS.out _ F).some (by omega)
        obtain ⟨q0, q1, q2, q3, q4, q5, q6, q7⟩ := sl_range (hc p s hs)
        have hcm := bslotCmp_any s x
        have hpi : (p : Int) < (ls.length : Int) := by omega
        have HH2 : Hid (hasB ls x = (cmpI s.page x == 0)) := by
          show _ = _
          rw [HHB.out, hs]
          dsimp only
          unfold cmpI
          rw [Bool.eq_iff_iff]
          simp only [beq_iff_eq]
          split
          · constructor <;> intro e <;> omega
          · split <;> constructor <;> intro e <;> omega
        generalize cmpI s.page x = c at *
        clear hs hc
        go_wp2_with fail
        refine (hcm _).mono ?_
        rintro e w1 ⟨rfl, f1⟩
        go_wp2
        go_ret2
        exact ⟨by rw [HA.out, HH2.out]; rfl, F.seq' f1⟩
      · have HH2 : Hid (hasB ls x = false) := by show _ = _; rw [HHB.out, List.getElem?_eq_none (by omega)]
        have hpi : decide ((p : Int) < (ls.length : Int)) = false := decide_eq_false (by omega)
        go_wp2
        go_ret2
        exact ⟨by rw [HA.out, HH2.out]; rfl, F⟩

theorem bplace_any (a : Option Addr) (len cap : Nat) (ls : List Sl) (hl : len = ls.length) (hf : ls.length ≤ 100000) (hr : Rise ls) (x : Int) (w : World) (h : Slots w a cap ls) : Calls Tryz.prog 28 #[.slice a len cap, .int .i64 x] w fun e w' => e = .returned (.tuple #[.int .i64 (ahead ls x : Nat), .bool (hasB ls x)]) ∧ Fr (fun _ => False) w w' := by
  have hb := bbs_any a len cap ls hl hf hr x w h
  generalize ahead ls x = n at *
  generalize hasB ls x = t at *
  clear h hr hl hf
  go_enter Tryz.func28, Tryz.ntmps28
  go_wp2_with fail
  refine hb.mono ?_
  rintro e w1 ⟨rfl, f1⟩
  go_wp2
  go_ret2
  exact ⟨rfl, f1⟩
/-- What find tells: the page's node as it lies there, or nothing. -/
def BfOut (ls : List Sl) (x : Int) (w : World) (e : Ending) (w' : World) : Prop := Fr (fun _ => False) w w' ∧
  ((∃ s, s ∈ ls ∧ ls[ahead ls x]? = some s ∧ hasB ls x = true ∧ s.page = x ∧ e = .returned (.tuple #[(.agg #[.int .i64 s.nd.lev, .int .i64 s.nd.lsn, .int .i64 s.nd.rgt, .string s.nd.high, .slice s.pt.k s.nd.keys.length s.pt.kc, .slice s.pt.v s.nd.vals.length s.pt.vc, .slice s.pt.i s.nd.kids.length s.pt.ic]), .bool true])) ∨ (hasB ls x = false ∧ e = .returned (.tuple #[.agg #[.int .i64 0, .int .i64 0, .int .i64 0, .string ⟨#[]⟩, .slice none 0 0, .slice none 0 0, .slice none 0 0], .bool false])))
set_option maxRecDepth 100000 in
set_option maxHeartbeats 2000000 in
theorem bfind_any (a : Option Addr) (len cap : Nat) (ls : List Sl) (hl : len = ls.length) (hf : ls.length ≤ 100000) (hr : Rise ls) (x : Int) (w : World) (h : Slots w a cap ls) : Calls Tryz.prog 15 #[.slice a len cap, .int .i64 x] w fun e w' => BfOut ls x w e w' := by
  have f0 : Fr (fun _ => False) w (w.alloc (.cells #[.int .i64 0, .int .i64 0, .int .i64 0, .string ⟨#[]⟩, .slice none 0 0, .slice none 0 0, .slice none 0 0] 28)) := Fr.box w _
  have hb := bplace_any a len cap ls hl hf hr x _ (h.same f0)
  have HZ : Hid (∀ W, Fr (fun _ => False) (w.alloc (.cells #[.int .i64 0, .int .i64 0, .int .i64 0, .string ⟨#[]⟩, .slice none 0 0, .slice none 0 0, .slice none 0 0] 28)) W → W.heap[w.heap.size]? = some (.cells #[.int .i64 0, .int .i64 0, .int .i64 0, .string ⟨#[]⟩, .slice none 0 0, .slice none 0 0, .slice none 0 0] 28 (0, 0))) := fun W f => f.blk (heap_alloc_new w _) (fun f => f)
  have HS : Hid (∀ W, Fr (fun _ => False) (w.alloc (.cells #[.int .i64 0, .int .i64 0, .int .i64 0, .string ⟨#[]⟩, .slice none 0 0, .slice none 0 0, .slice none 0 0] 28)) W → Slots W a cap ls) := fun W f => (h.same f0).same f
  have hle : len ≤ cap := by rw [hl]; exact h.le
  have hmx := h.max
  have HL : Hid (len = ls.length) := hl
  clear h hr hf hl
  cases hh : hasB ls x
  · rw [hh] at hb
    have HHB : Hid (hasB ls x = false) := hh
    generalize ahead ls x = n at *
    clear hh
    go_enter Tryz.func15, Tryz.ntmps15
    go_wp2_with fail
    refine hb.mono ?_
    rintro e w1 ⟨rfl, f1⟩
    clear hb
    obtain ⟨hq, ff⟩ := fin7 (HZ.out _ f1) (.int .i64 0) (.int .i64 0) (.int .i64 0) (.string ⟨#[]⟩) (.slice none 0 0) (.slice none 0 0) (.slice none 0 0)
    obtain ⟨⟨s0, s1, s2, s3, s4, s5, s6⟩, sz⟩ := node_cells (HZ.out _ f1)
    have y0 := sz 0; have y1 := sz 1; have y2 := sz 2; have y3 := sz 3; have y4 := sz 4; have y5 := sz 5; have y6 := sz 6
    have fff := (f0.seq' f1).trans ff (S := fun _ => False) (fun i hi e => by omega)
    clear sz
    go_wp2
    generalize (((((((w1.setCell ⟨w.heap.size, 0, none⟩ (.int .i64 0)).setCell ⟨w.heap.size, 1, none⟩ (.int .i64 0)).setCell ⟨w.heap.size, 2, none⟩ (.int .i64 0)).setCell ⟨w.heap.size, 3, none⟩ (.string ⟨#[]⟩)).setCell ⟨w.heap.size, 4, none⟩ (.slice none 0 0)).setCell ⟨w.heap.size, 5, none⟩ (.slice none 0 0)).setCell ⟨w.heap.size, 6, none⟩ (.slice none 0 0)) = Wf at hq fff ⊢
    obtain ⟨⟨g0, g1, g2, g3, g4, g5, g6⟩, _⟩ := node_cells hq
    exact bodyPost_ret (v := .tuple #[.agg #[.int .i64 0, .int .i64 0, .int .i64 0, .string ⟨#[]⟩, .slice none 0 0, .slice none 0 0, .slice none 0 0], .bool false]) (by simp [results, Tryz.results15, go_sem, g0, g1, g2, g3, g4, g5, g6]) rfl ⟨fff, .inr ⟨HHB.out, rfl⟩⟩
  · obtain ⟨s, hs, hsx⟩ : ∃ s, ls[ahead ls x]? = some s ∧ s.page = x := by
      have hh' := hh
      unfold hasB at hh'
      split at hh'
      · cases hh'
      · rename_i s hs; exact ⟨s, hs, by simpa using hh'⟩
    have HSS : Hid (s ∈ ls ∧ ls[ahead ls x]? = some s ∧ hasB ls x = true ∧ s.page = x) := ⟨List.mem_of_getElem? hs, hs, hh, hsx⟩
    rw [hh] at hb
    have hlt : ahead ls x < len := by rw [HL.out]; exact (List.getElem?_eq_some_iff.1 hs).1
    obtain ⟨n, hn⟩ : ∃ n, n = ahead ls x := ⟨_, rfl⟩
    rw [← hn] at hb hlt hs
    have hki : (n : Int) < (len : Int) := by omega
    have HSI : Hid (ls[n]? = some s) := hs
    clear hh hn hsx hs
    go_enter Tryz.func15, Tryz.ntmps15
    go_wp2_with fail
    refine hb.mono ?_
    rintro e w1 ⟨rfl, f1⟩
    clear hb
    obtain ⟨b, off, rfl, hbb, hc⟩ := (HS.out _ f1).some (by have := HL.out; omega)
    obtain ⟨q0, q1, q2, q3, q4, q5, q6, q7⟩ := sl_range (hc n s HSI.out)
    clear hc
    obtain ⟨hq, ff⟩ := fin7 (HZ.out _ f1) (.int .i64 s.nd.lev) (.int .i64 s.nd.lsn) (.int .i64 s.nd.rgt) (.string s.nd.high) (.slice s.pt.k s.nd.keys.length s.pt.kc) (.slice s.pt.v s.nd.vals.length s.pt.vc) (.slice s.pt.i s.nd.kids.length s.pt.ic)
    obtain ⟨⟨s0, s1, s2, s3, s4, s5, s6⟩, sz⟩ := node_cells (HZ.out _ f1)
    have y0 := sz 0; have y1 := sz 1; have y2 := sz 2; have y3 := sz 3; have y4 := sz 4; have y5 := sz 5; have y6 := sz 6
    have fff := (f0.seq' f1).trans ff (S := fun _ => False) (fun i hi e => by omega)
    clear sz
    go_wp2
    generalize (((((((w1.setCell ⟨w.heap.size, 0, none⟩ (.int .i64 s.nd.lev)).setCell ⟨w.heap.size, 1, none⟩ (.int .i64 s.nd.lsn)).setCell ⟨w.heap.size, 2, none⟩ (.int .i64 s.nd.rgt)).setCell ⟨w.heap.size, 3, none⟩ (.string s.nd.high)).setCell ⟨w.heap.size, 4, none⟩ (.slice s.pt.k s.nd.keys.length s.pt.kc)).setCell ⟨w.heap.size, 5, none⟩ (.slice s.pt.v s.nd.vals.length s.pt.vc)).setCell ⟨w.heap.size, 6, none⟩ (.slice s.pt.i s.nd.kids.length s.pt.ic)) = Wf at hq fff ⊢
    obtain ⟨⟨g0, g1, g2, g3, g4, g5, g6⟩, _⟩ := node_cells hq
    exact bodyPost_ret (v := .tuple #[(.agg #[.int .i64 s.nd.lev, .int .i64 s.nd.lsn, .int .i64 s.nd.rgt, .string s.nd.high, .slice s.pt.k s.nd.keys.length s.pt.kc, .slice s.pt.v s.nd.vals.length s.pt.vc, .slice s.pt.i s.nd.kids.length s.pt.ic]), .bool true]) (by simp [results, Tryz.results15, go_sem, g0, g1, g2, g3, g4, g5, g6]) rfl ⟨fff, .inl ⟨s, HSS.out.1, HSS.out.2.1, HSS.out.2.2.1, HSS.out.2.2.2, rfl⟩⟩
end Go.Proofs.YtnckmajfmkkpgaaGreat
