
/- What page.Check and page.Size tell. -/
import Derived.Test.YtaaedmacefiinaaPgNode
namespace Go.Proofs.Ytaaedmacefiinaa
open Go.RowKit

theorem ret_bool {x y : Bool} (h : x = y) : Ending.returned (.bool x) = .returned (.bool y) := by rw [h]
theorem Fr.seq' {a b c : World} (h : Fr (fun _ => False) a b) (k : Fr (fun _ => False) b c) : Fr (fun _ => False) a c := h.trans k (fun _ _ f => f)
theorem Fr.box (w : World) (o : Obj) : Fr (fun _ => False) w (w.alloc o) := (Fr.refl _ w).alloc o

set_option maxRecDepth 100000 in
set_option maxHeartbeats 400000 in
theorem within_any (x a b : Int) (w : World) : Calls Try.prog 108 #[.int .i64 x, .int .i64 a, .int .i64 b] w fun e w' => e = .returned (.bool (wthB x a b)) ∧ w' = w := by
  by_cases h1 : a ≤ x
  · by_cases h2 : x ≤ b
    · rw [show wthB x a b = true by simp [wthB, h1, h2]]
      go_enter Try.func108, Try.ntmps108
      go_wp2
      go_ret
      exact ⟨rfl, rfl⟩
    · rw [show wthB x a b = false by simp [wthB, h2]]
      go_enter Try.func108, Try.ntmps108
      go_wp2
      go_ret
      exact ⟨rfl, rfl⟩
  · rw [show wthB x a b = false by simp [wthB, h1]]
    have h2 : decide (a ≤ x) = false := by simpa using h1
    go_enter Try.func108, Try.ntmps108
    go_wp2
    go_ret
    exact ⟨rfl, rfl⟩

set_option maxRecDepth 100000 in
set_option maxHeartbeats 400000 in
theorem isLeaf_any (n : Nd) (p : Pt) (w : World) : Calls Try.prog 87 #[(.agg #[.int .i64 n.lev, .int .i64 n.lsn, .int .i64 n.rgt, .string n.high, .slice p.k n.keys.length p.kc, .slice p.v n.vals.length p.vc, .slice p.i n.kids.length p.ic])] w fun e w' => e = .returned (.bool (n.lev == 0)) ∧ w' = w.alloc (.cells #[.int .i64 n.lev, .int .i64 n.lsn, .int .i64 n.rgt, .string n.high, .slice p.k n.keys.length p.kc, .slice p.v n.vals.length p.vc, .slice p.i n.kids.length p.ic] 25) := by
  go_enter Try.func87, Try.ntmps87
  go_wp2
  go_ret
  exact ⟨rfl, rfl⟩

set_option maxRecDepth 100000 in
set_option maxHeartbeats 1000000 in
theorem head_any (n : Nd) (p : Pt) (w : World) : Calls Try.prog 81 #[(.agg #[.int .i64 n.lev, .int .i64 n.lsn, .int .i64 n.rgt, .string n.high, .slice p.k n.keys.length p.kc, .slice p.v n.vals.length p.vc, .slice p.i n.kids.length p.ic])] w fun e w' => e = .returned (.bool (headB n)) ∧ w' = w.alloc (.cells #[.int .i64 n.lev, .int .i64 n.lsn, .int .i64 n.rgt, .string n.high, .slice p.k n.keys.length p.kc, .slice p.v n.vals.length p.vc, .slice p.i n.kids.length p.ic] 25) := by
  obtain ⟨b1, h1⟩ : ∃ b, wthB n.lev 0 20 = b := ⟨_, rfl⟩
  obtain ⟨b2, h2⟩ : ∃ b, wthB n.lsn 0 1099511627776 = b := ⟨_, rfl⟩
  obtain ⟨b3, h3⟩ : ∃ b, wthB n.rgt 0 4096 = b := ⟨_, rfl⟩
  obtain ⟨b4, h4⟩ : ∃ b, decide (n.high.size ≤ 16) = b := ⟨_, rfl⟩
  have HH : Hid (headB n = (b1 && (b2 && (b3 && b4)))) := by show headB n = _; unfold headB; rw [h1, h2, h3, h4]
  rw [HH.out]
  cases b1
  · clear h2 h3 h4 HH
    go_enter Try.func81, Try.ntmps81
    go_wp2_with (go_at_call 108; refine (within_any _ _ _ _).mono ?_; rintro e w' ⟨rfl, rfl⟩)
    go_ret
    exact ⟨rfl, rfl⟩
  · cases b2
    · clear h3 h4 HH
      go_enter Try.func81, Try.ntmps81
      go_wp2_with (go_at_call 108; refine (within_any _ _ _ _).mono ?_; rintro e w' ⟨rfl, rfl⟩)
      go_ret
      exact ⟨rfl, rfl⟩
    · cases b3
      · clear h4 HH
        go_enter Try.func81, Try.ntmps81
        go_wp2_with (go_at_call 108; refine (within_any _ _ _ _).mono ?_; rintro e w' ⟨rfl, rfl⟩)
        go_ret
        exact ⟨rfl, rfl⟩
      · clear HH
        by_cases h0 : n.high.size = 0
        · have e4 : b4 = true := by rw [← h4]; simp [h0]
          subst e4
          have he := bs_nil h0
          clear h4 h0
          go_enter Try.func81, Try.ntmps81
          go_wp2_with (go_at_call 108; refine (within_any _ _ _ _).mono ?_; rintro e w' ⟨rfl, rfl⟩)
          go_ret
          exact ⟨rfl, rfl⟩
        · have he := bs_not_nil h0
          have hk : ((ekey n.high.size : Int) == 0) = b4 := by
            rw [← h4]
            by_cases h5 : n.high.size ≤ 16
            · rw [ekey_ok h0 h5]; simp [h5]
            · rw [ekey_no (.inr (by omega))]; simp [h5]
          clear h4 h0
          go_enter Try.func81, Try.ntmps81
          go_wp2_with (first | (go_at_call 108; refine (within_any _ _ _ _).mono ?_; rintro e w' ⟨rfl, rfl⟩) | (go_at_call 57; refine (kcheck_any _ _).mono ?_; rintro e w' ⟨rfl, rfl⟩))
          go_ret
          exact ⟨rfl, rfl⟩

theorem wrap_nil : wrap64 ((tsz [] : Nat) : Int) = 0 := by decide +kernel
theorem wrap_add (a b : Int) : wrap64 (wrap64 a + b) = wrap64 (a + b) := by unfold wrap64; omega

set_option maxRecDepth 100000 in
set_option maxHeartbeats 1000000 in
theorem texts_any (a : Option Addr) (n cap : Nat) (l : List ByteArray) (hn : n = l.length) (hz : ∀ s ∈ l, s.size ≤ 140737488351232) (w : World) (hr : Strs w a cap l) :
    Calls Try.prog 92 #[.slice a n cap] w fun e w' => e = .returned (.int .i64 (wrap64 (tsz l : Nat))) ∧ w' = w := by
  subst hn
  have hle := hr.le
  have hmx := hr.max
  rcases hr.at_ with h0 | ⟨b, off, rfl, hb, hc⟩
  · subst h0
    go_enter Try.func92, Try.ntmps92
    go_wp2
    refine wp_loop_rounds 1 ?_
    rw [rounds_succ]
    go_wp2
    go_ret
    exact ⟨ret_int wrap_nil.symm, rfl⟩
  · go_enter Try.func92, Try.ntmps92
    go_wp2
    go_loop [3, 5, 8] (fun t _ i => ∃ k : Nat, k ≤ l.length ∧ i = .int .i64 k ∧ t = .int .i64 (wrap64 (tsz (l.take k) : Nat))) (fun _ _ i => l.length - (intOf i).toNat)
    case atStart => exact ⟨0, by omega, rfl, val_int wrap_nil.symm⟩
    case round =>
      obtain ⟨k, hk, rfl, rfl⟩ := hrel
      by_cases hlt : k < l.length
      · have hcell := hc k hlt
        have hsz := hz _ (strs_get hlt)
        have HS : Hid (tsz (l.take (k + 1)) = tsz (l.take k) + ((l.getD k ByteArray.empty).size + 2)) := tsz_snoc l k hlt
        obtain ⟨s, hs⟩ : ∃ s, s = l.getD k ByteArray.empty := ⟨_, rfl⟩
        rw [← hs] at hcell hsz HS
        obtain ⟨t, ht⟩ : ∃ t, t = tsz (l.take k) := ⟨_, rfl⟩
        rw [← ht] at HS ⊢
        clear hs ht hc
        go_wp2
        go_round
        case rel => exact ⟨k + 1, by omega, by go_num, by rw [HS.out]; exact val_int (by rw [wrap_add]; congr 1; omega)⟩
        case measure => simp [intOf]; omega
      · have e : l.take k = l := List.take_of_length_le (by omega)
        rw [e]
        go_wp2
        go_ret
        exact ⟨rfl, rfl⟩

set_option maxRecDepth 100000 in
set_option maxHeartbeats 400000 in
theorem text_sz (s : ByteArray) (h : s.size ≤ 140737488351232) (w : World) : Calls Try.prog 91 #[.string s] w fun e w' => e = .returned (.int .i64 (2 + (s.size : Int))) ∧ w' = w := by
  go_enter Try.func91, Try.ntmps91
  go_wp2
  go_ret
  exact ⟨rfl, rfl⟩

set_option maxRecDepth 100000 in
set_option maxHeartbeats 1000000 in
theorem size_any (n : Nd) (p : Pt) (w : World) (h : Nod w n p) : Calls Try.prog 45 #[(.agg #[.int .i64 n.lev, .int .i64 n.lsn, .int .i64 n.rgt, .string n.high, .slice p.k n.keys.length p.kc, .slice p.v n.vals.length p.vc, .slice p.i n.kids.length p.ic])] w fun e w' => e = .returned (.int .i64 (wrap64 (sizeN n : Nat))) ∧ Fr (fun _ => False) w w' := by
  have hh := h.high
  have hb := h.same (Fr.box w (.cells #[.int .i64 n.lev, .int .i64 n.lsn, .int .i64 n.rgt, .string n.high, .slice p.k n.keys.length p.kc, .slice p.v n.vals.length p.vc, .slice p.i n.kids.length p.ic] 25))
  have hil := h.ilen
  by_cases h0 : n.lev = 0
  · have e0 : (n.lev == 0) = true := by simp [h0]
    have HS : Hid (sizeN n = 21 + n.high.size + tsz n.keys + tsz n.vals) := by show sizeN n = _; unfold sizeN; rw [if_pos h0]
    clear h0
    go_enter Try.func45, Try.ntmps45
    go_wp2
    go_quiet ((first | (go_at_call 91; exact Calls.quiet_of_same (text_sz _ hh _)) | (go_at_call 92; exact Calls.quiet_of_same (texts_any _ _ _ n.keys rfl hb.ksz _ (hb.keys.same ((Fr.refl _ _).drewN _))))))
    go_wp2_with fail
    refine (isLeaf_any n p _).mono ?_
    rintro e w1 ⟨rfl, rfl⟩
    have f1 := ((Fr.box w (.cells #[.int .i64 n.lev, .int .i64 n.lsn, .int .i64 n.rgt, .string n.high, .slice p.k n.keys.length p.kc, .slice p.v n.vals.length p.vc, .slice p.i n.kids.length p.ic] 25)).drewN nq).alloc (.cells #[.int .i64 n.lev, .int .i64 n.lsn, .int .i64 n.rgt, .string n.high, .slice p.k n.keys.length p.kc, .slice p.v n.vals.length p.vc, .slice p.i n.kids.length p.ic] 25)
    go_wp2_with fail
    refine (texts_any _ _ _ n.vals rfl h.vsz _ (h.vals.same f1)).mono ?_
    rintro e w2 ⟨rfl, rfl⟩
    go_wp2
    go_ret
    exact ⟨ret_int (by rw [HS.out]; unfold wrap64; omega), f1⟩
  · have e0 : (n.lev == 0) = false := by simpa using h0
    have HS : Hid (sizeN n = 21 + n.high.size + tsz n.keys + 4 * n.kids.length) := by show sizeN n = _; unfold sizeN; rw [if_neg h0]
    clear h0
    go_enter Try.func45, Try.ntmps45
    go_wp2
    go_quiet ((first | (go_at_call 91; exact Calls.quiet_of_same (text_sz _ hh _)) | (go_at_call 92; exact Calls.quiet_of_same (texts_any _ _ _ n.keys rfl hb.ksz _ (hb.keys.same ((Fr.refl _ _).drewN _))))))
    go_wp2_with fail
    refine (isLeaf_any n p _).mono ?_
    rintro e w1 ⟨rfl, rfl⟩
    have f1 := ((Fr.box w (.cells #[.int .i64 n.lev, .int .i64 n.lsn, .int .i64 n.rgt, .string n.high, .slice p.k n.keys.length p.kc, .slice p.v n.vals.length p.vc, .slice p.i n.kids.length p.ic] 25)).drewN nq).alloc (.cells #[.int .i64 n.lev, .int .i64 n.lsn, .int .i64 n.rgt, .string n.high, .slice p.k n.keys.length p.kc, .slice p.v n.vals.length p.vc, .slice p.i n.kids.length p.ic] 25)
    go_wp2
    go_ret
    exact ⟨ret_int (by rw [HS.out]; unfold wrap64; omega), f1⟩

set_option maxRecDepth 100000 in
set_option maxHeartbeats 1000000 in
theorem vals_any (a : Option Addr) (n cap : Nat) (l : List ByteArray) (hn : n = l.length) (w : World) (hr : Strs w a cap l) :
    Calls Try.prog 109 #[.slice a n cap] w fun e w' => e = .returned (.bool (valsB l)) ∧ w' = w := by
  subst hn
  have hle := hr.le
  have hmx := hr.max
  rcases hr.at_ with h0 | ⟨b, off, rfl, hb, hc⟩
  · subst h0
    go_enter Try.func109, Try.ntmps109
    go_wp2
    refine wp_loop_rounds 1 ?_
    rw [rounds_succ]
    go_wp2
    go_ret
    exact ⟨ret_bool (valsB_yes (fun i hi => by simp at hi)).symm, rfl⟩
  · go_enter Try.func109, Try.ntmps109
    go_wp2
    go_loop [4, 7] (fun _ i => ∃ k : Nat, k ≤ l.length ∧ i = .int .i64 k ∧ Hid (∀ x, x < k → (l.getD x ByteArray.empty).size ≤ 32)) (fun _ i => l.length - (intOf i).toNat)
    case atStart => exact ⟨0, by omega, rfl, fun x hx => by omega⟩
    case round =>
      obtain ⟨k, hk, rfl, HE⟩ := hrel
      by_cases hlt : k < l.length
      · have hcell := hc k hlt
        obtain ⟨s, hs⟩ : ∃ s, s = l.getD k ByteArray.empty := ⟨_, rfl⟩
        rw [← hs] at hcell
        have HS : Hid (s = l.getD k ByteArray.empty) := hs
        clear hs hc
        by_cases h1 : s.size ≤ 32
        · have e1 : evalu s.size = 0 := if_neg (by omega)
          go_wp2_with fail
          refine (kvalue_any _ _).mono ?_
          rw [e1]
          rintro e w1 ⟨rfl, rfl⟩
          go_wp2
          go_round
          case rel =>
            refine ⟨k + 1, by omega, by go_num, fun x hx => ?_⟩
            rcases Nat.lt_or_ge x k with h | h
            · exact HE.out x h
            · have e : x = k := by omega
              rw [e, ← HS.out]; omega
          case measure => simp [intOf]; omega
        · have e1 : evalu s.size = 51 := if_pos (by omega)
          go_wp2_with fail
          refine (kvalue_any _ _).mono ?_
          rw [e1]
          rintro e w1 ⟨rfl, rfl⟩
          go_wp2
          go_ret
          exact ⟨ret_bool (valsB_no k hlt (by rw [← HS.out]; exact h1)).symm, rfl⟩
      · go_wp2
        go_ret
        exact ⟨ret_bool (valsB_yes (fun x hx => HE.out x (by omega))).symm, rfl⟩

set_option maxRecDepth 100000 in
set_option maxHeartbeats 1000000 in
theorem kids_any (a : Option Addr) (n cap : Nat) (l : List Int) (hn : n = l.length) (w : World) (hr : Ints w a cap l) :
    Calls Try.prog 110 #[.slice a n cap] w fun e w' => e = .returned (.bool (kidsB l)) ∧ w' = w := by
  subst hn
  have hle := hr.le
  have hmx := hr.max
  rcases hr.at_ with h0 | ⟨b, off, rfl, hb, hc⟩
  · subst h0
    go_enter Try.func110, Try.ntmps110
    go_wp2
    refine wp_loop_rounds 1 ?_
    rw [rounds_succ]
    go_wp2
    go_ret
    exact ⟨ret_bool (kidsB_yes (fun i hi => by simp at hi)).symm, rfl⟩
  · go_enter Try.func110, Try.ntmps110
    go_wp2
    go_loop [4, 7] (fun _ i => ∃ k : Nat, k ≤ l.length ∧ i = .int .i64 k ∧ Hid (∀ x, x < k → wthB (l.getD x 0) 1 4096 = true)) (fun _ i => l.length - (intOf i).toNat)
    case atStart => exact ⟨0, by omega, rfl, fun x hx => by omega⟩
    case round =>
      obtain ⟨k, hk, rfl, HE⟩ := hrel
      by_cases hlt : k < l.length
      · have hcell := hc k hlt
        obtain ⟨s, hs⟩ : ∃ s, s = l.getD k 0 := ⟨_, rfl⟩
        rw [← hs] at hcell
        have HS : Hid (s = l.getD k 0) := hs
        clear hs hc
        by_cases h1 : wthB s 1 4096 = true
        · have H1 : Hid (wthB s 1 4096 = true) := h1
          go_wp2_with fail
          refine (within_any _ _ _ _).mono ?_
          rw [H1.out]
          rintro e w1 ⟨rfl, rfl⟩
          go_wp2
          go_round
          case rel =>
            refine ⟨k + 1, by omega, by go_num, fun x hx => ?_⟩
            rcases Nat.lt_or_ge x k with h | h
            · exact HE.out x h
            · have e : x = k := by omega
              rw [e, ← HS.out]; exact H1.out
          case measure => simp [intOf]; omega
        · have H1 : Hid (wthB s 1 4096 = false) := by show _ = _; simpa using h1
          clear h1
          go_wp2_with fail
          refine (within_any _ _ _ _).mono ?_
          rw [H1.out]
          rintro e w1 ⟨rfl, rfl⟩
          go_wp2
          go_ret
          exact ⟨ret_bool (kidsB_no k hlt (by rw [← HS.out, H1.out]; simp)).symm, rfl⟩
      · go_wp2
        go_ret
        exact ⟨ret_bool (kidsB_yes (fun x hx => HE.out x (by omega))).symm, rfl⟩
end Go.Proofs.Ytaaedmacefiinaa
