
/- What is asked of a node and a key ahead of each call; what the small functions of layer 7 answer. -/
import Derived.Test.YtaaedmacefiinaaPgRef3
import Derived.Test.YtaaedmacefiinaaPgEnc
import Derived.Test.YtaaedmacefiinaaKPlc
namespace Go.Proofs.Ytaaedmacefiinaa
open Go.RowKit

/-- Whether a key belongs further right. -/
def fthB (n : Nd) (k : ByteArray) : Bool := decide (n.high.size ≠ 0) && decide (cpl (bsOf n.high) (bsOf k) ≤ 0)
/-- The errors. -/
def rgE (n : Nd) : Int := if rightB n = true then 0 else 70
def nuE (x : Int) : Int := if 1 ≤ x ∧ x ≤ 4096 then 0 else 1
def suE (n : Nd) (k : ByteArray) (want : Int) : Int := if (want = 1 ∧ n.lev ≠ 0) ∨ (want = 2 ∧ n.lev = 0) then 7 else if fthB n k = true then 71 else 0
def firstE : List Int → Int
  | [] => 0
  | x :: r => if x = 0 then firstE r else x
theorem firstE_zero (r : List Int) : firstE (0 :: r) = firstE r := by simp [firstE]
theorem firstE_skip (a : Int) (r s : List Int) (h : firstE r = firstE s) : firstE (a :: r) = firstE (a :: s) := by simp only [firstE]; rw [h]
/-- The error of a call. -/
def askE (n : Nd) (k : ByteArray) (ev en want : Int) : Int := firstE [rgE n, ekey k.size, ev, en, suE n k want]
theorem ask_3 (n : Nd) (k : ByteArray) (want : Int) : firstE [rgE n, ekey k.size, suE n k want] = askE n k 0 0 want := by
  unfold askE
  refine firstE_skip _ _ _ (firstE_skip _ _ _ ?_)
  rw [firstE_zero, firstE_zero]
theorem ask_v (n : Nd) (k : ByteArray) (ev want : Int) : firstE [rgE n, ekey k.size, ev, suE n k want] = askE n k ev 0 want := by
  unfold askE
  refine firstE_skip _ _ _ (firstE_skip _ _ _ (firstE_skip _ _ _ ?_))
  rw [firstE_zero]
theorem ask_n (n : Nd) (k : ByteArray) (en want : Int) : firstE [rgE n, ekey k.size, en, suE n k want] = askE n k 0 en want := by
  unfold askE
  refine firstE_skip _ _ _ (firstE_skip _ _ _ ?_)
  rw [firstE_zero]
/-- What stands behind a call that is right. -/
theorem ask_ok {n : Nd} {k : ByteArray} {ev en want : Int} (h : askE n k ev en want = 0) : Rt n ∧ (k.size ≠ 0 ∧ k.size ≤ 16) ∧ ev = 0 ∧ en = 0 ∧ ¬ ((want = 1 ∧ n.lev ≠ 0) ∨ (want = 2 ∧ n.lev = 0)) ∧ fthB n k = false := by
  unfold askE at h
  simp only [firstE] at h
  have h1 : rgE n = 0 := by
    by_cases e : rgE n = 0
    · exact e
    · rw [if_neg e] at h; exact h
  rw [if_pos h1] at h
  have h2 : (ekey k.size : Int) = 0 := by
    by_cases e : (ekey k.size : Int) = 0
    · exact e
    · rw [if_neg e] at h; exact h
  rw [if_pos h2] at h
  have h3 : ev = 0 := by
    by_cases e : ev = 0
    · exact e
    · rw [if_neg e] at h; exact h
  rw [if_pos h3] at h
  have h4 : en = 0 := by
    by_cases e : en = 0
    · exact e
    · rw [if_neg e] at h; exact h
  rw [if_pos h4] at h
  have h5 : suE n k want = 0 := by
    by_cases e : suE n k want = 0
    · exact e
    · rw [if_neg e] at h; exact h
  refine ⟨?_, ?_, h3, h4, ?_, ?_⟩
  · unfold rgE at h1
    refine (right_iff n).1 ?_
    by_cases e : rightB n = true
    · exact e
    · rw [if_neg e] at h1; omega
  · unfold ekey at h2
    by_cases e : k.size = 0 ∨ 16 < k.size
    · rw [if_pos e] at h2; omega
    · omega
  · intro e
    unfold suE at h5
    rw [if_pos e] at h5; omega
  · unfold suE at h5
    by_cases e : (want = 1 ∧ n.lev ≠ 0) ∨ (want = 2 ∧ n.lev = 0)
    · rw [if_pos e] at h5; omega
    · rw [if_neg e] at h5
      cases hf : fthB n k
      · rfl
      · rw [hf, if_pos rfl] at h5; omega

theorem further_any (n : Nd) (p : Pt) (k : ByteArray) (hh : n.high.size ≤ maxLen) (hk : k.size ≤ maxLen) (w : World) : Calls Try.prog 22 #[(.agg #[.int .i64 n.lev, .int .i64 n.lsn, .int .i64 n.rgt, .string n.high, .slice p.k n.keys.length p.kc, .slice p.v n.vals.length p.vc, .slice p.i n.kids.length p.ic]), .string k] w fun e w' => e = .returned (.bool (fthB n k)) ∧ Fr (fun _ => False) w w' := by
  have f0 := Fr.box w (.cells #[.int .i64 n.lev, .int .i64 n.lsn, .int .i64 n.rgt, .string n.high, .slice p.k n.keys.length p.kc, .slice p.v n.vals.length p.vc, .slice p.i n.kids.length p.ic] 25)
  unfold fthB
  by_cases h0 : n.high.size = 0
  · have hem := bs_nil h0
    rw [decide_eq_false (by omega), Bool.false_and]
    clear h0
    go_enter Try.func22, Try.ntmps22
    go_wp2
    go_ret
    exact ⟨rfl, f0⟩
  · have hem := bs_not_nil h0
    rw [decide_eq_true h0, Bool.true_and]
    have hcm := fun W => compare_any n.high k hh hk W
    generalize cpl (bsOf n.high) (bsOf k) = c at *
    clear h0
    go_enter Try.func22, Try.ntmps22
    go_wp2_with fail
    refine (hcm _).mono ?_
    rintro e w1 ⟨rfl, f1⟩
    go_wp2
    go_ret
    exact ⟨rfl, f0.seq' f1⟩
theorem rfurther_any (n : Nd) (p : Pt) (k : ByteArray) (hh : n.high.size ≤ maxLen) (hk : k.size ≤ maxLen) (w : World) : Calls Try.prog 23 #[(.agg #[.int .i64 n.lev, .int .i64 n.lsn, .int .i64 n.rgt, .string n.high, .slice p.k n.keys.length p.kc, .slice p.v n.vals.length p.vc, .slice p.i n.kids.length p.ic]), .string k] w fun e w' => e = .returned (.bool (fthB n k)) ∧ Fr (fun _ => False) w w' := by
  have f0 := Fr.box w (.cells #[.int .i64 n.lev, .int .i64 n.lsn, .int .i64 n.rgt, .string n.high, .slice p.k n.keys.length p.kc, .slice p.v n.vals.length p.vc, .slice p.i n.kids.length p.ic] 25)
  unfold fthB
  by_cases h0 : n.high.size = 0
  · have hem := bs_nil h0
    rw [decide_eq_false (by omega), Bool.false_and]
    clear h0
    go_enter Try.func23, Try.ntmps23
    go_wp2
    go_ret
    exact ⟨rfl, f0⟩
  · have hem := bs_not_nil h0
    rw [decide_eq_true h0, Bool.true_and]
    have hcm := fun W => rcompare_any n.high k hh hk W
    generalize cpl (bsOf n.high) (bsOf k) = c at *
    clear h0
    go_enter Try.func23, Try.ntmps23
    go_wp2_with fail
    refine (hcm _).mono ?_
    rintro e w1 ⟨rfl, f1⟩
    go_wp2
    go_ret
    exact ⟨rfl, f0.seq' f1⟩
theorem checkPage_any (x : Int) (w : World) : Calls Try.prog 69 #[.int .i64 x] w fun e w' => e = .returned (.int .i64 (nuE x)) ∧ w' = w := by
  unfold nuE
  by_cases h1 : x < 1
  · rw [if_neg (by omega)]
    go_enter Try.func69, Try.ntmps69
    go_wp2
    go_ret
    exact ⟨rfl, rfl⟩
  · by_cases h2 : 4096 < x
    · rw [if_neg (by omega)]
      have h1' : 1 ≤ x := by omega
      go_enter Try.func69, Try.ntmps69
      go_wp2
      go_ret
      exact ⟨rfl, rfl⟩
    · rw [if_pos (by omega)]
      have h1' : 1 ≤ x := by omega
      have h2' : x ≤ 4096 := by omega
      go_enter Try.func69, Try.ntmps69
      go_wp2
      go_ret
      exact ⟨rfl, rfl⟩
theorem isLeafN_any (n : Nd) (p : Pt) (w : World) : Calls Try.prog 72 #[(.agg #[.int .i64 n.lev, .int .i64 n.lsn, .int .i64 n.rgt, .string n.high, .slice p.k n.keys.length p.kc, .slice p.v n.vals.length p.vc, .slice p.i n.kids.length p.ic])] w fun e w' => e = .returned (.bool (n.lev == 0)) ∧ Fr (fun _ => False) w w' := by
  have f0 := Fr.box w (.cells #[.int .i64 n.lev, .int .i64 n.lsn, .int .i64 n.rgt, .string n.high, .slice p.k n.keys.length p.kc, .slice p.v n.vals.length p.vc, .slice p.i n.kids.length p.ic] 25)
  go_enter Try.func72, Try.ntmps72
  go_wp2
  go_ret
  exact ⟨rfl, f0⟩
theorem checkNode_any (n : Nd) (p : Pt) (w : World) (h : Nod w n p) : Calls Try.prog 56 #[(.agg #[.int .i64 n.lev, .int .i64 n.lsn, .int .i64 n.rgt, .string n.high, .slice p.k n.keys.length p.kc, .slice p.v n.vals.length p.vc, .slice p.i n.kids.length p.ic])] w fun e w' => e = .returned (.int .i64 (rgE n)) ∧ Fr (fun _ => False) w w' := by
  have f0 := Fr.box w (.cells #[.int .i64 n.lev, .int .i64 n.lsn, .int .i64 n.rgt, .string n.high, .slice p.k n.keys.length p.kc, .slice p.v n.vals.length p.vc, .slice p.i n.kids.length p.ic] 25)
  have hc := check_any n p _ (h.same f0)
  unfold rgE
  cases hr : rightB n
  · rw [epage_no hr] at hc
    rw [if_neg (by simp)]
    clear hr
    go_enter Try.func56, Try.ntmps56
    go_wp2_with fail
    refine hc.mono ?_
    rintro e w1 ⟨rfl, f1⟩
    go_wp2
    go_ret
    exact ⟨rfl, f0.seq' f1⟩
  · rw [epage_yes hr] at hc
    rw [if_pos rfl]
    clear hr
    go_enter Try.func56, Try.ntmps56
    go_wp2_with fail
    refine hc.mono ?_
    rintro e w1 ⟨rfl, f1⟩
    go_wp2
    go_ret
    exact ⟨rfl, f0.seq' f1⟩
set_option maxRecDepth 100000 in
set_option maxHeartbeats 1000000 in
theorem suits_any (n : Nd) (p : Pt) (k : ByteArray) (want : Int) (hw : want = 0 ∨ want = 1 ∨ want = 2) (hh : n.high.size ≤ maxLen) (hk : k.size ≤ maxLen) (w : World) : Calls Try.prog 58 #[(.agg #[.int .i64 n.lev, .int .i64 n.lsn, .int .i64 n.rgt, .string n.high, .slice p.k n.keys.length p.kc, .slice p.v n.vals.length p.vc, .slice p.i n.kids.length p.ic]), .string k, .int .i64 want] w fun e w' => e = .returned (.int .i64 (suE n k want)) ∧ Fr (fun _ => False) w w' := by
  have f0 := Fr.box w (.cells #[.int .i64 n.lev, .int .i64 n.lsn, .int .i64 n.rgt, .string n.high, .slice p.k n.keys.length p.kc, .slice p.v n.vals.length p.vc, .slice p.i n.kids.length p.ic] 25)
  have HB : Hid (∀ W, Fr (fun _ => False) (w.alloc (.cells #[.int .i64 n.lev, .int .i64 n.lsn, .int .i64 n.rgt, .string n.high, .slice p.k n.keys.length p.kc, .slice p.v n.vals.length p.vc, .slice p.i n.kids.length p.ic] 25)) W → W.cell? ⟨w.heap.size, 0, none⟩ = some (.int .i64 n.lev) ∧ W.cell? ⟨w.heap.size, 1, none⟩ = some (.int .i64 n.lsn) ∧ W.cell? ⟨w.heap.size, 2, none⟩ = some (.int .i64 n.rgt) ∧ W.cell? ⟨w.heap.size, 3, none⟩ = some (.string n.high) ∧ W.cell? ⟨w.heap.size, 4, none⟩ = some (.slice p.k n.keys.length p.kc) ∧ W.cell? ⟨w.heap.size, 5, none⟩ = some (.slice p.v n.vals.length p.vc) ∧ W.cell? ⟨w.heap.size, 6, none⟩ = some (.slice p.i n.kids.length p.ic)) := fun W f => box_cells (box_at w n p 25 f)
  have hl := fun W => isLeafN_any n p W
  have hf := fun W => further_any n p k hh hk W
  unfold suE
  generalize fthB n k = x at *
  by_cases h0 : n.lev = 0
  · have hb : (n.lev == 0) = true := by simpa using h0
    rw [hb] at hl
    have H0 : Hid (n.lev = 0) := h0
    clear h0 hb
    rcases hw with rfl | rfl | rfl
    · rw [if_neg (by omega)]
      cases x <;>
        (go_enter Try.func58, Try.ntmps58
         go_wp2_with fail
         refine (hl _).mono ?_
         rintro e w1 ⟨rfl, f1⟩
         obtain ⟨c0, c1, c2, c3, c4, c5, c6⟩ := HB.out _ f1
         go_wp2_with fail
         refine (hf _).mono ?_
         rintro e w2 ⟨rfl, f2⟩
         go_wp2
         go_ret
         exact ⟨rfl, (f0.seq' f1).seq' f2⟩)
    · rw [if_neg (by have := H0.out; omega)]
      cases x <;>
        (go_enter Try.func58, Try.ntmps58
         go_wp2_with fail
         refine (hl _).mono ?_
         rintro e w1 ⟨rfl, f1⟩
         obtain ⟨c0, c1, c2, c3, c4, c5, c6⟩ := HB.out _ f1
         go_wp2_with fail
         refine (hf _).mono ?_
         rintro e w2 ⟨rfl, f2⟩
         go_wp2
         go_ret
         exact ⟨rfl, (f0.seq' f1).seq' f2⟩)
    · rw [if_pos (by have := H0.out; omega)]
      go_enter Try.func58, Try.ntmps58
      go_wp2_with fail
      refine (hl _).mono ?_
      rintro e w1 ⟨rfl, f1⟩
      go_wp2
      go_ret
      exact ⟨rfl, f0.seq' f1⟩
  · have hb : (n.lev == 0) = false := by simpa using h0
    rw [hb] at hl
    have H0 : Hid (n.lev ≠ 0) := h0
    clear h0 hb
    rcases hw with rfl | rfl | rfl
    · rw [if_neg (by omega)]
      cases x <;>
        (go_enter Try.func58, Try.ntmps58
         go_wp2_with fail
         refine (hl _).mono ?_
         rintro e w1 ⟨rfl, f1⟩
         obtain ⟨c0, c1, c2, c3, c4, c5, c6⟩ := HB.out _ f1
         go_wp2_with fail
         refine (hf _).mono ?_
         rintro e w2 ⟨rfl, f2⟩
         go_wp2
         go_ret
         exact ⟨rfl, (f0.seq' f1).seq' f2⟩)
    · rw [if_pos (by have := H0.out; omega)]
      go_enter Try.func58, Try.ntmps58
      go_wp2_with fail
      refine (hl _).mono ?_
      rintro e w1 ⟨rfl, f1⟩
      go_wp2
      go_ret
      exact ⟨rfl, f0.seq' f1⟩
    · rw [if_neg (by have := H0.out; omega)]
      cases x <;>
        (go_enter Try.func58, Try.ntmps58
         go_wp2_with fail
         refine (hl _).mono ?_
         rintro e w1 ⟨rfl, f1⟩
         obtain ⟨c0, c1, c2, c3, c4, c5, c6⟩ := HB.out _ f1
         go_wp2_with fail
         refine (hf _).mono ?_
         rintro e w2 ⟨rfl, f2⟩
         go_wp2
         go_ret
         exact ⟨rfl, (f0.seq' f1).seq' f2⟩)
/-- The first error of some. -/
theorem first_any (b : Nat) (t : TypeId) (l : List Int) (hl : l.length ≤ 100) (w : World) (hb : w.heap[b]? = some (.cells (l.map (Value.int .i64)).toArray t (0, 0))) :
    Calls Try.prog 55 #[.slice (some ⟨b, 0, none⟩) l.length l.length] w fun e w' => e = .returned (.int .i64 (firstE l)) ∧ w' = w := by
  have hc : ∀ i, i < l.length → w.cell? ⟨b, i, none⟩ = some (.int .i64 (l.getD i 0)) := fun i hi => by
    rw [cell_of_row w b i _ _ _ hb, List.getElem?_toArray, List.getElem?_map, List.getD_eq_getElem?_getD, List.getElem?_eq_getElem hi]; rfl
  have HC : Hid (∀ i, i < l.length → w.cell? ⟨b, i, none⟩ = some (.int .i64 (l.getD i 0))) := hc
  clear hb hc
  go_enter Try.func55, Try.ntmps55
  go_wp2
  go_loopw [7] (fun i wr => ∃ j : Nat, j ≤ l.length ∧ i = .int .i64 j ∧ Hid (firstE (l.drop j) = firstE l) ∧ wr = w) (fun i _ => l.length - (intOf i).toNat)
  case atStart => exact ⟨0, by omega, rfl, rfl, rfl⟩
  case round =>
    obtain ⟨j, hj, rfl, HE, rfl⟩ := hrel
    by_cases hlt : j < l.length
    · have hcj := HC.out j hlt
      have hji : (j : Int) < (l.length : Int) := by omega
      have HD : Hid (firstE (l.drop j) = if l.getD j 0 = 0 then firstE (l.drop (j + 1)) else l.getD j 0) := by
        show _ = _
        rw [List.drop_eq_getElem_cons hlt, List.getD_eq_getElem?_getD, List.getElem?_eq_getElem hlt]
        rfl
      obtain ⟨x, hx⟩ : ∃ x, x = l.getD j 0 := ⟨_, rfl⟩
      rw [← hx] at hcj HD
      clear hx
      by_cases h0 : x = 0
      · subst h0
        rw [if_pos rfl] at HD
        go_wp2
        go_roundw
        case rel => exact ⟨j + 1, by omega, by go_num, by show _ = _; rw [← HD.out]; exact HE.out, trivial⟩
        case measure => simp [intOf]; omega
      · have hne : (x != 0) = true := by simpa using h0
        rw [if_neg h0] at HD
        go_wp2
        go_ret
        exact ⟨ret_int (by rw [← HE.out, HD.out]), rfl⟩
    · have e : j = l.length := by omega
      subst e
      go_wp2
      go_ret
      exact ⟨ret_int (by rw [← HE.out, List.drop_length]; rfl), rfl⟩
end Go.Proofs.Ytaaedmacefiinaa
