
/- NdBase, NdAsk, NdSort. -/
import Derived.Test.YtnckmajfmkkpgaaGreatBB5
import Derived.Test.YtnckmajfmkkpgaaGreatBB9
import Derived.Test.YtnckmajfmkkpgaaGreatBB10
import Derived.Deep.RegionHeld3
/- What is asked of a node and a key ahead of each call; what the small functions of layer 7 answer. -/
namespace Go.Proofs.YtnckmajfmkkpgaaGreat
open Go.RowKit

/-- Whether a key belongs further right. -/
def fthB (n : Nd) (k : ByteArray) : Bool := decide (n.high.size ≠ 0) && decide (cpl (bsOf n.high) (bsOf k) ≤ 0)
/-- The errors. -/
def rgE (n : Nd) : Int := if rightB n = true then 0 else 70
def nuE (x : Int) : Int := if 1 ≤ x ∧ x ≤ 4096 then 0 else 1
def suE (n : Nd) (k : ByteArray) (want : Int) : Int := if (want = 1 ∧ n.lev ≠ 0) ∨ (want = 2 ∧ n.lev = 0) then 7 else if fthB n k = true then 71 else 0
def firstE : List Int → Int
  | [] => 0
  | x :: r => if x = 0 then firstE r else x
theorem firstE_zero (r : List Int) : firstE (0 :: r) = firstE r := by simp [firstE]
theorem firstE_skip (a : Int) (r s : List Int) (h : firstE r = firstE s) : firstE (a :: r) = firstE (a :: s) := by simp only [firstE]; rw [h]
/-- The error of a call. -/
def askE (n : Nd) (k : ByteArray) (ev en want : Int) : Int := firstE [rgE n, ekey k.size, ev, en, suE n k want]
theorem ask_3 (n : Nd) (k : ByteArray) (want : Int) : firstE [rgE n, ekey k.size, suE n k want] = askE n k 0 0 want := by
  unfold askE
  refine firstE_skip _ _ _ (firstE_skip _ _ _ ?_)
  rw [firstE_zero, firstE_zero]
theorem ask_v (n : Nd) (k : ByteArray) (ev want : Int) : firstE [rgE n, ekey k.size, ev, suE n k want] = askE n k ev 0 want := by
  unfold askE
  refine firstE_skip _ _ _ (firstE_skip _ _ _ (firstE_skip _ _ _ ?_))
  rw [firstE_zero]
theorem ask_n (n : Nd) (k : ByteArray) (en want : Int) : firstE [rgE n, ekey k.size, en, suE n k want] = askE n k 0 en want := by
  unfold askE
  refine firstE_skip _ _ _ (firstE_skip _ _ _ ?_)
  rw [firstE_zero]
/-- What stands behind a call that is right. -/
theorem ask_ok {n : Nd} {k : ByteArray} {ev en want : Int} (h : askE n k ev en want = 0) : Rt n ∧ (k.size ≠ 0 ∧ k.size ≤ 16) ∧ ev = 0 ∧ en = 0 ∧ ¬ ((want = 1 ∧ n.lev ≠ 0) ∨ (want = 2 ∧ n.lev = 0)) ∧ fthB n k = false := by
  unfold askE at h
  simp only [firstE] at h
  have h1 : rgE n = 0 := by
    by_cases e : rgE n = 0
    · exact e
    · rw [if_neg e] at h; exact h
  rw [if_pos h1] at h
  have h2 : (ekey k.size : Int) = 0 := by
    by_cases e : (ekey k.size : Int) = 0
    · exact e
    · rw [if_neg e] at h; exact h
  rw [if_pos h2] at h
  have h3 : ev = 0 := by
    by_cases e : ev = 0
    · exact e
    · rw [if_neg e] at h; exact h
  rw [if_pos h3] at h
  have h4 : en = 0 := by
    by_cases e : en = 0
    · exact e
    · rw [if_neg e] at h; exact h
  rw [if_pos h4] at h
  have h5 : suE n k want = 0 := by
    by_cases e : suE n k want = 0
    · exact e
    · rw [if_neg e] at h; exact h
  refine ⟨?_, ?_, h3, h4, ?_, ?_⟩
  · unfold rgE at h1
    refine (right_iff n).1 ?_
    by_cases e : rightB n = true
    · exact e
    · rw [if_neg e] at h1; omega
  · unfold ekey at h2
    by_cases e : k.size = 0 ∨ 16 < k.size
    · rw [if_pos e] at h2; omega
    · omega
  · intro e
    unfold suE at h5
    rw [if_pos e] at h5; omega
  · unfold suE at h5
    by_cases e : (want = 1 ∧ n.lev ≠ 0) ∨ (want = 2 ∧ n.lev = 0)
    · rw [if_pos e] at h5; omega
    · rw [if_neg e] at h5
      cases hf : fthB n k
      · rfl
      · rw [hf, if_pos rfl] at h5; omega

theorem further_any (n : Nd) (p : Pt) (k : ByteArray) (hh : n.high.size ≤ maxLen) (hk : k.size ≤ maxLen) (w : World) : Calls Tryz.prog 112 #[(.agg #[.int .i64 n.lev, .int .i64 n.lsn, .int .i64 n.rgt, .string n.high, .slice p.k n.keys.length p.kc, .slice p.v n.vals.length p.vc, .slice p.i n.kids.length p.ic]), .string k] w fun e w' => e = .returned (.bool (fthB n k)) ∧ Fr (fun _ => False) w w' := by
  have f0 := Fr.box w (.cells #[.int .i64 n.lev, .int .i64 n.lsn, .int .i64 n.rgt, .string n.high, .slice p.k n.keys.length p.kc, .slice p.v n.vals.length p.vc, .slice p.i n.kids.length p.ic] 28)
  unfold fthB
  by_cases h0 : n.high.size = 0
  · have hem := bs_nil h0
    rw [decide_eq_false (by omega), Bool.false_and]
    clear h0
    go_enter Tryz.func112, Tryz.ntmps112
    go_wp2
    go_ret
    exact ⟨rfl, f0⟩
  · have hem := bs_not_nil h0
    rw [decide_eq_true h0, Bool.true_and]
    have hcm := fun W => compare_any n.high k hh hk W
    generalize cpl (bsOf n.high) (bsOf k) = c at *
    clear h0
    go_enter Tryz.func112, Tryz.ntmps112
    go_wp2_with fail
    refine (hcm _).mono ?_
    rintro e w1 ⟨rfl, f1⟩
    go_wp2
    go_ret
    exact ⟨rfl, f0.seq' f1⟩
theorem checkPage_any (x : Int) (w : World) : Calls Tryz.prog 99 #[.int .i64 x] w fun e w' => e = .returned (.int .i64 (nuE x)) ∧ w' = w := by
  unfold nuE
  by_cases h1 : x < 1
  · rw [if_neg (by omega)]
    go_enter Tryz.func99, Tryz.ntmps99
    go_wp2
    go_ret
    exact ⟨rfl, rfl⟩
  · by_cases h2 : 4096 < x
    · rw [if_neg (by omega)]
      have h1' : 1 ≤ x := by omega
      go_enter Tryz.func99, Tryz.ntmps99
      go_wp2
      go_ret
      exact ⟨rfl, rfl⟩
    · rw [if_pos (by omega)]
      have h1' : 1 ≤ x := by omega
      have h2' : x ≤ 4096 := by omega
      go_enter Tryz.func99, Tryz.ntmps99
      go_wp2
      go_ret
      exact ⟨rfl, rfl⟩
theorem isLeafN_any (n : Nd) (p : Pt) (w : World) : Calls Tryz.prog 111 #[(.agg #[.int .i64 n.lev, .int .i64 n.lsn, .int .i64 n.rgt, .string n.high, .slice p.k n.keys.length p.kc, .slice p.v n.vals.length p.vc, .slice p.i n.kids.length p.ic])] w fun e w' => e = .returned (.bool (n.lev == 0)) ∧ Fr (fun _ => False) w w' := by
  have f0 := Fr.box w (.cells #[.int .i64 n.lev, .int .i64 n.lsn, .int .i64 n.rgt, .string n.high, .slice p.k n.keys.length p.kc, .slice p.v n.vals.length p.vc, .slice p.i n.kids.length p.ic] 28)
  go_enter Tryz.func111, Tryz.ntmps111
  go_wp2
  go_ret
  exact ⟨rfl, f0⟩
theorem checkNode_any (n : Nd) (p : Pt) (w : World) (h : Nod w n p) : Calls Tryz.prog 91 #[(.agg #[.int .i64 n.lev, .int .i64 n.lsn, .int .i64 n.rgt, .string n.high, .slice p.k n.keys.length p.kc, .slice p.v n.vals.length p.vc, .slice p.i n.kids.length p.ic])] w fun e w' => e = .returned (.int .i64 (rgE n)) ∧ Fr (fun _ => False) w w' := by
  have f0 := Fr.box w (.cells #[.int .i64 n.lev, .int .i64 n.lsn, .int .i64 n.rgt, .string n.high, .slice p.k n.keys.length p.kc, .slice p.v n.vals.length p.vc, .slice p.i n.kids.length p.ic] 28)
  have hc := check_any n p _ (h.same f0)
  unfold rgE
  cases hr : rightB n
  · rw [epage_no hr] at hc
    rw [if_neg (by simp)]
    clear hr
    go_enter Tryz.func91, Tryz.ntmps91
    go_wp2_with fail
    refine hc.mono ?_
    rintro e w1 ⟨rfl, f1⟩
    go_wp2
    go_ret
    exact ⟨rfl, f0.seq' f1⟩
  · rw [epage_yes hr] at hc
    rw [if_pos rfl]
    clear hr
    go_enter Tryz.func91, Tryz.ntmps91
    go_wp2_with fail
    refine hc.mono ?_
    rintro e w1 ⟨rfl, f1⟩
    go_wp2
    go_ret
    exact ⟨rfl, f0.seq' f1⟩
set_option maxRecDepth 100000 in
set_option maxHeartbeats 1000000 in
theorem suits_any (n : Nd) (p : Pt) (k : ByteArray) (want : Int) (hw : want = 0 ∨ want = 1 ∨ want = 2) (hh : n.high.size ≤ maxLen) (hk : k.size ≤ maxLen) (w : World) : Calls Tryz.prog 93 #[(.agg #[.int .i64 n.lev, .int .i64 n.lsn, .int .i64 n.rgt, .string n.high, .slice p.k n.keys.length p.kc, .slice p.v n.vals.length p.vc, .slice p.i n.kids.length p.ic]), .string k, .int .i64 want] w fun e w' => e = .returned (.int .i64 (suE n k want)) ∧ Fr (fun _ => False) w w' := by
  have f0 := Fr.box w (.cells #[.int .i64 n.lev, .int .i64 n.lsn, .int .i64 n.rgt, .string n.high, .slice p.k n.keys.length p.kc, .slice p.v n.vals.length p.vc, .slice p.i n.kids.length p.ic] 28)
  have HB : Hid (∀ W, Fr (fun _ => False) (w.alloc (.cells #[.int .i64 n.lev, .int .i64 n.lsn, .int .i64 n.rgt, .string n.high, .slice p.k n.keys.length p.kc, .slice p.v n.vals.length p.vc, .slice p.i n.kids.length p.ic] 28)) W → W.cell? ⟨w.heap.size, 0, none⟩ = some (.int .i64 n.lev) ∧ W.cell? ⟨w.heap.size, 1, none⟩ = some (.int .i64 n.lsn) ∧ W.cell? ⟨w.heap.size, 2, none⟩ = some (.int .i64 n.rgt) ∧ W.cell? ⟨w.heap.size, 3, none⟩ = some (.string n.high) ∧ W.cell? ⟨w.heap.size, 4, none⟩ = some (.slice p.k n.keys.length p.kc) ∧ W.cell? ⟨w.heap.size, 5, none⟩ = some (.slice p.v n.vals.length p.vc) ∧ W.cell? ⟨w.heap.size, 6, none⟩ = some (.slice p.i n.kids.length p.ic)) := fun W f => box_cells (box_at w n p 28 f)
  have hl := fun W => isLeafN_any n p W
  have hf := fun W => further_any n p k hh hk W
  unfold suE
  generalize fthB n k = x at *
  by_cases h0 : n.lev = 0
  · have hb : (n.lev == 0) = true := by simpa using h0
    rw [hb] at hl
    have H0 : Hid (n.lev = 0) := h0
    clear h0 hb
    rcases hw with rfl | rfl | rfl
    · rw [if_neg (by omega)]
      cases x <;>
        (go_enter Tryz.func93, Tryz.ntmps93
         go_wp2_with fail
         refine (hl _).mono ?_
         rintro e w1 ⟨rfl, f1⟩
         obtain ⟨c0, c1, c2, c3, c4, c5, c6⟩ := HB.out _ f1
         go_wp2_with fail
         refine (hf _).mono ?_
         rintro e w2 ⟨rfl, f2⟩
         go_wp2
         go_ret
         exact ⟨rfl, (f0.seq' f1).seq' f2⟩)
    · rw [if_neg (by have := H0.out; omega)]
      cases x <;>
        (go_enter Tryz.func93, Tryz.ntmps93
         go_wp2_with fail
         refine (hl _).mono ?_
         rintro e w1 ⟨rfl, f1⟩
         obtain ⟨c0, c1, c2, c3, c4, c5, c6⟩ := HB.out _ f1
         go_wp2_with fail
         refine (hf _).mono ?_
         rintro e w2 ⟨rfl, f2⟩
         go_wp2
         go_ret
         exact ⟨rfl, (f0.seq' f1).seq' f2⟩)
    · rw [if_pos (by have := H0.out; omega)]
      go_enter Tryz.func93, Tryz.ntmps93
      go_wp2_with fail
      refine (hl _).mono ?_
      rintro e w1 ⟨rfl, f1⟩
      go_wp2
      go_ret
      exact ⟨rfl, f0.seq' f1⟩
  · have hb : (n.lev == 0) = false := by simpa using h0
    rw [hb] at hl
    have H0 : Hid (n.lev ≠ 0) := h0
    clear h0 hb
    rcases hw with rfl | rfl | rfl
    · rw [if_neg (by omega)]
      cases x <;>
        (go_enter Tryz.func93, Tryz.ntmps93
         go_wp2_with fail
         refine (hl _).mono ?_
         rintro e w1 ⟨rfl, f1⟩
         obtain ⟨c0, c1, c2, c3, c4, c5, c6⟩ := HB.out _ f1
         go_wp2_with fail
         refine (hf _).mono ?_
         rintro e w2 ⟨rfl, f2⟩
         go_wp2
         go_ret
         exact ⟨rfl, (f0.seq' f1).seq' f2⟩)
    · rw [if_pos (by have := H0.out; omega)]
      go_enter Tryz.func93, Tryz.ntmps93
      go_wp2_with fail
      refine (hl _).mono ?_
      rintro e w1 ⟨rfl, f1⟩
      go_wp2
      go_ret
      exact ⟨rfl, f0.seq' f1⟩
    · rw [if_neg (by have := H0.out; omega)]
      cases x <;>
        (go_enter Tryz.func93, Tryz.ntmps93
         go_wp2_with fail
         refine (hl _).mono ?_
         rintro e w1 ⟨rfl, f1⟩
         obtain ⟨c0, c1, c2, c3, c4, c5, c6⟩ := HB.out _ f1
         go_wp2_with fail
         refine (hf _).mono ?_
         rintro e w2 ⟨rfl, f2⟩
         go_wp2
         go_ret
         exact ⟨rfl, (f0.seq' f1).seq' f2⟩)
/-- The first error of some. -/
theorem first_any (b : Nat) (t : TypeId) (l : List Int) (hl : l.length ≤ 100) (w : World) (hb : w.heap[b]? = some (.cells (l.map (Value.int .i64)).toArray t (0, 0))) :
    Calls Tryz.prog 90 #[.slice (some ⟨b, 0, none⟩) l.length l.length] w fun e w' => e = .returned (.int .i64 (firstE l)) ∧ w' = w := by
  have hc : ∀ i, i < l.length → w.cell? ⟨b, i, none⟩ = some (.int .i64 (l.getD i 0)) := fun i hi => by
    rw [cell_of_row w b i _ _ _ hb, List.getElem?_toArray, List.getElem?_map, List.getD_eq_getElem?_getD, List.getElem?_eq_getElem hi]; rfl
  have HC : Hid (∀ i, i < l.length → w.cell? ⟨b, i, none⟩ = some (.int .i64 (l.getD i 0))) := hc
  clear hb hc
  go_enter Tryz.func90, Tryz.ntmps90
  go_wp2
  go_loopw [7] (fun i wr => ∃ j : Nat, j ≤ l.length ∧ i = .int .i64 j ∧ Hid (firstE (l.drop j) = firstE l) ∧ wr = w) (fun i _ => l.length - (intOf i).toNat)
  case atStart => exact ⟨0, by omega, rfl, rfl, rfl⟩
  case round =>
    obtain ⟨j, hj, rfl, HE, rfl⟩ := hrel
    by_cases hlt : j < l.length
    · have hcj := HC.out j hlt
      have hji : (j : Int) < (l.length : Int) := by omega
      have HD : Hid (firstE (l.drop j) = if l.getD j 0 = 0 then firstE (l.drop (j + 1)) else l.getD j 0) := by
        show _ = _
        rw [List.drop_eq_getElem_cons hlt, List.getD_eq_getElem?_getD, List.getElem?_eq_getElem hlt]
        rfl
      obtain ⟨x, hx⟩ : ∃ x, x = l.getD j 0 := ⟨_, rfl⟩
      rw [← hx] at hcj HD
      clear hx
      by_cases h0 : x = 0
      · subst h0
        rw [if_pos rfl] at HD
        go_wp2
        go_roundw
        case rel => exact ⟨j + 1, by omega, by go_num, by show _ = _; rw [← HD.out]; exact HE.out, trivial⟩
        case measure => simp [intOf]; omega
      · have hne : (x != 0) = true := by simpa using h0
        rw [if_neg h0] at HD
        go_wp2
        go_ret
        exact ⟨ret_int (by rw [← HE.out, HD.out]), rfl⟩
    · have e : j = l.length := by omega
      subst e
      go_wp2
      go_ret
      exact ⟨ret_int (by rw [← HE.out, List.drop_length]; rfl), rfl⟩
end Go.Proofs.YtnckmajfmkkpgaaGreat

/- What the document asks of a node and a key. -/
namespace Go.Proofs.YtnckmajfmkkpgaaGreat
open Go.RowKit

theorem evalu_no {n : Nat} (h : 32 < n) : evalu n = 51 := if_pos h
theorem evalu_ok {n : Nat} (h : n ≤ 32) : evalu n = 0 := if_neg (by omega)
theorem first3 (x y z : Int) (W : World) : Calls Tryz.prog 90 #[.slice (some ⟨W.heap.size, 0, none⟩) 3 3] (W.alloc (.cells #[.int .i64 x, .int .i64 y, .int .i64 z] 31)) fun e w' => e = .returned (.int .i64 (firstE [x, y, z])) ∧ w' = W.alloc (.cells #[.int .i64 x, .int .i64 y, .int .i64 z] 31) :=
  first_any W.heap.size 31 [x, y, z] (by simp) _ (heap_alloc_new W _)
theorem first4 (x y z u : Int) (W : World) : Calls Tryz.prog 90 #[.slice (some ⟨W.heap.size, 0, none⟩) 4 4] (W.alloc (.cells #[.int .i64 x, .int .i64 y, .int .i64 z, .int .i64 u] 31)) fun e w' => e = .returned (.int .i64 (firstE [x, y, z, u])) ∧ w' = W.alloc (.cells #[.int .i64 x, .int .i64 y, .int .i64 z, .int .i64 u] 31) :=
  first_any W.heap.size 31 [x, y, z, u] (by simp) _ (heap_alloc_new W _)

end Go.Proofs.YtnckmajfmkkpgaaGreat

/- Lists of keys that rise: where a key stands in them. -/
namespace Go.Proofs.YtnckmajfmkkpgaaGreat
open Go.RowKit

theorem cpl_lt_trans {a b c : List Nat} (h1 : cpl a b < 0) (h2 : cpl b c < 0) : cpl a c < 0 := by
  have h := cpl_trans a b c (by omega) (by omega)
  rcases Int.lt_or_eq_of_le h with h3 | h3
  · exact h3
  · have e := (cpl_eq a c).1 h3
    rw [e] at h1
    rw [cpl_neg c b] at h2
    omega
theorem cpl_le_lt {a b c : List Nat} (h1 : cpl a b ≤ 0) (h2 : cpl b c < 0) : cpl a c < 0 := by
  rcases Int.lt_or_eq_of_le h1 with h | h
  · exact cpl_lt_trans h h2
  · rw [(cpl_eq a b).1 h]; exact h2
theorem cpl_lt_le {a b c : List Nat} (h1 : cpl a b < 0) (h2 : cpl b c ≤ 0) : cpl a c < 0 := by
  rcases Int.lt_or_eq_of_le h2 with h | h
  · exact cpl_lt_trans h1 h
  · rw [← (cpl_eq b c).1 h]; exact h1
theorem cpl_pos {a b : List Nat} : 0 < cpl a b ↔ cpl b a < 0 := by rw [cpl_neg b a]; omega
/-- Keys that rise. -/
def srt (l : List ByteArray) : Prop := ∀ i j, i < j → j < l.length → cpl (bsOf (l.getD i ByteArray.empty)) (bsOf (l.getD j ByteArray.empty)) < 0
theorem srt_of {l : List ByteArray} (h : ∀ i, i < l.length → 0 < i → cpl (bsOf (l.getD (i - 1) ByteArray.empty)) (bsOf (l.getD i ByteArray.empty)) < 0) : srt l := by
  intro i j hij
  induction j with
  | zero => omega
  | succ j ih =>
    intro hj
    have h1 := h (j + 1) hj (by omega)
    rw [show j + 1 - 1 = j by omega] at h1
    rcases Nat.lt_or_ge i j with h2 | h2
    · exact cpl_lt_trans (ih h2 (by omega)) h1
    · rw [show i = j by omega]; exact h1
theorem Rt.srt {n : Nd} (h : Rt n) : srt n.keys := srt_of (fun i hi h0 => (h.keys i hi).2.1 h0)
/-- Where a key stands. -/
structure Pl (k : List Nat) (l : List ByteArray) (i : Nat) (f : Bool) : Prop where
  le : i ≤ l.length
  lt : ∀ j, j < i → cpl (bsOf (l.getD j ByteArray.empty)) k < 0
  eq : f = true → i < l.length ∧ bsOf (l.getD i ByteArray.empty) = k
  ge : ∀ j, i ≤ j → j < l.length → (f = false ∨ i < j) → 0 < cpl (bsOf (l.getD j ByteArray.empty)) k
theorem plc_pl {k : List Nat} {l : List ByteArray} (hs : srt l) : Pl k l (plc k l).1 (plc k l).2 := by
  by_cases h : ∃ i, i < l.length ∧ 0 ≤ cpl (bsOf (l.getD i ByteArray.empty)) k
  · have hm : ∃ i, (i < l.length ∧ 0 ≤ cpl (bsOf (l.getD i ByteArray.empty)) k) ∧ ∀ j, j < i → ¬ (j < l.length ∧ 0 ≤ cpl (bsOf (l.getD j ByteArray.empty)) k) := by
      obtain ⟨i0, h0⟩ := h
      induction i0 using Nat.strongRecOn with
      | ind i0 ih =>
        by_cases h1 : ∃ j, j < i0 ∧ (j < l.length ∧ 0 ≤ cpl (bsOf (l.getD j ByteArray.empty)) k)
        · obtain ⟨j, hj, h2⟩ := h1
          exact ih j hj h2
        · exact ⟨i0, h0, fun j hj h2 => h1 ⟨j, hj, h2⟩⟩
    obtain ⟨i, ⟨hi, hge⟩, hmin⟩ := hm
    have hlt : ∀ j, j < i → cpl (bsOf (l.getD j ByteArray.empty)) k < 0 := fun j hj => by
      have := hmin j hj
      rcases Int.lt_or_le (cpl (bsOf (l.getD j ByteArray.empty)) k) 0 with h3 | h3
      · exact h3
      · exact absurd ⟨by omega, h3⟩ this
    rw [plc_hit k l i hi hlt hge]
    refine ⟨by simp only; omega, hlt, fun h => ⟨hi, by simpa using h⟩, fun j h1 h2 h3 => ?_⟩
    simp only at h1 h3
    rcases Nat.lt_or_ge i j with h4 | h4
    · have h5 := hs i j h4 h2
      rw [cpl_pos]
      have h6 : cpl k (bsOf (l.getD i ByteArray.empty)) ≤ 0 := by rw [cpl_neg]; omega
      exact cpl_le_lt h6 h5
    · have e : i = j := by omega
      subst e
      rcases h3 with h3 | h3
      · have h7 : bsOf (l.getD i ByteArray.empty) ≠ k := by simpa using h3
        rcases Int.lt_or_eq_of_le hge with h8 | h8
        · exact h8
        · exact absurd ((cpl_eq _ _).1 h8.symm) h7
      · omega
  · have hall : ∀ j, j < l.length → cpl (bsOf (l.getD j ByteArray.empty)) k < 0 := fun j hj => by
      rcases Int.lt_or_le (cpl (bsOf (l.getD j ByteArray.empty)) k) 0 with h3 | h3
      · exact h3
      · exact absurd ⟨j, hj, h3⟩ h
    rw [plc_miss k l hall]
    refine ⟨Nat.le_refl _, hall, ?_, ?_⟩
    · intro h; cases h
    · intro j h1 h2 _; simp only at h1; omega
/-- Of the keys up to where the kid of a key stands. -/
def kidF (k : ByteArray) (l : List ByteArray) : Nat := (plc (bsOf k) l).1 + (if (plc (bsOf k) l).2 = true then 1 else 0)
theorem kid_le {k : ByteArray} {l : List ByteArray} (hs : srt l) : kidF k l ≤ l.length := by
  have h := plc_pl (k := bsOf k) hs
  unfold kidF
  split
  · rename_i e
    have := (h.eq e).1
    omega
  · have := h.le; omega
theorem kid_iff {k : ByteArray} {l : List ByteArray} (hs : srt l) (j : Nat) (hj : j < l.length) : cpl (bsOf (l.getD j ByteArray.empty)) (bsOf k) ≤ 0 ↔ j < kidF k l := by
  have h := plc_pl (k := bsOf k) hs
  unfold kidF
  cases hf : (plc (bsOf k) l).2
  · rw [if_neg (by simp), Nat.add_zero]
    rw [hf] at h
    constructor
    · intro h1
      rcases Nat.lt_or_ge j (plc (bsOf k) l).1 with h2 | h2
      · exact h2
      · have := h.ge j h2 hj (.inl rfl); omega
    · intro h1
      have := h.lt j h1; omega
  · rw [if_pos rfl]
    rw [hf] at h
    constructor
    · intro h1
      rcases Nat.lt_or_ge j ((plc (bsOf k) l).1 + 1) with h2 | h2
      · exact h2
      · have := h.ge j (by omega) hj (.inr (by omega)); omega
    · intro h1
      rcases Nat.lt_or_ge j (plc (bsOf k) l).1 with h2 | h2
      · have := h.lt j h2; omega
      · have e : j = (plc (bsOf k) l).1 := by omega
        rw [e, (h.eq rfl).2, cpl_refl]; omega
/-- A key that stands at j is found there. -/
theorem plc_at {k : ByteArray} {l : List ByteArray} (hs : srt l) (j : Nat) (hj : j < l.length) (he : bsOf (l.getD j ByteArray.empty) = bsOf k) : plc (bsOf k) l = (j, true) := by
  have := plc_hit (bsOf k) l j hj (fun i hi => by rw [← he]; exact hs i j hi hj) (by rw [he, cpl_refl]; omega)
  rw [this, he]
  simp
theorem plc_none {k : ByteArray} {l : List ByteArray} (hs : srt l) (h : ∀ j, j < l.length → bsOf (l.getD j ByteArray.empty) ≠ bsOf k) : (plc (bsOf k) l).2 = false := by
  cases hf : (plc (bsOf k) l).2
  · rfl
  · have := (plc_pl (k := bsOf k) hs).eq hf
    exact absurd this.2 (h _ this.1)
end Go.Proofs.YtnckmajfmkkpgaaGreat
