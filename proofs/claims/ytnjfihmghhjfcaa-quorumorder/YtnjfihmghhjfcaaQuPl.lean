
/- Two rows of numbers that are the same; what a list becomes that is turned, and one that grows. -/
import Derived.Test.YtnjfihmghhjfcaaQuMath
namespace Go.Proofs.Ytnjfihmghhjfcaa
open Go.RowKit
open Go.Proofs.Ytnjfihmghhjfcaa.Qu

set_option maxRecDepth 100000 in
set_option maxHeartbeats 1000000 in
theorem plain_ints (a1 a2 : Option Addr) (c1 c2 B1 B2 : Nat) (l : List Int) (w : World) (r1 : Ir w B1 a1 c1 l) (r2 : Ir w B2 a2 c2 l) :
    Calls Try.prog 17 #[.slice a1 l.length c1, .slice a2 l.length c2] w fun e w' => e = .returned (.bool true) ∧ Fr (fun _ => False) w w' := by
  have l1 := r1.le
  have m1 := r1.max
  have l2 := r2.le
  have m2 := r2.max
  have H1 : Hid (∀ W, Fr (fun _ => False) w W → Ir W B1 a1 c1 l) := fun W f => r1.fr f (fun _ _ _ f => f)
  have H2 : Hid (∀ W, Fr (fun _ => False) w W → Ir W B2 a2 c2 l) := fun W f => r2.fr f (fun _ _ _ f => f)
  clear r1 r2
  go_enter Try.func17, Try.ntmps17
  go_wp2
  go_loopw [13] (fun i wr => ∃ k : Nat, k ≤ l.length ∧ i = .int .i64 k ∧ Fr (fun _ => False) w wr) (fun i _ => l.length - (intOf i).toNat)
  case atStart => exact ⟨0, by omega, rfl, Fr.refl _ _⟩
  case round =>
    obtain ⟨k, hk, rfl, hf⟩ := hrel
    by_cases hlt : k < l.length
    · obtain ⟨b1, rfl, _, hb1, hc1⟩ := (H1.out _ hf).some (by omega)
      obtain ⟨b2, rfl, _, hb2, hc2⟩ := (H2.out _ hf).some (by omega)
      obtain ⟨s, hs⟩ : ∃ s, l[k]? = some s := ⟨_, List.getElem?_eq_getElem hlt⟩
      have k1 := hc1 k s hs
      have k2 := hc2 k s hs
      clear hs hc1 hc2
      have i1 : (k : Int) < (l.length : Int) := by omega
      go_wp2
      go_quiet (fail)
      go_wp2
      go_roundw
      case rel => exact ⟨k + 1, by omega, by go_num, hf.drewN _⟩
      case measure => simp [intOf]; omega
    · go_wp2
      go_ret
      exact ⟨rfl, hf⟩

/-- The numbers from a place on, around. -/
def turnK (xs : List Int) (r k : Nat) : List Int := (List.range k).map fun i => xs.getD ((i + r) % xs.length) 0
theorem turn_succ (xs : List Int) (r k : Nat) : turnK xs r (k + 1) = turnK xs r k ++ [xs.getD ((k + r) % xs.length) 0] := by
  unfold turnK
  rw [List.range_succ, List.map_append]; rfl
theorem turn_len (xs : List Int) (r k : Nat) : (turnK xs r k).length = k := by simp [turnK]
theorem turn_perm (xs : List Int) (r : Nat) (hr : r < xs.length) : (turnK xs r xs.length).Perm xs := by
  have h : turnK xs r xs.length = xs.drop r ++ xs.take r := by
    refine List.ext_getElem (by simp [turnK]; omega) fun i h1 h2 => ?_
    have hi : i < xs.length := by simpa [turnK] using h1
    simp only [turnK, List.getElem_map, List.getElem_range]
    by_cases hl : i + r < xs.length
    · rw [Nat.mod_eq_of_lt hl, List.getElem_append_left (by rw [List.length_drop]; omega), List.getElem_drop, List.getD_eq_getElem?_getD, List.getElem?_eq_getElem hl]
      simp [Nat.add_comm]
    · have hm : (i + r) % xs.length = i + r - xs.length := by
        rw [Nat.mod_eq_sub_mod (by omega), Nat.mod_eq_of_lt (by omega)]
      rw [hm, List.getElem_append_right (by rw [List.length_drop]; omega), List.getElem_take, List.getD_eq_getElem?_getD, List.getElem?_eq_getElem (by omega)]
      simp only [Option.getD_some, List.length_drop]
      congr 1
      omega
  rw [h]
  exact List.perm_append_comm.trans (by rw [List.take_append_drop])
/-- A number that is more, if another one is. -/
def moreN (a : Int) : Option Int → Int
  | some m => if a < m ∧ m ≤ 1099511627776 then m else a
  | none => a
def moreK (xs ys : List Int) (k : Nat) : List Int := (List.range k).map fun i => moreN (xs.getD i 0) ys[i]?
theorem more_succ (xs ys : List Int) (k : Nat) : moreK xs ys (k + 1) = moreK xs ys k ++ [moreN (xs.getD k 0) ys[k]?] := by
  unfold moreK
  rw [List.range_succ, List.map_append]; rfl
theorem more_len (xs ys : List Int) (k : Nat) : (moreK xs ys k).length = k := by simp [moreK]
theorem more_ge (a : Int) (m : Option Int) : a ≤ moreN a m := by
  cases m with
  | none => exact Int.le_refl _
  | some m =>
    unfold moreN
    simp only
    split <;> omega
theorem more_ok {a : Int} (h : badB a = false) (m : Option Int) : badB (moreN a m) = false := by
  cases m with
  | none => exact h
  | some m =>
    unfold moreN
    simp only
    split
    · simp [badB] at *; omega
    · exact h
theorem take_getD {xs : List Int} {k : Nat} (h : k < xs.length) : xs.take (k + 1) = xs.take k ++ [xs.getD k 0] := by
  rw [List.take_add_one, List.getD_eq_getElem?_getD, List.getElem?_eq_getElem h]; rfl
theorem more_cnt (xs ys : List Int) (a : Int) : ∀ k, k ≤ xs.length → cntG (xs.take k) a ≤ cntG (moreK xs ys k) a
  | 0, _ => by simp [cntG]
  | k + 1, h => by
    have ih := more_cnt xs ys a k (by omega)
    rw [take_getD (by omega), more_succ]
    unfold cntG at *
    rw [List.countP_append, List.countP_append]
    have := more_ge (xs.getD k 0) ys[k]?
    simp only [List.countP_cons, List.countP_nil]
    by_cases h1 : a ≤ xs.getD k 0
    · have h2 : a ≤ moreN (xs.getD k 0) ys[k]? := by omega
      simp only [h1, h2, decide_true, if_true]; omega
    · simp only [h1, decide_false]
      have : (0 + if (false = true) then 1 else 0) = 0 := rfl
      omega
theorem more_bad (xs ys : List Int) (h : xs.any badB = false) : (moreK xs ys xs.length).any badB = false := by
  rw [List.any_eq_false] at *
  intro x hx
  simp only [moreK, List.mem_map, List.mem_range] at hx
  obtain ⟨i, hi, rfl⟩ := hx
  have := h (xs.getD i 0) (by rw [List.getD_eq_getElem?_getD, List.getElem?_eq_getElem hi]; exact List.getElem_mem hi)
  rw [Bool.not_eq_true] at this ⊢
  exact more_ok this _
theorem com_ok {xs : List Int} (h : comE xs = 0) : nOk xs.length = true ∧ xs.any badB = false := by
  unfold comE at h
  split at h
  · rename_i hc
    simpa using hc
  · omega
/-- As nodes have more, what is committed is not less. -/
theorem com_grows {xs : List Int} (ys : List Int) (h : comE xs = 0) : comE (moreK xs ys xs.length) = 0 ∧ comN xs ≤ comN (moreK xs ys xs.length) := by
  obtain ⟨h1, h2⟩ := com_ok h
  have e : comE (moreK xs ys xs.length) = 0 := by
    unfold comE
    rw [more_len, h1, more_bad xs ys h2]; rfl
  refine ⟨e, ?_⟩
  obtain ⟨_, _, g3, _⟩ := com_facts e
  obtain ⟨_, k2, _, _⟩ := com_facts h
  refine g3 _ ?_
  have := more_cnt xs ys (comN xs) xs.length (Nat.le_refl _)
  rw [List.take_length] at this
  rw [more_len]; omega
theorem cnt_above (xs : List Int) (n : Int) : xs.countP (fun b => decide (n < b)) = cntG xs (n + 1) := by
  unfold cntG
  congr 1
end Go.Proofs.Ytnjfihmghhjfcaa
