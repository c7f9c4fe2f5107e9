
/- KPlc, NdBase, NdAsk. -/
import Derived.Test.YtimpoincnfiibaaSB15
import Derived.Test.YtimpoincnfiibaaSB2
import Derived.Test.YtimpoincnfiibaaSB17
import Derived.Test.YtimpoincnfiibaaSB8
import Derived.Deep.RegionHeld3
/- What key.Place tells, and what the document's own Place tells; that key speaks. -/
namespace Go.Proofs.Ytimpoincnfiibaa
open Go.RowKit

/-- Where a text stands in a list. -/
def plc (k : List Nat) : List ByteArray → Nat × Bool
  | [] => (0, false)
  | x :: r => if 0 ≤ cpl (bsOf x) k then (0, decide (bsOf x = k)) else ((plc k r).1 + 1, (plc k r).2)
theorem plc_hit (k : List Nat) (l : List ByteArray) (i : Nat) (hi : i < l.length) (he : ∀ j, j < i → cpl (bsOf (l.getD j ByteArray.empty)) k < 0) (h : 0 ≤ cpl (bsOf (l.getD i ByteArray.empty)) k) : plc k l = (i, decide (bsOf (l.getD i ByteArray.empty) = k)) := by
  induction l generalizing i with
  | nil => simp at hi
  | cons x r ih => cases i with
    | zero => simp at h; simp [plc, h]
    | succ i =>
      have h0 := he 0 (by omega)
      simp at h0
      have := ih i (by simpa using hi) (fun j hj => by have := he (j + 1) (by omega); simpa using this) (by simpa using h)
      simp only [plc]
      rw [if_neg (by omega), this]
      simp
theorem plc_miss (k : List Nat) (l : List ByteArray) (he : ∀ j, j < l.length → cpl (bsOf (l.getD j ByteArray.empty)) k < 0) : plc k l = (l.length, false) := by
  induction l with
  | nil => rfl
  | cons x r ih =>
    have h0 := he 0 (by simp)
    simp at h0
    simp only [plc]
    rw [if_neg (by omega), ih (fun j hj => by have := he (j + 1) (by simpa using hj); simpa using this)]
    simp
theorem ret_ib {a b : Int} {x y : Bool} (h : a = b) (k : x = y) : Ending.returned (.tuple #[.int .i64 a, .bool x]) = .returned (.tuple #[.int .i64 b, .bool y]) := by rw [h, k]
theorem cpl_beq (a b : List Nat) : (cpl a b == 0) = decide (a = b) := by
  have := cpl_eq a b
  rw [Bool.eq_iff_iff]; simp [this]
theorem str_beq (a b : ByteArray) : (a.toList == b.toList) = decide (bsOf a = bsOf b) := by
  rw [Bool.eq_iff_iff]
  simp only [beq_iff_eq, decide_eq_true_eq]
  rw [Lib.toList_data, Lib.toList_data]
  constructor
  · intro h; unfold bsOf; rw [h]
  · intro h; rw [bs_inj h]

end Go.Proofs.Ytimpoincnfiibaa

/- What is asked of a node and a key ahead of each call; what the small functions of layer 7 answer. -/
namespace Go.Proofs.Ytimpoincnfiibaa
open Go.RowKit

/-- Whether a key belongs further right. -/
def fthB (n : Nd) (k : ByteArray) : Bool := decide (n.high.size ≠ 0) && decide (cpl (bsOf n.high) (bsOf k) ≤ 0)
/-- The errors. -/
def rgE (n : Nd) : Int := if rightB n = true then 0 else 70
def nuE (x : Int) : Int := if 1 ≤ x ∧ x ≤ 4096 then 0 else 1
def suE (n : Nd) (k : ByteArray) (want : Int) : Int := if (want = 1 ∧ n.lev ≠ 0) ∨ (want = 2 ∧ n.lev = 0) then 7 else if fthB n k = true then 71 else 0
def firstE : List Int → Int
  | [] => 0
  | x :: r => if x = 0 then firstE r else x
theorem firstE_zero (r : List Int) : firstE (0 :: r) = firstE r := by simp [firstE]
theorem firstE_skip (a : Int) (r s : List Int) (h : firstE r = firstE s) : firstE (a :: r) = firstE (a :: s) := by simp only [firstE]; rw [h]
/-- The error of a call. -/
def askE (n : Nd) (k : ByteArray) (ev en want : Int) : Int := firstE [rgE n, ekey k.size, ev, en, suE n k want]
theorem ask_3 (n : Nd) (k : ByteArray) (want : Int) : firstE [rgE n, ekey k.size, suE n k want] = askE n k 0 0 want := by
  unfold askE
  refine firstE_skip _ _ _ (firstE_skip _ _ _ ?_)
  rw [firstE_zero, firstE_zero]
theorem ask_v (n : Nd) (k : ByteArray) (ev want : Int) : firstE [rgE n, ekey k.size, ev, suE n k want] = askE n k ev 0 want := by
  unfold askE
  refine firstE_skip _ _ _ (firstE_skip _ _ _ (firstE_skip _ _ _ ?_))
  rw [firstE_zero]
theorem ask_n (n : Nd) (k : ByteArray) (en want : Int) : firstE [rgE n, ekey k.size, en, suE n k want] = askE n k 0 en want := by
  unfold askE
  refine firstE_skip _ _ _ (firstE_skip _ _ _ ?_)
  rw [firstE_zero]
/-- What stands behind a call that is right. -/
theorem ask_ok {n : Nd} {k : ByteArray} {ev en want : Int} (h : askE n k ev en want = 0) : Rt n ∧ (k.size ≠ 0 ∧ k.size ≤ 16) ∧ ev = 0 ∧ en = 0 ∧ ¬ ((want = 1 ∧ n.lev ≠ 0) ∨ (want = 2 ∧ n.lev = 0)) ∧ fthB n k = false := by
  unfold askE at h
  simp only [firstE] at h
  have h1 : rgE n = 0 := by
    by_cases e : rgE n = 0
    · exact e
    · rw [if_neg e] at h; exact h
  rw [if_pos h1] at h
  have h2 : (ekey k.size : Int) = 0 := by
    by_cases e : (ekey k.size : Int) = 0
    · exact e
    · rw [if_neg e] at h; exact h
  rw [if_pos h2] at h
  have h3 : ev = 0 := by
    by_cases e : ev = 0
    · exact e
    · rw [if_neg e] at h; exact h
  rw [if_pos h3] at h
  have h4 : en = 0 := by
    by_cases e : en = 0
    · exact e
    · rw [if_neg e] at h; exact h
  rw [if_pos h4] at h
  have h5 : suE n k want = 0 := by
    by_cases e : suE n k want = 0
    · exact e
    · rw [if_neg e] at h; exact h
  refine ⟨?_, ?_, h3, h4, ?_, ?_⟩
  · unfold rgE at h1
    refine (right_iff n).1 ?_
    by_cases e : rightB n = true
    · exact e
    · rw [if_neg e] at h1; omega
  · unfold ekey at h2
    by_cases e : k.size = 0 ∨ 16 < k.size
    · rw [if_pos e] at h2; omega
    · omega
  · intro e
    unfold suE at h5
    rw [if_pos e] at h5; omega
  · unfold suE at h5
    by_cases e : (want = 1 ∧ n.lev ≠ 0) ∨ (want = 2 ∧ n.lev = 0)
    · rw [if_pos e] at h5; omega
    · rw [if_neg e] at h5
      cases hf : fthB n k
      · rfl
      · rw [hf, if_pos rfl] at h5; omega

end Go.Proofs.Ytimpoincnfiibaa

/- What the document asks of a node and a key. -/
namespace Go.Proofs.Ytimpoincnfiibaa
open Go.RowKit

theorem evalu_no {n : Nat} (h : 32 < n) : evalu n = 51 := if_pos h
theorem evalu_ok {n : Nat} (h : n ≤ 32) : evalu n = 0 := if_neg (by omega)
end Go.Proofs.Ytimpoincnfiibaa
