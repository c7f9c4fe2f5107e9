/- The plain mathematics of letters: how many bytes the letter has with which bytes begin, and how many letters there are. -/
import Derived.Test.YtacgkoiejmbeiaaKText
import Derived.Lib.DecodeN
namespace Go.Proofs.Ytacgkoiejmbeiaa
open Go.RowKit

/-- The bytes of the letter with which n bytes begin, of which the first four are given; 0: none begins. -/
def ltrN (n b0 b1 b2 b3 : Nat) : Nat :=
  if b0 < 128 then 1
  else if 194 ≤ b0 ∧ b0 ≤ 223 ∧ 2 ≤ n ∧ (128 ≤ b1 ∧ b1 ≤ 191) then 2
  else if 224 ≤ b0 ∧ b0 ≤ 239 ∧ 3 ≤ n ∧ (128 ≤ b1 ∧ b1 ≤ 191) ∧ (128 ≤ b2 ∧ b2 ≤ 191) then
    (if b0 = 224 ∧ b1 < 160 ∨ b0 = 237 ∧ 159 < b1 then 0 else 3)
  else if 240 ≤ b0 ∧ b0 ≤ 244 ∧ 4 ≤ n ∧ (128 ≤ b1 ∧ b1 ≤ 191) ∧ (128 ≤ b2 ∧ b2 ≤ 191) ∧ (128 ≤ b3 ∧ b3 ≤ 191) then
    (if b0 = 240 ∧ b1 < 144 ∨ b0 = 244 ∧ 143 < b1 then 0 else 4)
  else 0
set_option maxRecDepth 100000 in
set_option maxHeartbeats 4000000 in
theorem ltrN_decode (n b0 b1 b2 b3 : Nat) (h0 : b0 < 256) (h1 : b1 < 256) (h2 : b2 < 256) (h3 : b3 < 256) :
    (Lib.decodeN n b0 b1 b2 b3).2 = (if ltrN n b0 b1 b2 b3 = 0 then 1 else ltrN n b0 b1 b2 b3) ∧
    (ltrN n b0 b1 b2 b3 = 0 ↔ ((Lib.decodeN n b0 b1 b2 b3).1 = 65533 ∧ ¬ (3 ≤ n ∧ b0 = 239 ∧ b1 = 191 ∧ b2 = 189))) := by
  unfold ltrN Lib.decodeN
  repeat' split
  all_goals (refine ⟨?_, ?_⟩ <;> simp <;> omega)
theorem ltrN_le (n b0 b1 b2 b3 : Nat) (hn : 1 ≤ n) : ltrN n b0 b1 b2 b3 ≤ n ∧ ltrN n b0 b1 b2 b3 ≤ 4 := by
  unfold ltrN
  repeat' split
  all_goals omega

def ltr (l : List Nat) : Nat := ltrN l.length (l.getD 0 0) (l.getD 1 0) (l.getD 2 0) (l.getD 3 0)
theorem ltr_le (l : List Nat) (h : l ≠ []) : ltr l ≤ l.length ∧ ltr l ≤ 4 := ltrN_le _ _ _ _ _ (by cases l with | nil => exact absurd rfl h | cons => simp)
set_option maxRecDepth 100000 in
theorem ltrN_more (n m b0 b1 b2 b3 c1 c2 c3 : Nat) (hm : n ≤ m) (h1 : 2 ≤ n → c1 = b1) (h2 : 3 ≤ n → c2 = b2) (h3 : 4 ≤ n → c3 = b3) (h : ltrN n b0 b1 b2 b3 ≠ 0) : ltrN m b0 c1 c2 c3 = ltrN n b0 b1 b2 b3 := by
  unfold ltrN at h ⊢
  repeat' split at h
  all_goals (repeat' split)
  all_goals first | rfl | (exfalso; omega) | omega
theorem ltr_app (l m : List Nat) (hl : l ≠ []) (h : ltr l ≠ 0) : ltr (l ++ m) = ltr l := by
  have g : ∀ i, i < l.length → (l ++ m).getD i 0 = l.getD i 0 := fun i hi => by
    rw [List.getD_eq_getElem?_getD, List.getElem?_append_left hi, List.getD_eq_getElem?_getD]
  have h0 : 1 ≤ l.length := by cases l with | nil => exact absurd rfl hl | cons => simp
  unfold ltr at h ⊢
  rw [g 0 (by omega)]
  exact ltrN_more _ _ _ _ _ _ _ _ _ (by simp) (fun k => g 1 (by omega)) (fun k => g 2 (by omega)) (fun k => g 3 (by omega)) h

/-- How far the letter, or the wrong byte, goes. -/
def stp (l : List Nat) : Nat := if ltr l = 0 then 1 else ltr l
theorem stp_pos (l : List Nat) : 1 ≤ stp l := by unfold stp; split <;> omega
theorem stp_le (l : List Nat) (h : l ≠ []) : stp l ≤ l.length := by
  have := ltr_le l h
  have h0 : 1 ≤ l.length := by cases l with | nil => exact absurd rfl h | cons => simp
  unfold stp; split <;> omega
/-- How many letters, and whether all are right. -/
def ltsF : Nat → List Nat → Nat × Bool
  | 0, _ => (0, true)
  | f + 1, l => if l = [] then (0, true) else ((ltsF f (l.drop (stp l))).1 + 1, decide (ltr l ≠ 0) && (ltsF f (l.drop (stp l))).2)
theorem ltsF_more (f g : Nat) (l : List Nat) (hf : l.length ≤ f) (hg : l.length ≤ g) : ltsF f l = ltsF g l := by
  induction f generalizing g l with
  | zero =>
    have : l = [] := List.eq_nil_of_length_eq_zero (by omega)
    subst this
    cases g <;> simp [ltsF]
  | succ f ih => cases g with
    | zero =>
      have : l = [] := List.eq_nil_of_length_eq_zero (by omega)
      subst this
      simp [ltsF]
    | succ g =>
      simp only [ltsF]
      by_cases h : l = []
      · simp [h]
      · have := stp_pos l
        rw [if_neg h, if_neg h, ih g (l.drop (stp l)) (by simp; omega) (by simp; omega)]
def lts (l : List Nat) : Nat × Bool := ltsF l.length l
theorem lts_nil : lts [] = (0, true) := rfl
theorem lts_go (l : List Nat) (h : l ≠ []) : lts l = ((lts (l.drop (stp l))).1 + 1, decide (ltr l ≠ 0) && (lts (l.drop (stp l))).2) := by
  have hp := stp_pos l
  obtain ⟨x, r, rfl⟩ : ∃ x r, l = x :: r := by cases l with | nil => exact absurd rfl h | cons x r => exact ⟨x, r, rfl⟩
  have e : lts (x :: r) = ltsF (r.length + 1) (x :: r) := rfl
  rw [e]
  simp only [ltsF]
  rw [if_neg h]
  have := ltsF_more r.length ((x :: r).drop (stp (x :: r))).length ((x :: r).drop (stp (x :: r))) (by simp; omega) (Nat.le_refl _)
  rw [this]; rfl
theorem lts_le (l : List Nat) : (lts l).1 ≤ l.length := by
  have : ∀ f l, (ltsF f l).1 ≤ l.length := by
    intro f
    induction f with
    | zero => intro l; simp [ltsF]
    | succ f ih =>
      intro l
      simp only [ltsF]
      split
      · simp
      · rename_i h
        have h1 := ih (l.drop (stp l))
        have := stp_pos l
        have := stp_le l h
        simp at h1 ⊢
        omega
  exact this _ _
theorem lts_pos (l : List Nat) : 0 < (lts l).1 ↔ l ≠ [] := by
  constructor
  · rintro h rfl; simp [lts_nil] at h
  · intro h; rw [lts_go l h]; simp
theorem lts_app (l m : List Nat) (h : (lts l).2 = true) : lts (l ++ m) = ((lts l).1 + (lts m).1, (lts m).2) := by
  have : ∀ n (l : List Nat), l.length ≤ n → (lts l).2 = true → lts (l ++ m) = ((lts l).1 + (lts m).1, (lts m).2) := by
    intro n
    induction n with
    | zero =>
      intro l hl _
      have : l = [] := List.eq_nil_of_length_eq_zero (by omega)
      subst this
      simp [lts_nil]
    | succ n ih =>
      intro l hl hr
      by_cases h0 : l = []
      · subst h0; simp [lts_nil]
      · rw [lts_go l h0] at hr ⊢
        simp only [Bool.and_eq_true, decide_eq_true_eq] at hr
        have es : stp (l ++ m) = stp l := by unfold stp; rw [ltr_app l m h0 hr.1]
        have hs := stp_le l h0
        have hp := stp_pos l
        rw [lts_go (l ++ m) (by simp [h0]), es, List.drop_append_of_le_length hs, ltr_app l m h0 hr.1, ih _ (by simp; omega) hr.2]
        simp [hr.1]; omega
  exact this l.length l (Nat.le_refl _) h

theorem bs_get (s : ByteArray) (i : Nat) : (s.get! i).toNat = (bsOf s).getD i 0 := by
  by_cases h : i < s.size
  · have e : s.get! i = s[i] := by simp [ByteArray.get!, getElem!_pos, h]; rfl
    rw [e, bs_at s i h]
  · have e : s.get! i = 0 := by
      cases s with
      | mk d =>
        have h' : ¬ i < d.size := h
        show d[i]! = 0
        rw [getElem!_def, Array.getElem?_eq_none (by omega)]; rfl
    rw [e, List.getD_eq_getElem?_getD, List.getElem?_eq_none (by rw [bsOf_length]; omega)]; rfl
/-- What the model's decoder tells is what the letters are. -/
theorem decode_ltr (s : ByteArray) (p : Nat) : (Utf8.decode s p).2 = stp ((bsOf s).drop p) ∧
    (ltr ((bsOf s).drop p) = 0 ↔ ((Utf8.decode s p).1 = 65533 ∧ ¬ (3 ≤ s.size - p ∧ (bsOf s).getD p 0 = 239 ∧ (bsOf s).getD (p + 1) 0 = 191 ∧ (bsOf s).getD (p + 2) 0 = 189))) := by
  have hg : ∀ k, ((bsOf s).drop p).getD k 0 = (bsOf s).getD (p + k) 0 := fun k => by
    rw [List.getD_eq_getElem?_getD, List.getElem?_drop, List.getD_eq_getElem?_getD]
  have e : ltr ((bsOf s).drop p) = ltrN (s.size - p) (s.get! p).toNat (s.get! (p + 1)).toNat (s.get! (p + 2)).toNat (s.get! (p + 3)).toNat := by
    unfold ltr
    rw [hg, hg, hg, hg, bs_get, bs_get, bs_get, bs_get, List.length_drop, bsOf_length]; rfl
  have := ltrN_decode (s.size - p) (s.get! p).toNat (s.get! (p + 1)).toNat (s.get! (p + 2)).toNat (s.get! (p + 3)).toNat (UInt8.toNat_lt _) (UInt8.toNat_lt _) (UInt8.toNat_lt _) (UInt8.toNat_lt _)
  rw [← Lib.decode_at] at this
  unfold stp
  rw [e]
  refine ⟨this.1, ?_⟩
  rw [this.2, bs_get, bs_get, bs_get]
end Go.Proofs.Ytacgkoiejmbeiaa
