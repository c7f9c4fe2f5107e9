
/- KMath, KText, KRef, KStrs. -/
import Derived.Test.YtcmkpmilnplhmaaWT1
import Derived.Deep.QuietTactic
import Derived.BigQuiet
import Derived.Lib.Strings
/- The plain mathematics of the order of texts: what two begin with, which is less, the shortest beginning above another, the last byte that can grow. -/
namespace Go.Proofs.Ytcmkpmilnplhmaa
open Go.RowKit

/-- How many bytes both begin with. -/
def cmn : List Nat → List Nat → Nat
  | x :: l, y :: m => if x = y then cmn l m + 1 else 0
  | _, _ => 0
/-- The order. -/
def cpl : List Nat → List Nat → Int
  | [], [] => 0
  | [], _ :: _ => -1
  | _ :: _, [] => 1
  | x :: l, y :: m => if x < y then -1 else if y < x then 1 else cpl l m
/-- The order of two numbers. -/
def cpn (x y : Nat) : Int := if x < y then -1 else if y < x then 1 else 0

theorem cmn_le (a b : List Nat) : cmn a b ≤ a.length ∧ cmn a b ≤ b.length := by
  induction a generalizing b with
  | nil => simp [cmn]
  | cons x l ih => cases b with
    | nil => simp [cmn]
    | cons y m =>
      have := ih m
      simp only [cmn]
      split
      · simp; omega
      · simp
theorem cmn_is (a b : List Nat) (k : Nat) (ha : k ≤ a.length) (hb : k ≤ b.length) (he : ∀ j, j < k → a.getD j 0 = b.getD j 0) (hx : k = a.length ∨ k = b.length ∨ a.getD k 0 ≠ b.getD k 0) : cmn a b = k := by
  induction a generalizing b k with
  | nil => simp at ha; subst ha; simp [cmn]
  | cons x l ih => cases b with
    | nil => simp at hb; subst hb; simp [cmn]
    | cons y m =>
      cases k with
      | zero =>
        simp at hx
        simp [cmn, hx]
      | succ k =>
        have h0 := he 0 (by omega)
        simp at h0
        simp only [cmn, if_pos h0]
        rw [ih m k (by simpa using ha) (by simpa using hb) (fun j hj => by have := he (j + 1) (by omega); simpa using this) (by simpa using hx)]
theorem cmn_same (a b : List Nat) (j : Nat) (h : j < cmn a b) : a.getD j 0 = b.getD j 0 := by
  induction a generalizing b j with
  | nil => simp [cmn] at h
  | cons x l ih => cases b with
    | nil => simp [cmn] at h
    | cons y m =>
      simp only [cmn] at h
      split at h
      · cases j with
        | zero => simp; assumption
        | succ j => have := ih m j (by omega); simpa using this
      · omega
theorem cmn_comm (a b : List Nat) : cmn a b = cmn b a := by
  induction a generalizing b with
  | nil => cases b <;> simp [cmn]
  | cons x l ih => cases b with
    | nil => simp [cmn]
    | cons y m => simp only [cmn, ih m]; by_cases h : x = y <;> simp [h, eq_comm]

theorem cpl_refl (a : List Nat) : cpl a a = 0 := by
  induction a with
  | nil => rfl
  | cons x l ih => simp [cpl, ih]
theorem cpl_neg (a b : List Nat) : cpl b a = -cpl a b := by
  induction a generalizing b with
  | nil => cases b <;> simp [cpl]
  | cons x l ih => cases b with
    | nil => simp [cpl]
    | cons y m =>
      simp only [cpl]
      by_cases h : x < y
      · rw [if_neg (by omega), if_pos h, if_pos h]; rfl
      · by_cases h2 : y < x
        · rw [if_pos h2, if_neg h, if_pos h2]
        · rw [if_neg h2, if_neg h, if_neg h, if_neg h2, ih]
theorem cpl_vals (a b : List Nat) : cpl a b = -1 ∨ cpl a b = 0 ∨ cpl a b = 1 := by
  induction a generalizing b with
  | nil => cases b <;> simp [cpl]
  | cons x l ih => cases b with
    | nil => simp [cpl]
    | cons y m =>
      simp only [cpl]
      split
      · exact .inl rfl
      · split
        · exact .inr (.inr rfl)
        · exact ih m
theorem cpl_eq (a b : List Nat) : cpl a b = 0 ↔ a = b := by
  constructor
  · intro h
    induction a generalizing b with
    | nil => cases b with
      | nil => rfl
      | cons => simp [cpl] at h
    | cons x l ih => cases b with
      | nil => simp [cpl] at h
      | cons y m =>
        simp only [cpl] at h
        split at h
        · omega
        · split at h
          · omega
          · rw [ih m h, show x = y by omega]
  · rintro rfl; exact cpl_refl _
theorem cpl_trans (a b c : List Nat) (h1 : cpl a b ≤ 0) (h2 : cpl b c ≤ 0) : cpl a c ≤ 0 := by
  induction a generalizing b c with
  | nil => cases c <;> simp [cpl]
  | cons x l ih => cases b with
    | nil => simp [cpl] at h1
    | cons y m => cases c with
      | nil => simp [cpl] at h2
      | cons z n =>
        simp only [cpl] at h1 h2 ⊢
        by_cases a1 : x < y
        · by_cases a2 : z < y
          · rw [if_neg (by omega), if_pos a2] at h2; omega
          · rw [if_pos (by omega)]; omega
        · rw [if_neg a1] at h1
          by_cases a2 : y < x
          · rw [if_pos a2] at h1; omega
          · rw [if_neg a2] at h1
            have e : x = y := by omega
            subst e
            by_cases a3 : x < z
            · rw [if_pos a3]; omega
            · rw [if_neg a3] at h2 ⊢
              by_cases a4 : z < x
              · rw [if_pos a4] at h2; omega
              · rw [if_neg a4] at h2 ⊢
                exact ih m n h1 h2
/-- How the code tells the order: by the first byte in which they part. -/
theorem cpl_at (a b : List Nat) : cpl a b = if cmn a b < a.length ∧ cmn a b < b.length then cpn (a.getD (cmn a b) 0) (b.getD (cmn a b) 0) else cpn a.length b.length := by
  induction a generalizing b with
  | nil => cases b <;> simp [cpl, cmn, cpn]
  | cons x l ih => cases b with
    | nil => simp [cpl, cmn, cpn]
    | cons y m =>
      by_cases h : x = y
      · subst h
        have e : cmn (x :: l) (x :: m) = cmn l m + 1 := by simp [cmn]
        have e2 : cpl (x :: l) (x :: m) = cpl l m := by simp [cpl]
        rw [e, e2, ih m]
        simp only [List.length_cons, Nat.add_lt_add_iff_right, List.getD_cons_succ, cpn]
      · have e : cmn (x :: l) (y :: m) = 0 := by simp [cmn, h]
        rw [e]
        simp only [cpl, List.length_cons, Nat.zero_lt_succ, and_self, if_true, List.getD_cons_zero, cpn]
        by_cases h1 : x < y
        · rw [if_pos h1, if_pos h1]
        · rw [if_neg h1, if_neg h1, if_pos (by omega), if_pos (by omega)]
/-- How the document tells it: byte by byte. -/
theorem cpl_skip (a b : List Nat) (k : Nat) (ha : k ≤ a.length) (hb : k ≤ b.length) (he : ∀ j, j < k → a.getD j 0 = b.getD j 0) : cpl a b = cpl (a.drop k) (b.drop k) := by
  induction k generalizing a b with
  | zero => simp
  | succ k ih =>
    cases a with
    | nil => simp at ha
    | cons x l => cases b with
      | nil => simp at hb
      | cons y m =>
        have h0 := he 0 (by omega)
        simp at h0
        subst h0
        have e2 : cpl (x :: l) (x :: m) = cpl l m := by simp [cpl]
        rw [e2, ih l m (by simpa using ha) (by simpa using hb) (fun j hj => by have := he (j + 1) (by omega); simpa using this)]
        simp
theorem drop_at (a : List Nat) (k : Nat) (h : k < a.length) : a.drop k = a.getD k 0 :: a.drop (k + 1) := by
  rw [List.drop_eq_getElem_cons h, List.getD_eq_getElem?_getD, List.getElem?_eq_getElem h]; rfl
theorem cpl_lt (a b : List Nat) (k : Nat) (ha : k < a.length) (hb : k < b.length) (he : ∀ j, j < k → a.getD j 0 = b.getD j 0) (h : a.getD k 0 < b.getD k 0) : cpl a b = -1 := by
  rw [cpl_skip a b k (by omega) (by omega) he, drop_at a k ha, drop_at b k hb]; simp only [cpl, if_pos h]
theorem cpl_gt (a b : List Nat) (k : Nat) (ha : k < a.length) (hb : k < b.length) (he : ∀ j, j < k → a.getD j 0 = b.getD j 0) (h : b.getD k 0 < a.getD k 0) : cpl a b = 1 := by
  rw [cpl_neg b a, cpl_lt b a k hb ha (fun j hj => (he j hj).symm) h]; rfl
theorem cpl_len (a b : List Nat) (k : Nat) (hk : k = a.length ∨ k = b.length) (ha : k ≤ a.length) (hb : k ≤ b.length) (he : ∀ j, j < k → a.getD j 0 = b.getD j 0) : cpl a b = cpn a.length b.length := by
  rw [cpl_at, cmn_is a b k ha hb he (by omega), if_neg (by omega)]

/-- The order over bounds: what is greater than 'a' among b's beginnings. -/
theorem cpl_take_le (a b : List Nat) (i : Nat) (h : i ≤ cmn a b) : cpl (b.take i) a ≤ 0 := by
  induction a generalizing b i with
  | nil => simp [cmn] at h; subst h; simp [cpl]
  | cons x l ih => cases b with
    | nil => simp [cpl]
    | cons y m => cases i with
      | zero => simp [cpl]
      | succ i =>
        simp only [cmn] at h
        split at h
        · rename_i e; subst e
          have := ih m i (by omega)
          simpa [cpl] using this
        · omega
theorem cpl_take_gt (a b : List Nat) (hlt : cpl a b = -1) : cpl (b.take (cmn a b + 1)) a = 1 ∧ cmn a b < b.length := by
  induction a generalizing b with
  | nil => cases b with
    | nil => simp [cpl] at hlt
    | cons y m => simp [cmn, cpl]
  | cons x l ih => cases b with
    | nil => simp [cpl] at hlt
    | cons y m =>
      by_cases h : x = y
      · subst h
        have e2 : cpl (x :: l) (x :: m) = cpl l m := by simp [cpl]
        rw [e2] at hlt
        have e : cmn (x :: l) (x :: m) = cmn l m + 1 := by simp [cmn]
        rw [e]
        have := ih m hlt
        refine ⟨?_, by simp; omega⟩
        rw [List.take_succ_cons]
        have e3 : ∀ p q : List Nat, cpl (x :: p) (x :: q) = cpl p q := by intro p q; simp [cpl]
        rw [e3]; exact this.1
      · have e : cmn (x :: l) (y :: m) = 0 := by simp [cmn, h]
        have h1 : x < y := by
          simp only [cpl] at hlt
          by_cases h1 : x < y
          · exact h1
          · rw [if_neg h1, if_pos (by omega)] at hlt; omega
        rw [e]
        simp [cpl, show ¬ y < x by omega, h1]
theorem cpl_take_no (a b : List Nat) (i : Nat) (h : 0 ≤ cpl a b) : cpl (b.take i) a ≤ 0 := by
  have h1 : cpl b a ≤ 0 := by rw [cpl_neg a b]; omega
  have h2 : cpl (b.take i) b ≤ 0 := by
    clear h h1
    induction b generalizing i with
    | nil => simp [cpl]
    | cons y m ih => cases i with
      | zero => simp [cpl]
      | succ i => have := ih i; simpa [cpl] using this
  exact cpl_trans _ _ _ h2 h1

/-- One more than the place of the last byte below 255; 0: there is none. -/
def low : List Nat → Nat
  | [] => 0
  | x :: l => if low l = 0 then (if x < 255 then 1 else 0) else low l + 1
theorem low_le (l : List Nat) : low l ≤ l.length := by
  induction l with
  | nil => simp [low]
  | cons x l ih => simp only [low]; split <;> (try split) <;> simp <;> omega
theorem low_is (l : List Nat) (k : Nat) (hk : k < l.length) (hx : l.getD k 0 < 255) (hr : ∀ j, k < j → j < l.length → 255 ≤ l.getD j 0) : low l = k + 1 := by
  induction l generalizing k with
  | nil => simp at hk
  | cons x l ih => cases k with
    | zero =>
      have h0 : low l = 0 := by
        clear ih hk hx
        induction l with
        | nil => rfl
        | cons y m ih2 =>
          have h1 := hr 1 (by omega) (by simp)
          simp at h1
          have := ih2 (fun j hj hl => by
            cases j with
            | zero => omega
            | succ j => have := hr (j + 2) (by omega) (by simp at hl ⊢; omega); simpa using this)
          simp [low, this]; omega
      simp at hx
      simp [low, h0, hx]
    | succ k =>
      have := ih k (by simpa using hk) (by simpa using hx) (fun j hj hl => by have := hr (j + 1) (by omega) (by simpa using hl); simpa using this)
      simp [low, this]
theorem low_none (l : List Nat) (hr : ∀ j, j < l.length → 255 ≤ l.getD j 0) : low l = 0 := by
  induction l with
  | nil => rfl
  | cons y m ih =>
    have h1 := hr 0 (by simp)
    simp at h1
    have := ih (fun j hl => by have := hr (j + 1) (by simpa using hl); simpa using this)
    simp [low, this]; omega
theorem low_snoc (l : List Nat) (x : Nat) : low (l ++ [x]) = if x < 255 then l.length + 1 else low l := by
  induction l with
  | nil => simp [low]
  | cons y m ih =>
    simp only [List.cons_append, low, ih, List.length_cons]
    by_cases h : x < 255
    · simp [h]
    · simp [h]
theorem low_at (l : List Nat) (h : low l ≠ 0) : l.getD (low l - 1) 0 < 255 := by
  induction l with
  | nil => simp [low] at h
  | cons y m ih =>
    simp only [low] at h ⊢
    by_cases h0 : low m = 0
    · rw [if_pos h0] at h ⊢
      split at h
      · rename_i h1; rw [if_pos h1]; simpa using h1
      · omega
    · rw [if_neg h0]
      have := ih h0
      rw [show low m + 1 - 1 = (low m - 1) + 1 by omega, List.getD_cons_succ]; exact this
/-- The least text above all that begin with l, where low l is not 0. -/
def up (l : List Nat) : List Nat := l.take (low l - 1) ++ [l.getD (low l - 1) 0 + 1]
/-- A text begins with l just if it is not less than it and less than what is above. -/
theorem up_begins (l s : List Nat) (ho : ∀ x ∈ s, x < 256) (hp : ∀ x ∈ l, x < 256) : (l.length ≤ s.length ∧ s.take l.length = l) ↔ (0 ≤ cpl s l ∧ (low l = 0 ∨ cpl s (up l) < 0)) := by
  induction l generalizing s with
  | nil =>
    have : 0 ≤ cpl s [] := by cases s <;> simp [cpl]
    simp [low, this]
  | cons x l ih =>
    cases s with
    | nil => simp [cpl]
    | cons y s =>
      have hy := ho y (by simp)
      have hx := hp x (by simp)
      have := ih s (fun z hz => ho z (by simp [hz])) (fun z hz => hp z (by simp [hz]))
      simp only [List.length_cons, Nat.add_le_add_iff_right, List.take_succ_cons, List.cons.injEq, cpl]
      by_cases h0 : low l = 0
      · have hl : low (x :: l) = if x < 255 then 1 else 0 := by simp [low, h0]
        rw [hl]
        by_cases h255 : x < 255
        · rw [if_pos h255]
          have eu : up (x :: l) = [x + 1] := by simp [up, hl, h255]
          rw [eu]
          simp only [cpl]
          by_cases a1 : y < x
          · simp [a1]; omega
          · by_cases a2 : x < y
            · rw [if_neg a1, if_pos a2, if_neg (by omega)]
              by_cases a3 : x + 1 < y
              · simp [a3]; omega
              · rw [if_neg a3]
                have : 0 ≤ cpl s [] := by cases s <;> simp [cpl]
                constructor
                · rintro ⟨_, h, _⟩; omega
                · rintro ⟨_, h⟩; rcases h with h | h <;> omega
            · have e : y = x := by omega
              subst e
              rw [if_neg a1, if_neg a1, if_pos (by omega)]
              rw [h0] at this
              simp only [true_or, and_true] at this
              constructor
              · rintro ⟨b1, _, b2⟩; exact ⟨this.mp ⟨b1, b2⟩, .inr (by omega)⟩
              · rintro ⟨b1, _⟩; have := this.mpr b1; exact ⟨this.1, rfl, this.2⟩
        · rw [if_neg h255]
          have e255 : x = 255 := by omega
          rw [h0] at this
          simp only [true_or, and_true] at this ⊢
          by_cases a1 : y < x
          · simp [a1]; omega
          · have e : y = x := by omega
            subst e
            rw [if_neg a1, if_neg a1]
            constructor
            · rintro ⟨b1, _, b2⟩; exact this.mp ⟨b1, b2⟩
            · intro b1; have := this.mpr b1; exact ⟨this.1, rfl, this.2⟩
      · have hl : low (x :: l) = low l + 1 := by simp [low, h0]
        have eu : up (x :: l) = x :: up l := by
          have e1 : low l + 1 - 1 = (low l - 1) + 1 := by omega
          simp only [up, hl, e1, List.take_succ_cons, List.getD_cons_succ, List.cons_append]
        rw [hl, eu]
        simp only [cpl]
        by_cases a1 : y < x
        · simp [a1]; omega
        · by_cases a2 : x < y
          · simp [a1, a2]; omega
          · have e : y = x := by omega
            subst e
            rw [if_neg a1, if_neg a1, if_neg a1, if_neg a1]
            simp only [h0, false_or] at this
            constructor
            · rintro ⟨b1, _, b2⟩; have := this.mp ⟨b1, b2⟩; exact ⟨this.1, .inr this.2⟩
            · rintro ⟨b1, b2⟩
              have := this.mpr ⟨b1, by rcases b2 with b | b; omega; exact b⟩
              exact ⟨this.1, rfl, this.2⟩
end Go.Proofs.Ytcmkpmilnplhmaa

/- What key.Check, Value, Common and Compare tell, and what the document's own tell. -/
namespace Go.Proofs.Ytcmkpmilnplhmaa
open Go.RowKit

theorem bs_at (s : ByteArray) (k : Nat) (h : k < s.size) : s[k].toNat = (bsOf s).getD k 0 := by
  have h' : k < s.data.toList.length := by simpa using h
  unfold bsOf
  rw [List.getD_eq_getElem?_getD, List.getElem?_map, List.getElem?_eq_getElem h']
  rfl
theorem bs_nil {s : ByteArray} (h : s.size = 0) : s.toList.isEmpty = true := by
  rw [Lib.toList_data, List.isEmpty_iff, ← List.length_eq_zero_iff, ← Lib.size_eq]; exact h
theorem bs_not_nil {s : ByteArray} (h : s.size ≠ 0) : s.toList.isEmpty = false := by
  rw [Lib.toList_data, ← Bool.not_eq_true, List.isEmpty_iff, ← List.length_eq_zero_iff, ← Lib.size_eq]; exact h
theorem bs_extract (s : ByteArray) (k : Nat) : bsOf (s.extract 0 k) = (bsOf s).take k := by
  unfold bsOf; rw [Lib.extract_data]; simp [List.map_take]
theorem bs_inj {a b : ByteArray} (h : bsOf a = bsOf b) : a = b := by rw [← strOf_bsOf a, ← strOf_bsOf b, h]


def ekey (n : Nat) : Nat := if n = 0 ∨ 16 < n then 50 else 0
def evalu (n : Nat) : Nat := if 32 < n then 51 else 0
theorem ekey_no {n : Nat} (h : n = 0 ∨ 16 < n) : ekey n = 50 := if_pos h
theorem ekey_ok {n : Nat} (h : n ≠ 0) (k : n ≤ 16) : ekey n = 0 := if_neg (by omega)
theorem ekey_lt (n : Nat) : ekey n < 256 := by unfold ekey; split <;> omega
theorem evalu_lt (n : Nat) : evalu n < 256 := by unfold evalu; split <;> omega

set_option maxRecDepth 100000 in
set_option maxHeartbeats 400000 in
theorem kcheck_any (s : ByteArray) (w : World) :
    Calls Try.prog 45 #[.string s] w fun e w' => e = .returned (.int .i64 (ekey s.size : Nat)) ∧ w' = w := by
  by_cases h0 : s.size = 0
  · have he := bs_nil h0
    rw [ekey_no (.inl h0)]
    clear h0
    go_enter Try.func45, Try.ntmps45
    go_wp2
    go_ret
    exact ⟨rfl, rfl⟩
  · have he := bs_not_nil h0
    by_cases h1 : 16 < s.size
    · rw [ekey_no (.inr h1)]
      have h2 : (16 : Int) < (s.size : Int) := by omega
      clear h0
      go_enter Try.func45, Try.ntmps45
      go_wp2
      go_ret
      exact ⟨rfl, rfl⟩
    · rw [ekey_ok h0 (by omega)]
      have h2 : ¬ (16 : Int) < (s.size : Int) := by omega
      clear h0
      go_enter Try.func45, Try.ntmps45
      go_wp2
      go_ret
      exact ⟨rfl, rfl⟩
set_option maxRecDepth 100000 in
set_option maxHeartbeats 400000 in
theorem kvalue_any (s : ByteArray) (w : World) :
    Calls Try.prog 46 #[.string s] w fun e w' => e = .returned (.int .i64 (evalu s.size : Nat)) ∧ w' = w := by
  by_cases h1 : 32 < s.size
  · rw [show evalu s.size = 51 from if_pos h1]
    have h2 : (32 : Int) < (s.size : Int) := by omega
    go_enter Try.func46, Try.ntmps46
    go_wp2
    go_ret
    exact ⟨rfl, rfl⟩
  · rw [show evalu s.size = 0 from if_neg h1]
    have h2 : ¬ (32 : Int) < (s.size : Int) := by omega
    go_enter Try.func46, Try.ntmps46
    go_wp2
    go_ret
    exact ⟨rfl, rfl⟩
theorem bne_nat {x y : Nat} (h : ((x : Int) != (y : Int)) = true) : x ≠ y := by
  intro e; subst e; simp at h
theorem beq_nat {x y : Nat} (h : ((x : Int) != (y : Int)) = false) : x = y := by
  have : (x : Int) = (y : Int) := by simpa using h
  omega

set_option maxRecDepth 100000 in
set_option maxHeartbeats 1000000 in
theorem common_any (a b : ByteArray) (ha : a.size ≤ maxLen) (hb : b.size ≤ maxLen) (w : World) :
    Calls Try.prog 72 #[.string a, .string b] w fun e w' => e = .returned (.int .i64 (cmn (bsOf a) (bsOf b) : Nat)) ∧ Fr (fun _ => False) w w' := by
  unfold maxLen at ha hb
  by_cases hm : (b.size : Int) < (a.size : Int)
  all_goals
    go_enter Try.func72, Try.ntmps72
    go_wp2
    go_loopw [13, 6] (fun i _ wr => ∃ k : Nat, k ≤ a.size ∧ k ≤ b.size ∧ i = .int .i64 k ∧ Hid (∀ j, j < k → (bsOf a).getD j 0 = (bsOf b).getD j 0) ∧ Fr (fun _ => False) w wr) (fun i _ _ => a.size - (intOf i).toNat)
    case atStart => exact ⟨0, by omega, by omega, rfl, (fun j h => by omega), Fr.refl _ _⟩
    case round =>
      obtain ⟨k, hk, hk2, rfl, HE, hf⟩ := hrel
      by_cases hlt : k < a.size ∧ k < b.size
      · obtain ⟨h1, h2⟩ := hlt
        have HA : Hid (a[k].toNat = (bsOf a).getD k 0) := bs_at a k h1
        have HB : Hid (b[k].toNat = (bsOf b).getD k 0) := bs_at b k h2
        go_wp2
        go_quiet (fail)
        go_wp2
        · go_ret
          exact ⟨ret_int (by rw [cmn_is (bsOf a) (bsOf b) k (by rw [bsOf_length]; omega) (by rw [bsOf_length]; omega) HE.out (.inr (.inr (by rw [← HA.out, ← HB.out]; exact bne_nat ‹_›)))]), hf.drewN _⟩
        · go_roundw
          case rel =>
            refine ⟨k + 1, by omega, by omega, by go_num, fun j hj => ?_, hf.drewN _⟩
            rcases Nat.lt_or_ge j k with h | h
            · exact HE.out j h
            · have e : j = k := by omega
              rw [e, ← HA.out, ← HB.out]; exact beq_nat ‹_›
          case measure => simp [intOf]; omega
      · have e : k = a.size ∨ k = b.size := by omega
        have HM : Hid (k = a.size ∨ k = b.size) := e
        have hge : ¬ (k : Int) < (a.size : Int) ∨ ¬ (k : Int) < (b.size : Int) := by omega
        clear e hlt
        go_wp2
        go_ret
        exact ⟨ret_int (by rw [cmn_is (bsOf a) (bsOf b) k (by rw [bsOf_length]; omega) (by rw [bsOf_length]; omega) HE.out (by rw [bsOf_length, bsOf_length]; have := HM.out; omega)]; omega), hf⟩

set_option maxRecDepth 100000 in
set_option maxHeartbeats 400000 in
theorem cmpb_any (x y : Nat) (w : World) :
    Calls Try.prog 73 #[.int .u8 x, .int .u8 y] w fun e w' => e = .returned (.int .i64 (cpn x y)) ∧ w' = w := by
  by_cases h1 : x < y
  · rw [show cpn x y = -1 from if_pos h1]
    go_enter Try.func73, Try.ntmps73
    go_wp2
    go_ret
    exact ⟨rfl, rfl⟩
  · by_cases h2 : y < x
    · rw [show cpn x y = 1 by unfold cpn; rw [if_neg h1, if_pos h2]]
      go_enter Try.func73, Try.ntmps73
      go_wp2
      go_ret
      exact ⟨rfl, rfl⟩
    · rw [show cpn x y = 0 by unfold cpn; rw [if_neg h1, if_neg h2]]
      go_enter Try.func73, Try.ntmps73
      go_wp2
      go_ret
      exact ⟨rfl, rfl⟩
set_option maxRecDepth 100000 in
set_option maxHeartbeats 400000 in
theorem cmpi_any (x y : Nat) (w : World) :
    Calls Try.prog 74 #[.int .i64 x, .int .i64 y] w fun e w' => e = .returned (.int .i64 (cpn x y)) ∧ w' = w := by
  by_cases h1 : x < y
  · rw [show cpn x y = -1 from if_pos h1]
    go_enter Try.func74, Try.ntmps74
    go_wp2
    go_ret
    exact ⟨rfl, rfl⟩
  · by_cases h2 : y < x
    · rw [show cpn x y = 1 by unfold cpn; rw [if_neg h1, if_pos h2]]
      go_enter Try.func74, Try.ntmps74
      go_wp2
      go_ret
      exact ⟨rfl, rfl⟩
    · rw [show cpn x y = 0 by unfold cpn; rw [if_neg h1, if_neg h2]]
      go_enter Try.func74, Try.ntmps74
      go_wp2
      go_ret
      exact ⟨rfl, rfl⟩

set_option maxRecDepth 100000 in
set_option maxHeartbeats 1000000 in
theorem compare_any (a b : ByteArray) (ha : a.size ≤ maxLen) (hb : b.size ≤ maxLen) (w : World) :
    Calls Try.prog 67 #[.string a, .string b] w fun e w' => e = .returned (.int .i64 (cpl (bsOf a) (bsOf b))) ∧ Fr (fun _ => False) w w' := by
  have hc := cpl_at (bsOf a) (bsOf b)
  have hl := cmn_le (bsOf a) (bsOf b)
  have common := common_any a b ha hb w
  unfold maxLen at ha hb
  rw [bsOf_length, bsOf_length] at hc hl
  obtain ⟨n, hn⟩ : ∃ n, n = cmn (bsOf a) (bsOf b) := ⟨_, rfl⟩
  rw [← hn] at hc hl common
  clear hn
  have l1 := hl.1
  have l2 := hl.2
  clear hl
  by_cases hx : n < a.size ∧ n < b.size
  · rw [if_pos hx] at hc
    obtain ⟨h1, h2⟩ := hx
    have HA := bs_at a n h1
    have HB := bs_at b n h2
    rw [← HA, ← HB] at hc
    have HC : Hid (cpl (bsOf a) (bsOf b) = cpn a[n].toNat b[n].toNat) := hc
    clear hc HA HB
    go_enter Try.func67, Try.ntmps67
    go_wp2_with fail
    refine common.mono ?_
    rintro e w1 ⟨rfl, hf⟩
    clear common
    go_wp2
    go_quiet ((go_at_call 73; exact Calls.quiet_of_same (cmpb_any _ _ _)))
    go_wp2
    go_ret
    exact ⟨ret_int HC.out.symm, hf.drewN _⟩
  · rw [if_neg hx] at hc
    have HC : Hid (cpl (bsOf a) (bsOf b) = cpn a.size b.size) := hc
    clear hc
    by_cases h1 : n < a.size
    · have h2 : ¬ (n : Int) < (b.size : Int) := by omega
      have h3 : decide ((n : Int) < (b.size : Int)) = false := by simpa using h2
      clear hx
      go_enter Try.func67, Try.ntmps67
      go_wp2_with fail
      refine common.mono ?_
      rintro e w1 ⟨rfl, hf⟩
      clear common
      go_wp2_with (go_at_call 74; refine (cmpi_any _ _ _).mono ?_; rintro e w2 ⟨rfl, rfl⟩)
      go_ret
      exact ⟨ret_int HC.out.symm, hf⟩
    · have h2 : ¬ (n : Int) < (a.size : Int) := by omega
      have h3 : decide ((n : Int) < (a.size : Int)) = false := by simpa using h2
      clear hx
      go_enter Try.func67, Try.ntmps67
      go_wp2_with fail
      refine common.mono ?_
      rintro e w1 ⟨rfl, hf⟩
      clear common
      go_wp2_with (go_at_call 74; refine (cmpi_any _ _ _).mono ?_; rintro e w2 ⟨rfl, rfl⟩)
      go_ret
      exact ⟨ret_int HC.out.symm, hf⟩
end Go.Proofs.Ytcmkpmilnplhmaa

/- What the document's own Common and Compare tell. -/
namespace Go.Proofs.Ytcmkpmilnplhmaa
open Go.RowKit

end Go.Proofs.Ytcmkpmilnplhmaa

/- Lists of texts in memory. -/
namespace Go.Proofs.Ytcmkpmilnplhmaa
open Go.RowKit

/-- A slice of texts as a walk sees it. -/
structure Strs (w : World) (a : Option Addr) (cap : Nat) (l : List ByteArray) : Prop where
  le : l.length ≤ cap
  max : cap ≤ 9223372036854775807
  text : ∀ s ∈ l, s.size ≤ maxLen
  at_ : l = [] ∨ ∃ b off, a = some ⟨b, off, none⟩ ∧ b < w.heap.size ∧ ∀ i, i < l.length → w.cell? ⟨b, off + i, none⟩ = some (.string (l.getD i ByteArray.empty))
theorem Strs.fr {S : Nat → Prop} {w w' : World} {a : Option Addr} {cap : Nat} {l : List ByteArray} (h : Strs w a cap l) (f : Fr S w w') (hn : ∀ b, b < w.heap.size → (∃ o, a = some ⟨b, o, none⟩) → ¬ S b) : Strs w' a cap l := by
  refine ⟨h.le, h.max, h.text, ?_⟩
  rcases h.at_ with h0 | ⟨b, off, ha, hb, hc⟩
  · exact .inl h0
  · refine .inr ⟨b, off, ha, Nat.lt_of_lt_of_le hb f.size, fun i hi => ?_⟩
    rw [f.cell (p := ⟨b, off + i, none⟩) hb (hn b hb ⟨off, ha⟩)]
    exact hc i hi
theorem Strs.same {w w' : World} {a : Option Addr} {cap : Nat} {l : List ByteArray} (h : Strs w a cap l) (f : Fr (fun _ => False) w w') : Strs w' a cap l := h.fr f (fun _ _ _ f => f)
theorem strs_get {l : List ByteArray} {i : Nat} (h : i < l.length) : l.getD i ByteArray.empty ∈ l := by
  rw [List.getD_eq_getElem?_getD, List.getElem?_eq_getElem h]; exact List.getElem_mem h
end Go.Proofs.Ytcmkpmilnplhmaa
