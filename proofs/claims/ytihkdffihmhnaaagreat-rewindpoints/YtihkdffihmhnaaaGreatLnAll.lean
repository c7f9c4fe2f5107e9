
/- The line's texts. -/
import Derived.Test.YtihkdffihmhnaaaGreatBB33
import Derived.Test.YtihkdffihmhnaaaGreatProg
import Derived.Test.YtihkdffihmhnaaaGreatBB13
import Derived.Deep.DeepCutAuto
import Derived.Deep.QuietTactic
import Derived.BigQuiet
import Derived.Deep.RegionHeld3
import Derived.Test.YtihkdffihmhnaaaGreatBB9
import Derived.Deep.Strs
/- Timelines as lists of marks: which are right, the epoch at an LSN, the fork, and what is cut and grown. -/
namespace Go.Proofs.YtihkdffihmhnaaaGreat.Ln

abbrev Mk := Int × Int
def numB (n : Int) : Bool := decide (0 ≤ n) && decide (n ≤ 1099511627776)
/-- A mark that may follow another one. -/
def okm (last : Int) (a : Mk) (first : Bool) (m : Mk) : Bool := (!first || decide (m.2 = 1)) && (decide (a.2 < m.2) && (decide (m.2 ≤ last) && (decide (a.1 < m.1) && numB m.1)))
def risB (last : Int) : Mk → Bool → List Mk → Bool
  | _, _, [] => true
  | a, f, m :: l => okm last a f m && risB last m false l
def linB (ms : List Mk) (last : Int) : Bool := numB last && ((decide (last = 0) == decide (ms.length = 0)) && risB last (-1, 0) true ms)
theorem numB_iff {n : Int} : numB n = true ↔ 0 ≤ n ∧ n ≤ 1099511627776 := by simp [numB]
/-- Marks rise. -/
def Up (ms : List Mk) : Prop := ms.Pairwise (fun a b => a.1 < b.1 ∧ a.2 < b.2)
structure Right (ms : List Mk) (last : Int) : Prop where
  last0 : 0 ≤ last
  last1 : last ≤ 1099511627776
  none : last = 0 ↔ ms = []
  up : Up ms
  head : ∀ m l, ms = m :: l → m.2 = 1
  each : ∀ m ∈ ms, 1 ≤ m.2 ∧ m.2 ≤ last ∧ 0 ≤ m.1 ∧ m.1 ≤ 1099511627776
theorem ris_of {last : Int} : ∀ (ms : List Mk) (a : Mk) (f : Bool), 0 ≤ a.2 → risB last a f ms = true → Up ms ∧ (∀ m ∈ ms, a.1 < m.1 ∧ a.2 < m.2 ∧ m.2 ≤ last ∧ 0 ≤ m.1 ∧ m.1 ≤ 1099511627776) ∧ (f = true → ∀ m l, ms = m :: l → m.2 = 1) := by
  intro ms
  induction ms with
  | nil => intro a f _ _; exact ⟨List.Pairwise.nil, by simp, by simp⟩
  | cons m l ih =>
    intro a f ha h
    simp only [risB, Bool.and_eq_true, okm, decide_eq_true_eq, Bool.or_eq_true, Bool.not_eq_true', numB] at h
    obtain ⟨⟨h1, h2, h3, h4, h5⟩, h6⟩ := h
    obtain ⟨i1, i2, _⟩ := ih m false (by omega) h6
    refine ⟨List.pairwise_cons.2 ⟨fun b hb => ⟨(i2 b hb).1, (i2 b hb).2.1⟩, i1⟩, ?_, ?_⟩
    · intro b hb
      rcases List.mem_cons.1 hb with rfl | hb
      · exact ⟨h4, h2, h3, h5.1, h5.2⟩
      · obtain ⟨k1, k2, k3, k4, k5⟩ := i2 b hb
        exact ⟨by omega, by omega, k3, k4, k5⟩
    · rintro rfl m' l' e
      simp at e
      obtain ⟨rfl, rfl⟩ := e
      simpa using h1
theorem linB_right {ms : List Mk} {last : Int} (h : linB ms last = true) : Right ms last := by
  simp only [linB, Bool.and_eq_true] at h
  obtain ⟨h1, h2, h3⟩ := h
  obtain ⟨k1, k2⟩ := numB_iff.1 h1
  obtain ⟨i1, i2, i3⟩ := ris_of ms _ _ (by simp) h3
  refine ⟨k1, k2, ?_, i1, i3 rfl, fun m hm => ?_⟩
  · rw [beq_iff_eq, decide_eq_decide] at h2
    rw [h2]; exact List.length_eq_zero_iff
  · obtain ⟨j1, j2, j3, j4, j5⟩ := i2 m hm
    exact ⟨by have : (0 : Int) < m.2 := j2; omega, j3, j4, j5⟩
theorem ris_to {last : Int} : ∀ (ms : List Mk) (a : Mk) (f : Bool), Up ms → (∀ m ∈ ms, a.1 < m.1 ∧ a.2 < m.2 ∧ m.2 ≤ last ∧ 0 ≤ m.1 ∧ m.1 ≤ 1099511627776) → (f = true → ∀ m l, ms = m :: l → m.2 = 1) → risB last a f ms = true := by
  intro ms
  induction ms with
  | nil => intros; rfl
  | cons m l ih =>
    intro a f hu he hf
    obtain ⟨u1, u2⟩ := List.pairwise_cons.1 hu
    obtain ⟨k1, k2, k3, k4, k5⟩ := he m (by simp)
    simp only [risB, Bool.and_eq_true, okm, decide_eq_true_eq, Bool.or_eq_true, Bool.not_eq_true', numB]
    refine ⟨⟨?_, k2, k3, k1, k4, k5⟩, ih m false u2 (fun b hb => ?_) (by simp)⟩
    · cases f
      · exact .inl rfl
      · exact .inr (hf rfl m l rfl)
    · obtain ⟨j1, j2, j3, j4, j5⟩ := he b (by simp [hb])
      exact ⟨(u1 b hb).1, (u1 b hb).2, j3, j4, j5⟩
theorem right_linB {ms : List Mk} {last : Int} (h : Right ms last) : linB ms last = true := by
  simp only [linB, Bool.and_eq_true]
  refine ⟨numB_iff.2 ⟨h.last0, h.last1⟩, ?_, ris_to ms _ _ h.up (fun m hm => ?_) (fun _ => h.head)⟩
  · rw [beq_iff_eq, decide_eq_decide, h.none]; exact List.length_eq_zero_iff.symm
  · obtain ⟨j1, j2, j3, j4⟩ := h.each m hm
    exact ⟨show (-1 : Int) < m.1 by omega, show (0 : Int) < m.2 by omega, j2, j3, j4⟩
theorem linB_iff {ms : List Mk} {last : Int} : linB ms last = true ↔ Right ms last := ⟨linB_right, right_linB⟩

/-- The epoch at an LSN. -/
def epF (ms : List Mk) (x : Int) : Int := match (ms.filter fun m => decide (m.2 ≤ x)).getLast? with | none => 0 | some m => m.1
theorem epF_snoc (ms : List Mk) (m : Mk) (x : Int) : epF (ms ++ [m]) x = if m.2 ≤ x then m.1 else epF ms x := by
  unfold epF
  rw [List.filter_append]
  by_cases h : m.2 ≤ x
  · rw [if_pos h]
    simp [h]
  · rw [if_neg h]
    simp [h]
theorem epF_nil (x : Int) : epF [] x = 0 := rfl
/-- How many marks are not above an LSN. -/
def upN : List Mk → Int → Nat
  | [], _ => 0
  | m :: l, x => if m.2 < x then upN l x + 1 else 0
theorem upN_le (ms : List Mk) (x : Int) : upN ms x ≤ ms.length := by
  induction ms with
  | nil => exact Nat.le_refl _
  | cons s l ih => unfold upN; split <;> simp <;> omega
theorem take_upN {ms : List Mk} (hu : Up ms) (x : Int) : ms.take (upN ms (x + 1)) = ms.filter fun m => decide (m.2 ≤ x) := by
  induction ms with
  | nil => rfl
  | cons m l ih =>
    obtain ⟨u1, u2⟩ := List.pairwise_cons.1 hu
    unfold upN
    by_cases h : m.2 ≤ x
    · rw [if_pos (by omega), List.take_succ_cons, ih u2, List.filter_cons_of_pos (by simpa using h)]
    · rw [if_neg (by omega), List.take_zero]
      symm
      rw [List.filter_eq_nil_iff]
      intro b hb
      rcases List.mem_cons.1 hb with rfl | hb
      · simpa using h
      · have := (u1 b hb).2
        simp; omega
theorem epF_at {ms : List Mk} (hu : Up ms) (x : Int) : epF ms x = if upN ms (x + 1) = 0 then 0 else (ms.getD (upN ms (x + 1) - 1) (0, 0)).1 := by
  have hl := upN_le ms (x + 1)
  unfold epF
  rw [← take_upN hu x]
  split
  · rename_i h
    rw [List.getLast?_eq_none_iff, List.take_eq_nil_iff] at h
    rcases h with h | rfl
    · rw [if_pos h]
    · rw [if_pos (by simp [upN])]
  · rename_i m h
    have h0 : upN ms (x + 1) ≠ 0 := fun e => by rw [e] at h; simp at h
    rw [if_neg h0, List.getD_eq_getElem?_getD]
    rw [List.getLast?_eq_getElem?, List.getElem?_take, List.length_take, Nat.min_eq_left hl, if_pos (by omega)] at h
    rw [h]; rfl
theorem up_lt {ms : List Mk} (hu : Up ms) {i j : Nat} {a b : Mk} (hij : i < j) (hi : ms[i]? = some a) (hj : ms[j]? = some b) : a.1 < b.1 ∧ a.2 < b.2 := by
  obtain ⟨h1, e1⟩ := List.getElem?_eq_some_iff.1 hi
  obtain ⟨h2, e2⟩ := List.getElem?_eq_some_iff.1 hj
  have := List.pairwise_iff_getElem.1 hu i j h1 h2 hij
  rw [e1, e2] at this
  exact this
theorem upN_lt {ls : List Mk} {x : Int} (hr : Up ls) {i : Nat} {s : Mk} (hi : ls[i]? = some s) : s.2 < x ↔ i < upN ls x := by
  induction ls generalizing i with
  | nil => simp at hi
  | cons t l ih =>
    unfold upN
    cases i with
    | zero =>
      simp at hi; subst hi
      split
      · rename_i h; simp [h]
      · rename_i h; simp [h]
    | succ i =>
      have hi' : l[i]? = some s := by simpa using hi
      split
      · rw [ih (List.pairwise_cons.1 hr).2 hi']; omega
      · rename_i h
        have := (up_lt hr (i := 0) (j := i + 1) (by omega) rfl hi).2
        constructor
        · intro e; omega
        · intro e; omega
theorem upN_eq {ls : List Mk} {x : Int} (hr : Up ls) {k : Nat} (hk : k ≤ ls.length) (h1 : ∀ i s, ls[i]? = some s → i < k → s.2 < x) (h2 : ∀ i s, ls[i]? = some s → k ≤ i → ¬ s.2 < x) : upN ls x = k := by
  have hle := upN_le ls x
  rcases Nat.lt_trichotomy (upN ls x) k with e | e | e
  · obtain ⟨s, hs⟩ : ∃ s, ls[upN ls x]? = some s := ⟨_, List.getElem?_eq_getElem (by omega)⟩
    have := (upN_lt hr hs).1 (h1 _ s hs e)
    omega
  · exact e
  · obtain ⟨s, hs⟩ : ∃ s, ls[k]? = some s := ⟨_, List.getElem?_eq_getElem (by omega)⟩
    exact absurd ((upN_lt hr hs).2 e) (h2 _ s hs (Nat.le_refl _))
theorem right_len {ms : List Mk} {last : Int} (h : Right ms last) : ms.length ≤ 1099511627776 := by
  have key : ∀ (l : List Mk) (lo : Int), Up l → (∀ m ∈ l, lo < m.2 ∧ m.2 ≤ last) → lo ≤ last → (l.length : Int) ≤ last - lo := by
    intro l
    induction l with
    | nil => intro lo _ _ h; simp; omega
    | cons m l ih =>
      intro lo hu he _
      obtain ⟨u1, u2⟩ := List.pairwise_cons.1 hu
      have h1 := he m (by simp)
      have := ih m.2 u2 (fun b hb => ⟨(u1 b hb).2, (he b (by simp [hb])).2⟩) h1.2
      simp only [List.length_cons]; omega
  have := key ms 0 h.up (fun m hm => ⟨by have := (h.each m hm).1; omega, (h.each m hm).2.1⟩) h.last0
  have := h.last1
  omega
/-- The epoch at a mark's own LSN. -/
theorem epF_mem {ms : List Mk} (hu : Up ms) {m : Mk} (hm : m ∈ ms) : epF ms m.2 = m.1 := by
  obtain ⟨i, hi, he⟩ := List.getElem_of_mem hm
  have hs : ms[i]? = some m := by rw [List.getElem?_eq_getElem hi, he]
  have hk : upN ms (m.2 + 1) = i + 1 := upN_eq hu (by omega) (fun j s hj hji => by
    rcases Nat.lt_or_ge j i with h | h
    · have := (up_lt hu h hj hs).2; omega
    · have : j = i := by omega
      subst this; rw [hs] at hj; cases hj; omega) (fun j s hj hij => by
    have := (up_lt hu (i := i) (j := j) (by omega) hs hj).2; omega)
  rw [epF_at hu, hk, if_neg (by omega), Nat.add_sub_cancel, List.getD_eq_getElem?_getD, hs]; rfl
/-- What comes behind an LSN says nothing of it. -/
theorem epF_app (c d : List Mk) (x : Int) (h : ∀ m ∈ d, x < m.2) : epF (c ++ d) x = epF c x := by
  unfold epF
  rw [List.filter_append]
  have : d.filter (fun m => decide (m.2 ≤ x)) = [] := by
    rw [List.filter_eq_nil_iff]; intro m hm; have := h m hm; simp; omega
  rw [this, List.append_nil]
theorem epF_lt {c : List Mk} {x e : Int} (h : ∀ m ∈ c, m.1 < e) (h0 : c ≠ [] ∨ 0 < e) (hin : ∀ m ∈ c, m.2 ≤ x) : epF c x < e := by
  unfold epF
  have : c.filter (fun m => decide (m.2 ≤ x)) = c := by
    rw [List.filter_eq_self]; intro m hm; simpa using hin m hm
  rw [this]
  split
  · rename_i hn
    rcases h0 with h0 | h0
    · exact absurd (List.getLast?_eq_none_iff.1 hn) h0
    · exact h0
  · rename_i m hm
    exact h m (List.mem_of_getLast? hm)

/-- How many marks two have in common. -/
def shN : List Mk → List Mk → Nat
  | m :: a, n :: b => if m = n then shN a b + 1 else 0
  | _, _ => 0
def hdF (la : Int) : List Mk → Int
  | [] => la
  | m :: _ => m.2 - 1
def ahF (ms : List Mk) (last : Int) (i : Nat) : Int := match ms[i]? with | some m => m.2 - 1 | none => last
def forkF (a b : List Mk) (la lb : Int) : Int := min (ahF a la (shN a b)) (ahF b lb (shN a b))
theorem shN_comm (a b : List Mk) : shN a b = shN b a := by
  induction a generalizing b with
  | nil => cases b <;> rfl
  | cons m a ih =>
    cases b with
    | nil => rfl
    | cons n b =>
      unfold shN
      by_cases h : m = n
      · rw [if_pos h, if_pos h.symm, ih]
      · rw [if_neg h, if_neg (fun e => h e.symm)]
theorem fork_comm (a b : List Mk) (la lb : Int) : forkF a b la lb = forkF b a lb la := by
  unfold forkF; rw [shN_comm a b, Int.min_comm]
/-- What two have in common, and what parts them. -/
theorem sh_split (a b : List Mk) : ∃ c a' b', a = c ++ a' ∧ b = c ++ b' ∧ shN a b = c.length ∧ (∀ m n k l, a' = m :: k → b' = n :: l → m ≠ n) := by
  induction a generalizing b with
  | nil => exact ⟨[], [], b, rfl, rfl, by cases b <;> rfl, by simp⟩
  | cons m a ih =>
    cases b with
    | nil => exact ⟨[], m :: a, [], rfl, rfl, rfl, by simp⟩
    | cons n b =>
      by_cases h : m = n
      · obtain ⟨c, a', b', h1, h2, h3, h4⟩ := ih b
        refine ⟨m :: c, a', b', by rw [h1]; rfl, by rw [h2, h]; rfl, ?_, h4⟩
        unfold shN; rw [if_pos h, h3]; rfl
      · refine ⟨[], m :: a, n :: b, rfl, rfl, ?_, ?_⟩
        · unfold shN; rw [if_neg h]; rfl
        · intro m' n' k l e1 e2
          simp at e1 e2
          rw [← e1.1, ← e2.1]; exact h
structure Fork (a b : List Mk) (la lb f : Int) : Prop where
  low : 0 ≤ f
  fa : f ≤ la
  fb : f ≤ lb
  ina : ∀ m ∈ a, m.2 ≤ f → m ∈ b
  inb : ∀ m ∈ b, m.2 ≤ f → m ∈ a
  same : a.filter (fun m => decide (m.2 ≤ f)) = b.filter (fun m => decide (m.2 ≤ f))
  part : f < la → f < lb → (∃ m ∈ a, m.2 = f + 1 ∧ epF b (f + 1) ≠ m.1) ∨ (∃ m ∈ b, m.2 = f + 1 ∧ epF a (f + 1) ≠ m.1)
theorem ah_app {c a' : List Mk} {la : Int} : ahF (c ++ a') la c.length = hdF la a' := by
  unfold ahF
  rw [List.getElem?_append_right (Nat.le_refl _), Nat.sub_self]
  cases a' <;> rfl
theorem fork_half {c a' b' : List Mk} {la lb f : Int} (ha : Right (c ++ a') la) (hb : Right (c ++ b') lb) (hne : ∀ m n k l, a' = m :: k → b' = n :: l → m ≠ n) {m : Mk} {k : List Mk} (e : a' = m :: k) (hm : m.2 = f + 1) (hb' : ∀ n l, b' = n :: l → m.2 ≤ n.2) (hlb : f < lb) (h0 : 0 ≤ f) : epF (c ++ b') (f + 1) ≠ m.1 := by
  subst e
  have hc1 : ∀ n ∈ c, n.1 < m.1 ∧ n.2 < m.2 := fun n hn => (List.pairwise_append.1 ha.up).2.2 n hn m (by simp)
  have base : (c ≠ [] ∨ 0 < m.1) → epF c (f + 1) ≠ m.1 := fun h => by
    have := epF_lt (c := c) (x := f + 1) (e := m.1) (fun n hn => (hc1 n hn).1) h (fun n hn => by have := (hc1 n hn).2; omega)
    omega
  cases b' with
  | nil =>
    rw [List.append_nil]
    refine base (.inl fun e => ?_)
    subst e
    have := hb.none.2 rfl
    omega
  | cons n l =>
    have hmn := hb' n l rfl
    rcases Int.lt_or_eq_of_le hmn with h | h
    · have hl : ∀ x ∈ n :: l, f + 1 < x.2 := fun x hx => by
        rcases List.mem_cons.1 hx with rfl | hx
        · omega
        · have := (List.pairwise_cons.1 (List.pairwise_append.1 hb.up).2.1).1 x hx
          omega
      rw [epF_app _ _ _ hl]
      refine base (.inl fun e => ?_)
      subst e
      have h1 := ha.head m k rfl
      have h2 := hb.head n l rfl
      omega
    · have := epF_mem hb.up (m := n) (by simp)
      rw [← hm, h, this]
      intro e
      exact hne m n k l rfl rfl (Prod.ext e.symm h)
theorem behind_f {c a' : List Mk} {la f : Int} (ha : Right (c ++ a') la) (hf : f ≤ hdF la a') : ∀ m ∈ a', f < m.2 := by
  intro m hm
  cases a' with
  | nil => simp at hm
  | cons n l =>
    simp only [hdF] at hf
    rcases List.mem_cons.1 hm with rfl | hm
    · omega
    · have := (List.pairwise_cons.1 (List.pairwise_append.1 ha.up).2.1).1 m hm
      omega
theorem fork_is {a b : List Mk} {la lb : Int} (ha : Right a la) (hb : Right b lb) : Fork a b la lb (forkF a b la lb) := by
  obtain ⟨c, a', b', rfl, rfl, hs, hne⟩ := sh_split a b
  have hf : forkF (c ++ a') (c ++ b') la lb = min (hdF la a') (hdF lb b') := by
    unfold forkF
    rw [hs, ah_app, ah_app]
  rw [hf]
  obtain ⟨A, hA⟩ : ∃ A, A = hdF la a' := ⟨_, rfl⟩
  obtain ⟨B, hB⟩ : ∃ B, B = hdF lb b' := ⟨_, rfl⟩
  rw [← hA, ← hB]
  have hA1 : A ≤ la ∧ 0 ≤ A := by
    cases a' with
    | nil => rw [hA]; exact ⟨Int.le_refl _, ha.last0⟩
    | cons m k => rw [hA]; have := ha.each m (by simp); constructor <;> (simp only [hdF]; omega)
  have hB1 : B ≤ lb ∧ 0 ≤ B := by
    cases b' with
    | nil => rw [hB]; exact ⟨Int.le_refl _, hb.last0⟩
    | cons m k => rw [hB]; have := hb.each m (by simp); constructor <;> (simp only [hdF]; omega)
  have hA2 := behind_f ha (f := min A B) (by rw [← hA]; omega)
  have hB2 := behind_f hb (f := min A B) (by rw [← hB]; omega)
  have fa : ∀ (d : List Mk), (∀ m ∈ d, min A B < m.2) → d.filter (fun m => decide (m.2 ≤ min A B)) = [] := fun d hd => by
    rw [List.filter_eq_nil_iff]; intro m hm; have := hd m hm; rw [decide_eq_true_eq]; omega
  refine ⟨by omega, by omega, by omega, ?_, ?_, ?_, ?_⟩
  · intro m hm hle
    rcases List.mem_append.1 hm with h | h
    · exact List.mem_append_left _ h
    · have := hA2 m h; omega
  · intro m hm hle
    rcases List.mem_append.1 hm with h | h
    · exact List.mem_append_left _ h
    · have := hB2 m h; omega
  · rw [List.filter_append, List.filter_append, fa _ hA2, fa _ hB2]
  · intro h1 h2
    rcases Int.le_total A B with hab | hab
    · left
      cases a' with
      | nil => simp only [hdF] at hA; omega
      | cons m k =>
        simp only [hdF] at hA
        refine ⟨m, by simp, by omega, fork_half ha hb hne rfl (by omega) (fun n l e => ?_) h2 (by omega)⟩
        subst e
        simp only [hdF] at hB
        omega
    · right
      cases b' with
      | nil => simp only [hdF] at hB; omega
      | cons m k =>
        simp only [hdF] at hB
        refine ⟨m, by simp, by omega, fork_half hb ha (fun x y k l e1 e2 e => hne y x l k e2 e1 e.symm) rfl (by omega) (fun n l e => ?_) h1 (by omega)⟩
        subst e
        simp only [hdF] at hA
        omega
/-- The document's way to the fork. -/
def swF (o : List Mk) (ms : List Mk) (out : Int) : Int := ms.foldl (fun u m => if m.2 ≤ u ∧ epF o m.2 ≠ m.1 then m.2 - 1 else u) out
theorem swF_snoc (o ms : List Mk) (m : Mk) (out : Int) : swF o (ms ++ [m]) out = if m.2 ≤ swF o ms out ∧ epF o m.2 ≠ m.1 then m.2 - 1 else swF o ms out := by
  unfold swF; rw [List.foldl_append]; rfl
theorem sw_ge {o : List Mk} {f : Int} : ∀ (ms : List Mk) (out : Int), (∀ m ∈ ms, m.2 ≤ f → epF o m.2 = m.1) → f ≤ out → f ≤ swF o ms out := by
  intro ms
  induction ms with
  | nil => intro out _ h; exact h
  | cons m l ih =>
    intro out hm h
    show f ≤ swF o l (if m.2 ≤ out ∧ epF o m.2 ≠ m.1 then m.2 - 1 else out)
    refine ih _ (fun x hx => hm x (by simp [hx])) ?_
    split
    · rename_i hc
      rcases Int.lt_or_le f m.2 with h1 | h1
      · omega
      · exact absurd (hm m (by simp) h1) hc.2
    · exact h
theorem sw_le {o : List Mk} : ∀ (ms : List Mk) (out : Int), swF o ms out ≤ out := by
  intro ms
  induction ms with
  | nil => intro out; exact Int.le_refl _
  | cons m l ih =>
    intro out
    show swF o l (if m.2 ≤ out ∧ epF o m.2 ≠ m.1 then m.2 - 1 else out) ≤ out
    have := ih (if m.2 ≤ out ∧ epF o m.2 ≠ m.1 then m.2 - 1 else out)
    split at this <;> rename_i hc
    · rw [if_pos hc]; omega
    · rw [if_neg hc]; omega
theorem sw_hit {o : List Mk} {m : Mk} : ∀ (ms : List Mk) (out : Int), m ∈ ms → epF o m.2 ≠ m.1 → swF o ms out ≤ m.2 - 1 := by
  intro ms
  induction ms with
  | nil => intro out h; simp at h
  | cons n l ih =>
    intro out hm hne
    show swF o l (if n.2 ≤ out ∧ epF o n.2 ≠ n.1 then n.2 - 1 else out) ≤ m.2 - 1
    rcases List.mem_cons.1 hm with rfl | hm
    · refine Int.le_trans (sw_le l _) ?_
      split
      · omega
      · rename_i hc
        have : ¬ m.2 ≤ out := fun h => hc ⟨h, hne⟩
        omega
    · exact ih _ hm hne
theorem rfork_eq {a b : List Mk} {la lb : Int} (ha : Right a la) (hb : Right b lb) : swF a b (swF b a (if lb < la then lb else la)) = forkF a b la lb := by
  have F := fork_is ha hb
  have hab : (if lb < la then lb else la) = min la lb := by split <;> omega
  rw [hab]
  have h1 : forkF a b la lb ≤ swF b a (min la lb) := sw_ge a _ (fun m hm hle => epF_mem hb.up (F.ina m hm hle)) (by have := F.fa; have := F.fb; omega)
  have h2 : forkF a b la lb ≤ swF a b (swF b a (min la lb)) := sw_ge b _ (fun m hm hle => epF_mem ha.up (F.inb m hm hle)) h1
  have h3 := sw_le (o := a) b (swF b a (min la lb))
  have h4 := sw_le (o := b) a (min la lb)
  by_cases hc : forkF a b la lb < la ∧ forkF a b la lb < lb
  · rcases F.part hc.1 hc.2 with ⟨m, hm, he, hne⟩ | ⟨m, hm, he, hne⟩
    · have := sw_hit a (min la lb) hm (by rw [he]; exact hne)
      omega
    · have := sw_hit b (swF b a (min la lb)) hm (by rw [he]; exact hne)
      omega
  · have := F.fa; have := F.fb
    omega
def newB (a b : List Mk) (la lb : Int) : Bool := decide (epF b lb < epF a la) || (decide (epF a la = epF b lb) && decide (lb < la))
/-- What grows. -/
def groF (ms : List Mk) (last ep n : Int) : List Mk := if 0 < n ∧ (last = 0 ∨ epF ms last < ep) then ms ++ [(ep, last + 1)] else ms
theorem epF_low {ms : List Mk} {last : Int} (h : Right ms last) : ∀ m ∈ ms, m.1 ≤ epF ms last := by
  intro m hm
  have he : epF ms last = match ms.getLast? with | none => 0 | some m => m.1 := by
    unfold epF
    have : ms.filter (fun m => decide (m.2 ≤ last)) = ms := by
      rw [List.filter_eq_self]; intro x hx; simpa using (h.each x hx).2.1
    rw [this]
  rcases List.eq_nil_or_concat ms with rfl | ⟨l, x, rfl⟩
  · simp at hm
  · rw [he, List.concat_eq_append] at *
    simp only [List.getLast?_append, List.getLast?_singleton, Option.some_or]
    rcases List.mem_append.1 hm with h1 | h1
    · have := (List.pairwise_append.1 h.up).2.2 m h1 x (by simp)
      omega
    · simp at h1; subst h1; exact Int.le_refl _
theorem gro_right {ms : List Mk} {last ep n : Int} (h : Right ms last) (h0 : 0 ≤ n) (h1 : last + n ≤ 1099511627776) (h2 : 0 ≤ ep) (h3 : ep ≤ 1099511627776) : Right (groF ms last ep n) (last + n) := by
  have hl := h.last0
  unfold groF
  by_cases hc : 0 < n ∧ (last = 0 ∨ epF ms last < ep)
  · rw [if_pos hc]
    refine ⟨by omega, h1, ⟨fun e => by omega, fun e => by simp at e⟩, ?_, ?_, ?_⟩
    · refine List.pairwise_append.2 ⟨h.up, List.pairwise_singleton _ _, fun m hm x hx => ?_⟩
      simp at hx; subst hx
      have e1 := h.each m hm
      have e2 := epF_low h m hm
      rcases hc.2 with e | e
      · rw [h.none.1 e] at hm; simp at hm
      · constructor
        · show m.1 < ep; omega
        · show m.2 < last + 1; omega
    · intro m l e
      cases ms with
      | nil =>
        simp at e
        have := h.none.2 rfl
        rw [← e.1]; show last + 1 = 1; omega
      | cons x k =>
        simp at e
        have := h.head x k rfl
        rw [← e.1]; exact this
    · intro m hm
      rcases List.mem_append.1 hm with h1' | h1'
      · have := h.each m h1'; omega
      · simp at h1'; subst h1'
        exact ⟨show 1 ≤ last + 1 by omega, show last + 1 ≤ last + n by omega, h2, h3⟩
  · rw [if_neg hc]
    have hn : last = 0 → n = 0 := fun e => by
      rcases Int.lt_or_eq_of_le h0 with h | h
      · exact absurd ⟨h, .inl e⟩ hc
      · exact h.symm
    refine ⟨by omega, h1, ⟨fun e => h.none.1 (by omega), fun e => ?_⟩, h.up, h.head, fun m hm => ?_⟩
    · have := h.none.2 e; have := hn this; omega
    · have := h.each m hm; omega
theorem gro_ep {ms : List Mk} {last ep n : Int} (h : Right ms last) (h0 : 0 ≤ n) (h2 : 0 ≤ ep) : epF ms last ≤ epF (groF ms last ep n) (last + n) := by
  unfold groF
  by_cases hc : 0 < n ∧ (last = 0 ∨ epF ms last < ep)
  · rw [if_pos hc, epF_snoc, if_pos (show last + 1 ≤ last + n by omega)]
    rcases hc.2 with e | e
    · rw [h.none.1 e, epF_nil]; exact h2
    · exact Int.le_of_lt e
  · rw [if_neg hc]
    have : epF ms (last + n) = epF ms last := by
      unfold epF
      rw [List.filter_congr (q := fun m => decide (m.2 ≤ last))]
      intro m hm
      have := (h.each m hm).2.1
      rw [decide_eq_decide]; omega
    rw [this]; exact Int.le_refl _
theorem gro_fork {ms : List Mk} {last ep n : Int} (h0 : 0 ≤ n) : forkF ms (groF ms last ep n) last (last + n) = last := by
  have self : ∀ (c d : List Mk), shN c (c ++ d) = c.length := by
    intro c
    induction c with
    | nil => intro d; cases d <;> rfl
    | cons m c ih => intro d; show (if m = m then shN c (c ++ d) + 1 else 0) = _; rw [if_pos rfl, ih]; rfl
  unfold groF
  by_cases hc : 0 < n ∧ (last = 0 ∨ epF ms last < ep)
  · rw [if_pos hc]
    unfold forkF
    rw [self, ah_app]
    have := ah_app (c := ms) (a' := []) (la := last)
    rw [List.append_nil] at this
    rw [this]
    simp only [hdF]
    omega
  · rw [if_neg hc]
    unfold forkF
    have h1 := self ms []
    have h2 := ah_app (c := ms) (a' := []) (la := last)
    have h3 := ah_app (c := ms) (a' := []) (la := last + n)
    rw [List.append_nil] at h1 h2 h3
    rw [h1, h2, h3]
    simp only [hdF]
    omega
end Go.Proofs.YtihkdffihmhnaaaGreat.Ln

/- Marks and timelines in memory; which numbers and timelines are right, in the program and in the document. -/
namespace Go.Proofs.YtihkdffihmhnaaaGreat.Ln
open Go.RowKit
open Go.Proofs.YtihkdffihmhnaaaGreat.Ln

theorem ret_bool {x y : Bool} (h : x = y) : Ending.returned (.bool x) = .returned (.bool y) := by rw [h]
theorem Fr.seq' {a b c : World} (h : Fr (fun _ => False) a b) (k : Fr (fun _ => False) b c) : Fr (fun _ => False) a c := h.trans k (fun _ _ f => f)
theorem Fr.box (w : World) (o : Obj) : Fr (fun _ => False) w (w.alloc o) := (Fr.refl _ w).alloc o
/-- A struct of two cells. -/
def Two (w : World) (b : Nat) (t : TypeId) (x y : Value) : Prop := w.heap[b]? = some (.cells #[x, y] t (0, 0))
theorem Two.cells {w : World} {b : Nat} {t : TypeId} {x y : Value} (h : Two w b t x y) : w.cell? ⟨b, 0, none⟩ = some x ∧ w.cell? ⟨b, 1, none⟩ = some y ∧ w.frozen? ⟨b, 0, none⟩ = false ∧ w.frozen? ⟨b, 1, none⟩ = false := by
  unfold Two at h
  refine ⟨?_, ?_, ?_, ?_⟩ <;> simp [World.cell?, World.frozen?, h]
theorem Two.lt {w : World} {b : Nat} {t : TypeId} {x y : Value} (h : Two w b t x y) : b < w.heap.size := (Array.getElem?_eq_some_iff.1 h).1
theorem Two.fr {S : Nat → Prop} {w w' : World} {b : Nat} {t : TypeId} {x y : Value} (h : Two w b t x y) (f : Fr S w w') (hn : ¬ S b) : Two w' b t x y := by
  unfold Two; rw [f.block b h.lt hn]; exact h
theorem Two.new (w : World) (t : TypeId) (x y : Value) : Two (w.alloc (.cells #[x, y] t)) w.heap.size t x y := heap_alloc_new w _
theorem Two.set0 {w : World} {b : Nat} {t : TypeId} {x y : Value} (h : Two w b t x y) (u : Value) : Two (w.setCell ⟨b, 0, none⟩ u) b t u y := by
  have hlt := h.lt
  have h' : w.heap[b] = .cells #[x, y] t (0, 0) := by unfold Two at h; simpa [Array.getElem?_eq_getElem hlt] using h
  show (w.heap.modify b _)[b]? = _
  rw [Array.getElem?_eq_getElem (by rw [Array.size_modify]; exact hlt), Array.getElem_modify_self, h']
  rfl
theorem Two.set1 {w : World} {b : Nat} {t : TypeId} {x y : Value} (h : Two w b t x y) (u : Value) : Two (w.setCell ⟨b, 1, none⟩ u) b t x u := by
  have hlt := h.lt
  have h' : w.heap[b] = .cells #[x, y] t (0, 0) := by unfold Two at h; simpa [Array.getElem?_eq_getElem hlt] using h
  show (w.heap.modify b _)[b]? = _
  rw [Array.getElem?_eq_getElem (by rw [Array.size_modify]; exact hlt), Array.getElem_modify_self, h']
  rfl
theorem Two.fin {w : World} {b : Nat} {t : TypeId} {x y : Value} (h : Two w b t x y) (u v : Value) :
    Two ((w.setCell ⟨b, 0, none⟩ u).setCell ⟨b, 1, none⟩ v) b t u v ∧ Fr (fun i => i = b) w ((w.setCell ⟨b, 0, none⟩ u).setCell ⟨b, 1, none⟩ v) :=
  ⟨(h.set0 u).set1 v, ((Fr.refl (fun i => i = b) w).setCell (p := ⟨b, 0, none⟩) (fun _ => rfl) u).setCell (p := ⟨b, 1, none⟩) (fun _ => rfl) v⟩

/-- A mark's cells. -/
def mkC (m : Mk) : List Value := [.int .i64 m.1, .int .i64 m.2]
theorem mkC_length (m : Mk) : (mkC m).length = 2 := rfl
theorem mkC_one (m : Mk) : ∀ u ∈ mkC m, u.oneCell' = true := by
  intro u hu
  simp only [mkC, List.mem_cons, List.not_mem_nil, or_false] at hu
  rcases hu with h | h <;> (subst h; rfl)
theorem mkCs_one (ms : List Mk) : ∀ u ∈ ms.flatMap mkC, u.oneCell' = true := by
  intro u hu
  obtain ⟨m, _, h⟩ := List.mem_flatMap.1 hu
  exact mkC_one m u h
theorem mkCs_len (ms : List Mk) : (ms.flatMap mkC).length = ms.length * 2 := by
  induction ms with
  | nil => rfl
  | cons m l ih => rw [List.flatMap_cons, List.length_append, ih, mkC_length, List.length_cons]; omega
theorem mk_range {w : World} {b o : Nat} {m : Mk} (h : w.rangeAt b o (mkC m)) : w.cell? ⟨b, o, none⟩ = some (.int .i64 m.1) ∧ w.cell? ⟨b, o + 1, none⟩ = some (.int .i64 m.2) := ⟨h 0 _ rfl, h 1 _ rfl⟩
theorem infoMark : (Tryz.prog.info? 174).map (fun i => (i.zero, i.size, i.bytes)) = some (some (.agg #[.int .i64 0, .int .i64 0]), 2, 16) := by kernel_rfl
/-- A slice of marks as a walk sees it. -/
structure Mks (w : World) (a : Option Addr) (cap : Nat) (ms : List Mk) : Prop where
  le : ms.length ≤ cap
  max : cap ≤ 9223372036854775807
  at_ : ms = [] ∨ ∃ b off, a = some ⟨b, off, none⟩ ∧ b < w.heap.size ∧ ∀ (i : Nat) m, ms[i]? = some m → w.rangeAt b (off + i * 2) (mkC m)
theorem Mks.fr {S : Nat → Prop} {w w' : World} {a : Option Addr} {cap : Nat} {ms : List Mk} (h : Mks w a cap ms) (f : Fr S w w') (hn : ∀ b, b < w.heap.size → ¬ S b) : Mks w' a cap ms := by
  refine ⟨h.le, h.max, ?_⟩
  rcases h.at_ with h0 | ⟨b, off, rfl, hb, hc⟩
  · exact .inl h0
  · exact .inr ⟨b, off, rfl, Nat.lt_of_lt_of_le hb f.size, fun i r hr => range_fr (hc i r hr) f (hn b hb)⟩
theorem Mks.fr' {w w0 w' : World} {X : Nat} {a : Option Addr} {cap : Nat} {ms : List Mk} (h : Mks w a cap ms) (f0 : Fr (fun _ => False) w w0) (f : Fr (fun k => k = X) w0 w') (hX : w.heap.size ≤ X) : Mks w' a cap ms := h.fr (f0.trans f (fun i hi e => by omega) : Fr (fun _ => False) w w') (fun _ _ f => f)
theorem Mks.same {w w' : World} {a : Option Addr} {cap : Nat} {ms : List Mk} (h : Mks w a cap ms) (f : Fr (fun _ => False) w w') : Mks w' a cap ms := h.fr f (fun _ _ f => f)
theorem Mks.some {w : World} {a : Option Addr} {cap : Nat} {ms : List Mk} (h : Mks w a cap ms) (hn : 0 < ms.length) : ∃ b off, a = some ⟨b, off, none⟩ ∧ b < w.heap.size ∧ ∀ (i : Nat) m, ms[i]? = some m → w.rangeAt b (off + i * 2) (mkC m) := by
  rcases h.at_ with h0 | h
  · rw [h0] at hn; simp at hn
  · exact h
theorem Mks.nil (w : World) (a : Option Addr) : Mks w a 0 [] := ⟨Nat.le_refl _, by omega, .inl rfl⟩
theorem mks_range {w : World} {b off : Nat} {ms : List Mk} (h : ∀ (i : Nat) m, ms[i]? = some m → w.rangeAt b (off + i * 2) (mkC m)) : w.rangeAt b off (ms.flatMap mkC) := by
  induction ms generalizing off with
  | nil => intro j v hv; simp at hv
  | cons m l ih =>
    rw [List.flatMap_cons]
    have h0 := h 0 m rfl
    rw [Nat.zero_mul, Nat.add_zero] at h0
    refine range_join h0 ?_
    rw [mkC_length]
    refine ih (fun i x hx => ?_)
    have := h (i + 1) x (by simpa using hx)
    rwa [show off + (i + 1) * 2 = off + 2 + i * 2 by omega] at this
theorem Mks.from {w : World} {a : Option Addr} {cap : Nat} {ms : List Mk} (h : Mks w a cap ms) : From w a (ms.flatMap mkC) := by
  rcases h.at_ with h0 | ⟨b, off, rfl, hb, hc⟩
  · exact .inl (by rw [h0]; rfl)
  · exact .inr ⟨b, off, rfl, mks_range hc⟩
theorem Has.mks {w : World} {a : Option Addr} {n c : Nat} {ms : List Mk} (hn : n = ms.length) (h : Has w 2 (.slice a n c) n (ms.flatMap mkC)) : Mks w a c ms := by
  subst hn
  obtain ⟨a', c', he, h1, h2⟩ := h.slice
  simp only [Value.slice.injEq, true_and] at he
  obtain ⟨rfl, rfl⟩ := he
  refine ⟨h1, by unfold maxLen at h2; exact h2, ?_⟩
  by_cases h0 : ms.length = 0
  · exact .inl (List.length_eq_zero_iff.1 h0)
  · obtain ⟨g, cap, hv, hg, _, _, _, hr⟩ := h.form (by omega)
    simp only [Value.slice.injEq, true_and] at hv
    obtain ⟨rfl, rfl⟩ := hv
    refine .inr ⟨g, 0, rfl, hg, fun i m hm => ?_⟩
    have key : ∀ (l : List Mk) (o i : Nat) (m : Mk), l[i]? = .some m → w.rangeAt g o (l.flatMap mkC) → w.rangeAt g (o + i * 2) (mkC m) := by
      intro l
      induction l with
      | nil => intro o i m h; simp at h
      | cons x l ih =>
        intro o i m h hr
        cases i with
        | zero =>
          simp at h; subst h
          rw [Nat.zero_mul, Nat.add_zero]
          exact fun j v hv => hr j v (by rw [List.flatMap_cons, List.getElem?_append_left (List.getElem?_eq_some_iff.1 hv).1]; exact hv)
        | succ i =>
          have := ih (o + 2) i m (by simpa using h) (fun j v hv => by
            have := hr (2 + j) v (by rw [List.flatMap_cons, List.getElem?_append_right (by rw [mkC_length]; omega), mkC_length, Nat.add_sub_cancel_left]; exact hv)
            rwa [← Nat.add_assoc] at this)
          rwa [show o + 2 + i * 2 = o + (i + 1) * 2 by omega] at this
    exact key ms 0 i m hm hr

theorem isNumber_any (x : Int) (w : World) : Calls Tryz.prog 204 #[.int .i64 x] w fun e w' => e = .returned (.bool (numB x)) ∧ w' = w := by
  by_cases h1 : 0 ≤ x
  · by_cases h2 : x ≤ 1099511627776
    · rw [show numB x = true by simp [numB, h1, h2]]
      go_enter Tryz.func204, Tryz.ntmps204
      go_wp2
      go_ret
      exact ⟨rfl, rfl⟩
    · rw [show numB x = false by simp [numB, h2]]
      go_enter Tryz.func204, Tryz.ntmps204
      go_wp2
      go_ret
      exact ⟨rfl, rfl⟩
  · rw [show numB x = false by simp [numB, h1]]
    have h2 : decide (0 ≤ x) = false := by simpa using h1
    go_enter Tryz.func204, Tryz.ntmps204
    go_wp2
    go_ret
    exact ⟨rfl, rfl⟩
theorem rin_any (x : Int) (w : World) : Calls Tryz.prog 152 #[.int .i64 x] w fun e w' => e = .returned (.bool (numB x)) ∧ w' = w := by
  by_cases h1 : 0 ≤ x
  · by_cases h2 : x ≤ 1099511627776
    · rw [show numB x = true by simp [numB, h1, h2]]
      go_enter Tryz.func152, Tryz.ntmps152
      go_wp2
      go_ret
      exact ⟨rfl, rfl⟩
    · rw [show numB x = false by simp [numB, h2]]
      go_enter Tryz.func152, Tryz.ntmps152
      go_wp2
      go_ret
      exact ⟨rfl, rfl⟩
  · rw [show numB x = false by simp [numB, h1]]
    have h2 : decide (0 ≤ x) = false := by simpa using h1
    go_enter Tryz.func152, Tryz.ntmps152
    go_wp2
    go_ret
    exact ⟨rfl, rfl⟩
theorem ris_drop {ms : List Mk} {k : Nat} {m : Mk} (h : ms[k]? = some m) (last : Int) (p : Mk) (f : Bool) : risB last p f (ms.drop k) = (okm last p f m && risB last m false (ms.drop (k + 1))) := by
  have hj := (List.getElem?_eq_some_iff.1 h).1
  rw [List.drop_eq_getElem_cons hj, (List.getElem?_eq_some_iff.1 h).2]
  rfl
end Go.Proofs.YtihkdffihmhnaaaGreat.Ln

/- Which timelines are right: the program's Check. -/
namespace Go.Proofs.YtihkdffihmhnaaaGreat.Ln
open Go.RowKit
open Go.Proofs.YtihkdffihmhnaaaGreat.Ln

theorem okm_not {last : Int} {p : Mk} {f : Bool} {m : Mk} (h : ¬ ((f = true → m.2 = 1) ∧ p.2 < m.2 ∧ m.2 ≤ last ∧ p.1 < m.1 ∧ numB m.1 = true)) : okm last p f m = false := by
  rw [← Bool.not_eq_true]
  intro e
  refine h ?_
  simp only [okm, Bool.and_eq_true, decide_eq_true_eq, Bool.or_eq_true, Bool.not_eq_true'] at e
  exact ⟨fun hf => by rw [hf] at e; simpa using e.1, e.2⟩
theorem okm_yes {last : Int} {p : Mk} {f : Bool} {m : Mk} (h0 : f = true → m.2 = 1) (h1 : p.2 < m.2) (h2 : m.2 ≤ last) (h3 : p.1 < m.1) (h4 : numB m.1 = true) : okm last p f m = true := by
  simp only [okm, Bool.and_eq_true, decide_eq_true_eq, Bool.or_eq_true, Bool.not_eq_true']
  refine ⟨?_, h1, h2, h3, h4⟩
  cases f
  · exact .inl rfl
  · exact .inr (h0 rfl)
set_option maxRecDepth 100000 in
set_option maxHeartbeats 4000000 in
theorem rises_any (a : Option Addr) (n c : Nat) (ms : List Mk) (last : Int) (hn : n = ms.length) (w : World) (h : Mks w a c ms) : Calls Tryz.prog 205 #[.agg #[.slice a n c, .int .i64 last]] w fun e w' => e = .returned (.bool (risB last (-1, 0) true ms)) ∧ Fr (fun _ => False) w w' := by
  subst hn
  have hle := h.le
  have hmx := h.max
  obtain ⟨W0, hW0⟩ : ∃ W, W = (w.alloc (.cells #[.slice a ms.length c, .int .i64 last] 67)).alloc (.cells #[.int .i64 (-1), .int .i64 0] 174) := ⟨_, rfl⟩
  have F0 : Fr (fun _ => False) w W0 := by rw [hW0]; exact (Fr.box _ _).alloc _
  have hz0 : W0.heap.size = w.heap.size + 2 := by rw [hW0]; simp
  have T1 : Two W0 w.heap.size 67 (.slice a ms.length c) (.int .i64 last) := by rw [hW0]; exact (Two.new w _ _ _).fr (Fr.box _ _) (fun f => f)
  have T2 : Two W0 (w.heap.size + 1) 174 (.int .i64 (-1)) (.int .i64 0) := by
    have := Two.new (w.alloc (.cells #[.slice a ms.length c, .int .i64 last] 67)) 174 (.int .i64 (-1)) (.int .i64 0)
    rw [World.size_alloc] at this
    rw [hW0]; exact this
  have HS : Hid (∀ W, Fr (fun k => k = w.heap.size + 1) W0 W → Mks W a c ms) := fun W f => h.fr' F0 f (by omega)
  have HT1 : Hid (∀ W, Fr (fun k => k = w.heap.size + 1) W0 W → Two W w.heap.size 67 (.slice a ms.length c) (.int .i64 last)) := fun W f => T1.fr f (fun e => by omega)
  have HT2 : Hid (Two W0 (w.heap.size + 1) 174 (.int .i64 (-1)) (.int .i64 0)) := T2
  have HF0 : Hid (Fr (fun _ => False) w W0) := F0
  have HZ0 : Hid (W0.heap.size = w.heap.size + 2) := hz0
  have HW0 : Hid (W0 = (w.alloc (.cells #[.slice a ms.length c, .int .i64 last] 67)).alloc (.cells #[.int .i64 (-1), .int .i64 0] 174)) := hW0
  clear T1 T2 F0 hz0 hW0 h
  go_enter Tryz.func205, Tryz.ntmps205
  go_wp2
  go_loopw [10] (fun i wr => ∃ (k : Nat) (p : Mk), k ≤ ms.length ∧ i = .int .i64 k ∧ Hid (risB last p (decide (k = 0)) (ms.drop k) = risB last (-1, 0) true ms) ∧ Hid (Two wr (w.heap.size + 1) 174 (.int .i64 p.1) (.int .i64 p.2)) ∧ Hid (Fr (fun k => k = w.heap.size + 1) W0 wr)) (fun i _ => ms.length - (intOf i).toNat)
  case atStart => exact ⟨0, (-1, 0), by omega, rfl, rfl, by rw [← HW0.out]; exact HT2, by rw [← HW0.out]; exact Fr.refl _ _⟩
  case round =>
    obtain ⟨k, p, hk, rfl, HE, HP, HF⟩ := hrel
    have hzr := HF.out.size
    rw [HZ0.out] at hzr
    have HFW : Hid (Fr (fun _ => False) w wr) := HF0.out.trans HF.out (fun i hi e => by omega)
    by_cases hlt : k < ms.length
    · obtain ⟨m, hm⟩ : ∃ m, ms[k]? = some m := ⟨_, List.getElem?_eq_getElem hlt⟩
      obtain ⟨b, off, rfl, hb, hc⟩ := (HS.out _ HF.out).some (by omega)
      obtain ⟨q0, q1⟩ := mk_range (hc k m hm)
      have HNX : Hid (risB last p (decide (k = 0)) (ms.drop k) = (okm last p (decide (k = 0)) m && risB last m false (ms.drop (k + 1)))) := ris_drop hm _ _ _
      obtain ⟨W1, hW1⟩ : ∃ W, W = wr.alloc (.cells #[.int .i64 m.1, .int .i64 m.2] 174) := ⟨_, rfl⟩
      have f1 : Fr (fun _ => False) wr W1 := by rw [hW1]; exact Fr.box _ _
      have TM : Two W1 wr.heap.size 174 (.int .i64 m.1) (.int .i64 m.2) := by rw [hW1]; exact Two.new _ _ _ _
      obtain ⟨x0, x1, _⟩ := TM.cells
      obtain ⟨y0, y1, y2, y3⟩ := (HP.out.fr f1 (fun f => f)).cells
      obtain ⟨z0, z1, _⟩ := ((HT1.out _ HF.out).fr f1 (fun f => f)).cells
      have HTP : Hid (Two W1 (w.heap.size + 1) 174 (.int .i64 p.1) (.int .i64 p.2)) := HP.out.fr f1 (fun f => f)
      have HF1 : Hid (Fr (fun k => k = w.heap.size + 1) W0 W1) := HF.out.trans f1 (fun _ _ f => f.elim)
      have HFW1 : Hid (Fr (fun _ => False) w W1) := HFW.out.seq' f1
      have hki : (k : Int) < (ms.length : Int) := by omega
      have hnum := fun W => isNumber_any m.1 W
      obtain ⟨m1, m2⟩ := m
      obtain ⟨p1, p2⟩ := p
      dsimp only at *
      rw [hW1] at x0 x1 y0 y1 y2 y3 z0 z1
      have HW1 : Hid (W1 = wr.alloc (.cells #[.int .i64 m1, .int .i64 m2] 174)) := hW1
      clear hm hc TM f1 hW1 HP HF
      have bad : ¬ ((decide (k = 0) = true → m2 = 1) ∧ p2 < m2 ∧ m2 ≤ last ∧ p1 < m1 ∧ numB m1 = true) → risB last (-1, 0) true ms = false := fun hb => by
        rw [← HE.out, HNX.out, okm_not hb]; rfl
      have HBAD : Hid (¬ ((decide (k = 0) = true → m2 = 1) ∧ p2 < m2 ∧ m2 ≤ last ∧ p1 < m1 ∧ numB m1 = true) → risB last (-1, 0) true ms = false) := bad
      clear bad
      by_cases c0 : k = 0
      · have d0 : ((k : Int) == 0) = true := by rw [beq_iff_eq]; omega
        have HC0 : Hid (k = 0) := c0
        clear c0
        by_cases c1 : m2 = 1
        · have d1 : (m2 != 1) = false := by rw [c1]; rfl
          have HC1 : Hid (m2 = 1) := c1
          clear c1
          by_cases c2 : p2 < m2
          · have d2 : decide (m2 ≤ p2) = false := decide_eq_false (by omega)
            by_cases c3 : m2 ≤ last
            · have d3 : decide (last < m2) = false := decide_eq_false (by omega)
              by_cases c4 : p1 < m1
              · have d4 : decide (m1 ≤ p1) = false := decide_eq_false (by omega)
                cases c5 : numB m1
                · rw [c5] at hnum
                  have HR : Hid (risB last (-1, 0) true ms = false) := HBAD.out (fun h => by have := h.2.2.2.2; rw [c5] at this; exact Bool.noConfusion this)
                  clear HBAD HNX HE
                  go_wp2_with fail
                  refine (hnum _).mono ?_
                  rintro e w2 ⟨rfl, rfl⟩
                  go_wp2
                  go_ret
                  exact ⟨ret_bool HR.out.symm, by rw [← HW1.out]; exact HFW1.out⟩
                · rw [c5] at hnum
                  have HR : Hid (risB last (m1, m2) (decide (k + 1 = 0)) (ms.drop (k + 1)) = risB last (-1, 0) true ms) := by
                    show _ = _
                    rw [← HE.out, HNX.out, okm_yes (fun hf => HC1.out) c2 c3 c4 c5, decide_eq_false (by omega)]; rfl
                  clear HBAD HNX HE c5
                  go_wp2_with fail
                  refine (hnum _).mono ?_
                  rintro e w2 ⟨rfl, rfl⟩
                  go_wp2
                  obtain ⟨t1, t2⟩ := HTP.out.fin (.int .i64 m1) (.int .i64 m2)
                  rw [HW1.out] at t1 t2
                  have t3 := HF1.out
                  rw [HW1.out] at t3
                  go_roundw
                  case rel => exact ⟨k + 1, (m1, m2), by omega, by go_num, HR, t1, t3.trans t2 (fun _ _ e => e)⟩
                  case measure => simp [intOf]; omega
              · have d4 : decide (m1 ≤ p1) = true := decide_eq_true (by omega)
                have HR : Hid (risB last (-1, 0) true ms = false) := HBAD.out (fun h => c4 h.2.2.2.1)
                clear HBAD HNX HE
                go_wp2
                go_ret
                exact ⟨ret_bool HR.out.symm, by rw [← HW1.out]; exact HFW1.out⟩
            · have d3 : decide (last < m2) = true := decide_eq_true (by omega)
              have HR : Hid (risB last (-1, 0) true ms = false) := HBAD.out (fun h => c3 h.2.2.1)
              clear HBAD HNX HE
              go_wp2
              go_ret
              exact ⟨ret_bool HR.out.symm, by rw [← HW1.out]; exact HFW1.out⟩
          · have d2 : decide (m2 ≤ p2) = true := decide_eq_true (by omega)
            have HR : Hid (risB last (-1, 0) true ms = false) := HBAD.out (fun h => c2 h.2.1)
            clear HBAD HNX HE
            go_wp2
            go_ret
            exact ⟨ret_bool HR.out.symm, by rw [← HW1.out]; exact HFW1.out⟩
        · have d1 : (m2 != 1) = true := by simpa using c1
          have HR : Hid (risB last (-1, 0) true ms = false) := HBAD.out (fun h => c1 (h.1 (decide_eq_true HC0.out)))
          clear HBAD HNX HE c1
          go_wp2
          go_ret
          exact ⟨ret_bool HR.out.symm, by rw [← HW1.out]; exact HFW1.out⟩
      · have d0 : ((k : Int) == 0) = false := by rw [beq_eq_false_iff_ne]; omega
        by_cases c2 : p2 < m2
        · have d2 : decide (m2 ≤ p2) = false := decide_eq_false (by omega)
          by_cases c3 : m2 ≤ last
          · have d3 : decide (last < m2) = false := decide_eq_false (by omega)
            by_cases c4 : p1 < m1
            · have d4 : decide (m1 ≤ p1) = false := decide_eq_false (by omega)
              cases c5 : numB m1
              · rw [c5] at hnum
                have HR : Hid (risB last (-1, 0) true ms = false) := HBAD.out (fun h => by have := h.2.2.2.2; rw [c5] at this; exact Bool.noConfusion this)
                clear HBAD HNX HE
                go_wp2_with fail
                refine (hnum _).mono ?_
                rintro e w2 ⟨rfl, rfl⟩
                go_wp2
                go_ret
                exact ⟨ret_bool HR.out.symm, by rw [← HW1.out]; exact HFW1.out⟩
              · rw [c5] at hnum
                have HR : Hid (risB last (m1, m2) (decide (k + 1 = 0)) (ms.drop (k + 1)) = risB last (-1, 0) true ms) := by
                  show _ = _
                  rw [← HE.out, HNX.out, okm_yes (fun hf => absurd (of_decide_eq_true hf) c0) c2 c3 c4 c5, decide_eq_false (by omega)]; rfl
                clear HBAD HNX HE c5
                go_wp2_with fail
                refine (hnum _).mono ?_
                rintro e w2 ⟨rfl, rfl⟩
                go_wp2
                obtain ⟨t1, t2⟩ := HTP.out.fin (.int .i64 m1) (.int .i64 m2)
                rw [HW1.out] at t1 t2
                have t3 := HF1.out
                rw [HW1.out] at t3
                go_roundw
                case rel => exact ⟨k + 1, (m1, m2), by omega, by go_num, HR, t1, t3.trans t2 (fun _ _ e => e)⟩
                case measure => simp [intOf]; omega
            · have d4 : decide (m1 ≤ p1) = true := decide_eq_true (by omega)
              have HR : Hid (risB last (-1, 0) true ms = false) := HBAD.out (fun h => c4 h.2.2.2.1)
              clear HBAD HNX HE
              go_wp2
              go_ret
              exact ⟨ret_bool HR.out.symm, by rw [← HW1.out]; exact HFW1.out⟩
          · have d3 : decide (last < m2) = true := decide_eq_true (by omega)
            have HR : Hid (risB last (-1, 0) true ms = false) := HBAD.out (fun h => c3 h.2.2.1)
            clear HBAD HNX HE
            go_wp2
            go_ret
            exact ⟨ret_bool HR.out.symm, by rw [← HW1.out]; exact HFW1.out⟩
        · have d2 : decide (m2 ≤ p2) = true := decide_eq_true (by omega)
          have HR : Hid (risB last (-1, 0) true ms = false) := HBAD.out (fun h => c2 h.2.1)
          clear HBAD HNX HE
          go_wp2
          go_ret
          exact ⟨ret_bool HR.out.symm, by rw [← HW1.out]; exact HFW1.out⟩
    · have HR : Hid (risB last (-1, 0) true ms = true) := by
        show _ = _
        rw [← HE.out, List.drop_eq_nil_of_le (by omega)]; rfl
      go_wp2
      go_ret
      exact ⟨ret_bool HR.out.symm, HFW.out⟩
end Go.Proofs.YtihkdffihmhnaaaGreat.Ln

/- What Check tells. -/
namespace Go.Proofs.YtihkdffihmhnaaaGreat.Ln
open Go.RowKit
open Go.Proofs.YtihkdffihmhnaaaGreat.Ln

def ckE (ms : List Mk) (last : Int) : Int := if linB ms last then 0 else 4
theorem ckE_no {ms : List Mk} {last : Int} (h : linB ms last = false) : ckE ms last = 4 := by unfold ckE; rw [h]; rfl
theorem ckE_yes {ms : List Mk} {last : Int} (h : linB ms last = true) : ckE ms last = 0 := by unfold ckE; rw [h]; rfl
def lnV (a : Option Addr) (n c : Nat) (last : Int) : Value := .agg #[.slice a n c, .int .i64 last]
set_option maxRecDepth 100000 in
set_option maxHeartbeats 4000000 in
theorem check_any (a : Option Addr) (n c : Nat) (ms : List Mk) (last : Int) (hn : n = ms.length) (w : World) (h : Mks w a c ms) : Calls Tryz.prog 151 #[.agg #[.slice a n c, .int .i64 last]] w fun e w' => e = .returned (.int .i64 (ckE ms last)) ∧ Fr (fun _ => False) w w' := by
  subst hn
  have hnum := fun W => isNumber_any last W
  have F1 : Fr (fun _ => False) w (w.alloc (.cells #[.slice a ms.length c, .int .i64 last] 67)) := Fr.box _ _
  have hris := rises_any a ms.length c ms last rfl _ (h.same F1)
  obtain ⟨x0, x1, _⟩ := (Two.new w 67 (.slice a ms.length c) (.int .i64 last)).cells
  have HL : Hid (linB ms last = (numB last && ((decide (last = 0) == decide (ms.length = 0)) && risB last (-1, 0) true ms))) := rfl
  have hle := h.le
  have hmx := h.max
  clear h
  obtain ⟨R, hR⟩ : ∃ R, R = risB last (-1, 0) true ms := ⟨_, rfl⟩
  rw [← hR] at hris HL
  clear hR
  cases cn : numB last
  · rw [cn] at hnum
    have HR : Hid (ckE ms last = 4) := ckE_no (by rw [HL.out, cn]; rfl)
    clear cn HL hris
    go_enter Tryz.func151, Tryz.ntmps151
    go_wp2_with fail
    refine (hnum _).mono ?_
    rintro e w2 ⟨rfl, rfl⟩
    go_wp2
    go_ret
    exact ⟨ret_int HR.out.symm, F1⟩
  · rw [cn] at hnum
    by_cases c1 : last = 0
    · have d1 : (last == 0) = true := by rw [c1]; rfl
      have HC1 : Hid (last = 0) := c1
      clear c1
      by_cases c2 : ms.length = 0
      · have d2 : ((ms.length : Int) == 0) = true := by rw [c2]; rfl
        have d3 : decide ((ms.length : Int) = 0) = true := by rw [c2]; rfl
        have HC2 : Hid (ms.length = 0) := c2
        clear c2
        cases R
        · have HR : Hid (ckE ms last = 4) := ckE_no (by rw [HL.out, cn, decide_eq_true HC1.out, decide_eq_true HC2.out]; rfl)
          clear cn HL
          go_enter Tryz.func151, Tryz.ntmps151
          go_wp2_with fail
          refine (hnum _).mono ?_
          rintro e w2 ⟨rfl, rfl⟩
          go_wp2_with fail
          refine hris.mono ?_
          rintro e w3 ⟨rfl, f3⟩
          go_wp2
          go_ret
          exact ⟨ret_int HR.out.symm, F1.seq' f3⟩
        · have HR : Hid (ckE ms last = 0) := ckE_yes (by rw [HL.out, cn, decide_eq_true HC1.out, decide_eq_true HC2.out]; rfl)
          clear cn HL
          go_enter Tryz.func151, Tryz.ntmps151
          go_wp2_with fail
          refine (hnum _).mono ?_
          rintro e w2 ⟨rfl, rfl⟩
          go_wp2_with fail
          refine hris.mono ?_
          rintro e w3 ⟨rfl, f3⟩
          go_wp2
          go_ret
          exact ⟨ret_int HR.out.symm, F1.seq' f3⟩
      · have d2 : ((ms.length : Int) == 0) = false := by rw [beq_eq_false_iff_ne]; omega
        have d3 : decide ((ms.length : Int) = 0) = false := by exact decide_eq_false (by omega)
        have HC2 : Hid (¬ ms.length = 0) := c2
        clear c2
        have HR : Hid (ckE ms last = 4) := ckE_no (by rw [HL.out, cn, decide_eq_true HC1.out, decide_eq_false HC2.out]; rfl)
        clear cn HL hris
        go_enter Tryz.func151, Tryz.ntmps151
        go_wp2_with fail
        refine (hnum _).mono ?_
        rintro e w2 ⟨rfl, rfl⟩
        go_wp2
        go_ret
        exact ⟨ret_int HR.out.symm, F1⟩
    · have d1 : (last == 0) = false := by rw [beq_eq_false_iff_ne]; exact c1
      have HC1 : Hid (¬ last = 0) := c1
      clear c1
      by_cases c2 : ms.length = 0
      · have d2 : ((ms.length : Int) == 0) = true := by rw [c2]; rfl
        have d3 : decide ((ms.length : Int) = 0) = true := by rw [c2]; rfl
        have HC2 : Hid (ms.length = 0) := c2
        clear c2
        have HR : Hid (ckE ms last = 4) := ckE_no (by rw [HL.out, cn, decide_eq_false HC1.out, decide_eq_true HC2.out]; rfl)
        clear cn HL hris
        go_enter Tryz.func151, Tryz.ntmps151
        go_wp2_with fail
        refine (hnum _).mono ?_
        rintro e w2 ⟨rfl, rfl⟩
        go_wp2
        go_ret
        exact ⟨ret_int HR.out.symm, F1⟩
      · have d2 : ((ms.length : Int) == 0) = false := by rw [beq_eq_false_iff_ne]; omega
        have d3 : decide ((ms.length : Int) = 0) = false := by exact decide_eq_false (by omega)
        have HC2 : Hid (¬ ms.length = 0) := c2
        clear c2
        cases R
        · have HR : Hid (ckE ms last = 4) := ckE_no (by rw [HL.out, cn, decide_eq_false HC1.out, decide_eq_false HC2.out]; rfl)
          clear cn HL
          go_enter Tryz.func151, Tryz.ntmps151
          go_wp2_with fail
          refine (hnum _).mono ?_
          rintro e w2 ⟨rfl, rfl⟩
          go_wp2_with fail
          refine hris.mono ?_
          rintro e w3 ⟨rfl, f3⟩
          go_wp2
          go_ret
          exact ⟨ret_int HR.out.symm, F1.seq' f3⟩
        · have HR : Hid (ckE ms last = 0) := ckE_yes (by rw [HL.out, cn, decide_eq_false HC1.out, decide_eq_false HC2.out]; rfl)
          clear cn HL
          go_enter Tryz.func151, Tryz.ntmps151
          go_wp2_with fail
          refine (hnum _).mono ?_
          rintro e w2 ⟨rfl, rfl⟩
          go_wp2_with fail
          refine hris.mono ?_
          rintro e w3 ⟨rfl, f3⟩
          go_wp2
          go_ret
          exact ⟨ret_int HR.out.symm, F1.seq' f3⟩
end Go.Proofs.YtihkdffihmhnaaaGreat.Ln

/- The document's own answer: which timelines are right, and the epoch at an LSN. -/
namespace Go.Proofs.YtihkdffihmhnaaaGreat.Ln
open Go.RowKit
open Go.Proofs.YtihkdffihmhnaaaGreat.Ln

theorem epF_take {ms : List Mk} {k : Nat} {m : Mk} (h : ms[k]? = some m) (x : Int) : epF (ms.take (k + 1)) x = if m.2 ≤ x then m.1 else epF (ms.take k) x := by
  rw [List.take_succ_eq_append_getElem (List.getElem?_eq_some_iff.1 h).1, (List.getElem?_eq_some_iff.1 h).2, epF_snoc]
set_option maxRecDepth 100000 in
set_option maxHeartbeats 4000000 in
theorem repoch_any (a : Option Addr) (n c : Nat) (ms : List Mk) (last x : Int) (hn : n = ms.length) (w : World) (h : Mks w a c ms) : Calls Tryz.prog 114 #[.agg #[.slice a n c, .int .i64 last], .int .i64 x] w fun e w' => e = .returned (.int .i64 (epF ms x)) ∧ Fr (fun _ => False) w w' := by
  subst hn
  have hle := h.le
  have hmx := h.max
  have F1 : Fr (fun _ => False) w (w.alloc (.cells #[.slice a ms.length c, .int .i64 last] 72)) := Fr.box _ _
  have HS : Hid (∀ W, Fr (fun _ => False) w W → Mks W a c ms) := fun W f => h.same f
  clear h
  go_enter Tryz.func114, Tryz.ntmps114
  go_wp2
  go_loopw [11, 5] (fun i t wr => ∃ (k : Nat) (y : Int), k ≤ ms.length ∧ i = .int .i64 k ∧ t = .int .i64 y ∧ Hid (y = epF (ms.take k) x) ∧ Fr (fun _ => False) w wr) (fun i _ _ => ms.length - (intOf i).toNat)
  case atStart => exact ⟨0, 0, by omega, rfl, rfl, rfl, F1⟩
  case round =>
    obtain ⟨k, y, hk, rfl, rfl, HY, F⟩ := hrel
    by_cases hlt : k < ms.length
    · obtain ⟨m, hm⟩ : ∃ m, ms[k]? = some m := ⟨_, List.getElem?_eq_getElem hlt⟩
      obtain ⟨b, off, rfl, hb, hc⟩ := (HS.out _ F).some (by omega)
      obtain ⟨q0, q1⟩ := mk_range (hc k m hm)
      have HN : Hid (epF (ms.take (k + 1)) x = if m.2 ≤ x then m.1 else epF (ms.take k) x) := epF_take hm x
      have hki : (k : Int) < (ms.length : Int) := by omega
      have FB := F.alloc (.cells #[.int .i64 m.1, .int .i64 m.2] 174)
      clear hm hc
      by_cases hx : m.2 ≤ x
      · have HN2 : Hid (m.1 = epF (ms.take (k + 1)) x) := by show _ = _; rw [HN.out, if_pos hx]
        clear HN
        go_wp2
        go_roundw
        case rel => exact ⟨k + 1, m.1, by omega, by go_num, rfl, HN2, FB⟩
        case measure => simp [intOf]; omega
      · have HN2 : Hid (y = epF (ms.take (k + 1)) x) := by show _ = _; rw [HN.out, if_neg hx]; exact HY.out
        clear HN HY
        go_wp2
        go_roundw
        case rel => exact ⟨k + 1, y, by omega, by go_num, rfl, HN2, FB⟩
        case measure => simp [intOf]; omega
    · have HN2 : Hid (y = epF ms x) := by show _ = _; rw [HY.out, List.take_of_length_le (by omega)]
      clear HY
      go_wp2
      go_ret
      exact ⟨ret_int HN2.out, F⟩
set_option maxRecDepth 100000 in
set_option maxHeartbeats 8000000 in
theorem rright_any (a : Option Addr) (n c : Nat) (ms : List Mk) (last : Int) (hn : n = ms.length) (w : World) (h : Mks w a c ms) : Calls Tryz.prog 113 #[.agg #[.slice a n c, .int .i64 last]] w fun e w' => e = .returned (.bool (linB ms last)) ∧ Fr (fun _ => False) w w' := by
  subst hn
  have hnum := fun W => rin_any last W
  have F1 : Fr (fun _ => False) w (w.alloc (.cells #[.slice a ms.length c, .int .i64 last] 72)) := Fr.box _ _
  have HT : Hid (Two (w.alloc (.cells #[.slice a ms.length c, .int .i64 last] 72)) w.heap.size 72 (.slice a ms.length c) (.int .i64 last)) := Two.new w _ _ _
  have HL : Hid (linB ms last = (numB last && ((decide (last = 0) == decide (ms.length = 0)) && risB last (-1, 0) true ms))) := rfl
  have hle := h.le
  have hmx := h.max
  have HS : Hid (∀ W, Fr (fun _ => False) (w.alloc (.cells #[.slice a ms.length c, .int .i64 last] 72)) W → Mks W a c ms) := fun W f => h.same (F1.seq' f)
  clear h
  cases cn : numB last
  · rw [cn] at hnum
    have HR : Hid (linB ms last = false) := by show _ = _; rw [HL.out, cn]; rfl
    clear cn HL HS
    go_enter Tryz.func113, Tryz.ntmps113
    go_wp2_with fail
    refine (hnum _).mono ?_
    rintro e w2 ⟨rfl, rfl⟩
    go_wp2
    go_ret
    exact ⟨ret_bool HR.out.symm, F1⟩
  · rw [cn] at hnum
    by_cases c3 : decide (last = 0) = decide (ms.length = 0)
    rotate_left
    · have HR : Hid (linB ms last = false) := by
        show _ = _
        rw [HL.out, cn]
        have : (decide (last = 0) == decide (ms.length = 0)) = false := by rw [beq_eq_false_iff_ne]; exact c3
        rw [this]; rfl
      have hd : ((last == 0) = true ∧ ((ms.length : Int) == 0) = false) ∨ ((last == 0) = false ∧ ((ms.length : Int) == 0) = true) := by
        by_cases e1 : last = 0
        · left
          refine ⟨by rw [e1]; rfl, ?_⟩
          rw [beq_eq_false_iff_ne]
          intro e2
          exact c3 (by rw [decide_eq_decide]; exact ⟨fun _ => by omega, fun _ => e1⟩)
        · right
          refine ⟨by rw [beq_eq_false_iff_ne]; exact e1, ?_⟩
          rw [beq_iff_eq]
          by_cases e2 : ms.length = 0
          · omega
          · exact absurd (by rw [decide_eq_decide]; exact ⟨fun h => absurd h e1, fun h => absurd h e2⟩) c3
      clear cn HL HS c3
      rcases hd with ⟨d1, d2⟩ | ⟨d1, d2⟩
      · have d3 : decide ((ms.length : Int) = 0) = false := decide_eq_false (by rw [beq_eq_false_iff_ne] at d2; exact d2)
        go_enter Tryz.func113, Tryz.ntmps113
        go_wp2_with fail
        refine (hnum _).mono ?_
        rintro e w2 ⟨rfl, rfl⟩
        go_wp2
        go_ret
        exact ⟨ret_bool HR.out.symm, F1⟩
      · have d3 : decide ((ms.length : Int) = 0) = true := decide_eq_true (by rw [beq_iff_eq] at d2; exact d2)
        go_enter Tryz.func113, Tryz.ntmps113
        go_wp2_with fail
        refine (hnum _).mono ?_
        rintro e w2 ⟨rfl, rfl⟩
        go_wp2
        go_ret
        exact ⟨ret_bool HR.out.symm, F1⟩
    · have HLR : Hid (linB ms last = risB last (-1, 0) true ms) := by
        show _ = _
        rw [HL.out, cn, c3, beq_self_eq_true]; rfl
      have hdd : (last == 0) = ((ms.length : Int) == 0) := by
        by_cases e1 : last = 0
        · have e2 : ms.length = 0 := of_decide_eq_true (by rw [← c3]; exact decide_eq_true e1)
          rw [e1, e2]; rfl
        · have e2 : ¬ ms.length = 0 := of_decide_eq_false (by rw [← c3]; exact decide_eq_false e1)
          rw [show (last == 0) = false by rw [beq_eq_false_iff_ne]; exact e1]
          symm
          rw [beq_eq_false_iff_ne]; omega
      have HD : Hid ((last == 0) = ((ms.length : Int) == 0)) := hdd
      clear HL cn c3 hdd
      obtain ⟨W0, hW0⟩ : ∃ W, W = w.alloc (.cells #[.slice a ms.length c, .int .i64 last] 72) := ⟨_, rfl⟩
      have HW0 : Hid (W0 = w.alloc (.cells #[.slice a ms.length c, .int .i64 last] 72)) := hW0
      rw [← hW0] at HT F1 HS
      clear hW0
      go_enter Tryz.func113, Tryz.ntmps113
      go_wp2_with fail
      refine (hnum _).mono ?_
      rintro e w2 ⟨rfl, rfl⟩
      have d1 : (last == 0) = ((ms.length : Int) == 0) := HD.out
      cases d2 : ((ms.length : Int) == 0)
      · rw [d2] at d1
        have d3 : decide ((ms.length : Int) = 0) = false := decide_eq_false (by rw [beq_eq_false_iff_ne] at d2; exact d2)
        have hl0 : 0 < ms.length := by rw [beq_eq_false_iff_ne] at d2; omega
        obtain ⟨b, off, rfl, hb, hc⟩ := (HS.out _ (Fr.refl _ _)).some hl0
        have HC : Hid (∀ (i : Nat) m, ms[i]? = some m → ∀ W, Fr (fun _ => False) W0 W → W.rangeAt b (off + i * 2) (mkC m)) := fun i m hm W f => range_fr (hc i m hm) f (fun f => f)
        clear hc HS
        go_wp2
        go_loopw [22] (fun i wr => ∃ (k : Nat) (p : Mk), k ≤ ms.length ∧ i = .int .i64 k ∧ Hid ((k = 0 ∧ p = (-1, 0)) ∨ ∃ j, k = j + 1 ∧ ms[j]? = some p) ∧ Hid (risB last p (decide (k = 0)) (ms.drop k) = risB last (-1, 0) true ms) ∧ Hid (Fr (fun _ => False) W0 wr)) (fun i _ => ms.length - (intOf i).toNat)
        case atStart => exact ⟨0, (-1, 0), by omega, rfl, .inl ⟨rfl, rfl⟩, rfl, by rw [← HW0.out]; exact Fr.refl _ _⟩
        case round =>
          obtain ⟨k, p, hk, rfl, HK, HE, HF⟩ := hrel
          by_cases hlt : k < ms.length
          · obtain ⟨m, hm⟩ : ∃ m, ms[k]? = some m := ⟨_, List.getElem?_eq_getElem hlt⟩
            have HNX : Hid (risB last p (decide (k = 0)) (ms.drop k) = (okm last p (decide (k = 0)) m && risB last m false (ms.drop (k + 1)))) := ris_drop hm _ _ _
            obtain ⟨q0, q1⟩ := mk_range (HC.out k m hm _ HF.out)
            have HM : Hid (ms[k]? = some m) := hm
            have f1 := Fr.box wr (.cells #[.int .i64 m.1, .int .i64 m.2] 174)
            have HF1 : Hid (Fr (fun _ => False) W0 (wr.alloc (.cells #[.int .i64 m.1, .int .i64 m.2] 174))) := HF.out.seq' f1
            obtain ⟨x0, x1, _⟩ := (Two.new wr 174 (.int .i64 m.1) (.int .i64 m.2)).cells
            obtain ⟨z0, z1, _⟩ := (HT.out.fr HF1.out (fun f => f)).cells
            have HFW1 : Hid (Fr (fun _ => False) w (wr.alloc (.cells #[.int .i64 m.1, .int .i64 m.2] 174))) := F1.seq' HF1.out
            have hki : (k : Int) < (ms.length : Int) := by omega
            have hnm := fun W => rin_any m.1 W
            have HBAD : Hid (¬ ((decide (k = 0) = true → m.2 = 1) ∧ p.2 < m.2 ∧ m.2 ≤ last ∧ p.1 < m.1 ∧ numB m.1 = true) → linB ms last = false) := fun hb => by
              rw [HLR.out, ← HE.out, HNX.out, okm_not hb]; rfl
            clear hm f1 HF
            cases c5 : numB m.1
            · rw [c5] at hnm
              have HR : Hid (linB ms last = false) := HBAD.out (fun h => by have := h.2.2.2.2; rw [c5] at this; exact Bool.noConfusion this)
              clear HBAD HNX HE c5 HK
              go_wp2_with fail
              refine (hnm _).mono ?_
              rintro e w3 ⟨rfl, rfl⟩
              go_wp2
              go_ret
              exact ⟨ret_bool HR.out.symm, HFW1.out⟩
            · rw [c5] at hnm
              have HC5 : Hid (numB m.1 = true) := c5
              clear c5
              by_cases c3 : m.2 ≤ last
              rotate_left
              · have HR : Hid (linB ms last = false) := HBAD.out (fun h => c3 h.2.2.1)
                have d6 : decide (last < m.2) = true := decide_eq_true (by omega)
                clear HBAD HNX HE c3 HK
                go_wp2_with fail
                refine (hnm _).mono ?_
                rintro e w3 ⟨rfl, rfl⟩
                go_wp2
                go_ret
                exact ⟨ret_bool HR.out.symm, HFW1.out⟩
              · have d6 : decide (last < m.2) = false := decide_eq_false (by omega)
                rcases HK.out with ⟨c0, hp⟩ | ⟨j, rfl, hj⟩
                · have d0 : ((k : Int) == 0) = true := by rw [beq_iff_eq]; omega
                  have d8 : decide (0 < (k : Int)) = false := decide_eq_false (by omega)
                  have d9 : decide (0 < k) = false := decide_eq_false (by omega)
                  have HC0 : Hid (k = 0) := c0
                  have HPP : Hid (p = (-1, 0)) := hp
                  clear c0 hp
                  by_cases c1 : m.2 = 1
                  · have d7 : (m.2 != 1) = false := by rw [c1]; rfl
                    have HR : Hid (risB last m (decide (k + 1 = 0)) (ms.drop (k + 1)) = risB last (-1, 0) true ms) := by
                      show _ = _
                      have hn5 := numB_iff.1 HC5.out
                      rw [← HE.out, HNX.out, okm_yes (fun _ => c1) (by rw [HPP.out]; show 0 < m.2; omega) c3 (by rw [HPP.out]; show -1 < m.1; omega) HC5.out, decide_eq_false (by omega)]; rfl
                    clear HBAD HNX HE c1
                    go_wp2_with fail
                    refine (hnm _).mono ?_
                    rintro e w3 ⟨rfl, rfl⟩
                    go_wp2
                    go_quiet (fail)
                    go_wp2
                    go_roundw
                    case rel => exact ⟨k + 1, m, by omega, by go_num, .inr ⟨k, rfl, HM.out⟩, HR, Fr.drewN HF1.out _⟩
                    case measure => simp [intOf]; omega
                  · have d7 : (m.2 != 1) = true := by simpa using c1
                    have HR : Hid (linB ms last = false) := HBAD.out (fun h => c1 (h.1 (decide_eq_true HC0.out)))
                    clear HBAD HNX HE c1
                    go_wp2_with fail
                    refine (hnm _).mono ?_
                    rintro e w3 ⟨rfl, rfl⟩
                    go_wp2
                    go_ret
                    exact ⟨ret_bool HR.out.symm, HFW1.out⟩
                · have d0 : ((j : Int) + 1 == 0) = false := by rw [beq_eq_false_iff_ne]; omega
                  have d8 : decide (0 < (j : Int) + 1) = true := decide_eq_true (by omega)
                  have d9 : decide (0 < j + 1) = true := decide_eq_true (by omega)
                  obtain ⟨r0, r1⟩ := mk_range (HC.out j p hj _ HF1.out)
                  have j1 : IntKind.i64.wrap (j : Int) = (j : Int) := by simp [IntKind.wrap, IntKind.bits, IntKind.signed]; omega
                  have j2 : (0 : Int) ≤ (j : Int) := by omega
                  have j3 : (j : Int) < (ms.length : Int) := by omega
                  have j4 : IntKind.i64.wrap ((j : Int) + 1 - 1) = (j : Int) := by simp [IntKind.wrap, IntKind.bits, IntKind.signed]; omega
                  clear hj HK
                  by_cases c1 : p.2 < m.2
                  · have d7 : decide (m.2 ≤ p.2) = false := decide_eq_false (by omega)
                    by_cases c2 : p.1 < m.1
                    · have d5 : decide (m.1 ≤ p.1) = false := decide_eq_false (by omega)
                      have HR : Hid (risB last m (decide (j + 1 + 1 = 0)) (ms.drop (j + 1 + 1)) = risB last (-1, 0) true ms) := by
                        show _ = _
                        rw [← HE.out, HNX.out, okm_yes (fun h => absurd (of_decide_eq_true h) (by omega)) c1 c3 c2 HC5.out, decide_eq_false (by omega)]; rfl
                      clear HBAD HNX HE
                      go_wp2_with fail
                      refine (hnm _).mono ?_
                      rintro e w3 ⟨rfl, rfl⟩
                      go_wp2
                      go_quiet (fail)
                      go_wp2
                      go_roundw
                      case rel => exact ⟨j + 1 + 1, m, by omega, by go_num, .inr ⟨j + 1, rfl, HM.out⟩, HR, Fr.drewN HF1.out _⟩
                      case measure => simp [intOf]; omega
                    · have d5 : decide (m.1 ≤ p.1) = true := decide_eq_true (by omega)
                      have HR : Hid (linB ms last = false) := HBAD.out (fun h => c2 h.2.2.2.1)
                      clear HBAD HNX HE c2
                      go_wp2_with fail
                      refine (hnm _).mono ?_
                      rintro e w3 ⟨rfl, rfl⟩
                      go_wp2
                      go_quiet (fail)
                      go_wp2
                      go_ret
                      exact ⟨ret_bool HR.out.symm, Fr.drewN HFW1.out _⟩
                  · have d7 : decide (m.2 ≤ p.2) = true := decide_eq_true (by omega)
                    have HR : Hid (linB ms last = false) := HBAD.out (fun h => c1 h.2.1)
                    clear HBAD HNX HE c1
                    go_wp2_with fail
                    refine (hnm _).mono ?_
                    rintro e w3 ⟨rfl, rfl⟩
                    go_wp2
                    go_quiet (fail)
                    go_wp2
                    go_ret
                    exact ⟨ret_bool HR.out.symm, Fr.drewN HFW1.out _⟩
          · have HR : Hid (linB ms last = true) := by
              show _ = _
              rw [HLR.out, ← HE.out, List.drop_eq_nil_of_le (by omega)]; rfl
            have HFW : Hid (Fr (fun _ => False) w wr) := F1.seq' HF.out
            go_wp2
            go_ret
            exact ⟨ret_bool HR.out.symm, HFW.out⟩
      · rw [d2] at d1
        have d3 : decide ((ms.length : Int) = 0) = true := decide_eq_true (by rw [beq_iff_eq] at d2; exact d2)
        have hl0 : ms.length = 0 := by rw [beq_iff_eq] at d2; omega
        have HR : Hid (linB ms last = true) := by show _ = _; rw [HLR.out, List.length_eq_zero_iff.1 hl0]; rfl
        have d4 : decide (0 < (ms.length : Int)) = false := decide_eq_false (by omega)
        have d5 : decide (0 < ms.length) = false := decide_eq_false (by omega)
        clear hl0
        go_wp2
        refine wp_loop_rounds 1 ?_
        rw [rounds_succ]
        go_wp2
        go_ret
        exact ⟨ret_bool HR.out.symm, by rw [← HW0.out]; exact F1⟩
end Go.Proofs.YtihkdffihmhnaaaGreat.Ln

/- Where an LSN stands among a timeline's marks. -/
namespace Go.Proofs.YtihkdffihmhnaaaGreat.Ln
open Go.RowKit
open Go.Proofs.YtihkdffihmhnaaaGreat.Ln

def cmpI (a b : Int) : Int := if a < b then -1 else if b < a then 1 else 0
theorem inan_any (a : Int) (w : World) : Calls Tryz.prog 136 #[.int .i64 a] w fun e w' => e = .returned (.bool false) ∧ w' = w := by
  go_enter Tryz.func136, Tryz.ntmps136
  go_wp2
  go_ret
  exact ⟨by simp, rfl⟩
theorem icmp_any (a b : Int) (w : World) : Calls Tryz.prog 100 #[.int .i64 a, .int .i64 b] w fun e w' => e = .returned (.int .i64 (cmpI a b)) ∧ w' = w := by
  by_cases h : a < b
  · have e1 : cmpI a b = -1 := if_pos h
    rw [e1]
    go_enter Tryz.func100, Tryz.ntmps100
    go_wp2_with (go_at_call 136; refine (inan_any _ _).mono ?_; rintro e w' ⟨rfl, rfl⟩)
    go_ret
    exact ⟨rfl, rfl⟩
  · by_cases h2 : b < a
    · have e1 : cmpI a b = 1 := (if_neg h).trans (if_pos h2)
      rw [e1]
      go_enter Tryz.func100, Tryz.ntmps100
      go_wp2_with (go_at_call 136; refine (inan_any _ _).mono ?_; rintro e w' ⟨rfl, rfl⟩)
      go_ret
      exact ⟨rfl, rfl⟩
    · have e1 : cmpI a b = 0 := (if_neg h).trans (if_neg h2)
      rw [e1]
      go_enter Tryz.func100, Tryz.ntmps100
      go_wp2_with (go_at_call 136; refine (inan_any _ _).mono ?_; rintro e w' ⟨rfl, rfl⟩)
      go_ret
      exact ⟨rfl, rfl⟩
def BsOut (ms : List Mk) (x : Int) (w : World) (e : Ending) (w' : World) : Prop := ∃ bb, e = .returned (.tuple #[.int .i64 (upN ms x : Nat), .bool bb]) ∧ Fr (fun _ => False) w w'
end Go.Proofs.YtihkdffihmhnaaaGreat.Ln

/- What At, Fork and Newer tell. -/
namespace Go.Proofs.YtihkdffihmhnaaaGreat.Ln
open Go.RowKit
open Go.Proofs.YtihkdffihmhnaaaGreat.Ln

def rcE (ms : List Mk) (last x : Int) : Int := if linB ms last then (if 0 ≤ x ∧ x ≤ last then 0 else 6) else 4
def atN (ms : List Mk) (last x : Int) : Int := if linB ms last then (if 0 ≤ x ∧ x ≤ last then epF ms x else 0) else 0
theorem rcE_no {ms : List Mk} {last x : Int} (h : linB ms last = false) : rcE ms last x = 4 ∧ atN ms last x = 0 := by unfold rcE atN; rw [h]; exact ⟨rfl, rfl⟩
theorem rcE_out {ms : List Mk} {last x : Int} (h : linB ms last = true) (hx : ¬ (0 ≤ x ∧ x ≤ last)) : rcE ms last x = 6 ∧ atN ms last x = 0 := by unfold rcE atN; rw [h, if_neg hx, if_neg hx]; exact ⟨rfl, rfl⟩
theorem rcE_in {ms : List Mk} {last x : Int} (h : linB ms last = true) (hx : 0 ≤ x ∧ x ≤ last) : rcE ms last x = 0 ∧ atN ms last x = epF ms x := by unfold rcE atN; rw [h, if_pos hx, if_pos hx]; exact ⟨rfl, rfl⟩
theorem ret_two {k k' : IntKind} {a b c d : Int} (h : a = b) (h' : c = d) : Ending.returned (.tuple #[.int k a, .int k' c]) = .returned (.tuple #[.int k b, .int k' d]) := by rw [h, h']
theorem ret_bi {k' : IntKind} {a b : Bool} {c d : Int} (h : a = b) (h' : c = d) : Ending.returned (.tuple #[.bool a, .int k' c]) = .returned (.tuple #[.bool b, .int k' d]) := by rw [h, h']
end Go.Proofs.YtihkdffihmhnaaaGreat.Ln

/- Where two timelines part: the program's Fork. -/
namespace Go.Proofs.YtihkdffihmhnaaaGreat.Ln
open Go.RowKit
open Go.Proofs.YtihkdffihmhnaaaGreat.Ln

/-- Two timelines: are both right? -/
def arE (ms : List Mk) (last : Int) (ns : List Mk) (lst : Int) : Int := if linB ms last && linB ns lst then 0 else 4
set_option maxRecDepth 100000 in
set_option maxHeartbeats 4000000 in
theorem areRight_any (a a' : Option Addr) (n n' c c' : Nat) (ms ns : List Mk) (last lst : Int) (hn : n = ms.length) (hn' : n' = ns.length) (w : World) (h : Mks w a c ms) (h' : Mks w a' c' ns) : Calls Tryz.prog 111 #[.agg #[.slice a n c, .int .i64 last], .agg #[.slice a' n' c', .int .i64 lst]] w fun e w' => e = .returned (.int .i64 (arE ms last ns lst)) ∧ Fr (fun _ => False) w w' := by
  subst hn
  subst hn'
  have F1 : Fr (fun _ => False) w ((w.alloc (.cells #[.slice a ms.length c, .int .i64 last] 67)).alloc (.cells #[.slice a' ns.length c', .int .i64 lst] 67)) := (Fr.box _ _).alloc _
  have hck := check_any a ms.length c ms last rfl _ (h.same F1)
  have hck2 := fun W (f : Fr (fun _ => False) w W) => check_any a' ns.length c' ns lst rfl W (h'.same f)
  have HT : Hid (Two ((w.alloc (.cells #[.slice a ms.length c, .int .i64 last] 67)).alloc (.cells #[.slice a' ns.length c', .int .i64 lst] 67)) w.heap.size 67 (.slice a ms.length c) (.int .i64 last)) := (Two.new w _ _ _).fr (Fr.box _ _) (fun f => f)
  have HT2 : Hid (Two ((w.alloc (.cells #[.slice a ms.length c, .int .i64 last] 67)).alloc (.cells #[.slice a' ns.length c', .int .i64 lst] 67)) (w.heap.size + 1) 67 (.slice a' ns.length c') (.int .i64 lst)) := by
    have := Two.new (w.alloc (.cells #[.slice a ms.length c, .int .i64 last] 67)) 67 (.slice a' ns.length c') (.int .i64 lst)
    rwa [World.size_alloc] at this
  obtain ⟨x0, x1, _⟩ := HT.out.cells
  clear h h'
  cases cl : linB ms last
  · rw [ckE_no cl] at hck
    have HR : Hid (arE ms last ns lst = 4) := by show _ = _; unfold arE; rw [cl]; rfl
    clear cl hck2
    go_enter Tryz.func111, Tryz.ntmps111
    go_wp2_with fail
    refine hck.mono ?_
    rintro e w1 ⟨rfl, f1⟩
    go_wp2
    go_ret
    exact ⟨ret_int HR.out.symm, F1.seq' f1⟩
  · rw [ckE_yes cl] at hck
    have HR : Hid (arE ms last ns lst = ckE ns lst) := by show _ = _; unfold arE ckE; rw [cl]; rfl
    generalize ckE ns lst = E at *
    clear cl
    go_enter Tryz.func111, Tryz.ntmps111
    go_wp2_with fail
    refine hck.mono ?_
    rintro e w1 ⟨rfl, f1⟩
    obtain ⟨y0, y1, _⟩ := (HT2.out.fr f1 (fun f => f)).cells
    have F2 := F1.seq' f1
    go_wp2_with fail
    refine (hck2 _ F2).mono ?_
    rintro e w2 ⟨rfl, f2⟩
    go_wp2
    go_ret
    exact ⟨ret_int HR.out.symm, F2.seq' f2⟩
theorem aheadOf_any (a : Option Addr) (n c : Nat) (ms : List Mk) (last : Int) (i : Nat) (hn : n = ms.length) (hi : i ≤ 1099511627776) (hr : Right ms last) (w : World) (h : Mks w a c ms) : Calls Tryz.prog 112 #[.agg #[.slice a n c, .int .i64 last], .int .i64 i] w fun e w' => e = .returned (.int .i64 (ahF ms last i)) ∧ Fr (fun _ => False) w w' := by
  subst hn
  have F1 : Fr (fun _ => False) w (w.alloc (.cells #[.slice a ms.length c, .int .i64 last] 67)) := Fr.box _ _
  obtain ⟨x0, x1, _⟩ := (Two.new w 67 (.slice a ms.length c) (.int .i64 last)).cells
  have hl := right_len hr
  by_cases hlt : i < ms.length
  · obtain ⟨m, hm⟩ : ∃ m, ms[i]? = some m := ⟨_, List.getElem?_eq_getElem hlt⟩
    have HR : Hid (ahF ms last i = m.2 - 1) := by show _ = _; unfold ahF; rw [hm]
    obtain ⟨h1, h2, _⟩ := hr.each m (List.mem_of_getElem? hm)
    have h3 := hr.last1
    have hcx := h.max
    obtain ⟨b, off, rfl, hb, hc⟩ := (h.same F1).some (by omega)
    obtain ⟨q0, q1⟩ := mk_range (hc i m hm)
    have hki : (i : Int) < (ms.length : Int) := by omega
    clear hm hc hr h
    go_enter Tryz.func112, Tryz.ntmps112
    go_wp2
    go_ret
    exact ⟨ret_int (by rw [HR.out]), F1⟩
  · have HR : Hid (ahF ms last i = last) := by show _ = _; unfold ahF; rw [List.getElem?_eq_none (by omega)]
    have hki : decide ((i : Int) < (ms.length : Int)) = false := decide_eq_false (by omega)
    clear hr h
    go_enter Tryz.func112, Tryz.ntmps112
    go_wp2
    go_ret
    exact ⟨ret_int HR.out.symm, F1⟩
theorem eql_mk (x y x' y' : Int) (w : World) : (binOp .eql 174 (.agg #[.int .i64 x, .int .i64 y]) (.agg #[.int .i64 x', .int .i64 y'])).run Tryz.prog w = .ok (.bool (decide (((x, y) : Mk) = (x', y')))) w := by
  have hf : Tryz.prog.stoodInHeld 174 = false := by kernel_rfl
  have hu : Tryz.prog.underlying 174 = some (.struct (Tryz.prog.fieldsOf 174)) := by kernel_rfl
  rw [run_eql_struct, run_equalIn_struct _ _ _ _ _ hu hf]
  by_cases h1 : x = x' <;> by_cases h2 : y = y' <;> simp [Op.eqFields, go_sem, h1, h2]
def fkN (ms : List Mk) (last : Int) (ns : List Mk) (lst : Int) : Int := if linB ms last && linB ns lst then forkF ms ns last lst else 0
theorem shN_drop {a b : List Mk} {k : Nat} {m n : Mk} (ha : a[k]? = some m) (hb : b[k]? = some n) : shN (a.drop k) (b.drop k) = if m = n then shN (a.drop (k + 1)) (b.drop (k + 1)) + 1 else 0 := by
  rw [List.drop_eq_getElem_cons (List.getElem?_eq_some_iff.1 ha).1, (List.getElem?_eq_some_iff.1 ha).2, List.drop_eq_getElem_cons (List.getElem?_eq_some_iff.1 hb).1, (List.getElem?_eq_some_iff.1 hb).2]
  rfl
theorem shN_end {a b : List Mk} {k : Nat} (h : a.length ≤ k ∨ b.length ≤ k) : shN (a.drop k) (b.drop k) = 0 := by
  rcases h with h | h
  · rw [List.drop_eq_nil_of_le h]; cases b.drop k <;> rfl
  · rw [List.drop_eq_nil_of_le h]; cases a.drop k <;> rfl
end Go.Proofs.YtihkdffihmhnaaaGreat.Ln

/- Where two timelines part: Fork. -/
namespace Go.Proofs.YtihkdffihmhnaaaGreat.Ln
open Go.RowKit
open Go.Proofs.YtihkdffihmhnaaaGreat.Ln

theorem arE_no {ms : List Mk} {last : Int} {ns : List Mk} {lst : Int} (h : (linB ms last && linB ns lst) = false) : arE ms last ns lst = 4 ∧ fkN ms last ns lst = 0 := by
  unfold arE fkN; rw [h]; exact ⟨rfl, rfl⟩
theorem arE_yes {ms : List Mk} {last : Int} {ns : List Mk} {lst : Int} (h : (linB ms last && linB ns lst) = true) : arE ms last ns lst = 0 ∧ fkN ms last ns lst = forkF ms ns last lst := by
  unfold arE fkN; rw [h]; exact ⟨rfl, rfl⟩
theorem both_right {ms : List Mk} {last : Int} {ns : List Mk} {lst : Int} (h : (linB ms last && linB ns lst) = true) : Right ms last ∧ Right ns lst := by
  rw [Bool.and_eq_true] at h
  exact ⟨linB_right h.1, linB_right h.2⟩
theorem two_boxes (w : World) (t : TypeId) (x y u v : Value) : Two ((w.alloc (.cells #[x, y] t)).alloc (.cells #[u, v] t)) w.heap.size t x y ∧ Two ((w.alloc (.cells #[x, y] t)).alloc (.cells #[u, v] t)) (w.heap.size + 1) t u v ∧ Fr (fun _ => False) w ((w.alloc (.cells #[x, y] t)).alloc (.cells #[u, v] t)) := by
  refine ⟨(Two.new w _ _ _).fr (Fr.box _ _) (fun f => f), ?_, (Fr.box _ _).alloc _⟩
  have := Two.new (w.alloc (.cells #[x, y] t)) t u v
  rwa [World.size_alloc] at this
set_option maxRecDepth 100000 in
set_option maxHeartbeats 4000000 in
theorem fork_any (a a' : Option Addr) (n n' c c' : Nat) (ms ns : List Mk) (last lst : Int) (hn : n = ms.length) (hn' : n' = ns.length) (w : World) (h : Mks w a c ms) (h' : Mks w a' c' ns) : Calls Tryz.prog 69 #[.agg #[.slice a n c, .int .i64 last], .agg #[.slice a' n' c', .int .i64 lst]] w fun e w' => e = .returned (.tuple #[.int .i64 (fkN ms last ns lst), .int .i64 (arE ms last ns lst)]) ∧ Fr (fun _ => False) w w' := by
  subst hn
  subst hn'
  obtain ⟨T1, T2, F1⟩ := two_boxes w 67 (.slice a ms.length c) (.int .i64 last) (.slice a' ns.length c') (.int .i64 lst)
  have har := areRight_any a a' ms.length ns.length c c' ms ns last lst rfl rfl _ (h.same F1) (h'.same F1)
  obtain ⟨x0, x1, _⟩ := T1.cells
  obtain ⟨y0, y1, _⟩ := T2.cells
  cases cl : (linB ms last && linB ns lst)
  · obtain ⟨e1, e2⟩ := arE_no cl
    rw [e1] at har ⊢
    rw [e2]
    clear cl e1 e2 h h' T1 T2
    go_enter Tryz.func69, Tryz.ntmps69
    go_wp2_with fail
    refine har.mono ?_
    rintro e w1 ⟨rfl, f1⟩
    go_wp2
    go_ret2
    exact ⟨rfl, F1.seq' f1⟩
  · obtain ⟨e1, e2⟩ := arE_yes cl
    obtain ⟨R1, R2⟩ := both_right cl
    rw [e1] at har ⊢
    rw [e2]
    have HA1 : Hid (∀ W, Fr (fun _ => False) w W → Mks W a c ms) := fun W f => h.same f
    have HA2 : Hid (∀ W, Fr (fun _ => False) w W → Mks W a' c' ns) := fun W f => h'.same f
    have HR1 : Hid (Right ms last) := R1
    have HR2 : Hid (Right ns lst) := R2
    have l1 := right_len R1
    have l2 := right_len R2
    have hcx := h.max
    have hcx' := h'.max
    have HT1 : Hid (∀ W, Fr (fun _ => False) ((w.alloc (.cells #[.slice a ms.length c, .int .i64 last] 67)).alloc (.cells #[.slice a' ns.length c', .int .i64 lst] 67)) W → Two W w.heap.size 67 (.slice a ms.length c) (.int .i64 last) ∧ Two W (w.heap.size + 1) 67 (.slice a' ns.length c') (.int .i64 lst)) := fun W f => ⟨T1.fr f (fun f => f), T2.fr f (fun f => f)⟩
    obtain ⟨M, hM, hM1, hM2, hM3⟩ : ∃ M : Nat, (if ns.length < ms.length then (ns.length : Int) else (ms.length : Int)) = (M : Int) ∧ M ≤ ms.length ∧ M ≤ ns.length ∧ (M = ms.length ∨ M = ns.length) := ⟨min ms.length ns.length, by split <;> omega, by omega, by omega, by omega⟩
    have HM3 : Hid (M = ms.length ∨ M = ns.length) := hM3
    have hMm : min (ms.length : Int) (ns.length : Int) = (M : Int) := by rcases hM3 with h | h <;> omega
    clear cl e1 e2 h h' T1 T2 R1 R2 hM3
    go_enter Tryz.func69, Tryz.ntmps69
    go_wp2_with fail
    generalize ((w.alloc (.cells #[.slice a ms.length c, .int .i64 last] 67)).alloc (.cells #[.slice a' ns.length c', .int .i64 lst] 67)) = V at *
    refine har.mono ?_
    rintro e w1 ⟨rfl, f1⟩
    clear har x0 x1 y0 y1
    go_wp2
    go_loopw [7] (fun i wr => ∃ (k : Nat), k ≤ M ∧ i = .int .i64 k ∧ Hid (shN ms ns = k + shN (ms.drop k) (ns.drop k)) ∧ Hid (Fr (fun _ => False) V wr)) (fun i _ => M - (intOf i).toNat)
    case atStart => exact ⟨0, by omega, rfl, by show _ = _; simp, f1⟩
    case round =>
      obtain ⟨k, hk, rfl, HE, HF⟩ := hrel
      have FW := F1.seq' HF.out
      obtain ⟨T1, T2⟩ := HT1.out _ HF.out
      obtain ⟨x0, x1, _⟩ := T1.cells
      obtain ⟨y0, y1, _⟩ := T2.cells
      have fin : Hid (shN ms ns = k) → Hid (∀ (W : World), Fr (fun _ => False) V W → Calls Tryz.prog 112 #[.agg #[.slice a ms.length c, .int .i64 last], .int .i64 k] W fun e w' => e = .returned (.int .i64 (ahF ms last k)) ∧ Fr (fun _ => False) W w') := fun _ W f => aheadOf_any a ms.length c ms last k rfl (by omega) HR1.out W (HA1.out _ (F1.seq' f))
      have fin2 : Hid (shN ms ns = k) → Hid (∀ (W : World), Fr (fun _ => False) V W → Calls Tryz.prog 112 #[.agg #[.slice a' ns.length c', .int .i64 lst], .int .i64 k] W fun e w' => e = .returned (.int .i64 (ahF ns lst k)) ∧ Fr (fun _ => False) W w') := fun _ W f => aheadOf_any a' ns.length c' ns lst k rfl (by omega) HR2.out W (HA2.out _ (F1.seq' f))
      by_cases hlt : k < M
      · obtain ⟨m, hm⟩ : ∃ m, ms[k]? = some m := ⟨_, List.getElem?_eq_getElem (by omega)⟩
        obtain ⟨m', hm'⟩ : ∃ m, ns[k]? = some m := ⟨_, List.getElem?_eq_getElem (by omega)⟩
        obtain ⟨b, off, rfl, hb, hc⟩ := (HA1.out _ FW).some (by omega)
        obtain ⟨b', off', rfl, hb', hc'⟩ := (HA2.out _ FW).some (by omega)
        obtain ⟨q0, q1⟩ := mk_range (hc k m hm)
        obtain ⟨p0, p1⟩ := mk_range (hc' k m' hm')
        have HSH : Hid (shN (ms.drop k) (ns.drop k) = if m = m' then shN (ms.drop (k + 1)) (ns.drop (k + 1)) + 1 else 0) := shN_drop hm hm'
        have hki : (k : Int) < (ms.length : Int) := by omega
        have hki' : (k : Int) < (ns.length : Int) := by omega
        have hkM : (k : Int) < (M : Int) := by omega
        have heq := eql_mk m.1 m.2 m'.1 m'.2
        clear hm hm' hc hc'
        by_cases hq : m = m'
        · have d0 : decide ((m.1, m.2) = (m'.1, m'.2)) = true := decide_eq_true hq
          rw [d0] at heq
          have HN : Hid (shN ms ns = (k + 1) + shN (ms.drop (k + 1)) (ns.drop (k + 1))) := by
            show _ = _
            rw [HE.out, HSH.out, if_pos hq]; omega
          clear hq d0 HSH HE fin fin2
          go_wp2_with fail
          go_quiet (fail)
          go_wp2
          go_roundw
          case rel => exact ⟨k + 1, by omega, by go_num, HN, Fr.drewN HF.out _⟩
          case measure => simp [intOf]; omega
        · have d0 : decide ((m.1, m.2) = (m'.1, m'.2)) = false := decide_eq_false hq
          rw [d0] at heq
          have HS : Hid (shN ms ns = k) := by
            show _ = _
            rw [HE.out, HSH.out, if_neg hq]; rfl
          clear hq d0 HSH
          have QA := (fin HS).out
          have QB := (fin2 HS).out
          have HFK : Hid (forkF ms ns last lst = if ahF ns lst k < ahF ms last k then ahF ns lst k else ahF ms last k) := by
            show _ = _
            unfold forkF
            rw [HS.out]
            split <;> omega
          generalize ahF ms last k = A at *
          generalize ahF ns lst k = B at *
          obtain ⟨C, hC⟩ : ∃ C : Int, (if B < A then B else A) = C := ⟨_, rfl⟩
          rw [hC] at HFK
          have hCm : min A B = C := by rw [← hC]; split <;> omega
          clear HE fin fin2 HS
          go_wp2_with fail
          go_quiet (fail)
          go_wp2_with fail
          have F2 : Fr (fun _ => False) V (wr.drewN nq).drew := (Fr.drewN HF.out _).drew
          have HQ : Hid (∀ W, Fr (fun _ => False) V W → (W.cell? ⟨w.heap.size, 0, none⟩ = some (.slice (some ⟨b, off, none⟩) ms.length c) ∧ W.cell? ⟨w.heap.size, 1, none⟩ = some (.int .i64 last)) ∧ W.cell? ⟨w.heap.size + 1, 0, none⟩ = some (.slice (some ⟨b', off', none⟩) ns.length c') ∧ W.cell? ⟨w.heap.size + 1, 1, none⟩ = some (.int .i64 lst)) := fun W f => ⟨⟨(HT1.out _ f).1.cells.1, (HT1.out _ f).1.cells.2.1⟩, (HT1.out _ f).2.cells.1, (HT1.out _ f).2.cells.2.1⟩
          have q9 := HQ.out _ F2
          have QA1 := QA _ F2
          clear x0 x1 y0 y1 T1 T2
          go_region_held3 (fun W => (W.cell? ⟨w.heap.size, 0, none⟩ = some (.slice (some ⟨b, off, none⟩) ms.length c) ∧ W.cell? ⟨w.heap.size, 1, none⟩ = some (.int .i64 last)) ∧ W.cell? ⟨w.heap.size + 1, 0, none⟩ = some (.slice (some ⟨b', off', none⟩) ns.length c') ∧ W.cell? ⟨w.heap.size + 1, 1, none⟩ = some (.int .i64 lst))
            (first | with_reducible exact q9 | with_reducible exact q8 | with_reducible exact q7 | fail)
            (first
              | (go_at_call 112; refine QA1.mono ?_; rintro e w5 ⟨rfl, f5⟩; clear QA1; have q8 := HQ.out _ (F2.seq' f5); have QB1 := QB _ (F2.seq' f5))
              | (go_at_call 112; refine QB1.mono ?_; rintro e w6 ⟨rfl, f6⟩; clear QB1; have q7 := HQ.out _ ((F2.seq' f5).seq' f6)))
          go_wp2
          go_ret2
          rw [HFK.out]
          exact ⟨rfl, F1.seq' ((F2.seq' f5).seq' f6)⟩
      · have hkM : decide ((k : Int) < (M : Int)) = false := decide_eq_false (by omega)
        have hkN : decide (k < M) = false := decide_eq_false (by omega)
        have HS : Hid (shN ms ns = k) := by
          show _ = _
          rw [HE.out, shN_end (by rcases HM3.out with h | h <;> omega)]; rfl
        clear hlt
        have QA := (fin HS).out
        have QB := (fin2 HS).out
        have HFK : Hid (forkF ms ns last lst = if ahF ns lst k < ahF ms last k then ahF ns lst k else ahF ms last k) := by
          show _ = _
          unfold forkF
          rw [HS.out]
          split <;> omega
        generalize ahF ms last k = A at *
        generalize ahF ns lst k = B at *
        obtain ⟨C, hC⟩ : ∃ C : Int, (if B < A then B else A) = C := ⟨_, rfl⟩
        rw [hC] at HFK
        have hCm : min A B = C := by rw [← hC]; split <;> omega
        clear HE fin fin2 HS
        go_wp2_with fail
        go_quiet (fail)
        go_wp2_with fail
        have F2 : Fr (fun _ => False) V (wr.drewN nq).drew := (Fr.drewN HF.out _).drew
        have HQ : Hid (∀ W, Fr (fun _ => False) V W → (W.cell? ⟨w.heap.size, 0, none⟩ = some (.slice a ms.length c) ∧ W.cell? ⟨w.heap.size, 1, none⟩ = some (.int .i64 last)) ∧ W.cell? ⟨w.heap.size + 1, 0, none⟩ = some (.slice a' ns.length c') ∧ W.cell? ⟨w.heap.size + 1, 1, none⟩ = some (.int .i64 lst)) := fun W f => ⟨⟨(HT1.out _ f).1.cells.1, (HT1.out _ f).1.cells.2.1⟩, (HT1.out _ f).2.cells.1, (HT1.out _ f).2.cells.2.1⟩
        have q9 := HQ.out _ F2
        have QA1 := QA _ F2
        clear x0 x1 y0 y1 T1 T2
        go_region_held3 (fun W => (W.cell? ⟨w.heap.size, 0, none⟩ = some (.slice a ms.length c) ∧ W.cell? ⟨w.heap.size, 1, none⟩ = some (.int .i64 last)) ∧ W.cell? ⟨w.heap.size + 1, 0, none⟩ = some (.slice a' ns.length c') ∧ W.cell? ⟨w.heap.size + 1, 1, none⟩ = some (.int .i64 lst))
            (first | with_reducible exact q9 | with_reducible exact q8 | with_reducible exact q7 | fail)
            (first
            | (go_at_call 112; refine QA1.mono ?_; rintro e w5 ⟨rfl, f5⟩; clear QA1; have q8 := HQ.out _ (F2.seq' f5); have QB1 := QB _ (F2.seq' f5))
            | (go_at_call 112; refine QB1.mono ?_; rintro e w6 ⟨rfl, f6⟩; clear QB1; have q7 := HQ.out _ ((F2.seq' f5).seq' f6)))
        go_wp2
        go_ret2
        rw [HFK.out]
        exact ⟨rfl, F1.seq' ((F2.seq' f5).seq' f6)⟩
end Go.Proofs.YtihkdffihmhnaaaGreat.Ln

/- Which of two timelines is newer; the document's Fork and Newer. -/
namespace Go.Proofs.YtihkdffihmhnaaaGreat.Ln
open Go.RowKit
open Go.Proofs.YtihkdffihmhnaaaGreat.Ln

def nwB (ms : List Mk) (last : Int) (ns : List Mk) (lst : Int) : Bool := if linB ms last && linB ns lst then newB ms ns last lst else false
theorem nwB_no {ms : List Mk} {last : Int} {ns : List Mk} {lst : Int} (h : (linB ms last && linB ns lst) = false) : nwB ms last ns lst = false := by unfold nwB; rw [h]; rfl
theorem nwB_yes {ms : List Mk} {last : Int} {ns : List Mk} {lst : Int} (h : (linB ms last && linB ns lst) = true) : nwB ms last ns lst = newB ms ns last lst := by unfold nwB; rw [h]; rfl
theorem new_cases {ms ns : List Mk} {last lst x y : Int} (hx : epF ms last = x) (hy : epF ns lst = y) : ∃ d1 d2 d3 : Bool, decide (y < x) = d1 ∧ (x == y) = d2 ∧ decide (lst < last) = d3 ∧ newB ms ns last lst = (d1 || (d2 && d3)) := by
  refine ⟨_, _, _, rfl, rfl, rfl, ?_⟩
  unfold newB
  rw [hx, hy, show (x == y) = decide (x = y) from rfl]
end Go.Proofs.YtihkdffihmhnaaaGreat.Ln

/- The document's Fork. -/
namespace Go.Proofs.YtihkdffihmhnaaaGreat.Ln
open Go.RowKit
open Go.Proofs.YtihkdffihmhnaaaGreat.Ln

theorem take_next {ms : List Mk} {k : Nat} {m : Mk} (h : ms[k]? = some m) : ms.take (k + 1) = ms.take k ++ [m] := by
  rw [List.take_succ_eq_append_getElem (List.getElem?_eq_some_iff.1 h).1, (List.getElem?_eq_some_iff.1 h).2]
set_option maxRecDepth 100000 in
set_option maxHeartbeats 8000000 in
theorem rfork_any (a a' : Option Addr) (n n' c c' : Nat) (ms ns : List Mk) (last lst : Int) (hn : n = ms.length) (hn' : n' = ns.length) (w : World) (h : Mks w a c ms) (h' : Mks w a' c' ns) : Calls Tryz.prog 70 #[.agg #[.slice a n c, .int .i64 last], .agg #[.slice a' n' c', .int .i64 lst]] w fun e w' => e = .returned (.tuple #[.int .i64 (fkN ms last ns lst), .int .i64 (arE ms last ns lst)]) ∧ Fr (fun _ => False) w w' := by
  subst hn
  subst hn'
  obtain ⟨T1, T2, F1⟩ := two_boxes w 72 (.slice a ms.length c) (.int .i64 last) (.slice a' ns.length c') (.int .i64 lst)
  have hra := rright_any a ms.length c ms last rfl _ (h.same F1)
  have hrb := fun W (f : Fr (fun _ => False) w W) => rright_any a' ns.length c' ns lst rfl W (h'.same f)
  obtain ⟨x0, x1, _⟩ := T1.cells
  obtain ⟨y0, y1, _⟩ := T2.cells
  have HT1 : Hid (∀ W, Fr (fun _ => False) ((w.alloc (.cells #[.slice a ms.length c, .int .i64 last] 72)).alloc (.cells #[.slice a' ns.length c', .int .i64 lst] 72)) W → (W.cell? ⟨w.heap.size, 0, none⟩ = some (.slice a ms.length c) ∧ W.cell? ⟨w.heap.size, 1, none⟩ = some (.int .i64 last)) ∧ W.cell? ⟨w.heap.size + 1, 0, none⟩ = some (.slice a' ns.length c') ∧ W.cell? ⟨w.heap.size + 1, 1, none⟩ = some (.int .i64 lst)) := fun W f => ⟨⟨(T1.fr f (fun f => f)).cells.1, (T1.fr f (fun f => f)).cells.2.1⟩, (T2.fr f (fun f => f)).cells.1, (T2.fr f (fun f => f)).cells.2.1⟩
  cases c1 : linB ms last
  · have cl : (linB ms last && linB ns lst) = false := by rw [c1]; rfl
    rw [(arE_no cl).1, (arE_no cl).2]
    rw [c1] at hra
    clear cl h h' T1 T2 c1 hrb
    go_enter Tryz.func70, Tryz.ntmps70
    go_wp2_with fail
    refine hra.mono ?_
    rintro e w1 ⟨rfl, f1⟩
    go_wp2
    go_ret2
    exact ⟨rfl, F1.seq' f1⟩
  · have HR1 : Hid (Right ms last) := linB_right c1
    rw [c1] at hra
    cases c2 : linB ns lst
    · have cl : (linB ms last && linB ns lst) = false := by rw [c1, c2]; rfl
      rw [(arE_no cl).1, (arE_no cl).2]
      rw [c2] at hrb
      clear cl h h' T1 T2 c1 c2
      go_enter Tryz.func70, Tryz.ntmps70
      go_wp2_with fail
      generalize ((w.alloc (.cells #[.slice a ms.length c, .int .i64 last] 72)).alloc (.cells #[.slice a' ns.length c', .int .i64 lst] 72)) = V at *
      refine hra.mono ?_
      rintro e w1 ⟨rfl, f1⟩
      obtain ⟨⟨x0, x1⟩, y0, y1⟩ := HT1.out _ f1
      go_wp2_with fail
      refine (hrb _ (F1.seq' f1)).mono ?_
      rintro e w2 ⟨rfl, f2⟩
      go_wp2
      go_ret2
      exact ⟨rfl, (F1.seq' f1).seq' f2⟩
    · have HR2 : Hid (Right ns lst) := linB_right c2
      have cl : (linB ms last && linB ns lst) = true := by rw [c1, c2]; rfl
      rw [(arE_yes cl).1, (arE_yes cl).2]
      rw [c2] at hrb
      have HEA : Hid (∀ x W, Fr (fun _ => False) ((w.alloc (.cells #[.slice a ms.length c, .int .i64 last] 72)).alloc (.cells #[.slice a' ns.length c', .int .i64 lst] 72)) W → Calls Tryz.prog 114 #[.agg #[.slice a ms.length c, .int .i64 last], .int .i64 x] W fun e w' => e = .returned (.int .i64 (epF ms x)) ∧ Fr (fun _ => False) W w') := fun x W f => repoch_any a ms.length c ms last x rfl W (h.same (F1.seq' f))
      have HEB : Hid (∀ x W, Fr (fun _ => False) ((w.alloc (.cells #[.slice a ms.length c, .int .i64 last] 72)).alloc (.cells #[.slice a' ns.length c', .int .i64 lst] 72)) W → Calls Tryz.prog 114 #[.agg #[.slice a' ns.length c', .int .i64 lst], .int .i64 x] W fun e w' => e = .returned (.int .i64 (epF ns x)) ∧ Fr (fun _ => False) W w') := fun x W f => repoch_any a' ns.length c' ns lst x rfl W (h'.same (F1.seq' f))
      have HM1 : Hid (∀ W, Fr (fun _ => False) ((w.alloc (.cells #[.slice a ms.length c, .int .i64 last] 72)).alloc (.cells #[.slice a' ns.length c', .int .i64 lst] 72)) W → Mks W a c ms) := fun W f => h.same (F1.seq' f)
      have HM2 : Hid (∀ W, Fr (fun _ => False) ((w.alloc (.cells #[.slice a ms.length c, .int .i64 last] 72)).alloc (.cells #[.slice a' ns.length c', .int .i64 lst] 72)) W → Mks W a' c' ns) := fun W f => h'.same (F1.seq' f)
      have l1 := right_len HR1.out
      have l2 := right_len HR2.out
      have hcx := h.max
      have hcx' := h'.max
      obtain ⟨u0, hu0⟩ : ∃ u : Int, u = (if lst < last then lst else last) := ⟨_, rfl⟩
      have HU0 : Hid (u0 = (if lst < last then lst else last)) := hu0
      clear cl h h' T1 T2 c1 c2 hu0
      go_enter Tryz.func70, Tryz.ntmps70
      go_wp2_with fail
      generalize ((w.alloc (.cells #[.slice a ms.length c, .int .i64 last] 72)).alloc (.cells #[.slice a' ns.length c', .int .i64 lst] 72)) = V at *
      refine hra.mono ?_
      rintro e w1 ⟨rfl, f1⟩
      clear hra x0 x1 y0 y1
      obtain ⟨⟨x0, x1⟩, y0, y1⟩ := HT1.out _ f1
      go_wp2_with fail
      refine (hrb _ (F1.seq' f1)).mono ?_
      rintro e w2 ⟨rfl, f2⟩
      clear hrb x0 x1 y0 y1
      obtain ⟨⟨x0, x1⟩, y0, y1⟩ := HT1.out _ (f1.seq' f2)
      have f1s : Hid (Fr (fun _ => False) V w2) := f1.seq' f2
      clear f1 f2
      go_upto_if 24 with fail
      go_cut [6] (fun p wc => p = .int .i64 u0 ∧ w2 = wc)
      case first =>
        by_cases hll : lst < last
        · have hu : u0 = lst := by rw [HU0.out, if_pos hll]
          have d1 : decide (lst < last) = true := decide_eq_true hll
          go_wp2
          go_meet
          exact ⟨by rw [hu], rfl⟩
        · have hu : u0 = last := by rw [HU0.out, if_neg hll]
          have d1 : decide (lst < last) = false := decide_eq_false hll
          go_wp2
          go_meet
          exact ⟨by rw [hu], rfl⟩
      case rest =>
      obtain ⟨rfl, rfl⟩ := hcut
      go_wp2
      go_loopw [30, 6] (fun i t wr => ∃ (k : Nat) (u : Int), k ≤ ms.length ∧ i = .int .i64 k ∧ t = .int .i64 u ∧ Hid (u = swF ns (ms.take k) u0) ∧ Hid (Fr (fun _ => False) V wr)) (fun i _ _ => ms.length - (intOf i).toNat)
      case atStart => exact ⟨0, u0, by omega, rfl, rfl, rfl, f1s⟩
      case round =>
        obtain ⟨k, u, hk, rfl, rfl, HU, HF⟩ := hrel
        by_cases hlt : k < ms.length
        · obtain ⟨m, hm⟩ : ∃ m, ms[k]? = some m := ⟨_, List.getElem?_eq_getElem hlt⟩
          obtain ⟨h1, h2, _⟩ := (HR1).out.each m (List.mem_of_getElem? hm)
          have h3 := (HR1).out.last1
          have HN : Hid (swF ns (ms.take (k + 1)) u0 = if m.2 ≤ u ∧ epF ns m.2 ≠ m.1 then m.2 - 1 else u) := by
            show _ = _
            rw [take_next hm, swF_snoc, ← HU.out]
          obtain ⟨b, off, rfl, hb, hc⟩ := (HM1.out _ HF.out).some (by omega)
          obtain ⟨q0, q1⟩ := mk_range (hc k m hm)
          have hki : (k : Int) < (ms.length : Int) := by omega
          have hep := HEB.out m.2
          have fb : Fr (fun _ => False) wr (wr.alloc (.cells #[.int .i64 m.1, .int .i64 m.2] 174)) := Fr.box _ _
          have TM := Two.new wr 174 (.int .i64 m.1) (.int .i64 m.2)
          obtain ⟨m1, m2⟩ := m
          dsimp only at *
          clear hm hc
          by_cases hg : m2 ≤ u
          · have hgd : decide (m2 ≤ u) = true := decide_eq_true hg
            obtain ⟨x, hx⟩ : ∃ x, epF ns m2 = x := ⟨_, rfl⟩
            rw [hx] at hep HN
            clear hx
            have HQ : Hid (∀ W, Fr (fun _ => False) (wr.alloc (.cells #[.int .i64 m1, .int .i64 m2] 174)) W → (W.cell? ⟨wr.heap.size, 0, none⟩ = some (.int .i64 m1) ∧ W.cell? ⟨wr.heap.size, 1, none⟩ = some (.int .i64 m2)) ∧ W.cell? ⟨(w.heap.size + 1), 0, none⟩ = some (.slice a' ns.length c') ∧ W.cell? ⟨(w.heap.size + 1), 1, none⟩ = some (.int .i64 lst)) := fun W f => ⟨⟨(TM.fr f (fun f => f)).cells.1, (TM.fr f (fun f => f)).cells.2.1⟩, (HT1.out _ ((HF.out.seq' fb).seq' f)).2⟩
            have HV : Hid (∀ W, Fr (fun _ => False) (wr.alloc (.cells #[.int .i64 m1, .int .i64 m2] 174)) W → Fr (fun _ => False) V W) := fun W f => (HF.out.seq' fb).seq' f
            have FD := (Fr.refl (fun _ => False) (wr.alloc (.cells #[.int .i64 m1, .int .i64 m2] 174))).drew
            have q9 := HQ.out _ FD
            have hep1 := hep _ (HV.out _ FD)
            clear fb TM hep
            by_cases he : x = m1
            · have de : (x != m1) = false := by rw [he]; simp
              have HU2 : Hid (u = swF ns (ms.take (k + 1)) u0) := by show _ = _; rw [HN.out, if_neg (fun h => h.2 he)]
              clear HN HU he
              go_wp2_with fail
              go_region_held3 (fun W => (W.cell? ⟨wr.heap.size, 0, none⟩ = some (.int .i64 m1) ∧ W.cell? ⟨wr.heap.size, 1, none⟩ = some (.int .i64 m2)) ∧ W.cell? ⟨(w.heap.size + 1), 0, none⟩ = some (.slice a' ns.length c') ∧ W.cell? ⟨(w.heap.size + 1), 1, none⟩ = some (.int .i64 lst))
                (first | with_reducible exact q9 | with_reducible exact q8 | fail)
                ((go_at_call 114; refine hep1.mono ?_; rintro e w5 ⟨rfl, f5⟩; have q8 := HQ.out _ (FD.seq' f5)))
              have HFE : Hid (Fr (fun _ => False) V w5) := HV.out _ (FD.seq' f5)
              clear q9 f5 hep1
              obtain ⟨⟨z0, z1⟩, z2, z3⟩ := q8
              go_wp2
              go_roundw
              case rel => exact ⟨k + 1, u, by omega, by go_num, rfl, HU2, HFE⟩
              case measure => simp [intOf]; omega
            · have de : (x != m1) = true := by simpa using he
              have HU2 : Hid (m2 - 1 = swF ns (ms.take (k + 1)) u0) := by show _ = _; rw [HN.out, if_pos ⟨hg, he⟩]
              clear HN HU he
              go_wp2_with fail
              go_region_held3 (fun W => (W.cell? ⟨wr.heap.size, 0, none⟩ = some (.int .i64 m1) ∧ W.cell? ⟨wr.heap.size, 1, none⟩ = some (.int .i64 m2)) ∧ W.cell? ⟨(w.heap.size + 1), 0, none⟩ = some (.slice a' ns.length c') ∧ W.cell? ⟨(w.heap.size + 1), 1, none⟩ = some (.int .i64 lst))
                (first | with_reducible exact q9 | with_reducible exact q8 | fail)
                ((go_at_call 114; refine hep1.mono ?_; rintro e w5 ⟨rfl, f5⟩; have q8 := HQ.out _ (FD.seq' f5)))
              have HFE : Hid (Fr (fun _ => False) V w5) := HV.out _ (FD.seq' f5)
              clear q9 f5 hep1
              obtain ⟨⟨z0, z1⟩, z2, z3⟩ := q8
              go_wp2
              go_roundw
              case rel => exact ⟨k + 1, m2 - 1, by omega, by go_num, rfl, HU2, HFE⟩
              case measure => simp [intOf]; omega
          · have hgd : decide (m2 ≤ u) = false := decide_eq_false hg
            have HU2 : Hid (u = swF ns (ms.take (k + 1)) u0) := by show _ = _; rw [HN.out, if_neg (fun h => hg h.1)]
            have HFE : Hid (Fr (fun _ => False) V (wr.alloc (.cells #[.int .i64 m1, .int .i64 m2] 174))) := HF.out.seq' fb
            obtain ⟨z0, z1, _⟩ := TM.cells
            clear HN HU hep fb TM hg
            go_wp2_with fail
            go_quiet (fail)
            go_wp2
            go_roundw
            case rel => exact ⟨k + 1, u, by omega, by go_num, rfl, HU2, Fr.drewN HFE.out _⟩
            case measure => simp [intOf]; omega
        · have HU2 : Hid (u = swF ns ms u0) := by show _ = _; rw [HU.out, List.take_of_length_le (by omega)]
          clear HU
          obtain ⟨⟨x0, x1⟩, y0, y1⟩ := HT1.out _ HF.out
          have hkn : decide ((k : Int) < (ms.length : Int)) = false := decide_eq_false (by omega)
          have HUA : Hid (u = swF ns ms u0) := HU2
          have HF1 : Hid (Fr (fun _ => False) V wr) := HF
          have HFK : Hid (forkF ms ns last lst = swF ms ns u) := by show _ = _; rw [HUA.out, HU0.out]; exact (rfork_eq HR1.out HR2.out).symm
          generalize u = uA at *
          clear HU2 HF HUA
          go_wp2
          clear hlt
          rename World => W2
          go_loopw [54, 6] (fun i t wr => ∃ (k : Nat) (u : Int), k ≤ ns.length ∧ i = .int .i64 k ∧ t = .int .i64 u ∧ Hid (u = swF ms (ns.take k) uA) ∧ Hid (Fr (fun _ => False) V wr)) (fun i _ _ => ns.length - (intOf i).toNat)
          case atStart => exact ⟨0, uA, by omega, rfl, rfl, rfl, HF1⟩
          case round =>
            obtain ⟨k, u, hk, rfl, rfl, HU, HF⟩ := hrel
            by_cases hlt : k < ns.length
            · obtain ⟨m, hm⟩ : ∃ m, ns[k]? = some m := ⟨_, List.getElem?_eq_getElem hlt⟩
              obtain ⟨h1, h2, _⟩ := (HR2).out.each m (List.mem_of_getElem? hm)
              have h3 := (HR2).out.last1
              have HN : Hid (swF ms (ns.take (k + 1)) uA = if m.2 ≤ u ∧ epF ms m.2 ≠ m.1 then m.2 - 1 else u) := by
                show _ = _
                rw [take_next hm, swF_snoc, ← HU.out]
              obtain ⟨b, off, rfl, hb, hc⟩ := (HM2.out _ HF.out).some (by omega)
              obtain ⟨q0, q1⟩ := mk_range (hc k m hm)
              have hki : (k : Int) < (ns.length : Int) := by omega
              have hep := HEA.out m.2
              have fb : Fr (fun _ => False) wr (wr.alloc (.cells #[.int .i64 m.1, .int .i64 m.2] 174)) := Fr.box _ _
              have TM := Two.new wr 174 (.int .i64 m.1) (.int .i64 m.2)
              obtain ⟨m1, m2⟩ := m
              dsimp only at *
              clear hm hc
              by_cases hg : m2 ≤ u
              · have hgd : decide (m2 ≤ u) = true := decide_eq_true hg
                obtain ⟨x, hx⟩ : ∃ x, epF ms m2 = x := ⟨_, rfl⟩
                rw [hx] at hep HN
                clear hx
                have HQ : Hid (∀ W, Fr (fun _ => False) (wr.alloc (.cells #[.int .i64 m1, .int .i64 m2] 174)) W → (W.cell? ⟨wr.heap.size, 0, none⟩ = some (.int .i64 m1) ∧ W.cell? ⟨wr.heap.size, 1, none⟩ = some (.int .i64 m2)) ∧ W.cell? ⟨w.heap.size, 0, none⟩ = some (.slice a ms.length c) ∧ W.cell? ⟨w.heap.size, 1, none⟩ = some (.int .i64 last)) := fun W f => ⟨⟨(TM.fr f (fun f => f)).cells.1, (TM.fr f (fun f => f)).cells.2.1⟩, (HT1.out _ ((HF.out.seq' fb).seq' f)).1⟩
                have HV : Hid (∀ W, Fr (fun _ => False) (wr.alloc (.cells #[.int .i64 m1, .int .i64 m2] 174)) W → Fr (fun _ => False) V W) := fun W f => (HF.out.seq' fb).seq' f
                have FD := (Fr.refl (fun _ => False) (wr.alloc (.cells #[.int .i64 m1, .int .i64 m2] 174))).drew
                have q9 := HQ.out _ FD
                have hep1 := hep _ (HV.out _ FD)
                clear fb TM hep
                by_cases he : x = m1
                · have de : (x != m1) = false := by rw [he]; simp
                  have HU2 : Hid (u = swF ms (ns.take (k + 1)) uA) := by show _ = _; rw [HN.out, if_neg (fun h => h.2 he)]
                  clear HN HU he
                  go_wp2_with fail
                  go_region_held3 (fun W => (W.cell? ⟨wr.heap.size, 0, none⟩ = some (.int .i64 m1) ∧ W.cell? ⟨wr.heap.size, 1, none⟩ = some (.int .i64 m2)) ∧ W.cell? ⟨w.heap.size, 0, none⟩ = some (.slice a ms.length c) ∧ W.cell? ⟨w.heap.size, 1, none⟩ = some (.int .i64 last))
                    (first | with_reducible exact q9 | with_reducible exact q8 | fail)
                    ((go_at_call 114; refine hep1.mono ?_; rintro e w5 ⟨rfl, f5⟩; have q8 := HQ.out _ (FD.seq' f5)))
                  have HFE : Hid (Fr (fun _ => False) V w5) := HV.out _ (FD.seq' f5)
                  clear q9 f5 hep1
                  obtain ⟨⟨z0, z1⟩, z2, z3⟩ := q8
                  go_wp2
                  go_roundw
                  case rel => exact ⟨k + 1, u, by omega, by go_num, rfl, HU2, HFE⟩
                  case measure => simp [intOf]; omega
                · have de : (x != m1) = true := by simpa using he
                  have HU2 : Hid (m2 - 1 = swF ms (ns.take (k + 1)) uA) := by show _ = _; rw [HN.out, if_pos ⟨hg, he⟩]
                  clear HN HU he
                  go_wp2_with fail
                  go_region_held3 (fun W => (W.cell? ⟨wr.heap.size, 0, none⟩ = some (.int .i64 m1) ∧ W.cell? ⟨wr.heap.size, 1, none⟩ = some (.int .i64 m2)) ∧ W.cell? ⟨w.heap.size, 0, none⟩ = some (.slice a ms.length c) ∧ W.cell? ⟨w.heap.size, 1, none⟩ = some (.int .i64 last))
                    (first | with_reducible exact q9 | with_reducible exact q8 | fail)
                    ((go_at_call 114; refine hep1.mono ?_; rintro e w5 ⟨rfl, f5⟩; have q8 := HQ.out _ (FD.seq' f5)))
                  have HFE : Hid (Fr (fun _ => False) V w5) := HV.out _ (FD.seq' f5)
                  clear q9 f5 hep1
                  obtain ⟨⟨z0, z1⟩, z2, z3⟩ := q8
                  go_wp2
                  go_roundw
                  case rel => exact ⟨k + 1, m2 - 1, by omega, by go_num, rfl, HU2, HFE⟩
                  case measure => simp [intOf]; omega
              · have hgd : decide (m2 ≤ u) = false := decide_eq_false hg
                have HU2 : Hid (u = swF ms (ns.take (k + 1)) uA) := by show _ = _; rw [HN.out, if_neg (fun h => hg h.1)]
                have HFE : Hid (Fr (fun _ => False) V (wr.alloc (.cells #[.int .i64 m1, .int .i64 m2] 174))) := HF.out.seq' fb
                obtain ⟨z0, z1, _⟩ := TM.cells
                clear HN HU hep fb TM hg
                go_wp2_with fail
                go_quiet (fail)
                go_wp2
                go_roundw
                case rel => exact ⟨k + 1, u, by omega, by go_num, rfl, HU2, Fr.drewN HFE.out _⟩
                case measure => simp [intOf]; omega
            · have HU2 : Hid (u = swF ms ns uA) := by show _ = _; rw [HU.out, List.take_of_length_le (by omega)]
              clear HU
              obtain ⟨⟨x0, x1⟩, y0, y1⟩ := HT1.out _ HF.out
              have hkn : decide ((k : Int) < (ns.length : Int)) = false := decide_eq_false (by omega)
              go_wp2
              go_ret2
              refine ⟨?_, F1.seq' HF.out⟩
              rw [HFK.out, HU2.out]
              rfl


end Go.Proofs.YtihkdffihmhnaaaGreat.Ln

/- Timelines and marks that came in. -/
namespace Go.Proofs.YtihkdffihmhnaaaGreat.Ln
open Go.ChangeShapes Go.WideShapes Go.ChangeAt Go.RowKit Go.Deep
open Go.Proofs.YtihkdffihmhnaaaGreat.Ln

theorem lcellsI : Tryz.prog.cellsOf 3 = 1 := by kernel_rfl
theorem lcellsM : Tryz.prog.cellsOf 174 = 2 := by kernel_rfl
theorem lcellsS : Tryz.prog.cellsOf 65 = 1 := by kernel_rfl
theorem lcellsL : Tryz.prog.cellsOf 67 = 2 := by kernel_rfl
theorem array2 {α : Type} {cs : Array α} (h : cs.size = 2) : ∃ c0 c1, cs = #[c0, c1] := by
  obtain ⟨l⟩ := cs
  match l, h with
  | [c0, c1], _ => exact ⟨c0, c1, rfl⟩
section
variable {H : Type} {enc : TypeId × Value → H} {w : World}
set_option maxRecDepth 100000 in
theorem mk_in {fuel : Nat} {cs : List Value} {x : DataW H × List MemPlace} (hlen : cs.length = 2) (h : DataW.trod enc Tryz.prog w 0 (fun _ => true) true fuel 174 cs = some x) : ∃ m : Mk, cs = mkC m := by
  obtain ⟨xs, n', _, _, _, hxl, hfl⟩ := DataW.trod_struct Tryz.underlying174 h
  have t0 := hfl 0 _ rfl
  have t1 := hfl 1 _ rfl
  match xs, hxl with
  | [y0, y1], _ =>
  match cs, hlen with
  | [c0, c1], _ =>
    simp [lcellsI] at t0 t1
    obtain ⟨b0, e0, _, _⟩ := DataW.trod_int Tryz.underlying3 t0
    obtain ⟨b1, e1, _, _⟩ := DataW.trod_int Tryz.underlying3 t1
    simp only [List.cons.injEq, and_true] at e0 e1
    subst e0 e1
    exact ⟨(b0, b1), rfl⟩
set_option maxRecDepth 100000 in
theorem mks_open {fuel : Nat} {cv : Value} {x0 : DataW H × List MemPlace}
    (h : DataW.trod enc Tryz.prog w 0 (fun _ => true) true fuel 65 [cv] = some x0) :
    ∃ (a : Option Addr) (cap : Nat) (ls : List Mk), cv = .slice a ls.length cap ∧ Mks w a cap ls := by
  obtain ⟨d, p⟩ := x0
  rcases open_slice Tryz.underlying65 h with ⟨hcs, hx⟩ | ⟨x, len, cap, m, n, D, Pl, hcs, _, hl, hm, hmm, hx, heach⟩
  · simp at hcs
    exact ⟨none, 0, [], hcs, Mks.nil _ _⟩
  · simp at hcs
    subst hcs
    simp only [if_true] at hmm
    subst hmm
    rw [lcellsM] at heach
    have each : ∀ i, i < len → ∃ r : Mk, ∀ j v, (mkC r)[j]? = some v → w.cell? (x.add (i * 2 + j)) = some v := by
      intro i hi
      obtain ⟨cs', hc, ht'⟩ := heach i (by omega)
      obtain ⟨_, hlen, hcell⟩ := World.cells?_some hc
      obtain ⟨r, hr⟩ := mk_in hlen ht'
      refine ⟨r, fun j v hv => ?_⟩
      have hj : j < 2 := by have := (List.getElem?_eq_some_iff.1 hv).1; rwa [mkC_length] at this
      have z := hcell j (by omega)
      rw [add_add] at z
      rw [z, hr]
      exact hv
    have inh : Inhabited Mk := ⟨(0, 0)⟩
    obtain ⟨f, hf⟩ := choose_lt (α := Mk) each
    have hget : ∀ i s, ((List.range len).map f)[i]? = some s → i < len ∧ s = f i := by
      intro i s hs
      have hi : i < len := by have := (List.getElem?_eq_some_iff.1 hs).1; simpa using this
      refine ⟨hi, ?_⟩
      simp [hi] at hs
      exact hs.symm
    refine ⟨some x, m, (List.range len).map f, by simp, ⟨by simpa using hl, by unfold maxLen at hm; omega, ?_⟩⟩
    by_cases h0 : len = 0
    · exact .inl (by simp [h0])
    · obtain ⟨b, off, spot⟩ := x
      have hc := hf 0 (by omega) 0 _ rfl
      have hspot : spot = none := by simpa [Addr.add] using World.cell?_spot hc
      subst hspot
      refine .inr ⟨b, off, rfl, World.block_lt_of_cell? w ⟨b, off + (0 * 2 + 0), none⟩ (by rw [Addr.add_lit] at hc; exact hc), fun i s hs => ?_⟩
      obtain ⟨hi, rfl⟩ := hget i s hs
      intro j v hv
      have := hf i (by omega) j v hv
      rw [Addr.add_lit, ← Nat.add_assoc] at this
      exact this
set_option maxRecDepth 100000 in
theorem line_open {r : Reach} {b0 : Nat} {v : Value} {d : DataW H} {pl : List MemPlace} (hv : Value.okWide Tryz.prog w r b0 67 v) (h : DataW.Trod enc Tryz.prog w 0 (fun _ => true) true 67 v d pl) :
    ∃ (a : Option Addr) (c : Nat) (ms : List Mk) (last : Int), v = .agg #[.slice a ms.length c, .int .i64 last] ∧ Mks w a c ms := by
  obtain ⟨cs, rfl, hsz⟩ := okWide_struct Tryz.underlying67 hv
  obtain ⟨c0, c1, rfl⟩ := array2 (hsz.trans lcellsL)
  obtain ⟨fuel, hf⟩ := h
  obtain ⟨xs, m, _, hx, hl, hlen, hfs⟩ := DataW.trod_struct Tryz.underlying67 hf
  match xs, hlen with
  | [y0, y1], _ =>
    have t0 := hfs 0 _ rfl
    have t1 := hfs 1 _ rfl
    simp [Value.cells, lcellsI, lcellsS] at t0 t1
    obtain ⟨a, cap, ls, rfl, hM⟩ := mks_open t0
    obtain ⟨f, ef, _, _⟩ := DataW.trod_int Tryz.underlying3 t1
    simp only [List.cons.injEq, and_true] at ef
    subst ef
    exact ⟨a, cap, ls, f, rfl, hM⟩
set_option maxRecDepth 100000 in
theorem mark_open {r : Reach} {b0 : Nat} {v : Value} {d : DataW H} {pl : List MemPlace} (hv : Value.okWide Tryz.prog w r b0 174 v) (h : DataW.Trod enc Tryz.prog w 0 (fun _ => true) true 174 v d pl) :
    ∃ (m : Mk), v = .agg #[.int .i64 m.1, .int .i64 m.2] := by
  obtain ⟨cs, rfl, hsz⟩ := okWide_struct Tryz.underlying174 hv
  obtain ⟨c0, c1, rfl⟩ := array2 (hsz.trans lcellsM)
  obtain ⟨fuel, hf⟩ := h
  obtain ⟨m, hm⟩ := mk_in (by simp [Value.cells]) hf
  simp [Value.cells, mkC] at hm
  obtain ⟨rfl, rfl⟩ := hm
  exact ⟨m, rfl⟩
end
end Go.Proofs.YtihkdffihmhnaaaGreat.Ln

