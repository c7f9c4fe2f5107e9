
/- Timelines as lists of marks: which are right, the epoch at an LSN, the fork, and what is cut and grown. -/
import Derived.Test.YtphfngboddnbmaaProg
namespace Go.Proofs.Ytphfngboddnbmaa.Ln

abbrev Mk := Int × Int
def numB (n : Int) : Bool := decide (0 ≤ n) && decide (n ≤ 1099511627776)
/-- A mark that may follow another one. -/
def okm (last : Int) (a : Mk) (first : Bool) (m : Mk) : Bool := (!first || decide (m.2 = 1)) && (decide (a.2 < m.2) && (decide (m.2 ≤ last) && (decide (a.1 < m.1) && numB m.1)))
def risB (last : Int) : Mk → Bool → List Mk → Bool
  | _, _, [] => true
  | a, f, m :: l => okm last a f m && risB last m false l
def linB (ms : List Mk) (last : Int) : Bool := numB last && ((decide (last = 0) == decide (ms.length = 0)) && risB last (-1, 0) true ms)
theorem numB_iff {n : Int} : numB n = true ↔ 0 ≤ n ∧ n ≤ 1099511627776 := by simp [numB]
/-- Marks rise. -/
def Up (ms : List Mk) : Prop := ms.Pairwise (fun a b => a.1 < b.1 ∧ a.2 < b.2)
structure Right (ms : List Mk) (last : Int) : Prop where
  last0 : 0 ≤ last
  last1 : last ≤ 1099511627776
  none : last = 0 ↔ ms = []
  up : Up ms
  head : ∀ m l, ms = m :: l → m.2 = 1
  each : ∀ m ∈ ms, 1 ≤ m.2 ∧ m.2 ≤ last ∧ 0 ≤ m.1 ∧ m.1 ≤ 1099511627776
theorem ris_of {last : Int} : ∀ (ms : List Mk) (a : Mk) (f : Bool), 0 ≤ a.2 → risB last a f ms = true → Up ms ∧ (∀ m ∈ ms, a.1 < m.1 ∧ a.2 < m.2 ∧ m.2 ≤ last ∧ 0 ≤ m.1 ∧ m.1 ≤ 1099511627776) ∧ (f = true → ∀ m l, ms = m :: l → m.2 = 1) := by
  intro ms
  induction ms with
  | nil => intro a f _ _; exact ⟨List.Pairwise.nil, by simp, by simp⟩
  | cons m l ih =>
    intro a f ha h
    simp only [risB, Bool.and_eq_true, okm, decide_eq_true_eq, Bool.or_eq_true, Bool.not_eq_true', numB] at h
    obtain ⟨⟨h1, h2, h3, h4, h5⟩, h6⟩ := h
    obtain ⟨i1, i2, _⟩ := ih m false (by omega) h6
    refine ⟨List.pairwise_cons.2 ⟨fun b hb => ⟨(i2 b hb).1, (i2 b hb).2.1⟩, i1⟩, ?_, ?_⟩
    · intro b hb
      rcases List.mem_cons.1 hb with rfl | hb
      · exact ⟨h4, h2, h3, h5.1, h5.2⟩
      · obtain ⟨k1, k2, k3, k4, k5⟩ := i2 b hb
        exact ⟨by omega, by omega, k3, k4, k5⟩
    · rintro rfl m' l' e
      simp at e
      obtain ⟨rfl, rfl⟩ := e
      simpa using h1
theorem linB_right {ms : List Mk} {last : Int} (h : linB ms last = true) : Right ms last := by
  simp only [linB, Bool.and_eq_true] at h
  obtain ⟨h1, h2, h3⟩ := h
  obtain ⟨k1, k2⟩ := numB_iff.1 h1
  obtain ⟨i1, i2, i3⟩ := ris_of ms _ _ (by simp) h3
  refine ⟨k1, k2, ?_, i1, i3 rfl, fun m hm => ?_⟩
  · rw [beq_iff_eq, decide_eq_decide] at h2
    rw [h2]; exact List.length_eq_zero_iff
  · obtain ⟨j1, j2, j3, j4, j5⟩ := i2 m hm
    exact ⟨by have : (0 : Int) < m.2 := j2; omega, j3, j4, j5⟩
theorem ris_to {last : Int} : ∀ (ms : List Mk) (a : Mk) (f : Bool), Up ms → (∀ m ∈ ms, a.1 < m.1 ∧ a.2 < m.2 ∧ m.2 ≤ last ∧ 0 ≤ m.1 ∧ m.1 ≤ 1099511627776) → (f = true → ∀ m l, ms = m :: l → m.2 = 1) → risB last a f ms = true := by
  intro ms
  induction ms with
  | nil => intros; rfl
  | cons m l ih =>
    intro a f hu he hf
    obtain ⟨u1, u2⟩ := List.pairwise_cons.1 hu
    obtain ⟨k1, k2, k3, k4, k5⟩ := he m (by simp)
    simp only [risB, Bool.and_eq_true, okm, decide_eq_true_eq, Bool.or_eq_true, Bool.not_eq_true', numB]
    refine ⟨⟨?_, k2, k3, k1, k4, k5⟩, ih m false u2 (fun b hb => ?_) (by simp)⟩
    · cases f
      · exact .inl rfl
      · exact .inr (hf rfl m l rfl)
    · obtain ⟨j1, j2, j3, j4, j5⟩ := he b (by simp [hb])
      exact ⟨(u1 b hb).1, (u1 b hb).2, j3, j4, j5⟩
theorem right_linB {ms : List Mk} {last : Int} (h : Right ms last) : linB ms last = true := by
  simp only [linB, Bool.and_eq_true]
  refine ⟨numB_iff.2 ⟨h.last0, h.last1⟩, ?_, ris_to ms _ _ h.up (fun m hm => ?_) (fun _ => h.head)⟩
  · rw [beq_iff_eq, decide_eq_decide, h.none]; exact List.length_eq_zero_iff.symm
  · obtain ⟨j1, j2, j3, j4⟩ := h.each m hm
    exact ⟨show (-1 : Int) < m.1 by omega, show (0 : Int) < m.2 by omega, j2, j3, j4⟩
theorem linB_iff {ms : List Mk} {last : Int} : linB ms last = true ↔ Right ms last := ⟨linB_right, right_linB⟩

/-- The epoch at an LSN. -/
def epF (ms : List Mk) (x : Int) : Int := match (ms.filter fun m => decide (m.2 ≤ x)).getLast? with | none => 0 | some m => m.1
theorem epF_snoc (ms : List Mk) (m : Mk) (x : Int) : epF (ms ++ [m]) x = if m.2 ≤ x then m.1 else epF ms x := by
  unfold epF
  rw [List.filter_append]
  by_cases h : m.2 ≤ x
  · rw [if_pos h]
    simp [h]
  · rw [if_neg h]
    simp [h]
theorem epF_nil (x : Int) : epF [] x = 0 := rfl
/-- How many marks are not above an LSN. -/
def upN : List Mk → Int → Nat
  | [], _ => 0
  | m :: l, x => if m.2 < x then upN l x + 1 else 0
theorem upN_le (ms : List Mk) (x : Int) : upN ms x ≤ ms.length := by
  induction ms with
  | nil => exact Nat.le_refl _
  | cons s l ih => unfold upN; split <;> simp <;> omega
theorem take_upN {ms : List Mk} (hu : Up ms) (x : Int) : ms.take (upN ms (x + 1)) = ms.filter fun m => decide (m.2 ≤ x) := by
  induction ms with
  | nil => rfl
  | cons m l ih =>
    obtain ⟨u1, u2⟩ := List.pairwise_cons.1 hu
    unfold upN
    by_cases h : m.2 ≤ x
    · rw [if_pos (by omega), List.take_succ_cons, ih u2, List.filter_cons_of_pos (by simpa using h)]
    · rw [if_neg (by omega), List.take_zero]
      symm
      rw [List.filter_eq_nil_iff]
      intro b hb
      rcases List.mem_cons.1 hb with rfl | hb
      · simpa using h
      · have := (u1 b hb).2
        simp; omega
theorem epF_at {ms : List Mk} (hu : Up ms) (x : Int) : epF ms x = if upN ms (x + 1) = 0 then 0 else (ms.getD (upN ms (x + 1) - 1) (0, 0)).1 := by
  have hl := upN_le ms (x + 1)
  unfold epF
  rw [← take_upN hu x]
  split
  · rename_i h
    rw [List.getLast?_eq_none_iff, List.take_eq_nil_iff] at h
    rcases h with h | rfl
    · rw [if_pos h]
    · rw [if_pos (by simp [upN])]
  · rename_i m h
    have h0 : upN ms (x + 1) ≠ 0 := fun e => by rw [e] at h; simp at h
    rw [if_neg h0, List.getD_eq_getElem?_getD]
    rw [List.getLast?_eq_getElem?, List.getElem?_take, List.length_take, Nat.min_eq_left hl, if_pos (by omega)] at h
    rw [h]; rfl
theorem up_lt {ms : List Mk} (hu : Up ms) {i j : Nat} {a b : Mk} (hij : i < j) (hi : ms[i]? = some a) (hj : ms[j]? = some b) : a.1 < b.1 ∧ a.2 < b.2 := by
  obtain ⟨h1, e1⟩ := List.getElem?_eq_some_iff.1 hi
  obtain ⟨h2, e2⟩ := List.getElem?_eq_some_iff.1 hj
  have := List.pairwise_iff_getElem.1 hu i j h1 h2 hij
  rw [e1, e2] at this
  exact this
theorem upN_lt {ls : List Mk} {x : Int} (hr : Up ls) {i : Nat} {s : Mk} (hi : ls[i]? = some s) : s.2 < x ↔ i < upN ls x := by
  induction ls generalizing i with
  | nil => simp at hi
  | cons t l ih =>
    unfold upN
    cases i with
    | zero =>
      simp at hi; subst hi
      split
      · rename_i h; simp [h]
      · rename_i h; simp [h]
    | succ i =>
      have hi' : l[i]? = some s := by simpa using hi
      split
      · rw [ih (List.pairwise_cons.1 hr).2 hi']; omega
      · rename_i h
        have := (up_lt hr (i := 0) (j := i + 1) (by omega) rfl hi).2
        constructor
        · intro e; omega
        · intro e; omega
theorem upN_eq {ls : List Mk} {x : Int} (hr : Up ls) {k : Nat} (hk : k ≤ ls.length) (h1 : ∀ i s, ls[i]? = some s → i < k → s.2 < x) (h2 : ∀ i s, ls[i]? = some s → k ≤ i → ¬ s.2 < x) : upN ls x = k := by
  have hle := upN_le ls x
  rcases Nat.lt_trichotomy (upN ls x) k with e | e | e
  · obtain ⟨s, hs⟩ : ∃ s, ls[upN ls x]? = some s := ⟨_, List.getElem?_eq_getElem (by omega)⟩
    have := (upN_lt hr hs).1 (h1 _ s hs e)
    omega
  · exact e
  · obtain ⟨s, hs⟩ : ∃ s, ls[k]? = some s := ⟨_, List.getElem?_eq_getElem (by omega)⟩
    exact absurd ((upN_lt hr hs).2 e) (h2 _ s hs (Nat.le_refl _))
theorem right_len {ms : List Mk} {last : Int} (h : Right ms last) : ms.length ≤ 1099511627776 := by
  have key : ∀ (l : List Mk) (lo : Int), Up l → (∀ m ∈ l, lo < m.2 ∧ m.2 ≤ last) → lo ≤ last → (l.length : Int) ≤ last - lo := by
    intro l
    induction l with
    | nil => intro lo _ _ h; simp; omega
    | cons m l ih =>
      intro lo hu he _
      obtain ⟨u1, u2⟩ := List.pairwise_cons.1 hu
      have h1 := he m (by simp)
      have := ih m.2 u2 (fun b hb => ⟨(u1 b hb).2, (he b (by simp [hb])).2⟩) h1.2
      simp only [List.length_cons]; omega
  have := key ms 0 h.up (fun m hm => ⟨by have := (h.each m hm).1; omega, (h.each m hm).2.1⟩) h.last0
  have := h.last1
  omega
/-- The epoch at a mark's own LSN. -/
theorem epF_mem {ms : List Mk} (hu : Up ms) {m : Mk} (hm : m ∈ ms) : epF ms m.2 = m.1 := by
  obtain ⟨i, hi, he⟩ := List.getElem_of_mem hm
  have hs : ms[i]? = some m := by rw [List.getElem?_eq_getElem hi, he]
  have hk : upN ms (m.2 + 1) = i + 1 := upN_eq hu (by omega) (fun j s hj hji => by
    rcases Nat.lt_or_ge j i with h | h
    · have := (up_lt hu h hj hs).2; omega
    · have : j = i := by omega
      subst this; rw [hs] at hj; cases hj; omega) (fun j s hj hij => by
    have := (up_lt hu (i := i) (j := j) (by omega) hs hj).2; omega)
  rw [epF_at hu, hk, if_neg (by omega), Nat.add_sub_cancel, List.getD_eq_getElem?_getD, hs]; rfl
/-- What comes behind an LSN says nothing of it. -/
theorem epF_app (c d : List Mk) (x : Int) (h : ∀ m ∈ d, x < m.2) : epF (c ++ d) x = epF c x := by
  unfold epF
  rw [List.filter_append]
  have : d.filter (fun m => decide (m.2 ≤ x)) = [] := by
    rw [List.filter_eq_nil_iff]; intro m hm; have := h m hm; simp; omega
  rw [this, List.append_nil]
theorem epF_lt {c : List Mk} {x e : Int} (h : ∀ m ∈ c, m.1 < e) (h0 : c ≠ [] ∨ 0 < e) (hin : ∀ m ∈ c, m.2 ≤ x) : epF c x < e := by
  unfold epF
  have : c.filter (fun m => decide (m.2 ≤ x)) = c := by
    rw [List.filter_eq_self]; intro m hm; simpa using hin m hm
  rw [this]
  split
  · rename_i hn
    rcases h0 with h0 | h0
    · exact absurd (List.getLast?_eq_none_iff.1 hn) h0
    · exact h0
  · rename_i m hm
    exact h m (List.mem_of_getLast? hm)

/-- How many marks two have in common. -/
def shN : List Mk → List Mk → Nat
  | m :: a, n :: b => if m = n then shN a b + 1 else 0
  | _, _ => 0
def hdF (la : Int) : List Mk → Int
  | [] => la
  | m :: _ => m.2 - 1
def ahF (ms : List Mk) (last : Int) (i : Nat) : Int := match ms[i]? with | some m => m.2 - 1 | none => last
def forkF (a b : List Mk) (la lb : Int) : Int := min (ahF a la (shN a b)) (ahF b lb (shN a b))
theorem shN_comm (a b : List Mk) : shN a b = shN b a := by
  induction a generalizing b with
  | nil => cases b <;> rfl
  | cons m a ih =>
    cases b with
    | nil => rfl
    | cons n b =>
      unfold shN
      by_cases h : m = n
      · rw [if_pos h, if_pos h.symm, ih]
      · rw [if_neg h, if_neg (fun e => h e.symm)]
theorem fork_comm (a b : List Mk) (la lb : Int) : forkF a b la lb = forkF b a lb la := by
  unfold forkF; rw [shN_comm a b, Int.min_comm]
/-- What two have in common, and what parts them. -/
theorem sh_split (a b : List Mk) : ∃ c a' b', a = c ++ a' ∧ b = c ++ b' ∧ shN a b = c.length ∧ (∀ m n k l, a' = m :: k → b' = n :: l → m ≠ n) := by
  induction a generalizing b with
  | nil => exact ⟨[], [], b, rfl, rfl, by cases b <;> rfl, by simp⟩
  | cons m a ih =>
    cases b with
    | nil => exact ⟨[], m :: a, [], rfl, rfl, rfl, by simp⟩
    | cons n b =>
      by_cases h : m = n
      · obtain ⟨c, a', b', h1, h2, h3, h4⟩ := ih b
        refine ⟨m :: c, a', b', by rw [h1]; rfl, by rw [h2, h]; rfl, ?_, h4⟩
        unfold shN; rw [if_pos h, h3]; rfl
      · refine ⟨[], m :: a, n :: b, rfl, rfl, ?_, ?_⟩
        · unfold shN; rw [if_neg h]; rfl
        · intro m' n' k l e1 e2
          simp at e1 e2
          rw [← e1.1, ← e2.1]; exact h
structure Fork (a b : List Mk) (la lb f : Int) : Prop where
  low : 0 ≤ f
  fa : f ≤ la
  fb : f ≤ lb
  ina : ∀ m ∈ a, m.2 ≤ f → m ∈ b
  inb : ∀ m ∈ b, m.2 ≤ f → m ∈ a
  same : a.filter (fun m => decide (m.2 ≤ f)) = b.filter (fun m => decide (m.2 ≤ f))
  part : f < la → f < lb → (∃ m ∈ a, m.2 = f + 1 ∧ epF b (f + 1) ≠ m.1) ∨ (∃ m ∈ b, m.2 = f + 1 ∧ epF a (f + 1) ≠ m.1)
theorem ah_app {c a' : List Mk} {la : Int} : ahF (c ++ a') la c.length = hdF la a' := by
  unfold ahF
  rw [List.getElem?_append_right (Nat.le_refl _), Nat.sub_self]
  cases a' <;> rfl
theorem fork_half {c a' b' : List Mk} {la lb f : Int} (ha : Right (c ++ a') la) (hb : Right (c ++ b') lb) (hne : ∀ m n k l, a' = m :: k → b' = n :: l → m ≠ n) {m : Mk} {k : List Mk} (e : a' = m :: k) (hm : m.2 = f + 1) (hb' : ∀ n l, b' = n :: l → m.2 ≤ n.2) (hlb : f < lb) (h0 : 0 ≤ f) : epF (c ++ b') (f + 1) ≠ m.1 := by
  subst e
  have hc1 : ∀ n ∈ c, n.1 < m.1 ∧ n.2 < m.2 := fun n hn => (List.pairwise_append.1 ha.up).2.2 n hn m (by simp)
  have base : (c ≠ [] ∨ 0 < m.1) → epF c (f + 1) ≠ m.1 := fun h => by
    have := epF_lt (c := c) (x := f + 1) (e := m.1) (fun n hn => (hc1 n hn).1) h (fun n hn => by have := (hc1 n hn).2; omega)
    omega
  cases b' with
  | nil =>
    rw [List.append_nil]
    refine base (.inl fun e => ?_)
    subst e
    have := hb.none.2 rfl
    omega
  | cons n l =>
    have hmn := hb' n l rfl
    rcases Int.lt_or_eq_of_le hmn with h | h
    · have hl : ∀ x ∈ n :: l, f + 1 < x.2 := fun x hx => by
        rcases List.mem_cons.1 hx with rfl | hx
        · omega
        · have := (List.pairwise_cons.1 (List.pairwise_append.1 hb.up).2.1).1 x hx
          omega
      rw [epF_app _ _ _ hl]
      refine base (.inl fun e => ?_)
      subst e
      have h1 := ha.head m k rfl
      have h2 := hb.head n l rfl
      omega
    · have := epF_mem hb.up (m := n) (by simp)
      rw [← hm, h, this]
      intro e
      exact hne m n k l rfl rfl (Prod.ext e.symm h)
theorem behind_f {c a' : List Mk} {la f : Int} (ha : Right (c ++ a') la) (hf : f ≤ hdF la a') : ∀ m ∈ a', f < m.2 := by
  intro m hm
  cases a' with
  | nil => simp at hm
  | cons n l =>
    simp only [hdF] at hf
    rcases List.mem_cons.1 hm with rfl | hm
    · omega
    · have := (List.pairwise_cons.1 (List.pairwise_append.1 ha.up).2.1).1 m hm
      omega
theorem fork_is {a b : List Mk} {la lb : Int} (ha : Right a la) (hb : Right b lb) : Fork a b la lb (forkF a b la lb) := by
  obtain ⟨c, a', b', rfl, rfl, hs, hne⟩ := sh_split a b
  have hf : forkF (c ++ a') (c ++ b') la lb = min (hdF la a') (hdF lb b') := by
    unfold forkF
    rw [hs, ah_app, ah_app]
  rw [hf]
  obtain ⟨A, hA⟩ : ∃ A, A = hdF la a' := ⟨_, rfl⟩
  obtain ⟨B, hB⟩ : ∃ B, B = hdF lb b' := ⟨_, rfl⟩
  rw [← hA, ← hB]
  have hA1 : A ≤ la ∧ 0 ≤ A := by
    cases a' with
    | nil => rw [hA]; exact ⟨Int.le_refl _, ha.last0⟩
    | cons m k => rw [hA]; have := ha.each m (by simp); constructor <;> (simp only [hdF]; omega)
  have hB1 : B ≤ lb ∧ 0 ≤ B := by
    cases b' with
    | nil => rw [hB]; exact ⟨Int.le_refl _, hb.last0⟩
    | cons m k => rw [hB]; have := hb.each m (by simp); constructor <;> (simp only [hdF]; omega)
  have hA2 := behind_f ha (f := min A B) (by rw [← hA]; omega)
  have hB2 := behind_f hb (f := min A B) (by rw [← hB]; omega)
  have fa : ∀ (d : List Mk), (∀ m ∈ d, min A B < m.2) → d.filter (fun m => decide (m.2 ≤ min A B)) = [] := fun d hd => by
    rw [List.filter_eq_nil_iff]; intro m hm; have := hd m hm; rw [decide_eq_true_eq]; omega
  refine ⟨by omega, by omega, by omega, ?_, ?_, ?_, ?_⟩
  · intro m hm hle
    rcases List.mem_append.1 hm with h | h
    · exact List.mem_append_left _ h
    · have := hA2 m h; omega
  · intro m hm hle
    rcases List.mem_append.1 hm with h | h
    · exact List.mem_append_left _ h
    · have := hB2 m h; omega
  · rw [List.filter_append, List.filter_append, fa _ hA2, fa _ hB2]
  · intro h1 h2
    rcases Int.le_total A B with hab | hab
    · left
      cases a' with
      | nil => simp only [hdF] at hA; omega
      | cons m k =>
        simp only [hdF] at hA
        refine ⟨m, by simp, by omega, fork_half ha hb hne rfl (by omega) (fun n l e => ?_) h2 (by omega)⟩
        subst e
        simp only [hdF] at hB
        omega
    · right
      cases b' with
      | nil => simp only [hdF] at hB; omega
      | cons m k =>
        simp only [hdF] at hB
        refine ⟨m, by simp, by omega, fork_half hb ha (fun x y k l e1 e2 e => hne y x l k e2 e1 e.symm) rfl (by omega) (fun n l e => ?_) h1 (by omega)⟩
        subst e
        simp only [hdF] at hA
        omega
/-- The document's way to the fork. -/
def swF (o : List Mk) (ms : List Mk) (out : Int) : Int := ms.foldl (fun u m => if m.2 ≤ u ∧ epF o m.2 ≠ m.1 then m.2 - 1 else u) out
theorem swF_snoc (o ms : List Mk) (m : Mk) (out : Int) : swF o (ms ++ [m]) out = if m.2 ≤ swF o ms out ∧ epF o m.2 ≠ m.1 then m.2 - 1 else swF o ms out := by
  unfold swF; rw [List.foldl_append]; rfl
theorem sw_ge {o : List Mk} {f : Int} : ∀ (ms : List Mk) (out : Int), (∀ m ∈ ms, m.2 ≤ f → epF o m.2 = m.1) → f ≤ out → f ≤ swF o ms out := by
  intro ms
  induction ms with
  | nil => intro out _ h; exact h
  | cons m l ih =>
    intro out hm h
    show f ≤ swF o l (if m.2 ≤ out ∧ epF o m.2 ≠ m.1 then m.2 - 1 else out)
    refine ih _ (fun x hx => hm x (by simp [hx])) ?_
    split
    · rename_i hc
      rcases Int.lt_or_le f m.2 with h1 | h1
      · omega
      · exact absurd (hm m (by simp) h1) hc.2
    · exact h
theorem sw_le {o : List Mk} : ∀ (ms : List Mk) (out : Int), swF o ms out ≤ out := by
  intro ms
  induction ms with
  | nil => intro out; exact Int.le_refl _
  | cons m l ih =>
    intro out
    show swF o l (if m.2 ≤ out ∧ epF o m.2 ≠ m.1 then m.2 - 1 else out) ≤ out
    have := ih (if m.2 ≤ out ∧ epF o m.2 ≠ m.1 then m.2 - 1 else out)
    split at this <;> rename_i hc
    · rw [if_pos hc]; omega
    · rw [if_neg hc]; omega
theorem sw_hit {o : List Mk} {m : Mk} : ∀ (ms : List Mk) (out : Int), m ∈ ms → epF o m.2 ≠ m.1 → swF o ms out ≤ m.2 - 1 := by
  intro ms
  induction ms with
  | nil => intro out h; simp at h
  | cons n l ih =>
    intro out hm hne
    show swF o l (if n.2 ≤ out ∧ epF o n.2 ≠ n.1 then n.2 - 1 else out) ≤ m.2 - 1
    rcases List.mem_cons.1 hm with rfl | hm
    · refine Int.le_trans (sw_le l _) ?_
      split
      · omega
      · rename_i hc
        have : ¬ m.2 ≤ out := fun h => hc ⟨h, hne⟩
        omega
    · exact ih _ hm hne
theorem rfork_eq {a b : List Mk} {la lb : Int} (ha : Right a la) (hb : Right b lb) : swF a b (swF b a (if lb < la then lb else la)) = forkF a b la lb := by
  have F := fork_is ha hb
  have hab : (if lb < la then lb else la) = min la lb := by split <;> omega
  rw [hab]
  have h1 : forkF a b la lb ≤ swF b a (min la lb) := sw_ge a _ (fun m hm hle => epF_mem hb.up (F.ina m hm hle)) (by have := F.fa; have := F.fb; omega)
  have h2 : forkF a b la lb ≤ swF a b (swF b a (min la lb)) := sw_ge b _ (fun m hm hle => epF_mem ha.up (F.inb m hm hle)) h1
  have h3 := sw_le (o := a) b (swF b a (min la lb))
  have h4 := sw_le (o := b) a (min la lb)
  by_cases hc : forkF a b la lb < la ∧ forkF a b la lb < lb
  · rcases F.part hc.1 hc.2 with ⟨m, hm, he, hne⟩ | ⟨m, hm, he, hne⟩
    · have := sw_hit a (min la lb) hm (by rw [he]; exact hne)
      omega
    · have := sw_hit b (swF b a (min la lb)) hm (by rw [he]; exact hne)
      omega
  · have := F.fa; have := F.fb
    omega
def newB (a b : List Mk) (la lb : Int) : Bool := decide (epF b lb < epF a la) || (decide (epF a la = epF b lb) && decide (lb < la))
/-- What grows. -/
def groF (ms : List Mk) (last ep n : Int) : List Mk := if 0 < n ∧ (last = 0 ∨ epF ms last < ep) then ms ++ [(ep, last + 1)] else ms
theorem epF_low {ms : List Mk} {last : Int} (h : Right ms last) : ∀ m ∈ ms, m.1 ≤ epF ms last := by
  intro m hm
  have he : epF ms last = match ms.getLast? with | none => 0 | some m => m.1 := by
    unfold epF
    have : ms.filter (fun m => decide (m.2 ≤ last)) = ms := by
      rw [List.filter_eq_self]; intro x hx; simpa using (h.each x hx).2.1
    rw [this]
  rcases List.eq_nil_or_concat ms with rfl | ⟨l, x, rfl⟩
  · simp at hm
  · rw [he, List.concat_eq_append] at *
    simp only [List.getLast?_append, List.getLast?_singleton, Option.some_or]
    rcases List.mem_append.1 hm with h1 | h1
    · have := (List.pairwise_append.1 h.up).2.2 m h1 x (by simp)
      omega
    · simp at h1; subst h1; exact Int.le_refl _
theorem gro_right {ms : List Mk} {last ep n : Int} (h : Right ms last) (h0 : 0 ≤ n) (h1 : last + n ≤ 1099511627776) (h2 : 0 ≤ ep) (h3 : ep ≤ 1099511627776) : Right (groF ms last ep n) (last + n) := by
  have hl := h.last0
  unfold groF
  by_cases hc : 0 < n ∧ (last = 0 ∨ epF ms last < ep)
  · rw [if_pos hc]
    refine ⟨by omega, h1, ⟨fun e => by omega, fun e => by simp at e⟩, ?_, ?_, ?_⟩
    · refine List.pairwise_append.2 ⟨h.up, List.pairwise_singleton _ _, fun m hm x hx => ?_⟩
      simp at hx; subst hx
      have e1 := h.each m hm
      have e2 := epF_low h m hm
      rcases hc.2 with e | e
      · rw [h.none.1 e] at hm; simp at hm
      · constructor
        · show m.1 < ep; omega
        · show m.2 < last + 1; omega
    · intro m l e
      cases ms with
      | nil =>
        simp at e
        have := h.none.2 rfl
        rw [← e.1]; show last + 1 = 1; omega
      | cons x k =>
        simp at e
        have := h.head x k rfl
        rw [← e.1]; exact this
    · intro m hm
      rcases List.mem_append.1 hm with h1' | h1'
      · have := h.each m h1'; omega
      · simp at h1'; subst h1'
        exact ⟨show 1 ≤ last + 1 by omega, show last + 1 ≤ last + n by omega, h2, h3⟩
  · rw [if_neg hc]
    have hn : last = 0 → n = 0 := fun e => by
      rcases Int.lt_or_eq_of_le h0 with h | h
      · exact absurd ⟨h, .inl e⟩ hc
      · exact h.symm
    refine ⟨by omega, h1, ⟨fun e => h.none.1 (by omega), fun e => ?_⟩, h.up, h.head, fun m hm => ?_⟩
    · have := h.none.2 e; have := hn this; omega
    · have := h.each m hm; omega
theorem gro_ep {ms : List Mk} {last ep n : Int} (h : Right ms last) (h0 : 0 ≤ n) (h2 : 0 ≤ ep) : epF ms last ≤ epF (groF ms last ep n) (last + n) := by
  unfold groF
  by_cases hc : 0 < n ∧ (last = 0 ∨ epF ms last < ep)
  · rw [if_pos hc, epF_snoc, if_pos (show last + 1 ≤ last + n by omega)]
    rcases hc.2 with e | e
    · rw [h.none.1 e, epF_nil]; exact h2
    · exact Int.le_of_lt e
  · rw [if_neg hc]
    have : epF ms (last + n) = epF ms last := by
      unfold epF
      rw [List.filter_congr (q := fun m => decide (m.2 ≤ last))]
      intro m hm
      have := (h.each m hm).2.1
      rw [decide_eq_decide]; omega
    rw [this]; exact Int.le_refl _
theorem gro_fork {ms : List Mk} {last ep n : Int} (h0 : 0 ≤ n) : forkF ms (groF ms last ep n) last (last + n) = last := by
  have self : ∀ (c d : List Mk), shN c (c ++ d) = c.length := by
    intro c
    induction c with
    | nil => intro d; cases d <;> rfl
    | cons m c ih => intro d; show (if m = m then shN c (c ++ d) + 1 else 0) = _; rw [if_pos rfl, ih]; rfl
  unfold groF
  by_cases hc : 0 < n ∧ (last = 0 ∨ epF ms last < ep)
  · rw [if_pos hc]
    unfold forkF
    rw [self, ah_app]
    have := ah_app (c := ms) (a' := []) (la := last)
    rw [List.append_nil] at this
    rw [this]
    simp only [hdF]
    omega
  · rw [if_neg hc]
    unfold forkF
    have h1 := self ms []
    have h2 := ah_app (c := ms) (a' := []) (la := last)
    have h3 := ah_app (c := ms) (a' := []) (la := last + n)
    rw [List.append_nil] at h1 h2 h3
    rw [h1, h2, h3]
    simp only [hdF]
    omega
end Go.Proofs.Ytphfngboddnbmaa.Ln
