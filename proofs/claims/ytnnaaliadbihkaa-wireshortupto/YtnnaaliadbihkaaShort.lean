/- What a cut row of written bytes still tells; where each item ends. -/
import Derived.Test.YtnnaaliadbihkaaKept2
namespace Go.Proofs.Ytnnaaliadbihkaa
open Go.RowKit

/-- Where each item ends. -/
def endsOf (K : List It) : List Nat := (List.range K.length).map fun j => (outs (K.take (j + 1))).length
def endCells (l : List Nat) : List Value := l.map fun (x : Nat) => Value.int .i64 (x : Int)
theorem endsOf_length (K : List It) : (endsOf K).length = K.length := by simp [endsOf]
theorem endsOf_snoc (K : List It) (x : It) : endsOf (K ++ [x]) = endsOf K ++ [(outs (K ++ [x])).length] := by
  unfold endsOf
  rw [List.length_append, List.length_singleton, List.range_succ, List.map_append]
  congr 1
  · apply List.map_congr_left
    intro j hj
    have hj' := List.mem_range.1 hj
    rw [List.take_append_of_le_length (by omega)]
  · simp only [List.map_cons, List.map_nil]
    rw [List.take_of_length_le (by simp)]
theorem endCells_length (l : List Nat) : (endCells l).length = l.length := by simp [endCells]
theorem endCells_get (K : List It) (j : Nat) (hj : j < K.length) : (endCells (endsOf K))[j]? = some (.int .i64 (((outs (K.take (j + 1))).length : Nat) : Int)) := by
  simp [endCells, endsOf, hj]
theorem info3 : (Try.prog.info? 3).map (fun i => (i.zero, i.size, i.bytes)) = some (some (.int .i64 0), 1, 8) := by kernel_rfl

/-- Two slices that share no block. -/
def Dj (u v : Value) : Prop := ∀ j, u.ownBlock = some j → v.ownBlock ≠ some j
theorem Dj.symm {u v : Value} (h : Dj u v) : Dj v u := fun j h1 h2 => h j h2 h1
theorem Dj.grow {w : World} {base e sz n : Nat} {u v v' : Value} {xs : List Value} (h : Dj u v) (hu : w.ownsRow base e sz u n xs) (hv : v'.ownBlock = v.ownBlock ∨ ∃ g, v'.ownBlock = some g ∧ w.heap.size ≤ g) : Dj u v' := by
  intro j h1 h2
  rcases hv with e | ⟨g, e, hg⟩
  · exact h j h1 (by rw [← e]; exact h2)
  · rw [e] at h2
    simp at h2
    have := (hu.lt j h1).2
    omega
/-- A row stays while another one grows. -/
theorem owns_grown {w w' : World} {base e sz n : Nat} {u v : Value} {xs : List Value} (hu : w.ownsRow base e sz u n xs) (hg : w.grownBy w' v.ownBlock) (h : Dj u v) : w'.ownsRow base e sz u n xs :=
  owns_fr (S := fun k => v.ownBlock = some k) hu ((Fr.refl _ w).grown hg (fun _ e _ => e)) (fun k hk e => h k hk e)

/-- A row of bytes of which only the first m are left: a number and a text that are not whole. -/
theorem numS_short (ss : Nat) (hs : (ss : Int) = 1 ∨ (ss : Int) = 2 ∨ (ss : Int) = 4 ∨ (ss : Int) = 8) (l : List Nat) (h : l.length < ss) : numS (l, 0) (ss : Int) = (0, 10, (l, 10)) := by
  unfold numS; rw [if_neg (not_not_intro hs), if_neg (by simp), if_pos (by simpa using h)]
theorem textS_short (s : ByteArray) (hs : s.size ≤ 65535) (rest : List Nat) (m : Nat) (hm : m < 2 + s.size) : textS ((le 2 s.size ++ bsOf s ++ rest).take m, 0) 65535 = ([], 10, ((le 2 s.size ++ bsOf s ++ rest).take m, 10)) := by
  have h2 : (le 2 s.size).length = 2 := le_length 2 _
  have hl : ((le 2 s.size ++ bsOf s ++ rest).take m).length = m := by simp [le_length, bsOf_length]; omega
  unfold textS
  rw [if_neg (by omega), if_neg (by simp)]
  by_cases h : m < 2
  · rw [if_pos (by simp only [hl]; exact h)]
  · rw [if_neg (by simp only [hl]; exact h)]
    have ht : ((le 2 s.size ++ bsOf s ++ rest).take m).take 2 = le 2 s.size := by
      rw [List.take_take, Nat.min_eq_left (by omega), List.append_assoc, List.take_append_of_le_length (by omega), List.take_of_length_le (by omega)]
    have hv : val (le 2 s.size) = s.size := by rw [val_le]; omega
    rw [if_pos (by simp only [hl, ht, hv]; exact hm)]
theorem numS_err (l : List Nat) (ss : Int) (hs : ss = 1 ∨ ss = 2 ∨ ss = 4 ∨ ss = 8) : numS (l, 10) ss = (0, 10, (l, 10)) := by
  unfold numS; rw [if_neg (not_not_intro hs), if_pos (by simp)]
theorem textS_err (l : List Nat) : textS (l, 10) 65535 = ([], 10, (l, 10)) := by
  unfold textS; rw [if_neg (by omega), if_pos (by simp)]
/-- What is left of cut bytes behind an item. -/
theorem take_item (o rest : List Nat) (m : Nat) (h : o.length ≤ m) : (o ++ rest).take m = o ++ rest.take (m - o.length) := by
  rw [List.take_append, List.take_of_length_le h]
/-- The reader's state ahead of item j of a row that is cut at T. -/
def Cut (K : List It) (T j : Nat) (st : RS) : Prop :=
  ((outs (K.take j)).length ≤ T ∧ st = ((outs (K.drop j)).take (T - (outs (K.take j)).length), 0)) ∨ (T < (outs (K.take j)).length ∧ st.2 = 10)
theorem Cut.start (K : List It) (T : Nat) : Cut K T 0 ((outs K).take T, 0) := .inl ⟨by simp [outs], by simp [outs]⟩
theorem ends_succ (K : List It) (j : Nat) (hj : j < K.length) : (outs (K.take (j + 1))).length = (outs (K.take j)).length + (outIt (K.getD j itD)).length := by
  rw [outs_succ K j hj, List.length_append]

/-- A step: what the call tells, and the state behind it. 'e' is told. -/
structure Told (K : List It) (T j : Nat) (e : Int) (st' : RS) : Prop where
  cut : Cut K T (j + 1) st'
  told : (e = 0 ∧ (outs (K.take (j + 1))).length ≤ T) ∨ (e = 10 ∧ T < (outs (K.take (j + 1))).length)

theorem told_text {K : List It} {T j : Nat} {st : RS} (hj : j < K.length) {n : Int} {s : ByteArray} (hx : K.getD j itD = (n, 0, s)) (hs : s.size ≤ 65535) (h : Cut K T j st) : Told K T j (textS st 65535).2.1 (textS st 65535).2.2 := by
  have hoi : outIt (n, 0, s) = le 2 s.size ++ bsOf s := by unfold outIt; rw [if_pos rfl, if_pos (by simpa using hs)]
  have hes := ends_succ K j hj
  have hod := outs_drop K j hj
  rw [hx, hoi] at hes hod
  have hol : (le 2 s.size ++ bsOf s).length = 2 + s.size := by simp [le_length, bsOf_length]
  rw [hol] at hes
  rcases h with ⟨h1, rfl⟩ | ⟨h1, h2⟩
  · rw [hod]
    by_cases hw : (outs (K.take j)).length + (2 + s.size) ≤ T
    · rw [take_item _ _ _ (by omega), textS_back s hs]
      refine ⟨.inl ⟨by omega, ?_⟩, .inl ⟨rfl, by omega⟩⟩
      rw [hol, hes, Nat.sub_sub]
    · rw [textS_short s hs _ _ (by omega)]
      exact ⟨.inr ⟨by omega, rfl⟩, .inr ⟨rfl, by omega⟩⟩
  · obtain ⟨l, e⟩ := st
    simp only at h2
    subst h2
    rw [textS_err]
    exact ⟨.inr ⟨by omega, rfl⟩, .inr ⟨rfl, by omega⟩⟩
theorem told_num {K : List It} {T j : Nat} {st : RS} (hj : j < K.length) {nn ss : Nat} {s : ByteArray} (hx : K.getD j itD = ((nn : Int), (ss : Int), s)) (hz : ¬ (ss : Int) = 0) (hf : fitB (nn : Int) (ss : Int) = true) (hb : (nn : Int) ≤ 9223372036854775807) (h : Cut K T j st) : Told K T j (numS st (ss : Int)).2.1 (numS st (ss : Int)).2.2 := by
  have hoi : outIt ((nn : Int), (ss : Int), s) = le ss nn := by unfold outIt; rw [if_neg hz, if_pos (by simp [hf])]; simp
  have hes := ends_succ K j hj
  have hod := outs_drop K j hj
  rw [hx, hoi] at hes hod
  rw [le_length] at hes
  have hsz := fitB_sized hf
  rcases h with ⟨h1, rfl⟩ | ⟨h1, h2⟩
  · rw [hod]
    by_cases hw : (outs (K.take j)).length + ss ≤ T
    · rw [take_item _ _ _ (by rw [le_length]; omega), numS_back nn ss hf hb]
      refine ⟨.inl ⟨by omega, ?_⟩, .inl ⟨rfl, by omega⟩⟩
      rw [le_length, hes, Nat.sub_sub]
    · rw [numS_short ss hsz _ (by simp; omega)]
      exact ⟨.inr ⟨by omega, rfl⟩, .inr ⟨rfl, by omega⟩⟩
  · obtain ⟨l, e⟩ := st
    simp only at h2
    subst h2
    rw [numS_err _ _ hsz]
    exact ⟨.inr ⟨by omega, rfl⟩, .inr ⟨rfl, by omega⟩⟩
end Go.Proofs.Ytnnaaliadbihkaa
