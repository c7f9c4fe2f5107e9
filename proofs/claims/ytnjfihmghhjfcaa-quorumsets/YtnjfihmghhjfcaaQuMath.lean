
/- What majorities have. -/
import Derived.Test.YtnjfihmghhjfcaaQuRCom
import Derived.Test.YtnjfihmghhjfcaaQuMem
namespace Go.Proofs.Ytnjfihmghhjfcaa
open Go.RowKit
open Go.Proofs.Ytnjfihmghhjfcaa.Qu

theorem sortI_perm (l : List Int) : (sortI l).Perm l := List.mergeSort_perm _ _
theorem sortI_pair (l : List Int) : (sortI l).Pairwise (fun x y => x ≤ y) := by
  have h := List.pairwise_mergeSort (le := fun x y : Int => decide (x ≤ y)) (fun a b c h1 h2 => by simp at *; omega) (fun a b => by simp; omega) l
  exact h.imp (fun h => by simpa using h)
theorem sortI_of_perm {l m : List Int} (h : l.Perm m) : sortI l = sortI m := by
  refine List.Perm.eq_of_pairwise (le := fun x y : Int => x ≤ y) (fun a b _ _ h1 h2 => by omega) (sortI_pair l) (sortI_pair m) ?_
  exact (sortI_perm l).trans (h.trans (sortI_perm m).symm)
theorem cnt_low {s : List Int} (hs : s.Pairwise (fun x y => x ≤ y)) {m : Nat} {x : Int} (hx : s[m]? = some x) : s.length - m ≤ cntG s x := by
  obtain ⟨hm, he⟩ := List.getElem?_eq_some_iff.1 hx
  have h1 : (s.drop m).Pairwise (fun x y => x ≤ y) := hs.sublist (List.drop_sublist m s)
  rw [List.drop_eq_getElem_cons hm, he] at h1
  have h2 : ∀ y ∈ s.drop m, x ≤ y := by
    rw [List.drop_eq_getElem_cons hm, he]
    intro y hy
    rcases List.mem_cons.1 hy with rfl | hy
    · exact Int.le_refl _
    · exact (List.pairwise_cons.1 h1).1 y hy
  have h3 : (s.drop m).countP (fun b => decide (x ≤ b)) = (s.drop m).length := List.countP_eq_length.2 (fun y hy => by simpa using h2 y hy)
  unfold cntG
  have h4 : s.countP (fun b => decide (x ≤ b)) = (s.take m).countP (fun b => decide (x ≤ b)) + (s.drop m).countP (fun b => decide (x ≤ b)) := by
    rw [← List.countP_append, List.take_append_drop]
  rw [h4, h3, List.length_drop]
  omega
theorem cnt_high {s : List Int} (hs : s.Pairwise (fun x y => x ≤ y)) {m : Nat} {x : Int} (hx : s[m]? = some x) {a : Int} (ha : x < a) : cntG s a ≤ s.length - (m + 1) := by
  obtain ⟨hm, he⟩ := List.getElem?_eq_some_iff.1 hx
  have h1 : (s.take (m + 1)).Pairwise (fun x y => x ≤ y) := hs.sublist (List.take_sublist _ s)
  have h0 : s.take (m + 1) = s.take m ++ [x] := by rw [List.take_add_one, hx]; rfl
  have h2 : ∀ y ∈ s.take (m + 1), y ≤ x := by
    rw [h0] at h1 ⊢
    intro y hy
    rcases List.mem_append.1 hy with hy | hy
    · exact (List.pairwise_append.1 h1).2.2 y hy x (by simp)
    · simp at hy; omega
  have h3 : (s.take (m + 1)).countP (fun b => decide (a ≤ b)) = 0 := List.countP_eq_zero.2 (fun y hy => by
    have := h2 y hy
    simp; omega)
  have h4 : s.countP (fun b => decide (a ≤ b)) = (s.take (m + 1)).countP (fun b => decide (a ≤ b)) + (s.drop (m + 1)).countP (fun b => decide (a ≤ b)) := by
    rw [← List.countP_append, List.take_append_drop]
  unfold cntG
  rw [h4, h3]
  have := List.countP_le_length (p := fun b => decide (a ≤ b)) (l := s.drop (m + 1))
  rw [List.length_drop] at this
  omega
theorem cnt_perm {l m : List Int} (h : l.Perm m) (a : Int) : cntG l a = cntG m a := h.countP_eq _
/-- What Commit tells a majority has, and of what a majority has it is the greatest. -/
theorem com_facts {xs : List Int} (h : comE xs = 0) : comN xs ∈ xs ∧ xs.length < 2 * cntG xs (comN xs) ∧ (∀ a, xs.length < 2 * cntG xs a → a ≤ comN xs) ∧ 0 ≤ comN xs := by
  have hc : (nOk xs.length && !xs.any badB) = true := by
    unfold comE at h
    split at h
    · assumption
    · omega
  have hN : comN xs = (sortI xs).getD (xs.length - (xs.length / 2 + 1)) 0 := by unfold comN; rw [if_pos hc]
  simp only [Bool.and_eq_true, Bool.not_eq_true'] at hc
  obtain ⟨h1, h2⟩ := nOk_iff.1 hc.1
  have hl : (sortI xs).length = xs.length := (sortI_perm xs).length_eq
  obtain ⟨x, hx⟩ : ∃ x, (sortI xs)[xs.length - (xs.length / 2 + 1)]? = some x := ⟨_, List.getElem?_eq_getElem (by omega)⟩
  have hxx : comN xs = x := by rw [hN, List.getD_eq_getElem?_getD, hx]; rfl
  rw [hxx]
  have hm : x ∈ xs := (sortI_perm xs).mem_iff.1 (List.mem_of_getElem? hx)
  refine ⟨hm, ?_, fun a ha => ?_, ?_⟩
  · have := cnt_low (sortI_pair xs) hx
    rw [cnt_perm (sortI_perm xs), hl] at this
    omega
  · refine Int.not_lt.1 fun hlt => ?_
    have := cnt_high (sortI_pair xs) hx hlt
    rw [cnt_perm (sortI_perm xs), hl] at this
    omega
  · have := List.any_eq_false.1 hc.2 x hm
    simp [badB] at this
    omega
theorem best_facts (xs : List Int) : ∀ (l : List Int) (best : Int), best ≤ bestF xs best l ∧ (bestF xs best l = best ∨ xs.length < 2 * cntG xs (bestF xs best l)) ∧ ∀ a ∈ l, xs.length < 2 * cntG xs a → a ≤ bestF xs best l
  | [], best => ⟨Int.le_refl _, .inl rfl, fun a ha => by cases ha⟩
  | a :: l, best => by
    show best ≤ bestF xs _ l ∧ (bestF xs _ l = best ∨ xs.length < 2 * cntG xs (bestF xs _ l)) ∧ ∀ b ∈ a :: l, xs.length < 2 * cntG xs b → b ≤ bestF xs _ l
    by_cases hq : xs.length < 2 * cntG xs a ∧ best < a
    · rw [if_pos hq]
      obtain ⟨h1, h2, h3⟩ := best_facts xs l a
      refine ⟨by omega, ?_, fun b hb hb2 => ?_⟩
      · rcases h2 with h2 | h2
        · rw [h2]; exact .inr hq.1
        · exact .inr h2
      · rcases List.mem_cons.1 hb with rfl | hb
        · exact h1
        · exact h3 b hb hb2
    · rw [if_neg hq]
      obtain ⟨h1, h2, h3⟩ := best_facts xs l best
      refine ⟨h1, h2, fun b hb hb2 => ?_⟩
      rcases List.mem_cons.1 hb with rfl | hb
      · omega
      · exact h3 b hb hb2
theorem rcom_eq (xs : List Int) : rcomN xs = comN xs := by
  by_cases h : comE xs = 0
  · obtain ⟨h1, h2, h3, h4⟩ := com_facts h
    have hc : (nOk xs.length && !xs.any badB) = true := by
      unfold comE at h
      split at h
      · assumption
      · omega
    have hR : rcomN xs = bestF xs 0 xs := by unfold rcomN; rw [if_pos hc]
    obtain ⟨g1, g2, g3⟩ := best_facts xs xs 0
    rw [hR]
    have := g3 _ h1 h2
    rcases g2 with g2 | g2
    · omega
    · have := h3 _ g2
      omega
  · have hc : ¬ (nOk xs.length && !xs.any badB) = true := fun e => h (by unfold comE; rw [if_pos e])
    unfold rcomN comN
    rw [if_neg hc, if_neg hc]
theorem com_perm {l m : List Int} (h : l.Perm m) : comN l = comN m ∧ comE l = comE m := by
  have h1 : l.length = m.length := h.length_eq
  have h2 : l.any badB = m.any badB := by
    rw [Bool.eq_iff_iff, List.any_eq_true, List.any_eq_true]
    exact ⟨fun ⟨x, hx, k⟩ => ⟨x, h.mem_iff.1 hx, k⟩, fun ⟨x, hx, k⟩ => ⟨x, h.mem_iff.2 hx, k⟩⟩
  unfold comN comE
  rw [h1, h2, sortI_of_perm h]
  exact ⟨rfl, rfl⟩
/-! Sets -/
theorem mems_cnt (a : Int) (k : Nat) : (mems a k).length = (List.range k).countP (inB a) := by
  unfold mems
  rw [List.length_map, List.countP_eq_length_filter]
theorem apart (a b : Int) : ∀ k : Nat, (∀ i, i < k → ¬ (inB a i = true ∧ inB b i = true)) → (List.range k).countP (inB a) + (List.range k).countP (inB b) ≤ k
  | 0, _ => by simp
  | k + 1, h => by
    have ih := apart a b k (fun i hi => h i (by omega))
    have hk := h k (by omega)
    rw [List.range_succ, List.countP_append, List.countP_append]
    simp only [List.countP_cons, List.countP_nil]
    by_cases ha : inB a k = true
    · have hb : ¬ inB b k = true := fun e => hk ⟨ha, e⟩
      rw [if_pos ha, if_neg hb]; omega
    · rw [if_neg ha]
      split <;> omega
theorem meet_some {a b : Int} : ∀ {k i j : Nat}, meetF a b k i = some j → inB a j = true ∧ inB b j = true ∧ i ≤ j ∧ j < i + k
  | 0, i, j, h => by cases h
  | k + 1, i, j, h => by
    unfold meetF at h
    split at h
    · rename_i hb
      obtain rfl : i = j := by simpa using h
      simp at hb
      exact ⟨hb.1, hb.2, by omega, by omega⟩
    · obtain ⟨h1, h2, h3, h4⟩ := meet_some h
      exact ⟨h1, h2, by omega, by omega⟩
theorem meet_none {a b : Int} : ∀ {k i : Nat}, meetF a b k i = none → ∀ j, i ≤ j → j < i + k → ¬ (inB a j = true ∧ inB b j = true)
  | 0, i, h => fun j h1 h2 => by omega
  | k + 1, i, h => fun j h1 h2 => by
    unfold meetF at h
    split at h
    · cases h
    · rename_i hb
      by_cases hj : j = i
      · subst hj
        simpa using hb
      · exact meet_none h j (by omega) (by omega)
theorem look_two {n a b : Int} (h1 : lookE n [a] = 0) (h2 : lookE n [b] = 0) : lookE n [a, b] = 0 := by
  obtain ⟨k1, k2, k3⟩ := look_ok h1
  obtain ⟨_, _, k4⟩ := look_ok h2
  have := k3 a (by simp)
  have := k4 b (by simp)
  simp [lookE, nOk_yes k1 k2, *]
/-- Two majorities meet. -/
theorem maj_meet {n a b : Int} (ha : hasM n a = true) (hb : hasM n b = true) : ∃ i : Nat, meetB n a b = true ∧ meetI n a b = i ∧ lookE n [a, b] = 0 ∧ inB a i = true ∧ inB b i = true ∧ (i : Int) < n := by
  simp only [hasM, Bool.and_eq_true, decide_eq_true_eq] at ha hb
  have hl := look_two ha.1 hb.1
  obtain ⟨k1, k2, _⟩ := look_ok ha.1
  have hm : majN n = n / 2 + 1 := by simp [majN, nOk_yes k1 k2]
  cases hF : meetF a b n.toNat 0 with
  | none =>
    exfalso
    have := apart a b n.toNat (fun i hi => meet_none hF i (by omega) (by omega))
    rw [mems_cnt, hm] at ha hb
    omega
  | some i =>
    obtain ⟨h1, h2, _, h4⟩ := meet_some hF
    exact ⟨i, by simp [meetB, hl, hF], by simp [meetI, hl, hF], hl, h1, h2, by omega⟩
end Go.Proofs.Ytnjfihmghhjfcaa
