
/- A log that takes only what another one sent is always a beginning of it. -/
import Derived.Test.YtimpoincnfiibaaShFin
namespace Go.Proofs.Ytimpoincnfiibaa
open Go.RowKit Crcm

theorem one_take {X : List Rec} (hw : Wl X) {i j : Nat} {r : Rec} (hr : X[i]? = some r) (hij : i ≤ j) (hj : j ≤ X.length) : oneL (X.take j) r = X.take (max j (i + 1)) ∧ oneC (X.take j) r = false ∧ oneE (X.take j) r = 0 := by
  have hi := (List.getElem?_eq_some_iff.1 hr).1
  have hl := (hw.each i r hr).2
  have hlen : (X.take j).length = j := by rw [List.length_take]; omega
  rcases Nat.lt_or_ge i j with h | h
  · have hb : hasB (X.take j) r.ep r.lsn = true := get_has (by omega) (by rw [hl, show ((i : Int) + 1 - 1).toNat = i by omega, List.getElem?_take, if_pos h]; exact hr)
    refine ⟨?_, ?_, ?_⟩
    · unfold oneL; rw [hb, if_pos rfl, Nat.max_eq_left (by omega)]
    · unfold oneC; rw [hb]; rfl
    · unfold oneE; rw [hb]; rfl
  · obtain rfl : i = j := by omega
    have hb : hasB (X.take i) r.ep r.lsn = false := by
      cases hb : hasB (X.take i) r.ep r.lsn
      · rfl
      · have := (hasB_lsn hb).2; omega
    have hc : ¬ r.lsn ≤ ((X.take i).length : Int) := by omega
    obtain ⟨n1, n2, n3⟩ := wl_next hw i r hr
    have hnx : nx (X.take i) r = r := by
      unfold nx
      obtain ⟨a, b, c, d, e', f, g, k⟩ := r
      simp only at n2
      rw [n2]
    have hE : apE (X.take i) r = 0 := by unfold apE; rw [hnx, if_pos n1]; exact n3
    refine ⟨?_, ?_, ?_⟩
    · unfold oneL
      rw [hb, if_neg (by simp), if_neg hc]
      unfold apL
      rw [if_pos hE, hnx, Nat.max_eq_right (by omega), List.take_succ_eq_append_getElem hi, (List.getElem?_eq_some_iff.1 hr).2]
    · unfold oneC; rw [hb, if_neg (by simp)]; exact decide_eq_false hc
    · unfold oneE; rw [hb, if_neg (by simp), if_neg hc]; exact hE
theorem tk_take {X : List Rec} (hw : Wl X) : ∀ (k i j : Nat) (last : Int), i ≤ j → j ≤ X.length → ∃ l', tkR (X.take j) last false ((X.drop i).take k) = (X.take (max j (min (i + k) X.length)), l', false, 0) := by
  intro k
  induction k with
  | zero =>
    intro i j last h1 h2
    refine ⟨last, ?_⟩
    rw [List.take_zero, show max j (min (i + 0) X.length) = j by omega]; rfl
  | succ k ih =>
    intro i j last h1 h2
    rcases Nat.lt_or_ge i X.length with h | h
    · obtain ⟨r, hr⟩ : ∃ r, X[i]? = some r := ⟨_, List.getElem?_eq_getElem h⟩
      obtain ⟨o1, o2, o3⟩ := one_take hw hr h1 h2
      obtain ⟨l', hl'⟩ := ih (i + 1) (max j (i + 1)) r.lsn (by omega) (by omega)
      refine ⟨l', ?_⟩
      rw [List.drop_eq_getElem_cons h, (List.getElem?_eq_some_iff.1 hr).2, List.take_succ_cons]
      show (if oneE (X.take j) r = 0 then tkR (oneL (X.take j) r) r.lsn (false || oneC (X.take j) r) ((X.drop (i + 1)).take k) else _) = _
      rw [if_pos o3, o1, o2]
      show tkR (X.take (max j (i + 1))) r.lsn false _ = _
      rw [hl', show max (max j (i + 1)) (min (i + 1 + k) X.length) = max j (min (i + (k + 1)) X.length) by omega]
    · refine ⟨last, ?_⟩
      rw [List.drop_eq_nil_of_le h, List.take_nil, show max j (min (i + (k + 1)) X.length) = j by omega]; rfl
theorem fit_row {X : List Rec} (hw : Wl X) : ∀ (k i : Nat) (e : Int), (∀ r, X[i]? = some r → e ≤ r.ep) → fitL e i ((X.drop i).take k) = (X.drop i).take k := by
  intro k
  induction k with
  | zero => intro i e _; rw [List.take_zero]; rfl
  | succ k ih =>
    intro i e he
    rcases Nat.lt_or_ge i X.length with h | h
    · obtain ⟨r, hr⟩ : ∃ r, X[i]? = some r := ⟨_, List.getElem?_eq_getElem h⟩
      have hl := (hw.each i r hr).2
      rw [List.drop_eq_getElem_cons h, (List.getElem?_eq_some_iff.1 hr).2, List.take_succ_cons]
      have hf : fitR e (i : Int) r = true := fitR_parts.2 ⟨hl, he r hr⟩
      conv => lhs; unfold fitL
      rw [if_pos hf, hl]
      have := ih (i + 1) r.ep (fun s hs => hw.up i r s hr hs)
      rw [show ((i + 1 : Nat) : Int) = (i : Int) + 1 by omega] at this
      rw [this]
    · rw [List.drop_eq_nil_of_le h, List.take_nil]; rfl
theorem take_sent {X : List Rec} (hw : Wl X) (n : Nat) (most : Int) (h1 : 1 ≤ n) (h2 : n ≤ X.length + 1) (j : Nat) (hj : j ≤ X.length) :
    ∃ (j' : Nat) (E l' : Int), takeR (X.take j) (gtR X ((n : Int) - 1)).ep (gtR X ((n : Int) - 1)).lsn (frF X n most) = (X.take j', l', false, E) ∧ j ≤ j' ∧ j' ≤ X.length ∧ (E = 0 ∨ E = 200) ∧ (n - 1 ≤ j → 1 ≤ most → n ≤ X.length → n ≤ j') := by
  obtain ⟨K, hK, hKm⟩ : ∃ K, frF X n most = (X.drop (n - 1)).take K ∧ (1 ≤ most → 1 ≤ K) := by
    unfold frF
    by_cases hm : most < 1
    · exact ⟨0, by rw [if_pos hm, List.take_zero], fun h => by omega⟩
    · refine ⟨most.toNat, ?_, fun h => by omega⟩
      rw [if_neg hm, show (max (n : Int) 1 - 1).toNat = n - 1 by omega]
  have hrok : ∀ r ∈ frF X n most, rok r = true := fun r hr => by
    rw [hK] at hr
    obtain ⟨i, hi, he⟩ := List.getElem_of_mem (List.mem_of_mem_drop (List.mem_of_mem_take hr))
    exact (hw.each i r (by rw [List.getElem?_eq_getElem hi, he])).1
  have hml : (gtR X ((n : Int) - 1)).lsn = ((n - 1 : Nat) : Int) ∧ (∀ r, X[n - 1]? = some r → (gtR X ((n : Int) - 1)).ep ≤ r.ep) ∧ (1 ≤ n - 1 → X[n - 2]? = some (gtR X ((n : Int) - 1))) := by
    by_cases h0 : n = 1
    · subst h0
      have hg : gtR X (((1 : Nat) : Int) - 1) = zr := by unfold gtR; rw [if_neg (by omega)]
      rw [hg]
      refine ⟨rfl, fun r hr => ?_, fun h => by omega⟩
      have := (rok_rg (hw.each _ r hr).1).ep0
      exact this
    · obtain ⟨g, hg⟩ : ∃ g, X[n - 2]? = some g := ⟨_, List.getElem?_eq_getElem (by omega)⟩
      have hgt : gtR X ((n : Int) - 1) = g := by
        have := (gt_yes hg).1
        rw [show ((n - 2 : Nat) : Int) + 1 = (n : Int) - 1 by omega] at this
        exact this
      rw [hgt]
      refine ⟨by have := (hw.each _ g hg).2; omega, fun r hr => hw.up (n - 2) g r hg (by rw [show n - 2 + 1 = n - 1 by omega]; exact hr), fun _ => hg⟩
  obtain ⟨m1, m2, m3⟩ := hml
  generalize gtR X ((n : Int) - 1) = g at *
  have hall : allB g.ep g.lsn (frF X n most) = true := by
    unfold allB
    rw [m1, hK, fit_row hw K (n - 1) g.ep m2, beq_iff_eq]
  have hE : lkE (X.take j) g.ep g.lsn (frF X n most) = if n - 1 ≤ j then 0 else 200 := by
    rw [lkE_good hrok, if_neg (by omega), hall]
    by_cases hj1 : n - 1 ≤ j
    · rw [if_pos hj1, if_neg]
      rintro (⟨p1, p2⟩ | p)
      · have hb : hasB (X.take j) g.ep g.lsn = true := get_has (by omega) (by
          rw [m1, show (((n - 1 : Nat) : Int) - 1).toNat = n - 2 by omega, List.getElem?_take, if_pos (by omega)]
          exact m3 (by omega))
        rw [hb] at p2; cases p2
      · cases p
    · rw [if_neg hj1, if_pos]
      refine .inl ⟨by omega, ?_⟩
      cases hb : hasB (X.take j) g.ep g.lsn
      · rfl
      · have := (hasB_lsn hb).2
        rw [List.length_take] at this
        omega
  by_cases hj1 : n - 1 ≤ j
  · rw [if_pos hj1] at hE
    obtain ⟨l', hl'⟩ := tk_take hw K (n - 1) j g.lsn hj1 hj
    refine ⟨max j (min (n - 1 + K) X.length), 0, l', ?_, by omega, by omega, .inl rfl, fun _ h3 h4 => by have := hKm h3; omega⟩
    unfold takeR
    rw [if_pos hE, hK]
    exact hl'
  · rw [if_neg hj1] at hE
    refine ⟨j, 200, 0, ?_, Nat.le_refl _, hj, .inr rfl, fun h => absurd h hj1⟩
    unfold takeR
    rw [hE]; rfl
theorem frF_first {X : List Rec} (j : Nat) : frF X 1 (j : Int) = X.take j := by
  unfold frF
  by_cases h : (j : Int) < 1
  · rw [if_pos h, show j = 0 by omega, List.take_zero]
  · rw [if_neg h, show (max (1 : Int) 1 - 1).toNat = 0 by decide, List.drop_zero, Int.toNat_natCast]
end Go.Proofs.Ytimpoincnfiibaa
