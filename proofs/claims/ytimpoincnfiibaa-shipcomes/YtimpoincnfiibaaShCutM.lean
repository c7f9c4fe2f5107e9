
/- What a taking leaves and what it cuts. -/
import Derived.Test.YtimpoincnfiibaaShFin
namespace Go.Proofs.Ytimpoincnfiibaa
open Go.RowKit Crcm

theorem ap_eq {K : List Rec} {r : Rec} (h : apE K r = 0) (hl : r.lsn = (K.length : Int) + 1) : apL K r = K ++ [r] := by
  have hnx : nx K r = r := by
    unfold nx
    obtain ⟨a, b, c, d, e', f, g, k⟩ := r
    simp only at hl
    rw [hl]
  unfold apL
  rw [if_pos h, hnx]
/-- What lies there after some records were taken. -/
structure CtI (L : List Rec) (m : Nat) (ls : List Rec) (c : Bool) (p : List Rec) : Prop where
  le : m + p.length ≤ ls.length
  eps : ∀ (t : Nat) (r : Rec), p[t]? = some r → ∃ s, ls[m + t]? = some s ∧ s.ep = r.ep
  no : c = false → ls = L ∨ (ls.length = m + p.length ∧ L <+: ls)
  yes : c = true → ls.length = m + p.length ∧ ∃ d r s, m ≤ d ∧ d < L.length ∧ ls[d]? = some r ∧ L[d]? = some s ∧ r.ep ≠ s.ep ∧ ls.take d = L.take d
theorem CtI.step {L ls p : List Rec} {m : Nat} {c : Bool} {r : Rec} (h : CtI L m ls c p) (hl : r.lsn = ((m + p.length : Nat) : Int) + 1) (hE : oneE ls r = 0) : CtI L m (oneL ls r) (c || oneC ls r) (p ++ [r]) := by
  have hle := h.le
  have hpl : (p ++ [r]).length = p.length + 1 := by simp
  cases hb : hasB ls r.ep r.lsn
  · by_cases hc : r.lsn ≤ (ls.length : Int)
    · have hc0 : c = false := by
        cases c
        · rfl
        · have := (h.yes rfl).1; omega
      subst hc0
      have hL : ls = L := by
        rcases h.no rfl with e | ⟨e, _⟩
        · exact e
        · omega
      have hk : (r.lsn - 1).toNat = m + p.length := by omega
      have hC : oneC ls r = true := by unfold oneC; rw [hb, if_neg (by simp)]; exact decide_eq_true hc
      have hlen : (ls.take (m + p.length)).length = m + p.length := by rw [List.length_take]; omega
      have hO : oneL ls r = ls.take (m + p.length) ++ [r] := by
        unfold oneE at hE
        rw [hb, if_neg (by simp), if_pos hc, hk] at hE
        unfold oneL
        rw [hb, if_neg (by simp), if_pos hc, hk]
        exact ap_eq hE (by rw [hlen]; exact hl)
      rw [hO, hC]
      refine ⟨by rw [hpl, List.length_append, hlen, List.length_singleton]; omega, ?_, fun e => by simp at e, fun _ => ⟨by rw [hpl, List.length_append, hlen, List.length_singleton]; omega, ?_⟩⟩
      · intro t s ht
        rcases Nat.lt_or_ge t p.length with h1 | h1
        · rw [List.getElem?_append_left h1] at ht
          obtain ⟨u, hu, hue⟩ := h.eps t s ht
          exact ⟨u, by rw [List.getElem?_append_left (by rw [hlen]; omega), List.getElem?_take, if_pos (by omega)]; exact hu, hue⟩
        · have h2 : t = p.length := by have := (List.getElem?_eq_some_iff.1 ht).1; omega
          subst h2
          rw [List.getElem?_append_right (Nat.le_refl _)] at ht
          simp at ht
          exact ⟨r, by rw [List.getElem?_append_right (by omega), hlen]; simp, by rw [ht]⟩
      · obtain ⟨s, hs⟩ : ∃ s, L[m + p.length]? = some s := ⟨_, List.getElem?_eq_getElem (by rw [← hL]; omega)⟩
        refine ⟨m + p.length, r, s, by omega, by rw [← hL]; omega, by rw [List.getElem?_append_right (by omega), hlen]; simp, hs, ?_, ?_⟩
        · intro e
          have : hasB ls s.ep r.lsn = true := get_has (by omega) (by rw [hk, hL]; exact hs)
          rw [← e, hb] at this
          cases this
        · rw [List.take_append_of_le_length (by omega), hL, List.take_take, Nat.min_self]
    · have hC : oneC ls r = false := by unfold oneC; rw [hb, if_neg (by simp)]; exact decide_eq_false hc
      have hlen : ls.length = m + p.length := by omega
      have hO : oneL ls r = ls ++ [r] := by
        unfold oneE at hE
        rw [hb, if_neg (by simp), if_neg hc] at hE
        unfold oneL
        rw [hb, if_neg (by simp), if_neg hc]
        exact ap_eq hE (by rw [hlen]; exact hl)
      rw [hO, hC, Bool.or_false]
      have hal : (ls ++ [r]).length = m + (p ++ [r]).length := by rw [hpl, List.length_append, hlen, List.length_singleton]; omega
      refine ⟨by omega, ?_, fun e => .inr ⟨hal, ?_⟩, fun e => ⟨hal, ?_⟩⟩
      · intro t s ht
        rcases Nat.lt_or_ge t p.length with h1 | h1
        · rw [List.getElem?_append_left h1] at ht
          obtain ⟨u, hu, hue⟩ := h.eps t s ht
          exact ⟨u, by rw [List.getElem?_append_left (by omega)]; exact hu, hue⟩
        · have h2 : t = p.length := by have := (List.getElem?_eq_some_iff.1 ht).1; omega
          subst h2
          rw [List.getElem?_append_right (Nat.le_refl _)] at ht
          simp at ht
          exact ⟨r, by rw [List.getElem?_append_right (by omega), hlen]; simp, by rw [ht]⟩
      · rcases h.no e with e1 | ⟨_, e1⟩
        · rw [e1]; exact List.prefix_append _ _
        · exact e1.trans (List.prefix_append _ _)
      · obtain ⟨_, d, r0, s, h1, h2, h3, h4, h5, h6⟩ := h.yes e
        have hd := (List.getElem?_eq_some_iff.1 h3).1
        exact ⟨d, r0, s, h1, h2, by rw [List.getElem?_append_left hd]; exact h3, h4, h5, by rw [List.take_append_of_le_length (by omega)]; exact h6⟩
  · obtain ⟨s, hs, hse, h1, h2⟩ := has_get hb
    have hk : (r.lsn - 1).toNat = m + p.length := by omega
    rw [hk] at hs
    have hO : oneL ls r = ls := by unfold oneL; rw [hb, if_pos rfl]
    have hC : oneC ls r = false := by unfold oneC; rw [hb]; rfl
    rw [hO, hC, Bool.or_false]
    refine ⟨by omega, ?_, fun e => ?_, fun e => ?_⟩
    · intro t u ht
      rcases Nat.lt_or_ge t p.length with h1 | h1
      · rw [List.getElem?_append_left h1] at ht
        exact h.eps t u ht
      · have h2 : t = p.length := by have := (List.getElem?_eq_some_iff.1 ht).1; omega
        subst h2
        rw [List.getElem?_append_right (Nat.le_refl _)] at ht
        simp at ht
        exact ⟨s, hs, by rw [hse, ht]⟩
    · rcases h.no e with e1 | ⟨e1, _⟩
      · exact .inl e1
      · omega
    · have := (h.yes e).1; omega
theorem tk_cut {L : List Rec} {m : Nat} : ∀ (rs ls p : List Rec) (last : Int) (c : Bool) (e : Int), Wl ls → CtI L m ls c p → Ahd ls e ((m + p.length : Nat) : Int) → (∀ r ∈ rs, rok r = true) → fitL e ((m + p.length : Nat) : Int) rs = rs → last = ((m + p.length : Nat) : Int) →
    ((tkR ls last c rs).2.2.2 ≠ 0 → (tkR ls last c rs).2.1 = 0 ∧ (tkR ls last c rs).2.2.1 = false ∧ (tkR ls last c rs).2.2.2 = 5) ∧
    ((tkR ls last c rs).2.2.2 = 0 → (tkR ls last c rs).2.1 = ((m + (p ++ rs).length : Nat) : Int) ∧ CtI L m (tkR ls last c rs).1 (tkR ls last c rs).2.2.1 (p ++ rs)) := by
  intro rs
  induction rs with
  | nil =>
    intro ls p last c e hw h ha hr hf hlast
    refine ⟨fun h0 => absurd rfl h0, fun _ => ?_⟩
    rw [List.append_nil]
    exact ⟨hlast, h⟩
  | cons r rs ih =>
    intro ls p last c e hw h ha hr hf hlast
    have hfr : fitR e ((m + p.length : Nat) : Int) r = true := by
      cases hx : fitR e ((m + p.length : Nat) : Int) r
      · unfold fitL at hf; rw [hx] at hf; simp at hf
      · rfl
    have hft : fitL r.ep r.lsn rs = rs := by
      unfold fitL at hf
      rw [hfr, if_pos rfl] at hf
      exact (List.cons.inj hf).2
    obtain ⟨hl, _⟩ := fitR_parts.1 hfr
    obtain ⟨h5, hA⟩ := one_ahd hw ha (hr r (List.mem_cons_self ..)) hfr
    have hlp : r.lsn = ((m + (p ++ [r]).length : Nat) : Int) := by rw [hl]; simp; omega
    by_cases hE : oneE ls r = 0
    · have hu : tkR ls last c (r :: rs) = tkR (oneL ls r) r.lsn (c || oneC ls r) rs := by
        show (if oneE ls r = 0 then _ else _) = _
        rw [if_pos hE]
      rw [hu]
      have := ih (oneL ls r) (p ++ [r]) r.lsn (c || oneC ls r) r.ep (one_wl hw r) (h.step hl hE) (by rw [← hlp]; exact hA hE) (fun x hx => hr x (List.mem_cons_of_mem _ hx)) (by rw [← hlp]; exact hft) hlp
      rw [List.append_assoc, List.singleton_append] at this
      exact this
    · have hu : tkR ls last c (r :: rs) = (oneL ls r, 0, false, oneE ls r) := by
        show (if oneE ls r = 0 then _ else _) = _
        rw [if_neg hE]
      rw [hu]
      exact ⟨fun _ => ⟨rfl, rfl, h5.resolve_left hE⟩, fun h0 => absurd h0 hE⟩
theorem cut_facts {L : List Rec} (hw : Wl L) (me ml : Int) (qs : List Rec) :
    ((takeR L me ml qs).2.2.2 ≠ 0 → (takeR L me ml qs).2.1 = 0 ∧ (takeR L me ml qs).2.2.1 = false ∧ ((takeR L me ml qs).2.2.2 = 5 ∨ (takeR L me ml qs).1 = L)) ∧
    ((takeR L me ml qs).2.2.2 = 0 → ∃ m : Nat, ml = (m : Int) ∧ m ≤ L.length ∧ (takeR L me ml qs).2.1 ≤ ((takeR L me ml qs).1.length : Int) ∧ CtI L m (takeR L me ml qs).1 (takeR L me ml qs).2.2.1 qs ∧ (takeR L me ml qs).1.take m = L.take m) := by
  by_cases hE : lkE L me ml qs = 0
  · have hu : takeR L me ml qs = tkR L ml false qs := by unfold takeR; rw [if_pos hE]
    obtain ⟨z1, z2, z3, z4, z5⟩ := lkE_zero hE
    obtain ⟨m, rfl⟩ : ∃ m : Nat, ml = (m : Int) := ⟨ml.toNat, by omega⟩
    have hm : m ≤ L.length := by omega
    have h0 : CtI L m L false [] := ⟨by simpa using hm, fun t r h => by simp at h, fun _ => .inl rfl, fun e => by cases e⟩
    have := tk_cut qs L [] (m : Int) false me hw h0 (by simpa using ahd_of hE) z1 (by simpa using z4) (by simp)
    rw [List.nil_append] at this
    rw [hu]
    refine ⟨fun h => ?_, fun h => ?_⟩
    · obtain ⟨a, b, c⟩ := this.1 h
      exact ⟨a, b, .inl c⟩
    · obtain ⟨a, b⟩ := this.2 h
      refine ⟨m, rfl, hm, by have := b.le; omega, b, ?_⟩
      cases hc : (tkR L (m : Int) false qs).2.2.1
      · rcases b.no hc with e | ⟨_, e⟩
        · rw [e]
        · obtain ⟨t, ht⟩ := e
          rw [← ht, List.take_append_of_le_length hm]
      · obtain ⟨_, d, r, s, h1, h2, h3, h4, h5, h6⟩ := b.yes hc
        have := congrArg (List.take m) h6
        rwa [List.take_take, List.take_take, Nat.min_eq_left h1] at this
  · have hu : takeR L me ml qs = (L, 0, false, lkE L me ml qs) := by unfold takeR; rw [if_neg hE]
    rw [hu]
    exact ⟨fun _ => ⟨rfl, rfl, .inr rfl⟩, fun h => absurd h hE⟩
end Go.Proofs.Ytimpoincnfiibaa
