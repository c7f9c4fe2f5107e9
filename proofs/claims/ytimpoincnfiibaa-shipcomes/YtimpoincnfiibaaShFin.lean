
/- Records that fit are taken, or the log is full. -/
import Derived.Test.YtimpoincnfiibaaShTake
namespace Go.Proofs.Ytimpoincnfiibaa
open Go.RowKit Crcm

/-- A log has what stands ahead. -/
structure Ahd (ls : List Rec) (e l : Int) : Prop where
  l0 : 0 ≤ l
  l1 : l ≤ ls.length
  has : l = 0 ∨ hasB ls e l = true
theorem has_get {ls : List Rec} {e l : Int} (h : hasB ls e l = true) : ∃ r, ls[(l - 1).toNat]? = some r ∧ r.ep = e ∧ 1 ≤ l ∧ l ≤ ls.length := by
  obtain ⟨h1, h2⟩ := hasB_lsn h
  unfold hasB at h
  rw [Bool.and_eq_true] at h
  have h3 := h.2
  unfold gtR at h3
  rw [if_pos ⟨h1, h2⟩] at h3
  obtain ⟨r, hr⟩ : ∃ r, ls[(l - 1).toNat]? = some r := ⟨_, List.getElem?_eq_getElem (by omega)⟩
  rw [hr] at h3
  exact ⟨r, hr, by simpa using h3, h1, h2⟩
theorem get_has {ls : List Rec} {l : Int} {r : Rec} (h1 : 1 ≤ l) (h : ls[(l - 1).toNat]? = some r) : hasB ls r.ep l = true := by
  have hj := (List.getElem?_eq_some_iff.1 h).1
  have h2 : l ≤ ls.length := by omega
  unfold hasB gtE gtR
  rw [if_pos ⟨h1, h2⟩, if_pos ⟨h1, h2⟩, h]
  simp
/-- Where a log that has what stands ahead is cut there, the record that follows is taken, or it is full. -/
theorem ap_ahd {ls : List Rec} {e l : Int} {r : Rec} (hl : (ls.length : Int) = l) (h : Ahd ls e l) (hr : rok r = true) (hf : fitR e l r = true) : (apE ls r = 0 ∨ apE ls r = 5 ∧ ls.length = 65536) ∧ (apE ls r = 0 → apL ls r = ls ++ [r]) := by
  obtain ⟨f1, f2⟩ := fitR_parts.1 hf
  have hnx : nx ls r = r := by
    unfold nx
    obtain ⟨a, b, c, d, e', f, g, i⟩ := r
    simp only at f1
    rw [f1, hl]
  have hle : ¬ r.ep < lastE ls := by
    rcases h.has with h0 | h0
    · have : ls = [] := List.length_eq_zero_iff.1 (by omega)
      rw [this, lastE_nil]
      have := (rok_rg hr).ep0
      omega
    · obtain ⟨s, hs, he, _, _⟩ := has_get h0
      have : lastE ls = s.ep := lastE_at (by rw [← hs]; congr 1; omega)
      rw [this, he]; omega
  have hE : apE ls r = if ls.length = 65536 then 5 else 0 := by
    unfold apE refus
    rw [hnx, if_pos hr, if_neg hle]
  constructor
  · rw [hE]
    split
    · rename_i hh; exact .inr ⟨rfl, hh⟩
    · exact .inl rfl
  · intro h0
    unfold apL
    rw [if_pos h0, hnx]
theorem has_snoc {ls : List Rec} {r : Rec} (h : r.lsn = (ls.length : Int) + 1) : hasB (ls ++ [r]) r.ep r.lsn = true := by
  refine get_has (by omega) ?_
  rw [h, show ((ls.length : Int) + 1 - 1).toNat = ls.length by omega]
  simp
theorem one_ahd {ls : List Rec} {e l : Int} {r : Rec} (hw : Wl ls) (h : Ahd ls e l) (hr : rok r = true) (hf : fitR e l r = true) : (oneE ls r = 0 ∨ oneE ls r = 5) ∧ (oneE ls r = 0 → Ahd (oneL ls r) r.ep r.lsn) := by
  obtain ⟨f1, f2⟩ := fitR_parts.1 hf
  have hl0 := h.l0
  have hl1 := h.l1
  cases hb : hasB ls r.ep r.lsn
  · by_cases hc : r.lsn ≤ ls.length
    · have e1 : oneE ls r = apE (ls.take (r.lsn - 1).toNat) r := by unfold oneE; rw [hb, if_neg (by simp), if_pos hc]
      have e2 : oneL ls r = apL (ls.take (r.lsn - 1).toNat) r := by unfold oneL; rw [hb, if_neg (by simp), if_pos hc]
      have hm : (r.lsn - 1).toNat = l.toNat := by omega
      rw [hm] at e1 e2
      have hlen : ((ls.take l.toNat).length : Int) = l := by rw [List.length_take]; omega
      have hF : Ahd (ls.take l.toNat) e l := ⟨hl0, by omega, by
        rcases h.has with h0 | h0
        · exact .inl h0
        · obtain ⟨s, hs, he, h1, h2⟩ := has_get h0
          refine .inr ?_
          rw [← he]
          refine get_has h1 ?_
          rw [List.getElem?_take, if_pos (by omega)]
          exact hs⟩
      obtain ⟨k1, k2⟩ := ap_ahd hlen hF hr hf
      have hb := hw.big
      have k3 : apE (ls.take l.toNat) r = 0 := by
        rcases k1 with k | ⟨_, k⟩
        · exact k
        · omega
      rw [e1, e2]
      refine ⟨.inl k3, fun _ => ?_⟩
      rw [k2 k3]
      exact ⟨by omega, by rw [List.length_append, List.length_singleton]; omega, .inr (has_snoc (by omega))⟩
    · have e1 : oneE ls r = apE ls r := by unfold oneE; rw [hb, if_neg (by simp), if_neg hc]
      have e2 : oneL ls r = apL ls r := by unfold oneL; rw [hb, if_neg (by simp), if_neg hc]
      have hlen : (ls.length : Int) = l := by omega
      obtain ⟨k1, k2⟩ := ap_ahd hlen h hr hf
      rw [e1, e2]
      refine ⟨by rcases k1 with k | k; exact .inl k; exact .inr k.1, fun k3 => ?_⟩
      rw [k2 k3]
      exact ⟨by omega, by rw [List.length_append, List.length_singleton]; omega, .inr (has_snoc (by omega))⟩
  · have e1 : oneE ls r = 0 := by unfold oneE; rw [hb]; rfl
    have e2 : oneL ls r = ls := by unfold oneL; rw [hb]; rfl
    rw [e1, e2]
    exact ⟨.inl rfl, fun _ => ⟨by omega, (hasB_lsn hb).2, .inr hb⟩⟩
theorem ahd_of {ls : List Rec} {me ml : Int} {rs : List Rec} (h : lkE ls me ml rs = 0) : Ahd ls me ml := by
  obtain ⟨_, h0, h1, _, h2⟩ := lkE_zero h
  refine ⟨h0, by omega, ?_⟩
  by_cases hp : 0 < ml
  · exact .inr (h2 hp)
  · exact .inl (by omega)
/-- A row of records that fit. -/
def fits : Int → Int → List Rec → Prop
  | _, _, [] => True
  | e, l, r :: rs => fitR e l r = true ∧ fits r.ep r.lsn rs
theorem fits_of : ∀ (rs : List Rec) (e l : Int), fitL e l rs = rs → fits e l rs := by
  intro rs
  induction rs with
  | nil => intros; trivial
  | cons r rs ih =>
    intro e l h
    unfold fitL at h
    split at h
    · rename_i hf
      exact ⟨hf, ih _ _ (by simpa using h)⟩
    · simp at h
theorem fits_next {rs : List Rec} {k : Nat} {r : Rec} {e l : Int} (h : rs[k]? = some r) (hf : fits e l (rs.drop k)) : fitR e l r = true ∧ fits r.ep r.lsn (rs.drop (k + 1)) := by
  have hj := (List.getElem?_eq_some_iff.1 h).1
  rw [List.drop_eq_getElem_cons hj, (List.getElem?_eq_some_iff.1 h).2] at hf
  exact hf
end Go.Proofs.Ytimpoincnfiibaa
