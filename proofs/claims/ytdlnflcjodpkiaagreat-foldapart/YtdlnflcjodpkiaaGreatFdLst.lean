
/- What follows: what a map has of a key, histories' beginnings. -/
import Derived.Test.YtdlnflcjodpkiaaGreatFdExt
import Derived.Test.YtdlnflcjodpkiaaGreatFdAns
namespace Go.Proofs.YtdlnflcjodpkiaaGreat
open Go.RowKit Go.Shelf

theorem sayB_refl (a : Rec) : sayB a a = true := by simp [sayB]
theorem sayB_trans {a b c : Rec} (h1 : sayB a b = true) (h2 : sayB b c = true) : sayB a c = true := by
  simp only [sayB, Bool.and_eq_true, beq_iff_eq] at *
  obtain ⟨a1, a2, a3, a4, a5, a6⟩ := h1
  obtain ⟨b1, b2, b3, b4, b5, b6⟩ := h2
  exact ⟨a1.trans b1, a2.trans b2, a3.trans b3, a4.trans b4, a5.trans b5, a6.trans b6⟩
theorem Ext.trans {a b c : List Rec} (h1 : Ext a b) (h2 : Ext b c) : Ext a c := by
  refine ⟨Nat.le_trans h2.1 h1.1, fun i x z hx hz => ?_⟩
  have hi : i < c.length := (List.getElem?_eq_some_iff.1 hz).1
  have hib : i < b.length := Nat.lt_of_lt_of_le hi h2.1
  have hb : b[i]? = some b[i] := List.getElem?_eq_getElem hib
  exact sayB_trans (h1.2 i x _ hx hb) (h2.2 i _ z hb hz)
theorem ext_take (ls : List Rec) (n : Nat) : Ext (hist ls) (hist (ls.take n)) := by
  have e : hist ls = hist (ls.take n) ++ hist (ls.drop n) := by
    unfold hist
    rw [← List.filter_append, List.take_append_drop]
  refine ⟨by rw [e, List.length_append]; omega, fun i a b ha hb => ?_⟩
  have hi : i < (hist (ls.take n)).length := (List.getElem?_eq_some_iff.1 hb).1
  rw [e, List.getElem?_append_left hi, hb] at ha
  cases ha
  exact sayB_refl _
theorem fnd_snoc (hs : List Rec) (r : Rec) (k : ByteArray) : fnd (beh (hs ++ [r])) k = if k = r.key then (if r.other = 1 then some (r.key, r.val) else none) else fnd (beh hs) k := by
  rw [beh_snoc]
  unfold wth
  rw [fnd_wth (ris_beh hs)]
  by_cases h : r.other = 1 <;> simp [h]
/-- What the last write of a key says. -/
def wnF (hs : List Rec) (k : ByteArray) : Bool := (fnd (beh hs) k).isSome
def wnV (hs : List Rec) (k : ByteArray) : ByteArray := ((fnd (beh hs) k).map (·.2)).getD ⟨#[]⟩
theorem take_one {hs : List Rec} {n : Nat} {r : Rec} (h : hs[n]? = some r) : hs.take (n + 1) = hs.take n ++ [r] := by rw [List.take_add_one, h]; rfl
theorem wn_put {hs : List Rec} {n : Nat} {r : Rec} {k : ByteArray} (h : hs[n]? = some r) (hk : r.key = k) (ho : r.other = 1) : wnF (hs.take (n + 1)) k = true ∧ wnV (hs.take (n + 1)) k = r.val := by
  unfold wnF wnV
  rw [take_one h, fnd_snoc, if_pos hk.symm, if_pos ho]
  exact ⟨rfl, rfl⟩
theorem wn_del {hs : List Rec} {n : Nat} {r : Rec} {k : ByteArray} (h : hs[n]? = some r) (hk : r.key = k) (ho : r.other ≠ 1) : wnF (hs.take (n + 1)) k = false ∧ wnV (hs.take (n + 1)) k = ⟨#[]⟩ := by
  unfold wnF wnV
  rw [take_one h, fnd_snoc, if_pos hk.symm, if_neg ho]
  exact ⟨rfl, rfl⟩
theorem wn_not {hs : List Rec} {n : Nat} {r : Rec} {k : ByteArray} (h : hs[n]? = some r) (hk : r.key ≠ k) : wnF (hs.take (n + 1)) k = wnF (hs.take n) k ∧ wnV (hs.take (n + 1)) k = wnV (hs.take n) k := by
  unfold wnF wnV
  rw [take_one h, fnd_snoc, if_neg (fun e => hk e.symm)]
  exact ⟨rfl, rfl⟩
theorem giv_get (hs : List Rec) (k : ByteArray) : givF ⟨1, k, ⟨#[]⟩⟩ (beh hs) = ⟨wnF hs k, wnV hs k, []⟩ := by
  unfold wnF wnV
  cases h : fnd (beh hs) k with
  | none => rw [givF_none (show (1 : Int) ≠ 4 by decide) h]; rfl
  | some e => rw [givF_some (show (1 : Int) ≠ 4 by decide) h]; rfl
theorem mem_wthG {k v : ByteArray} {e : En} : ∀ {L : List En} {p : Bool}, e ∈ wthG k v p L → e ∈ L ∨ (p = false ∧ e = (k, v))
  | [], p, h => by
    unfold wthG at h
    split at h
    · cases h
    · rename_i hp
      simp at h
      exact .inr ⟨by simpa using hp, h⟩
  | x :: m, p, h => by
    unfold wthG at h
    rcases List.mem_append.1 h with h | h
    · split at h
      · rename_i hp
        simp at h
        exact .inr ⟨hp.1, h⟩
      · cases h
    · rcases List.mem_append.1 h with h | h
      · split at h
        · cases h
        · simp at h
          subst h
          exact .inl (List.mem_cons_self ..)
      · rcases mem_wthG h with h | ⟨h1, h2⟩
        · exact .inl (List.mem_cons_of_mem _ h)
        · refine .inr ⟨?_, h2⟩
          cases p
          · rfl
          · simp at h1
theorem mem_foldl {hs : List Rec} : ∀ {L : List En} {e : En}, e ∈ hs.foldl wth L → e ∈ L ∨ ∃ r ∈ hs, r.other = 1 ∧ e = (r.key, r.val) := by
  induction hs with
  | nil => intro L e h; exact .inl h
  | cons r hs ih =>
    intro L e h
    rcases ih h with h | ⟨x, hx, h1, h2⟩
    · rcases mem_wthG h with h | ⟨h1, h2⟩
      · exact .inl h
      · exact .inr ⟨r, List.mem_cons_self .., by simpa using h1, h2⟩
    · exact .inr ⟨x, List.mem_cons_of_mem _ hx, h1, h2⟩
theorem mem_beh {hs : List Rec} {e : En} (h : e ∈ beh hs) : ∃ r ∈ hs, r.other = 1 ∧ e = (r.key, r.val) := by
  rcases mem_foldl h with h | h
  · cases h
  · exact h
theorem com_parts {r : Rec} (h : comB r = true) (ho : r.other = 1) : ekey r.key.size = 0 ∧ evalu r.val.size = 0 := by
  unfold comB at h
  simp only [Bool.and_eq_true, Bool.or_eq_true, keyB, valB, beq_iff_eq] at h
  obtain ⟨_, _, _, _, h4, _, h6⟩ := h
  refine ⟨h6, ?_⟩
  rcases h4 with ⟨_, h⟩ | ⟨h, _⟩
  · exact h
  · rw [ho] at h; cases h
theorem map_beh (ls : List Rec) : MapOk (beh (hist ls)) := by
  intro j hj e he
  have hm : e ∈ beh (hist ls) := List.mem_of_getElem? he
  obtain ⟨r, hr, ho, rfl⟩ := mem_beh hm
  have hc : comB r = true := (List.mem_filter.1 hr).2
  obtain ⟨h1, h2⟩ := com_parts hc ho
  refine ⟨h1, h2, fun p h0 hp => ?_⟩
  have hR := ris_beh (hist ls)
  obtain ⟨i1, e1⟩ := List.getElem?_eq_some_iff.1 hp
  obtain ⟨i2, e2⟩ := List.getElem?_eq_some_iff.1 he
  have := List.pairwise_iff_getElem.1 hR (j - 1) j i1 i2 (by omega)
  rw [e1, e2] at this
  exact this
theorem ans_get (ls : List Rec) (k : ByteArray) : ansR (beh (hist ls)) ⟨1, k, ⟨#[]⟩⟩ = ⟨wnF (hist ls) k, wnV (hist ls) k, []⟩ ∧ ansE (beh (hist ls)) ⟨1, k, ⟨#[]⟩⟩ = 0 := by
  unfold ansR ansE
  have hm := mapB_yes (map_beh ls)
  rw [if_pos ⟨hm, show kindB 1 = true by decide⟩, if_neg (by rw [hm]; simp), if_neg (show ¬ kindB 1 = false by decide)]
  exact ⟨giv_get _ _, rfl⟩
/-- The records of one key. -/
def owns (ls : List Rec) (k : ByteArray) : List Rec := ls.filter (fun r => decide (r.key = k))
theorem fnd_own {k : ByteArray} {hs : List Rec} : ∀ {L M : List En}, Ris L → Ris M → fnd L k = fnd M k → fnd (hs.foldl wth L) k = fnd ((owns hs k).foldl wth M) k := by
  induction hs with
  | nil => intro L M _ _ h; exact h
  | cons r hs ih =>
    intro L M hL hM h
    unfold owns
    by_cases hk : r.key = k
    · rw [List.filter_cons, if_pos (by simpa using hk)]
      exact ih (ris_wth hL _) (ris_wth hM _) (by unfold wth; rw [fnd_wth hL, fnd_wth hM, if_pos hk.symm, if_pos hk.symm])
    · rw [List.filter_cons, if_neg (by simpa using hk)]
      exact ih (ris_wth hL _) hM (by unfold wth; rw [fnd_wth hL, if_neg (fun e => hk e.symm)]; exact h)
theorem hist_own (ls : List Rec) (k : ByteArray) : hist (owns ls k) = owns (hist ls) k := by
  unfold hist owns
  rw [List.filter_filter, List.filter_filter]
  congr 1
  funext r
  exact Bool.and_comm _ _
theorem wn_own (ls : List Rec) (k : ByteArray) : wnF (hist (owns ls k)) k = wnF (hist ls) k ∧ wnV (hist (owns ls k)) k = wnV (hist ls) k := by
  have : fnd (beh (hist (owns ls k))) k = fnd (beh (hist ls)) k := by
    rw [hist_own]
    exact (fnd_own List.Pairwise.nil List.Pairwise.nil rfl).symm
  unfold wnF wnV
  rw [this]
  exact ⟨rfl, rfl⟩
end Go.Proofs.YtdlnflcjodpkiaaGreat
