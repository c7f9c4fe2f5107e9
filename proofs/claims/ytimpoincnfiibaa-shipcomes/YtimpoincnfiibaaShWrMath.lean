
/- Lists: what the document's loops over a log's records make. -/
import Derived.Test.YtimpoincnfiibaaShWrBase
namespace Go.Proofs.Ytimpoincnfiibaa
open Go.RowKit Crcm

theorem frF_step (ls : List Rec) (r : Rec) (n most : Int) (hl : r.lsn = (ls.length : Int) + 1) :
    frF (ls ++ [r]) n most = if n ≤ r.lsn ∧ ((frF ls n most).length : Int) < most then frF ls n most ++ [r] else frF ls n most := by
  unfold frF
  by_cases h1 : most < 1
  · rw [if_pos h1, if_pos h1, if_neg (by simp; omega)]
  · rw [if_neg h1, if_neg h1]
    obtain ⟨a, ha⟩ : ∃ a : Nat, a = (max n 1 - 1).toNat := ⟨_, rfl⟩
    obtain ⟨m, hm⟩ : ∃ m : Nat, m = most.toNat := ⟨_, rfl⟩
    rw [← ha, ← hm]
    by_cases h2 : a ≤ ls.length
    · have h3 : n ≤ r.lsn := by omega
      rw [List.drop_append_of_le_length h2, List.take_append]
      by_cases h4 : ls.length - a < m
      · rw [if_pos ⟨h3, by rw [List.length_take, List.length_drop]; omega⟩]
        congr 1
        rw [List.length_drop]
        exact List.take_of_length_le (by simp; omega)
      · rw [if_neg (fun h => h4 (by have := h.2; rw [List.length_take, List.length_drop] at this; omega))]
        rw [List.length_drop, show m - (ls.length - a) = 0 by omega, List.take_zero, List.append_nil]
    · have h3 : ¬ n ≤ r.lsn := by omega
      rw [if_neg (fun h => h3 h.1), List.drop_eq_nil_of_le (by simp; omega), List.drop_eq_nil_of_le (by omega)]
theorem frF_len (ls : List Rec) (n most : Int) : (frF ls n most).length ≤ ls.length := by
  unfold frF
  split
  · simp
  · rw [List.length_take, List.length_drop]; omega
theorem frF_none (n most : Int) : frF [] n most = [] := by unfold frF; simp

theorem mks_last {ls : List Rec} (h : ls ≠ []) : ((mks ls).getLast?.getD (0, 0)).1 = lastE ls := by
  rcases List.eq_nil_or_concat ls with h0 | ⟨l, r, h0⟩
  · exact absurd h0 h
  · subst h0
    rw [List.concat_eq_append, mks_snoc]
    have hl : lastE (l ++ [r]) = r.ep := by unfold lastE; simp
    rw [hl]
    unfold mkS
    split
    · simp
    · rename_i hc
      by_cases hx : r.ep = ((mks l).getLast?.getD (0, 0)).1
      · exact hx.symm
      · exact absurd (.inr hx) hc
theorem mks_step (l : List Rec) (r : Rec) : mks (l ++ [r]) = if l = [] ∨ lastE l ≠ r.ep then mks l ++ [(r.ep, r.lsn)] else mks l := by
  rw [mks_snoc]
  unfold mkS
  by_cases h : l = []
  · rw [if_pos (.inl (mks_empty.2 h)), if_pos (.inl h)]
  · rw [mks_last h]
    by_cases he : lastE l = r.ep
    · rw [if_neg (fun x => x.elim (fun x => h (mks_empty.1 x)) (fun x => x he.symm)), if_neg (fun x => x.elim h (fun x => x he))]
    · rw [if_pos (.inr (fun x => he x.symm)), if_pos (.inr he)]
theorem take_min_step (ls : List Rec) (k n : Nat) (r : Rec) (h : ls[k]? = some r) : (ls.take (k + 1)).take n = if k + 1 ≤ n then (ls.take k).take n ++ [r] else (ls.take k).take n := by
  have hk := (List.getElem?_eq_some_iff.1 h).1
  rw [List.take_take, List.take_take]
  by_cases hn : k + 1 ≤ n
  · rw [if_pos hn, Nat.min_eq_right hn, Nat.min_eq_right (by omega), List.take_succ_eq_append_getElem hk]
    have := (List.getElem?_eq_some_iff.1 h).2
    rw [this]
  · rw [if_neg hn, Nat.min_eq_left (by omega), Nat.min_eq_left (by omega)]
end Go.Proofs.Ytimpoincnfiibaa
