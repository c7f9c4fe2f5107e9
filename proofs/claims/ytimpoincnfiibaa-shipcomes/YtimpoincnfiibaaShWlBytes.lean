
/- What (*Log).Bytes makes. -/
import Derived.Test.YtimpoincnfiibaaShWlApp
namespace Go.Proofs.Ytimpoincnfiibaa
open Go.RowKit Crcm

/-- The frames of records, one behind the other. -/
def lfr (l : List Rec) : List Nat := l.flatMap frm
theorem lfr_snoc (l : List Rec) (r : Rec) : lfr (l ++ [r]) = lfr l ++ frm r := by unfold lfr; simp
theorem lfr_octs (l : List Rec) : octs (lfr l) := fun x hx => by
  unfold lfr at hx
  obtain ⟨r, _, h⟩ := List.mem_flatMap.1 hx
  exact frm_octs r x h
theorem frm_small {r : Rec} (h : rok r = true) : (frm r).length ≤ 400 := by have g := rok_rg h; have := g.key; have := g.val; rw [frm_length]; omega
theorem lfr_len {l : List Rec} (h : ∀ r ∈ l, rok r = true) : (lfr l).length ≤ 400 * l.length := by
  induction l with
  | nil => simp [lfr]
  | cons r l ih =>
    have h1 := frm_small (h r (by simp))
    have h2 := ih (fun r hr => h r (by simp [hr]))
    unfold lfr at *
    rw [List.flatMap_cons, List.length_append, List.length_cons]
    omega
theorem take_one (l : List Rec) (k : Nat) (h : k < l.length) : ∃ r, l[k]? = some r ∧ l.take (k + 1) = l.take k ++ [r] := ⟨l[k], List.getElem?_eq_getElem h, List.take_succ_eq_append_getElem h⟩
theorem lfr_drop (l : List Rec) (k : Nat) (r : Rec) (h : l[k]? = some r) : lfr (l.drop k) = frm r ++ lfr (l.drop (k + 1)) := by
  obtain ⟨hk, rfl⟩ := List.getElem?_eq_some_iff.1 h
  rw [List.drop_eq_getElem_cons hk]; unfold lfr; rw [List.flatMap_cons]
theorem Wl.ok {ls : List Rec} (h : Wl ls) : ∀ r ∈ ls, rok r = true := fun r hr => by
  obtain ⟨i, hi, rfl⟩ := List.getElem_of_mem hr
  exact (h.each i _ (List.getElem?_eq_getElem hi)).1
theorem lfr_wl {ls : List Rec} (h : Wl ls) (k : Nat) : (lfr (ls.take k)).length ≤ 26214400 := by
  have h1 := lfr_len (l := ls.take k) (fun r hr => h.ok r (List.mem_of_mem_take hr))
  have h2 : (ls.take k).length ≤ 65536 := by rw [List.length_take]; have := h.big; omega
  omega

end Go.Proofs.Ytimpoincnfiibaa
