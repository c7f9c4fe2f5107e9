/- What the bound on what comes in gives of a slice of items. -/
import Derived.Test.YtnnaaliadbihkaaBulk
import Derived.Test.YtnnaaliadbihkaaRefText
namespace Go.Proofs.Ytnnaaliadbihkaa

theorem bulk_items {H : Type} (its : List It) : Rows.uptoBulkAll (its.map (itData (H := H))) = wt its := by
  induction its with
  | nil => simp [Rows.uptoBulkAll, wt]
  | cons x l ih =>
    have e2 : wt (x :: l) = (x.2.2.size + 4) + wt l := by simp [wt]
    have e3 : x.2.2.data.toList.length = x.2.2.size := by rw [Array.length_toList]; rfl
    rw [e2, List.map_cons]
    simp only [Rows.uptoBulkAll, ih, itData, Rows.uptoBulk, e3]
    omega
theorem wt_count (its : List It) : its.length ≤ wt its := by
  induction its with
  | nil => simp
  | cons x l ih =>
    have e2 : wt (x :: l) = (x.2.2.size + 4) + wt l := by simp [wt]
    rw [e2, List.length_cons]; omega
theorem wt_bound {H : Type} {d : DataW H} {its sp : List It} (hd : d = .nil ∧ its = [] ∨ d = .slice (its.map itData) (sp.map itData)) (hb : Rows.uptoBulk d ≤ 1048576) : wt its ≤ 1048576 := by
  rcases hd with ⟨_, rfl⟩ | rfl
  · simp [wt]
  · simp only [Rows.uptoBulk] at hb
    rw [bulk_items] at hb
    omega
end Go.Proofs.Ytnnaaliadbihkaa
