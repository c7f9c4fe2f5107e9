
/- What follows for two timelines: the fork both ways, and what grows. -/
import Derived.Test.YtphfngboddnbmaaLnPl
namespace Go.Proofs.Ytphfngboddnbmaa
open Go.RowKit
open Go.Proofs.Ytphfngboddnbmaa.Ln

theorem both_comm (ms : List Mk) (last : Int) (ns : List Mk) (lst : Int) : arE ns lst ms last = arE ms last ns lst ∧ fkN ns lst ms last = fkN ms last ns lst := by
  unfold arE fkN
  rw [Bool.and_comm, fork_comm]; exact ⟨rfl, rfl⟩
/-- What is known at the fork of two that are right. -/
theorem fork_all {ms : List Mk} {last : Int} {ns : List Mk} {lst : Int} (h : (linB ms last && linB ns lst) = true) : ∃ (n : Int) (C : List Mk), fkN ms last ns lst = n ∧ 0 ≤ n ∧ n ≤ last ∧ n ≤ lst ∧ n ≤ 1099511627776 ∧ (cutM ms last n = C ∧ cutL ms last n = n ∧ rcE ms last n = 0) ∧ (cutM ns lst n = C ∧ cutL ns lst n = n ∧ rcE ns lst n = 0) ∧ (n < last → n < lst → atN ms last (n + 1) ≠ atN ns lst (n + 1)) := by
  obtain ⟨R1, R2⟩ := both_right h
  rw [Bool.and_eq_true] at h
  have F := fork_is R1 R2
  refine ⟨forkF ms ns last lst, ms.filter (fun m => decide (m.2 ≤ forkF ms ns last lst)), ?_, F.low, F.fa, F.fb, by have := F.fa; have := R1.last1; omega, ⟨(cut_in h.1 ⟨F.low, F.fa⟩).1, (cut_in h.1 ⟨F.low, F.fa⟩).2, (rcE_in h.1 ⟨F.low, F.fa⟩).1⟩, ⟨?_, (cut_in h.2 ⟨F.low, F.fb⟩).2, (rcE_in h.2 ⟨F.low, F.fb⟩).1⟩, ?_⟩
  · unfold fkN; rw [h.1, h.2]; rfl
  · rw [(cut_in h.2 ⟨F.low, F.fb⟩).1, F.same]
  · intro h1 h2
    have hl := F.low
    rw [(rcE_in h.1 ⟨by omega, by omega⟩).2, (rcE_in h.2 ⟨by omega, by omega⟩).2]
    rcases F.part h1 h2 with ⟨m, hm, he, hne⟩ | ⟨m, hm, he, hne⟩
    · have := epF_mem R1.up hm
      rw [he] at this
      rw [this]; exact fun e => hne e.symm
    · have := epF_mem R2.up hm
      rw [he] at this
      rw [this]; exact hne
/-- Of two of which neither is newer. -/
theorem new_both {ms : List Mk} {last : Int} {ns : List Mk} {lst : Int} (h : (linB ms last && linB ns lst) = true) : (nwB ms last ns lst = true → nwB ns lst ms last = false) ∧ (nwB ms last ns lst = false → nwB ns lst ms last = false → atN ms last last = atN ns lst lst ∧ last = lst) := by
  have h' : (linB ns lst && linB ms last) = true := by rw [Bool.and_comm]; exact h
  obtain ⟨R1, R2⟩ := both_right h
  rw [nwB_yes h, nwB_yes h']
  rw [Bool.and_eq_true] at h
  rw [(rcE_in h.1 ⟨R1.last0, by omega⟩).2, (rcE_in h.2 ⟨R2.last0, by omega⟩).2]
  unfold newB
  generalize epF ms last = x
  generalize epF ns lst = y
  constructor
  · intro h
    simp only [Bool.or_eq_true, Bool.and_eq_true, decide_eq_true_eq] at h
    rw [Bool.or_eq_false_iff, Bool.and_eq_false_iff]
    simp only [decide_eq_false_iff_not]
    omega
  · intro h1 h2
    rw [Bool.or_eq_false_iff, Bool.and_eq_false_iff] at h1 h2
    simp only [decide_eq_false_iff_not] at h1 h2
    omega
/-- A timeline that goes on is not older, and it is the same up to where it was. -/
theorem gro_all {ms : List Mk} {last ep n : Int} (h : linB ms last = true) (hE : groE ms last ep n = 0) : nwB ms last (groM ms last ep n) (groL ms last ep n) = false ∧ arE ms last (groM ms last ep n) (groL ms last ep n) = 0 ∧ fkN ms last (groM ms last ep n) (groL ms last ep n) = last ∧ ckE (groM ms last ep n) (groL ms last ep n) = 0 := by
  have R := linB_right h
  have hg : groOk last ep n = true := by
    cases hg : groOk last ep n
    · rw [gro_arg h hg] at hE; omega
    · rfl
  obtain ⟨d1, d2, d3⟩ := gro_parts hg
  obtain ⟨d4, d5⟩ := numB_iff.1 d3
  rw [(gro_yes hE).1, (gro_yes hE).2]
  have R2 := gro_right R d1 d2 d4 d5
  have hb : (linB ms last && linB (groF ms last ep n) (last + n)) = true := by rw [h, right_linB R2]; rfl
  refine ⟨?_, (arE_yes hb).1, ?_, ckE_yes (right_linB R2)⟩
  · rw [nwB_yes hb]
    have := gro_ep (n := n) (ep := ep) R d1 d4
    unfold newB
    rw [Bool.or_eq_false_iff, Bool.and_eq_false_iff]
    simp only [decide_eq_false_iff_not]
    omega
  · rw [(arE_yes hb).2, gro_fork d1]
end Go.Proofs.Ytphfngboddnbmaa
