
/- A tree in memory; the tree of pages. -/
import Derived.Test.YtihkdffihmhnaaaGreatRN4
import Derived.Test.YtihkdffihmhnaaaGreatAlAll
namespace Go.Proofs.YtihkdffihmhnaaaGreat
open Go.RowKit

theorem tree_cells {W : World} {b : Nat} {t : TypeId} {c0 c1 c2 : Value} (h : W.heap[b]? = some (.cells #[c0, c1, c2] t (0, 0))) : (W.cell? ⟨b, 0, none⟩ = some c0 ∧ W.cell? ⟨b, 1, none⟩ = some c1 ∧ W.cell? ⟨b, 2, none⟩ = some c2) ∧ ∀ j, W.frozen? ⟨b, j, none⟩ = false := by
  refine ⟨⟨?_, ?_, ?_⟩, fun j => ?_⟩
  all_goals simp [World.cell?, World.frozen?, h]
theorem tree_set {W : World} {b : Nat} {t : TypeId} {c0 c1 c2 : Value} (h : W.heap[b]? = some (.cells #[c0, c1, c2] t (0, 0))) (u : Value) : (W.setCell ⟨b, 2, none⟩ u).heap[b]? = some (.cells #[c0, c1, u] t (0, 0)) := by
  obtain ⟨hlt, he⟩ := Array.getElem?_eq_some_iff.1 h
  show (W.heap.modify b _)[b]? = _
  rw [Array.getElem?_eq_getElem (by rw [Array.size_modify]; exact hlt), Array.getElem_modify_self, he]
  rfl
def mx (a b : Int) : Int := max a b
def maxL (ls : List Sl) : Int := ls.foldl (fun m s => mx m s.nd.lsn) 0
theorem maxL_take {ls : List Sl} {k : Nat} {s : Sl} (h : ls[k]? = some s) : maxL (ls.take (k + 1)) = mx (maxL (ls.take k)) s.nd.lsn := by
  obtain ⟨hk, e⟩ := List.getElem?_eq_some_iff.1 h
  unfold maxL
  rw [List.take_succ_eq_append_getElem hk, List.foldl_append, e]
  rfl
/-- What Check tells. -/
def ckE (ls : List Sl) : Int := if (leavesF ls).isSome = true then 0 else 130
theorem check_call (a : Option Addr) (n c : Nat) (ls : List Sl) (hn : n = ls.length) (w : World) (h : Slots w a c ls) : Calls Tryz.prog 44 #[.slice a n c] w fun e w' => e = .returned (.int .i64 (ckE ls)) ∧ Fr (fun _ => False) w w' := by
  have hlv := leaves_any a n c ls hn w h
  clear h hn
  go_enter Tryz.func44, Tryz.ntmps44
  go_wp2_with fail
  refine hlv.mono ?_
  intro e w1 ho
  obtain ⟨la, ln, lc, lb, rfl, hlb, _, _, _, f1⟩ := lv_both ho
  have HLB : Hid (lb = (leavesF ls).isSome) := hlb
  clear hlv ho hlb
  cases lb
  · go_wp2
    go_ret
    exact ⟨by unfold ckE; rw [← HLB.out]; rfl, f1⟩
  · go_wp2
    go_ret
    exact ⟨by unfold ckE; rw [← HLB.out]; rfl, f1⟩
end Go.Proofs.YtihkdffihmhnaaaGreat
