
/- A step of the statements, in memory; what a step does to a promise. -/
import Derived.Test.YtbfkacahaocpfaaVtRef
import Derived.Test.YtbfkacahaocpfaaVtSpk
namespace Go.Proofs.Ytbfkacahaocpfaa
open Go.RowKit

theorem run_ep (x y : Int) (W : World) : (Instr.field 23 (.agg #[.int .i64 x, .int .i64 y]) 0).run Try.prog W = .ok (.int .i64 x) W := by kernel_rfl
theorem run_fo (x y : Int) (W : World) : (Instr.field 23 (.agg #[.int .i64 x, .int .i64 y]) 1).run Try.prog W = .ok (.int .i64 y) W := by kernel_rfl
theorem Two.two {w : World} {b : Nat} {t : TypeId} {x y : Value} (h : Two w b t x y) : w.cell? ⟨b, 0, none⟩ = some x ∧ w.cell? ⟨b, 1, none⟩ = some y := ⟨h.cells.1, h.cells.2.1⟩
def Blk (w : World) (b : Nat) (C : Array Value) (t : TypeId) : Prop := w.heap[b]? = some (.cells C t (0, 0))
theorem Blk.lt {w : World} {b : Nat} {C : Array Value} {t : TypeId} (h : Blk w b C t) : b < w.heap.size := (Array.getElem?_eq_some_iff.1 h).1
theorem Blk.fr {S : Nat → Prop} {w w' : World} {b : Nat} {C : Array Value} {t : TypeId} (h : Blk w b C t) (f : Fr S w w') (hn : ¬ S b) : Blk w' b C t := by
  unfold Blk; rw [f.block b h.lt hn]; exact h
theorem Blk.cell {w : World} {b j : Nat} {C : Array Value} {t : TypeId} {v : Value} (h : Blk w b C t) (hv : C[j]? = some v) : w.cell? ⟨b, j, none⟩ = some v := by rw [cell_of_row _ _ _ _ _ _ h]; exact hv
theorem Blk.new (w : World) (C : Array Value) (t : TypeId) : Blk (w.alloc (.cells C t)) w.heap.size C t := heap_alloc_new w _
def stC (k r p a b c d : Int) : Array Value := #[.int .i64 k, .int .i64 r, .int .i64 p, .int .i64 a, .int .i64 b, .int .i64 c, .int .i64 d]
theorem Blk.six {w : World} {b : Nat} {t : TypeId} {k r p a x c d : Int} (h : Blk w b (stC k r p a x c d) t) : w.cell? ⟨b, 1, none⟩ = some (.int .i64 r) ∧ w.cell? ⟨b, 2, none⟩ = some (.int .i64 p) ∧ w.cell? ⟨b, 3, none⟩ = some (.int .i64 a) ∧ w.cell? ⟨b, 4, none⟩ = some (.int .i64 x) ∧ w.cell? ⟨b, 5, none⟩ = some (.int .i64 c) ∧ w.cell? ⟨b, 6, none⟩ = some (.int .i64 d) :=
  ⟨h.cell rfl, h.cell rfl, h.cell rfl, h.cell rfl, h.cell rfl, h.cell rfl⟩
theorem ask_right {e f frm ep : Int} {a b : Int × Int} (hr : rgtB e f = true) : rgtB (askE e frm ep) (askF e f frm ep a b) = true := by
  have he : (0 ≤ e ∧ e ≤ 1099511627776) ∧ (f = -1 ∨ 0 ≤ f ∧ f < 7) := by simp [rgtB, epB, nodB] at hr; exact hr
  by_cases hn : nodB frm = true
  · have hn' : 0 ≤ frm ∧ frm < 7 := by simp [nodB] at hn; exact hn
    by_cases hs : seeB e ep = true
    · have hs' : e < ep ∧ ep ≤ 1099511627776 := by simp [seeB] at hs; exact hs
      have h1 : askE e frm ep = ep := by simp [askE, hn, e1, hs]
      have h2 : askF e f frm ep a b = frm ∨ askF e f frm ep a b = -1 := by
        unfold askF
        rw [if_pos hn]
        split
        · exact .inl rfl
        · exact .inr (by simp [f1, hs])
      rw [h1]
      rcases h2 with h2 | h2 <;> rw [h2] <;> simp [rgtB, epB, nodB] <;> omega
    · rw [Bool.not_eq_true] at hs
      have h1 : askE e frm ep = e := by simp [askE, hn, e1, hs]
      have h2 : askF e f frm ep a b = frm ∨ askF e f frm ep a b = f := by
        unfold askF
        rw [if_pos hn]
        split
        · exact .inl rfl
        · exact .inr (by simp [f1, hs])
      rw [h1]
      rcases h2 with h2 | h2 <;> rw [h2] <;> simp [rgtB, epB, nodB] <;> omega
  · rw [Bool.not_eq_true] at hn
    rw [show askE e frm ep = e by simp [askE, hn], show askF e f frm ep a b = f by simp [askF, hn]]; exact hr
theorem see_right {e f ep : Int} (hr : rgtB e f = true) : rgtB (if seeB e ep then ep else e) (if seeB e ep then -1 else f) = true := by
  have he : (0 ≤ e ∧ e ≤ 1099511627776) ∧ (f = -1 ∨ 0 ≤ f ∧ f < 7) := by simp [rgtB, epB, nodB] at hr; exact hr
  by_cases hs : seeB e ep = true
  · have hs' : e < ep ∧ ep ≤ 1099511627776 := by simp [seeB] at hs; exact hs
    rw [if_pos hs, if_pos hs]
    simp [rgtB, epB, nodB]; omega
  · rw [if_neg hs, if_neg hs]; exact hr
theorem stand_right {e f me : Int} (hr : rgtB e f = true) : rgtB (if stE e me = 0 then e + 1 else e) (if stE e me = 0 then me else f) = true := by
  have he : (0 ≤ e ∧ e ≤ 1099511627776) ∧ (f = -1 ∨ 0 ≤ f ∧ f < 7) := by simp [rgtB, epB, nodB] at hr; exact hr
  by_cases hs : stE e me = 0
  · rw [if_pos hs, if_pos hs]
    unfold stE at hs
    split at hs
    · rename_i hn
      have hn' : 0 ≤ me ∧ me < 7 := by simp [nodB] at hn; exact hn
      split at hs
      · omega
      · simp [rgtB, epB, nodB]; omega
    · omega
  · rw [if_neg hs, if_neg hs]; exact hr
end Go.Proofs.Ytbfkacahaocpfaa
