
/- Votes that were given, in memory; what voting once asks. -/
import Derived.Test.YtbfkacahaocpfaaVcLaw
import Derived.Test.YtbfkacahaocpfaaVtStp
namespace Go.Proofs.Ytbfkacahaocpfaa
open Go.RowKit

/-- A vote as it lies in memory: its epoch, nobody, for whom. -/
def gvC (g : Int × Int) : List Value := [.int .i64 g.1, .int .i64 0, .int .i64 g.2]
theorem gvC_length (g : Int × Int) : (gvC g).length = 3 := rfl
theorem gvCs_len (gs : List (Int × Int)) : (gs.flatMap gvC).length = gs.length * 3 := by
  induction gs with
  | nil => rfl
  | cons m l ih => rw [List.flatMap_cons, List.length_append, ih, gvC_length, List.length_cons]; omega
theorem infoG : (Try.prog.info? 61).map (fun i => (i.zero, i.size, i.bytes)) = some (some (.agg #[.int .i64 0, .int .i64 0, .int .i64 0]), 3, 24) := by kernel_rfl
theorem gv_at {w : World} {b : Nat} {gs : List (Int × Int)} {o : Nat} (h : w.rangeAt b o (gs.flatMap gvC)) {i : Nat} {g : Int × Int} (hg : gs[i]? = some g) : w.rangeAt b (o + i * 3) (gvC g) := by
  induction gs generalizing o i with
  | nil => simp at hg
  | cons x l ih =>
    cases i with
    | zero =>
      simp at hg; subst hg
      rw [Nat.zero_mul, Nat.add_zero]
      exact fun j v hv => h j v (by rw [List.flatMap_cons, List.getElem?_append_left (List.getElem?_eq_some_iff.1 hv).1]; exact hv)
    | succ i =>
      have := ih (o := o + 3) (i := i) (fun j v hv => by
        have := h (3 + j) v (by rw [List.flatMap_cons, List.getElem?_append_right (by rw [gvC_length]; omega), gvC_length, Nat.add_sub_cancel_left]; exact hv)
        rwa [← Nat.add_assoc] at this) (by simpa using hg)
      rwa [show o + 3 + i * 3 = o + (i + 1) * 3 by omega] at this
/-- A row of votes of the call's own. -/
structure Gv (w : World) (B : Nat) (vb : Nat) (v : Value) (gs : List (Int × Int)) : Prop where
  has : Has w 3 v gs.length (gs.flatMap gvC)
  off : ∀ k, v.ownBlock = some k → B ≤ k ∧ k ≠ vb
theorem Gv.nil (w : World) (B vb : Nat) : Gv w B vb (.slice none 0 0) [] := ⟨Has.nil _ _, fun k h => by cases h⟩
theorem Gv.fr {w w' : World} {B vb : Nat} {v : Value} {gs : List (Int × Int)} (h : Gv w B vb v gs) {S : Nat → Prop} (f : Fr S w w') (hS : ∀ k, v.ownBlock = some k → ¬ S k) : Gv w' B vb v gs := ⟨h.has.fr f hS, h.off⟩
theorem Gv.same {w w' : World} {B vb : Nat} {v : Value} {gs : List (Int × Int)} (h : Gv w B vb v gs) (f : Fr (fun _ => False) w w') : Gv w' B vb v gs := h.fr f (fun _ _ f => f)
theorem Gv.vot {w w' : World} {B vb : Nat} {v : Value} {gs : List (Int × Int)} (h : Gv w B vb v gs) (f : Fr (fun i => i = vb) w w') : Gv w' B vb v gs := h.fr f (fun k hk e => (h.off k hk).2 e)
/-- What is kept: votes of the epoch that stands are for whom it stands. -/
def GvI (gs : List (Int × Int)) (e f : Int) : Prop := ∀ g ∈ gs, 0 ≤ g.2 ∧ g.1 ≤ e ∧ (g.1 = e → g.2 = f)
theorem GvI.ask {gs : List (Int × Int)} {e f frm ep : Int} {a b : Int × Int} (h : GvI gs e f) : GvI gs (askE e frm ep) (askF e f frm ep a b) ∧ e ≤ askE e frm ep ∧ (askB e f frm ep a b = true → askF e f frm ep a b = frm ∧ 0 ≤ frm) := by
  by_cases hn : nodB frm = true
  · have hn' : 0 ≤ frm ∧ frm < 7 := by simp [nodB] at hn; exact hn
    by_cases hs : seeB e ep = true
    · have hs' : e < ep ∧ ep ≤ 1099511627776 := by simp [seeB] at hs; exact hs
      have h1 : askE e frm ep = ep := by simp [askE, hn, e1, hs]
      rw [h1]
      refine ⟨fun g hg => ?_, by omega, fun hb => ⟨by unfold askF; rw [if_pos hn, if_pos hb], hn'.1⟩⟩
      obtain ⟨k1, k2, k3⟩ := h g hg
      exact ⟨k1, by omega, fun hh => by omega⟩
    · rw [Bool.not_eq_true] at hs
      have h1 : askE e frm ep = e := by simp [askE, hn, e1, hs]
      rw [h1]
      refine ⟨fun g hg => ?_, by omega, fun hb => ⟨by unfold askF; rw [if_pos hn, if_pos hb], hn'.1⟩⟩
      obtain ⟨k1, k2, k3⟩ := h g hg
      refine ⟨k1, k2, fun hh => ?_⟩
      have k4 := k3 hh
      unfold askF
      rw [if_pos hn]
      split
      · rename_i hb
        have hf : f1 e f ep = f := by simp [f1, hs]
        unfold askB at hb
        rw [hf] at hb
        simp at hb
        rcases hb.1.2.2 with q | q
        · omega
        · omega
      · rw [show f1 e f ep = f by simp [f1, hs]]; exact k4
  · rw [Bool.not_eq_true] at hn
    rw [show askE e frm ep = e by simp [askE, hn], show askF e f frm ep a b = f by simp [askF, hn]]
    exact ⟨h, by omega, fun hb => by simp [askB, hn] at hb⟩
theorem GvI.see {gs : List (Int × Int)} {e f ep : Int} (h : GvI gs e f) : GvI gs (if seeB e ep then ep else e) (if seeB e ep then -1 else f) ∧ e ≤ (if seeB e ep then ep else e) := by
  by_cases hs : seeB e ep = true
  · have hs' : e < ep ∧ ep ≤ 1099511627776 := by simp [seeB] at hs; exact hs
    rw [if_pos hs, if_pos hs]
    refine ⟨fun g hg => ?_, by omega⟩
    obtain ⟨k1, k2, k3⟩ := h g hg
    exact ⟨k1, by omega, fun hh => by omega⟩
  · rw [if_neg hs, if_neg hs]
    exact ⟨h, by omega⟩
theorem GvI.stand {gs : List (Int × Int)} {e f me : Int} (h : GvI gs e f) : GvI gs (if stE e me = 0 then e + 1 else e) (if stE e me = 0 then me else f) ∧ e ≤ (if stE e me = 0 then e + 1 else e) ∧ ((stE e me == 0) = true → (if stE e me = 0 then me else f) = me ∧ 0 ≤ me) := by
  by_cases hs : stE e me = 0
  · rw [if_pos hs, if_pos hs]
    have hn : nodB me = true := by
      unfold stE at hs
      split at hs
      · assumption
      · omega
    have hn' : 0 ≤ me ∧ me < 7 := by simp [nodB] at hn; exact hn
    refine ⟨fun g hg => ?_, by omega, fun _ => ⟨rfl, hn'.1⟩⟩
    obtain ⟨k1, k2, k3⟩ := h g hg
    exact ⟨k1, by omega, fun hh => by omega⟩
  · rw [if_neg hs, if_neg hs]
    exact ⟨h, by omega, fun hb => by simp at hb; exact absurd hb hs⟩
end Go.Proofs.Ytbfkacahaocpfaa
