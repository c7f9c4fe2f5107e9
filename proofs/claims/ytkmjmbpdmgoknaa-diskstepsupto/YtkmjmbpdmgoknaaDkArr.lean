
/- An array of four texts beside a disk. -/
import Derived.Test.YtkmjmbpdmgoknaaDkTwo
namespace Go.Proofs.Ytkmjmbpdmgoknaa
open Go.RowKit

def tc (s : ByteArray) : List Value := [.string s]
theorem tc_length (s : ByteArray) : (tc s).length = 1 := rfl
/-- An array at block lb of the texts T, which a disk does not write. -/
structure Arr (w : World) (db : Nat) (lv wv : Value) (lb : Nat) (T : List ByteArray) : Prop where
  has : Has w 1 (.slice (some ⟨lb, 0, none⟩) 4 4) 4 (T.flatMap tc)
  far : ¬ dkS db lv wv lb
theorem Arr.len {w : World} {db : Nat} {lv wv : Value} {lb : Nat} {T : List ByteArray} (h : Arr w db lv wv lb T) : T.length = 4 := by
  have := h.has.1
  rw [flat_length tc_length] at this; omega
theorem Arr.lt {w : World} {db : Nat} {lv wv : Value} {lb : Nat} {T : List ByteArray} (h : Arr w db lv wv lb T) : lb < w.heap.size := h.has.lt rfl
theorem Arr.same {w w' : World} {db : Nat} {lv wv : Value} {lb : Nat} {T : List ByteArray} (h : Arr w db lv wv lb T) (f : Fr (fun _ => False) w w') : Arr w' db lv wv lb T := ⟨h.has.fr f (fun _ _ f => f), h.far⟩
theorem Arr.go {w w' : World} {db : Nat} {lv wv wv' : Value} {lb : Nat} {T : List ByteArray} (h : Arr w db lv wv lb T) (f : Fr (dkS db lv wv) w w') (o : Ow w db lv wv wv') : Arr w' db lv wv' lb T :=
  ⟨h.has.fr f (fun k hk e => by simp [Value.ownBlock] at hk; subst hk; exact h.far e), fun e => by
    rcases o lb e with e2 | e2
    · exact h.far e2
    · have := h.lt; omega⟩
theorem Arr.at_ {w : World} {db : Nat} {lv wv : Value} {lb : Nat} {T : List ByteArray} (h : Arr w db lv wv lb T) {i : Nat} (hi : i < 4) {s : ByteArray} (hs : T[i]? = some s) : w.cell? ⟨lb, i, none⟩ = some (.string s) ∧ w.frozen? ⟨lb, i, none⟩ = false ∧
    ∀ t, Arr (w.setCell ⟨lb, i, none⟩ (.string t)) db lv wv lb (T.set i t) := by
  have hl := h.len
  obtain ⟨g, cap, hv, _, _, _, hth, _⟩ := h.has.form (by omega)
  simp only [Value.slice.injEq, Option.some.injEq, Addr.mk.injEq, and_true, true_and] at hv
  obtain ⟨rfl, rfl⟩ := hv
  have h1 := (h.has.elem tc_length hs) 0 (.string s) rfl
  have h2 := (hth i (by omega)).2
  rw [Nat.mul_one, Nat.add_zero] at h1
  rw [Nat.zero_add] at h2
  refine ⟨h1, h2, fun t => ⟨?_, h.far⟩⟩
  have := h.has.put tc_length (i := i) (by omega) t
  rw [Nat.mul_one] at this
  exact this
/-- What is seen, as texts. -/
def shown (L : List Sec) (Q : List (Nat × Sec)) : List ByteArray := (List.range 4).map (fun i => strOf (seen L Q i).1)
theorem shown_get (L : List Sec) (Q : List (Nat × Sec)) (i : Nat) (hi : i < 4) : (shown L Q)[i]? = some (strOf (seen L Q i).1) := by simp [shown, hi]
theorem shown_snoc (L : List Sec) (Q : List (Nat × Sec)) (a : Nat) (s : Sec) : (shown L Q).set a (strOf s.1) = shown L (Q ++ [(a, s)]) := by
  apply List.ext_getElem?
  intro i
  by_cases hi : i < 4
  · rw [shown_get _ _ i hi, seen_snoc]
    by_cases ha : a = i
    · subst ha
      rw [if_pos rfl, List.getElem?_set_self (by simp [shown, hi])]
    · rw [if_neg ha, List.getElem?_set_ne ha, shown_get _ _ i hi]
  · rw [List.getElem?_eq_none (by simp [shown]; omega), List.getElem?_eq_none (by simp [shown]; omega)]
theorem doAll_seen (L : List Sec) (Q : List (Nat × Sec)) (i : Nat) (hi : i < L.length) : (doAll L Q).getD i zeroSec = seen L Q i := by
  rw [← List.reverse_reverse Q]
  generalize Q.reverse = R
  induction R with
  | nil => rfl
  | cons q R ih =>
    rw [List.reverse_cons, doAll_snoc, seen_snoc, List.getD_eq_getElem?_getD]
    by_cases h : q.1 = i
    · rw [if_pos h, h, List.getElem?_set_self (by rw [doAll_length]; exact hi)]; rfl
    · rw [if_neg h, List.getElem?_set_ne h, ← ih, List.getD_eq_getElem?_getD]
theorem crashed_all (L : List Sec) (Q : List (Nat × Sec)) (t : Nat) : crashed L Q Q.length t = doAll L Q := by
  unfold crashed
  rw [List.getElem?_eq_none (Nat.le_refl _), List.take_length]
theorem crashed_length' (L : List Sec) (Q : List (Nat × Sec)) (k t : Nat) : (crashed L Q k t).length = L.length := by
  unfold crashed
  split
  · exact doAll_length _ _
  · rw [List.length_set]; exact doAll_length _ _
/-- Bytes laid over noughts. -/
def over (l : List Nat) (j : Nat) : List Nat := l.take j ++ List.replicate (256 - j) 0
theorem over_length (l : List Nat) (j : Nat) (hj : j ≤ l.length) (hl : l.length ≤ 256) : (over l j).length = 256 := by simp [over]; omega
theorem over_next (l : List Nat) (j : Nat) (hj : j < l.length) (hl : l.length ≤ 256) : (over l j).set j (l.getD j 0) = over l (j + 1) := by
  unfold over
  rw [take_snoc l j hj, List.set_append_right _ _ (by simp; omega), show 256 - j = (256 - (j + 1)) + 1 by omega, List.replicate_succ, List.length_take, Nat.min_eq_left (by omega), Nat.sub_self, List.set_cons_zero, List.append_assoc]; rfl
theorem over_all (l : List Nat) (hl : l.length ≤ 256) (ho : octs l) : over l l.length = (padS l).1 := by
  unfold padS
  rw [dif_pos ⟨hl, ho⟩]
  simp [over, padSec]
theorem over_octs (l : List Nat) (j : Nat) (ho : octs l) : octs (over l j) := octs_app (octs_take ho j) (fun x hx => by obtain ⟨_, rfl⟩ := List.mem_replicate.1 hx; omega)
end Go.Proofs.Ytkmjmbpdmgoknaa
