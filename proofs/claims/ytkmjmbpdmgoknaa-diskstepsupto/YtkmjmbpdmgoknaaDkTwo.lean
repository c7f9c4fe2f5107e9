
/- Two disks side by side; the writes that a list of steps makes. -/
import Derived.Test.YtkmjmbpdmgoknaaDkAll
import Derived.Test.YtkmjmbpdmgoknaaSteps
namespace Go.Proofs.Ytkmjmbpdmgoknaa
open Go.RowKit

theorem Ow.ofStep {W : World} {db : Nat} {lv wv wv' : Value} (o : wv'.ownBlock = wv.ownBlock ∨ ∃ g, wv'.ownBlock = some g ∧ W.heap.size ≤ g) : Ow W db lv wv wv' := fun _ hk => dkS_step o hk
/-- Two disks that share nothing. -/
structure Two (w0 w : World) (db : Nat) (lv wv : Value) (L : List Sec) (Q : List (Nat × Sec)) (xb : Nat) (lx wx : Value) (M : List Sec) (R : List (Nat × Sec)) : Prop where
  d : DkA w0 w db lv wv L Q
  x : DkA w0 w xb lx wx M R
  apart : ∀ k, dkS db lv wv k → ¬ dkS xb lx wx k
section
variable {w0 w w' : World} {db : Nat} {lv wv wv' : Value} {L L' : List Sec} {Q Q' : List (Nat × Sec)} {xb : Nat} {lx wx : Value} {M M' : List Sec} {R R' : List (Nat × Sec)}
theorem Two.same (h : Two w0 w db lv wv L Q xb lx wx M R) (f : Fr (fun _ => False) w w') : Two w0 w' db lv wv L Q xb lx wx M R := ⟨h.d.same f, h.x.same f, h.apart⟩
theorem Two.swap (h : Two w0 w db lv wv L Q xb lx wx M R) : Two w0 w xb lx wx M R db lv wv L Q := ⟨h.x, h.d, fun k hk e => h.apart k e hk⟩
theorem Two.go (h : Two w0 w db lv wv L Q xb lx wx M R) (n : Dk w' db lv wv' L' Q') (f : Fr (dkS db lv wv) w w') (o : Ow w db lv wv wv') : Two w0 w' db lv wv' L' Q' xb lx wx M R := by
  refine ⟨h.d.go n f o, ⟨h.x.dk.framed f (fun k hk e => h.apart k e hk), h.x.low, (h.d.go n f o).fr⟩, fun k hk e => ?_⟩
  rcases o k hk with e2 | e2
  · exact h.apart k e2 e
  · have := h.x.dk.lt e; omega
end
/-- The write that a step makes. -/
def acc (m : Nat) (s : St) : List (Nat × Sec) := if s.a < 0 ∨ (m : Int) ≤ s.a then [] else if 256 < s.l.length then [] else [(s.a.toNat, padS s.l)]
def qs (m : Nat) (ss : List St) : List (Nat × Sec) := ss.flatMap (acc m)
theorem acc_le (m : Nat) (s : St) : (acc m s).length ≤ 1 := by
  unfold acc
  split
  · simp
  · split <;> simp
theorem wrS_acc (L : List Sec) (Q : List (Nat × Sec)) (s : St) : (wrS L Q s.a s.l).2 = Q ++ acc L.length s ∧ ((wrS L Q s.a s.l).1 = 0 ∧ (acc L.length s).length = 1 ∨ ((wrS L Q s.a s.l).1 == 0) = false ∧ acc L.length s = []) := by
  unfold wrS acc
  split
  · simp
  · split
    · simp
    · simp
theorem qs_snoc (m : Nat) {ss : List St} {k : Nat} {s : St} (h : ss[k]? = some s) : qs m (ss.take (k + 1)) = qs m (ss.take k) ++ acc m s := by
  rw [take_next h]; simp [qs]
theorem qs_len (m : Nat) (ss : List St) (k : Nat) : (qs m (ss.take k)).length ≤ k := by
  induction k with
  | zero => simp [qs]
  | succ k ih =>
    by_cases hk : k < ss.length
    · rw [qs_snoc m (List.getElem?_eq_getElem hk), List.length_append]
      have := acc_le m ss[k]
      omega
    · rw [List.take_of_length_le (by omega), ← List.take_of_length_le (l := ss) (i := k) (by omega)]; omega
theorem tear_zero (s t : Sec) : tear s t 0 = s := by
  apply Subtype.ext
  simp [tear]
theorem crashed_zero (L : List Sec) (Q : List (Nat × Sec)) (k : Nat) : crashed L Q k 0 = doAll L (Q.take k) := by
  unfold crashed
  split
  · rfl
  · rename_i q hq
    rw [tear_zero]
    generalize doAll L (Q.take k) = M
    by_cases h : q.1 < M.length
    · rw [List.getD_eq_getElem?_getD, List.getElem?_eq_getElem h]; exact List.set_getElem_self h
    · rw [List.set_eq_of_length_le (by omega)]
end Go.Proofs.Ytkmjmbpdmgoknaa
