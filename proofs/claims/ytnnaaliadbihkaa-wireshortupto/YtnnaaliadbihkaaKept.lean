/- The items that were written and kept, and that they are read again. -/
import Derived.Test.YtnnaaliadbihkaaRdKeep
import Derived.Test.YtnnaaliadbihkaaWStep
namespace Go.Proofs.Ytnnaaliadbihkaa
open Go.RowKit

def okIt (x : It) : Bool := if x.2.1 = 0 then decide (x.2.2.size ≤ 65535) else fitB x.1 x.2.1
def kept (its : List It) : List It := its.filter okIt
def itsCells (its : List It) : List Value := its.flatMap itCells
theorem itsCells_length (its : List It) : (itsCells its).length = its.length * 3 := by
  induction its with
  | nil => rfl
  | cons x l ih =>
    have e : itsCells (x :: l) = itCells x ++ itsCells l := rfl
    rw [e, List.length_append, ih]
    simp [itCells]; omega
theorem itsCells_snoc (its : List It) (x : It) : itsCells (its ++ [x]) = itsCells its ++ itCells x := by simp [itsCells]
theorem itsCells_get (its : List It) (j t : Nat) (hj : j < its.length) (ht : t < 3) : (itsCells its)[j * 3 + t]? = (itCells (its.getD j itD))[t]? := by
  induction its generalizing j with
  | nil => simp at hj
  | cons x l ih =>
    have e : itsCells (x :: l) = itCells x ++ itsCells l := rfl
    have h3 : (itCells x).length = 3 := rfl
    rw [e]
    cases j with
    | zero => rw [List.getElem?_append_left (by rw [h3]; omega)]; simp
    | succ j =>
      rw [List.getElem?_append_right (by rw [h3]; omega), h3]
      have e2 : (j + 1) * 3 + t - 3 = j * 3 + t := by omega
      rw [e2, ih j (by simpa using hj)]; simp
theorem outIt_bad {x : It} (h : okIt x = false) : outIt x = [] := by
  unfold okIt at h
  unfold outIt
  split at h
  · rename_i h0
    rw [if_pos h0, if_neg (by simpa using h)]
  · rename_i h0
    rw [if_neg h0, if_neg (by simp [h])]
theorem outs_kept (its : List It) : outs (kept its) = outs its := by
  induction its with
  | nil => rfl
  | cons x l ih =>
    have e1 : outs (x :: l) = outIt x ++ outs l := rfl
    cases h : okIt x
    · have e2 : kept (x :: l) = kept l := by simp [kept, h]
      rw [e2, ih, e1, outIt_bad h, List.nil_append]
    · have e2 : kept (x :: l) = x :: kept l := by simp [kept, h]
      have e3 : outs (x :: kept l) = outIt x ++ outs (kept l) := rfl
      rw [e2, e3, ih, e1]
theorem kept_yes (its : List It) (k : Nat) (hk : k < its.length) (h : okIt (its.getD k itD) = true) : kept (its.take (k + 1)) = kept (its.take k) ++ [its.getD k itD] := by
  rw [itake_snoc its k hk]; simp only [kept, List.filter_append, List.filter_cons, h, if_true, List.filter_nil]
theorem kept_no (its : List It) (k : Nat) (hk : k < its.length) (h : okIt (its.getD k itD) = false) : kept (its.take (k + 1)) = kept (its.take k) := by
  rw [itake_snoc its k hk]; simp only [kept, List.filter_append, List.filter_cons, h, Bool.false_eq_true, if_false, List.filter_nil, List.append_nil]
theorem kept_ok (its : List It) (j : Nat) (hj : j < (kept its).length) : okIt ((kept its).getD j itD) = true := by
  have h : (kept its).getD j itD ∈ kept its := by
    rw [List.getD_eq_getElem?_getD, List.getElem?_eq_getElem hj]; exact List.getElem_mem hj
  exact (List.mem_filter.mp h).2
theorem kept_len (its : List It) : (kept its).length ≤ its.length := List.length_filter_le _ _

/-- Numbers' bytes tell the numbers. -/
theorem val_le (k n : Nat) : val (le k n) = n % 256 ^ k := by
  induction k with
  | zero => simp [le, val, Nat.mod_one]
  | succ k ih =>
    simp only [le]
    rw [val_snoc, ih, le_length, Nat.pow_succ, Nat.mod_mul, Nat.mul_comm (n / 256 ^ k % 256)]
theorem textS_back (s : ByteArray) (hs : s.size ≤ 65535) (rest : List Nat) : textS (le 2 s.size ++ bsOf s ++ rest, 0) 65535 = (bsOf s, 0, (rest, 0)) := by
  have h2 : (le 2 s.size).length = 2 := le_length 2 _
  have ht : (le 2 s.size ++ bsOf s ++ rest).take 2 = le 2 s.size := by rw [List.append_assoc, List.take_append_of_le_length (by omega), List.take_of_length_le (by omega)]
  have hv : val (le 2 s.size) = s.size := by rw [val_le]; omega
  have hl : (le 2 s.size ++ bsOf s ++ rest).length = 2 + s.size + rest.length := by simp [le_length, bsOf_length]; omega
  have hd : (le 2 s.size ++ bsOf s ++ rest).drop 2 = bsOf s ++ rest := by rw [List.append_assoc, List.drop_append_of_le_length (by omega), List.drop_of_length_le (by omega), List.nil_append]
  unfold textS
  simp only [ht, hv, hl, hd]
  rw [if_neg (by omega), if_neg (by simp), if_neg (by omega), if_neg (by omega), if_neg (by omega)]
  have e1 : (bsOf s ++ rest).take s.size = bsOf s := by rw [← bsOf_length s]; exact List.take_left
  have e2 : (le 2 s.size ++ bsOf s ++ rest).drop (2 + s.size) = rest := by
    rw [← List.drop_drop, hd, ← bsOf_length s]; exact List.drop_left
  rw [e1, e2]
theorem fit_lt {nn ss : Nat} (h : fitB (nn : Int) (ss : Int) = true) (hb : (nn : Int) ≤ 9223372036854775807) : nn % 256 ^ ss = nn := by
  have h1 := of_decide_eq_true h
  apply Nat.mod_eq_of_lt
  rcases h1.2 with ⟨h2, h3⟩ | ⟨h2, h3⟩ | ⟨h2, h3⟩ | h2
  · have : ss = 1 := by omega
    subst this; omega
  · have : ss = 2 := by omega
    subst this; omega
  · have : ss = 4 := by omega
    subst this; omega
  · have : ss = 8 := by omega
    subst this; omega
theorem numS_back (nn ss : Nat) (h : fitB (nn : Int) (ss : Int) = true) (hb : (nn : Int) ≤ 9223372036854775807) (rest : List Nat) : numS (le ss nn ++ rest, 0) (ss : Int) = ((nn : Int), 0, (rest, 0)) := by
  have h2 : (le ss nn).length = ss := le_length ss _
  have ht : (le ss nn ++ rest).take ss = le ss nn := by rw [List.take_append_of_le_length (by omega), List.take_of_length_le (by omega)]
  have hd : (le ss nn ++ rest).drop ss = rest := by rw [List.drop_append_of_le_length (by omega), List.drop_of_length_le (by omega), List.nil_append]
  have hv : val (le ss nn) = nn := by rw [val_le]; exact fit_lt h hb
  have hl : (le ss nn ++ rest).length = ss + rest.length := by simp [le_length]
  unfold numS
  simp only [Int.toNat_natCast, ht, hv, hl, hd]
  rw [if_neg (not_not_intro (fitB_sized h)), if_neg (by simp), if_neg (by omega), if_neg (by omega)]

/-- What is owned stays owned. -/
theorem owns_fr {S : Nat → Prop} {w w' : World} {base e sz n : Nat} {v : Value} {xs : List Value} (h : w.ownsRow base e sz v n xs) (f : Fr S w w') (hn : ∀ k, v.ownBlock = some k → ¬ S k) : w'.ownsRow base e sz v n xs := by
  obtain ⟨h1, h2⟩ := h
  refine ⟨h1, ?_⟩
  rcases h2 with h2 | ⟨g, cap, cur, hv, hg, hh, r⟩
  · exact .inl h2
  · refine .inr ⟨g, cap, cur, hv, hg, ?_, r⟩
    rw [f.block g (lt_of_block hh) (hn g (by rw [hv]; rfl))]
    exact hh
theorem row_kept {w wr W0 w2 w3 : World} {vw want : Value} {e sz n : Nat} {xs : List Value} (hown : wr.ownsRow (w.heap.size + 1) e sz want n xs) (hdis : ∀ j, want.ownBlock = some j → vw.ownBlock ≠ some j)
    (f0 : Fr (fun _ => False) wr W0) (hf2 : Fr (wrS w.heap.size vw) W0 w2) (f23 : Fr (fun _ => False) w2 w3) : w3.ownsRow (w.heap.size + 1) e sz want n xs := by
  refine owns_fr (owns_fr (owns_fr hown f0 (fun _ _ f => f)) hf2 (fun k hk hs => ?_)) f23 (fun _ _ f => f)
  rcases hs with h | h
  · have := (hown.lt k hk).1; omega
  · exact hdis k hk h
theorem rk_step {w wr W0 w2 w3 w4 : World} {vw vw' want want' : Value} {M M' : List Nat} {e sz n : Nat} {xs : List Value} (hf : Fr (fun _ => False) w wr) (f0 : Fr (fun _ => False) wr W0) (hwr : Wr wr (w.heap.size + 1) w.heap.size vw M) (hown : wr.ownsRow (w.heap.size + 1) e sz want n xs)
    (hdis : ∀ j, want.ownBlock = some j → vw.ownBlock ≠ some j) (hw2 : Wr w2 (w.heap.size + 1) w.heap.size vw' M') (hf2 : Fr (wrS w.heap.size vw) W0 w2) (hv2 : vw'.ownBlock = vw.ownBlock ∨ ∃ g, vw'.ownBlock = some g ∧ W0.heap.size ≤ g)
    (f23 : Fr (fun _ => False) w2 w3) (hg : w3.grownBy w4 want.ownBlock) (hat : want'.ownBlock = want.ownBlock ∨ want'.ownBlock = some w3.heap.size) :
    Wr w4 (w.heap.size + 1) w.heap.size vw' M' ∧ (∀ j, want'.ownBlock = some j → vw'.ownBlock ≠ some j) ∧ Fr (fun _ => False) w w4 := by
  have z0 := f0.size
  have z2 := hf2.size
  have z3 := f23.size
  have hd2 : ∀ j, want.ownBlock = some j → vw'.ownBlock ≠ some j := by
    intro j hj e
    rcases hv2 with h | ⟨g, h, hge⟩
    · exact hdis j hj (by rw [← h]; exact e)
    · rw [h] at e
      simp at e
      have := (hown.lt j hj).2
      omega
  have fg : Fr (fun k => want.ownBlock = some k) w3 w4 := (Fr.refl _ w3).grown hg (fun k e _ => e)
  refine ⟨(hw2.fr f23 (fun f => f) (fun _ _ f => f)).fr fg (fun e => by have := (hown.lt _ e).1; omega) (fun k hk e => hd2 k e hk), ?_, ?_⟩
  · intro j hj e
    rcases hat with h | h
    · exact hd2 j (by rw [← h]; exact hj) e
    · rw [h] at hj
      simp at hj
      have := (hw2.own.lt j e).2
      omega
  · have fa : Fr (fun _ => False) w W0 := hf.false_trans f0
    have fb : Fr (fun _ => False) w w2 := fa.above hf2 (fun i hi => hwr.ge hi)
    exact (fb.false_trans f23).above fg (fun i hi => by have := (hown.lt i hi).1; omega)
theorem info27 : (Try.prog.info? 27).map (fun i => (i.zero, i.size, i.bytes)) = some (some (.agg #[.int .i64 0, .int .i64 0, .string ⟨#[]⟩]), 3, 32) := by kernel_rfl
end Go.Proofs.Ytnnaaliadbihkaa
