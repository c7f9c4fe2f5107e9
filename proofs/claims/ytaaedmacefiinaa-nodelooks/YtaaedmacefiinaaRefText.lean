
/- What the document's own Text makes; what a list of items is written as. -/
import Derived.Test.YtaaedmacefiinaaNilRef
import Derived.Test.YtaaedmacefiinaaItems
namespace Go.Proofs.Ytaaedmacefiinaa
open Go.RowKit

set_option maxRecDepth 100000 in
set_option maxHeartbeats 1000000 in
theorem refText_any (s : ByteArray) (hs : s.size ≤ 65535) (w : World) :
    Calls Try.prog 43 #[.string s] w fun e w' => ∃ v', e = .returned v' ∧ Made w w' v' (le 2 s.size ++ bsOf s) := by
  obtain ⟨i0, hi, hz0, hz1, hz2⟩ := info_parts info8
  have hs' : (s.size : Int) ≤ 65535 := by omega
  go_enter Try.func43, Try.ntmps43
  go_wp2_with fail
  refine (refNum_any s.size 2 (by omega) (by omega) _).mono ?_
  rintro e w1 ⟨v1, rfl, m1⟩
  have hll := le_length 2 s.size
  have z1 := m1.fr.size
  obtain ⟨a1, c1, hv1⟩ := m1.own.slice
  rw [hll] at hv1
  rw [hv1] at m1 ⊢
  have mo := m1.own
  clear hv1
  go_wp2_with (at_builtin; refine wpList_append_str _ rfl _ _ 26 9 rfl i0 Try.underlying26 Try.underlying9 hi hz0 hz1 hz2 w.heap.size (.slice a1 2 c1) (le 2 s.size) rfl mo s rfl (by omega) z1 ?_; intro a2 c2 w2 hown2 hgrow2 hat2)
  go_ret
  exact ⟨_, rfl, hown2, m1.fr.fresh hgrow2 (fun k e => (mo.lt k e).1)⟩

/-- What an item is written as. -/
def outIt (x : It) : List Nat :=
  if x.2.1 = 0 then (if x.2.2.size ≤ 65535 then le 2 x.2.2.size ++ bsOf x.2.2 else []) else (if fitB x.1 x.2.1 = true then le x.2.1.toNat x.1.toNat else [])
def outs (its : List It) : List Nat := its.flatMap outIt
def wt (its : List It) : Nat := (its.map fun (x : It) => x.2.2.size + 4).sum

theorem outIt_len (x : It) : (outIt x).length ≤ 2 * (x.2.2.size + 4) := by
  unfold outIt
  split
  · split
    · simp [le_length, bsOf_length]; omega
    · simp
  · split
    · rename_i h
      have := fitB_sized h
      rw [le_length]; omega
    · simp
theorem outs_len (its : List It) : (outs its).length ≤ 2 * wt its := by
  induction its with
  | nil => simp [outs, wt]
  | cons x l ih =>
    have h1 := outIt_len x
    have e1 : outs (x :: l) = outIt x ++ outs l := rfl
    have e2 : wt (x :: l) = (x.2.2.size + 4) + wt l := by simp [wt]
    rw [e1, e2, List.length_append]; omega
theorem wt_take (its : List It) (k : Nat) : wt (its.take k) ≤ wt its := by
  induction its generalizing k with
  | nil => simp [wt]
  | cons x l ih =>
    cases k with
    | zero => simp [wt]
    | succ k =>
      have e1 : wt ((x :: l).take (k + 1)) = (x.2.2.size + 4) + wt (l.take k) := by simp [wt]
      have e2 : wt (x :: l) = (x.2.2.size + 4) + wt l := by simp [wt]
      have := ih k
      rw [e1, e2]; omega
theorem itake_snoc (l : List It) (k : Nat) (h : k < l.length) : l.take (k + 1) = l.take k ++ [l.getD k itD] := by
  rw [List.take_succ_eq_append_getElem h, List.getD_eq_getElem?_getD, List.getElem?_eq_getElem h]; rfl
theorem outs_succ (its : List It) (k : Nat) (h : k < its.length) : outs (its.take (k + 1)) = outs (its.take k) ++ outIt (its.getD k itD) := by
  rw [itake_snoc its k h]; simp [outs, List.flatMap_append]
theorem outIt_octs (x : It) : octs (outIt x) := by
  unfold outIt
  split
  · split
    · exact octs_app (le_octs _ _) (bsOf_octs _)
    · intro y hy; cases hy
  · split
    · exact le_octs _ _
    · intro y hy; cases hy
theorem outs_octs (its : List It) : octs (outs its) := by
  intro y hy
  simp only [outs, List.mem_flatMap] at hy
  obtain ⟨x, _, hx⟩ := hy
  exact outIt_octs x y hx
/-- What an item's text weighs. -/
theorem wt_part (its : List It) (k : Nat) (h : k < its.length) : wt (its.take k) + ((its.getD k itD).2.2.size + 4) ≤ wt its := by
  have h1 := wt_take its (k + 1)
  rw [itake_snoc its k h] at h1
  simp only [wt, List.map_append, List.map_cons, List.map_nil, List.sum_append, List.sum_cons, List.sum_nil] at h1 ⊢
  omega
end Go.Proofs.Ytaaedmacefiinaa
