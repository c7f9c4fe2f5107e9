
/- Nodes and pages, read back. -/
import Derived.Test.YtaaedmacefiinaaPgBack2
namespace Go.Proofs.Ytaaedmacefiinaa
open Go.RowKit Crcm

theorem entL_flag (leaf : Bool) (c : Nat) : ∀ x : Nd × RF, (entL leaf c x).2.2 = false → x.2.2 = false := by
  induction c with
  | zero => intro x h; exact h
  | succ c ih =>
    rintro ⟨n, s⟩ h
    cases leaf
    · rw [entU_inner] at h
      by_cases hc : (numF (textF s 16).2 4).2.2 = true
      · rw [if_pos hc] at h; rw [hc] at h; cases h
      · exact flag_text (flag_num (by simpa using hc))
    · rw [entU_leaf] at h
      by_cases hc : (textF (textF s 16).2 32).2.2 = true
      · rw [if_pos hc] at h; rw [hc] at h; cases h
      · exact flag_text (flag_text (by simpa using hc))
theorem octs_right {a b l : List Nat} (h : octs l) (e : l = a ++ b) : octs b := fun x hx => h x (by rw [e]; exact List.mem_append_right _ hx)

theorem nodeF_eq (s : RF) {y1 y2 y3 y4 : Int × RF} {y5 : ByteArray × RF} (h1 : numF s 1 = y1) (h2 : numF y1.2 8 = y2) (h3 : numF y2.2 4 = y3) (h4 : numF y3.2 2 = y4) (h5 : textF y4.2 16 = y5) :
    nodeF s = if y1.1 = 0 then entL true y4.1.toNat (⟨y1.1, y2.1, y3.1, y5.1, [], [], []⟩, y5.2) else entL false y4.1.toNat (⟨y1.1, y2.1, y3.1, y5.1, [], [], [(numF y5.2 4).1]⟩, (numF y5.2 4).2) := by
  subst h1; subst h2; subst h3; subst h4; subst h5; rfl
theorem node_ok (l : List Nat) (ho : octs l) (h : (nodeF (st l)).2.2 = false) : ∃ m r, nodeF (st l) = (m, st r) ∧ l = nb m ++ r := by
  obtain ⟨y1, h1⟩ : ∃ y, numF (st l) 1 = y := ⟨_, rfl⟩
  obtain ⟨y2, h2⟩ : ∃ y, numF y1.2 8 = y := ⟨_, rfl⟩
  obtain ⟨y3, h3⟩ : ∃ y, numF y2.2 4 = y := ⟨_, rfl⟩
  obtain ⟨y4, h4⟩ : ∃ y, numF y3.2 2 = y := ⟨_, rfl⟩
  obtain ⟨y5, h5⟩ : ∃ y, textF y4.2 16 = y := ⟨_, rfl⟩
  have hn := nodeF_eq (st l) h1 h2 h3 h4 h5
  have g5 : y5.2.2 = false := by
    rw [hn] at h
    by_cases h0 : y1.1 = 0
    · rw [if_pos h0] at h; exact entL_flag _ _ _ h
    · rw [if_neg h0] at h; exact flag_num (entL_flag _ _ _ h)
  have g4 : y4.2.2 = false := flag_text (by rw [h5]; exact g5)
  have g3 : y3.2.2 = false := flag_num (by rw [h4]; exact g4)
  have g2 : y2.2.2 = false := flag_num (by rw [h3]; exact g3)
  have g1 : y1.2.2 = false := flag_num (by rw [h2]; exact g2)
  obtain ⟨v1, l1, e1, q1, _, _⟩ := numF_ok l ho 1 (by omega) (by rw [show ((1 : Nat) : Int) = 1 from rfl, h1]; exact g1)
  rw [show ((1 : Nat) : Int) = 1 from rfl, h1] at q1
  subst q1
  have o1 := octs_right ho e1
  obtain ⟨v2, l2, e2, q2, _, _⟩ := numF_ok l1 o1 8 (by omega) (by rw [show ((8 : Nat) : Int) = 8 from rfl, h2]; exact g2)
  rw [show ((8 : Nat) : Int) = 8 from rfl, h2] at q2
  subst q2
  have o2 := octs_right o1 e2
  obtain ⟨v3, l3, e3, q3, _, _⟩ := numF_ok l2 o2 4 (by omega) (by rw [show ((4 : Nat) : Int) = 4 from rfl, h3]; exact g3)
  rw [show ((4 : Nat) : Int) = 4 from rfl, h3] at q3
  subst q3
  have o3 := octs_right o2 e3
  obtain ⟨v4, l4, e4, q4, _, _⟩ := numF_ok l3 o3 2 (by omega) (by rw [show ((2 : Nat) : Int) = 2 from rfl, h4]; exact g4)
  rw [show ((2 : Nat) : Int) = 2 from rfl, h4] at q4
  subst q4
  have o4 := octs_right o3 e4
  obtain ⟨hi, l5, e5, q5, _⟩ := textF_ok l4 o4 16 (by omega) (by rw [show ((16 : Nat) : Int) = 16 from rfl, h5]; exact g5)
  rw [show ((16 : Nat) : Int) = 16 from rfl, h5] at q5
  subst q5
  have o5 := octs_right o4 e5
  simp only [Int.toNat_natCast] at hn
  rw [hn] at h ⊢
  by_cases h0 : (v1 : Int) = 0
  · rw [if_pos h0] at h ⊢
    obtain ⟨K, V, r, e, hK, hV, hr⟩ := leaf_ok v4 ⟨v1, v2, v3, hi, [], [], []⟩ l5 o5 h0 rfl h
    refine ⟨_, r, e, ?_⟩
    unfold nb hd
    rw [if_pos h0, ens_all]
    simp only [upL, List.nil_append, hK, Int.toNat_natCast, List.append_nil]
    simp only [upL, List.nil_append, List.length_nil] at hr
    rw [e1, e2, e3, e4, e5]
    conv => lhs; rw [hr]
    simp only [List.append_assoc]
  · rw [if_neg h0] at h ⊢
    have g6 := entL_flag _ _ _ h
    obtain ⟨v6, l6, e6, q6, _, _⟩ := numF_ok l5 o5 4 (by omega) g6
    rw [show ((4 : Nat) : Int) = 4 from rfl] at q6
    simp only [q6] at h ⊢
    have o6 := octs_right o5 e6
    obtain ⟨K, I, r, e, hK, hI, hr⟩ := inner_ok v4 ⟨v1, v2, v3, hi, [], [], [(v6 : Int)]⟩ l6 o6 h0 rfl h
    refine ⟨_, r, e, ?_⟩
    unfold nb hd
    rw [if_neg h0, ens_all]
    simp only [upI, List.nil_append, hK, Int.toNat_natCast, List.cons_append, List.getD_cons_zero]
    simp only [upI, List.nil_append, List.length_nil, List.cons_append] at hr
    rw [e1, e2, e3, e4, e5, e6]
    conv => lhs; rw [hr]
    simp only [List.append_assoc]
end Go.Proofs.Ytaaedmacefiinaa
