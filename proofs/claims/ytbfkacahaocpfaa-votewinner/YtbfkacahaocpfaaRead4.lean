
/- What the reader's calls tell, each in one form: by a plain function of what is left and the reader's error. -/
import Derived.Test.YtbfkacahaocpfaaRead3
namespace Go.Proofs.Ytbfkacahaocpfaa
open Go.RowKit

/-- A reader's state: what is left, and its error. -/
abbrev RS : Type := List Nat × Int
def sizedP (s : Int) : Prop := s = 1 ∨ s = 2 ∨ s = 4 ∨ s = 8
/-- Num: the number, what is told, the state behind. -/
def numS (st : RS) (size : Int) : Int × Int × RS :=
  if ¬ (size = 1 ∨ size = 2 ∨ size = 4 ∨ size = 8) then (0, 1, st)
  else if ¬ st.2 = 0 then (0, st.2, st)
  else if (st.1.length : Int) < size then (0, 10, (st.1, 10))
  else if 9223372036854775808 ≤ val (st.1.take size.toNat) then (0, 1, (st.1, 1))
  else ((val (st.1.take size.toNat) : Int), 0, (st.1.drop size.toNat, 0))
/-- Text: the text's bytes, what is told, the state behind. -/
def textS (st : RS) (most : Int) : List Nat × Int × RS :=
  if most < 0 then ([], 1, st)
  else if ¬ st.2 = 0 then ([], st.2, st)
  else if st.1.length < 2 then ([], 10, (st.1, 10))
  else if st.1.length < 2 + val (st.1.take 2) then ([], 10, (st.1, 10))
  else if most < val (st.1.take 2) then ([], 2, (st.1, 2))
  else ((st.1.drop 2).take (val (st.1.take 2)), 0, (st.1.drop (2 + val (st.1.take 2)), 0))

/-- Where a reader's bytes lie behind a call: where they lay, or nowhere. -/
def Near (a a' : Option Addr) : Prop := ∀ b off sp, a' = some ⟨b, off, sp⟩ → ∃ o s, a = some ⟨b, o, s⟩
theorem Near.refl (a : Option Addr) : Near a a := fun _ off sp e => ⟨off, sp, e⟩

theorem rnum_all (size : Int) (rb : Nat) (a : Option Addr) (cap : Nat) (st : RS) (w : World) (h : Rd w rb a cap st.1 st.2) :
    Calls Try.prog 49 #[.pointer (some ⟨rb, 0, none⟩), .int .i64 size] w fun e w' => e = .returned (.tuple #[.int .i64 (numS st size).1, .int .i64 (numS st size).2.1]) ∧
      ∃ a' c', Rd w' rb a' c' (numS st size).2.2.1 (numS st size).2.2.2 ∧ Fr (fun k => k = rb) w w' ∧ Near a a' := by
  obtain ⟨l, err⟩ := st
  by_cases hs : size = 1 ∨ size = 2 ∨ size = 4 ∨ size = 8
  · obtain ⟨sz, rfl⟩ := Int.eq_ofNat_of_zero_le (a := size) (by omega)
    by_cases he : err = 0
    · subst he
      by_cases hlt : l.length < sz
      · have e : numS (l, 0) sz = (0, 10, (l, 10)) := by unfold numS; rw [if_neg (not_not_intro hs), if_neg (by simp), if_pos (by simpa using hlt)]
        rw [e]
        refine (rnum_cut sz hs rb a cap l hlt w h).mono ?_
        rintro e w' ⟨rfl, hrd, hf⟩
        exact ⟨rfl, a, cap, hrd, hf, Near.refl a⟩
      · by_cases hv : 9223372036854775808 ≤ val (l.take sz)
        · have e : numS (l, 0) sz = (0, 1, (l, 1)) := by unfold numS; rw [if_neg (not_not_intro hs), if_neg (by simp), if_neg (by simpa using hlt), if_pos (by simpa using hv)]
          rw [e]
          refine (rnum_big sz hs rb a cap l (by omega) hv w h).mono ?_
          rintro e w' ⟨rfl, hrd, hf⟩
          exact ⟨rfl, a, cap, hrd, hf, Near.refl a⟩
        · have e : numS (l, 0) sz = ((val (l.take sz) : Int), 0, (l.drop sz, 0)) := by unfold numS; rw [if_neg (not_not_intro hs), if_neg (by simp), if_neg (by simpa using hlt), if_neg (by simpa using hv)]; rfl
          rw [e]
          refine (rnum_ok sz hs rb a cap l (by omega) (by omega) w h).mono ?_
          rintro e w' ⟨rfl, a', c', hrd, hf, hn⟩
          exact ⟨rfl, a', c', hrd, hf, hn⟩
    · have e : numS (l, err) sz = (0, err, (l, err)) := by unfold numS; rw [if_neg (not_not_intro hs), if_pos (by simpa using he)]
      rw [e]
      refine (rnum_stop sz hs rb a cap l err he w h).mono ?_
      rintro e w' ⟨rfl, rfl⟩
      exact ⟨rfl, a, cap, h, Fr.refl _ _, Near.refl a⟩
  · have e : numS (l, err) size = (0, 1, (l, err)) := by unfold numS; rw [if_pos hs]
    rw [e]
    refine (rnum_arg (some ⟨rb, 0, none⟩) size (fun e => hs (.inl e)) (fun e => hs (.inr (.inl e))) (fun e => hs (.inr (.inr (.inl e)))) (fun e => hs (.inr (.inr (.inr e)))) w).mono ?_
    rintro e w' ⟨rfl, rfl⟩
    exact ⟨rfl, a, cap, h, Fr.refl _ _, Near.refl a⟩

end Go.Proofs.Ytbfkacahaocpfaa
