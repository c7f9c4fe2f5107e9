
/- Read4, PgRd. -/
import Derived.Test.YtcmkpmilnplhmaaWT8
import Derived.Test.YtcmkpmilnplhmaaWTA
/- What the reader's calls tell, each in one form: by a plain function of what is left and the reader's error. -/
namespace Go.Proofs.Ytcmkpmilnplhmaa
open Go.RowKit

/-- A reader's state: what is left, and its error. -/
abbrev RS : Type := List Nat × Int
def sizedP (s : Int) : Prop := s = 1 ∨ s = 2 ∨ s = 4 ∨ s = 8
/-- Num: the number, what is told, the state behind. -/
def numS (st : RS) (size : Int) : Int × Int × RS :=
  if ¬ (size = 1 ∨ size = 2 ∨ size = 4 ∨ size = 8) then (0, 1, st)
  else if ¬ st.2 = 0 then (0, st.2, st)
  else if (st.1.length : Int) < size then (0, 10, (st.1, 10))
  else if 9223372036854775808 ≤ val (st.1.take size.toNat) then (0, 1, (st.1, 1))
  else ((val (st.1.take size.toNat) : Int), 0, (st.1.drop size.toNat, 0))
/-- Text: the text's bytes, what is told, the state behind. -/
def textS (st : RS) (most : Int) : List Nat × Int × RS :=
  if most < 0 then ([], 1, st)
  else if ¬ st.2 = 0 then ([], st.2, st)
  else if st.1.length < 2 then ([], 10, (st.1, 10))
  else if st.1.length < 2 + val (st.1.take 2) then ([], 10, (st.1, 10))
  else if most < val (st.1.take 2) then ([], 2, (st.1, 2))
  else ((st.1.drop 2).take (val (st.1.take 2)), 0, (st.1.drop (2 + val (st.1.take 2)), 0))

/-- Where a reader's bytes lie behind a call: where they lay, or nowhere. -/
def Near (a a' : Option Addr) : Prop := ∀ b off sp, a' = some ⟨b, off, sp⟩ → ∃ o s, a = some ⟨b, o, s⟩
theorem Near.refl (a : Option Addr) : Near a a := fun _ off sp e => ⟨off, sp, e⟩

theorem rnum_all (size : Int) (rb : Nat) (a : Option Addr) (cap : Nat) (st : RS) (w : World) (h : Rd w rb a cap st.1 st.2) :
    Calls Try.prog 42 #[.pointer (some ⟨rb, 0, none⟩), .int .i64 size] w fun e w' => e = .returned (.tuple #[.int .i64 (numS st size).1, .int .i64 (numS st size).2.1]) ∧
      ∃ a' c', Rd w' rb a' c' (numS st size).2.2.1 (numS st size).2.2.2 ∧ Fr (fun k => k = rb) w w' ∧ Near a a' := by
  obtain ⟨l, err⟩ := st
  by_cases hs : size = 1 ∨ size = 2 ∨ size = 4 ∨ size = 8
  · obtain ⟨sz, rfl⟩ := Int.eq_ofNat_of_zero_le (a := size) (by omega)
    by_cases he : err = 0
    · subst he
      by_cases hlt : l.length < sz
      · have e : numS (l, 0) sz = (0, 10, (l, 10)) := by unfold numS; rw [if_neg (not_not_intro hs), if_neg (by simp), if_pos (by simpa using hlt)]
        rw [e]
        refine (rnum_cut sz hs rb a cap l hlt w h).mono ?_
        rintro e w' ⟨rfl, hrd, hf⟩
        exact ⟨rfl, a, cap, hrd, hf, Near.refl a⟩
      · by_cases hv : 9223372036854775808 ≤ val (l.take sz)
        · have e : numS (l, 0) sz = (0, 1, (l, 1)) := by unfold numS; rw [if_neg (not_not_intro hs), if_neg (by simp), if_neg (by simpa using hlt), if_pos (by simpa using hv)]
          rw [e]
          refine (rnum_big sz hs rb a cap l (by omega) hv w h).mono ?_
          rintro e w' ⟨rfl, hrd, hf⟩
          exact ⟨rfl, a, cap, hrd, hf, Near.refl a⟩
        · have e : numS (l, 0) sz = ((val (l.take sz) : Int), 0, (l.drop sz, 0)) := by unfold numS; rw [if_neg (not_not_intro hs), if_neg (by simp), if_neg (by simpa using hlt), if_neg (by simpa using hv)]; rfl
          rw [e]
          refine (rnum_ok sz hs rb a cap l (by omega) (by omega) w h).mono ?_
          rintro e w' ⟨rfl, a', c', hrd, hf, hn⟩
          exact ⟨rfl, a', c', hrd, hf, hn⟩
    · have e : numS (l, err) sz = (0, err, (l, err)) := by unfold numS; rw [if_neg (not_not_intro hs), if_pos (by simpa using he)]
      rw [e]
      refine (rnum_stop sz hs rb a cap l err he w h).mono ?_
      rintro e w' ⟨rfl, rfl⟩
      exact ⟨rfl, a, cap, h, Fr.refl _ _, Near.refl a⟩
  · have e : numS (l, err) size = (0, 1, (l, err)) := by unfold numS; rw [if_pos hs]
    rw [e]
    refine (rnum_arg (some ⟨rb, 0, none⟩) size (fun e => hs (.inl e)) (fun e => hs (.inr (.inl e))) (fun e => hs (.inr (.inr (.inl e)))) (fun e => hs (.inr (.inr (.inr e)))) w).mono ?_
    rintro e w' ⟨rfl, rfl⟩
    exact ⟨rfl, a, cap, h, Fr.refl _ _, Near.refl a⟩

theorem rtext_all (most : Int) (rb : Nat) (a : Option Addr) (cap : Nat) (st : RS) (w : World) (h : Rd w rb a cap st.1 st.2) :
    Calls Try.prog 43 #[.pointer (some ⟨rb, 0, none⟩), .int .i64 most] w fun e w' => e = .returned (.tuple #[.string (strOf (textS st most).1), .int .i64 (textS st most).2.1]) ∧
      ∃ a' c', Rd w' rb a' c' (textS st most).2.2.1 (textS st most).2.2.2 ∧ Fr (fun k => k = rb) w w' ∧ Near a a' := by
  obtain ⟨l, err⟩ := st
  by_cases hm : most < 0
  · have e : textS (l, err) most = ([], 1, (l, err)) := by unfold textS; rw [if_pos hm]
    rw [e]
    refine (rtext_arg (some ⟨rb, 0, none⟩) most hm w).mono ?_
    rintro e w' ⟨rfl, rfl⟩
    exact ⟨rfl, a, cap, h, Fr.refl _ _, Near.refl a⟩
  · by_cases he : err = 0
    · subst he
      by_cases h2 : l.length < 2
      · have e : textS (l, 0) most = ([], 10, (l, 10)) := by unfold textS; rw [if_neg hm, if_neg (by simp), if_pos h2]
        rw [e]
        refine (rtext_cut0 most hm rb a cap l h2 w h).mono ?_
        rintro e w' ⟨rfl, hrd, hf⟩
        exact ⟨rfl, a, cap, hrd, hf, Near.refl a⟩
      · by_cases hv : l.length < 2 + val (l.take 2)
        · have e : textS (l, 0) most = ([], 10, (l, 10)) := by unfold textS; rw [if_neg hm, if_neg (by simp), if_neg h2, if_pos hv]
          rw [e]
          refine (rtext_bad most hm rb a cap l (by omega) 10 (.inl ⟨hv, rfl⟩) w h).mono ?_
          rintro e w' ⟨rfl, hrd, hf⟩
          exact ⟨rfl, a, cap, hrd, hf, Near.refl a⟩
        · by_cases hlong : most < val (l.take 2)
          · have e : textS (l, 0) most = ([], 2, (l, 2)) := by unfold textS; rw [if_neg hm, if_neg (by simp), if_neg h2, if_neg hv, if_pos hlong]
            rw [e]
            refine (rtext_bad most hm rb a cap l (by omega) 2 (.inr ⟨by omega, hlong, rfl⟩) w h).mono ?_
            rintro e w' ⟨rfl, hrd, hf⟩
            exact ⟨rfl, a, cap, hrd, hf, Near.refl a⟩
          · have e : textS (l, 0) most = ((l.drop 2).take (val (l.take 2)), 0, (l.drop (2 + val (l.take 2)), 0)) := by unfold textS; rw [if_neg hm, if_neg (by simp), if_neg h2, if_neg hv, if_neg hlong]
            rw [e]
            refine (rtext_ok most hm rb a cap l (by omega) (by omega) w h).mono ?_
            rintro e w' ⟨rfl, a', c', hrd, hf, hn⟩
            exact ⟨rfl, a', c', hrd, hf, hn⟩
    · have e : textS (l, err) most = ([], err, (l, err)) := by unfold textS; rw [if_neg hm, if_pos (by simpa using he)]
      rw [e]
      refine (rtext_stop most hm rb a cap l err he w h).mono ?_
      rintro e w' ⟨rfl, rfl⟩
      exact ⟨rfl, a, cap, h, Fr.refl _ _, Near.refl a⟩
end Go.Proofs.Ytcmkpmilnplhmaa

/- What page's reader tells: num and text, by plain functions of what is left, the error, and whether one failed. -/
namespace Go.Proofs.Ytcmkpmilnplhmaa
open Go.RowKit Crcm

/-- A reader's state: what is left, its error, and whether something could not be read. -/
abbrev RF : Type := RS × Bool
def numF (s : RF) (size : Int) : Int × RF := ((numS s.1 size).1, ((numS s.1 size).2.2, s.2 || decide ((numS s.1 size).2.1 ≠ 0)))
def textF (s : RF) (most : Int) : ByteArray × RF := (strOf (textS s.1 most).1, ((textS s.1 most).2.2, s.2 || decide ((textS s.1 most).2.1 ≠ 0)))

/-- Page's reader at block qb over wire's at block rb. -/
structure Rr (w : World) (qb rb : Nat) (a : Option Addr) (cap : Nat) (s : RF) : Prop where
  box : w.heap[qb]? = some (.cells #[.pointer (some ⟨rb, 0, none⟩), .bool s.2] 97 (0, 0))
  rd : Rd w rb a cap s.1.1 s.1.2
  ne : qb ≠ rb
  far : ∀ b off sp, a = some ⟨b, off, sp⟩ → b ≠ qb
def rrS (qb rb : Nat) : Nat → Prop := fun k => k = qb ∨ k = rb
theorem Rr.fr {S : Nat → Prop} {w w' : World} {qb rb : Nat} {a : Option Addr} {cap : Nat} {s : RF} (h : Rr w qb rb a cap s) (f : Fr S w w') (h1 : ¬ S qb) (h2 : ¬ S rb) (h3 : ∀ b off sp, a = some ⟨b, off, sp⟩ → ¬ S b) : Rr w' qb rb a cap s :=
  ⟨by rw [f.block qb (lt_of_block h.box) h1]; exact h.box, ⟨by rw [f.block rb (lt_of_block h.rd.box) h2]; exact h.rd.box, h.rd.row.fr f h3, h.rd.far⟩, h.ne, h.far⟩
theorem Rr.same {w w' : World} {qb rb : Nat} {a : Option Addr} {cap : Nat} {s : RF} (h : Rr w qb rb a cap s) (f : Fr (fun _ => False) w w') : Rr w' qb rb a cap s := h.fr f (fun f => f) (fun f => f) (fun _ _ _ _ f => f)

theorem or_ne {e : Int} : (e != 0) = decide (e ≠ 0) := by
  rw [Bool.eq_iff_iff]; simp
set_option maxRecDepth 100000 in
set_option maxHeartbeats 1000000 in
theorem pnum_any (size : Int) (qb rb : Nat) (a : Option Addr) (cap : Nat) (s : RF) (w : World) (h : Rr w qb rb a cap s) :
    Calls Try.prog 59 #[.pointer (some ⟨qb, 0, none⟩), .int .i64 size] w fun e w' => e = .returned (.int .i64 (numF s size).1) ∧
      ∃ a' c', Rr w' qb rb a' c' (numF s size).2 ∧ Fr (rrS qb rb) w w' ∧ Near a a' := by
  obtain ⟨h0, h1, g0, g1⟩ := cell_of_two h.box
  have HN := rnum_all size rb a cap s.1 w h.rd
  obtain ⟨st, fl⟩ := s
  simp only at h0 h1 HN
  have HF : Hid (numF (st, fl) size = ((numS st size).1, ((numS st size).2.2, fl || decide ((numS st size).2.1 ≠ 0)))) := rfl
  rw [HF.out]
  obtain ⟨x, hx⟩ : ∃ x, x = (numS st size).1 := ⟨_, rfl⟩
  obtain ⟨er, her⟩ : ∃ x, x = (numS st size).2.1 := ⟨_, rfl⟩
  obtain ⟨st', hst⟩ : ∃ x, x = (numS st size).2.2 := ⟨_, rfl⟩
  rw [← hx, ← her, ← hst] at HN ⊢
  clear hx her hst HF
  have hq := lt_of_block h.box
  cases fl with
  | true =>
    go_enter Try.func59, Try.ntmps59
    go_wp2_with fail
    refine HN.mono ?_
    rintro e w1 ⟨rfl, a1, c1, r1, f1, n1⟩
    have hb1 : w1.heap[qb]? = some (.cells #[.pointer (some ⟨rb, 0, none⟩), .bool true] 97 (0, 0)) := by rw [f1.block qb hq h.ne]; exact h.box
    obtain ⟨k0, k1, k2, k3⟩ := cell_of_two hb1
    have f2 : Fr (fun k => k = qb) w1 (w1.setCell ⟨qb, 1, none⟩ (.bool true)) := (Fr.refl (fun k => k = qb) w1).setCell (p := ⟨qb, 1, none⟩) (fun _ => rfl) _
    go_wp2
    go_ret
    refine ⟨rfl, a1, c1, ⟨two_setCell1 hb1, ⟨by rw [f2.block rb (lt_of_block r1.box) (fun e => h.ne e.symm)]; exact r1.box, r1.row.fr f2 (fun b off sp e => by obtain ⟨o, t, e2⟩ := n1 b off sp e; exact h.far b o t e2), r1.far⟩, h.ne, fun b off sp e => by obtain ⟨o, t, e2⟩ := n1 b off sp e; exact h.far b o t e2⟩, (f1.mono (fun i _ e => .inr e)).trans f2 (fun i _ e => .inl e), n1⟩
  | false =>
    go_enter Try.func59, Try.ntmps59
    go_wp2_with fail
    refine HN.mono ?_
    rintro e w1 ⟨rfl, a1, c1, r1, f1, n1⟩
    have hb1 : w1.heap[qb]? = some (.cells #[.pointer (some ⟨rb, 0, none⟩), .bool false] 97 (0, 0)) := by rw [f1.block qb hq h.ne]; exact h.box
    obtain ⟨k0, k1, k2, k3⟩ := cell_of_two hb1
    have f2 : Fr (fun k => k = qb) w1 (w1.setCell ⟨qb, 1, none⟩ (.bool (decide (er ≠ 0)))) := (Fr.refl (fun k => k = qb) w1).setCell (p := ⟨qb, 1, none⟩) (fun _ => rfl) _
    have OE : Hid ((er != 0) = decide (er ≠ 0)) := or_ne
    go_wp2
    rw [OE.out]
    go_ret
    refine ⟨rfl, a1, c1, ⟨by rw [Bool.false_or]; exact two_setCell1 hb1, ⟨by rw [f2.block rb (lt_of_block r1.box) (fun e => h.ne e.symm)]; exact r1.box, r1.row.fr f2 (fun b off sp e => by obtain ⟨o, t, e2⟩ := n1 b off sp e; exact h.far b o t e2), r1.far⟩, h.ne, fun b off sp e => by obtain ⟨o, t, e2⟩ := n1 b off sp e; exact h.far b o t e2⟩, (f1.mono (fun i _ e => .inr e)).trans f2 (fun i _ e => .inl e), n1⟩
set_option maxRecDepth 100000 in
set_option maxHeartbeats 1000000 in
theorem ptext_any (most : Int) (qb rb : Nat) (a : Option Addr) (cap : Nat) (s : RF) (w : World) (h : Rr w qb rb a cap s) :
    Calls Try.prog 60 #[.pointer (some ⟨qb, 0, none⟩), .int .i64 most] w fun e w' => e = .returned (.string (textF s most).1) ∧
      ∃ a' c', Rr w' qb rb a' c' (textF s most).2 ∧ Fr (rrS qb rb) w w' ∧ Near a a' := by
  obtain ⟨h0, h1, g0, g1⟩ := cell_of_two h.box
  have HN := rtext_all most rb a cap s.1 w h.rd
  obtain ⟨st, fl⟩ := s
  simp only at h0 h1 HN
  have HF : Hid (textF (st, fl) most = (strOf (textS st most).1, ((textS st most).2.2, fl || decide ((textS st most).2.1 ≠ 0)))) := rfl
  rw [HF.out]
  obtain ⟨x, hx⟩ : ∃ x, x = strOf (textS st most).1 := ⟨_, rfl⟩
  obtain ⟨er, her⟩ : ∃ x, x = (textS st most).2.1 := ⟨_, rfl⟩
  obtain ⟨st', hst⟩ : ∃ x, x = (textS st most).2.2 := ⟨_, rfl⟩
  rw [← hx, ← her, ← hst] at HN ⊢
  clear hx her hst HF
  have hq := lt_of_block h.box
  cases fl with
  | true =>
    go_enter Try.func60, Try.ntmps60
    go_wp2_with fail
    refine HN.mono ?_
    rintro e w1 ⟨rfl, a1, c1, r1, f1, n1⟩
    have hb1 : w1.heap[qb]? = some (.cells #[.pointer (some ⟨rb, 0, none⟩), .bool true] 97 (0, 0)) := by rw [f1.block qb hq h.ne]; exact h.box
    obtain ⟨k0, k1, k2, k3⟩ := cell_of_two hb1
    have f2 : Fr (fun k => k = qb) w1 (w1.setCell ⟨qb, 1, none⟩ (.bool true)) := (Fr.refl (fun k => k = qb) w1).setCell (p := ⟨qb, 1, none⟩) (fun _ => rfl) _
    go_wp2
    go_ret
    refine ⟨rfl, a1, c1, ⟨two_setCell1 hb1, ⟨by rw [f2.block rb (lt_of_block r1.box) (fun e => h.ne e.symm)]; exact r1.box, r1.row.fr f2 (fun b off sp e => by obtain ⟨o, t, e2⟩ := n1 b off sp e; exact h.far b o t e2), r1.far⟩, h.ne, fun b off sp e => by obtain ⟨o, t, e2⟩ := n1 b off sp e; exact h.far b o t e2⟩, (f1.mono (fun i _ e => .inr e)).trans f2 (fun i _ e => .inl e), n1⟩
  | false =>
    go_enter Try.func60, Try.ntmps60
    go_wp2_with fail
    refine HN.mono ?_
    rintro e w1 ⟨rfl, a1, c1, r1, f1, n1⟩
    have hb1 : w1.heap[qb]? = some (.cells #[.pointer (some ⟨rb, 0, none⟩), .bool false] 97 (0, 0)) := by rw [f1.block qb hq h.ne]; exact h.box
    obtain ⟨k0, k1, k2, k3⟩ := cell_of_two hb1
    have f2 : Fr (fun k => k = qb) w1 (w1.setCell ⟨qb, 1, none⟩ (.bool (decide (er ≠ 0)))) := (Fr.refl (fun k => k = qb) w1).setCell (p := ⟨qb, 1, none⟩) (fun _ => rfl) _
    have OE : Hid ((er != 0) = decide (er ≠ 0)) := or_ne
    go_wp2
    rw [OE.out]
    go_ret
    refine ⟨rfl, a1, c1, ⟨by rw [Bool.false_or]; exact two_setCell1 hb1, ⟨by rw [f2.block rb (lt_of_block r1.box) (fun e => h.ne e.symm)]; exact r1.box, r1.row.fr f2 (fun b off sp e => by obtain ⟨o, t, e2⟩ := n1 b off sp e; exact h.far b o t e2), r1.far⟩, h.ne, fun b off sp e => by obtain ⟨o, t, e2⟩ := n1 b off sp e; exact h.far b o t e2⟩, (f1.mono (fun i _ e => .inr e)).trans f2 (fun i _ e => .inl e), n1⟩
end Go.Proofs.Ytcmkpmilnplhmaa
