
/- Read2, Read3, Speak1, NilRef, Items, RefText. -/
import Derived.Test.YtcmkpmilnplhmaaWT6
import Derived.Test.YtcmkpmilnplhmaaWT1
import Derived.Test.YtcmkpmilnplhmaaWT7
import Derived.Deep.Strs
/- What package wire's reader does besides: the ways in which Num fails; Text; Left; End; a nil reader, a nil writer. -/
namespace Go.Proofs.Ytcmkpmilnplhmaa
open Go.RowKit

set_option maxRecDepth 100000 in
set_option maxHeartbeats 400000 in
theorem rnum_arg (p : Option Addr) (size : Int) (h1 : ¬ size = 1) (h2 : ¬ size = 2) (h4 : ¬ size = 4) (h8 : ¬ size = 8) (w : World) :
    Calls Try.prog 42 #[.pointer p, .int .i64 size] w fun e w' => e = .returned (.tuple #[.int .i64 0, .int .i64 1]) ∧ w' = w := by
  have H1 : Hid (¬ size = 1) := h1
  have H2 : Hid (¬ size = 2) := h2
  have H4 : Hid (¬ size = 4) := h4
  have H8 : Hid (¬ size = 8) := h8
  clear h1 h2 h4 h8
  go_enter Try.func42, Try.ntmps42
  go_wp2_with (go_at_call 48; refine (isSize_no _ H1.out H2.out H4.out H8.out _).mono ?_; rintro e w' ⟨rfl, rfl⟩)
  go_ret2
  exact ⟨rfl, rfl⟩

set_option maxRecDepth 100000 in
set_option maxHeartbeats 400000 in
theorem stopped_nil (w : World) : Calls Try.prog 51 #[.pointer none] w fun e w' => e = .returned (.int .i64 10) ∧ w' = w := by
  go_enter Try.func51, Try.ntmps51
  go_wp2
  go_ret
  exact ⟨rfl, rfl⟩
set_option maxRecDepth 100000 in
set_option maxHeartbeats 400000 in
theorem rnum_nil (size : Int) (hs : size = 1 ∨ size = 2 ∨ size = 4 ∨ size = 8) (w : World) :
    Calls Try.prog 42 #[.pointer none, .int .i64 size] w fun e w' => e = .returned (.tuple #[.int .i64 0, .int .i64 10]) ∧ w' = w := by
  have HS : Hid (size = 1 ∨ size = 2 ∨ size = 4 ∨ size = 8) := hs
  clear hs
  go_enter Try.func42, Try.ntmps42
  go_wp2_with (first | (go_at_call 48; refine (isSize_yes _ HS.out _).mono ?_; rintro e w' ⟨rfl, rfl⟩) | (go_at_call 51; refine (stopped_nil _).mono ?_; rintro e w' ⟨rfl, rfl⟩))
  go_ret2
  exact ⟨rfl, rfl⟩

/-- The reader has an error already. -/
theorem rnum_stop (size : Int) (hs : size = 1 ∨ size = 2 ∨ size = 4 ∨ size = 8) (rb : Nat) (a : Option Addr) (cap : Nat) (l : List Nat) (err : Int) (herr : ¬ err = 0) (w : World) (h : Rd w rb a cap l err) :
    Calls Try.prog 42 #[.pointer (some ⟨rb, 0, none⟩), .int .i64 size] w fun e w' => e = .returned (.tuple #[.int .i64 0, .int .i64 err]) ∧ w' = w := by
  have HS : Hid (size = 1 ∨ size = 2 ∨ size = 4 ∨ size = 8) := hs
  have hne : (err != 0) = true := by simpa using herr
  clear hs
  go_enter Try.func42, Try.ntmps42
  go_wp2_with (first | (go_at_call 48; refine (isSize_yes _ HS.out _).mono ?_; rintro e w' ⟨rfl, rfl⟩) | (go_at_call 51; refine (stopped_any rb _ cap l err _ h).mono ?_; rintro e w' ⟨rfl, rfl⟩))
  go_ret2
  exact ⟨rfl, rfl⟩

set_option maxRecDepth 100000 in
set_option maxHeartbeats 400000 in
theorem rnum_cut (size : Nat) (hsz : (size : Int) = 1 ∨ (size : Int) = 2 ∨ (size : Int) = 4 ∨ (size : Int) = 8) (rb : Nat) (a : Option Addr) (cap : Nat) (l : List Nat) (hlen : l.length < size) (w : World) (h : Rd w rb a cap l 0) :
    Calls Try.prog 42 #[.pointer (some ⟨rb, 0, none⟩), .int .i64 size] w fun e w' => e = .returned (.tuple #[.int .i64 0, .int .i64 10]) ∧ Rd w' rb a cap l 10 ∧ Fr (fun k => k = rb) w w' := by
  obtain ⟨h0, h1, f0, f1⟩ := cell_of_two h.box
  have HZ : Hid ((size : Int) = 1 ∨ (size : Int) = 2 ∨ (size : Int) = 4 ∨ (size : Int) = 8) := hsz
  have hpos : 0 < size ∧ size ≤ 8 := by omega
  clear hsz
  have i1 : (l.length : Int) < (size : Int) := by omega
  go_enter Try.func42, Try.ntmps42
  go_wp2_with (first | (go_at_call 48; refine (isSize_yes _ HZ.out _).mono ?_; rintro e w' ⟨rfl, rfl⟩) | (go_at_call 51; refine (stopped_any rb _ cap l 0 _ h).mono ?_; rintro e w' ⟨rfl, rfl⟩) | (go_at_call 52; refine (fail_any rb a cap l 0 10 _ h).mono ?_; rintro e w' ⟨rfl, hq⟩))
  go_ret2
  exact ⟨rfl, hq⟩

set_option maxRecDepth 100000 in
set_option maxHeartbeats 1000000 in
theorem rnum_big (size : Nat) (hsz : (size : Int) = 1 ∨ (size : Int) = 2 ∨ (size : Int) = 4 ∨ (size : Int) = 8) (rb : Nat) (a : Option Addr) (cap : Nat) (l : List Nat) (hlen : size ≤ l.length) (hval : 9223372036854775808 ≤ val (l.take size)) (w : World) (h : Rd w rb a cap l 0) :
    Calls Try.prog 42 #[.pointer (some ⟨rb, 0, none⟩), .int .i64 size] w fun e w' => e = .returned (.tuple #[.int .i64 0, .int .i64 1]) ∧ Rd w' rb a cap l 1 ∧ Fr (fun k => k = rb) w w' := by
  obtain ⟨h0, h1, f0, f1⟩ := cell_of_two h.box
  have hle := h.row.le
  have hmx := h.row.max
  have HZ : Hid ((size : Int) = 1 ∨ (size : Int) = 2 ∨ (size : Int) = 4 ∨ (size : Int) = 8) := hsz
  have hpos : 0 < size ∧ size ≤ 8 := by omega
  clear hsz
  have htl : (l.take size).length = size := by simp; omega
  have i0 : (0 : Int) ≤ (size : Int) := by omega
  have i1 : (size : Int) ≤ (l.length : Int) := by omega
  have i2 : (size : Int) ≤ (cap : Int) := by omega
  obtain ⟨v, hv⟩ : ∃ v, v = val (l.take size) := ⟨_, rfl⟩
  have HV : Hid (val (l.take size) = v) := hv.symm
  rw [← hv] at hval
  clear hv
  have i3 : (9223372036854775807 : Int) < (v : Int) := by omega
  go_enter Try.func42, Try.ntmps42
  go_wp2_with (first | (go_at_call 48; refine (isSize_yes _ HZ.out _).mono ?_; rintro e w' ⟨rfl, rfl⟩) | (go_at_call 51; refine (stopped_any rb _ cap l 0 _ h).mono ?_; rintro e w' ⟨rfl, rfl⟩) | (go_at_call 53; refine (numberOf_any _ size cap (l.take size) htl.symm (by omega) _ (h.row.take size)).mono ?_; rw [HV.out]; rintro e w' ⟨rfl, rfl⟩) | (go_at_call 52; refine (fail_any rb a cap l 0 1 _ h).mono ?_; rintro e w' ⟨rfl, hq⟩))
  go_ret2
  exact ⟨rfl, hq⟩

set_option maxRecDepth 100000 in
set_option maxHeartbeats 400000 in
theorem left_any (rb : Nat) (a : Option Addr) (cap : Nat) (l : List Nat) (err : Int) (w : World) (h : Rd w rb a cap l err) :
    Calls Try.prog 56 #[.pointer (some ⟨rb, 0, none⟩)] w fun e w' => e = .returned (.int .i64 l.length) ∧ w' = w := by
  obtain ⟨h0, h1, f0, f1⟩ := cell_of_two h.box
  go_enter Try.func56, Try.ntmps56
  go_wp2
  go_ret
  exact ⟨rfl, rfl⟩
set_option maxRecDepth 100000 in
set_option maxHeartbeats 400000 in
theorem left_nil (w : World) : Calls Try.prog 56 #[.pointer none] w fun e w' => e = .returned (.int .i64 0) ∧ w' = w := by
  go_enter Try.func56, Try.ntmps56
  go_wp2
  go_ret
  exact ⟨rfl, rfl⟩
/-- What End tells. -/
def endOf (l : List Nat) (err : Int) : Int := if err = 0 then (if l.length = 0 then 0 else 4) else err
set_option maxRecDepth 100000 in
set_option maxHeartbeats 400000 in
theorem end_any (rb : Nat) (a : Option Addr) (cap : Nat) (l : List Nat) (err : Int) (w : World) (h : Rd w rb a cap l err) :
    Calls Try.prog 44 #[.pointer (some ⟨rb, 0, none⟩)] w fun e w' => e = .returned (.int .i64 (endOf l err)) ∧ w' = w := by
  obtain ⟨h0, h1, f0, f1⟩ := cell_of_two h.box
  by_cases he : err = 0
  · subst he
    by_cases hl : l.length = 0
    · have ho : endOf l 0 = 0 := by simp [endOf, hl]
      rw [ho]
      have i1 : ¬ (0 : Int) < (l.length : Int) := by omega
      go_enter Try.func44, Try.ntmps44
      go_wp2
      go_ret
      exact ⟨rfl, rfl⟩
    · have ho : endOf l 0 = 4 := by unfold endOf; rw [if_pos rfl, if_neg hl]
      rw [ho]
      have i1 : (0 : Int) < (l.length : Int) := by omega
      go_enter Try.func44, Try.ntmps44
      go_wp2
      go_ret
      exact ⟨rfl, rfl⟩
  · have ho : endOf l err = err := by unfold endOf; rw [if_neg he]
    rw [ho]
    have hne : (err != 0) = true := by simpa using he
    clear ho
    go_enter Try.func44, Try.ntmps44
    go_wp2
    go_ret
    exact ⟨rfl, rfl⟩
set_option maxRecDepth 100000 in
set_option maxHeartbeats 400000 in
theorem end_nil (w : World) : Calls Try.prog 44 #[.pointer none] w fun e w' => e = .returned (.int .i64 0) ∧ w' = w := by
  go_enter Try.func44, Try.ntmps44
  go_wp2
  go_ret
  exact ⟨rfl, rfl⟩
set_option maxRecDepth 100000 in
set_option maxHeartbeats 400000 in
theorem bytes_nil (w : World) : Calls Try.prog 29 #[.pointer none] w fun e w' => e = .returned (.slice none 0 0) ∧ w' = w := by
  go_enter Try.func29, Try.ntmps29
  go_wp2
  go_ret
  exact ⟨rfl, rfl⟩
end Go.Proofs.Ytcmkpmilnplhmaa

/- What (*Reader).Text does. -/
namespace Go.Proofs.Ytcmkpmilnplhmaa
open Go.RowKit

set_option maxRecDepth 100000 in
set_option maxHeartbeats 400000 in
theorem rtext_arg (p : Option Addr) (most : Int) (hm : most < 0) (w : World) :
    Calls Try.prog 43 #[.pointer p, .int .i64 most] w fun e w' => e = .returned (.tuple #[.string ⟨#[]⟩, .int .i64 1]) ∧ w' = w := by
  go_enter Try.func43, Try.ntmps43
  go_wp2
  go_ret2
  exact ⟨rfl, rfl⟩
set_option maxRecDepth 100000 in
set_option maxHeartbeats 400000 in
theorem rtext_nil (most : Int) (hm : ¬ most < 0) (w : World) :
    Calls Try.prog 43 #[.pointer none, .int .i64 most] w fun e w' => e = .returned (.tuple #[.string ⟨#[]⟩, .int .i64 10]) ∧ w' = w := by
  go_enter Try.func43, Try.ntmps43
  go_wp2_with (go_at_call 51; refine (stopped_nil _).mono ?_; rintro e w' ⟨rfl, rfl⟩)
  go_ret2
  exact ⟨rfl, rfl⟩
set_option maxRecDepth 100000 in
set_option maxHeartbeats 400000 in
theorem rtext_stop (most : Int) (hm : ¬ most < 0) (rb : Nat) (a : Option Addr) (cap : Nat) (l : List Nat) (err : Int) (herr : ¬ err = 0) (w : World) (h : Rd w rb a cap l err) :
    Calls Try.prog 43 #[.pointer (some ⟨rb, 0, none⟩), .int .i64 most] w fun e w' => e = .returned (.tuple #[.string ⟨#[]⟩, .int .i64 err]) ∧ w' = w := by
  have hne : (err != 0) = true := by simpa using herr
  go_enter Try.func43, Try.ntmps43
  go_wp2_with (go_at_call 51; refine (stopped_any rb _ cap l err _ h).mono ?_; rintro e w' ⟨rfl, rfl⟩)
  go_ret2
  exact ⟨rfl, rfl⟩
set_option maxRecDepth 100000 in
set_option maxHeartbeats 400000 in
theorem rtext_cut0 (most : Int) (hm : ¬ most < 0) (rb : Nat) (a : Option Addr) (cap : Nat) (l : List Nat) (hlen : l.length < 2) (w : World) (h : Rd w rb a cap l 0) :
    Calls Try.prog 43 #[.pointer (some ⟨rb, 0, none⟩), .int .i64 most] w fun e w' => e = .returned (.tuple #[.string ⟨#[]⟩, .int .i64 10]) ∧ Rd w' rb a cap l 10 ∧ Fr (fun k => k = rb) w w' := by
  obtain ⟨h0, h1, f0, f1⟩ := cell_of_two h.box
  have i1 : (l.length : Int) < 2 := by omega
  go_enter Try.func43, Try.ntmps43
  go_wp2_with (first | (go_at_call 51; refine (stopped_any rb _ cap l 0 _ h).mono ?_; rintro e w' ⟨rfl, rfl⟩) | (go_at_call 52; refine (fail_any rb a cap l 0 10 _ h).mono ?_; rintro e w' ⟨rfl, hq⟩))
  go_ret2
  exact ⟨rfl, hq⟩

theorem row_none (w : World) (a : Option Addr) : Row w a 0 [] := ⟨Nat.le_refl _, by omega, by simp, (fun x hx => by cases hx), .inl rfl⟩
theorem val2_lt {l : List Nat} (h : octs l) : val (l.take 2) < 65536 := by
  have h1 := val_lt (octs_take h 2)
  have h2 : 256 ^ (l.take 2).length ≤ 256 ^ 2 := Nat.pow_le_pow_right (by omega) (List.length_take_le _ _)
  omega

set_option maxRecDepth 100000 in
set_option maxHeartbeats 1000000 in
theorem rtext_bad (most : Int) (hm : ¬ most < 0) (rb : Nat) (a : Option Addr) (cap : Nat) (l : List Nat) (hlen : 2 ≤ l.length) (err : Int) (hbad : (l.length < 2 + val (l.take 2) ∧ err = 10) ∨ (2 + val (l.take 2) ≤ l.length ∧ most < val (l.take 2) ∧ err = 2)) (w : World) (h : Rd w rb a cap l 0) :
    Calls Try.prog 43 #[.pointer (some ⟨rb, 0, none⟩), .int .i64 most] w fun e w' => e = .returned (.tuple #[.string ⟨#[]⟩, .int .i64 err]) ∧ Rd w' rb a cap l err ∧ Fr (fun k => k = rb) w w' := by
  obtain ⟨h0, h1, f0, f1⟩ := cell_of_two h.box
  have hle := h.row.le
  have hmx := h.row.max
  have htl : (l.take 2).length = 2 := by simp; omega
  have hvl := val2_lt h.row.byte
  obtain ⟨v, hv⟩ : ∃ v, v = val (l.take 2) := ⟨_, rfl⟩
  have HV : Hid (val (l.take 2) = v) := hv.symm
  rw [← hv] at hvl hbad
  clear hv
  have i1 : ¬ (l.length : Int) < 2 := by omega
  have i2 : (2 : Int) ≤ (cap : Int) := by omega
  rcases hbad with ⟨hb, rfl⟩ | ⟨hb, hb2, rfl⟩
  · have i3 : (l.length : Int) < 2 + (v : Int) := by omega
    go_enter Try.func43, Try.ntmps43
    go_wp2_with (first | (go_at_call 51; refine (stopped_any rb _ cap l 0 _ h).mono ?_; rintro e w' ⟨rfl, rfl⟩) | (go_at_call 53; refine (numberOf_any _ 2 cap (l.take 2) htl.symm (by omega) _ (h.row.take 2)).mono ?_; rw [HV.out]; rintro e w' ⟨rfl, rfl⟩) | (go_at_call 52; refine (fail_any rb a cap l 0 10 _ h).mono ?_; rintro e w' ⟨rfl, hq⟩))
    go_ret2
    exact ⟨rfl, hq⟩
  · have i3 : ¬ (l.length : Int) < 2 + (v : Int) := by omega
    go_enter Try.func43, Try.ntmps43
    go_wp2_with (first | (go_at_call 51; refine (stopped_any rb _ cap l 0 _ h).mono ?_; rintro e w' ⟨rfl, rfl⟩) | (go_at_call 53; refine (numberOf_any _ 2 cap (l.take 2) htl.symm (by omega) _ (h.row.take 2)).mono ?_; rw [HV.out]; rintro e w' ⟨rfl, rfl⟩) | (go_at_call 52; refine (fail_any rb a cap l 0 2 _ h).mono ?_; rintro e w' ⟨rfl, hq⟩))
    go_ret2
    exact ⟨rfl, hq⟩

set_option maxRecDepth 100000 in
set_option maxHeartbeats 1000000 in
theorem rtext_ok (most : Int) (hm : ¬ most < 0) (rb : Nat) (a : Option Addr) (cap : Nat) (l : List Nat) (hlen : 2 + val (l.take 2) ≤ l.length) (hmost : (val (l.take 2) : Int) ≤ most) (w : World) (h : Rd w rb a cap l 0) :
    Calls Try.prog 43 #[.pointer (some ⟨rb, 0, none⟩), .int .i64 most] w fun e w' => e = .returned (.tuple #[.string (strOf ((l.drop 2).take (val (l.take 2)))), .int .i64 0]) ∧
      ∃ a' c', Rd w' rb a' c' (l.drop (2 + val (l.take 2))) 0 ∧ Fr (fun k => k = rb) w w' ∧ (∀ b off sp, a' = some ⟨b, off, sp⟩ → ∃ o s, a = some ⟨b, o, s⟩) := by
  obtain ⟨h0, h1, f0, f1⟩ := cell_of_two h.box
  have hle := h.row.le
  have hmx := h.row.max
  have htl : (l.take 2).length = 2 := by simp; omega
  have hvl := val2_lt h.row.byte
  obtain ⟨v, hv⟩ : ∃ v, v = val (l.take 2) := ⟨_, rfl⟩
  have HV : Hid (val (l.take 2) = v) := hv.symm
  rw [← hv] at hvl hlen hmost ⊢
  clear hv
  obtain ⟨b, off, rfl, hb, hc⟩ : ∃ b off, a = some ⟨b, off, none⟩ ∧ b < w.heap.size ∧ ∀ i, i < l.length → w.cell? ⟨b, off + i, none⟩ = some (.int .u8 ((l.getD i 0 : Nat) : Int)) := by
    rcases h.row.at_ with e | e
    · rw [e] at hlen; simp at hlen
    · exact e
  have i1 : ¬ (l.length : Int) < 2 := by omega
  have i2 : (2 : Int) ≤ (cap : Int) := by omega
  have i3 : ¬ (l.length : Int) < 2 + (v : Int) := by omega
  have i4 : (2 : Int) + (v : Int) ≤ (cap : Int) := by omega
  have hvt : v = ((l.drop 2).take v).length := by simp; omega
  by_cases c2 : cap = 2
  · have hv0 : v = 0 := by omega
    subst hv0
    subst c2
    have hadv := h.advance hb hc 2 (by omega) off (.inl rfl)
    have el : l.length - 2 = 0 := by omega
    rw [el, Nat.sub_self] at hadv
    have hcv := run_str (P := Try.prog) (src := 23) (dst := 9) Try.underlying23 Try.underlying5 Try.underlying9 (row_none w (some ⟨b, off, none⟩)) 0 rfl
    clear el hvt
    go_enter Try.func43, Try.ntmps43
    go_wp2_with (first | (go_at_call 51; refine (stopped_any rb _ _ l 0 _ h).mono ?_; rintro e w' ⟨rfl, rfl⟩) | (go_at_call 53; refine (numberOf_any _ 2 _ (l.take 2) htl.symm (by omega) _ (h.row.take 2)).mono ?_; rw [HV.out]; rintro e w' ⟨rfl, rfl⟩))
    go_ret2
    exact ⟨rfl, hadv⟩
  · have hrow2 : Row w (some ⟨b, off + 2, none⟩) (cap - 2) (l.drop 2) := h.row.drop 2 (by omega) (off + 2) (.inr rfl) (.inr ⟨hb, hc⟩)
    have hcv := run_str (P := Try.prog) (src := 23) (dst := 9) Try.underlying23 Try.underlying5 Try.underlying9 (hrow2.take v) v hvt
    clear hvt
    by_cases cv : cap = 2 + v
    · subst cv
      have hadv := h.advance hb hc (2 + v) (by omega) off (.inl rfl)
      have el : l.length - (2 + v) = 0 := by omega
      rw [el, Nat.sub_self] at hadv
      have ec : 2 + v - 2 = v := by omega
      rw [ec] at hcv
      clear el ec
      go_enter Try.func43, Try.ntmps43
      go_wp2_with (first | (go_at_call 51; refine (stopped_any rb _ _ l 0 _ h).mono ?_; rintro e w' ⟨rfl, rfl⟩) | (go_at_call 53; refine (numberOf_any _ 2 _ (l.take 2) htl.symm (by omega) _ (h.row.take 2)).mono ?_; rw [HV.out]; rintro e w' ⟨rfl, rfl⟩))
      go_ret2
      exact ⟨rfl, hadv⟩
    · have hadv := h.advance hb hc (2 + v) (by omega) (off + (2 + v)) (.inr rfl)
      go_enter Try.func43, Try.ntmps43
      go_wp2_with (first | (go_at_call 51; refine (stopped_any rb _ _ l 0 _ h).mono ?_; rintro e w' ⟨rfl, rfl⟩) | (go_at_call 53; refine (numberOf_any _ 2 _ (l.take 2) htl.symm (by omega) _ (h.row.take 2)).mono ?_; rw [HV.out]; rintro e w' ⟨rfl, rfl⟩))
      go_ret2
      exact ⟨rfl, hadv⟩
end Go.Proofs.Ytcmkpmilnplhmaa

/- latticelaw01.speaks answers true. -/
namespace Go.Proofs.Ytcmkpmilnplhmaa
open Go.RowKit

theorem Wr.ge {w : World} {base wb : Nat} {v : Value} {l : List Nat} (h : Wr w base wb v l) {k : Nat} (hk : wrS wb v k) : wb ≤ k := by
  rcases hk with rfl | hk
  · exact Nat.le_refl _
  · have := (h.own.lt k hk).1; have := h.low; omega
theorem Wr.lt {w : World} {base wb : Nat} {v : Value} {l : List Nat} (h : Wr w base wb v l) {k : Nat} (hk : wrS wb v k) : k < w.heap.size := by
  rcases hk with rfl | hk
  · exact lt_of_block h.box
  · exact (h.own.lt k hk).2
/-- What writes only blocks that are new to 'a' leaves all of 'a'. -/
theorem Fr.above {a b c : World} {S : Nat → Prop} (h : Fr (fun _ => False) a b) (k : Fr S b c) (hS : ∀ i, S i → a.heap.size ≤ i) : Fr (fun _ => False) a c :=
  h.trans k (fun i hi s => by have := hS i s; omega)

theorem octs_app {l m : List Nat} (hl : octs l) (hm : octs m) : octs (l ++ m) := fun x hx => by
  rcases List.mem_append.mp hx with h | h
  · exact hl x h
  · exact hm x h

end Go.Proofs.Ytcmkpmilnplhmaa

/- What a nil writer and a nil reader tell; the document's Fits and Sized. -/
namespace Go.Proofs.Ytcmkpmilnplhmaa
open Go.RowKit

def sizedB (s : Int) : Bool := decide (s = 1 ∨ s = 2 ∨ s = 4 ∨ s = 8)
def fitB (n size : Int) : Bool := decide (0 ≤ n ∧ (size = 1 ∧ n < 256 ∨ size = 2 ∧ n < 65536 ∨ size = 4 ∧ n < 4294967296 ∨ size = 8))
theorem fitB_fit {n size : Int} (h : fitB n size = true) : fit n size := by
  have := of_decide_eq_true h; exact this
theorem fitB_sized {n size : Int} (h : fitB n size = true) : size = 1 ∨ size = 2 ∨ size = 4 ∨ size = 8 := by
  have := of_decide_eq_true h; omega

set_option maxRecDepth 100000 in
set_option maxHeartbeats 400000 in
theorem fits_no (n size : Int) (hs : size = 1 ∨ size = 2 ∨ size = 4 ∨ size = 8) (h : fitB n size = false) (hb : -9223372036854775808 ≤ n ∧ n ≤ 9223372036854775807) (w : World) : Calls Try.prog 49 #[.int .i64 n, .int .i64 size] w fun e w' => e = .returned (.bool false) ∧ w' = w := by
  have hn := of_decide_eq_false h
  clear h
  by_cases hneg : n < 0
  · have hg : ¬ 0 ≤ n := by omega
    clear hn
    rcases hs with rfl | rfl | rfl | rfl <;>
      (go_enter Try.func49, Try.ntmps49; go_wp2; go_ret; exact ⟨rfl, rfl⟩)
  · have hg : 0 ≤ n := by omega
    rcases hs with rfl | rfl | rfl | rfl
    · have e : ¬ n / 256 = 0 := by omega
      have e2 : (n / 256 == 0) = false := by simpa using e
      clear hn e
      go_enter Try.func49, Try.ntmps49; go_wp2; go_ret; exact ⟨rfl, rfl⟩
    · have e : ¬ n / 65536 = 0 := by omega
      have e2 : (n / 65536 == 0) = false := by simpa using e
      clear hn e
      go_enter Try.func49, Try.ntmps49; go_wp2; go_ret; exact ⟨rfl, rfl⟩
    · have e : ¬ n / 4294967296 = 0 := by omega
      have e2 : (n / 4294967296 == 0) = false := by simpa using e
      clear hn e
      go_enter Try.func49, Try.ntmps49; go_wp2; go_ret; exact ⟨rfl, rfl⟩
    · exact absurd ⟨hg, .inr (.inr (.inr rfl))⟩ hn

/-- A number that does not fit, whatever the writer. -/
theorem wnum_no (p : Option Addr) (n size : Int) (h : fitB n size = false) (hb : -9223372036854775808 ≤ n ∧ n ≤ 9223372036854775807) (w : World) :
    Calls Try.prog 39 #[.pointer p, .int .i64 n, .int .i64 size] w fun e w' => e = .returned (.int .i64 1) ∧ w' = w := by
  have HF : Hid (fitB n size = false) := h
  have HB : Hid (-9223372036854775808 ≤ n ∧ n ≤ 9223372036854775807) := hb
  by_cases hs : size = 1 ∨ size = 2 ∨ size = 4 ∨ size = 8
  · have HS : Hid (size = 1 ∨ size = 2 ∨ size = 4 ∨ size = 8) := hs
    clear hs h hb
    go_enter Try.func39, Try.ntmps39
    go_wp2_with (first | (go_at_call 48; refine (isSize_yes _ HS.out _).mono ?_; rintro e w' ⟨rfl, rfl⟩) | (go_at_call 49; refine (fits_no _ _ HS.out HF.out HB.out _).mono ?_; rintro e w' ⟨rfl, rfl⟩))
    go_ret
    exact ⟨rfl, rfl⟩
  · have H1 : Hid (¬ size = 1) := fun e => hs (.inl e)
    have H2 : Hid (¬ size = 2) := fun e => hs (.inr (.inl e))
    have H4 : Hid (¬ size = 4) := fun e => hs (.inr (.inr (.inl e)))
    have H8 : Hid (¬ size = 8) := fun e => hs (.inr (.inr (.inr e)))
    clear hs h hb
    go_enter Try.func39, Try.ntmps39
    go_wp2_with (go_at_call 48; refine (isSize_no _ H1.out H2.out H4.out H8.out _).mono ?_; rintro e w' ⟨rfl, rfl⟩)
    go_ret
    exact ⟨rfl, rfl⟩
theorem wnum_nil (n size : Int) (h : fitB n size = true) (w : World) :
    Calls Try.prog 39 #[.pointer none, .int .i64 n, .int .i64 size] w fun e w' => e = .returned (.int .i64 7) ∧ w' = w := by
  have HF : Hid (fitB n size = true) := h
  clear h
  go_enter Try.func39, Try.ntmps39
  go_wp2_with (first | (go_at_call 48; refine (isSize_yes _ (fitB_sized HF.out) _).mono ?_; rintro e w' ⟨rfl, rfl⟩) | (go_at_call 49; refine (fits_yes _ _ (fitB_fit HF.out) _).mono ?_; rintro e w' ⟨rfl, rfl⟩))
  go_ret
  exact ⟨rfl, rfl⟩
theorem wnum_nil_any (n size : Int) (hb : -9223372036854775808 ≤ n ∧ n ≤ 9223372036854775807) (w : World) :
    Calls Try.prog 39 #[.pointer none, .int .i64 n, .int .i64 size] w fun e w' => e = .returned (.int .i64 (cond (fitB n size) 7 1)) ∧ w' = w := by
  cases h : fitB n size
  · exact wnum_no none n size h hb w
  · exact wnum_nil n size h w

theorem rnum_nil_any (size : Int) (w : World) :
    Calls Try.prog 42 #[.pointer none, .int .i64 size] w fun e w' => e = .returned (.tuple #[.int .i64 0, .int .i64 (cond (sizedB size) 10 1)]) ∧ w' = w := by
  by_cases h : size = 1 ∨ size = 2 ∨ size = 4 ∨ size = 8
  · rw [show sizedB size = true from decide_eq_true h]; exact rnum_nil size h w
  · rw [show sizedB size = false from decide_eq_false h]; exact rnum_arg none size (fun e => h (.inl e)) (fun e => h (.inr (.inl e))) (fun e => h (.inr (.inr (.inl e)))) (fun e => h (.inr (.inr (.inr e)))) w
end Go.Proofs.Ytcmkpmilnplhmaa

/- A slice of items that came in: what lies in memory. -/
namespace Go.Proofs.Ytcmkpmilnplhmaa
open Go.ChangeShapes Go.WideShapes Go.ChangeAt Go.RowKit Go.Deep

/-- An item: a number, a size, a text. -/
abbrev It : Type := Int × Int × ByteArray
def itD : It := (0, 0, ByteArray.empty)
def itCells (x : It) : List Value := [.int .i64 x.1, .int .i64 x.2.1, .string x.2.2]
def itWf (x : It) : Prop := (-9223372036854775808 ≤ x.1 ∧ x.1 ≤ 9223372036854775807) ∧ (-9223372036854775808 ≤ x.2.1 ∧ x.2.1 ≤ 9223372036854775807)

structure Items (w : World) (a : Option Addr) (cap : Nat) (its : List It) : Prop where
  le : its.length ≤ cap
  max : cap ≤ 9223372036854775807
  wf : ∀ i, i < its.length → itWf (its.getD i itD)
  at_ : its = [] ∨ ∃ b off, a = some ⟨b, off, none⟩ ∧ b < w.heap.size ∧ ∀ i, i < its.length →
    w.cell? ⟨b, off + i * 3, none⟩ = some (.int .i64 (its.getD i itD).1) ∧ w.cell? ⟨b, off + i * 3 + 1, none⟩ = some (.int .i64 (its.getD i itD).2.1) ∧ w.cell? ⟨b, off + i * 3 + 2, none⟩ = some (.string (its.getD i itD).2.2)

theorem Items.same {w w' : World} {a : Option Addr} {cap : Nat} {its : List It} (h : Items w a cap its) (f : Fr (fun _ => False) w w') : Items w' a cap its := by
  refine ⟨h.le, h.max, h.wf, ?_⟩
  rcases h.at_ with h0 | ⟨b, off, rfl, hb, hc⟩
  · exact .inl h0
  · refine .inr ⟨b, off, rfl, Nat.lt_of_lt_of_le hb f.size, fun i hi => ?_⟩
    obtain ⟨h1, h2, h3⟩ := hc i hi
    exact ⟨(f.cell hb (fun x => x)).trans h1, (f.cell hb (fun x => x)).trans h2, (f.cell hb (fun x => x)).trans h3⟩

/-- What an item reads as. -/
def itData {H : Type} (x : It) : DataW H := .agg [.lit (.int .i64 x.1), .lit (.int .i64 x.2.1), .lit (.string x.2.2.data.toList)]

end Go.Proofs.Ytcmkpmilnplhmaa

/- What the document's own Text makes; what a list of items is written as. -/
namespace Go.Proofs.Ytcmkpmilnplhmaa
open Go.RowKit

/-- What an item is written as. -/
def outIt (x : It) : List Nat :=
  if x.2.1 = 0 then (if x.2.2.size ≤ 65535 then le 2 x.2.2.size ++ bsOf x.2.2 else []) else (if fitB x.1 x.2.1 = true then le x.2.1.toNat x.1.toNat else [])
def outs (its : List It) : List Nat := its.flatMap outIt
def wt (its : List It) : Nat := (its.map fun (x : It) => x.2.2.size + 4).sum

theorem outIt_len (x : It) : (outIt x).length ≤ 2 * (x.2.2.size + 4) := by
  unfold outIt
  split
  · split
    · simp [le_length, bsOf_length]; omega
    · simp
  · split
    · rename_i h
      have := fitB_sized h
      rw [le_length]; omega
    · simp
theorem outs_len (its : List It) : (outs its).length ≤ 2 * wt its := by
  induction its with
  | nil => simp [outs, wt]
  | cons x l ih =>
    have h1 := outIt_len x
    have e1 : outs (x :: l) = outIt x ++ outs l := rfl
    have e2 : wt (x :: l) = (x.2.2.size + 4) + wt l := by simp [wt]
    rw [e1, e2, List.length_append]; omega
theorem wt_take (its : List It) (k : Nat) : wt (its.take k) ≤ wt its := by
  induction its generalizing k with
  | nil => simp [wt]
  | cons x l ih =>
    cases k with
    | zero => simp [wt]
    | succ k =>
      have e1 : wt ((x :: l).take (k + 1)) = (x.2.2.size + 4) + wt (l.take k) := by simp [wt]
      have e2 : wt (x :: l) = (x.2.2.size + 4) + wt l := by simp [wt]
      have := ih k
      rw [e1, e2]; omega
theorem itake_snoc (l : List It) (k : Nat) (h : k < l.length) : l.take (k + 1) = l.take k ++ [l.getD k itD] := by
  rw [List.take_succ_eq_append_getElem h, List.getD_eq_getElem?_getD, List.getElem?_eq_getElem h]; rfl
theorem outs_succ (its : List It) (k : Nat) (h : k < its.length) : outs (its.take (k + 1)) = outs (its.take k) ++ outIt (its.getD k itD) := by
  rw [itake_snoc its k h]; simp [outs, List.flatMap_append]
theorem outIt_octs (x : It) : octs (outIt x) := by
  unfold outIt
  split
  · split
    · exact octs_app (le_octs _ _) (bsOf_octs _)
    · intro y hy; cases hy
  · split
    · exact le_octs _ _
    · intro y hy; cases hy
theorem outs_octs (its : List It) : octs (outs its) := by
  intro y hy
  simp only [outs, List.mem_flatMap] at hy
  obtain ⟨x, _, hx⟩ := hy
  exact outIt_octs x y hx
/-- What an item's text weighs. -/
theorem wt_part (its : List It) (k : Nat) (h : k < its.length) : wt (its.take k) + ((its.getD k itD).2.2.size + 4) ≤ wt its := by
  have h1 := wt_take its (k + 1)
  rw [itake_snoc its k h] at h1
  simp only [wt, List.map_append, List.map_cons, List.map_nil, List.sum_append, List.sum_cons, List.sum_nil] at h1 ⊢
  omega
end Go.Proofs.Ytcmkpmilnplhmaa
