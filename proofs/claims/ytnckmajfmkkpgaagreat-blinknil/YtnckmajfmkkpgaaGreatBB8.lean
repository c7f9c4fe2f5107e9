
/- OpenAll, Text, Read2, Read3, Speak1. -/
import Derived.Test.YtnckmajfmkkpgaaGreatBB7
import Derived.Test.YtnckmajfmkkpgaaGreatBB6
import Derived.Test.YtnckmajfmkkpgaaGreatBB1
/- What crc.Open and the document's Open tell, in one form: the same bytes and the same error. -/
namespace Go.Proofs.YtnckmajfmkkpgaaGreat
open Go.RowKit Crcm

/-- What is opened, and the error. -/
def opened (l : List Nat) : List Nat × Nat :=
  if l.length < 4 then ([], 10) else if val (l.drop (l.length - 4)) = crc (l.take (l.length - 4)) then (l.take (l.length - 4), 0) else ([], 20)

theorem row_empty (w : World) (a : Option Addr) : Row w a 0 [] := ⟨Nat.le_refl _, by omega, by simp, (fun x hx => by cases hx), .inl rfl⟩

theorem open_all (a : Option Addr) (n cap : Nat) (l : List Nat) (hn : n = l.length) (w : World) (hr : Row w a cap l) :
    Calls Tryz.prog 103 #[.slice a n cap] w fun e w' => ∃ ax cx, e = .returned (.tuple #[.slice ax (opened l).1.length cx, .int .i64 (((opened l).2 : Nat) : Int)]) ∧ Row w' ax cx (opened l).1 ∧ Fr (fun _ => False) w w' := by
  by_cases h4 : l.length < 4
  · refine (open_cut a n cap (by omega) w).mono ?_
    rintro e w' ⟨rfl, rfl⟩
    have ho : opened l = ([], 10) := by simp [opened, h4]
    rw [ho]
    exact ⟨none, 0, rfl, row_empty _ _, Fr.refl _ _⟩
  · by_cases hg : val (l.drop (l.length - 4)) = crc (l.take (l.length - 4))
    · refine (open_ok a n (l.length - 4) cap l hn (by omega) w hr hg).mono ?_
      rintro e w' ⟨v', rfl, hm⟩
      have ho : opened l = (l.take (l.length - 4), 0) := by simp [opened, h4, hg]
      rw [ho]
      obtain ⟨ax, cx, rfl, hrow⟩ := hm.own.row (octs_take hr.byte _) (by have := hr.small; simp; omega)
      exact ⟨ax, cx, rfl, hrow, hm.fr⟩
    · refine (open_bad a n (l.length - 4) cap l hn (by omega) w hr hg).mono ?_
      rintro e w' ⟨rfl, hf⟩
      have ho : opened l = ([], 20) := by simp [opened, h4, hg]
      rw [ho]
      exact ⟨none, 0, rfl, row_empty _ _, hf⟩

theorem le4_iff {t : List Nat} {c : Nat} (ht : octs t) (h4 : t.length = 4) (hc : c < 4294967296) : le 4 c = t ↔ val t = c := by
  rw [le_le4]
  constructor
  · intro h; rw [← h]; exact val_le4 c hc
  · intro h; rw [← h]; exact (le4_val t ht h4).1

end Go.Proofs.YtnckmajfmkkpgaaGreat

/- What (*Writer).Text does. -/
namespace Go.Proofs.YtnckmajfmkkpgaaGreat
open Go.RowKit

end Go.Proofs.YtnckmajfmkkpgaaGreat

/- What package wire's reader does besides: the ways in which Num fails; Text; Left; End; a nil reader, a nil writer. -/
namespace Go.Proofs.YtnckmajfmkkpgaaGreat
open Go.RowKit

set_option maxRecDepth 100000 in
set_option maxHeartbeats 400000 in
theorem rnum_arg (p : Option Addr) (size : Int) (h1 : ¬ size = 1) (h2 : ¬ size = 2) (h4 : ¬ size = 4) (h8 : ¬ size = 8) (w : World) :
    Calls Tryz.prog 117 #[.pointer p, .int .i64 size] w fun e w' => e = .returned (.tuple #[.int .i64 0, .int .i64 1]) ∧ w' = w := by
  have H1 : Hid (¬ size = 1) := h1
  have H2 : Hid (¬ size = 2) := h2
  have H4 : Hid (¬ size = 4) := h4
  have H8 : Hid (¬ size = 8) := h8
  clear h1 h2 h4 h8
  go_enter Tryz.func117, Tryz.ntmps117
  go_wp2_with (go_at_call 125; refine (isSize_no _ H1.out H2.out H4.out H8.out _).mono ?_; rintro e w' ⟨rfl, rfl⟩)
  go_ret2
  exact ⟨rfl, rfl⟩

set_option maxRecDepth 100000 in
set_option maxHeartbeats 400000 in
theorem stopped_nil (w : World) : Calls Tryz.prog 126 #[.pointer none] w fun e w' => e = .returned (.int .i64 10) ∧ w' = w := by
  go_enter Tryz.func126, Tryz.ntmps126
  go_wp2
  go_ret
  exact ⟨rfl, rfl⟩
set_option maxRecDepth 100000 in
set_option maxHeartbeats 400000 in
theorem rnum_nil (size : Int) (hs : size = 1 ∨ size = 2 ∨ size = 4 ∨ size = 8) (w : World) :
    Calls Tryz.prog 117 #[.pointer none, .int .i64 size] w fun e w' => e = .returned (.tuple #[.int .i64 0, .int .i64 10]) ∧ w' = w := by
  have HS : Hid (size = 1 ∨ size = 2 ∨ size = 4 ∨ size = 8) := hs
  clear hs
  go_enter Tryz.func117, Tryz.ntmps117
  go_wp2_with (first | (go_at_call 125; refine (isSize_yes _ HS.out _).mono ?_; rintro e w' ⟨rfl, rfl⟩) | (go_at_call 126; refine (stopped_nil _).mono ?_; rintro e w' ⟨rfl, rfl⟩))
  go_ret2
  exact ⟨rfl, rfl⟩

/-- The reader has an error already. -/
theorem rnum_stop (size : Int) (hs : size = 1 ∨ size = 2 ∨ size = 4 ∨ size = 8) (rb : Nat) (a : Option Addr) (cap : Nat) (l : List Nat) (err : Int) (herr : ¬ err = 0) (w : World) (h : Rd w rb a cap l err) :
    Calls Tryz.prog 117 #[.pointer (some ⟨rb, 0, none⟩), .int .i64 size] w fun e w' => e = .returned (.tuple #[.int .i64 0, .int .i64 err]) ∧ w' = w := by
  have HS : Hid (size = 1 ∨ size = 2 ∨ size = 4 ∨ size = 8) := hs
  have hne : (err != 0) = true := by simpa using herr
  clear hs
  go_enter Tryz.func117, Tryz.ntmps117
  go_wp2_with (first | (go_at_call 125; refine (isSize_yes _ HS.out _).mono ?_; rintro e w' ⟨rfl, rfl⟩) | (go_at_call 126; refine (stopped_any rb _ cap l err _ h).mono ?_; rintro e w' ⟨rfl, rfl⟩))
  go_ret2
  exact ⟨rfl, rfl⟩

set_option maxRecDepth 100000 in
set_option maxHeartbeats 400000 in
theorem rnum_cut (size : Nat) (hsz : (size : Int) = 1 ∨ (size : Int) = 2 ∨ (size : Int) = 4 ∨ (size : Int) = 8) (rb : Nat) (a : Option Addr) (cap : Nat) (l : List Nat) (hlen : l.length < size) (w : World) (h : Rd w rb a cap l 0) :
    Calls Tryz.prog 117 #[.pointer (some ⟨rb, 0, none⟩), .int .i64 size] w fun e w' => e = .returned (.tuple #[.int .i64 0, .int .i64 10]) ∧ Rd w' rb a cap l 10 ∧ Fr (fun k => k = rb) w w' := by
  obtain ⟨h0, h1, f0, f1⟩ := cell_of_two h.box
  have HZ : Hid ((size : Int) = 1 ∨ (size : Int) = 2 ∨ (size : Int) = 4 ∨ (size : Int) = 8) := hsz
  have hpos : 0 < size ∧ size ≤ 8 := by omega
  clear hsz
  have i1 : (l.length : Int) < (size : Int) := by omega
  go_enter Tryz.func117, Tryz.ntmps117
  go_wp2_with (first | (go_at_call 125; refine (isSize_yes _ HZ.out _).mono ?_; rintro e w' ⟨rfl, rfl⟩) | (go_at_call 126; refine (stopped_any rb _ cap l 0 _ h).mono ?_; rintro e w' ⟨rfl, rfl⟩) | (go_at_call 127; refine (fail_any rb a cap l 0 10 _ h).mono ?_; rintro e w' ⟨rfl, hq⟩))
  go_ret2
  exact ⟨rfl, hq⟩

set_option maxRecDepth 100000 in
set_option maxHeartbeats 1000000 in
theorem rnum_big (size : Nat) (hsz : (size : Int) = 1 ∨ (size : Int) = 2 ∨ (size : Int) = 4 ∨ (size : Int) = 8) (rb : Nat) (a : Option Addr) (cap : Nat) (l : List Nat) (hlen : size ≤ l.length) (hval : 9223372036854775808 ≤ val (l.take size)) (w : World) (h : Rd w rb a cap l 0) :
    Calls Tryz.prog 117 #[.pointer (some ⟨rb, 0, none⟩), .int .i64 size] w fun e w' => e = .returned (.tuple #[.int .i64 0, .int .i64 1]) ∧ Rd w' rb a cap l 1 ∧ Fr (fun k => k = rb) w w' := by
  obtain ⟨h0, h1, f0, f1⟩ := cell_of_two h.box
  have hle := h.row.le
  have hmx := h.row.max
  have HZ : Hid ((size : Int) = 1 ∨ (size : Int) = 2 ∨ (size : Int) = 4 ∨ (size : Int) = 8) := hsz
  have hpos : 0 < size ∧ size ≤ 8 := by omega
  clear hsz
  have htl : (l.take size).length = size := by simp; omega
  have i0 : (0 : Int) ≤ (size : Int) := by omega
  have i1 : (size : Int) ≤ (l.length : Int) := by omega
  have i2 : (size : Int) ≤ (cap : Int) := by omega
  obtain ⟨v, hv⟩ : ∃ v, v = val (l.take size) := ⟨_, rfl⟩
  have HV : Hid (val (l.take size) = v) := hv.symm
  rw [← hv] at hval
  clear hv
  have i3 : (9223372036854775807 : Int) < (v : Int) := by omega
  go_enter Tryz.func117, Tryz.ntmps117
  go_wp2_with (first | (go_at_call 125; refine (isSize_yes _ HZ.out _).mono ?_; rintro e w' ⟨rfl, rfl⟩) | (go_at_call 126; refine (stopped_any rb _ cap l 0 _ h).mono ?_; rintro e w' ⟨rfl, rfl⟩) | (go_at_call 128; refine (numberOf_any _ size cap (l.take size) htl.symm (by omega) _ (h.row.take size)).mono ?_; rw [HV.out]; rintro e w' ⟨rfl, rfl⟩) | (go_at_call 127; refine (fail_any rb a cap l 0 1 _ h).mono ?_; rintro e w' ⟨rfl, hq⟩))
  go_ret2
  exact ⟨rfl, hq⟩

set_option maxRecDepth 100000 in
set_option maxHeartbeats 400000 in
theorem left_any (rb : Nat) (a : Option Addr) (cap : Nat) (l : List Nat) (err : Int) (w : World) (h : Rd w rb a cap l err) :
    Calls Tryz.prog 107 #[.pointer (some ⟨rb, 0, none⟩)] w fun e w' => e = .returned (.int .i64 l.length) ∧ w' = w := by
  obtain ⟨h0, h1, f0, f1⟩ := cell_of_two h.box
  go_enter Tryz.func107, Tryz.ntmps107
  go_wp2
  go_ret
  exact ⟨rfl, rfl⟩
set_option maxRecDepth 100000 in
set_option maxHeartbeats 400000 in
theorem left_nil (w : World) : Calls Tryz.prog 107 #[.pointer none] w fun e w' => e = .returned (.int .i64 0) ∧ w' = w := by
  go_enter Tryz.func107, Tryz.ntmps107
  go_wp2
  go_ret
  exact ⟨rfl, rfl⟩
/-- What End tells. -/
def endOf (l : List Nat) (err : Int) : Int := if err = 0 then (if l.length = 0 then 0 else 4) else err
end Go.Proofs.YtnckmajfmkkpgaaGreat

/- What (*Reader).Text does. -/
namespace Go.Proofs.YtnckmajfmkkpgaaGreat
open Go.RowKit

set_option maxRecDepth 100000 in
set_option maxHeartbeats 400000 in
theorem rtext_arg (p : Option Addr) (most : Int) (hm : most < 0) (w : World) :
    Calls Tryz.prog 130 #[.pointer p, .int .i64 most] w fun e w' => e = .returned (.tuple #[.string ⟨#[]⟩, .int .i64 1]) ∧ w' = w := by
  go_enter Tryz.func130, Tryz.ntmps130
  go_wp2
  go_ret2
  exact ⟨rfl, rfl⟩
set_option maxRecDepth 100000 in
set_option maxHeartbeats 400000 in
theorem rtext_nil (most : Int) (hm : ¬ most < 0) (w : World) :
    Calls Tryz.prog 130 #[.pointer none, .int .i64 most] w fun e w' => e = .returned (.tuple #[.string ⟨#[]⟩, .int .i64 10]) ∧ w' = w := by
  go_enter Tryz.func130, Tryz.ntmps130
  go_wp2_with (go_at_call 126; refine (stopped_nil _).mono ?_; rintro e w' ⟨rfl, rfl⟩)
  go_ret2
  exact ⟨rfl, rfl⟩
set_option maxRecDepth 100000 in
set_option maxHeartbeats 400000 in
theorem rtext_stop (most : Int) (hm : ¬ most < 0) (rb : Nat) (a : Option Addr) (cap : Nat) (l : List Nat) (err : Int) (herr : ¬ err = 0) (w : World) (h : Rd w rb a cap l err) :
    Calls Tryz.prog 130 #[.pointer (some ⟨rb, 0, none⟩), .int .i64 most] w fun e w' => e = .returned (.tuple #[.string ⟨#[]⟩, .int .i64 err]) ∧ w' = w := by
  have hne : (err != 0) = true := by simpa using herr
  go_enter Tryz.func130, Tryz.ntmps130
  go_wp2_with (go_at_call 126; refine (stopped_any rb _ cap l err _ h).mono ?_; rintro e w' ⟨rfl, rfl⟩)
  go_ret2
  exact ⟨rfl, rfl⟩
set_option maxRecDepth 100000 in
set_option maxHeartbeats 400000 in
theorem rtext_cut0 (most : Int) (hm : ¬ most < 0) (rb : Nat) (a : Option Addr) (cap : Nat) (l : List Nat) (hlen : l.length < 2) (w : World) (h : Rd w rb a cap l 0) :
    Calls Tryz.prog 130 #[.pointer (some ⟨rb, 0, none⟩), .int .i64 most] w fun e w' => e = .returned (.tuple #[.string ⟨#[]⟩, .int .i64 10]) ∧ Rd w' rb a cap l 10 ∧ Fr (fun k => k = rb) w w' := by
  obtain ⟨h0, h1, f0, f1⟩ := cell_of_two h.box
  have i1 : (l.length : Int) < 2 := by omega
  go_enter Tryz.func130, Tryz.ntmps130
  go_wp2_with (first | (go_at_call 126; refine (stopped_any rb _ cap l 0 _ h).mono ?_; rintro e w' ⟨rfl, rfl⟩) | (go_at_call 127; refine (fail_any rb a cap l 0 10 _ h).mono ?_; rintro e w' ⟨rfl, hq⟩))
  go_ret2
  exact ⟨rfl, hq⟩

theorem row_none (w : World) (a : Option Addr) : Row w a 0 [] := ⟨Nat.le_refl _, by omega, by simp, (fun x hx => by cases hx), .inl rfl⟩
theorem val2_lt {l : List Nat} (h : octs l) : val (l.take 2) < 65536 := by
  have h1 := val_lt (octs_take h 2)
  have h2 : 256 ^ (l.take 2).length ≤ 256 ^ 2 := Nat.pow_le_pow_right (by omega) (List.length_take_le _ _)
  omega

set_option maxRecDepth 100000 in
set_option maxHeartbeats 1000000 in
theorem rtext_bad (most : Int) (hm : ¬ most < 0) (rb : Nat) (a : Option Addr) (cap : Nat) (l : List Nat) (hlen : 2 ≤ l.length) (err : Int) (hbad : (l.length < 2 + val (l.take 2) ∧ err = 10) ∨ (2 + val (l.take 2) ≤ l.length ∧ most < val (l.take 2) ∧ err = 2)) (w : World) (h : Rd w rb a cap l 0) :
    Calls Tryz.prog 130 #[.pointer (some ⟨rb, 0, none⟩), .int .i64 most] w fun e w' => e = .returned (.tuple #[.string ⟨#[]⟩, .int .i64 err]) ∧ Rd w' rb a cap l err ∧ Fr (fun k => k = rb) w w' := by
  obtain ⟨h0, h1, f0, f1⟩ := cell_of_two h.box
  have hle := h.row.le
  have hmx := h.row.max
  have htl : (l.take 2).length = 2 := by simp; omega
  have hvl := val2_lt h.row.byte
  obtain ⟨v, hv⟩ : ∃ v, v = val (l.take 2) := ⟨_, rfl⟩
  have HV : Hid (val (l.take 2) = v) := hv.symm
  rw [← hv] at hvl hbad
  clear hv
  have i1 : ¬ (l.length : Int) < 2 := by omega
  have i2 : (2 : Int) ≤ (cap : Int) := by omega
  rcases hbad with ⟨hb, rfl⟩ | ⟨hb, hb2, rfl⟩
  · have i3 : (l.length : Int) < 2 + (v : Int) := by omega
    go_enter Tryz.func130, Tryz.ntmps130
    go_wp2_with (first | (go_at_call 126; refine (stopped_any rb _ cap l 0 _ h).mono ?_; rintro e w' ⟨rfl, rfl⟩) | (go_at_call 128; refine (numberOf_any _ 2 cap (l.take 2) htl.symm (by omega) _ (h.row.take 2)).mono ?_; rw [HV.out]; rintro e w' ⟨rfl, rfl⟩) | (go_at_call 127; refine (fail_any rb a cap l 0 10 _ h).mono ?_; rintro e w' ⟨rfl, hq⟩))
    go_ret2
    exact ⟨rfl, hq⟩
  · have i3 : ¬ (l.length : Int) < 2 + (v : Int) := by omega
    go_enter Tryz.func130, Tryz.ntmps130
    go_wp2_with (first | (go_at_call 126; refine (stopped_any rb _ cap l 0 _ h).mono ?_; rintro e w' ⟨rfl, rfl⟩) | (go_at_call 128; refine (numberOf_any _ 2 cap (l.take 2) htl.symm (by omega) _ (h.row.take 2)).mono ?_; rw [HV.out]; rintro e w' ⟨rfl, rfl⟩) | (go_at_call 127; refine (fail_any rb a cap l 0 2 _ h).mono ?_; rintro e w' ⟨rfl, hq⟩))
    go_ret2
    exact ⟨rfl, hq⟩

set_option maxRecDepth 100000 in
set_option maxHeartbeats 1000000 in
theorem rtext_ok (most : Int) (hm : ¬ most < 0) (rb : Nat) (a : Option Addr) (cap : Nat) (l : List Nat) (hlen : 2 + val (l.take 2) ≤ l.length) (hmost : (val (l.take 2) : Int) ≤ most) (w : World) (h : Rd w rb a cap l 0) :
    Calls Tryz.prog 130 #[.pointer (some ⟨rb, 0, none⟩), .int .i64 most] w fun e w' => e = .returned (.tuple #[.string (strOf ((l.drop 2).take (val (l.take 2)))), .int .i64 0]) ∧
      ∃ a' c', Rd w' rb a' c' (l.drop (2 + val (l.take 2))) 0 ∧ Fr (fun k => k = rb) w w' ∧ (∀ b off sp, a' = some ⟨b, off, sp⟩ → ∃ o s, a = some ⟨b, o, s⟩) := by
  obtain ⟨h0, h1, f0, f1⟩ := cell_of_two h.box
  have hle := h.row.le
  have hmx := h.row.max
  have htl : (l.take 2).length = 2 := by simp; omega
  have hvl := val2_lt h.row.byte
  obtain ⟨v, hv⟩ : ∃ v, v = val (l.take 2) := ⟨_, rfl⟩
  have HV : Hid (val (l.take 2) = v) := hv.symm
  rw [← hv] at hvl hlen hmost ⊢
  clear hv
  obtain ⟨b, off, rfl, hb, hc⟩ : ∃ b off, a = some ⟨b, off, none⟩ ∧ b < w.heap.size ∧ ∀ i, i < l.length → w.cell? ⟨b, off + i, none⟩ = some (.int .u8 ((l.getD i 0 : Nat) : Int)) := by
    rcases h.row.at_ with e | e
    · rw [e] at hlen; simp at hlen
    · exact e
  have i1 : ¬ (l.length : Int) < 2 := by omega
  have i2 : (2 : Int) ≤ (cap : Int) := by omega
  have i3 : ¬ (l.length : Int) < 2 + (v : Int) := by omega
  have i4 : (2 : Int) + (v : Int) ≤ (cap : Int) := by omega
  have hvt : v = ((l.drop 2).take v).length := by simp; omega
  by_cases c2 : cap = 2
  · have hv0 : v = 0 := by omega
    subst hv0
    subst c2
    have hadv := h.advance hb hc 2 (by omega) off (.inl rfl)
    have el : l.length - 2 = 0 := by omega
    rw [el, Nat.sub_self] at hadv
    have hcv := run_str (P := Tryz.prog) (src := 124) (dst := 9) Tryz.underlying124 Tryz.underlying5 Tryz.underlying9 (row_none w (some ⟨b, off, none⟩)) 0 rfl
    clear el hvt
    go_enter Tryz.func130, Tryz.ntmps130
    go_wp2_with (first | (go_at_call 126; refine (stopped_any rb _ _ l 0 _ h).mono ?_; rintro e w' ⟨rfl, rfl⟩) | (go_at_call 128; refine (numberOf_any _ 2 _ (l.take 2) htl.symm (by omega) _ (h.row.take 2)).mono ?_; rw [HV.out]; rintro e w' ⟨rfl, rfl⟩))
    go_ret2
    exact ⟨rfl, hadv⟩
  · have hrow2 : Row w (some ⟨b, off + 2, none⟩) (cap - 2) (l.drop 2) := h.row.drop 2 (by omega) (off + 2) (.inr rfl) (.inr ⟨hb, hc⟩)
    have hcv := run_str (P := Tryz.prog) (src := 124) (dst := 9) Tryz.underlying124 Tryz.underlying5 Tryz.underlying9 (hrow2.take v) v hvt
    clear hvt
    by_cases cv : cap = 2 + v
    · subst cv
      have hadv := h.advance hb hc (2 + v) (by omega) off (.inl rfl)
      have el : l.length - (2 + v) = 0 := by omega
      rw [el, Nat.sub_self] at hadv
      have ec : 2 + v - 2 = v := by omega
      rw [ec] at hcv
      clear el ec
      go_enter Tryz.func130, Tryz.ntmps130
      go_wp2_with (first | (go_at_call 126; refine (stopped_any rb _ _ l 0 _ h).mono ?_; rintro e w' ⟨rfl, rfl⟩) | (go_at_call 128; refine (numberOf_any _ 2 _ (l.take 2) htl.symm (by omega) _ (h.row.take 2)).mono ?_; rw [HV.out]; rintro e w' ⟨rfl, rfl⟩))
      go_ret2
      exact ⟨rfl, hadv⟩
    · have hadv := h.advance hb hc (2 + v) (by omega) (off + (2 + v)) (.inr rfl)
      go_enter Tryz.func130, Tryz.ntmps130
      go_wp2_with (first | (go_at_call 126; refine (stopped_any rb _ _ l 0 _ h).mono ?_; rintro e w' ⟨rfl, rfl⟩) | (go_at_call 128; refine (numberOf_any _ 2 _ (l.take 2) htl.symm (by omega) _ (h.row.take 2)).mono ?_; rw [HV.out]; rintro e w' ⟨rfl, rfl⟩))
      go_ret2
      exact ⟨rfl, hadv⟩
end Go.Proofs.YtnckmajfmkkpgaaGreat

/- latticelaw01.speaks answers true. -/
namespace Go.Proofs.YtnckmajfmkkpgaaGreat
open Go.RowKit

/-- What writes only blocks that are new to 'a' leaves all of 'a'. -/
theorem Fr.above {a b c : World} {S : Nat → Prop} (h : Fr (fun _ => False) a b) (k : Fr S b c) (hS : ∀ i, S i → a.heap.size ≤ i) : Fr (fun _ => False) a c :=
  h.trans k (fun i hi s => by have := hS i s; omega)

theorem octs_app {l m : List Nat} (hl : octs l) (hm : octs m) : octs (l ++ m) := fun x hx => by
  rcases List.mem_append.mp hx with h | h
  · exact hl x h
  · exact hm x h

end Go.Proofs.YtnckmajfmkkpgaaGreat
