
/- What (*Reader).Text does. -/
import Derived.Test.YtaaedmacefiinaaRead2
namespace Go.Proofs.Ytaaedmacefiinaa
open Go.RowKit

set_option maxRecDepth 100000 in
set_option maxHeartbeats 400000 in
theorem rtext_arg (p : Option Addr) (most : Int) (hm : most < 0) (w : World) :
    Calls Try.prog 118 #[.pointer p, .int .i64 most] w fun e w' => e = .returned (.tuple #[.string ⟨#[]⟩, .int .i64 1]) ∧ w' = w := by
  go_enter Try.func118, Try.ntmps118
  go_wp2
  go_ret2
  exact ⟨rfl, rfl⟩
set_option maxRecDepth 100000 in
set_option maxHeartbeats 400000 in
theorem rtext_nil (most : Int) (hm : ¬ most < 0) (w : World) :
    Calls Try.prog 118 #[.pointer none, .int .i64 most] w fun e w' => e = .returned (.tuple #[.string ⟨#[]⟩, .int .i64 10]) ∧ w' = w := by
  go_enter Try.func118, Try.ntmps118
  go_wp2_with (go_at_call 115; refine (stopped_nil _).mono ?_; rintro e w' ⟨rfl, rfl⟩)
  go_ret2
  exact ⟨rfl, rfl⟩
set_option maxRecDepth 100000 in
set_option maxHeartbeats 400000 in
theorem rtext_stop (most : Int) (hm : ¬ most < 0) (rb : Nat) (a : Option Addr) (cap : Nat) (l : List Nat) (err : Int) (herr : ¬ err = 0) (w : World) (h : Rd w rb a cap l err) :
    Calls Try.prog 118 #[.pointer (some ⟨rb, 0, none⟩), .int .i64 most] w fun e w' => e = .returned (.tuple #[.string ⟨#[]⟩, .int .i64 err]) ∧ w' = w := by
  have hne : (err != 0) = true := by simpa using herr
  go_enter Try.func118, Try.ntmps118
  go_wp2_with (go_at_call 115; refine (stopped_any rb _ cap l err _ h).mono ?_; rintro e w' ⟨rfl, rfl⟩)
  go_ret2
  exact ⟨rfl, rfl⟩
set_option maxRecDepth 100000 in
set_option maxHeartbeats 400000 in
theorem rtext_cut0 (most : Int) (hm : ¬ most < 0) (rb : Nat) (a : Option Addr) (cap : Nat) (l : List Nat) (hlen : l.length < 2) (w : World) (h : Rd w rb a cap l 0) :
    Calls Try.prog 118 #[.pointer (some ⟨rb, 0, none⟩), .int .i64 most] w fun e w' => e = .returned (.tuple #[.string ⟨#[]⟩, .int .i64 10]) ∧ Rd w' rb a cap l 10 ∧ Fr (fun k => k = rb) w w' := by
  obtain ⟨h0, h1, f0, f1⟩ := cell_of_two h.box
  have i1 : (l.length : Int) < 2 := by omega
  go_enter Try.func118, Try.ntmps118
  go_wp2_with (first | (go_at_call 115; refine (stopped_any rb _ cap l 0 _ h).mono ?_; rintro e w' ⟨rfl, rfl⟩) | (go_at_call 116; refine (fail_any rb a cap l 0 10 _ h).mono ?_; rintro e w' ⟨rfl, hq⟩))
  go_ret2
  exact ⟨rfl, hq⟩

theorem row_none (w : World) (a : Option Addr) : Row w a 0 [] := ⟨Nat.le_refl _, by omega, by simp, (fun x hx => by cases hx), .inl rfl⟩
theorem val2_lt {l : List Nat} (h : octs l) : val (l.take 2) < 65536 := by
  have h1 := val_lt (octs_take h 2)
  have h2 : 256 ^ (l.take 2).length ≤ 256 ^ 2 := Nat.pow_le_pow_right (by omega) (List.length_take_le _ _)
  omega

set_option maxRecDepth 100000 in
set_option maxHeartbeats 1000000 in
theorem rtext_bad (most : Int) (hm : ¬ most < 0) (rb : Nat) (a : Option Addr) (cap : Nat) (l : List Nat) (hlen : 2 ≤ l.length) (err : Int) (hbad : (l.length < 2 + val (l.take 2) ∧ err = 10) ∨ (2 + val (l.take 2) ≤ l.length ∧ most < val (l.take 2) ∧ err = 2)) (w : World) (h : Rd w rb a cap l 0) :
    Calls Try.prog 118 #[.pointer (some ⟨rb, 0, none⟩), .int .i64 most] w fun e w' => e = .returned (.tuple #[.string ⟨#[]⟩, .int .i64 err]) ∧ Rd w' rb a cap l err ∧ Fr (fun k => k = rb) w w' := by
  obtain ⟨h0, h1, f0, f1⟩ := cell_of_two h.box
  have hle := h.row.le
  have hmx := h.row.max
  have htl : (l.take 2).length = 2 := by simp; omega
  have hvl := val2_lt h.row.byte
  obtain ⟨v, hv⟩ : ∃ v, v = val (l.take 2) := ⟨_, rfl⟩
  have HV : Hid (val (l.take 2) = v) := hv.symm
  rw [← hv] at hvl hbad
  clear hv
  have i1 : ¬ (l.length : Int) < 2 := by omega
  have i2 : (2 : Int) ≤ (cap : Int) := by omega
  rcases hbad with ⟨hb, rfl⟩ | ⟨hb, hb2, rfl⟩
  · have i3 : (l.length : Int) < 2 + (v : Int) := by omega
    go_enter Try.func118, Try.ntmps118
    go_wp2_with (first | (go_at_call 115; refine (stopped_any rb _ cap l 0 _ h).mono ?_; rintro e w' ⟨rfl, rfl⟩) | (go_at_call 117; refine (numberOf_any _ 2 cap (l.take 2) htl.symm (by omega) _ (h.row.take 2)).mono ?_; rw [HV.out]; rintro e w' ⟨rfl, rfl⟩) | (go_at_call 116; refine (fail_any rb a cap l 0 10 _ h).mono ?_; rintro e w' ⟨rfl, hq⟩))
    go_ret2
    exact ⟨rfl, hq⟩
  · have i3 : ¬ (l.length : Int) < 2 + (v : Int) := by omega
    go_enter Try.func118, Try.ntmps118
    go_wp2_with (first | (go_at_call 115; refine (stopped_any rb _ cap l 0 _ h).mono ?_; rintro e w' ⟨rfl, rfl⟩) | (go_at_call 117; refine (numberOf_any _ 2 cap (l.take 2) htl.symm (by omega) _ (h.row.take 2)).mono ?_; rw [HV.out]; rintro e w' ⟨rfl, rfl⟩) | (go_at_call 116; refine (fail_any rb a cap l 0 2 _ h).mono ?_; rintro e w' ⟨rfl, hq⟩))
    go_ret2
    exact ⟨rfl, hq⟩

set_option maxRecDepth 100000 in
set_option maxHeartbeats 1000000 in
theorem rtext_ok (most : Int) (hm : ¬ most < 0) (rb : Nat) (a : Option Addr) (cap : Nat) (l : List Nat) (hlen : 2 + val (l.take 2) ≤ l.length) (hmost : (val (l.take 2) : Int) ≤ most) (w : World) (h : Rd w rb a cap l 0) :
    Calls Try.prog 118 #[.pointer (some ⟨rb, 0, none⟩), .int .i64 most] w fun e w' => e = .returned (.tuple #[.string (strOf ((l.drop 2).take (val (l.take 2)))), .int .i64 0]) ∧
      ∃ a' c', Rd w' rb a' c' (l.drop (2 + val (l.take 2))) 0 ∧ Fr (fun k => k = rb) w w' ∧ (∀ b off sp, a' = some ⟨b, off, sp⟩ → ∃ o s, a = some ⟨b, o, s⟩) := by
  obtain ⟨h0, h1, f0, f1⟩ := cell_of_two h.box
  have hle := h.row.le
  have hmx := h.row.max
  have htl : (l.take 2).length = 2 := by simp; omega
  have hvl := val2_lt h.row.byte
  obtain ⟨v, hv⟩ : ∃ v, v = val (l.take 2) := ⟨_, rfl⟩
  have HV : Hid (val (l.take 2) = v) := hv.symm
  rw [← hv] at hvl hlen hmost ⊢
  clear hv
  obtain ⟨b, off, rfl, hb, hc⟩ : ∃ b off, a = some ⟨b, off, none⟩ ∧ b < w.heap.size ∧ ∀ i, i < l.length → w.cell? ⟨b, off + i, none⟩ = some (.int .u8 ((l.getD i 0 : Nat) : Int)) := by
    rcases h.row.at_ with e | e
    · rw [e] at hlen; simp at hlen
    · exact e
  have i1 : ¬ (l.length : Int) < 2 := by omega
  have i2 : (2 : Int) ≤ (cap : Int) := by omega
  have i3 : ¬ (l.length : Int) < 2 + (v : Int) := by omega
  have i4 : (2 : Int) + (v : Int) ≤ (cap : Int) := by omega
  have hvt : v = ((l.drop 2).take v).length := by simp; omega
  by_cases c2 : cap = 2
  · have hv0 : v = 0 := by omega
    subst hv0
    subst c2
    have hadv := h.advance hb hc 2 (by omega) off (.inl rfl)
    have el : l.length - 2 = 0 := by omega
    rw [el, Nat.sub_self] at hadv
    have hcv := run_str (P := Try.prog) (src := 26) (dst := 9) Try.underlying26 Try.underlying5 Try.underlying9 (row_none w (some ⟨b, off, none⟩)) 0 rfl
    clear el hvt
    go_enter Try.func118, Try.ntmps118
    go_wp2_with (first | (go_at_call 115; refine (stopped_any rb _ _ l 0 _ h).mono ?_; rintro e w' ⟨rfl, rfl⟩) | (go_at_call 117; refine (numberOf_any _ 2 _ (l.take 2) htl.symm (by omega) _ (h.row.take 2)).mono ?_; rw [HV.out]; rintro e w' ⟨rfl, rfl⟩))
    go_ret2
    exact ⟨rfl, hadv⟩
  · have hrow2 : Row w (some ⟨b, off + 2, none⟩) (cap - 2) (l.drop 2) := h.row.drop 2 (by omega) (off + 2) (.inr rfl) (.inr ⟨hb, hc⟩)
    have hcv := run_str (P := Try.prog) (src := 26) (dst := 9) Try.underlying26 Try.underlying5 Try.underlying9 (hrow2.take v) v hvt
    clear hvt
    by_cases cv : cap = 2 + v
    · subst cv
      have hadv := h.advance hb hc (2 + v) (by omega) off (.inl rfl)
      have el : l.length - (2 + v) = 0 := by omega
      rw [el, Nat.sub_self] at hadv
      have ec : 2 + v - 2 = v := by omega
      rw [ec] at hcv
      clear el ec
      go_enter Try.func118, Try.ntmps118
      go_wp2_with (first | (go_at_call 115; refine (stopped_any rb _ _ l 0 _ h).mono ?_; rintro e w' ⟨rfl, rfl⟩) | (go_at_call 117; refine (numberOf_any _ 2 _ (l.take 2) htl.symm (by omega) _ (h.row.take 2)).mono ?_; rw [HV.out]; rintro e w' ⟨rfl, rfl⟩))
      go_ret2
      exact ⟨rfl, hadv⟩
    · have hadv := h.advance hb hc (2 + v) (by omega) (off + (2 + v)) (.inr rfl)
      go_enter Try.func118, Try.ntmps118
      go_wp2_with (first | (go_at_call 115; refine (stopped_any rb _ _ l 0 _ h).mono ?_; rintro e w' ⟨rfl, rfl⟩) | (go_at_call 117; refine (numberOf_any _ 2 _ (l.take 2) htl.symm (by omega) _ (h.row.take 2)).mono ?_; rw [HV.out]; rintro e w' ⟨rfl, rfl⟩))
      go_ret2
      exact ⟨rfl, hadv⟩
end Go.Proofs.Ytaaedmacefiinaa
