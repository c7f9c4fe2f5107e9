
/- What a nil writer and a nil reader tell; the document's Fits and Sized. -/
import Derived.Test.YtbfkacahaocpfaaSpeak1
namespace Go.Proofs.Ytbfkacahaocpfaa
open Go.RowKit

def sizedB (s : Int) : Bool := decide (s = 1 ∨ s = 2 ∨ s = 4 ∨ s = 8)
def fitB (n size : Int) : Bool := decide (0 ≤ n ∧ (size = 1 ∧ n < 256 ∨ size = 2 ∧ n < 65536 ∨ size = 4 ∧ n < 4294967296 ∨ size = 8))
theorem fitB_fit {n size : Int} (h : fitB n size = true) : fit n size := by
  have := of_decide_eq_true h; exact this
theorem fitB_sized {n size : Int} (h : fitB n size = true) : size = 1 ∨ size = 2 ∨ size = 4 ∨ size = 8 := by
  have := of_decide_eq_true h; omega

set_option maxRecDepth 100000 in
set_option maxHeartbeats 400000 in
theorem fits_no (n size : Int) (hs : size = 1 ∨ size = 2 ∨ size = 4 ∨ size = 8) (h : fitB n size = false) (hb : -9223372036854775808 ≤ n ∧ n ≤ 9223372036854775807) (w : World) : Calls Try.prog 44 #[.int .i64 n, .int .i64 size] w fun e w' => e = .returned (.bool false) ∧ w' = w := by
  have hn := of_decide_eq_false h
  clear h
  by_cases hneg : n < 0
  · have hg : ¬ 0 ≤ n := by omega
    clear hn
    rcases hs with rfl | rfl | rfl | rfl <;>
      (go_enter Try.func44, Try.ntmps44; go_wp2; go_ret; exact ⟨rfl, rfl⟩)
  · have hg : 0 ≤ n := by omega
    rcases hs with rfl | rfl | rfl | rfl
    · have e : ¬ n / 256 = 0 := by omega
      have e2 : (n / 256 == 0) = false := by simpa using e
      clear hn e
      go_enter Try.func44, Try.ntmps44; go_wp2; go_ret; exact ⟨rfl, rfl⟩
    · have e : ¬ n / 65536 = 0 := by omega
      have e2 : (n / 65536 == 0) = false := by simpa using e
      clear hn e
      go_enter Try.func44, Try.ntmps44; go_wp2; go_ret; exact ⟨rfl, rfl⟩
    · have e : ¬ n / 4294967296 = 0 := by omega
      have e2 : (n / 4294967296 == 0) = false := by simpa using e
      clear hn e
      go_enter Try.func44, Try.ntmps44; go_wp2; go_ret; exact ⟨rfl, rfl⟩
    · exact absurd ⟨hg, .inr (.inr (.inr rfl))⟩ hn

/-- A number that does not fit, whatever the writer. -/
theorem wnum_no (p : Option Addr) (n size : Int) (h : fitB n size = false) (hb : -9223372036854775808 ≤ n ∧ n ≤ 9223372036854775807) (w : World) :
    Calls Try.prog 30 #[.pointer p, .int .i64 n, .int .i64 size] w fun e w' => e = .returned (.int .i64 1) ∧ w' = w := by
  have HF : Hid (fitB n size = false) := h
  have HB : Hid (-9223372036854775808 ≤ n ∧ n ≤ 9223372036854775807) := hb
  by_cases hs : size = 1 ∨ size = 2 ∨ size = 4 ∨ size = 8
  · have HS : Hid (size = 1 ∨ size = 2 ∨ size = 4 ∨ size = 8) := hs
    clear hs h hb
    go_enter Try.func30, Try.ntmps30
    go_wp2_with (first | (go_at_call 43; refine (isSize_yes _ HS.out _).mono ?_; rintro e w' ⟨rfl, rfl⟩) | (go_at_call 44; refine (fits_no _ _ HS.out HF.out HB.out _).mono ?_; rintro e w' ⟨rfl, rfl⟩))
    go_ret
    exact ⟨rfl, rfl⟩
  · have H1 : Hid (¬ size = 1) := fun e => hs (.inl e)
    have H2 : Hid (¬ size = 2) := fun e => hs (.inr (.inl e))
    have H4 : Hid (¬ size = 4) := fun e => hs (.inr (.inr (.inl e)))
    have H8 : Hid (¬ size = 8) := fun e => hs (.inr (.inr (.inr e)))
    clear hs h hb
    go_enter Try.func30, Try.ntmps30
    go_wp2_with (go_at_call 43; refine (isSize_no _ H1.out H2.out H4.out H8.out _).mono ?_; rintro e w' ⟨rfl, rfl⟩)
    go_ret
    exact ⟨rfl, rfl⟩
theorem wnum_nil (n size : Int) (h : fitB n size = true) (w : World) :
    Calls Try.prog 30 #[.pointer none, .int .i64 n, .int .i64 size] w fun e w' => e = .returned (.int .i64 7) ∧ w' = w := by
  have HF : Hid (fitB n size = true) := h
  clear h
  go_enter Try.func30, Try.ntmps30
  go_wp2_with (first | (go_at_call 43; refine (isSize_yes _ (fitB_sized HF.out) _).mono ?_; rintro e w' ⟨rfl, rfl⟩) | (go_at_call 44; refine (fits_yes _ _ (fitB_fit HF.out) _).mono ?_; rintro e w' ⟨rfl, rfl⟩))
  go_ret
  exact ⟨rfl, rfl⟩
theorem wnum_nil_any (n size : Int) (hb : -9223372036854775808 ≤ n ∧ n ≤ 9223372036854775807) (w : World) :
    Calls Try.prog 30 #[.pointer none, .int .i64 n, .int .i64 size] w fun e w' => e = .returned (.int .i64 (cond (fitB n size) 7 1)) ∧ w' = w := by
  cases h : fitB n size
  · exact wnum_no none n size h hb w
  · exact wnum_nil n size h w

set_option maxRecDepth 100000 in
set_option maxHeartbeats 400000 in
theorem refSized_any (s : Int) (w : World) : Calls Try.prog 51 #[.int .i64 s] w fun e w' => e = .returned (.bool (sizedB s)) ∧ w' = w := by
  by_cases h : s = 1 ∨ s = 2 ∨ s = 4 ∨ s = 8
  · rw [show sizedB s = true from decide_eq_true h]
    rcases h with rfl | rfl | rfl | rfl <;>
      (go_enter Try.func51, Try.ntmps51; go_wp2; go_ret; exact ⟨rfl, rfl⟩)
  · rw [show sizedB s = false from decide_eq_false h]
    have g1 : (s == 1) = false := by simpa using fun e => h (.inl e)
    have g2 : (s == 2) = false := by simpa using fun e => h (.inr (.inl e))
    have g4 : (s == 4) = false := by simpa using fun e => h (.inr (.inr (.inl e)))
    have g8 : (s == 8) = false := by simpa using fun e => h (.inr (.inr (.inr e)))
    clear h
    go_enter Try.func51, Try.ntmps51; go_wp2; go_ret; exact ⟨rfl, rfl⟩

theorem rnum_nil_any (size : Int) (w : World) :
    Calls Try.prog 49 #[.pointer none, .int .i64 size] w fun e w' => e = .returned (.tuple #[.int .i64 0, .int .i64 (cond (sizedB size) 10 1)]) ∧ w' = w := by
  by_cases h : size = 1 ∨ size = 2 ∨ size = 4 ∨ size = 8
  · rw [show sizedB size = true from decide_eq_true h]; exact rnum_nil size h w
  · rw [show sizedB size = false from decide_eq_false h]; exact rnum_arg none size (fun e => h (.inl e)) (fun e => h (.inr (.inl e))) (fun e => h (.inr (.inr (.inl e)))) (fun e => h (.inr (.inr (.inr e)))) w
end Go.Proofs.Ytbfkacahaocpfaa
