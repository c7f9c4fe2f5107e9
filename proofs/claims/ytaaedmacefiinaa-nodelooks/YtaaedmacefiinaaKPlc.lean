
/- What key.Place tells, and what the document's own Place tells; that key speaks. -/
import Derived.Test.YtaaedmacefiinaaKAbv
import Derived.Test.YtaaedmacefiinaaKStrs
namespace Go.Proofs.Ytaaedmacefiinaa
open Go.RowKit

/-- Where a text stands in a list. -/
def plc (k : List Nat) : List ByteArray → Nat × Bool
  | [] => (0, false)
  | x :: r => if 0 ≤ cpl (bsOf x) k then (0, decide (bsOf x = k)) else ((plc k r).1 + 1, (plc k r).2)
theorem plc_hit (k : List Nat) (l : List ByteArray) (i : Nat) (hi : i < l.length) (he : ∀ j, j < i → cpl (bsOf (l.getD j ByteArray.empty)) k < 0) (h : 0 ≤ cpl (bsOf (l.getD i ByteArray.empty)) k) : plc k l = (i, decide (bsOf (l.getD i ByteArray.empty) = k)) := by
  induction l generalizing i with
  | nil => simp at hi
  | cons x r ih => cases i with
    | zero => simp at h; simp [plc, h]
    | succ i =>
      have h0 := he 0 (by omega)
      simp at h0
      have := ih i (by simpa using hi) (fun j hj => by have := he (j + 1) (by omega); simpa using this) (by simpa using h)
      simp only [plc]
      rw [if_neg (by omega), this]
      simp
theorem plc_miss (k : List Nat) (l : List ByteArray) (he : ∀ j, j < l.length → cpl (bsOf (l.getD j ByteArray.empty)) k < 0) : plc k l = (l.length, false) := by
  induction l with
  | nil => rfl
  | cons x r ih =>
    have h0 := he 0 (by simp)
    simp at h0
    simp only [plc]
    rw [if_neg (by omega), ih (fun j hj => by have := he (j + 1) (by simpa using hj); simpa using this)]
    simp
theorem ret_ib {a b : Int} {x y : Bool} (h : a = b) (k : x = y) : Ending.returned (.tuple #[.int .i64 a, .bool x]) = .returned (.tuple #[.int .i64 b, .bool y]) := by rw [h, k]
theorem cpl_beq (a b : List Nat) : (cpl a b == 0) = decide (a = b) := by
  have := cpl_eq a b
  rw [Bool.eq_iff_iff]; simp [this]
theorem str_beq (a b : ByteArray) : (a.toList == b.toList) = decide (bsOf a = bsOf b) := by
  rw [Bool.eq_iff_iff]
  simp only [beq_iff_eq, decide_eq_true_eq]
  rw [Lib.toList_data, Lib.toList_data]
  constructor
  · intro h; unfold bsOf; rw [h]
  · intro h; rw [bs_inj h]

set_option maxRecDepth 100000 in
set_option maxHeartbeats 1000000 in
theorem place_any (a : Option Addr) (n cap : Nat) (l : List ByteArray) (hn : n = l.length) (k : ByteArray) (hk : k.size ≤ maxLen) (w : World) (hr : Strs w a cap l) :
    Calls Try.prog 59 #[.slice a n cap, .string k] w fun e w' => e = .returned (.tuple #[.int .i64 ((plc (bsOf k) l).1 : Nat), .bool (plc (bsOf k) l).2]) ∧ Fr (fun _ => False) w w' := by
  subst hn
  have hle := hr.le
  have hmx := hr.max
  rcases hr.at_ with h0 | ⟨b, off, rfl, hb, hc⟩
  · subst h0
    go_enter Try.func59, Try.ntmps59
    go_wp2
    refine wp_loop_rounds 1 ?_
    rw [rounds_succ]
    go_wp2
    go_ret2
    exact ⟨rfl, Fr.refl _ _⟩
  · go_enter Try.func59, Try.ntmps59
    go_wp2
    go_loopw [11] (fun i wr => ∃ j : Nat, j ≤ l.length ∧ i = .int .i64 j ∧ Hid (∀ x, x < j → cpl (bsOf (l.getD x ByteArray.empty)) (bsOf k) < 0) ∧ Fr (fun _ => False) w wr) (fun i _ => l.length - (intOf i).toNat)
    case atStart => exact ⟨0, by omega, rfl, (fun j h => by omega), Fr.refl _ _⟩
    case round =>
      obtain ⟨j, hj, rfl, HE, hf⟩ := hrel
      by_cases hlt : j < l.length
      · have hcell := (hf.cell (p := ⟨b, off + j, none⟩) hb (fun f => f)).trans (hc j hlt)
        have hsz := hr.text _ (strs_get hlt)
        have HH : Hid (0 ≤ cpl (bsOf (l.getD j ByteArray.empty)) (bsOf k) → plc (bsOf k) l = (j, decide (bsOf (l.getD j ByteArray.empty) = bsOf k))) := fun h => plc_hit (bsOf k) l j hlt HE.out h
        obtain ⟨s, hs⟩ : ∃ s, s = l.getD j ByteArray.empty := ⟨_, rfl⟩
        have HS : Hid (s = l.getD j ByteArray.empty) := hs
        rw [← hs] at hcell hsz HH
        clear hs
        go_wp2_with fail
        refine (compare_any s k hsz hk _).mono ?_
        rintro e w1 ⟨rfl, hf1⟩
        go_wp2
        · have h : 0 ≤ cpl (bsOf s) (bsOf k) := by assumption
          go_ret2
          exact ⟨ret_ib (by rw [HH.out h]) (by rw [HH.out h, cpl_beq]), hf.seq hf1⟩
        · have h : ¬ 0 ≤ cpl (bsOf s) (bsOf k) := by first | assumption | (have : cpl (bsOf s) (bsOf k) < 0 := by assumption); omega
          go_roundw
          case rel =>
            refine ⟨j + 1, by omega, by go_num, fun x hx => ?_, hf.seq hf1⟩
            rcases Nat.lt_or_ge x j with h2 | h2
            · exact HE.out x h2
            · have e : x = j := by omega
              rw [e, ← HS.out]; omega
          case measure => simp [intOf]; omega
      · have e : j = l.length := by omega
        subst e
        go_wp2
        go_ret2
        exact ⟨ret_ib (by rw [plc_miss (bsOf k) l HE.out]) (by rw [plc_miss (bsOf k) l HE.out]), hf⟩
end Go.Proofs.Ytaaedmacefiinaa
