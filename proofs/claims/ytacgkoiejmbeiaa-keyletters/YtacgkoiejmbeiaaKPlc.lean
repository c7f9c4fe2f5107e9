/- What key.Place tells, and what the document's own Place tells; that key speaks. -/
import Derived.Test.YtacgkoiejmbeiaaKAbv
import Derived.Test.YtacgkoiejmbeiaaKStrs
namespace Go.Proofs.Ytacgkoiejmbeiaa
open Go.RowKit

/-- Where a text stands in a list. -/
def plc (k : List Nat) : List ByteArray → Nat × Bool
  | [] => (0, false)
  | x :: r => if 0 ≤ cpl (bsOf x) k then (0, decide (bsOf x = k)) else ((plc k r).1 + 1, (plc k r).2)
theorem plc_hit (k : List Nat) (l : List ByteArray) (i : Nat) (hi : i < l.length) (he : ∀ j, j < i → cpl (bsOf (l.getD j ByteArray.empty)) k < 0) (h : 0 ≤ cpl (bsOf (l.getD i ByteArray.empty)) k) : plc k l = (i, decide (bsOf (l.getD i ByteArray.empty) = k)) := by
  induction l generalizing i with
  | nil => simp at hi
  | cons x r ih => cases i with
    | zero => simp at h; simp [plc, h]
    | succ i =>
      have h0 := he 0 (by omega)
      simp at h0
      have := ih i (by simpa using hi) (fun j hj => by have := he (j + 1) (by omega); simpa using this) (by simpa using h)
      simp only [plc]
      rw [if_neg (by omega), this]
      simp
theorem plc_miss (k : List Nat) (l : List ByteArray) (he : ∀ j, j < l.length → cpl (bsOf (l.getD j ByteArray.empty)) k < 0) : plc k l = (l.length, false) := by
  induction l with
  | nil => rfl
  | cons x r ih =>
    have h0 := he 0 (by simp)
    simp at h0
    simp only [plc]
    rw [if_neg (by omega), ih (fun j hj => by have := he (j + 1) (by simpa using hj); simpa using this)]
    simp
theorem ret_ib {a b : Int} {x y : Bool} (h : a = b) (k : x = y) : Ending.returned (.tuple #[.int .i64 a, .bool x]) = .returned (.tuple #[.int .i64 b, .bool y]) := by rw [h, k]
theorem cpl_beq (a b : List Nat) : (cpl a b == 0) = decide (a = b) := by
  have := cpl_eq a b
  rw [Bool.eq_iff_iff]; simp [this]
theorem str_beq (a b : ByteArray) : (a.toList == b.toList) = decide (bsOf a = bsOf b) := by
  rw [Bool.eq_iff_iff]
  simp only [beq_iff_eq, decide_eq_true_eq]
  rw [Lib.toList_data, Lib.toList_data]
  constructor
  · intro h; unfold bsOf; rw [h]
  · intro h; rw [bs_inj h]

set_option maxHeartbeats 1000000 in
theorem place_any (a : Option Addr) (n cap : Nat) (l : List ByteArray) (hn : n = l.length) (k : ByteArray) (hk : k.size ≤ maxLen) (w : World) (hr : Strs w a cap l) :
    Calls Try.prog 23 #[.slice a n cap, .string k] w fun e w' => e = .returned (.tuple #[.int .i64 ((plc (bsOf k) l).1 : Nat), .bool (plc (bsOf k) l).2]) ∧ Fr (fun _ => False) w w' := by
  subst hn
  have hle := hr.le
  have hmx := hr.max
  rcases hr.at_ with h0 | ⟨b, off, rfl, hb, hc⟩
  · subst h0
    go_enter Try.func23, Try.ntmps23
    go_wp2
    refine wp_loop_rounds 1 ?_
    rw [rounds_succ]
    go_wp2
    go_ret2
    exact ⟨rfl, Fr.refl _ _⟩
  · go_enter Try.func23, Try.ntmps23
    go_wp2
    go_loopw [11] (fun i wr => ∃ j : Nat, j ≤ l.length ∧ i = .int .i64 j ∧ Hid (∀ x, x < j → cpl (bsOf (l.getD x ByteArray.empty)) (bsOf k) < 0) ∧ Fr (fun _ => False) w wr) (fun i _ => l.length - (intOf i).toNat)
    case atStart => exact ⟨0, by omega, rfl, (fun j h => by omega), Fr.refl _ _⟩
    case round =>
      obtain ⟨j, hj, rfl, HE, hf⟩ := hrel
      by_cases hlt : j < l.length
      · have hcell := (hf.cell (p := ⟨b, off + j, none⟩) hb (fun f => f)).trans (hc j hlt)
        have hsz := hr.text _ (strs_get hlt)
        have HH : Hid (0 ≤ cpl (bsOf (l.getD j ByteArray.empty)) (bsOf k) → plc (bsOf k) l = (j, decide (bsOf (l.getD j ByteArray.empty) = bsOf k))) := fun h => plc_hit (bsOf k) l j hlt HE.out h
        obtain ⟨s, hs⟩ : ∃ s, s = l.getD j ByteArray.empty := ⟨_, rfl⟩
        have HS : Hid (s = l.getD j ByteArray.empty) := hs
        rw [← hs] at hcell hsz HH
        clear hs
        go_wp2_with fail
        refine (compare_any s k hsz hk _).mono ?_
        rintro e w1 ⟨rfl, hf1⟩
        go_wp2
        · have h : 0 ≤ cpl (bsOf s) (bsOf k) := by assumption
          go_ret2
          exact ⟨ret_ib (by rw [HH.out h]) (by rw [HH.out h, cpl_beq]), hf.seq hf1⟩
        · have h : ¬ 0 ≤ cpl (bsOf s) (bsOf k) := by first | assumption | (have : cpl (bsOf s) (bsOf k) < 0 := by assumption); omega
          go_roundw
          case rel =>
            refine ⟨j + 1, by omega, by go_num, fun x hx => ?_, hf.seq hf1⟩
            rcases Nat.lt_or_ge x j with h2 | h2
            · exact HE.out x h2
            · have e : x = j := by omega
              rw [e, ← HS.out]; omega
          case measure => simp [intOf]; omega
      · have e : j = l.length := by omega
        subst e
        go_wp2
        go_ret2
        exact ⟨ret_ib (by rw [plc_miss (bsOf k) l HE.out]) (by rw [plc_miss (bsOf k) l HE.out]), hf⟩
set_option maxHeartbeats 1000000 in
theorem rplace_any (a : Option Addr) (n cap : Nat) (l : List ByteArray) (hn : n = l.length) (k : ByteArray) (hk : k.size ≤ maxLen) (w : World) (hr : Strs w a cap l) :
    Calls Try.prog 24 #[.slice a n cap, .string k] w fun e w' => e = .returned (.tuple #[.int .i64 ((plc (bsOf k) l).1 : Nat), .bool (plc (bsOf k) l).2]) ∧ Fr (fun _ => False) w w' := by
  subst hn
  have hle := hr.le
  have hmx := hr.max
  rcases hr.at_ with h0 | ⟨b, off, rfl, hb, hc⟩
  · subst h0
    go_enter Try.func24, Try.ntmps24
    go_wp2
    refine wp_loop_rounds 1 ?_
    rw [rounds_succ]
    go_wp2
    go_ret2
    exact ⟨rfl, Fr.refl _ _⟩
  · go_enter Try.func24, Try.ntmps24
    go_wp2
    go_loopw [10] (fun i wr => ∃ j : Nat, j ≤ l.length ∧ i = .int .i64 j ∧ Hid (∀ x, x < j → cpl (bsOf (l.getD x ByteArray.empty)) (bsOf k) < 0) ∧ Fr (fun _ => False) w wr) (fun i _ => l.length - (intOf i).toNat)
    case atStart => exact ⟨0, by omega, rfl, (fun j h => by omega), Fr.refl _ _⟩
    case round =>
      obtain ⟨j, hj, rfl, HE, hf⟩ := hrel
      by_cases hlt : j < l.length
      · have hcell := (hf.cell (p := ⟨b, off + j, none⟩) hb (fun f => f)).trans (hc j hlt)
        have hsz := hr.text _ (strs_get hlt)
        have HH : Hid (0 ≤ cpl (bsOf (l.getD j ByteArray.empty)) (bsOf k) → plc (bsOf k) l = (j, decide (bsOf (l.getD j ByteArray.empty) = bsOf k))) := fun h => plc_hit (bsOf k) l j hlt HE.out h
        obtain ⟨s, hs⟩ : ∃ s, s = l.getD j ByteArray.empty := ⟨_, rfl⟩
        have HS : Hid (s = l.getD j ByteArray.empty) := hs
        rw [← hs] at hcell hsz HH
        clear hs
        go_wp2_with fail
        refine (rcompare_any s k hsz hk _).mono ?_
        rintro e w1 ⟨rfl, hf1⟩
        go_wp2
        · have h : 0 ≤ cpl (bsOf s) (bsOf k) := by assumption
          go_ret2
          exact ⟨ret_ib (by rw [HH.out h]) (by rw [HH.out h, str_beq]), hf.seq hf1⟩
        · have h : ¬ 0 ≤ cpl (bsOf s) (bsOf k) := by first | assumption | (have : cpl (bsOf s) (bsOf k) < 0 := by assumption); omega
          go_roundw
          case rel =>
            refine ⟨j + 1, by omega, by go_num, fun x hx => ?_, hf.seq hf1⟩
            rcases Nat.lt_or_ge x j with h2 | h2
            · exact HE.out x h2
            · have e : x = j := by omega
              rw [e, ← HS.out]; omega
          case measure => simp [intOf]; omega
      · have e : j = l.length := by omega
        subst e
        go_wp2
        go_ret2
        exact ⟨ret_ib (by rw [plc_miss (bsOf k) l HE.out]) (by rw [plc_miss (bsOf k) l HE.out]), hf⟩

set_option maxRecDepth 100000 in
set_option maxHeartbeats 1000000 in
theorem kspeaks_any (w : World) : Calls Try.prog 18 #[] w fun e w' => e = .returned (.bool true) ∧ Fr (fun _ => False) w w' := by
  have c1 : cpl (bsOf ⟨#[97, 98, 99]⟩) (bsOf ⟨#[97, 98, 100, 101]⟩) = -1 := by decide +kernel
  have c2 : (ByteArray.mk #[97, 98, 100, 101]).extract 0 (cmn (bsOf ⟨#[97, 98, 99]⟩) (bsOf ⟨#[97, 98, 100, 101]⟩) + 1) = ⟨#[97, 98, 100]⟩ := by decide +kernel
  have c3 : abv ⟨#[97, 255]⟩ = ⟨#[98]⟩ := by decide +kernel
  have c4 : abvB ⟨#[97, 255]⟩ = true := by decide +kernel
  have c5 : plc (bsOf ⟨#[98]⟩) [⟨#[97]⟩, ⟨#[99]⟩] = (1, false) := by decide +kernel
  have c6 : cpl (bsOf ⟨#[97]⟩) (bsOf ⟨#[97, 98]⟩) = -1 := by decide +kernel
  have C2 : Hid ((ByteArray.mk #[97, 98, 100, 101]).extract 0 (cmn (bsOf ⟨#[97, 98, 99]⟩) (bsOf ⟨#[97, 98, 100, 101]⟩) + 1) = ⟨#[97, 98, 100]⟩) := c2
  have C3 : Hid (abv ⟨#[97, 255]⟩ = ⟨#[98]⟩ ∧ abvB ⟨#[97, 255]⟩ = true) := ⟨c3, c4⟩
  have C5 : Hid (plc (bsOf ⟨#[98]⟩) [⟨#[97]⟩, ⟨#[99]⟩] = (1, false)) := c5
  have C1 : Hid (cpl (bsOf ⟨#[97, 98, 99]⟩) (bsOf ⟨#[97, 98, 100, 101]⟩) = -1) := c1
  have C6 : Hid (cpl (bsOf ⟨#[97]⟩) (bsOf ⟨#[97, 98]⟩) = -1) := c6
  clear c1 c2 c3 c4 c5 c6
  go_enter Try.func18, Try.ntmps18
  go_wp2_with fail
  refine (between_yes _ _ (by decide) (by decide) C1.out _).mono ?_
  rw [C2.out]
  rintro e w1 ⟨rfl, f1⟩
  go_wp2_with fail
  refine (above_any _ (by decide) _).mono ?_
  rw [C3.out.1, C3.out.2]
  rintro e w2 ⟨rfl, f2⟩
  go_wp2_with fail
  refine (place_any _ 2 2 [⟨#[97]⟩, ⟨#[99]⟩] rfl _ (by decide) _ ?_).mono ?_
  · refine ⟨by simp, by omega, ?_, .inr ⟨_, 0, rfl, by simp, ?_⟩⟩
    · intro s hs
      simp at hs
      rcases hs with rfl | rfl <;> decide
    · intro i hi
      have : i = 0 ∨ i = 1 := by simp at hi; omega
      rcases this with rfl | rfl <;> simp
  rw [C5.out]
  rintro e w3 ⟨rfl, f3⟩
  go_wp2_with fail
  refine (kcheck_any _ _).mono ?_
  rintro e w4 ⟨rfl, rfl⟩
  rw [show ekey (ByteArray.mk #[]).size = 50 from rfl]
  go_wp2_with fail
  refine (kcheck_any _ _).mono ?_
  rintro e w4 ⟨rfl, rfl⟩
  rw [show ekey (ByteArray.mk #[97]).size = 0 from rfl]
  go_wp2_with fail
  refine (compare_any _ _ (by decide) (by decide) _).mono ?_
  rw [C6.out]
  rintro e w4 ⟨rfl, f4⟩
  go_wp2
  go_ret
  exact ⟨rfl, ((f1.seq f2).seq ((Fr.refl _ _).alloc _)).seq (f3.seq f4)⟩
end Go.Proofs.Ytacgkoiejmbeiaa
