
/- Majorities and sets: what the program tells. -/
import Derived.Test.YtbfkacahaocpfaaQuPure
namespace Go.Proofs.Ytbfkacahaocpfaa
open Go.RowKit
open Go.Proofs.Ytbfkacahaocpfaa.Qu

theorem and_one : ∀ x : Fin 128, bits BinOp.and IntKind.i64 ((x.1 : Nat) : Int) 1 = ((x.1 : Nat) : Int) % 2 := by decide +kernel
theorem and_one' {x : Int} (h0 : 0 ≤ x) (h1 : x < 128) : bits BinOp.and IntKind.i64 x 1 = x % 2 := by
  have := and_one ⟨x.toNat, by omega⟩
  rwa [show (((⟨x.toNat, by omega⟩ : Fin 128).1 : Nat) : Int) = x by simp; omega] at this
theorem isIn_any (a i : Int) (h0 : 0 ≤ a) (h1 : a < 128) (hi : 0 ≤ i) (hj : i < 7) (w : World) : Calls Try.prog 59 #[.int .i64 a, .int .i64 i] w fun e w' => e = .returned (.bool (inB a i.toNat)) ∧ w' = w := by
  have hp : (0 : Int) < 2 ^ i.toNat := Int.pow_pos (by decide)
  have d0 : 0 ≤ a / 2 ^ i.toNat := Int.ediv_nonneg h0 (by omega)
  have d1 : a / 2 ^ i.toNat < 128 := Int.lt_of_le_of_lt (Int.ediv_le_self _ h0) h1
  have hE := and_one' d0 d1
  clear hp d0 d1
  go_enter Try.func59, Try.ntmps59
  go_wp2
  go_ret
  exact ⟨rfl, rfl⟩
theorem majority_any (n : Int) (w : World) : Calls Try.prog 53 #[.int .i64 n] w fun e w' => e = .returned (.tuple #[.int .i64 (majN n), .int .i64 (nE n)]) ∧ w' = w := by
  by_cases h1 : n < 1
  · rw [show majN n = 0 by simp [majN, nOk]; omega, show nE n = 1 by simp [nE, nOk]; omega]
    go_enter Try.func53, Try.ntmps53
    go_wp2
    go_ret2
    exact ⟨rfl, rfl⟩
  · by_cases h2 : 7 < n
    · rw [show majN n = 0 by simp [majN, nOk]; omega, show nE n = 1 by simp [nE, nOk]; omega]
      have h1' : decide (n < 1) = false := by simpa using h1
      go_enter Try.func53, Try.ntmps53
      go_wp2
      go_ret2
      exact ⟨rfl, rfl⟩
    · have h1' : decide (n < 1) = false := by simpa using h1
      have h2' : decide (7 < n) = false := by simpa using h2
      have h3 : nOk n = true := nOk_yes (by omega) (by omega)
      rw [show majN n = n / 2 + 1 by simp [majN, h3], show nE n = 0 by simp [nE, h3]]
      go_enter Try.func53, Try.ntmps53
      go_wp2
      go_ret2
      exact ⟨rfl, rfl⟩

theorem look_no {n : Int} (h : nOk n = false) (xs : List Int) : lookE n xs = 1 := by simp [lookE, h]
set_option maxRecDepth 100000 in
set_option maxHeartbeats 4000000 in
theorem look_any (n : Int) (a : Option Addr) (len c : Nat) (xs : List Int) (hl : len = xs.length) (w : World) (h : Is w a c xs) : Calls Try.prog 52 #[.int .i64 n, .slice a len c] w fun e w' => e = .returned (.int .i64 (lookE n xs)) ∧ w' = w := by
  subst hl
  have hmj := majority_any n w
  cases hn : nOk n with
  | false =>
    rw [look_no hn]
    rw [show nE n = 1 by simp [nE, hn]] at hmj
    clear hn h
    go_enter Try.func52, Try.ntmps52
    go_wp2_with (go_at_call 53; refine hmj.mono ?_; rintro e w1 ⟨rfl, rfl⟩)
    go_ret
    exact ⟨rfl, rfl⟩
  | true =>
    obtain ⟨h1, h2⟩ := nOk_iff.1 hn
    have hE : lookE n xs = if xs.all (sB n) = true then 0 else 4 := by simp [lookE, hn]
    rw [show nE n = 0 by simp [nE, hn]] at hmj
    have hle := h.le
    have hmx := h.max
    have HS : Hid (Is w a c xs) := h
    have HE : Hid (lookE n xs = if xs.all (sB n) = true then 0 else 4) := hE
    have hp1 : (2 : Int) ^ n.toNat ≤ 128 := pow_le7 h2
    have hp0 : (0 : Int) < 2 ^ n.toNat := Int.pow_pos (by decide)
    clear h hn hE
    go_enter Try.func52, Try.ntmps52
    go_wp2_with (go_at_call 53; refine hmj.mono ?_; rintro e w1 ⟨rfl, rfl⟩)
    go_loopw [19] (fun i wr => ∃ k : Nat, k ≤ xs.length ∧ i = .int .i64 k ∧ wr = w1 ∧ Hid ((xs.take k).all (sB n) = true)) (fun i _ => xs.length - (intOf i).toNat)
    case atStart => exact ⟨0, by omega, rfl, rfl, by show _ = _; simp⟩
    case round =>
      obtain ⟨k, hk, rfl, rfl, HA⟩ := hrel
      by_cases hlt : k < xs.length
      · obtain ⟨x, hx⟩ : ∃ x, xs[k]? = some x := ⟨_, List.getElem?_eq_getElem hlt⟩
        obtain ⟨b, off, rfl, hb, hc⟩ := HS.out.some (by omega)
        have q0 := hc k x hx
        have HX : Hid (xs[k]? = some x) := hx
        clear hc hx
        by_cases g1 : x < 0
        · go_wp2
          go_ret
          refine ⟨?_, rfl⟩
          rw [HE.out, if_neg (by
            intro e
            have := sB_iff.1 (List.all_eq_true.1 e x (List.mem_of_getElem? HX.out))
            omega)]
          rfl
        · have g1' : decide (x < 0) = false := by simpa using g1
          by_cases g2 : 2 ^ n.toNat ≤ x
          · go_wp2
            go_ret
            refine ⟨?_, rfl⟩
            rw [HE.out, if_neg (by
              intro e
              have := sB_iff.1 (List.all_eq_true.1 e x (List.mem_of_getElem? HX.out))
              omega)]
            rfl
          · have g2' : decide (2 ^ n.toNat ≤ x) = false := by simpa using g2
            go_wp2
            refine ⟨⟨k + 1, by omega, by simp, trivial, ?_⟩, by simp [intOf]; omega⟩
            show _ = _
            rw [List.take_add_one, HX.out, List.all_append, HA.out]
            simp [sB]
            omega
      · have hke : k = xs.length := by omega
        subst hke
        go_wp2
        go_ret
        refine ⟨?_, rfl⟩
        have := HA.out
        rw [List.take_length] at this
        rw [HE.out, if_pos this]
        rfl

theorem shl_small {n : Int} (_ : 0 ≤ n) (h2 : n ≤ 7) : (0 : Int) < 2 ^ n.toNat ∧ (2 : Int) ^ n.toNat ≤ 128 := ⟨Int.pow_pos (by decide), pow_le7 h2⟩
theorem or_pow : ∀ (x : Fin 128) (i : Fin 7), bits BinOp.or IntKind.i64 ((x.1 : Nat) : Int) (2 ^ i.1) = if inB ((x.1 : Nat) : Int) i.1 then ((x.1 : Nat) : Int) else ((x.1 : Nat) : Int) + 2 ^ i.1 := by decide +kernel
/-- A set with a node. -/
def withN (a : Int) (i : Nat) : Int := if inB a i then a else a + 2 ^ i
theorem or_pow' {x i : Int} (h0 : 0 ≤ x) (h1 : x < 128) (hi : 0 ≤ i) (hj : i < 7) : bits BinOp.or IntKind.i64 x (2 ^ i.toNat) = withN x i.toNat := by
  have := or_pow ⟨x.toNat, by omega⟩ ⟨i.toNat, by omega⟩
  rwa [show (((⟨x.toNat, by omega⟩ : Fin 128).1 : Nat) : Int) = x by simp; omega] at this
def withE (n a i : Int) : Int := if lookE n [a] = 0 then (if 0 ≤ i ∧ i < n then 0 else 6) else lookE n [a]
def withR (n a i : Int) : Int := if withE n a i = 0 then withN a i.toNat else 0
theorem look_ok {n : Int} {xs : List Int} (h : lookE n xs = 0) : 1 ≤ n ∧ n ≤ 7 ∧ ∀ x ∈ xs, sB n x = true := by
  unfold lookE at h
  split at h
  · rename_i hn
    split at h
    · rename_i hx
      exact ⟨(nOk_iff.1 hn).1, (nOk_iff.1 hn).2, List.all_eq_true.1 hx⟩
    · omega
  · omega
set_option maxRecDepth 100000 in
set_option maxHeartbeats 4000000 in
theorem with_any (n a i : Int) (w : World) : Calls Try.prog 40 #[.int .i64 n, .int .i64 a, .int .i64 i] w fun e w' => e = .returned (.tuple #[.int .i64 (withR n a i), .int .i64 (withE n a i)]) ∧ Fr (fun _ => False) w w' := by
  have hlk := look_any n (some ⟨w.heap.size, 0, none⟩) 1 1 [a] rfl _ (is_lit w [a] (by simp))
  rw [show ([a].map zI).toArray = #[.int .i64 a] by rfl] at hlk
  have HF : Hid (Fr (fun _ => False) w (w.alloc (.cells #[.int .i64 a] 3))) := Fr.box _ _
  by_cases hz : lookE n [a] = 0
  · obtain ⟨h1, h2, h3⟩ := look_ok hz
    have h4 := sB_lt h2 (h3 a (by simp))
    rw [hz] at hlk
    by_cases g1 : i < 0
    · rw [show withE n a i = 6 by unfold withE; rw [if_pos hz, if_neg (by omega)], show withR n a i = 0 by unfold withR withE; rw [if_pos hz, if_neg (by omega)]]
      clear hz h3
      go_enter Try.func40, Try.ntmps40
      go_wp2_with (go_at_call 52; refine hlk.mono ?_; rintro e w1 ⟨rfl, rfl⟩)
      go_ret2
      exact ⟨rfl, HF.out⟩
    · have g1' : decide (i < 0) = false := by simpa using g1
      by_cases g2 : n ≤ i
      · rw [show withE n a i = 6 by unfold withE; rw [if_pos hz, if_neg (by omega)], show withR n a i = 0 by unfold withR withE; rw [if_pos hz, if_neg (by omega)]]
        clear hz h3
        go_enter Try.func40, Try.ntmps40
        go_wp2_with (go_at_call 52; refine hlk.mono ?_; rintro e w1 ⟨rfl, rfl⟩)
        go_ret2
        exact ⟨rfl, HF.out⟩
      · have g2' : decide (n ≤ i) = false := by simpa using g2
        have hE : withE n a i = 0 := by unfold withE; rw [if_pos hz, if_pos ⟨by omega, by omega⟩]
        rw [hE, show withR n a i = withN a i.toNat by unfold withR; rw [if_pos hE]]
        have hor := or_pow' h4.1 h4.2 (i := i) (by omega) (by omega)
        obtain ⟨hp0, hp1⟩ := shl_small (n := i) (by omega) (by omega)
        have hi0 : 0 ≤ i := by omega
        have hi7 : i < 7 := by omega
        clear hz h3 hE
        go_enter Try.func40, Try.ntmps40
        go_wp2_with (go_at_call 52; refine hlk.mono ?_; rintro e w1 ⟨rfl, rfl⟩)
        go_ret2
        exact ⟨rfl, HF.out⟩
  · have hE : withE n a i = lookE n [a] := by unfold withE; rw [if_neg hz]
    rw [hE, show withR n a i = 0 by unfold withR; rw [hE, if_neg hz]]
    clear hE
    go_enter Try.func40, Try.ntmps40
    go_wp2_with (go_at_call 52; refine hlk.mono ?_; rintro e w1 ⟨rfl, rfl⟩)
    go_ret2
    exact ⟨rfl, HF.out⟩
end Go.Proofs.Ytbfkacahaocpfaa
