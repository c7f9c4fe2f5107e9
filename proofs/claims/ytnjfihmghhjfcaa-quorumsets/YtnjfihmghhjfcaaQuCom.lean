
/- Commit, in the program and in the document. -/
import Derived.Test.YtnjfihmghhjfcaaQuSort
import Derived.Test.YtnjfihmghhjfcaaQuBase
namespace Go.Proofs.Ytnjfihmghhjfcaa
open Go.RowKit
open Go.Proofs.Ytnjfihmghhjfcaa.Qu

def badB (x : Int) : Bool := decide (x < 0) || decide (1099511627776 < x)
theorem isNo_any (x : Int) (w : World) : Calls Try.prog 23 #[.int .i64 x] w fun e w' => e = .returned (.bool (badB x)) ∧ w' = w := by
  by_cases h1 : x < 0
  · rw [show badB x = true by simp [badB, h1]]
    go_enter Try.func23, Try.ntmps23
    go_wp2
    go_ret
    exact ⟨rfl, rfl⟩
  · have h1' : decide (x < 0) = false := by simpa using h1
    rw [show badB x = decide (1099511627776 < x) by simp [badB, h1]]
    go_enter Try.func23, Try.ntmps23
    go_wp2
    go_ret
    exact ⟨rfl, rfl⟩
set_option maxRecDepth 100000 in
set_option maxHeartbeats 4000000 in
theorem index_any (a : Option Addr) (n c : Nat) (xs : List Int) (hn : n = xs.length) (w : World) (h : Is w a c xs) : Calls Try.prog 26 #[.slice a n c, .func (.func 23) #[] #[]] w fun e w' => (∃ r : Int, e = .returned (.int .i64 r) ∧ decide (0 ≤ r) = xs.any badB) ∧ w' = w := by
  subst hn
  have hle := h.le
  have hmx := h.max
  have HS : Hid (Is w a c xs) := h
  clear h
  go_enter Try.func26, Try.ntmps26
  go_wp2
  go_loopw [8] (fun i wr => ∃ k : Nat, k ≤ xs.length ∧ i = .int .i64 k ∧ wr = w ∧ Hid ((xs.take k).any badB = false)) (fun i _ => xs.length - (intOf i).toNat)
  case atStart => exact ⟨0, by omega, rfl, rfl, by show _ = _; simp⟩
  case round =>
    obtain ⟨k, hk, rfl, rfl, HA⟩ := hrel
    by_cases hlt : k < xs.length
    · obtain ⟨x, hx⟩ : ∃ x, xs[k]? = some x := ⟨_, List.getElem?_eq_getElem hlt⟩
      obtain ⟨b, off, rfl, hb, hc⟩ := HS.out.some (by omega)
      have q0 := hc k x hx
      have HX : Hid (xs[k]? = some x) := hx
      have hno := isNo_any x wr
      clear hc hx
      cases hbx : badB x with
      | true =>
        rw [hbx] at hno
        have HBX : Hid (badB x = true) := hbx
        clear hbx
        go_wp2_with (go_at_call 23; refine hno.mono ?_; rintro e w2 ⟨rfl, rfl⟩)
        go_ret
        refine ⟨⟨k, rfl, ?_⟩, rfl⟩
        rw [List.any_eq_true.2 ⟨x, List.mem_of_getElem? HX.out, HBX.out⟩]
        simp
      | false =>
        rw [hbx] at hno
        have HBX : Hid (badB x = false) := hbx
        clear hbx
        go_wp2_with (go_at_call 23; refine hno.mono ?_; rintro e w2 ⟨rfl, rfl⟩)
        refine ⟨⟨k + 1, by omega, by simp, trivial, ?_⟩, by simp [intOf]; omega⟩
        show _ = _
        rw [List.take_add_one, HX.out, List.any_append, HA.out]
        simp [HBX.out]
    · have hke : k = xs.length := by omega
      subst hke
      go_wp2
      go_ret
      refine ⟨⟨-1, rfl, ?_⟩, rfl⟩
      have := HA.out
      rw [List.take_length] at this
      rw [this]; rfl
theorem contains_any (a : Option Addr) (n c : Nat) (xs : List Int) (hn : n = xs.length) (w : World) (h : Is w a c xs) : Calls Try.prog 22 #[.slice a n c, .func (.func 23) #[] #[]] w fun e w' => e = .returned (.bool (xs.any badB)) ∧ w' = w := by
  have hix := index_any a n c xs hn w h
  clear h hn
  go_enter Try.func22, Try.ntmps22
  go_wp2_with (go_at_call 26; refine hix.mono ?_; rintro e w2 ⟨⟨r, rfl, hr⟩, rfl⟩)
  go_ret
  exact ⟨by rw [← hr]; rfl, rfl⟩
def comE (xs : List Int) : Int := if nOk xs.length && !xs.any badB then 0 else 1
def comN (xs : List Int) : Int := if nOk xs.length && !xs.any badB then (sortI xs).getD (xs.length - (xs.length / 2 + 1)) 0 else 0
set_option maxRecDepth 100000 in
set_option maxHeartbeats 4000000 in
theorem commit_any (a : Option Addr) (n c : Nat) (xs : List Int) (hn : n = xs.length) (w : World) (h : Is w a c xs) : Calls Try.prog 18 #[.slice a n c] w fun e w' => e = .returned (.tuple #[.int .i64 (comN xs), .int .i64 (comE xs)]) ∧ Fr (fun _ => False) w w' := by
  subst hn
  have hmj := majority_any (xs.length : Int) w
  have hle := h.le
  have hmx := h.max
  cases hz : nOk xs.length with
  | false =>
    rw [show comN xs = 0 by simp [comN, hz], show comE xs = 1 by simp [comE, hz]]
    rw [show nE (xs.length : Int) = 1 by simp [nE, hz]] at hmj
    clear hz h
    go_enter Try.func18, Try.ntmps18
    go_wp2_with (go_at_call 9; refine hmj.mono ?_; rintro e w2 ⟨rfl, rfl⟩)
    go_ret2
    exact ⟨rfl, Fr.refl _ _⟩
  | true =>
    rw [show nE (xs.length : Int) = 0 by simp [nE, hz], show majN (xs.length : Int) = (xs.length : Int) / 2 + 1 by simp [majN, hz]] at hmj
    have h7 : 1 ≤ xs.length ∧ xs.length ≤ 7 := by have := nOk_iff.1 hz; omega
    obtain ⟨h70, h71⟩ := h7
    have hct := contains_any a xs.length c xs rfl w h
    cases hb : xs.any badB with
    | true =>
      rw [show comN xs = 0 by simp [comN, hb], show comE xs = 1 by simp [comE, hb]]
      rw [hb] at hct
      clear hz h hb
      go_enter Try.func18, Try.ntmps18
      go_wp2_with (first | (go_at_call 9; refine hmj.mono ?_; rintro e w2 ⟨rfl, rfl⟩) | (go_at_call 22; refine hct.mono ?_; rintro e w3 ⟨rfl, rfl⟩))
      go_ret2
      exact ⟨rfl, Fr.refl _ _⟩
    | false =>
      have HCN : Hid (comN xs = (sortI xs).getD (xs.length - (xs.length / 2 + 1)) 0) := by show _ = _; simp [comN, hb, hz]
      rw [show comE xs = 0 by simp [comE, hb, hz]]
      rw [hb] at hct
      have hcl := cloneI a xs.length c xs w h rfl (by omega)
      have HSL : Hid ((sortI xs).length = xs.length) := by show _ = _; simp [sortI]
      clear hz h hb
      obtain ⟨N, hN⟩ : ∃ N, N = xs.length := ⟨_, rfl⟩
      have HN : Hid (N = xs.length) := hN
      rw [← hN] at hmj hct hle h70 h71
      have hi0 : (0 : Int) ≤ (N : Int) - ((N : Int) / 2 + 1) := by omega
      have hi1 : (N : Int) - ((N : Int) / 2 + 1) < (N : Int) := by omega
      have hcl' : Calls Try.prog 24 #[.slice a N c] w fun e w' => InOut w xs e w' := by rw [hN]; exact hcl
      clear hcl
      rw [← hN]
      clear hN
      go_enter Try.func18, Try.ntmps18
      go_wp2_with (first | (go_at_call 9; refine hmj.mono ?_; rintro e w2 ⟨rfl, rfl⟩) | (go_at_call 22; refine hct.mono ?_; rintro e w3 ⟨rfl, rfl⟩) | (go_at_call 24; refine hcl'.mono ?_))
      rintro e w4 ⟨p, q, rfl, hown, f4, hnew⟩
      obtain ⟨g, cap, hv, hg, hnc, hcm, hth, hra⟩ := hown.form (by have := HN.out; omega)
      simp only [Value.slice.injEq, true_and] at hv
      obtain ⟨rfl, rfl⟩ := hv
      have hge : w3.heap.size ≤ g := hnew g rfl
      have hso := sort_any (cap := q) hg (fun j hj => hth j (by omega)) hra (by have := HN.out; omega)
      have HSO : Hid (Calls Try.prog 25 #[.slice (some ⟨g, 0, none⟩) N q] w4 fun e w' => e = .returned (.tuple #[]) ∧ (∀ (i : Nat) x, (sortI xs)[i]? = some x → w'.cell? ⟨g, i, none⟩ = some (.int .i64 x)) ∧ Fr (fun k => k = g) w4 w') := by rw [HN.out]; exact hso
      clear hso hra hth hown hnew hg
      rw [← HN.out] at hnc ⊢
      have hc4 : q ≤ 9223372036854775807 := by unfold maxLen at hcm; exact hcm
      clear hcm
      go_wp2_with (go_at_call 25; refine HSO.out.mono ?_)
      rintro e w5 ⟨rfl, hcs, f5⟩
      obtain ⟨x, hx⟩ : ∃ x, (sortI xs)[(N - (N / 2 + 1))]? = some x := ⟨_, List.getElem?_eq_getElem (by rw [HSL.out, ← HN.out]; omega)⟩
      have hc := hcs _ x hx
      have HX : Hid ((sortI xs)[(N - (N / 2 + 1))]? = some x) := hx
      have F : Fr (fun _ => False) w3 w5 := f4.trans f5 (fun i hi e => by omega)
      clear hcs hx f4 f5 HSO
      go_wp2
      go_ret2
      refine ⟨?_, F⟩
      rw [HCN.out, ← HN.out, List.getD_eq_getElem?_getD, HX.out]; rfl
end Go.Proofs.Ytnjfihmghhjfcaa
