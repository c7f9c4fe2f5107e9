
/- The small case that each statement asks first. -/
import Derived.Test.YtnjfihmghhjfcaaQuMath
namespace Go.Proofs.Ytnjfihmghhjfcaa
open Go.RowKit
open Go.Proofs.Ytnjfihmghhjfcaa.Qu

theorem sortI_is {l m : List Int} (h : l.Perm m) (hm : m.Pairwise (fun x y => x ≤ y)) : sortI l = m :=
  List.Perm.eq_of_pairwise (le := fun x y : Int => x ≤ y) (fun a b _ _ h1 h2 => by omega) (sortI_pair l) hm ((sortI_perm l).trans h)
theorem com3 : comN [5, 3, 9] = 5 := by
  unfold comN
  rw [sortI_is (m := [3, 5, 9]) (by decide) (by decide)]
  decide
theorem com4 : comN [5, 3, 9, 1] = 3 := by
  unfold comN
  rw [sortI_is (m := [1, 3, 5, 9]) (by decide) (by decide)]
  decide
set_option maxRecDepth 100000 in
set_option maxHeartbeats 4000000 in
theorem quspk_any (w : World) : Calls Try.prog 15 #[] w fun e w' => e = .returned (.bool true) ∧ Fr (fun _ => False) w w' := by
  have h1 := majority_any 4 w
  rw [show majN 4 = 3 by decide, show nE 4 = 0 by decide] at h1
  have h2 := commit_any (some ⟨w.heap.size, 0, none⟩) 3 3 [5, 3, 9] rfl _ (is_lit w [5, 3, 9] (by simp))
  rw [com3, show comE [5, 3, 9] = 0 by decide +kernel, show ([5, 3, 9].map zI).toArray = #[.int .i64 5, .int .i64 3, .int .i64 9] by rfl] at h2
  have h3 : Hid (∀ W : World, Calls Try.prog 18 #[.slice (some ⟨W.heap.size, 0, none⟩) 4 4] (W.alloc (.cells #[.int .i64 5, .int .i64 3, .int .i64 9, .int .i64 1] 3)) fun e w' => e = .returned (.tuple #[.int .i64 3, .int .i64 0]) ∧ Fr (fun _ => False) W w') := fun W => by
    have h3 := commit_any (some ⟨W.heap.size, 0, none⟩) 4 4 [5, 3, 9, 1] rfl _ (is_lit W [5, 3, 9, 1] (by simp))
    rw [com4, show comE [5, 3, 9, 1] = 0 by decide +kernel, show ([5, 3, 9, 1].map zI).toArray = #[.int .i64 5, .int .i64 3, .int .i64 9, .int .i64 1] by rfl] at h3
    exact h3.mono fun e w' ⟨he, f⟩ => ⟨he, (Fr.box _ _).seq' f⟩
  have h4 : Hid (∀ W : World, Calls Try.prog 10 #[.int .i64 3, .int .i64 5] W fun e w' => e = .returned (.tuple #[.bool true, .int .i64 0]) ∧ Fr (fun _ => False) W w') := fun W => by
    have h4 := has_any 3 5 W
    rw [show hasM 3 5 = true by decide +kernel, show lookE 3 [5] = 0 by decide +kernel] at h4
    exact h4
  have HB := Fr.box w (.cells #[.int .i64 5, .int .i64 3, .int .i64 9] 3)
  go_enter Try.func15, Try.ntmps15
  go_wp2_with fail
  refine h1.mono ?_
  rintro e w1 ⟨rfl, rfl⟩
  go_wp2_with fail
  refine h2.mono ?_
  rintro e w2 ⟨rfl, f2⟩
  go_wp2_with fail
  refine (h3.out _).mono ?_
  rintro e w3 ⟨rfl, f3⟩
  go_wp2_with fail
  refine (h4.out _).mono ?_
  rintro e w4 ⟨rfl, f4⟩
  go_wp2
  go_ret
  exact ⟨rfl, ((HB.seq' f2).seq' f3).seq' f4⟩
end Go.Proofs.Ytnjfihmghhjfcaa
