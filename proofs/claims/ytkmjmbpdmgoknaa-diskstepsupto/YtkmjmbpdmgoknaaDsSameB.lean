
/- The two disks look the same. -/
import Derived.Test.YtkmjmbpdmgoknaaDsPair
import Derived.Deep.RegionWith
import Derived.Deep.RegionHeld3
namespace Go.Proofs.Ytkmjmbpdmgoknaa
open Go.RowKit
section
variable (db : Nat) (lv wv : Value) (L : List Sec) (Q : List (Nat × Sec)) (rb : Nat) (lx qx : Value) (A : List (Option Nat × Sec)) (B : List (Nat × Nat × Sec)) (w : World)
set_option maxRecDepth 100000 in
set_option maxHeartbeats 16000000 in
theorem same_out (h : Dk w db lv wv L Q) (r : Rk w rb lx qx A B) (hA : As A = L) (hB : Bs B = Q) (i : Int) (hi : i < 0 ∨ (L.length : Int) ≤ i) : Calls Try.prog 12 #[.pointer (some ⟨db, 0, none⟩), .pointer (some ⟨rb, 0, none⟩), .int .i64 i] w fun e w' => e = .returned (.bool true) ∧ Fr (fun _ => False) w w' := by
  have hiA : i < 0 ∨ (A.length : Int) ≤ i := by rw [← As_length, hA]; exact hi
  have hQl : Q.length = B.length := by rw [← hB, Bs_length]
  have HI : Hid (i < 0 ∨ (L.length : Int) ≤ i) := hi
  have HIA : Hid (i < 0 ∨ (A.length : Int) ≤ i) := hiA
  have HQL : Hid (Q.length = B.length) := hQl
  clear hi hiA hA hB hQl
  go_enter Try.func12, Try.ntmps12
  go_wp2_with fail
  refine (read_none db lv wv L Q _ h i HI.out).mono ?_
  rintro e w1 ⟨rfl, rfl⟩
  go_wp2_with fail
  refine (dsread_none rb lx qx A B _ r i HIA.out).mono ?_
  rintro e w2 ⟨rfl, f2⟩
  have h2 := h.same f2
  have k2 := r.same f2
  clear h r
  go_wp2_with fail
  refine (lasts_none db lv wv L Q _ h2 i HI.out).mono ?_
  rintro e w3 ⟨rfl, rfl⟩
  go_wp2_with fail
  refine (dslasts_none rb lx qx A B _ k2 i HIA.out).mono ?_
  rintro e w4 ⟨rfl, rfl⟩
  have h4 := h2
  have k4 := k2
  have F := f2
  clear h2 k2 f2
  have fD : Fr (fun _ => False) w4 w4.drew := (Fr.refl (fun _ => False) w4).drew
  have dv1 := run_str (P := Try.prog) (src := 31) (dst := 9) Try.underlying31 Try.underlying5 Try.underlying9 (row_nil w4.drew none) 0 rfl
  generalize strOf [] = s1 at *
  have h4d := h4.same fD
  have q4 := (k4.same fD).cell1
  obtain ⟨aq, cq, rfl, _⟩ := k4.waits.slice
  rw [← HQL.out] at q4
  clear h4 k4
  clear fD HI HIA
  go_wp2_with fail
  go_region_held3 (fun W => W.cell? ⟨rb, 1, none⟩ = some (.slice aq Q.length cq) ∧ (convert 31 9 (.slice none 0 0)).run Try.prog W = .ok (.string s1) W)
    (exact ⟨q4, dv1⟩)
    ((go_at_call 14; refine (waits_any db lv wv L Q _ h4d).mono ?_; rintro e w5 ⟨rfl, rfl⟩))
  all_goals
    go_wp2
    go_ret
    exact ⟨by simp, F.drew⟩
end
end Go.Proofs.Ytkmjmbpdmgoknaa
