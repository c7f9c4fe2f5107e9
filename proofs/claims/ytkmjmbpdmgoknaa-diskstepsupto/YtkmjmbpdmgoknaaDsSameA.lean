
/- The two disks look the same. -/
import Derived.Test.YtkmjmbpdmgoknaaDsPair
import Derived.Deep.RegionWith
import Derived.Deep.RegionHeld3
namespace Go.Proofs.Ytkmjmbpdmgoknaa
open Go.RowKit
section
variable (db : Nat) (lv wv : Value) (L : List Sec) (Q : List (Nat × Sec)) (rb : Nat) (lx qx : Value) (A : List (Option Nat × Sec)) (B : List (Nat × Nat × Sec)) (w : World)
set_option maxRecDepth 100000 in
set_option maxHeartbeats 16000000 in
theorem same_in (h : Dk w db lv wv L Q) (r : Rk w rb lx qx A B) (hA : As A = L) (hB : Bs B = Q) (i : Nat) (hi : i < L.length) : Calls Try.prog 12 #[.pointer (some ⟨db, 0, none⟩), .pointer (some ⟨rb, 0, none⟩), .int .i64 i] w fun e w' => e = .returned (.bool true) ∧ Fr (fun _ => False) w w' := by
  have hiA : i < A.length := by rw [← As_length, hA]; exact hi
  obtain ⟨p, hp⟩ : ∃ p, A[i]? = some p := ⟨_, List.getElem?_eq_getElem hiA⟩
  have hps : L.getD i zeroSec = p.2 := by rw [← hA, As, List.getD_eq_getElem?_getD, List.getElem?_map, hp]; rfl
  have hQl : Q.length = B.length := by rw [← hB, Bs_length]
  have HI : Hid (i < L.length) := hi
  have HPP : Hid (A[i]? = some p) := hp
  have HPS : Hid (L.getD i zeroSec = p.2) := hps
  have HAB : Hid (seen (As A) (Bs B) i = seen L Q i) := by show _ = _; rw [hA, hB]
  have HQL : Hid (Q.length = B.length) := hQl
  clear hi hp hps hiA hA hB hQl
  go_enter Try.func12, Try.ntmps12
  go_wp2_with fail
  refine (read_ok db lv wv L Q _ h i HI.out).mono ?_
  rintro e w1 ⟨a1, rfl, r1, f1, _⟩
  have h1 := h.same f1
  have k1 := r.same f1
  clear h r
  go_wp2_with fail
  refine (dsread_ok rb lx qx A B _ k1 i p HPP.out).mono ?_
  simp only [lvOf]
  rintro e w2 ⟨b2, rfl, l2, f2⟩
  rw [HAB.out] at l2
  have h2 := h1.same f2
  have k2 := k1.same f2
  have r2 := r1.same f2
  clear h1 k1 r1
  go_wp2_with fail
  refine (lasts_ok db lv wv L Q _ h2 i HI.out).mono ?_
  rintro e w3 ⟨a3, rfl, r3, f3, _⟩
  rw [HPS.out] at r3
  have h3 := h2.same f3
  have k3 := k2.same f3
  have r13 := r2.same f3
  have l3 := l2.same f3
  clear h2 k2 r2 l2
  go_wp2_with fail
  refine (dslasts_ok rb lx qx A B _ k3 i p HPP.out).mono ?_
  simp only [lvOf]
  rintro e w4 ⟨rfl, l4, f4⟩
  have h4 := h3.same f4
  have k4 := k3.same f4
  have r14 := r13.same f4
  have r34 := r3.same f4
  have l24 : Row w4 (some ⟨b2, 0, none⟩) 256 (seen L Q i).1 := l3.same f4
  have l44 : Row w4 (some ⟨w3.heap.size, 0, none⟩) 256 p.2.1 := l4
  generalize w3.heap.size = b4 at *
  have F : Fr (fun _ => False) w w4 := ((f1.false_trans f2).false_trans f3).false_trans f4
  clear h3 k3 r13 r3 l3 l4 f1 f2 f3 f4
  have fD : Fr (fun _ => False) w4 w4.drew := (Fr.refl (fun _ => False) w4).drew
  have dv1 := run_str (P := Try.prog) (src := 31) (dst := 9) Try.underlying31 Try.underlying5 Try.underlying9 (r14.same fD) 256 (seen L Q i).2.1.symm
  have dv2 := run_str (P := Try.prog) (src := 31) (dst := 9) Try.underlying31 Try.underlying5 Try.underlying9 (l24.same fD) 256 (seen L Q i).2.1.symm
  have dv3 := run_str (P := Try.prog) (src := 31) (dst := 9) Try.underlying31 Try.underlying5 Try.underlying9 (r34.same fD) 256 p.2.2.1.symm
  have dv4 := run_str (P := Try.prog) (src := 31) (dst := 9) Try.underlying31 Try.underlying5 Try.underlying9 (l44.same fD) 256 p.2.2.1.symm
  generalize strOf (seen L Q i).1 = s1 at *
  generalize strOf p.2.1 = s2 at *
  have h4d := h4.same fD
  have q4 := (k4.same fD).cell1
  obtain ⟨aq, cq, rfl, _⟩ := k4.waits.slice
  rw [← HQL.out] at q4
  clear h4 k4
  clear r14 r34 l24 l44 fD HI HPP HPS HAB
  go_wp2_with fail
  go_region_held3 (fun W => W.cell? ⟨rb, 1, none⟩ = some (.slice aq Q.length cq) ∧ (convert 31 9 (.slice a1 256 256)).run Try.prog W = .ok (.string s1) W ∧ (convert 31 9 (.slice (some ⟨b2, 0, none⟩) 256 256)).run Try.prog W = .ok (.string s1) W ∧ (convert 31 9 (.slice a3 256 256)).run Try.prog W = .ok (.string s2) W ∧ (convert 31 9 (.slice (some ⟨b4, 0, none⟩) 256 256)).run Try.prog W = .ok (.string s2) W)
    (exact ⟨q4, dv1, dv2, dv3, dv4⟩)
    ((go_at_call 14; refine (waits_any db lv wv L Q _ h4d).mono ?_; rintro e w5 ⟨rfl, rfl⟩))
  all_goals
    go_wp2
    go_ret
    exact ⟨by simp, F.drew⟩
end
end Go.Proofs.Ytkmjmbpdmgoknaa
