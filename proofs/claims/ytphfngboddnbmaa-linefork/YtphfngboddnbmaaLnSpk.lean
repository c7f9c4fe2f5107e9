
/- The small case that each statement asks first, and the document's form of a timeline. -/
import Derived.Test.YtphfngboddnbmaaLnRFk
namespace Go.Proofs.Ytphfngboddnbmaa
open Go.RowKit
open Go.Proofs.Ytphfngboddnbmaa.Ln

theorem mks_two (w : World) (x y u v : Int) : Mks (w.alloc (.cells #[.int .i64 x, .int .i64 y, .int .i64 u, .int .i64 v] 53)) (some ⟨w.heap.size, 0, none⟩) 2 [(x, y), (u, v)] := by
  refine ⟨by simp, by omega, .inr ⟨w.heap.size, 0, rfl, by simp, fun i m hm => range_block (heap_alloc_new w _) (fun j z hz => ?_)⟩⟩
  match i, hm with
  | 0, hm =>
    simp at hm
    subst hm
    match j, hz with
    | 0, hz => simpa [mkC] using hz
    | 1, hz => simpa [mkC] using hz
  | 1, hm =>
    simp at hm
    subst hm
    match j, hz with
    | 0, hz => simpa [mkC] using hz
    | 1, hz => simpa [mkC] using hz
set_option maxRecDepth 100000 in
set_option maxHeartbeats 4000000 in
theorem speaks_any (w : World) : Calls Try.prog 16 #[] w fun e w' => e = .returned (.bool true) ∧ Fr (fun _ => False) w w' := by
  obtain ⟨W1, hW1⟩ : ∃ W, W = w.alloc (.cells #[.int .i64 1, .int .i64 1, .int .i64 3, .int .i64 4] 53) := ⟨_, rfl⟩
  have m1 := mks_two w 1 1 3 4
  have z1 : W1.heap.size = w.heap.size + 1 := by rw [hW1]; simp
  rw [← hW1] at m1
  obtain ⟨W2, hW2⟩ : ∃ W, W = W1.alloc (.cells #[.slice (some ⟨w.heap.size, 0, none⟩) 2 2, .int .i64 6] 24) := ⟨_, rfl⟩
  have t1 := Two.new W1 24 (.slice (some ⟨w.heap.size, 0, none⟩) 2 2) (.int .i64 6)
  have z2 : W2.heap.size = w.heap.size + 2 := by rw [hW2]; simp [z1]
  rw [← hW2, z1] at t1
  obtain ⟨W3, hW3⟩ : ∃ W, W = W2.alloc (.cells #[.int .i64 1, .int .i64 1, .int .i64 2, .int .i64 3] 53) := ⟨_, rfl⟩
  have m2 := mks_two W2 1 1 2 3
  have z3 : W3.heap.size = w.heap.size + 3 := by rw [hW3]; simp [z2]
  rw [← hW3, z2] at m2
  obtain ⟨W4, hW4⟩ : ∃ W, W = W3.alloc (.cells #[.slice (some ⟨w.heap.size + 2, 0, none⟩) 2 2, .int .i64 5] 24) := ⟨_, rfl⟩
  have t2 := Two.new W3 24 (.slice (some ⟨w.heap.size + 2, 0, none⟩) 2 2) (.int .i64 5)
  rw [← hW4, z3] at t2
  have f4 : Fr (fun _ => False) W3 W4 := by rw [hW4]; exact Fr.box _ _
  have f3 : Fr (fun _ => False) W2 W4 := by rw [hW3] at f4; exact (Fr.box _ _).seq' f4
  have f2 : Fr (fun _ => False) W1 W4 := by rw [hW2] at f3; exact (Fr.box _ _).seq' f3
  have f1 : Fr (fun _ => False) w W4 := by rw [hW1] at f2; exact (Fr.box _ _).seq' f2
  have HM1 : Hid (Mks W4 (some ⟨w.heap.size, 0, none⟩) 2 [(1, 1), (3, 4)]) := m1.same f2
  have HM2 : Hid (Mks W4 (some ⟨w.heap.size + 2, 0, none⟩) 2 [(1, 1), (2, 3)]) := m2.same f4
  have HT1 : Hid (Two W4 (w.heap.size + 1) 24 (.slice (some ⟨w.heap.size, 0, none⟩) 2 2) (.int .i64 6)) := t1.fr f3 (fun f => f)
  have HT2 : Hid (Two W4 (w.heap.size + 3) 24 (.slice (some ⟨w.heap.size + 2, 0, none⟩) 2 2) (.int .i64 5)) := t2
  have HW : Hid (W4 = (((w.alloc (.cells #[.int .i64 1, .int .i64 1, .int .i64 3, .int .i64 4] 53)).alloc (.cells #[.slice (some ⟨w.heap.size, 0, none⟩) 2 2, .int .i64 6] 24)).alloc (.cells #[.int .i64 1, .int .i64 1, .int .i64 2, .int .i64 3] 53)).alloc (.cells #[.slice (some ⟨w.heap.size + 2, 0, none⟩) 2 2, .int .i64 5] 24)) := by
    show _ = _
    rw [hW4, hW3, hW2, hW1]
  have HF1 : Hid (Fr (fun _ => False) w W4) := f1
  have e1 : atN [(1, 1), (3, 4)] 6 4 = 3 ∧ rcE [(1, 1), (3, 4)] 6 4 = 0 := by decide +kernel
  have e2 : fkN [(1, 1), (3, 4)] 6 [(1, 1), (2, 3)] 5 = 2 ∧ arE [(1, 1), (3, 4)] 6 [(1, 1), (2, 3)] 5 = 0 := by decide +kernel
  have e3 : nwB [(1, 1), (3, 4)] 6 [(1, 1), (2, 3)] 5 = true := by decide +kernel
  have e4 : ckE [] 1 = 4 := by decide +kernel
  have HAT : Hid (Calls Try.prog 7 #[.agg #[.slice (some ⟨w.heap.size, 0, none⟩) 2 2, .int .i64 6], .int .i64 4] W4 fun e w' => e = .returned (.tuple #[.int .i64 3, .int .i64 0]) ∧ Fr (fun _ => False) W4 w') := by
    have := at_any (some ⟨w.heap.size, 0, none⟩) 2 2 _ 6 4 rfl W4 HM1.out
    rw [e1.1, e1.2] at this; exact this
  have HFK : Hid (∀ W, Fr (fun _ => False) W4 W → Calls Try.prog 10 #[.agg #[.slice (some ⟨w.heap.size, 0, none⟩) 2 2, .int .i64 6], .agg #[.slice (some ⟨w.heap.size + 2, 0, none⟩) 2 2, .int .i64 5]] W fun e w' => e = .returned (.tuple #[.int .i64 2, .int .i64 0]) ∧ Fr (fun _ => False) W w') := fun W f => by
    have := fork_any (some ⟨w.heap.size, 0, none⟩) (some ⟨w.heap.size + 2, 0, none⟩) 2 2 2 2 _ _ 6 5 rfl rfl W (HM1.out.same f) (HM2.out.same f)
    rw [e2.1, e2.2] at this; exact this
  have HNW : Hid (∀ W, Fr (fun _ => False) W4 W → Calls Try.prog 12 #[.agg #[.slice (some ⟨w.heap.size, 0, none⟩) 2 2, .int .i64 6], .agg #[.slice (some ⟨w.heap.size + 2, 0, none⟩) 2 2, .int .i64 5]] W fun e w' => e = .returned (.tuple #[.bool true, .int .i64 0]) ∧ Fr (fun _ => False) W w') := fun W f => by
    have := newer_any (some ⟨w.heap.size, 0, none⟩) (some ⟨w.heap.size + 2, 0, none⟩) 2 2 2 2 _ _ 6 5 rfl rfl W (HM1.out.same f) (HM2.out.same f)
    rw [e3, e2.2] at this; exact this
  have HCK : Hid (∀ W, Calls Try.prog 14 #[.agg #[.slice none 0 0, .int .i64 1]] W fun e w' => e = .returned (.int .i64 4) ∧ Fr (fun _ => False) W w') := fun W => by
    have := check_any none 0 0 [] 1 rfl W (Mks.nil W none)
    rw [e4] at this; exact this
  have hat := HAT.out
  obtain ⟨x0, x1, _⟩ := HT1.out.cells
  obtain ⟨y0, y1, _⟩ := HT2.out.cells
  rw [HW.out] at hat x0 x1 y0 y1
  clear hW1 hW2 hW3 hW4 m1 m2 t1 t2 z1 z2 z3 f1 f2 f3 f4 e1 e2 e3 e4 HAT HM1 HM2 W1 W2 W3
  go_enter Try.func16, Try.ntmps16
  go_wp2_with fail
  refine hat.mono ?_
  rw [← HW.out]
  rintro e w1 ⟨rfl, f1⟩
  clear hat x0 x1 y0 y1
  obtain ⟨x0, x1, _⟩ := (HT1.out.fr f1 (fun f => f)).cells
  obtain ⟨y0, y1, _⟩ := (HT2.out.fr f1 (fun f => f)).cells
  go_wp2_with fail
  refine (HFK.out _ f1).mono ?_
  rintro e w2 ⟨rfl, f2⟩
  have f12 := f1.seq' f2
  clear x0 x1 y0 y1
  obtain ⟨x0, x1, _⟩ := (HT1.out.fr f12 (fun f => f)).cells
  obtain ⟨y0, y1, _⟩ := (HT2.out.fr f12 (fun f => f)).cells
  go_wp2_with fail
  refine (HNW.out _ f12).mono ?_
  rintro e w3 ⟨rfl, f3⟩
  go_wp2_with fail
  refine (HCK.out _).mono ?_
  rintro e w4 ⟨rfl, f4⟩
  go_wp2
  go_ret
  exact ⟨rfl, HF1.out.seq' ((f12.seq' f3).seq' f4)⟩
theorem ref_any (a : Option Addr) (n c : Nat) (last : Int) (w : World) : Calls Try.prog 9 #[.agg #[.slice a n c, .int .i64 last]] w fun e w' => e = .returned (.agg #[.slice a n c, .int .i64 last]) ∧ Fr (fun _ => False) w w' := by
  have F : Fr (fun _ => False) w ((w.alloc (.cells #[.slice a n c, .int .i64 last] 24)).alloc (.cells #[.slice a n c, .int .i64 last] 30)) := (Fr.box _ _).alloc _
  go_enter Try.func9, Try.ntmps9
  go_wp2
  have T := Two.new (w.alloc (.cells #[.slice a n c, .int .i64 last] 24)) 30 (.slice a n c) (.int .i64 last)
  rw [World.size_alloc] at T
  obtain ⟨y0, y1, _⟩ := T.cells
  refine bodyPost_ret (v := .agg #[.slice a n c, .int .i64 last]) (by simp [results, Try.results9, go_sem, y0, y1]) rfl ?_
  exact ⟨rfl, F⟩
end Go.Proofs.Ytphfngboddnbmaa
