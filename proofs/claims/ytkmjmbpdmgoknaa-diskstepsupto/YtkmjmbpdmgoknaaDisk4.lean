
/- What a disk's Lasts, Read, Sync and Crash do. -/
import Derived.Test.YtkmjmbpdmgoknaaDisk3
namespace Go.Proofs.Ytkmjmbpdmgoknaa
open Go.RowKit
attribute [local go_sem ↓] ld80_eq ld82_eq st80_eq bs75_eq

theorem sec_row (w : World) (s : Sec) : Row (w.alloc (.cells (sc s).toArray 53)) (some ⟨w.heap.size, 0, none⟩) 256 s.1 := by
  have hl := s.2.1
  refine ⟨by omega, by omega, by omega, s.2.2, .inr ⟨w.heap.size, 0, rfl, by simp, fun i hi => ?_⟩⟩
  rw [cell_of_row _ _ (0 + i) _ _ _ (heap_alloc_new w _), Nat.zero_add, List.getElem?_toArray]
  exact cellsOf_get s.1 i hi

section
variable (db : Nat) (lv wv : Value) (L : List Sec) (Q : List (Nat × Sec)) (w : World)
theorem lasts_nil (i : Int) : Calls Try.prog 19 #[.pointer none, .int .i64 i] w fun e w' => e = .returned (.tuple #[.slice none 0 0, .int .i64 6]) ∧ w' = w := by
  go_enter Try.func19, Try.ntmps19
  go_wp2_with (refine (dhas_nil _ _).mono ?_; rintro e w' ⟨rfl, rfl⟩)
  go_ret2
  exact ⟨rfl, rfl⟩
theorem read_nil (i : Int) : Calls Try.prog 13 #[.pointer none, .int .i64 i] w fun e w' => e = .returned (.tuple #[.slice none 0 0, .int .i64 6]) ∧ w' = w := by
  go_enter Try.func13, Try.ntmps13
  go_wp2_with (refine (dhas_nil _ _).mono ?_; rintro e w' ⟨rfl, rfl⟩)
  go_ret2
  exact ⟨rfl, rfl⟩
theorem lasts_none (h : Dk w db lv wv L Q) (i : Int) (hi : i < 0 ∨ (L.length : Int) ≤ i) : Calls Try.prog 19 #[.pointer (some ⟨db, 0, none⟩), .int .i64 i] w fun e w' => e = .returned (.tuple #[.slice none 0 0, .int .i64 6]) ∧ w' = w := by
  have HI : Hid (i < 0 ∨ (L.length : Int) ≤ i) := hi
  clear hi
  go_enter Try.func19, Try.ntmps19
  go_wp2_with (refine (dhas_no db lv wv L Q _ h i HI.out).mono ?_; rintro e w' ⟨rfl, rfl⟩)
  go_ret2
  exact ⟨rfl, rfl⟩
theorem read_none (h : Dk w db lv wv L Q) (i : Int) (hi : i < 0 ∨ (L.length : Int) ≤ i) : Calls Try.prog 13 #[.pointer (some ⟨db, 0, none⟩), .int .i64 i] w fun e w' => e = .returned (.tuple #[.slice none 0 0, .int .i64 6]) ∧ w' = w := by
  have HI : Hid (i < 0 ∨ (L.length : Int) ≤ i) := hi
  clear hi
  go_enter Try.func13, Try.ntmps13
  go_wp2_with (refine (dhas_no db lv wv L Q _ h i HI.out).mono ?_; rintro e w' ⟨rfl, rfl⟩)
  go_ret2
  exact ⟨rfl, rfl⟩
theorem lasts_ok (h : Dk w db lv wv L Q) (i : Nat) (hi : i < L.length) : Calls Try.prog 19 #[.pointer (some ⟨db, 0, none⟩), .int .i64 i] w fun e w' => ∃ a, e = .returned (.tuple #[.slice a 256 256, .int .i64 0]) ∧ Row w' a 256 (L.getD i zeroSec).1 ∧ Fr (fun _ => False) w w' ∧ (∀ b off, a = some ⟨b, off, none⟩ → w.heap.size ≤ b) := by
  have HI : Hid (i < L.length) := hi
  have hb0 := h.cell0
  obtain ⟨gl, cl, rfl, hcl, hgl, hrl, _⟩ := h.last
  have hld := ld80_at (s := L.getD i zeroSec) (hrl i hi)
  generalize L.getD i zeroSec = s at *
  have hii : (i : Int) < (L.length : Int) := by omega
  clear hi
  go_enter Try.func19, Try.ntmps19
  go_wp2_with fail
  refine (dhas_yes db _ wv L Q _ h i HI.out).mono ?_
  rintro e w1 ⟨rfl, rfl⟩
  go_wp2_with fail
  refine (bytesOf_any s _).mono ?_
  rintro e w2 ⟨rfl, rfl⟩
  go_wp2
  go_ret2
  exact ⟨_, rfl, sec_row w1 s, (Fr.refl (fun _ => False) w1).alloc _, fun b off e => by simp at e; omega⟩
theorem read_ok (h : Dk w db lv wv L Q) (i : Nat) (hi : i < L.length) : Calls Try.prog 13 #[.pointer (some ⟨db, 0, none⟩), .int .i64 i] w fun e w' => ∃ a, e = .returned (.tuple #[.slice a 256 256, .int .i64 0]) ∧ Row w' a 256 (seen L Q i).1 ∧ Fr (fun _ => False) w w' ∧ (∀ b off, a = some ⟨b, off, none⟩ → w.heap.size ≤ b) := by
  have HI : Hid (i < L.length) := hi
  clear hi
  have hs := seen_any db lv wv L Q w h i HI.out
  generalize seen L Q i = s at *
  go_enter Try.func13, Try.ntmps13
  go_wp2_with fail
  refine (dhas_yes db lv wv L Q _ h i HI.out).mono ?_
  rintro e w1 ⟨rfl, rfl⟩
  go_wp2_with fail
  refine hs.mono ?_
  rintro e w2 ⟨rfl, f2⟩
  clear hs
  go_wp2_with fail
  refine (bytesOf_any s _).mono ?_
  rintro e w3 ⟨rfl, rfl⟩
  go_wp2
  go_ret2
  exact ⟨_, rfl, sec_row w2 s, f2.alloc _, fun b off e => by have := f2.size; simp at e; omega⟩
theorem sync_nil : Calls Try.prog 9 #[.pointer none] w fun e w' => e = .returned (.tuple #[]) ∧ w' = w := by
  go_enter Try.func9, Try.ntmps9
  go_wp2
  (try simp only [Exit.inBlock, Exit.then])
  exact bodyPost_ret (results_none rfl _ _ _) rfl ⟨rfl, rfl⟩
/-- A disk that nothing waits of. -/
theorem Dk.clear {w : World} {db : Nat} {lv wv : Value} {L : List Sec} {Q : List (Nat × Sec)} (h : Dk w db lv wv L Q) : Dk (w.setCell ⟨db, 1, none⟩ (.slice none 0 0)) db lv (.slice none 0 0) L [] := by
  have F : Fr (fun k => k = db) w (w.setCell ⟨db, 1, none⟩ (.slice none 0 0)) := (Fr.refl (fun k => k = db) w).setCell (p := ⟨db, 1, none⟩) (fun _ => rfl) _
  exact ⟨pair_setCell1 h.box _, h.lasts.fr F (fun k hk e => h.ne1 (by rw [hk, e])), Has.nil _ _, h.ne1, (by simp [Value.ownBlock]), (fun k _ => by simp [Value.ownBlock]), (fun q hq => by cases hq), h.pos, h.top⟩
theorem sync_any (h : Dk w db lv wv L Q) : Calls Try.prog 9 #[.pointer (some ⟨db, 0, none⟩)] w fun e w' => e = .returned (.tuple #[]) ∧
    Dk w' db lv (.slice none 0 0) (doAll L Q) [] ∧ Fr (dkS db lv wv) w w' := by
  have hb1 := h.cell1
  obtain ⟨aw, cw, rfl, _⟩ := h.waits.slice
  have hdo := do_any db lv _ L Q w h Q.length (Nat.le_refl _)
  rw [List.take_length] at hdo
  go_enter Try.func9, Try.ntmps9
  go_wp2_with fail
  refine hdo.mono ?_
  rintro e w2 ⟨rfl, d2, f2⟩
  clear hdo
  have hc2 := d2.cell1
  have hf2 := d2.free1
  go_wp2
  go_end0
  exact ⟨rfl, d2.clear, (f2.mono (T := dkS db lv _) (fun k _ e => .inr (.inl e))).setCell (fun _ => .inl rfl) _⟩
end
end Go.Proofs.Ytkmjmbpdmgoknaa
