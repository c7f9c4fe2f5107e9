
/- The document's disk: full, Write, Lasts. -/
import Derived.Test.YtkmjmbpdmgoknaaDsBase
namespace Go.Proofs.Ytkmjmbpdmgoknaa
open Go.RowKit

theorem info8' : (Try.prog.info? 5).map (fun i => (i.zero, i.size, i.bytes)) = some (some (.int .u8 0), 1, 1) := by kernel_rfl
set_option maxRecDepth 100000 in
theorem full_has (w : World) (a : Option Addr) (c : Nat) (l : List Nat) (hr : Row w a c l) (hl : l.length ≤ 256) : Calls Try.prog 16 #[.slice a l.length c] w fun e w' => e = .returned (.slice (some ⟨w.heap.size, 0, none⟩) 256 256) ∧ Has w' 1 (.slice (some ⟨w.heap.size, 0, none⟩) 256 256) 256 (cellsOf (padS l).1) ∧ Lies w' (some w.heap.size) (padS l) ∧ Fr (fun _ => False) w w' := by
  obtain ⟨i8, hi8, hz8, hs8, hb8⟩ := info_parts info8'
  have hmk := fun (w : World) => run_make (P := Try.prog) w 31 5 i8 _ Try.underlying31 hi8 hz8 .i64 .i64 256 256 (by omega) (by omega) (by rw [hb8]; omega) (by omega)
  simp only [hs8] at hmk
  have hmade := Has.made (fun x : Nat => [Value.int .u8 (x : Int)]) 0 (size := 1) (by omega) (z := .int .u8 0) rfl rfl 256 (by unfold maxLen; omega) w 5
  have hrep : (List.replicate 256 0).flatMap (fun x : Nat => [Value.int .u8 (x : Int)]) = cellsOf (over l 0) := by simp [cellsOf, over]
  simp only [hrep] at hmade
  have hmk2 : ∀ w : World, (Instr.makeSlice 31 (.int .i64 256) (.int .i64 256)).run Try.prog w = .ok (.slice (some ⟨w.heap.size, 0, none⟩) 256 256) (w.alloc (.cells (madeCells (Value.int .u8 0).cells (256 * 1)) 5)) := fun w => hmk w
  generalize madeCells (Value.int .u8 0).cells (256 * 1) = CZ at *
  have fM : Fr (fun _ => False) w (w.alloc (.cells CZ 5)) := (Fr.refl (fun _ => False) w).alloc _
  have hr1 := hr.same fM
  have hli : (l.length : Int) ≤ 256 := by omega
  have HO := hr.byte
  have hrlt : ∀ b off, a = some ⟨b, off, none⟩ → l ≠ [] → b < w.heap.size := fun b off ha hne => hr.lt ha hne
  clear hmk hrep hi8 hz8 hs8 hb8 hr
  go_enter Try.func16, Try.ntmps16
  go_wp2
  generalize w.alloc (.cells CZ 5) = wM at *
  obtain ⟨g, hg⟩ : ∃ g, g = w.heap.size := ⟨_, rfl⟩
  rw [← hg] at hmade ⊢
  have hrg : ∀ b off, a = some ⟨b, off, none⟩ → l ≠ [] → ¬ (b = g) := fun b off ha hne e => by have := hrlt b off ha hne; omega
  have HG : Hid (g = w.heap.size) := hg
  clear hg hrlt
  go_loopw [9] (fun t wr => ∃ j : Nat, j ≤ l.length ∧ t = .int .i64 j ∧ Has wr 1 (.slice (some ⟨g, 0, none⟩) 256 256) 256 (cellsOf (over l j)) ∧ Fr (fun k => k = g) wM wr)
    (fun t _ => l.length - (intOf t).toNat)
  case atStart => exact ⟨0, by omega, rfl, hmade, Fr.refl _ _⟩
  case round =>
  obtain ⟨j, hj, rfl, hh, hf⟩ := hrel
  have hrw := hr1.fr hf hrg
  by_cases hjl : j < l.length
  · obtain ⟨ab, ao, rfl, _, hc⟩ : ∃ b off, a = some ⟨b, off, none⟩ ∧ b < wr.heap.size ∧ ∀ i, i < l.length → wr.cell? ⟨b, off + i, none⟩ = some (.int .u8 ((l.getD i 0 : Nat) : Int)) := by
      rcases hrw.at_ with h0 | h0
      · rw [h0] at hjl; simp at hjl
      · exact h0
    have hcj := hc j hjl
    have hji : (j : Int) < (l.length : Int) := by omega
    have hj256 : (j : Int) < 256 := by omega
    obtain ⟨g', cap', hv, _, _, _, hth, hra⟩ := hh.form (by omega)
    simp only [Value.slice.injEq, Option.some.injEq, Addr.mk.injEq, and_true, true_and] at hv
    obtain ⟨rfl, rfl⟩ := hv
    have t0 := hth j (by omega)
    rw [Nat.zero_add] at t0
    obtain ⟨t0, z0'⟩ := t0
    obtain ⟨u0, e0⟩ := Option.isSome_iff_exists.1 t0
    have hset := hh.set j [.int .u8 ((l.getD j 0 : Nat) : Int)] (by rw [cellsOf_length, over_length l j (by omega) hl]; simp; omega)
    have hse : (cellsOf (over l j)).take j ++ [.int .u8 ((l.getD j 0 : Nat) : Int)] ++ (cellsOf (over l j)).drop (j + [Value.int .u8 ((l.getD j 0 : Nat) : Int)].length) = cellsOf (over l (j + 1)) := by
      rw [← over_next l j hjl hl, List.set_eq_take_append_cons_drop, if_pos (by rw [over_length l j (by omega) hl]; omega)]
      simp [cellsOf]
    rw [hse] at hset
    generalize l.getD j 0 = xj at *
    clear hth hra t0 hse hc hh
    go_wp2
    go_roundw
    case rel => exact ⟨j + 1, by omega, by go_num, hset, hf.setCell (p := ⟨g, j, none⟩) (fun _ => rfl) _⟩
    case measure => simp [intOf]; omega
  have hjn : l.length = j := by omega
  subst hjn
  rw [over_all l hl HO] at hh
  have hP := (padS l).2.1
  have r6 := hh.bytes (padS l).2.2 (by omega)
  go_wp2
  go_ret
  have hg := HG.out
  subst hg
  refine ⟨rfl, hh, r6, fM.above hf (fun k e => by omega)⟩

theorem full_any (w : World) (a : Option Addr) (c : Nat) (l : List Nat) (hr : Row w a c l) (hl : l.length ≤ 256) : Calls Try.prog 16 #[.slice a l.length c] w fun e w' => e = .returned (lvOf (some w.heap.size)) ∧ Lies w' (some w.heap.size) (padS l) ∧ Fr (fun _ => False) w w' :=
  (full_has w a c l hr hl).mono (fun _ _ h => ⟨h.1, h.2.2.1, h.2.2.2⟩)

section
variable (rb : Nat) (lv qv : Value) (A : List (Option Nat × Sec)) (B : List (Nat × Nat × Sec)) (w : World)
theorem dswrite_none (h : Rk w rb lv qv A B) (i : Int) (hi : i < 0 ∨ (A.length : Int) ≤ i) (x : Value) : Calls Try.prog 8 #[.pointer (some ⟨rb, 0, none⟩), .int .i64 i, x] w fun e w' => e = .returned (.int .i64 6) ∧ w' = w := by
  have hc := h.cell0
  obtain ⟨a, c, rfl, _⟩ := h.lasts.slice
  by_cases h1 : i < 0
  · clear hi
    go_enter Try.func8, Try.ntmps8
    go_wp2
    go_ret
    exact ⟨rfl, rfl⟩
  · have h2 : 0 ≤ i := by omega
    have h3 : (A.length : Int) ≤ i := by omega
    clear hi h1
    go_enter Try.func8, Try.ntmps8
    go_wp2
    go_ret
    exact ⟨rfl, rfl⟩
theorem dswrite_long (h : Rk w rb lv qv A B) (i : Nat) (hi : i < A.length) (a : Option Addr) (n c : Nat) (hn : 256 < n) : Calls Try.prog 8 #[.pointer (some ⟨rb, 0, none⟩), .int .i64 i, .slice a n c] w fun e w' => e = .returned (.int .i64 2) ∧ w' = w := by
  have hc := h.cell0
  obtain ⟨al, cl, rfl, _⟩ := h.lasts.slice
  have hn' : (256 : Int) < n := by omega
  have hd : decide ((A.length : Int) ≤ (i : Int)) = false := by simp; omega
  go_enter Try.func8, Try.ntmps8
  go_wp2
  go_ret
  exact ⟨rfl, rfl⟩
theorem dslasts_none (h : Rk w rb lv qv A B) (i : Int) (hi : i < 0 ∨ (A.length : Int) ≤ i) : Calls Try.prog 20 #[.pointer (some ⟨rb, 0, none⟩), .int .i64 i] w fun e w' => e = .returned (.tuple #[.slice none 0 0, .int .i64 6]) ∧ w' = w := by
  have hc := h.cell0
  obtain ⟨a, c, rfl, _⟩ := h.lasts.slice
  by_cases h1 : i < 0
  · clear hi
    go_enter Try.func20, Try.ntmps20
    go_wp2
    go_ret2
    exact ⟨rfl, rfl⟩
  · have h2 : 0 ≤ i := by omega
    have h3 : (A.length : Int) ≤ i := by omega
    clear hi h1
    go_enter Try.func20, Try.ntmps20
    go_wp2
    go_ret2
    exact ⟨rfl, rfl⟩
theorem dslasts_ok (h : Rk w rb lv qv A B) (i : Nat) (p : Option Nat × Sec) (hp : A[i]? = some p) : Calls Try.prog 20 #[.pointer (some ⟨rb, 0, none⟩), .int .i64 i] w fun e w' => e = .returned (.tuple #[lvOf (some w.heap.size), .int .i64 0]) ∧ Lies w' (some w.heap.size) p.2 ∧ Fr (fun _ => False) w w' := by
  have hc := h.cell0
  obtain ⟨g, cap, rfl, hcap, hg, hi, c0, _⟩ := h.last hp
  obtain ⟨a, c, l, hv, hr, hl, hpad⟩ := (h.rowA p (List.mem_of_getElem? hp)).1.row
  rw [hv] at c0
  have HP : Hid (padS l = p.2) := hpad
  have hd : decide ((A.length : Int) ≤ (i : Int)) = false := by simp; omega
  have hii : (i : Int) < (A.length : Int) := by omega
  clear hp hv hpad
  go_enter Try.func20, Try.ntmps20
  go_wp2_with fail
  refine (full_any _ a c l hr hl).mono ?_
  rintro e w1 ⟨rfl, l1, f1⟩
  rw [HP.out] at l1
  go_wp2
  go_ret2
  exact ⟨rfl, l1, f1⟩
end
end Go.Proofs.Ytkmjmbpdmgoknaa
