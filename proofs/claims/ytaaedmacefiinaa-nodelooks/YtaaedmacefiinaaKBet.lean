
/- What strings.Clone and key.Between tell, and what the document's own Between tells. -/
import Derived.Test.YtaaedmacefiinaaKRef
import Derived.Lib.BufferWrite
import Derived.Lib.UnsafeStr
import Derived.Laws.MakeOwn
namespace Go.Proofs.Ytaaedmacefiinaa
open Go.RowKit

set_option maxRecDepth 100000 in
set_option maxHeartbeats 1000000 in
theorem clone_any (s : ByteArray) (hs : s.size ≤ 140737488351232) (w : World) :
    Calls Try.prog 107 #[.string s] w fun e w' => e = .returned (.string s) ∧ Fr (fun _ => False) w w' := by
  by_cases h0 : s.size = 0
  · have e : s = ⟨#[]⟩ := ByteArray.ext (Array.eq_empty_of_size_eq_zero h0)
    subst e
    go_enter Try.func107, Try.ntmps107
    go_wp2
    go_ret
    exact ⟨rfl, Fr.refl _ _⟩
  · obtain ⟨i0, hi, hz0, hz1, hz2⟩ := info_parts info8
    have hsz : (Try.prog.info? 5).map (·.size) = some 1 := by rw [hi]; simp [hz1]
    have hco : Try.prog.cellsOf 5 = 1 := by simp [Program.cellsOf, hi, hz1]
    obtain ⟨M, hM⟩ : ∃ M, M = madeCells (Value.int .u8 0).cells (((s.size : Nat) : Int).toNat * i0.size) := ⟨_, rfl⟩
    have hMs : M.size = s.size := by rw [hM, size_madeCells, hz1]; simp
    have hmk : ∀ W : World, (Instr.makeSlice 26 (.int .i64 (s.size : Int)) (.int .i64 (s.size : Int))).run Try.prog W = .ok (.slice (some ⟨W.heap.size, 0, none⟩) s.size s.size) (W.alloc (.cells M 5)) := fun W => by
      have h := run_make (P := Try.prog) W 26 5 i0 (.int .u8 0) Try.underlying26 hi hz0 .i64 .i64 (s.size : Int) (s.size : Int) (by omega) (by omega) (by rw [hz2]; omega) (by omega)
      rw [← hM] at h
      simpa using h
    clear hM
    have hcp := Lib.run_copy_row_string (P := Try.prog) (w.alloc (.cells M 5)) 26 9 3 5 w.heap.size 0 s.size s.size s M 5 Try.underlying26 hsz (heap_alloc_new w _) (Nat.le_refl _) (by omega)
    obtain ⟨Y, hY⟩ : ∃ Y, Y = (M.toList.take 0 ++ Lib.byteCells s.data.toList ++ M.toList.drop (0 + s.size)).toArray := ⟨_, rfl⟩
    rw [← hY] at hcp
    have hYl : Y.toList = Lib.byteCells s.data.toList := by
      rw [hY, List.toList_toArray, List.take_zero, List.nil_append, List.drop_of_length_le (by rw [Array.length_toList]; omega), List.append_nil]
    have hYs : Y.size = s.size := by rw [← Array.length_toList, hYl, Lib.byteCells_length, ← Lib.size_eq]
    have hgY : ((w.alloc (.cells M 5)).setRow w.heap.size Y).heap[w.heap.size]? = some (.cells Y 5 (0, 0)) := setRow_heap _ _ M _ 5 (0, 0) (heap_alloc_new w _)
    have hne : s.data.toList ≠ [] := fun e => h0 (by rw [Lib.size_eq, e]; rfl)
    have hUS := Lib.run_unsafeString_row (P := Try.prog) ((w.alloc (.cells M 5)).setRow w.heap.size Y) 152 3 9 5 Try.underlying152 hco w.heap.size Y.size (by unfold World.shape?; rw [hgY]) s.data.toList hne (by rw [← Lib.size_eq]; omega) (by rw [← Lib.size_eq]; omega)
      (fun j x hx => Lib.cells_of_row hgY Y.size j _ (by rw [List.take_of_length_le (by rw [Array.length_toList]; exact Nat.le_refl _), hYl]; simp [Lib.byteCells, hx]))
    rw [← Lib.size_eq] at hUS
    clear hY
    go_enter Try.func107, Try.ntmps107
    go_wp2
    go_ret
    have hb1 : Below w.heap.size w (w.alloc (.cells M 5)) := (Below.refl _ w).alloc (Nat.le_refl _) _
    have hb2 : Below w.heap.size (w.alloc (.cells M 5)) ((w.alloc (.cells M 5)).setRow w.heap.size Y) := ⟨rfl, rfl, rfl, by simp, fun k hk => setRow_other _ _ _ _ (by omega)⟩
    exact ⟨rfl, Fr.of_below (Lib.below_freeze (hb1.trans hb2) (p := ⟨w.heap.size, 0, none⟩) (Nat.le_refl _) _) (fun k hk _ => hk)⟩

set_option maxRecDepth 100000 in
set_option maxHeartbeats 1000000 in
theorem between_no (a b : ByteArray) (ha : a.size ≤ 140737488351232) (hb : b.size ≤ 140737488351232) (hc : 0 ≤ cpl (bsOf a) (bsOf b)) (w : World) :
    Calls Try.prog 73 #[.string a, .string b] w fun e w' => e = .returned (.tuple #[.string ⟨#[]⟩, .int .i64 1]) ∧ Fr (fun _ => False) w w' := by
  go_enter Try.func73, Try.ntmps73
  go_wp2_with fail
  refine (compare_any a b (by unfold maxLen; omega) (by unfold maxLen; omega) w).mono ?_
  rintro e w1 ⟨rfl, hf⟩
  go_wp2
  go_ret2
  exact ⟨rfl, hf⟩
theorem Fr.seq {a b c : World} (h : Fr (fun _ => False) a b) (k : Fr (fun _ => False) b c) : Fr (fun _ => False) a c := h.trans k (fun _ _ f => f)
set_option maxRecDepth 100000 in
set_option maxHeartbeats 1000000 in
theorem between_yes (a b : ByteArray) (ha : a.size ≤ 140737488351232) (hb : b.size ≤ 140737488351232) (hc : cpl (bsOf a) (bsOf b) = -1) (w : World) :
    Calls Try.prog 73 #[.string a, .string b] w fun e w' => e = .returned (.tuple #[.string (b.extract 0 (cmn (bsOf a) (bsOf b) + 1)), .int .i64 0]) ∧ Fr (fun _ => False) w w' := by
  have hl := (cpl_take_gt _ _ hc).2
  rw [bsOf_length] at hl
  have hlt : cpl (bsOf a) (bsOf b) < 0 := by omega
  clear hc
  obtain ⟨n, hn⟩ : ∃ n, n = cmn (bsOf a) (bsOf b) := ⟨_, rfl⟩
  rw [← hn] at hl ⊢
  have HN : Hid (cmn (bsOf a) (bsOf b) = n) := hn.symm
  clear hn
  go_enter Try.func73, Try.ntmps73
  go_wp2_with fail
  refine (compare_any a b (by unfold maxLen; omega) (by unfold maxLen; omega) w).mono ?_
  rintro e w1 ⟨rfl, hf⟩
  go_wp2_with fail
  refine (common_any a b (by unfold maxLen; omega) (by unfold maxLen; omega) w1).mono ?_
  rw [HN.out]
  rintro e w2 ⟨rfl, hf2⟩
  go_wp2_with fail
  refine (clone_any _ (by simp [ByteArray.size_extract]; omega) _).mono ?_
  rintro e w3 ⟨rfl, hf3⟩
  go_wp2
  go_ret2
  exact ⟨rfl, (hf.seq hf2).seq hf3⟩

set_option maxRecDepth 100000 in
set_option maxHeartbeats 1000000 in
theorem rbetween_no (a b : ByteArray) (ha : a.size ≤ 140737488351232) (hb : b.size ≤ 140737488351232) (hc : 0 ≤ cpl (bsOf a) (bsOf b)) (w : World) :
    Calls Try.prog 75 #[.string a, .string b] w fun e w' => e = .returned (.tuple #[.string ⟨#[]⟩, .int .i64 1]) ∧ Fr (fun _ => False) w w' := by
  have HC : Hid (0 ≤ cpl (bsOf a) (bsOf b)) := hc
  clear hc
  go_enter Try.func75, Try.ntmps75
  go_wp2
  go_loopw [6] (fun i wr => ∃ k : Nat, k ≤ b.size + 1 ∧ i = .int .i64 k ∧ Fr (fun _ => False) w wr) (fun i _ => b.size + 1 - (intOf i).toNat)
  case atStart => exact ⟨0, by omega, rfl, Fr.refl _ _⟩
  case round =>
    obtain ⟨k, hk, rfl, hf⟩ := hrel
    by_cases h1 : k ≤ b.size
    · have hx := cpl_take_no (bsOf a) (bsOf b) k HC.out
      rw [← bs_extract] at hx
      go_wp2_with fail
      refine (rcompare_any (b.extract 0 k) a (by unfold maxLen; simp [ByteArray.size_extract]; omega) (by unfold maxLen; omega) _).mono ?_
      rintro e w1 ⟨rfl, hf1⟩
      go_wp2
      go_roundw
      case rel => exact ⟨k + 1, by omega, by go_num, hf.seq hf1⟩
      case measure => simp [intOf]; omega
    · go_wp2
      go_ret2
      exact ⟨rfl, hf⟩
set_option maxRecDepth 100000 in
set_option maxHeartbeats 1000000 in
theorem rbetween_yes (a b : ByteArray) (ha : a.size ≤ 140737488351232) (hb : b.size ≤ 140737488351232) (hc : cpl (bsOf a) (bsOf b) = -1) (w : World) :
    Calls Try.prog 75 #[.string a, .string b] w fun e w' => e = .returned (.tuple #[.string (b.extract 0 (cmn (bsOf a) (bsOf b) + 1)), .int .i64 0]) ∧ Fr (fun _ => False) w w' := by
  have hl := cpl_take_gt _ _ hc
  have HT : ∀ k, k ≤ cmn (bsOf a) (bsOf b) → cpl ((bsOf b).take k) (bsOf a) ≤ 0 := fun k hk => cpl_take_le _ _ k hk
  rw [bsOf_length] at hl
  clear hc
  obtain ⟨n, hn⟩ : ∃ n, n = cmn (bsOf a) (bsOf b) := ⟨_, rfl⟩
  rw [← hn] at hl HT ⊢
  clear hn
  obtain ⟨hg, hl⟩ := hl
  have HG : Hid (cpl ((bsOf b).take (n + 1)) (bsOf a) = 1) := hg
  have HT' : Hid (∀ k, k ≤ n → cpl ((bsOf b).take k) (bsOf a) ≤ 0) := HT
  clear hg HT
  go_enter Try.func75, Try.ntmps75
  go_wp2
  go_loopw [6] (fun i wr => ∃ k : Nat, k ≤ n + 1 ∧ i = .int .i64 k ∧ Fr (fun _ => False) w wr) (fun i _ => n + 1 - (intOf i).toNat)
  case atStart => exact ⟨0, by omega, rfl, Fr.refl _ _⟩
  case round =>
    obtain ⟨k, hk, rfl, hf⟩ := hrel
    have h0 : k ≤ b.size := by omega
    by_cases h1 : k ≤ n
    · have hx := HT'.out k h1
      rw [← bs_extract] at hx
      go_wp2_with fail
      refine (rcompare_any (b.extract 0 k) a (by unfold maxLen; simp [ByteArray.size_extract]; omega) (by unfold maxLen; omega) _).mono ?_
      rintro e w1 ⟨rfl, hf1⟩
      go_wp2
      go_roundw
      case rel => exact ⟨k + 1, by omega, by go_num, hf.seq hf1⟩
      case measure => simp [intOf]; omega
    · have e : k = n + 1 := by omega
      subst e
      have hx := HG.out
      rw [← bs_extract] at hx
      have hx2 : 0 < cpl (bsOf (b.extract 0 (n + 1))) (bsOf a) := by omega
      clear hx
      go_wp2_with fail
      refine (rcompare_any (b.extract 0 (n + 1)) a (by unfold maxLen; simp [ByteArray.size_extract]; omega) (by unfold maxLen; omega) _).mono ?_
      rintro e w1 ⟨rfl, hf1⟩
      go_wp2
      go_ret2
      exact ⟨rfl, hf.seq hf1⟩
end Go.Proofs.Ytaaedmacefiinaa
