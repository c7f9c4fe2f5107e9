
/- What the document's own Num makes: the bytes of a number, the lowest first. -/
import Derived.Test.YtbfkacahaocpfaaWire
namespace Go.Proofs.Ytbfkacahaocpfaa
open Go.RowKit

theorem row_lit {w : World} {B : Nat} {t : TypeId} {fr : Nat × Nat} {l : List Nat} (hl : octs l) (hs : l.length ≤ 140737488355328) (h : w.heap[B]? = some (.cells (cellsOf l).toArray t fr)) : Row w (some ⟨B, 0, none⟩) l.length l := by
  refine ⟨Nat.le_refl _, by omega, hs, hl, .inr ⟨B, 0, rfl, lt_of_block h, fun i hi => ?_⟩⟩
  rw [Nat.zero_add, cell_of_row w B i _ t fr h]
  simpa using cellsOf_get l i hi
theorem octs_one {x : Nat} (h : x < 256) : octs [x] := by intro y hy; simp at hy; omega
theorem le_octs (k n : Nat) : octs (le k n) := by
  induction k with
  | zero => intro x hx; cases hx
  | succ k ih =>
    intro x hx
    rcases List.mem_append.mp hx with h | h
    · exact ih x h
    · simp at h; omega

set_option maxRecDepth 100000 in
set_option maxHeartbeats 1000000 in
theorem refNum_any (n size : Nat) (hn : n < 9223372036854775808) (hs : size ≤ 8) (w : World) :
    Calls Try.prog 33 #[.int .i64 n, .int .i64 size] w fun e w' => ∃ v', e = .returned v' ∧ Made w w' v' (le size n) := by
  obtain ⟨i0, hi, hz0, hz1, hz2⟩ := info_parts info8
  go_enter Try.func33, Try.ntmps33
  go_wp2
  go_loopw [0, 5, 6] (fun m o i wr => ∃ (k : Nat) (a : Option Addr) (c : Nat), k ≤ size ∧ i = .int .i64 k ∧ m = .int .i64 ((n / 256 ^ k : Nat) : Int) ∧ o = .slice a k c ∧ Mine wr w.heap.size (.slice a k c) (le k n) ∧ Fr (fun _ => False) w wr)
    (fun _ _ i _ => size - (intOf i).toNat)
  case atStart => exact ⟨0, none, 0, by omega, rfl, by simp, rfl, World.ownsRow_nil _ _ _ _, Fr.refl _ _⟩
  case round =>
    obtain ⟨k, a, c, hk, rfl, rfl, rfl, hown, hf⟩ := hrel
    have hsz := hf.size
    by_cases hlt : k < size
    · obtain ⟨m, hm⟩ : ∃ m, m = n / 256 ^ k := ⟨_, rfl⟩
      have HM : Hid (m = n / 256 ^ k) := hm
      have hmn : m < 9223372036854775808 := by rw [hm]; exact Nat.lt_of_le_of_lt (Nat.div_le_self _ _) hn
      rw [← hm]
      clear hm
      have hll := le_length k n
      have hmm : m % 256 < 256 := Nat.mod_lt _ (by omega)
      have hb0 : (0 : Int) ≤ (m : Int) % 256 := by omega
      have hb1 : (m : Int) % 256 < 256 := by omega
      have hro : Row (wr.alloc (.cells #[.int .u8 ((m : Int) % 256)] 5)) (some ⟨wr.heap.size, 0, none⟩) 1 [m % 256] := row_lit (octs_one hmm) (by simp) (heap_alloc_new wr _)
      go_wp2_with (at_builtin; refine wpList_append_row _ rfl _ _ 24 24 5 rfl i0 Try.underlying24 Try.underlying24 hi hz0 hz1 hz2 w.heap.size (.slice a k c) (le k n) rfl (hown.alloc _) (some ⟨wr.heap.size, 0, none⟩) 1 1 [m % 256] rfl rfl hro (by simp; omega) (by simp; omega) ?_; intro a' c' w1 hown1 hgrow hat)
      go_roundw
      case rel =>
        refine ⟨k + 1, a', c', by omega, by go_num, val_int ?_, by simp, ?_, ?_⟩
        · rw [Nat.pow_succ, ← Nat.div_div_eq_div_mul, ← HM.out]; omega
        · have e : le (k + 1) n = le k n ++ [m % 256] := by rw [HM.out]; rfl
          rw [e]
          simpa [hll] using hown1
        · exact (hf.alloc _).fresh hgrow (fun j e => (hown.lt j e).1)
      case measure => simp [intOf]; omega
    · have e : k = size := by omega
      subst e
      go_wp2
      go_ret
      exact ⟨_, rfl, hown, hf⟩
end Go.Proofs.Ytbfkacahaocpfaa
