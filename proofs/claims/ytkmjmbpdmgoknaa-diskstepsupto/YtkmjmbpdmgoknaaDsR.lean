
/- The document's disk: Read. -/
import Derived.Test.YtkmjmbpdmgoknaaDsFull
namespace Go.Proofs.Ytkmjmbpdmgoknaa
open Go.RowKit
def Bs (B : List (Nat × Nat × Sec)) : List (Nat × Sec) := B.map (fun q => (q.1, q.2.2))
def As (A : List (Option Nat × Sec)) : List Sec := A.map (·.2)
theorem As_length (A : List (Option Nat × Sec)) : (As A).length = A.length := List.length_map _
theorem Bs_length (B : List (Nat × Nat × Sec)) : (Bs B).length = B.length := List.length_map _
theorem Bs_get {B : List (Nat × Nat × Sec)} {k : Nat} {q : Nat × Nat × Sec} (h : B[k]? = some q) : (Bs B)[k]? = some (q.1, q.2.2) := by rw [Bs, List.getElem?_map, h]; rfl
section
variable (rb : Nat) (lv qv : Value) (A : List (Option Nat × Sec)) (B : List (Nat × Nat × Sec)) (w : World)
set_option maxRecDepth 100000 in
set_option maxHeartbeats 1000000 in
theorem dsread_ok (h : Rk w rb lv qv A B) (i : Nat) (p : Option Nat × Sec) (hp : A[i]? = some p) : Calls Try.prog 18 #[.pointer (some ⟨rb, 0, none⟩), .int .i64 i] w fun e w' => ∃ b, e = .returned (.tuple #[lvOf (some b), .int .i64 0]) ∧ Lies w' (some b) (seen (As A) (Bs B) i) ∧ Fr (fun _ => False) w w' := by
  have hlast := dslasts_ok rb lv qv A B w h i p hp
  have hps : (As A).getD i zeroSec = p.2 := by rw [As, List.getD_eq_getElem?_getD, List.getElem?_map, hp]; rfl
  go_enter Try.func18, Try.ntmps18
  go_wp2_with fail
  refine hlast.mono ?_
  simp only [lvOf]
  rintro e w1 ⟨rfl, l1, f1⟩
  have h1 := h.same f1
  have hc1 := h1.cell1
  obtain ⟨aq, cq, rfl, _⟩ := h.waits.slice
  rw [← hps] at l1
  have L1 : Lies w1 (some w.heap.size) (seen (As A) (Bs (B.take 0)) i) := l1
  clear hlast
  obtain ⟨n, hnn⟩ : ∃ n, n = B.length := ⟨_, rfl⟩
  have HN : Hid (n = B.length) := hnn
  have hnm : n ≤ 9223372036854775807 := by
    obtain ⟨_, _, _, z1, z2⟩ := h.waits.slice
    unfold maxLen at z2; omega
  rw [← hnn] at hc1
  clear hnn hps hp
  go_wp2
  go_loopw [6, 21] (fun u t wr => ∃ (k b : Nat), k ≤ n ∧ t = .int .i64 k ∧ u = .slice (some ⟨b, 0, none⟩) 256 256 ∧ Lies wr (some b) (seen (As A) (Bs (B.take k)) i) ∧ Fr (fun _ => False) w1 wr)
    (fun _ t _ => n - (intOf t).toNat)
  case atStart => exact ⟨0, w.heap.size, by omega, rfl, rfl, L1, Fr.refl _ _⟩
  case round =>
  obtain ⟨k, b, hk, rfl, rfl, hL, hf⟩ := hrel
  by_cases hlt : k < n
  · obtain ⟨q, hq⟩ : ∃ q, B[k]? = some q := ⟨_, List.getElem?_eq_getElem (by rw [← HN.out]; exact hlt)⟩
    have hh := h1.same hf
    obtain ⟨g, cap, hv, _, c0, c1, _⟩ := hh.wait hq
    simp only [Value.slice.injEq, true_and] at hv
    obtain ⟨rfl, rfl⟩ := hv
    have HS : Hid (seen (As A) (Bs (B.take (k + 1))) i = if q.1 = i then q.2.2 else seen (As A) (Bs (B.take k)) i) := by
      show _ = _
      rw [Bs, take_next hq, List.map_append, List.map_singleton, seen_snoc]; rfl
    have hlq := (hh.rowB q (List.mem_of_getElem? hq)).1
    obtain ⟨at_, qb, s⟩ := q
    simp only [lvOf] at c0 c1 HS hlq
    have hki : (k : Int) < (n : Int) := by omega
    have fA : Fr (fun _ => False) wr (wr.alloc (.cells #[.int .i64 (at_ : Int), .slice (some ⟨qb, 0, none⟩) 256 256] 58)) := (Fr.refl (fun _ => False) wr).alloc _
    by_cases hat : at_ = i
    · have hS : seen (As A) (Bs (B.take (k + 1))) i = s := by rw [HS.out, if_pos hat]
      have HS2 : Hid (seen (As A) (Bs (B.take (k + 1))) i = s) := hS
      subst hat
      clear hS hq
      go_wp2
      go_roundw
      case rel => exact ⟨k + 1, qb, by omega, by go_num, rfl, by rw [HS2.out]; exact hlq.same fA, hf.alloc _⟩
      case measure => simp [intOf]; omega
    · have hne : ((at_ : Int) == (i : Int)) = false := by simp; omega
      have HS3 : Hid (seen (As A) (Bs (B.take (k + 1))) i = seen (As A) (Bs (B.take k)) i) := by
        show _ = _
        rw [HS.out, if_neg hat]
      clear hat hq
      go_wp2
      go_roundw
      case rel => exact ⟨k + 1, b, by omega, by go_num, rfl, by rw [HS3.out]; exact hL.same fA, hf.alloc _⟩
      case measure => simp [intOf]; omega
  have hkn : n = k := by omega
  subst hkn
  rw [HN.out, List.take_length] at hL
  clear hlt
  go_wp2
  go_ret2
  exact ⟨b, rfl, hL, f1.false_trans hf⟩
theorem dsread_none (h : Rk w rb lv qv A B) (i : Int) (hi : i < 0 ∨ (A.length : Int) ≤ i) : Calls Try.prog 18 #[.pointer (some ⟨rb, 0, none⟩), .int .i64 i] w fun e w' => e = .returned (.tuple #[.slice none 0 0, .int .i64 6]) ∧ Fr (fun _ => False) w w' := by
  have hlast := dslasts_none rb lv qv A B w h i hi
  have hc1 := h.cell1
  have HI : Hid (∀ q ∈ B, ((q.1 : Int) == i) = false) := by
    intro q hq
    have := h.at_ q hq
    simp; omega
  obtain ⟨aq, cq, rfl, _⟩ := h.waits.slice
  obtain ⟨n, hnn⟩ : ∃ n, n = B.length := ⟨_, rfl⟩
  have HN : Hid (n = B.length) := hnn
  have hnm : n ≤ 9223372036854775807 := by
    obtain ⟨_, _, _, z1, z2⟩ := h.waits.slice
    unfold maxLen at z2; omega
  rw [← hnn] at hc1
  clear hnn hi
  go_enter Try.func18, Try.ntmps18
  go_wp2_with fail
  refine hlast.mono ?_
  rintro e w1 ⟨rfl, rfl⟩
  clear hlast
  go_wp2
  go_loopw [6, 21] (fun u t wr => ∃ (k : Nat), k ≤ n ∧ t = .int .i64 k ∧ u = .slice none 0 0 ∧ Fr (fun _ => False) w1 wr)
    (fun _ t _ => n - (intOf t).toNat)
  case atStart => exact ⟨0, by omega, rfl, rfl, Fr.refl _ _⟩
  case round =>
  obtain ⟨k, hk, rfl, rfl, hf⟩ := hrel
  by_cases hlt : k < n
  · obtain ⟨q, hq⟩ : ∃ q, B[k]? = some q := ⟨_, List.getElem?_eq_getElem (by rw [← HN.out]; exact hlt)⟩
    have hh := h.same hf
    obtain ⟨g, cap, hv, _, c0, c1, _⟩ := hh.wait hq
    simp only [Value.slice.injEq, true_and] at hv
    obtain ⟨rfl, rfl⟩ := hv
    have hne := HI.out q (List.mem_of_getElem? hq)
    obtain ⟨at_, qb, s⟩ := q
    simp only [lvOf] at c0 c1 hne
    have hki : (k : Int) < (n : Int) := by omega
    clear hq
    go_wp2
    go_roundw
    case rel => exact ⟨k + 1, by omega, by go_num, rfl, hf.alloc _⟩
    case measure => simp [intOf]; omega
  have hkn : n = k := by omega
  subst hkn
  clear hlt
  go_wp2
  go_ret2
  exact ⟨rfl, hf⟩
end
end Go.Proofs.Ytkmjmbpdmgoknaa
