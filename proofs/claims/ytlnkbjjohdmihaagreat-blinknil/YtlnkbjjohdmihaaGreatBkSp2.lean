
/- The pages that speaks builds. -/
import Derived.Test.YtlnkbjjohdmihaaGreatBkSay
import Derived.Test.YtlnkbjjohdmihaaGreatBkScan
namespace Go.Proofs.YtlnkbjjohdmihaaGreat
open Go.RowKit

def sL (p1 p2 p3 : Pt) : List Sl := [⟨1, ⟨1, 0, 0, ⟨#[]⟩, [], [], [2]⟩, p1⟩, ⟨2, ⟨0, 0, 3, ⟨#[109]⟩, [], [], []⟩, p2⟩, ⟨3, ⟨0, 0, 0, ⟨#[]⟩, [⟨#[122]⟩], [⟨#[121]⟩], []⟩, p3⟩]
def sP1 (B : Nat) : Pt := ⟨none, 0, none, 0, some ⟨B, 0, none⟩, 1⟩
def sP3 (B : Nat) : Pt := ⟨some ⟨B + 1, 0, none⟩, 1, some ⟨B + 1 + 1, 0, none⟩, 1, none, 0⟩
def sC (B : Nat) : Array Value := #[.int .i64 1, .int .i64 1, .int .i64 0, .int .i64 0, .string ⟨#[]⟩, .slice none 0 0, .slice none 0 0, .slice (some ⟨B, 0, none⟩) 1 1, .int .i64 2, .int .i64 0, .int .i64 0, .int .i64 3, .string ⟨#[109]⟩, .slice none 0 0, .slice none 0 0, .slice none 0 0, .int .i64 3, .int .i64 0, .int .i64 0, .int .i64 0, .string ⟨#[]⟩, .slice (some ⟨B + 1, 0, none⟩) 1 1, .slice (some ⟨B + 1 + 1, 0, none⟩) 1 1, .slice none 0 0]
theorem s_int {W : World} {B : Nat} {x : Int} {t : TypeId} (h : W.heap[B]? = some (.cells #[.int .i64 x] t (0, 0))) : Ints W (some ⟨B, 0, none⟩) 1 [x] := by
  have c := (one_cells h).1
  refine ⟨Nat.le_refl _, by omega, .inr ⟨B, 0, rfl, lt_of_block h, fun i hi => ?_⟩⟩
  obtain rfl : i = 0 := by simp at hi; omega
  exact c
theorem s_str {W : World} {B : Nat} {x : ByteArray} {t : TypeId} (h : W.heap[B]? = some (.cells #[.string x] t (0, 0))) (hx : x.size ≤ maxLen) : Strs W (some ⟨B, 0, none⟩) 1 [x] := by
  have c := (one_cells h).1
  refine ⟨Nat.le_refl _, by omega, fun s hs => by obtain rfl := List.mem_singleton.1 hs; exact hx, .inr ⟨B, 0, rfl, lt_of_block h, fun i hi => ?_⟩⟩
  obtain rfl : i = 0 := by simp at hi; omega
  exact c
theorem s_slots {W : World} {B : Nat} {t1 t2 t3 t4 : TypeId} (h1 : W.heap[B]? = some (.cells #[.int .i64 2] t1 (0, 0))) (h2 : W.heap[B + 1]? = some (.cells #[.string ⟨#[122]⟩] t2 (0, 0))) (h3 : W.heap[B + 1 + 1]? = some (.cells #[.string ⟨#[121]⟩] t3 (0, 0))) (h4 : W.heap[B + 1 + 1 + 1]? = some (.cells (sC B) t4 (0, 0))) : Slots W (some ⟨B + 1 + 1 + 1, 0, none⟩) 3 (sL (sP1 B) zp (sP3 B)) := by
  have e0 : ∀ w : World, Strs w none 0 [] := fun w => ⟨Nat.le_refl _, by omega, (fun s hs => by cases hs), .inl rfl⟩
  have i0 : ∀ w : World, Ints w none 0 [] := fun w => ⟨Nat.le_refl _, by omega, .inl rfl⟩
  have c1 := (one_cells h1).1
  have c2 := (one_cells h2).1
  have c3 := (one_cells h3).1
  refine ⟨Nat.le_refl 3, by omega, .inr ⟨_, _, rfl, lt_of_block h4, fun i s hs => ?_⟩, fun s hs => ?_⟩
  · match i, hs with
    | 0, hs =>
      cases hs
      exact range_block h4 (fun j v hv => by
        match j, hv with
        | 0, hv | 1, hv | 2, hv | 3, hv | 4, hv | 5, hv | 6, hv | 7, hv => exact hv
        | j + 8, hv => simp [slC] at hv)
    | 1, hs =>
      cases hs
      exact range_block h4 (fun j v hv => by
        match j, hv with
        | 0, hv | 1, hv | 2, hv | 3, hv | 4, hv | 5, hv | 6, hv | 7, hv => exact hv
        | j + 8, hv => simp [slC] at hv)
    | 2, hs =>
      cases hs
      exact range_block h4 (fun j v hv => by
        match j, hv with
        | 0, hv | 1, hv | 2, hv | 3, hv | 4, hv | 5, hv | 6, hv | 7, hv => exact hv
        | j + 8, hv => simp [slC] at hv)
    | i + 3, hs => simp [sL] at hs
  · have hs' : s = ⟨1, ⟨1, 0, 0, ⟨#[]⟩, [], [], [2]⟩, sP1 B⟩ ∨ s = ⟨2, ⟨0, 0, 3, ⟨#[109]⟩, [], [], []⟩, zp⟩ ∨ s = ⟨3, ⟨0, 0, 0, ⟨#[]⟩, [⟨#[122]⟩], [⟨#[121]⟩], []⟩, sP3 B⟩ := by simpa [sL] using hs
    have k0 : (0 : Nat) ≤ 140737488351232 := by omega
    have k1 : (1 : Nat) ≤ 140737488351232 := by omega
    rcases hs' with rfl | rfl | rfl
    · exact ⟨e0 _, e0 _, s_int h1, k0, (fun s hs => by cases hs), (fun s hs => by cases hs), k0, k0, k1⟩
    · exact ⟨e0 _, e0 _, i0 _, k1, (fun s hs => by cases hs), (fun s hs => by cases hs), k0, k0, k0⟩
    · exact ⟨s_str h2 (by decide), s_str h3 (by decide), i0 _, k0, (fun s hs => by obtain rfl := List.mem_singleton.1 hs; exact k1), (fun s hs => by obtain rfl := List.mem_singleton.1 hs; exact k1), k1, k1, k0⟩
end Go.Proofs.YtlnkbjjohdmihaaGreat
