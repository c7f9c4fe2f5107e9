
/- A slice of bytes that came in, as a row. -/
import Derived.Test.YtdlnflcjodpkiaaGreatBase
import Derived.Test.YtdlnflcjodpkiaaGreatRows
import Derived.ProofKit
import Derived.OpenShut
import Derived.ShutString
import Derived.ChangeOld
import Derived.SizedLaws
namespace Go.Proofs.YtdlnflcjodpkiaaGreat
open Go.ChangeShapes Go.WideShapes Go.ChangeAt Go.RowKit

theorem row_nil (w : World) (a : Option Addr) : Row w a 0 [] := ⟨Nat.le_refl _, by omega, by simp, (fun x hx => by cases hx), .inl rfl⟩
theorem row_of_ints {w : World} {x : Addr} {len cap : Nat} {zs : List Int} (hl : len ≤ cap) (hcap : cap ≤ 140737488351232) (hz : zs.length = cap)
    (hcell : ∀ i, i < zs.length → w.cell? (x.add i) = some (.int .u8 (zs.getD i 0))) (hwz : ∀ n ∈ zs, (Lit.int .u8 n).wf = true) : ∃ l : List Nat, len = l.length ∧ Row w (some x) cap l := by
  have hr := range_u8 hwz
  refine ⟨(zs.take len).map Int.toNat, by simp; omega, ?_⟩
  refine ⟨by simp; omega, by omega, by simp; omega, ?_, ?_⟩
  · intro y hy
    simp only [List.mem_map] at hy
    obtain ⟨z, hzm, rfl⟩ := hy
    have hz2 := List.mem_of_mem_take hzm
    obtain ⟨i, hi, he⟩ := List.getElem_of_mem hz2
    have := hr i
    rw [List.getElem?_eq_getElem hi, Option.getD_some, he] at this
    omega
  · by_cases h0 : len = 0
    · exact .inl (by simp [h0])
    · obtain ⟨b, off, spot⟩ := x
      have hc := hcell 0 (by omega)
      have hspot : spot = none := by simpa [Addr.add] using World.cell?_spot hc
      subst hspot
      refine .inr ⟨b, off, rfl, World.block_lt_of_cell? w ⟨b, off + 0, none⟩ (by rw [Addr.add_lit] at hc; exact hc), fun i hi => ?_⟩
      simp at hi
      have h1 := hcell i (by omega)
      rw [Addr.add_lit] at h1
      rw [h1]
      have h2 := hr i
      simp only [List.getD_eq_getElem?_getD, List.getElem?_map, List.getElem?_take, if_pos (show i < len by omega)]
      rw [List.getElem?_eq_getElem (show i < zs.length by omega)] at h2 ⊢
      simp only [Option.getD_some, Option.map_some] at h2 ⊢
      rw [Int.toNat_of_nonneg h2.1]
end Go.Proofs.YtdlnflcjodpkiaaGreat
