
/- The first record that waits. -/
import Derived.Test.YtkibbojiflklpaaGreatRyQu
import Derived.Deep.RegionLaw
namespace Go.Proofs.YtkibbojiflklpaaGreat
open Go.RowKit Go.Shelf

set_option maxRecDepth 100000 in
set_option maxHeartbeats 8000000 in
theorem q_first_yes {qb qo : Nat} {b off n c d : Nat} {x : Wg} {ws : List Wg} (w : World) (hq : qb < w.heap.size) (h : Qu w qb qo (some ⟨b, off, none⟩) n c d) (hn : n = ws.length) (hx : ws[d]? = some x) (hr : Wgs w (some ⟨b, off, none⟩) c ws) : Calls Tryz.prog 46 #[.pointer (some ⟨qb, qo, none⟩)] w fun e w' => e = .returned (.tuple #[wgV x, .bool true]) ∧ Fr (fun _ => False) w w' := by
  have hdn : d < n := by rw [hn]; exact (List.getElem?_eq_some_iff.1 hx).1
  have F0 := Fr.box w (.cells #[.int .i64 0, .int .i64 0, .int .i64 0, .int .i64 0, .int .i64 0, .int .i64 0, .string ⟨#[]⟩, .string ⟨#[]⟩, .int .i64 0] 98)
  have h1 : Qu (w.alloc (.cells #[.int .i64 0, .int .i64 0, .int .i64 0, .int .i64 0, .int .i64 0, .int .i64 0, .string ⟨#[]⟩, .string ⟨#[]⟩, .int .i64 0] 98)) qb qo (some ⟨b, off, none⟩) n c d := ⟨(F0.cell (p := ⟨qb, qo, none⟩) hq (fun f => f)).trans h.row, (F0.cell (p := ⟨qb, qo + 1, none⟩) hq (fun f => f)).trans h.done, h.fine, h.small⟩
  have hw := q_waits _ h1
  have hne : (((n : Int) - (d : Int)) == 0) = false := by rw [beq_eq_false_iff_ne]; omega
  have hc1 : n ≤ c := by rw [hn]; exact hr.le
  have hc2 := hr.max
  have HQ : Hid (∀ k, ((w.alloc (.cells #[.int .i64 0, .int .i64 0, .int .i64 0, .int .i64 0, .int .i64 0, .int .i64 0, .string ⟨#[]⟩, .string ⟨#[]⟩, .int .i64 0] 98)).drewN k).cell? ⟨qb, qo, none⟩ = some (.slice (some ⟨b, off, none⟩) n c) ∧ ((w.alloc (.cells #[.int .i64 0, .int .i64 0, .int .i64 0, .int .i64 0, .int .i64 0, .int .i64 0, .string ⟨#[]⟩, .string ⟨#[]⟩, .int .i64 0] 98)).drewN k).cell? ⟨qb, qo + 1, none⟩ = some (.int .i64 (d : Int))) := fun k => ⟨h1.row, h1.done⟩
  have hrw := hr.same F0
  obtain ⟨b', off', he, hb, hcc⟩ : ∃ b' off', some (⟨b, off, none⟩ : Addr) = some ⟨b', off', none⟩ ∧ b' < (w.alloc (.cells #[.int .i64 0, .int .i64 0, .int .i64 0, .int .i64 0, .int .i64 0, .int .i64 0, .string ⟨#[]⟩, .string ⟨#[]⟩, .int .i64 0] 98)).heap.size ∧ ∀ i y, ws[i]? = some y → (w.alloc (.cells #[.int .i64 0, .int .i64 0, .int .i64 0, .int .i64 0, .int .i64 0, .int .i64 0, .string ⟨#[]⟩, .string ⟨#[]⟩, .int .i64 0] 98)).rangeAt b' (off' + i * 9) (wgC y) := by
    rcases hrw.at_ with h0 | h0
    · rw [h0] at hx; cases hx
    · exact h0
  simp only [Option.some.injEq, Addr.mk.injEq, and_true] at he
  obtain ⟨rfl, rfl⟩ := he
  have HR : Hid (∀ k, ((w.alloc (.cells #[.int .i64 0, .int .i64 0, .int .i64 0, .int .i64 0, .int .i64 0, .int .i64 0, .string ⟨#[]⟩, .string ⟨#[]⟩, .int .i64 0] 98)).drewN k).rangeAt b (off + d * 9) (wgC x)) := fun k => hcc d x hx
  have HF : Hid (Fr (fun _ => False) w (w.alloc (.cells #[.int .i64 0, .int .i64 0, .int .i64 0, .int .i64 0, .int .i64 0, .int .i64 0, .string ⟨#[]⟩, .string ⟨#[]⟩, .int .i64 0] 98))) := F0
  have HB : Hid (∀ k, ((w.alloc (.cells #[.int .i64 0, .int .i64 0, .int .i64 0, .int .i64 0, .int .i64 0, .int .i64 0, .string ⟨#[]⟩, .string ⟨#[]⟩, .int .i64 0] 98)).drewN k).heap[w.heap.size]? = some (.cells #[.int .i64 0, .int .i64 0, .int .i64 0, .int .i64 0, .int .i64 0, .int .i64 0, .string ⟨#[]⟩, .string ⟨#[]⟩, .int .i64 0] 98 (0, 0))) := fun k => heap_alloc_new w _
  obtain ⟨⟨lsn, ep, kind, page, other, req, key, val⟩, pt⟩ := x
  clear h h1 F0 hrw hcc hr hx hn hb
  go_enter Tryz.func46, Tryz.ntmps46
  go_wp2_with fail
  refine hw.mono ?_
  rintro e w1 ⟨rfl, k, rfl⟩
  obtain ⟨z0, z1, z2, z3, z4, z5, z6, z7, z8, z9⟩ := nine_cells (HB.out k)
  obtain ⟨x0, x1⟩ := HQ.out k
  obtain ⟨q0, q1, q2, q3, q4, q5, q6, q7, q8⟩ := wg_range (HR.out k)
  dsimp only at q0 q1 q2 q3 q4 q5 q6 q7 q8
  have i1 : (d : Int) < (n : Int) := by omega
  have HBK := HB.out k
  have HFV : Hid (Fr (fun _ => False) w ((w.alloc (.cells #[.int .i64 0, .int .i64 0, .int .i64 0, .int .i64 0, .int .i64 0, .int .i64 0, .string ⟨#[]⟩, .string ⟨#[]⟩, .int .i64 0] 98)).drewN k)) := HF.out.drewN k
  generalize (w.alloc (.cells #[.int .i64 0, .int .i64 0, .int .i64 0, .int .i64 0, .int .i64 0, .int .i64 0, .string ⟨#[]⟩, .string ⟨#[]⟩, .int .i64 0] 98)).drewN k = V at *
  have HBV : Hid (V.heap[w.heap.size]? = some (.cells #[.int .i64 0, .int .i64 0, .int .i64 0, .int .i64 0, .int .i64 0, .int .i64 0, .string ⟨#[]⟩, .string ⟨#[]⟩, .int .i64 0] 98 (0, 0))) := HBK
  obtain ⟨g, hg⟩ : ∃ g, g = w.heap.size := ⟨_, rfl⟩
  have HG : Hid (g = w.heap.size) := hg
  rw [← hg] at z0 z1 z2 z3 z4 z5 z6 z7 z8 HBV ⊢
  simp only [← hg] at z9
  clear hw hq HBK HB HF HQ HR hg
  go_wp2
  go_region_law (fail)
  all_goals go_wp2
  all_goals
    obtain ⟨hp, fp⟩ := put9_is (W := V) (b := g) HBV.out (.int .i64 lsn) (.int .i64 ep) (.int .i64 kind) (.int .i64 page) (.int .i64 other) (.int .i64 req) (.string key) (.string val) (.int .i64 pt)
    obtain ⟨y0, y1, y2, y3, y4, y5, y6, y7, y8, _⟩ := nine_cells hp
    unfold put9 at y0 y1 y2 y3 y4 y5 y6 y7 y8
    refine bodyPost_ret (v := .tuple #[wgV (⟨lsn, ep, kind, page, other, req, key, val⟩, pt), .bool true]) (by simp [results, Tryz.results46, go_sem, y0, y1, y2, y3, y4, y5, y6, y7, y8, wgV]) rfl ?_
    exact ⟨rfl, (HFV.out.trans fp (fun i hi e => by have := HG.out; omega)).drew⟩
end Go.Proofs.YtkibbojiflklpaaGreat
