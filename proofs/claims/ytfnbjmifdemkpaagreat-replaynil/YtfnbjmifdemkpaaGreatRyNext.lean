
/- Of all records that wait, the one of the least LSN; the consistent point; up to where all is done. -/
import Derived.Test.YtfnbjmifdemkpaaGreatRySt
namespace Go.Proofs.YtfnbjmifdemkpaaGreat
open Go.RowKit Go.Shelf

def stepN (acc : Option Wg) (l : List Wg) : Option Wg := match l.head? with
  | none => acc
  | some x => match acc with
    | none => some x
    | some y => if x.1.lsn < y.1.lsn then some x else some y
def nextN (R : RSt) (k : Nat) : Option Wg := (List.range k).foldl (fun acc i => stepN acc (R.L i)) none
def nextR (R : RSt) : Option Wg := nextN R R.wk
theorem nextN_succ (R : RSt) (k : Nat) : nextN R (k + 1) = stepN (nextN R k) (R.L k) := by unfold nextN; rw [List.range_succ, List.foldl_append]; rfl
def wgA (x : Wg) : Array Value := #[.int .i64 x.1.lsn, .int .i64 x.1.ep, .int .i64 x.1.kind, .int .i64 x.1.page, .int .i64 x.1.other, .int .i64 x.1.req, .string x.1.key, .string x.1.val, .int .i64 x.2]
/-- Nine cells of a block that is not of w. -/
theorem put9_fr {w V : World} {g : Nat} {t : TypeId} {c0 c1 c2 c3 c4 c5 c6 c7 c8 : Value} (h : V.heap[g]? = some (.cells #[c0, c1, c2, c3, c4, c5, c6, c7, c8] t (0, 0))) (f : Fr (fun _ => False) w V) (hg : w.heap.size ≤ g) (v0 v1 v2 v3 v4 v5 v6 v7 v8 : Value) : Fr (fun _ => False) w (put9 V g v0 v1 v2 v3 v4 v5 v6 v7 v8) := f.trans (put9_is h v0 v1 v2 v3 v4 v5 v6 v7 v8).2 (fun i hi e => by omega)
section
variable {S : Nat → Prop} {b : Nat} {R : RSt} {N : Nat}
def NxtO (w : World) (R : RSt) (e : Ending) (w' : World) : Prop := e = .returned (.tuple #[wgV ((nextR R).getD wgZ), .bool (nextR R).isSome]) ∧ Fr (fun _ => False) w w'
set_option maxRecDepth 100000 in
set_option maxHeartbeats 16000000 in
theorem ry_nextv (w : World) (h : Ry w S b R N) (hN : N ≤ 1000000) : Calls Tryz.prog 52 #[.pointer (some ⟨b, 0, none⟩)] w (NxtO w R) := by
  have HR : Hid (∀ W, Fr (fun _ => False) w W → Ry W S b R N) := fun W f => h.same f
  have hwk : R.wk ≤ 8 := by obtain ⟨_, _, _, _, _, h⟩ := h; exact h.few
  have hb : b < w.heap.size := by obtain ⟨_, _, _, _, _, h⟩ := h; exact lt_of_block h.blk
  have f1 := Fr.box w (.cells (wgA wgZ) 100)
  have f2 := Fr.box (w.alloc (.cells (wgA wgZ) 100)) (.cells (wgA wgZ) 100)
  have hcn := ry_cnt _ (HR.out _ (f1.seq' f2))
  have HB2 : Hid (((w.alloc (.cells (wgA wgZ) 100)).alloc (.cells (wgA wgZ) 100)).heap[w.heap.size]? = some (.cells (wgA wgZ) 100 (0, 0))) := f2.blk (heap_alloc_new w _) (fun e => e)
  have HB4 : Hid (((w.alloc (.cells (wgA wgZ) 100)).alloc (.cells (wgA wgZ) 100)).heap[w.heap.size + 1]? = some (.cells (wgA ((nextN R 0).getD wgZ)) 100 (0, 0))) := by
    have := heap_alloc_new (w.alloc (.cells (wgA wgZ) 100)) (.cells (wgA wgZ) 100)
    rwa [show (w.alloc (.cells (wgA wgZ) 100)).heap.size = w.heap.size + 1 by simp] at this
  have HF0 : Hid (Fr (fun _ => False) w ((w.alloc (.cells (wgA wgZ) 100)).alloc (.cells (wgA wgZ) 100))) := f1.seq' f2
  clear h f1 f2
  go_enter Tryz.func52, Tryz.ntmps52
  go_wp2_with fail
  refine hcn.mono ?_
  rintro e w3 ⟨rfl, rfl⟩
  clear hcn
  go_wp2
  go_loopw [5, 11] (fun v i wr => ∃ k : Nat, k ≤ R.wk ∧ i = .int .i64 k ∧ v = .bool (nextN R k).isSome ∧ Hid (wr.heap[w.heap.size + 1]? = some (.cells (wgA ((nextN R k).getD wgZ)) 100 (0, 0))) ∧ Hid (wr.heap[w.heap.size]? = some (.cells (wgA wgZ) 100 (0, 0))) ∧ Hid (Fr (fun _ => False) w wr)) (fun _ i _ => R.wk - (intOf i).toNat)
  case atStart => exact ⟨0, by omega, rfl, rfl, HB4.out, HB2.out, HF0.out⟩
  case round =>
    obtain ⟨k, hk, rfl, rfl, H4, H2, HF⟩ := hrel
    clear HB2 HB4 HF0
    by_cases hlt : k < R.wk
    · have hki : (k : Int) < (R.wk : Int) := by omega
      have hfi := ry_first wr (HR.out _ HF.out) hN k (by omega)
      have HNS : Hid (nextN R (k + 1) = stepN (nextN R k) (R.L k)) := nextN_succ R k
      rw [show 2 + 2 * k = 2 + k * 2 by omega] at hfi
      have hk8 : (k : Int) < 8 := by omega
      obtain ⟨acc, hacc⟩ : ∃ acc, acc = nextN R k := ⟨_, rfl⟩
      rw [← hacc] at H4 HNS
      simp only [← hacc]
      obtain ⟨l, hl⟩ : ∃ l, l = R.L k := ⟨_, rfl⟩
      rw [← hl] at hfi HNS
      unfold FirO at hfi
      clear hl
      cases l with
      | nil =>
        dsimp only [List.headD, List.isEmpty, Bool.not_true] at hfi
        have HNX : Hid (acc = nextN R (k + 1)) := by show _ = _; rw [HNS.out]; rfl
        have HSOME : Hid (acc.isSome = (nextN R (k + 1)).isSome) := by show _ = _; rw [← HNX.out]
        clear hacc HNS
        go_wp2_with fail
        refine hfi.mono ?_
        rintro e w3 ⟨rfl, f3⟩
        have HFX : Hid (Fr (fun _ => False) wr (w3.alloc (.cells (wgA wgZ) 100))) := f3.seq' (Fr.box _ _)
        have HF5 : Hid (Fr (fun _ => False) w (w3.alloc (.cells (wgA wgZ) 100))) := HF.out.seq' HFX.out
        have H45 : Hid ((w3.alloc (.cells (wgA wgZ) 100)).heap[w.heap.size + 1]? = some (.cells (wgA ((nextN R (k + 1)).getD wgZ)) 100 (0, 0))) := by
          show _ = _
          rw [← HNX.out]
          exact HFX.out.blk H4.out (fun e => e)
        have H25 : Hid ((w3.alloc (.cells (wgA wgZ) 100)).heap[w.heap.size]? = some (.cells (wgA wgZ) 100 (0, 0))) := HFX.out.blk H2.out (fun e => e)
        clear hfi f3 H4 H2 HF HFX
        unfold wgV wgZ
        dsimp only
        go_wp2
        go_roundw
        case rel => exact ⟨k + 1, by omega, by go_num, by rw [HSOME.out], H45, H25, HF5⟩
        case measure => simp [intOf]; omega
      | cons x t =>
        dsimp only [List.headD, List.isEmpty, Bool.not_false] at hfi
        cases acc with
        | none =>
          have HNX : Hid (nextN R (k + 1) = some x) := by show _ = _; rw [HNS.out]; rfl
          clear hacc HNS
          dsimp only [Option.isSome]
          go_wp2_with fail
          refine hfi.mono ?_
          rintro e w3 ⟨rfl, f3⟩
          have FX : Fr (fun _ => False) wr (w3.alloc (.cells (wgA x) 100)) := f3.seq' (Fr.box _ _)
          have h4 := FX.blk H4.out (fun e => e)
          have h2 := FX.blk H2.out (fun e => e)
          have FW := HF.out.seq' FX
          obtain ⟨⟨lsn, ep, kind, page, other, req, key, val⟩, pn⟩ := x
          unfold wgA at h4 h2 FW
          unfold wgZ at h4 h2
          unfold wgV
          dsimp only [Option.getD] at h4 h2 FW ⊢
          obtain ⟨z0, z1, z2, z3, z4, z5, z6, z7, z8, z9⟩ := nine_cells h4
          obtain ⟨hp, fp⟩ := put9_is h4 (.int .i64 lsn) (.int .i64 ep) (.int .i64 kind) (.int .i64 page) (.int .i64 other) (.int .i64 req) (.string key) (.string val) (.int .i64 pn)
          have H45 : Hid ((put9 (w3.alloc (.cells #[.int .i64 lsn, .int .i64 ep, .int .i64 kind, .int .i64 page, .int .i64 other, .int .i64 req, .string key, .string val, .int .i64 pn] 100)) (w.heap.size + 1) (.int .i64 lsn) (.int .i64 ep) (.int .i64 kind) (.int .i64 page) (.int .i64 other) (.int .i64 req) (.string key) (.string val) (.int .i64 pn)).heap[w.heap.size + 1]? = some (.cells (wgA ((nextN R (k + 1)).getD wgZ)) 100 (0, 0))) := by
            show _ = _
            rw [HNX.out]; exact hp
          have H25 : Hid ((put9 (w3.alloc (.cells #[.int .i64 lsn, .int .i64 ep, .int .i64 kind, .int .i64 page, .int .i64 other, .int .i64 req, .string key, .string val, .int .i64 pn] 100)) (w.heap.size + 1) (.int .i64 lsn) (.int .i64 ep) (.int .i64 kind) (.int .i64 page) (.int .i64 other) (.int .i64 req) (.string key) (.string val) (.int .i64 pn)).heap[w.heap.size]? = some (.cells (wgA wgZ) 100 (0, 0))) := (fp.block _ (lt_of_block h2) (fun e => by omega)).trans h2
          have HF5 : Hid (Fr (fun _ => False) w (put9 (w3.alloc (.cells #[.int .i64 lsn, .int .i64 ep, .int .i64 kind, .int .i64 page, .int .i64 other, .int .i64 req, .string key, .string val, .int .i64 pn] 100)) (w.heap.size + 1) (.int .i64 lsn) (.int .i64 ep) (.int .i64 kind) (.int .i64 page) (.int .i64 other) (.int .i64 req) (.string key) (.string val) (.int .i64 pn))) := put9_fr h4 FW (by omega) _ _ _ _ _ _ _ _ _
          have hg1 := lt_of_block H4.out
          have hs3 := f3.size
          unfold put9 at H45 H25 HF5
          clear hfi f3 H4 H2 HF FX h4 h2 FW hp fp
          go_wp2
          go_roundw
          case rel => exact ⟨k + 1, by omega, by go_num, by rw [HNX.out], H45, H25, HF5⟩
          case measure => simp [intOf]; omega
        | some y =>
          by_cases hxy : x.1.lsn < y.1.lsn
          · skip
            have HNX : Hid (nextN R (k + 1) = some x) := by show _ = _; rw [HNS.out]; show (if _ then _ else _) = _; rw [if_pos hxy]
            clear hacc HNS
            dsimp only [Option.isSome]
            go_wp2_with fail
            refine hfi.mono ?_
            rintro e w3 ⟨rfl, f3⟩
            have FX : Fr (fun _ => False) wr (w3.alloc (.cells (wgA x) 100)) := f3.seq' (Fr.box _ _)
            have h4 := FX.blk H4.out (fun e => e)
            have h2 := FX.blk H2.out (fun e => e)
            have FW := HF.out.seq' FX
            obtain ⟨⟨lsn, ep, kind, page, other, req, key, val⟩, pn⟩ := x
            obtain ⟨⟨lsn', ep', kind', page', other', req', key', val'⟩, pn'⟩ := y
            dsimp only at hxy
            unfold wgA at h4 h2 FW
            unfold wgZ at h2
            unfold wgV
            dsimp only [Option.getD] at h4 h2 FW ⊢
            obtain ⟨z0, z1, z2, z3, z4, z5, z6, z7, z8, z9⟩ := nine_cells h4
            obtain ⟨hp, fp⟩ := put9_is h4 (.int .i64 lsn) (.int .i64 ep) (.int .i64 kind) (.int .i64 page) (.int .i64 other) (.int .i64 req) (.string key) (.string val) (.int .i64 pn)
            have H45 : Hid ((put9 (w3.alloc (.cells #[.int .i64 lsn, .int .i64 ep, .int .i64 kind, .int .i64 page, .int .i64 other, .int .i64 req, .string key, .string val, .int .i64 pn] 100)) (w.heap.size + 1) (.int .i64 lsn) (.int .i64 ep) (.int .i64 kind) (.int .i64 page) (.int .i64 other) (.int .i64 req) (.string key) (.string val) (.int .i64 pn)).heap[w.heap.size + 1]? = some (.cells (wgA ((nextN R (k + 1)).getD wgZ)) 100 (0, 0))) := by
              show _ = _
              rw [HNX.out]; exact hp
            have H25 : Hid ((put9 (w3.alloc (.cells #[.int .i64 lsn, .int .i64 ep, .int .i64 kind, .int .i64 page, .int .i64 other, .int .i64 req, .string key, .string val, .int .i64 pn] 100)) (w.heap.size + 1) (.int .i64 lsn) (.int .i64 ep) (.int .i64 kind) (.int .i64 page) (.int .i64 other) (.int .i64 req) (.string key) (.string val) (.int .i64 pn)).heap[w.heap.size]? = some (.cells (wgA wgZ) 100 (0, 0))) := (fp.block _ (lt_of_block h2) (fun e => by omega)).trans h2
            have HF5 : Hid (Fr (fun _ => False) w (put9 (w3.alloc (.cells #[.int .i64 lsn, .int .i64 ep, .int .i64 kind, .int .i64 page, .int .i64 other, .int .i64 req, .string key, .string val, .int .i64 pn] 100)) (w.heap.size + 1) (.int .i64 lsn) (.int .i64 ep) (.int .i64 kind) (.int .i64 page) (.int .i64 other) (.int .i64 req) (.string key) (.string val) (.int .i64 pn))) := put9_fr h4 FW (by omega) _ _ _ _ _ _ _ _ _
            have hg1 := lt_of_block H4.out
            have hs3 := f3.size
            unfold put9 at H45 H25 HF5
            clear hfi f3 H4 H2 HF FX h4 h2 FW hp fp
            go_wp2
            go_roundw
            case rel => exact ⟨k + 1, by omega, by go_num, by rw [HNX.out], H45, H25, HF5⟩
            case measure => simp [intOf]; omega
          · have HNX : Hid (nextN R (k + 1) = some y) := by show _ = _; rw [HNS.out]; show (if _ then _ else _) = _; rw [if_neg hxy]
            clear hacc HNS
            dsimp only [Option.isSome]
            go_wp2_with fail
            refine hfi.mono ?_
            rintro e w3 ⟨rfl, f3⟩
            have FX : Fr (fun _ => False) wr (w3.alloc (.cells (wgA x) 100)) := f3.seq' (Fr.box _ _)
            have h4 := FX.blk H4.out (fun e => e)
            have HF5 : Hid (Fr (fun _ => False) w (w3.alloc (.cells (wgA x) 100))) := HF.out.seq' FX
            have H45 : Hid ((w3.alloc (.cells (wgA x) 100)).heap[w.heap.size + 1]? = some (.cells (wgA ((nextN R (k + 1)).getD wgZ)) 100 (0, 0))) := by
              show _ = _
              rw [HNX.out]; exact h4
            have H25 : Hid ((w3.alloc (.cells (wgA x) 100)).heap[w.heap.size]? = some (.cells (wgA wgZ) 100 (0, 0))) := FX.blk H2.out (fun e => e)
            obtain ⟨⟨lsn, ep, kind, page, other, req, key, val⟩, pn⟩ := x
            obtain ⟨⟨lsn', ep', kind', page', other', req', key', val'⟩, pn'⟩ := y
            dsimp only at hxy
            unfold wgA at h4
            unfold wgV
            dsimp only [Option.getD] at h4 ⊢
            obtain ⟨z0, z1, z2, z3, z4, z5, z6, z7, z8, z9⟩ := nine_cells h4
            have hg1 := lt_of_block H4.out
            have hs3 := f3.size
            clear hfi f3 H4 H2 HF FX h4
            go_wp2
            go_roundw
            case rel => exact ⟨k + 1, by omega, by go_num, by rw [HNX.out], H45, H25, HF5⟩
            case measure => simp [intOf]; omega
    · obtain rfl : k = R.wk := by omega
      have hnr : nextN R R.wk = nextR R := rfl
      obtain ⟨acc, hacc⟩ : ∃ acc, acc = nextR R := ⟨_, rfl⟩
      have HACC : Hid (acc = nextR R) := hacc
      rw [hnr, ← hacc] at H4
      simp only [hnr, ← hacc]
      clear hnr hacc
      obtain ⟨⟨⟨lsn, ep, kind, page, other, req, key, val⟩, pn⟩, hX⟩ : ∃ X, X = acc.getD wgZ := ⟨_, rfl⟩
      have HXE : Hid ((⟨⟨lsn, ep, kind, page, other, req, key, val⟩, pn⟩ : Wg) = acc.getD wgZ) := hX
      rw [← hX] at H4
      have h4 := H4.out
      have h2 := H2.out
      unfold wgA at h4 h2
      unfold wgZ at h2
      dsimp only at h4 h2
      obtain ⟨z0, z1, z2, z3, z4, z5, z6, z7, z8, z9⟩ := nine_cells h4
      obtain ⟨u0, u1, u2, u3, u4, u5, u6, u7, u8, u9⟩ := nine_cells h2
      obtain ⟨hp, fp⟩ := put9_is h2 (.int .i64 lsn) (.int .i64 ep) (.int .i64 kind) (.int .i64 page) (.int .i64 other) (.int .i64 req) (.string key) (.string val) (.int .i64 pn)
      have HFF : Hid (Fr (fun _ => False) w (put9 wr w.heap.size (.int .i64 lsn) (.int .i64 ep) (.int .i64 kind) (.int .i64 page) (.int .i64 other) (.int .i64 req) (.string key) (.string val) (.int .i64 pn))) := put9_fr h2 HF.out (Nat.le_refl _) _ _ _ _ _ _ _ _ _
      clear h4 h2 H4 H2 HF hX fp
      go_wp2
      obtain ⟨y0, y1, y2, y3, y4, y5, y6, y7, y8, _⟩ := nine_cells hp
      unfold put9 at y0 y1 y2 y3 y4 y5 y6 y7 y8
      refine bodyPost_ret (v := .tuple #[wgV (⟨lsn, ep, kind, page, other, req, key, val⟩, pn), .bool acc.isSome]) (by simp [results, Tryz.results52, go_sem, y0, y1, y2, y3, y4, y5, y6, y7, y8, wgV]) rfl ?_
      refine ⟨?_, HFF.out⟩
      rw [← HACC.out, ← HXE.out]
end
end Go.Proofs.YtfnbjmifdemkpaaGreat
