
/- The first record that waits is taken away. -/
import Derived.Test.YtkibbojiflklpaaGreatRyAdd
namespace Go.Proofs.YtkibbojiflklpaaGreat
open Go.RowKit Go.Shelf

set_option maxRecDepth 100000 in
set_option maxHeartbeats 16000000 in
theorem q_cut {qb qo : Nat} {A : Array Value} {t : TypeId} {a : Option Addr} {n c d : Nat} {ws : List Wg} (w : World) (hA : w.heap[qb]? = some (.cells A t (0, 0))) (h0 : A[qo]? = some (.slice a n c)) (h1 : A[qo + 1]? = some (.int .i64 (d : Int))) (hd : d < n) (hr : Rw w a n c ws) (hn : n ≤ 1000000) (hne : ∀ k, (Value.slice a n c).ownBlock = some k → k ≠ qb) :
    Calls Tryz.prog 48 #[.pointer (some ⟨qb, qo, none⟩)] w fun e w' => e = .returned (.tuple #[]) ∧ QTo w qb qo A t a n c (ws.drop (d + 1)) w' := by
  obtain ⟨g, off, rfl, hg, hnc, hcm, hth, hra⟩ := hr.some (by omega)
  have hgq : g ≠ qb := hne g rfl
  obtain ⟨hR1, hT1, hF1⟩ := hr.strike hd
  obtain ⟨V, hV⟩ : ∃ V, V = w.setCells g (off + d * 9) (wgC wgZ) := ⟨_, rfl⟩
  have HV : Hid (w.setCells g (off + d * 9) (wgC wgZ) = V) := hV.symm
  rw [← hV] at hR1 hT1 hF1
  have hqb := lt_of_block hA
  have hAV := (hF1.block _ hqb (fun e => hgq e.symm)).trans hA
  have x0 := (cell_blkR hA qo).trans h0
  have x1 := (cell_blkR hA (qo + 1)).trans h1
  have hs : ∀ j, j < 9 → (w.cell? ⟨g, off + d * 9 + j, none⟩).isSome = true ∧ w.frozen? ⟨g, off + d * 9 + j, none⟩ = false := fun j hj => by
    have := hth (d * 9 + j) (by omega)
    rwa [← Nat.add_assoc] at this
  obtain ⟨v0, k0⟩ := Option.isSome_iff_exists.1 (hs 0 (by omega)).1
  obtain ⟨v1, k1⟩ := Option.isSome_iff_exists.1 (hs 1 (by omega)).1
  obtain ⟨v2, k2⟩ := Option.isSome_iff_exists.1 (hs 2 (by omega)).1
  obtain ⟨v3, k3⟩ := Option.isSome_iff_exists.1 (hs 3 (by omega)).1
  obtain ⟨v4, k4⟩ := Option.isSome_iff_exists.1 (hs 4 (by omega)).1
  obtain ⟨v5, k5⟩ := Option.isSome_iff_exists.1 (hs 5 (by omega)).1
  obtain ⟨v6, k6⟩ := Option.isSome_iff_exists.1 (hs 6 (by omega)).1
  obtain ⟨v7, k7⟩ := Option.isSome_iff_exists.1 (hs 7 (by omega)).1
  obtain ⟨v8, k8⟩ := Option.isSome_iff_exists.1 (hs 8 (by omega)).1
  have z0 := (hs 0 (by omega)).2
  have z1 := (hs 1 (by omega)).2
  have z2 := (hs 2 (by omega)).2
  have z3 := (hs 3 (by omega)).2
  have z4 := (hs 4 (by omega)).2
  have z5 := (hs 5 (by omega)).2
  have z6 := (hs 6 (by omega)).2
  have z7 := (hs 7 (by omega)).2
  have z8 := (hs 8 (by omega)).2
  rw [Nat.add_zero] at k0 z0
  have hdn : (d : Int) < (n : Int) := by omega
  have hnx : n ≤ 9223372036854775807 := by omega
  have hcx : c ≤ 9223372036854775807 := by unfold maxLen at hcm; omega
  clear hV hs
  go_enter Tryz.func48, Tryz.ntmps48
  go_upto_region 0 with fail
  go_cut [2] (fun p wc => p = .pointer (some ⟨qb, qo, none⟩) ∧ ∃ k, V.drewN k = wc)
  case first =>
    go_region_law (fail)
    all_goals
      go_wp2_with fail
      go_meet
      refine ⟨rfl, 1, ?_⟩
      rw [← HV.out]
      rfl
  case rest =>
  obtain ⟨rfl, k0', rfl⟩ := hcut
  clear x0 x1 k0 k1 k2 k3 k4 k5 k6 k7 k8 z0 z1 z2 z3 z4 z5 z6 z7 z8 HV
  have hW : (V.drewN k0').heap[qb]? = some (.cells A t (0, 0)) := hAV
  have hRV : Rw (V.drewN k0') (some ⟨g, off, none⟩) n c (ws.set d wgZ) := hR1.fr ((Fr.refl (fun _ => False) V).drewN k0') (fun _ _ e => e)
  have hTV : Rw (V.drewN k0') (some ⟨g, off + (d + 1) * 9, none⟩) (n - (d + 1)) (n - (d + 1)) (ws.drop (d + 1)) := by
    have h2 : Rw V (some ⟨g, off + (d + 1) * 9, none⟩) (n - (d + 1)) (n - (d + 1)) (ws.drop (d + 1)) := ⟨by rw [List.length_drop, ← hr.1], .inr hT1⟩
    exact h2.fr ((Fr.refl (fun _ => False) V).drewN k0') (fun _ _ e => e)
  have hFV : Fr (fun k => k = g) w (V.drewN k0') := hF1.drewN k0'
  have HLEN : Hid (n = ws.length) := hr.1
  have hdn1 : (d : Int) + 1 ≤ (n : Int) := by omega
  have hnc1 : (n : Int) ≤ (c : Int) := by omega
  clear hAV hR1 hT1 hF1 hA hth hra hr hqb
  generalize V.drewN k0' = V2 at *
  clear k0' V
  have HF : Hid (∀ (U : World) (A3 : Array Value) (a2 : Option Addr) (n2 c2 d2 : Nat) (ws2 : List Wg), U.heap[qb]? = some (.cells A3 t (0, 0)) → Fr (fun k => k = qb) V2 U → A3.size = A.size → A3[qo]? = some (.slice a2 n2 c2) → A3[qo + 1]? = some (.int .i64 ((d2 : Nat) : Int)) → (∀ j, j ≠ qo → j ≠ qo + 1 → A3[j]? = A[j]?) → Rw V2 a2 n2 c2 ws2 → d2 ≤ n2 → n2 ≤ n + 1 → ws2.drop d2 = ws.drop (d + 1) → (Value.slice a2 n2 c2).ownBlock = some g → QTo w qb qo A t (some ⟨g, off, none⟩) n c (ws.drop (d + 1)) U) := fun U A3 a2 n2 c2 d2 ws2 g1 g2 g3 g4 g5 g6 g7 g8 g9 g10 g11 => ⟨A3, a2, n2, c2, d2, ws2, g1, g3, g4, g5, g6, g7.fr g2 (fun k e ek => by rw [g11] at e; cases e; exact hgq ek), g8, g9, g10, ((Fr.refl (fun k => k = qb ∨ (Value.slice (some ⟨g, off, none⟩) n c).ownBlock = some k) w).trans hFV (fun k _ e => .inr (by rw [e]; rfl))).trans g2 (fun k _ e => .inl e), .inl (by rw [g11]; rfl)⟩
  have hlt0 : qo < A.size := (Array.getElem?_eq_some_iff.1 h0).1
  have hlt1 : qo + 1 < A.size := (Array.getElem?_eq_some_iff.1 h1).1
  have x0 := (cell_blkR hW qo).trans h0
  have x1 := (cell_blkR hW (qo + 1)).trans h1
  have xz := fun j => frozen_blk hW j
  have hW3 := set_blk hW (qo + 1) (.int .i64 ((d : Int) + 1))
  have hq3 : Qu (V2.setCell ⟨qb, qo + 1, none⟩ (.int .i64 ((d : Int) + 1))) qb qo (some ⟨g, off, none⟩) n c (d + 1) := ⟨by rw [cell_blkR hW3, Array.getElem?_setIfInBounds_ne (by omega)]; exact h0, by rw [cell_blkR hW3, Array.getElem?_setIfInBounds_self_of_lt hlt1]; simp, by omega, by omega⟩
  have hw : ∀ k, Calls Tryz.prog 81 #[.pointer (some ⟨qb, qo, none⟩)] ((V2.setCell ⟨qb, qo + 1, none⟩ (.int .i64 ((d : Int) + 1))).drewN k) fun e w' => e = .returned (.int .i64 ((n : Int) - ((d : Int) + 1))) ∧ ∃ j, w' = ((V2.setCell ⟨qb, qo + 1, none⟩ (.int .i64 ((d : Int) + 1))).drewN k).drewN j := fun k => by
    have := q_waits ((V2.setCell ⟨qb, qo + 1, none⟩ (.int .i64 ((d : Int) + 1))).drewN k) (qb := qb) (qo := qo) (a := some ⟨g, off, none⟩) (n := n) (c := c) (d := d + 1) ⟨hq3.row, hq3.done, hq3.fine, hq3.small⟩
    simpa using this
  have hd0 : (0 : Int) ≤ (d : Int) + 1 := by omega
  have HW3 : Hid ((V2.setCell ⟨qb, qo + 1, none⟩ (.int .i64 ((d : Int) + 1))).heap[qb]? = some (.cells (A.setIfInBounds (qo + 1) (.int .i64 ((d : Int) + 1))) t (0, 0))) := hW3
  have HX : Hid (A[qo]? = some (.slice (some ⟨g, off, none⟩) n c) ∧ A[qo + 1]? = some (.int .i64 (d : Int)) ∧ qo < A.size ∧ qo + 1 < A.size ∧ d < n) := ⟨h0, h1, hlt0, hlt1, hd⟩
  have HRV : Hid (Rw V2 (some ⟨g, off, none⟩) n c (ws.set d wgZ)) := hRV
  have HTV : Hid (Rw V2 (some ⟨g, off + (d + 1) * 9, none⟩) (n - (d + 1)) (n - (d + 1)) (ws.drop (d + 1))) := hTV
  have HGV : Hid (g < V2.heap.size) := by have h := hRV.lt (k := g) rfl; exact h
  have HFA : Hid (∀ j, Fr (fun k => k = qb) V2 ((V2.setCell ⟨qb, qo + 1, none⟩ (.int .i64 ((d : Int) + 1))).drewN j)) := fun j => ((Fr.refl (fun k => k = qb) V2).setCell (p := ⟨qb, qo + 1, none⟩) (fun _ => rfl) _).drewN j
  have HFIN : Hid (∀ (W : World) (a2 : Option Addr) (n2 : Nat) (ws2 : List Wg), W.heap[qb]? = some (.cells (A.setIfInBounds (qo + 1) (.int .i64 ((d : Int) + 1))) t (0, 0)) → Fr (fun k => k = qb) V2 W → Rw V2 a2 n2 n2 ws2 → n2 ≤ n + 1 → ws2 = ws.drop (d + 1) → (Value.slice a2 n2 n2).ownBlock = some g → QTo w qb qo A t (some ⟨g, off, none⟩) n c (ws.drop (d + 1)) ((W.setCell ⟨qb, qo, none⟩ (.slice a2 n2 n2)).setCell ⟨qb, qo + 1, none⟩ (.int .i64 0))) := fun W a2 n2 ws2 g1 g2 g3 g4 g5 g6 => by
    refine HF.out _ _ a2 n2 n2 0 ws2 (set_blk (set_blk g1 qo _) (qo + 1) _) ((g2.setCell (p := ⟨qb, qo, none⟩) (fun _ => rfl) _).setCell (p := ⟨qb, qo + 1, none⟩) (fun _ => rfl) _) (by simp) ?_ ?_ (fun j e1 e2 => ?_) g3 (Nat.zero_le _) g4 (by rw [List.drop_zero]; exact g5) g6
    · rw [Array.getElem?_setIfInBounds_ne (by omega), Array.getElem?_setIfInBounds_self_of_lt (by simp; exact HX.out.2.2.1)]
    · rw [Array.getElem?_setIfInBounds_self_of_lt (by simp; exact HX.out.2.2.2.1)]; rfl
    · rw [Array.getElem?_setIfInBounds_ne (by omega), Array.getElem?_setIfInBounds_ne (by omega), Array.getElem?_setIfInBounds_ne (by omega)]
  clear hW3 hq3 hRV hTV hW h0 h1 hlt0 hlt1 hFV hn hgq hg hne hnc hcm
  by_cases hle : (n : Int) - ((d : Int) + 1) ≤ (d : Int) + 1
  · by_cases hnd : n = d + 1
    · subst hnd
      have hq1 : (d : Int) + 1 ≤ (c : Int) := by omega
      go_wp2
      go_quiet ((go_at_call 81; exact Calls.quiet_of (hw _)))
      go_wp2
      go_region_law (fail)
      all_goals
        go_wp2
        go_end0
        exact ⟨rfl, HFIN.out _ (some ⟨g, off, none⟩) 0 [] HW3.out (HFA.out _) ⟨rfl, .inr ⟨rfl, Nat.zero_le _, g, off, rfl, HGV.out, (fun j v hv => by simp at hv), (fun j hj => by omega)⟩⟩ (Nat.zero_le _) (by rw [List.drop_eq_nil_of_le (by have := HLEN.out; omega)]) rfl⟩
    · go_wp2
      go_quiet ((go_at_call 81; exact Calls.quiet_of (hw _)))
      go_wp2
      go_region_law (fail)
      all_goals
        go_wp2
        go_end0
        exact ⟨rfl, HFIN.out _ (some ⟨g, off + (d + 1) * 9, none⟩) (n - (d + 1)) (ws.drop (d + 1)) HW3.out (HFA.out _) HTV.out (by omega) rfl rfl⟩
  · go_wp2
    go_quiet ((go_at_call 81; exact Calls.quiet_of (hw _)))
    go_wp2
    go_end0
    refine ⟨rfl, HF.out _ _ (some ⟨g, off, none⟩) n c (d + 1) (ws.set d wgZ) HW3.out (HFA.out _) (by simp) (by rw [Array.getElem?_setIfInBounds_ne (by omega)]; exact HX.out.1) (by rw [Array.getElem?_setIfInBounds_self_of_lt HX.out.2.2.2.1]; simp) (fun j e1 e2 => by rw [Array.getElem?_setIfInBounds_ne (by omega)]) HRV.out (by have := HX.out.2.2.2.2; omega) (by omega) ?_ rfl⟩
    exact List.drop_set_of_lt (by omega)
end Go.Proofs.YtkibbojiflklpaaGreat
