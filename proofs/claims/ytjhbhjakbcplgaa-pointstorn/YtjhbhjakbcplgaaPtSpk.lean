
/- latticelaw15.speaks answers true. -/
import Derived.Test.YtjhbhjakbcplgaaPtBack
namespace Go.Proofs.Ytjhbhjakbcplgaa
open Go.RowKit Crcm

def k1 : Pn := ⟨1, 9, 4⟩
def k2 : Pn := ⟨2, 9, 10⟩
theorem k1_ok : ptB k1 = true := by decide
theorem k2_ok : ptB k2 = true := by decide
theorem dec1 : decP (pf k1) = (k1, 0) := by have := decP_pf k1 k1_ok []; rwa [List.append_nil] at this
theorem dec2 : decP (pf k2) = (k2, 0) := by have := decP_pf k2 k2_ok []; rwa [List.append_nil] at this
theorem dec0 : decP [] = (⟨0, 0, 0⟩, 10) := rfl
theorem nx1 : nxt [] [] ⟨0, 9, 4⟩ = (k1, 0, pf k1, 0) := by
  unfold nxt; rw [chs_eq, dec0]
  rw [show rchs (⟨0, 0, 0⟩, 10) (⟨0, 0, 0⟩, 10) = (⟨0, 0, 0⟩, 0, 6) from rfl]
  have h : nxE k1 0 = (k1, 0, pf k1, 0) := by unfold nxE; rw [if_pos k1_ok]
  exact h
theorem nx2 : nxt (pf k1) [] ⟨0, 9, 10⟩ = (k2, 1, pf k2, 0) := by
  unfold nxt; rw [chs_eq, dec0, dec1]
  rw [show rchs (k1, 0) (⟨0, 0, 0⟩, 10) = (k1, 0, 0) from rfl]
  have h : nxE k2 1 = (k2, 1, pf k2, 0) := by unfold nxE; rw [if_pos k2_ok]
  exact h
theorem ch3 : chs (pf k1) (pf k2) = (k2, 1, 0) := by rw [chs_eq, dec1, dec2]; rfl
theorem dys_two {w : World} : Dys (w.alloc (.cells #[.int .i64 1, .int .i64 7, .int .i64 2, .int .i64 4] 25)) (some ⟨w.heap.size, 0, none⟩) 2 [⟨1, 7⟩, ⟨2, 4⟩] := by
  have hb := heap_alloc_new w (.cells #[.int .i64 1, .int .i64 7, .int .i64 2, .int .i64 4] 25)
  refine ⟨?_, by simp, by omega, .inr ⟨w.heap.size, 0, rfl, by simp, ?_⟩⟩
  · intro i s hs
    match i, hs with
    | 0, hs => simp at hs; subst hs; exact ⟨rfl, rfl⟩
    | 1, hs => simp at hs; subst hs; exact ⟨rfl, rfl⟩
  · intro i s hs
    match i, hs with
    | 0, hs => simp at hs; subst hs; exact ⟨by rw [cell_of_row _ _ _ _ _ _ hb]; rfl, by rw [cell_of_row _ _ _ _ _ _ hb]; rfl⟩
    | 1, hs => simp at hs; subst hs; exact ⟨by rw [cell_of_row _ _ _ _ _ _ hb]; rfl, by rw [cell_of_row _ _ _ _ _ _ hb]; rfl⟩
theorem rd1 : rdoF ([(⟨1, 7⟩ : Dy), ⟨2, 4⟩].map Dy.fst) 9 = (4, 0) := by decide

set_option maxRecDepth 100000 in
set_option maxHeartbeats 4000000 in
theorem ptspeaks_any (w : World) : Calls Try.prog 9 #[] w fun e w' => e = .returned (.bool true) ∧ Fr (fun _ => False) w w' := by
  have f0 := Fr.box w (.cells #[.int .i64 1, .int .i64 7, .int .i64 2, .int .i64 4] 25)
  have hd := dys_two (w := w)
  go_enter Try.func9, Try.ntmps9
  go_wp2_with fail
  refine (redo_any _ 2 2 [⟨1, 7⟩, ⟨2, 4⟩] rfl 9 _ hd).mono ?_
  rw [rd1]
  rintro e w1 ⟨rfl, f1⟩
  have F1 := f0.seq' f1
  clear hd f0 f1
  go_wp2_with fail
  refine (next_any none none 0 0 0 0 [] [] rfl rfl ⟨0, 9, 4⟩ _ (row_empty _ _) (row_empty _ _)).mono ?_
  rw [nx1]
  rintro e w2 ⟨v2, rfl, m2⟩
  obtain ⟨a2, c2, rfl, r2⟩ := m2.own.row (pf_octs k1) (by rw [pf_length]; omega)
  have F2 := F1.seq' m2.fr
  have f2b := Fr.box w2 (.cells #[.int .i64 1, .int .i64 9, .int .i64 4] 34)
  obtain ⟨b2, hb2⟩ : ∃ q, q = w2.heap.size := ⟨_, rfl⟩
  obtain ⟨W2, hW2⟩ : ∃ W, W = w2.alloc (.cells #[.int .i64 1, .int .i64 9, .int .i64 4] 34) := ⟨_, rfl⟩
  have t2 : Tri W2 b2 34 1 9 4 := by rw [hW2, hb2]; exact heap_alloc_new w2 _
  have HW2 : Hid (w2.alloc (.cells #[.int .i64 1, .int .i64 9, .int .i64 4] 34) = W2) := hW2.symm
  have HB2 : Hid (w2.heap.size = b2) := hb2.symm
  rw [← hW2] at f2b
  have F3 : Hid (Fr (fun _ => False) w W2) := F2.seq' f2b
  have r3 := r2.same f2b
  have HL1 : Hid ((pf k1).length = 28) := pf_length _
  have HL2 : Hid ((pf k2).length = 28) := pf_length _
  clear hW2 hb2 F1 F2 m2 r2 f2b
  rw [HL1.out]
  go_upto_region 3 with fail
  rw [show k1.num = 1 from rfl, show k1.lsn = 9 from rfl, show k1.redo = 4 from rfl, HW2.out, HB2.out]
  go_wp2_with fail
  refine (next_any a2 none 28 0 c2 0 (pf k1) [] HL1.out.symm rfl ⟨0, 9, 10⟩ _ r3 (row_empty _ _)).mono ?_
  rw [nx2]
  rintro e w3 ⟨v3, rfl, m3⟩
  obtain ⟨a3, c3, rfl, r4⟩ := m3.own.row (pf_octs k2) (by rw [HL2.out]; omega)
  have f3b := Fr.box w3 (.cells #[.int .i64 2, .int .i64 9, .int .i64 10] 34)
  obtain ⟨b3, hb3⟩ : ∃ q, q = w3.heap.size := ⟨_, rfl⟩
  obtain ⟨W3, hW3⟩ : ∃ W, W = w3.alloc (.cells #[.int .i64 2, .int .i64 9, .int .i64 10] 34) := ⟨_, rfl⟩
  have t3 : Tri W3 b3 34 2 9 10 := by rw [hW3, hb3]; exact heap_alloc_new w3 _
  have HW3 : Hid (w3.alloc (.cells #[.int .i64 2, .int .i64 9, .int .i64 10] 34) = W3) := hW3.symm
  have HB3 : Hid (w3.heap.size = b3) := hb3.symm
  rw [← hW3] at f3b
  have F4 : Hid (Fr (fun _ => False) w W3) := F3.out.seq' (m3.fr.seq' f3b)
  have r5 := r4.same f3b
  have r6 := (r3.same m3.fr).same f3b
  have t2' := (t2.fr m3.fr (fun f => f)).fr f3b (fun f => f)
  clear hW3 hb3 F3 m3 r4 r3 f3b t2
  rw [HL2.out]
  go_upto_region 4 with fail
  rw [show k2.num = 2 from rfl, show k2.lsn = 9 from rfl, show k2.redo = 10 from rfl, HW3.out, HB3.out]
  go_wp2_with fail
  refine (choose_any a2 a3 28 28 c2 c3 (pf k1) (pf k2) HL1.out.symm HL2.out.symm _ r6 r5).mono ?_
  rw [ch3]
  rintro e w4 ⟨rfl, f4⟩
  have f4b := Fr.box w4 (.cells #[.int .i64 2, .int .i64 9, .int .i64 10] 34)
  obtain ⟨b4, hb4⟩ : ∃ q, q = w4.heap.size := ⟨_, rfl⟩
  obtain ⟨W4, hW4⟩ : ∃ W, W = w4.alloc (.cells #[.int .i64 2, .int .i64 9, .int .i64 10] 34) := ⟨_, rfl⟩
  have t4 : Tri W4 b4 34 2 9 10 := by rw [hW4, hb4]; exact heap_alloc_new w4 _
  have HW4 : Hid (w4.alloc (.cells #[.int .i64 2, .int .i64 9, .int .i64 10] 34) = W4) := hW4.symm
  have HB4 : Hid (w4.heap.size = b4) := hb4.symm
  rw [← hW4] at f4b
  have F5 : Hid (Fr (fun _ => False) w W4) := F4.out.seq' (f4.seq' f4b)
  have t2'' := (t2'.fr f4 (fun f => f)).fr f4b (fun f => f)
  have t3' := (t3.fr f4 (fun f => f)).fr f4b (fun f => f)
  clear hW4 hb4 F4 f4 r5 r6 f4b t2' t3
  go_upto_region 5 with fail
  rw [show k2.num = 2 from rfl, show k2.lsn = 9 from rfl, show k2.redo = 10 from rfl, HW4.out, HB4.out]
  obtain ⟨x0, x1, x2, _, _, _⟩ := t2''.cells
  obtain ⟨y0, y1, y2, _, _, _⟩ := t3'.cells
  obtain ⟨z0, z1, z2, _, _, _⟩ := t4.cells
  go_wp2
  go_ret
  exact ⟨rfl, F5.out⟩
end Go.Proofs.Ytjhbhjakbcplgaa
