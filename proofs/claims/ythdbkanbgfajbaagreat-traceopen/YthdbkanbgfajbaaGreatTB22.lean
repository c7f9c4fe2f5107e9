
/- TcBrk2. -/
import Derived.Test.YthdbkanbgfajbaaGreatTB21
import Derived.Laws.EntriesVeiled
/- A step's first broken rule. -/
namespace Go.Proofs.YthdbkanbgfajbaaGreat
open Go.RowKit

set_option maxRecDepth 100000 in
set_option maxHeartbeats 16000000 in
theorem broken_any {B : Nat} {S : Nat → Prop} {b : Nat} {W : Wt} {K : Nat} (s : Sn) (ho : SnOk s) (hW : WtOk W) (w : World) (hS : ∀ k, S k → B ≤ k) (hB : B ≤ w.heap.size) (hK : K ≤ 1000000) (hi : InS w B s) (h : Wn w S b W K) :
    Calls Tryz.prog 16 #[.pointer (some ⟨b, 0, none⟩), snV s] w (BrO w S b W K s) := by
  have HS : Hid ((∀ k, S k → B ≤ k) ∧ B ≤ w.heap.size) := ⟨hS, hB⟩
  have HO : Hid (SnOk s) := ho
  have HOK : Hid (∀ l, WtOk (answF (seeW W s) s l)) := fun l => (hW.see ho).answF s l
  have HB0 : Hid (Br B s [(w.heap.size, .cells (snC s) 39 (0, 0))] S w b W K (w.alloc (.cells (snC s) 39))) := (Br.begin h hi).box _ _
  have hal : s.ans.length ≤ s.ac := hi.al
  have ham : s.ac ≤ 9223372036854775807 := hi.am
  have hnA : s.ans.length ≤ 100000 := ho.nA
  have hbw : b < w.heap.size := by obtain ⟨_, _, _, _, _, _, _, _, hw⟩ := h; exact blk_lt hw.blk
  have hsee : Calls Tryz.prog 17 #[.pointer (some ⟨b, 0, none⟩), chV s] (w.alloc (.cells (snC s) 39)) fun e w' => e = .returned (.tuple #[]) ∧ Br B s [(w.heap.size, .cells (snC s) 39 (0, 0))] S w b (seeW W s) (K + 2) w' := by
    obtain ⟨S1, hw1, hl1, hs1, f1, hi1, hq1⟩ := HB0.out
    refine (see_any s ho.creq ho.node _ hK hw1).mono ?_
    rintro e w' ⟨rfl, ht⟩
    exact ⟨rfl, Br.step hS hB hl1 hs1 f1 hi1 hq1 ht⟩
  obtain ⟨aa, haa⟩ : ∃ x, x = s.aa := ⟨_, rfl⟩
  have HAA : Hid (aa = s.aa) := haa
  obtain ⟨n, hn⟩ : ∃ n, n = s.ans.length := ⟨_, rfl⟩
  have HN : Hid (n = s.ans.length) := hn
  rw [← hn] at hal hnA
  unfold chV at hsee
  unfold snC at hsee
  clear hS hB ho hW hi h haa hn HB0
  unfold snV
  go_enter Tryz.func16, Tryz.ntmps16
  go_wp2_with fail
  refine hsee.mono ?_
  rintro e w1 ⟨rfl, hb1⟩
  clear hsee
  have HB1 : Hid (Br B s [(w.heap.size, .cells (snC s) 39 (0, 0))] S w b (seeW W s) (K + 2) w1) := hb1
  have hc1 : (w1.heap[w.heap.size]? = some (.cells (snC s) 39 (0, 0))) := by obtain ⟨_, _, _, _, _, _, hq⟩ := hb1; exact (hq _ (List.mem_cons_self ..)).1
  obtain ⟨⟨c0, c1, c2, c3, c4, c5, c6, c7, c8, c9, c10, c11⟩, hg⟩ := sn_cells HAA.out hc1
  rw [← HN.out] at c10
  clear hb1 hc1
  go_wp2
  clear c0 c1 c2 c3 c4 c5 c6 c7 c8 c9 c10 c11 hg
  go_loopw [18] (fun i wo => ∃ k : Nat, k ≤ n ∧ i = .int .i64 k ∧ Hid (Br B s [(w.heap.size, .cells (snC s) 39 (0, 0))] S w b (answF (seeW W s) s (s.ans.take k)) (K + 2 + k) wo) ∧ Hid (answL (seeW W s) s s.ans = answL (answF (seeW W s) s (s.ans.take k)) s (s.ans.drop k))) (fun i _ => n - (intOf i).toNat)
  case atStart => exact ⟨0, by omega, rfl, HB1, rfl⟩
  case round =>
    obtain ⟨wo, rfl⟩ : ∃ x, x = wr := ⟨wr, rfl⟩
    obtain ⟨k, hk, rfl, HB2, HL⟩ := hrel
    clear HB1
    by_cases hlt : k < n
    · obtain ⟨a, ha⟩ : ∃ a, s.ans[k]? = some a := ⟨_, List.getElem?_eq_getElem (by have := HN.out; omega)⟩
      have hmem : a ∈ s.ans := List.mem_of_getElem? ha
      have HA : Hid (s.ans[k]? = some a ∧ a ∈ s.ans) := ⟨ha, hmem⟩
      have hwk : wfK a.req := (HO.out.ans a hmem).1
      obtain ⟨g, o, ea, hgB, hgw, hcc⟩ : ∃ g o, s.aa = some ⟨g, o, none⟩ ∧ g < B ∧ g < wo.heap.size ∧ ∀ i a, s.ans[i]? = some a → wo.rangeAt g (o + i * 6) (anC a).toList := by
        obtain ⟨_, _, _, _, _, hi, _⟩ := HB2.out
        rcases hi.at_ with h0 | h
        · rw [h0] at ha; cases ha
        · exact h
      obtain ⟨q0, q1, q2, q3, q4, q5⟩ := an_range (hcc k a ha)
      rw [← HAA.out] at ea
      subst ea
      have hki : (k : Int) < (n : Int) := by omega
      have HR := aRules_any b (wo.alloc (.cells (anC a) 49))
      have HBA : Hid (Br B s [((wo.alloc (.cells (anC a) 49)).heap.size, .cells (rowsA b) 71 (0, 0)), (wo.heap.size, .cells (anC a) 49 (0, 0)), (w.heap.size, .cells (snC s) 39 (0, 0))] S w b (answF (seeW W s) s (s.ans.take k)) (K + 2 + k) ((wo.alloc (.cells (anC a) 49)).alloc (.cells (rowsA b) 71))) := (HB2.out.box _ _).box _ _
      clear ha hmem hcc hgB HB2
      obtain ⟨Wk, hWk⟩ : ∃ Wk, Wk = answF (seeW W s) s (s.ans.take k) := ⟨_, rfl⟩
      have HWK : Hid (Wk = answF (seeW W s) s (s.ans.take k)) := hWk
      have HWO : Hid (WtOk Wk) := by show WtOk Wk; rw [hWk]; exact HOK.out _
      rw [← hWk] at HBA HL
      clear hWk
      go_wp2_with (go_at_call 23; refine HR.mono ?_; rintro e w3 ⟨rfl, rfl⟩)
      clear q0 q1 q2 q3 q4 q5 HR
      have hsz : (wo.alloc (.cells (anC a) 49)).heap.size = wo.heap.size + 1 := by simp
      rw [hsz] at HBA
      go_loopw [25] (fun i wq => ∃ j : Nat, j ≤ 4 ∧ i = .int .i64 j ∧ Hid (Br B s [(wo.heap.size + 1, .cells (rowsA b) 71 (0, 0)), (wo.heap.size, .cells (anC a) 49 (0, 0)), (w.heap.size, .cells (snC s) 39 (0, 0))] S w b (if j < 3 then Wk else r5W Wk s a) (if j < 3 then K + 2 + k else K + 2 + k + 1) wq) ∧ Hid ((1 ≤ j → r2B Wk a = true) ∧ (2 ≤ j → r3B Wk s a = true) ∧ (3 ≤ j → r5B Wk s a = true) ∧ (4 ≤ j → r6B (r5W Wk s a) a = true))) (fun i _ => 4 - (intOf i).toNat)
      case atStart => exact ⟨0, by omega, rfl, HBA, ⟨fun h => by omega, fun h => by omega, fun h => by omega, fun h => by omega⟩⟩
      case round =>
        obtain ⟨wq, rfl⟩ : ∃ x, x = wr := ⟨wr, rfl⟩
        obtain ⟨j, hj, rfl, HBQ, HP⟩ := hrel
        clear HBA
        rcases (by omega : j = 0 ∨ j = 1 ∨ j = 2 ∨ j = 3 ∨ j = 4) with rfl | rfl | rfl | rfl | rfl
        · rw [if_pos (by omega), if_pos (by omega)] at HBQ
          have HBX : Hid (Br B s [(wq.heap.size, .cells #[.int .i64 2, fnV 30 b] 71 (0, 0)), (wo.heap.size + 1, .cells (rowsA b) 71 (0, 0)), (wo.heap.size, .cells (anC a) 49 (0, 0)), (w.heap.size, .cells (snC s) 39 (0, 0))] S w b Wk (K + 2 + k) (wq.alloc (.cells #[.int .i64 2, fnV 30 b] 71))) := HBQ.out.box _ _
          have hcall : Calls Tryz.prog 30 #[.pointer (some ⟨b, 0, none⟩), snV s, anV a] (wq.alloc (.cells #[.int .i64 2, fnV 30 b] 71)) fun e w' => e = .returned (.bool (r2B Wk a)) ∧ Br B s [(wq.heap.size, .cells #[.int .i64 2, fnV 30 b] 71 (0, 0)), (wo.heap.size + 1, .cells (rowsA b) 71 (0, 0)), (wo.heap.size, .cells (anC a) 49 (0, 0)), (w.heap.size, .cells (snC s) 39 (0, 0))] S w b Wk (K + 2 + k) w' := by
            obtain ⟨S1, hw1, hl1, hs1, f1, hi1, hq1⟩ := HBX.out
            exact ((r2_any (s := s) (a := a) hwk _ hw1).mono fun e w' ⟨h1, h2⟩ => ⟨h1, HBX.out.same h2⟩)
          obtain ⟨hx1, hx2, hx3⟩ : wq.heap[wo.heap.size + 1]? = some (.cells (rowsA b) 71 (0, 0)) ∧ wq.heap[wo.heap.size]? = some (.cells (anC a) 49 (0, 0)) ∧ wq.heap[w.heap.size]? = some (.cells (snC s) 39 (0, 0)) := by
            obtain ⟨_, _, _, _, _, _, hq⟩ := HBQ.out
            exact ⟨(hq _ (List.mem_cons_self ..)).1, (hq _ (List.mem_cons_of_mem _ (List.mem_cons_self ..))).1, (hq _ (List.mem_cons_of_mem _ (List.mem_cons_of_mem _ (List.mem_cons_self ..)))).1⟩
          have r0 : wq.cell? ⟨wo.heap.size + 1, 0, none⟩ = some (.int .i64 2) := cell_blk hx1 0
          have r1 : wq.cell? ⟨wo.heap.size + 1, 1, none⟩ = some (fnV 30 b) := cell_blk hx1 1
          have hr := blk_lt hx1
          obtain ⟨⟨q0, q1, q2, q3, q4, q5⟩, hq⟩ := an_cells hx2
          obtain ⟨⟨c0, c1, c2, c3, c4, c5, c6, c7, c8, c9, c10, c11⟩, hg⟩ := sn_cells HAA.out hx3
          rw [← HN.out] at c10
          unfold snV anV at hcall
          rw [← HAA.out, ← HN.out] at hcall
          unfold fnV at r1 hcall
          clear hx1 hx2 hx3 HBX HBQ
          obtain ⟨rb, hrb⟩ : ∃ rb, (r2B Wk a) = rb := ⟨_, rfl⟩
          rw [hrb] at hcall
          go_wp2_with fail
          refine hcall.mono ?_
          rintro e w4 ⟨rfl, hb4⟩
          clear hcall q0 q1 q2 q3 q4 q5 c0 c1 c2 c3 c4 c5 c6 c7 c8 c9 c10 c11 r0 r1 hr hq hg
          have HB4 : Hid (Br B s [(wo.heap.size + 1, .cells (rowsA b) 71 (0, 0)), (wo.heap.size, .cells (anC a) 49 (0, 0)), (w.heap.size, .cells (snC s) 39 (0, 0))] S w b Wk (K + 2 + k) w4) := hb4.sub (fun p hp => List.mem_cons_of_mem _ hp)
          have hn4 : w4.cell? ⟨wq.heap.size, 0, none⟩ = some (.int .i64 2) := by
            obtain ⟨_, _, _, _, _, _, hq⟩ := hb4
            exact cell_blk (hq _ (List.mem_cons_self ..)).1 0
          clear hb4
          cases rb with
          | true =>
            have HP2 : Hid ((1 ≤ 1 → r2B Wk a = true) ∧ (2 ≤ 1 → r3B Wk s a = true) ∧ (3 ≤ 1 → r5B Wk s a = true) ∧ (4 ≤ 1 → r6B (r5W Wk s a) a = true)) := ⟨fun _ => hrb, fun h => by omega, fun h => by omega, fun h => by omega⟩
            clear HP hrb
            go_wp2
            go_roundw
            case rel => exact ⟨1, by omega, by go_num, HB4, HP2⟩
            case measure => simp [intOf]
          | false =>
            have hz : answR Wk s a = 2 := by
              unfold answR
              rw [if_pos hrb]
            have HFIN : Hid (BrO w S b W K s (.returned (.int .i64 2)) w4) := by
              have hz2 := brk_fail (r := 2) (answL_fail (r := 2) HA.out.1 (by rw [← HWK.out]; exact hz) (by omega) (by rw [← HWK.out]; exact HL.out)) (by omega)
              exact ⟨by rw [hz2], HB4.out.frame, fun h0 => by rw [hz2] at h0; omega⟩
            clear HP hrb hz HB4
            go_wp2
            go_ret
            exact HFIN.out
        · rw [if_pos (by omega), if_pos (by omega)] at HBQ
          have HBX : Hid (Br B s [(wq.heap.size, .cells #[.int .i64 3, fnV 31 b] 71 (0, 0)), (wo.heap.size + 1, .cells (rowsA b) 71 (0, 0)), (wo.heap.size, .cells (anC a) 49 (0, 0)), (w.heap.size, .cells (snC s) 39 (0, 0))] S w b Wk (K + 2 + k) (wq.alloc (.cells #[.int .i64 3, fnV 31 b] 71))) := HBQ.out.box _ _
          have hcall : Calls Tryz.prog 31 #[.pointer (some ⟨b, 0, none⟩), snV s, anV a] (wq.alloc (.cells #[.int .i64 3, fnV 31 b] 71)) fun e w' => e = .returned (.bool (r3B Wk s a)) ∧ Br B s [(wq.heap.size, .cells #[.int .i64 3, fnV 31 b] 71 (0, 0)), (wo.heap.size + 1, .cells (rowsA b) 71 (0, 0)), (wo.heap.size, .cells (anC a) 49 (0, 0)), (w.heap.size, .cells (snC s) 39 (0, 0))] S w b Wk (K + 2 + k) w' := by
            obtain ⟨S1, hw1, hl1, hs1, f1, hi1, hq1⟩ := HBX.out
            exact ((r3_any (s := s) (a := a) hwk _ hi1 HO.out.nH hw1).mono fun e w' ⟨h1, h2⟩ => ⟨h1, HBX.out.same h2⟩)
          obtain ⟨hx1, hx2, hx3⟩ : wq.heap[wo.heap.size + 1]? = some (.cells (rowsA b) 71 (0, 0)) ∧ wq.heap[wo.heap.size]? = some (.cells (anC a) 49 (0, 0)) ∧ wq.heap[w.heap.size]? = some (.cells (snC s) 39 (0, 0)) := by
            obtain ⟨_, _, _, _, _, _, hq⟩ := HBQ.out
            exact ⟨(hq _ (List.mem_cons_self ..)).1, (hq _ (List.mem_cons_of_mem _ (List.mem_cons_self ..))).1, (hq _ (List.mem_cons_of_mem _ (List.mem_cons_of_mem _ (List.mem_cons_self ..)))).1⟩
          have r0 : wq.cell? ⟨wo.heap.size + 1, 2, none⟩ = some (.int .i64 3) := cell_blk hx1 2
          have r1 : wq.cell? ⟨wo.heap.size + 1, 3, none⟩ = some (fnV 31 b) := cell_blk hx1 3
          have hr := blk_lt hx1
          obtain ⟨⟨q0, q1, q2, q3, q4, q5⟩, hq⟩ := an_cells hx2
          obtain ⟨⟨c0, c1, c2, c3, c4, c5, c6, c7, c8, c9, c10, c11⟩, hg⟩ := sn_cells HAA.out hx3
          rw [← HN.out] at c10
          unfold snV anV at hcall
          rw [← HAA.out, ← HN.out] at hcall
          unfold fnV at r1 hcall
          clear hx1 hx2 hx3 HBX HBQ
          obtain ⟨rb, hrb⟩ : ∃ rb, (r3B Wk s a) = rb := ⟨_, rfl⟩
          rw [hrb] at hcall
          go_wp2_with fail
          refine hcall.mono ?_
          rintro e w4 ⟨rfl, hb4⟩
          clear hcall q0 q1 q2 q3 q4 q5 c0 c1 c2 c3 c4 c5 c6 c7 c8 c9 c10 c11 r0 r1 hr hq hg
          have HB4 : Hid (Br B s [(wo.heap.size + 1, .cells (rowsA b) 71 (0, 0)), (wo.heap.size, .cells (anC a) 49 (0, 0)), (w.heap.size, .cells (snC s) 39 (0, 0))] S w b Wk (K + 2 + k) w4) := hb4.sub (fun p hp => List.mem_cons_of_mem _ hp)
          have hn4 : w4.cell? ⟨wq.heap.size, 0, none⟩ = some (.int .i64 3) := by
            obtain ⟨_, _, _, _, _, _, hq⟩ := hb4
            exact cell_blk (hq _ (List.mem_cons_self ..)).1 0
          clear hb4
          cases rb with
          | true =>
            have HP2 : Hid ((1 ≤ 2 → r2B Wk a = true) ∧ (2 ≤ 2 → r3B Wk s a = true) ∧ (3 ≤ 2 → r5B Wk s a = true) ∧ (4 ≤ 2 → r6B (r5W Wk s a) a = true)) := ⟨fun _ => HP.out.1 (by omega), fun _ => hrb, fun h => by omega, fun h => by omega⟩
            clear HP hrb
            go_wp2
            go_roundw
            case rel => exact ⟨2, by omega, by go_num, HB4, HP2⟩
            case measure => simp [intOf]
          | false =>
            have hz : answR Wk s a = 3 := by
              unfold answR
              rw [if_neg (by rw [HP.out.1 (by omega)]; simp)]; rw [if_pos hrb]
            have HFIN : Hid (BrO w S b W K s (.returned (.int .i64 3)) w4) := by
              have hz2 := brk_fail (r := 3) (answL_fail (r := 3) HA.out.1 (by rw [← HWK.out]; exact hz) (by omega) (by rw [← HWK.out]; exact HL.out)) (by omega)
              exact ⟨by rw [hz2], HB4.out.frame, fun h0 => by rw [hz2] at h0; omega⟩
            clear HP hrb hz HB4
            go_wp2
            go_ret
            exact HFIN.out
        · rw [if_pos (by omega), if_pos (by omega)] at HBQ
          have HBX : Hid (Br B s [(wq.heap.size, .cells #[.int .i64 5, fnV 32 b] 71 (0, 0)), (wo.heap.size + 1, .cells (rowsA b) 71 (0, 0)), (wo.heap.size, .cells (anC a) 49 (0, 0)), (w.heap.size, .cells (snC s) 39 (0, 0))] S w b Wk (K + 2 + k) (wq.alloc (.cells #[.int .i64 5, fnV 32 b] 71))) := HBQ.out.box _ _
          have hcall : Calls Tryz.prog 32 #[.pointer (some ⟨b, 0, none⟩), snV s, anV a] (wq.alloc (.cells #[.int .i64 5, fnV 32 b] 71)) fun e w' => e = .returned (.bool (r5B Wk s a)) ∧ Br B s [(wq.heap.size, .cells #[.int .i64 5, fnV 32 b] 71 (0, 0)), (wo.heap.size + 1, .cells (rowsA b) 71 (0, 0)), (wo.heap.size, .cells (anC a) 49 (0, 0)), (w.heap.size, .cells (snC s) 39 (0, 0))] S w b (r5W Wk s a) (K + 2 + k + 1) w' := by
            obtain ⟨S1, hw1, hl1, hs1, f1, hi1, hq1⟩ := HBX.out
            exact (by obtain ⟨c, hc⟩ := r2_call (HP.out.1 (by omega)); exact (r5_any HO.out HWO.out HA.out.2 _ hi1 (by omega) hc hw1).mono fun e w' ⟨h1, h2⟩ => ⟨h1, Br.step HS.out.1 HS.out.2 hl1 hs1 f1 hi1 hq1 h2⟩)
          obtain ⟨hx1, hx2, hx3⟩ : wq.heap[wo.heap.size + 1]? = some (.cells (rowsA b) 71 (0, 0)) ∧ wq.heap[wo.heap.size]? = some (.cells (anC a) 49 (0, 0)) ∧ wq.heap[w.heap.size]? = some (.cells (snC s) 39 (0, 0)) := by
            obtain ⟨_, _, _, _, _, _, hq⟩ := HBQ.out
            exact ⟨(hq _ (List.mem_cons_self ..)).1, (hq _ (List.mem_cons_of_mem _ (List.mem_cons_self ..))).1, (hq _ (List.mem_cons_of_mem _ (List.mem_cons_of_mem _ (List.mem_cons_self ..)))).1⟩
          have r0 : wq.cell? ⟨wo.heap.size + 1, 4, none⟩ = some (.int .i64 5) := cell_blk hx1 4
          have r1 : wq.cell? ⟨wo.heap.size + 1, 5, none⟩ = some (fnV 32 b) := cell_blk hx1 5
          have hr := blk_lt hx1
          obtain ⟨⟨q0, q1, q2, q3, q4, q5⟩, hq⟩ := an_cells hx2
          obtain ⟨⟨c0, c1, c2, c3, c4, c5, c6, c7, c8, c9, c10, c11⟩, hg⟩ := sn_cells HAA.out hx3
          rw [← HN.out] at c10
          unfold snV anV at hcall
          rw [← HAA.out, ← HN.out] at hcall
          unfold fnV at r1 hcall
          clear hx1 hx2 hx3 HBX HBQ
          obtain ⟨rb, hrb⟩ : ∃ rb, (r5B Wk s a) = rb := ⟨_, rfl⟩
          rw [hrb] at hcall
          go_wp2_with fail
          refine hcall.mono ?_
          rintro e w4 ⟨rfl, hb4⟩
          clear hcall q0 q1 q2 q3 q4 q5 c0 c1 c2 c3 c4 c5 c6 c7 c8 c9 c10 c11 r0 r1 hr hq hg
          have HB4 : Hid (Br B s [(wo.heap.size + 1, .cells (rowsA b) 71 (0, 0)), (wo.heap.size, .cells (anC a) 49 (0, 0)), (w.heap.size, .cells (snC s) 39 (0, 0))] S w b (r5W Wk s a) (K + 2 + k + 1) w4) := hb4.sub (fun p hp => List.mem_cons_of_mem _ hp)
          have hn4 : w4.cell? ⟨wq.heap.size, 0, none⟩ = some (.int .i64 5) := by
            obtain ⟨_, _, _, _, _, _, hq⟩ := hb4
            exact cell_blk (hq _ (List.mem_cons_self ..)).1 0
          clear hb4
          cases rb with
          | true =>
            have HP2 : Hid ((1 ≤ 3 → r2B Wk a = true) ∧ (2 ≤ 3 → r3B Wk s a = true) ∧ (3 ≤ 3 → r5B Wk s a = true) ∧ (4 ≤ 3 → r6B (r5W Wk s a) a = true)) := ⟨fun _ => HP.out.1 (by omega), fun _ => HP.out.2.1 (by omega), fun _ => hrb, fun h => by omega⟩
            clear HP hrb
            go_wp2
            go_roundw
            case rel => exact ⟨3, by omega, by go_num, HB4, HP2⟩
            case measure => simp [intOf]
          | false =>
            have hz : answR Wk s a = 5 := by
              unfold answR
              rw [if_neg (by rw [HP.out.1 (by omega)]; simp)]; rw [if_neg (by rw [HP.out.2.1 (by omega)]; simp)]; rw [if_pos hrb]
            have HFIN : Hid (BrO w S b W K s (.returned (.int .i64 5)) w4) := by
              have hz2 := brk_fail (r := 5) (answL_fail (r := 5) HA.out.1 (by rw [← HWK.out]; exact hz) (by omega) (by rw [← HWK.out]; exact HL.out)) (by omega)
              exact ⟨by rw [hz2], HB4.out.frame, fun h0 => by rw [hz2] at h0; omega⟩
            clear HP hrb hz HB4
            go_wp2
            go_ret
            exact HFIN.out
        · rw [if_neg (by omega), if_neg (by omega)] at HBQ
          have HBX : Hid (Br B s [(wq.heap.size, .cells #[.int .i64 6, fnV 33 b] 71 (0, 0)), (wo.heap.size + 1, .cells (rowsA b) 71 (0, 0)), (wo.heap.size, .cells (anC a) 49 (0, 0)), (w.heap.size, .cells (snC s) 39 (0, 0))] S w b (r5W Wk s a) (K + 2 + k + 1) (wq.alloc (.cells #[.int .i64 6, fnV 33 b] 71))) := HBQ.out.box _ _
          have hcall : Calls Tryz.prog 33 #[.pointer (some ⟨b, 0, none⟩), snV s, anV a] (wq.alloc (.cells #[.int .i64 6, fnV 33 b] 71)) fun e w' => e = .returned (.bool (r6B (r5W Wk s a) a)) ∧ Br B s [(wq.heap.size, .cells #[.int .i64 6, fnV 33 b] 71 (0, 0)), (wo.heap.size + 1, .cells (rowsA b) 71 (0, 0)), (wo.heap.size, .cells (anC a) 49 (0, 0)), (w.heap.size, .cells (snC s) 39 (0, 0))] S w b (r5W Wk s a) (K + 2 + k + 1) w' := by
            obtain ⟨S1, hw1, hl1, hs1, f1, hi1, hq1⟩ := HBX.out
            exact (by obtain ⟨c, hc⟩ := r2_call (HP.out.1 (by omega)); exact (r6_any (s := s) (a := a) hwk HA.out.2 _ hi1 (c := c) (by rw [(r5W_calls Wk s a).1]; exact hc) hw1).mono fun e w' ⟨h1, h2⟩ => ⟨h1, HBX.out.same h2⟩)
          obtain ⟨hx1, hx2, hx3⟩ : wq.heap[wo.heap.size + 1]? = some (.cells (rowsA b) 71 (0, 0)) ∧ wq.heap[wo.heap.size]? = some (.cells (anC a) 49 (0, 0)) ∧ wq.heap[w.heap.size]? = some (.cells (snC s) 39 (0, 0)) := by
            obtain ⟨_, _, _, _, _, _, hq⟩ := HBQ.out
            exact ⟨(hq _ (List.mem_cons_self ..)).1, (hq _ (List.mem_cons_of_mem _ (List.mem_cons_self ..))).1, (hq _ (List.mem_cons_of_mem _ (List.mem_cons_of_mem _ (List.mem_cons_self ..)))).1⟩
          have r0 : wq.cell? ⟨wo.heap.size + 1, 6, none⟩ = some (.int .i64 6) := cell_blk hx1 6
          have r1 : wq.cell? ⟨wo.heap.size + 1, 7, none⟩ = some (fnV 33 b) := cell_blk hx1 7
          have hr := blk_lt hx1
          obtain ⟨⟨q0, q1, q2, q3, q4, q5⟩, hq⟩ := an_cells hx2
          obtain ⟨⟨c0, c1, c2, c3, c4, c5, c6, c7, c8, c9, c10, c11⟩, hg⟩ := sn_cells HAA.out hx3
          rw [← HN.out] at c10
          unfold snV anV at hcall
          rw [← HAA.out, ← HN.out] at hcall
          unfold fnV at r1 hcall
          clear hx1 hx2 hx3 HBX HBQ
          obtain ⟨rb, hrb⟩ : ∃ rb, (r6B (r5W Wk s a) a) = rb := ⟨_, rfl⟩
          rw [hrb] at hcall
          go_wp2_with fail
          refine hcall.mono ?_
          rintro e w4 ⟨rfl, hb4⟩
          clear hcall q0 q1 q2 q3 q4 q5 c0 c1 c2 c3 c4 c5 c6 c7 c8 c9 c10 c11 r0 r1 hr hq hg
          have HB4 : Hid (Br B s [(wo.heap.size + 1, .cells (rowsA b) 71 (0, 0)), (wo.heap.size, .cells (anC a) 49 (0, 0)), (w.heap.size, .cells (snC s) 39 (0, 0))] S w b (r5W Wk s a) (K + 2 + k + 1) w4) := hb4.sub (fun p hp => List.mem_cons_of_mem _ hp)
          have hn4 : w4.cell? ⟨wq.heap.size, 0, none⟩ = some (.int .i64 6) := by
            obtain ⟨_, _, _, _, _, _, hq⟩ := hb4
            exact cell_blk (hq _ (List.mem_cons_self ..)).1 0
          clear hb4
          cases rb with
          | true =>
            have HP2 : Hid ((1 ≤ 4 → r2B Wk a = true) ∧ (2 ≤ 4 → r3B Wk s a = true) ∧ (3 ≤ 4 → r5B Wk s a = true) ∧ (4 ≤ 4 → r6B (r5W Wk s a) a = true)) := ⟨fun _ => HP.out.1 (by omega), fun _ => HP.out.2.1 (by omega), fun _ => HP.out.2.2.1 (by omega), fun _ => hrb⟩
            clear HP hrb
            go_wp2
            go_roundw
            case rel => exact ⟨4, by omega, by go_num, HB4, HP2⟩
            case measure => simp [intOf]
          | false =>
            have hz : answR Wk s a = 6 := by
              unfold answR
              rw [if_neg (by rw [HP.out.1 (by omega)]; simp)]; rw [if_neg (by rw [HP.out.2.1 (by omega)]; simp)]; rw [if_neg (by rw [HP.out.2.2.1 (by omega)]; simp)]; rw [if_pos hrb]
            have HFIN : Hid (BrO w S b W K s (.returned (.int .i64 6)) w4) := by
              have hz2 := brk_fail (r := 6) (answL_fail (r := 6) HA.out.1 (by rw [← HWK.out]; exact hz) (by omega) (by rw [← HWK.out]; exact HL.out)) (by omega)
              exact ⟨by rw [hz2], HB4.out.frame, fun h0 => by rw [hz2] at h0; omega⟩
            clear HP hrb hz HB4
            go_wp2
            go_ret
            exact HFIN.out
        · rw [if_neg (by omega), if_neg (by omega)] at HBQ
          have hnote : Calls Tryz.prog 18 #[.pointer (some ⟨b, 0, none⟩), anV a] wq fun e w' => e = .returned (.tuple #[]) ∧ Br B s [(w.heap.size, .cells (snC s) 39 (0, 0))] S w b (answW Wk s a) (K + 2 + (k + 1)) w' := by
            obtain ⟨S1, hw1, hl1, hs1, f1, hi1, hq1⟩ := HBQ.out
            refine (note_any hwk _ hw1).mono ?_
            rintro e w' ⟨rfl, ht⟩
            exact ⟨rfl, (Br.step HS.out.1 HS.out.2 hl1 hs1 f1 hi1 hq1 ht).sub (fun p hp => by simp at hp; subst hp; simp)⟩
          have hx2 : wq.heap[wo.heap.size]? = some (.cells (anC a) 49 (0, 0)) := by
            obtain ⟨_, _, _, _, _, _, hq⟩ := HBQ.out
            exact (hq _ (List.mem_cons_of_mem _ (List.mem_cons_self ..))).1
          obtain ⟨⟨q0, q1, q2, q3, q4, q5⟩, hq⟩ := an_cells hx2
          have hz : answR Wk s a = 0 := by
            unfold answR
            rw [if_neg (by rw [HP.out.1 (by omega)]; simp), if_neg (by rw [HP.out.2.1 (by omega)]; simp), if_neg (by rw [HP.out.2.2.1 (by omega)]; simp), if_neg (by rw [HP.out.2.2.2 (by omega)]; simp)]
          have HNX : Hid (answL (seeW W s) s s.ans = answL (answF (seeW W s) s (s.ans.take (k + 1))) s (s.ans.drop (k + 1)) ∧ answF (seeW W s) s (s.ans.take (k + 1)) = answW Wk s a) := by
            have := answL_pass HA.out.1 (by rw [← HWK.out]; exact hz) (by rw [← HWK.out]; exact HL.out)
            rw [← HWK.out] at this
            exact this
          unfold anV at hnote
          clear HBQ hx2 HP hz HL
          go_wp2_with fail
          refine hnote.mono ?_
          rintro e w5 ⟨rfl, hb5⟩
          have HB5 : Hid (Br B s [(w.heap.size, .cells (snC s) 39 (0, 0))] S w b (answF (seeW W s) s (s.ans.take (k + 1))) (K + 2 + (k + 1)) w5) := by
            show Br _ _ _ _ _ _ _ _ _
            rw [HNX.out.2]; exact hb5
          have HL5 : Hid (answL (seeW W s) s s.ans = answL (answF (seeW W s) s (s.ans.take (k + 1))) s (s.ans.drop (k + 1))) := HNX.out.1
          clear hnote hb5 HNX q0 q1 q2 q3 q4 q5 hq
          go_wp2
          go_roundw
          case rel => exact ⟨k + 1, by omega, by go_num, HB5, HL5⟩
          case measure => simp [intOf]; omega
    · obtain rfl : k = n := by omega
      have HL2 : Hid (answL (seeW W s) s s.ans = 0) := by
        show _ = _
        rw [HL.out, HN.out, List.drop_length]; rfl
      have HB3 : Hid (Br B s [(w.heap.size, .cells (snC s) 39 (0, 0))] S w b (answF (seeW W s) s s.ans) (K + 2 + k) wo) := by
        have := HB2.out
        rw [HN.out, List.take_length, ← HN.out] at this
        exact this
      have HWO : Hid (WtOk (answF (seeW W s) s s.ans)) := HOK.out _
      have HBK := brk_step HL2.out
      have HBW : Hid (brkW W s = { answF (seeW W s) s s.ans with h := s.H }) := rfl
      have HR := sRules_any b wo
      obtain ⟨Wf, hWf⟩ : ∃ Wf, Wf = answF (seeW W s) s s.ans := ⟨_, rfl⟩
      rw [← hWf] at HB3 HWO HBK HBW
      have HBK2 : Hid (brk W s = stpR Wf s) := HBK
      have HBS : Hid (Br B s [(wo.heap.size, .cells (rowsS b) 76 (0, 0)), (w.heap.size, .cells (snC s) 39 (0, 0))] S w b Wf (K + 2 + k) (wo.alloc (.cells (rowsS b) 76))) := HB3.out.box _ _
      clear HB2 HL HL2 HB3 HBK hWf HOK
      go_wp2_with (go_at_call 24; refine HR.mono ?_; rintro e w3 ⟨rfl, rfl⟩)
      clear HR
      go_loopw [45] (fun i wq => ∃ j : Nat, j ≤ 2 ∧ i = .int .i64 j ∧ Hid (Br B s [(wo.heap.size, .cells (rowsS b) 76 (0, 0)), (w.heap.size, .cells (snC s) 39 (0, 0))] S w b Wf (K + 2 + k) wq) ∧ Hid ((1 ≤ j → r1B Wf s = true) ∧ (2 ≤ j → r4B Wf s = true))) (fun i _ => 2 - (intOf i).toNat)
      case atStart => exact ⟨0, by omega, rfl, HBS, ⟨fun h => by omega, fun h => by omega⟩⟩
      case round =>
        obtain ⟨wq, rfl⟩ : ∃ x, x = wr := ⟨wr, rfl⟩
        obtain ⟨j, hj, rfl, HBQ, HP⟩ := hrel
        clear HBS
        rcases (by omega : j = 0 ∨ j = 1 ∨ j = 2) with rfl | rfl | rfl
        · have HBX : Hid (Br B s [(wq.heap.size, .cells #[.int .i64 1, fnV 34 b] 76 (0, 0)), (wo.heap.size, .cells (rowsS b) 76 (0, 0)), (w.heap.size, .cells (snC s) 39 (0, 0))] S w b Wf (K + 2 + k) (wq.alloc (.cells #[.int .i64 1, fnV 34 b] 76))) := HBQ.out.box _ _
          have hcall : Calls Tryz.prog 34 #[.pointer (some ⟨b, 0, none⟩), snV s] (wq.alloc (.cells #[.int .i64 1, fnV 34 b] 76)) fun e w' => e = .returned (.bool (r1B Wf s)) ∧ Br B s [(wq.heap.size, .cells #[.int .i64 1, fnV 34 b] 76 (0, 0)), (wo.heap.size, .cells (rowsS b) 76 (0, 0)), (w.heap.size, .cells (snC s) 39 (0, 0))] S w b Wf (K + 2 + k) w' := by
            obtain ⟨S1, hw1, hl1, hs1, f1, hi1, hq1⟩ := HBX.out
            exact ((r1_any HO.out HWO.out _ hi1 hw1).mono fun e w' ⟨h1, h2⟩ => ⟨h1, HBX.out.same h2⟩)
          obtain ⟨hx1, hx3⟩ : wq.heap[wo.heap.size]? = some (.cells (rowsS b) 76 (0, 0)) ∧ wq.heap[w.heap.size]? = some (.cells (snC s) 39 (0, 0)) := by
            obtain ⟨_, _, _, _, _, _, hq⟩ := HBQ.out
            exact ⟨(hq _ (List.mem_cons_self ..)).1, (hq _ (List.mem_cons_of_mem _ (List.mem_cons_self ..))).1⟩
          have r0 : wq.cell? ⟨wo.heap.size, 0, none⟩ = some (.int .i64 1) := cell_blk hx1 0
          have r1 : wq.cell? ⟨wo.heap.size, 1, none⟩ = some (fnV 34 b) := cell_blk hx1 1
          have hr := blk_lt hx1
          obtain ⟨⟨c0, c1, c2, c3, c4, c5, c6, c7, c8, c9, c10, c11⟩, hg⟩ := sn_cells HAA.out hx3
          rw [← HN.out] at c10
          unfold snV at hcall
          rw [← HAA.out, ← HN.out] at hcall
          unfold fnV at r1 hcall
          clear hx1 hx3 HBX HBQ
          obtain ⟨rb, hrb⟩ : ∃ rb, (r1B Wf s) = rb := ⟨_, rfl⟩
          rw [hrb] at hcall
          go_wp2_with fail
          refine hcall.mono ?_
          rintro e w4 ⟨rfl, hb4⟩
          clear hcall c0 c1 c2 c3 c4 c5 c6 c7 c8 c9 c10 c11 r0 r1 hr hg
          have HB4 : Hid (Br B s [(wo.heap.size, .cells (rowsS b) 76 (0, 0)), (w.heap.size, .cells (snC s) 39 (0, 0))] S w b Wf (K + 2 + k) w4) := hb4.sub (fun p hp => List.mem_cons_of_mem _ hp)
          have hn4 : w4.cell? ⟨wq.heap.size, 0, none⟩ = some (.int .i64 1) := by
            obtain ⟨_, _, _, _, _, _, hq⟩ := hb4
            exact cell_blk (hq _ (List.mem_cons_self ..)).1 0
          clear hb4
          cases rb with
          | true =>
            have HP2 : Hid ((1 ≤ 1 → r1B Wf s = true) ∧ (2 ≤ 1 → r4B Wf s = true)) := ⟨fun _ => hrb, fun h => by omega⟩
            clear HP hrb
            go_wp2
            go_roundw
            case rel => exact ⟨1, by omega, by go_num, HB4, HP2⟩
            case measure => simp [intOf]
          | false =>
            have hz : stpR Wf s = 1 := by
              unfold stpR
              rw [if_pos hrb]
            have HFIN : Hid (BrO w S b W K s (.returned (.int .i64 1)) w4) := by
              have hz2 := HBK2.out.trans hz
              exact ⟨by rw [hz2], HB4.out.frame, fun h0 => by rw [hz2] at h0; omega⟩
            clear HP hrb hz HB4
            go_wp2
            go_ret
            exact HFIN.out
        · have HBX : Hid (Br B s [(wq.heap.size, .cells #[.int .i64 4, fnV 35 b] 76 (0, 0)), (wo.heap.size, .cells (rowsS b) 76 (0, 0)), (w.heap.size, .cells (snC s) 39 (0, 0))] S w b Wf (K + 2 + k) (wq.alloc (.cells #[.int .i64 4, fnV 35 b] 76))) := HBQ.out.box _ _
          have hcall : Calls Tryz.prog 35 #[.pointer (some ⟨b, 0, none⟩), snV s] (wq.alloc (.cells #[.int .i64 4, fnV 35 b] 76)) fun e w' => e = .returned (.bool (r4B Wf s)) ∧ Br B s [(wq.heap.size, .cells #[.int .i64 4, fnV 35 b] 76 (0, 0)), (wo.heap.size, .cells (rowsS b) 76 (0, 0)), (w.heap.size, .cells (snC s) 39 (0, 0))] S w b Wf (K + 2 + k) w' := by
            obtain ⟨S1, hw1, hl1, hs1, f1, hi1, hq1⟩ := HBX.out
            exact ((r4_any HO.out _ hi1 hw1).mono fun e w' ⟨h1, h2⟩ => ⟨h1, HBX.out.same h2⟩)
          obtain ⟨hx1, hx3⟩ : wq.heap[wo.heap.size]? = some (.cells (rowsS b) 76 (0, 0)) ∧ wq.heap[w.heap.size]? = some (.cells (snC s) 39 (0, 0)) := by
            obtain ⟨_, _, _, _, _, _, hq⟩ := HBQ.out
            exact ⟨(hq _ (List.mem_cons_self ..)).1, (hq _ (List.mem_cons_of_mem _ (List.mem_cons_self ..))).1⟩
          have r0 : wq.cell? ⟨wo.heap.size, 2, none⟩ = some (.int .i64 4) := cell_blk hx1 2
          have r1 : wq.cell? ⟨wo.heap.size, 3, none⟩ = some (fnV 35 b) := cell_blk hx1 3
          have hr := blk_lt hx1
          obtain ⟨⟨c0, c1, c2, c3, c4, c5, c6, c7, c8, c9, c10, c11⟩, hg⟩ := sn_cells HAA.out hx3
          rw [← HN.out] at c10
          unfold snV at hcall
          rw [← HAA.out, ← HN.out] at hcall
          unfold fnV at r1 hcall
          clear hx1 hx3 HBX HBQ
          obtain ⟨rb, hrb⟩ : ∃ rb, (r4B Wf s) = rb := ⟨_, rfl⟩
          rw [hrb] at hcall
          go_wp2_with fail
          refine hcall.mono ?_
          rintro e w4 ⟨rfl, hb4⟩
          clear hcall c0 c1 c2 c3 c4 c5 c6 c7 c8 c9 c10 c11 r0 r1 hr hg
          have HB4 : Hid (Br B s [(wo.heap.size, .cells (rowsS b) 76 (0, 0)), (w.heap.size, .cells (snC s) 39 (0, 0))] S w b Wf (K + 2 + k) w4) := hb4.sub (fun p hp => List.mem_cons_of_mem _ hp)
          have hn4 : w4.cell? ⟨wq.heap.size, 0, none⟩ = some (.int .i64 4) := by
            obtain ⟨_, _, _, _, _, _, hq⟩ := hb4
            exact cell_blk (hq _ (List.mem_cons_self ..)).1 0
          clear hb4
          cases rb with
          | true =>
            have HP2 : Hid ((1 ≤ 2 → r1B Wf s = true) ∧ (2 ≤ 2 → r4B Wf s = true)) := ⟨fun _ => HP.out.1 (by omega), fun _ => hrb⟩
            clear HP hrb
            go_wp2
            go_roundw
            case rel => exact ⟨2, by omega, by go_num, HB4, HP2⟩
            case measure => simp [intOf]
          | false =>
            have hz : stpR Wf s = 4 := by
              unfold stpR
              rw [if_neg (by rw [HP.out.1 (by omega)]; simp)]; rw [if_pos hrb]
            have HFIN : Hid (BrO w S b W K s (.returned (.int .i64 4)) w4) := by
              have hz2 := HBK2.out.trans hz
              exact ⟨by rw [hz2], HB4.out.frame, fun h0 => by rw [hz2] at h0; omega⟩
            clear HP hrb hz HB4
            go_wp2
            go_ret
            exact HFIN.out
        · have hz : stpR Wf s = 0 := by
            unfold stpR
            rw [if_neg (by rw [HP.out.1 (by omega)]; simp), if_neg (by rw [HP.out.2 (by omega)]; simp)]
          have HZ : Hid (brk W s = 0) := HBK2.out.trans hz
          have hx3 : wq.heap[w.heap.size]? = some (.cells (snC s) 39 (0, 0)) := by
            obtain ⟨_, _, _, _, _, _, hq⟩ := HBQ.out
            exact (hq _ (List.mem_cons_of_mem _ (List.mem_cons_self ..))).1
          obtain ⟨⟨c0, c1, c2, c3, c4, c5, c6, c7, c8, c9, c10, c11⟩, hg⟩ := sn_cells HAA.out hx3
          obtain ⟨d3, dz⟩ : (∃ v, wq.cell? ⟨b, 3, none⟩ = some v) ∧ ∀ j, wq.frozen? ⟨b, j, none⟩ = false := by
            obtain ⟨_, ⟨_, _, _, _, _, _, _, _, hw⟩, _⟩ := HBQ.out
            obtain ⟨_, _, _, z3, zf⟩ := four_cells hw.blk
            exact ⟨⟨_, z3⟩, zf⟩
          obtain ⟨v3, d3⟩ := d3
          have HLAST := HBQ.out.last HS.out.1 HS.out.2
          have HFIN : Hid (BrO w S b W K s (.returned (.int .i64 0)) (wq.setCell ⟨b, 3, none⟩ (.slice s.ha s.H.length s.hc))) := by
            refine ⟨by rw [HZ.out], ?_, fun _ => ?_⟩
            · obtain ⟨_, _, _, _, f⟩ := HLAST; exact f
            · rw [HBW.out, ← HN.out]; exact HLAST
          clear hz HZ HBQ HP hx3 HLAST HBK2 HBW
          go_wp2
          go_ret
          exact HFIN.out
end Go.Proofs.YthdbkanbgfajbaaGreat
