
/- The document's disk: Crash. -/
import Derived.Test.YtkmjmbpdmgoknaaDsR
import Derived.Deep.RegionHeld
namespace Go.Proofs.Ytkmjmbpdmgoknaa
open Go.RowKit
section
variable (rb : Nat) (lv qv : Value) (A : List (Option Nat × Sec)) (B : List (Nat × Nat × Sec)) (w : World)
theorem dscrash_no (h : Rk w rb lv qv A B) (keep torn : Int) (hh : keep < 0 ∨ (B.length : Int) < keep ∨ torn < 0 ∨ 256 < torn) : Calls Try.prog 10 #[.pointer (some ⟨rb, 0, none⟩), .int .i64 keep, .int .i64 torn] w fun e w' => e = .returned (.int .i64 1) ∧ w' = w := by
  have hc1 := h.cell1
  obtain ⟨aq, cq, rfl, _⟩ := h.waits.slice
  generalize B.length = n at *
  clear h
  by_cases h1 : keep < 0
  · clear hh
    go_enter Try.func10, Try.ntmps10
    go_wp2
    go_ret
    exact ⟨rfl, rfl⟩
  · have h1' : 0 ≤ keep := by omega
    by_cases h2 : (n : Int) < keep
    · clear hh h1
      go_enter Try.func10, Try.ntmps10
      go_wp2
      go_ret
      exact ⟨rfl, rfl⟩
    · have h2' : keep ≤ (n : Int) := by omega
      have hd2 : decide ((n : Int) < keep) = false := by simpa using h2'
      by_cases h3 : torn < 0
      · clear hh h1 h2
        go_enter Try.func10, Try.ntmps10
        go_wp2
        go_ret
        exact ⟨rfl, rfl⟩
      · have h3' : 0 ≤ torn := by omega
        have h4 : 256 < torn := by omega
        clear hh h1 h2 h3
        go_enter Try.func10, Try.ntmps10
        go_wp2
        go_ret
        exact ⟨rfl, rfl⟩
/-- What lasts at a round of the crash. -/
def crAt (L : List Sec) (Q : List (Nat × Sec)) (keep torn k : Nat) : List Sec := if k ≤ keep then doAll L (Q.take k) else crashed L Q keep torn
theorem crAt_lt (L : List Sec) (Q : List (Nat × Sec)) (keep torn k : Nat) (q : Nat × Sec) (hq : Q[k]? = some q) (h : k < keep) : crAt L Q keep torn (k + 1) = (crAt L Q keep torn k).set q.1 q.2 := by
  unfold crAt
  rw [if_pos (by omega), if_pos (by omega), take_next hq, doAll_snoc]
theorem crAt_eq (L : List Sec) (Q : List (Nat × Sec)) (keep torn : Nat) (q : Nat × Sec) (hq : Q[keep]? = some q) : crAt L Q keep torn (keep + 1) = (crAt L Q keep torn keep).set q.1 (tear ((crAt L Q keep torn keep).getD q.1 zeroSec) q.2 torn) := by
  unfold crAt
  rw [if_neg (by omega), if_pos (Nat.le_refl _), crashed, hq]
theorem crAt_gt (L : List Sec) (Q : List (Nat × Sec)) (keep torn k : Nat) (h : keep < k) : crAt L Q keep torn (k + 1) = crAt L Q keep torn k := by
  unfold crAt
  rw [if_neg (by omega), if_neg (by omega)]
theorem crAt_end (L : List Sec) (Q : List (Nat × Sec)) (keep torn : Nat) (h : keep ≤ Q.length) : crAt L Q keep torn Q.length = crashed L Q keep torn := by
  unfold crAt
  split
  · have : keep = Q.length := by omega
    subst this
    rw [crashed, List.getElem?_eq_none (Nat.le_refl _)]
  · rfl
theorem tear_next (s0 s : Sec) (j : Nat) (hj : j < 256) : (tear s0 s j).1.set j (s.1.getD j 0) = (tear s0 s (j + 1)).1 := by
  have h1 := s.2.1
  have h0 := s0.2.1
  show (s.1.take j ++ s0.1.drop j).set j (s.1.getD j 0) = s.1.take (j + 1) ++ s0.1.drop (j + 1)
  rw [List.set_append_right _ _ (by simp; omega), List.length_take, Nat.min_eq_left (by omega), Nat.sub_self, List.drop_eq_getElem_cons (by omega), List.set_cons_zero, take_snoc s.1 j (by omega), List.append_assoc]
  rfl
theorem Lies.cell {w : World} {b : Nat} {s : Sec} (h : Lies w (some b) s) (i : Nat) (hi : i < 256) : w.cell? ⟨b, i, none⟩ = some (.int .u8 ((s.1.getD i 0 : Nat) : Int)) := by
  have hr : Row w (some ⟨b, 0, none⟩) 256 s.1 := h
  rcases hr.at_ with h0 | ⟨b', off, e, _, hc⟩
  · exact absurd h0 s.ne
  · cases e
    have := hc i (by rw [s.2.1]; exact hi)
    rwa [Nat.zero_add] at this
theorem full_hid (w : World) (a : Option Addr) (c : Nat) (l : List Nat) (hr : Row w a c l) (hl : l.length ≤ 256) : Calls Try.prog 16 #[.slice a l.length c] w fun e w' => e = .returned (.slice (some ⟨w.heap.size, 0, none⟩) 256 256) ∧ Hid (Has w' 1 (.slice (some ⟨w.heap.size, 0, none⟩) 256 256) 256 (cellsOf (padS l).1)) ∧ Fr (fun _ => False) w w' :=
  (full_has w a c l hr hl).mono (fun _ _ h => ⟨h.1, h.2.1, h.2.2.2⟩)
set_option maxRecDepth 100000 in
set_option maxHeartbeats 1000000 in
theorem dscrash_ok (h : Rk w rb lv qv A B) (keep torn : Nat) (hk : keep ≤ B.length) (ht : torn ≤ 256) : Calls Try.prog 10 #[.pointer (some ⟨rb, 0, none⟩), .int .i64 keep, .int .i64 torn] w fun e w' => e = .returned (.int .i64 0) ∧
    ∃ A', Rk w' rb lv (.slice none 0 0) A' [] ∧ As A' = crashed (As A) (Bs B) keep torn ∧ Fr (rkS rb lv qv) w w' ∧ (∀ k, secS A' [] k → secS A B k ∨ w.heap.size ≤ k) := by
  have hc1 := h.cell1
  obtain ⟨aq, cq, rfl, _⟩ := h.waits.slice
  obtain ⟨n, hnn⟩ : ∃ n, n = B.length := ⟨_, rfl⟩
  have HN : Hid (n = B.length) := hnn
  have hnm : n ≤ 9223372036854775807 := by
    obtain ⟨_, _, _, z1, z2⟩ := h.waits.slice
    unfold maxLen at z2; omega
  rw [← hnn] at hc1 hk
  clear hnn
  have hk' : (keep : Int) ≤ (n : Int) := by omega
  have ht' : (torn : Int) ≤ 256 := by omega
  have hdk : decide ((n : Int) < (keep : Int)) = false := by simpa using hk'
  have hdt : decide ((256 : Int) < (torn : Int)) = false := by simpa using ht'
  have hdn : decide (n < keep) = false := by simp; omega
  obtain ⟨g, cap, rfl, hglt, hcap, _⟩ := h.lasts.form h.pos
  obtain ⟨m, hm⟩ : ∃ m, m = A.length := ⟨_, rfl⟩
  rw [← hm] at hcap
  have hcL : ∀ {W A'} , Rk W rb (.slice (some ⟨g, 0, none⟩) m cap) (.slice aq n cq) A' B → A'.length = m := fun hh => by
    obtain ⟨_, _, e, _⟩ := hh.lasts.slice
    simp only [Value.slice.injEq] at e
    exact e.2.1.symm
  have h' : Rk w rb (.slice (some ⟨g, 0, none⟩) m cap) (.slice aq n cq) A B := by rw [hm, HN.out]; exact h
  have HH : Hid (Rk w rb (.slice (some ⟨g, 0, none⟩) m cap) (.slice aq n cq) A B) := h'
  have hgo : ∀ k, rkS rb (.slice (some ⟨g, 0, none⟩) A.length cap) (.slice aq B.length cq) k ↔ rkS rb (.slice (some ⟨g, 0, none⟩) m cap) (.slice aq n cq) k := by rw [hm, HN.out]; exact fun _ => Iff.rfl
  have HGO : Hid (∀ k, rkS rb (.slice (some ⟨g, 0, none⟩) A.length cap) (.slice aq B.length cq) k ↔ rkS rb (.slice (some ⟨g, 0, none⟩) m cap) (.slice aq n cq) k) := hgo
  have HM : Hid (m = A.length) := hm
  rw [← hm]
  clear h hm hgo
  go_enter Try.func10, Try.ntmps10
  go_wp2
  go_loopw [35] (fun t wr => ∃ (k : Nat) (A' : List (Option Nat × Sec)), k ≤ n ∧ t = .int .i64 k ∧ Rk wr rb (.slice (some ⟨g, 0, none⟩) m cap) (.slice aq n cq) A' B ∧ As A' = crAt (As A) (Bs B) keep torn k ∧ Fr (fun k => k = g) w wr ∧ (∀ j, secS A' [] j → secS A B j ∨ w.heap.size ≤ j))
    (fun t _ => n - (intOf t).toNat)
  case atStart => exact ⟨0, A, by omega, rfl, HH.out, rfl, Fr.refl _ _, fun j hj => by
    rcases hj with e | ⟨q, hq, _⟩
    · exact .inl (.inl e)
    · cases hq⟩
  case round =>
  obtain ⟨k, A', hkn, rfl, hR, hAs, hf, hsec⟩ := hrel
  by_cases hlt : k < n
  · obtain ⟨q, hq⟩ : ∃ q, B[k]? = some q := ⟨_, List.getElem?_eq_getElem (by rw [← HN.out]; exact hlt)⟩
    have hmA := hcL hR
    obtain ⟨gw, cw, hv, _, c0, c1, hat⟩ := hR.wait hq
    simp only [Value.slice.injEq] at hv
    obtain ⟨rfl, hx9, rfl⟩ := hv
    clear hx9
    have hqB := hR.rowB q (List.mem_of_getElem? hq)
    have hqs : secS A B q.2.1 := .inr ⟨q, List.mem_of_getElem? hq, rfl⟩
    have hQ := Bs_get hq
    obtain ⟨p, hp⟩ : ∃ p, A'[q.1]? = some p := ⟨_, List.getElem?_eq_getElem hat⟩
    have hpm := List.mem_of_getElem? hp
    obtain ⟨at_, qb, s⟩ := q
    simp only [lvOf] at c0 c1 hat hqB hqs hQ hp
    have fA : Fr (fun _ => False) wr ((wr.alloc (.cells #[.int .i64 (at_ : Int), .slice (some ⟨qb, 0, none⟩) 256 256] 58)).drew) := ((Fr.refl (fun _ => False) wr).alloc _).drew
    have hb := heap_alloc_new wr (.cells #[.int .i64 (at_ : Int), .slice (some ⟨qb, 0, none⟩) 256 256] 58)
    have hbd : ((wr.alloc (.cells #[.int .i64 (at_ : Int), .slice (some ⟨qb, 0, none⟩) 256 256] 58)).drew).heap[wr.heap.size]? = some (.cells #[.int .i64 (at_ : Int), .slice (some ⟨qb, 0, none⟩) 256 256] 58 (0, 0)) := hb
    have hRd := hR.same fA
    have p0 := hRd.cell0
    have p1 := cell_at hbd 0
    have p2 := cell_at hbd 1
    simp only [List.getElem?_toArray, List.getElem?_cons_zero, List.getElem?_cons_succ] at p1 p2
    obtain ⟨g', cap', hv, _, _, _, x0, z0⟩ := hRd.last hp
    simp only [Value.slice.injEq, Option.some.injEq, Addr.mk.injEq, and_true] at hv
    obtain ⟨rfl, hx9, rfl⟩ := hv
    clear hx9
    have hki : (k : Int) < (n : Int) := by omega
    have hai : (at_ : Int) < (m : Int) := by omega
    have hgs : g < wr.heap.size := by have := hR.lasts.lt rfl; exact this
    have hnw : wr.heap.size ≠ g := by omega
    by_cases hlk : k < keep
    · have hlki : (k : Int) < (keep : Int) := by omega
      have hneq : ((k : Int) == (keep : Int)) = false := by simp; omega
      have hput := hRd.put hmA.symm hat s (hqB.1.same fA) hqB.2
      have HA : Hid (As (A'.set at_ (some qb, s)) = crAt (As A) (Bs B) keep torn (k + 1)) := by
        show _ = _
        rw [crAt_lt _ _ _ _ _ _ hQ hlk, ← hAs, As, As, List.map_set]
      have F5 : Fr (fun k => k = g) wr (((wr.alloc (.cells #[.int .i64 (at_ : Int), .slice (some ⟨qb, 0, none⟩) 256 256] 58)).drew).setCell ⟨g, at_, none⟩ (.slice (some ⟨qb, 0, none⟩) 256 256)) := (fA.any (S := fun k => k = g)).setCell (p := ⟨g, at_, none⟩) (fun _ => rfl) _
      have F6 : Fr (fun k => k = g) ((wr.alloc (.cells #[.int .i64 (at_ : Int), .slice (some ⟨qb, 0, none⟩) 256 256] 58)).drew) (((wr.alloc (.cells #[.int .i64 (at_ : Int), .slice (some ⟨qb, 0, none⟩) 256 256] 58)).drew).setCell ⟨g, at_, none⟩ (.slice (some ⟨qb, 0, none⟩) 256 256)) := (Fr.refl (fun k => k = g) _).setCell (p := ⟨g, at_, none⟩) (fun _ => rfl) _
      have bd6 := F6.block_eq hbd hnw
      have p0b := hput.cell0
      have p1b := cell_at bd6 0
      have p2b := cell_at bd6 1
      simp only [List.getElem?_toArray, List.getElem?_cons_zero, List.getElem?_cons_succ] at p1b p2b
      have HP : Hid (Rk (((wr.alloc (.cells #[.int .i64 (at_ : Int), .slice (some ⟨qb, 0, none⟩) 256 256] 58)).drew).setCell ⟨g, at_, none⟩ (.slice (some ⟨qb, 0, none⟩) 256 256)) rb (.slice (some ⟨g, 0, none⟩) m cap) (.slice (some ⟨gw, 0, none⟩) n cq) (A'.set at_ (some qb, s)) B) := hput
      have HS : Hid (∀ j, secS (A'.set at_ (some qb, s)) [] j → secS A B j ∨ w.heap.size ≤ j) := fun j hj => by
        rcases hj with ⟨x, hx, e⟩ | ⟨q, hq, _⟩
        · rcases List.mem_or_eq_of_mem_set hx with h1 | rfl
          · exact hsec j (.inl ⟨x, h1, e⟩)
          · cases e; exact .inl hqs
        · cases hq
      clear hput hAs hsec hq hp hQ hqB hqs hpm
      clear F6 bd6 hb hbd HH hRd hR hgs hmA
      go_wp2_with fail
      generalize wr.alloc (.cells #[.int .i64 (at_ : Int), .slice (some ⟨qb, 0, none⟩) 256 256] 58) = wA at *
      generalize wr.heap.size = nb at *
      go_region_held (fun W => W.cell? ⟨rb, 0, none⟩ = some (.slice (some ⟨g, 0, none⟩) m cap) ∧ W.cell? ⟨nb, 0, none⟩ = some (.int .i64 (at_ : Int)) ∧ W.cell? ⟨nb, 1, none⟩ = some (.slice (some ⟨qb, 0, none⟩) 256 256))
        (first | exact ⟨p0, p1, p2⟩ | exact ⟨p0b, p1b, p2b⟩)
        (fail)
      all_goals
        go_wp2
        go_roundw
        case rel => exact ⟨k + 1, _, by omega, by go_num, HP.out, HA.out, hf.trans F5 (fun _ _ e => e), HS.out⟩
        case measure => simp [intOf]; omega
    · by_cases hek : k = keep
      · subst hek
        obtain ⟨la, lcp, ll, hlv, hlr, hll, hlp⟩ := (hR.rowA p hpm).1.row
        rw [hlv] at x0
        have hps : (As A').getD at_ zeroSec = p.2 := by rw [As, List.getD_eq_getElem?_getD, List.getElem?_map, hp]; rfl
        have hrA : Row ((wr.alloc (.cells #[.int .i64 (at_ : Int), .slice (some ⟨qb, 0, none⟩) 256 256] 58)).drew) la lcp ll := hlr.same fA
        have HA : Hid (∀ b, As (A'.set at_ (some b, tear p.2 s torn)) = crAt (As A) (Bs B) k torn (k + 1)) := by
          intro b
          rw [crAt_eq _ _ _ _ _ hQ, ← hAs, hps, As, As, List.map_set]
        have HS : Hid (∀ b, w.heap.size ≤ b → ∀ j, secS (A'.set at_ (some b, tear p.2 s torn)) [] j → secS A B j ∨ w.heap.size ≤ j) := fun b hb9 j hj => by
          rcases hj with ⟨x, hx, e⟩ | ⟨q, hq, _⟩
          · rcases List.mem_or_eq_of_mem_set hx with h1 | rfl
            · exact hsec j (.inl ⟨x, h1, e⟩)
            · cases e; exact .inr hb9
          · cases hq
        have hmA2 := hmA
        have HMA : Hid (A'.length = m) := hmA
        have HAT : Hid (at_ < A'.length) := hat
        have HPP : Hid (A'[at_]? = some p) := hp
        have HLP : Hid (padS ll = p.2) := hlp
        have hsz := hf.size
        have hgA : Hid (g < (wr.alloc (.cells #[.int .i64 (at_ : Int), .slice (some ⟨qb, 0, none⟩) 256 256] 58)).heap.size) := by have := hRd.lasts.lt rfl; exact this
        have HRD : Hid (Rk ((wr.alloc (.cells #[.int .i64 (at_ : Int), .slice (some ⟨qb, 0, none⟩) 256 256] 58)).drew) rb (.slice (some ⟨g, 0, none⟩) m cap) (.slice (some ⟨gw, 0, none⟩) n cq) A' B) := hRd
        clear hRd
        have hxlt : wr.heap.size < (wr.alloc (.cells #[.int .i64 (at_ : Int), .slice (some ⟨qb, 0, none⟩) 256 256] 58)).heap.size := lt_of_block hbd
        have HKR : Hid (∀ j, rkS rb (.slice (some ⟨g, 0, none⟩) m cap) (.slice (some ⟨gw, 0, none⟩) n cq) j → j < (wr.alloc (.cells #[.int .i64 (at_ : Int), .slice (some ⟨qb, 0, none⟩) 256 256] 58)).heap.size) := fun j hj => HRD.out.lt hj
        have HKS : Hid (∀ j, secS A' B j → j < (wr.alloc (.cells #[.int .i64 (at_ : Int), .slice (some ⟨qb, 0, none⟩) 256 256] 58)).heap.size) := fun j hj => HRD.out.sec_lt hj
        have hfull := full_hid ((wr.alloc (.cells #[.int .i64 (at_ : Int), .slice (some ⟨qb, 0, none⟩) 256 256] 58)).drew) la lcp ll hrA hll
        have hfull2 : Calls Try.prog 16 #[.slice la ll.length lcp] ((wr.alloc (.cells #[.int .i64 (at_ : Int), .slice (some ⟨qb, 0, none⟩) 256 256] 58)).drew) fun e w' => e = .returned (.slice (some ⟨(wr.alloc (.cells #[.int .i64 (at_ : Int), .slice (some ⟨qb, 0, none⟩) 256 256] 58)).heap.size, 0, none⟩) 256 256) ∧ Hid (Has w' 1 (.slice (some ⟨(wr.alloc (.cells #[.int .i64 (at_ : Int), .slice (some ⟨qb, 0, none⟩) 256 256] 58)).heap.size, 0, none⟩) 256 256) 256 (cellsOf (padS ll).1)) ∧ Fr (fun _ => False) ((wr.alloc (.cells #[.int .i64 (at_ : Int), .slice (some ⟨qb, 0, none⟩) 256 256] 58)).drew) w' := hfull
        have HQL : Hid (Lies ((wr.alloc (.cells #[.int .i64 (at_ : Int), .slice (some ⟨qb, 0, none⟩) 256 256] 58)).drew) (some qb) s) := hqB.1.same fA
        have hqlt : qb < wr.heap.size := hqB.1.lt
        clear hfull hqB hrA
        clear hAs hsec hq hp hQ hqs hpm hmA hmA2 hlv hlr hlp hps HH hat hb hR hcL h' hglt
        go_wp2_with fail
        generalize wr.alloc (.cells #[.int .i64 (at_ : Int), .slice (some ⟨qb, 0, none⟩) 256 256] 58) = wA at *
        generalize wr.heap.size = nb at *
        clear hc1 c0 c1
        have hbd9 : wA.drew.heap[nb]? = some (.cells #[.int .i64 (at_ : Int), .slice (some ⟨qb, 0, none⟩) 256 256] 58 (0, 0)) := hbd
        generalize hbb : wA.heap.size = bb at *
        clear hbb
        go_region_law
          (refine step_of (by rfl) ?_; go_simp; go_at_call 16; refine hfull2.mono ?_; rintro e w2 ⟨rfl, h2h, f2⟩)
        all_goals
          have hR2 : Hid (Rk w2 rb (.slice (some ⟨g, 0, none⟩) m cap) (.slice (some ⟨gw, 0, none⟩) n cq) A' B) := HRD.out.same f2
          have b2 := f2.block_eq hbd9 (fun f => f)
          have hql2 : Hid (Lies w2 (some qb) s) := HQL.out.same f2
          have hh0 : Has w2 1 (.slice (some ⟨bb, 0, none⟩) 256 256) 256 (cellsOf (tear p.2 s 0).1) := by rw [tear_zero, ← HLP.out]; exact h2h.out
          have fW2 : Hid (Fr (fun _ => False) wr w2) := fA.false_trans f2
          have HB2 : Hid (w2.heap[nb]? = some (.cells #[.int .i64 (at_ : Int), .slice (some ⟨qb, 0, none⟩) 256 256] 58 (0, 0))) := b2
          clear h2h hfull2 p0 p1 p2 x0 z0 hbd hbd9 b2 f2 fA
          go_wp2
          go_loopw [10] (fun t wq => ∃ j : Nat, j ≤ torn ∧ t = .int .i64 j ∧ Has wq 1 (.slice (some ⟨bb, 0, none⟩) 256 256) 256 (cellsOf (tear p.2 s j).1) ∧ Fr (fun k => k = bb) w2 wq)
            (fun t _ => torn - (intOf t).toNat)
          case atStart => exact ⟨0, by omega, rfl, hh0, Fr.refl _ _⟩
          case round =>
          obtain ⟨j, hj, rfl, hh, hfi⟩ := hrel
          have hbi := hfi.block_eq HB2.out (fun e => by omega)
          have hbid : wr.drew.heap[nb]? = some (.cells #[.int .i64 (at_ : Int), .slice (some ⟨qb, 0, none⟩) 256 256] 58 (0, 0)) := hbi
          have d1 := cell_at hbid 1
          have d0 := cell_at hbid 0
          simp only [List.getElem?_toArray, List.getElem?_cons_zero, List.getElem?_cons_succ] at d0 d1
          have fdq : Fr (fun _ => False) wr wr.drew := (Fr.refl (fun _ => False) wr).drew
          by_cases hjl : j < torn
          · have hj256n : j < 256 := by omega
            have hj256 : (j : Int) < 256 := by omega
            have hjt : (j : Int) < (torn : Int) := by omega
            have hqi : Lies wr (some qb) s := hql2.out.fr hfi (fun b e e2 => by cases e; omega)
            have d2 := hqi.cell j hj256n
            have d1w := cell_at hbi 1
            simp only [List.getElem?_toArray, List.getElem?_cons_zero, List.getElem?_cons_succ] at d1w
            have hhd := hh
            obtain ⟨g', cap', hv, _, _, _, hth, hra⟩ := hhd.form (by omega)
            simp only [Value.slice.injEq, Option.some.injEq, Addr.mk.injEq, and_true, true_and] at hv
            obtain ⟨rfl, rfl⟩ := hv
            have t0 := hth j (by omega)
            rw [Nat.zero_add] at t0
            obtain ⟨t0, z0'⟩ := t0
            obtain ⟨u0, e0⟩ := Option.isSome_iff_exists.1 t0
            have hset := hhd.set j [.int .u8 ((s.1.getD j 0 : Nat) : Int)] (by rw [cellsOf_length, (tear p.2 s j).2.1]; simp; omega)
            have hse : (cellsOf (tear p.2 s j).1).take j ++ [.int .u8 ((s.1.getD j 0 : Nat) : Int)] ++ (cellsOf (tear p.2 s j).1).drop (j + [Value.int .u8 ((s.1.getD j 0 : Nat) : Int)].length) = cellsOf (tear p.2 s (j + 1)).1 := by
              rw [← tear_next p.2 s j hj256n, List.set_eq_take_append_cons_drop, if_pos (by rw [(tear p.2 s j).2.1]; omega)]
              simp [cellsOf]
            rw [hse] at hset
            have HSET : Hid (Has (wr.setCell ⟨bb, j, none⟩ (.int .u8 ((s.1.getD j 0 : Nat) : Int))) 1 (.slice (some ⟨bb, 0, none⟩) 256 256) 256 (cellsOf (tear p.2 s (j + 1)).1)) := hset
            generalize s.1.getD j 0 = xj at *
            clear hth hra t0 hse hh hhd hset hbi hbid hqi d0 d1 fdq
            go_wp2
            go_roundw
            case rel => exact ⟨j + 1, by omega, by go_num, HSET.out, hfi.setCell (p := ⟨bb, j, none⟩) (fun _ => rfl) _⟩
            case measure => simp [intOf]; omega
          have hjn : torn = j := by omega
          subst hjn
          have hRq : Rk wr rb (.slice (some ⟨g, 0, none⟩) m cap) (.slice (some ⟨gw, 0, none⟩) n cq) A' B := hR2.out.framed hfi (fun k hk e => by have := HKR.out k hk; omega) (fun k hk e => by have := HKS.out k hk; omega)
          have hLb : Lies wr (some bb) (tear p.2 s torn) := hh.bytes (tear p.2 s torn).2.2 (by rw [(tear p.2 s torn).2.1]; omega)
          have hnb : ¬ rkS rb (.slice (some ⟨g, 0, none⟩) m cap) (.slice (some ⟨gw, 0, none⟩) n cq) bb := fun e => Nat.lt_irrefl _ (HKR.out bb e)
          have hRd := hRq.same fdq
          have hput := hRd.put HMA.out.symm HAT.out (tear p.2 s torn) (hLb.same fdq) hnb
          have HPUT : Hid (Rk (wr.drew.setCell ⟨g, at_, none⟩ (.slice (some ⟨bb, 0, none⟩) 256 256)) rb (.slice (some ⟨g, 0, none⟩) m cap) (.slice (some ⟨gw, 0, none⟩) n cq) (A'.set at_ (some bb, tear p.2 s torn)) B) := hput
          have d3 := hRd.cell0
          obtain ⟨g', cap', hv, _, _, _, x0, z0⟩ := hRd.last HPP.out
          simp only [Value.slice.injEq, Option.some.injEq, Addr.mk.injEq, and_true] at hv
          obtain ⟨rfl, hx9, rfl⟩ := hv
          have HFF : Hid (Fr (fun k => k = g) w (wr.drew.setCell ⟨g, at_, none⟩ (.slice (some ⟨bb, 0, none⟩) 256 256))) := ((((hf.trans fW2.out (fun _ _ f => f.elim)).trans hfi (fun k hk e => by omega)).drew).setCell (p := ⟨g, at_, none⟩) (fun _ => rfl) _)
          clear hx9 hput hRd hRq hLb hh hbi hbid hjl d1
          go_wp2_with fail
          go_region
          all_goals
            go_wp2
            go_roundw
            case rel => exact ⟨k + 1, _, by omega, by go_num, HPUT.out, HA.out bb, HFF.out, HS.out bb (by omega)⟩
            case measure => simp [intOf]; omega
      · have hneq : ((k : Int) == (keep : Int)) = false := by simp; omega
        have hlki : (keep : Int) ≤ (k : Int) := by omega
        have HA : Hid (As A' = crAt (As A) (Bs B) keep torn (k + 1)) := by
          show _ = _
          rw [crAt_gt _ _ _ _ _ (by omega), hAs]
        have fB : Fr (fun _ => False) wr (wr.alloc (.cells #[.int .i64 (at_ : Int), .slice (some ⟨qb, 0, none⟩) 256 256] 58)) := (Fr.refl (fun _ => False) wr).alloc _
        have HP : Hid (Rk (wr.alloc (.cells #[.int .i64 (at_ : Int), .slice (some ⟨qb, 0, none⟩) 256 256] 58)) rb (.slice (some ⟨g, 0, none⟩) m cap) (.slice (some ⟨gw, 0, none⟩) n cq) A' B) := hR.same fB
        have HS : Hid (∀ j, secS A' [] j → secS A B j ∨ w.heap.size ≤ j) := hsec
        clear hAs hsec hq hp hQ hqB hqs hpm hek
        go_wp2
        go_roundw
        case rel => exact ⟨k + 1, _, by omega, by go_num, HP.out, HA.out, hf.trans fB (fun _ _ e => e.elim), HS.out⟩
        case measure => simp [intOf]; omega
  have hkn' : n = k := by omega
  subst hkn'
  have HE : Hid (As A' = crashed (As A) (Bs B) keep torn) := by
    show _ = _
    rw [hAs, ← crAt_end (As A) (Bs B) keep torn (by rw [Bs_length, ← HN.out]; exact hk), Bs_length, ← HN.out]
  have hc1' := hR.cell1
  have hz1' := hR.free1
  obtain ⟨gR, gF, gO⟩ := hR.grow (X := True) (W := wr) (w1 := wr) (B2 := []) (v2 := .slice none 0 0) (Fr.refl _ _) (Fr.refl _ _) (Has.nil _ _) (.inr (.inl rfl)) (fun q hq => by cases hq)
  clear hlt hAs
  go_wp2
  go_ret
  refine ⟨rfl, A', gR, HE.out, ?_, hsec⟩
  refine (hf.mono (fun k _ e => (HGO.out k).2 (.inr (.inl (by rw [e]; rfl))))).trans gF (fun k _ e => (HGO.out k).2 e)
end
end Go.Proofs.Ytkmjmbpdmgoknaa
