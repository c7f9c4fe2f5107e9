
/- The document's Right of pages. -/
import Derived.Test.YtlgceleelhppdaaGreatRpWith
namespace Go.Proofs.YtlgceleelhppdaaGreat
open Go.RowKit

set_option maxRecDepth 100000 in
set_option maxHeartbeats 8000000 in
theorem rpright_any (a : Option Addr) (n c : Nat) (ls : List Sl) (hn : n = ls.length) (w : World) (h : Slots w a c ls) :
    Calls Tryz.prog 16 #[.slice a n c] w fun e w' => e = .returned (.bool (ariB 0 (psOf ls))) ∧ Fr (fun _ => False) w w' := by
  have hle : n ≤ c := by rw [hn]; exact h.le
  have hmx := h.max
  have HS : Hid (∀ W, Fr (fun _ => False) w W → Slots W a c ls) := fun W f => h.same f
  have HN : Hid (n = ls.length) := hn
  clear h hn
  go_enter Tryz.func16, Tryz.ntmps16
  go_wp2
  go_loopw [7] (fun i wr => ∃ (k : Nat) (x : Int), k ≤ n ∧ i = .int .i64 k ∧ Hid (ariB x (psOf (ls.drop k)) = ariB 0 (psOf ls)) ∧ Hid ((k = 0 ∧ x = 0) ∨ (1 ≤ x ∧ ∃ j s, k = j + 1 ∧ ls[j]? = some s ∧ s.page = x)) ∧ Fr (fun _ => False) w wr) (fun i _ => n - (intOf i).toNat)
  case atStart => exact ⟨0, 0, by omega, rfl, rfl, .inl ⟨rfl, rfl⟩, Fr.refl _ _⟩
  case round =>
    obtain ⟨k, x, hk, rfl, HE, HX, F⟩ := hrel
    by_cases hlt : k < n
    · obtain ⟨s, hs⟩ : ∃ s, ls[k]? = some s := ⟨_, List.getElem?_eq_getElem (by have := HN.out; omega)⟩
      obtain ⟨b, off, rfl, hb, hc⟩ := (HS.out _ F).some (by have := HN.out; omega)
      obtain ⟨q0, q1, q2, q3, q4, q5, q6, q7⟩ := sl_range (hc k s hs)
      have HNX : Hid (ariB x (psOf (ls.drop k)) = (decide (x < s.page) && decide (s.page ≤ 4096) && rightB s.nd && ariB s.page (psOf (ls.drop (k + 1))))) := ari_next x hs
      have hki : (k : Int) < (n : Int) := by omega
      have FB := F.alloc (.cells #[.int .i64 s.page, .int .i64 s.nd.lev, .int .i64 s.nd.lsn, .int .i64 s.nd.rgt, .string s.nd.high, .slice s.pt.k s.nd.keys.length s.pt.kc, .slice s.pt.v s.nd.vals.length s.pt.vc, .slice s.pt.i s.nd.kids.length s.pt.ic] 55)
      have HRR : Hid (∀ W, Fr (fun _ => False) (wr.alloc (.cells #[.int .i64 s.page, .int .i64 s.nd.lev, .int .i64 s.nd.lsn, .int .i64 s.nd.rgt, .string s.nd.high, .slice s.pt.k s.nd.keys.length s.pt.kc, .slice s.pt.v s.nd.vals.length s.pt.vc, .slice s.pt.i s.nd.kids.length s.pt.ic] 55)) W → Calls Tryz.prog 31 #[(.agg #[.int .i64 s.nd.lev, .int .i64 s.nd.lsn, .int .i64 s.nd.rgt, .string s.nd.high, .slice s.pt.k s.nd.keys.length s.pt.kc, .slice s.pt.v s.nd.vals.length s.pt.vc, .slice s.pt.i s.nd.kids.length s.pt.ic])] W fun e w' => e = .returned (.bool (rightB s.nd)) ∧ Fr (fun _ => False) W w') := fun W f => rright_any s.nd s.pt W (((HS.out _ FB).nod s (List.mem_of_getElem? hs)).same f)
      have g0 := (Fr.refl (fun _ => False) (wr.alloc (.cells #[.int .i64 s.page, .int .i64 s.nd.lev, .int .i64 s.nd.lsn, .int .i64 s.nd.rgt, .string s.nd.high, .slice s.pt.k s.nd.keys.length s.pt.kc, .slice s.pt.v s.nd.vals.length s.pt.vc, .slice s.pt.i s.nd.kids.length s.pt.ic] 55))).drew
      have HX2 : Hid (rightB s.nd = true → ariB s.page (psOf (ls.drop (k + 1))) = ariB 0 (psOf ls) → 1 ≤ s.page → (k + 1 = 0 ∧ s.page = 0) ∨ (1 ≤ s.page ∧ ∃ j t, k + 1 = j + 1 ∧ ls[j]? = some t ∧ t.page = s.page)) := fun _ _ h1 => .inr ⟨h1, k, s, rfl, hs, rfl⟩
      rcases HX.out with ⟨rfl, rfl⟩ | ⟨hx1, j, t, rfl, ht, htx⟩
      · rw [Nat.zero_mul, Nat.add_zero] at q0 q1 q2 q3 q4 q5 q6 q7
        have hk0 : (0 : Int) < (n : Int) := by omega
        clear hki
        have HQ : Hid (∀ W, Fr (fun _ => False) (wr.alloc (.cells #[.int .i64 s.page, .int .i64 s.nd.lev, .int .i64 s.nd.lsn, .int .i64 s.nd.rgt, .string s.nd.high, .slice s.pt.k s.nd.keys.length s.pt.kc, .slice s.pt.v s.nd.vals.length s.pt.vc, .slice s.pt.i s.nd.kids.length s.pt.ic] 55)) W → (W.cell? ⟨wr.heap.size, 0, none⟩ = some (.int .i64 s.page) ∧ W.cell? ⟨wr.heap.size, 1, none⟩ = some (.int .i64 s.nd.lev) ∧ W.cell? ⟨wr.heap.size, 2, none⟩ = some (.int .i64 s.nd.lsn) ∧ W.cell? ⟨wr.heap.size, 3, none⟩ = some (.int .i64 s.nd.rgt) ∧ W.cell? ⟨wr.heap.size, 4, none⟩ = some (.string s.nd.high) ∧ W.cell? ⟨wr.heap.size, 5, none⟩ = some (.slice s.pt.k s.nd.keys.length s.pt.kc) ∧ W.cell? ⟨wr.heap.size, 6, none⟩ = some (.slice s.pt.v s.nd.vals.length s.pt.vc) ∧ W.cell? ⟨wr.heap.size, 7, none⟩ = some (.slice s.pt.i s.nd.kids.length s.pt.ic))) := fun W f => by
          exact (rec_cells (f.blk (heap_alloc_new wr (.cells #[.int .i64 s.page, .int .i64 s.nd.lev, .int .i64 s.nd.lsn, .int .i64 s.nd.rgt, .string s.nd.high, .slice s.pt.k s.nd.keys.length s.pt.kc, .slice s.pt.v s.nd.vals.length s.pt.vc, .slice s.pt.i s.nd.kids.length s.pt.ic] 55)) (fun f => f))).1
        clear hs hc HX
        by_cases p1 : s.page < 1
        · have d1 : decide (s.page < 1) = true := decide_eq_true p1
          have HR : Hid (ariB 0 (psOf ls) = false) := by show _ = _; rw [← HE.out, HNX.out, decide_eq_false (by omega)]; rfl
          have qq := HQ.out _ (Fr.refl _ _)
          clear p1 HNX HX2 HE
          go_wp2_with fail
          go_quiet (fail)
          go_wp2
          go_ret
          exact ⟨ret_bool HR.out.symm, FB.drewN _⟩
        · have d1 : decide (s.page < 1) = false := decide_eq_false p1
          by_cases p2 : 4096 < s.page
          · have d2 : decide (4096 < s.page) = true := decide_eq_true p2
            have HR : Hid (ariB 0 (psOf ls) = false) := by show _ = _; rw [← HE.out, HNX.out, decide_eq_false (show ¬ s.page ≤ 4096 by omega)]; simp
            have qq := HQ.out _ (Fr.refl _ _)
            clear p1 p2 HNX HX2 HE
            go_wp2_with fail
            go_quiet (fail)
            go_wp2
            go_ret
            exact ⟨ret_bool HR.out.symm, FB.drewN _⟩
          · have d2 : decide (4096 < s.page) = false := decide_eq_false p2
            have p4 : 1 ≤ s.page := by omega
            rw [decide_eq_true (show 0 < s.page by omega), decide_eq_true (show s.page ≤ 4096 by omega), Bool.true_and, Bool.true_and] at HNX
            have HRR2 := HRR
            cases hr : rightB s.nd
            · rw [hr] at HRR2
              have HR : Hid (ariB 0 (psOf ls) = false) := by show _ = _; rw [← HE.out, HNX.out, hr]; rfl
              clear hr p1 p2 p4 HNX HX2 HE HRR
              go_wp2_with fail
              refine wp_region_held_drew (S := fun W => (W.cell? ⟨wr.heap.size, 0, none⟩ = some (.int .i64 s.page) ∧ W.cell? ⟨wr.heap.size, 1, none⟩ = some (.int .i64 s.nd.lev) ∧ W.cell? ⟨wr.heap.size, 2, none⟩ = some (.int .i64 s.nd.lsn) ∧ W.cell? ⟨wr.heap.size, 3, none⟩ = some (.int .i64 s.nd.rgt) ∧ W.cell? ⟨wr.heap.size, 4, none⟩ = some (.string s.nd.high) ∧ W.cell? ⟨wr.heap.size, 5, none⟩ = some (.slice s.pt.k s.nd.keys.length s.pt.kc) ∧ W.cell? ⟨wr.heap.size, 6, none⟩ = some (.slice s.pt.v s.nd.vals.length s.pt.vc) ∧ W.cell? ⟨wr.heap.size, 7, none⟩ = some (.slice s.pt.i s.nd.kids.length s.pt.ic))) (by kernel_rfl) (HQ.out _ g0) (fun hHeld => ?_)
              refine wpAnyH_take (i := 0) (oi := { dst := some 12, op := _, type := _, pos := _, after := _, guard := _ }) (v := ?va0) rfl (by kernel_rfl) (by kernel_rfl) (by kernel_rfl) (fun _ _ _ h => h) (Or.inl ⟨by rfl, ?hya0⟩) (by assumption) ?_
              case hya0 => (intro w hSw; (try dsimp only at hSw); first | (go_simp; done) | (go_simp; with_reducible rfl))
              simp only [Act.put, List.setIfInBounds_toArray, List.set_cons_zero, List.set_cons_succ]
              refine wpAnyH_take (i := 1) (oi := { dst := some 13, op := _, type := _, pos := _, after := _, guard := _ }) (v := ?va1) rfl (by kernel_rfl) (by kernel_rfl) (by kernel_rfl) (fun _ _ _ h => h) (Or.inl ⟨by rfl, ?hya1⟩) (by assumption) ?_
              case hya1 => (intro w hSw; (try dsimp only at hSw); first | (go_simp; done) | (go_simp; with_reducible rfl))
              simp only [Act.put, List.setIfInBounds_toArray, List.set_cons_zero, List.set_cons_succ]
              refine wpAnyH_take (i := 2) (oi := { dst := some 14, op := _, type := _, pos := _, after := _, guard := _ }) (v := ?va2) rfl (by kernel_rfl) (by kernel_rfl) (by kernel_rfl) (fun _ _ _ h => h) (Or.inl ⟨by rfl, ?hya2⟩) (by assumption) ?_
              case hya2 => (intro w hSw; (try dsimp only at hSw); first | (go_simp; done) | (go_simp; with_reducible rfl))
              simp only [Act.put, List.setIfInBounds_toArray, List.set_cons_zero, List.set_cons_succ]
              refine wpAnyH_take (i := 3) (oi := { dst := some 15, op := _, type := _, pos := _, after := _, guard := _ }) (v := ?va3) rfl (by kernel_rfl) (by kernel_rfl) (by kernel_rfl) (fun _ _ _ h => h) (Or.inl ⟨by rfl, ?hya3⟩) (by assumption) ?_
              case hya3 => (intro w hSw; (try dsimp only at hSw); first | (go_simp; done) | (go_simp; with_reducible rfl))
              simp only [Act.put, List.setIfInBounds_toArray, List.set_cons_zero, List.set_cons_succ]
              refine wpAnyH_take (i := 4) (oi := { dst := some 16, op := _, type := _, pos := _, after := _, guard := _ }) (v := ?va4) rfl (by kernel_rfl) (by kernel_rfl) (by kernel_rfl) (fun _ _ _ h => h) (Or.inl ⟨by rfl, ?hya4⟩) (by assumption) ?_
              case hya4 => (intro w hSw; (try dsimp only at hSw); first | (go_simp; done) | (go_simp; with_reducible rfl))
              simp only [Act.put, List.setIfInBounds_toArray, List.set_cons_zero, List.set_cons_succ]
              refine wpAnyH_take (i := 5) (oi := { dst := some 17, op := _, type := _, pos := _, after := _, guard := _ }) (v := ?va5) rfl (by kernel_rfl) (by kernel_rfl) (by kernel_rfl) (fun _ _ _ h => h) (Or.inl ⟨by rfl, ?hya5⟩) (by assumption) ?_
              case hya5 => (intro w hSw; (try dsimp only at hSw); first | (go_simp; done) | (go_simp; with_reducible rfl))
              simp only [Act.put, List.setIfInBounds_toArray, List.set_cons_zero, List.set_cons_succ]
              refine wpAnyH_take (i := 6) (oi := { dst := some 18, op := _, type := _, pos := _, after := _, guard := _ }) (v := ?va6) rfl (by kernel_rfl) (by kernel_rfl) (by kernel_rfl) (fun _ _ _ h => h) (Or.inl ⟨by rfl, ?hya6⟩) (by assumption) ?_
              case hya6 => (intro w hSw; (try dsimp only at hSw); first | (go_simp; done) | (go_simp; with_reducible rfl))
              simp only [Act.put, List.setIfInBounds_toArray, List.set_cons_zero, List.set_cons_succ]
              refine wpAnyH_take (i := 7) (oi := { dst := some 19, op := _, type := _, pos := _, after := _, guard := _ }) (v := ?va7) rfl (by kernel_rfl) (by kernel_rfl) (by kernel_rfl) (fun _ _ _ h => h) (Or.inl ⟨by rfl, ?hya7⟩) (by assumption) ?_
              case hya7 => (intro w hSw; (try dsimp only at hSw); first | (go_simp; done) | (go_simp; with_reducible rfl))
              simp only [Act.put, List.setIfInBounds_toArray, List.set_cons_zero, List.set_cons_succ]
              refine wpAnyH_take (i := 8) (oi := { dst := some 20, op := _, type := _, pos := _, after := _, guard := _ }) (v := ?va8) rfl (by kernel_rfl) (by kernel_rfl) (by kernel_rfl) (fun _ _ _ h => h) (Or.inl ⟨by rfl, ?hya8⟩) (by assumption) ?_
              case hya8 => (intro w hSw; (try dsimp only at hSw); first | (go_simp; done) | (go_simp; with_reducible rfl))
              simp only [Act.put, List.setIfInBounds_toArray, List.set_cons_zero, List.set_cons_succ]
              refine wpAnyH_take (i := 9) (oi := { dst := some 21, op := _, type := _, pos := _, after := _, guard := _ }) (v := ?va9) rfl (by kernel_rfl) (by kernel_rfl) (by kernel_rfl) (fun _ _ _ h => h) (Or.inl ⟨by rfl, ?hya9⟩) (by assumption) ?_
              case hya9 => (intro w hSw; (try dsimp only at hSw); first | (go_simp; done) | (go_simp; with_reducible rfl))
              simp only [Act.put, List.setIfInBounds_toArray, List.set_cons_zero, List.set_cons_succ]
              refine wpAnyH_take (i := 10) (oi := { dst := some 22, op := _, type := _, pos := _, after := _, guard := _ }) (v := ?va10) rfl (by kernel_rfl) (by kernel_rfl) (by kernel_rfl) (fun _ _ _ h => h) (Or.inl ⟨by rfl, ?hya10⟩) (by assumption) ?_
              case hya10 => (intro w hSw; (try dsimp only at hSw); first | (go_simp; done) | (go_simp; with_reducible rfl))
              simp only [Act.put, List.setIfInBounds_toArray, List.set_cons_zero, List.set_cons_succ]
              refine wpAnyH_take (i := 11) (oi := { dst := some 23, op := _, type := _, pos := _, after := _, guard := _ }) (v := ?va11) rfl (by kernel_rfl) (by kernel_rfl) (by kernel_rfl) (fun _ _ _ h => h) (Or.inl ⟨by rfl, ?hya11⟩) (by assumption) ?_
              case hya11 => (intro w hSw; (try dsimp only at hSw); first | (go_simp; done) | (go_simp; with_reducible rfl))
              simp only [Act.put, List.setIfInBounds_toArray, List.set_cons_zero, List.set_cons_succ]
              refine wpAnyH_take (i := 12) (oi := { dst := some 24, op := _, type := _, pos := _, after := _, guard := _ }) (v := undef) rfl (by kernel_rfl) (by kernel_rfl) (by kernel_rfl) (fun _ _ _ h => h) (Or.inr ⟨by rfl, rfl⟩) (by assumption) ?_
              simp only [Act.put, List.setIfInBounds_toArray, List.set_cons_zero, List.set_cons_succ]
              refine wpAnyH_take (i := 13) (oi := { dst := some 25, op := _, type := _, pos := _, after := _, guard := _ }) (v := undef) rfl (by kernel_rfl) (by kernel_rfl) (by kernel_rfl) (fun _ _ _ h => h) (Or.inr ⟨by rfl, rfl⟩) (by assumption) ?_
              simp only [Act.put, List.setIfInBounds_toArray, List.set_cons_zero, List.set_cons_succ]
              refine wpAnyH_take (i := 14) (oi := { dst := some 26, op := _, type := _, pos := _, after := _, guard := _ }) (v := undef) rfl (by kernel_rfl) (by kernel_rfl) (by kernel_rfl) (fun _ _ _ h => h) (Or.inr ⟨by rfl, rfl⟩) (by assumption) ?_
              simp only [Act.put, List.setIfInBounds_toArray, List.set_cons_zero, List.set_cons_succ]
              refine wpAnyH_take (i := 15) (oi := { dst := some 27, op := _, type := _, pos := _, after := _, guard := _ }) (v := undef) rfl (by kernel_rfl) (by kernel_rfl) (by kernel_rfl) (fun _ _ _ h => h) (Or.inr ⟨by rfl, rfl⟩) (by assumption) ?_
              simp only [Act.put, List.setIfInBounds_toArray, List.set_cons_zero, List.set_cons_succ]
              refine wpAnyH_take (i := 16) (oi := { dst := some 28, op := _, type := _, pos := _, after := _, guard := _ }) (v := undef) rfl (by kernel_rfl) (by kernel_rfl) (by kernel_rfl) (fun _ _ _ h => h) (Or.inr ⟨by rfl, rfl⟩) (by assumption) ?_
              simp only [Act.put, List.setIfInBounds_toArray, List.set_cons_zero, List.set_cons_succ]
              refine wpAnyH_take (i := 17) (oi := { dst := some 29, op := _, type := _, pos := _, after := _, guard := _ }) (v := undef) rfl (by kernel_rfl) (by kernel_rfl) (by kernel_rfl) (fun _ _ _ h => h) (Or.inr ⟨by rfl, rfl⟩) (by assumption) ?_
              simp only [Act.put, List.setIfInBounds_toArray, List.set_cons_zero, List.set_cons_succ]
              refine wpAnyH_take (i := 18) (oi := { dst := some 30, op := _, type := _, pos := _, after := _, guard := _ }) (v := undef) rfl (by kernel_rfl) (by kernel_rfl) (by kernel_rfl) (fun _ _ _ h => h) (Or.inr ⟨by rfl, rfl⟩) (by assumption) ?_
              simp only [Act.put, List.setIfInBounds_toArray, List.set_cons_zero, List.set_cons_succ]
              refine wpAnyH_take (i := 19) (oi := { dst := some 31, op := _, type := _, pos := _, after := _, guard := _ }) (v := undef) rfl (by kernel_rfl) (by kernel_rfl) (by kernel_rfl) (fun _ _ _ h => h) (Or.inr ⟨by rfl, rfl⟩) (by assumption) ?_
              simp only [Act.put, List.setIfInBounds_toArray, List.set_cons_zero, List.set_cons_succ]
              refine wpAnyH_take (i := 20) (oi := { dst := some 32, op := _, type := _, pos := _, after := _, guard := _ }) (v := undef) rfl (by kernel_rfl) (by kernel_rfl) (by kernel_rfl) (fun _ _ _ h => h) (Or.inr ⟨by rfl, rfl⟩) (by assumption) ?_
              simp only [Act.put, List.setIfInBounds_toArray, List.set_cons_zero, List.set_cons_succ]
              refine wpAnyH_take (i := 21) (oi := { dst := some 33, op := _, type := _, pos := _, after := _, guard := _ }) (v := ?va21) rfl (by kernel_rfl) (by kernel_rfl) (by kernel_rfl) (fun _ _ _ h => h) (Or.inl ⟨by rfl, ?hya21⟩) (by assumption) ?_
              case hya21 => (intro w hSw; (try dsimp only at hSw); first | (go_simp; done) | (go_simp; with_reducible rfl))
              simp only [Act.put, List.setIfInBounds_toArray, List.set_cons_zero, List.set_cons_succ]
              refine wpAnyH_take (i := 22) (oi := { dst := some 34, op := _, type := _, pos := _, after := _, guard := _ }) (v := ?va22) rfl (by kernel_rfl) (by kernel_rfl) (by kernel_rfl) (fun _ _ _ h => h) (Or.inl ⟨by rfl, ?hya22⟩) (by assumption) ?_
              case hya22 => (intro w hSw; (try dsimp only at hSw); first | (go_simp; done) | (go_simp; with_reducible rfl))
              simp only [Act.put, List.setIfInBounds_toArray, List.set_cons_zero, List.set_cons_succ]
              refine wpAnyH_take (i := 23) (oi := { dst := some 35, op := _, type := _, pos := _, after := _, guard := _ }) (v := ?va23) rfl (by kernel_rfl) (by kernel_rfl) (by kernel_rfl) (fun _ _ _ h => h) (Or.inl ⟨by rfl, ?hya23⟩) (by assumption) ?_
              case hya23 => (intro w hSw; (try dsimp only at hSw); first | (go_simp; done) | (go_simp; with_reducible rfl))
              simp only [Act.put, List.setIfInBounds_toArray, List.set_cons_zero, List.set_cons_succ]
              refine wpAnyH_take (i := 24) (oi := { dst := some 36, op := _, type := _, pos := _, after := _, guard := _ }) (v := ?va24) rfl (by kernel_rfl) (by kernel_rfl) (by kernel_rfl) (fun _ _ _ h => h) (Or.inl ⟨by rfl, ?hya24⟩) (by assumption) ?_
              case hya24 => (intro w hSw; (try dsimp only at hSw); first | (go_simp; done) | (go_simp; with_reducible rfl))
              simp only [Act.put, List.setIfInBounds_toArray, List.set_cons_zero, List.set_cons_succ]
              refine wpAnyH_take (i := 25) (oi := { dst := some 37, op := _, type := _, pos := _, after := _, guard := _ }) (v := ?va25) rfl (by kernel_rfl) (by kernel_rfl) (by kernel_rfl) (fun _ _ _ h => h) (Or.inl ⟨by rfl, ?hya25⟩) (by assumption) ?_
              case hya25 => (intro w hSw; (try dsimp only at hSw); first | (go_simp; done) | (go_simp; with_reducible rfl))
              simp only [Act.put, List.setIfInBounds_toArray, List.set_cons_zero, List.set_cons_succ]
              refine wpAnyH_ready (rs := [26]) (by kernel_rfl) (by simp) ?_
              refine AllReadyH.cons (o := { dst := some 38, op := _, type := _, pos := _, after := _, guard := _ }) rfl (fun K hK => ?_) AllReadyH.nil
              go_simp
              go_at_call 31
              refine (HRR2.out _ g0).mono ?_
              rintro e w1 ⟨rfl, m1⟩
              have g1 := g0.seq' m1
              go_wp2_with fail
              refine hK.out _ _ (HQ.out _ g1) (fun hHeld2 => ?_)
              clear hK K hHeld
              refine wpAnyH_take (i := 27) (oi := { dst := some 39, op := _, type := _, pos := _, after := _, guard := _ }) (v := ?va27) rfl (by kernel_rfl) (by kernel_rfl) (by kernel_rfl) (fun _ _ _ h => h) (Or.inl ⟨by rfl, ?hya27⟩) (by assumption) ?_
              case hya27 => (intro w hSw; (try dsimp only at hSw); first | (go_simp; done) | (go_simp; with_reducible rfl))
              simp only [Act.put, List.setIfInBounds_toArray, List.set_cons_zero, List.set_cons_succ]
              refine wpAnyH_take (i := 28) (oi := { dst := some 40, op := _, type := _, pos := _, after := _, guard := _ }) (v := ?va28) rfl (by kernel_rfl) (by kernel_rfl) (by kernel_rfl) (fun _ _ _ h => h) (Or.inl ⟨by rfl, ?hya28⟩) (by assumption) ?_
              case hya28 => (intro w hSw; (try dsimp only at hSw); first | (go_simp; done) | (go_simp; with_reducible rfl))
              simp only [Act.put, List.setIfInBounds_toArray, List.set_cons_zero, List.set_cons_succ]
              refine wpAnyH_done (by kernel_rfl) ?_ _
              go_wp2
              go_ret
              exact ⟨ret_bool HR.out.symm, FB.seq' g1⟩
            · rw [hr] at HRR2
              have HR : Hid (ariB s.page (psOf (ls.drop (0 + 1))) = ariB 0 (psOf ls)) := by show _ = _; rw [← HE.out, HNX.out, hr]; rfl
              have HX3 : Hid ((0 + 1 = 0 ∧ s.page = 0) ∨ (1 ≤ s.page ∧ ∃ j9 t9, 0 + 1 = j9 + 1 ∧ ls[j9]? = some t9 ∧ t9.page = s.page)) := HX2.out hr HR.out p4
              clear hr p1 p2 p4 HNX HX2 HE HRR
              go_wp2_with fail
              refine wp_region_held_drew (S := fun W => (W.cell? ⟨wr.heap.size, 0, none⟩ = some (.int .i64 s.page) ∧ W.cell? ⟨wr.heap.size, 1, none⟩ = some (.int .i64 s.nd.lev) ∧ W.cell? ⟨wr.heap.size, 2, none⟩ = some (.int .i64 s.nd.lsn) ∧ W.cell? ⟨wr.heap.size, 3, none⟩ = some (.int .i64 s.nd.rgt) ∧ W.cell? ⟨wr.heap.size, 4, none⟩ = some (.string s.nd.high) ∧ W.cell? ⟨wr.heap.size, 5, none⟩ = some (.slice s.pt.k s.nd.keys.length s.pt.kc) ∧ W.cell? ⟨wr.heap.size, 6, none⟩ = some (.slice s.pt.v s.nd.vals.length s.pt.vc) ∧ W.cell? ⟨wr.heap.size, 7, none⟩ = some (.slice s.pt.i s.nd.kids.length s.pt.ic))) (by kernel_rfl) (HQ.out _ g0) (fun hHeld => ?_)
              refine wpAnyH_take (i := 0) (oi := { dst := some 12, op := _, type := _, pos := _, after := _, guard := _ }) (v := ?vb0) rfl (by kernel_rfl) (by kernel_rfl) (by kernel_rfl) (fun _ _ _ h => h) (Or.inl ⟨by rfl, ?hyb0⟩) (by assumption) ?_
              case hyb0 => (intro w hSw; (try dsimp only at hSw); first | (go_simp; done) | (go_simp; with_reducible rfl))
              simp only [Act.put, List.setIfInBounds_toArray, List.set_cons_zero, List.set_cons_succ]
              refine wpAnyH_take (i := 1) (oi := { dst := some 13, op := _, type := _, pos := _, after := _, guard := _ }) (v := ?vb1) rfl (by kernel_rfl) (by kernel_rfl) (by kernel_rfl) (fun _ _ _ h => h) (Or.inl ⟨by rfl, ?hyb1⟩) (by assumption) ?_
              case hyb1 => (intro w hSw; (try dsimp only at hSw); first | (go_simp; done) | (go_simp; with_reducible rfl))
              simp only [Act.put, List.setIfInBounds_toArray, List.set_cons_zero, List.set_cons_succ]
              refine wpAnyH_take (i := 2) (oi := { dst := some 14, op := _, type := _, pos := _, after := _, guard := _ }) (v := ?vb2) rfl (by kernel_rfl) (by kernel_rfl) (by kernel_rfl) (fun _ _ _ h => h) (Or.inl ⟨by rfl, ?hyb2⟩) (by assumption) ?_
              case hyb2 => (intro w hSw; (try dsimp only at hSw); first | (go_simp; done) | (go_simp; with_reducible rfl))
              simp only [Act.put, List.setIfInBounds_toArray, List.set_cons_zero, List.set_cons_succ]
              refine wpAnyH_take (i := 3) (oi := { dst := some 15, op := _, type := _, pos := _, after := _, guard := _ }) (v := ?vb3) rfl (by kernel_rfl) (by kernel_rfl) (by kernel_rfl) (fun _ _ _ h => h) (Or.inl ⟨by rfl, ?hyb3⟩) (by assumption) ?_
              case hyb3 => (intro w hSw; (try dsimp only at hSw); first | (go_simp; done) | (go_simp; with_reducible rfl))
              simp only [Act.put, List.setIfInBounds_toArray, List.set_cons_zero, List.set_cons_succ]
              refine wpAnyH_take (i := 4) (oi := { dst := some 16, op := _, type := _, pos := _, after := _, guard := _ }) (v := ?vb4) rfl (by kernel_rfl) (by kernel_rfl) (by kernel_rfl) (fun _ _ _ h => h) (Or.inl ⟨by rfl, ?hyb4⟩) (by assumption) ?_
              case hyb4 => (intro w hSw; (try dsimp only at hSw); first | (go_simp; done) | (go_simp; with_reducible rfl))
              simp only [Act.put, List.setIfInBounds_toArray, List.set_cons_zero, List.set_cons_succ]
              refine wpAnyH_take (i := 5) (oi := { dst := some 17, op := _, type := _, pos := _, after := _, guard := _ }) (v := ?vb5) rfl (by kernel_rfl) (by kernel_rfl) (by kernel_rfl) (fun _ _ _ h => h) (Or.inl ⟨by rfl, ?hyb5⟩) (by assumption) ?_
              case hyb5 => (intro w hSw; (try dsimp only at hSw); first | (go_simp; done) | (go_simp; with_reducible rfl))
              simp only [Act.put, List.setIfInBounds_toArray, List.set_cons_zero, List.set_cons_succ]
              refine wpAnyH_take (i := 6) (oi := { dst := some 18, op := _, type := _, pos := _, after := _, guard := _ }) (v := ?vb6) rfl (by kernel_rfl) (by kernel_rfl) (by kernel_rfl) (fun _ _ _ h => h) (Or.inl ⟨by rfl, ?hyb6⟩) (by assumption) ?_
              case hyb6 => (intro w hSw; (try dsimp only at hSw); first | (go_simp; done) | (go_simp; with_reducible rfl))
              simp only [Act.put, List.setIfInBounds_toArray, List.set_cons_zero, List.set_cons_succ]
              refine wpAnyH_take (i := 7) (oi := { dst := some 19, op := _, type := _, pos := _, after := _, guard := _ }) (v := ?vb7) rfl (by kernel_rfl) (by kernel_rfl) (by kernel_rfl) (fun _ _ _ h => h) (Or.inl ⟨by rfl, ?hyb7⟩) (by assumption) ?_
              case hyb7 => (intro w hSw; (try dsimp only at hSw); first | (go_simp; done) | (go_simp; with_reducible rfl))
              simp only [Act.put, List.setIfInBounds_toArray, List.set_cons_zero, List.set_cons_succ]
              refine wpAnyH_take (i := 8) (oi := { dst := some 20, op := _, type := _, pos := _, after := _, guard := _ }) (v := ?vb8) rfl (by kernel_rfl) (by kernel_rfl) (by kernel_rfl) (fun _ _ _ h => h) (Or.inl ⟨by rfl, ?hyb8⟩) (by assumption) ?_
              case hyb8 => (intro w hSw; (try dsimp only at hSw); first | (go_simp; done) | (go_simp; with_reducible rfl))
              simp only [Act.put, List.setIfInBounds_toArray, List.set_cons_zero, List.set_cons_succ]
              refine wpAnyH_take (i := 9) (oi := { dst := some 21, op := _, type := _, pos := _, after := _, guard := _ }) (v := ?vb9) rfl (by kernel_rfl) (by kernel_rfl) (by kernel_rfl) (fun _ _ _ h => h) (Or.inl ⟨by rfl, ?hyb9⟩) (by assumption) ?_
              case hyb9 => (intro w hSw; (try dsimp only at hSw); first | (go_simp; done) | (go_simp; with_reducible rfl))
              simp only [Act.put, List.setIfInBounds_toArray, List.set_cons_zero, List.set_cons_succ]
              refine wpAnyH_take (i := 10) (oi := { dst := some 22, op := _, type := _, pos := _, after := _, guard := _ }) (v := ?vb10) rfl (by kernel_rfl) (by kernel_rfl) (by kernel_rfl) (fun _ _ _ h => h) (Or.inl ⟨by rfl, ?hyb10⟩) (by assumption) ?_
              case hyb10 => (intro w hSw; (try dsimp only at hSw); first | (go_simp; done) | (go_simp; with_reducible rfl))
              simp only [Act.put, List.setIfInBounds_toArray, List.set_cons_zero, List.set_cons_succ]
              refine wpAnyH_take (i := 11) (oi := { dst := some 23, op := _, type := _, pos := _, after := _, guard := _ }) (v := ?vb11) rfl (by kernel_rfl) (by kernel_rfl) (by kernel_rfl) (fun _ _ _ h => h) (Or.inl ⟨by rfl, ?hyb11⟩) (by assumption) ?_
              case hyb11 => (intro w hSw; (try dsimp only at hSw); first | (go_simp; done) | (go_simp; with_reducible rfl))
              simp only [Act.put, List.setIfInBounds_toArray, List.set_cons_zero, List.set_cons_succ]
              refine wpAnyH_take (i := 12) (oi := { dst := some 24, op := _, type := _, pos := _, after := _, guard := _ }) (v := undef) rfl (by kernel_rfl) (by kernel_rfl) (by kernel_rfl) (fun _ _ _ h => h) (Or.inr ⟨by rfl, rfl⟩) (by assumption) ?_
              simp only [Act.put, List.setIfInBounds_toArray, List.set_cons_zero, List.set_cons_succ]
              refine wpAnyH_take (i := 13) (oi := { dst := some 25, op := _, type := _, pos := _, after := _, guard := _ }) (v := undef) rfl (by kernel_rfl) (by kernel_rfl) (by kernel_rfl) (fun _ _ _ h => h) (Or.inr ⟨by rfl, rfl⟩) (by assumption) ?_
              simp only [Act.put, List.setIfInBounds_toArray, List.set_cons_zero, List.set_cons_succ]
              refine wpAnyH_take (i := 14) (oi := { dst := some 26, op := _, type := _, pos := _, after := _, guard := _ }) (v := undef) rfl (by kernel_rfl) (by kernel_rfl) (by kernel_rfl) (fun _ _ _ h => h) (Or.inr ⟨by rfl, rfl⟩) (by assumption) ?_
              simp only [Act.put, List.setIfInBounds_toArray, List.set_cons_zero, List.set_cons_succ]
              refine wpAnyH_take (i := 15) (oi := { dst := some 27, op := _, type := _, pos := _, after := _, guard := _ }) (v := undef) rfl (by kernel_rfl) (by kernel_rfl) (by kernel_rfl) (fun _ _ _ h => h) (Or.inr ⟨by rfl, rfl⟩) (by assumption) ?_
              simp only [Act.put, List.setIfInBounds_toArray, List.set_cons_zero, List.set_cons_succ]
              refine wpAnyH_take (i := 16) (oi := { dst := some 28, op := _, type := _, pos := _, after := _, guard := _ }) (v := undef) rfl (by kernel_rfl) (by kernel_rfl) (by kernel_rfl) (fun _ _ _ h => h) (Or.inr ⟨by rfl, rfl⟩) (by assumption) ?_
              simp only [Act.put, List.setIfInBounds_toArray, List.set_cons_zero, List.set_cons_succ]
              refine wpAnyH_take (i := 17) (oi := { dst := some 29, op := _, type := _, pos := _, after := _, guard := _ }) (v := undef) rfl (by kernel_rfl) (by kernel_rfl) (by kernel_rfl) (fun _ _ _ h => h) (Or.inr ⟨by rfl, rfl⟩) (by assumption) ?_
              simp only [Act.put, List.setIfInBounds_toArray, List.set_cons_zero, List.set_cons_succ]
              refine wpAnyH_take (i := 18) (oi := { dst := some 30, op := _, type := _, pos := _, after := _, guard := _ }) (v := undef) rfl (by kernel_rfl) (by kernel_rfl) (by kernel_rfl) (fun _ _ _ h => h) (Or.inr ⟨by rfl, rfl⟩) (by assumption) ?_
              simp only [Act.put, List.setIfInBounds_toArray, List.set_cons_zero, List.set_cons_succ]
              refine wpAnyH_take (i := 19) (oi := { dst := some 31, op := _, type := _, pos := _, after := _, guard := _ }) (v := undef) rfl (by kernel_rfl) (by kernel_rfl) (by kernel_rfl) (fun _ _ _ h => h) (Or.inr ⟨by rfl, rfl⟩) (by assumption) ?_
              simp only [Act.put, List.setIfInBounds_toArray, List.set_cons_zero, List.set_cons_succ]
              refine wpAnyH_take (i := 20) (oi := { dst := some 32, op := _, type := _, pos := _, after := _, guard := _ }) (v := undef) rfl (by kernel_rfl) (by kernel_rfl) (by kernel_rfl) (fun _ _ _ h => h) (Or.inr ⟨by rfl, rfl⟩) (by assumption) ?_
              simp only [Act.put, List.setIfInBounds_toArray, List.set_cons_zero, List.set_cons_succ]
              refine wpAnyH_take (i := 21) (oi := { dst := some 33, op := _, type := _, pos := _, after := _, guard := _ }) (v := ?vb21) rfl (by kernel_rfl) (by kernel_rfl) (by kernel_rfl) (fun _ _ _ h => h) (Or.inl ⟨by rfl, ?hyb21⟩) (by assumption) ?_
              case hyb21 => (intro w hSw; (try dsimp only at hSw); first | (go_simp; done) | (go_simp; with_reducible rfl))
              simp only [Act.put, List.setIfInBounds_toArray, List.set_cons_zero, List.set_cons_succ]
              refine wpAnyH_take (i := 22) (oi := { dst := some 34, op := _, type := _, pos := _, after := _, guard := _ }) (v := ?vb22) rfl (by kernel_rfl) (by kernel_rfl) (by kernel_rfl) (fun _ _ _ h => h) (Or.inl ⟨by rfl, ?hyb22⟩) (by assumption) ?_
              case hyb22 => (intro w hSw; (try dsimp only at hSw); first | (go_simp; done) | (go_simp; with_reducible rfl))
              simp only [Act.put, List.setIfInBounds_toArray, List.set_cons_zero, List.set_cons_succ]
              refine wpAnyH_take (i := 23) (oi := { dst := some 35, op := _, type := _, pos := _, after := _, guard := _ }) (v := ?vb23) rfl (by kernel_rfl) (by kernel_rfl) (by kernel_rfl) (fun _ _ _ h => h) (Or.inl ⟨by rfl, ?hyb23⟩) (by assumption) ?_
              case hyb23 => (intro w hSw; (try dsimp only at hSw); first | (go_simp; done) | (go_simp; with_reducible rfl))
              simp only [Act.put, List.setIfInBounds_toArray, List.set_cons_zero, List.set_cons_succ]
              refine wpAnyH_take (i := 24) (oi := { dst := some 36, op := _, type := _, pos := _, after := _, guard := _ }) (v := ?vb24) rfl (by kernel_rfl) (by kernel_rfl) (by kernel_rfl) (fun _ _ _ h => h) (Or.inl ⟨by rfl, ?hyb24⟩) (by assumption) ?_
              case hyb24 => (intro w hSw; (try dsimp only at hSw); first | (go_simp; done) | (go_simp; with_reducible rfl))
              simp only [Act.put, List.setIfInBounds_toArray, List.set_cons_zero, List.set_cons_succ]
              refine wpAnyH_take (i := 25) (oi := { dst := some 37, op := _, type := _, pos := _, after := _, guard := _ }) (v := ?vb25) rfl (by kernel_rfl) (by kernel_rfl) (by kernel_rfl) (fun _ _ _ h => h) (Or.inl ⟨by rfl, ?hyb25⟩) (by assumption) ?_
              case hyb25 => (intro w hSw; (try dsimp only at hSw); first | (go_simp; done) | (go_simp; with_reducible rfl))
              simp only [Act.put, List.setIfInBounds_toArray, List.set_cons_zero, List.set_cons_succ]
              refine wpAnyH_ready (rs := [26]) (by kernel_rfl) (by simp) ?_
              refine AllReadyH.cons (o := { dst := some 38, op := _, type := _, pos := _, after := _, guard := _ }) rfl (fun K hK => ?_) AllReadyH.nil
              go_simp
              go_at_call 31
              refine (HRR2.out _ g0).mono ?_
              rintro e w1 ⟨rfl, m1⟩
              have g1 := g0.seq' m1
              go_wp2_with fail
              refine hK.out _ _ (HQ.out _ g1) (fun hHeld2 => ?_)
              clear hK K hHeld
              refine wpAnyH_take (i := 27) (oi := { dst := some 39, op := _, type := _, pos := _, after := _, guard := _ }) (v := ?vb27) rfl (by kernel_rfl) (by kernel_rfl) (by kernel_rfl) (fun _ _ _ h => h) (Or.inl ⟨by rfl, ?hyb27⟩) (by assumption) ?_
              case hyb27 => (intro w hSw; (try dsimp only at hSw); first | (go_simp; done) | (go_simp; with_reducible rfl))
              simp only [Act.put, List.setIfInBounds_toArray, List.set_cons_zero, List.set_cons_succ]
              refine wpAnyH_take (i := 28) (oi := { dst := some 40, op := _, type := _, pos := _, after := _, guard := _ }) (v := ?vb28) rfl (by kernel_rfl) (by kernel_rfl) (by kernel_rfl) (fun _ _ _ h => h) (Or.inl ⟨by rfl, ?hyb28⟩) (by assumption) ?_
              case hyb28 => (intro w hSw; (try dsimp only at hSw); first | (go_simp; done) | (go_simp; with_reducible rfl))
              simp only [Act.put, List.setIfInBounds_toArray, List.set_cons_zero, List.set_cons_succ]
              refine wpAnyH_done (by kernel_rfl) ?_ _
              go_wp2
              go_roundw
              case rel => exact ⟨0 + 1, s.page, by omega, by go_num, HR, HX3, FB.seq' g1⟩
              case measure => simp [intOf]; omega
      · have hqw : IntKind.i64.wrap ((j : Int) + 1 - 1) = (j : Int) := by rw [IntKind.wrap_i64]; omega
        have hqw2 : IntKind.i64.wrap (j : Int) = (j : Int) := by rw [IntKind.wrap_i64]; omega
        have hqs : (j : Int) + 1 - 1 = (j : Int) := by omega
        have hj0 : (0 : Int) < (j : Int) + 1 := by omega
        have hj1 : (j : Int) < (n : Int) := by omega
        have hj2 : (0 : Int) ≤ (j : Int) := by omega
        have HQ : Hid (∀ W, Fr (fun _ => False) (wr.alloc (.cells #[.int .i64 s.page, .int .i64 s.nd.lev, .int .i64 s.nd.lsn, .int .i64 s.nd.rgt, .string s.nd.high, .slice s.pt.k s.nd.keys.length s.pt.kc, .slice s.pt.v s.nd.vals.length s.pt.vc, .slice s.pt.i s.nd.kids.length s.pt.ic] 55)) W → (W.cell? ⟨wr.heap.size, 0, none⟩ = some (.int .i64 s.page) ∧ W.cell? ⟨wr.heap.size, 1, none⟩ = some (.int .i64 s.nd.lev) ∧ W.cell? ⟨wr.heap.size, 2, none⟩ = some (.int .i64 s.nd.lsn) ∧ W.cell? ⟨wr.heap.size, 3, none⟩ = some (.int .i64 s.nd.rgt) ∧ W.cell? ⟨wr.heap.size, 4, none⟩ = some (.string s.nd.high) ∧ W.cell? ⟨wr.heap.size, 5, none⟩ = some (.slice s.pt.k s.nd.keys.length s.pt.kc) ∧ W.cell? ⟨wr.heap.size, 6, none⟩ = some (.slice s.pt.v s.nd.vals.length s.pt.vc) ∧ W.cell? ⟨wr.heap.size, 7, none⟩ = some (.slice s.pt.i s.nd.kids.length s.pt.ic)) ∧ W.cell? ⟨b, off + j * 8, none⟩ = some (.int .i64 x)) := fun W f => by
          refine ⟨(rec_cells (f.blk (heap_alloc_new wr (.cells #[.int .i64 s.page, .int .i64 s.nd.lev, .int .i64 s.nd.lsn, .int .i64 s.nd.rgt, .string s.nd.high, .slice s.pt.k s.nd.keys.length s.pt.kc, .slice s.pt.v s.nd.vals.length s.pt.vc, .slice s.pt.i s.nd.kids.length s.pt.ic] 55)) (fun f => f))).1, ?_⟩
          have := range_fr (hc j t ht) ((Fr.box wr (.cells #[.int .i64 s.page, .int .i64 s.nd.lev, .int .i64 s.nd.lsn, .int .i64 s.nd.rgt, .string s.nd.high, .slice s.pt.k s.nd.keys.length s.pt.kc, .slice s.pt.v s.nd.vals.length s.pt.vc, .slice s.pt.i s.nd.kids.length s.pt.ic] 55)).seq' f) (fun f => f) 0 _ rfl
          rw [htx] at this
          exact this
        clear hs hc ht htx HX
        by_cases p1 : s.page < 1
        · have d1 : decide (s.page < 1) = true := decide_eq_true p1
          have HR : Hid (ariB 0 (psOf ls) = false) := by show _ = _; rw [← HE.out, HNX.out, decide_eq_false (by omega)]; rfl
          have qq := HQ.out _ (Fr.refl _ _)
          clear p1 HNX HX2 HE
          go_wp2_with fail
          go_quiet (fail)
          go_wp2
          go_ret
          exact ⟨ret_bool HR.out.symm, FB.drewN _⟩
        · have d1 : decide (s.page < 1) = false := decide_eq_false p1
          by_cases p2 : 4096 < s.page
          · have d2 : decide (4096 < s.page) = true := decide_eq_true p2
            have HR : Hid (ariB 0 (psOf ls) = false) := by show _ = _; rw [← HE.out, HNX.out, decide_eq_false (show ¬ s.page ≤ 4096 by omega)]; simp
            have qq := HQ.out _ (Fr.refl _ _)
            clear p1 p2 HNX HX2 HE
            go_wp2_with fail
            go_quiet (fail)
            go_wp2
            go_ret
            exact ⟨ret_bool HR.out.symm, FB.drewN _⟩
          · have d2 : decide (4096 < s.page) = false := decide_eq_false p2
            by_cases p3 : s.page ≤ x
            · have d3 : decide (s.page ≤ x) = true := decide_eq_true p3
              have HR : Hid (ariB 0 (psOf ls) = false) := by show _ = _; rw [← HE.out, HNX.out, decide_eq_false (by omega)]; rfl
              have qq := HQ.out _ (Fr.refl _ _)
              clear p1 p2 p3 HNX HX2 HE
              go_wp2_with fail
              go_quiet (fail)
              go_wp2
              go_ret
              exact ⟨ret_bool HR.out.symm, FB.drewN _⟩
            · have d3 : decide (s.page ≤ x) = false := decide_eq_false p3
              have p4 : 1 ≤ s.page := by omega
              rw [decide_eq_true (show x < s.page by omega), decide_eq_true (show s.page ≤ 4096 by omega), Bool.true_and, Bool.true_and] at HNX
              have HRR2 := HRR
              cases hr : rightB s.nd
              · rw [hr] at HRR2
                have HR : Hid (ariB 0 (psOf ls) = false) := by show _ = _; rw [← HE.out, HNX.out, hr]; rfl
                clear hr p1 p2 p4 HNX HX2 HE HRR p3
                go_wp2_with fail
                go_region_held3 (fun W => (W.cell? ⟨wr.heap.size, 0, none⟩ = some (.int .i64 s.page) ∧ W.cell? ⟨wr.heap.size, 1, none⟩ = some (.int .i64 s.nd.lev) ∧ W.cell? ⟨wr.heap.size, 2, none⟩ = some (.int .i64 s.nd.lsn) ∧ W.cell? ⟨wr.heap.size, 3, none⟩ = some (.int .i64 s.nd.rgt) ∧ W.cell? ⟨wr.heap.size, 4, none⟩ = some (.string s.nd.high) ∧ W.cell? ⟨wr.heap.size, 5, none⟩ = some (.slice s.pt.k s.nd.keys.length s.pt.kc) ∧ W.cell? ⟨wr.heap.size, 6, none⟩ = some (.slice s.pt.v s.nd.vals.length s.pt.vc) ∧ W.cell? ⟨wr.heap.size, 7, none⟩ = some (.slice s.pt.i s.nd.kids.length s.pt.ic)) ∧ W.cell? ⟨b, off + j * 8, none⟩ = some (.int .i64 x))
                  (first | with_reducible exact HQ.out _ g0 | with_reducible exact HQ.out _ g1)
                  (first | (go_at_call 31; refine (HRR2.out _ g0).mono ?_; rintro e w1 ⟨rfl, m1⟩; have g1 := g0.seq' m1))
                go_wp2
                go_ret
                exact ⟨ret_bool HR.out.symm, FB.seq' g1⟩
              · rw [hr] at HRR2
                have HR : Hid (ariB s.page (psOf (ls.drop ((j + 1) + 1))) = ariB 0 (psOf ls)) := by show _ = _; rw [← HE.out, HNX.out, hr]; rfl
                have HX3 : Hid (((j + 1) + 1 = 0 ∧ s.page = 0) ∨ (1 ≤ s.page ∧ ∃ j9 t9, (j + 1) + 1 = j9 + 1 ∧ ls[j9]? = some t9 ∧ t9.page = s.page)) := HX2.out hr HR.out p4
                clear hr p1 p2 p4 HNX HX2 HE HRR p3
                go_wp2_with fail
                go_region_held3 (fun W => (W.cell? ⟨wr.heap.size, 0, none⟩ = some (.int .i64 s.page) ∧ W.cell? ⟨wr.heap.size, 1, none⟩ = some (.int .i64 s.nd.lev) ∧ W.cell? ⟨wr.heap.size, 2, none⟩ = some (.int .i64 s.nd.lsn) ∧ W.cell? ⟨wr.heap.size, 3, none⟩ = some (.int .i64 s.nd.rgt) ∧ W.cell? ⟨wr.heap.size, 4, none⟩ = some (.string s.nd.high) ∧ W.cell? ⟨wr.heap.size, 5, none⟩ = some (.slice s.pt.k s.nd.keys.length s.pt.kc) ∧ W.cell? ⟨wr.heap.size, 6, none⟩ = some (.slice s.pt.v s.nd.vals.length s.pt.vc) ∧ W.cell? ⟨wr.heap.size, 7, none⟩ = some (.slice s.pt.i s.nd.kids.length s.pt.ic)) ∧ W.cell? ⟨b, off + j * 8, none⟩ = some (.int .i64 x))
                  (first | with_reducible exact HQ.out _ g0 | with_reducible exact HQ.out _ g1)
                  (first | (go_at_call 31; refine (HRR2.out _ g0).mono ?_; rintro e w1 ⟨rfl, m1⟩; have g1 := g0.seq' m1))
                go_wp2
                go_roundw
                case rel => exact ⟨(j + 1) + 1, s.page, by omega, by go_num, HR, HX3, FB.seq' g1⟩
                case measure => simp [intOf]; omega
    · have HR : Hid (ariB 0 (psOf ls) = true) := by
        show _ = _
        rw [← HE.out, List.drop_of_length_le (by have := HN.out; omega)]; rfl
      go_wp2
      go_ret
      exact ⟨ret_bool HR.out.symm, F⟩
end Go.Proofs.YtlgceleelhppdaaGreat
