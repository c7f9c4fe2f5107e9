/- The document's net: Copy; and whether both nets have the same in flight. -/
import Derived.Test.YtplkdjmajagpcaaRefNet2
import Derived.BigRegion
namespace Go.Proofs.Ytplkdjmajagpcaa
open Go.RowKit

section
variable (rb : Nat) (nodes : Int) (rv : Value) (R : List Say) (w : World)
theorem rcopy_no (h : RN w rb nodes rv R) (i : Int) (hi : i < 0 ∨ (R.length : Int) ≤ i) : Calls Try.prog 28 #[.pointer (some ⟨rb, 0, none⟩), .int .i64 i] w fun e w' => e = .returned (.int .i64 6) ∧ w' = w := by
  have hc1 := h.cell1
  obtain ⟨ar, cr, rfl, _⟩ := h.row.slice
  by_cases h1 : i < 0
  · clear hi
    go_enter Try.func28, Try.ntmps28
    go_wp2
    go_ret
    exact ⟨rfl, rfl⟩
  · have h2 : 0 ≤ i := by omega
    have h3 : (R.length : Int) ≤ i := by omega
    clear hi h1
    go_enter Try.func28, Try.ntmps28
    go_wp2
    go_ret
    exact ⟨rfl, rfl⟩
set_option maxRecDepth 100000 in
theorem rcopy_full (h : RN w rb nodes rv R) (i : Nat) (hi : i < R.length) (hlen : R.length = 1024) : Calls Try.prog 28 #[.pointer (some ⟨rb, 0, none⟩), .int .i64 i] w fun e w' => e = .returned (.int .i64 5) ∧ w' = w := by
  have hc1 := h.cell1
  obtain ⟨ar, cr, rfl, _⟩ := h.row.slice
  rw [hlen] at hc1 hi
  have hd : decide ((1024 : Int) ≤ (i : Int)) = false := by simp; omega
  have hdn : decide (1024 ≤ i) = false := by simp; omega
  have hii : (i : Int) < 1024 := by omega
  clear hlen
  go_enter Try.func28, Try.ntmps28
  go_wp2
  go_ret
  exact ⟨rfl, rfl⟩
set_option maxRecDepth 100000 in
set_option maxHeartbeats 1000000 in
theorem rcopy_ok (h : RN w rb nodes rv R) (i : Nat) (x : Say) (hx : R[i]? = some x) (hlen : R.length < 1024) : Calls Try.prog 28 #[.pointer (some ⟨rb, 0, none⟩), .int .i64 i] w fun e w' => e = .returned (.int .i64 0) ∧
    ∃ rv', RN w' rb nodes rv' (R ++ [x]) ∧ Fr (rnS rb rv) w w' ∧ (∀ k, rnS rb rv' k → rnS rb rv k ∨ w.heap.size ≤ k) := by
  obtain ⟨iM, hiM, hzM, hsM, hbM⟩ := info_parts infoM
  have M1 : Hid (Try.prog.info? 65 = some iM) := hiM
  have M2 : Hid (iM.zero = some (.agg #[.int .i64 0, .int .i64 0, .string ⟨#[]⟩])) := hzM
  have M3 : Hid (iM.size = 3) := hsM
  have M4 : Hid (iM.bytes = 32) := hbM
  clear hiM hzM hsM hbM
  obtain ⟨g, cap, rfl, hi, c0, c1, c2⟩ := h.elem hx
  obtain ⟨xf, xt, xl⟩ := x
  simp only at c0 c1 c2
  have hc1 := h.cell1
  have f1 : Fr (fun _ => False) w (w.alloc (.cells #[.int .i64 xf, .int .i64 xt, .string (strOf xl)] 65)) := (Fr.refl _ w).alloc _
  have F : Fr (fun _ => False) w (((w.alloc (.cells #[.int .i64 xf, .int .i64 xt, .string (strOf xl)] 65)).alloc (.cells #[.int .i64 xf, .int .i64 xt, .string (strOf xl)] 65)).drew) := (f1.alloc _).drew
  have hc2 := (h.same f1).cell1
  have hc3 := (h.same (f1.alloc (.cells #[.int .i64 xf, .int .i64 xt, .string (strOf xl)] 65))).cell1
  have hrow := (h.same F).row
  have hbx := (h.same F).box
  have hne := h.ne
  obtain ⟨n, hn⟩ : ∃ n, n = R.length := ⟨_, rfl⟩
  have HN : Hid (n = R.length) := hn
  rw [← hn] at hc1 hc2 hc3 hrow hbx hlen hi hne
  have hnl : (n : Int) < 1024 := by omega
  have hii : (i : Int) < (n : Int) := by omega
  have hdi : decide ((n : Int) ≤ (i : Int)) = false := by simp; omega
  have HL : Hid (n < 1024) := hlen
  have hnews : From (((w.alloc (.cells #[.int .i64 xf, .int .i64 xt, .string (strOf xl)] 65)).alloc (.cells #[.int .i64 xf, .int .i64 xt, .string (strOf xl)] 65)).drew) (some ⟨w.heap.size + 1, 0, none⟩) (rc (xf, xt, xl)) :=
    .inr ⟨_, _, rfl, range_block (w := ((w.alloc _).alloc _).drew) (two_second w _ _) (fun j u hu => by rw [Nat.zero_add]; simpa [rc] using hu)⟩
  clear hn hlen
  go_enter Try.func28, Try.ntmps28
  go_wp2
  go_region_law
    ((refine step_append_has _ (by rfl) _ _ 95 95 65 65 (by rfl) iM _ 3 32 Try.underlying95 Try.underlying95 M1.out M2.out M3.out M4.out rfl (by omega) (.slice (some ⟨g, 0, none⟩) n cap) n (R.flatMap rc) (by rfl) hrow
        (some ⟨w.heap.size + 1, 0, none⟩) 1 1 (rc (xf, xt, xl)) (by rfl) (by rfl) hnews (rc_one _) (by have := HL.out; unfold maxLen; omega) (by have := HL.out; omega) ?_; intro a' c' w1 hown hfr hat; have hb3 := hfr.block_eq hbx (fun e => hne e.1); have q3 := cell_at hb3 1; have z3 := free_at hb3 1; simp only [List.getElem?_toArray, List.getElem?_cons_zero, List.getElem?_cons_succ] at q3))
  all_goals
    go_wp2
    go_ret
    obtain rfl := HN.out
    refine ⟨rfl, _, h.grow F hfr (R2 := R ++ [(xf, xt, xl)]) (by simpa using hown) ?_ (by have := HL.out; simp; omega)⟩
    rcases hat with e | e
    · exact .inl e
    · exact .inr (.inr ⟨_, e, by simp; omega⟩)
end

set_option maxRecDepth 100000 in
set_option maxHeartbeats 4000000 in
/-- Both have the same in flight. -/
theorem same_flight (nb : Nat) (nodes : Int) (nv : Value) (ms : List Msg) (rb : Nat) (rv : Value) (w : World) (hN : Net w nb nodes nv ms) (hR : RN w rb nodes rv (ms.map Msg.cont)) (ho : ∀ m ∈ ms, octs m.l) :
    Calls Try.prog 31 #[.pointer (some ⟨nb, 0, none⟩), .pointer (some ⟨rb, 0, none⟩)] w fun e w' => e = .returned (.bool true) ∧ Fr (fun _ => False) w w' := by
  obtain ⟨n, hn⟩ : ∃ n, n = ms.length := ⟨_, rfl⟩
  have HN : Hid (n = ms.length) := hn
  have hn24 : n ≤ 1024 := by rw [hn]; exact hN.len
  have hfl := flight_any nb nodes nv ms w hN
  rw [← hn] at hfl
  clear hn
  go_enter Try.func31, Try.ntmps31
  go_wp2_with fail
  refine hfl.mono ?_
  rintro e w1 ⟨g, ms', rfl, hh, hcont, hout, hg, f1⟩
  clear hfl
  have hR1 := hR.same f1
  have hN1 := hN.same f1
  have hc1 := hR1.cell1
  obtain ⟨ar, cr, hrv, _⟩ := hR1.row.slice
  rw [hrv, List.length_map, ← HN.out] at hc1
  have hl1 := len_any nb nodes nv ms w1.drew (hN1.same ((Fr.refl (fun _ => False) w1).drew))
  rw [← HN.out] at hl1
  go_wp2_with fail
  go_region_with (first | (go_at_call 39; refine hl1.mono ?_; rintro e w' ⟨rfl, rfl⟩))
  all_goals
    have hml' : ms'.length = n := by
      have := congrArg List.length hcont
      simp only [List.length_map] at this
      have := HN.out
      omega
    have HM' : Hid (ms'.length = n) := hml'
    clear hml'
    go_wp2
    go_loopw [30] (fun t wr => ∃ j : Nat, j ≤ n ∧ t = .int .i64 j ∧ Fr (fun _ => False) w1 wr) (fun t _ => n - (intOf t).toNat)
    case atStart => exact ⟨0, by omega, rfl, (Fr.refl (fun _ => False) w1).drew⟩
    case round =>
      obtain ⟨j, hj, rfl, hf⟩ := hrel
      by_cases hlt : j < n
      · obtain ⟨m, hm⟩ : ∃ m, ms'[j]? = some m := ⟨_, List.getElem?_eq_getElem (by rw [HM'.out]; exact hlt)⟩
        have hmc : (ms.map Msg.cont)[j]? = some m.cont := by rw [← hcont, List.getElem?_map, hm]; rfl
        have hmem := List.mem_of_getElem? hm
        have hob : octs m.l := by
          obtain ⟨m0, h0, e0⟩ := List.mem_map.1 (show m.cont ∈ ms.map Msg.cont from List.mem_of_getElem? hmc)
          have : m0.l = m.l := congrArg (fun x : Int × Int × List Nat => x.2.2) e0
          rw [← this]; exact ho m0 h0
        have hsm : m.l.length ≤ 65535 := by
          obtain ⟨m0, h0, e0⟩ := List.mem_map.1 (show m.cont ∈ ms.map Msg.cont from List.mem_of_getElem? hmc)
          have : m0.l = m.l := congrArg (fun x : Int × Int × List Nat => x.2.2) e0
          rw [← this]; exact hN.small m0 h0
        have he := (hh.fr hf (fun _ _ f => f)).elem mc_length hm
        have c0 := he 0 _ rfl
        have c1 := he 1 _ rfl
        have c2 := he 2 _ rfl
        rw [Nat.add_zero] at c0
        obtain ⟨mf, mt, ma, mcp, ml⟩ := m
        simp only [Msg.cont] at hmc hob hsm c0 c1 c2
        have fW : Fr (fun _ => False) wr (wr.alloc (.cells #[.int .i64 mf, .int .i64 mt, .slice ma ml.length mcp] 61)) := (Fr.refl (fun _ => False) wr).alloc _
        have hRW := (hR1.same hf).same fW
        obtain ⟨gr, capr, hv, _, d0, d1, d2⟩ := hRW.elem hmc
        have hcW := hRW.cell1
        rw [hv, List.length_map, ← HN.out] at hcW
        simp only at d0 d1 d2
        have r6 : Row ((wr.alloc (.cells #[.int .i64 mf, .int .i64 mt, .slice ma ml.length mcp] 61)).drew) ma mcp ml := (((hout _ hmem).1.bytes hob (Nat.le_trans hsm (by omega))).same hf).same (fW.drew)
        have cv := run_str (P := Try.prog) (src := 31) (dst := 9) Try.underlying31 Try.underlying5 Try.underlying9 r6 ml.length rfl
        have hji : (j : Int) < (n : Int) := by omega
        clear he hm hmc hmem hob hsm hv r6
        go_wp2
        go_region
        all_goals
          go_wp2
          go_roundw
          case rel => exact ⟨j + 1, by omega, by go_num, (hf.false_trans fW).drew⟩
          case measure => simp [intOf]; omega
      · have hjn : n = j := by omega
        subst hjn
        clear hlt
        go_wp2
        go_ret
        exact ⟨rfl, f1.false_trans hf⟩
end Go.Proofs.Ytplkdjmajagpcaa
