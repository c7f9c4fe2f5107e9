
/- PgCheck3, PgRef, PgRef2. -/
import Derived.Test.YtkibbojiflklpaaGreatBB3
/- What page.Check tells. -/
namespace Go.Proofs.YtkibbojiflklpaaGreat
open Go.RowKit

theorem all_of {l : List ByteArray} {m : Nat} (h : ∀ i, i < l.length → (l.getD i ByteArray.empty).size ≤ m) : ∀ s ∈ l, s.size ≤ m := by
  intro s hs
  obtain ⟨i, hi, he⟩ := List.getElem_of_mem hs
  have := h i hi
  rw [List.getD_eq_getElem?_getD, List.getElem?_eq_getElem hi] at this
  simp only [Option.getD_some] at this
  rw [he] at this; exact this
theorem small_size {w : World} {n : Nd} {p : Pt} (h : Nod w n p) (h1 : headB n = true) (h2 : keysB n = true) (h3 : entB n = true) : sizeN n < 9223372036854775808 := by
  have a1 : n.high.size ≤ 16 := by simp [headB] at h1; exact h1.2.2.2
  have a2 := tsz_le n.keys 16 (all_of (fun i hi => (keysB_of h2 i hi).1.2))
  have hk := h.klen
  have hv := h.vlen
  have hi := h.ilen
  unfold sizeN
  by_cases h0 : n.lev = 0
  · rw [if_pos h0]
    unfold entB at h3
    rw [if_pos h0] at h3
    simp only [Bool.and_eq_true] at h3
    have a3 := tsz_le n.vals 32 (all_of (valsB_of h3.2.2))
    omega
  · rw [if_neg h0]; omega
theorem wrap_id {x : Nat} (h : x < 9223372036854775808) : wrap64 (x : Int) = (x : Int) := by unfold wrap64; omega
/-- What Check tells. -/
def epage (n : Nd) : Nat := if rightB n = true then 0 else 60
theorem epage_no {n : Nd} (h : rightB n = false) : epage n = 60 := by unfold epage; rw [h]; rfl
theorem epage_yes {n : Nd} (h : rightB n = true) : epage n = 0 := by unfold epage; rw [h]; rfl

set_option maxRecDepth 100000 in
set_option maxHeartbeats 1000000 in
theorem check_any (n : Nd) (p : Pt) (w : World) (h : Nod w n p) : Calls Tryz.prog 72 #[(.agg #[.int .i64 n.lev, .int .i64 n.lsn, .int .i64 n.rgt, .string n.high, .slice p.k n.keys.length p.kc, .slice p.v n.vals.length p.vc, .slice p.i n.kids.length p.ic])] w fun e w' => e = .returned (.int .i64 (epage n : Nat)) ∧ Fr (fun _ => False) w w' := by
  have f0 := Fr.box w (.cells #[.int .i64 n.lev, .int .i64 n.lsn, .int .i64 n.rgt, .string n.high, .slice p.k n.keys.length p.kc, .slice p.v n.vals.length p.vc, .slice p.i n.kids.length p.ic] 33)
  have f1 := f0.alloc (.cells #[.int .i64 n.lev, .int .i64 n.lsn, .int .i64 n.rgt, .string n.high, .slice p.k n.keys.length p.kc, .slice p.v n.vals.length p.vc, .slice p.i n.kids.length p.ic] 33)
  have sm := small_size h
  have hr : rightB n = (headB n && (keysB n && (entB n && decide (sizeN n ≤ 256)))) := rfl
  obtain ⟨b1, h1⟩ : ∃ b, headB n = b := ⟨_, rfl⟩
  obtain ⟨b2, h2⟩ : ∃ b, keysB n = b := ⟨_, rfl⟩
  obtain ⟨b3, h3⟩ : ∃ b, entB n = b := ⟨_, rfl⟩
  rw [h1, h2, h3] at hr
  cases b1
  · have e60 := epage_no (n := n) (by rw [hr]; simp)
    rw [e60]
    have H1 : Hid (headB n = false) := h1
    clear hr h1 h2 h3 sm
    go_enter Tryz.func72, Tryz.ntmps72
    go_wp2_with fail
    refine (head_any n p _).mono ?_
    rw [H1.out]
    rintro e w1 ⟨rfl, rfl⟩
    go_wp2
    go_ret
    exact ⟨rfl, f1⟩
  · have H1 : Hid (headB n = true) := h1
    cases b2
    · have e60 := epage_no (n := n) (by rw [hr]; simp)
      rw [e60]
      have H2 : Hid (keysB n = false) := h2
      clear hr h1 h2 h3 sm
      go_enter Tryz.func72, Tryz.ntmps72
      go_wp2_with fail
      refine (head_any n p _).mono ?_
      rw [H1.out]
      rintro e w1 ⟨rfl, rfl⟩
      go_wp2_with fail
      refine (keys_any n p _ (h.same f1)).mono ?_
      rw [H2.out]
      rintro e w2 ⟨rfl, f2⟩
      go_wp2
      go_ret
      exact ⟨rfl, f1.seq' f2⟩
    · have H2 : Hid (keysB n = true) := h2
      cases b3
      · have e60 := epage_no (n := n) (by rw [hr]; simp)
        rw [e60]
        have H3 : Hid (entB n = false) := h3
        clear hr h1 h2 h3 sm
        go_enter Tryz.func72, Tryz.ntmps72
        go_wp2_with fail
        refine (head_any n p _).mono ?_
        rw [H1.out]
        rintro e w1 ⟨rfl, rfl⟩
        go_wp2_with fail
        refine (keys_any n p _ (h.same f1)).mono ?_
        rw [H2.out]
        rintro e w2 ⟨rfl, f2⟩
        obtain ⟨c0, c1, c2, c3, c4, c5, c6⟩ := box_cells (box_at w n p 33 (((Fr.refl _ _).alloc _).seq' f2))
        go_wp2_with fail
        refine (ent_any n p _ (h.same (f1.seq' f2))).mono ?_
        rw [H3.out]
        rintro e w3 ⟨rfl, f3⟩
        go_wp2
        go_ret
        exact ⟨rfl, (f1.seq' f2).seq' f3⟩
      · have H3 : Hid (entB n = true) := h3
        have sm2 := sm h1 h2 h3
        have hw := wrap_id sm2
        by_cases hz : sizeN n ≤ 256
        · have e0 := epage_yes (n := n) (by rw [hr]; simp [hz])
          rw [e0]
          clear hr h1 h2 h3 sm
          go_enter Tryz.func72, Tryz.ntmps72
          go_wp2_with fail
          refine (head_any n p _).mono ?_
          rw [H1.out]
          rintro e w1 ⟨rfl, rfl⟩
          go_wp2_with fail
          refine (keys_any n p _ (h.same f1)).mono ?_
          rw [H2.out]
          rintro e w2 ⟨rfl, f2⟩
          have fb := ((Fr.refl (fun _ => False) (w.alloc (.cells #[.int .i64 n.lev, .int .i64 n.lsn, .int .i64 n.rgt, .string n.high, .slice p.k n.keys.length p.kc, .slice p.v n.vals.length p.vc, .slice p.i n.kids.length p.ic] 33))).alloc (.cells #[.int .i64 n.lev, .int .i64 n.lsn, .int .i64 n.rgt, .string n.high, .slice p.k n.keys.length p.kc, .slice p.v n.vals.length p.vc, .slice p.i n.kids.length p.ic] 33)).seq' f2
          obtain ⟨c0, c1, c2, c3, c4, c5, c6⟩ := box_cells (box_at w n p 33 fb)
          go_wp2_with fail
          refine (ent_any n p _ (h.same (f1.seq' f2))).mono ?_
          rw [H3.out]
          rintro e w3 ⟨rfl, f3⟩
          obtain ⟨d0, d1, d2, d3, d4, d5, d6⟩ := box_cells (box_at w n p 33 (fb.seq' f3))
          go_wp2_with fail
          refine (size_any n p _ (h.same ((f1.seq' f2).seq' f3))).mono ?_
          rw [hw]
          rintro e w4 ⟨rfl, f4⟩
          go_wp2
          go_ret
          exact ⟨rfl, ((f1.seq' f2).seq' f3).seq' f4⟩
        · have e0 := epage_no (n := n) (by rw [hr]; simp [hz])
          rw [e0]
          clear hr h1 h2 h3 sm
          go_enter Tryz.func72, Tryz.ntmps72
          go_wp2_with fail
          refine (head_any n p _).mono ?_
          rw [H1.out]
          rintro e w1 ⟨rfl, rfl⟩
          go_wp2_with fail
          refine (keys_any n p _ (h.same f1)).mono ?_
          rw [H2.out]
          rintro e w2 ⟨rfl, f2⟩
          have fb := ((Fr.refl (fun _ => False) (w.alloc (.cells #[.int .i64 n.lev, .int .i64 n.lsn, .int .i64 n.rgt, .string n.high, .slice p.k n.keys.length p.kc, .slice p.v n.vals.length p.vc, .slice p.i n.kids.length p.ic] 33))).alloc (.cells #[.int .i64 n.lev, .int .i64 n.lsn, .int .i64 n.rgt, .string n.high, .slice p.k n.keys.length p.kc, .slice p.v n.vals.length p.vc, .slice p.i n.kids.length p.ic] 33)).seq' f2
          obtain ⟨c0, c1, c2, c3, c4, c5, c6⟩ := box_cells (box_at w n p 33 fb)
          go_wp2_with fail
          refine (ent_any n p _ (h.same (f1.seq' f2))).mono ?_
          rw [H3.out]
          rintro e w3 ⟨rfl, f3⟩
          obtain ⟨d0, d1, d2, d3, d4, d5, d6⟩ := box_cells (box_at w n p 33 (fb.seq' f3))
          go_wp2_with fail
          refine (size_any n p _ (h.same ((f1.seq' f2).seq' f3))).mono ?_
          rw [hw]
          rintro e w4 ⟨rfl, f4⟩
          go_wp2
          go_ret
          exact ⟨rfl, ((f1.seq' f2).seq' f3).seq' f4⟩
end Go.Proofs.YtkibbojiflklpaaGreat

/- What the document's own Size tells. -/
namespace Go.Proofs.YtkibbojiflklpaaGreat
open Go.RowKit

theorem wrap_step (g s q : Nat) (h : q = g + (s + 2)) : wrap64 (wrap64 (wrap64 (g : Int) + 2) + (s : Int)) = wrap64 (q : Int) := by
  subst h; unfold wrap64; omega
theorem wrap_four (g s q : Nat) (h : q = g + 4 * s) : wrap64 (wrap64 (g : Int) + 4 * (s : Int)) = wrap64 (q : Int) := by
  subst h; rw [wrap_add]; congr 1
theorem strs_some {w : World} {a : Option Addr} {cap : Nat} {l : List ByteArray} (h : Strs w a cap l) {k : Nat} (hk : k < l.length) : ∃ b off, a = some ⟨b, off, none⟩ ∧ b < w.heap.size ∧ ∀ i, i < l.length → w.cell? ⟨b, off + i, none⟩ = some (.string (l.getD i ByteArray.empty)) := by
  rcases h.at_ with h0 | h0
  · rw [h0] at hk; simp at hk
  · exact h0
theorem ints_some {w : World} {a : Option Addr} {cap : Nat} {l : List Int} (h : Ints w a cap l) {k : Nat} (hk : k < l.length) : ∃ b off, a = some ⟨b, off, none⟩ ∧ b < w.heap.size ∧ ∀ i, i < l.length → w.cell? ⟨b, off + i, none⟩ = some (.int .i64 (l.getD i 0)) := by
  rcases h.at_ with h0 | h0
  · rw [h0] at hk; simp at hk
  · exact h0

set_option maxRecDepth 100000 in
set_option maxHeartbeats 2000000 in
theorem rsize_any0 (n : Nd) (pk : Option Addr) (pkc : Nat) (pv : Option Addr) (pvc : Nat) (pi : Option Addr) (pic : Nat) (w : World) (h : Nod w n ⟨pk, pkc, pv, pvc, pi, pic⟩) :
    Calls Tryz.prog 66 #[(.agg #[.int .i64 n.lev, .int .i64 n.lsn, .int .i64 n.rgt, .string n.high, .slice pk n.keys.length pkc, .slice pv n.vals.length pvc, .slice pi n.kids.length pic])] w fun e w' => e = .returned (.int .i64 (wrap64 (sizeN n : Nat))) ∧ Fr (fun _ => False) w w' := by
  have f0 := Fr.box w (.cells #[.int .i64 n.lev, .int .i64 n.lsn, .int .i64 n.rgt, .string n.high, .slice pk n.keys.length pkc, .slice pv n.vals.length pvc, .slice pi n.kids.length pic] 33)
  have hh := h.high
  have hil := h.ilen
  have hkl := h.klen
  have hvl := h.vlen
  have hk := (h.same f0).keys
  have hv := (h.same f0).vals
  have hkc := hk.le
  have hkm := hk.max
  have hvc := hv.le
  have hvm := hv.max
  simp only at hkc hkm hvc hvm
  go_enter Tryz.func66, Tryz.ntmps66
  go_wp2
  go_loop [3, 15] (fun t i => ∃ k : Nat, k ≤ n.keys.length ∧ i = .int .i64 k ∧ t = .int .i64 (wrap64 ((21 + n.high.size + tsz (n.keys.take k) : Nat) : Int))) (fun _ i => n.keys.length - (intOf i).toNat)
  case atStart => exact ⟨0, by omega, rfl, val_int (by simp [tsz]; unfold wrap64; omega)⟩
  case round =>
    obtain ⟨k, hkk, rfl, rfl⟩ := hrel
    by_cases hlt : k < n.keys.length
    · obtain ⟨b, off, e, hb, hc⟩ := strs_some hk hlt
      have hcell := hc k hlt
      have hsz := h.ksz _ (strs_get hlt)
      have HS : Hid (tsz (n.keys.take (k + 1)) = tsz (n.keys.take k) + ((n.keys.getD k ByteArray.empty).size + 2)) := tsz_snoc n.keys k hlt
      obtain ⟨s, hs⟩ : ∃ s, s = n.keys.getD k ByteArray.empty := ⟨_, rfl⟩
      rw [← hs] at hcell hsz HS
      obtain ⟨t, ht⟩ : ∃ t, t = tsz (n.keys.take k) := ⟨_, rfl⟩
      rw [← ht] at HS ⊢
      clear hs ht hc
      subst e
      obtain ⟨g, hg⟩ : ∃ g, g = 21 + n.high.size + t := ⟨_, rfl⟩
      rw [← hg]
      have HG : Hid (g = 21 + n.high.size + t) := hg
      clear hg
      go_wp2
      go_round
      case rel => exact ⟨k + 1, by omega, by go_num, val_int (wrap_step g s.size _ (by rw [HS.out, HG.out]; omega))⟩
      case measure => simp [intOf]; omega
    · have e : n.keys.take k = n.keys := List.take_of_length_le (by omega)
      rw [e]
      clear e
      by_cases h0 : n.lev = 0
      · have e0 : (n.lev == 0) = true := by simp [h0]
        have HZ : Hid (sizeN n = 21 + n.high.size + tsz n.keys + tsz n.vals) := by show sizeN n = _; unfold sizeN; rw [if_pos h0]
        clear h0
        obtain ⟨g, hg⟩ : ∃ g, g = 21 + n.high.size + tsz n.keys := ⟨_, rfl⟩
        rw [← hg]
        have HG : Hid (sizeN n = g + tsz n.vals) := by show _ = _; rw [HZ.out, hg]
        clear hg
        go_wp2
        go_loop [3, 31] (fun t i => ∃ k : Nat, k ≤ n.vals.length ∧ i = .int .i64 k ∧ t = .int .i64 (wrap64 ((g + tsz (n.vals.take k) : Nat) : Int))) (fun _ i => n.vals.length - (intOf i).toNat)
        case atStart => exact ⟨0, by omega, rfl, val_int (by simp [tsz])⟩
        case round =>
          obtain ⟨j, hjj, rfl, rfl⟩ := hrel
          by_cases hlj : j < n.vals.length
          · obtain ⟨b, off, e, hb, hc⟩ := strs_some hv hlj
            have hcell := hc j hlj
            have hsz := h.vsz _ (strs_get hlj)
            have HS : Hid (tsz (n.vals.take (j + 1)) = tsz (n.vals.take j) + ((n.vals.getD j ByteArray.empty).size + 2)) := tsz_snoc n.vals j hlj
            obtain ⟨s, hs⟩ : ∃ s, s = n.vals.getD j ByteArray.empty := ⟨_, rfl⟩
            rw [← hs] at hcell hsz HS
            obtain ⟨t, ht⟩ : ∃ t, t = tsz (n.vals.take j) := ⟨_, rfl⟩
            rw [← ht] at HS ⊢
            clear hs ht hc
            subst e
            obtain ⟨q, hq⟩ : ∃ q, q = g + t := ⟨_, rfl⟩
            rw [← hq]
            have HQ : Hid (q = g + t) := hq
            clear hq
            go_wp2
            go_round
            case rel => exact ⟨j + 1, by omega, by go_num, val_int (wrap_step q s.size _ (by rw [HS.out, HQ.out]; omega))⟩
            case measure => simp [intOf]; omega
          · have e : n.vals.take j = n.vals := List.take_of_length_le (by omega)
            rw [e, ← HG.out]
            go_wp2
            go_ret
            exact ⟨rfl, f0⟩
      · have e0 : (n.lev == 0) = false := by simpa using h0
        have HZ : Hid (sizeN n = 21 + n.high.size + tsz n.keys + 4 * n.kids.length) := by show sizeN n = _; unfold sizeN; rw [if_neg h0]
        clear h0
        obtain ⟨g, hg⟩ : ∃ g, g = 21 + n.high.size + tsz n.keys := ⟨_, rfl⟩
        rw [← hg]
        have HG : Hid (sizeN n = g + 4 * n.kids.length) := by show _ = _; rw [HZ.out, hg]
        clear hg
        go_wp2
        go_ret
        exact ⟨ret_int (wrap_four g n.kids.length _ HG.out), f0⟩
theorem rsize_any (n : Nd) (p : Pt) (w : World) (h : Nod w n p) : Calls Tryz.prog 66 #[(.agg #[.int .i64 n.lev, .int .i64 n.lsn, .int .i64 n.rgt, .string n.high, .slice p.k n.keys.length p.kc, .slice p.v n.vals.length p.vc, .slice p.i n.kids.length p.ic])] w fun e w' => e = .returned (.int .i64 (wrap64 (sizeN n : Nat))) ∧ Fr (fun _ => False) w w' :=
  rsize_any0 n p.k p.kc p.v p.vc p.i p.ic w h
end Go.Proofs.YtkibbojiflklpaaGreat

/- What the document's own Right and Check tell. -/
namespace Go.Proofs.YtkibbojiflklpaaGreat
open Go.RowKit

set_option maxRecDepth 100000 in
set_option maxHeartbeats 400000 in
theorem rright_a (n : Nd) (pk : Option Addr) (pkc : Nat) (pv : Option Addr) (pvc : Nat) (pi : Option Addr) (pic : Nat) (w : World) (h : n.lev < 0)  :
    Calls Tryz.prog 32 #[(.agg #[.int .i64 n.lev, .int .i64 n.lsn, .int .i64 n.rgt, .string n.high, .slice pk n.keys.length pkc, .slice pv n.vals.length pvc, .slice pi n.kids.length pic])] w fun e w' => e = .returned (.bool false) ∧ Fr (fun _ => False) w w' := by
  have f0 := Fr.box w (.cells #[.int .i64 n.lev, .int .i64 n.lsn, .int .i64 n.rgt, .string n.high, .slice pk n.keys.length pkc, .slice pv n.vals.length pvc, .slice pi n.kids.length pic] 33)
  go_enter Tryz.func32, Tryz.ntmps32
  go_wp2
  go_ret
  exact ⟨rfl, f0⟩
set_option maxRecDepth 100000 in
set_option maxHeartbeats 400000 in
theorem rright_b (n : Nd) (pk : Option Addr) (pkc : Nat) (pv : Option Addr) (pvc : Nat) (pi : Option Addr) (pic : Nat) (w : World) (h : 20 < n.lev) (h0 : ¬ n.lev < 0) :
    Calls Tryz.prog 32 #[(.agg #[.int .i64 n.lev, .int .i64 n.lsn, .int .i64 n.rgt, .string n.high, .slice pk n.keys.length pkc, .slice pv n.vals.length pvc, .slice pi n.kids.length pic])] w fun e w' => e = .returned (.bool false) ∧ Fr (fun _ => False) w w' := by
  have f0 := Fr.box w (.cells #[.int .i64 n.lev, .int .i64 n.lsn, .int .i64 n.rgt, .string n.high, .slice pk n.keys.length pkc, .slice pv n.vals.length pvc, .slice pi n.kids.length pic] 33)
  go_enter Tryz.func32, Tryz.ntmps32
  go_wp2
  go_ret
  exact ⟨rfl, f0⟩
set_option maxRecDepth 100000 in
set_option maxHeartbeats 400000 in
theorem rright_c (n : Nd) (pk : Option Addr) (pkc : Nat) (pv : Option Addr) (pvc : Nat) (pi : Option Addr) (pic : Nat) (w : World) (h : n.lsn < 0) (h0 : ¬ n.lev < 0) (h1 : ¬ 20 < n.lev) :
    Calls Tryz.prog 32 #[(.agg #[.int .i64 n.lev, .int .i64 n.lsn, .int .i64 n.rgt, .string n.high, .slice pk n.keys.length pkc, .slice pv n.vals.length pvc, .slice pi n.kids.length pic])] w fun e w' => e = .returned (.bool false) ∧ Fr (fun _ => False) w w' := by
  have f0 := Fr.box w (.cells #[.int .i64 n.lev, .int .i64 n.lsn, .int .i64 n.rgt, .string n.high, .slice pk n.keys.length pkc, .slice pv n.vals.length pvc, .slice pi n.kids.length pic] 33)
  go_enter Tryz.func32, Tryz.ntmps32
  go_wp2
  go_ret
  exact ⟨rfl, f0⟩
set_option maxRecDepth 100000 in
set_option maxHeartbeats 400000 in
theorem rright_d (n : Nd) (pk : Option Addr) (pkc : Nat) (pv : Option Addr) (pvc : Nat) (pi : Option Addr) (pic : Nat) (w : World) (h : 1099511627776 < n.lsn) (h0 : ¬ n.lev < 0) (h1 : ¬ 20 < n.lev) (h2 : ¬ n.lsn < 0) :
    Calls Tryz.prog 32 #[(.agg #[.int .i64 n.lev, .int .i64 n.lsn, .int .i64 n.rgt, .string n.high, .slice pk n.keys.length pkc, .slice pv n.vals.length pvc, .slice pi n.kids.length pic])] w fun e w' => e = .returned (.bool false) ∧ Fr (fun _ => False) w w' := by
  have f0 := Fr.box w (.cells #[.int .i64 n.lev, .int .i64 n.lsn, .int .i64 n.rgt, .string n.high, .slice pk n.keys.length pkc, .slice pv n.vals.length pvc, .slice pi n.kids.length pic] 33)
  go_enter Tryz.func32, Tryz.ntmps32
  go_wp2
  go_ret
  exact ⟨rfl, f0⟩
set_option maxRecDepth 100000 in
set_option maxHeartbeats 400000 in
theorem rright_e (n : Nd) (pk : Option Addr) (pkc : Nat) (pv : Option Addr) (pvc : Nat) (pi : Option Addr) (pic : Nat) (w : World) (h : n.rgt < 0) (h0 : ¬ n.lev < 0) (h1 : ¬ 20 < n.lev) (h2 : ¬ n.lsn < 0) (h3 : ¬ 1099511627776 < n.lsn) :
    Calls Tryz.prog 32 #[(.agg #[.int .i64 n.lev, .int .i64 n.lsn, .int .i64 n.rgt, .string n.high, .slice pk n.keys.length pkc, .slice pv n.vals.length pvc, .slice pi n.kids.length pic])] w fun e w' => e = .returned (.bool false) ∧ Fr (fun _ => False) w w' := by
  have f0 := Fr.box w (.cells #[.int .i64 n.lev, .int .i64 n.lsn, .int .i64 n.rgt, .string n.high, .slice pk n.keys.length pkc, .slice pv n.vals.length pvc, .slice pi n.kids.length pic] 33)
  go_enter Tryz.func32, Tryz.ntmps32
  go_wp2
  go_ret
  exact ⟨rfl, f0⟩
set_option maxRecDepth 100000 in
set_option maxHeartbeats 400000 in
theorem rright_f (n : Nd) (pk : Option Addr) (pkc : Nat) (pv : Option Addr) (pvc : Nat) (pi : Option Addr) (pic : Nat) (w : World) (h : 4096 < n.rgt) (h0 : ¬ n.lev < 0) (h1 : ¬ 20 < n.lev) (h2 : ¬ n.lsn < 0) (h3 : ¬ 1099511627776 < n.lsn) (h4 : ¬ n.rgt < 0) :
    Calls Tryz.prog 32 #[(.agg #[.int .i64 n.lev, .int .i64 n.lsn, .int .i64 n.rgt, .string n.high, .slice pk n.keys.length pkc, .slice pv n.vals.length pvc, .slice pi n.kids.length pic])] w fun e w' => e = .returned (.bool false) ∧ Fr (fun _ => False) w w' := by
  have f0 := Fr.box w (.cells #[.int .i64 n.lev, .int .i64 n.lsn, .int .i64 n.rgt, .string n.high, .slice pk n.keys.length pkc, .slice pv n.vals.length pvc, .slice pi n.kids.length pic] 33)
  go_enter Tryz.func32, Tryz.ntmps32
  go_wp2
  go_ret
  exact ⟨rfl, f0⟩
set_option maxRecDepth 100000 in
set_option maxHeartbeats 400000 in
theorem rright_g (n : Nd) (pk : Option Addr) (pkc : Nat) (pv : Option Addr) (pvc : Nat) (pi : Option Addr) (pic : Nat) (w : World) (h0 : ¬ n.lev < 0) (h1 : ¬ 20 < n.lev) (h2 : ¬ n.lsn < 0) (h3 : ¬ 1099511627776 < n.lsn) (h4 : ¬ n.rgt < 0) (h5 : ¬ 4096 < n.rgt) (h : 16 < n.high.size) :
    Calls Tryz.prog 32 #[(.agg #[.int .i64 n.lev, .int .i64 n.lsn, .int .i64 n.rgt, .string n.high, .slice pk n.keys.length pkc, .slice pv n.vals.length pvc, .slice pi n.kids.length pic])] w fun e w' => e = .returned (.bool false) ∧ Fr (fun _ => False) w w' := by
  have f0 := Fr.box w (.cells #[.int .i64 n.lev, .int .i64 n.lsn, .int .i64 n.rgt, .string n.high, .slice pk n.keys.length pkc, .slice pv n.vals.length pvc, .slice pi n.kids.length pic] 33)
  have he := bs_not_nil (s := n.high) (by omega)
  have e1 : ekey n.high.size = 50 := ekey_no (.inr h)
  clear h
  go_enter Tryz.func32, Tryz.ntmps32
  go_wp2_with fail
  refine (rcheck_any _ _).mono ?_
  rw [e1]
  rintro e w1 ⟨rfl, rfl⟩
  go_wp2
  go_ret
  exact ⟨rfl, f0⟩
/-- What stands behind the keys is decided by the entries and the size. -/
theorem right_rest {n : Nd} (h1 : headB n = true) (h2 : keysB n = true) : rightB n = (entB n && decide (sizeN n ≤ 256)) := by
  unfold rightB; rw [h1, h2]; simp
theorem right_keys {n : Nd} (h2 : keysB n = false) : rightB n = false := by
  unfold rightB; rw [h2]; simp
theorem right_ent {n : Nd} (h2 : entB n = false) : rightB n = false := by
  unfold rightB; rw [h2]; simp
theorem right_all {n : Nd} (h1 : headB n = true) (h2 : keysB n = true) (h3 : entB n = true) : rightB n = decide (sizeN n ≤ 256) := by
  rw [right_rest h1 h2, h3]; simp
theorem right_is {w : World} {n : Nd} {p : Pt} (h : Nod w n p) (h1 : headB n = true) (h2 : keysB n = true) (h3 : entB n = true) : rightB n = decide (wrap64 ((sizeN n : Nat) : Int) ≤ 256) := by
  rw [right_all h1 h2 h3, wrap_id (small_size h h1 h2 h3), Bool.eq_iff_iff]; simp; omega

set_option maxRecDepth 100000 in
set_option maxHeartbeats 4000000 in
theorem rright_h (n : Nd) (pk : Option Addr) (pkc : Nat) (pv : Option Addr) (pvc : Nat) (pi : Option Addr) (pic : Nat) (w : World) (h0 : ¬ n.lev < 0) (h1 : ¬ 20 < n.lev) (h2 : ¬ n.lsn < 0) (h3 : ¬ 1099511627776 < n.lsn) (h4 : ¬ n.rgt < 0) (h5 : ¬ 4096 < n.rgt) (h : Nod w n ⟨pk, pkc, pv, pvc, pi, pic⟩) (h0 : n.high.size = 0) (H0 : headB n = true) :
    Calls Tryz.prog 32 #[(.agg #[.int .i64 n.lev, .int .i64 n.lsn, .int .i64 n.rgt, .string n.high, .slice pk n.keys.length pkc, .slice pv n.vals.length pvc, .slice pi n.kids.length pic])] w fun e w' => e = .returned (.bool (rightB n)) ∧ Fr (fun _ => False) w w' := by
  have HH0 : Hid (headB n = true) := H0
  clear H0
  have f0 := Fr.box w (.cells #[.int .i64 n.lev, .int .i64 n.lsn, .int .i64 n.rgt, .string n.high, .slice pk n.keys.length pkc, .slice pv n.vals.length pvc, .slice pi n.kids.length pic] 33)
  have hkl := h.klen
  have hvl := h.vlen
  have hil := h.ilen
  have hhi : n.high.size ≤ maxLen := by have := h.high; unfold maxLen; omega
  have hk := (h.same f0).keys
  have hv := (h.same f0).vals
  have hi := (h.same f0).kids
  have hkc := hk.le
  have hkm := hk.max
  have hvc := hv.le
  have hvm := hv.max
  have hic := hi.le
  have him := hi.max
  simp only at hkc hkm hvc hvm hic him
  have HT : Hid (∀ s ∈ n.keys, s.size ≤ maxLen) := h.keys.text
  have he := bs_nil (s := n.high) h0
  have HH : Hid (n.high.size = 0) := h0
  clear h0
  go_enter Tryz.func32, Tryz.ntmps32
  go_wp2
  go_loopw [51] (fun i wr => ∃ k : Nat, k ≤ n.keys.length ∧ i = .int .i64 k ∧ Hid (∀ x, x < k → kok n.high n.keys x) ∧ Fr (fun _ => False) (w.alloc (.cells #[.int .i64 n.lev, .int .i64 n.lsn, .int .i64 n.rgt, .string n.high, .slice pk n.keys.length pkc, .slice pv n.vals.length pvc, .slice pi n.kids.length pic] 33)) wr) (fun i _ => n.keys.length - (intOf i).toNat)
  case atStart => exact ⟨0, by omega, rfl, (fun x hx => by omega), Fr.refl _ _⟩
  case round =>
    obtain ⟨k, hkk, rfl, HE, hf⟩ := hrel
    obtain ⟨c0, c1, c2, c3, c4, c5, c6⟩ := box_cells (p := ⟨pk, pkc, pv, pvc, pi, pic⟩) (box_at w n ⟨pk, pkc, pv, pvc, pi, pic⟩ 33 hf)
    simp only at c4 c5 c6
    by_cases hlt : k < n.keys.length
    · have hr := hk.same hf
      obtain ⟨b, off, ee, hb, hc⟩ := strs_some hr hlt
      have hcell := hc k hlt
      have hsz := HT.out _ (strs_get hlt)
      obtain ⟨s, hs⟩ : ∃ s, s = n.keys.getD k ByteArray.empty := ⟨_, rfl⟩
      rw [← hs] at hcell hsz
      have HS : Hid (s = n.keys.getD k ByteArray.empty) := hs
      have HNO : Hid (¬ kok n.high n.keys k → rightB n = false) := fun h => right_keys (keysB_no k hlt h)
      have hcell2 : 0 < k → wr.cell? ⟨b, off + (k - 1), none⟩ = some (.string (n.keys.getD (k - 1) ByteArray.empty)) := fun _ => hc (k - 1) (by omega)
      have hsz2 : 0 < k → (n.keys.getD (k - 1) ByteArray.empty).size ≤ maxLen := fun _ => HT.out _ (strs_get (by omega))
      obtain ⟨t, ht⟩ : ∃ s, s = n.keys.getD (k - 1) ByteArray.empty := ⟨_, rfl⟩
      rw [← ht] at hcell2 hsz2
      have HTT : Hid (t = n.keys.getD (k - 1) ByteArray.empty) := ht
      clear hs ht hc hr
      subst ee
      by_cases h1 : 1 ≤ s.size ∧ s.size ≤ 16
      · have H1 : Hid (1 ≤ s.size ∧ s.size ≤ 16) := h1
        have e1 : ekey s.size = 0 := ekey_ok (by omega) (by omega)
        clear h1
        go_wp2_with fail
        refine (rcheck_any _ _).mono ?_
        rw [e1]
        rintro e w1 ⟨rfl, rfl⟩
        by_cases k0 : 0 < k
        · have k0' : (0 : Int) < (k : Int) := by omega
          have hc3 := hcell2 k0
          have hs3 := hsz2 k0
          go_wp2_with fail
          refine (rcompare_any t s hs3 hsz _).mono ?_
          rintro e w3 ⟨rfl, f3⟩
          by_cases g1 : 0 ≤ cpl (bsOf t) (bsOf s)
          · go_wp2
            go_ret
            exact ⟨ret_bool (HNO.out (fun h => by have := h.2.1 (by omega); rw [← HS.out, ← HTT.out] at this; omega)).symm, (f0.seq' hf).seq' f3⟩
          · have G1 : Hid (¬ 0 ≤ cpl (bsOf t) (bsOf s)) := g1
            go_wp2
            go_roundw
            case rel =>
              refine ⟨k + 1, by omega, by go_num, fun x hx => ?_, hf.seq' f3⟩
              rcases Nat.lt_or_ge x k with h | h
              · exact HE.out x h
              · have e : x = k := by omega
                rw [e]
                exact ⟨by rw [← HS.out]; exact H1.out, (fun h => by rw [← HS.out, ← HTT.out]; have := G1.out; omega), (fun h => absurd HH.out h)⟩
            case measure => simp [intOf]; omega
        · have k0' : ¬ (0 : Int) < (k : Int) := by omega
          have K0 : Hid (¬ 0 < k) := k0
          go_wp2
          go_roundw
          case rel =>
            refine ⟨k + 1, by omega, by go_num, fun x hx => ?_, hf⟩
            rcases Nat.lt_or_ge x k with h | h
            · exact HE.out x h
            · have e : x = k := by omega
              rw [e]
              exact ⟨by rw [← HS.out]; exact H1.out, (fun h => absurd h K0.out), (fun h => absurd HH.out h)⟩
          case measure => simp [intOf]; omega
      · have H1 : Hid (¬ (1 ≤ s.size ∧ s.size ≤ 16)) := h1
        have e1 : ekey s.size = 50 := ekey_no (by omega)
        clear h1
        go_wp2_with fail
        refine (rcheck_any _ _).mono ?_
        rw [e1]
        rintro e w1 ⟨rfl, rfl⟩
        go_wp2
        go_ret
        exact ⟨ret_bool (HNO.out (fun h => H1.out (by rw [HS.out]; exact h.1))).symm, f0.seq' hf⟩
    · have HK : Hid (keysB n = true) := keysB_yes (fun x hx => HE.out x (by omega))
      clear HE
      by_cases l0 : n.lev = 0
      · have e0 : (n.lev == 0) = true := by simp [l0]
        have HB : Hid (entB n = ((n.vals.length == n.keys.length) && ((n.kids.length == 0) && valsB n.vals))) := by show entB n = _; unfold entB; rw [if_pos l0]
        clear l0
        by_cases a1 : n.vals.length = n.keys.length
        · have a1' : ((n.vals.length : Int) != (n.keys.length : Int)) = false := by simp [a1]
          by_cases a2 : n.kids.length = 0
          · have a2' : ¬ (0 : Int) < (n.kids.length : Int) := by omega
            have HB2 : Hid (entB n = valsB n.vals) := by show _ = _; rw [HB.out]; simp [a1, a2]
            clear a1 a2
            go_wp2
            go_loop [104] (fun i => ∃ j : Nat, j ≤ n.vals.length ∧ i = .int .i64 j ∧ Hid (∀ x, x < j → (n.vals.getD x ByteArray.empty).size ≤ 32)) (fun i => n.vals.length - (intOf i).toNat)
            case atStart => exact ⟨0, by omega, rfl, fun x hx => by omega⟩
            case round =>
              obtain ⟨j, hjj, rfl, HV⟩ := hrel
              by_cases hlj : j < n.vals.length
              · obtain ⟨b, off, ee, hb, hc⟩ := strs_some (hv.same hf) hlj
                have hcell := hc j hlj
                obtain ⟨s, hs⟩ : ∃ s, s = n.vals.getD j ByteArray.empty := ⟨_, rfl⟩
                rw [← hs] at hcell
                have HS : Hid (s = n.vals.getD j ByteArray.empty) := hs
                clear hs hc
                subst ee
                by_cases h1 : s.size ≤ 32
                · have e1 : evalu s.size = 0 := if_neg (by omega)
                  go_wp2_with fail
                  refine (rvalue_any _ _).mono ?_
                  rw [e1]
                  rintro e w1 ⟨rfl, rfl⟩
                  go_wp2
                  go_round
                  case rel =>
                    refine ⟨j + 1, by omega, by go_num, fun x hx => ?_⟩
                    rcases Nat.lt_or_ge x j with h | h
                    · exact HV.out x h
                    · have e : x = j := by omega
                      rw [e, ← HS.out]; omega
                  case measure => simp [intOf]; omega
                · have e1 : evalu s.size = 51 := if_pos (by omega)
                  have HN : Hid (rightB n = false) := right_ent (by rw [HB2.out]; exact valsB_no j hlj (by rw [← HS.out]; exact h1))
                  go_wp2_with fail
                  refine (rvalue_any _ _).mono ?_
                  rw [e1]
                  rintro e w1 ⟨rfl, rfl⟩
                  go_wp2
                  go_ret
                  exact ⟨ret_bool HN.out.symm, f0.seq' hf⟩
              · have HN : Hid (rightB n = decide (wrap64 ((sizeN n : Nat) : Int) ≤ 256)) := right_is h HH0.out HK.out (by rw [HB2.out]; exact valsB_yes (fun x hx => HV.out x (by omega)))
                go_wp2_with fail
                refine (rsize_any0 n pk pkc pv pvc pi pic _ (h.same (f0.seq' hf))).mono ?_
                rintro e w5 ⟨rfl, f5⟩
                go_wp2
                go_ret
                exact ⟨ret_bool HN.out.symm, (f0.seq' hf).seq' f5⟩
          · have a2' : (0 : Int) < (n.kids.length : Int) := by omega
            have HN : Hid (rightB n = false) := right_ent (by rw [HB.out]; simp [a2])
            clear a1 a2
            go_wp2
            go_ret
            exact ⟨ret_bool HN.out.symm, f0.seq' hf⟩
        · have a1' : ((n.vals.length : Int) != (n.keys.length : Int)) = true := by rw [bne_iff_ne]; omega
          have HN : Hid (rightB n = false) := right_ent (by rw [HB.out]; simp [a1])
          clear a1
          go_wp2
          go_ret
          exact ⟨ret_bool HN.out.symm, f0.seq' hf⟩
      · have e0 : (n.lev == 0) = false := by simpa using l0
        have HB : Hid (entB n = ((n.kids.length == n.keys.length + 1) && ((n.vals.length == 0) && kidsB n.kids))) := by show entB n = _; unfold entB; rw [if_neg l0]
        clear l0
        by_cases a1 : n.kids.length = n.keys.length + 1
        · have a1' : ((n.kids.length : Int) != (n.keys.length : Int) + 1) = false := by simp [a1]
          by_cases a2 : n.vals.length = 0
          · have a2' : ¬ (0 : Int) < (n.vals.length : Int) := by omega
            have HB2 : Hid (entB n = kidsB n.kids) := by show _ = _; rw [HB.out]; simp [a1, a2]
            clear a1 a2
            go_wp2
            go_loop [129] (fun i => ∃ j : Nat, j ≤ n.kids.length ∧ i = .int .i64 j ∧ Hid (∀ x, x < j → wthB (n.kids.getD x 0) 1 4096 = true)) (fun i => n.kids.length - (intOf i).toNat)
            case atStart => exact ⟨0, by omega, rfl, fun x hx => by omega⟩
            case round =>
              obtain ⟨j, hjj, rfl, HV⟩ := hrel
              by_cases hlj : j < n.kids.length
              · obtain ⟨b, off, ee, hb, hc⟩ := ints_some (hi.same hf) hlj
                have hcell := hc j hlj
                obtain ⟨s, hs⟩ : ∃ s, s = n.kids.getD j 0 := ⟨_, rfl⟩
                rw [← hs] at hcell
                have HS : Hid (s = n.kids.getD j 0) := hs
                have HNO : Hid (wthB s 1 4096 = false → rightB n = false) := fun h => right_ent (by rw [HB2.out]; exact kidsB_no j hlj (by rw [← hs, h]; simp))
                clear hs hc
                subst ee
                by_cases s1 : s < 1
                · go_wp2
                  go_ret
                  exact ⟨ret_bool (HNO.out (by simp [wthB]; omega)).symm, f0.seq' hf⟩
                · by_cases s2 : 4096 < s
                  · go_wp2
                    go_ret
                    exact ⟨ret_bool (HNO.out (by simp [wthB]; omega)).symm, f0.seq' hf⟩
                  · have S1 : Hid (wthB s 1 4096 = true) := by show wthB s 1 4096 = true; simp [wthB]; omega
                    go_wp2
                    go_round
                    case rel =>
                      refine ⟨j + 1, by omega, by go_num, fun x hx => ?_⟩
                      rcases Nat.lt_or_ge x j with h | h
                      · exact HV.out x h
                      · have e : x = j := by omega
                        rw [e, ← HS.out]; exact S1.out
                    case measure => simp [intOf]; omega
              · have HN : Hid (rightB n = decide (wrap64 ((sizeN n : Nat) : Int) ≤ 256)) := right_is h HH0.out HK.out (by rw [HB2.out]; exact kidsB_yes (fun x hx => HV.out x (by omega)))
                go_wp2_with fail
                refine (rsize_any0 n pk pkc pv pvc pi pic _ (h.same (f0.seq' hf))).mono ?_
                rintro e w5 ⟨rfl, f5⟩
                go_wp2
                go_ret
                exact ⟨ret_bool HN.out.symm, (f0.seq' hf).seq' f5⟩
          · have a2' : (0 : Int) < (n.vals.length : Int) := by omega
            have HN : Hid (rightB n = false) := right_ent (by rw [HB.out]; simp [a2])
            clear a1 a2
            go_wp2
            go_ret
            exact ⟨ret_bool HN.out.symm, f0.seq' hf⟩
        · have a1' : ((n.kids.length : Int) != (n.keys.length : Int) + 1) = true := by rw [bne_iff_ne]; omega
          have HN : Hid (rightB n = false) := right_ent (by rw [HB.out]; simp [a1])
          clear a1
          go_wp2
          go_ret
          exact ⟨ret_bool HN.out.symm, f0.seq' hf⟩
end Go.Proofs.YtkibbojiflklpaaGreat
