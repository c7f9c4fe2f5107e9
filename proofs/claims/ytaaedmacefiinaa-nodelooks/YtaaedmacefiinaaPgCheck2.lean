
/- What page.keysAreRight, entriesAreRight and Check tell. -/
import Derived.Test.YtaaedmacefiinaaPgCheck
namespace Go.Proofs.Ytaaedmacefiinaa
open Go.RowKit

/-- The cells of a boxed node behind what leaves them. -/
theorem box_cells {w' : World} {n : Nd} {p : Pt} {b : Nat} {t : TypeId} (h : w'.heap[b]? = some (.cells #[.int .i64 n.lev, .int .i64 n.lsn, .int .i64 n.rgt, .string n.high, .slice p.k n.keys.length p.kc, .slice p.v n.vals.length p.vc, .slice p.i n.kids.length p.ic] t (0, 0))) :
    w'.cell? ⟨b, 0, none⟩ = some (.int .i64 n.lev) ∧ w'.cell? ⟨b, 1, none⟩ = some (.int .i64 n.lsn) ∧ w'.cell? ⟨b, 2, none⟩ = some (.int .i64 n.rgt) ∧ w'.cell? ⟨b, 3, none⟩ = some (.string n.high) ∧
    w'.cell? ⟨b, 4, none⟩ = some (.slice p.k n.keys.length p.kc) ∧ w'.cell? ⟨b, 5, none⟩ = some (.slice p.v n.vals.length p.vc) ∧ w'.cell? ⟨b, 6, none⟩ = some (.slice p.i n.kids.length p.ic) := by
  refine ⟨?_, ?_, ?_, ?_, ?_, ?_, ?_⟩ <;> simp [World.cell?, h]
theorem box_at (w : World) (n : Nd) (p : Pt) (t : TypeId) {w' : World} (f : Fr (fun _ => False) (w.alloc (.cells #[.int .i64 n.lev, .int .i64 n.lsn, .int .i64 n.rgt, .string n.high, .slice p.k n.keys.length p.kc, .slice p.v n.vals.length p.vc, .slice p.i n.kids.length p.ic] t)) w') : w'.heap[w.heap.size]? = some (.cells #[.int .i64 n.lev, .int .i64 n.lsn, .int .i64 n.rgt, .string n.high, .slice p.k n.keys.length p.kc, .slice p.v n.vals.length p.vc, .slice p.i n.kids.length p.ic] t (0, 0)) := by
  rw [f.block w.heap.size (by simp) (fun f => f)]; exact heap_alloc_new w _

set_option maxRecDepth 100000 in
set_option maxHeartbeats 2000000 in
theorem keys_any0 (n : Nd) (pk : Option Addr) (pkc : Nat) (pv : Option Addr) (pvc : Nat) (pi : Option Addr) (pic : Nat) (w : World) (h : Nod w n ⟨pk, pkc, pv, pvc, pi, pic⟩) : Calls Try.prog 82 #[(.agg #[.int .i64 n.lev, .int .i64 n.lsn, .int .i64 n.rgt, .string n.high, .slice pk n.keys.length pkc, .slice pv n.vals.length pvc, .slice pi n.kids.length pic])] w fun e w' => e = .returned (.bool (keysB n)) ∧ Fr (fun _ => False) w w' := by
  have hr := h.keys
  have hle := hr.le
  have hmx := hr.max
  have hhi : n.high.size ≤ maxLen := by have := h.high; unfold maxLen; omega
  have f0 := Fr.box w (.cells #[.int .i64 n.lev, .int .i64 n.lsn, .int .i64 n.rgt, .string n.high, .slice pk n.keys.length pkc, .slice pv n.vals.length pvc, .slice pi n.kids.length pic] 25)
  have hat := h.keys.at_
  simp only at hat hle hmx
  rcases hat with h0 | ⟨b, off, rfl, hb, hc⟩
  · have hl0 : n.keys.length = 0 := by rw [h0]; rfl
    have hl : ¬ (0 : Int) < (n.keys.length : Int) := by omega
    have HK : Hid (keysB n = true) := keysB_yes (fun i hi => by omega)
    clear h0 hl0
    go_enter Try.func82, Try.ntmps82
    go_wp2
    refine wp_loop_rounds 1 ?_
    rw [rounds_succ]
    go_wp2
    go_ret
    exact ⟨ret_bool HK.out.symm, f0⟩
  · have hb0 : b < (w.alloc (.cells #[.int .i64 n.lev, .int .i64 n.lsn, .int .i64 n.rgt, .string n.high, .slice (some ⟨b, off, none⟩) n.keys.length pkc, .slice pv n.vals.length pvc, .slice pi n.kids.length pic] 25)).heap.size := by simp; omega
    have hc0 : ∀ i, i < n.keys.length → (w.alloc (.cells #[.int .i64 n.lev, .int .i64 n.lsn, .int .i64 n.rgt, .string n.high, .slice (some ⟨b, off, none⟩) n.keys.length pkc, .slice pv n.vals.length pvc, .slice pi n.kids.length pic] 25)).cell? ⟨b, off + i, none⟩ = some (.string (n.keys.getD i ByteArray.empty)) := fun i hi => by
      rw [f0.cell (p := ⟨b, off + i, none⟩) hb (fun f => f)]; exact hc i hi
    clear hc
    go_enter Try.func82, Try.ntmps82
    go_wp2
    go_loopw [8] (fun i wr => ∃ k : Nat, k ≤ n.keys.length ∧ i = .int .i64 k ∧ Hid (∀ x, x < k → kok n.high n.keys x) ∧ Fr (fun _ => False) (w.alloc (.cells #[.int .i64 n.lev, .int .i64 n.lsn, .int .i64 n.rgt, .string n.high, .slice (some ⟨b, off, none⟩) n.keys.length pkc, .slice pv n.vals.length pvc, .slice pi n.kids.length pic] 25)) wr) (fun i _ => n.keys.length - (intOf i).toNat)
    case atStart => exact ⟨0, by omega, rfl, (fun x hx => by omega), Fr.refl _ _⟩
    case round =>
      obtain ⟨k, hk, rfl, HE, hf⟩ := hrel
      obtain ⟨c0, c1, c2, c3, c4, c5, c6⟩ := box_cells (p := ⟨some ⟨b, off, none⟩, pkc, pv, pvc, pi, pic⟩) (box_at w n ⟨some ⟨b, off, none⟩, pkc, pv, pvc, pi, pic⟩ 25 hf)
      simp only at c4 c5 c6
      by_cases hlt : k < n.keys.length
      · have hcell := (hf.cell (p := ⟨b, off + k, none⟩) hb0 (fun f => f)).trans (hc0 k hlt)
        have hsz := hr.text _ (strs_get hlt)
        obtain ⟨s, hs⟩ : ∃ s, s = n.keys.getD k ByteArray.empty := ⟨_, rfl⟩
        rw [← hs] at hcell hsz
        have HS : Hid (s = n.keys.getD k ByteArray.empty) := hs
        have HNO : Hid (¬ kok n.high n.keys k → keysB n = false) := fun h => keysB_no k hlt h
        clear hs
        by_cases h1 : 1 ≤ s.size ∧ s.size ≤ 16
        · have H1 : Hid (1 ≤ s.size ∧ s.size ≤ 16) := h1
          have e1 : ekey s.size = 0 := ekey_ok (by omega) (by omega)
          clear h1
          by_cases hk0 : k = 0
          · have hk0' : ¬ (0 : Int) < (k : Int) := by omega
            have HK0 : Hid (k = 0) := hk0
            clear hk0
            by_cases hh : n.high.size = 0
            · have he := bs_nil hh
              have HH : Hid (n.high.size = 0) := hh
              clear hh
              go_wp2_with fail
              refine (kcheck_any _ _).mono ?_
              rw [e1]
              rintro e w1 ⟨rfl, rfl⟩
              go_wp2
              go_roundw
              case rel =>
                refine ⟨k + 1, by omega, by go_num, fun x hx => ?_, hf⟩
                have e : x = k := by have := HK0.out; omega
                rw [e]
                exact ⟨by rw [← HS.out]; exact H1.out, (fun h => by have := HK0.out; omega), fun h => absurd HH.out h⟩
              case measure => simp [intOf]; omega
            · have he := bs_not_nil hh
              have HH : Hid (¬ n.high.size = 0) := hh
              clear hh
              go_wp2_with fail
              refine (kcheck_any _ _).mono ?_
              rw [e1]
              rintro e w1 ⟨rfl, rfl⟩
              go_wp2_with fail
              refine (compare_any s n.high hsz hhi _).mono ?_
              rintro e w2 ⟨rfl, f2⟩
              go_wp2
              · have hg : 0 ≤ cpl (bsOf s) (bsOf n.high) := by assumption
                go_ret
                exact ⟨ret_bool (HNO.out (fun h => by have := h.2.2 HH.out; rw [← HS.out] at this; omega)).symm, (f0.seq' hf).seq' f2⟩
              · have hg : ¬ 0 ≤ cpl (bsOf s) (bsOf n.high) := by first | assumption | (have : cpl (bsOf s) (bsOf n.high) < 0 := by assumption); omega
                go_roundw
                case rel =>
                  refine ⟨k + 1, by omega, by go_num, fun x hx => ?_, hf.seq' f2⟩
                  have e : x = k := by have := HK0.out; omega
                  rw [e]
                  exact ⟨by rw [← HS.out]; exact H1.out, (fun h => by have := HK0.out; omega), fun h => by rw [← HS.out]; omega⟩
                case measure => simp [intOf]; omega
          · have hcell2 := (hf.cell (p := ⟨b, off + (k - 1), none⟩) hb0 (fun f => f)).trans (hc0 (k - 1) (by omega))
            have hsz2 := hr.text _ (strs_get (i := k - 1) (by omega))
            obtain ⟨t, ht⟩ : ∃ s, s = n.keys.getD (k - 1) ByteArray.empty := ⟨_, rfl⟩
            rw [← ht] at hcell2 hsz2
            have HT : Hid (t = n.keys.getD (k - 1) ByteArray.empty) := ht
            have hk0' : (0 : Int) < (k : Int) := by omega
            clear ht hk0
            go_wp2_with fail
            refine (kcheck_any _ _).mono ?_
            rw [e1]
            rintro e w1 ⟨rfl, rfl⟩
            go_wp2_with fail
            refine (compare_any t s hsz2 hsz _).mono ?_
            rintro e w2 ⟨rfl, f2⟩
            have c3' := (f2.cell (p := ⟨w.heap.size, 3, none⟩) (by have := hf.size; simp at this; show w.heap.size < _; omega) (fun f => f)).trans c3
            by_cases g1 : 0 ≤ cpl (bsOf t) (bsOf s)
            · go_wp2
              go_ret
              exact ⟨ret_bool (HNO.out (fun h => by have := h.2.1 (by omega); rw [← HS.out, ← HT.out] at this; omega)).symm, (f0.seq' hf).seq' f2⟩
            · by_cases hh : n.high.size = 0
              · have he := bs_nil hh
                have HH : Hid (n.high.size = 0) := hh
                have G1 : Hid (¬ 0 ≤ cpl (bsOf t) (bsOf s)) := g1
                clear hh
                go_wp2
                go_roundw
                case rel =>
                  refine ⟨k + 1, by omega, by go_num, fun x hx => ?_, hf.seq' f2⟩
                  rcases Nat.lt_or_ge x k with h | h
                  · exact HE.out x h
                  · have e : x = k := by omega
                    rw [e]
                    exact ⟨by rw [← HS.out]; exact H1.out, (fun h => by rw [← HS.out, ← HT.out]; have := G1.out; omega), fun h => absurd HH.out h⟩
                case measure => simp [intOf]; omega
              · have he := bs_not_nil hh
                have HH : Hid (¬ n.high.size = 0) := hh
                have G1 : Hid (¬ 0 ≤ cpl (bsOf t) (bsOf s)) := g1
                clear hh
                go_wp2_with fail
                refine (compare_any s n.high hsz hhi _).mono ?_
                rintro e w3 ⟨rfl, f3⟩
                go_wp2
                · have hg : 0 ≤ cpl (bsOf s) (bsOf n.high) := by assumption
                  go_ret
                  exact ⟨ret_bool (HNO.out (fun h => by have := h.2.2 HH.out; rw [← HS.out] at this; omega)).symm, ((f0.seq' hf).seq' f2).seq' f3⟩
                · have hg : ¬ 0 ≤ cpl (bsOf s) (bsOf n.high) := by first | assumption | (have : cpl (bsOf s) (bsOf n.high) < 0 := by assumption); omega
                  go_roundw
                  case rel =>
                    refine ⟨k + 1, by omega, by go_num, fun x hx => ?_, (hf.seq' f2).seq' f3⟩
                    rcases Nat.lt_or_ge x k with h | h
                    · exact HE.out x h
                    · have e : x = k := by omega
                      rw [e]
                      exact ⟨by rw [← HS.out]; exact H1.out, (fun h => by rw [← HS.out, ← HT.out]; have := G1.out; omega), fun h => by rw [← HS.out]; omega⟩
                  case measure => simp [intOf]; omega
        · have H1 : Hid (¬ (1 ≤ s.size ∧ s.size ≤ 16)) := h1
          have e1 : ekey s.size = 50 := ekey_no (by omega)
          clear h1
          go_wp2_with fail
          refine (kcheck_any _ _).mono ?_
          rw [e1]
          rintro e w1 ⟨rfl, rfl⟩
          go_wp2
          go_ret
          exact ⟨ret_bool (HNO.out (fun h => H1.out (by rw [HS.out]; exact h.1))).symm, f0.seq' hf⟩
      · go_wp2
        go_ret
        exact ⟨ret_bool (keysB_yes (fun x hx => HE.out x (by omega))).symm, f0.seq' hf⟩

theorem keys_any (n : Nd) (p : Pt) (w : World) (h : Nod w n p) : Calls Try.prog 82 #[(.agg #[.int .i64 n.lev, .int .i64 n.lsn, .int .i64 n.rgt, .string n.high, .slice p.k n.keys.length p.kc, .slice p.v n.vals.length p.vc, .slice p.i n.kids.length p.ic])] w fun e w' => e = .returned (.bool (keysB n)) ∧ Fr (fun _ => False) w w' :=
  keys_any0 n p.k p.kc p.v p.vc p.i p.ic w h

set_option maxRecDepth 100000 in
set_option maxHeartbeats 1000000 in
theorem ent_any (n : Nd) (p : Pt) (w : World) (h : Nod w n p) : Calls Try.prog 83 #[(.agg #[.int .i64 n.lev, .int .i64 n.lsn, .int .i64 n.rgt, .string n.high, .slice p.k n.keys.length p.kc, .slice p.v n.vals.length p.vc, .slice p.i n.kids.length p.ic])] w fun e w' => e = .returned (.bool (entB n)) ∧ Fr (fun _ => False) w w' := by
  have f1 := (Fr.box w (.cells #[.int .i64 n.lev, .int .i64 n.lsn, .int .i64 n.rgt, .string n.high, .slice p.k n.keys.length p.kc, .slice p.v n.vals.length p.vc, .slice p.i n.kids.length p.ic] 25)).alloc (.cells #[.int .i64 n.lev, .int .i64 n.lsn, .int .i64 n.rgt, .string n.high, .slice p.k n.keys.length p.kc, .slice p.v n.vals.length p.vc, .slice p.i n.kids.length p.ic] 25)
  have hb := h.same f1
  have hil := h.ilen
  have hkl := h.klen
  by_cases h0 : n.lev = 0
  · have e0 : (n.lev == 0) = true := by simp [h0]
    by_cases a1 : n.vals.length = n.keys.length
    · have a1' : ((n.vals.length : Int) == (n.keys.length : Int)) = true := by simp [a1]
      by_cases a2 : n.kids.length = 0
      · have a2' : ((n.kids.length : Int) == 0) = true := by simp [a2]
        have HE : Hid (entB n = valsB n.vals) := by show entB n = _; unfold entB; rw [if_pos h0]; simp [a1, a2]
        clear h0 a1 a2
        go_enter Try.func83, Try.ntmps83
        go_wp2_with fail
        refine (isLeaf_any n p _).mono ?_
        rintro e w1 ⟨rfl, rfl⟩
        go_wp2_with fail
        refine (vals_any _ _ _ n.vals rfl _ hb.vals).mono ?_
        rintro e w2 ⟨rfl, rfl⟩
        go_wp2
        go_ret
        exact ⟨ret_bool HE.out.symm, f1⟩
      · have a2' : ((n.kids.length : Int) == 0) = false := by rw [beq_eq_false_iff_ne]; omega
        have HE : Hid (entB n = false) := by show entB n = _; unfold entB; rw [if_pos h0]; simp [a2]
        clear h0 a1 a2
        go_enter Try.func83, Try.ntmps83
        go_wp2_with fail
        refine (isLeaf_any n p _).mono ?_
        rintro e w1 ⟨rfl, rfl⟩
        go_wp2
        go_ret
        exact ⟨ret_bool HE.out.symm, f1⟩
    · have a1' : ((n.vals.length : Int) == (n.keys.length : Int)) = false := by rw [beq_eq_false_iff_ne]; omega
      have HE : Hid (entB n = false) := by show entB n = _; unfold entB; rw [if_pos h0]; simp [a1]
      clear h0 a1
      go_enter Try.func83, Try.ntmps83
      go_wp2_with fail
      refine (isLeaf_any n p _).mono ?_
      rintro e w1 ⟨rfl, rfl⟩
      go_wp2
      go_ret
      exact ⟨ret_bool HE.out.symm, f1⟩
  · have e0 : (n.lev == 0) = false := by simpa using h0
    by_cases a1 : n.kids.length = n.keys.length + 1
    · have a1' : ((n.kids.length : Int) == (n.keys.length : Int) + 1) = true := by simp [a1]
      by_cases a2 : n.vals.length = 0
      · have a2' : ((n.vals.length : Int) == 0) = true := by simp [a2]
        have HE : Hid (entB n = kidsB n.kids) := by show entB n = _; unfold entB; rw [if_neg h0]; simp [a1, a2]
        clear h0 a1 a2
        go_enter Try.func83, Try.ntmps83
        go_wp2_with fail
        refine (isLeaf_any n p _).mono ?_
        rintro e w1 ⟨rfl, rfl⟩
        go_wp2_with fail
        refine (kids_any _ _ _ n.kids rfl _ hb.kids).mono ?_
        rintro e w2 ⟨rfl, rfl⟩
        go_wp2
        go_ret
        exact ⟨ret_bool HE.out.symm, f1⟩
      · have a2' : ((n.vals.length : Int) == 0) = false := by rw [beq_eq_false_iff_ne]; omega
        have HE : Hid (entB n = false) := by show entB n = _; unfold entB; rw [if_neg h0]; simp [a2]
        clear h0 a1 a2
        go_enter Try.func83, Try.ntmps83
        go_wp2_with fail
        refine (isLeaf_any n p _).mono ?_
        rintro e w1 ⟨rfl, rfl⟩
        go_wp2
        go_ret
        exact ⟨ret_bool HE.out.symm, f1⟩
    · have a1' : ((n.kids.length : Int) == (n.keys.length : Int) + 1) = false := by rw [beq_eq_false_iff_ne]; omega
      have HE : Hid (entB n = false) := by show entB n = _; unfold entB; rw [if_neg h0]; simp [a1]
      clear h0 a1
      go_enter Try.func83, Try.ntmps83
      go_wp2_with fail
      refine (isLeaf_any n p _).mono ?_
      rintro e w1 ⟨rfl, rfl⟩
      go_wp2
      go_ret
      exact ⟨ret_bool HE.out.symm, f1⟩
end Go.Proofs.Ytaaedmacefiinaa
