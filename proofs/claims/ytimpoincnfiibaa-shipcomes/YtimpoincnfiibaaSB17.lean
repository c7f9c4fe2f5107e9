
/- PgRef2, PgRef3. -/
import Derived.Test.YtimpoincnfiibaaSB4
/- What the document's own Right and Check tell. -/
namespace Go.Proofs.Ytimpoincnfiibaa
open Go.RowKit

set_option maxRecDepth 100000 in
set_option maxHeartbeats 400000 in
theorem rright_a (n : Nd) (pk : Option Addr) (pkc : Nat) (pv : Option Addr) (pvc : Nat) (pi : Option Addr) (pic : Nat) (w : World) (h : n.lev < 0)  :
    Calls Try.prog 56 #[(.agg #[.int .i64 n.lev, .int .i64 n.lsn, .int .i64 n.rgt, .string n.high, .slice pk n.keys.length pkc, .slice pv n.vals.length pvc, .slice pi n.kids.length pic])] w fun e w' => e = .returned (.bool false) ∧ Fr (fun _ => False) w w' := by
  have f0 := Fr.box w (.cells #[.int .i64 n.lev, .int .i64 n.lsn, .int .i64 n.rgt, .string n.high, .slice pk n.keys.length pkc, .slice pv n.vals.length pvc, .slice pi n.kids.length pic] 79)
  go_enter Try.func56, Try.ntmps56
  go_wp2
  go_ret
  exact ⟨rfl, f0⟩
set_option maxRecDepth 100000 in
set_option maxHeartbeats 400000 in
theorem rright_b (n : Nd) (pk : Option Addr) (pkc : Nat) (pv : Option Addr) (pvc : Nat) (pi : Option Addr) (pic : Nat) (w : World) (h : 20 < n.lev) (h0 : ¬ n.lev < 0) :
    Calls Try.prog 56 #[(.agg #[.int .i64 n.lev, .int .i64 n.lsn, .int .i64 n.rgt, .string n.high, .slice pk n.keys.length pkc, .slice pv n.vals.length pvc, .slice pi n.kids.length pic])] w fun e w' => e = .returned (.bool false) ∧ Fr (fun _ => False) w w' := by
  have f0 := Fr.box w (.cells #[.int .i64 n.lev, .int .i64 n.lsn, .int .i64 n.rgt, .string n.high, .slice pk n.keys.length pkc, .slice pv n.vals.length pvc, .slice pi n.kids.length pic] 79)
  go_enter Try.func56, Try.ntmps56
  go_wp2
  go_ret
  exact ⟨rfl, f0⟩
set_option maxRecDepth 100000 in
set_option maxHeartbeats 400000 in
theorem rright_c (n : Nd) (pk : Option Addr) (pkc : Nat) (pv : Option Addr) (pvc : Nat) (pi : Option Addr) (pic : Nat) (w : World) (h : n.lsn < 0) (h0 : ¬ n.lev < 0) (h1 : ¬ 20 < n.lev) :
    Calls Try.prog 56 #[(.agg #[.int .i64 n.lev, .int .i64 n.lsn, .int .i64 n.rgt, .string n.high, .slice pk n.keys.length pkc, .slice pv n.vals.length pvc, .slice pi n.kids.length pic])] w fun e w' => e = .returned (.bool false) ∧ Fr (fun _ => False) w w' := by
  have f0 := Fr.box w (.cells #[.int .i64 n.lev, .int .i64 n.lsn, .int .i64 n.rgt, .string n.high, .slice pk n.keys.length pkc, .slice pv n.vals.length pvc, .slice pi n.kids.length pic] 79)
  go_enter Try.func56, Try.ntmps56
  go_wp2
  go_ret
  exact ⟨rfl, f0⟩
set_option maxRecDepth 100000 in
set_option maxHeartbeats 400000 in
theorem rright_d (n : Nd) (pk : Option Addr) (pkc : Nat) (pv : Option Addr) (pvc : Nat) (pi : Option Addr) (pic : Nat) (w : World) (h : 1099511627776 < n.lsn) (h0 : ¬ n.lev < 0) (h1 : ¬ 20 < n.lev) (h2 : ¬ n.lsn < 0) :
    Calls Try.prog 56 #[(.agg #[.int .i64 n.lev, .int .i64 n.lsn, .int .i64 n.rgt, .string n.high, .slice pk n.keys.length pkc, .slice pv n.vals.length pvc, .slice pi n.kids.length pic])] w fun e w' => e = .returned (.bool false) ∧ Fr (fun _ => False) w w' := by
  have f0 := Fr.box w (.cells #[.int .i64 n.lev, .int .i64 n.lsn, .int .i64 n.rgt, .string n.high, .slice pk n.keys.length pkc, .slice pv n.vals.length pvc, .slice pi n.kids.length pic] 79)
  go_enter Try.func56, Try.ntmps56
  go_wp2
  go_ret
  exact ⟨rfl, f0⟩
set_option maxRecDepth 100000 in
set_option maxHeartbeats 400000 in
theorem rright_e (n : Nd) (pk : Option Addr) (pkc : Nat) (pv : Option Addr) (pvc : Nat) (pi : Option Addr) (pic : Nat) (w : World) (h : n.rgt < 0) (h0 : ¬ n.lev < 0) (h1 : ¬ 20 < n.lev) (h2 : ¬ n.lsn < 0) (h3 : ¬ 1099511627776 < n.lsn) :
    Calls Try.prog 56 #[(.agg #[.int .i64 n.lev, .int .i64 n.lsn, .int .i64 n.rgt, .string n.high, .slice pk n.keys.length pkc, .slice pv n.vals.length pvc, .slice pi n.kids.length pic])] w fun e w' => e = .returned (.bool false) ∧ Fr (fun _ => False) w w' := by
  have f0 := Fr.box w (.cells #[.int .i64 n.lev, .int .i64 n.lsn, .int .i64 n.rgt, .string n.high, .slice pk n.keys.length pkc, .slice pv n.vals.length pvc, .slice pi n.kids.length pic] 79)
  go_enter Try.func56, Try.ntmps56
  go_wp2
  go_ret
  exact ⟨rfl, f0⟩
set_option maxRecDepth 100000 in
set_option maxHeartbeats 400000 in
theorem rright_f (n : Nd) (pk : Option Addr) (pkc : Nat) (pv : Option Addr) (pvc : Nat) (pi : Option Addr) (pic : Nat) (w : World) (h : 4096 < n.rgt) (h0 : ¬ n.lev < 0) (h1 : ¬ 20 < n.lev) (h2 : ¬ n.lsn < 0) (h3 : ¬ 1099511627776 < n.lsn) (h4 : ¬ n.rgt < 0) :
    Calls Try.prog 56 #[(.agg #[.int .i64 n.lev, .int .i64 n.lsn, .int .i64 n.rgt, .string n.high, .slice pk n.keys.length pkc, .slice pv n.vals.length pvc, .slice pi n.kids.length pic])] w fun e w' => e = .returned (.bool false) ∧ Fr (fun _ => False) w w' := by
  have f0 := Fr.box w (.cells #[.int .i64 n.lev, .int .i64 n.lsn, .int .i64 n.rgt, .string n.high, .slice pk n.keys.length pkc, .slice pv n.vals.length pvc, .slice pi n.kids.length pic] 79)
  go_enter Try.func56, Try.ntmps56
  go_wp2
  go_ret
  exact ⟨rfl, f0⟩
set_option maxRecDepth 100000 in
set_option maxHeartbeats 400000 in
theorem rright_g (n : Nd) (pk : Option Addr) (pkc : Nat) (pv : Option Addr) (pvc : Nat) (pi : Option Addr) (pic : Nat) (w : World) (h0 : ¬ n.lev < 0) (h1 : ¬ 20 < n.lev) (h2 : ¬ n.lsn < 0) (h3 : ¬ 1099511627776 < n.lsn) (h4 : ¬ n.rgt < 0) (h5 : ¬ 4096 < n.rgt) (h : 16 < n.high.size) :
    Calls Try.prog 56 #[(.agg #[.int .i64 n.lev, .int .i64 n.lsn, .int .i64 n.rgt, .string n.high, .slice pk n.keys.length pkc, .slice pv n.vals.length pvc, .slice pi n.kids.length pic])] w fun e w' => e = .returned (.bool false) ∧ Fr (fun _ => False) w w' := by
  have f0 := Fr.box w (.cells #[.int .i64 n.lev, .int .i64 n.lsn, .int .i64 n.rgt, .string n.high, .slice pk n.keys.length pkc, .slice pv n.vals.length pvc, .slice pi n.kids.length pic] 79)
  have he := bs_not_nil (s := n.high) (by omega)
  have e1 : ekey n.high.size = 50 := ekey_no (.inr h)
  clear h
  go_enter Try.func56, Try.ntmps56
  go_wp2_with fail
  refine (rcheck_any _ _).mono ?_
  rw [e1]
  rintro e w1 ⟨rfl, rfl⟩
  go_wp2
  go_ret
  exact ⟨rfl, f0⟩
/-- What stands behind the keys is decided by the entries and the size. -/
theorem right_rest {n : Nd} (h1 : headB n = true) (h2 : keysB n = true) : rightB n = (entB n && decide (sizeN n ≤ 256)) := by
  unfold rightB; rw [h1, h2]; simp
theorem right_keys {n : Nd} (h2 : keysB n = false) : rightB n = false := by
  unfold rightB; rw [h2]; simp
theorem right_ent {n : Nd} (h2 : entB n = false) : rightB n = false := by
  unfold rightB; rw [h2]; simp
theorem right_all {n : Nd} (h1 : headB n = true) (h2 : keysB n = true) (h3 : entB n = true) : rightB n = decide (sizeN n ≤ 256) := by
  rw [right_rest h1 h2, h3]; simp
theorem right_is {w : World} {n : Nd} {p : Pt} (h : Nod w n p) (h1 : headB n = true) (h2 : keysB n = true) (h3 : entB n = true) : rightB n = decide (wrap64 ((sizeN n : Nat) : Int) ≤ 256) := by
  rw [right_all h1 h2 h3, wrap_id (small_size h h1 h2 h3), Bool.eq_iff_iff]; simp; omega

set_option maxRecDepth 100000 in
set_option maxHeartbeats 4000000 in
theorem rright_h (n : Nd) (pk : Option Addr) (pkc : Nat) (pv : Option Addr) (pvc : Nat) (pi : Option Addr) (pic : Nat) (w : World) (h0 : ¬ n.lev < 0) (h1 : ¬ 20 < n.lev) (h2 : ¬ n.lsn < 0) (h3 : ¬ 1099511627776 < n.lsn) (h4 : ¬ n.rgt < 0) (h5 : ¬ 4096 < n.rgt) (h : Nod w n ⟨pk, pkc, pv, pvc, pi, pic⟩) (h0 : n.high.size = 0) (H0 : headB n = true) :
    Calls Try.prog 56 #[(.agg #[.int .i64 n.lev, .int .i64 n.lsn, .int .i64 n.rgt, .string n.high, .slice pk n.keys.length pkc, .slice pv n.vals.length pvc, .slice pi n.kids.length pic])] w fun e w' => e = .returned (.bool (rightB n)) ∧ Fr (fun _ => False) w w' := by
  have HH0 : Hid (headB n = true) := H0
  clear H0
  have f0 := Fr.box w (.cells #[.int .i64 n.lev, .int .i64 n.lsn, .int .i64 n.rgt, .string n.high, .slice pk n.keys.length pkc, .slice pv n.vals.length pvc, .slice pi n.kids.length pic] 79)
  have hkl := h.klen
  have hvl := h.vlen
  have hil := h.ilen
  have hhi : n.high.size ≤ maxLen := by have := h.high; unfold maxLen; omega
  have hk := (h.same f0).keys
  have hv := (h.same f0).vals
  have hi := (h.same f0).kids
  have hkc := hk.le
  have hkm := hk.max
  have hvc := hv.le
  have hvm := hv.max
  have hic := hi.le
  have him := hi.max
  simp only at hkc hkm hvc hvm hic him
  have HT : Hid (∀ s ∈ n.keys, s.size ≤ maxLen) := h.keys.text
  have he := bs_nil (s := n.high) h0
  have HH : Hid (n.high.size = 0) := h0
  clear h0
  go_enter Try.func56, Try.ntmps56
  go_wp2
  go_loopw [51] (fun i wr => ∃ k : Nat, k ≤ n.keys.length ∧ i = .int .i64 k ∧ Hid (∀ x, x < k → kok n.high n.keys x) ∧ Fr (fun _ => False) (w.alloc (.cells #[.int .i64 n.lev, .int .i64 n.lsn, .int .i64 n.rgt, .string n.high, .slice pk n.keys.length pkc, .slice pv n.vals.length pvc, .slice pi n.kids.length pic] 79)) wr) (fun i _ => n.keys.length - (intOf i).toNat)
  case atStart => exact ⟨0, by omega, rfl, (fun x hx => by omega), Fr.refl _ _⟩
  case round =>
    obtain ⟨k, hkk, rfl, HE, hf⟩ := hrel
    obtain ⟨c0, c1, c2, c3, c4, c5, c6⟩ := box_cells (p := ⟨pk, pkc, pv, pvc, pi, pic⟩) (box_at w n ⟨pk, pkc, pv, pvc, pi, pic⟩ 79 hf)
    simp only at c4 c5 c6
    by_cases hlt : k < n.keys.length
    · have hr := hk.same hf
      obtain ⟨b, off, ee, hb, hc⟩ := strs_some hr hlt
      have hcell := hc k hlt
      have hsz := HT.out _ (strs_get hlt)
      obtain ⟨s, hs⟩ : ∃ s, s = n.keys.getD k ByteArray.empty := ⟨_, rfl⟩
      rw [← hs] at hcell hsz
      have HS : Hid (s = n.keys.getD k ByteArray.empty) := hs
      have HNO : Hid (¬ kok n.high n.keys k → rightB n = false) := fun h => right_keys (keysB_no k hlt h)
      have hcell2 : 0 < k → wr.cell? ⟨b, off + (k - 1), none⟩ = some (.string (n.keys.getD (k - 1) ByteArray.empty)) := fun _ => hc (k - 1) (by omega)
      have hsz2 : 0 < k → (n.keys.getD (k - 1) ByteArray.empty).size ≤ maxLen := fun _ => HT.out _ (strs_get (by omega))
      obtain ⟨t, ht⟩ : ∃ s, s = n.keys.getD (k - 1) ByteArray.empty := ⟨_, rfl⟩
      rw [← ht] at hcell2 hsz2
      have HTT : Hid (t = n.keys.getD (k - 1) ByteArray.empty) := ht
      clear hs ht hc hr
      subst ee
      by_cases h1 : 1 ≤ s.size ∧ s.size ≤ 16
      · have H1 : Hid (1 ≤ s.size ∧ s.size ≤ 16) := h1
        have e1 : ekey s.size = 0 := ekey_ok (by omega) (by omega)
        clear h1
        go_wp2_with fail
        refine (rcheck_any _ _).mono ?_
        rw [e1]
        rintro e w1 ⟨rfl, rfl⟩
        by_cases k0 : 0 < k
        · have k0' : (0 : Int) < (k : Int) := by omega
          have hc3 := hcell2 k0
          have hs3 := hsz2 k0
          go_wp2_with fail
          refine (rcompare_any t s hs3 hsz _).mono ?_
          rintro e w3 ⟨rfl, f3⟩
          by_cases g1 : 0 ≤ cpl (bsOf t) (bsOf s)
          · go_wp2
            go_ret
            exact ⟨ret_bool (HNO.out (fun h => by have := h.2.1 (by omega); rw [← HS.out, ← HTT.out] at this; omega)).symm, (f0.seq' hf).seq' f3⟩
          · have G1 : Hid (¬ 0 ≤ cpl (bsOf t) (bsOf s)) := g1
            go_wp2
            go_roundw
            case rel =>
              refine ⟨k + 1, by omega, by go_num, fun x hx => ?_, hf.seq' f3⟩
              rcases Nat.lt_or_ge x k with h | h
              · exact HE.out x h
              · have e : x = k := by omega
                rw [e]
                exact ⟨by rw [← HS.out]; exact H1.out, (fun h => by rw [← HS.out, ← HTT.out]; have := G1.out; omega), (fun h => absurd HH.out h)⟩
            case measure => simp [intOf]; omega
        · have k0' : ¬ (0 : Int) < (k : Int) := by omega
          have K0 : Hid (¬ 0 < k) := k0
          go_wp2
          go_roundw
          case rel =>
            refine ⟨k + 1, by omega, by go_num, fun x hx => ?_, hf⟩
            rcases Nat.lt_or_ge x k with h | h
            · exact HE.out x h
            · have e : x = k := by omega
              rw [e]
              exact ⟨by rw [← HS.out]; exact H1.out, (fun h => absurd h K0.out), (fun h => absurd HH.out h)⟩
          case measure => simp [intOf]; omega
      · have H1 : Hid (¬ (1 ≤ s.size ∧ s.size ≤ 16)) := h1
        have e1 : ekey s.size = 50 := ekey_no (by omega)
        clear h1
        go_wp2_with fail
        refine (rcheck_any _ _).mono ?_
        rw [e1]
        rintro e w1 ⟨rfl, rfl⟩
        go_wp2
        go_ret
        exact ⟨ret_bool (HNO.out (fun h => H1.out (by rw [HS.out]; exact h.1))).symm, f0.seq' hf⟩
    · have HK : Hid (keysB n = true) := keysB_yes (fun x hx => HE.out x (by omega))
      clear HE
      by_cases l0 : n.lev = 0
      · have e0 : (n.lev == 0) = true := by simp [l0]
        have HB : Hid (entB n = ((n.vals.length == n.keys.length) && ((n.kids.length == 0) && valsB n.vals))) := by show entB n = _; unfold entB; rw [if_pos l0]
        clear l0
        by_cases a1 : n.vals.length = n.keys.length
        · have a1' : ((n.vals.length : Int) != (n.keys.length : Int)) = false := by simp [a1]
          by_cases a2 : n.kids.length = 0
          · have a2' : ¬ (0 : Int) < (n.kids.length : Int) := by omega
            have HB2 : Hid (entB n = valsB n.vals) := by show _ = _; rw [HB.out]; simp [a1, a2]
            clear a1 a2
            go_wp2
            go_loop [104] (fun i => ∃ j : Nat, j ≤ n.vals.length ∧ i = .int .i64 j ∧ Hid (∀ x, x < j → (n.vals.getD x ByteArray.empty).size ≤ 32)) (fun i => n.vals.length - (intOf i).toNat)
            case atStart => exact ⟨0, by omega, rfl, fun x hx => by omega⟩
            case round =>
              obtain ⟨j, hjj, rfl, HV⟩ := hrel
              by_cases hlj : j < n.vals.length
              · obtain ⟨b, off, ee, hb, hc⟩ := strs_some (hv.same hf) hlj
                have hcell := hc j hlj
                obtain ⟨s, hs⟩ : ∃ s, s = n.vals.getD j ByteArray.empty := ⟨_, rfl⟩
                rw [← hs] at hcell
                have HS : Hid (s = n.vals.getD j ByteArray.empty) := hs
                clear hs hc
                subst ee
                by_cases h1 : s.size ≤ 32
                · have e1 : evalu s.size = 0 := if_neg (by omega)
                  go_wp2_with fail
                  refine (rvalue_any _ _).mono ?_
                  rw [e1]
                  rintro e w1 ⟨rfl, rfl⟩
                  go_wp2
                  go_round
                  case rel =>
                    refine ⟨j + 1, by omega, by go_num, fun x hx => ?_⟩
                    rcases Nat.lt_or_ge x j with h | h
                    · exact HV.out x h
                    · have e : x = j := by omega
                      rw [e, ← HS.out]; omega
                  case measure => simp [intOf]; omega
                · have e1 : evalu s.size = 51 := if_pos (by omega)
                  have HN : Hid (rightB n = false) := right_ent (by rw [HB2.out]; exact valsB_no j hlj (by rw [← HS.out]; exact h1))
                  go_wp2_with fail
                  refine (rvalue_any _ _).mono ?_
                  rw [e1]
                  rintro e w1 ⟨rfl, rfl⟩
                  go_wp2
                  go_ret
                  exact ⟨ret_bool HN.out.symm, f0.seq' hf⟩
              · have HN : Hid (rightB n = decide (wrap64 ((sizeN n : Nat) : Int) ≤ 256)) := right_is h HH0.out HK.out (by rw [HB2.out]; exact valsB_yes (fun x hx => HV.out x (by omega)))
                go_wp2_with fail
                refine (rsize_any0 n pk pkc pv pvc pi pic _ (h.same (f0.seq' hf))).mono ?_
                rintro e w5 ⟨rfl, f5⟩
                go_wp2
                go_ret
                exact ⟨ret_bool HN.out.symm, (f0.seq' hf).seq' f5⟩
          · have a2' : (0 : Int) < (n.kids.length : Int) := by omega
            have HN : Hid (rightB n = false) := right_ent (by rw [HB.out]; simp [a2])
            clear a1 a2
            go_wp2
            go_ret
            exact ⟨ret_bool HN.out.symm, f0.seq' hf⟩
        · have a1' : ((n.vals.length : Int) != (n.keys.length : Int)) = true := by rw [bne_iff_ne]; omega
          have HN : Hid (rightB n = false) := right_ent (by rw [HB.out]; simp [a1])
          clear a1
          go_wp2
          go_ret
          exact ⟨ret_bool HN.out.symm, f0.seq' hf⟩
      · have e0 : (n.lev == 0) = false := by simpa using l0
        have HB : Hid (entB n = ((n.kids.length == n.keys.length + 1) && ((n.vals.length == 0) && kidsB n.kids))) := by show entB n = _; unfold entB; rw [if_neg l0]
        clear l0
        by_cases a1 : n.kids.length = n.keys.length + 1
        · have a1' : ((n.kids.length : Int) != (n.keys.length : Int) + 1) = false := by simp [a1]
          by_cases a2 : n.vals.length = 0
          · have a2' : ¬ (0 : Int) < (n.vals.length : Int) := by omega
            have HB2 : Hid (entB n = kidsB n.kids) := by show _ = _; rw [HB.out]; simp [a1, a2]
            clear a1 a2
            go_wp2
            go_loop [129] (fun i => ∃ j : Nat, j ≤ n.kids.length ∧ i = .int .i64 j ∧ Hid (∀ x, x < j → wthB (n.kids.getD x 0) 1 4096 = true)) (fun i => n.kids.length - (intOf i).toNat)
            case atStart => exact ⟨0, by omega, rfl, fun x hx => by omega⟩
            case round =>
              obtain ⟨j, hjj, rfl, HV⟩ := hrel
              by_cases hlj : j < n.kids.length
              · obtain ⟨b, off, ee, hb, hc⟩ := ints_some (hi.same hf) hlj
                have hcell := hc j hlj
                obtain ⟨s, hs⟩ : ∃ s, s = n.kids.getD j 0 := ⟨_, rfl⟩
                rw [← hs] at hcell
                have HS : Hid (s = n.kids.getD j 0) := hs
                have HNO : Hid (wthB s 1 4096 = false → rightB n = false) := fun h => right_ent (by rw [HB2.out]; exact kidsB_no j hlj (by rw [← hs, h]; simp))
                clear hs hc
                subst ee
                by_cases s1 : s < 1
                · go_wp2
                  go_ret
                  exact ⟨ret_bool (HNO.out (by simp [wthB]; omega)).symm, f0.seq' hf⟩
                · by_cases s2 : 4096 < s
                  · go_wp2
                    go_ret
                    exact ⟨ret_bool (HNO.out (by simp [wthB]; omega)).symm, f0.seq' hf⟩
                  · have S1 : Hid (wthB s 1 4096 = true) := by show wthB s 1 4096 = true; simp [wthB]; omega
                    go_wp2
                    go_round
                    case rel =>
                      refine ⟨j + 1, by omega, by go_num, fun x hx => ?_⟩
                      rcases Nat.lt_or_ge x j with h | h
                      · exact HV.out x h
                      · have e : x = j := by omega
                        rw [e, ← HS.out]; exact S1.out
                    case measure => simp [intOf]; omega
              · have HN : Hid (rightB n = decide (wrap64 ((sizeN n : Nat) : Int) ≤ 256)) := right_is h HH0.out HK.out (by rw [HB2.out]; exact kidsB_yes (fun x hx => HV.out x (by omega)))
                go_wp2_with fail
                refine (rsize_any0 n pk pkc pv pvc pi pic _ (h.same (f0.seq' hf))).mono ?_
                rintro e w5 ⟨rfl, f5⟩
                go_wp2
                go_ret
                exact ⟨ret_bool HN.out.symm, (f0.seq' hf).seq' f5⟩
          · have a2' : (0 : Int) < (n.vals.length : Int) := by omega
            have HN : Hid (rightB n = false) := right_ent (by rw [HB.out]; simp [a2])
            clear a1 a2
            go_wp2
            go_ret
            exact ⟨ret_bool HN.out.symm, f0.seq' hf⟩
        · have a1' : ((n.kids.length : Int) != (n.keys.length : Int) + 1) = true := by rw [bne_iff_ne]; omega
          have HN : Hid (rightB n = false) := right_ent (by rw [HB.out]; simp [a1])
          clear a1
          go_wp2
          go_ret
          exact ⟨ret_bool HN.out.symm, f0.seq' hf⟩
end Go.Proofs.Ytimpoincnfiibaa

/- What the document's own Right and Check tell, of a node with a bound. -/
namespace Go.Proofs.Ytimpoincnfiibaa
open Go.RowKit

set_option maxRecDepth 100000 in
set_option maxHeartbeats 4000000 in
theorem rright_i (n : Nd) (pk : Option Addr) (pkc : Nat) (pv : Option Addr) (pvc : Nat) (pi : Option Addr) (pic : Nat) (w : World) (h0 : ¬ n.lev < 0) (h1 : ¬ 20 < n.lev) (h2 : ¬ n.lsn < 0) (h3 : ¬ 1099511627776 < n.lsn) (h4 : ¬ n.rgt < 0) (h5 : ¬ 4096 < n.rgt) (h : Nod w n ⟨pk, pkc, pv, pvc, pi, pic⟩) (h0 : n.high.size ≠ 0) (h16 : n.high.size ≤ 16) (H0 : headB n = true) :
    Calls Try.prog 56 #[(.agg #[.int .i64 n.lev, .int .i64 n.lsn, .int .i64 n.rgt, .string n.high, .slice pk n.keys.length pkc, .slice pv n.vals.length pvc, .slice pi n.kids.length pic])] w fun e w' => e = .returned (.bool (rightB n)) ∧ Fr (fun _ => False) w w' := by
  have HH0 : Hid (headB n = true) := H0
  clear H0
  have f0 := Fr.box w (.cells #[.int .i64 n.lev, .int .i64 n.lsn, .int .i64 n.rgt, .string n.high, .slice pk n.keys.length pkc, .slice pv n.vals.length pvc, .slice pi n.kids.length pic] 79)
  have hkl := h.klen
  have hvl := h.vlen
  have hil := h.ilen
  have hhi : n.high.size ≤ maxLen := by have := h.high; unfold maxLen; omega
  have hk := (h.same f0).keys
  have hv := (h.same f0).vals
  have hi := (h.same f0).kids
  have hkc := hk.le
  have hkm := hk.max
  have hvc := hv.le
  have hvm := hv.max
  have hic := hi.le
  have him := hi.max
  simp only at hkc hkm hvc hvm hic him
  have HT : Hid (∀ s ∈ n.keys, s.size ≤ maxLen) := h.keys.text
  have he := bs_not_nil (s := n.high) h0
  have HH : Hid (n.high.size ≠ 0) := h0
  have e1 : ekey n.high.size = 0 := ekey_ok h0 h16
  clear h0
  go_enter Try.func56, Try.ntmps56
  go_wp2_with fail
  refine (rcheck_any _ _).mono ?_
  rw [e1]
  rintro e w1 ⟨rfl, rfl⟩
  go_wp2
  go_loopw [51] (fun i wr => ∃ k : Nat, k ≤ n.keys.length ∧ i = .int .i64 k ∧ Hid (∀ x, x < k → kok n.high n.keys x) ∧ Fr (fun _ => False) (w.alloc (.cells #[.int .i64 n.lev, .int .i64 n.lsn, .int .i64 n.rgt, .string n.high, .slice pk n.keys.length pkc, .slice pv n.vals.length pvc, .slice pi n.kids.length pic] 79)) wr) (fun i _ => n.keys.length - (intOf i).toNat)
  case atStart => exact ⟨0, by omega, rfl, (fun x hx => by omega), Fr.refl _ _⟩
  case round =>
    obtain ⟨k, hkk, rfl, HE, hf⟩ := hrel
    obtain ⟨c0, c1, c2, c3, c4, c5, c6⟩ := box_cells (p := ⟨pk, pkc, pv, pvc, pi, pic⟩) (box_at w n ⟨pk, pkc, pv, pvc, pi, pic⟩ 79 hf)
    simp only at c4 c5 c6
    by_cases hlt : k < n.keys.length
    · have hr := hk.same hf
      obtain ⟨b, off, ee, hb, hc⟩ := strs_some hr hlt
      have hcell := hc k hlt
      have hsz := HT.out _ (strs_get hlt)
      obtain ⟨s, hs⟩ : ∃ s, s = n.keys.getD k ByteArray.empty := ⟨_, rfl⟩
      rw [← hs] at hcell hsz
      have HS : Hid (s = n.keys.getD k ByteArray.empty) := hs
      have HNO : Hid (¬ kok n.high n.keys k → rightB n = false) := fun h => right_keys (keysB_no k hlt h)
      have hcell2 : 0 < k → wr.cell? ⟨b, off + (k - 1), none⟩ = some (.string (n.keys.getD (k - 1) ByteArray.empty)) := fun _ => hc (k - 1) (by omega)
      have hsz2 : 0 < k → (n.keys.getD (k - 1) ByteArray.empty).size ≤ maxLen := fun _ => HT.out _ (strs_get (by omega))
      obtain ⟨t, ht⟩ : ∃ s, s = n.keys.getD (k - 1) ByteArray.empty := ⟨_, rfl⟩
      rw [← ht] at hcell2 hsz2
      have HTT : Hid (t = n.keys.getD (k - 1) ByteArray.empty) := ht
      clear hs ht hc hr
      subst ee
      by_cases h1 : 1 ≤ s.size ∧ s.size ≤ 16
      · have H1 : Hid (1 ≤ s.size ∧ s.size ≤ 16) := h1
        have e1 : ekey s.size = 0 := ekey_ok (by omega) (by omega)
        clear h1
        go_wp2_with fail
        refine (rcheck_any _ _).mono ?_
        rw [e1]
        rintro e w1 ⟨rfl, rfl⟩
        go_wp2_with fail
        refine (rcompare_any s n.high hsz hhi _).mono ?_
        rintro e w2 ⟨rfl, f2⟩
        have c4' := (f2.cell (p := ⟨w.heap.size, 4, none⟩) (by have := hf.size; simp at this; show w.heap.size < _; omega) (fun f => f)).trans c4
        have hcell3 := fun q => (f2.cell (p := ⟨b, off + (k - 1), none⟩) hb (fun f => f)).trans (hcell2 q)
        by_cases g0 : 0 ≤ cpl (bsOf s) (bsOf n.high)
        · go_wp2
          go_ret
          exact ⟨ret_bool (HNO.out (fun h => by have := h.2.2 HH.out; rw [← HS.out] at this; omega)).symm, (f0.seq' hf).seq' f2⟩
        · have G0 : Hid (¬ 0 ≤ cpl (bsOf s) (bsOf n.high)) := g0
          by_cases k0 : 0 < k
          · have k0' : (0 : Int) < (k : Int) := by omega
            have hc3 := hcell3 k0
            have hs3 := hsz2 k0
            go_wp2_with fail
            refine (rcompare_any t s hs3 hsz _).mono ?_
            rintro e w3 ⟨rfl, f3⟩
            by_cases g1 : 0 ≤ cpl (bsOf t) (bsOf s)
            · go_wp2
              go_ret
              exact ⟨ret_bool (HNO.out (fun h => by have := h.2.1 (by omega); rw [← HS.out, ← HTT.out] at this; omega)).symm, ((f0.seq' hf).seq' f2).seq' f3⟩
            · have G1 : Hid (¬ 0 ≤ cpl (bsOf t) (bsOf s)) := g1
              go_wp2
              go_roundw
              case rel =>
                refine ⟨k + 1, by omega, by go_num, fun x hx => ?_, (hf.seq' f2).seq' f3⟩
                rcases Nat.lt_or_ge x k with h | h
                · exact HE.out x h
                · have e : x = k := by omega
                  rw [e]
                  exact ⟨by rw [← HS.out]; exact H1.out, (fun h => by rw [← HS.out, ← HTT.out]; have := G1.out; omega), (fun h => by rw [← HS.out]; have := G0.out; omega)⟩
              case measure => simp [intOf]; omega
          · have k0' : ¬ (0 : Int) < (k : Int) := by omega
            have K0 : Hid (¬ 0 < k) := k0
            go_wp2
            go_roundw
            case rel =>
              refine ⟨k + 1, by omega, by go_num, fun x hx => ?_, (hf.seq' f2)⟩
              rcases Nat.lt_or_ge x k with h | h
              · exact HE.out x h
              · have e : x = k := by omega
                rw [e]
                exact ⟨by rw [← HS.out]; exact H1.out, (fun h => absurd h K0.out), (fun h => by rw [← HS.out]; have := G0.out; omega)⟩
            case measure => simp [intOf]; omega
      · have H1 : Hid (¬ (1 ≤ s.size ∧ s.size ≤ 16)) := h1
        have e1 : ekey s.size = 50 := ekey_no (by omega)
        clear h1
        go_wp2_with fail
        refine (rcheck_any _ _).mono ?_
        rw [e1]
        rintro e w1 ⟨rfl, rfl⟩
        go_wp2
        go_ret
        exact ⟨ret_bool (HNO.out (fun h => H1.out (by rw [HS.out]; exact h.1))).symm, f0.seq' hf⟩
    · have HK : Hid (keysB n = true) := keysB_yes (fun x hx => HE.out x (by omega))
      clear HE
      by_cases l0 : n.lev = 0
      · have e0 : (n.lev == 0) = true := by simp [l0]
        have HB : Hid (entB n = ((n.vals.length == n.keys.length) && ((n.kids.length == 0) && valsB n.vals))) := by show entB n = _; unfold entB; rw [if_pos l0]
        clear l0
        by_cases a1 : n.vals.length = n.keys.length
        · have a1' : ((n.vals.length : Int) != (n.keys.length : Int)) = false := by simp [a1]
          by_cases a2 : n.kids.length = 0
          · have a2' : ¬ (0 : Int) < (n.kids.length : Int) := by omega
            have HB2 : Hid (entB n = valsB n.vals) := by show _ = _; rw [HB.out]; simp [a1, a2]
            clear a1 a2
            go_wp2
            go_loop [104] (fun i => ∃ j : Nat, j ≤ n.vals.length ∧ i = .int .i64 j ∧ Hid (∀ x, x < j → (n.vals.getD x ByteArray.empty).size ≤ 32)) (fun i => n.vals.length - (intOf i).toNat)
            case atStart => exact ⟨0, by omega, rfl, fun x hx => by omega⟩
            case round =>
              obtain ⟨j, hjj, rfl, HV⟩ := hrel
              by_cases hlj : j < n.vals.length
              · obtain ⟨b, off, ee, hb, hc⟩ := strs_some (hv.same hf) hlj
                have hcell := hc j hlj
                obtain ⟨s, hs⟩ : ∃ s, s = n.vals.getD j ByteArray.empty := ⟨_, rfl⟩
                rw [← hs] at hcell
                have HS : Hid (s = n.vals.getD j ByteArray.empty) := hs
                clear hs hc
                subst ee
                by_cases h1 : s.size ≤ 32
                · have e1 : evalu s.size = 0 := if_neg (by omega)
                  go_wp2_with fail
                  refine (rvalue_any _ _).mono ?_
                  rw [e1]
                  rintro e w1 ⟨rfl, rfl⟩
                  go_wp2
                  go_round
                  case rel =>
                    refine ⟨j + 1, by omega, by go_num, fun x hx => ?_⟩
                    rcases Nat.lt_or_ge x j with h | h
                    · exact HV.out x h
                    · have e : x = j := by omega
                      rw [e, ← HS.out]; omega
                  case measure => simp [intOf]; omega
                · have e1 : evalu s.size = 51 := if_pos (by omega)
                  have HN : Hid (rightB n = false) := right_ent (by rw [HB2.out]; exact valsB_no j hlj (by rw [← HS.out]; exact h1))
                  go_wp2_with fail
                  refine (rvalue_any _ _).mono ?_
                  rw [e1]
                  rintro e w1 ⟨rfl, rfl⟩
                  go_wp2
                  go_ret
                  exact ⟨ret_bool HN.out.symm, f0.seq' hf⟩
              · have HN : Hid (rightB n = decide (wrap64 ((sizeN n : Nat) : Int) ≤ 256)) := right_is h HH0.out HK.out (by rw [HB2.out]; exact valsB_yes (fun x hx => HV.out x (by omega)))
                go_wp2_with fail
                refine (rsize_any0 n pk pkc pv pvc pi pic _ (h.same (f0.seq' hf))).mono ?_
                rintro e w5 ⟨rfl, f5⟩
                go_wp2
                go_ret
                exact ⟨ret_bool HN.out.symm, (f0.seq' hf).seq' f5⟩
          · have a2' : (0 : Int) < (n.kids.length : Int) := by omega
            have HN : Hid (rightB n = false) := right_ent (by rw [HB.out]; simp [a2])
            clear a1 a2
            go_wp2
            go_ret
            exact ⟨ret_bool HN.out.symm, f0.seq' hf⟩
        · have a1' : ((n.vals.length : Int) != (n.keys.length : Int)) = true := by rw [bne_iff_ne]; omega
          have HN : Hid (rightB n = false) := right_ent (by rw [HB.out]; simp [a1])
          clear a1
          go_wp2
          go_ret
          exact ⟨ret_bool HN.out.symm, f0.seq' hf⟩
      · have e0 : (n.lev == 0) = false := by simpa using l0
        have HB : Hid (entB n = ((n.kids.length == n.keys.length + 1) && ((n.vals.length == 0) && kidsB n.kids))) := by show entB n = _; unfold entB; rw [if_neg l0]
        clear l0
        by_cases a1 : n.kids.length = n.keys.length + 1
        · have a1' : ((n.kids.length : Int) != (n.keys.length : Int) + 1) = false := by simp [a1]
          by_cases a2 : n.vals.length = 0
          · have a2' : ¬ (0 : Int) < (n.vals.length : Int) := by omega
            have HB2 : Hid (entB n = kidsB n.kids) := by show _ = _; rw [HB.out]; simp [a1, a2]
            clear a1 a2
            go_wp2
            go_loop [129] (fun i => ∃ j : Nat, j ≤ n.kids.length ∧ i = .int .i64 j ∧ Hid (∀ x, x < j → wthB (n.kids.getD x 0) 1 4096 = true)) (fun i => n.kids.length - (intOf i).toNat)
            case atStart => exact ⟨0, by omega, rfl, fun x hx => by omega⟩
            case round =>
              obtain ⟨j, hjj, rfl, HV⟩ := hrel
              by_cases hlj : j < n.kids.length
              · obtain ⟨b, off, ee, hb, hc⟩ := ints_some (hi.same hf) hlj
                have hcell := hc j hlj
                obtain ⟨s, hs⟩ : ∃ s, s = n.kids.getD j 0 := ⟨_, rfl⟩
                rw [← hs] at hcell
                have HS : Hid (s = n.kids.getD j 0) := hs
                have HNO : Hid (wthB s 1 4096 = false → rightB n = false) := fun h => right_ent (by rw [HB2.out]; exact kidsB_no j hlj (by rw [← hs, h]; simp))
                clear hs hc
                subst ee
                by_cases s1 : s < 1
                · go_wp2
                  go_ret
                  exact ⟨ret_bool (HNO.out (by simp [wthB]; omega)).symm, f0.seq' hf⟩
                · by_cases s2 : 4096 < s
                  · go_wp2
                    go_ret
                    exact ⟨ret_bool (HNO.out (by simp [wthB]; omega)).symm, f0.seq' hf⟩
                  · have S1 : Hid (wthB s 1 4096 = true) := by show wthB s 1 4096 = true; simp [wthB]; omega
                    go_wp2
                    go_round
                    case rel =>
                      refine ⟨j + 1, by omega, by go_num, fun x hx => ?_⟩
                      rcases Nat.lt_or_ge x j with h | h
                      · exact HV.out x h
                      · have e : x = j := by omega
                        rw [e, ← HS.out]; exact S1.out
                    case measure => simp [intOf]; omega
              · have HN : Hid (rightB n = decide (wrap64 ((sizeN n : Nat) : Int) ≤ 256)) := right_is h HH0.out HK.out (by rw [HB2.out]; exact kidsB_yes (fun x hx => HV.out x (by omega)))
                go_wp2_with fail
                refine (rsize_any0 n pk pkc pv pvc pi pic _ (h.same (f0.seq' hf))).mono ?_
                rintro e w5 ⟨rfl, f5⟩
                go_wp2
                go_ret
                exact ⟨ret_bool HN.out.symm, (f0.seq' hf).seq' f5⟩
          · have a2' : (0 : Int) < (n.vals.length : Int) := by omega
            have HN : Hid (rightB n = false) := right_ent (by rw [HB.out]; simp [a2])
            clear a1 a2
            go_wp2
            go_ret
            exact ⟨ret_bool HN.out.symm, f0.seq' hf⟩
        · have a1' : ((n.kids.length : Int) != (n.keys.length : Int) + 1) = true := by rw [bne_iff_ne]; omega
          have HN : Hid (rightB n = false) := right_ent (by rw [HB.out]; simp [a1])
          clear a1
          go_wp2
          go_ret
          exact ⟨ret_bool HN.out.symm, f0.seq' hf⟩

theorem rright_any (n : Nd) (p : Pt) (w : World) (h : Nod w n p) : Calls Try.prog 56 #[(.agg #[.int .i64 n.lev, .int .i64 n.lsn, .int .i64 n.rgt, .string n.high, .slice p.k n.keys.length p.kc, .slice p.v n.vals.length p.vc, .slice p.i n.kids.length p.ic])] w fun e w' => e = .returned (.bool (rightB n)) ∧ Fr (fun _ => False) w w' := by
  have nh : headB n = false → rightB n = false := fun e => by unfold rightB; rw [e]; rfl
  by_cases a0 : n.lev < 0
  · rw [nh (by simp [headB, wthB]; omega)]; exact rright_a n p.k p.kc p.v p.vc p.i p.ic w a0
  by_cases a1 : 20 < n.lev
  · rw [nh (by simp [headB, wthB]; omega)]; exact rright_b n p.k p.kc p.v p.vc p.i p.ic w a1 a0
  by_cases a2 : n.lsn < 0
  · rw [nh (by simp [headB, wthB]; omega)]; exact rright_c n p.k p.kc p.v p.vc p.i p.ic w a2 a0 a1
  by_cases a3 : 1099511627776 < n.lsn
  · rw [nh (by simp [headB, wthB]; omega)]; exact rright_d n p.k p.kc p.v p.vc p.i p.ic w a3 a0 a1 a2
  by_cases a4 : n.rgt < 0
  · rw [nh (by simp [headB, wthB]; omega)]; exact rright_e n p.k p.kc p.v p.vc p.i p.ic w a4 a0 a1 a2 a3
  by_cases a5 : 4096 < n.rgt
  · rw [nh (by simp [headB, wthB]; omega)]; exact rright_f n p.k p.kc p.v p.vc p.i p.ic w a5 a0 a1 a2 a3 a4
  by_cases a6 : 16 < n.high.size
  · rw [nh (by simp [headB, wthB]; omega)]; exact rright_g n p.k p.kc p.v p.vc p.i p.ic w a0 a1 a2 a3 a4 a5 a6
  have hh : headB n = true := by simp [headB, wthB]; omega
  by_cases a7 : n.high.size = 0
  · exact rright_h n p.k p.kc p.v p.vc p.i p.ic w a0 a1 a2 a3 a4 a5 h a7 hh
  · exact rright_i n p.k p.kc p.v p.vc p.i p.ic w a0 a1 a2 a3 a4 a5 h a7 (by omega) hh

end Go.Proofs.Ytimpoincnfiibaa
