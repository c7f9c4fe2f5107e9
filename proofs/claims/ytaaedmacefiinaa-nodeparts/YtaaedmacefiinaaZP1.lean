
/- NdRSplit, NdRPar. -/
import Derived.Test.YtaaedmacefiinaaZC1
import Derived.Deep.Cut
import Derived.Deep.DeepCutAuto
/- What the document's Split tells. -/
namespace Go.Proofs.Ytaaedmacefiinaa
open Go.RowKit

set_option maxRecDepth 100000 in
set_option maxHeartbeats 1000000 in
theorem rentry_any (n : Nd) (p : Pt) (r : Rt n) (i : Nat) (hi : i < n.keys.length) (w : World) (h : Nod w n p) : Calls Try.prog 74 #[(.agg #[.int .i64 n.lev, .int .i64 n.lsn, .int .i64 n.rgt, .string n.high, .slice p.k n.keys.length p.kc, .slice p.v n.vals.length p.vc, .slice p.i n.kids.length p.ic]), .int .i64 i] w fun e w' => e = .returned (.int .i64 (esz n i : Nat)) ∧ Fr (fun _ => False) w w' := by
  have f0 := Fr.box w (.cells #[.int .i64 n.lev, .int .i64 n.lsn, .int .i64 n.rgt, .string n.high, .slice p.k n.keys.length p.kc, .slice p.v n.vals.length p.vc, .slice p.i n.kids.length p.ic] 25)
  have HB : Hid (∀ W, Fr (fun _ => False) (w.alloc (.cells #[.int .i64 n.lev, .int .i64 n.lsn, .int .i64 n.rgt, .string n.high, .slice p.k n.keys.length p.kc, .slice p.v n.vals.length p.vc, .slice p.i n.kids.length p.ic] 25)) W → W.cell? ⟨w.heap.size, 0, none⟩ = some (.int .i64 n.lev) ∧ W.cell? ⟨w.heap.size, 1, none⟩ = some (.int .i64 n.lsn) ∧ W.cell? ⟨w.heap.size, 2, none⟩ = some (.int .i64 n.rgt) ∧ W.cell? ⟨w.heap.size, 3, none⟩ = some (.string n.high) ∧ W.cell? ⟨w.heap.size, 4, none⟩ = some (.slice p.k n.keys.length p.kc) ∧ W.cell? ⟨w.heap.size, 5, none⟩ = some (.slice p.v n.vals.length p.vc) ∧ W.cell? ⟨w.heap.size, 6, none⟩ = some (.slice p.i n.kids.length p.ic)) := fun W f => box_cells (box_at w n p 25 f)
  have hkz := (r.keys i hi).1.2
  have hii : (i : Int) < (n.keys.length : Int) := by omega
  have hN := h.same f0
  obtain ⟨W0, hW0⟩ : ∃ W0, W0 = w.alloc (.cells #[.int .i64 n.lev, .int .i64 n.lsn, .int .i64 n.rgt, .string n.high, .slice p.k n.keys.length p.kc, .slice p.v n.vals.length p.vc, .slice p.i n.kids.length p.ic] 25) := ⟨_, rfl⟩
  have c := HB.out _ (Fr.refl _ _)
  rw [← hW0] at f0 hN c
  obtain ⟨bk, ok, ek, hbk, hck⟩ := strs_some hN.keys hi
  obtain ⟨c0, c1, c2, c3, c4, c5, c6⟩ := c
  have HW0 : Hid (W0 = w.alloc (.cells #[.int .i64 n.lev, .int .i64 n.lsn, .int .i64 n.rgt, .string n.high, .slice p.k n.keys.length p.kc, .slice p.v n.vals.length p.vc, .slice p.i n.kids.length p.ic] 25)) := hW0
  clear hW0
  rw [ek] at c4
  have HEK : Hid (p.k = some ⟨bk, ok, none⟩) := ek
  clear ek
  have hkc := hck i hi
  by_cases h0 : n.lev = 0
  · have hlg : ¬ (0 < n.lev) := by omega
    have hlg2 : n.lev ≤ 0 := by omega
    have hvl : i < n.vals.length := by rw [(r.leaf h0).1]; exact hi
    have hvz := (r.leaf h0).2.2 i hvl
    have hvi : (i : Int) < (n.vals.length : Int) := by omega
    have HE : Hid (esz n i = 4 + (n.keys.getD i ByteArray.empty).size + (n.vals.getD i ByteArray.empty).size) := if_pos h0
    obtain ⟨bv, ov, ev, hbv, hcv⟩ := strs_some hN.vals hvl
    have hvc := hcv i hvl
    rw [ev] at c5
    clear ev
    generalize n.keys.getD i ByteArray.empty = x at *
    generalize n.vals.getD i ByteArray.empty = y at *
    clear h0 r hck hcv
    go_enter Try.func74, Try.ntmps74
    go_upto_region 1 with fail
    rw [← HW0.out]
    go_wp2
    go_quiet (fail)
    go_wp2
    go_ret
    exact ⟨ret_int (by rw [HE.out]; omega), f0.drewN _⟩
  · have hlg : 0 < n.lev := by have := r.lev0; omega
    have HE : Hid (esz n i = 6 + (n.keys.getD i ByteArray.empty).size) := if_neg h0
    generalize n.keys.getD i ByteArray.empty = x at *
    clear h0 r hck
    go_enter Try.func74, Try.ntmps74
    go_upto_region 1 with fail
    rw [← HW0.out]
    go_wp2
    go_ret
    exact ⟨ret_int (by rw [HE.out]; omega), f0⟩
set_option maxRecDepth 100000 in
set_option maxHeartbeats 4000000 in
theorem rsplit_any (n : Nd) (p : Pt) (w : World) (h : Nod w n p) : Calls Try.prog 32 #[(.agg #[.int .i64 n.lev, .int .i64 n.lsn, .int .i64 n.rgt, .string n.high, .slice p.k n.keys.length p.kc, .slice p.v n.vals.length p.vc, .slice p.i n.kids.length p.ic])] w fun e w' => SplOut n w e w' := by
  have f0 := Fr.box w (.cells #[.int .i64 n.lev, .int .i64 n.lsn, .int .i64 n.rgt, .string n.high, .slice p.k n.keys.length p.kc, .slice p.v n.vals.length p.vc, .slice p.i n.kids.length p.ic] 25)
  have HB : Hid (∀ W, Fr (fun _ => False) (w.alloc (.cells #[.int .i64 n.lev, .int .i64 n.lsn, .int .i64 n.rgt, .string n.high, .slice p.k n.keys.length p.kc, .slice p.v n.vals.length p.vc, .slice p.i n.kids.length p.ic] 25)) W → W.cell? ⟨w.heap.size, 0, none⟩ = some (.int .i64 n.lev) ∧ W.cell? ⟨w.heap.size, 1, none⟩ = some (.int .i64 n.lsn) ∧ W.cell? ⟨w.heap.size, 2, none⟩ = some (.int .i64 n.rgt) ∧ W.cell? ⟨w.heap.size, 3, none⟩ = some (.string n.high) ∧ W.cell? ⟨w.heap.size, 4, none⟩ = some (.slice p.k n.keys.length p.kc) ∧ W.cell? ⟨w.heap.size, 5, none⟩ = some (.slice p.v n.vals.length p.vc) ∧ W.cell? ⟨w.heap.size, 6, none⟩ = some (.slice p.i n.kids.length p.ic)) := fun W f => box_cells (box_at w n p 25 f)
  have hcn := rright_any n p _ (h.same f0)
  cases hr : rightB n
  · rw [hr] at hcn
    have HE : Hid (splE n = 70) := by show _ = _; unfold splE; rw [hr, if_neg (by simp)]
    clear hr
    go_enter Try.func32, Try.ntmps32
    go_wp2_with fail
    refine hcn.mono ?_
    rintro e w1 ⟨rfl, f1⟩
    go_wp2
    go_ret2
    exact ⟨f0.seq' f1, .inl ⟨by rw [HE.out]; omega, by rw [HE.out]; rfl⟩⟩
  · rw [hr] at hcn
    have r := (right_iff n).1 hr
    by_cases hl2 : n.keys.length < 2
    · have HE : Hid (splE n = 7) := by show _ = _; unfold splE; rw [hr, if_pos rfl, if_pos hl2]
      have hli : (n.keys.length : Int) < 2 := by omega
      clear hr r
      go_enter Try.func32, Try.ntmps32
      go_wp2_with fail
      refine hcn.mono ?_
      rintro e w1 ⟨rfl, f1⟩
      obtain ⟨c0, c1, c2, c3, c4, c5, c6⟩ := HB.out _ f1
      go_wp2
      go_ret2
      exact ⟨f0.seq' f1, .inl ⟨by rw [HE.out]; omega, by rw [HE.out]; rfl⟩⟩
    · have HE : Hid (splE n = 0) := by show _ = _; unfold splE; rw [hr, if_pos rfl, if_neg hl2]
      have hli : (2 : Int) ≤ (n.keys.length : Int) := by omega
      have hli2 : 2 ≤ n.keys.length := by omega
      have hld : decide ((n.keys.length : Int) < 2) = false := by simp; omega
      have HR : Hid (Rt n) := r
      have HS : Hid (srt n.keys) := r.srt
      have hks := h.klen
      have hfew := keys_few r
      have HP : Hid (∀ j, j ≤ n.keys.length → pre n j ≤ 52 * j) := fun j hj => pre_le r j hj
      have HEN : Hid (∀ i, i < n.keys.length → ∀ W, Nod W n p → Calls Try.prog 74 #[(.agg #[.int .i64 n.lev, .int .i64 n.lsn, .int .i64 n.rgt, .string n.high, .slice p.k n.keys.length p.kc, .slice p.v n.vals.length p.vc, .slice p.i n.kids.length p.ic]), .int .i64 i] W fun e w' => e = .returned (.int .i64 (esz n i : Nat)) ∧ Fr (fun _ => False) W w') := fun i hi W hW => rentry_any n p r i hi W hW
      have HES : Hid (∀ i, i < n.keys.length → esz n i ≤ 52) := fun i hi => esz_le r i hi
      clear hr r hl2
      go_enter Try.func32, Try.ntmps32
      go_wp2_with fail
      refine hcn.mono ?_
      rintro e w1 ⟨rfl, f1⟩
      have F1 := f0.seq' f1
      have hN1 := h.same F1
      clear hcn
      obtain ⟨c0, c1, c2, c3, c4, c5, c6⟩ := HB.out _ f1
      go_wp2
      go_loopw [5, 21] (fun u i wr => ∃ j : Nat, j ≤ n.keys.length ∧ i = .int .i64 j ∧ u = .int .i64 (pre n j : Nat) ∧ Fr (fun _ => False) w1 wr) (fun _ i _ => n.keys.length - (intOf i).toNat)
      case atStart => exact ⟨0, by omega, rfl, rfl, Fr.refl _ _⟩
      case round =>
        obtain ⟨j, hj, rfl, rfl, hf⟩ := hrel
        have hpj := HP.out j hj
        clear c0 c1 c2 c3 c4 c5 c6
        by_cases hlt : j < n.keys.length
        · have hji : (j : Int) < (n.keys.length : Int) := by omega
          have hes := HES.out j hlt
          have hen := HEN.out j hlt _ (hN1.same hf)
          obtain ⟨c0, c1, c2, c3, c4, c5, c6⟩ := HB.out _ (f1.seq' hf)
          have HPS : Hid (pre n (j + 1) = pre n j + esz n j) := rfl
          generalize esz n j = x at *
          generalize pre n j = y at *
          go_wp2_with fail
          refine hen.mono ?_
          rintro e w2 ⟨rfl, f2⟩
          clear c0 c1 c2 c3 c4 c5 c6
          go_wp2
          go_roundw
          case rel => exact ⟨j + 1, by omega, by go_num, val_int (by rw [HPS.out]; omega), hf.seq' f2⟩
          case measure => simp [intOf]; omega
        · have e : j = n.keys.length := by omega
          subst e
          obtain ⟨al, hal⟩ : ∃ al, al = pre n n.keys.length := ⟨_, rfl⟩
          have HA : Hid (al = pre n n.keys.length) := hal
          rw [← hal] at hpj ⊢
          clear hal
          go_wp2
          have hf1 := f1.seq' hf
          go_loopw [7] (fun v7 wr2 => ∃ i : Nat, 1 ≤ i ∧ i + 1 ≤ n.keys.length ∧ v7 = .int .i64 i ∧ Hid (∀ q, 1 ≤ q → q < i → 2 * pre n q < pre n n.keys.length) ∧ Fr (fun _ => False) w1 wr2) (fun v7 _ => n.keys.length - (intOf v7).toNat)
          case atStart => exact ⟨1, by omega, by omega, rfl, (fun q h1 h2 => by omega), hf⟩
          case round =>
            obtain ⟨i, hi1, hi2, rfl, HL, hf2⟩ := hrel
            have hii : (i : Int) < (n.keys.length : Int) := by omega
            go_wp2
            go_loopw [8, 9] (fun u v9 wr3 => ∃ q : Nat, q ≤ i ∧ v9 = .int .i64 q ∧ u = .int .i64 (pre n q : Nat) ∧ Fr (fun _ => False) w1 wr3) (fun _ v9 _ => i - (intOf v9).toNat)
            case atStart => exact ⟨0, by omega, rfl, rfl, hf2⟩
            case round =>
              obtain ⟨q, hq, rfl, rfl, hf3⟩ := hrel
              have hpq := HP.out q (by omega)
              by_cases hlt2 : q < i
              · have hji : (q : Int) < (i : Int) := by omega
                have hes := HES.out q (by omega)
                have hen := HEN.out q (by omega) _ (hN1.same hf3)
                obtain ⟨c0, c1, c2, c3, c4, c5, c6⟩ := HB.out _ (f1.seq' hf3)
                have HPS : Hid (pre n (q + 1) = pre n q + esz n q) := rfl
                generalize esz n q = x at *
                generalize pre n q = y at *
                go_wp2_with fail
                refine hen.mono ?_
                rintro e w2 ⟨rfl, f2⟩
                clear c0 c1 c2 c3 c4 c5 c6
                go_wp2
                go_roundw
                case rel => exact ⟨q + 1, by omega, by go_num, val_int (by rw [HPS.out]; omega), hf3.seq' f2⟩
                case measure => simp [intOf]; omega
              · have e : q = i := by omega
                subst e
                have HML : Hid (al ≤ 2 * pre n q ∨ q + 1 = n.keys.length → Mid n q) := fun hh => ⟨hi1, hi2, by rcases hh with e | e; exact .inr (by rw [← HA.out]; exact e); exact .inl e, HL.out⟩
                have HNX : Hid (2 * pre n q < al → ∀ z, 1 ≤ z → z < q + 1 → 2 * pre n z < pre n n.keys.length) := fun hh z h1 h2 => by
                  rcases Nat.lt_or_ge z q with h3 | h3
                  · exact HL.out z h1 h3
                  · rw [show z = q by omega, ← HA.out]; exact hh
                generalize pre n q = y at *
                have F3 := f1.seq' hf3
                have hN3 := hN1.same hf3
                obtain ⟨c0, c1, c2, c3, c4, c5, c6⟩ := HB.out _ F3
                by_cases hge : al ≤ 2 * y
                · have hgi : (al : Int) ≤ 2 * (y : Int) := by omega
                  have HM : Hid (Mid n q) := HML.out (.inl hge)
                  obtain ⟨z, rfl⟩ : ∃ z, q = z + 1 := ⟨q - 1, by omega⟩
                  have hz1 : z + 1 < n.keys.length := by omega
                  obtain ⟨bk, ok, ek, hbk, hck⟩ := strs_some (h.same f0).keys hz1
                  have hka := hck z (by omega)
                  have hkb := hck (z + 1) hz1
                  have EK : Hid (p.k = some ⟨bk, ok, none⟩) := ek
                  have HQ : Hid (∀ W, Fr (fun _ => False) (w.alloc (.cells #[.int .i64 n.lev, .int .i64 n.lsn, .int .i64 n.rgt, .string n.high, .slice p.k n.keys.length p.kc, .slice p.v n.vals.length p.vc, .slice p.i n.kids.length p.ic] 25)) W → W.cell? ⟨w.heap.size, 4, none⟩ = some (.slice (some ⟨bk, ok, none⟩) n.keys.length p.kc) ∧ W.cell? ⟨bk, ok + z, none⟩ = some (.string (n.keys.getD z ByteArray.empty)) ∧ W.cell? ⟨bk, ok + (z + 1), none⟩ = some (.string (n.keys.getD (z + 1) ByteArray.empty))) := fun W f => ⟨by rw [← EK.out]; exact (HB.out W f).2.2.2.2.1, (f.cell (p := ⟨bk, ok + z, none⟩) hbk (fun f => f)).trans hka, (f.cell (p := ⟨bk, ok + (z + 1), none⟩) hbk (fun f => f)).trans hkb⟩
                  have hqi : (z : Int) < (n.keys.length : Int) := by omega
                  have hqi1 : (z : Int) + 1 < (n.keys.length : Int) := by omega
                  clear ek hck hka hkb c1 c2 c3 c4 c5 c6
                  by_cases h0 : n.lev = 0
                  · have hlg : ¬ (0 < n.lev) := by omega
                    have hlg2 : n.lev ≤ 0 := by omega
                    have hsa := h.ksz _ (strs_get (show z < n.keys.length by omega))
                    have hsb := h.ksz _ (strs_get hz1)
                    have hcp := cpl_m1 (HS.out z (z + 1) (by omega) hz1)
                    have HSS : Hid (splS n (z + 1) = (n.keys.getD (z + 1) ByteArray.empty).extract 0 (cmn (bsOf (n.keys.getD z ByteArray.empty)) (bsOf (n.keys.getD (z + 1) ByteArray.empty)) + 1)) := by
                      show _ = _
                      unfold splS
                      rw [if_pos h0, show z + 1 - 1 = z by omega]
                    obtain ⟨x, hx⟩ : ∃ x, x = n.keys.getD z ByteArray.empty := ⟨_, rfl⟩
                    obtain ⟨yy, hy⟩ : ∃ y, y = n.keys.getD (z + 1) ByteArray.empty := ⟨_, rfl⟩
                    rw [← hx, ← hy] at HQ hcp HSS
                    rw [← hx] at hsa
                    rw [← hy] at hsb
                    have hq0 : (0 : Int) ≤ (z : Int) := by omega
                    have hq00 : (0 : Int) ≤ (z : Int) + 1 := by omega
                    have hqt : ((z : Int) + 1).toNat = z + 1 := by omega
                    have hqw : IntKind.i64.wrap ((z : Int) + 1 - 1) = (z : Int) := by rw [IntKind.wrap_i64]; omega
                    have hqs : (z : Int) + 1 - 1 = (z : Int) := by omega
                    have hqw2 : IntKind.i64.wrap (z : Int) = (z : Int) := by rw [IntKind.wrap_i64]; omega
                    have hbt := fun W => rbetween_yes x yy hsa hsb hcp W
                    generalize yy.extract 0 (cmn (bsOf x) (bsOf yy) + 1) = zz at *
                    have q0 := HQ.out _ F3.drew
                    clear hx hy h0 hcp HP HEN HES
                    go_wp2_with fail
                    go_region_held3 (fun W => W.cell? ⟨w.heap.size, 4, none⟩ = some (.slice (some ⟨bk, ok, none⟩) n.keys.length p.kc) ∧ W.cell? ⟨bk, ok + z, none⟩ = some (.string x) ∧ W.cell? ⟨bk, ok + (z + 1), none⟩ = some (.string yy))
                      (first | with_reducible exact q0 | with_reducible exact q4)
                      ((go_at_call 75; refine (hbt _).mono ?_; rintro e w4 ⟨rfl, f4⟩; have q4 := HQ.out _ (F3.drew.seq' f4)))
                    go_wp2
                    go_ret2
                    exact ⟨f0.seq' (F3.drew.seq' f4), .inr ⟨HE.out, HR.out, z + 1, HM.out, by rw [HSS.out]; rfl⟩⟩
                  · have hlg : 0 < n.lev := by have := HR.out.lev0; omega
                    have HSS : Hid (splS n (z + 1) = n.keys.getD (z + 1) ByteArray.empty) := if_neg h0
                    obtain ⟨q4, qa, qb⟩ := HQ.out _ F3
                    generalize n.keys.getD (z + 1) ByteArray.empty = yy at *
                    clear h0 qa HP HEN HES
                    go_wp2
                    go_ret2
                    exact ⟨f0.seq' F3, .inr ⟨HE.out, HR.out, z + 1, HM.out, by rw [HSS.out]; rfl⟩⟩
                · have hgi : ¬ ((al : Int) ≤ 2 * (y : Int)) := by omega
                  have hgi2 : 2 * (y : Int) < (al : Int) := by omega
                  by_cases hlast : q + 1 = n.keys.length
                  · have heq : ((q : Int) == (n.keys.length : Int) - 1) = true := by simp; omega
                    have HM : Hid (Mid n q) := HML.out (.inr hlast)
                    obtain ⟨z, rfl⟩ : ∃ z, q = z + 1 := ⟨q - 1, by omega⟩
                    have hz1 : z + 1 < n.keys.length := by omega
                    obtain ⟨bk, ok, ek, hbk, hck⟩ := strs_some (h.same f0).keys hz1
                    have hka := hck z (by omega)
                    have hkb := hck (z + 1) hz1
                    have EK : Hid (p.k = some ⟨bk, ok, none⟩) := ek
                    have HQ : Hid (∀ W, Fr (fun _ => False) (w.alloc (.cells #[.int .i64 n.lev, .int .i64 n.lsn, .int .i64 n.rgt, .string n.high, .slice p.k n.keys.length p.kc, .slice p.v n.vals.length p.vc, .slice p.i n.kids.length p.ic] 25)) W → W.cell? ⟨w.heap.size, 4, none⟩ = some (.slice (some ⟨bk, ok, none⟩) n.keys.length p.kc) ∧ W.cell? ⟨bk, ok + z, none⟩ = some (.string (n.keys.getD z ByteArray.empty)) ∧ W.cell? ⟨bk, ok + (z + 1), none⟩ = some (.string (n.keys.getD (z + 1) ByteArray.empty))) := fun W f => ⟨by rw [← EK.out]; exact (HB.out W f).2.2.2.2.1, (f.cell (p := ⟨bk, ok + z, none⟩) hbk (fun f => f)).trans hka, (f.cell (p := ⟨bk, ok + (z + 1), none⟩) hbk (fun f => f)).trans hkb⟩
                    have hqi : (z : Int) < (n.keys.length : Int) := by omega
                    have hqi1 : (z : Int) + 1 < (n.keys.length : Int) := by omega
                    clear ek hck hka hkb c1 c2 c3 c4 c5 c6
                    by_cases h0 : n.lev = 0
                    · have hlg : ¬ (0 < n.lev) := by omega
                      have hlg2 : n.lev ≤ 0 := by omega
                      have hsa := h.ksz _ (strs_get (show z < n.keys.length by omega))
                      have hsb := h.ksz _ (strs_get hz1)
                      have hcp := cpl_m1 (HS.out z (z + 1) (by omega) hz1)
                      have HSS : Hid (splS n (z + 1) = (n.keys.getD (z + 1) ByteArray.empty).extract 0 (cmn (bsOf (n.keys.getD z ByteArray.empty)) (bsOf (n.keys.getD (z + 1) ByteArray.empty)) + 1)) := by
                        show _ = _
                        unfold splS
                        rw [if_pos h0, show z + 1 - 1 = z by omega]
                      obtain ⟨x, hx⟩ : ∃ x, x = n.keys.getD z ByteArray.empty := ⟨_, rfl⟩
                      obtain ⟨yy, hy⟩ : ∃ y, y = n.keys.getD (z + 1) ByteArray.empty := ⟨_, rfl⟩
                      rw [← hx, ← hy] at HQ hcp HSS
                      rw [← hx] at hsa
                      rw [← hy] at hsb
                      have hq0 : (0 : Int) ≤ (z : Int) := by omega
                      have hq00 : (0 : Int) ≤ (z : Int) + 1 := by omega
                      have hqt : ((z : Int) + 1).toNat = z + 1 := by omega
                      have hqw : IntKind.i64.wrap ((z : Int) + 1 - 1) = (z : Int) := by rw [IntKind.wrap_i64]; omega
                      have hqs : (z : Int) + 1 - 1 = (z : Int) := by omega
                      have hqw2 : IntKind.i64.wrap (z : Int) = (z : Int) := by rw [IntKind.wrap_i64]; omega
                      have hbt := fun W => rbetween_yes x yy hsa hsb hcp W
                      generalize yy.extract 0 (cmn (bsOf x) (bsOf yy) + 1) = zz at *
                      have q0 := HQ.out _ F3.drew
                      clear hx hy h0 hcp HP HEN HES
                      go_wp2_with fail
                      go_region_held3 (fun W => W.cell? ⟨w.heap.size, 4, none⟩ = some (.slice (some ⟨bk, ok, none⟩) n.keys.length p.kc) ∧ W.cell? ⟨bk, ok + z, none⟩ = some (.string x) ∧ W.cell? ⟨bk, ok + (z + 1), none⟩ = some (.string yy))
                        (first | with_reducible exact q0 | with_reducible exact q4)
                        ((go_at_call 75; refine (hbt _).mono ?_; rintro e w4 ⟨rfl, f4⟩; have q4 := HQ.out _ (F3.drew.seq' f4)))
                      go_wp2
                      go_ret2
                      exact ⟨f0.seq' (F3.drew.seq' f4), .inr ⟨HE.out, HR.out, z + 1, HM.out, by rw [HSS.out]; rfl⟩⟩
                    · have hlg : 0 < n.lev := by have := HR.out.lev0; omega
                      have HSS : Hid (splS n (z + 1) = n.keys.getD (z + 1) ByteArray.empty) := if_neg h0
                      obtain ⟨q4, qa, qb⟩ := HQ.out _ F3
                      generalize n.keys.getD (z + 1) ByteArray.empty = yy at *
                      clear h0 qa HP HEN HES
                      go_wp2
                      go_ret2
                      exact ⟨f0.seq' F3, .inr ⟨HE.out, HR.out, z + 1, HM.out, by rw [HSS.out]; rfl⟩⟩
                  · have heq : ((q : Int) == (n.keys.length : Int) - 1) = false := by simp; omega
                    have HN2 : Hid (∀ z, 1 ≤ z → z < q + 1 → 2 * pre n z < pre n n.keys.length) := HNX.out (by omega)
                    clear hge
                    go_wp2
                    go_roundw
                    case rel => exact ⟨q + 1, by omega, by omega, by go_num, HN2, hf3⟩
                    case measure => simp [intOf]; omega
end Go.Proofs.Ytaaedmacefiinaa
/- What the document's Left and Rest lean on. -/
namespace Go.Proofs.Ytaaedmacefiinaa
open Go.RowKit

theorem td_more {α : Type} (l : List α) (b j : Nat) (d : α) (hb : b ≤ j) (hj : j < l.length) : (l.take (j + 1)).drop b = (l.take j).drop b ++ [l.getD j d] := by
  rw [take_getD l j d hj, List.drop_append_of_le_length (by simp; omega)]
theorem td_none {α : Type} (l : List α) (b j : Nat) (hb : j ≤ b) : (l.take j).drop b = [] := List.drop_eq_nil_of_le (by simp; omega)
theorem pie_leaf {n : Nd} {b j : Nat} (h0 : n.lev = 0) (hb : b ≤ j) (hj : j < n.keys.length) (hv : j < n.vals.length) : pieceN n b (j + 1) = { pieceN n b j with keys := (pieceN n b j).keys ++ [n.keys.getD j ByteArray.empty], vals := (pieceN n b j).vals ++ [n.vals.getD j ByteArray.empty] } := by
  unfold pieceN
  simp only [if_pos h0]
  rw [td_more _ _ _ ByteArray.empty hb hj, td_more _ _ _ ByteArray.empty hb hv]
theorem pie_inner {n : Nd} {b j : Nat} (h0 : n.lev ≠ 0) (hb : b ≤ j) (hj : j < n.keys.length) (hv : j + 1 < n.kids.length) : pieceN n b (j + 1) = { pieceN n b j with keys := (pieceN n b j).keys ++ [n.keys.getD j ByteArray.empty], kids := (pieceN n b j).kids ++ [n.kids.getD (j + 1) 0] } := by
  unfold pieceN
  simp only [if_neg h0]
  rw [td_more _ _ _ ByteArray.empty hb hj, td_more _ _ _ 0 (by omega) hv]
theorem pie_at {n : Nd} {j : Nat} (h0 : n.lev ≠ 0) (hv : j + 1 < n.kids.length) : pieceN n (j + 1) (j + 1) = { pieceN n (j + 1) j with kids := (pieceN n (j + 1) j).kids ++ [n.kids.getD (j + 1) 0] } := by
  unfold pieceN
  simp only [if_neg h0]
  rw [td_none n.keys (j + 1) (j + 1) (Nat.le_refl _), td_none n.keys (j + 1) j (by omega), td_more n.kids (j + 1) (j + 1) 0 (Nat.le_refl _) hv]
theorem pie_ahead {n : Nd} {b j : Nat} (hb : j < b) (hi : n.lev ≠ 0 → j + 1 < b) : pieceN n b (j + 1) = pieceN n b j := by
  unfold pieceN
  rw [td_none n.keys _ _ (show j + 1 ≤ b by omega), td_none n.keys _ _ (show j ≤ b by omega), td_none n.vals _ _ (show j + 1 ≤ b by omega), td_none n.vals _ _ (show j ≤ b by omega)]
  by_cases h0 : n.lev = 0
  · simp only [if_pos h0]
  · have := hi h0
    simp only [if_neg h0]
    rw [td_none n.kids _ _ (show j + 1 + 1 ≤ b by omega), td_none n.kids _ _ (show j + 1 ≤ b by omega)]
theorem pie_len (n : Nd) (b j : Nat) : (pieceN n b j).keys.length ≤ j ∧ (pieceN n b j).vals.length ≤ j ∧ (pieceN n b j).kids.length ≤ j + 1 := by
  unfold pieceN
  refine ⟨by simp; omega, ?_, ?_⟩
  · by_cases h0 : n.lev = 0
    · simp only [if_pos h0]; simp; omega
    · simp [if_neg h0]
  · by_cases h0 : n.lev = 0
    · simp [if_pos h0]
    · simp only [if_neg h0]; simp; omega
theorem pie_short {n : Nd} (r : Rt n) (b j : Nat) : Short (pieceN n b j) := by
  refine ⟨by have := r.high; show n.high.size ≤ _; omega, fun s hs => Nat.le_trans (size_of_mem (fun i hi => (r.keys i hi).1.2) s (List.mem_of_mem_take (List.mem_of_mem_drop hs))) (by omega), fun s hs => ?_⟩
  unfold pieceN at hs
  by_cases h0 : n.lev = 0
  · simp only [if_pos h0] at hs
    exact Nat.le_trans (size_of_mem (r.leaf h0).2.2 s (List.mem_of_mem_take (List.mem_of_mem_drop hs))) (by omega)
  · simp [if_neg h0] at hs
/-- The loop's relation. -/
def PieR (f : Nat → Nd) (L : Nat) (w2 : World) (i : Value) (wr : World) : Prop := ∃ (j : Nat) (m : Nd) (kv vv iv : Value), j ≤ L ∧ i = .int .i64 j ∧ Bx w2 wr w2.heap.size m kv vv iv ∧ Hid (m = f j)
set_option maxRecDepth 100000 in
set_option maxHeartbeats 1000000 in
theorem rparted_any (n : Nd) (p : Pt) (k : ByteArray) (num : Int) (hk : k.size ≤ maxLen) (w : World) (h : Nod w n p) : Calls Try.prog 78 #[(.agg #[.int .i64 n.lev, .int .i64 n.lsn, .int .i64 n.rgt, .string n.high, .slice p.k n.keys.length p.kc, .slice p.v n.vals.length p.vc, .slice p.i n.kids.length p.ic]), .string k, .int .i64 num] w fun e w' => e = .returned (.int .i64 (lrE n k (nuE num))) ∧ Fr (fun _ => False) w w' := by
  have f0 := Fr.box w (.cells #[.int .i64 n.lev, .int .i64 n.lsn, .int .i64 n.rgt, .string n.high, .slice p.k n.keys.length p.kc, .slice p.v n.vals.length p.vc, .slice p.i n.kids.length p.ic] 25)
  have HB : Hid (∀ W, Fr (fun _ => False) (w.alloc (.cells #[.int .i64 n.lev, .int .i64 n.lsn, .int .i64 n.rgt, .string n.high, .slice p.k n.keys.length p.kc, .slice p.v n.vals.length p.vc, .slice p.i n.kids.length p.ic] 25)) W → W.cell? ⟨w.heap.size, 0, none⟩ = some (.int .i64 n.lev) ∧ W.cell? ⟨w.heap.size, 1, none⟩ = some (.int .i64 n.lsn) ∧ W.cell? ⟨w.heap.size, 2, none⟩ = some (.int .i64 n.rgt) ∧ W.cell? ⟨w.heap.size, 3, none⟩ = some (.string n.high) ∧ W.cell? ⟨w.heap.size, 4, none⟩ = some (.slice p.k n.keys.length p.kc) ∧ W.cell? ⟨w.heap.size, 5, none⟩ = some (.slice p.v n.vals.length p.vc) ∧ W.cell? ⟨w.heap.size, 6, none⟩ = some (.slice p.i n.kids.length p.ic)) := fun W f => box_cells (box_at w n p 25 f)
  have hh := high_le h
  have ha := asked_any n p k ⟨#[]⟩ num 2 0 (by omega) hh hk _ (h.same f0)
  rw [show ((evalu (ByteArray.mk #[]).size : Nat) : Int) = 0 from rfl] at ha
  have HOK : Hid (askE n k 0 (nuE num) 0 = 0 → Rt n) := fun h => (ask_ok h).1
  have HE : Hid (lrE n k (nuE num) = if askE n k 0 (nuE num) 0 = 0 then parE n k else askE n k 0 (nuE num) 0) := rfl
  generalize askE n k 0 (nuE num) 0 = ae at *
  generalize lrE n k (nuE num) = le at *
  go_enter Try.func78, Try.ntmps78
  go_wp2_with fail
  refine ha.mono ?_
  rintro e w1 ⟨rfl, f1⟩
  clear ha
  have F1 := f0.seq' f1
  have hN1 := h.same F1
  obtain ⟨c0, c1, c2, c3, c4, c5, c6⟩ := HB.out _ f1
  by_cases hae : ae = 0
  · subst hae
    have r := HOK.out rfl
    rw [if_pos rfl] at HE
    by_cases h0 : n.lev = 0
    · have hb : (n.lev == 0) = true := by simpa using h0
      rw [parE_leaf h0] at HE
      clear h0 r HOK
      go_wp2
      go_ret
      exact ⟨ret_int HE.out.symm, F1⟩
    · have hb : (n.lev == 0) = false := by simpa using h0
      have HS : Hid (srt n.keys) := r.srt
      have H0 : Hid (n.lev ≠ 0) := h0
      have hkl := hN1.keys.le
      have hkm := hN1.keys.max
      clear h0 r HOK
      go_wp2
      go_loopw [25] (fun i wr => ∃ j : Nat, j ≤ n.keys.length ∧ i = .int .i64 j ∧ Hid (∀ x, x < j → bsOf (n.keys.getD x ByteArray.empty) ≠ bsOf k) ∧ wr = w1) (fun i _ => n.keys.length - (intOf i).toNat)
      case atStart => exact ⟨0, by omega, rfl, (fun x hx => by omega), rfl⟩
      case round =>
        obtain ⟨j, hj, rfl, HX, rfl⟩ := hrel
        by_cases hlt : j < n.keys.length
        · obtain ⟨bk, ok, ek, hbk, hck⟩ := strs_some hN1.keys hlt
          have hkc := hck j hlt
          have hji : (j : Int) < (n.keys.length : Int) := by omega
          have HSB := str_beq (n.keys.getD j ByteArray.empty) k
          by_cases hke : bsOf (n.keys.getD j ByteArray.empty) = bsOf k
          · have HE0 : Hid (le = 0) := by show _ = _; rw [HE.out]; exact parE_hit (by rw [plc_at HS.out j hlt hke])
            rw [decide_eq_true hke] at HSB
            obtain ⟨y, hy⟩ : ∃ y, y = n.keys.getD j ByteArray.empty := ⟨_, rfl⟩
            rw [← hy] at hkc HSB
            clear hy hck hke HX
            rw [ek]
            go_wp2
            go_ret
            exact ⟨ret_int HE0.out.symm, F1⟩
          · rw [decide_eq_false hke] at HSB
            have HKE : Hid (bsOf (n.keys.getD j ByteArray.empty) ≠ bsOf k) := hke
            obtain ⟨y, hy⟩ : ∃ y, y = n.keys.getD j ByteArray.empty := ⟨_, rfl⟩
            rw [← hy] at hkc HSB
            clear hy hck hke
            rw [ek]
            go_wp2
            go_roundw
            case rel =>
              refine ⟨j + 1, by omega, by go_num, fun x hx => ?_, trivial⟩
              rcases Nat.lt_or_ge x j with h2 | h2
              · exact HX.out x h2
              · rw [show x = j by omega]; exact HKE.out
            case measure => simp [intOf]; omega
        · have e : j = n.keys.length := by omega
          have HE0 : Hid (le = 6) := by show _ = _; rw [HE.out]; exact parE_miss H0.out (plc_none HS.out (fun x hx => HX.out x (by omega)))
          subst e
          go_wp2
          go_ret
          exact ⟨ret_int HE0.out.symm, F1⟩
  · have hne : (ae != 0) = true := by simpa using hae
    rw [if_neg hae] at HE
    clear hae
    go_wp2
    go_ret
    exact ⟨ret_int HE.out.symm, F1⟩
theorem lr_ok {n : Nd} {k : ByteArray} {en : Int} (h : lrE n k en = 0) : Rt n ∧ k.size ≤ 16 ∧ (n.lev ≠ 0 → (plc (bsOf k) n.keys).2 = true) := by
  unfold lrE at h
  by_cases e : askE n k 0 en 0 = 0
  · rw [if_pos e] at h
    refine ⟨(ask_ok e).1, (ask_ok e).2.1.2, fun h0 => ?_⟩
    cases hf : (plc (bsOf k) n.keys).2
    · rw [parE_miss h0 hf] at h; omega
    · rfl
  · rw [if_neg e] at h; exact absurd h e
theorem getD_lt' {α : Type} (l : List α) (i : Nat) (d : α) (h : i < l.length) : l.getD i d = l[i] := by rw [List.getD_eq_getElem?_getD, List.getElem?_eq_getElem h]; rfl
end Go.Proofs.Ytaaedmacefiinaa
