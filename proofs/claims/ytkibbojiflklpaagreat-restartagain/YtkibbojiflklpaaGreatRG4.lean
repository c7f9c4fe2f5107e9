
/- PgRDec0, PgRDec, PgRDec2, RcRight. -/
import Derived.Test.YtkibbojiflklpaaGreatRG2
import Derived.Test.YtkibbojiflklpaaGreatRG3
import Derived.Test.YtkibbojiflklpaaGreatBB21
import Derived.Deep.Cut
import Derived.Test.YtkibbojiflklpaaGreatBB23
/- What the document's Decode leans on. -/
namespace Go.Proofs.YtkibbojiflklpaaGreat
open Go.RowKit Crcm

theorem pg_len {n : Nd} (r : Rt n) : (pg n).length = 256 := by
  have hnb : (nb n).length ≤ 252 := by have := nb_length r; have := r.size; omega
  have hp := pad_length hnb
  have h4 := le_length 4 (crc (pad (nb n)))
  unfold pg; rw [List.length_append, hp, h4]
theorem Rx.nod {W0 w : World} {nk rb rs : Nat} {a : Option Addr} {cap : Nat} {s : RS} {n : Nd} {kv vv iv : Value} (h : Rx W0 w nk rb rs a cap s n kv vv iv) (sh : Short n) (hk : n.keys.length ≤ 100000) (hv : n.vals.length ≤ 100000) (hi : n.kids.length ≤ 100000) :
    ∃ p : Pt, kv = .slice p.k n.keys.length p.kc ∧ vv = .slice p.v n.vals.length p.vc ∧ iv = .slice p.i n.kids.length p.ic ∧ Nod w n p ∧ (∀ b off, (p.k = some ⟨b, off, none⟩ ∨ p.v = some ⟨b, off, none⟩ ∨ p.i = some ⟨b, off, none⟩) → nk < b) := by
  obtain ⟨ak, ck, e1, s1⟩ := h.keys.strs sh.keys
  obtain ⟨av, cv, e2, s2⟩ := h.vals.strs sh.vals
  obtain ⟨ai, ci, e3, s3⟩ := h.kids.ints
  refine ⟨⟨ak, ck, av, cv, ai, ci⟩, e1, e2, e3, ⟨s1, s2, s3, by have := sh.high; omega, (fun s hs => by have := sh.keys s hs; omega), (fun s hs => by have := sh.vals s hs; omega), by omega, by omega, by omega⟩, fun b off hx => ?_⟩
  rcases hx with hx | hx | hx
  · exact h.ok b (by rw [e1]; simp only at hx; rw [hx]; rfl)
  · exact h.ov b (by rw [e2]; simp only at hx; rw [hx]; rfl)
  · exact h.oi b (by rw [e3]; simp only at hx; rw [hx]; rfl)
theorem numS_nn (s : RS) (k : Int) : 0 ≤ (numS s k).1 := by
  unfold numS
  repeat' split
  all_goals simp
theorem numS2_le (s : RS) (h : octs s.1) : 0 ≤ (numS s 2).1 ∧ (numS s 2).1 ≤ 65535 := num2_le (s, false) h
theorem textS_size (s : RS) (m : Int) (h : octs s.1) : (strOf (textS s m).1).size ≤ 65535 := textF_size (s, false) m h
theorem rencode_some (n : Nd) (p : Pt) (w : World) (h : Nod w n p) : Calls Tryz.prog 7 #[(.agg #[.int .i64 n.lev, .int .i64 n.lsn, .int .i64 n.rgt, .string n.high, .slice p.k n.keys.length p.kc, .slice p.v n.vals.length p.vc, .slice p.i n.kids.length p.ic])] w fun e w' => ∃ a k c er, e = .returned (.tuple #[.slice a k c, .int .i64 er]) ∧ Fr (fun _ => False) w w' := by
  cases hr : rightB n
  · refine (rencode_no n p w h hr).mono ?_
    rintro e w' ⟨rfl, f⟩
    exact ⟨_, _, _, _, rfl, f⟩
  · refine (rencode_yes n p w h ((right_iff n).1 hr)).mono ?_
    rintro e w' ⟨a, c, rfl, _, f⟩
    exact ⟨_, _, _, _, rfl, f⟩
theorem row_take {w : World} {a : Option Addr} {cap : Nat} {l : List Nat} (h : Row w a cap l) (k : Nat) : Row w a cap (l.take k) := by
  refine ⟨Nat.le_trans (by simp; omega) h.le, h.max, Nat.le_trans (by simp; omega) h.small, octs_take h.byte k, ?_⟩
  rcases h.at_ with e | ⟨b, off, ha, hb, hc⟩
  · exact .inl (by rw [e]; simp)
  · refine .inr ⟨b, off, ha, hb, fun i hi => ?_⟩
    have hi2 : i < l.length := by simp at hi; omega
    rw [hc i hi2, List.getD_eq_getElem?_getD, List.getD_eq_getElem?_getD, List.getElem?_take, if_pos (by simp at hi; omega)]
theorem row_blk {w : World} {a : Option Addr} {cap : Nat} {l : List Nat} (h : Row w a cap l) (hl : l ≠ []) : ∀ b off sp, a = some ⟨b, off, sp⟩ → b < w.heap.size := fun b off sp e => by
  rcases h.at_ with e2 | ⟨b2, off2, ha, hb, _⟩
  · exact absurd e2 hl
  · rw [ha] at e; cases e; exact hb
/-- The beginning. -/
theorem Rx.start {w : World} {a : Option Addr} {cap : Nat} {l : List Nat} (h : Row w a cap l) (hl : l.length = 256) :
    Rx w (((w.alloc (.cells #[.int .i64 0, .int .i64 0, .int .i64 0, .string ⟨#[]⟩, .slice none 0 0, .slice none 0 0, .slice none 0 0] 33)).alloc (.cells #[.slice a 252 cap, .int .i64 0] 166)).alloc (.cells #[.int .i64 0, .int .i64 0, .int .i64 0, .string ⟨#[]⟩, .slice none 0 0, .slice none 0 0, .slice none 0 0] 33)) (w.heap.size + 1 + 1) (w.heap.size + 1) w.heap.size a cap (l.take 252, 0) zn (.slice none 0 0) (.slice none 0 0) (.slice none 0 0) := by
  have f : Fr (fun _ => False) w (((w.alloc (.cells #[.int .i64 0, .int .i64 0, .int .i64 0, .string ⟨#[]⟩, .slice none 0 0, .slice none 0 0, .slice none 0 0] 33)).alloc (.cells #[.slice a 252 cap, .int .i64 0] 166)).alloc (.cells #[.int .i64 0, .int .i64 0, .int .i64 0, .string ⟨#[]⟩, .slice none 0 0, .slice none 0 0, .slice none 0 0] 33)) := (((Fr.refl _ w).alloc _).alloc _).alloc _
  have hne : l ≠ [] := fun e => by rw [e] at hl; simp at hl
  have hb := row_blk h hne
  have h252 : (l.take 252).length = 252 := by simp; omega
  have hr0 : (((w.alloc (.cells #[.int .i64 0, .int .i64 0, .int .i64 0, .string ⟨#[]⟩, .slice none 0 0, .slice none 0 0, .slice none 0 0] 33)).alloc (.cells #[.slice a 252 cap, .int .i64 0] 166)).alloc (.cells #[.int .i64 0, .int .i64 0, .int .i64 0, .string ⟨#[]⟩, .slice none 0 0, .slice none 0 0, .slice none 0 0] 33)).heap[w.heap.size]? = some (.cells #[.int .i64 0, .int .i64 0, .int .i64 0, .string ⟨#[]⟩, .slice none 0 0, .slice none 0 0, .slice none 0 0] 33 (0, 0)) := (((Fr.refl (fun _ => False) _).alloc _).alloc _).blk (heap_alloc_new w _) (fun f => f)
  have hr1 := heap_alloc_new (w.alloc (.cells #[.int .i64 0, .int .i64 0, .int .i64 0, .string ⟨#[]⟩, .slice none 0 0, .slice none 0 0, .slice none 0 0] 33)) (.cells #[.slice a 252 cap, .int .i64 0] 166)
  rw [show (w.alloc (.cells #[.int .i64 0, .int .i64 0, .int .i64 0, .string ⟨#[]⟩, .slice none 0 0, .slice none 0 0, .slice none 0 0] 33)).heap.size = w.heap.size + 1 by simp] at hr1
  have hr1' := ((Fr.refl (fun _ => False) _).alloc (.cells #[.int .i64 0, .int .i64 0, .int .i64 0, .string ⟨#[]⟩, .slice none 0 0, .slice none 0 0, .slice none 0 0] 33)).blk hr1 (fun f => f)
  have hr2 := heap_alloc_new ((w.alloc (.cells #[.int .i64 0, .int .i64 0, .int .i64 0, .string ⟨#[]⟩, .slice none 0 0, .slice none 0 0, .slice none 0 0] 33)).alloc (.cells #[.slice a 252 cap, .int .i64 0] 166)) (.cells #[.int .i64 0, .int .i64 0, .int .i64 0, .string ⟨#[]⟩, .slice none 0 0, .slice none 0 0, .slice none 0 0] 33)
  rw [show ((w.alloc (.cells #[.int .i64 0, .int .i64 0, .int .i64 0, .string ⟨#[]⟩, .slice none 0 0, .slice none 0 0, .slice none 0 0] 33)).alloc (.cells #[.slice a 252 cap, .int .i64 0] 166)).heap.size = w.heap.size + 1 + 1 by simp] at hr2
  exact ⟨hr2, by omega, by omega, by omega, by omega, by omega, Has.nil _ _, Has.nil _ _, Has.nil _ _, (fun g e => by cases e), (fun g e => by cases e), (fun g e => by cases e), (fun g e => by cases e), (fun g e => by cases e), (fun g e => by cases e), ⟨by rw [h252]; exact hr1', (row_take h 252).same f, .inr (fun b off sp e => by have := hb b off sp e; omega)⟩, hb, f, hr0⟩
def RdR (leaf : Bool) (s : RS) (ct : Nat) (lv : Int) (w : World) (i : Value) (wr : World) : Prop := ∃ (k : Nat) (m : Nd) (s' : RS) (a' : Option Addr) (c' : Nat) (kv vv iv : Value), k ≤ ct ∧ i = .int .i64 k ∧ Rx w wr (w.heap.size + 1 + 1) (w.heap.size + 1) w.heap.size a' c' s' m kv vv iv ∧ Hid (m.keys.length ≤ k ∧ m.vals.length ≤ k ∧ m.kids.length ≤ k + 1 ∧ m.lev = lv) ∧ Short m ∧ Hid (rnodeS s = rentL leaf (ct - k) (m, s'))
theorem rnode_head (s : RS) (y1 y2 y3 y4 : Int × Int × RS) (y5 : List Nat × Int × RS) (h1 : y1 = numS s 1) (h2 : y2 = numS y1.2.2 8) (h3 : y3 = numS y2.2.2 4) (h4 : y4 = numS y3.2.2 2) (h5 : y5 = textS y4.2.2 256) :
    rnodeS s = if y1.1 = 0 then rentL true y4.1.toNat (⟨y1.1, y2.1, y3.1, strOf y5.1, [], [], []⟩, y5.2.2) else rentL false y4.1.toNat (⟨y1.1, y2.1, y3.1, strOf y5.1, [], [], [(numS y5.2.2 4).1]⟩, (numS y5.2.2 4).2.2) := by
  subst h1; subst h2; subst h3; subst h4; subst h5; rfl
theorem rdecode_len (a : Option Addr) (n cap : Nat) (l : List Nat) (hn : n = l.length) (hl : l.length ≠ 256) (w : World) :
    Calls Tryz.prog 71 #[.slice a n cap] w fun e w' => DecOut w l e w' := by
  have hd : decF l = none := by unfold decF; rw [if_neg (fun h => hl h.1)]
  have h2 : ((n : Int) != 256) = true := by rw [bne_iff_ne]; omega
  have f0 := Fr.box w (.cells #[.int .i64 0, .int .i64 0, .int .i64 0, .string ⟨#[]⟩, .slice none 0 0, .slice none 0 0, .slice none 0 0] 33)
  have HD : Hid (decF l = none) := hd
  clear hn hl hd
  go_enter Tryz.func71, Tryz.ntmps71
  go_wp2
  exact bodyPost_ret (v := .tuple #[.agg #[.int .i64 0, .int .i64 0, .int .i64 0, .string ⟨#[]⟩, .slice none 0 0, .slice none 0 0, .slice none 0 0], .int .i64 60]) (by simp [results, Tryz.results71, go_sem]) rfl (dec_no HD.out f0)
end Go.Proofs.YtkibbojiflklpaaGreat

/- What the document's Decode tells. -/
namespace Go.Proofs.YtkibbojiflklpaaGreat
open Go.RowKit Crcm

set_option maxRecDepth 100000 in
set_option maxHeartbeats 8000000 in
theorem rdecode_leaf (a : Option Addr) (cap : Nat) (l : List Nat) (hl : l.length = 256) (w : World) (hr : Row w a cap l) (l0 : (numS (l.take 252, 0) 1).1 = 0) :
    Calls Tryz.prog 71 #[.slice a 256 cap] w fun e w' => DecOut w l e w' := by
  have R0 := Rx.start hr hl
  have hcp := hr.le
  have HL : Hid (l.length = 256) := hl
  rw [hl] at hcp
  have HO : Hid (octs l) := hr.byte
  have HNO : Hid (∀ m s, rnodeS (l.take 252, 0) = (m, s) → (s.2 ≠ 0 ∨ rightB m = false ∨ pg m ≠ l) → decF l = none) := fun m s h1 h2 => rdec_no l HO.out m s h1 h2
  have HYES : Hid (∀ m, Rt m → pg m = l → decF l = some m) := fun m h1 h2 => rdec_yes l m h1 h2
  have HRW : Hid (∀ W, Fr (fun _ => False) w W → Row W a cap l) := fun W f => hr.same f
  obtain ⟨s, hs⟩ : ∃ s : RS, s = (l.take 252, 0) := ⟨_, rfl⟩
  rw [← hs] at R0 HNO l0
  obtain ⟨y1, h1⟩ : ∃ y, y = numS s 1 := ⟨_, rfl⟩
  obtain ⟨y2, h2⟩ : ∃ y, y = numS y1.2.2 8 := ⟨_, rfl⟩
  obtain ⟨y3, h3⟩ : ∃ y, y = numS y2.2.2 4 := ⟨_, rfl⟩
  obtain ⟨y4, h4⟩ : ∃ y, y = numS y3.2.2 2 := ⟨_, rfl⟩
  obtain ⟨y5, h5⟩ : ∃ y, y = textS y4.2.2 256 := ⟨_, rfl⟩
  have HN := rnode_head s y1 y2 y3 y4 y5 h1 h2 h3 h4 h5
  have hnn := numS_nn s 1
  rw [← h1] at l0 hnn
  rw [if_pos l0] at HN
  have HN : Hid (rnodeS s = rentL true y4.1.toNat (⟨y1.1, y2.1, y3.1, strOf y5.1, [], [], []⟩, y5.2.2)) := HN
  have H1 : Hid (y1 = numS s 1) := h1
  have H2 : Hid (y2 = numS y1.2.2 8) := h2
  have H3 : Hid (y3 = numS y2.2.2 4) := h3
  have H4 : Hid (y4 = numS y3.2.2 2) := h4
  have H5 : Hid (y5 = textS y4.2.2 256) := h5
  have hlg : ¬ (0 < y1.1) := by omega
  have hlg2 : y1.1 ≤ 0 := by omega
  clear h1 h2 h3 h4 h5 hs hl hr l0 hnn
  go_enter Tryz.func71, Tryz.ntmps71
  go_wp2_with fail
  refine (fnum_all 1 (w.heap.size + 1) a cap s _ R0.rf).mono ?_
  rw [← H1.out]
  rintro e w1 ⟨rfl, a1, c1, r1, f1, n1⟩
  have R1 := R0.goR r1 f1 n1
  obtain ⟨⟨k0, k1, k2, k3, k4, k5, k6⟩, fz⟩ := node_cells R1.box
  have fz0 := fz 0
  have R2 := R1.lev y1.1
  go_wp2_with fail
  refine (fnum_all 8 (w.heap.size + 1) a1 c1 _ _ R2.rf).mono ?_
  rw [← H2.out]
  rintro e w2 ⟨rfl, a2, c2, r2, f2, n2⟩
  clear k0 k1 k2 k3 k4 k5 k6 fz fz0 R0 R1
  have R3 := R2.goR r2 f2 n2
  obtain ⟨⟨k0, k1, k2, k3, k4, k5, k6⟩, fz⟩ := node_cells R3.box
  have fz0 := fz 1
  have R4 := R3.lsn y2.1
  go_wp2_with fail
  refine (fnum_all 4 (w.heap.size + 1) a2 c2 _ _ R4.rf).mono ?_
  rw [← H3.out]
  rintro e w3 ⟨rfl, a3, c3, r3, f3, n3⟩
  clear k0 k1 k2 k3 k4 k5 k6 fz fz0 R2 R3
  have R5 := R4.goR r3 f3 n3
  obtain ⟨⟨k0, k1, k2, k3, k4, k5, k6⟩, fz⟩ := node_cells R5.box
  have fz0 := fz 2
  have R6 := R5.rgt y3.1
  go_wp2_with fail
  refine (fnum_all 2 (w.heap.size + 1) a3 c3 _ _ R6.rf).mono ?_
  rw [← H4.out]
  rintro e w4 ⟨rfl, a4, c4, r4, f4, n4⟩
  clear k0 k1 k2 k3 k4 k5 k6 fz fz0 R4 R5
  have R7 := R6.goR r4 f4 n4
  have hct : 0 ≤ y4.1 ∧ y4.1 ≤ 65535 := by rw [H4.out]; exact numS2_le y3.2.2 R6.rf.row.byte
  go_wp2_with fail
  refine (ftext_all 256 (w.heap.size + 1) a4 c4 _ _ R7.rf).mono ?_
  rw [← H5.out]
  rintro e w5 ⟨rfl, a5, c5, r5, f5, n5⟩
  have R8 := R7.goR r5 f5 n5
  have hsh : (strOf y5.1).size ≤ 65535 := by rw [H5.out]; exact textS_size y4.2.2 256 R7.rf.row.byte
  obtain ⟨hi, hhi⟩ : ∃ x, x = strOf y5.1 := ⟨_, rfl⟩
  rw [← hhi] at hsh HN ⊢
  obtain ⟨⟨k0, k1, k2, k3, k4, k5, k6⟩, fz⟩ := node_cells R8.box
  have fz0 := fz 3
  have R9 := R8.high hi
  obtain ⟨ct, hctn⟩ := Int.eq_ofNat_of_zero_le hct.1
  have hct2 : ct ≤ 65535 := by omega
  have HCT : Hid (y4.1.toNat = ct) := by show _ = _; omega
  rw [hctn]
  clear hhi hctn hct R6 R7 R8 f1 f2 f3 f4 f5 r1 r2 r3 r4 r5 n1 n2 n3 n4 n5
  rw [HCT.out] at HN
  go_upto_region 10 with fail
  obtain ⟨W9, hW9⟩ : ∃ W, W = w5.setCell ⟨w.heap.size + 1 + 1, 3, none⟩ (.string hi) := ⟨_, rfl⟩
  rw [← hW9] at R9 ⊢
  have R9 : Rx w W9 (w.heap.size + 1 + 1) (w.heap.size + 1) w.heap.size a5 c5 y5.2.2 ⟨y1.1, y2.1, y3.1, hi, [], [], []⟩ (.slice none 0 0) (.slice none 0 0) (.slice none 0 0) := R9
  clear hW9 k0 k1 k2 k3 k4 k5 k6 fz fz0
  obtain ⟨⟨k0, k1, k2, k3, k4, k5, k6⟩, fz⟩ := node_cells R9.box
  simp only at k0 k1 k2 k3
  go_wp2
  go_loopw [10] (fun i wr => RdR true s ct y1.1 w i wr) (fun i _ => ct - (intOf i).toNat)
  case atStart => exact ⟨0, _, _, _, _, _, _, _, by omega, rfl, R9, ⟨Nat.le_refl _, Nat.le_refl _, Nat.zero_le _, rfl⟩, ⟨hsh, (fun s hs => by cases hs), (fun s hs => by cases hs)⟩, by show _ = _; rw [HN.out]; rfl⟩
  case round =>
    obtain ⟨k, m, s', a', c', kv, vv, iv, hk, rfl, R, HK, sh, HE⟩ := hrel
    clear R9
    obtain ⟨⟨k0, k1, k2, k3, k4, k5, k6⟩, fz⟩ := node_cells R.box
    obtain ⟨g0, g1, g2, g3⟩ := cell_of_two R.rf.box
    rw [HK.out.2.2.2] at k0
    by_cases hlt : k < ct
    · have hki : (k : Int) < (ct : Int) := by omega
      by_cases hs0 : s'.2 = 0
      · obtain ⟨t, ht⟩ : ∃ t, t = textS s' 256 := ⟨_, rfl⟩
        have HT : Hid (t = textS s' 256) := ht
        obtain ⟨u, hu⟩ : ∃ u, u = textS t.2.2 256 := ⟨_, rfl⟩
        have HU : Hid (u = textS t.2.2 256) := hu
        obtain ⟨ts, hts⟩ : ∃ x, x = strOf t.1 := ⟨_, rfl⟩
        obtain ⟨us, hus⟩ : ∃ x, x = strOf u.1 := ⟨_, rfl⟩
        have HUS : Hid (us = strOf u.1) := hus
        have HE2 : Hid (rnodeS s = rentL true (ct - (k + 1)) ({ m with keys := m.keys ++ [ts], vals := m.vals ++ [us] }, u.2.2)) := by
          show _ = _
          rw [HE.out, show ct - k = ct - (k + 1) + 1 by omega, rentL_leaf _ m s' t u hs0 ht hu, hts, hus]
        clear hus
        have ht5 : ts.size ≤ 65535 := by rw [hts, ht]; exact textS_size s' 256 R.rf.row.byte
        have HTS : Hid (ts = strOf t.1) := hts
        rw [hs0] at g1
        clear ht hu HE hs0 hts
        go_wp2_with fail
        refine (ftext_all 256 (w.heap.size + 1) a' c' s' _ R.rf).mono ?_
        rw [← HT.out, ← HTS.out]
        rintro e w7 ⟨rfl, a7, c7, r7, f7, n7⟩
        have R7 := R.goR r7 f7 n7
        clear k0 k1 k2 k3 k4 k5 k6 fz g0 g1 g2 g3
        obtain ⟨⟨k0, k1, k2, k3, k4, k5, k6⟩, fz⟩ := node_cells R7.box
        obtain ⟨a8, c8, w8, hap, q8, z8, R8⟩ := R7.key ts (by have := HK.out.1; omega)
        go_upto_region 18 with (at_builtin; refine wpList_append_run rfl (.tmp 89) (.tmp 91) 30 30 rfl (by rfl) (by rfl) hap ?_)
        obtain ⟨W8, hW8⟩ : ∃ W, W = w8.setCell ⟨w.heap.size + 1 + 1, 4, none⟩ (.slice a8 (m.keys.length + 1) c8) := ⟨_, rfl⟩
        rw [← hW8] at R8 ⊢
        clear hW8 hap q8 z8 k0 k1 k2 k3 k4 k5 k6 fz r7 f7 n7
        obtain ⟨⟨k0, k1, k2, k3, k4, k5, k6⟩, fz⟩ := node_cells R8.box
        simp only at k0 k1 k2 k3
        rw [HK.out.2.2.2] at k0
        go_wp2_with fail
        refine (ftext_all 256 (w.heap.size + 1) a7 c7 _ _ R8.rf).mono ?_
        rw [← HU.out, ← HUS.out]
        rintro e w9 ⟨rfl, a9, c9, r9, f9, n9⟩
        have hu5 : us.size ≤ 65535 := by rw [HUS.out, HU.out]; exact textS_size t.2.2 256 R8.rf.row.byte
        have R9 := R8.goR r9 f9 n9
        clear k0 k1 k2 k3 k4 k5 k6 fz
        obtain ⟨⟨k0, k1, k2, k3, k4, k5, k6⟩, fz⟩ := node_cells R9.box
        obtain ⟨aA, cA, wA, hap, qA, zA, RA⟩ := R9.val us (by show m.vals.length ≤ _; have := HK.out.2.1; omega)
        go_upto_region 15 with (at_builtin; refine wpList_append_run rfl (.tmp 114) (.tmp 116) 30 30 rfl (by rfl) (by rfl) hap ?_)
        obtain ⟨WA, hWA⟩ : ∃ W, W = wA.setCell ⟨w.heap.size + 1 + 1, 5, none⟩ (.slice aA (m.vals.length + 1) cA) := ⟨_, rfl⟩
        try simp only at RA
        rw [← hWA] at RA ⊢
        have sh2 : Short { m with keys := m.keys ++ [ts], vals := m.vals ++ [us] } := ⟨sh.high, mem_snoc sh.keys ht5, mem_snoc sh.vals hu5⟩
        have HK2 : Hid ((m.keys ++ [ts]).length ≤ k + 1 ∧ (m.vals ++ [us]).length ≤ k + 1 ∧ m.kids.length ≤ k + 1 + 1 ∧ m.lev = y1.1) := ⟨by have := HK.out.1; simp; omega, by have := HK.out.2.1; simp; omega, by have := HK.out.2.2.1; omega, HK.out.2.2.2⟩
        clear hWA hap qA zA k0 k1 k2 k3 k4 k5 k6 fz r9 f9 n9
        go_wp2
        go_roundw
        case rel => first | exact ⟨k + 1, _, _, _, _, _, _, _, by omega, by go_num, RA, HK2, sh2, HE2⟩ | exact ⟨.int .i64 (((k : Nat) : Int) + 1), _, _, _, _, ⟨k + 1, _, _, _, _, _, _, _, by omega, by go_num, RA, HK2, sh2, HE2⟩, rfl, rfl, rfl, rfl, rfl⟩
        case measure => simp [intOf]; omega
      · have HS0 : Hid (s'.2 ≠ 0) := hs0
        have hsb : (s'.2 == 0) = false := by simpa using hs0
        have HRS : Hid (rnodeS s = (m, s')) := by show _ = _; rw [HE.out, rentL_stop _ _ _ hs0]
        have HD : Hid (decF l = none) := HNO.out m s' HRS.out (.inl hs0)
        clear hs0 HE
        rw [← HK.out.2.2.2] at k0
        obtain ⟨pn, e1, e2, e3, nd, far⟩ := R.nod sh (by have := HK.out.1; omega) (by have := HK.out.2.1; omega) (by have := HK.out.2.2.1; omega)
        subst e1; subst e2; subst e3
        have hen := rencode_some m pn _ nd
        go_wp2_with fail
        refine hen.mono ?_
        rintro e w6 ⟨ae, ke, ce, er, rfl, f6⟩
        clear hen k0 k1 k2 k3 k4 k5 k6 fz g0 g1 g2 g3
        have RE := R.same f6
        obtain ⟨g0, g1, g2, g3⟩ := cell_of_two RE.rf.box
        have hneb : (s'.2 != 0) = true := by simpa using HS0.out
        have hR6 := RE.res
        obtain ⟨⟨s0, s1, s2, s3, s4, s5, s6⟩, sz⟩ := node_cells hR6
        have z0 := sz 0; have z1 := sz 1; have z2 := sz 2; have z3 := sz 3; have z4 := sz 4; have z5 := sz 5; have z6 := sz 6
        clear sz
        go_wp2
        obtain ⟨hq, ff⟩ := fin7 hR6 (.int .i64 0) (.int .i64 0) (.int .i64 0) (.string ⟨#[]⟩) (.slice none 0 0) (.slice none 0 0) (.slice none 0 0)
        have fff := RE.fr.trans ff (S := fun _ => False) (fun i hi e => by omega)
        generalize ((((((w6.setCell ⟨w.heap.size, 0, none⟩ (.int .i64 0)).setCell ⟨w.heap.size, 1, none⟩ (.int .i64 0)).setCell ⟨w.heap.size, 2, none⟩ (.int .i64 0)).setCell ⟨w.heap.size, 3, none⟩ (.string ⟨#[]⟩)).setCell ⟨w.heap.size, 4, none⟩ (.slice none 0 0)).setCell ⟨w.heap.size, 5, none⟩ (.slice none 0 0)).setCell ⟨w.heap.size, 6, none⟩ (.slice none 0 0) = Wf at hq fff ⊢
        obtain ⟨⟨q0, q1, q2, q3, q4, q5, q6⟩, _⟩ := node_cells hq
        exact bodyPost_ret (v := .tuple #[.agg #[.int .i64 0, .int .i64 0, .int .i64 0, .string ⟨#[]⟩, .slice none 0 0, .slice none 0 0, .slice none 0 0], .int .i64 60]) (by simp [results, Tryz.results71, go_sem, q0, q1, q2, q3, q4, q5, q6]) rfl (dec_no HD.out fff)
    · have hke : k = ct := by omega
      have hkx : ¬ ((k : Int) < (ct : Int)) := by omega
      have HRS : Hid (rnodeS s = (m, s')) := by show _ = _; rw [HE.out, hke, Nat.sub_self]; rfl
      rw [← HK.out.2.2.2] at k0
      clear HE
      subst hke
      by_cases hs0 : s'.2 = 0
      · have HS0 : Hid (s'.2 = 0) := hs0
        clear hs0
        obtain ⟨pn, e1, e2, e3, nd, far⟩ := R.nod sh (by have := HK.out.1; omega) (by have := HK.out.2.1; omega) (by have := HK.out.2.2.1; omega)
        subst e1; subst e2; subst e3
        cases hrt : rightB m
        · have HD : Hid (decF l = none) := HNO.out m s' HRS.out (.inr (.inl hrt))
          have hen := rencode_no m pn _ nd hrt
          clear hrt
          go_wp2_with fail
          refine hen.mono ?_
          rintro e w6 ⟨rfl, f6⟩
          clear hen k0 k1 k2 k3 k4 k5 k6 fz g0 g1 g2 g3
          have RE := R.same f6
          obtain ⟨g0, g1, g2, g3⟩ := cell_of_two RE.rf.box
          rw [HS0.out] at g1
          have hR6 := RE.res
          obtain ⟨⟨s0, s1, s2, s3, s4, s5, s6⟩, sz⟩ := node_cells hR6
          have z0 := sz 0; have z1 := sz 1; have z2 := sz 2; have z3 := sz 3; have z4 := sz 4; have z5 := sz 5; have z6 := sz 6
          clear sz
          go_wp2
          obtain ⟨hq, ff⟩ := fin7 hR6 (.int .i64 0) (.int .i64 0) (.int .i64 0) (.string ⟨#[]⟩) (.slice none 0 0) (.slice none 0 0) (.slice none 0 0)
          have fff := RE.fr.trans ff (S := fun _ => False) (fun i hi e => by omega)
          generalize ((((((w6.setCell ⟨w.heap.size, 0, none⟩ (.int .i64 0)).setCell ⟨w.heap.size, 1, none⟩ (.int .i64 0)).setCell ⟨w.heap.size, 2, none⟩ (.int .i64 0)).setCell ⟨w.heap.size, 3, none⟩ (.string ⟨#[]⟩)).setCell ⟨w.heap.size, 4, none⟩ (.slice none 0 0)).setCell ⟨w.heap.size, 5, none⟩ (.slice none 0 0)).setCell ⟨w.heap.size, 6, none⟩ (.slice none 0 0) = Wf at hq fff ⊢
          obtain ⟨⟨q0, q1, q2, q3, q4, q5, q6⟩, _⟩ := node_cells hq
          exact bodyPost_ret (v := .tuple #[.agg #[.int .i64 0, .int .i64 0, .int .i64 0, .string ⟨#[]⟩, .slice none 0 0, .slice none 0 0, .slice none 0 0], .int .i64 60]) (by simp [results, Tryz.results71, go_sem, q0, q1, q2, q3, q4, q5, q6]) rfl (dec_no HD.out fff)
        · have RT := (right_iff m).1 hrt
          have hen := rencode_yes m pn _ nd RT
          have HP256 : Hid ((pg m).length = 256) := pg_len RT
          have HPO : Hid (octs (pg m)) := pg_octs m
          have HYM : Hid (pg m = l → decF l = some m) := HYES.out m RT
          clear hrt RT
          go_wp2_with fail
          refine hen.mono ?_
          rintro e w6 ⟨a6, c6', rfl, r6, f6⟩
          clear hen k0 k1 k2 k3 k4 k5 k6 fz g0 g1 g2 g3
          have RE := R.same f6
          have nd6 := nd.same f6
          obtain ⟨g0, g1, g2, g3⟩ := cell_of_two RE.rf.box
          obtain ⟨⟨k0, k1, k2, k3, k4, k5, k6⟩, fz⟩ := node_cells RE.box
          rw [HS0.out] at g1
          have cvx := run_str (P := Tryz.prog) (src := 23) (dst := 9) Tryz.underlying23 Tryz.underlying5 Tryz.underlying9 r6 256 HP256.out.symm
          have cvy := run_str (P := Tryz.prog) (src := 23) (dst := 9) Tryz.underlying23 Tryz.underlying5 Tryz.underlying9 (HRW.out _ RE.fr) 256 HL.out.symm
          have HSB := str_beq (strOf (pg m)) (strOf l)
          rw [bbsOf_strOf _ HPO.out, bbsOf_strOf _ HO.out] at HSB
          by_cases hpl : pg m = l
          · rw [decide_eq_true hpl] at HSB
            have HD : Hid (decF l = some m) := HYM.out hpl
            obtain ⟨u, hu⟩ : ∃ u, u = strOf (pg m) := ⟨_, rfl⟩
            obtain ⟨v, hv⟩ : ∃ v, v = strOf l := ⟨_, rfl⟩
            rw [← hu] at cvx HSB
            rw [← hv] at cvy HSB
            have hR6 := RE.res
            obtain ⟨⟨s0, s1, s2, s3, s4, s5, s6⟩, sz⟩ := node_cells hR6
            have z0 := sz 0; have z1 := sz 1; have z2 := sz 2; have z3 := sz 3; have z4 := sz 4; have z5 := sz 5; have z6 := sz 6
            clear sz hu hv hpl
            go_wp2
            obtain ⟨hq, ff⟩ := fin7 hR6 (.int .i64 m.lev) (.int .i64 m.lsn) (.int .i64 m.rgt) (.string m.high) (.slice pn.k m.keys.length pn.kc) (.slice pn.v m.vals.length pn.vc) (.slice pn.i m.kids.length pn.ic)
            have fff := RE.fr.trans ff (S := fun _ => False) (fun i hi e => by omega)
            have ndf := nd_far nd6 ff (fun b off hx e => by have := far b off hx; omega)
            generalize ((((((w6.setCell ⟨w.heap.size, 0, none⟩ (.int .i64 m.lev)).setCell ⟨w.heap.size, 1, none⟩ (.int .i64 m.lsn)).setCell ⟨w.heap.size, 2, none⟩ (.int .i64 m.rgt)).setCell ⟨w.heap.size, 3, none⟩ (.string m.high)).setCell ⟨w.heap.size, 4, none⟩ (.slice pn.k m.keys.length pn.kc)).setCell ⟨w.heap.size, 5, none⟩ (.slice pn.v m.vals.length pn.vc)).setCell ⟨w.heap.size, 6, none⟩ (.slice pn.i m.kids.length pn.ic) = Wf at hq fff ndf ⊢
            obtain ⟨⟨q0, q1, q2, q3, q4, q5, q6⟩, _⟩ := node_cells hq
            exact bodyPost_ret (v := .tuple #[(.agg #[.int .i64 m.lev, .int .i64 m.lsn, .int .i64 m.rgt, .string m.high, .slice pn.k m.keys.length pn.kc, .slice pn.v m.vals.length pn.vc, .slice pn.i m.kids.length pn.ic]), .int .i64 0]) (by simp [results, Tryz.results71, go_sem, q0, q1, q2, q3, q4, q5, q6]) rfl (dec_yes HD.out ndf fff (fun b off hx => by have := far b off hx; omega))
          · rw [decide_eq_false hpl] at HSB
            have HD : Hid (decF l = none) := HNO.out m s' HRS.out (.inr (.inr hpl))
            obtain ⟨u, hu⟩ : ∃ u, u = strOf (pg m) := ⟨_, rfl⟩
            obtain ⟨v, hv⟩ : ∃ v, v = strOf l := ⟨_, rfl⟩
            rw [← hu] at cvx HSB
            rw [← hv] at cvy HSB
            clear hu hv hpl
            have hR6 := RE.res
            obtain ⟨⟨s0, s1, s2, s3, s4, s5, s6⟩, sz⟩ := node_cells hR6
            have z0 := sz 0; have z1 := sz 1; have z2 := sz 2; have z3 := sz 3; have z4 := sz 4; have z5 := sz 5; have z6 := sz 6
            clear sz
            go_wp2
            obtain ⟨hq, ff⟩ := fin7 hR6 (.int .i64 0) (.int .i64 0) (.int .i64 0) (.string ⟨#[]⟩) (.slice none 0 0) (.slice none 0 0) (.slice none 0 0)
            have fff := RE.fr.trans ff (S := fun _ => False) (fun i hi e => by omega)
            generalize ((((((w6.setCell ⟨w.heap.size, 0, none⟩ (.int .i64 0)).setCell ⟨w.heap.size, 1, none⟩ (.int .i64 0)).setCell ⟨w.heap.size, 2, none⟩ (.int .i64 0)).setCell ⟨w.heap.size, 3, none⟩ (.string ⟨#[]⟩)).setCell ⟨w.heap.size, 4, none⟩ (.slice none 0 0)).setCell ⟨w.heap.size, 5, none⟩ (.slice none 0 0)).setCell ⟨w.heap.size, 6, none⟩ (.slice none 0 0) = Wf at hq fff ⊢
            obtain ⟨⟨q0, q1, q2, q3, q4, q5, q6⟩, _⟩ := node_cells hq
            exact bodyPost_ret (v := .tuple #[.agg #[.int .i64 0, .int .i64 0, .int .i64 0, .string ⟨#[]⟩, .slice none 0 0, .slice none 0 0, .slice none 0 0], .int .i64 60]) (by simp [results, Tryz.results71, go_sem, q0, q1, q2, q3, q4, q5, q6]) rfl (dec_no HD.out fff)
      · have HS0 : Hid (s'.2 ≠ 0) := hs0
        have HD : Hid (decF l = none) := HNO.out m s' HRS.out (.inl hs0)
        clear hs0
        obtain ⟨pn, e1, e2, e3, nd, far⟩ := R.nod sh (by have := HK.out.1; omega) (by have := HK.out.2.1; omega) (by have := HK.out.2.2.1; omega)
        subst e1; subst e2; subst e3
        have hen := rencode_some m pn _ nd
        go_wp2_with fail
        refine hen.mono ?_
        rintro e w6 ⟨ae, ke, ce, er, rfl, f6⟩
        clear hen k0 k1 k2 k3 k4 k5 k6 fz g0 g1 g2 g3
        have RE := R.same f6
        obtain ⟨g0, g1, g2, g3⟩ := cell_of_two RE.rf.box
        have hneb : (s'.2 != 0) = true := by simpa using HS0.out
        have hR6 := RE.res
        obtain ⟨⟨s0, s1, s2, s3, s4, s5, s6⟩, sz⟩ := node_cells hR6
        have z0 := sz 0; have z1 := sz 1; have z2 := sz 2; have z3 := sz 3; have z4 := sz 4; have z5 := sz 5; have z6 := sz 6
        clear sz
        go_wp2
        obtain ⟨hq, ff⟩ := fin7 hR6 (.int .i64 0) (.int .i64 0) (.int .i64 0) (.string ⟨#[]⟩) (.slice none 0 0) (.slice none 0 0) (.slice none 0 0)
        have fff := RE.fr.trans ff (S := fun _ => False) (fun i hi e => by omega)
        generalize ((((((w6.setCell ⟨w.heap.size, 0, none⟩ (.int .i64 0)).setCell ⟨w.heap.size, 1, none⟩ (.int .i64 0)).setCell ⟨w.heap.size, 2, none⟩ (.int .i64 0)).setCell ⟨w.heap.size, 3, none⟩ (.string ⟨#[]⟩)).setCell ⟨w.heap.size, 4, none⟩ (.slice none 0 0)).setCell ⟨w.heap.size, 5, none⟩ (.slice none 0 0)).setCell ⟨w.heap.size, 6, none⟩ (.slice none 0 0) = Wf at hq fff ⊢
        obtain ⟨⟨q0, q1, q2, q3, q4, q5, q6⟩, _⟩ := node_cells hq
        exact bodyPost_ret (v := .tuple #[.agg #[.int .i64 0, .int .i64 0, .int .i64 0, .string ⟨#[]⟩, .slice none 0 0, .slice none 0 0, .slice none 0 0], .int .i64 60]) (by simp [results, Tryz.results71, go_sem, q0, q1, q2, q3, q4, q5, q6]) rfl (dec_no HD.out fff)
end Go.Proofs.YtkibbojiflklpaaGreat

/- What the document's Decode tells. -/
namespace Go.Proofs.YtkibbojiflklpaaGreat
open Go.RowKit Crcm

set_option maxRecDepth 100000 in
set_option maxHeartbeats 8000000 in
theorem rdecode_inner (a : Option Addr) (cap : Nat) (l : List Nat) (hl : l.length = 256) (w : World) (hr : Row w a cap l) (l0 : (numS (l.take 252, 0) 1).1 ≠ 0) :
    Calls Tryz.prog 71 #[.slice a 256 cap] w fun e w' => DecOut w l e w' := by
  have R0 := Rx.start hr hl
  have hcp := hr.le
  have HL : Hid (l.length = 256) := hl
  rw [hl] at hcp
  have HO : Hid (octs l) := hr.byte
  have HNO : Hid (∀ m s, rnodeS (l.take 252, 0) = (m, s) → (s.2 ≠ 0 ∨ rightB m = false ∨ pg m ≠ l) → decF l = none) := fun m s h1 h2 => rdec_no l HO.out m s h1 h2
  have HYES : Hid (∀ m, Rt m → pg m = l → decF l = some m) := fun m h1 h2 => rdec_yes l m h1 h2
  have HRW : Hid (∀ W, Fr (fun _ => False) w W → Row W a cap l) := fun W f => hr.same f
  obtain ⟨s, hs⟩ : ∃ s : RS, s = (l.take 252, 0) := ⟨_, rfl⟩
  rw [← hs] at R0 HNO l0
  obtain ⟨y1, h1⟩ : ∃ y, y = numS s 1 := ⟨_, rfl⟩
  obtain ⟨y2, h2⟩ : ∃ y, y = numS y1.2.2 8 := ⟨_, rfl⟩
  obtain ⟨y3, h3⟩ : ∃ y, y = numS y2.2.2 4 := ⟨_, rfl⟩
  obtain ⟨y4, h4⟩ : ∃ y, y = numS y3.2.2 2 := ⟨_, rfl⟩
  obtain ⟨y5, h5⟩ : ∃ y, y = textS y4.2.2 256 := ⟨_, rfl⟩
  have HN := rnode_head s y1 y2 y3 y4 y5 h1 h2 h3 h4 h5
  have hnn := numS_nn s 1
  rw [← h1] at l0 hnn
  rw [if_neg l0] at HN
  have HN : Hid (rnodeS s = rentL false y4.1.toNat (⟨y1.1, y2.1, y3.1, strOf y5.1, [], [], [(numS y5.2.2 4).1]⟩, (numS y5.2.2 4).2.2)) := HN
  have H1 : Hid (y1 = numS s 1) := h1
  have H2 : Hid (y2 = numS y1.2.2 8) := h2
  have H3 : Hid (y3 = numS y2.2.2 4) := h3
  have H4 : Hid (y4 = numS y3.2.2 2) := h4
  have H5 : Hid (y5 = textS y4.2.2 256) := h5
  have hlg : 0 < y1.1 := by omega
  clear h1 h2 h3 h4 h5 hs hl hr l0 hnn
  go_enter Tryz.func71, Tryz.ntmps71
  go_wp2_with fail
  refine (fnum_all 1 (w.heap.size + 1) a cap s _ R0.rf).mono ?_
  rw [← H1.out]
  rintro e w1 ⟨rfl, a1, c1, r1, f1, n1⟩
  have R1 := R0.goR r1 f1 n1
  obtain ⟨⟨k0, k1, k2, k3, k4, k5, k6⟩, fz⟩ := node_cells R1.box
  have fz0 := fz 0
  have R2 := R1.lev y1.1
  go_wp2_with fail
  refine (fnum_all 8 (w.heap.size + 1) a1 c1 _ _ R2.rf).mono ?_
  rw [← H2.out]
  rintro e w2 ⟨rfl, a2, c2, r2, f2, n2⟩
  clear k0 k1 k2 k3 k4 k5 k6 fz fz0 R0 R1
  have R3 := R2.goR r2 f2 n2
  obtain ⟨⟨k0, k1, k2, k3, k4, k5, k6⟩, fz⟩ := node_cells R3.box
  have fz0 := fz 1
  have R4 := R3.lsn y2.1
  go_wp2_with fail
  refine (fnum_all 4 (w.heap.size + 1) a2 c2 _ _ R4.rf).mono ?_
  rw [← H3.out]
  rintro e w3 ⟨rfl, a3, c3, r3, f3, n3⟩
  clear k0 k1 k2 k3 k4 k5 k6 fz fz0 R2 R3
  have R5 := R4.goR r3 f3 n3
  obtain ⟨⟨k0, k1, k2, k3, k4, k5, k6⟩, fz⟩ := node_cells R5.box
  have fz0 := fz 2
  have R6 := R5.rgt y3.1
  go_wp2_with fail
  refine (fnum_all 2 (w.heap.size + 1) a3 c3 _ _ R6.rf).mono ?_
  rw [← H4.out]
  rintro e w4 ⟨rfl, a4, c4, r4, f4, n4⟩
  clear k0 k1 k2 k3 k4 k5 k6 fz fz0 R4 R5
  have R7 := R6.goR r4 f4 n4
  have hct : 0 ≤ y4.1 ∧ y4.1 ≤ 65535 := by rw [H4.out]; exact numS2_le y3.2.2 R6.rf.row.byte
  go_wp2_with fail
  refine (ftext_all 256 (w.heap.size + 1) a4 c4 _ _ R7.rf).mono ?_
  rw [← H5.out]
  rintro e w5 ⟨rfl, a5, c5, r5, f5, n5⟩
  have R8 := R7.goR r5 f5 n5
  have hsh : (strOf y5.1).size ≤ 65535 := by rw [H5.out]; exact textS_size y4.2.2 256 R7.rf.row.byte
  obtain ⟨hi, hhi⟩ : ∃ x, x = strOf y5.1 := ⟨_, rfl⟩
  rw [← hhi] at hsh HN ⊢
  obtain ⟨⟨k0, k1, k2, k3, k4, k5, k6⟩, fz⟩ := node_cells R8.box
  have fz0 := fz 3
  have R9 := R8.high hi
  obtain ⟨ct, hctn⟩ := Int.eq_ofNat_of_zero_le hct.1
  have hct2 : ct ≤ 65535 := by omega
  have HCT : Hid (y4.1.toNat = ct) := by show _ = _; omega
  rw [hctn]
  clear hhi hctn hct R6 R7 R8 f1 f2 f3 f4 f5 r1 r2 r3 r4 r5 n1 n2 n3 n4 n5
  rw [HCT.out] at HN
  go_upto_region 10 with fail
  obtain ⟨W9, hW9⟩ : ∃ W, W = w5.setCell ⟨w.heap.size + 1 + 1, 3, none⟩ (.string hi) := ⟨_, rfl⟩
  rw [← hW9] at R9 ⊢
  have R9 : Rx w W9 (w.heap.size + 1 + 1) (w.heap.size + 1) w.heap.size a5 c5 y5.2.2 ⟨y1.1, y2.1, y3.1, hi, [], [], []⟩ (.slice none 0 0) (.slice none 0 0) (.slice none 0 0) := R9
  clear hW9 k0 k1 k2 k3 k4 k5 k6 fz fz0
  obtain ⟨⟨k0, k1, k2, k3, k4, k5, k6⟩, fz⟩ := node_cells R9.box
  simp only at k0 k1 k2 k3
  obtain ⟨y6, h6⟩ : ∃ y, y = numS y5.2.2 4 := ⟨_, rfl⟩
  have H6 : Hid (y6 = numS y5.2.2 4) := h6
  rw [← h6] at HN
  clear h6
  go_wp2_with fail
  refine (fnum_all 4 (w.heap.size + 1) a5 c5 _ _ R9.rf).mono ?_
  rw [← H6.out]
  rintro e w6 ⟨rfl, a6, c6, r6, f6, n6⟩
  clear k0 k1 k2 k3 k4 k5 k6 fz
  have RA := R9.goR r6 f6 n6
  obtain ⟨⟨k0, k1, k2, k3, k4, k5, k6⟩, fz⟩ := node_cells RA.box
  simp only at k0 k1 k2 k3
  obtain ⟨aA, cA, wA, hapA, qA, zA, RB⟩ := RA.kid y6.1 (Nat.zero_le _)
  simp only [List.length_nil, Nat.zero_add, List.nil_append] at hapA qA RB
  go_upto_region 13 with (at_builtin; refine wpList_append_run rfl (.tmp 66) (.tmp 68) 31 31 rfl (by rfl) (by rfl) hapA ?_)
  obtain ⟨WB, hWB⟩ : ∃ W, W = wA.setCell ⟨w.heap.size + 1 + 1, 6, none⟩ (.slice aA 1 cA) := ⟨_, rfl⟩
  rw [← hWB] at RB ⊢
  clear hWB hapA qA zA k0 k1 k2 k3 k4 k5 k6 fz RA R9 r6 f6 n6
  go_wp2
  go_loopw [10] (fun i wr => RdR false s ct y1.1 w i wr) (fun i _ => ct - (intOf i).toNat)
  case atStart => exact ⟨0, _, _, _, _, _, _, _, by omega, rfl, RB, ⟨Nat.le_refl _, Nat.le_refl _, Nat.le_refl _, rfl⟩, ⟨hsh, (fun s hs => by cases hs), (fun s hs => by cases hs)⟩, by show _ = _; rw [HN.out]; rfl⟩
  case round =>
    obtain ⟨k, m, s', a', c', kv, vv, iv, hk, rfl, R, HK, sh, HE⟩ := hrel
    clear RB
    obtain ⟨⟨k0, k1, k2, k3, k4, k5, k6⟩, fz⟩ := node_cells R.box
    obtain ⟨g0, g1, g2, g3⟩ := cell_of_two R.rf.box
    rw [HK.out.2.2.2] at k0
    by_cases hlt : k < ct
    · have hki : (k : Int) < (ct : Int) := by omega
      by_cases hs0 : s'.2 = 0
      · obtain ⟨t, ht⟩ : ∃ t, t = textS s' 256 := ⟨_, rfl⟩
        have HT : Hid (t = textS s' 256) := ht
        obtain ⟨u, hu⟩ : ∃ u, u = numS t.2.2 4 := ⟨_, rfl⟩
        have HU : Hid (u = numS t.2.2 4) := hu
        obtain ⟨ts, hts⟩ : ∃ x, x = strOf t.1 := ⟨_, rfl⟩
        have HE2 : Hid (rnodeS s = rentL false (ct - (k + 1)) ({ m with keys := m.keys ++ [ts], kids := m.kids ++ [u.1] }, u.2.2)) := by
          show _ = _
          rw [HE.out, show ct - k = ct - (k + 1) + 1 by omega, rentL_inner _ m s' t u hs0 ht hu, hts]
        have ht5 : ts.size ≤ 65535 := by rw [hts, ht]; exact textS_size s' 256 R.rf.row.byte
        have HTS : Hid (ts = strOf t.1) := hts
        rw [hs0] at g1
        clear ht hu HE hs0 hts
        go_wp2_with fail
        refine (ftext_all 256 (w.heap.size + 1) a' c' s' _ R.rf).mono ?_
        rw [← HT.out, ← HTS.out]
        rintro e w7 ⟨rfl, a7, c7, r7, f7, n7⟩
        have R7 := R.goR r7 f7 n7
        clear k0 k1 k2 k3 k4 k5 k6 fz g0 g1 g2 g3
        obtain ⟨⟨k0, k1, k2, k3, k4, k5, k6⟩, fz⟩ := node_cells R7.box
        obtain ⟨a8, c8, w8, hap, q8, z8, R8⟩ := R7.key ts (by have := HK.out.1; omega)
        go_upto_region 18 with (at_builtin; refine wpList_append_run rfl (.tmp 89) (.tmp 91) 30 30 rfl (by rfl) (by rfl) hap ?_)
        obtain ⟨W8, hW8⟩ : ∃ W, W = w8.setCell ⟨w.heap.size + 1 + 1, 4, none⟩ (.slice a8 (m.keys.length + 1) c8) := ⟨_, rfl⟩
        rw [← hW8] at R8 ⊢
        clear hW8 hap q8 z8 k0 k1 k2 k3 k4 k5 k6 fz r7 f7 n7
        obtain ⟨⟨k0, k1, k2, k3, k4, k5, k6⟩, fz⟩ := node_cells R8.box
        simp only at k0 k1 k2 k3
        rw [HK.out.2.2.2] at k0
        go_wp2_with fail
        refine (fnum_all 4 (w.heap.size + 1) a7 c7 _ _ R8.rf).mono ?_
        rw [← HU.out]
        rintro e w9 ⟨rfl, a9, c9, r9, f9, n9⟩
        have R9 := R8.goR r9 f9 n9
        clear k0 k1 k2 k3 k4 k5 k6 fz
        obtain ⟨⟨k0, k1, k2, k3, k4, k5, k6⟩, fz⟩ := node_cells R9.box
        obtain ⟨aA, cA, wA, hap, qA, zA, RA⟩ := R9.kid u.1 (by show m.kids.length ≤ _; have := HK.out.2.2.1; omega)
        go_upto_region 15 with (at_builtin; refine wpList_append_run rfl (.tmp 103) (.tmp 105) 31 31 rfl (by rfl) (by rfl) hap ?_)
        obtain ⟨WA, hWA⟩ : ∃ W, W = wA.setCell ⟨w.heap.size + 1 + 1, 6, none⟩ (.slice aA (m.kids.length + 1) cA) := ⟨_, rfl⟩
        try simp only at RA
        rw [← hWA] at RA ⊢
        have sh2 : Short { m with keys := m.keys ++ [ts], kids := m.kids ++ [u.1] } := ⟨sh.high, mem_snoc sh.keys ht5, sh.vals⟩
        have HK2 : Hid ((m.keys ++ [ts]).length ≤ k + 1 ∧ m.vals.length ≤ k + 1 ∧ (m.kids ++ [u.1]).length ≤ k + 1 + 1 ∧ m.lev = y1.1) := ⟨by have := HK.out.1; simp; omega, by have := HK.out.2.1; omega, by have := HK.out.2.2.1; simp; omega, HK.out.2.2.2⟩
        clear hWA hap qA zA k0 k1 k2 k3 k4 k5 k6 fz r9 f9 n9
        go_wp2
        go_roundw
        case rel => first | exact ⟨k + 1, _, _, _, _, _, _, _, by omega, by go_num, RA, HK2, sh2, HE2⟩ | exact ⟨.int .i64 (((k : Nat) : Int) + 1), _, _, _, _, ⟨k + 1, _, _, _, _, _, _, _, by omega, by go_num, RA, HK2, sh2, HE2⟩, rfl, rfl, rfl, rfl, rfl⟩
        case measure => simp [intOf]; omega
      · have HS0 : Hid (s'.2 ≠ 0) := hs0
        have hsb : (s'.2 == 0) = false := by simpa using hs0
        have HRS : Hid (rnodeS s = (m, s')) := by show _ = _; rw [HE.out, rentL_stop _ _ _ hs0]
        have HD : Hid (decF l = none) := HNO.out m s' HRS.out (.inl hs0)
        clear hs0 HE
        rw [← HK.out.2.2.2] at k0
        obtain ⟨pn, e1, e2, e3, nd, far⟩ := R.nod sh (by have := HK.out.1; omega) (by have := HK.out.2.1; omega) (by have := HK.out.2.2.1; omega)
        subst e1; subst e2; subst e3
        have hen := rencode_some m pn _ nd
        go_wp2_with fail
        refine hen.mono ?_
        rintro e w6 ⟨ae, ke, ce, er, rfl, f6⟩
        clear hen k0 k1 k2 k3 k4 k5 k6 fz g0 g1 g2 g3
        have RE := R.same f6
        obtain ⟨g0, g1, g2, g3⟩ := cell_of_two RE.rf.box
        have hneb : (s'.2 != 0) = true := by simpa using HS0.out
        have hR6 := RE.res
        obtain ⟨⟨s0, s1, s2, s3, s4, s5, s6⟩, sz⟩ := node_cells hR6
        have z0 := sz 0; have z1 := sz 1; have z2 := sz 2; have z3 := sz 3; have z4 := sz 4; have z5 := sz 5; have z6 := sz 6
        clear sz
        go_wp2
        obtain ⟨hq, ff⟩ := fin7 hR6 (.int .i64 0) (.int .i64 0) (.int .i64 0) (.string ⟨#[]⟩) (.slice none 0 0) (.slice none 0 0) (.slice none 0 0)
        have fff := RE.fr.trans ff (S := fun _ => False) (fun i hi e => by omega)
        generalize ((((((w6.setCell ⟨w.heap.size, 0, none⟩ (.int .i64 0)).setCell ⟨w.heap.size, 1, none⟩ (.int .i64 0)).setCell ⟨w.heap.size, 2, none⟩ (.int .i64 0)).setCell ⟨w.heap.size, 3, none⟩ (.string ⟨#[]⟩)).setCell ⟨w.heap.size, 4, none⟩ (.slice none 0 0)).setCell ⟨w.heap.size, 5, none⟩ (.slice none 0 0)).setCell ⟨w.heap.size, 6, none⟩ (.slice none 0 0) = Wf at hq fff ⊢
        obtain ⟨⟨q0, q1, q2, q3, q4, q5, q6⟩, _⟩ := node_cells hq
        exact bodyPost_ret (v := .tuple #[.agg #[.int .i64 0, .int .i64 0, .int .i64 0, .string ⟨#[]⟩, .slice none 0 0, .slice none 0 0, .slice none 0 0], .int .i64 60]) (by simp [results, Tryz.results71, go_sem, q0, q1, q2, q3, q4, q5, q6]) rfl (dec_no HD.out fff)
    · have hke : k = ct := by omega
      have hkx : ¬ ((k : Int) < (ct : Int)) := by omega
      have HRS : Hid (rnodeS s = (m, s')) := by show _ = _; rw [HE.out, hke, Nat.sub_self]; rfl
      rw [← HK.out.2.2.2] at k0
      clear HE
      subst hke
      by_cases hs0 : s'.2 = 0
      · have HS0 : Hid (s'.2 = 0) := hs0
        clear hs0
        obtain ⟨pn, e1, e2, e3, nd, far⟩ := R.nod sh (by have := HK.out.1; omega) (by have := HK.out.2.1; omega) (by have := HK.out.2.2.1; omega)
        subst e1; subst e2; subst e3
        cases hrt : rightB m
        · have HD : Hid (decF l = none) := HNO.out m s' HRS.out (.inr (.inl hrt))
          have hen := rencode_no m pn _ nd hrt
          clear hrt
          go_wp2_with fail
          refine hen.mono ?_
          rintro e w6 ⟨rfl, f6⟩
          clear hen k0 k1 k2 k3 k4 k5 k6 fz g0 g1 g2 g3
          have RE := R.same f6
          obtain ⟨g0, g1, g2, g3⟩ := cell_of_two RE.rf.box
          rw [HS0.out] at g1
          have hR6 := RE.res
          obtain ⟨⟨s0, s1, s2, s3, s4, s5, s6⟩, sz⟩ := node_cells hR6
          have z0 := sz 0; have z1 := sz 1; have z2 := sz 2; have z3 := sz 3; have z4 := sz 4; have z5 := sz 5; have z6 := sz 6
          clear sz
          go_wp2
          obtain ⟨hq, ff⟩ := fin7 hR6 (.int .i64 0) (.int .i64 0) (.int .i64 0) (.string ⟨#[]⟩) (.slice none 0 0) (.slice none 0 0) (.slice none 0 0)
          have fff := RE.fr.trans ff (S := fun _ => False) (fun i hi e => by omega)
          generalize ((((((w6.setCell ⟨w.heap.size, 0, none⟩ (.int .i64 0)).setCell ⟨w.heap.size, 1, none⟩ (.int .i64 0)).setCell ⟨w.heap.size, 2, none⟩ (.int .i64 0)).setCell ⟨w.heap.size, 3, none⟩ (.string ⟨#[]⟩)).setCell ⟨w.heap.size, 4, none⟩ (.slice none 0 0)).setCell ⟨w.heap.size, 5, none⟩ (.slice none 0 0)).setCell ⟨w.heap.size, 6, none⟩ (.slice none 0 0) = Wf at hq fff ⊢
          obtain ⟨⟨q0, q1, q2, q3, q4, q5, q6⟩, _⟩ := node_cells hq
          exact bodyPost_ret (v := .tuple #[.agg #[.int .i64 0, .int .i64 0, .int .i64 0, .string ⟨#[]⟩, .slice none 0 0, .slice none 0 0, .slice none 0 0], .int .i64 60]) (by simp [results, Tryz.results71, go_sem, q0, q1, q2, q3, q4, q5, q6]) rfl (dec_no HD.out fff)
        · have RT := (right_iff m).1 hrt
          have hen := rencode_yes m pn _ nd RT
          have HP256 : Hid ((pg m).length = 256) := pg_len RT
          have HPO : Hid (octs (pg m)) := pg_octs m
          have HYM : Hid (pg m = l → decF l = some m) := HYES.out m RT
          clear hrt RT
          go_wp2_with fail
          refine hen.mono ?_
          rintro e w6 ⟨a6, c6', rfl, r6, f6⟩
          clear hen k0 k1 k2 k3 k4 k5 k6 fz g0 g1 g2 g3
          have RE := R.same f6
          have nd6 := nd.same f6
          obtain ⟨g0, g1, g2, g3⟩ := cell_of_two RE.rf.box
          obtain ⟨⟨k0, k1, k2, k3, k4, k5, k6⟩, fz⟩ := node_cells RE.box
          rw [HS0.out] at g1
          have cvx := run_str (P := Tryz.prog) (src := 23) (dst := 9) Tryz.underlying23 Tryz.underlying5 Tryz.underlying9 r6 256 HP256.out.symm
          have cvy := run_str (P := Tryz.prog) (src := 23) (dst := 9) Tryz.underlying23 Tryz.underlying5 Tryz.underlying9 (HRW.out _ RE.fr) 256 HL.out.symm
          have HSB := str_beq (strOf (pg m)) (strOf l)
          rw [bbsOf_strOf _ HPO.out, bbsOf_strOf _ HO.out] at HSB
          by_cases hpl : pg m = l
          · rw [decide_eq_true hpl] at HSB
            have HD : Hid (decF l = some m) := HYM.out hpl
            obtain ⟨u, hu⟩ : ∃ u, u = strOf (pg m) := ⟨_, rfl⟩
            obtain ⟨v, hv⟩ : ∃ v, v = strOf l := ⟨_, rfl⟩
            rw [← hu] at cvx HSB
            rw [← hv] at cvy HSB
            have hR6 := RE.res
            obtain ⟨⟨s0, s1, s2, s3, s4, s5, s6⟩, sz⟩ := node_cells hR6
            have z0 := sz 0; have z1 := sz 1; have z2 := sz 2; have z3 := sz 3; have z4 := sz 4; have z5 := sz 5; have z6 := sz 6
            clear sz hu hv hpl
            go_wp2
            obtain ⟨hq, ff⟩ := fin7 hR6 (.int .i64 m.lev) (.int .i64 m.lsn) (.int .i64 m.rgt) (.string m.high) (.slice pn.k m.keys.length pn.kc) (.slice pn.v m.vals.length pn.vc) (.slice pn.i m.kids.length pn.ic)
            have fff := RE.fr.trans ff (S := fun _ => False) (fun i hi e => by omega)
            have ndf := nd_far nd6 ff (fun b off hx e => by have := far b off hx; omega)
            generalize ((((((w6.setCell ⟨w.heap.size, 0, none⟩ (.int .i64 m.lev)).setCell ⟨w.heap.size, 1, none⟩ (.int .i64 m.lsn)).setCell ⟨w.heap.size, 2, none⟩ (.int .i64 m.rgt)).setCell ⟨w.heap.size, 3, none⟩ (.string m.high)).setCell ⟨w.heap.size, 4, none⟩ (.slice pn.k m.keys.length pn.kc)).setCell ⟨w.heap.size, 5, none⟩ (.slice pn.v m.vals.length pn.vc)).setCell ⟨w.heap.size, 6, none⟩ (.slice pn.i m.kids.length pn.ic) = Wf at hq fff ndf ⊢
            obtain ⟨⟨q0, q1, q2, q3, q4, q5, q6⟩, _⟩ := node_cells hq
            exact bodyPost_ret (v := .tuple #[(.agg #[.int .i64 m.lev, .int .i64 m.lsn, .int .i64 m.rgt, .string m.high, .slice pn.k m.keys.length pn.kc, .slice pn.v m.vals.length pn.vc, .slice pn.i m.kids.length pn.ic]), .int .i64 0]) (by simp [results, Tryz.results71, go_sem, q0, q1, q2, q3, q4, q5, q6]) rfl (dec_yes HD.out ndf fff (fun b off hx => by have := far b off hx; omega))
          · rw [decide_eq_false hpl] at HSB
            have HD : Hid (decF l = none) := HNO.out m s' HRS.out (.inr (.inr hpl))
            obtain ⟨u, hu⟩ : ∃ u, u = strOf (pg m) := ⟨_, rfl⟩
            obtain ⟨v, hv⟩ : ∃ v, v = strOf l := ⟨_, rfl⟩
            rw [← hu] at cvx HSB
            rw [← hv] at cvy HSB
            clear hu hv hpl
            have hR6 := RE.res
            obtain ⟨⟨s0, s1, s2, s3, s4, s5, s6⟩, sz⟩ := node_cells hR6
            have z0 := sz 0; have z1 := sz 1; have z2 := sz 2; have z3 := sz 3; have z4 := sz 4; have z5 := sz 5; have z6 := sz 6
            clear sz
            go_wp2
            obtain ⟨hq, ff⟩ := fin7 hR6 (.int .i64 0) (.int .i64 0) (.int .i64 0) (.string ⟨#[]⟩) (.slice none 0 0) (.slice none 0 0) (.slice none 0 0)
            have fff := RE.fr.trans ff (S := fun _ => False) (fun i hi e => by omega)
            generalize ((((((w6.setCell ⟨w.heap.size, 0, none⟩ (.int .i64 0)).setCell ⟨w.heap.size, 1, none⟩ (.int .i64 0)).setCell ⟨w.heap.size, 2, none⟩ (.int .i64 0)).setCell ⟨w.heap.size, 3, none⟩ (.string ⟨#[]⟩)).setCell ⟨w.heap.size, 4, none⟩ (.slice none 0 0)).setCell ⟨w.heap.size, 5, none⟩ (.slice none 0 0)).setCell ⟨w.heap.size, 6, none⟩ (.slice none 0 0) = Wf at hq fff ⊢
            obtain ⟨⟨q0, q1, q2, q3, q4, q5, q6⟩, _⟩ := node_cells hq
            exact bodyPost_ret (v := .tuple #[.agg #[.int .i64 0, .int .i64 0, .int .i64 0, .string ⟨#[]⟩, .slice none 0 0, .slice none 0 0, .slice none 0 0], .int .i64 60]) (by simp [results, Tryz.results71, go_sem, q0, q1, q2, q3, q4, q5, q6]) rfl (dec_no HD.out fff)
      · have HS0 : Hid (s'.2 ≠ 0) := hs0
        have HD : Hid (decF l = none) := HNO.out m s' HRS.out (.inl hs0)
        clear hs0
        obtain ⟨pn, e1, e2, e3, nd, far⟩ := R.nod sh (by have := HK.out.1; omega) (by have := HK.out.2.1; omega) (by have := HK.out.2.2.1; omega)
        subst e1; subst e2; subst e3
        have hen := rencode_some m pn _ nd
        go_wp2_with fail
        refine hen.mono ?_
        rintro e w6 ⟨ae, ke, ce, er, rfl, f6⟩
        clear hen k0 k1 k2 k3 k4 k5 k6 fz g0 g1 g2 g3
        have RE := R.same f6
        obtain ⟨g0, g1, g2, g3⟩ := cell_of_two RE.rf.box
        have hneb : (s'.2 != 0) = true := by simpa using HS0.out
        have hR6 := RE.res
        obtain ⟨⟨s0, s1, s2, s3, s4, s5, s6⟩, sz⟩ := node_cells hR6
        have z0 := sz 0; have z1 := sz 1; have z2 := sz 2; have z3 := sz 3; have z4 := sz 4; have z5 := sz 5; have z6 := sz 6
        clear sz
        go_wp2
        obtain ⟨hq, ff⟩ := fin7 hR6 (.int .i64 0) (.int .i64 0) (.int .i64 0) (.string ⟨#[]⟩) (.slice none 0 0) (.slice none 0 0) (.slice none 0 0)
        have fff := RE.fr.trans ff (S := fun _ => False) (fun i hi e => by omega)
        generalize ((((((w6.setCell ⟨w.heap.size, 0, none⟩ (.int .i64 0)).setCell ⟨w.heap.size, 1, none⟩ (.int .i64 0)).setCell ⟨w.heap.size, 2, none⟩ (.int .i64 0)).setCell ⟨w.heap.size, 3, none⟩ (.string ⟨#[]⟩)).setCell ⟨w.heap.size, 4, none⟩ (.slice none 0 0)).setCell ⟨w.heap.size, 5, none⟩ (.slice none 0 0)).setCell ⟨w.heap.size, 6, none⟩ (.slice none 0 0) = Wf at hq fff ⊢
        obtain ⟨⟨q0, q1, q2, q3, q4, q5, q6⟩, _⟩ := node_cells hq
        exact bodyPost_ret (v := .tuple #[.agg #[.int .i64 0, .int .i64 0, .int .i64 0, .string ⟨#[]⟩, .slice none 0 0, .slice none 0 0, .slice none 0 0], .int .i64 60]) (by simp [results, Tryz.results71, go_sem, q0, q1, q2, q3, q4, q5, q6]) rfl (dec_no HD.out fff)
end Go.Proofs.YtkibbojiflklpaaGreat

/- Which records the document's own answer takes. -/
namespace Go.Proofs.YtkibbojiflklpaaGreat
open Go.RowKit Crcm

theorem rdecode_all (a : Option Addr) (k cap : Nat) (l : List Nat) (hk : k = l.length) (w : World) (hr : Row w a cap l) :
    Calls Tryz.prog 71 #[.slice a k cap] w fun e w' => ∃ p3 : Pt, e = .returned (.tuple #[(.agg #[.int .i64 ((decF l).getD zn).lev, .int .i64 ((decF l).getD zn).lsn, .int .i64 ((decF l).getD zn).rgt, .string ((decF l).getD zn).high, .slice p3.k ((decF l).getD zn).keys.length p3.kc, .slice p3.v ((decF l).getD zn).vals.length p3.vc, .slice p3.i ((decF l).getD zn).kids.length p3.ic]), .int .i64 (if (decF l).isSome = true then 0 else 60)]) ∧ Nod w' ((decF l).getD zn) p3 ∧ Fr (fun _ => False) w w' := by
  by_cases h : l.length = 256
  · rw [hk, h]
    by_cases l0 : (numS (l.take 252, 0) 1).1 = 0
    · exact (rdecode_leaf a cap l h w hr l0).mono fun e w' ⟨p, x, y, z, _⟩ => ⟨p, x, y, z⟩
    · exact (rdecode_inner a cap l h w hr l0).mono fun e w' ⟨p, x, y, z, _⟩ => ⟨p, x, y, z⟩
  · exact (rdecode_len a k cap l hk h w).mono fun e w' ⟨p, x, y, z, _⟩ => ⟨p, x, y, z⟩
theorem rdecode_dec (a : Option Addr) (k cap : Nat) (l : List Nat) (hk : k = l.length) (w : World) (hr : Row w a cap l) :
    Calls Tryz.prog 71 #[.slice a k cap] w fun e w' => DecOut w l e w' := by
  by_cases h : l.length = 256
  · rw [hk, h]
    by_cases l0 : (numS (l.take 252, 0) 1).1 = 0
    · exact rdecode_leaf a cap l h w hr l0
    · exact rdecode_inner a cap l h w hr l0
  · exact rdecode_len a k cap l hk h w

set_option maxRecDepth 100000 in
set_option maxHeartbeats 400000 in
theorem paged_any (n : Int) (w : World) : Calls Tryz.prog 70 #[.int .i64 n] w fun e w' => e = .returned (.bool (pgB n)) ∧ w' = w := by
  go_enter Tryz.func70, Tryz.ntmps70
  go_wp2
  all_goals go_ret
  all_goals exact ⟨ret_bool (by simp_all [pgB, wthB] <;> omega), rfl⟩

/-- What is asked of both numbers that each record has. -/
theorem lsn_bad {lsn ep kind page other req : Int} {key val : ByteArray} (h : wthB lsn 1 1099511627776 = false ∨ wthB ep 0 1099511627776 = false) : rok ⟨lsn, ep, kind, page, other, req, key, val⟩ = false := by
  unfold rok; rcases h with h | h <;> simp [h]
theorem lsn_good {lsn ep kind page other req : Int} {key val : ByteArray} (h1 : wthB lsn 1 1099511627776 = true) (h2 : wthB ep 0 1099511627776 = true) : rok ⟨lsn, ep, kind, page, other, req, key, val⟩ = suitB ⟨lsn, ep, kind, page, other, req, key, val⟩ := by
  unfold rok; simp [h1, h2]
set_option maxRecDepth 100000 in
set_option maxHeartbeats 1000000 in
theorem right_bad (lsn ep kind page other req : Int) (key val : ByteArray) (h : wthB lsn 1 1099511627776 = false ∨ wthB ep 0 1099511627776 = false) (w : World) : Calls Tryz.prog 37 #[.agg #[.int .i64 lsn, .int .i64 ep, .int .i64 kind, .int .i64 page, .int .i64 other, .int .i64 req, .string key, .string val]] w fun e w' => e = .returned (.bool false) ∧ Fr (fun _ => False) w w' := by
  have h' : lsn < 1 ∨ (¬ lsn < 1 ∧ 1099511627776 < lsn) ∨ (¬ lsn < 1 ∧ ¬ 1099511627776 < lsn ∧ ep < 0) ∨ (¬ lsn < 1 ∧ ¬ 1099511627776 < lsn ∧ ¬ ep < 0 ∧ 1099511627776 < ep) := by
    unfold wthB at h; rw [decide_eq_false_iff_not, decide_eq_false_iff_not] at h; omega
  clear h
  rcases h' with h1 | ⟨h1, h2⟩ | ⟨h1, h2, h3⟩ | ⟨h1, h2, h3, h4⟩
  all_goals
    go_enter Tryz.func37, Tryz.ntmps37
    go_wp2
    go_ret
    exact ⟨rfl, Fr.box w _⟩

set_option maxRecDepth 100000 in
set_option maxHeartbeats 4000000 in
theorem right_commit (lsn ep page other req : Int) (key val : ByteArray) (h1 : wthB lsn 1 1099511627776 = true) (h2 : wthB ep 0 1099511627776 = true) (w : World) : Calls Tryz.prog 37 #[.agg #[.int .i64 lsn, .int .i64 ep, .int .i64 7, .int .i64 page, .int .i64 other, .int .i64 req, .string key, .string val]] w fun e w' => e = .returned (.bool ((page == 0) && (((other == 1 && valB val) || (other == 2 && emp val)) && (wthB req 1 1099511627776 && keyB key)))) ∧ Fr (fun _ => False) w w' := by
  have ⟨g1, g2, g3, g4⟩ : ¬ lsn < 1 ∧ ¬ 1099511627776 < lsn ∧ ¬ ep < 0 ∧ ¬ 1099511627776 < ep := by
    unfold wthB at h1 h2; rw [decide_eq_true_eq] at h1 h2; omega
  clear h1 h2
  have H1 : Hid (keyB key = (((ekey key.size : Nat) : Int) == 0)) := by show _ = _; unfold keyB; rw [Bool.eq_iff_iff]; simp
  have H2 : Hid (valB val = (((evalu val.size : Nat) : Int) == 0)) := by show _ = _; unfold valB; rw [Bool.eq_iff_iff]; simp
  have HE : Hid (emp val = val.toList.isEmpty) := rfl
  have HW : Hid (wthB req 1 1099511627776 = decide (1 ≤ req ∧ req ≤ 1099511627776)) := rfl
  rw [H1.out, H2.out, HE.out, HW.out]
  have k1 := rcheck_any key
  have k2 := rvalue_any val
  generalize ((ekey key.size : Nat) : Int) = x at *
  generalize ((evalu val.size : Nat) : Int) = y at *
  clear H1 H2 HE HW
  go_enter Tryz.func37, Tryz.ntmps37
  go_wp2_with (first | (go_at_call 63; refine (k1 _).mono ?_; rintro e w' ⟨rfl, rfl⟩) | (go_at_call 65; refine (k2 _).mono ?_; rintro e w' ⟨rfl, rfl⟩))
  all_goals go_ret
  all_goals refine ⟨ret_bool ?_, Fr.box w _⟩
  all_goals simp_all
  all_goals (intros; omega)

set_option maxRecDepth 100000 in
set_option maxHeartbeats 4000000 in
theorem right_plain (lsn ep kind page other req : Int) (key val : ByteArray) (h1 : wthB lsn 1 1099511627776 = true) (h2 : wthB ep 0 1099511627776 = true) (h4 : kind ≠ 4) (h7 : kind ≠ 7) (w : World) : Calls Tryz.prog 37 #[.agg #[.int .i64 lsn, .int .i64 ep, .int .i64 kind, .int .i64 page, .int .i64 other, .int .i64 req, .string key, .string val]] w fun e w' => e = .returned (.bool (plainB kind page other req key val)) ∧ Fr (fun _ => False) w w' := by
  have ⟨g1, g2, g3, g4⟩ : ¬ lsn < 1 ∧ ¬ 1099511627776 < lsn ∧ ¬ ep < 0 ∧ ¬ 1099511627776 < ep := by
    unfold wthB at h1 h2; rw [decide_eq_true_eq] at h1 h2; omega
  clear h1 h2
  have e4 : (kind == 4) = false := by simpa using h4
  have e7 : (kind == 7) = false := by simpa using h7
  clear h4 h7
  have H1 : Hid (keyB key = (((ekey key.size : Nat) : Int) == 0)) := by show _ = _; unfold keyB; rw [Bool.eq_iff_iff]; simp
  have H2 : Hid (valB val = (((evalu val.size : Nat) : Int) == 0)) := by show _ = _; unfold valB; rw [Bool.eq_iff_iff]; simp
  have HE : Hid (∀ s, emp s = s.toList.isEmpty) := fun s => rfl
  unfold plainB
  rw [H1.out, H2.out, HE.out, HE.out]
  have k1 := rcheck_any key
  have k2 := rvalue_any val
  generalize ((ekey key.size : Nat) : Int) = x at *
  generalize ((evalu val.size : Nat) : Int) = y at *
  clear H1 H2 HE
  go_enter Tryz.func37, Tryz.ntmps37
  go_wp2_with (first | (go_at_call 63; refine (k1 _).mono ?_; rintro e w' ⟨rfl, rfl⟩) | (go_at_call 65; refine (k2 _).mono ?_; rintro e w' ⟨rfl, rfl⟩) | (go_at_call 70; refine (paged_any _ _).mono ?_; rintro e w' ⟨rfl, rfl⟩))
  all_goals go_ret
  all_goals refine ⟨ret_bool ?_, Fr.box w _⟩
  all_goals simp_all [Bool.and_comm, Bool.and_left_comm, Bool.and_assoc]

set_option maxRecDepth 100000 in
set_option maxHeartbeats 4000000 in
theorem right_new (lsn ep page other req : Int) (key val : ByteArray) (h1 : wthB lsn 1 1099511627776 = true) (h2 : wthB ep 0 1099511627776 = true) (w : World) : Calls Tryz.prog 37 #[.agg #[.int .i64 lsn, .int .i64 ep, .int .i64 4, .int .i64 page, .int .i64 other, .int .i64 req, .string key, .string val]] w fun e w' => e = .returned (.bool ((req == 0) && (pgB page && ((other == 0) && (emp key && newB val))))) ∧ Fr (fun _ => False) w w' := by
  have ⟨g1, g2, g3, g4⟩ : ¬ lsn < 1 ∧ ¬ 1099511627776 < lsn ∧ ¬ ep < 0 ∧ ¬ 1099511627776 < ep := by
    unfold wthB at h1 h2; rw [decide_eq_true_eq] at h1 h2; omega
  clear h1 h2
  have k1 := rcheck_any key
  have k2 := rvalue_any val
  obtain ⟨W0, hW0⟩ : ∃ W0, W0 = w.alloc (.cells #[.int .i64 lsn, .int .i64 ep, .int .i64 4, .int .i64 page, .int .i64 other, .int .i64 req, .string key, .string val] 54) := ⟨_, rfl⟩
  have HW0 : Hid (W0 = w.alloc (.cells #[.int .i64 lsn, .int .i64 ep, .int .i64 4, .int .i64 page, .int .i64 other, .int .i64 req, .string key, .string val] 54)) := hW0
  have HF0 : Hid (Fr (fun _ => False) w W0) := by rw [hW0]; exact Fr.box w _
  have HB : Hid (∀ W, Fr (fun _ => False) W0 W → W.heap[w.heap.size]? = some (.cells #[.int .i64 lsn, .int .i64 ep, .int .i64 4, .int .i64 page, .int .i64 other, .int .i64 req, .string key, .string val] 54 (0, 0))) := fun W f => by rw [hW0] at f; exact rec_at w _ _ f
  obtain ⟨a, c, w1, hcv, hr, f1⟩ := run_bytes val W0
  have hd : Calls Tryz.prog 71 #[.slice (some a) val.size c] w1 fun e w' => ∃ p3 : Pt, e = .returned (.tuple #[(.agg #[.int .i64 ((decF (bsOf val)).getD zn).lev, .int .i64 ((decF (bsOf val)).getD zn).lsn, .int .i64 ((decF (bsOf val)).getD zn).rgt, .string ((decF (bsOf val)).getD zn).high, .slice p3.k ((decF (bsOf val)).getD zn).keys.length p3.kc, .slice p3.v ((decF (bsOf val)).getD zn).vals.length p3.vc, .slice p3.i ((decF (bsOf val)).getD zn).kids.length p3.ic]), .int .i64 (if (decF (bsOf val)).isSome = true then 0 else 60)]) ∧ Nod w' ((decF (bsOf val)).getD zn) p3 ∧ Fr (fun _ => False) w1 w' := by
    by_cases h : val.size = 256
    · exact rdecode_all (some a) val.size c (bsOf val) (bsOf_length val).symm w1 (hr (by omega))
    · exact (rdecode_len (some a) val.size c (bsOf val) (bsOf_length val).symm (by rw [bsOf_length]; exact h) w1).mono fun e w' ⟨p, x, y, z, _⟩ => ⟨p, x, y, z⟩
  have HN : Hid (newB val = ((decF (bsOf val)).isSome && (((decF (bsOf val)).getD zn).lsn == 0))) := rfl
  have HE : Hid (emp key = key.toList.isEmpty) := rfl
  rw [HN.out, HE.out]
  generalize (decF (bsOf val)).getD zn = n at *
  generalize (decF (bsOf val)).isSome = b at *
  generalize ((ekey key.size : Nat) : Int) = x at *
  generalize ((evalu val.size : Nat) : Int) = y at *
  obtain ⟨er, her⟩ : ∃ er : Int, er = if b = true then 0 else 60 := ⟨_, rfl⟩
  rw [← her] at hd
  have HER : Hid (b = (er == 0)) := by show _ = _; rw [her]; cases b <;> rfl
  rw [HER.out]
  rw [HW0.out] at hcv
  clear HN hr her hW0 HE
  go_enter Tryz.func37, Tryz.ntmps37
  go_wp2_with (first | (go_at_call 63; refine (k1 _).mono ?_; rintro e w' ⟨rfl, rfl⟩) | (go_at_call 65; refine (k2 _).mono ?_; rintro e w' ⟨rfl, rfl⟩) | (go_at_call 70; refine (paged_any _ _).mono ?_; rintro e w' ⟨rfl, rfl⟩) | (go_at_call 71; refine hd.mono ?_; rintro e w2 ⟨p3, rfl, _, f2⟩; have f3 := (f1.seq' f2).alloc (.cells #[.int .i64 n.lev, .int .i64 n.lsn, .int .i64 n.rgt, .string n.high, .slice p3.k n.keys.length p3.kc, .slice p3.v n.vals.length p3.vc, .slice p3.i n.kids.length p3.ic] 33); obtain ⟨⟨q0, q1, q2, q3, q4, q5, q6, q7⟩, qz⟩ := rec_cells (HB.out _ f3); clear qz))
  all_goals go_ret
  all_goals refine ⟨ret_bool ?_, by first | exact HF0.out.seq' f3 | (rw [← HW0.out]; exact HF0.out)⟩
  all_goals clear HB HW0 HF0 HER
  all_goals simp_all [Bool.and_comm, Bool.and_left_comm, Bool.and_assoc]

theorem right_any (r : Rec) (w : World) : Calls Tryz.prog 37 #[(.agg #[.int .i64 r.lsn, .int .i64 r.ep, .int .i64 r.kind, .int .i64 r.page, .int .i64 r.other, .int .i64 r.req, .string r.key, .string r.val])] w fun e w' => e = .returned (.bool (rok r)) ∧ Fr (fun _ => False) w w' := by
  obtain ⟨lsn, ep, kind, page, other, req, key, val⟩ := r
  dsimp only
  by_cases h1 : wthB lsn 1 1099511627776 = true
  · by_cases h2 : wthB ep 0 1099511627776 = true
    · rw [lsn_good h1 h2]
      unfold suitB
      dsimp only
      by_cases h7 : kind = 7
      · subst h7
        rw [if_pos rfl]
        exact right_commit lsn ep page other req key val h1 h2 w
      · rw [if_neg h7]
        by_cases h4 : kind = 4
        · subst h4
          exact right_new lsn ep page other req key val h1 h2 w
        · rw [if_neg h4]
          exact right_plain lsn ep kind page other req key val h1 h2 h4 h7 w
    · have h := Or.inr (a := wthB lsn 1 1099511627776 = false) (Bool.eq_false_iff.2 h2)
      rw [lsn_bad h]
      exact right_bad lsn ep kind page other req key val h w
  · have h := Or.inl (b := wthB ep 0 1099511627776 = false) (Bool.eq_false_iff.2 h1)
    rw [lsn_bad h]
    exact right_bad lsn ep kind page other req key val h w

end Go.Proofs.YtkibbojiflklpaaGreat
