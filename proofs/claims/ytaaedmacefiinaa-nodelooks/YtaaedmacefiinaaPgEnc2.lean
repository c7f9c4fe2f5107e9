
/- What page.bytesOf and page.sumOf make. -/
import Derived.Test.YtaaedmacefiinaaPgEnc
namespace Go.Proofs.Ytaaedmacefiinaa
open Go.RowKit Crcm

theorem Made.of {a b c : World} {v : Value} {l : List Nat} (f : Fr (fun _ => False) a b) (m : Made b c v l) : Made a c v l := by
  refine ⟨⟨m.own.1, ?_⟩, f.seq' m.fr⟩
  rcases m.own.2 with h | ⟨g, cap, cur, hv, hg, r⟩
  · exact .inl h
  · exact .inr ⟨g, cap, cur, hv, Nat.le_trans f.size hg, r⟩
theorem fit1 {x : Int} (h0 : 0 ≤ x) (h1 : x ≤ 20) : fit x ((1 : Nat) : Int) := ⟨h0, .inl ⟨rfl, by omega⟩⟩
theorem fit2 {x : Int} (h0 : 0 ≤ x) (h1 : x ≤ 252) : fit x ((2 : Nat) : Int) := ⟨h0, .inr (.inl ⟨rfl, by omega⟩)⟩
theorem fit4' {x : Int} (h0 : 0 ≤ x) (h1 : x ≤ 4096) : fit x ((4 : Nat) : Int) := ⟨h0, .inr (.inr (.inl ⟨rfl, by omega⟩))⟩
theorem fit8 {x : Int} (h0 : 0 ≤ x) : fit x ((8 : Nat) : Int) := ⟨h0, .inr (.inr (.inr rfl))⟩
theorem keys_small {n : Nd} (h : Rt n) : n.keys.length ≤ 252 := by
  have a := nb_length h
  have b := h.size
  have c : n.keys.length ≤ tsz n.keys := by
    generalize n.keys = l
    induction l with
    | nil => simp
    | cons x r ih =>
      have e2 : tsz (x :: r) = (x.size + 2) + tsz r := by simp [tsz]
      rw [e2, List.length_cons]; omega
  unfold sizeN at b; omega

set_option maxRecDepth 100000 in
set_option maxHeartbeats 2000000 in
theorem bytesOf_any0 (n : Nd) (pk : Option Addr) (pkc : Nat) (pv : Option Addr) (pvc : Nat) (pi : Option Addr) (pic : Nat) (w : World) (h : Nod w n ⟨pk, pkc, pv, pvc, pi, pic⟩) (hr : Rt n) :
    Calls Try.prog 40 #[(.agg #[.int .i64 n.lev, .int .i64 n.lsn, .int .i64 n.rgt, .string n.high, .slice pk n.keys.length pkc, .slice pv n.vals.length pvc, .slice pi n.kids.length pic])] w fun e w' => ∃ v', e = .returned v' ∧ Made w w' v' (nb n) := by
  obtain ⟨W0, hW0⟩ : ∃ W0, W0 = w.alloc (.cells #[.int .i64 n.lev, .int .i64 n.lsn, .int .i64 n.rgt, .string n.high, .slice pk n.keys.length pkc, .slice pv n.vals.length pvc, .slice pi n.kids.length pic] 25) := ⟨_, rfl⟩
  have f0 : Fr (fun _ => False) w W0 := by rw [hW0]; exact Fr.box w _
  have hz0 : W0.heap.size = w.heap.size + 1 := by rw [hW0]; simp
  have HB : Hid (∀ w', Fr (fun _ => False) W0 w' → w'.cell? ⟨w.heap.size, 0, none⟩ = some (.int .i64 n.lev) ∧ w'.cell? ⟨w.heap.size, 1, none⟩ = some (.int .i64 n.lsn) ∧ w'.cell? ⟨w.heap.size, 2, none⟩ = some (.int .i64 n.rgt) ∧ w'.cell? ⟨w.heap.size, 3, none⟩ = some (.string n.high) ∧
    w'.cell? ⟨w.heap.size, 4, none⟩ = some (.slice pk n.keys.length pkc) ∧ w'.cell? ⟨w.heap.size, 5, none⟩ = some (.slice pv n.vals.length pvc) ∧ w'.cell? ⟨w.heap.size, 6, none⟩ = some (.slice pi n.kids.length pic)) := fun w' f => by
      rw [hW0] at f
      exact box_cells (p := ⟨pk, pkc, pv, pvc, pi, pic⟩) (box_at w n ⟨pk, pkc, pv, pvc, pi, pic⟩ 25 f)
  have hW := h.same f0
  have HR : Hid (Rt n) := hr
  have hks := keys_small hr
  have hkc := h.keys.le
  have hkm := h.keys.max
  have hvc := h.vals.le
  have hvm := h.vals.max
  have hic := h.kids.le
  have him := h.kids.max
  simp only at hkc hkm hvc hvm hic him
  have hl0 := hr.lev0
  have hh16 := hr.high
  clear hr
  go_enter Try.func40, Try.ntmps40
  go_wp2_with fail
  rw [← hW0]
  refine (new_st W0).mono ?_
  rw [hz0]
  have HZ : Hid (W0.heap.size = w.heap.size + 1) := hz0
  clear hz0 hW0
  rintro e w1 ⟨rfl, s1⟩
  obtain ⟨c0, c1, c2, c3, c4, c5, c6⟩ := HB.out w1 s1.fr
  go_wp2_with fail
  refine (wnum_st W0 w1 _ HZ.out [] n.lev 1 (fit1 HR.out.lev0 HR.out.lev1) (by simp) s1).mono ?_
  rintro e w2 ⟨rfl, s2⟩
  clear c0 c1 c2 c3 c4 c5 c6 s1
  obtain ⟨c0, c1, c2, c3, c4, c5, c6⟩ := HB.out w2 s2.fr
  go_wp2_with fail
  refine (wnum_st W0 w2 _ HZ.out _ n.lsn 8 (fit8 HR.out.lsn0) (by simp [le_length]) s2).mono ?_
  rintro e w3 ⟨rfl, s3⟩
  clear c0 c1 c2 c3 c4 c5 c6 s2
  obtain ⟨c0, c1, c2, c3, c4, c5, c6⟩ := HB.out w3 s3.fr
  go_wp2_with fail
  refine (wnum_st W0 w3 _ HZ.out _ n.rgt 4 (fit4' HR.out.rgt0 HR.out.rgt1) (by simp [le_length]) s3).mono ?_
  rintro e w4 ⟨rfl, s4⟩
  clear c0 c1 c2 c3 c4 c5 c6 s3
  obtain ⟨c0, c1, c2, c3, c4, c5, c6⟩ := HB.out w4 s4.fr
  go_wp2_with fail
  refine (wnum_st W0 w4 _ HZ.out _ (n.keys.length : Int) 2 (fit2 (by omega) (by omega)) (by simp [le_length]) s4).mono ?_
  rintro e w5 ⟨rfl, s5⟩
  clear c0 c1 c2 c3 c4 c5 c6 s4
  obtain ⟨c0, c1, c2, c3, c4, c5, c6⟩ := HB.out w5 s5.fr
  go_wp2_with fail
  refine (wtext_st W0 w5 _ HZ.out _ n.high (by omega) (by simp [le_length]) s5).mono ?_
  rintro e w6 ⟨rfl, s6⟩
  clear c0 c1 c2 c3 c4 c5 c6 s5
  obtain ⟨c0, c1, c2, c3, c4, c5, c6⟩ := HB.out w6 s6.fr
  have s7 := s6.same (Fr.box w6 (.cells #[.int .i64 n.lev, .int .i64 n.lsn, .int .i64 n.rgt, .string n.high, .slice pk n.keys.length pkc, .slice pv n.vals.length pvc, .slice pi n.kids.length pic] 25))
  rw [List.nil_append, Int.toNat_natCast] at s7
  clear s6
  by_cases l0 : n.lev = 0
  · have e0 : (n.lev == 0) = true := by simp [l0]
    have HH : Hid (hd n = le 1 n.lev.toNat ++ le 8 n.lsn.toNat ++ le 4 n.rgt.toNat ++ le 2 n.keys.length ++ txt n.high) := by show hd n = _; unfold hd; rw [if_pos l0, List.append_nil]
    rw [← HH.out] at s7
    have HN : Hid (n.vals.length = n.keys.length) := (HR.out.leaf l0).1
    have HV : Hid (∀ i, i < n.vals.length → (n.vals.getD i ByteArray.empty).size ≤ 32) := (HR.out.leaf l0).2.2
    have HEN : Hid (∀ k, ens n (k + 1) = ens n k ++ (txt (n.keys.getD k ByteArray.empty) ++ txt (n.vals.getD k ByteArray.empty))) := fun k => by
      show ens n k ++ en n k = _
      unfold en; rw [if_pos l0]
    clear l0
    go_wp2_with fail
    refine (isLeaf_any n ⟨pk, pkc, pv, pvc, pi, pic⟩ _).mono ?_
    rintro e w7 ⟨rfl, rfl⟩
    obtain ⟨d0, d1, d2, d3, d4, d5, d6⟩ := HB.out _ s7.fr
    go_wp2
    go_loopw [40] (fun i wr => ∃ k : Nat, k ≤ n.keys.length ∧ i = .int .i64 k ∧ Wst W0 wr (hd n ++ ens n k)) (fun i _ => n.keys.length - (intOf i).toNat)
    case atStart => exact ⟨0, by omega, rfl, by simpa [ens] using s7⟩
    case round =>
      clear c0 c1 c2 c3 c4 c5 c6 d0 d1 d2 d3 d4 d5 d6 s7
      obtain ⟨k, hkk, rfl, st⟩ := hrel
      by_cases hlt : k < n.keys.length
      · obtain ⟨b, off, ee, hb, hc⟩ := strs_some (hW.keys.same st.fr) hlt
        have hcell := hc k hlt
        have hsz := (HR.out.keys k hlt).1.2
        have hlv : k < n.vals.length := by rw [HN.out]; exact hlt
        have hsv := HV.out k hlv
        have HE := HEN.out k
        obtain ⟨s, hs⟩ : ∃ s, s = n.keys.getD k ByteArray.empty := ⟨_, rfl⟩
        obtain ⟨t, ht⟩ : ∃ s, s = n.vals.getD k ByteArray.empty := ⟨_, rfl⟩
        rw [← hs] at hcell hsz HE
        rw [← ht] at hsv HE
        have HT : Hid (t = n.vals.getD k ByteArray.empty) := ht
        have HE' : Hid (ens n (k + 1) = ens n k ++ (txt s ++ txt t)) := HE
        have pl := part_length HR.out k hkk
        clear hs hc HE ht
        subst ee
        go_wp2_with fail
        refine (wtext_st W0 _ _ HZ.out _ s (by omega) (by omega) st).mono ?_
        rintro e w8 ⟨rfl, s8⟩
        obtain ⟨c0, c1, c2, c3, c4, c5, c6⟩ := HB.out _ s8.fr
        have s9 := s8.same (Fr.box w8 (.cells #[.int .i64 n.lev, .int .i64 n.lsn, .int .i64 n.rgt, .string n.high, .slice (some ⟨b, off, none⟩) n.keys.length pkc, .slice pv n.vals.length pvc, .slice pi n.kids.length pic] 25))
        go_wp2_with fail
        refine (isLeaf_any n ⟨some ⟨b, off, none⟩, pkc, pv, pvc, pi, pic⟩ _).mono ?_
        rintro e w9 ⟨rfl, rfl⟩
        obtain ⟨d0, d1, d2, d3, d4, d5, d6⟩ := HB.out _ s9.fr
        obtain ⟨b2, off2, ee, hb2, hc2⟩ := strs_some (hW.vals.same s9.fr) hlv
        have hcell2 := hc2 k hlv
        rw [← HT.out] at hcell2
        clear hc2
        subst ee
        go_wp2_with fail
        refine (wtext_st W0 _ _ HZ.out _ t (by omega) (by rw [List.length_append, txt_length]; omega) s9).mono ?_
        rintro e w10 ⟨rfl, s10⟩
        go_wp2
        go_roundw
        case rel => exact ⟨k + 1, by omega, by go_num, by rw [HE'.out]; simpa [List.append_assoc] using s10⟩
        case measure => simp [intOf]; omega
      · have e : k = n.keys.length := by omega
        subst e
        have pl := part_length HR.out n.keys.length (Nat.le_refl _)
        go_wp2_with fail
        refine (wbytes_st W0 _ _ HZ.out _ (octs_app (hd_octs n) (ens_octs n _)) (by omega) st).mono ?_
        rintro e w8 ⟨v8, rfl, m8⟩
        go_wp2
        go_ret
        exact ⟨v8, rfl, Made.of (f0.seq' st.fr) m8⟩
  · have e0 : (n.lev == 0) = false := by simpa using l0
    have HH : Hid (hd n = (le 1 n.lev.toNat ++ le 8 n.lsn.toNat ++ le 4 n.rgt.toNat ++ le 2 n.keys.length ++ txt n.high) ++ le 4 (n.kids.getD 0 0).toNat) := by show hd n = _; unfold hd; rw [if_neg l0]
    have HN : Hid (n.kids.length = n.keys.length + 1) := (HR.out.inner l0).1
    have HV : Hid (∀ i, i < n.kids.length → 1 ≤ n.kids.getD i 0 ∧ n.kids.getD i 0 ≤ 4096) := (HR.out.inner l0).2.2
    have HEN : Hid (∀ k, ens n (k + 1) = ens n k ++ (txt (n.keys.getD k ByteArray.empty) ++ le 4 (n.kids.getD (k + 1) 0).toNat)) := fun k => by
      show ens n k ++ en n k = _
      unfold en; rw [if_neg l0]
    have hlz : 0 < n.kids.length := by rw [HN.out]; omega
    clear l0
    go_wp2_with fail
    refine (isLeaf_any n ⟨pk, pkc, pv, pvc, pi, pic⟩ _).mono ?_
    rintro e w7 ⟨rfl, rfl⟩
    obtain ⟨d0, d1, d2, d3, d4, d5, d6⟩ := HB.out _ s7.fr
    obtain ⟨b3, off3, ee, hb3, hc3⟩ := ints_some (hW.kids.same s7.fr) hlz
    have hcell3 := hc3 0 hlz
    rw [Nat.add_zero] at hcell3
    have hr0 := HV.out 0 hlz
    obtain ⟨z0, hz0⟩ : ∃ z, z = n.kids.getD 0 0 := ⟨_, rfl⟩
    rw [← hz0] at hcell3 hr0
    have HZ0 : Hid (z0 = n.kids.getD 0 0) := hz0
    clear hc3 hz0
    subst ee
    go_wp2_with fail
    refine (wnum_st W0 _ _ HZ.out _ z0 4 (fit4' (by omega) hr0.2) (by simp [le_length, txt_length]; omega) s7).mono ?_
    rintro e w8 ⟨rfl, s8⟩
    rw [HZ0.out, ← HH.out] at s8
    clear c0 c1 c2 c3 c4 c5 c6 d0 d1 d2 d3 d4 d5 d6 hcell3
    obtain ⟨c0, c1, c2, c3, c4, c5, c6⟩ := HB.out w8 s8.fr
    go_wp2
    go_loopw [40] (fun i wr => ∃ k : Nat, k ≤ n.keys.length ∧ i = .int .i64 k ∧ Wst W0 wr (hd n ++ ens n k)) (fun i _ => n.keys.length - (intOf i).toNat)
    case atStart => exact ⟨0, by omega, rfl, by simpa [ens] using s8⟩
    case round =>
      clear c0 c1 c2 c3 c4 c5 c6 s8
      obtain ⟨k, hkk, rfl, st⟩ := hrel
      by_cases hlt : k < n.keys.length
      · obtain ⟨b, off, ee, hb, hc⟩ := strs_some (hW.keys.same st.fr) hlt
        have hcell := hc k hlt
        have hsz := (HR.out.keys k hlt).1.2
        have hlv : k + 1 < n.kids.length := by rw [HN.out]; omega
        have hsv := HV.out (k + 1) hlv
        have HE := HEN.out k
        obtain ⟨s, hs⟩ : ∃ s, s = n.keys.getD k ByteArray.empty := ⟨_, rfl⟩
        obtain ⟨t, ht⟩ : ∃ s, s = n.kids.getD (k + 1) 0 := ⟨_, rfl⟩
        rw [← hs] at hcell hsz HE
        rw [← ht] at hsv HE
        have HT : Hid (t = n.kids.getD (k + 1) 0) := ht
        have HE' : Hid (ens n (k + 1) = ens n k ++ (txt s ++ le 4 t.toNat)) := HE
        have pl := part_length HR.out k hkk
        clear hs hc HE ht
        subst ee
        go_wp2_with fail
        refine (wtext_st W0 _ _ HZ.out _ s (by omega) (by omega) st).mono ?_
        rintro e w9 ⟨rfl, s9⟩
        obtain ⟨c0, c1, c2, c3, c4, c5, c6⟩ := HB.out _ s9.fr
        have s10 := s9.same (Fr.box w9 (.cells #[.int .i64 n.lev, .int .i64 n.lsn, .int .i64 n.rgt, .string n.high, .slice (some ⟨b, off, none⟩) n.keys.length pkc, .slice pv n.vals.length pvc, .slice (some ⟨b3, off3, none⟩) n.kids.length pic] 25))
        go_wp2_with fail
        refine (isLeaf_any n ⟨some ⟨b, off, none⟩, pkc, pv, pvc, some ⟨b3, off3, none⟩, pic⟩ _).mono ?_
        rintro e w10 ⟨rfl, rfl⟩
        obtain ⟨d0, d1, d2, d3, d4, d5, d6⟩ := HB.out _ s10.fr
        have hcell2 : (w9.alloc (.cells #[.int .i64 n.lev, .int .i64 n.lsn, .int .i64 n.rgt, .string n.high, .slice (some ⟨b, off, none⟩) n.keys.length pkc, .slice pv n.vals.length pvc, .slice (some ⟨b3, off3, none⟩) n.kids.length pic] 25)).cell? ⟨b3, off3 + (k + 1), none⟩ = some (.int .i64 t) := by
          obtain ⟨b4, off4, e4, _, hc4⟩ := ints_some (hW.kids.same s10.fr) hlv
          simp only [Option.some.injEq, Addr.mk.injEq, and_true] at e4
          have q := hc4 (k + 1) hlv
          rw [← e4.1, ← e4.2, ← HT.out] at q; exact q
        go_wp2_with fail
        refine (wnum_st W0 _ _ HZ.out _ t 4 (fit4' (by omega) hsv.2) (by rw [List.length_append, txt_length]; omega) s10).mono ?_
        rintro e w11 ⟨rfl, s11⟩
        go_wp2
        go_roundw
        case rel => exact ⟨k + 1, by omega, by go_num, by rw [HE'.out]; simpa [List.append_assoc] using s11⟩
        case measure => simp [intOf]; omega
      · have e : k = n.keys.length := by omega
        subst e
        have pl := part_length HR.out n.keys.length (Nat.le_refl _)
        go_wp2_with fail
        refine (wbytes_st W0 _ _ HZ.out _ (octs_app (hd_octs n) (ens_octs n _)) (by omega) st).mono ?_
        rintro e w8 ⟨v8, rfl, m8⟩
        go_wp2
        go_ret
        exact ⟨v8, rfl, Made.of (f0.seq' st.fr) m8⟩
theorem bytesOf_any (n : Nd) (p : Pt) (w : World) (h : Nod w n p) (hr : Rt n) : Calls Try.prog 40 #[(.agg #[.int .i64 n.lev, .int .i64 n.lsn, .int .i64 n.rgt, .string n.high, .slice p.k n.keys.length p.kc, .slice p.v n.vals.length p.vc, .slice p.i n.kids.length p.ic])] w fun e w' => ∃ v', e = .returned v' ∧ Made w w' v' (nb n) :=
  bytesOf_any0 n p.k p.kc p.v p.vc p.i p.ic w h hr

set_option maxRecDepth 100000 in
set_option maxHeartbeats 1000000 in
theorem sumOf_any (a : Option Addr) (m cap : Nat) (l : List Nat) (hn : m = l.length) (w : World) (hr : Row w a cap l) : Calls Try.prog 41 #[.slice a m cap] w fun e w' => ∃ v', e = .returned v' ∧ Made w w' v' (le 4 (crc l)) := by
  subst hn
  have hcl := crc_lt hr.byte
  go_enter Try.func41, Try.ntmps41
  go_wp2_with fail
  refine (new_st w).mono ?_
  rintro e w1 ⟨rfl, s1⟩
  go_wp2_with fail
  refine (sum_any a _ cap l rfl _ (hr.same s1.fr)).mono ?_
  rintro e w2 ⟨rfl, rfl⟩
  go_wp2_with fail
  refine (wnum_st w _ _ rfl [] (crc l : Nat) 4 (fit4 _ hcl) (by simp) s1).mono ?_
  rw [List.nil_append, Int.toNat_natCast]
  rintro e w3 ⟨rfl, s3⟩
  go_wp2_with fail
  refine (wbytes_st w _ _ rfl _ (le_octs' _ _) (by simp [le_length]) s3).mono ?_
  rintro e w4 ⟨v4, rfl, m4⟩
  go_wp2
  go_ret
  exact ⟨v4, rfl, Made.of s3.fr m4⟩
end Go.Proofs.Ytaaedmacefiinaa
