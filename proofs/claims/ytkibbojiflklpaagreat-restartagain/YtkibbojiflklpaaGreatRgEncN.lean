
/- The document's Encode, told with where its bytes lie. -/
import Derived.Test.YtkibbojiflklpaaGreatRG2
namespace Go.Proofs.YtkibbojiflklpaaGreat
open Go.RowKit Crcm

def lenV : Value → Nat
  | .slice _ k _ => k
  | _ => 0
theorem ens_octs' (n : Nd) (k : Nat) : octs (ens n k) := ens_octs n k
set_option maxRecDepth 100000 in
set_option maxHeartbeats 4000000 in
theorem rencode_leafN (n : Nd) (pk : Option Addr) (pkc : Nat) (pv : Option Addr) (pvc : Nat) (pi : Option Addr) (pic : Nat) (w : World) (h : Nod w n ⟨pk, pkc, pv, pvc, pi, pic⟩) (hr : Rt n) (h0 : n.lev = 0) :
    Calls Tryz.prog 7 #[(.agg #[.int .i64 n.lev, .int .i64 n.lsn, .int .i64 n.rgt, .string n.high, .slice pk n.keys.length pkc, .slice pv n.vals.length pvc, .slice pi n.kids.length pic])] w fun e w' => ∃ a c, e = .returned (.tuple #[.slice a 256 c, .int .i64 0]) ∧ Row w' a c (pg n) ∧ Fr (fun _ => False) w w' ∧ ∀ b o, a = some ⟨b, o, none⟩ → w.heap.size ≤ b := by
  obtain ⟨i0, hi, hz0, hz1, hz2⟩ := info_parts info8
  obtain ⟨W0, hW0⟩ : ∃ W0, W0 = w.alloc (.cells #[.int .i64 n.lev, .int .i64 n.lsn, .int .i64 n.rgt, .string n.high, .slice pk n.keys.length pkc, .slice pv n.vals.length pvc, .slice pi n.kids.length pic] 33) := ⟨_, rfl⟩
  have f0 : Fr (fun _ => False) w W0 := by rw [hW0]; exact Fr.box w _
  have HB : Hid (∀ w', Fr (fun _ => False) W0 w' → w'.cell? ⟨w.heap.size, 0, none⟩ = some (.int .i64 n.lev) ∧ w'.cell? ⟨w.heap.size, 1, none⟩ = some (.int .i64 n.lsn) ∧ w'.cell? ⟨w.heap.size, 2, none⟩ = some (.int .i64 n.rgt) ∧ w'.cell? ⟨w.heap.size, 3, none⟩ = some (.string n.high) ∧
    w'.cell? ⟨w.heap.size, 4, none⟩ = some (.slice pk n.keys.length pkc) ∧ w'.cell? ⟨w.heap.size, 5, none⟩ = some (.slice pv n.vals.length pvc) ∧ w'.cell? ⟨w.heap.size, 6, none⟩ = some (.slice pi n.kids.length pic)) := fun w' f => by
      rw [hW0] at f
      exact box_cells (p := ⟨pk, pkc, pv, pvc, pi, pic⟩) (box_at w n ⟨pk, pkc, pv, pvc, pi, pic⟩ 33 f)
  have hW := h.same f0
  have HR : Hid (Rt n) := hr
  have HT : Hid (rightB n = true) := (right_iff n).2 hr
  have hks := keys_small hr
  have hkc := h.keys.le
  have hkm := h.keys.max
  have hvc := h.vals.le
  have hvm := h.vals.max
  have hic := h.kids.le
  have him := h.kids.max
  simp only at hkc hkm hvc hvm hic him
  have hl0 := hr.lev0
  have H0 : Hid (n.lev = 0) := h0
  have HVL : Hid (n.vals.length = n.keys.length) := (hr.leaf h0).1
  have HKS : Hid (∀ i, i < n.keys.length → (n.keys.getD i ByteArray.empty).size ≤ 16) := fun i hi => (hr.keys i hi).1.2
  have HVS : Hid (∀ i, i < n.vals.length → (n.vals.getD i ByteArray.empty).size ≤ 32) := (hr.leaf h0).2.2
  have HNB : Hid ((nb n).length ≤ 252) := by show _ ≤ _; have := nb_length hr; have := hr.size; omega
  clear h0
  have hh16 := hr.high
  clear hr
  have hrt := rright_any n ⟨pk, pkc, pv, pvc, pi, pic⟩ W0 hW
  rw [HT.out] at hrt
  simp only at hrt
  go_enter Tryz.func7, Tryz.ntmps7
  go_wp2_with fail
  rw [← hW0]
  refine hrt.mono ?_
  clear hrt hW0
  rintro e w1 ⟨rfl, f1⟩
  have s1 : Ast W0 w1 (.slice none 0 0) [] := ⟨World.ownsRow_nil _ _ _ _, f1⟩
  have B1 : Hid (([] : List Nat).length ≤ 400 + 1 * 70) := Nat.zero_le _
  obtain ⟨c0, c1, c2, c3, c4, c5, c6⟩ := HB.out _ s1.2
  go_wp2_with fail
  refine (rnum_i n.lev 1 HR.out.lev0 (by have := HR.out.lev1; omega) (by omega) _).mono ?_
  rintro e w1a ⟨x1, y1, rfl, r1, g1⟩
  clear c0 c1 c2 c3 c4 c5 c6
  have t1 := s1.go g1
  have HL1 : Hid ((le 1 n.lev.toNat).length = 1) := le_length _ _
  go_wp2_with (at_builtin; refine wpList_append_row _ rfl (.tmp 10) (.tmp 13) 23 23 5 rfl i0 Tryz.underlying23 Tryz.underlying23 hi hz0 hz1 hz2 W0.heap.size (.slice none 0 0) ([] : List Nat) rfl t1.1 x1 (1) y1 (le 1 n.lev.toNat) HL1.out.symm rfl r1 ?hb ?hs ?_)
  case hb => have := HL1.out; have := B1.out; omega
  case hs => exact t1.2.size
  intro b1 d1 w2 own1 grow1 _
  have s2 := t1.grow own1 grow1
  obtain ⟨L2, hE2⟩ : ∃ L, L = le 1 n.lev.toNat := ⟨_, rfl⟩
  have HE2 : Hid (L2 = le 1 n.lev.toNat) := hE2
  have B2 : Hid (L2.length ≤ 400 + 2 * 70) := by show _ ≤ _; rw [hE2, HL1.out]; omega
  rw [← hE2] at s2
  try simp only [List.length_nil, Nat.zero_add]
  rw [← hE2]
  clear hE2 own1 grow1 r1 g1 t1 s1
  obtain ⟨c0, c1, c2, c3, c4, c5, c6⟩ := HB.out _ s2.2
  go_wp2_with fail
  refine (rnum_i n.lsn 8 HR.out.lsn0 (by have := HR.out.lsn1; omega) (by omega) _).mono ?_
  rintro e w2a ⟨x2, y2, rfl, r2, g2⟩
  clear c0 c1 c2 c3 c4 c5 c6
  have t2 := s2.go g2
  have HL2 : Hid ((le 8 n.lsn.toNat).length = 8) := le_length _ _
  go_wp2_with (at_builtin; refine wpList_append_row _ rfl (.tmp 15) (.tmp 18) 23 23 5 rfl i0 Tryz.underlying23 Tryz.underlying23 hi hz0 hz1 hz2 W0.heap.size (.slice b1 L2.length d1) L2 rfl t2.1 x2 (8) y2 (le 8 n.lsn.toNat) HL2.out.symm rfl r2 ?hb ?hs ?_)
  case hb => have := HL2.out; have := B2.out; omega
  case hs => exact t2.2.size
  intro b2 d2 w3 own2 grow2 _
  have s3 := t2.grow own2 grow2
  obtain ⟨L3, hE3⟩ : ∃ L, L = L2 ++ (le 8 n.lsn.toNat) := ⟨_, rfl⟩
  have HE3 : Hid (L3 = L2 ++ (le 8 n.lsn.toNat)) := hE3
  have B3 : Hid (L3.length ≤ 400 + 3 * 70) := by show _ ≤ _; rw [hE3, List.length_append, HL2.out]; have := B2.out; omega
  have hll3 : L2.length + (le 8 n.lsn.toNat).length = L3.length := by rw [hE3, List.length_append]
  rw [← hE3, hll3] at s3
  rw [hll3]
  clear hE3 hll3 own2 grow2 r2 g2 t2 s2
  obtain ⟨c0, c1, c2, c3, c4, c5, c6⟩ := HB.out _ s3.2
  go_wp2_with fail
  refine (rnum_i n.rgt 4 HR.out.rgt0 (by have := HR.out.rgt1; omega) (by omega) _).mono ?_
  rintro e w3a ⟨x3, y3, rfl, r3, g3⟩
  clear c0 c1 c2 c3 c4 c5 c6
  have t3 := s3.go g3
  have HL3 : Hid ((le 4 n.rgt.toNat).length = 4) := le_length _ _
  go_wp2_with (at_builtin; refine wpList_append_row _ rfl (.tmp 20) (.tmp 23) 23 23 5 rfl i0 Tryz.underlying23 Tryz.underlying23 hi hz0 hz1 hz2 W0.heap.size (.slice b2 L3.length d2) L3 rfl t3.1 x3 (4) y3 (le 4 n.rgt.toNat) HL3.out.symm rfl r3 ?hb ?hs ?_)
  case hb => have := HL3.out; have := B3.out; omega
  case hs => exact t3.2.size
  intro b3 d3 w4 own3 grow3 _
  have s4 := t3.grow own3 grow3
  obtain ⟨L4, hE4⟩ : ∃ L, L = L3 ++ (le 4 n.rgt.toNat) := ⟨_, rfl⟩
  have HE4 : Hid (L4 = L3 ++ (le 4 n.rgt.toNat)) := hE4
  have B4 : Hid (L4.length ≤ 400 + 4 * 70) := by show _ ≤ _; rw [hE4, List.length_append, HL3.out]; have := B3.out; omega
  have hll4 : L3.length + (le 4 n.rgt.toNat).length = L4.length := by rw [hE4, List.length_append]
  rw [← hE4, hll4] at s4
  rw [hll4]
  clear hE4 hll4 own3 grow3 r3 g3 t3 s3
  obtain ⟨c0, c1, c2, c3, c4, c5, c6⟩ := HB.out _ s4.2
  go_wp2_with fail
  refine (rnum_i (n.keys.length : Int) 2 (by omega) (by omega) (by omega) _).mono ?_
  rintro e w4a ⟨x4, y4, rfl, r4, g4⟩
  clear c0 c1 c2 c3 c4 c5 c6
  have t4 := s4.go g4
  have HL4 : Hid ((le 2 ((n.keys.length : Int)).toNat).length = 2) := le_length _ _
  go_wp2_with (at_builtin; refine wpList_append_row _ rfl (.tmp 25) (.tmp 29) 23 23 5 rfl i0 Tryz.underlying23 Tryz.underlying23 hi hz0 hz1 hz2 W0.heap.size (.slice b3 L4.length d3) L4 rfl t4.1 x4 (2) y4 (le 2 ((n.keys.length : Int)).toNat) HL4.out.symm rfl r4 ?hb ?hs ?_)
  case hb => have := HL4.out; have := B4.out; omega
  case hs => exact t4.2.size
  intro b4 d4 w5 own4 grow4 _
  have s5 := t4.grow own4 grow4
  obtain ⟨L5, hE5⟩ : ∃ L, L = L4 ++ (le 2 n.keys.length) := ⟨_, rfl⟩
  have HE5 : Hid (L5 = L4 ++ (le 2 n.keys.length)) := hE5
  have B5 : Hid (L5.length ≤ 400 + 5 * 70) := by show _ ≤ _; rw [hE5, List.length_append, le_length]; have := B4.out; omega
  have hll5 : L4.length + (le 2 n.keys.length).length = L5.length := by rw [hE5, List.length_append]
  rw [← hE5, hll5] at s5
  rw [hll5]
  clear hE5 hll5 own4 grow4 r4 g4 t4 s4
  obtain ⟨c0, c1, c2, c3, c4, c5, c6⟩ := HB.out _ s5.2
  go_wp2_with fail
  refine (rtext_i n.high (by omega) _).mono ?_
  rintro e w5a ⟨x5, y5, rfl, r5, g5⟩
  clear c0 c1 c2 c3 c4 c5 c6
  have t5 := s5.go g5
  have HL5 : Hid ((txt n.high).length = n.high.size + 2) := txt_length _
  go_wp2_with (at_builtin; refine wpList_append_row _ rfl (.tmp 31) (.tmp 34) 23 23 5 rfl i0 Tryz.underlying23 Tryz.underlying23 hi hz0 hz1 hz2 W0.heap.size (.slice b4 L5.length d4) L5 rfl t5.1 x5 (n.high.size + 2) y5 (txt n.high) HL5.out.symm rfl r5 ?hb ?hs ?_)
  case hb => have := HL5.out; have := B5.out; omega
  case hs => exact t5.2.size
  intro b5 d5 w6 own5 grow5 _
  have s6 := t5.grow own5 grow5
  obtain ⟨L6, hE6⟩ : ∃ L, L = L5 ++ (txt n.high) := ⟨_, rfl⟩
  have HE6 : Hid (L6 = L5 ++ (txt n.high)) := hE6
  have B6 : Hid (L6.length ≤ 400 + 6 * 70) := by show _ ≤ _; rw [hE6, List.length_append, HL5.out]; have := B5.out; omega
  have hll6 : L5.length + (txt n.high).length = L6.length := by rw [hE6, List.length_append]
  rw [← hE6, hll6] at s6
  rw [hll6]
  clear hE6 hll6 own5 grow5 r5 g5 t5 s5
  have hng : decide (0 < n.lev) = false := by have := H0.out; simp; omega
  have HHD : Hid (L6 = hd n) := by
    show _ = _
    unfold hd
    rw [if_pos H0.out, HE6.out, HE5.out, HE4.out, HE3.out, HE2.out]
    simp only [List.append_assoc, List.append_nil]
  clear HE6 HE5 HE4 HE3 HE2 HL1 HL2 HL3 HL4 HL5 B1 B2 B3 B4 B5
  obtain ⟨c0, c1, c2, c3, c4, c5, c6⟩ := HB.out _ s6.2
  go_wp2
  go_loopw [4, 49] (fun v i wr => ∃ (k : Nat) (a : Option Addr) (c : Nat) (L : List Nat), k ≤ n.keys.length ∧ v = .slice a L.length c ∧ i = .int .i64 k ∧ Hid (L = L6 ++ ens n k) ∧ Hid (L.length ≤ 1000 + 100 * k) ∧ Ast W0 wr (.slice a L.length c) L)
    (fun _ i _ => n.keys.length - (intOf i).toNat)
  case atStart => exact ⟨0, b5, d5, L6, by omega, rfl, rfl, by show _ = _; simp [ens], by show _ ≤ _; have := B6.out; omega, s6⟩
  case round =>
    obtain ⟨k, a, c, L, hkk, rfl, rfl, HL, BL, sL⟩ := hrel
    obtain ⟨c0, c1, c2, c3, c4, c5, c6⟩ := HB.out _ sL.2
    by_cases hlt : k < n.keys.length
    · have hr1 := hW.keys.same sL.2
      have hlv : k < n.vals.length := by have := HVL.out; omega
      obtain ⟨b, off, ee, hb, hc⟩ := strs_some hr1 hlt
      obtain ⟨bv, offv, eev, hbv, hcv⟩ := strs_some hW.vals hlv
      simp only at ee eev
      have hcell := hc k hlt
      have hcellv := hcv k hlv
      have hsz := HKS.out k hlt
      have hszv := HVS.out k hlv
      obtain ⟨sk, hsk⟩ : ∃ s, s = n.keys.getD k ByteArray.empty := ⟨_, rfl⟩
      obtain ⟨sv, hsv⟩ : ∃ s, s = n.vals.getD k ByteArray.empty := ⟨_, rfl⟩
      rw [← hsk] at hcell hsz
      rw [← hsv] at hcellv hszv
      have HEN : Hid (en n k = txt sk ++ txt sv) := by show _ = _; unfold en; rw [if_pos H0.out, hsk, hsv]
      have HCV : Hid (∀ W, Fr (fun _ => False) W0 W → W.cell? ⟨bv, offv + k, none⟩ = some (.string sv)) := fun W f => (f.cell (p := ⟨bv, offv + k, none⟩) hbv (fun f => f)).trans hcellv
      clear hsk hsv hc hcv hr1 hcellv
      subst ee
      subst eev
      go_wp2_with fail
      refine (rtext_i sk (by omega) _).mono ?_
      rintro e wa ⟨xa, ya, rfl, ra, ga⟩
      clear c0 c1 c2 c3 c4 c5 c6
      have ta := sL.go ga
      have hla := txt_length sk
      have HLA : Hid ((txt sk).length = sk.size + 2) := hla
      clear hcell hla
      go_wp2_with (at_builtin; refine wpList_append_row _ rfl (.tmp 54) (.tmp 56) 23 23 5 rfl i0 Tryz.underlying23 Tryz.underlying23 hi hz0 hz1 hz2 W0.heap.size (.slice a L.length c) L rfl ta.1 xa (sk.size + 2) ya (txt sk) HLA.out.symm rfl ra ?hb ?hs ?_)
      case hb => have := HLA.out; have := BL.out; omega
      case hs => exact ta.2.size
      intro a2 c2' w2b own2 grow2 _
      have s2 := ta.grow own2 grow2
      obtain ⟨M, hM⟩ : ∃ M, M = L ++ txt sk := ⟨_, rfl⟩
      have HM : Hid (M = L ++ txt sk) := hM
      have BM : Hid (M.length ≤ 1000 + 100 * k + 18) := by show _ ≤ _; rw [hM, List.length_append, HLA.out]; have := BL.out; omega
      have hll : L.length + (txt sk).length = M.length := by rw [hM, List.length_append]
      rw [← hM, hll] at s2
      rw [hll]
      clear hM hll own2 grow2 ra ga ta sL
      obtain ⟨c0, c1, c2, c3, c4, c5, c6⟩ := HB.out _ s2.2
      have hcv3 := HCV.out _ s2.2
      go_wp2_with fail
      refine (rtext_i sv (by omega) _).mono ?_
      rintro e wb ⟨xb, yb, rfl, rb, gb⟩
      clear c0 c1 c2 c3 c4 c5 c6 hcv3
      have tb := s2.go gb
      have HLB : Hid ((txt sv).length = sv.size + 2) := txt_length sv
      go_wp2_with (at_builtin; refine wpList_append_row _ rfl (.tmp 70) (.tmp 76) 23 23 5 rfl i0 Tryz.underlying23 Tryz.underlying23 hi hz0 hz1 hz2 W0.heap.size (.slice a2 M.length c2') M rfl tb.1 xb (sv.size + 2) yb (txt sv) HLB.out.symm rfl rb ?hb ?hs ?_)
      case hb => have := HLB.out; have := BM.out; omega
      case hs => exact tb.2.size
      intro a3 c3' w3b own3' grow3' _
      have s3 := tb.grow own3' grow3'
      obtain ⟨N, hN⟩ : ∃ N, N = M ++ txt sv := ⟨_, rfl⟩
      have HN : Hid (N = M ++ txt sv) := hN
      have BN : Hid (N.length ≤ 1000 + 100 * (k + 1)) := by show _ ≤ _; rw [hN, List.length_append, HLB.out]; have := BM.out; omega
      have hll : M.length + (txt sv).length = N.length := by rw [hN, List.length_append]
      rw [← hN, hll] at s3
      rw [hll]
      clear hN hll own3' grow3' rb gb tb s2
      go_wp2
      go_roundw
      case rel =>
        exact ⟨k + 1, a3, c3', N, by omega, rfl, by go_num, by show _ = _; rw [HN.out, HM.out, HL.out, ens, HEN.out]; simp only [List.append_assoc], BN.out, s3⟩
      case measure => simp [intOf]; omega
    · have ek : k = n.keys.length := by omega
      subst ek
      have HLN : Hid (L = nb n) := by show _ = _; rw [HL.out, HHD.out]; rfl
      clear c0 c1 c2 c3 c4 c5 c6
      go_wp2
      go_loopw [4] (fun v wr => ∃ (j : Nat) (a' : Option Addr) (c' : Nat) (K : List Nat), v = .slice a' K.length c' ∧ Hid (K = nb n ++ List.replicate j 0) ∧ K.length ≤ 252 ∧ Ast W0 wr (.slice a' K.length c') K)
        (fun v _ => 252 - lenV v)
      case atStart => exact ⟨0, a, c, L, rfl, by show _ = _; rw [HLN.out]; simp, by have := HNB.out; rw [HLN.out]; omega, sL⟩
      case round =>
        obtain ⟨j, a', c', K, rfl, HK, hK, sK⟩ := hrel
        by_cases hlt2 : K.length < 252
        · have hro : Row (wr.alloc (.cells #[.int .u8 0] 5)) (some ⟨wr.heap.size, 0, none⟩) 1 [0] := row_lit (octs_one (by omega)) (by simp) (heap_alloc_new wr _)
          have hsz := sK.2.size
          go_wp2_with (at_builtin; refine wpList_append_row _ rfl _ _ 23 23 5 rfl i0 Tryz.underlying23 Tryz.underlying23 hi hz0 hz1 hz2 W0.heap.size (.slice a' K.length c') K rfl (sK.1.alloc _) (some ⟨wr.heap.size, 0, none⟩) 1 1 [0] rfl rfl hro (by simp; omega) (by simp; omega) ?_; intro a4 c4' w4b hown4 hgrow4 hat4)
          go_roundw
          case rel =>
            refine ⟨j + 1, a4, c4', K ++ [0], by simp, by show _ = _; rw [HK.out, List.append_assoc, ← List.replicate_succ'], by simp; omega, ?_, ?_⟩
            · simpa using hown4
            · exact (sK.2.alloc _).fresh hgrow4 (fun j e => (sK.1.lt j e).1)
          case measure => simp [lenV]; omega
        · have e252 : K.length = 252 := by omega
          have HKP : Hid (K = pad (nb n)) := by
            show _ = _
            have hj : (nb n).length + j = 252 := by rw [← e252, HK.out]; simp
            rw [HK.out]; unfold pad
            congr 2; omega
          have HE : Hid (K.length = 252) := e252
          clear e252
          have hoK : octs K := by rw [HKP.out]; exact pad_octs (nb_octs n)
          obtain ⟨ax, cx, hvx, hrx⟩ := sK.1.row hoK (by omega)
          simp only [Value.slice.injEq, true_and] at hvx
          obtain ⟨rfl, rfl⟩ := hvx
          go_wp2_with fail
          refine (refSeal_any _ _ _ K rfl (by omega) _ hrx).mono ?_
          rintro e w9 ⟨v9, rfl, m9⟩
          have hpg : K ++ le4 (crc K) = pg n := by rw [HKP.out, ← le_le4]; rfl
          rw [hpg] at m9
          have hl9 : (pg n).length = 256 := by rw [← hpg, List.length_append, HE.out]; simp [le4]
          obtain ⟨a9, c9, rfl, hr9⟩ := m9.own.row (pg_octs n) (by omega)
          have hnw9 : ∀ b o, a9 = some ⟨b, o, none⟩ → w.heap.size ≤ b := fun b o e => by
            have h1 := (m9.own.lt b (by rw [e]; rfl)).1
            have h2 := (f0.seq' sK.2).size
            omega
          rw [hl9]
          have f9 := f0.seq' (sK.2.seq' m9.fr)
          clear hl9 hpg m9
          go_wp2
          go_ret2
          exact ⟨a9, c9, rfl, hr9, f9, hnw9⟩
end Go.Proofs.YtkibbojiflklpaaGreat
namespace Go.Proofs.YtkibbojiflklpaaGreat
open Go.RowKit Crcm

set_option maxRecDepth 100000 in
set_option maxHeartbeats 4000000 in
theorem rencode_innerN (n : Nd) (pk : Option Addr) (pkc : Nat) (pv : Option Addr) (pvc : Nat) (pi : Option Addr) (pic : Nat) (w : World) (h : Nod w n ⟨pk, pkc, pv, pvc, pi, pic⟩) (hr : Rt n) (h0 : n.lev ≠ 0) :
    Calls Tryz.prog 7 #[(.agg #[.int .i64 n.lev, .int .i64 n.lsn, .int .i64 n.rgt, .string n.high, .slice pk n.keys.length pkc, .slice pv n.vals.length pvc, .slice pi n.kids.length pic])] w fun e w' => ∃ a c, e = .returned (.tuple #[.slice a 256 c, .int .i64 0]) ∧ Row w' a c (pg n) ∧ Fr (fun _ => False) w w' ∧ ∀ b o, a = some ⟨b, o, none⟩ → w.heap.size ≤ b := by
  obtain ⟨i0, hi, hz0, hz1, hz2⟩ := info_parts info8
  obtain ⟨W0, hW0⟩ : ∃ W0, W0 = w.alloc (.cells #[.int .i64 n.lev, .int .i64 n.lsn, .int .i64 n.rgt, .string n.high, .slice pk n.keys.length pkc, .slice pv n.vals.length pvc, .slice pi n.kids.length pic] 33) := ⟨_, rfl⟩
  have f0 : Fr (fun _ => False) w W0 := by rw [hW0]; exact Fr.box w _
  have HB : Hid (∀ w', Fr (fun _ => False) W0 w' → w'.cell? ⟨w.heap.size, 0, none⟩ = some (.int .i64 n.lev) ∧ w'.cell? ⟨w.heap.size, 1, none⟩ = some (.int .i64 n.lsn) ∧ w'.cell? ⟨w.heap.size, 2, none⟩ = some (.int .i64 n.rgt) ∧ w'.cell? ⟨w.heap.size, 3, none⟩ = some (.string n.high) ∧
    w'.cell? ⟨w.heap.size, 4, none⟩ = some (.slice pk n.keys.length pkc) ∧ w'.cell? ⟨w.heap.size, 5, none⟩ = some (.slice pv n.vals.length pvc) ∧ w'.cell? ⟨w.heap.size, 6, none⟩ = some (.slice pi n.kids.length pic)) := fun w' f => by
      rw [hW0] at f
      exact box_cells (p := ⟨pk, pkc, pv, pvc, pi, pic⟩) (box_at w n ⟨pk, pkc, pv, pvc, pi, pic⟩ 33 f)
  have hW := h.same f0
  have HR : Hid (Rt n) := hr
  have HT : Hid (rightB n = true) := (right_iff n).2 hr
  have hks := keys_small hr
  have hkc := h.keys.le
  have hkm := h.keys.max
  have hvc := h.vals.le
  have hvm := h.vals.max
  have hic := h.kids.le
  have him := h.kids.max
  simp only at hkc hkm hvc hvm hic him
  have hl0 := hr.lev0
  have H0 : Hid (n.lev ≠ 0) := h0
  have HVL : Hid (n.kids.length = n.keys.length + 1) := (hr.inner h0).1
  have HKS : Hid (∀ i, i < n.keys.length → (n.keys.getD i ByteArray.empty).size ≤ 16) := fun i hi => (hr.keys i hi).1.2
  have HVS : Hid (∀ i, i < n.kids.length → 1 ≤ n.kids.getD i 0 ∧ n.kids.getD i 0 ≤ 4096) := (hr.inner h0).2.2
  have HNB : Hid ((nb n).length ≤ 252) := by show _ ≤ _; have := nb_length hr; have := hr.size; omega
  clear h0
  have hh16 := hr.high
  clear hr
  have hrt := rright_any n ⟨pk, pkc, pv, pvc, pi, pic⟩ W0 hW
  rw [HT.out] at hrt
  simp only at hrt
  go_enter Tryz.func7, Tryz.ntmps7
  go_wp2_with fail
  rw [← hW0]
  refine hrt.mono ?_
  clear hrt hW0
  rintro e w1 ⟨rfl, f1⟩
  have s1 : Ast W0 w1 (.slice none 0 0) [] := ⟨World.ownsRow_nil _ _ _ _, f1⟩
  have B1 : Hid (([] : List Nat).length ≤ 400 + 1 * 70) := Nat.zero_le _
  obtain ⟨c0, c1, c2, c3, c4, c5, c6⟩ := HB.out _ s1.2
  go_wp2_with fail
  refine (rnum_i n.lev 1 HR.out.lev0 (by have := HR.out.lev1; omega) (by omega) _).mono ?_
  rintro e w1a ⟨x1, y1, rfl, r1, g1⟩
  clear c0 c1 c2 c3 c4 c5 c6
  have t1 := s1.go g1
  have HL1 : Hid ((le 1 n.lev.toNat).length = 1) := le_length _ _
  go_wp2_with (at_builtin; refine wpList_append_row _ rfl (.tmp 10) (.tmp 13) 23 23 5 rfl i0 Tryz.underlying23 Tryz.underlying23 hi hz0 hz1 hz2 W0.heap.size (.slice none 0 0) ([] : List Nat) rfl t1.1 x1 (1) y1 (le 1 n.lev.toNat) HL1.out.symm rfl r1 ?hb ?hs ?_)
  case hb => have := HL1.out; have := B1.out; omega
  case hs => exact t1.2.size
  intro b1 d1 w2 own1 grow1 _
  have s2 := t1.grow own1 grow1
  obtain ⟨L2, hE2⟩ : ∃ L, L = le 1 n.lev.toNat := ⟨_, rfl⟩
  have HE2 : Hid (L2 = le 1 n.lev.toNat) := hE2
  have B2 : Hid (L2.length ≤ 400 + 2 * 70) := by show _ ≤ _; rw [hE2, HL1.out]; omega
  rw [← hE2] at s2
  try simp only [List.length_nil, Nat.zero_add]
  rw [← hE2]
  clear hE2 own1 grow1 r1 g1 t1 s1
  obtain ⟨c0, c1, c2, c3, c4, c5, c6⟩ := HB.out _ s2.2
  go_wp2_with fail
  refine (rnum_i n.lsn 8 HR.out.lsn0 (by have := HR.out.lsn1; omega) (by omega) _).mono ?_
  rintro e w2a ⟨x2, y2, rfl, r2, g2⟩
  clear c0 c1 c2 c3 c4 c5 c6
  have t2 := s2.go g2
  have HL2 : Hid ((le 8 n.lsn.toNat).length = 8) := le_length _ _
  go_wp2_with (at_builtin; refine wpList_append_row _ rfl (.tmp 15) (.tmp 18) 23 23 5 rfl i0 Tryz.underlying23 Tryz.underlying23 hi hz0 hz1 hz2 W0.heap.size (.slice b1 L2.length d1) L2 rfl t2.1 x2 (8) y2 (le 8 n.lsn.toNat) HL2.out.symm rfl r2 ?hb ?hs ?_)
  case hb => have := HL2.out; have := B2.out; omega
  case hs => exact t2.2.size
  intro b2 d2 w3 own2 grow2 _
  have s3 := t2.grow own2 grow2
  obtain ⟨L3, hE3⟩ : ∃ L, L = L2 ++ (le 8 n.lsn.toNat) := ⟨_, rfl⟩
  have HE3 : Hid (L3 = L2 ++ (le 8 n.lsn.toNat)) := hE3
  have B3 : Hid (L3.length ≤ 400 + 3 * 70) := by show _ ≤ _; rw [hE3, List.length_append, HL2.out]; have := B2.out; omega
  have hll3 : L2.length + (le 8 n.lsn.toNat).length = L3.length := by rw [hE3, List.length_append]
  rw [← hE3, hll3] at s3
  rw [hll3]
  clear hE3 hll3 own2 grow2 r2 g2 t2 s2
  obtain ⟨c0, c1, c2, c3, c4, c5, c6⟩ := HB.out _ s3.2
  go_wp2_with fail
  refine (rnum_i n.rgt 4 HR.out.rgt0 (by have := HR.out.rgt1; omega) (by omega) _).mono ?_
  rintro e w3a ⟨x3, y3, rfl, r3, g3⟩
  clear c0 c1 c2 c3 c4 c5 c6
  have t3 := s3.go g3
  have HL3 : Hid ((le 4 n.rgt.toNat).length = 4) := le_length _ _
  go_wp2_with (at_builtin; refine wpList_append_row _ rfl (.tmp 20) (.tmp 23) 23 23 5 rfl i0 Tryz.underlying23 Tryz.underlying23 hi hz0 hz1 hz2 W0.heap.size (.slice b2 L3.length d2) L3 rfl t3.1 x3 (4) y3 (le 4 n.rgt.toNat) HL3.out.symm rfl r3 ?hb ?hs ?_)
  case hb => have := HL3.out; have := B3.out; omega
  case hs => exact t3.2.size
  intro b3 d3 w4 own3 grow3 _
  have s4 := t3.grow own3 grow3
  obtain ⟨L4, hE4⟩ : ∃ L, L = L3 ++ (le 4 n.rgt.toNat) := ⟨_, rfl⟩
  have HE4 : Hid (L4 = L3 ++ (le 4 n.rgt.toNat)) := hE4
  have B4 : Hid (L4.length ≤ 400 + 4 * 70) := by show _ ≤ _; rw [hE4, List.length_append, HL3.out]; have := B3.out; omega
  have hll4 : L3.length + (le 4 n.rgt.toNat).length = L4.length := by rw [hE4, List.length_append]
  rw [← hE4, hll4] at s4
  rw [hll4]
  clear hE4 hll4 own3 grow3 r3 g3 t3 s3
  obtain ⟨c0, c1, c2, c3, c4, c5, c6⟩ := HB.out _ s4.2
  go_wp2_with fail
  refine (rnum_i (n.keys.length : Int) 2 (by omega) (by omega) (by omega) _).mono ?_
  rintro e w4a ⟨x4, y4, rfl, r4, g4⟩
  clear c0 c1 c2 c3 c4 c5 c6
  have t4 := s4.go g4
  have HL4 : Hid ((le 2 ((n.keys.length : Int)).toNat).length = 2) := le_length _ _
  go_wp2_with (at_builtin; refine wpList_append_row _ rfl (.tmp 25) (.tmp 29) 23 23 5 rfl i0 Tryz.underlying23 Tryz.underlying23 hi hz0 hz1 hz2 W0.heap.size (.slice b3 L4.length d3) L4 rfl t4.1 x4 (2) y4 (le 2 ((n.keys.length : Int)).toNat) HL4.out.symm rfl r4 ?hb ?hs ?_)
  case hb => have := HL4.out; have := B4.out; omega
  case hs => exact t4.2.size
  intro b4 d4 w5 own4 grow4 _
  have s5 := t4.grow own4 grow4
  obtain ⟨L5, hE5⟩ : ∃ L, L = L4 ++ (le 2 n.keys.length) := ⟨_, rfl⟩
  have HE5 : Hid (L5 = L4 ++ (le 2 n.keys.length)) := hE5
  have B5 : Hid (L5.length ≤ 400 + 5 * 70) := by show _ ≤ _; rw [hE5, List.length_append, le_length]; have := B4.out; omega
  have hll5 : L4.length + (le 2 n.keys.length).length = L5.length := by rw [hE5, List.length_append]
  rw [← hE5, hll5] at s5
  rw [hll5]
  clear hE5 hll5 own4 grow4 r4 g4 t4 s4
  obtain ⟨c0, c1, c2, c3, c4, c5, c6⟩ := HB.out _ s5.2
  go_wp2_with fail
  refine (rtext_i n.high (by omega) _).mono ?_
  rintro e w5a ⟨x5, y5, rfl, r5, g5⟩
  clear c0 c1 c2 c3 c4 c5 c6
  have t5 := s5.go g5
  have HL5 : Hid ((txt n.high).length = n.high.size + 2) := txt_length _
  go_wp2_with (at_builtin; refine wpList_append_row _ rfl (.tmp 31) (.tmp 34) 23 23 5 rfl i0 Tryz.underlying23 Tryz.underlying23 hi hz0 hz1 hz2 W0.heap.size (.slice b4 L5.length d4) L5 rfl t5.1 x5 (n.high.size + 2) y5 (txt n.high) HL5.out.symm rfl r5 ?hb ?hs ?_)
  case hb => have := HL5.out; have := B5.out; omega
  case hs => exact t5.2.size
  intro b5 d5 w6 own5 grow5 _
  have s6 := t5.grow own5 grow5
  obtain ⟨L6, hE6⟩ : ∃ L, L = L5 ++ (txt n.high) := ⟨_, rfl⟩
  have HE6 : Hid (L6 = L5 ++ (txt n.high)) := hE6
  have B6 : Hid (L6.length ≤ 400 + 6 * 70) := by show _ ≤ _; rw [hE6, List.length_append, HL5.out]; have := B5.out; omega
  have hll6 : L5.length + (txt n.high).length = L6.length := by rw [hE6, List.length_append]
  rw [← hE6, hll6] at s6
  rw [hll6]
  clear hE6 hll6 own5 grow5 r5 g5 t5 s5
  have hng : 0 < n.lev := by have := H0.out; omega
  obtain ⟨bi, offi, eei, hbi, hci⟩ := ints_some hW.kids (k := 0) (by have := HVL.out; omega)
  simp only at eei
  have hk0 := hci 0 (by have := HVL.out; omega)
  have hkr := HVS.out 0 (by have := HVL.out; omega)
  have HKC : Hid (∀ i, i < n.kids.length → ∀ W, Fr (fun _ => False) W0 W → W.cell? ⟨bi, offi + i, none⟩ = some (.int .i64 (n.kids.getD i 0))) := fun i hi W f => (f.cell (p := ⟨bi, offi + i, none⟩) hbi (fun f => f)).trans (hci i hi)
  have hkl : (0 : Int) < (n.kids.length : Int) := by have := HVL.out; omega
  obtain ⟨x0, hx0⟩ : ∃ x, x = n.kids.getD 0 0 := ⟨_, rfl⟩
  have HX0 : Hid (x0 = n.kids.getD 0 0) := hx0
  rw [← hx0] at hkr hk0
  have hk06 := (s6.2.cell (p := ⟨bi, offi + 0, none⟩) hbi (fun f => f)).trans hk0
  rw [Nat.add_zero] at hk06
  clear hx0 hci hk0
  subst eei
  obtain ⟨c0, c1, c2, c3, c4, c5, c6⟩ := HB.out _ s6.2
  go_wp2_with fail
  refine (rnum_i x0 4 (by omega) (by omega) (by omega) _).mono ?_
  rintro e w6a ⟨x6, y6, rfl, r6, g6⟩
  clear c0 c1 c2 c3 c4 c5 c6 hk06
  have t6 := s6.go g6
  have HL6 : Hid ((le 4 x0.toNat).length = 4) := le_length _ _
  go_wp2_with (at_builtin; refine wpList_append_row _ rfl (.tmp 39) (.tmp 44) 23 23 5 rfl i0 Tryz.underlying23 Tryz.underlying23 hi hz0 hz1 hz2 W0.heap.size (.slice b5 L6.length d5) L6 rfl t6.1 x6 (4) y6 (le 4 x0.toNat) HL6.out.symm rfl r6 ?hb ?hs ?_)
  case hb => have := HL6.out; have := B6.out; omega
  case hs => exact t6.2.size
  intro b6 d6 w7 own6 grow6 _
  have s7 := t6.grow own6 grow6
  obtain ⟨L7, hE7⟩ : ∃ L, L = L6 ++ (le 4 x0.toNat) := ⟨_, rfl⟩
  have HE7 : Hid (L7 = L6 ++ (le 4 x0.toNat)) := hE7
  have B7 : Hid (L7.length ≤ 400 + 7 * 70) := by show _ ≤ _; rw [hE7, List.length_append, HL6.out]; have := B6.out; omega
  have hll7 : L6.length + (le 4 x0.toNat).length = L7.length := by rw [hE7, List.length_append]
  rw [← hE7, hll7] at s7
  rw [hll7]
  clear hE7 hll7 own6 grow6 r6 g6 t6 s6
  have HHD : Hid (L7 = hd n) := by
    show _ = _
    unfold hd
    rw [if_neg H0.out, HE7.out, HE6.out, HE5.out, HE4.out, HE3.out, HE2.out, HX0.out]
  clear HE7 HE6 HE5 HE4 HE3 HE2 HL1 HL2 HL3 HL4 HL5 HL6 B1 B2 B3 B4 B5 B6 HX0
  obtain ⟨c0, c1, c2, c3, c4, c5, c6⟩ := HB.out _ s7.2
  go_wp2
  go_loopw [4, 49] (fun v i wr => ∃ (k : Nat) (a : Option Addr) (c : Nat) (L : List Nat), k ≤ n.keys.length ∧ v = .slice a L.length c ∧ i = .int .i64 k ∧ Hid (L = L7 ++ ens n k) ∧ Hid (L.length ≤ 1000 + 100 * k) ∧ Ast W0 wr (.slice a L.length c) L)
    (fun _ i _ => n.keys.length - (intOf i).toNat)
  case atStart => exact ⟨0, b6, d6, L7, by omega, rfl, rfl, by show _ = _; simp [ens], by show _ ≤ _; have := B7.out; omega, s7⟩
  case round =>
    obtain ⟨k, a, c, L, hkk, rfl, rfl, HL, BL, sL⟩ := hrel
    obtain ⟨c0, c1, c2, c3, c4, c5, c6⟩ := HB.out _ sL.2
    by_cases hlt : k < n.keys.length
    · have hr1 := hW.keys.same sL.2
      have hlv : k + 1 < n.kids.length := by have := HVL.out; omega
      have hlvi : (k : Int) + 1 < (n.kids.length : Int) := by omega
      obtain ⟨b, off, ee, hb, hc⟩ := strs_some hr1 hlt
      simp only at ee
      have hcell := hc k hlt
      have hsz := HKS.out k hlt
      have hszv := HVS.out (k + 1) hlv
      have HCV0 := HKC.out (k + 1) hlv
      obtain ⟨sk, hsk⟩ : ∃ s, s = n.keys.getD k ByteArray.empty := ⟨_, rfl⟩
      obtain ⟨sv, hsv⟩ : ∃ s, s = n.kids.getD (k + 1) 0 := ⟨_, rfl⟩
      rw [← hsk] at hcell hsz
      rw [← hsv] at HCV0 hszv
      have HEN : Hid (en n k = txt sk ++ le 4 sv.toNat) := by show _ = _; unfold en; rw [if_neg H0.out, hsk, hsv]
      have HCV : Hid (∀ W, Fr (fun _ => False) W0 W → W.cell? ⟨bi, offi + (k + 1), none⟩ = some (.int .i64 sv)) := HCV0
      clear hsk hsv hc hr1 HCV0
      subst ee
      go_wp2_with fail
      refine (rtext_i sk (by omega) _).mono ?_
      rintro e wa ⟨xa, ya, rfl, ra, ga⟩
      clear c0 c1 c2 c3 c4 c5 c6
      have ta := sL.go ga
      have hla := txt_length sk
      have HLA : Hid ((txt sk).length = sk.size + 2) := hla
      clear hcell hla
      go_wp2_with (at_builtin; refine wpList_append_row _ rfl (.tmp 54) (.tmp 56) 23 23 5 rfl i0 Tryz.underlying23 Tryz.underlying23 hi hz0 hz1 hz2 W0.heap.size (.slice a L.length c) L rfl ta.1 xa (sk.size + 2) ya (txt sk) HLA.out.symm rfl ra ?hb ?hs ?_)
      case hb => have := HLA.out; have := BL.out; omega
      case hs => exact ta.2.size
      intro a2 c2' w2b own2 grow2 _
      have s2 := ta.grow own2 grow2
      obtain ⟨M, hM⟩ : ∃ M, M = L ++ txt sk := ⟨_, rfl⟩
      have HM : Hid (M = L ++ txt sk) := hM
      have BM : Hid (M.length ≤ 1000 + 100 * k + 18) := by show _ ≤ _; rw [hM, List.length_append, HLA.out]; have := BL.out; omega
      have hll : L.length + (txt sk).length = M.length := by rw [hM, List.length_append]
      rw [← hM, hll] at s2
      rw [hll]
      clear hM hll own2 grow2 ra ga ta sL
      obtain ⟨c0, c1, c2, c3, c4, c5, c6⟩ := HB.out _ s2.2
      have hcv3 := HCV.out _ s2.2
      go_wp2_with fail
      refine (rnum_i sv 4 (by omega) (by omega) (by omega) _).mono ?_
      rintro e wb ⟨xb, yb, rfl, rb, gb⟩
      clear c0 c1 c2 c3 c4 c5 c6 hcv3
      have tb := s2.go gb
      have HLB : Hid ((le 4 sv.toNat).length = 4) := le_length _ _
      go_wp2_with (at_builtin; refine wpList_append_row _ rfl (.tmp 61) (.tmp 68) 23 23 5 rfl i0 Tryz.underlying23 Tryz.underlying23 hi hz0 hz1 hz2 W0.heap.size (.slice a2 M.length c2') M rfl tb.1 xb (4) yb (le 4 sv.toNat) HLB.out.symm rfl rb ?hb ?hs ?_)
      case hb => have := HLB.out; have := BM.out; omega
      case hs => exact tb.2.size
      intro a3 c3' w3b own3' grow3' _
      have s3 := tb.grow own3' grow3'
      obtain ⟨N, hN⟩ : ∃ N, N = M ++ le 4 sv.toNat := ⟨_, rfl⟩
      have HN : Hid (N = M ++ le 4 sv.toNat) := hN
      have BN : Hid (N.length ≤ 1000 + 100 * (k + 1)) := by show _ ≤ _; rw [hN, List.length_append, HLB.out]; have := BM.out; omega
      have hll : M.length + (le 4 sv.toNat).length = N.length := by rw [hN, List.length_append]
      rw [← hN, hll] at s3
      rw [hll]
      clear hN hll own3' grow3' rb gb tb s2
      go_wp2
      go_roundw
      case rel =>
        exact ⟨k + 1, a3, c3', N, by omega, rfl, by go_num, by show _ = _; rw [HN.out, HM.out, HL.out, ens, HEN.out]; simp only [List.append_assoc], BN.out, s3⟩
      case measure => simp [intOf]; omega
    · have ek : k = n.keys.length := by omega
      subst ek
      have HLN : Hid (L = nb n) := by show _ = _; rw [HL.out, HHD.out]; rfl
      clear c0 c1 c2 c3 c4 c5 c6
      go_wp2
      go_loopw [4] (fun v wr => ∃ (j : Nat) (a' : Option Addr) (c' : Nat) (K : List Nat), v = .slice a' K.length c' ∧ Hid (K = nb n ++ List.replicate j 0) ∧ K.length ≤ 252 ∧ Ast W0 wr (.slice a' K.length c') K)
        (fun v _ => 252 - lenV v)
      case atStart => exact ⟨0, a, c, L, rfl, by show _ = _; rw [HLN.out]; simp, by have := HNB.out; rw [HLN.out]; omega, sL⟩
      case round =>
        obtain ⟨j, a', c', K, rfl, HK, hK, sK⟩ := hrel
        by_cases hlt2 : K.length < 252
        · have hro : Row (wr.alloc (.cells #[.int .u8 0] 5)) (some ⟨wr.heap.size, 0, none⟩) 1 [0] := row_lit (octs_one (by omega)) (by simp) (heap_alloc_new wr _)
          have hsz := sK.2.size
          go_wp2_with (at_builtin; refine wpList_append_row _ rfl _ _ 23 23 5 rfl i0 Tryz.underlying23 Tryz.underlying23 hi hz0 hz1 hz2 W0.heap.size (.slice a' K.length c') K rfl (sK.1.alloc _) (some ⟨wr.heap.size, 0, none⟩) 1 1 [0] rfl rfl hro (by simp; omega) (by simp; omega) ?_; intro a4 c4' w4b hown4 hgrow4 hat4)
          go_roundw
          case rel =>
            refine ⟨j + 1, a4, c4', K ++ [0], by simp, by show _ = _; rw [HK.out, List.append_assoc, ← List.replicate_succ'], by simp; omega, ?_, ?_⟩
            · simpa using hown4
            · exact (sK.2.alloc _).fresh hgrow4 (fun j e => (sK.1.lt j e).1)
          case measure => simp [lenV]; omega
        · have e252 : K.length = 252 := by omega
          have HKP : Hid (K = pad (nb n)) := by
            show _ = _
            have hj : (nb n).length + j = 252 := by rw [← e252, HK.out]; simp
            rw [HK.out]; unfold pad
            congr 2; omega
          have HE : Hid (K.length = 252) := e252
          clear e252
          have hoK : octs K := by rw [HKP.out]; exact pad_octs (nb_octs n)
          obtain ⟨ax, cx, hvx, hrx⟩ := sK.1.row hoK (by omega)
          simp only [Value.slice.injEq, true_and] at hvx
          obtain ⟨rfl, rfl⟩ := hvx
          go_wp2_with fail
          refine (refSeal_any _ _ _ K rfl (by omega) _ hrx).mono ?_
          rintro e w9 ⟨v9, rfl, m9⟩
          have hpg : K ++ le4 (crc K) = pg n := by rw [HKP.out, ← le_le4]; rfl
          rw [hpg] at m9
          have hl9 : (pg n).length = 256 := by rw [← hpg, List.length_append, HE.out]; simp [le4]
          obtain ⟨a9, c9, rfl, hr9⟩ := m9.own.row (pg_octs n) (by omega)
          have hnw9 : ∀ b o, a9 = some ⟨b, o, none⟩ → w.heap.size ≤ b := fun b o e => by
            have h1 := (m9.own.lt b (by rw [e]; rfl)).1
            have h2 := (f0.seq' sK.2).size
            omega
          rw [hl9]
          have f9 := f0.seq' (sK.2.seq' m9.fr)
          clear hl9 hpg m9
          go_wp2
          go_ret2
          exact ⟨a9, c9, rfl, hr9, f9, hnw9⟩
theorem rencode_yesN (n : Nd) (p : Pt) (w : World) (h : Nod w n p) (hr : Rt n) : Calls Tryz.prog 7 #[(.agg #[.int .i64 n.lev, .int .i64 n.lsn, .int .i64 n.rgt, .string n.high, .slice p.k n.keys.length p.kc, .slice p.v n.vals.length p.vc, .slice p.i n.kids.length p.ic])] w fun e w' => ∃ a c, e = .returned (.tuple #[.slice a 256 c, .int .i64 0]) ∧ Row w' a c (pg n) ∧ Fr (fun _ => False) w w' ∧ ∀ b o, a = some ⟨b, o, none⟩ → w.heap.size ≤ b := by
  obtain ⟨pk, pkc, pv, pvc, pi, pic⟩ := p
  by_cases h0 : n.lev = 0
  · exact rencode_leafN n pk pkc pv pvc pi pic w h hr h0
  · exact rencode_innerN n pk pkc pv pvc pi pic w h hr h0
end Go.Proofs.YtkibbojiflklpaaGreat
