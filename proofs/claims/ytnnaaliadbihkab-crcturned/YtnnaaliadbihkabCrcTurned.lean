/- For every row of bytes, every place and every pattern latticelaw02.CrcTurned answers true and leaves its arguments as they were: of what was sealed nothing is opened once up to 32 bits in a row were turned (2.4); no condition. -/
import Derived.Test.YtnnaaliadbihkabArgs
import Derived.Test.YtnnaaliadbihkabSpeak
import Derived.Test.YtnnaaliadbihkabOpenAll
import Derived.Deep.DeepCutAuto
namespace Go.Proofs.Ytnnaaliadbihkab.crcTurned
open Go.ChangeShapes Go.WideShapes Go.ChangeAt Go.RowKit
open Go.ChangeMaps (open_string shut_string)
set_option linter.unusedVariables false

theorem own : ownKnob Try.prog.godebug = none := by kernel_rfl
theorem laidOut : laidOutB Try.prog = true := by kernel_rfl
theorem bytes8 : Try.prog.bytesOf 5 = 1 := by kernel_rfl

open Go.Proofs.Ytnnaaliadbihkab.Crcm

/-- One turned bit, as the register sees it. -/
theorem turn_round {L : List Nat} {F n at_ i p R : Nat} (hL : L.length = n) (hn : at_ + 32 ≤ 8 * n) (hi : i < 32) (h : reg F L = R ^^^ steps (8 * n - at_) (p % 2 ^ i)) (hbit : p / 2 ^ i % 2 = 1) (hk : (at_ + i) / 8 < L.length) :
    reg F (L.set ((at_ + i) / 8) (L[(at_ + i) / 8] ^^^ 2 ^ ((at_ + i) % 8))) = R ^^^ steps (8 * n - at_) (p % 2 ^ (i + 1)) := by
  rw [reg_turn F L _ _ hk, h, hL, Nat.xor_assoc, turn_bit n at_ i p hi hn, mod_succ_bit, hbit, Nat.mul_one]
theorem keep_round {F n at_ i p R : Nat} {L : List Nat} (h : reg F L = R ^^^ steps (8 * n - at_) (p % 2 ^ i)) (hbit : p / 2 ^ i % 2 = 0) :
    reg F L = R ^^^ steps (8 * n - at_) (p % 2 ^ (i + 1)) := by
  rw [h, mod_succ_bit, hbit, Nat.mul_zero, Nat.add_zero]

theorem turn_cell (x m : Nat) (hx : x < 256) (hm : m < 8) : bits BinOp.xor IntKind.u8 (x : Int) (2 ^ m % 256) = ((x ^^^ 2 ^ m : Nat) : Int) := by
  have hp : 2 ^ m < 256 := Nat.pow_lt_pow_right (a := 2) (by omega) hm
  have e : ((2 : Int) ^ m % 256) = ((2 ^ m : Nat) : Int) := by
    have e1 : (2 : Int) ^ m = ((2 ^ m : Nat) : Int) := by simp
    rw [e1]
    generalize 2 ^ m = q at hp ⊢
    omega
  rw [e, u8_xor_nat _ _ hx hp]
theorem bit_true (p k : Nat) (hp : p < 4294967296) (h : (bits BinOp.and IntKind.u32 ((p : Int) / 2 ^ k) 1 == 1) = true) : p / 2 ^ k % 2 = 1 := by
  have e : ((p : Int) / 2 ^ k) = ((p / 2 ^ k : Nat) : Int) := by simp
  rw [e, and1_u32 _ (Nat.lt_of_le_of_lt (Nat.div_le_self _ _) hp)] at h
  simp at h; omega
theorem bit_false (p k : Nat) (hp : p < 4294967296) (h : (bits BinOp.and IntKind.u32 ((p : Int) / 2 ^ k) 1 == 1) = false) : p / 2 ^ k % 2 = 0 := by
  have e : ((p : Int) / 2 ^ k) = ((p / 2 ^ k : Nat) : Int) := by simp
  rw [e, and1_u32 _ (Nat.lt_of_le_of_lt (Nat.div_le_self _ _) hp)] at h
  rcases Nat.mod_two_eq_zero_or_one (p / 2 ^ k) with h0 | h1
  · exact h0
  · rw [h1] at h; simp at h
theorem octs_set {L : List Nat} (h : octs L) (j y : Nat) (hy : y < 256) : octs (L.set j y) := by
  intro x hx
  rcases List.mem_or_eq_of_mem_set hx with h1 | h1
  · exact h x h1
  · omega
theorem cellsOf_set (L : List Nat) (j y : Nat) : cellsOf (L.set j y) = (cellsOf L).set j (.int .u8 (y : Int)) := by
  simp [cellsOf, List.map_set]
theorem found {L : List Nat} {k m p : Nat} (hL : L.length = k + 4) (ho : octs L) (hp : p < 4294967296) (hp0 : 0 < p) (h : reg 4294967295 L = steps 32 4294967295 ^^^ steps m (p % 2 ^ 32)) : val (L.drop k) ≠ crc (L.take k) := by
  have e : p % 2 ^ 32 = p := Nat.mod_eq_of_lt (by omega)
  rw [e] at h
  refine turned_found (L.take k) (L.drop k) m p (octs_take ho k) (fun x hx => ho x (List.mem_of_mem_drop hx)) (by simp; omega) hp (by omega) ?_
  rw [List.take_append_drop]; exact h

set_option maxRecDepth 100000 in
set_option maxHeartbeats 2000000 in
theorem walk (w : World) (a0 : Option Addr) (len0 cap0 : Nat) (l0 : List Nat) (hl0 : len0 = l0.length) (z0 : cap0 ≤ 140737488351232) (hr0 : Row w a0 cap0 l0) (a1 : Int) (w1 : (Lit.int .i64 a1).wf = true) (a2 : Int) (w2 : (Lit.int .i64 a2).wf = true) :
    Calls Try.prog 6 #[.slice a0 len0 cap0, .int .i64 a1, .int .i64 a2] w fun e w' => e = .returned (.bool true) ∧ Fr (fun _ => False) w w' := by
  subst hl0
  have e0 := hr0.le
  have hb1 := bounds_i64 w1
  have hb2 := bounds_i64 w2
  go_enter Try.func6, Try.ntmps6
  go_wp2_with fail
  refine (seal_any a0 _ cap0 l0 rfl (by omega) _ hr0).mono ?_
  rintro e w3 ⟨v3, rfl, m3⟩
  have h3 : (l0 ++ le4 (crc l0)).length = l0.length + 4 := by simp [le4]
  obtain ⟨a3, c3, hv3⟩ := m3.own.slice
  rw [h3] at hv3
  rw [hv3] at m3 ⊢
  clear hv3
  go_upto_if 24 with fail
  go_cut [8] (fun p wc => ∃ pn : Nat, p = .int .u32 pn ∧ 0 < pn ∧ pn < 4294967296 ∧ w3 = wc)
  case first =>
    go_wp2
    · go_meet
      exact ⟨1, rfl, by omega, by omega, rfl⟩
    · have hne : (a2 % 4294967296 == 0) = false := by assumption
      have hne2 : ¬ a2 % 4294967296 = 0 := by simpa using hne
      go_meet
      exact ⟨(a2 % 4294967296).toNat, val_int (by omega), by omega, by omega, rfl⟩
  case rest =>
  obtain ⟨pn, rfl, hp0, hp, rfl⟩ := hcut
  obtain ⟨B, hB⟩ : ∃ B : Bool, B = decide (a1 < 0 ∨ 8 * ((l0.length : Int) + 4) - 32 < a1) := ⟨_, rfl⟩
  have HB : Hid (B = decide (a1 < 0 ∨ 8 * ((l0.length : Int) + 4) - 32 < a1)) := hB
  clear hB
  go_upto_region 7 with fail
  go_cut [34] (fun b wc => b = .bool B ∧ w3 = wc)
  case first =>
    by_cases hneg : a1 < 0
    · have hBt : B = true := by rw [HB.out]; exact decide_eq_true (Or.inl hneg)
      subst hBt
      go_wp2
      go_meet
      exact ⟨rfl, rfl⟩
    · have hn0 : decide (a1 < 0) = false := decide_eq_false hneg
      by_cases hbig : 8 * ((l0.length : Int) + 4) - 32 < a1
      · have hb0 : decide (8 * ((l0.length : Int) + 4) - 32 < a1) = true := decide_eq_true hbig
        have hBt : B = true := by rw [HB.out]; exact decide_eq_true (Or.inr hbig)
        subst hBt
        go_wp2
        go_meet
        exact ⟨by simp, rfl⟩
      · have hb0 : decide (8 * ((l0.length : Int) + 4) - 32 < a1) = false := decide_eq_false hbig
        have hBf : B = false := by rw [HB.out]; exact decide_eq_false (by omega)
        subst hBf
        go_wp2
        go_meet
        exact ⟨by simp, rfl⟩
  case rest =>
  obtain ⟨rfl, rfl⟩ := hcut
  go_upto_if 34 with fail
  go_cut [1] (fun t wc => ∃ at_ : Nat, t = .int .i64 at_ ∧ at_ + 32 ≤ 8 * (l0.length + 4) ∧ w3 = wc)
  case first =>
    cases B
    · have hno : ¬ (a1 < 0 ∨ 8 * ((l0.length : Int) + 4) - 32 < a1) := of_decide_eq_false HB.out.symm
      go_wp2
      go_meet
      exact ⟨a1.toNat, val_int (by omega), by omega, rfl⟩
    · go_wp2
      go_meet
      exact ⟨0, rfl, by omega, rfl⟩
  case rest =>
  obtain ⟨at_, rfl, hat, rfl⟩ := hcut
  clear w1 w2 hb1 hb2 HB
  obtain ⟨g, c, he, hge, hgl⟩ := m3.own.form (by rw [h3]; omega)
  rw [h3] at he
  simp only [Value.slice.injEq, true_and] at he
  obtain ⟨rfl, rfl⟩ := he
  have HO : Hid (octs (l0 ++ le4 (crc l0))) := fun x hx => by
    rcases List.mem_append.mp hx with h | h
    · exact hr0.byte x h
    · exact le4_octs _ x h
  have HR : Hid (reg 4294967295 (l0 ++ le4 (crc l0)) = steps 32 4294967295) := seal_reg l0 hr0.byte
  have H3 : Hid ((l0 ++ le4 (crc l0)).length = l0.length + 4) := h3
  clear h3
  go_wp2
  go_loopw [9] (fun i wr => ∃ (k : Nat) (L : List Nat), k ≤ 32 ∧ i = .int .i64 k ∧ L.length = l0.length + 4 ∧ octs L ∧ wr.ownsRow w.heap.size 5 1 (.slice (some ⟨g, 0, none⟩) (l0.length + 4) c3) (l0.length + 4) (cellsOf L) ∧ Fr (fun _ => False) w wr ∧ reg 4294967295 L = steps 32 4294967295 ^^^ steps (8 * (l0.length + 4) - at_) (pn % 2 ^ k))
    (fun i _ => 32 - (intOf i).toNat)
  case atStart =>
    refine ⟨0, l0 ++ le4 (crc l0), by omega, rfl, H3.out, HO.out, ?_, m3.fr, ?_⟩
    · have := m3.own
      unfold Mine at this
      rw [H3.out] at this
      exact this
    · rw [HR.out, Nat.pow_zero, Nat.mod_one, steps_zero, Nat.xor_zero]
  case round =>
    obtain ⟨k, L, hk, rfl, hLl, hLo, hown, hf, hreg⟩ := hrel
    have HLL : Hid (L.length = l0.length + 4) := hLl
    have HREG : Hid (reg 4294967295 L = steps 32 4294967295 ^^^ steps (8 * (l0.length + 4) - at_) (pn % 2 ^ k)) := hreg
    clear hLl hreg
    by_cases hlt : k < 32
    · have hj : (at_ + k) / 8 < l0.length + 4 := by omega
      have hcell : wr.cell? ⟨g, (at_ + k) / 8, none⟩ = some (.int .u8 ((L.getD ((at_ + k) / 8) 0 : Nat) : Int)) := by
        rw [hown.cellAt _ (by omega)]
        exact cellsOf_get L _ (by rw [HLL.out]; exact hj)
      have hfr := hown.frozenAt ((at_ + k) / 8)
      have hxl := octs_getD hLo ((at_ + k) / 8)
      obtain ⟨x, hx⟩ : ∃ x, x = L.getD ((at_ + k) / 8) 0 := ⟨_, rfl⟩
      rw [← hx] at hcell hxl
      have HX : Hid (x = L.getD ((at_ + k) / 8) 0) := hx
      clear hx
      have i0 : (0 : Int) ≤ ((at_ : Int) + (k : Int)) / 8 := by omega
      have i1 : ((at_ : Int) + (k : Int)) / 8 < (l0.length : Int) + 4 := by omega
      go_wp2
      · have hbit := bit_true pn k hp (by assumption)
        have hm8 : (at_ + k) % 8 < 8 := Nat.mod_lt _ (by omega)
        rw [turn_cell x _ hxl hm8]
        have hyl : x ^^^ 2 ^ ((at_ + k) % 8) < 256 := Nat.xor_lt_two_pow (n := 8) (by omega) (Nat.pow_lt_pow_right (a := 2) (by omega) hm8)
        have hjL : (at_ + k) / 8 < L.length := by rw [HLL.out]; exact hj
        have hxe : x = L[(at_ + k) / 8] := by rw [HX.out, List.getD_eq_getElem?_getD, List.getElem?_eq_getElem hjL]; rfl
        have R := turn_round HLL.out hat hlt HREG.out hbit hjL
        rw [← hxe] at R
        have O := (hown.stored ((at_ + k) / 8) (.int .u8 ((x ^^^ 2 ^ ((at_ + k) % 8) : Nat) : Int))).1
        rw [← cellsOf_set] at O
        go_roundw
        case rel => exact ⟨k + 1, L.set ((at_ + k) / 8) (x ^^^ 2 ^ ((at_ + k) % 8)), by omega, by go_num, by rw [List.length_set]; exact HLL.out, octs_set hLo _ _ hyl, O, hf.setCell (p := ⟨g, (at_ + k) / 8, none⟩) (fun h => absurd h (Nat.not_lt_of_le hge)) _, R⟩
        case measure => simp [intOf]; omega
      · have hbit := bit_false pn k hp (by assumption)
        have R := keep_round HREG.out hbit
        go_roundw
        case rel => exact ⟨k + 1, L, by omega, by go_num, HLL.out, hLo, hown, hf, R⟩
        case measure => simp [intOf]; omega
    · have ek : k = 32 := by omega
      subst ek
      have hmine : Mine wr w.heap.size (.slice (some ⟨g, 0, none⟩) (l0.length + 4) c3) L := by unfold Mine; rw [HLL.out]; exact hown
      obtain ⟨a5, c5, he5, hr5⟩ := hmine.row hLo (by rw [HLL.out]; omega)
      rw [HLL.out] at he5
      simp only [Value.slice.injEq, true_and] at he5
      obtain ⟨rfl, rfl⟩ := he5
      have hbad := found HLL.out hLo hp hp0 HREG.out
      have HBAD : Hid (val (L.drop l0.length) ≠ crc (L.take l0.length)) := hbad
      clear hbad hmine hown
      go_wp2_with fail
      refine (open_bad (some ⟨g, 0, none⟩) (l0.length + 4) l0.length c3 L HLL.out.symm rfl _ hr5 HBAD.out).mono ?_
      rintro e w6 ⟨rfl, f6⟩
      go_wp2_with fail
      refine (speaks_any _).mono ?_
      rintro e w7 ⟨rfl, f7⟩
      go_wp2
      go_ret
      exact ⟨rfl, hf.false_trans (f6.false_trans f7)⟩

set_option maxRecDepth 100000 in
theorem lifted (os : Os) (started : os.Started) (H : Type) (enc : TypeId × Value → H) :
    ReturnsInHanded {} Try.checked os 6 .any (Rows.crcTurnedSpec.pre6 enc Try.prog Try.f6 Rows.crcTurnedRow.domain false) (Rows.crcTurnedSpec.post enc Try.prog Try.f6 false true false false) := by
  refine returnsInHanded_of_change_sized (C := Try.checked) own started (by kernel_rfl) Try.func6
    (ChangeSpec.witness6 (enc := enc) (C := Try.checked) false ⟨#[], #[.slice none 0 0, .int .i64 0, .int .i64 0], []⟩ 8 (by kernel_rfl) (by kernel_rfl) (by kernel_rfl) (by kernel_rfl)) ?_
  intro W base args ds gs before hval0 hW hcnd hsz0 _
  have hsz : (DataW.weightsEach Try.prog (Try.f6.params.toList ++ Rows.crcTurnedSpec.plain.varTypes Try.prog) (ds ++ gs)).all (· ≤ reachBytes) = true := hsz0
  clear hsz0
  have hval : ∀ (j : Nat) t v, Try.f6.params[j]? = some t → args[j]? = some v → Value.okWide Try.prog W .any base t v := hval0
  have hW' := hW
  obtain ⟨p, q, hA0, hV, rfl, hfz, hnd⟩ := hW
  have hA : DataW.TrodAll enc Try.prog W 0 (fun _ => true) true Try.f6.params.toList args.toList ds p := hA0
  rw [Try.params6] at hA hval hsz
  obtain ⟨v0, vs0, d0, ds0, p0, q0, hargs, rfl, rfl, h0, r0⟩ := trodAll_cons hA
  obtain ⟨v1, vs1, d1, ds1, p1, q1, rfl, rfl, rfl, h1, r1⟩ := trodAll_cons r0
  obtain ⟨v2, vs2, d2, ds2, p2, q2, rfl, rfl, rfl, h2, r2⟩ := trodAll_cons r1
  obtain ⟨rfl, rfl, rfl⟩ := trodAll_nil r2
  obtain rfl : args = #[v0, v1, v2] := by cases args; simp_all
  obtain ⟨rfl, rfl⟩ := trodVars_none hV
  obtain ⟨a0, len0, cap0, rfl⟩ := okWide_slice Try.underlying22 (hval 0 22 v0 rfl rfl)
  have k0 := h0
  have lt0 : ∀ x ∈ p0, x.block < W.heap.size := by obtain ⟨m, hm⟩ := k0; exact DataW.trod_lt m _ _ _ hm
  obtain ⟨l0, hl0, z0, hr0⟩ : ∃ l : List Nat, len0 = l.length ∧ cap0 ≤ 140737488351232 ∧ Row W a0 cap0 l := by
    obtain ⟨fuel, hf⟩ := h0
    rcases open_ints Try.underlying22 Try.underlying5 (by kernel_rfl) hf with ⟨hcs, _⟩ | ⟨x, l, c, zs, hcs, _, hl, hm, hz, hx, hcell, hwz⟩
    · simp [Value.cells] at hcs
      obtain ⟨rfl, rfl, rfl⟩ := hcs
      exact ⟨[], rfl, by omega, row_nil _ _⟩
    · simp [Value.cells] at hcs
      obtain ⟨rfl, rfl, rfl⟩ := hcs
      have hz' : zs.length = cap0 := by simpa using hz
      have hd : d0 = .slice (lits .u8 (zs.take len0)) (lits .u8 (zs.drop len0)) := congrArg Prod.fst hx
      have hcap : cap0 ≤ 140737488351232 := by
        have := sized_slice hsz (j := 0) (t := 22) (e := 5) rfl (by rw [hd]; rfl) Try.underlying22
        rw [bytes8] at this
        simp only [lits, List.length_map, List.length_take, List.length_drop, reachBytes] at this
        omega
      obtain ⟨l, h1, h2⟩ := row_of_ints hl (Nat.le_trans hcap (by omega)) hz' hcell hwz
      exact ⟨l, h1, hcap, h2⟩
  obtain ⟨a1, rfl, rfl, rfl, w1⟩ := open_int Try.underlying3 (hval 1 3 v1 rfl rfl) h1
  obtain ⟨a2, rfl, rfl, rfl, w2⟩ := open_int Try.underlying3 (hval 2 3 v2 rfl rfl) h2
  clear hA0 hval0
  refine (walk W a0 len0 cap0 l0 hl0 z0 hr0 a1 w1 a2 w2).mono fun e W' ⟨he, fr⟩ => ?_
  have bel : Below W.heap.size W W' := fr.below (Nat.le_refl _) (fun _ f => f.elim)
  subst he
  exact ⟨_, rfl, _, _, _, [], _, [], hW', trodAll_mk1 (shut_bool Try.underlying4 _), (trodAll_cons_mk (Below.trod laidOut (by kernel_rfl) (of_decide_eq_true (by kernel_rfl)) k0 bel lt0) (trodAll_cons_mk (shut_int Try.underlying3 w1) (trodAll_cons_mk (shut_int Try.underlying3 w2) trodAll_mk0))), rfl, bel.frame _, fun h => by cases h⟩

theorem proved : Rows.CrcTurnedSaid :=
  OpenClaim.holds_of_wide 6 Try.f6 rfl rfl rfl rfl rfl rfl rfl ⟨rfl, rfl, rfl, rfl, rfl⟩ rfl rfl rfl rfl rfl (by kernel_rfl) Try.func6 (by kernel_rfl)
    (of_decide_eq_true (by kernel_rfl)) (by unfold Func.isWrapper; first | (rw [if_pos (by decide +kernel)]; kernel_rfl) | (rw [if_neg (by decide +kernel)]; exact ⟨rfl, rfl⟩))
    (fun os started H enc _ => lifted os started H enc)
end Go.Proofs.Ytnnaaliadbihkab.crcTurned
namespace Go.Proofs.Ytnnaaliadbihkab
theorem crcTurned_holds : Rows.CrcTurnedSaid := crcTurned.proved
#print axioms crcTurned_holds
end Go.Proofs.Ytnnaaliadbihkab
