
/- For every record and all numbers, its frame cut anywhere tells ErrCut and no bytes, and with any one bit turned it is no frame of a record; no condition on the input. -/
import Derived.Test.YtdiphnfbbajfiaaYB4
import Derived.Test.YtdiphnfbbajfiaaYB9
import Derived.Deep.DeepCutAuto
namespace Go.Proofs.Ytdiphnfbbajfiaa.recordCut
open Go.ChangeShapes Go.WideShapes Go.ChangeAt Go.RowKit
open Go.ChangeMaps (open_string shut_string)
set_option linter.unusedVariables false

theorem own : ownKnob Try.prog.godebug = none := by kernel_rfl
theorem laidOut : laidOutB Try.prog = true := by kernel_rfl
theorem bytes8 : Try.prog.bytesOf 5 = 1 := by kernel_rfl

open Go.Proofs.Ytdiphnfbbajfiaa.Crcm

theorem cells_set (L : List Nat) (j y : Nat) : cellsOf (L.set j y) = (cellsOf L).set j (.int .u8 (y : Int)) := by
  simp [cellsOf, List.map_set]
set_option maxRecDepth 100000 in
set_option maxHeartbeats 4000000 in
theorem walk (w : World) (r : Rec) (_hk : r.key.size ≤ 140737488351232) (_hv : r.val.size ≤ 140737488351232) (a1 : Int) (w1 : (Lit.int .i64 a1).wf = true) (a2 : Int) (w2 : (Lit.int .i64 a2).wf = true) :
    Calls Try.prog 6 #[(.agg #[.int .i64 r.lsn, .int .i64 r.ep, .int .i64 r.kind, .int .i64 r.page, .int .i64 r.other, .int .i64 r.req, .string r.key, .string r.val]), .int .i64 a1, .int .i64 a2] w fun e w' => e = .returned (.bool true) ∧ Fr (fun _ => False) w w' := by
  obtain ⟨i0, hi, hz0, hz1, hz2⟩ := info_parts info8
  have hb1 := bounds_i64 w1
  have hb2 := bounds_i64 w2
  have f0 := Fr.box w (.cells #[.int .i64 r.lsn, .int .i64 r.ep, .int .i64 r.kind, .int .i64 r.page, .int .i64 r.other, .int .i64 r.req, .string r.key, .string r.val] 23)
  clear w1 w2
  by_cases hr : rok r = true
  · have R : Hid (rok r = true) := hr
    have hfl : (frm r).length ≤ 400 := by have g := rok_rg hr; have := g.key; have := g.val; rw [frm_length]; omega
    have hf0 : 43 ≤ (frm r).length := by rw [frm_length]; omega
    have HC := rdec_cut r hr
    have HT := rdec_turned r hr
    have HO : Hid (octs (frm r)) := frm_octs r
    clear hr
    have hen := fun W => encode_ryes r R.out W
    obtain ⟨L, hL⟩ : ∃ L, L = frm r := ⟨_, rfl⟩
    rw [← hL] at hfl hf0 HC HT HO hen
    have HC' : Hid (∀ (k : Nat), k < L.length → rdec (L.take k) = (zr, 0, 10)) := HC
    have HT' : Hid (∀ (k m : Nat), k < L.length → m < 8 → (rdec (L.set k (L.getD k 0 ^^^ 2 ^ m))).2.2 ≠ 0) := HT
    clear hL HC HT
    have hne : ((L.length : Int) == 0) = false := by rw [beq_eq_false_iff_ne]; omega
    go_enter Try.func6, Try.ntmps6
    go_wp2_with fail
    refine (hen _).mono ?_
    rintro e w3 ⟨v3, rfl, m3⟩
    clear hen
    obtain ⟨a3, c3, rfl, r3⟩ := m3.own.row HO.out (by omega)
    have F3 := f0.seq' m3.fr
    clear m3 f0
    obtain ⟨B, hB⟩ : ∃ B : Bool, B = decide (a1 < 0 ∨ (L.length : Int) ≤ a1) := ⟨_, rfl⟩
    have HB : Hid (B = decide (a1 < 0 ∨ (L.length : Int) ≤ a1)) := hB
    clear hB
    go_upto_region 4 with fail
    go_cut [45] (fun b wc => b = .bool B ∧ w3 = wc)
    case first =>
      by_cases hneg : a1 < 0
      · have hBt : B = true := by rw [HB.out]; exact decide_eq_true (Or.inl hneg)
        subst hBt
        go_wp2
        go_meet
        exact ⟨rfl, rfl⟩
      · have hn0 : decide (a1 < 0) = false := decide_eq_false hneg
        by_cases hbig : (L.length : Int) ≤ a1
        · have hb0 : decide ((L.length : Int) ≤ a1) = true := decide_eq_true hbig
          have hBt : B = true := by rw [HB.out]; exact decide_eq_true (Or.inr hbig)
          subst hBt
          go_wp2
          go_meet
          exact ⟨by simp, rfl⟩
        · have hb0 : decide ((L.length : Int) ≤ a1) = false := decide_eq_false hbig
          have hBf : B = false := by rw [HB.out]; exact decide_eq_false (by omega)
          subst hBf
          go_wp2
          go_meet
          exact ⟨by simp, rfl⟩
    case rest =>
    obtain ⟨rfl, rfl⟩ := hcut
    go_upto_if 45 with fail
    go_cut [1] (fun t wc => ∃ k : Nat, t = .int .i64 k ∧ k < L.length ∧ w3 = wc)
    case first =>
      cases B
      · have hno : ¬ (a1 < 0 ∨ (L.length : Int) ≤ a1) := of_decide_eq_false HB.out.symm
        go_wp2
        go_meet
        exact ⟨a1.toNat, val_int (by omega), by omega, rfl⟩
      · have hwr : IntKind.i64.wrap ((L.length : Int) - 1) = (L.length : Int) - 1 := by simp [IntKind.wrap, IntKind.bits, IntKind.signed]; omega
        go_wp2
        go_meet
        exact ⟨L.length - 1, val_int (by omega), by omega, rfl⟩
    case rest =>
    obtain ⟨k, rfl, hk, rfl⟩ := hcut
    clear HB hb1
    obtain ⟨B2, hB2⟩ : ∃ B : Bool, B = decide (a2 < 0 ∨ 8 * (L.length : Int) ≤ a2) := ⟨_, rfl⟩
    have HB2 : Hid (B2 = decide (a2 < 0 ∨ 8 * (L.length : Int) ≤ a2)) := hB2
    clear hB2
    have hw8 : IntKind.i64.wrap (8 * (L.length : Int)) = 8 * (L.length : Int) := by simp [IntKind.wrap, IntKind.bits, IntKind.signed]; omega
    go_upto_region 6 with fail
    go_cut [57] (fun b wc => b = .bool B2 ∧ w3 = wc)
    case first =>
      by_cases hneg : a2 < 0
      · have hBt : B2 = true := by rw [HB2.out]; exact decide_eq_true (Or.inl hneg)
        subst hBt
        go_wp2
        go_meet
        exact ⟨rfl, rfl⟩
      · have hn0 : decide (a2 < 0) = false := decide_eq_false hneg
        by_cases hbig : 8 * (L.length : Int) ≤ a2
        · have hb0 : decide (8 * (L.length : Int) ≤ a2) = true := decide_eq_true hbig
          have hBt : B2 = true := by rw [HB2.out]; exact decide_eq_true (Or.inr hbig)
          subst hBt
          go_wp2
          go_meet
          exact ⟨by simp, rfl⟩
        · have hb0 : decide (8 * (L.length : Int) ≤ a2) = false := decide_eq_false hbig
          have hBf : B2 = false := by rw [HB2.out]; exact decide_eq_false (by omega)
          subst hBf
          go_wp2
          go_meet
          exact ⟨by simp, rfl⟩
    case rest =>
    obtain ⟨rfl, rfl⟩ := hcut
    go_upto_if 57 with fail
    go_cut [2] (fun t wc => ∃ j : Nat, t = .int .i64 j ∧ j < 8 * L.length ∧ w3 = wc)
    case first =>
      cases B2
      · have hno : ¬ (a2 < 0 ∨ 8 * (L.length : Int) ≤ a2) := of_decide_eq_false HB2.out.symm
        go_wp2
        go_meet
        exact ⟨a2.toNat, val_int (by omega), by omega, rfl⟩
      · go_wp2
        go_meet
        exact ⟨0, rfl, by omega, rfl⟩
    case rest =>
    obtain ⟨j, rfl, hj, rfl⟩ := hcut
    clear HB2 hb2 hw8 hne
    have hle3 := r3.le
    have hmx3 := r3.max
    have j1 : (k : Int) ≤ (c3 : Int) := by omega
    have HKL : Hid (k = (L.take k).length) := by show _ = _; rw [List.length_take]; omega
    have hdc := decode_rec a3 k c3 (L.take k) HKL.out _ (r3.take k)
    rw [HC'.out k hk] at hdc
    unfold RdOut at hdc
    dsimp only at hdc
    rw [zr_agg] at hdc
    go_wp2_with fail
    refine hdc.mono ?_
    clear hdc
    rintro e w4 ⟨rfl, f4⟩
    have fb4 := Fr.box w4 (.cells #[.int .i64 0, .int .i64 0, .int .i64 0, .int .i64 0, .int .i64 0, .int .i64 0, .string ⟨#[]⟩, .string ⟨#[]⟩] 23)
    have F4 := (F3.seq' f4).seq' fb4
    have r4 := r3.same (f4.seq' fb4)
    have hj8 : j / 8 < L.length := by omega
    have hm8 : j % 8 < 8 := Nat.mod_lt _ (by omega)
    have q0 : (0 : Int) ≤ (j : Int) / 8 := by omega
    have q1 : (j : Int) / 8 < (L.length : Int) := by omega
    obtain ⟨W4, hW4⟩ : ∃ W, W = w4.alloc (.cells #[.int .i64 0, .int .i64 0, .int .i64 0, .int .i64 0, .int .i64 0, .int .i64 0, .string ⟨#[]⟩, .string ⟨#[]⟩] 23) := ⟨_, rfl⟩
    rw [← hW4] at F4 r4
    have HW4 : Hid (w4.alloc (.cells #[.int .i64 0, .int .i64 0, .int .i64 0, .int .i64 0, .int .i64 0, .int .i64 0, .string ⟨#[]⟩, .string ⟨#[]⟩] 23) = W4) := hW4.symm
    clear hW4 fb4 f4 r3 j1 hk
    obtain ⟨x0, hx0⟩ : ∃ x, x = L.getD (j / 8) 0 := ⟨_, rfl⟩
    have HX0 : Hid (x0 = L.getD (j / 8) 0) := hx0
    clear hx0
    go_upto_region 10 with fail
    rw [HW4.out]
    go_wp2_with (at_builtin; refine wpList_append_row _ rfl (.tmp 66) (.tmp 67) 24 24 5 rfl i0 Try.underlying24 Try.underlying24 hi hz0 hz1 hz2 W4.heap.size (.slice none 0 0) [] rfl (World.ownsRow_nil _ _ _ _) a3 L.length c3 L rfl rfl r4 (by simp; omega) (Nat.le_refl _) ?_; intro a5 c5 w5 hown5 hgrow5 hat5; have m5 : Mine w5 W4.heap.size (.slice a5 L.length c5) L := (by simpa using hown5); have f5 : Fr (fun _ => False) W4 w5 := Fr.ofGrown hgrow5; clear hown5 hat5; obtain ⟨g, c, he, hge, hgl⟩ := m5.form (by omega); simp only [Value.slice.injEq, true_and] at he; obtain ⟨rfl, rfl⟩ := he; have hcell : w5.cell? ⟨g, j / 8, none⟩ = some (.int .u8 (x0 : Int)) := (by rw [m5.cellAt _ (by omega), HX0.out]; exact cellsOf_get L _ hj8); have hfr := m5.frozenAt (j / 8))
    have hxl := octs_getD HO.out (j / 8)
    rw [← HX0.out] at hxl
    rw [rturn_cell _ _ hxl hm8]
    have hyl := rxor_small hxl hm8
    have hT := HT'.out (j / 8) (j % 8) hj8 hm8
    rw [← HX0.out] at hT
    have O := (m5.stored (j / 8) (.int .u8 ((x0 ^^^ 2 ^ (j % 8) : Nat) : Int))).1
    rw [← cells_set] at O
    have ho6 := rocts_set HO.out (j / 8) _ hyl
    obtain ⟨x, hx⟩ : ∃ x, x = x0 ^^^ 2 ^ (j % 8) := ⟨_, rfl⟩
    rw [← hx] at hT O ho6 ⊢
    obtain ⟨M, hM⟩ : ∃ M, M = L.set (j / 8) x := ⟨_, rfl⟩
    have hML : M.length = L.length := by rw [hM, List.length_set]
    rw [← hM] at hT O ho6
    rw [← hML] at O ⊢
    have F6 : Fr (fun _ => False) w (w5.setCell ⟨g, j / 8, none⟩ (.int .u8 (x : Int))) := (F4.seq' f5).setCell (p := ⟨g, j / 8, none⟩) (fun h => absurd h (by have := F4.size; simp only; omega)) _
    obtain ⟨W6, hW6⟩ : ∃ W, W = w5.setCell ⟨g, j / 8, none⟩ (.int .u8 (x : Int)) := ⟨_, rfl⟩
    rw [← hW6] at O F6 ⊢
    have hmine : Mine W6 W4.heap.size (.slice (some ⟨g, 0, none⟩) M.length c5) M := O
    obtain ⟨a6, c6, he6, r6⟩ := hmine.row ho6 (by omega)
    simp only [Value.slice.injEq, true_and] at he6
    obtain ⟨rfl, rfl⟩ := he6
    clear hmine O hcell hfr m5 hM hW6 hx hML
    have hdc := decode_rec (some ⟨g, 0, none⟩) M.length c5 M rfl _ r6
    have hnn := rdec_none M hT
    obtain ⟨y, m, k6, hyk⟩ : ∃ y m k, rdec M = (y, m, k) := ⟨_, _, _, rfl⟩
    rw [hyk] at hdc hnn hT
    dsimp only at hnn hT
    obtain ⟨rfl, rfl⟩ := hnn
    unfold RdOut at hdc
    dsimp only at hdc
    rw [zr_agg] at hdc
    have hkb : ((k6 : Int) != 0) = true := by rw [bne_iff_ne]; omega
    clear hyk hT
    refine hdc.mono ?_
    rintro e w7 ⟨rfl, f7⟩
    have fb7 := Fr.box w7 (.cells #[.int .i64 0, .int .i64 0, .int .i64 0, .int .i64 0, .int .i64 0, .int .i64 0, .string ⟨#[]⟩, .string ⟨#[]⟩] 23)
    clear hdc
    go_wp2_with fail
    refine (rspeaks_any _).mono ?_
    rintro e w8 ⟨rfl, f8⟩
    go_wp2
    go_ret
    exact ⟨rfl, ((F6.seq' f7).seq' fb7).seq' f8⟩
  · have HR : Hid (rok r = false) := by show _ = _; simpa using hr
    clear hr
    go_enter Try.func6, Try.ntmps6
    go_wp2_with fail
    refine (encode_rno r HR.out _).mono ?_
    rintro e w3 ⟨rfl, f1⟩
    go_wp2_with fail
    refine (rspeaks_any _).mono ?_
    rintro e w7 ⟨rfl, f7⟩
    go_wp2
    go_ret
    exact ⟨rfl, (f0.seq' f1).seq' f7⟩

set_option maxRecDepth 100000 in
theorem lifted (os : Os) (started : os.Started) (H : Type) (enc : TypeId × Value → H) :
    ReturnsInHanded {} Try.checked os 6 .any (Rows.recordCutSpec.pre6 enc Try.prog Try.f6 Rows.recordCutRow.domain false) (Rows.recordCutSpec.post enc Try.prog Try.f6 false true false false) := by
  refine returnsInHanded_of_change_sized (C := Try.checked) own started (by kernel_rfl) Try.func6
    (ChangeSpec.witness6 (enc := enc) (C := Try.checked) false ⟨#[], #[.agg #[.int .i64 0, .int .i64 0, .int .i64 0, .int .i64 0, .int .i64 0, .int .i64 0, .string ByteArray.empty, .string ByteArray.empty], .int .i64 0, .int .i64 0], []⟩ 8 (by kernel_rfl) (by kernel_rfl) (by kernel_rfl) (by kernel_rfl)) ?_
  intro W base args ds gs before hval0 hW hcnd hsz0 _
  have hsz : (DataW.weightsEach Try.prog (Try.f6.params.toList ++ Rows.recordCutSpec.plain.varTypes Try.prog) (ds ++ gs)).all (· ≤ reachBytes) = true := hsz0
  clear hsz0
  have hval : ∀ (j : Nat) t v, Try.f6.params[j]? = some t → args[j]? = some v → Value.okWide Try.prog W .any base t v := hval0
  have hW' := hW
  obtain ⟨p, q, hA0, hV, rfl, hfz, hnd⟩ := hW
  have hA : DataW.TrodAll enc Try.prog W 0 (fun _ => true) true Try.f6.params.toList args.toList ds p := hA0
  rw [Try.params6] at hA hval hsz
  obtain ⟨v0, vs0, d0, ds0, p0, q0, hargs, rfl, rfl, h0, r0⟩ := trodAll_cons hA
  obtain ⟨v1, vs1, d1, ds1, p1, q1, rfl, rfl, rfl, h1, r1⟩ := trodAll_cons r0
  obtain ⟨v2, vs2, d2, ds2, p2, q2, rfl, rfl, rfl, h2, r2⟩ := trodAll_cons r1
  obtain ⟨rfl, rfl, rfl⟩ := trodAll_nil r2
  obtain rfl : args = #[v0, v1, v2] := by cases args; simp_all
  obtain ⟨rfl, rfl⟩ := trodVars_none hV
  have k0 := h0
  have lt0 : ∀ x ∈ p0, x.block < W.heap.size := by obtain ⟨m, hm⟩ := k0; exact DataW.trod_lt m _ _ _ hm
  obtain ⟨rr0, rfl, rk0, rv0⟩ := rec_open (hval 0 23 v0 rfl rfl) h0 (fun z hz => by simpa using List.all_eq_true.1 hsz z (DataW.weights_mem_each (j := 0) rfl rfl z hz))
  obtain ⟨a1, rfl, rfl, rfl, w1⟩ := open_int Try.underlying3 (hval 1 3 v1 rfl rfl) h1
  obtain ⟨a2, rfl, rfl, rfl, w2⟩ := open_int Try.underlying3 (hval 2 3 v2 rfl rfl) h2
  clear hA0 hval0
  refine (walk W rr0 rk0 rv0 a1 w1 a2 w2).mono fun e W' ⟨he, fr⟩ => ?_
  have bel : Below W.heap.size W W' := fr.below (Nat.le_refl _) (fun _ f => f.elim)
  subst he
  exact ⟨_, rfl, _, _, _, [], _, [], hW', trodAll_mk1 (shut_bool Try.underlying4 _), (trodAll_cons_mk (Below.trod laidOut (by kernel_rfl) (of_decide_eq_true (by kernel_rfl)) k0 bel lt0) (trodAll_cons_mk (shut_int Try.underlying3 w1) (trodAll_cons_mk (shut_int Try.underlying3 w2) trodAll_mk0))), rfl, bel.frame _, fun h => by cases h⟩

theorem proved : Rows.RecordCutSaid :=
  OpenClaim.holds_of_wide 6 Try.f6 rfl rfl rfl rfl rfl rfl rfl ⟨rfl, rfl, rfl, rfl, rfl⟩ rfl rfl rfl rfl rfl (by kernel_rfl) Try.func6 (by kernel_rfl)
    (of_decide_eq_true (by kernel_rfl)) (by unfold Func.isWrapper; first | (rw [if_pos (by decide +kernel)]; kernel_rfl) | (rw [if_neg (by decide +kernel)]; exact ⟨rfl, rfl⟩))
    (fun os started H enc _ => lifted os started H enc)
end Go.Proofs.Ytdiphnfbbajfiaa.recordCut
namespace Go.Proofs.Ytdiphnfbbajfiaa
theorem recordCut_holds : Rows.RecordCutSaid := recordCut.proved
#print axioms recordCut_holds
end Go.Proofs.Ytdiphnfbbajfiaa
