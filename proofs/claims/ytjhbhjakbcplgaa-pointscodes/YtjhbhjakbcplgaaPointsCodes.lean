
/- For any point and any bytes, points.Encode and points.Decode answer as the document's own Encode and Decode, byte by byte and error by error, and the example speaks; with no condition but those of the statement's own form. -/
import Derived.Test.YtjhbhjakbcplgaaArgs
import Derived.Test.YtjhbhjakbcplgaaPtLaw
namespace Go.Proofs.Ytjhbhjakbcplgaa.pointsCodes
open Go.ChangeShapes Go.WideShapes Go.ChangeAt Go.RowKit
open Go.ChangeMaps (open_string shut_string)
set_option linter.unusedVariables false

theorem own : ownKnob Try.prog.godebug = none := by kernel_rfl
theorem laidOut : laidOutB Try.prog = true := by kernel_rfl
theorem bytes8 : Try.prog.bytesOf 5 = 1 := by kernel_rfl

open Go.Proofs.Ytjhbhjakbcplgaa.Crcm
set_option maxRecDepth 100000 in
set_option maxHeartbeats 4000000 in
theorem walk (w : World) (p : Pn) (hp : wfI p.num ∧ wfI p.lsn ∧ wfI p.redo) (a1 : Option Addr) (len1 cap1 : Nat) (l1 : List Nat) (hl1 : len1 = l1.length) (_ : cap1 ≤ 140737488351232) (hr1 : Row w a1 cap1 l1) :
    Calls Try.prog 4 #[.agg #[.int .i64 p.num, .int .i64 p.lsn, .int .i64 p.redo], .slice a1 len1 cap1] w fun e w' => e = .returned (.bool true) ∧ Fr (fun _ => False) w w' := by
  subst hl1
  have hre := hp.2.2.range
  have enc := fun W => encode_all p W
  have renc := fun W => rencode_all p (by omega) W
  have HO := encP_octs p
  have HN := encP_len p
  have ref := fun W => ref_any p W
  obtain ⟨p1, p2, p3⟩ := p
  clear hp hre
  obtain ⟨⟨le_, ee⟩, he⟩ : ∃ x, x = encP ⟨p1, p2, p3⟩ := ⟨_, rfl⟩
  rw [← he] at enc renc HO HN
  clear he
  obtain ⟨⟨⟨d1, d2, d3⟩, de⟩, hd⟩ : ∃ x, x = decP l1 := ⟨_, rfl⟩
  have HD : Hid (decP l1 = (⟨d1, d2, d3⟩, de)) := hd.symm
  clear hd
  obtain ⟨b0, W0, hW0, hb0, t0, f0⟩ := put3 w 34 p1 p2 p3
  have HW0 : Hid (w.alloc (.cells #[.int .i64 p1, .int .i64 p2, .int .i64 p3] 34) = W0) := hW0
  have HB0 : Hid (w.heap.size = b0) := hb0
  clear hW0 hb0
  go_enter Try.func4, Try.ntmps4
  go_upto_region 1 with fail
  rw [HW0.out, HB0.out]
  obtain ⟨x0, x1, x2, _, _, _⟩ := t0.cells
  go_wp2_with fail
  refine (enc _).mono ?_
  rintro e w1 ⟨ax, cx, rfl, rx, f1⟩
  have t1 := t0.fr f1 (fun f => f)
  have F1 := f0.seq' f1
  clear x0 x1 x2 t0 f0 f1 enc
  obtain ⟨x0, x1, x2, _, _, _⟩ := t1.cells
  go_wp2_with fail
  refine (ref _).mono ?_
  rintro e w2 ⟨rfl, f2⟩
  go_wp2_with fail
  refine (renc _).mono ?_
  rintro e w3 ⟨ay, cy, rfl, ry, f3⟩
  have rx3 := (rx.same f2).same f3
  have F3 := (F1.seq' f2).seq' f3
  clear x0 x1 x2 t1 F1 f2 f3 rx ref renc
  go_wp2_with fail
  refine (decode_any a1 _ cap1 l1 rfl _ (hr1.same F3)).mono ?_
  rw [HD.out]
  rintro e w4 ⟨rfl, f4⟩
  obtain ⟨b4, W4, hW4, hb4, t4, g4⟩ := put3 w4 34 d1 d2 d3
  have HW4 : Hid (w4.alloc (.cells #[.int .i64 d1, .int .i64 d2, .int .i64 d3] 34) = W4) := hW4
  have HB4 : Hid (w4.heap.size = b4) := hb4
  have F4 := (F3.seq' f4).seq' g4
  have rx4 := (rx3.same f4).same g4
  have ry4 := (ry.same f4).same g4
  clear hW4 hb4 f4 g4 F3 rx3 ry
  go_upto_region 4 with fail
  rw [HW4.out, HB4.out]
  go_wp2_with fail
  refine (rdecode_any a1 _ cap1 l1 rfl _ (hr1.same F4)).mono ?_
  rw [HD.out]
  rintro e w5 ⟨rfl, f5⟩
  obtain ⟨b5, W5, hW5, hb5, t5, g5⟩ := put3 w5 40 d1 d2 d3
  have HW5 : Hid (w5.alloc (.cells #[.int .i64 d1, .int .i64 d2, .int .i64 d3] 40) = W5) := hW5
  have HB5 : Hid (w5.heap.size = b5) := hb5
  have F5 := (F4.seq' f5).seq' g5
  have rx5 := (rx4.same f5).same g5
  have ry5 := (ry4.same f5).same g5
  have t4' := (t4.fr f5 (fun f => f)).fr g5 (fun f => f)
  clear hW5 hb5 f5 g5 F4 rx4 ry4 t4
  go_upto_region 5 with fail
  rw [HW5.out, HB5.out]
  obtain ⟨x0, x1, x2, _, _, _⟩ := t4'.cells
  obtain ⟨y0, y1, y2, _, _, _⟩ := t5.cells
  have cvx := run_str (P := Try.prog) (src := 35) (dst := 9) Try.underlying35 Try.underlying5 Try.underlying9 rx5 le_.length rfl
  have cvy := run_str (P := Try.prog) (src := 35) (dst := 9) Try.underlying35 Try.underlying5 Try.underlying9 ry5 le_.length rfl
  have HF5 : Hid (Fr (fun _ => False) w W5) := F5
  clear F5 rx5 ry5 t4' t5 HO HN hr1
  go_wp2_with (first
    | (go_at_call 15; refine (same_any ⟨d1, d2, d3⟩ ⟨d1, d2, d3⟩ _).mono ?_; rw [dec_self]; rintro e w6 ⟨rfl, f6⟩)
    | (go_at_call 9; refine (ptspeaks_any _).mono ?_; rintro e w7 ⟨rfl, f7⟩))
  go_ret
  exact ⟨rfl, (HF5.out.seq' f6).seq' f7⟩

set_option maxRecDepth 100000 in
theorem lifted (os : Os) (started : os.Started) (H : Type) (enc : TypeId × Value → H) :
    ReturnsInHanded {} Try.checked os 4 .any (Rows.pointsCodesSpec.pre6 enc Try.prog Try.f4 Rows.pointsCodesRow.domain false) (Rows.pointsCodesSpec.post enc Try.prog Try.f4 false true false false) := by
  refine returnsInHanded_of_change_sized (C := Try.checked) own started (by kernel_rfl) Try.func4
    (ChangeSpec.witness6 (enc := enc) (C := Try.checked) false ⟨#[], #[.agg #[.int .i64 0, .int .i64 0, .int .i64 0], .slice none 0 0], []⟩ 8 (by kernel_rfl) (by kernel_rfl) (by kernel_rfl) (by kernel_rfl)) ?_
  intro W base args ds gs before hval0 hW hcnd hsz0 _
  have hsz : (DataW.weightsEach Try.prog (Try.f4.params.toList ++ Rows.pointsCodesSpec.plain.varTypes Try.prog) (ds ++ gs)).all (· ≤ reachBytes) = true := hsz0
  clear hsz0
  have hval : ∀ (j : Nat) t v, Try.f4.params[j]? = some t → args[j]? = some v → Value.okWide Try.prog W .any base t v := hval0
  have hW' := hW
  obtain ⟨p, q, hA0, hV, rfl, hfz, hnd⟩ := hW
  have hA : DataW.TrodAll enc Try.prog W 0 (fun _ => true) true Try.f4.params.toList args.toList ds p := hA0
  rw [Try.params4] at hA hval hsz
  obtain ⟨v0, vs0, d0, ds0, p0, q0, hargs, rfl, rfl, h0, r0⟩ := trodAll_cons hA
  obtain ⟨v1, vs1, d1, ds1, p1, q1, rfl, rfl, rfl, h1, r1⟩ := trodAll_cons r0
  obtain ⟨rfl, rfl, rfl⟩ := trodAll_nil r1
  obtain rfl : args = #[v0, v1] := by cases args; simp_all
  obtain ⟨rfl, rfl⟩ := trodVars_none hV
  have k0 := h0
  have lt0 : ∀ x ∈ p0, x.block < W.heap.size := by obtain ⟨m, hm⟩ := k0; exact DataW.trod_lt m _ _ _ hm
  obtain ⟨pp0, rfl, pw0⟩ := pn_open (hval 0 34 v0 rfl rfl) h0
  obtain ⟨a1, len1, cap1, rfl⟩ := okWide_slice Try.underlying35 (hval 1 35 v1 rfl rfl)
  have k1 := h1
  have lt1 : ∀ x ∈ p1, x.block < W.heap.size := by obtain ⟨m, hm⟩ := k1; exact DataW.trod_lt m _ _ _ hm
  obtain ⟨l1, hl1, z1, hr1⟩ : ∃ l : List Nat, len1 = l.length ∧ cap1 ≤ 140737488351232 ∧ Row W a1 cap1 l := by
    obtain ⟨fuel, hf⟩ := h1
    rcases open_ints Try.underlying35 Try.underlying5 (by kernel_rfl) hf with ⟨hcs, _⟩ | ⟨x, l, c, zs, hcs, _, hl, hm, hz, hx, hcell, hwz⟩
    · simp [Value.cells] at hcs
      obtain ⟨rfl, rfl, rfl⟩ := hcs
      exact ⟨[], rfl, by omega, row_nil _ _⟩
    · simp [Value.cells] at hcs
      obtain ⟨rfl, rfl, rfl⟩ := hcs
      have hz' : zs.length = cap1 := by simpa using hz
      have hd : d1 = .slice (lits .u8 (zs.take len1)) (lits .u8 (zs.drop len1)) := congrArg Prod.fst hx
      have hcap : cap1 ≤ 140737488351232 := by
        have := sized_slice hsz (j := 1) (t := 35) (e := 5) rfl (by rw [hd]; rfl) Try.underlying35
        rw [bytes8] at this
        simp only [lits, List.length_map, List.length_take, List.length_drop, reachBytes] at this
        omega
      obtain ⟨l, h1, h2⟩ := row_of_ints hl (Nat.le_trans hcap (by omega)) hz' hcell hwz
      exact ⟨l, h1, hcap, h2⟩
  clear hA0 hval0
  refine (walk W pp0 pw0 a1 len1 cap1 l1 hl1 z1 hr1).mono fun e W' ⟨he, fr⟩ => ?_
  have bel : Below W.heap.size W W' := fr.below (Nat.le_refl _) (fun _ f => f.elim)
  subst he
  exact ⟨_, rfl, _, _, _, [], _, [], hW', trodAll_mk1 (shut_bool Try.underlying4 _), (trodAll_cons_mk (Below.trod laidOut (by kernel_rfl) (of_decide_eq_true (by kernel_rfl)) k0 bel lt0) (trodAll_cons_mk (Below.trod laidOut (by kernel_rfl) (of_decide_eq_true (by kernel_rfl)) k1 bel lt1) trodAll_mk0)), rfl, bel.frame _, fun h => by cases h⟩

theorem proved : Rows.PointsCodesSaid :=
  OpenClaim.holds_of_wide 4 Try.f4 rfl rfl rfl rfl rfl rfl rfl ⟨rfl, rfl, rfl, rfl, rfl⟩ rfl rfl rfl rfl rfl (by kernel_rfl) Try.func4 (by kernel_rfl)
    (of_decide_eq_true (by kernel_rfl)) (by unfold Func.isWrapper; first | (rw [if_pos (by decide +kernel)]; kernel_rfl) | (rw [if_neg (by decide +kernel)]; exact ⟨rfl, rfl⟩))
    (fun os started H enc _ => lifted os started H enc)
end Go.Proofs.Ytjhbhjakbcplgaa.pointsCodes
namespace Go.Proofs.Ytjhbhjakbcplgaa
theorem pointsCodes_holds : Rows.PointsCodesSaid := pointsCodes.proved
#print axioms pointsCodes_holds
end Go.Proofs.Ytjhbhjakbcplgaa
