
/- Of any promise, any bytes and any two ends, Encode, Decode and Newer tell what the document's do, and the example speaks; with no condition but those of the statement's own form. -/
import Derived.Test.YtbfkacahaocpfaaArgs
import Derived.Test.YtbfkacahaocpfaaVcLaw
import Derived.Test.YtbfkacahaocpfaaVtStp
import Derived.Deep.RegionHeld3
import Derived.Deep.RegionWith
namespace Go.Proofs.Ytbfkacahaocpfaa.voteCodes
open Go.ChangeShapes Go.WideShapes Go.ChangeAt Go.RowKit
open Go.ChangeMaps (open_string shut_string)
set_option linter.unusedVariables false

theorem own : ownKnob Try.prog.godebug = none := by kernel_rfl
theorem laidOut : laidOutB Try.prog = true := by kernel_rfl
theorem bytes8 : Try.prog.bytesOf 5 = 1 := by kernel_rfl

open Go.RowKit Crcm
open Go.Proofs.Ytbfkacahaocpfaa.Crcm
theorem blk_four {w : World} {b : Nat} {t : TypeId} {x y u v : Int} (h : Blk w b #[.int .i64 x, .int .i64 y, .int .i64 u, .int .i64 v] t) : w.cell? ⟨b, 0, none⟩ = some (.int .i64 x) ∧ w.cell? ⟨b, 1, none⟩ = some (.int .i64 y) ∧ w.cell? ⟨b, 2, none⟩ = some (.int .i64 u) ∧ w.cell? ⟨b, 3, none⟩ = some (.int .i64 v) := ⟨h.cell rfl, h.cell rfl, h.cell rfl, h.cell rfl⟩
set_option maxRecDepth 100000 in
set_option maxHeartbeats 16000000 in
theorem walk (w : World) (pe pf : Int) (_ : wfI pe) (_ : wfI pf) (a1 : Option Addr) (len1 cap1 : Nat) (l1 : List Nat) (hl1 : len1 = l1.length) (_ : cap1 ≤ 140737488351232) (hr1 : Row w a1 cap1 l1) (x y u v : Int) :
    Calls Try.prog 3 #[.agg #[.int .i64 pe, .int .i64 pf], .slice a1 len1 cap1, .agg #[.int .i64 x, .int .i64 y, .int .i64 u, .int .i64 v]] w fun e w' => e = .returned (.bool true) ∧ Fr (fun _ => False) w w' := by
  subst hl1
  have HSP : Hid (∀ W, Calls Try.prog 14 #[] W fun e w' => e = .returned (.bool true) ∧ Fr (fun _ => False) W w') := vtspk_any
  have HN1 : Hid (∀ W, Calls Try.prog 12 #[.agg #[.int .i64 x, .int .i64 y], .agg #[.int .i64 u, .int .i64 v]] W fun r w' => r = .returned (.bool (newB (x, y) (u, v))) ∧ Fr (fun _ => False) W w') := newer_any x y u v
  have HN2 : Hid (∀ W, Calls Try.prog 13 #[.agg #[.int .i64 x, .int .i64 y], .agg #[.int .i64 u, .int .i64 v]] W fun r w' => r = .returned (.bool (newB (x, y) (u, v))) ∧ Fr (fun _ => False) W w') := rnewer_any x y u v
  have enc := fun W => encode_all pe pf W
  have renc := fun W => rencode_all pe pf W
  obtain ⟨⟨le_, ee⟩, he⟩ : ∃ z, z = encV pe pf := ⟨_, rfl⟩
  rw [← he] at enc renc
  clear he
  obtain ⟨⟨⟨d1, d2⟩, de⟩, hd⟩ : ∃ z, z = decV l1 := ⟨_, rfl⟩
  have HD : Hid (decV l1 = ((d1, d2), de)) := hd.symm
  clear hd
  obtain ⟨W0, hW0⟩ : ∃ W, W = (w.alloc (.cells #[.int .i64 pe, .int .i64 pf] 23)).alloc (.cells #[.int .i64 x, .int .i64 y, .int .i64 u, .int .i64 v] 27) := ⟨_, rfl⟩
  obtain ⟨b0, hb0⟩ : ∃ b, b = w.heap.size := ⟨_, rfl⟩
  have g0 := Fr.box w (.cells #[.int .i64 pe, .int .i64 pf] 23)
  have g1 := Fr.box (w.alloc (.cells #[.int .i64 pe, .int .i64 pf] 23)) (.cells #[.int .i64 x, .int .i64 y, .int .i64 u, .int .i64 v] 27)
  have t0 := (Two.new w 23 (.int .i64 pe) (.int .i64 pf)).fr g1 (fun f => f)
  have B0 := Blk.new (w.alloc (.cells #[.int .i64 pe, .int .i64 pf] 23)) #[.int .i64 x, .int .i64 y, .int .i64 u, .int .i64 v] 27
  rw [World.size_alloc] at B0
  have f0 := g0.seq' g1
  rw [← hW0] at t0 B0 f0
  rw [← hb0] at t0 B0
  have HW0 : Hid ((w.alloc (.cells #[.int .i64 pe, .int .i64 pf] 23)).alloc (.cells #[.int .i64 x, .int .i64 y, .int .i64 u, .int .i64 v] 27) = W0) := hW0.symm
  have HB0 : Hid (w.heap.size = b0) := hb0.symm
  clear hW0 hb0 g0 g1
  go_enter Try.func3, Try.ntmps3
  go_upto_region 1 with fail
  rw [HW0.out, HB0.out]
  obtain ⟨x0, x1, _⟩ := t0.cells
  go_wp2_with fail
  refine (enc _).mono ?_
  rintro e w1 ⟨ax, cx, rfl, rx, f1⟩
  have t1 := t0.fr f1 (fun f => f)
  have B1 := B0.fr f1 (fun f => f)
  have F1 := f0.seq' f1
  clear x0 x1 t0 f0 f1 enc B0
  obtain ⟨x0, x1, _⟩ := t1.cells
  go_wp2_with fail
  refine (renc _).mono ?_
  rintro e w3 ⟨ay, cy, rfl, ry, f3⟩
  have rx3 := rx.same f3
  have B3 := B1.fr f3 (fun f => f)
  have F3 := F1.seq' f3
  clear x0 x1 t1 F1 f3 rx renc B1
  go_wp2_with fail
  refine (decode_any a1 _ cap1 l1 rfl _ (hr1.same F3)).mono ?_
  rw [HD.out]
  rintro e w4 ⟨rfl, f4⟩
  obtain ⟨W4, hW4⟩ : ∃ W, W = w4.alloc (.cells #[.int .i64 d1, .int .i64 d2] 23) := ⟨_, rfl⟩
  obtain ⟨b4, hb4⟩ : ∃ b, b = w4.heap.size := ⟨_, rfl⟩
  have g4 := Fr.box w4 (.cells #[.int .i64 d1, .int .i64 d2] 23)
  have t4 := Two.new w4 23 (.int .i64 d1) (.int .i64 d2)
  rw [← hW4] at g4 t4
  rw [← hb4] at t4
  have HW4 : Hid (w4.alloc (.cells #[.int .i64 d1, .int .i64 d2] 23) = W4) := hW4.symm
  have HB4 : Hid (w4.heap.size = b4) := hb4.symm
  have F4 := (F3.seq' f4).seq' g4
  have rx4 := (rx3.same f4).same g4
  have ry4 := (ry.same f4).same g4
  have B4 := (B3.fr f4 (fun f => f)).fr g4 (fun f => f)
  clear hW4 hb4 f4 g4 F3 rx3 ry B3
  go_upto_region 4 with fail
  rw [HW4.out, HB4.out]
  go_wp2_with fail
  refine (rdecode_any a1 _ cap1 l1 rfl _ (hr1.same F4)).mono ?_
  rw [HD.out]
  rintro e w5 ⟨rfl, f5⟩
  obtain ⟨W5, hW5⟩ : ∃ W, W = w5.alloc (.cells #[.int .i64 d1, .int .i64 d2] 33) := ⟨_, rfl⟩
  obtain ⟨b5, hb5⟩ : ∃ b, b = w5.heap.size := ⟨_, rfl⟩
  have g5 := Fr.box w5 (.cells #[.int .i64 d1, .int .i64 d2] 33)
  have t5 := Two.new w5 33 (.int .i64 d1) (.int .i64 d2)
  rw [← hW5] at g5 t5
  rw [← hb5] at t5
  have HW5 : Hid (w5.alloc (.cells #[.int .i64 d1, .int .i64 d2] 33) = W5) := hW5.symm
  have HB5 : Hid (w5.heap.size = b5) := hb5.symm
  have F5 := (F4.seq' f5).seq' g5
  have rx5 := (rx4.same f5).same g5
  have ry5 := (ry4.same f5).same g5
  have t4' := (t4.fr f5 (fun f => f)).fr g5 (fun f => f)
  have B5 := (B4.fr f5 (fun f => f)).fr g5 (fun f => f)
  have HP : Hid (∀ W, Fr (fun _ => False) W5 W → (W.cell? ⟨b4, 0, none⟩ = some (.int .i64 d1) ∧ W.cell? ⟨b4, 1, none⟩ = some (.int .i64 d2)) ∧ (W.cell? ⟨b5, 0, none⟩ = some (.int .i64 d1) ∧ W.cell? ⟨b5, 1, none⟩ = some (.int .i64 d2)) ∧ (W.cell? ⟨b0 + 1, 0, none⟩ = some (.int .i64 x) ∧ W.cell? ⟨b0 + 1, 1, none⟩ = some (.int .i64 y) ∧ W.cell? ⟨b0 + 1, 2, none⟩ = some (.int .i64 u) ∧ W.cell? ⟨b0 + 1, 3, none⟩ = some (.int .i64 v)) ∧ (convert 24 9 (.slice ax le_.length cx)).run Try.prog W = .ok (.string (strOf le_)) W ∧ (convert 24 9 (.slice ay le_.length cy)).run Try.prog W = .ok (.string (strOf le_)) W) := fun W f =>
    ⟨(t4'.fr f (fun f => f)).two, (t5.fr f (fun f => f)).two, blk_four (B5.fr f (fun f => f)), run_str (P := Try.prog) (src := 24) (dst := 9) Try.underlying24 Try.underlying5 Try.underlying9 (rx5.same f) le_.length rfl, run_str (P := Try.prog) (src := 24) (dst := 9) Try.underlying24 Try.underlying5 Try.underlying9 (ry5.same f) le_.length rfl⟩
  have HF5 : Hid (Fr (fun _ => False) w W5) := F5
  clear hW5 hb5 f5 g5 F4 rx4 ry4 t4 F5 rx5 ry5 t4' B5 B4 t5 hr1
  go_upto_region 5 with fail
  rw [HW5.out, HB5.out]
  have G1 : Fr (fun _ => False) W5 W5.drew := (Fr.refl _ W5).drew
  have q1 := HP.out _ G1
  have r1 := HN1.out W5.drew
  go_region_held3 (fun W => (W.cell? ⟨b4, 0, none⟩ = some (.int .i64 d1) ∧ W.cell? ⟨b4, 1, none⟩ = some (.int .i64 d2)) ∧ (W.cell? ⟨b5, 0, none⟩ = some (.int .i64 d1) ∧ W.cell? ⟨b5, 1, none⟩ = some (.int .i64 d2)) ∧ (W.cell? ⟨b0 + 1, 0, none⟩ = some (.int .i64 x) ∧ W.cell? ⟨b0 + 1, 1, none⟩ = some (.int .i64 y) ∧ W.cell? ⟨b0 + 1, 2, none⟩ = some (.int .i64 u) ∧ W.cell? ⟨b0 + 1, 3, none⟩ = some (.int .i64 v)) ∧ (convert 24 9 (.slice ax le_.length cx)).run Try.prog W = .ok (.string (strOf le_)) W ∧ (convert 24 9 (.slice ay le_.length cy)).run Try.prog W = .ok (.string (strOf le_)) W)
    (first | with_reducible exact q1 | with_reducible exact q2 | with_reducible exact q3 | with_reducible exact q4 | fail)
    (first
      | (go_at_call 12; refine r1.mono ?_; rintro r w6 ⟨rfl, f6⟩; clear r1; have G2 := G1.seq' f6; have q2 := HP.out _ G2; have r2 := HN2.out w6)
      | (go_at_call 13; refine r2.mono ?_; rintro r w7 ⟨rfl, f7⟩; clear r2; have G3 := G2.seq' f7; have q3 := HP.out _ G3; have r3 := HSP.out w7)
      | (go_at_call 14; refine r3.mono ?_; rintro r w8 ⟨rfl, f8⟩; clear r3; have G4 := G3.seq' f8; have q4 := HP.out _ G4))
  go_wp2
  go_ret
  exact ⟨by simp, HF5.out.seq' G4⟩

set_option maxRecDepth 100000 in
theorem lifted (os : Os) (started : os.Started) (H : Type) (enc : TypeId × Value → H) :
    ReturnsInHanded {} Try.checked os 3 .any (Rows.voteCodesSpec.pre6 enc Try.prog Try.f3 Rows.voteCodesRow.domain false) (Rows.voteCodesSpec.post enc Try.prog Try.f3 false true false false) := by
  refine returnsInHanded_of_change_sized (C := Try.checked) own started (by kernel_rfl) Try.func3
    (ChangeSpec.witness6 (enc := enc) (C := Try.checked) false ⟨#[], #[.agg #[.int .i64 0, .int .i64 0], .slice none 0 0, .agg #[.int .i64 0, .int .i64 0, .int .i64 0, .int .i64 0]], []⟩ 8 (by kernel_rfl) (by kernel_rfl) (by kernel_rfl) (by kernel_rfl)) ?_
  intro W base args ds gs before hval0 hW hcnd hsz0 _
  have hsz : (DataW.weightsEach Try.prog (Try.f3.params.toList ++ Rows.voteCodesSpec.plain.varTypes Try.prog) (ds ++ gs)).all (· ≤ reachBytes) = true := hsz0
  clear hsz0
  have hval : ∀ (j : Nat) t v, Try.f3.params[j]? = some t → args[j]? = some v → Value.okWide Try.prog W .any base t v := hval0
  have hW' := hW
  obtain ⟨p, q, hA0, hV, rfl, hfz, hnd⟩ := hW
  have hA : DataW.TrodAll enc Try.prog W 0 (fun _ => true) true Try.f3.params.toList args.toList ds p := hA0
  rw [Try.params3] at hA hval hsz
  obtain ⟨v0, vs0, d0, ds0, p0, q0, hargs, rfl, rfl, h0, r0⟩ := trodAll_cons hA
  obtain ⟨v1, vs1, d1, ds1, p1, q1, rfl, rfl, rfl, h1, r1⟩ := trodAll_cons r0
  obtain ⟨v2, vs2, d2, ds2, p2, q2, rfl, rfl, rfl, h2, r2⟩ := trodAll_cons r1
  obtain ⟨rfl, rfl, rfl⟩ := trodAll_nil r2
  obtain rfl : args = #[v0, v1, v2] := by cases args; simp_all
  obtain ⟨rfl, rfl⟩ := trodVars_none hV
  have k0 := h0
  have lt0 : ∀ x ∈ p0, x.block < W.heap.size := by obtain ⟨m, hm⟩ := k0; exact DataW.trod_lt m _ _ _ hm
  obtain ⟨pe0, pf0, rfl, we0, wf0⟩ := prom_open (hval 0 23 v0 rfl rfl) h0
  obtain ⟨a1, len1, cap1, rfl⟩ := okWide_slice Try.underlying24 (hval 1 24 v1 rfl rfl)
  have k1 := h1
  have lt1 : ∀ x ∈ p1, x.block < W.heap.size := by obtain ⟨m, hm⟩ := k1; exact DataW.trod_lt m _ _ _ hm
  obtain ⟨l1, hl1, z1, hr1⟩ : ∃ l : List Nat, len1 = l.length ∧ cap1 ≤ 140737488351232 ∧ Row W a1 cap1 l := by
    obtain ⟨fuel, hf⟩ := h1
    rcases open_ints Try.underlying24 Try.underlying5 (by kernel_rfl) hf with ⟨hcs, _⟩ | ⟨x, l, c, zs, hcs, _, hl, hm, hz, hx, hcell, hwz⟩
    · simp [Value.cells] at hcs
      obtain ⟨rfl, rfl, rfl⟩ := hcs
      exact ⟨[], rfl, by omega, row_nil _ _⟩
    · simp [Value.cells] at hcs
      obtain ⟨rfl, rfl, rfl⟩ := hcs
      have hz' : zs.length = cap1 := by simpa using hz
      have hd : d1 = .slice (lits .u8 (zs.take len1)) (lits .u8 (zs.drop len1)) := congrArg Prod.fst hx
      have hcap : cap1 ≤ 140737488351232 := by
        have := sized_slice hsz (j := 1) (t := 24) (e := 5) rfl (by rw [hd]; rfl) Try.underlying24
        rw [bytes8] at this
        simp only [lits, List.length_map, List.length_take, List.length_drop, reachBytes] at this
        omega
      obtain ⟨l, h1, h2⟩ := row_of_ints hl (Nat.le_trans hcap (by omega)) hz' hcell hwz
      exact ⟨l, h1, hcap, h2⟩
  have k2 := h2
  have lt2 : ∀ x ∈ p2, x.block < W.heap.size := by obtain ⟨m, hm⟩ := k2; exact DataW.trod_lt m _ _ _ hm
  obtain ⟨ga2, gb2, gc2, gd2, rfl⟩ := ends_open (hval 2 27 v2 rfl rfl) h2
  clear hA0 hval0
  refine (walk W pe0 pf0 we0 wf0 a1 len1 cap1 l1 hl1 z1 hr1 ga2 gb2 gc2 gd2).mono fun e W' ⟨he, fr⟩ => ?_
  have bel : Below W.heap.size W W' := fr.below (Nat.le_refl _) (fun _ f => f.elim)
  subst he
  exact ⟨_, rfl, _, _, _, [], _, [], hW', trodAll_mk1 (shut_bool Try.underlying4 _), (trodAll_cons_mk (Below.trod laidOut (by kernel_rfl) (of_decide_eq_true (by kernel_rfl)) k0 bel lt0) (trodAll_cons_mk (Below.trod laidOut (by kernel_rfl) (of_decide_eq_true (by kernel_rfl)) k1 bel lt1) (trodAll_cons_mk (Below.trod laidOut (by kernel_rfl) (of_decide_eq_true (by kernel_rfl)) k2 bel lt2) trodAll_mk0))), rfl, bel.frame _, fun h => by cases h⟩

theorem proved : Rows.VoteCodesSaid :=
  OpenClaim.holds_of_wide 3 Try.f3 rfl rfl rfl rfl rfl rfl rfl ⟨rfl, rfl, rfl, rfl, rfl⟩ rfl rfl rfl rfl rfl (by kernel_rfl) Try.func3 (by kernel_rfl)
    (of_decide_eq_true (by kernel_rfl)) (by unfold Func.isWrapper; first | (rw [if_pos (by decide +kernel)]; kernel_rfl) | (rw [if_neg (by decide +kernel)]; exact ⟨rfl, rfl⟩))
    (fun os started H enc _ => lifted os started H enc)
end Go.Proofs.Ytbfkacahaocpfaa.voteCodes
namespace Go.Proofs.Ytbfkacahaocpfaa
theorem voteCodes_holds : Rows.VoteCodesSaid := voteCodes.proved
#print axioms voteCodes_holds
end Go.Proofs.Ytbfkacahaocpfaa
