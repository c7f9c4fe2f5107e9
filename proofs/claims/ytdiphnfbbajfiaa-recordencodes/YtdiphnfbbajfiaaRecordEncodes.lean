
/- For every record, Check, and Encode with its bytes and its error, tell what the document's own answers tell; no condition on the input. -/
import Derived.Test.YtdiphnfbbajfiaaYB4
import Derived.Test.YtdiphnfbbajfiaaYB15
import Derived.Test.YtdiphnfbbajfiaaYB9
namespace Go.Proofs.Ytdiphnfbbajfiaa.recordEncodes
open Go.ChangeShapes Go.WideShapes Go.ChangeAt Go.RowKit
open Go.ChangeMaps (open_string shut_string)
set_option linter.unusedVariables false

theorem own : ownKnob Try.prog.godebug = none := by kernel_rfl
theorem laidOut : laidOutB Try.prog = true := by kernel_rfl
theorem bytes8 : Try.prog.bytesOf 5 = 1 := by kernel_rfl

open Go.Proofs.Ytdiphnfbbajfiaa.Crcm

set_option maxRecDepth 100000 in
set_option maxHeartbeats 2000000 in
theorem walk (w : World) (r : Rec) (_hk : r.key.size ≤ 140737488351232) (_hv : r.val.size ≤ 140737488351232) :
    Calls Try.prog 3 #[(.agg #[.int .i64 r.lsn, .int .i64 r.ep, .int .i64 r.kind, .int .i64 r.page, .int .i64 r.other, .int .i64 r.req, .string r.key, .string r.val])] w fun e w' => e = .returned (.bool true) ∧ Fr (fun _ => False) w w' := by
  have f0 := Fr.box w (.cells #[.int .i64 r.lsn, .int .i64 r.ep, .int .i64 r.kind, .int .i64 r.page, .int .i64 r.other, .int .i64 r.req, .string r.key, .string r.val] 23)
  obtain ⟨W0, hW0⟩ : ∃ W0, W0 = w.alloc (.cells #[.int .i64 r.lsn, .int .i64 r.ep, .int .i64 r.kind, .int .i64 r.page, .int .i64 r.other, .int .i64 r.req, .string r.key, .string r.val] 23) := ⟨_, rfl⟩
  rw [← hW0] at f0
  have HW : Hid (w.alloc (.cells #[.int .i64 r.lsn, .int .i64 r.ep, .int .i64 r.kind, .int .i64 r.page, .int .i64 r.other, .int .i64 r.req, .string r.key, .string r.val] 23) = W0) := hW0.symm
  have HB : Hid (∀ W, Fr (fun _ => False) W0 W → W.cell? ⟨w.heap.size, 0, none⟩ = some (.int .i64 r.lsn) ∧ W.cell? ⟨w.heap.size, 1, none⟩ = some (.int .i64 r.ep) ∧ W.cell? ⟨w.heap.size, 2, none⟩ = some (.int .i64 r.kind) ∧ W.cell? ⟨w.heap.size, 3, none⟩ = some (.int .i64 r.page) ∧ W.cell? ⟨w.heap.size, 4, none⟩ = some (.int .i64 r.other) ∧ W.cell? ⟨w.heap.size, 5, none⟩ = some (.int .i64 r.req) ∧ W.cell? ⟨w.heap.size, 6, none⟩ = some (.string r.key) ∧ W.cell? ⟨w.heap.size, 7, none⟩ = some (.string r.val)) := fun W f => by rw [hW0] at f; exact (rec_cells (rec_at w _ _ f)).1
  have hck := fun W => rec_check r W
  have hrk := fun W => rrec_check r W
  obtain ⟨er, her⟩ : ∃ er, er = erec r := ⟨_, rfl⟩
  rw [← her] at hck hrk
  clear hW0 her
  by_cases hr : rok r = true
  · have R : Hid (rok r = true) := hr
    have hfl : (frm r).length ≤ 400 := by have g := rok_rg hr; have := g.key; have := g.val; rw [frm_length]; omega
    have HO : Hid (octs (frm r)) := frm_octs r
    clear hr
    have hen := fun W => encode_ryes r R.out W
    have hre := fun W => rencode_ryes r R.out W
    obtain ⟨L, hL⟩ : ∃ L, L = frm r := ⟨_, rfl⟩
    rw [← hL] at hfl HO hen hre
    clear hL
    go_enter Try.func3, Try.ntmps3
    go_wp2_with fail
    rw [HW.out]
    refine (hen _).mono ?_
    rintro e w1 ⟨v1, rfl, m1⟩
    clear hen
    obtain ⟨a1, c1, rfl, r1⟩ := m1.own.row HO.out (by omega)
    have G1 := m1.fr
    obtain ⟨b0, b1, b2, b3, b4, b5, b6, b7⟩ := HB.out _ G1
    go_wp2_with fail
    refine (hre _).mono ?_
    rintro e w2 ⟨v2, rfl, m2⟩
    clear hre b0 b1 b2 b3 b4 b5 b6 b7
    obtain ⟨a2, c2, rfl, r2⟩ := m2.own.row HO.out (by omega)
    have G2 := G1.seq' m2.fr
    have HCV : Hid (∀ W, Fr (fun _ => False) w2 W → (W.cell? ⟨w.heap.size, 0, none⟩ = some (.int .i64 r.lsn) ∧ W.cell? ⟨w.heap.size, 1, none⟩ = some (.int .i64 r.ep) ∧ W.cell? ⟨w.heap.size, 2, none⟩ = some (.int .i64 r.kind) ∧ W.cell? ⟨w.heap.size, 3, none⟩ = some (.int .i64 r.page) ∧ W.cell? ⟨w.heap.size, 4, none⟩ = some (.int .i64 r.other) ∧ W.cell? ⟨w.heap.size, 5, none⟩ = some (.int .i64 r.req) ∧ W.cell? ⟨w.heap.size, 6, none⟩ = some (.string r.key) ∧ W.cell? ⟨w.heap.size, 7, none⟩ = some (.string r.val)) ∧ (convert 24 9 (.slice a1 L.length c1)).run Try.prog W = .ok (.string (strOf L)) W ∧ (convert 24 9 (.slice a2 L.length c2)).run Try.prog W = .ok (.string (strOf L)) W) := fun W f =>
      ⟨HB.out _ (G2.seq' f), run_str (P := Try.prog) (src := 24) (dst := 9) Try.underlying24 Try.underlying5 Try.underlying9 (r1.same (m2.fr.seq' f)) _ rfl, run_str (P := Try.prog) (src := 24) (dst := 9) Try.underlying24 Try.underlying5 Try.underlying9 (r2.same f) _ rfl⟩
    have g0 := (Fr.refl (fun _ => False) w2).drew
    have q0 := HCV.out _ g0
    obtain ⟨sx, hsx⟩ : ∃ sx, sx = strOf L := ⟨_, rfl⟩
    rw [← hsx] at HCV q0
    clear m1 m2 hsx r1 r2
    go_wp2_with fail
    go_region_held3 (fun W => (W.cell? ⟨w.heap.size, 0, none⟩ = some (.int .i64 r.lsn) ∧ W.cell? ⟨w.heap.size, 1, none⟩ = some (.int .i64 r.ep) ∧ W.cell? ⟨w.heap.size, 2, none⟩ = some (.int .i64 r.kind) ∧ W.cell? ⟨w.heap.size, 3, none⟩ = some (.int .i64 r.page) ∧ W.cell? ⟨w.heap.size, 4, none⟩ = some (.int .i64 r.other) ∧ W.cell? ⟨w.heap.size, 5, none⟩ = some (.int .i64 r.req) ∧ W.cell? ⟨w.heap.size, 6, none⟩ = some (.string r.key) ∧ W.cell? ⟨w.heap.size, 7, none⟩ = some (.string r.val)) ∧ (convert 24 9 (.slice a1 L.length c1)).run Try.prog W = .ok (.string sx) W ∧ (convert 24 9 (.slice a2 L.length c2)).run Try.prog W = .ok (.string sx) W)
      (first | with_reducible exact q0 | with_reducible exact q1 | with_reducible exact q2 | with_reducible exact q3)
      (first | (go_at_call 13; refine (hck _).mono ?_; rintro e w5 ⟨rfl, f5⟩; have g1 := g0.seq' f5; have q1 := HCV.out _ g1) | (go_at_call 14; refine (hrk _).mono ?_; rintro e w6 ⟨rfl, f6⟩; have g2 := g1.seq' f6; have q2 := HCV.out _ g2) | (go_at_call 15; refine (rspeaks_any _).mono ?_; rintro e w7 ⟨rfl, f7⟩; have g3 := g2.seq' f7; have q3 := HCV.out _ g3))
    all_goals
      go_wp2
      go_ret
      exact ⟨rfl, (f0.seq' G2).seq' g3⟩
  · have HR : Hid (rok r = false) := by show _ = _; simpa using hr
    clear hr
    have hen := fun W => encode_rno r HR.out W
    have hre := fun W => rencode_rno r HR.out W
    go_enter Try.func3, Try.ntmps3
    go_wp2_with fail
    rw [HW.out]
    refine (hen _).mono ?_
    rintro e w1 ⟨rfl, G1⟩
    clear hen
    obtain ⟨b0, b1, b2, b3, b4, b5, b6, b7⟩ := HB.out _ G1
    go_wp2_with fail
    refine (hre _).mono ?_
    rintro e w2 ⟨rfl, f2⟩
    clear hre b0 b1 b2 b3 b4 b5 b6 b7
    have G2 := G1.seq' f2
    have HCV : Hid (∀ W, Fr (fun _ => False) w2 W → (W.cell? ⟨w.heap.size, 0, none⟩ = some (.int .i64 r.lsn) ∧ W.cell? ⟨w.heap.size, 1, none⟩ = some (.int .i64 r.ep) ∧ W.cell? ⟨w.heap.size, 2, none⟩ = some (.int .i64 r.kind) ∧ W.cell? ⟨w.heap.size, 3, none⟩ = some (.int .i64 r.page) ∧ W.cell? ⟨w.heap.size, 4, none⟩ = some (.int .i64 r.other) ∧ W.cell? ⟨w.heap.size, 5, none⟩ = some (.int .i64 r.req) ∧ W.cell? ⟨w.heap.size, 6, none⟩ = some (.string r.key) ∧ W.cell? ⟨w.heap.size, 7, none⟩ = some (.string r.val)) ∧ (convert 24 9 (.slice none 0 0)).run Try.prog W = .ok (.string (strOf [])) W) := fun W f =>
      ⟨HB.out _ (G2.seq' f), run_str (P := Try.prog) (src := 24) (dst := 9) Try.underlying24 Try.underlying5 Try.underlying9 (row_nil W none) _ rfl⟩
    have g0 := (Fr.refl (fun _ => False) w2).drew
    obtain ⟨sx, hsx⟩ : ∃ sx, sx = strOf [] := ⟨_, rfl⟩
    rw [← hsx] at HCV
    have q0 := HCV.out _ g0
    clear hsx
    go_wp2_with fail
    go_region_held3 (fun W => (W.cell? ⟨w.heap.size, 0, none⟩ = some (.int .i64 r.lsn) ∧ W.cell? ⟨w.heap.size, 1, none⟩ = some (.int .i64 r.ep) ∧ W.cell? ⟨w.heap.size, 2, none⟩ = some (.int .i64 r.kind) ∧ W.cell? ⟨w.heap.size, 3, none⟩ = some (.int .i64 r.page) ∧ W.cell? ⟨w.heap.size, 4, none⟩ = some (.int .i64 r.other) ∧ W.cell? ⟨w.heap.size, 5, none⟩ = some (.int .i64 r.req) ∧ W.cell? ⟨w.heap.size, 6, none⟩ = some (.string r.key) ∧ W.cell? ⟨w.heap.size, 7, none⟩ = some (.string r.val)) ∧ (convert 24 9 (.slice none 0 0)).run Try.prog W = .ok (.string sx) W)
      (first | with_reducible exact q0 | with_reducible exact q1 | with_reducible exact q2 | with_reducible exact q3)
      (first | (go_at_call 13; refine (hck _).mono ?_; rintro e w5 ⟨rfl, f5⟩; have g1 := g0.seq' f5; have q1 := HCV.out _ g1) | (go_at_call 14; refine (hrk _).mono ?_; rintro e w6 ⟨rfl, f6⟩; have g2 := g1.seq' f6; have q2 := HCV.out _ g2) | (go_at_call 15; refine (rspeaks_any _).mono ?_; rintro e w7 ⟨rfl, f7⟩; have g3 := g2.seq' f7; have q3 := HCV.out _ g3))
    all_goals
      go_wp2
      go_ret
      exact ⟨rfl, (f0.seq' G2).seq' g3⟩

set_option maxRecDepth 100000 in
theorem lifted (os : Os) (started : os.Started) (H : Type) (enc : TypeId × Value → H) :
    ReturnsInHanded {} Try.checked os 3 .any (Rows.recordEncodesSpec.pre6 enc Try.prog Try.f3 Rows.recordEncodesRow.domain false) (Rows.recordEncodesSpec.post enc Try.prog Try.f3 false true false false) := by
  refine returnsInHanded_of_change_sized (C := Try.checked) own started (by kernel_rfl) Try.func3
    (ChangeSpec.witness6 (enc := enc) (C := Try.checked) false ⟨#[], #[.agg #[.int .i64 0, .int .i64 0, .int .i64 0, .int .i64 0, .int .i64 0, .int .i64 0, .string ByteArray.empty, .string ByteArray.empty]], []⟩ 8 (by kernel_rfl) (by kernel_rfl) (by kernel_rfl) (by kernel_rfl)) ?_
  intro W base args ds gs before hval0 hW hcnd hsz0 _
  have hsz : (DataW.weightsEach Try.prog (Try.f3.params.toList ++ Rows.recordEncodesSpec.plain.varTypes Try.prog) (ds ++ gs)).all (· ≤ reachBytes) = true := hsz0
  clear hsz0
  have hval : ∀ (j : Nat) t v, Try.f3.params[j]? = some t → args[j]? = some v → Value.okWide Try.prog W .any base t v := hval0
  have hW' := hW
  obtain ⟨p, q, hA0, hV, rfl, hfz, hnd⟩ := hW
  have hA : DataW.TrodAll enc Try.prog W 0 (fun _ => true) true Try.f3.params.toList args.toList ds p := hA0
  rw [Try.params3] at hA hval hsz
  obtain ⟨v0, vs0, d0, ds0, p0, q0, hargs, rfl, rfl, h0, r0⟩ := trodAll_cons hA
  obtain ⟨rfl, rfl, rfl⟩ := trodAll_nil r0
  obtain rfl : args = #[v0] := by cases args; simp_all
  obtain ⟨rfl, rfl⟩ := trodVars_none hV
  have k0 := h0
  have lt0 : ∀ x ∈ p0, x.block < W.heap.size := by obtain ⟨m, hm⟩ := k0; exact DataW.trod_lt m _ _ _ hm
  obtain ⟨rr0, rfl, rk0, rv0⟩ := rec_open (hval 0 23 v0 rfl rfl) h0 (fun z hz => by simpa using List.all_eq_true.1 hsz z (DataW.weights_mem_each (j := 0) rfl rfl z hz))
  clear hA0 hval0
  refine (walk W rr0 rk0 rv0).mono fun e W' ⟨he, fr⟩ => ?_
  have bel : Below W.heap.size W W' := fr.below (Nat.le_refl _) (fun _ f => f.elim)
  subst he
  exact ⟨_, rfl, _, _, _, [], _, [], hW', trodAll_mk1 (shut_bool Try.underlying4 _), (trodAll_cons_mk (Below.trod laidOut (by kernel_rfl) (of_decide_eq_true (by kernel_rfl)) k0 bel lt0) trodAll_mk0), rfl, bel.frame _, fun h => by cases h⟩

theorem proved : Rows.RecordEncodesSaid :=
  OpenClaim.holds_of_wide 3 Try.f3 rfl rfl rfl rfl rfl rfl rfl ⟨rfl, rfl, rfl, rfl, rfl⟩ rfl rfl rfl rfl rfl (by kernel_rfl) Try.func3 (by kernel_rfl)
    (of_decide_eq_true (by kernel_rfl)) (by unfold Func.isWrapper; first | (rw [if_pos (by decide +kernel)]; kernel_rfl) | (rw [if_neg (by decide +kernel)]; exact ⟨rfl, rfl⟩))
    (fun os started H enc _ => lifted os started H enc)
end Go.Proofs.Ytdiphnfbbajfiaa.recordEncodes
namespace Go.Proofs.Ytdiphnfbbajfiaa
theorem recordEncodes_holds : Rows.RecordEncodesSaid := recordEncodes.proved
#print axioms recordEncodes_holds
end Go.Proofs.Ytdiphnfbbajfiaa
