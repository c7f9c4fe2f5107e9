
/- For every record and every bytes, a record's frame with these bytes behind it is decoded as that record, and what is decoded of the bytes themselves is encoded as they were; no condition on the input. -/
import Derived.Test.YtdiphnfbbajfiaaYB4
import Derived.Test.YtdiphnfbbajfiaaYB9
namespace Go.Proofs.Ytdiphnfbbajfiaa.recordBack
open Go.ChangeShapes Go.WideShapes Go.ChangeAt Go.RowKit
open Go.ChangeMaps (open_string shut_string)
set_option linter.unusedVariables false

theorem own : ownKnob Try.prog.godebug = none := by kernel_rfl
theorem laidOut : laidOutB Try.prog = true := by kernel_rfl
theorem bytes8 : Try.prog.bytesOf 5 = 1 := by kernel_rfl

set_option maxRecDepth 100000 in
set_option maxHeartbeats 2000000 in
theorem walk (w : World) (r : Rec) (_hk : r.key.size ≤ 140737488351232) (_hv : r.val.size ≤ 140737488351232) (a1 : Option Addr) (len1 cap1 : Nat) (l1 : List Nat) (hl1 : len1 = l1.length) (z1 : cap1 ≤ 140737488351232) (hr1 : Row w a1 cap1 l1) :
    Calls Try.prog 5 #[(.agg #[.int .i64 r.lsn, .int .i64 r.ep, .int .i64 r.kind, .int .i64 r.page, .int .i64 r.other, .int .i64 r.req, .string r.key, .string r.val]), .slice a1 len1 cap1] w fun e w' => e = .returned (.bool true) ∧ Fr (fun _ => False) w w' := by
  obtain ⟨i0, hi, hz0, hz1, hz2⟩ := info_parts info8
  subst hl1
  have hle1 := hr1.le
  have hmx1 := hr1.max
  have f0 := Fr.box w (.cells #[.int .i64 r.lsn, .int .i64 r.ep, .int .i64 r.kind, .int .i64 r.page, .int .i64 r.other, .int .i64 r.req, .string r.key, .string r.val] 23)
  have HB : Hid (∀ W, Fr (fun _ => False) (w.alloc (.cells #[.int .i64 r.lsn, .int .i64 r.ep, .int .i64 r.kind, .int .i64 r.page, .int .i64 r.other, .int .i64 r.req, .string r.key, .string r.val] 23)) W → W.cell? ⟨w.heap.size, 0, none⟩ = some (.int .i64 r.lsn) ∧ W.cell? ⟨w.heap.size, 1, none⟩ = some (.int .i64 r.ep) ∧ W.cell? ⟨w.heap.size, 2, none⟩ = some (.int .i64 r.kind) ∧ W.cell? ⟨w.heap.size, 3, none⟩ = some (.int .i64 r.page) ∧ W.cell? ⟨w.heap.size, 4, none⟩ = some (.int .i64 r.other) ∧ W.cell? ⟨w.heap.size, 5, none⟩ = some (.int .i64 r.req) ∧ W.cell? ⟨w.heap.size, 6, none⟩ = some (.string r.key) ∧ W.cell? ⟨w.heap.size, 7, none⟩ = some (.string r.val)) := fun W f => (rec_cells (rec_at w _ _ f)).1
  have HDM := fun W hW => decode_rec a1 l1.length cap1 l1 rfl W hW
  have HRM : Hid (∀ W, Fr (fun _ => False) w W → Row W a1 cap1 l1) := fun W f => hr1.same f
  have HX := rdec_some l1 hr1.byte
  have HN := rdec_none l1
  have HT : Hid (∀ W n, Fr (fun _ => False) w W → Row W a1 cap1 (l1.take n)) := fun W n f => (hr1.take n).same f
  obtain ⟨x, hx⟩ : ∃ x, x = rdec l1 := ⟨_, rfl⟩
  rw [← hx] at HDM HN HX
  have HX' : Hid (∀ (r : Rec) (n : Nat), x = (r, n, 0) → rok r = true ∧ n = (frm r).length ∧ n ≤ l1.length ∧ l1.take n = frm r) := HX
  have HN' : Hid (x.2.2 ≠ 0 → x.1 = zr ∧ x.2.1 = 0) := HN
  clear hx HX HN hr1
  obtain ⟨y, m, k⟩ := x
  unfold RdOut at HDM
  dsimp only at HDM HN'
  by_cases hr : rok r = true
  · have R : Hid (rok r = true) := hr
    have HFL : Hid ((frm r).length ≤ 400) := by show _ ≤ _; have g := rok_rg hr; have := g.key; have := g.val; rw [frm_length]; omega
    have HDF : Hid (rdec (frm r ++ l1) = (r, (frm r).length, 0)) := rdec_frm r hr l1
    clear hr
    go_enter Try.func5, Try.ntmps5
    go_wp2_with fail
    refine (encode_ryes r R.out _).mono ?_
    rintro e w1 ⟨v1, rfl, m1⟩
    have hfl := HFL.out
    obtain ⟨b1, c1, rfl, r1⟩ := m1.own.row (frm_octs r) (by omega)
    have F1 := f0.seq' m1.fr
    have m1fr : Hid (Fr (fun _ => False) (w.alloc (.cells #[.int .i64 r.lsn, .int .i64 r.ep, .int .i64 r.kind, .int .i64 r.page, .int .i64 r.other, .int .i64 r.req, .string r.key, .string r.val] 23)) w1) := m1.fr
    have hs1 := F1.size
    obtain ⟨L, hL⟩ : ∃ L, L = frm r := ⟨_, rfl⟩
    have HL : Hid (L = frm r) := hL
    have hoc : octs (L ++ l1) := octs_app (by rw [hL]; exact frm_octs r) (HRM.out _ F1).byte
    rw [← hL] at hfl r1 HDF ⊢
    have hsum : L.length + l1.length ≤ 140737488355328 := by omega
    have hml : (L ++ l1).length = L.length + l1.length := List.length_append
    have HMR := HRM.out _ F1
    obtain ⟨M, hM⟩ : ∃ M, M = L ++ l1 := ⟨_, rfl⟩
    have HM : Hid (M = L ++ l1) := hM
    have HML : Hid (M.length = L.length + l1.length) := by show _ = _; rw [hM]; exact hml
    have HMO : Hid (octs M) := by show octs M; rw [hM]; exact hoc
    rw [← hM] at HDF
    have HMS : Hid (M.length ≤ 140737488355328) := by show _ ≤ _; rw [hM, hml]; exact hsum
    clear hL hM hml hoc m1
    go_wp2_with (first
      | (at_builtin; refine wpList_append_row _ rfl (.tmp 23) (.tmp 24) 24 24 5 rfl i0 Try.underlying24 Try.underlying24 hi hz0 hz1 hz2 w1.heap.size (.slice none 0 0) [] rfl (World.ownsRow_nil _ _ _ _) b1 L.length c1 L rfl rfl r1 (by simp; omega) (Nat.le_refl _) ?_; intro a2 c2 w2 hown2 hgrow2 hat2; have m2 : Mine w2 w1.heap.size (.slice a2 L.length c2) L := (by simpa using hown2); have f2 : Fr (fun _ => False) w1 w2 := Fr.ofGrown hgrow2; clear hown2 hat2)
      | (at_builtin; refine wpList_append_row _ rfl (.tmp 26) (.tmp 27) 24 24 5 rfl i0 Try.underlying24 Try.underlying24 hi hz0 hz1 hz2 w1.heap.size (.slice a2 L.length c2) L rfl m2 a1 l1.length cap1 l1 rfl rfl (HMR.same f2) hsum f2.size ?_; intro a3 c3 w3 m3 hgrow3 hat3; have f3 := f2.fresh hgrow3 (fun k e => (m2.lt k e).1)))
    rw [← HM.out, ← HML.out] at m3
    obtain ⟨a4, c4, he4, r4⟩ := m3.row HMO.out HMS.out
    simp only [Value.slice.injEq, true_and] at he4
    obtain ⟨rfl, rfl⟩ := he4
    rw [← HML.out]
    have hdc := decode_rec a3 M.length c3 M rfl _ r4
    rw [HDF.out] at hdc
    unfold RdOut at hdc
    dsimp only at hdc
    clear m3 hat3 hgrow3 m2 hgrow2
    refine hdc.mono ?_
    rintro e w4 ⟨rfl, f4⟩
    have fb4 := Fr.box w4 (.cells #[.int .i64 r.lsn, .int .i64 r.ep, .int .i64 r.kind, .int .i64 r.page, .int .i64 r.other, .int .i64 r.req, .string r.key, .string r.val] 23)
    have F4 := ((F1.seq' f3).seq' f4).seq' fb4
    have F40 := ((m1fr.out.seq' f3).seq' f4).seq' fb4
    obtain ⟨c0, c1', c2', c3', c4', c5', c6', c7'⟩ := HB.out _ F40
    clear hdc r4
    by_cases hk0 : k = 0
    · subst hk0
      obtain ⟨q1, q2, q3, q4⟩ := HX'.out y m rfl
      have Q1 : Hid (rok y = true) := q1
      have Q2 : Hid (m = (frm y).length) := q2
      have Q4 : Hid (l1.take m = frm y) := q4
      have j1 : (m : Int) ≤ (cap1 : Int) := by omega
      have j2 : (m : Int) ≤ (l1.length : Int) := by omega
      have HML : Hid (m = (l1.take m).length) := by show _ = _; rw [List.length_take]; omega
      clear q1 q2 q4
      go_wp2_with fail
      refine (HDM _ (HRM.out _ F4)).mono ?_
      rintro e w5 ⟨rfl, f5⟩
      have fb := Fr.box w5 (.cells #[.int .i64 y.lsn, .int .i64 y.ep, .int .i64 y.kind, .int .i64 y.page, .int .i64 y.other, .int .i64 y.req, .string y.key, .string y.val] 23)
      have F5 := (F4.seq' f5).seq' fb
      go_wp2_with fail
      refine (encode_ryes y Q1.out _).mono ?_
      rintro e w6 ⟨v6, rfl, m6⟩
      obtain ⟨a6, c6, rfl, r6⟩ := m6.own.row (frm_octs y) (by rw [← Q2.out]; omega)
      have F6 := F5.seq' m6.fr
      rw [← Q4.out] at r6
      rw [← Q2.out]
      obtain ⟨sx, hsx⟩ : ∃ sx, sx = strOf (l1.take m) := ⟨_, rfl⟩
      have F6d := F6.drew
      have HCV : Hid (∀ W, Fr (fun _ => False) w6 W → (convert 24 9 (.slice a6 m c6)).run Try.prog W = .ok (.string sx) W ∧ (convert 24 9 (.slice a1 m cap1)).run Try.prog W = .ok (.string sx) W) := fun W f => by
        rw [hsx]
        exact ⟨run_str (P := Try.prog) (src := 24) (dst := 9) Try.underlying24 Try.underlying5 Try.underlying9 (r6.same f) m HML.out, run_str (P := Try.prog) (src := 24) (dst := 9) Try.underlying24 Try.underlying5 Try.underlying9 (HT.out _ m (F6.seq' f)) m HML.out⟩
      have g0 := (Fr.refl (fun _ => False) w6).drew
      clear hsx HDM
      go_wp2_with fail
      go_region_held3 (fun W => (convert 24 9 (.slice a6 m c6)).run Try.prog W = .ok (.string sx) W ∧ (convert 24 9 (.slice a1 m cap1)).run Try.prog W = .ok (.string sx) W)
        (first | exact HCV.out _ g0 | exact HCV.out _ g7)
        ((go_at_call 15; refine (rspeaks_any _).mono ?_; rintro e w7 ⟨rfl, f7⟩; have g7 := g0.seq' f7))
      all_goals
        go_wp2
        go_ret
        exact ⟨rfl, F6d.seq' f7⟩
    · obtain ⟨q1, q2⟩ := HN'.out hk0
      subst q1 q2
      have hkb : ((k : Int) != 0) = true := by rw [bne_iff_ne]; omega
      clear hk0
      go_wp2_with fail
      refine (HDM _ (HRM.out _ F4)).mono ?_
      rw [zr_agg]
      rintro e w5 ⟨rfl, f5⟩
      have fb := Fr.box w5 (.cells #[.int .i64 0, .int .i64 0, .int .i64 0, .int .i64 0, .int .i64 0, .int .i64 0, .string ⟨#[]⟩, .string ⟨#[]⟩] 23)
      have F5 := (F4.seq' f5).seq' fb
      go_wp2_with fail
      refine (rspeaks_any _).mono ?_
      rintro e w7 ⟨rfl, f7⟩
      go_wp2
      go_ret
      exact ⟨rfl, F5.seq' f7⟩
  · have HR : Hid (rok r = false) := by show _ = _; simpa using hr
    clear hr
    go_enter Try.func5, Try.ntmps5
    go_wp2_with fail
    refine (encode_rno r HR.out _).mono ?_
    rintro e w1 ⟨rfl, f1⟩
    have F4 := f0.seq' f1
    by_cases hk0 : k = 0
    · subst hk0
      obtain ⟨q1, q2, q3, q4⟩ := HX'.out y m rfl
      have Q1 : Hid (rok y = true) := q1
      have Q2 : Hid (m = (frm y).length) := q2
      have Q4 : Hid (l1.take m = frm y) := q4
      have j1 : (m : Int) ≤ (cap1 : Int) := by omega
      have j2 : (m : Int) ≤ (l1.length : Int) := by omega
      have HML : Hid (m = (l1.take m).length) := by show _ = _; rw [List.length_take]; omega
      clear q1 q2 q4
      go_wp2_with fail
      refine (HDM _ (HRM.out _ F4)).mono ?_
      rintro e w5 ⟨rfl, f5⟩
      have fb := Fr.box w5 (.cells #[.int .i64 y.lsn, .int .i64 y.ep, .int .i64 y.kind, .int .i64 y.page, .int .i64 y.other, .int .i64 y.req, .string y.key, .string y.val] 23)
      have F5 := (F4.seq' f5).seq' fb
      go_wp2_with fail
      refine (encode_ryes y Q1.out _).mono ?_
      rintro e w6 ⟨v6, rfl, m6⟩
      obtain ⟨a6, c6, rfl, r6⟩ := m6.own.row (frm_octs y) (by rw [← Q2.out]; omega)
      have F6 := F5.seq' m6.fr
      rw [← Q4.out] at r6
      rw [← Q2.out]
      obtain ⟨sx, hsx⟩ : ∃ sx, sx = strOf (l1.take m) := ⟨_, rfl⟩
      have F6d := F6.drew
      have HCV : Hid (∀ W, Fr (fun _ => False) w6 W → (convert 24 9 (.slice a6 m c6)).run Try.prog W = .ok (.string sx) W ∧ (convert 24 9 (.slice a1 m cap1)).run Try.prog W = .ok (.string sx) W) := fun W f => by
        rw [hsx]
        exact ⟨run_str (P := Try.prog) (src := 24) (dst := 9) Try.underlying24 Try.underlying5 Try.underlying9 (r6.same f) m HML.out, run_str (P := Try.prog) (src := 24) (dst := 9) Try.underlying24 Try.underlying5 Try.underlying9 (HT.out _ m (F6.seq' f)) m HML.out⟩
      have g0 := (Fr.refl (fun _ => False) w6).drew
      clear hsx HDM
      go_wp2_with fail
      go_region_held3 (fun W => (convert 24 9 (.slice a6 m c6)).run Try.prog W = .ok (.string sx) W ∧ (convert 24 9 (.slice a1 m cap1)).run Try.prog W = .ok (.string sx) W)
        (first | exact HCV.out _ g0 | exact HCV.out _ g7)
        ((go_at_call 15; refine (rspeaks_any _).mono ?_; rintro e w7 ⟨rfl, f7⟩; have g7 := g0.seq' f7))
      all_goals
        go_wp2
        go_ret
        exact ⟨rfl, F6d.seq' f7⟩
    · obtain ⟨q1, q2⟩ := HN'.out hk0
      subst q1 q2
      have hkb : ((k : Int) != 0) = true := by rw [bne_iff_ne]; omega
      clear hk0
      go_wp2_with fail
      refine (HDM _ (HRM.out _ F4)).mono ?_
      rw [zr_agg]
      rintro e w5 ⟨rfl, f5⟩
      have fb := Fr.box w5 (.cells #[.int .i64 0, .int .i64 0, .int .i64 0, .int .i64 0, .int .i64 0, .int .i64 0, .string ⟨#[]⟩, .string ⟨#[]⟩] 23)
      have F5 := (F4.seq' f5).seq' fb
      go_wp2_with fail
      refine (rspeaks_any _).mono ?_
      rintro e w7 ⟨rfl, f7⟩
      go_wp2
      go_ret
      exact ⟨rfl, F5.seq' f7⟩

set_option maxRecDepth 100000 in
theorem lifted (os : Os) (started : os.Started) (H : Type) (enc : TypeId × Value → H) :
    ReturnsInHanded {} Try.checked os 5 .any (Rows.recordBackSpec.pre6 enc Try.prog Try.f5 Rows.recordBackRow.domain false) (Rows.recordBackSpec.post enc Try.prog Try.f5 false true false false) := by
  refine returnsInHanded_of_change_sized (C := Try.checked) own started (by kernel_rfl) Try.func5
    (ChangeSpec.witness6 (enc := enc) (C := Try.checked) false ⟨#[], #[.agg #[.int .i64 0, .int .i64 0, .int .i64 0, .int .i64 0, .int .i64 0, .int .i64 0, .string ByteArray.empty, .string ByteArray.empty], .slice none 0 0], []⟩ 8 (by kernel_rfl) (by kernel_rfl) (by kernel_rfl) (by kernel_rfl)) ?_
  intro W base args ds gs before hval0 hW hcnd hsz0 _
  have hsz : (DataW.weightsEach Try.prog (Try.f5.params.toList ++ Rows.recordBackSpec.plain.varTypes Try.prog) (ds ++ gs)).all (· ≤ reachBytes) = true := hsz0
  clear hsz0
  have hval : ∀ (j : Nat) t v, Try.f5.params[j]? = some t → args[j]? = some v → Value.okWide Try.prog W .any base t v := hval0
  have hW' := hW
  obtain ⟨p, q, hA0, hV, rfl, hfz, hnd⟩ := hW
  have hA : DataW.TrodAll enc Try.prog W 0 (fun _ => true) true Try.f5.params.toList args.toList ds p := hA0
  rw [Try.params5] at hA hval hsz
  obtain ⟨v0, vs0, d0, ds0, p0, q0, hargs, rfl, rfl, h0, r0⟩ := trodAll_cons hA
  obtain ⟨v1, vs1, d1, ds1, p1, q1, rfl, rfl, rfl, h1, r1⟩ := trodAll_cons r0
  obtain ⟨rfl, rfl, rfl⟩ := trodAll_nil r1
  obtain rfl : args = #[v0, v1] := by cases args; simp_all
  obtain ⟨rfl, rfl⟩ := trodVars_none hV
  have k0 := h0
  have lt0 : ∀ x ∈ p0, x.block < W.heap.size := by obtain ⟨m, hm⟩ := k0; exact DataW.trod_lt m _ _ _ hm
  obtain ⟨rr0, rfl, rk0, rv0⟩ := rec_open (hval 0 23 v0 rfl rfl) h0 (fun z hz => by simpa using List.all_eq_true.1 hsz z (DataW.weights_mem_each (j := 0) rfl rfl z hz))
  obtain ⟨a1, len1, cap1, rfl⟩ := okWide_slice Try.underlying24 (hval 1 24 v1 rfl rfl)
  have k1 := h1
  have lt1 : ∀ x ∈ p1, x.block < W.heap.size := by obtain ⟨m, hm⟩ := k1; exact DataW.trod_lt m _ _ _ hm
  obtain ⟨l1, hl1, z1, hr1⟩ : ∃ l : List Nat, len1 = l.length ∧ cap1 ≤ 140737488351232 ∧ Row W a1 cap1 l := by
    obtain ⟨fuel, hf⟩ := h1
    rcases open_ints Try.underlying24 Try.underlying5 (by kernel_rfl) hf with ⟨hcs, _⟩ | ⟨x, l, c, zs, hcs, _, hl, hm, hz, hx, hcell, hwz⟩
    · simp [Value.cells] at hcs
      obtain ⟨rfl, rfl, rfl⟩ := hcs
      exact ⟨[], rfl, by omega, row_nil _ _⟩
    · simp [Value.cells] at hcs
      obtain ⟨rfl, rfl, rfl⟩ := hcs
      have hz' : zs.length = cap1 := by simpa using hz
      have hd : d1 = .slice (lits .u8 (zs.take len1)) (lits .u8 (zs.drop len1)) := congrArg Prod.fst hx
      have hcap : cap1 ≤ 140737488351232 := by
        have := sized_slice hsz (j := 1) (t := 24) (e := 5) rfl (by rw [hd]; rfl) Try.underlying24
        rw [bytes8] at this
        simp only [lits, List.length_map, List.length_take, List.length_drop, reachBytes] at this
        omega
      obtain ⟨l, h1, h2⟩ := row_of_ints hl (Nat.le_trans hcap (by omega)) hz' hcell hwz
      exact ⟨l, h1, hcap, h2⟩
  clear hA0 hval0
  refine (walk W rr0 rk0 rv0 a1 len1 cap1 l1 hl1 z1 hr1).mono fun e W' ⟨he, fr⟩ => ?_
  have bel : Below W.heap.size W W' := fr.below (Nat.le_refl _) (fun _ f => f.elim)
  subst he
  exact ⟨_, rfl, _, _, _, [], _, [], hW', trodAll_mk1 (shut_bool Try.underlying4 _), (trodAll_cons_mk (Below.trod laidOut (by kernel_rfl) (of_decide_eq_true (by kernel_rfl)) k0 bel lt0) (trodAll_cons_mk (Below.trod laidOut (by kernel_rfl) (of_decide_eq_true (by kernel_rfl)) k1 bel lt1) trodAll_mk0)), rfl, bel.frame _, fun h => by cases h⟩

theorem proved : Rows.RecordBackSaid :=
  OpenClaim.holds_of_wide 5 Try.f5 rfl rfl rfl rfl rfl rfl rfl ⟨rfl, rfl, rfl, rfl, rfl⟩ rfl rfl rfl rfl rfl (by kernel_rfl) Try.func5 (by kernel_rfl)
    (of_decide_eq_true (by kernel_rfl)) (by unfold Func.isWrapper; first | (rw [if_pos (by decide +kernel)]; kernel_rfl) | (rw [if_neg (by decide +kernel)]; exact ⟨rfl, rfl⟩))
    (fun os started H enc _ => lifted os started H enc)
end Go.Proofs.Ytdiphnfbbajfiaa.recordBack
namespace Go.Proofs.Ytdiphnfbbajfiaa
theorem recordBack_holds : Rows.RecordBackSaid := recordBack.proved
#print axioms recordBack_holds
end Go.Proofs.Ytdiphnfbbajfiaa
