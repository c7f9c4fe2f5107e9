
/- For any two slots and any point, points.Choose and points.Next answer as the document's own Choose and Next, byte by byte and error by error, and the example speaks; with no condition but those of the statement's own form. -/
import Derived.Test.YtjhbhjakbcplgaaArgs
import Derived.Test.YtjhbhjakbcplgaaPtLaw
import Derived.Deep.DeepCutAuto
namespace Go.Proofs.Ytjhbhjakbcplgaa.pointsChoose
open Go.ChangeShapes Go.WideShapes Go.ChangeAt Go.RowKit
open Go.ChangeMaps (open_string shut_string)
set_option linter.unusedVariables false

theorem own : ownKnob Try.prog.godebug = none := by kernel_rfl
theorem laidOut : laidOutB Try.prog = true := by kernel_rfl
theorem bytes8 : Try.prog.bytesOf 5 = 1 := by kernel_rfl

open Go.Proofs.Ytjhbhjakbcplgaa.Crcm
theorem nx_row {w w' : World} {r : Pn × Int × List Nat × Int} {e : Ending} (h : NxOut w r e w') (ho : octs r.2.2.1) (hl : r.2.2.1.length ≤ 28) : ∃ a c, e = .returned (.tuple #[.agg #[.int .i64 r.1.num, .int .i64 r.1.lsn, .int .i64 r.1.redo], .int .i64 r.2.1, .slice a r.2.2.1.length c, .int .i64 r.2.2.2]) ∧ Row w' a c r.2.2.1 ∧ Fr (fun _ => False) w w' := by
  obtain ⟨v, rfl, m⟩ := h
  obtain ⟨a, c, rfl, hr⟩ := m.own.row ho (by omega)
  exact ⟨a, c, rfl, hr, m.fr⟩
theorem nxt_octs (la lb : List Nat) (p : Pn) : octs (nxt la lb p).2.2.1 ∧ (nxt la lb p).2.2.1.length ≤ 28 := by
  unfold nxt nxF nxE
  split
  · exact ⟨pf_octs _, by simp only; rw [pf_length]; omega⟩
  · exact ⟨(fun x hx => absurd hx (by simp)), Nat.zero_le _⟩
set_option maxRecDepth 100000 in
set_option maxHeartbeats 4000000 in
theorem walk (w : World) (a0 : Option Addr) (len0 cap0 : Nat) (l0 : List Nat) (hl0 : len0 = l0.length) (_ : cap0 ≤ 140737488351232) (hr0 : Row w a0 cap0 l0) (a1 : Option Addr) (len1 cap1 : Nat) (l1 : List Nat) (hl1 : len1 = l1.length) (_ : cap1 ≤ 140737488351232) (hr1 : Row w a1 cap1 l1) (p : Pn) (hp : wfI p.num ∧ wfI p.lsn ∧ wfI p.redo) :
    Calls Try.prog 5 #[.slice a0 len0 cap0, .slice a1 len1 cap1, .agg #[.int .i64 p.num, .int .i64 p.lsn, .int .i64 p.redo]] w fun e w' => e = .returned (.bool true) ∧ Fr (fun _ => False) w w' := by
  subst hl0 hl1
  have hre := hp.2.2.range
  obtain ⟨HO, HN⟩ := nxt_octs l0 l1 p
  have nx := fun W (h : Fr (fun _ => False) w W) => next_any a0 a1 _ _ cap0 cap1 l0 l1 rfl rfl p W (hr0.same h) (hr1.same h)
  have rnx := fun W (h : Fr (fun _ => False) w W) => rnext_any a0 a1 _ _ cap0 cap1 l0 l1 rfl rfl p (by omega) W (hr0.same h) (hr1.same h)
  have ch := fun W (h : Fr (fun _ => False) w W) => choose_any a0 a1 _ _ cap0 cap1 l0 l1 rfl rfl W (hr0.same h) (hr1.same h)
  have rch := fun W (h : Fr (fun _ => False) w W) => rchoose_any a0 a1 _ _ cap0 cap1 l0 l1 rfl rfl W (hr0.same h) (hr1.same h)
  have ref := fun W => ref_any p W
  obtain ⟨p1, p2, p3⟩ := p
  clear hp hre
  obtain ⟨⟨⟨q1, q2, q3⟩, qs, lb, qe⟩, he⟩ : ∃ x, x = nxt l0 l1 ⟨p1, p2, p3⟩ := ⟨_, rfl⟩
  rw [← he] at nx rnx HO HN
  clear he
  obtain ⟨⟨⟨d1, d2, d3⟩, ds, de⟩, hd⟩ : ∃ x, x = chs l0 l1 := ⟨_, rfl⟩
  rw [← hd] at ch rch
  clear hd
  obtain ⟨b0, W0, hW0, hb0, t0, f0⟩ := put3 w 34 p1 p2 p3
  have HW0 : Hid (w.alloc (.cells #[.int .i64 p1, .int .i64 p2, .int .i64 p3] 34) = W0) := hW0
  have HB0 : Hid (w.heap.size = b0) := hb0
  clear hW0 hb0 hr0 hr1
  go_enter Try.func5, Try.ntmps5
  go_upto_region 1 with fail
  rw [HW0.out, HB0.out]
  go_wp2_with fail
  refine (ch _ f0).mono ?_
  rintro e w1 ⟨rfl, f1⟩
  obtain ⟨b1, W1, hW1, hb1, t1, g1⟩ := put3 w1 34 d1 d2 d3
  have HW1 : Hid (w1.alloc (.cells #[.int .i64 d1, .int .i64 d2, .int .i64 d3] 34) = W1) := hW1
  have HB1 : Hid (w1.heap.size = b1) := hb1
  have F1 := (f0.seq' f1).seq' g1
  have t0' := (t0.fr f1 (fun f => f)).fr g1 (fun f => f)
  clear hW1 hb1 f0 f1 g1 t0 ch
  go_upto_region 2 with fail
  rw [HW1.out, HB1.out]
  go_wp2_with fail
  refine (rch _ F1).mono ?_
  rintro e w2 ⟨rfl, f2⟩
  obtain ⟨b2, W2, hW2, hb2, t2, g2⟩ := put3 w2 40 d1 d2 d3
  have HW2 : Hid (w2.alloc (.cells #[.int .i64 d1, .int .i64 d2, .int .i64 d3] 40) = W2) := hW2
  have HB2 : Hid (w2.heap.size = b2) := hb2
  have F2 := (F1.seq' f2).seq' g2
  have t0'' := (t0'.fr f2 (fun f => f)).fr g2 (fun f => f)
  have t1' := (t1.fr f2 (fun f => f)).fr g2 (fun f => f)
  clear hW2 hb2 F1 f2 g2 t0' t1 rch
  go_upto_region 3 with fail
  rw [HW2.out, HB2.out]
  obtain ⟨x0, x1, x2, _, _, _⟩ := t0''.cells
  go_wp2_with fail
  refine (nx _ F2).mono ?_
  rintro e w3 hx3
  obtain ⟨ax, cx, rfl, rx, f3⟩ := nx_row hx3 HO HN
  obtain ⟨b3, W3, hW3, hb3, t3, g3⟩ := put3 w3 34 q1 q2 q3
  have HW3 : Hid (w3.alloc (.cells #[.int .i64 q1, .int .i64 q2, .int .i64 q3] 34) = W3) := hW3
  have HB3 : Hid (w3.heap.size = b3) := hb3
  have F3 := (F2.seq' f3).seq' g3
  have s0 := (t0''.fr f3 (fun f => f)).fr g3 (fun f => f)
  have s1 := (t1'.fr f3 (fun f => f)).fr g3 (fun f => f)
  have s2 := (t2.fr f3 (fun f => f)).fr g3 (fun f => f)
  have rx3 := rx.same g3
  clear hW3 hb3 F2 f3 g3 t0'' t1' t2 rx nx hx3 x0 x1 x2
  go_upto_region 4 with fail
  rw [HW3.out, HB3.out]
  obtain ⟨x0, x1, x2, _, _, _⟩ := s0.cells
  go_wp2_with fail
  refine (ref _).mono ?_
  rintro e w4 ⟨rfl, f4⟩
  have F4 := F3.seq' f4
  go_wp2_with fail
  refine (rnx _ F4).mono ?_
  rintro e w5 hx5
  obtain ⟨ay, cy, rfl, ry, f5⟩ := nx_row hx5 HO HN
  obtain ⟨b5, W5, hW5, hb5, t5, g5⟩ := put3 w5 40 q1 q2 q3
  have HW5 : Hid (w5.alloc (.cells #[.int .i64 q1, .int .i64 q2, .int .i64 q3] 40) = W5) := hW5
  have HB5 : Hid (w5.heap.size = b5) := hb5
  have F5 := (F4.seq' f5).seq' g5
  have f45 := (f4.seq' f5).seq' g5
  have u1 := s1.fr f45 (fun f => f)
  have u2 := s2.fr f45 (fun f => f)
  have u3 := t3.fr f45 (fun f => f)
  have rx5 := rx3.same f45
  have ry5 := ry.same g5
  clear hW5 hb5 F4 F3 f4 f5 g5 f45 s0 s1 s2 t3 rx3 ry rnx hx5 x0 x1 x2 ref
  go_upto_region 5 with fail
  rw [HW5.out, HB5.out]
  obtain ⟨x0, x1, x2, _, _, _⟩ := u1.cells
  obtain ⟨y0, y1, y2, _, _, _⟩ := u2.cells
  have HF5 : Hid (Fr (fun _ => False) w W5) := F5
  have HU3 : Hid (Tri W5 b3 34 q1 q2 q3) := u3
  have HU5 : Hid (Tri W5 b5 40 q1 q2 q3) := t5
  have HX5 : Hid (Row W5 ax cx lb) := rx5
  have HY5 : Hid (Row W5 ay cy lb) := ry5
  clear F5 u1 u2 u3 t5 HO HN rx5 ry5
  go_wp2_with fail
  refine (same_any ⟨d1, d2, d3⟩ ⟨d1, d2, d3⟩ _).mono ?_
  rw [dec_self]
  rintro e w6 ⟨rfl, f6⟩
  clear x0 x1 x2 y0 y1 y2
  obtain ⟨x0, x1, x2, _, _, _⟩ := (HU3.out.fr f6 (fun f => f)).cells
  obtain ⟨y0, y1, y2, _, _, _⟩ := (HU5.out.fr f6 (fun f => f)).cells
  go_wp2_with fail
  refine (same_any ⟨q1, q2, q3⟩ ⟨q1, q2, q3⟩ _).mono ?_
  rw [dec_self]
  rintro e w7 ⟨rfl, f7⟩
  clear x0 x1 x2 y0 y1 y2
  have cvx := run_str (P := Try.prog) (src := 35) (dst := 9) Try.underlying35 Try.underlying5 Try.underlying9 ((HX5.out.same f6).same f7) lb.length rfl
  have cvy := run_str (P := Try.prog) (src := 35) (dst := 9) Try.underlying35 Try.underlying5 Try.underlying9 ((HY5.out.same f6).same f7) lb.length rfl
  go_wp2_with (go_at_call 9; refine (ptspeaks_any _).mono ?_; rintro e w8 ⟨rfl, f8⟩)
  go_ret
  exact ⟨rfl, ((HF5.out.seq' f6).seq' f7).seq' f8⟩

set_option maxRecDepth 100000 in
theorem lifted (os : Os) (started : os.Started) (H : Type) (enc : TypeId × Value → H) :
    ReturnsInHanded {} Try.checked os 5 .any (Rows.pointsChooseSpec.pre6 enc Try.prog Try.f5 Rows.pointsChooseRow.domain false) (Rows.pointsChooseSpec.post enc Try.prog Try.f5 false true false false) := by
  refine returnsInHanded_of_change_sized (C := Try.checked) own started (by kernel_rfl) Try.func5
    (ChangeSpec.witness6 (enc := enc) (C := Try.checked) false ⟨#[], #[.slice none 0 0, .slice none 0 0, .agg #[.int .i64 0, .int .i64 0, .int .i64 0]], []⟩ 8 (by kernel_rfl) (by kernel_rfl) (by kernel_rfl) (by kernel_rfl)) ?_
  intro W base args ds gs before hval0 hW hcnd hsz0 _
  have hsz : (DataW.weightsEach Try.prog (Try.f5.params.toList ++ Rows.pointsChooseSpec.plain.varTypes Try.prog) (ds ++ gs)).all (· ≤ reachBytes) = true := hsz0
  clear hsz0
  have hval : ∀ (j : Nat) t v, Try.f5.params[j]? = some t → args[j]? = some v → Value.okWide Try.prog W .any base t v := hval0
  have hW' := hW
  obtain ⟨p, q, hA0, hV, rfl, hfz, hnd⟩ := hW
  have hA : DataW.TrodAll enc Try.prog W 0 (fun _ => true) true Try.f5.params.toList args.toList ds p := hA0
  rw [Try.params5] at hA hval hsz
  obtain ⟨v0, vs0, d0, ds0, p0, q0, hargs, rfl, rfl, h0, r0⟩ := trodAll_cons hA
  obtain ⟨v1, vs1, d1, ds1, p1, q1, rfl, rfl, rfl, h1, r1⟩ := trodAll_cons r0
  obtain ⟨v2, vs2, d2, ds2, p2, q2, rfl, rfl, rfl, h2, r2⟩ := trodAll_cons r1
  obtain ⟨rfl, rfl, rfl⟩ := trodAll_nil r2
  obtain rfl : args = #[v0, v1, v2] := by cases args; simp_all
  obtain ⟨rfl, rfl⟩ := trodVars_none hV
  obtain ⟨a0, len0, cap0, rfl⟩ := okWide_slice Try.underlying35 (hval 0 35 v0 rfl rfl)
  have k0 := h0
  have lt0 : ∀ x ∈ p0, x.block < W.heap.size := by obtain ⟨m, hm⟩ := k0; exact DataW.trod_lt m _ _ _ hm
  obtain ⟨l0, hl0, z0, hr0⟩ : ∃ l : List Nat, len0 = l.length ∧ cap0 ≤ 140737488351232 ∧ Row W a0 cap0 l := by
    obtain ⟨fuel, hf⟩ := h0
    rcases open_ints Try.underlying35 Try.underlying5 (by kernel_rfl) hf with ⟨hcs, _⟩ | ⟨x, l, c, zs, hcs, _, hl, hm, hz, hx, hcell, hwz⟩
    · simp [Value.cells] at hcs
      obtain ⟨rfl, rfl, rfl⟩ := hcs
      exact ⟨[], rfl, by omega, row_nil _ _⟩
    · simp [Value.cells] at hcs
      obtain ⟨rfl, rfl, rfl⟩ := hcs
      have hz' : zs.length = cap0 := by simpa using hz
      have hd : d0 = .slice (lits .u8 (zs.take len0)) (lits .u8 (zs.drop len0)) := congrArg Prod.fst hx
      have hcap : cap0 ≤ 140737488351232 := by
        have := sized_slice hsz (j := 0) (t := 35) (e := 5) rfl (by rw [hd]; rfl) Try.underlying35
        rw [bytes8] at this
        simp only [lits, List.length_map, List.length_take, List.length_drop, reachBytes] at this
        omega
      obtain ⟨l, h1, h2⟩ := row_of_ints hl (Nat.le_trans hcap (by omega)) hz' hcell hwz
      exact ⟨l, h1, hcap, h2⟩
  obtain ⟨a1, len1, cap1, rfl⟩ := okWide_slice Try.underlying35 (hval 1 35 v1 rfl rfl)
  have k1 := h1
  have lt1 : ∀ x ∈ p1, x.block < W.heap.size := by obtain ⟨m, hm⟩ := k1; exact DataW.trod_lt m _ _ _ hm
  obtain ⟨l1, hl1, z1, hr1⟩ : ∃ l : List Nat, len1 = l.length ∧ cap1 ≤ 140737488351232 ∧ Row W a1 cap1 l := by
    obtain ⟨fuel, hf⟩ := h1
    rcases open_ints Try.underlying35 Try.underlying5 (by kernel_rfl) hf with ⟨hcs, _⟩ | ⟨x, l, c, zs, hcs, _, hl, hm, hz, hx, hcell, hwz⟩
    · simp [Value.cells] at hcs
      obtain ⟨rfl, rfl, rfl⟩ := hcs
      exact ⟨[], rfl, by omega, row_nil _ _⟩
    · simp [Value.cells] at hcs
      obtain ⟨rfl, rfl, rfl⟩ := hcs
      have hz' : zs.length = cap1 := by simpa using hz
      have hd : d1 = .slice (lits .u8 (zs.take len1)) (lits .u8 (zs.drop len1)) := congrArg Prod.fst hx
      have hcap : cap1 ≤ 140737488351232 := by
        have := sized_slice hsz (j := 1) (t := 35) (e := 5) rfl (by rw [hd]; rfl) Try.underlying35
        rw [bytes8] at this
        simp only [lits, List.length_map, List.length_take, List.length_drop, reachBytes] at this
        omega
      obtain ⟨l, h1, h2⟩ := row_of_ints hl (Nat.le_trans hcap (by omega)) hz' hcell hwz
      exact ⟨l, h1, hcap, h2⟩
  have k2 := h2
  have lt2 : ∀ x ∈ p2, x.block < W.heap.size := by obtain ⟨m, hm⟩ := k2; exact DataW.trod_lt m _ _ _ hm
  obtain ⟨pp2, rfl, pw2⟩ := pn_open (hval 2 34 v2 rfl rfl) h2
  clear hA0 hval0
  refine (walk W a0 len0 cap0 l0 hl0 z0 hr0 a1 len1 cap1 l1 hl1 z1 hr1 pp2 pw2).mono fun e W' ⟨he, fr⟩ => ?_
  have bel : Below W.heap.size W W' := fr.below (Nat.le_refl _) (fun _ f => f.elim)
  subst he
  exact ⟨_, rfl, _, _, _, [], _, [], hW', trodAll_mk1 (shut_bool Try.underlying4 _), (trodAll_cons_mk (Below.trod laidOut (by kernel_rfl) (of_decide_eq_true (by kernel_rfl)) k0 bel lt0) (trodAll_cons_mk (Below.trod laidOut (by kernel_rfl) (of_decide_eq_true (by kernel_rfl)) k1 bel lt1) (trodAll_cons_mk (Below.trod laidOut (by kernel_rfl) (of_decide_eq_true (by kernel_rfl)) k2 bel lt2) trodAll_mk0))), rfl, bel.frame _, fun h => by cases h⟩

theorem proved : Rows.PointsChooseSaid :=
  OpenClaim.holds_of_wide 5 Try.f5 rfl rfl rfl rfl rfl rfl rfl ⟨rfl, rfl, rfl, rfl, rfl⟩ rfl rfl rfl rfl rfl (by kernel_rfl) Try.func5 (by kernel_rfl)
    (of_decide_eq_true (by kernel_rfl)) (by unfold Func.isWrapper; first | (rw [if_pos (by decide +kernel)]; kernel_rfl) | (rw [if_neg (by decide +kernel)]; exact ⟨rfl, rfl⟩))
    (fun os started H enc _ => lifted os started H enc)
end Go.Proofs.Ytjhbhjakbcplgaa.pointsChoose
namespace Go.Proofs.Ytjhbhjakbcplgaa
theorem pointsChoose_holds : Rows.PointsChooseSaid := pointsChoose.proved
#print axioms pointsChoose_holds
end Go.Proofs.Ytjhbhjakbcplgaa
