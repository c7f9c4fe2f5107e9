
/- For all pages, all records and every page number latticelaw12.RedoReplays answers true: Replay and Find tell what the document's own Replay and Find tell; no condition. -/
import Derived.Test.YtlgceleelhppdaaGreatDR9
import Derived.Test.YtlgceleelhppdaaGreatRpRef
import Derived.Test.YtlgceleelhppdaaGreatDR41
namespace Go.Proofs.YtlgceleelhppdaaGreat.redoReplays
open Go.ChangeShapes Go.WideShapes Go.ChangeAt Go.RowKit
open Go.ChangeMaps (open_string shut_string)
set_option linter.unusedVariables false

theorem own : ownKnob Tryz.prog.godebug = none := by kernel_rfl
theorem laidOut : laidOutB Tryz.prog = true := by kernel_rfl
theorem bytes8 : Tryz.prog.bytesOf 5 = 1 := by kernel_rfl

set_option maxRecDepth 100000 in
set_option maxHeartbeats 8000000 in
theorem walk (w : World) (a0 : Option Addr) (len0 cap0 : Nat) (ls : List Sl) (hl : len0 = ls.length) (hb : len0 * 120 ≤ 140737488355328) (hr : Slots w a0 cap0 ls) (hz : ∀ s ∈ ls, Szd s.nd) (a1 : Option Addr) (len1 cap1 : Nat) (rs : List Rec) (hl1 : len1 = rs.length) (hb1 : len1 * 80 ≤ 140737488355328) (hr1 : Recs w a1 cap1 rs) (hz1 : ∀ r ∈ rs, r.key.size ≤ 140737488351232 ∧ r.val.size ≤ 140737488351232) (x : Int) (wx : (Lit.int .i64 x).wf = true) :
    Calls Tryz.prog 3 #[.slice a0 len0 cap0, .slice a1 len1 cap1, .int .i64 x] w fun e w' => e = .returned (.bool true) ∧ Fr (fun _ => False) w w' := by
  have h1 := replay_any a0 a1 len0 cap0 len1 cap1 ls rs hl hl1 hz1 w hr hr1
  have h2 := fun W W0 (hW : Fr (fun _ => False) w W0) (h : Slots W0 a0 cap0 ls → Calls Tryz.prog 6 #[.slice a0 len0 cap0] W0 W) => h (hr.same hW)
  have HPG : Hid (∀ W, Fr (fun _ => False) w W → Calls Tryz.prog 6 #[.slice a0 len0 cap0] W fun e w' => SvOut W ls e w') := fun W f => pages_anyB a0 len0 cap0 ls hl hb W (hr.same f)
  have HFN : Hid (∀ W, Fr (fun _ => False) w W → Calls Tryz.prog 7 #[.slice a0 len0 cap0, .int .i64 x] W fun e w' => FdOut (fnd (psOf ls) x) W e w') := fun W f => find_any a0 len0 cap0 ls x hl hz W (hr.same f)
  have HRR : Hid (∀ a4 c4 W, Fr (fun _ => False) w W → Slots W a4 c4 ls → Calls Tryz.prog 5 #[.slice a4 len0 c4, .slice a1 len1 cap1] W fun e w' => RrpOut W (rplA (psOf ls) rs) e w') := fun a4 c4 W f h => rreplay_any a4 a1 len0 c4 len1 cap1 ls rs hl hl1 hz1 W h (hr1.same f)
  have HRF : Hid (∀ a4 c4 W, Slots W a4 c4 ls → Calls Tryz.prog 8 #[.slice a4 len0 c4, .int .i64 x] W fun e w' => FdOut (fnd (psOf ls) x) W e w') := fun a4 c4 W h => rfind_any a4 len0 c4 ls x hl W h
  have HL : Hid (len0 = ls.length) := hl
  obtain ⟨o, ho⟩ : ∃ o, o = rplA (psOf ls) rs := ⟨_, rfl⟩
  rw [← ho] at h1 HRR
  obtain ⟨of, hof⟩ : ∃ o, o = fnd (psOf ls) x := ⟨_, rfl⟩
  rw [← hof] at HFN HRF
  obtain ⟨op, oe⟩ := o
  clear h2 hl hb hr hz hl1 hb1 hr1 hz1 ho hof
  unfold RplOut at h1
  dsimp only at h1
  go_enter Tryz.func3, Tryz.ntmps3
  go_wp2_with fail
  refine h1.mono ?_
  rintro e w1 ⟨a3, c3, l3, rfl, sv3, ps3, f1⟩
  obtain ⟨m3, hm3⟩ : ∃ m, m = l3.length := ⟨_, rfl⟩
  rw [← hm3] at sv3 ⊢
  have HA : Hid (∀ W, Fr (fun _ => False) w1 W → Slots W a3 c3 l3) := fun W f => (sv3.slots hm3).same f
  have HM3 : Hid (m3 = l3.length) := hm3
  have HP3 : Hid (psOf l3 = op) := ps3
  clear h1 sv3 ps3 hm3
  have hp1 := HPG.out _ f1
  unfold SvOut at hp1
  rw [← HL.out] at hp1
  go_wp2_with fail
  refine hp1.mono ?_
  rintro e w2 ⟨a4, c4, rfl, sv4, f2, _⟩
  have F2 := f1.seq' f2
  have hrr := HRR.out a4 c4 w2 F2 (sv4.slots HL.out)
  unfold RrpOut at hrr
  dsimp only at hrr
  clear hp1 sv4
  go_wp2_with fail
  refine hrr.mono ?_
  rintro e w3 ⟨a5, c5, n5, l5, rfl, hn5, sl5, ps5, f3⟩
  have HB : Hid (∀ W, Fr (fun _ => False) w3 W → Slots W a5 c5 l5) := fun W f => sl5.same f
  have HN5 : Hid (n5 = l5.length) := hn5
  have HP5 : Hid (psOf l3 = psOf l5) := by show _ = _; rw [HP3.out, ps5]
  have F3 := F2.seq' f3
  have G3 := f2.seq' f3
  clear hrr hn5 sl5 ps5 f2 f3 F2
  have hfn := HFN.out _ F3
  unfold FdOut at hfn
  go_wp2_with fail
  refine hfn.mono ?_
  rintro e w4 ⟨nm, nb, q, rfl, hnm, hnb, nd, f4⟩
  have fa := Fr.box w4 (.cells #[.int .i64 nm.lev, .int .i64 nm.lsn, .int .i64 nm.rgt, .string nm.high, .slice q.k nm.keys.length q.kc, .slice q.v nm.vals.length q.vc, .slice q.i nm.kids.length q.ic] 34)
  have F4 := (F3.seq' f4).seq' fa
  have hA := heap_alloc_new w4 (.cells #[.int .i64 nm.lev, .int .i64 nm.lsn, .int .i64 nm.rgt, .string nm.high, .slice q.k nm.keys.length q.kc, .slice q.v nm.vals.length q.vc, .slice q.i nm.kids.length q.ic] 34)
  have hp2 := HPG.out _ F4
  unfold SvOut at hp2
  rw [← HL.out] at hp2
  have HNM : Hid (nm = fdN of) := hnm
  have HNB : Hid (nb = fdB of) := hnb
  clear hfn hnm hnb
  go_wp2_with fail
  refine hp2.mono ?_
  rintro e w5 ⟨a6, c6, rfl, sv6, f5, _⟩
  have hrf := HRF.out a6 c6 w5 (sv6.slots HL.out)
  unfold FdOut at hrf
  clear hp2 sv6
  go_wp2_with fail
  refine hrf.mono ?_
  rintro e w6 ⟨nm2, nb2, q2, rfl, hnm2, hnb2, nd2, f6⟩
  obtain rfl : nm2 = nm := hnm2.trans HNM.out.symm
  obtain rfl : nb2 = nb := hnb2.trans HNB.out.symm
  have fc := Fr.box w6 (.cells #[.int .i64 nm2.lev, .int .i64 nm2.lsn, .int .i64 nm2.rgt, .string nm2.high, .slice q2.k nm2.keys.length q2.kc, .slice q2.v nm2.vals.length q2.vc, .slice q2.i nm2.kids.length q2.ic] 34)
  have F5 := (f5.seq' f6).seq' fc
  have hA2 := F5.blk hA (fun f => f)
  have hB2 := heap_alloc_new w6 (.cells #[.int .i64 nm2.lev, .int .i64 nm2.lsn, .int .i64 nm2.rgt, .string nm2.high, .slice q2.k nm2.keys.length q2.kc, .slice q2.v nm2.vals.length q2.vc, .slice q2.i nm2.kids.length q2.ic] 34)
  have nd1' := (nd.same fa).same F5
  have nd2' := nd2.same fc
  have F6 := F4.seq' F5
  have hsm := same_any a3 a5 m3 n5 c3 c5 l3 l5 HM3.out HN5.out HP5.out _ (HA.out _ (((G3.seq' f4).seq' fa).seq' F5)) (HB.out _ ((f4.seq' fa).seq' F5))
  clear hrf hnm2 hnb2
  go_wp2_with fail
  refine hsm.mono ?_
  rintro e w7 ⟨rfl, f7⟩
  obtain ⟨b0, b1, b2, b3, b4, b5, b6⟩ := box_cells (f7.blk hB2 (fun f => f))
  obtain ⟨g0, g1, g2, g3, g4, g5, g6⟩ := box_cells (f7.blk hA2 (fun f => f))
  have hee : (oe == oe) = true := by simp
  have hdd : (nb2 == nb2) = true := by simp
  clear hsm
  go_wp2_with fail
  refine (plain_same nm2 q q2 _ (nd1'.same f7) (nd2'.same f7)).mono ?_
  rintro e w8 ⟨rfl, f8⟩
  clear b0 b1 b2 b3 b4 b5 b6 g0 g1 g2 g3 g4 g5 g6
  go_wp2_with fail
  refine (dspeaks_any _).mono ?_
  rintro e w9 ⟨rfl, f9⟩
  go_wp2
  go_ret
  exact ⟨rfl, ((F6.seq' f7).seq' f8).seq' f9⟩

set_option maxRecDepth 100000 in
theorem lifted (os : Os) (started : os.Started) (H : Type) (enc : TypeId × Value → H) :
    ReturnsInHanded {} Tryz.checked os 3 .any (Rows.redoReplaysSpec.pre6 enc Tryz.prog Tryz.f3 Rows.redoReplaysRow.domain false) (Rows.redoReplaysSpec.post enc Tryz.prog Tryz.f3 false true false false) := by
  refine returnsInHanded_of_change_sized (C := Tryz.checked) own started (by kernel_rfl) Tryz.func3
    (ChangeSpec.witness6 (enc := enc) (C := Tryz.checked) false ⟨#[], #[.slice none 0 0, .slice none 0 0, .int .i64 0], []⟩ 8 (by kernel_rfl) (by kernel_rfl) (by kernel_rfl) (by kernel_rfl)) ?_
  intro W base args ds gs before hval0 hW hcnd hsz0 _
  have hsz : (DataW.weightsEach Tryz.prog (Tryz.f3.params.toList ++ Rows.redoReplaysSpec.plain.varTypes Tryz.prog) (ds ++ gs)).all (· ≤ reachBytes) = true := hsz0
  clear hsz0
  have hval : ∀ (j : Nat) t v, Tryz.f3.params[j]? = some t → args[j]? = some v → Value.okWide Tryz.prog W .any base t v := hval0
  have hW' := hW
  obtain ⟨p, q, hA0, hV, rfl, hfz, hnd⟩ := hW
  have hA : DataW.TrodAll enc Tryz.prog W 0 (fun _ => true) true Tryz.f3.params.toList args.toList ds p := hA0
  rw [Tryz.params3] at hA hval hsz
  obtain ⟨v0, vs0, d0, ds0, p0, q0, hargs, rfl, rfl, h0, r0⟩ := trodAll_cons hA
  obtain ⟨v1, vs1, d1, ds1, p1, q1, rfl, rfl, rfl, h1, r1⟩ := trodAll_cons r0
  obtain ⟨v2, vs2, d2, ds2, p2, q2, rfl, rfl, rfl, h2, r2⟩ := trodAll_cons r1
  obtain ⟨rfl, rfl, rfl⟩ := trodAll_nil r2
  obtain rfl : args = #[v0, v1, v2] := by cases args; simp_all
  obtain ⟨rfl, rfl⟩ := trodVars_none hV
  obtain ⟨a0, len0, cap0, rfl⟩ := okWide_slice Tryz.underlying22 (hval 0 22 v0 rfl rfl)
  have k0 := h0
  have lt0 : ∀ x ∈ p0, x.block < W.heap.size := by obtain ⟨m, hm⟩ := k0; exact DataW.trod_lt m _ _ _ hm
  have wz0 : ∀ z ∈ d0.weights Tryz.prog 22, z ≤ reachBytes := fun z hz => by simpa using List.all_eq_true.1 hsz z (DataW.weights_mem_each (j := 0) rfl rfl z hz)
  obtain ⟨ls0, hl0, hb0, hr0, hz0⟩ : ∃ ls : List Sl, len0 = ls.length ∧ len0 * 120 ≤ 140737488355328 ∧ Slots W a0 cap0 ls ∧ ∀ s ∈ ls, Szd s.nd := by
    obtain ⟨fuel, hf⟩ := h0
    exact slots_open3 hf wz0
  obtain ⟨a1, len1, cap1, rfl⟩ := okWide_slice Tryz.underlying23 (hval 1 23 v1 rfl rfl)
  have k1 := h1
  have lt1 : ∀ x ∈ p1, x.block < W.heap.size := by obtain ⟨m, hm⟩ := k1; exact DataW.trod_lt m _ _ _ hm
  have wz1 : ∀ z ∈ d1.weights Tryz.prog 23, z ≤ reachBytes := fun z hz => by simpa using List.all_eq_true.1 hsz z (DataW.weights_mem_each (j := 1) rfl rfl z hz)
  obtain ⟨ls1, hl1, hb1, hr1, hz1⟩ : ∃ ls : List Rec, len1 = ls.length ∧ len1 * 80 ≤ 140737488355328 ∧ Recs W a1 cap1 ls ∧ ∀ r ∈ ls, r.key.size ≤ 140737488351232 ∧ r.val.size ≤ 140737488351232 := by
    obtain ⟨fuel, hf⟩ := h1
    exact recs_open2 hf wz1
  obtain ⟨a2, rfl, rfl, rfl, w2⟩ := open_int Tryz.underlying3 (hval 2 3 v2 rfl rfl) h2
  clear hA0 hval0
  refine (walk W a0 len0 cap0 ls0 hl0 hb0 hr0 hz0 a1 len1 cap1 ls1 hl1 hb1 hr1 hz1 a2 w2).mono fun e W' ⟨he, fr⟩ => ?_
  have bel : Below W.heap.size W W' := fr.below (Nat.le_refl _) (fun _ f => f.elim)
  subst he
  exact ⟨_, rfl, _, _, _, [], _, [], hW', trodAll_mk1 (shut_bool Tryz.underlying4 _), (trodAll_cons_mk (Below.trod laidOut (by kernel_rfl) (of_decide_eq_true (by kernel_rfl)) k0 bel lt0) (trodAll_cons_mk (Below.trod laidOut (by kernel_rfl) (of_decide_eq_true (by kernel_rfl)) k1 bel lt1) (trodAll_cons_mk (shut_int Tryz.underlying3 w2) trodAll_mk0))), rfl, bel.frame _, fun h => by cases h⟩

theorem proved : Rows.RedoReplaysSaid :=
  OpenClaim.holds_of_wide 3 Tryz.f3 rfl rfl rfl rfl rfl rfl rfl ⟨rfl, rfl, rfl, rfl, rfl⟩ rfl rfl rfl rfl rfl (by kernel_rfl) Tryz.func3 (by kernel_rfl)
    (of_decide_eq_true (by kernel_rfl)) (by unfold Func.isWrapper; first | (rw [if_pos (by decide +kernel)]; kernel_rfl) | (rw [if_neg (by decide +kernel)]; exact ⟨rfl, rfl⟩))
    (fun os started H enc _ => lifted os started H enc)
end Go.Proofs.YtlgceleelhppdaaGreat.redoReplays
namespace Go.Proofs.YtlgceleelhppdaaGreat
theorem redoReplays_holds : Rows.RedoReplaysSaid := redoReplays.proved
#print axioms redoReplays_holds
end Go.Proofs.YtlgceleelhppdaaGreat
