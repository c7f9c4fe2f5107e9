
/- For any records, any mark and any other records, ship.Take answers as the document's own, and leaves the same log, and the example speaks; with no condition but those of the statement's own form. -/
import Derived.Test.YtnhmickolfbldaaSB8
import Derived.Test.YtnhmickolfbldaaShRTk
import Derived.Test.YtnhmickolfbldaaShSpk
import Derived.Test.YtnhmickolfbldaaShArg
namespace Go.Proofs.Ytnhmickolfbldaa.shipTakes
open Go.ChangeShapes Go.WideShapes Go.ChangeAt Go.RowKit
open Go.ChangeMaps (open_string shut_string)
set_option linter.unusedVariables false

theorem own : ownKnob Try.prog.godebug = none := by kernel_rfl
theorem laidOut : laidOutB Try.prog = true := by kernel_rfl
theorem bytes8 : Try.prog.bytesOf 5 = 1 := by kernel_rfl

open Go.RowKit
set_option maxRecDepth 100000 in
set_option maxHeartbeats 8000000 in
theorem walk (w : World) (a : Option Addr) (n c : Nat) (rs : List Rec) (hn : n = rs.length) (hb : n * 80 ≤ 140737488355328) (h : Recs w a c rs) (hz : ∀ r ∈ rs, r.key.size ≤ 140737488351232 ∧ r.val.size ≤ 140737488351232) (mk : Int × Int) (a' : Option Addr) (n' c' : Nat) (qs : List Rec) (hn' : n' = qs.length) (hb' : n' * 80 ≤ 140737488355328) (h' : Recs w a' c' qs) (hz' : ∀ r ∈ qs, r.key.size ≤ 140737488351232 ∧ r.val.size ≤ 140737488351232) :
    Calls Try.prog 3 #[.slice a n c, .agg #[.int .i64 mk.1, .int .i64 mk.2], .slice a' n' c'] w fun e w' => e = .returned (.bool true) ∧ Fr (fun _ => False) w w' := by
  obtain ⟨me, ml⟩ := mk
  dsimp only
  have HSP : Hid (∀ W, Calls Try.prog 14 #[] W fun e w' => e = .returned (.bool true) ∧ Fr (fun _ => False) W w') := shspk_any
  have f0 := Fr.box w (.cells #[.int .i64 me, .int .i64 ml] 24)
  have HT : Hid (∀ W, Fr (fun _ => False) (w.alloc (.cells #[.int .i64 me, .int .i64 ml] 24)) W → Two W w.heap.size 24 (.int .i64 me) (.int .i64 ml)) := fun W f => (Two.new w _ _ _).fr f (fun f => f)
  have hbo := both_any a n c rs hn _ (h.same f0)
  have HS : Hid (∀ W, Fr (fun _ => False) w W → Recs W a' c' qs) := fun W f => h'.same f
  have HQB : Hid (∀ b o, a' = some ⟨b, o, none⟩ → qs ≠ [] → b < w.heap.size) := fun b o ha hne => by
    rcases h'.at_ with h0 | ⟨b', o', e, hb, _⟩
    · exact absurd h0 hne
    · rw [ha] at e; cases e; exact hb
  have HTK : Hid (∀ W lb rv, Lg W lb rv (bthL rs) 0 → Recs W a' c' qs → (∀ k, lgS lb rv k → ∀ b o, a' = some ⟨b, o, none⟩ → qs ≠ [] → k ≠ b) → Calls Try.prog 10 #[.pointer (some ⟨lb, 0, none⟩), .agg #[.int .i64 me, .int .i64 ml], .slice a' n' c'] W (TkOut W lb rv (takeR (bthL rs) me ml qs))) := fun W lb rv hl hr ho => take_any lb rv _ me ml a' n' c' qs hn' (by omega) W hl (bth_wl rs) hr ho
  have HRT : Hid (∀ W lb rv, Rlg W lb rv (bthL rs) 0 → Recs W a' c' qs → (∀ k, lgS lb rv k → ∀ b o, a' = some ⟨b, o, none⟩ → qs ≠ [] → k ≠ b) → Calls Try.prog 11 #[.pointer (some ⟨lb, 0, none⟩), .agg #[.int .i64 me, .int .i64 ml], .slice a' n' c'] W (RtOut W lb rv (takeR (bthL rs) me ml qs))) := fun W lb rv hl hr ho => rtake_any lb rv _ me ml a' n' c' qs hn' W hl (bth_wl rs) hr ho
  have HWT : Hid (Wl (takeR (bthL rs) me ml qs).1) := takeR_wl (bth_wl rs) me ml qs
  have HBO : Hid (∀ W e w', BoOut W rs e w' → ∃ rv rrv, e = .returned (.tuple #[.pointer (some ⟨W.heap.size, 0, none⟩), .pointer (some ⟨W.heap.size + 1, 0, none⟩)]) ∧ Bth W w' rv rrv (bthL rs)) := fun W e w' h => h
  generalize takeR (bthL rs) me ml qs = t at *
  generalize bthL rs = L at *
  obtain ⟨x0, x1, _⟩ := (HT.out _ (Fr.refl _ _)).cells
  clear h h' hz hz' hb hb' hn hn'
  go_enter Try.func3, Try.ntmps3
  go_wp2_with fail
  generalize w.alloc (.cells #[.int .i64 me, .int .i64 ml] 24) = V at *
  refine hbo.mono ?_
  intro e w1 hout
  obtain ⟨rv, rrv, rfl, B⟩ := HBO.out V e w1 hout
  have zV := f0.size
  have htk := HTK.out w1 V.heap.size rv B.lg (HS.out _ (f0.seq' B.fr)) (fun k e b o hb hne => by
    have := HQB.out b o hb hne
    rcases e with e | e
    · omega
    · have := (B.o1 k e).1; omega)
  obtain ⟨y0, y1, _⟩ := (HT.out _ B.fr).cells
  have HB : Hid (Bth V w1 rv rrv L) := B
  clear hbo hout B x0 x1
  go_wp2_with fail
  refine htk.mono ?_
  rintro e w2 ⟨rfl, hto⟩
  obtain ⟨rv1, M⟩ := HB.out.first hto
  have htk := HRT.out w2 (V.heap.size + 1) rrv M.rlg (HS.out _ (f0.seq' M.fr)) (fun k e b o hb hne => by
    have := HQB.out b o hb hne
    rcases e with e | e
    · omega
    · have := M.o2 k e; omega)
  clear y0 y1
  obtain ⟨y0, y1, _⟩ := (HT.out _ M.fr).cells
  have HM : Hid (Mdl V w2 rv1 rrv L t.1) := M
  clear hto M
  go_wp2_with fail
  refine htk.mono ?_
  rintro e w3 ⟨rfl, hto⟩
  obtain ⟨rrv1, B⟩ := HM.out.second hto
  have HB3 : Hid (Bth V w3 rv1 rrv1 t.1) := B
  clear hto htk B y0 y1 HM HB
  obtain ⟨T, n1, c1, e1⟩ := t
  dsimp only at *
  have hbig := HWT.out.big
  have hfr : frF T 1 100000 = T := frF_whole hbig
  have HFM : Hid (∀ W, Fr (fun _ => False) w3 W → Calls Try.prog 13 #[.pointer (some ⟨V.heap.size, 0, none⟩), .int .i64 1, .int .i64 100000] W fun e w' => ∃ a c, e = .returned (.slice a T.length c) ∧ Recs w' a c T ∧ Nwr W a T ∧ Fr (fun _ => False) W w') := fun W f => by
    have := from_lg 1 100000 (by omega) V.heap.size rv1 T 0 W (HB3.out.same f).lg hbig
    rw [hfr] at this
    exact this
  obtain ⟨ra, rc, hrs, hrle, hrmx⟩ := HB3.out.rlg.has.slice
  have HRR : Hid (∀ W, Fr (fun _ => False) w3 W → Recs W ra rc T) := fun W f => by
    have := (HB3.out.same f).rlg.has
    rw [hrs] at this
    exact Has.recs rfl this
  have HPL : Hid (∀ (b1 b2 : Option Addr) (d1 d2 : Nat) W, Recs W b1 d1 T → Recs W b2 d2 T → Calls Try.prog 12 #[.slice b1 T.length d1, .slice b2 T.length d2] W fun e w' => e = .returned (.bool true) ∧ Fr (fun _ => False) W w') := fun b1 b2 d1 d2 W h1 h2 => plain_recs b1 b2 _ _ d1 d2 T rfl rfl W h1 h2
  have HCL : Hid (∀ W, Fr (fun _ => False) w3 W → W.cell? ⟨V.heap.size + 1, 0, none⟩ = some (.slice ra T.length rc)) := fun W f => by
    have := (cell_of_two (HB3.out.same f).rlg.box).1
    rw [hrs] at this
    exact this
  have HF3 : Hid (Fr (fun _ => False) w w3) := f0.seq' HB3.out.fr
  clear hfr hrs
  go_wp2_with fail
  have fD : Fr (fun _ => False) w3 w3.drew := Fr.drew (Fr.refl _ _)
  have q1 := HCL.out _ fD
  have r1 := HFM.out _ fD
  go_region_held3 (fun W => W.cell? ⟨V.heap.size + 1, 0, none⟩ = some (.slice ra T.length rc))
    (first | with_reducible exact q1 | with_reducible exact q2 | with_reducible exact q3 | with_reducible exact q4 | fail)
    (first
      | (go_at_call 13; refine r1.mono ?_; rintro e w4 ⟨af, cf, rfl, rcf, _, g4⟩; clear r1; have G4 := fD.seq' g4; have q2 := HCL.out _ G4; have r2 := HPL.out _ _ _ _ _ rcf (HRR.out _ G4))
      | (go_at_call 12; refine r2.mono ?_; rintro e w5 ⟨rfl, g5⟩; clear r2; have G5 := G4.seq' g5; have q3 := HCL.out _ G5; have r3 := HSP.out w5)
      | (go_at_call 14; refine r3.mono ?_; rintro e w6 ⟨rfl, g6⟩; clear r3; have G6 := G5.seq' g6; have q4 := HCL.out _ G6))
  go_wp2
  go_ret
  exact ⟨by simp, HF3.out.seq' G6⟩

set_option maxRecDepth 100000 in
theorem lifted (os : Os) (started : os.Started) (H : Type) (enc : TypeId × Value → H) :
    ReturnsInHanded {} Try.checked os 3 .any (Rows.shipTakesSpec.pre6 enc Try.prog Try.f3 Rows.shipTakesRow.domain false) (Rows.shipTakesSpec.post enc Try.prog Try.f3 false true false false) := by
  refine returnsInHanded_of_change_sized (C := Try.checked) own started (by kernel_rfl) Try.func3
    (ChangeSpec.witness6 (enc := enc) (C := Try.checked) false ⟨#[], #[.slice none 0 0, .agg #[.int .i64 0, .int .i64 0], .slice none 0 0], []⟩ 8 (by kernel_rfl) (by kernel_rfl) (by kernel_rfl) (by kernel_rfl)) ?_
  intro W base args ds gs before hval0 hW hcnd hsz0 _
  have hsz : (DataW.weightsEach Try.prog (Try.f3.params.toList ++ Rows.shipTakesSpec.plain.varTypes Try.prog) (ds ++ gs)).all (· ≤ reachBytes) = true := hsz0
  clear hsz0
  have hval : ∀ (j : Nat) t v, Try.f3.params[j]? = some t → args[j]? = some v → Value.okWide Try.prog W .any base t v := hval0
  have hW' := hW
  obtain ⟨p, q, hA0, hV, rfl, hfz, hnd⟩ := hW
  have hA : DataW.TrodAll enc Try.prog W 0 (fun _ => true) true Try.f3.params.toList args.toList ds p := hA0
  rw [Try.params3] at hA hval hsz
  obtain ⟨v0, vs0, d0, ds0, p0, q0, hargs, rfl, rfl, h0, r0⟩ := trodAll_cons hA
  obtain ⟨v1, vs1, d1, ds1, p1, q1, rfl, rfl, rfl, h1, r1⟩ := trodAll_cons r0
  obtain ⟨v2, vs2, d2, ds2, p2, q2, rfl, rfl, rfl, h2, r2⟩ := trodAll_cons r1
  obtain ⟨rfl, rfl, rfl⟩ := trodAll_nil r2
  obtain rfl : args = #[v0, v1, v2] := by cases args; simp_all
  obtain ⟨rfl, rfl⟩ := trodVars_none hV
  obtain ⟨a0, len0, cap0, rfl⟩ := okWide_slice Try.underlying22 (hval 0 22 v0 rfl rfl)
  have k0 := h0
  have lt0 : ∀ x ∈ p0, x.block < W.heap.size := by obtain ⟨m, hm⟩ := k0; exact DataW.trod_lt m _ _ _ hm
  have wz0 : ∀ z ∈ d0.weights Try.prog 22, z ≤ reachBytes := fun z hz => by simpa using List.all_eq_true.1 hsz z (DataW.weights_mem_each (j := 0) rfl rfl z hz)
  obtain ⟨ls0, hl0, hb0, hr0, hz0⟩ : ∃ ls : List Rec, len0 = ls.length ∧ len0 * 80 ≤ 140737488355328 ∧ Recs W a0 cap0 ls ∧ ∀ r ∈ ls, r.key.size ≤ 140737488351232 ∧ r.val.size ≤ 140737488351232 := by
    obtain ⟨fuel, hf⟩ := h0
    exact recs_open2 hf wz0
  have k1 := h1
  have lt1 : ∀ x ∈ p1, x.block < W.heap.size := by obtain ⟨m, hm⟩ := k1; exact DataW.trod_lt m _ _ _ hm
  obtain ⟨mk1, rfl⟩ := mark_open (hval 1 24 v1 rfl rfl) h1
  obtain ⟨a2, len2, cap2, rfl⟩ := okWide_slice Try.underlying22 (hval 2 22 v2 rfl rfl)
  have k2 := h2
  have lt2 : ∀ x ∈ p2, x.block < W.heap.size := by obtain ⟨m, hm⟩ := k2; exact DataW.trod_lt m _ _ _ hm
  have wz2 : ∀ z ∈ d2.weights Try.prog 22, z ≤ reachBytes := fun z hz => by simpa using List.all_eq_true.1 hsz z (DataW.weights_mem_each (j := 2) rfl rfl z hz)
  obtain ⟨ls2, hl2, hb2, hr2, hz2⟩ : ∃ ls : List Rec, len2 = ls.length ∧ len2 * 80 ≤ 140737488355328 ∧ Recs W a2 cap2 ls ∧ ∀ r ∈ ls, r.key.size ≤ 140737488351232 ∧ r.val.size ≤ 140737488351232 := by
    obtain ⟨fuel, hf⟩ := h2
    exact recs_open2 hf wz2
  clear hA0 hval0
  refine (walk W a0 len0 cap0 ls0 hl0 hb0 hr0 hz0 mk1 a2 len2 cap2 ls2 hl2 hb2 hr2 hz2).mono fun e W' ⟨he, fr⟩ => ?_
  have bel : Below W.heap.size W W' := fr.below (Nat.le_refl _) (fun _ f => f.elim)
  subst he
  exact ⟨_, rfl, _, _, _, [], _, [], hW', trodAll_mk1 (shut_bool Try.underlying4 _), (trodAll_cons_mk (Below.trod laidOut (by kernel_rfl) (of_decide_eq_true (by kernel_rfl)) k0 bel lt0) (trodAll_cons_mk (Below.trod laidOut (by kernel_rfl) (of_decide_eq_true (by kernel_rfl)) k1 bel lt1) (trodAll_cons_mk (Below.trod laidOut (by kernel_rfl) (of_decide_eq_true (by kernel_rfl)) k2 bel lt2) trodAll_mk0))), rfl, bel.frame _, fun h => by cases h⟩

theorem proved : Rows.ShipTakesSaid :=
  OpenClaim.holds_of_wide 3 Try.f3 rfl rfl rfl rfl rfl rfl rfl ⟨rfl, rfl, rfl, rfl, rfl⟩ rfl rfl rfl rfl rfl (by kernel_rfl) Try.func3 (by kernel_rfl)
    (of_decide_eq_true (by kernel_rfl)) (by unfold Func.isWrapper; first | (rw [if_pos (by decide +kernel)]; kernel_rfl) | (rw [if_neg (by decide +kernel)]; exact ⟨rfl, rfl⟩))
    (fun os started H enc _ => lifted os started H enc)
end Go.Proofs.Ytnhmickolfbldaa.shipTakes
namespace Go.Proofs.Ytnhmickolfbldaa
theorem shipTakes_holds : Rows.ShipTakesSaid := shipTakes.proved
#print axioms shipTakes_holds
end Go.Proofs.Ytnhmickolfbldaa
