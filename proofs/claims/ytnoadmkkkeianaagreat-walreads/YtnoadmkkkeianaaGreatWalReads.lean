
/- The log that any bytes begin with, and as far as which byte, is the one that the document says. -/
import Derived.Test.YtnoadmkkkeianaaGreatYB4
import Derived.Test.YtnoadmkkkeianaaGreatYW4
import Derived.Test.YtnoadmkkkeianaaGreatWrSame
import Derived.Test.YtnoadmkkkeianaaGreatWrRead
import Derived.Test.YtnoadmkkkeianaaGreatWgArg
import Derived.Deep.DeepCutAuto
namespace Go.Proofs.YtnoadmkkkeianaaGreat.walReads
open Go.ChangeShapes Go.WideShapes Go.ChangeAt Go.RowKit
open Go.ChangeMaps (open_string shut_string)
set_option linter.unusedVariables false

theorem own : ownKnob Tryz.prog.godebug = none := by kernel_rfl
theorem laidOut : laidOutB Tryz.prog = true := by kernel_rfl
theorem bytes8 : Tryz.prog.bytesOf 5 = 1 := by kernel_rfl

open Go.Proofs.YtnoadmkkkeianaaGreat.Crcm

theorem frF_zero (l : List Rec) (h : l.length ≤ 100000) : frF l 0 100000 = l := by
  unfold frF
  rw [if_neg (by decide)]
  have e : (max (0 : Int) 1 - 1).toNat = 0 := by decide
  have e2 : (100000 : Int).toNat = 100000 := by decide
  rw [e, e2, List.drop_zero, List.take_of_length_le h]
set_option maxRecDepth 100000 in
set_option maxHeartbeats 4000000 in
theorem walk (w : World) (a0 : Option Addr) (len0 cap0 : Nat) (l0 : List Nat) (hl0 : len0 = l0.length) (_z0 : cap0 ≤ 140737488351232) (hr0 : Row w a0 cap0 l0) (a1 : Int) (w1 : (Lit.int .i64 a1).wf = true) :
    Calls Tryz.prog 4 #[.slice a0 len0 cap0, .int .i64 a1] w fun e w' => e = .returned (.bool true) ∧ Fr (fun _ => False) w w' := by
  have hb := nfit_of w1
  clear w1
  have hrd := read_any a0 len0 cap0 l0 hl0 w hr0
  have HRR : Hid (∀ W, Fr (fun _ => False) w W → Row W a0 cap0 l0) := fun W f => hr0.same f
  obtain ⟨X, hX⟩ : ∃ X, X = wread l0 := ⟨_, rfl⟩
  have hrr := fun W f => rread_any a0 len0 cap0 l0 hl0 W (HRR.out W f)
  rw [← hX] at hrd hrr
  obtain ⟨ls, k⟩ := X
  dsimp only at hrd hrr
  clear hX hr0 hl0
  obtain ⟨lb, hlb⟩ : ∃ lb, lb = w.heap.size := ⟨_, rfl⟩
  rw [← hlb] at hrd
  clear hlb
  go_enter Tryz.func4, Tryz.ntmps4
  go_wp2_with fail
  refine hrd.mono ?_
  clear hrd
  rintro e w2 ⟨rfl, rv, lg2, WL, f2, _⟩
  have hrr2 := hrr _ f2
  obtain ⟨rb, hrb⟩ : ∃ rb, rb = w2.heap.size := ⟨_, rfl⟩
  rw [← hrb] at hrr2
  clear hrb hrr
  go_wp2_with fail
  refine hrr2.mono ?_
  clear hrr2
  rintro e w3 ⟨rfl, rx, rg3, _, f3, _⟩
  have lg3 := lg2.same f3
  have F3 := f2.seq' f3
  have hbig := WL.big
  obtain ⟨ax, cx, rfl, hlx, hcx⟩ := rg3.has.slice
  have HL : Hid (∀ W, Fr (fun _ => False) w3 W → Lg W lb rv ls (ls.length : Int)) := fun W f => lg3.same f
  have HR : Hid (∀ W, Fr (fun _ => False) w3 W → Rlg W rb (.slice ax ls.length cx) ls (ls.length : Int)) := fun W f => rg3.same f
  have HS : Hid (∀ W, Fr (fun _ => False) w3 W → W.cell? ⟨rb, 0, none⟩ = some (.slice ax ls.length cx)) := fun W f => (cell_of_two (rg3.same f).box).1
  have C1 := fun W f => lsame_any a1 hb lb rb rv (.slice ax ls.length cx) ls (ls.length : Int) W (HL.out W f) (HR.out W f) WL
  have C2 := fun W hW => from_lg 0 100000 ⟨by omega, by omega⟩ lb rv ls (ls.length : Int) W hW hbig
  rw [frF_zero ls (by omega)] at C2
  have g0 := (Fr.refl (fun _ => False) w3).drew
  clear lg2 lg3 rg3 f3 f2 hb
  go_wp2_with fail
  go_region_held3 (fun W => W.cell? ⟨rb, 0, none⟩ = some (.slice ax ls.length cx))
    (first | with_reducible exact HS.out _ g0 | with_reducible exact HS.out _ g6 | with_reducible exact HS.out _ g7 | with_reducible exact HS.out _ g8 | with_reducible exact HS.out _ g9)
    ((first
      | (go_at_call 12; refine (C1 _ g0).mono ?_; rintro e w6 ⟨rfl, f6⟩; have g6 := g0.seq' f6)
      | (go_at_call 19; refine (C2 _ (HL.out _ g6)).mono ?_; rintro e w7 ⟨a7, c7, rfl, r7, f7⟩; have g7 := g6.seq' f7; have r77 := Has.recs rfl (HR.out _ g7).has)
      | (go_at_call 18; refine (plain_recs _ _ _ _ _ _ ls rfl rfl _ r7 r77).mono ?_; rintro e w8 ⟨rfl, f8⟩; have g8 := g7.seq' f8)
      | (go_at_call 15; refine (wspeaks_any _).mono ?_; rintro e w9 ⟨rfl, f9⟩; have g9 := g8.seq' f9)))
  go_wp2
  go_ret
  exact ⟨rfl, F3.seq' g9⟩

set_option maxRecDepth 100000 in
theorem lifted (os : Os) (started : os.Started) (H : Type) (enc : TypeId × Value → H) :
    ReturnsInHanded {} Tryz.checked os 4 .any (Rows.walReadsSpec.pre6 enc Tryz.prog Tryz.f4 Rows.walReadsRow.domain false) (Rows.walReadsSpec.post enc Tryz.prog Tryz.f4 false true false false) := by
  refine returnsInHanded_of_change_sized (C := Tryz.checked) own started (by kernel_rfl) Tryz.func4
    (ChangeSpec.witness6 (enc := enc) (C := Tryz.checked) false ⟨#[], #[.slice none 0 0, .int .i64 0], []⟩ 8 (by kernel_rfl) (by kernel_rfl) (by kernel_rfl) (by kernel_rfl)) ?_
  intro W base args ds gs before hval0 hW hcnd hsz0 _
  have hsz : (DataW.weightsEach Tryz.prog (Tryz.f4.params.toList ++ Rows.walReadsSpec.plain.varTypes Tryz.prog) (ds ++ gs)).all (· ≤ reachBytes) = true := hsz0
  clear hsz0
  have hval : ∀ (j : Nat) t v, Tryz.f4.params[j]? = some t → args[j]? = some v → Value.okWide Tryz.prog W .any base t v := hval0
  have hW' := hW
  obtain ⟨p, q, hA0, hV, rfl, hfz, hnd⟩ := hW
  have hA : DataW.TrodAll enc Tryz.prog W 0 (fun _ => true) true Tryz.f4.params.toList args.toList ds p := hA0
  rw [Tryz.params4] at hA hval hsz
  obtain ⟨v0, vs0, d0, ds0, p0, q0, hargs, rfl, rfl, h0, r0⟩ := trodAll_cons hA
  obtain ⟨v1, vs1, d1, ds1, p1, q1, rfl, rfl, rfl, h1, r1⟩ := trodAll_cons r0
  obtain ⟨rfl, rfl, rfl⟩ := trodAll_nil r1
  obtain rfl : args = #[v0, v1] := by cases args; simp_all
  obtain ⟨rfl, rfl⟩ := trodVars_none hV
  obtain ⟨a0, len0, cap0, rfl⟩ := okWide_slice Tryz.underlying41 (hval 0 41 v0 rfl rfl)
  have k0 := h0
  have lt0 : ∀ x ∈ p0, x.block < W.heap.size := by obtain ⟨m, hm⟩ := k0; exact DataW.trod_lt m _ _ _ hm
  obtain ⟨l0, hl0, z0, hr0⟩ : ∃ l : List Nat, len0 = l.length ∧ cap0 ≤ 140737488351232 ∧ Row W a0 cap0 l := by
    obtain ⟨fuel, hf⟩ := h0
    rcases open_ints Tryz.underlying41 Tryz.underlying5 (by kernel_rfl) hf with ⟨hcs, _⟩ | ⟨x, l, c, zs, hcs, _, hl, hm, hz, hx, hcell, hwz⟩
    · simp [Value.cells] at hcs
      obtain ⟨rfl, rfl, rfl⟩ := hcs
      exact ⟨[], rfl, by omega, row_nil _ _⟩
    · simp [Value.cells] at hcs
      obtain ⟨rfl, rfl, rfl⟩ := hcs
      have hz' : zs.length = cap0 := by simpa using hz
      have hd : d0 = .slice (lits .u8 (zs.take len0)) (lits .u8 (zs.drop len0)) := congrArg Prod.fst hx
      have hcap : cap0 ≤ 140737488351232 := by
        have := sized_slice hsz (j := 0) (t := 41) (e := 5) rfl (by rw [hd]; rfl) Tryz.underlying41
        rw [bytes8] at this
        simp only [lits, List.length_map, List.length_take, List.length_drop, reachBytes] at this
        omega
      obtain ⟨l, h1, h2⟩ := row_of_ints hl (Nat.le_trans hcap (by omega)) hz' hcell hwz
      exact ⟨l, h1, hcap, h2⟩
  obtain ⟨a1, rfl, rfl, rfl, w1⟩ := open_int Tryz.underlying3 (hval 1 3 v1 rfl rfl) h1
  clear hA0 hval0
  refine (walk W a0 len0 cap0 l0 hl0 z0 hr0 a1 w1).mono fun e W' ⟨he, fr⟩ => ?_
  have bel : Below W.heap.size W W' := fr.below (Nat.le_refl _) (fun _ f => f.elim)
  subst he
  exact ⟨_, rfl, _, _, _, [], _, [], hW', trodAll_mk1 (shut_bool Tryz.underlying4 _), (trodAll_cons_mk (Below.trod laidOut (by kernel_rfl) (of_decide_eq_true (by kernel_rfl)) k0 bel lt0) (trodAll_cons_mk (shut_int Tryz.underlying3 w1) trodAll_mk0)), rfl, bel.frame _, fun h => by cases h⟩

theorem proved : Rows.WalReadsSaid :=
  OpenClaim.holds_of_wide 4 Tryz.f4 rfl rfl rfl rfl rfl rfl rfl ⟨rfl, rfl, rfl, rfl, rfl⟩ rfl rfl rfl rfl rfl (by kernel_rfl) Tryz.func4 (by kernel_rfl)
    (of_decide_eq_true (by kernel_rfl)) (by unfold Func.isWrapper; first | (rw [if_pos (by decide +kernel)]; kernel_rfl) | (rw [if_neg (by decide +kernel)]; exact ⟨rfl, rfl⟩))
    (fun os started H enc _ => lifted os started H enc)
end Go.Proofs.YtnoadmkkkeianaaGreat.walReads
namespace Go.Proofs.YtnoadmkkkeianaaGreat
theorem walReads_holds : Rows.WalReadsSaid := walReads.proved
#print axioms walReads_holds
end Go.Proofs.YtnoadmkkkeianaaGreat
