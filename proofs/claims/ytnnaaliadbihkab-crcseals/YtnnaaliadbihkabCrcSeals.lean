/- For every row of bytes latticelaw02.CrcSeals answers true and leaves its argument as it was: what is sealed and opened is the document's (2.2); no condition. -/
import Derived.Test.YtnnaaliadbihkabArgs
import Derived.Test.YtnnaaliadbihkabSpeak
import Derived.Test.YtnnaaliadbihkabOpenAll
namespace Go.Proofs.Ytnnaaliadbihkab.crcSeals
open Go.ChangeShapes Go.WideShapes Go.ChangeAt Go.RowKit
open Go.ChangeMaps (open_string shut_string)
set_option linter.unusedVariables false

theorem own : ownKnob Try.prog.godebug = none := by kernel_rfl
theorem laidOut : laidOutB Try.prog = true := by kernel_rfl
theorem bytes8 : Try.prog.bytesOf 5 = 1 := by kernel_rfl

open Go.Proofs.Ytnnaaliadbihkab.Crcm
set_option maxHeartbeats 4000000 in
theorem walk (w : World) (a0 : Option Addr) (len0 cap0 : Nat) (l0 : List Nat) (hl0 : len0 = l0.length) (hcap : cap0 ≤ 140737488351232) (hr0 : Row w a0 cap0 l0) :
    Calls Try.prog 4 #[.slice a0 len0 cap0] w fun e w' => e = .returned (.bool true) ∧ Fr (fun _ => False) w w' := by
  subst hl0
  have hle := hr0.le
  go_enter Try.func4, Try.ntmps4
  go_wp2_with fail
  refine (open_all a0 _ cap0 l0 rfl _ hr0).mono ?_
  rintro e w1 ⟨ax, cx, rfl, hrx, f1⟩
  go_wp2_with fail
  refine (refOpen_all a0 _ cap0 l0 rfl _ (hr0.same f1)).mono ?_
  rintro e w2 ⟨ay, cy, rfl, hry, f2⟩
  have f02 := f1.false_trans f2
  have hrx2 := hrx.same f2
  obtain ⟨lx, hlx⟩ : ∃ lx, lx = (opened l0).1 := ⟨_, rfl⟩
  obtain ⟨er, her⟩ : ∃ er, er = (opened l0).2 := ⟨_, rfl⟩
  rw [← hlx, ← her]
  rw [← hlx] at hrx2 hry
  clear hlx her hrx
  have cvx := fun (W : World) (h : Fr (fun _ => False) w2 W) => run_str (P := Try.prog) (src := 22) (dst := 9) Try.underlying22 Try.underlying5 Try.underlying9 (hrx2.same h) lx.length rfl
  have cvy := fun (W : World) (h : Fr (fun _ => False) w2 W) => run_str (P := Try.prog) (src := 22) (dst := 9) Try.underlying22 Try.underlying5 Try.underlying9 (hry.same h) lx.length rfl
  have fd : Fr (fun _ => False) w2 w2.drew := (Fr.refl (fun _ => False) w2).drew
  have f2d : Fr (fun _ => False) w w2.drew := f02.drew
  have hl4 : l0.length + 4 ≤ 140737488355328 := by omega
  have hoc : octs (l0 ++ le4 (crc l0)) := fun x hx => by
    rcases List.mem_append.mp hx with h | h
    · exact hr0.byte x h
    · exact le4_octs _ x h
  have hlc : (l0 ++ le4 (crc l0)).length = l0.length + 4 := by simp [le4]
  obtain ⟨ls, hls⟩ : ∃ ls, ls = l0 ++ le4 (crc l0) := ⟨_, rfl⟩
  have HLS : Hid (l0 ++ le4 (crc l0) = ls) := hls.symm
  rw [← hls] at hoc hlc
  clear hls
  go_wp2
  go_region_with (first
    | (go_at_call 15; refine (seal_any a0 _ cap0 l0 rfl hl4 _ ?_).mono ?_; exact hr0.same f2d; rw [HLS.out]; rintro e w5 ⟨v5, rfl, m5⟩; obtain ⟨a5, c5, hv5, hr5⟩ := m5.own.row hoc (by omega); rw [hlc] at hv5; rw [hv5]; have f5 := fd.false_trans m5.fr; have f05 := f2d.false_trans m5.fr; have f55 := Fr.refl (fun _ => False) w5; have cv5 := fun (W : World) (h : Fr (fun _ => False) w5 W) => run_str (P := Try.prog) (src := 22) (dst := 9) Try.underlying22 Try.underlying5 Try.underlying9 (hr5.same h) (l0.length + 4) hlc.symm)
    | (go_at_call 16; refine (refSeal_any a0 _ cap0 l0 rfl hl4 _ ?_).mono ?_; exact hr0.same f05; rw [HLS.out]; rintro e w6 ⟨v6, rfl, m6⟩; obtain ⟨a6, c6, hv6, hr6⟩ := m6.own.row hoc (by omega); rw [hlc] at hv6; rw [hv6]; have f6 := f5.false_trans m6.fr; have f06 := f05.false_trans m6.fr; have f56 := m6.fr; have cv6 := run_str (P := Try.prog) (src := 22) (dst := 9) Try.underlying22 Try.underlying5 Try.underlying9 hr6 (l0.length + 4) hlc.symm)
    | (go_at_call 12; refine (speaks_any _).mono ?_; rintro e w7 ⟨rfl, f7⟩; have f07 := f06.false_trans f7))
  all_goals
    go_wp2
    go_ret
    exact ⟨rfl, f07⟩

set_option maxRecDepth 100000 in
theorem lifted (os : Os) (started : os.Started) (H : Type) (enc : TypeId × Value → H) :
    ReturnsInHanded {} Try.checked os 4 .any (Rows.crcSealsSpec.pre6 enc Try.prog Try.f4 Rows.crcSealsRow.domain false) (Rows.crcSealsSpec.post enc Try.prog Try.f4 false true false false) := by
  refine returnsInHanded_of_change_sized (C := Try.checked) own started (by kernel_rfl) Try.func4
    (ChangeSpec.witness6 (enc := enc) (C := Try.checked) false ⟨#[], #[.slice none 0 0], []⟩ 8 (by kernel_rfl) (by kernel_rfl) (by kernel_rfl) (by kernel_rfl)) ?_
  intro W base args ds gs before hval0 hW hcnd hsz0 _
  have hsz : (DataW.weightsEach Try.prog (Try.f4.params.toList ++ Rows.crcSealsSpec.plain.varTypes Try.prog) (ds ++ gs)).all (· ≤ reachBytes) = true := hsz0
  clear hsz0
  have hval : ∀ (j : Nat) t v, Try.f4.params[j]? = some t → args[j]? = some v → Value.okWide Try.prog W .any base t v := hval0
  have hW' := hW
  obtain ⟨p, q, hA0, hV, rfl, hfz, hnd⟩ := hW
  have hA : DataW.TrodAll enc Try.prog W 0 (fun _ => true) true Try.f4.params.toList args.toList ds p := hA0
  rw [Try.params4] at hA hval hsz
  obtain ⟨v0, vs0, d0, ds0, p0, q0, hargs, rfl, rfl, h0, r0⟩ := trodAll_cons hA
  obtain ⟨rfl, rfl, rfl⟩ := trodAll_nil r0
  obtain rfl : args = #[v0] := by cases args; simp_all
  obtain ⟨rfl, rfl⟩ := trodVars_none hV
  obtain ⟨a0, len0, cap0, rfl⟩ := okWide_slice Try.underlying22 (hval 0 22 v0 rfl rfl)
  have k0 := h0
  have lt0 : ∀ x ∈ p0, x.block < W.heap.size := by obtain ⟨m, hm⟩ := k0; exact DataW.trod_lt m _ _ _ hm
  obtain ⟨l0, hl0, z0, hr0⟩ : ∃ l : List Nat, len0 = l.length ∧ cap0 ≤ 140737488351232 ∧ Row W a0 cap0 l := by
    obtain ⟨fuel, hf⟩ := h0
    rcases open_ints Try.underlying22 Try.underlying5 (by kernel_rfl) hf with ⟨hcs, _⟩ | ⟨x, l, c, zs, hcs, _, hl, hm, hz, hx, hcell, hwz⟩
    · simp [Value.cells] at hcs
      obtain ⟨rfl, rfl, rfl⟩ := hcs
      exact ⟨[], rfl, by omega, row_nil _ _⟩
    · simp [Value.cells] at hcs
      obtain ⟨rfl, rfl, rfl⟩ := hcs
      have hz' : zs.length = cap0 := by simpa using hz
      have hd : d0 = .slice (lits .u8 (zs.take len0)) (lits .u8 (zs.drop len0)) := congrArg Prod.fst hx
      have hcap : cap0 ≤ 140737488351232 := by
        have := sized_slice hsz (j := 0) (t := 22) (e := 5) rfl (by rw [hd]; rfl) Try.underlying22
        rw [bytes8] at this
        simp only [lits, List.length_map, List.length_take, List.length_drop, reachBytes] at this
        omega
      obtain ⟨l, h1, h2⟩ := row_of_ints hl hcap hz' hcell hwz
      exact ⟨l, h1, hcap, h2⟩
  clear hA0 hval0
  refine (walk W a0 len0 cap0 l0 hl0 z0 hr0).mono fun e W' ⟨he, fr⟩ => ?_
  have bel : Below W.heap.size W W' := fr.below (Nat.le_refl _) (fun _ f => f.elim)
  subst he
  exact ⟨_, rfl, _, _, _, [], _, [], hW', trodAll_mk1 (shut_bool Try.underlying4 _), (trodAll_cons_mk (Below.trod laidOut (by kernel_rfl) (of_decide_eq_true (by kernel_rfl)) k0 bel lt0) trodAll_mk0), rfl, bel.frame _, fun h => by cases h⟩

theorem proved : Rows.CrcSealsSaid :=
  OpenClaim.holds_of_wide 4 Try.f4 rfl rfl rfl rfl rfl rfl rfl ⟨rfl, rfl, rfl, rfl, rfl⟩ rfl rfl rfl rfl rfl (by kernel_rfl) Try.func4 (by kernel_rfl)
    (of_decide_eq_true (by kernel_rfl)) (by unfold Func.isWrapper; first | (rw [if_pos (by decide +kernel)]; kernel_rfl) | (rw [if_neg (by decide +kernel)]; exact ⟨rfl, rfl⟩))
    (fun os started H enc _ => lifted os started H enc)
end Go.Proofs.Ytnnaaliadbihkab.crcSeals
namespace Go.Proofs.Ytnnaaliadbihkab
theorem crcSeals_holds : Rows.CrcSealsSaid := crcSeals.proved
#print axioms crcSeals_holds
end Go.Proofs.Ytnnaaliadbihkab
