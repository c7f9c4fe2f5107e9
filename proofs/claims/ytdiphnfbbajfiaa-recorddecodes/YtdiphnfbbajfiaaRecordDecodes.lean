
/- For every bytes, Decode tells the record, the size and the error that the document's own answer tells; no condition on the input. -/
import Derived.Test.YtdiphnfbbajfiaaYB4
import Derived.Test.YtdiphnfbbajfiaaYB15
import Derived.Test.YtdiphnfbbajfiaaYB9
namespace Go.Proofs.Ytdiphnfbbajfiaa.recordDecodes
open Go.ChangeShapes Go.WideShapes Go.ChangeAt Go.RowKit
open Go.ChangeMaps (open_string shut_string)
set_option linter.unusedVariables false

theorem own : ownKnob Try.prog.godebug = none := by kernel_rfl
theorem laidOut : laidOutB Try.prog = true := by kernel_rfl
theorem bytes8 : Try.prog.bytesOf 5 = 1 := by kernel_rfl

open Go.Proofs.Ytdiphnfbbajfiaa.Crcm

set_option maxRecDepth 100000 in
set_option maxHeartbeats 2000000 in
theorem walk (w : World) (a : Option Addr) (k cap : Nat) (l : List Nat) (hk : k = l.length) (_hz : cap ≤ 140737488351232) (hr : Row w a cap l) :
    Calls Try.prog 4 #[.slice a k cap] w fun e w' => e = .returned (.bool true) ∧ Fr (fun _ => False) w w' := by
  have g1 := decode_rec a k cap l hk w hr
  have g2 := fun W hW => rdecode_rec a k cap l hk W hW
  have HRW : Hid (∀ W, Fr (fun _ => False) w W → Row W a cap l) := fun W f => hr.same f
  unfold RdOut at g1 g2
  obtain ⟨y, m, n, hy⟩ : ∃ y m n, rdec l = (y, m, n) := ⟨_, _, _, rfl⟩
  rw [hy] at g1 g2
  dsimp only at g1 g2
  clear hy hk hr
  go_enter Try.func4, Try.ntmps4
  go_wp2_with fail
  refine g1.mono ?_
  rintro e w1 ⟨rfl, f1⟩
  clear g1
  have x1 := Fr.box w1 (.cells #[.int .i64 y.lsn, .int .i64 y.ep, .int .i64 y.kind, .int .i64 y.page, .int .i64 y.other, .int .i64 y.req, .string y.key, .string y.val] 23)
  have F1 := f1.seq' x1
  go_wp2_with fail
  refine (g2 _ (HRW.out _ F1)).mono ?_
  rintro e w2 ⟨rfl, f2⟩
  clear g2
  have x2 := Fr.box w2 (.cells #[.int .i64 y.lsn, .int .i64 y.ep, .int .i64 y.kind, .int .i64 y.page, .int .i64 y.other, .int .i64 y.req, .string y.key, .string y.val] 23)
  have L2 := f2.seq' x2
  have F2 := F1.seq' L2
  obtain ⟨⟨c0, c1, c2, c3, c4, c5, c6, c7⟩, _⟩ := rec_cells (rec_at w1 _ _ L2)
  go_wp2_with fail
  refine (rspeaks_any _).mono ?_
  rintro e w7 ⟨rfl, f7⟩
  go_wp2
  go_ret
  exact ⟨rfl, F2.seq' f7⟩

set_option maxRecDepth 100000 in
theorem lifted (os : Os) (started : os.Started) (H : Type) (enc : TypeId × Value → H) :
    ReturnsInHanded {} Try.checked os 4 .any (Rows.recordDecodesSpec.pre6 enc Try.prog Try.f4 Rows.recordDecodesRow.domain false) (Rows.recordDecodesSpec.post enc Try.prog Try.f4 false true false false) := by
  refine returnsInHanded_of_change_sized (C := Try.checked) own started (by kernel_rfl) Try.func4
    (ChangeSpec.witness6 (enc := enc) (C := Try.checked) false ⟨#[], #[.slice none 0 0], []⟩ 8 (by kernel_rfl) (by kernel_rfl) (by kernel_rfl) (by kernel_rfl)) ?_
  intro W base args ds gs before hval0 hW hcnd hsz0 _
  have hsz : (DataW.weightsEach Try.prog (Try.f4.params.toList ++ Rows.recordDecodesSpec.plain.varTypes Try.prog) (ds ++ gs)).all (· ≤ reachBytes) = true := hsz0
  clear hsz0
  have hval : ∀ (j : Nat) t v, Try.f4.params[j]? = some t → args[j]? = some v → Value.okWide Try.prog W .any base t v := hval0
  have hW' := hW
  obtain ⟨p, q, hA0, hV, rfl, hfz, hnd⟩ := hW
  have hA : DataW.TrodAll enc Try.prog W 0 (fun _ => true) true Try.f4.params.toList args.toList ds p := hA0
  rw [Try.params4] at hA hval hsz
  obtain ⟨v0, vs0, d0, ds0, p0, q0, hargs, rfl, rfl, h0, r0⟩ := trodAll_cons hA
  obtain ⟨rfl, rfl, rfl⟩ := trodAll_nil r0
  obtain rfl : args = #[v0] := by cases args; simp_all
  obtain ⟨rfl, rfl⟩ := trodVars_none hV
  obtain ⟨a0, len0, cap0, rfl⟩ := okWide_slice Try.underlying24 (hval 0 24 v0 rfl rfl)
  have k0 := h0
  have lt0 : ∀ x ∈ p0, x.block < W.heap.size := by obtain ⟨m, hm⟩ := k0; exact DataW.trod_lt m _ _ _ hm
  obtain ⟨l0, hl0, z0, hr0⟩ : ∃ l : List Nat, len0 = l.length ∧ cap0 ≤ 140737488351232 ∧ Row W a0 cap0 l := by
    obtain ⟨fuel, hf⟩ := h0
    rcases open_ints Try.underlying24 Try.underlying5 (by kernel_rfl) hf with ⟨hcs, _⟩ | ⟨x, l, c, zs, hcs, _, hl, hm, hz, hx, hcell, hwz⟩
    · simp [Value.cells] at hcs
      obtain ⟨rfl, rfl, rfl⟩ := hcs
      exact ⟨[], rfl, by omega, row_nil _ _⟩
    · simp [Value.cells] at hcs
      obtain ⟨rfl, rfl, rfl⟩ := hcs
      have hz' : zs.length = cap0 := by simpa using hz
      have hd : d0 = .slice (lits .u8 (zs.take len0)) (lits .u8 (zs.drop len0)) := congrArg Prod.fst hx
      have hcap : cap0 ≤ 140737488351232 := by
        have := sized_slice hsz (j := 0) (t := 24) (e := 5) rfl (by rw [hd]; rfl) Try.underlying24
        rw [bytes8] at this
        simp only [lits, List.length_map, List.length_take, List.length_drop, reachBytes] at this
        omega
      obtain ⟨l, h1, h2⟩ := row_of_ints hl (Nat.le_trans hcap (by omega)) hz' hcell hwz
      exact ⟨l, h1, hcap, h2⟩
  clear hA0 hval0
  refine (walk W a0 len0 cap0 l0 hl0 z0 hr0).mono fun e W' ⟨he, fr⟩ => ?_
  have bel : Below W.heap.size W W' := fr.below (Nat.le_refl _) (fun _ f => f.elim)
  subst he
  exact ⟨_, rfl, _, _, _, [], _, [], hW', trodAll_mk1 (shut_bool Try.underlying4 _), (trodAll_cons_mk (Below.trod laidOut (by kernel_rfl) (of_decide_eq_true (by kernel_rfl)) k0 bel lt0) trodAll_mk0), rfl, bel.frame _, fun h => by cases h⟩

theorem proved : Rows.RecordDecodesSaid :=
  OpenClaim.holds_of_wide 4 Try.f4 rfl rfl rfl rfl rfl rfl rfl ⟨rfl, rfl, rfl, rfl, rfl⟩ rfl rfl rfl rfl rfl (by kernel_rfl) Try.func4 (by kernel_rfl)
    (of_decide_eq_true (by kernel_rfl)) (by unfold Func.isWrapper; first | (rw [if_pos (by decide +kernel)]; kernel_rfl) | (rw [if_neg (by decide +kernel)]; exact ⟨rfl, rfl⟩))
    (fun os started H enc _ => lifted os started H enc)
end Go.Proofs.Ytdiphnfbbajfiaa.recordDecodes
namespace Go.Proofs.Ytdiphnfbbajfiaa
theorem recordDecodes_holds : Rows.RecordDecodesSaid := recordDecodes.proved
#print axioms recordDecodes_holds
end Go.Proofs.Ytdiphnfbbajfiaa
