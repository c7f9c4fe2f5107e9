
/- For every slice of bytes latticelaw06.PageDecodes answers true: Decode tells which bytes are a page, and the node that it is, as the document says (6.2); no condition. -/
import Derived.Test.YtaaedmacefiinaaZD3
namespace Go.Proofs.Ytaaedmacefiinaa.pageDecodes
open Go.ChangeShapes Go.WideShapes Go.ChangeAt Go.RowKit
open Go.ChangeMaps (open_string shut_string)
set_option linter.unusedVariables false

theorem own : ownKnob Try.prog.godebug = none := by kernel_rfl
theorem laidOut : laidOutB Try.prog = true := by kernel_rfl
theorem bytes8 : Try.prog.bytesOf 5 = 1 := by kernel_rfl

theorem rdecode_all (a : Option Addr) (k cap : Nat) (l : List Nat) (hk : k = l.length) (w : World) (hr : Row w a cap l) :
    Calls Try.prog 16 #[.slice a k cap] w fun e w' => ∃ p3 : Pt, e = .returned (.tuple #[(.agg #[.int .i64 ((decF l).getD zn).lev, .int .i64 ((decF l).getD zn).lsn, .int .i64 ((decF l).getD zn).rgt, .string ((decF l).getD zn).high, .slice p3.k ((decF l).getD zn).keys.length p3.kc, .slice p3.v ((decF l).getD zn).vals.length p3.vc, .slice p3.i ((decF l).getD zn).kids.length p3.ic]), .int .i64 (if (decF l).isSome = true then 0 else 60)]) ∧ Nod w' ((decF l).getD zn) p3 ∧ Fr (fun _ => False) w w' := by
  by_cases h : l.length = 256
  · rw [hk, h]
    by_cases l0 : (numS (l.take 252, 0) 1).1 = 0
    · exact rdecode_leaf a cap l h w hr l0
    · exact rdecode_inner a cap l h w hr l0
  · exact rdecode_len a k cap l hk h w
set_option maxRecDepth 100000 in
set_option maxHeartbeats 2000000 in
theorem walk (w : World) (a : Option Addr) (k cap : Nat) (l : List Nat) (hk : k = l.length) (hz : cap ≤ 140737488351232) (hr : Row w a cap l) :
    Calls Try.prog 4 #[.slice a k cap] w fun e w' => e = .returned (.bool true) ∧ Fr (fun _ => False) w w' := by
  have g1 := decode_all a k cap l hk w hr
  have g2 := fun W hW => rdecode_all a k cap l hk W hW
  have HRW : Hid (∀ W, Fr (fun _ => False) w W → Row W a cap l) := fun W f => hr.same f
  obtain ⟨er, her⟩ : ∃ er : Int, er = if (decF l).isSome = true then 0 else 60 := ⟨_, rfl⟩
  rw [← her] at g1 g2
  generalize (decF l).getD zn = n at *
  clear her hk hr hz
  go_enter Try.func4, Try.ntmps4
  go_wp2_with fail
  refine g1.mono ?_
  rintro e w1 ⟨p1, rfl, nd1, f1⟩
  clear g1
  have x1 := Fr.box w1 (.cells #[.int .i64 n.lev, .int .i64 n.lsn, .int .i64 n.rgt, .string n.high, .slice p1.k n.keys.length p1.kc, .slice p1.v n.vals.length p1.vc, .slice p1.i n.kids.length p1.ic] 25)
  have HB1 : Hid (∀ W, Fr (fun _ => False) (w1.alloc (.cells #[.int .i64 n.lev, .int .i64 n.lsn, .int .i64 n.rgt, .string n.high, .slice p1.k n.keys.length p1.kc, .slice p1.v n.vals.length p1.vc, .slice p1.i n.kids.length p1.ic] 25)) W → W.cell? ⟨w1.heap.size, 0, none⟩ = some (.int .i64 n.lev) ∧ W.cell? ⟨w1.heap.size, 1, none⟩ = some (.int .i64 n.lsn) ∧ W.cell? ⟨w1.heap.size, 2, none⟩ = some (.int .i64 n.rgt) ∧ W.cell? ⟨w1.heap.size, 3, none⟩ = some (.string n.high) ∧ W.cell? ⟨w1.heap.size, 4, none⟩ = some (.slice p1.k n.keys.length p1.kc) ∧ W.cell? ⟨w1.heap.size, 5, none⟩ = some (.slice p1.v n.vals.length p1.vc) ∧ W.cell? ⟨w1.heap.size, 6, none⟩ = some (.slice p1.i n.kids.length p1.ic)) := fun W f => box_cells (box_at w1 n p1 25 f)
  have F1 := f1.seq' x1
  go_wp2_with fail
  refine (g2 _ (HRW.out _ F1)).mono ?_
  rintro e w2 ⟨p2, rfl, nd2, f2⟩
  clear g2
  have x2 := Fr.box w2 (.cells #[.int .i64 n.lev, .int .i64 n.lsn, .int .i64 n.rgt, .string n.high, .slice p2.k n.keys.length p2.kc, .slice p2.v n.vals.length p2.vc, .slice p2.i n.kids.length p2.ic] 25)
  have L2 := f2.seq' x2
  have F2 := F1.seq' L2
  have hp1 := plain_same n p1 p2 _ ((nd1.same x1).same L2) (nd2.same x2)
  obtain ⟨c0, c1, c2, c3, c4, c5, c6⟩ := HB1.out _ L2
  go_wp2_with fail
  refine hp1.mono ?_
  rintro e w3 ⟨rfl, f3⟩
  go_wp2_with fail
  refine (pspeaks_any _).mono ?_
  rintro e w7 ⟨rfl, f7⟩
  go_wp2
  go_ret
  exact ⟨rfl, (F2.seq' f3).seq' f7⟩

set_option maxRecDepth 100000 in
theorem lifted (os : Os) (started : os.Started) (H : Type) (enc : TypeId × Value → H) :
    ReturnsInHanded {} Try.checked os 4 .any (Rows.pageDecodesSpec.pre6 enc Try.prog Try.f4 Rows.pageDecodesRow.domain false) (Rows.pageDecodesSpec.post enc Try.prog Try.f4 false true false false) := by
  refine returnsInHanded_of_change_sized (C := Try.checked) own started (by kernel_rfl) Try.func4
    (ChangeSpec.witness6 (enc := enc) (C := Try.checked) false ⟨#[], #[.slice none 0 0], []⟩ 8 (by kernel_rfl) (by kernel_rfl) (by kernel_rfl) (by kernel_rfl)) ?_
  intro W base args ds gs before hval0 hW hcnd hsz0 _
  have hsz : (DataW.weightsEach Try.prog (Try.f4.params.toList ++ Rows.pageDecodesSpec.plain.varTypes Try.prog) (ds ++ gs)).all (· ≤ reachBytes) = true := hsz0
  clear hsz0
  have hval : ∀ (j : Nat) t v, Try.f4.params[j]? = some t → args[j]? = some v → Value.okWide Try.prog W .any base t v := hval0
  have hW' := hW
  obtain ⟨p, q, hA0, hV, rfl, hfz, hnd⟩ := hW
  have hA : DataW.TrodAll enc Try.prog W 0 (fun _ => true) true Try.f4.params.toList args.toList ds p := hA0
  rw [Try.params4] at hA hval hsz
  obtain ⟨v0, vs0, d0, ds0, p0, q0, hargs, rfl, rfl, h0, r0⟩ := trodAll_cons hA
  obtain ⟨rfl, rfl, rfl⟩ := trodAll_nil r0
  obtain rfl : args = #[v0] := by cases args; simp_all
  obtain ⟨rfl, rfl⟩ := trodVars_none hV
  obtain ⟨a0, len0, cap0, rfl⟩ := okWide_slice Try.underlying26 (hval 0 26 v0 rfl rfl)
  have k0 := h0
  have lt0 : ∀ x ∈ p0, x.block < W.heap.size := by obtain ⟨m, hm⟩ := k0; exact DataW.trod_lt m _ _ _ hm
  obtain ⟨l0, hl0, z0, hr0⟩ : ∃ l : List Nat, len0 = l.length ∧ cap0 ≤ 140737488351232 ∧ Row W a0 cap0 l := by
    obtain ⟨fuel, hf⟩ := h0
    rcases open_ints Try.underlying26 Try.underlying5 (by kernel_rfl) hf with ⟨hcs, _⟩ | ⟨x, l, c, zs, hcs, _, hl, hm, hz, hx, hcell, hwz⟩
    · simp [Value.cells] at hcs
      obtain ⟨rfl, rfl, rfl⟩ := hcs
      exact ⟨[], rfl, by omega, row_nil _ _⟩
    · simp [Value.cells] at hcs
      obtain ⟨rfl, rfl, rfl⟩ := hcs
      have hz' : zs.length = cap0 := by simpa using hz
      have hd : d0 = .slice (lits .u8 (zs.take len0)) (lits .u8 (zs.drop len0)) := congrArg Prod.fst hx
      have hcap : cap0 ≤ 140737488351232 := by
        have := sized_slice hsz (j := 0) (t := 26) (e := 5) rfl (by rw [hd]; rfl) Try.underlying26
        rw [bytes8] at this
        simp only [lits, List.length_map, List.length_take, List.length_drop, reachBytes] at this
        omega
      obtain ⟨l, h1, h2⟩ := row_of_ints hl (Nat.le_trans hcap (by omega)) hz' hcell hwz
      exact ⟨l, h1, hcap, h2⟩
  clear hA0 hval0
  refine (walk W a0 len0 cap0 l0 hl0 z0 hr0).mono fun e W' ⟨he, fr⟩ => ?_
  have bel : Below W.heap.size W W' := fr.below (Nat.le_refl _) (fun _ f => f.elim)
  subst he
  exact ⟨_, rfl, _, _, _, [], _, [], hW', trodAll_mk1 (shut_bool Try.underlying4 _), (trodAll_cons_mk (Below.trod laidOut (by kernel_rfl) (of_decide_eq_true (by kernel_rfl)) k0 bel lt0) trodAll_mk0), rfl, bel.frame _, fun h => by cases h⟩

theorem proved : Rows.PageDecodesSaid :=
  OpenClaim.holds_of_wide 4 Try.f4 rfl rfl rfl rfl rfl rfl rfl ⟨rfl, rfl, rfl, rfl, rfl⟩ rfl rfl rfl rfl rfl (by kernel_rfl) Try.func4 (by kernel_rfl)
    (of_decide_eq_true (by kernel_rfl)) (by unfold Func.isWrapper; first | (rw [if_pos (by decide +kernel)]; kernel_rfl) | (rw [if_neg (by decide +kernel)]; exact ⟨rfl, rfl⟩))
    (fun os started H enc _ => lifted os started H enc)
end Go.Proofs.Ytaaedmacefiinaa.pageDecodes
namespace Go.Proofs.Ytaaedmacefiinaa
theorem pageDecodes_holds : Rows.PageDecodesSaid := pageDecodes.proved
#print axioms pageDecodes_holds
end Go.Proofs.Ytaaedmacefiinaa
