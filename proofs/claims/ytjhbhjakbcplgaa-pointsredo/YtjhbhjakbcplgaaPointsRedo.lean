
/- For any list of dirty pages and any last LSN, points.Redo answers as the document's own Redo, and the example speaks; with no condition but those of the statement's own form. -/
import Derived.Test.YtjhbhjakbcplgaaArgs
import Derived.Test.YtjhbhjakbcplgaaPtLaw
import Derived.Deep.DeepCutAuto
import Derived.Deep.RegionHeld3
import Derived.Deep.RegionWith
namespace Go.Proofs.Ytjhbhjakbcplgaa.pointsRedo
open Go.ChangeShapes Go.WideShapes Go.ChangeAt Go.RowKit
open Go.ChangeMaps (open_string shut_string)
set_option linter.unusedVariables false

theorem own : ownKnob Try.prog.godebug = none := by kernel_rfl
theorem laidOut : laidOutB Try.prog = true := by kernel_rfl
theorem bytes8 : Try.prog.bytesOf 5 = 1 := by kernel_rfl

theorem append_step {P : Program} {w w' : World} {ops : Array Oper} {rest : List Oper} {o : Oper} {ac : Act} {Q : Exit → Act → World → Prop} {v x v' : Value} (hgd : o.guard = none) (sl xo : Operand) (t : TypeId)
    (ho : o.op = .call { callee := .builtin .append, args := #[sl, xo], argTypes := #[t, t] }) (hse : ac.eval sl = v) (hxe : ac.eval xo = x) (hrun : (Builtin.append_ #[t, t] o.type #[v, x]).run P w = .ok v' w')
    (h : wpList P ops Q rest (ac.put o.dst v') w') : wpList P ops Q (o :: rest) ac w :=
  wpList_plain hgd fun _ hK => by
    unfold Oper.wp execOp
    simp only [ho, resolve, invoke, builtin, Sem.run_bind, Sem.run_pure, Result.andThen_ok, List.map_toArray, List.map_cons, List.map_nil, hse, hxe, hrun]
    exact hK _ _ h
open Go.Proofs.Ytjhbhjakbcplgaa.Crcm
set_option maxRecDepth 100000 in
set_option maxHeartbeats 4000000 in
theorem walk (w : World) (a0 : Option Addr) (len0 cap0 : Nat) (ds : List Dy) (hl0 : len0 = ds.length) (z0 : ds.length ≤ 8796093021952) (hr0 : Dys w a0 cap0 ds) (a1 : Int) (w1 : (Lit.int .i64 a1).wf = true) :
    Calls Try.prog 3 #[.slice a0 len0 cap0, .int .i64 a1] w fun e w' => e = .returned (.bool true) ∧ Fr (fun _ => False) w w' := by
  have hle := hr0.le
  have hmx := hr0.max
  have HZ : Hid (ds.length ≤ 8796093021952) := z0
  have HR0 : Hid (Dys w a0 cap0 ds) := hr0
  have HL0 : Hid (len0 = ds.length) := hl0
  have hlm : len0 ≤ 8796093021952 := by omega
  clear w1 z0 hl0
  go_enter Try.func3, Try.ntmps3
  go_wp2
  go_loopw [5, 14] (fun v i wr => ∃ (k : Nat), k ≤ len0 ∧ i = .int .i64 k ∧ Hid (wr.ownsRow w.heap.size 3 1 v (((ds.take k).map Dy.fst).length) (((ds.take k).map Dy.fst).map zI)) ∧ Hid (Fr (fun _ => False) w wr))
    (fun _ i _ => len0 - (intOf i).toNat)
  case atStart => exact ⟨0, by omega, rfl, World.ownsRow_nil _ _ _ _, Fr.refl _ _⟩
  case round =>
    obtain ⟨k, hk, rfl, HO, HF⟩ := hrel
    obtain ⟨l, hl⟩ : ∃ l, l = (ds.take k).map Dy.fst := ⟨_, rfl⟩
    rw [← hl] at HO
    have HLE : Hid (l.length = k) := by show _ = _; rw [hl, List.length_map, List.length_take]; have := HL0.out; omega
    by_cases hlt : k < len0
    · obtain ⟨d, hd⟩ : ∃ d, ds[k]? = some d := ⟨ds[k]'(by have := HL0.out; omega), List.getElem?_eq_getElem (by have := HL0.out; omega)⟩
      obtain ⟨b, off, rfl, hb, hc⟩ := hr0.some (by have := HL0.out; omega)
      obtain ⟨c0, c1⟩ := hc k d hd
      obtain ⟨pg, f⟩ := d
      have c0' := (HF.out.cell (p := ⟨b, off + k * 2, none⟩) hb (fun f => f)).trans c0
      have c1' := (HF.out.cell (p := ⟨b, off + k * 2 + 1, none⟩) hb (fun f => f)).trans c1
      have hl2 : l ++ [f] = (ds.take (k + 1)).map Dy.fst := by rw [hl, List.take_add_one, hd]; simp
      have HL2 : Hid (l ++ [f] = (ds.take (k + 1)).map Dy.fst) := hl2
      obtain ⟨q, hq⟩ : ∃ q, q = wr.heap.size := ⟨_, rfl⟩
      obtain ⟨W1, hW1⟩ : ∃ W1, W1 = wr.alloc (.cells #[.int .i64 pg, .int .i64 f] 25) := ⟨_, rfl⟩
      have fb : Fr (fun _ => False) wr W1 := by rw [hW1]; exact Fr.box wr _
      have hx2 : W1.heap[q]? = some (.cells #[.int .i64 pg, .int .i64 f] 25 (0, 0)) := by rw [hW1, hq]; exact heap_alloc_new wr _
      have HW1 : Hid (wr.alloc (.cells #[.int .i64 pg, .int .i64 f] 25) = W1) := hW1.symm
      have HQ1 : Hid (wr.heap.size = q) := hq.symm
      have F1 : Hid (Fr (fun _ => False) w W1) := HF.out.seq' fb
      have HO1 := row_fr HO.out fb (fun _ _ _ f => f)
      obtain ⟨d0, d1, _, _⟩ := cell_of_two hx2
      obtain ⟨a', c', w', hrun, hown, fa⟩ := app_one f HO1 (by have := F1.out.size; omega) (by rw [HLE.out]; have := HZ.out; have := HL0.out; omega)
      have F2 : Hid (Fr (fun _ => False) w w') := F1.out.trans fa (fun i hi e => by omega)
      have HOW : Hid (w'.ownsRow w.heap.size 3 1 (.slice a' (l.length + 1) c') (l ++ [f]).length ((l ++ [f]).map zI)) := hown
      clear hl hl2 hd hc c0 c1 hW1 hq hx2 fb hown fa HO HO1 HLE F1 HF hr0
      go_upto_region 5 with fail
      rw [HW1.out, HQ1.out]
      go_wp2_with (at_builtin; refine append_step rfl _ _ 23 rfl rfl rfl hrun ?_)
      go_roundw
      case rel => exact ⟨k + 1, by omega, by go_num, by rw [← HL2.out]; exact HOW.out, F2.out⟩
      case measure => simp [intOf]; omega
    · have hkn : k = len0 := by omega
      have hl3 : l = ds.map Dy.fst := by rw [hl, List.take_of_length_le (by have := HL0.out; omega)]
      have HL3 : Hid (l = ds.map Dy.fst) := hl3
      obtain ⟨a, c, rfl, hir⟩ := Ir.of HO.out
      obtain ⟨⟨r1, r2⟩, hr⟩ : ∃ r, r = rdoF (ds.map Dy.fst) a1 := ⟨_, rfl⟩
      have HRR : Hid (rdoF (ds.map Dy.fst) a1 = (r1, r2)) := hr.symm
      clear hl hl3 hr HO HLE hkn
      have hd1 := hr0.same HF.out
      go_wp2_with fail
      refine (redo_any a0 _ cap0 ds HL0.out a1 _ hd1).mono ?_
      rw [HRR.out]
      rintro e w2 ⟨rfl, f2⟩
      have hir2 := hir.fr f2 (fun _ _ _ f => f)
      go_wp2_with fail
      refine (rredo_any w.heap.size a _ c l rfl a1 _ hir2).mono ?_
      rw [HL3.out, HRR.out]
      rintro e w3 ⟨rfl, rfl⟩
      have F2 := HF.out.seq' f2
      clear hd1 hir hir2 f2
      go_wp2_with (go_at_call 9; refine (ptspeaks_any _).mono ?_; rintro e w7 ⟨rfl, f7⟩)
      go_ret
      exact ⟨rfl, F2.seq' f7⟩

set_option maxRecDepth 100000 in
theorem lifted (os : Os) (started : os.Started) (H : Type) (enc : TypeId × Value → H) :
    ReturnsInHanded {} Try.checked os 3 .any (Rows.pointsRedoSpec.pre6 enc Try.prog Try.f3 Rows.pointsRedoRow.domain false) (Rows.pointsRedoSpec.post enc Try.prog Try.f3 false true false false) := by
  refine returnsInHanded_of_change_sized (C := Try.checked) own started (by kernel_rfl) Try.func3
    (ChangeSpec.witness6 (enc := enc) (C := Try.checked) false ⟨#[], #[.slice none 0 0, .int .i64 0], []⟩ 8 (by kernel_rfl) (by kernel_rfl) (by kernel_rfl) (by kernel_rfl)) ?_
  intro W base args ds gs before hval0 hW hcnd hsz0 _
  have hsz : (DataW.weightsEach Try.prog (Try.f3.params.toList ++ Rows.pointsRedoSpec.plain.varTypes Try.prog) (ds ++ gs)).all (· ≤ reachBytes) = true := hsz0
  clear hsz0
  have hval : ∀ (j : Nat) t v, Try.f3.params[j]? = some t → args[j]? = some v → Value.okWide Try.prog W .any base t v := hval0
  have hW' := hW
  obtain ⟨p, q, hA0, hV, rfl, hfz, hnd⟩ := hW
  have hA : DataW.TrodAll enc Try.prog W 0 (fun _ => true) true Try.f3.params.toList args.toList ds p := hA0
  rw [Try.params3] at hA hval hsz
  obtain ⟨v0, vs0, d0, ds0, p0, q0, hargs, rfl, rfl, h0, r0⟩ := trodAll_cons hA
  obtain ⟨v1, vs1, d1, ds1, p1, q1, rfl, rfl, rfl, h1, r1⟩ := trodAll_cons r0
  obtain ⟨rfl, rfl, rfl⟩ := trodAll_nil r1
  obtain rfl : args = #[v0, v1] := by cases args; simp_all
  obtain ⟨rfl, rfl⟩ := trodVars_none hV
  obtain ⟨a0, len0, cap0, rfl⟩ := okWide_slice Try.underlying22 (hval 0 22 v0 rfl rfl)
  have k0 := h0
  have lt0 : ∀ x ∈ p0, x.block < W.heap.size := by obtain ⟨m, hm⟩ := k0; exact DataW.trod_lt m _ _ _ hm
  have wz0 : ∀ z ∈ d0.weights Try.prog 22, z ≤ reachBytes := fun z hz => by simpa using List.all_eq_true.1 hsz z (DataW.weights_mem_each (j := 0) rfl rfl z hz)
  obtain ⟨ls0, hl0, z0, hr0⟩ : ∃ ls : List Dy, len0 = ls.length ∧ ls.length ≤ 8796093021952 ∧ Dys W a0 cap0 ls := by
    obtain ⟨fuel, hf⟩ := h0
    exact dys_open hf wz0
  obtain ⟨a1, rfl, rfl, rfl, w1⟩ := open_int Try.underlying3 (hval 1 3 v1 rfl rfl) h1
  clear hA0 hval0
  refine (walk W a0 len0 cap0 ls0 hl0 z0 hr0 a1 w1).mono fun e W' ⟨he, fr⟩ => ?_
  have bel : Below W.heap.size W W' := fr.below (Nat.le_refl _) (fun _ f => f.elim)
  subst he
  exact ⟨_, rfl, _, _, _, [], _, [], hW', trodAll_mk1 (shut_bool Try.underlying4 _), (trodAll_cons_mk (Below.trod laidOut (by kernel_rfl) (of_decide_eq_true (by kernel_rfl)) k0 bel lt0) (trodAll_cons_mk (shut_int Try.underlying3 w1) trodAll_mk0)), rfl, bel.frame _, fun h => by cases h⟩

theorem proved : Rows.PointsRedoSaid :=
  OpenClaim.holds_of_wide 3 Try.f3 rfl rfl rfl rfl rfl rfl rfl ⟨rfl, rfl, rfl, rfl, rfl⟩ rfl rfl rfl rfl rfl (by kernel_rfl) Try.func3 (by kernel_rfl)
    (of_decide_eq_true (by kernel_rfl)) (by unfold Func.isWrapper; first | (rw [if_pos (by decide +kernel)]; kernel_rfl) | (rw [if_neg (by decide +kernel)]; exact ⟨rfl, rfl⟩))
    (fun os started H enc _ => lifted os started H enc)
end Go.Proofs.Ytjhbhjakbcplgaa.pointsRedo
namespace Go.Proofs.Ytjhbhjakbcplgaa
theorem pointsRedo_holds : Rows.PointsRedoSaid := pointsRedo.proved
#print axioms pointsRedo_holds
end Go.Proofs.Ytjhbhjakbcplgaa
