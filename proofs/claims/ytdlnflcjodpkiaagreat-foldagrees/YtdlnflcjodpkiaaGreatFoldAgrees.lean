
/- For any records and any operation, result and place from which on, fold.Agrees answers as the document's own, and the example speaks; with no condition but those of the statement's own form. -/
import Derived.Test.YtdlnflcjodpkiaaGreatArgs
import Derived.Test.YtdlnflcjodpkiaaGreatFdSpk
import Derived.Test.YtdlnflcjodpkiaaGreatFdArg2
import Derived.Test.YtdlnflcjodpkiaaGreatFdRAgr2
namespace Go.Proofs.YtdlnflcjodpkiaaGreat.foldAgrees
open Go.ChangeShapes Go.WideShapes Go.ChangeAt Go.RowKit
open Go.ChangeMaps (open_string shut_string)
set_option linter.unusedVariables false

theorem own : ownKnob Tryz.prog.godebug = none := by kernel_rfl
theorem laidOut : laidOutB Tryz.prog = true := by kernel_rfl
theorem bytes8 : Tryz.prog.bytesOf 5 = 1 := by kernel_rfl

open Go.RowKit Go.Shelf
theorem seven_cells {W : World} {b : Nat} {t : TypeId} {c0 c1 c2 c3 c4 c5 c6 : Value} (h : W.heap[b]? = some (.cells #[c0, c1, c2, c3, c4, c5, c6] t (0, 0))) : W.cell? ⟨b, 0, none⟩ = some c0 ∧ W.cell? ⟨b, 1, none⟩ = some c1 ∧ W.cell? ⟨b, 2, none⟩ = some c2 ∧ W.cell? ⟨b, 3, none⟩ = some c3 ∧ W.cell? ⟨b, 4, none⟩ = some c4 ∧ W.cell? ⟨b, 5, none⟩ = some c5 ∧ W.cell? ⟨b, 6, none⟩ = some c6 := by
  refine ⟨?_, ?_, ?_, ?_, ?_, ?_, ?_⟩ <;> simp [World.cell?, h]
set_option maxRecDepth 100000 in
set_option maxHeartbeats 4000000 in
theorem walk (w : World) (a0 : Option Addr) (len0 cap0 : Nat) (ls : List Rec) (hl0 : len0 = ls.length) (hb0 : len0 * 80 ≤ 140737488355328) (hr0 : Recs w a0 cap0 ls) (hz0 : ∀ r ∈ ls, r.key.size ≤ 140737488351232 ∧ r.val.size ≤ 140737488351232) (o : Opn) (x : Rs) (xa : Option Addr) (xc : Nat) (f : Int) (ok : o.key.size ≤ 140737488351232) (ov : o.val.size ≤ 140737488351232) (xe : Ens w xa xc x.ents) (xs : ∀ e ∈ x.ents, e.1.size ≤ 140737488351232 ∧ e.2.size ≤ 140737488351232) :
    Calls Tryz.prog 6 #[.slice a0 len0 cap0, .agg #[.int .i64 o.kind, .string o.key, .string o.val, .bool x.found, .string x.val, .slice xa x.ents.length xc, .int .i64 f]] w fun e w' => e = .returned (.bool true) ∧ Fr (fun _ => False) w w' := by
  have HSP : Hid (∀ W, Calls Tryz.prog 13 #[] W fun e w' => e = .returned (.bool true) ∧ Fr (fun _ => False) W w') := speaks_any
  have ok' : o.key.size ≤ maxLen := by unfold maxLen; omega
  have ov' : o.val.size ≤ maxLen := by unfold maxLen; omega
  have xs' : ∀ e ∈ x.ents, e.1.size ≤ maxLen := fun e he => by have := (xs e he).1; unfold maxLen; omega
  by_cases hbig : 300 < len0
  · have hle := hr0.le
    have hmx := hr0.max
    obtain ⟨kind, key, val⟩ := o
    obtain ⟨fnd, rv, L⟩ := x
    have hle1 := xe.le
    have hmx1 := xe.max
    clear hr0 hz0 hl0 ok ov ok' ov' xe xs xs'
    dsimp only at hle1 ⊢
    go_enter Tryz.func6, Tryz.ntmps6
    go_wp2_with (go_at_call 13; refine (HSP.out _).mono ?_; rintro e w2 ⟨rfl, f2⟩)
    go_ret
    first | exact ⟨rfl, f2⟩ | exact ⟨rfl, (Fr.box w _).seq' f2⟩
  have hf : len0 ≤ 300 := by omega
  obtain ⟨pk, pb, HP, HRP⟩ : ∃ (pk : Nat) (pb : Bool), Hid (∀ W, Fr (fun _ => False) w W → Calls Tryz.prog 29 #[.slice a0 len0 cap0, .agg #[.int .i64 o.kind, .string o.key, .string o.val], .agg #[.bool x.found, .string x.val, .slice xa x.ents.length xc], .int .i64 f] W fun e w' => e = .returned (.tuple #[.int .i64 pk, .bool pb]) ∧ Fr (fun _ => False) W w') ∧ Hid (∀ W, Fr (fun _ => False) w W → Calls Tryz.prog 30 #[.slice a0 len0 cap0, .agg #[.int .i64 o.kind, .string o.key, .string o.val], .agg #[.bool x.found, .string x.val, .slice xa x.ents.length xc], .int .i64 f] W fun e w' => e = .returned (.tuple #[.int .i64 pk, .bool pb]) ∧ Fr (fun _ => False) W w') :=
    ⟨_, _, fun W g => agrees_any a0 len0 cap0 ls hl0 (by omega) o ok' ov' x xa _ xc rfl xs' f W (hr0.same g) (xe.same g), fun W g => ragrees_any a0 len0 cap0 ls hl0 (by omega) o ok' ov' x xa _ xc rfl f W (hr0.same g) (xe.same g)⟩
  have hle := hr0.le
  have hmx := hr0.max
  obtain ⟨kind, key, val⟩ := o
  obtain ⟨fnd, rv, L⟩ := x
  have hle1 := xe.le
  have hmx1 := xe.max
  clear hr0 hz0 hl0 ok ov ok' ov' xe xs xs'
  dsimp only at hle1 HP HRP ⊢
  go_enter Tryz.func6, Tryz.ntmps6
  have HF0 : Hid (Fr (fun _ => False) w (w.alloc (.cells #[.int .i64 kind, .string key, .string val, .bool fnd, .string rv, .slice xa L.length xc, .int .i64 f] 49))) := Fr.box w _
  have HX0 : Hid ((w.alloc (.cells #[.int .i64 kind, .string key, .string val, .bool fnd, .string rv, .slice xa L.length xc, .int .i64 f] 49)).heap[w.heap.size]? = some (.cells #[.int .i64 kind, .string key, .string val, .bool fnd, .string rv, .slice xa L.length xc, .int .i64 f] 49 (0, 0))) := heap_alloc_new w _
  have h1 := HP.out _ HF0.out
  go_wp2_with fail
  refine h1.mono ?_
  rintro e w1 ⟨rfl, f1⟩
  have HF1 : Hid (Fr (fun _ => False) w w1) := HF0.out.seq' f1
  obtain ⟨x0, x1, x2, x3, x4, x5, x6⟩ := seven_cells (f1.blk HX0.out (fun f => f))
  have h2 := HRP.out w1 HF1.out
  clear f1 h1 HP HRP
  go_wp2_with fail
  refine h2.mono ?_
  rintro e w2 ⟨rfl, f2⟩
  have HF2 : Hid (Fr (fun _ => False) w w2) := HF1.out.seq' f2
  have hsp := HSP.out w2
  clear f2 h2 HF1 x0 x1 x2 x3 x4 x5 x6
  go_wp2_with fail
  refine hsp.mono ?_
  rintro e w8 ⟨rfl, f8⟩
  have HF8 : Hid (Fr (fun _ => False) w w8) := HF2.out.seq' f8
  clear f8 hsp HF2
  go_wp2_with fail
  go_ret
  exact ⟨rfl, HF8.out⟩

set_option maxRecDepth 100000 in
theorem lifted (os : Os) (started : os.Started) (H : Type) (enc : TypeId × Value → H) :
    ReturnsInHanded {} Tryz.checked os 6 .any (Rows.foldAgreesSpec.pre6 enc Tryz.prog Tryz.f6 Rows.foldAgreesRow.domain false) (Rows.foldAgreesSpec.post enc Tryz.prog Tryz.f6 false true false false) := by
  refine returnsInHanded_of_change_sized (C := Tryz.checked) own started (by kernel_rfl) Tryz.func6
    (ChangeSpec.witness6 (enc := enc) (C := Tryz.checked) false ⟨#[], #[.slice none 0 0, .agg #[.int .i64 0, .string ByteArray.empty, .string ByteArray.empty, .bool false, .string ByteArray.empty, .slice none 0 0, .int .i64 0]], []⟩ 8 (by kernel_rfl) (by kernel_rfl) (by kernel_rfl) (by kernel_rfl)) ?_
  intro W base args ds gs before hval0 hW hcnd hsz0 _
  have hsz : (DataW.weightsEach Tryz.prog (Tryz.f6.params.toList ++ Rows.foldAgreesSpec.plain.varTypes Tryz.prog) (ds ++ gs)).all (· ≤ reachBytes) = true := hsz0
  clear hsz0
  have hval : ∀ (j : Nat) t v, Tryz.f6.params[j]? = some t → args[j]? = some v → Value.okWide Tryz.prog W .any base t v := hval0
  have hW' := hW
  obtain ⟨p, q, hA0, hV, rfl, hfz, hnd⟩ := hW
  have hA : DataW.TrodAll enc Tryz.prog W 0 (fun _ => true) true Tryz.f6.params.toList args.toList ds p := hA0
  rw [Tryz.params6] at hA hval hsz
  obtain ⟨v0, vs0, d0, ds0, p0, q0, hargs, rfl, rfl, h0, r0⟩ := trodAll_cons hA
  obtain ⟨v1, vs1, d1, ds1, p1, q1, rfl, rfl, rfl, h1, r1⟩ := trodAll_cons r0
  obtain ⟨rfl, rfl, rfl⟩ := trodAll_nil r1
  obtain rfl : args = #[v0, v1] := by cases args; simp_all
  obtain ⟨rfl, rfl⟩ := trodVars_none hV
  obtain ⟨a0, len0, cap0, rfl⟩ := okWide_slice Tryz.underlying22 (hval 0 22 v0 rfl rfl)
  have k0 := h0
  have lt0 : ∀ x ∈ p0, x.block < W.heap.size := by obtain ⟨m, hm⟩ := k0; exact DataW.trod_lt m _ _ _ hm
  have wz0 : ∀ z ∈ d0.weights Tryz.prog 22, z ≤ reachBytes := fun z hz => by simpa using List.all_eq_true.1 hsz z (DataW.weights_mem_each (j := 0) rfl rfl z hz)
  obtain ⟨ls0, hl0, hb0, hr0, hz0⟩ : ∃ ls : List Rec, len0 = ls.length ∧ len0 * 80 ≤ 140737488355328 ∧ Recs W a0 cap0 ls ∧ ∀ r ∈ ls, r.key.size ≤ 140737488351232 ∧ r.val.size ≤ 140737488351232 := by
    obtain ⟨fuel, hf⟩ := h0
    exact recs_open2 hf wz0
  have k1 := h1
  have lt1 : ∀ x ∈ p1, x.block < W.heap.size := by obtain ⟨m, hm⟩ := k1; exact DataW.trod_lt m _ _ _ hm
  obtain ⟨op1, xx1, xa1, xc1, ff1, rfl, ok1, ov1, xe1, xs1⟩ := asked_open (hval 1 49 v1 rfl rfl) h1 (fun z hz => by simpa using List.all_eq_true.1 hsz z (DataW.weights_mem_each (j := 1) rfl rfl z hz))
  clear hA0 hval0
  refine (walk W a0 len0 cap0 ls0 hl0 hb0 hr0 hz0 op1 xx1 xa1 xc1 ff1 ok1 ov1 xe1 xs1).mono fun e W' ⟨he, fr⟩ => ?_
  have bel : Below W.heap.size W W' := fr.below (Nat.le_refl _) (fun _ f => f.elim)
  subst he
  exact ⟨_, rfl, _, _, _, [], _, [], hW', trodAll_mk1 (shut_bool Tryz.underlying4 _), (trodAll_cons_mk (Below.trod laidOut (by kernel_rfl) (of_decide_eq_true (by kernel_rfl)) k0 bel lt0) (trodAll_cons_mk (Below.trod laidOut (by kernel_rfl) (of_decide_eq_true (by kernel_rfl)) k1 bel lt1) trodAll_mk0)), rfl, bel.frame _, fun h => by cases h⟩

theorem proved : Rows.FoldAgreesSaid :=
  OpenClaim.holds_of_wide 6 Tryz.f6 rfl rfl rfl rfl rfl rfl rfl ⟨rfl, rfl, rfl, rfl, rfl⟩ rfl rfl rfl rfl rfl (by kernel_rfl) Tryz.func6 (by kernel_rfl)
    (of_decide_eq_true (by kernel_rfl)) (by unfold Func.isWrapper; first | (rw [if_pos (by decide +kernel)]; kernel_rfl) | (rw [if_neg (by decide +kernel)]; exact ⟨rfl, rfl⟩))
    (fun os started H enc _ => lifted os started H enc)
end Go.Proofs.YtdlnflcjodpkiaaGreat.foldAgrees
namespace Go.Proofs.YtdlnflcjodpkiaaGreat
theorem foldAgrees_holds : Rows.FoldAgreesSaid := foldAgrees.proved
#print axioms foldAgrees_holds
end Go.Proofs.YtdlnflcjodpkiaaGreat
