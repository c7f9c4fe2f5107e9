
/- For any entries and any operation, fold.Answer answers as the document's own, and the example speaks; with no condition but those of the statement's own form. -/
import Derived.Test.YtdlnflcjodpkiaaGreatArgs
import Derived.Test.YtdlnflcjodpkiaaGreatFdSpk
import Derived.Test.YtdlnflcjodpkiaaGreatFdArg2
import Derived.Test.YtdlnflcjodpkiaaGreatFdAns2
namespace Go.Proofs.YtdlnflcjodpkiaaGreat.foldAnswers
open Go.ChangeShapes Go.WideShapes Go.ChangeAt Go.RowKit
open Go.ChangeMaps (open_string shut_string)
set_option linter.unusedVariables false

theorem own : ownKnob Tryz.prog.godebug = none := by kernel_rfl
theorem laidOut : laidOutB Tryz.prog = true := by kernel_rfl
theorem bytes8 : Tryz.prog.bytesOf 5 = 1 := by kernel_rfl

open Go.RowKit Go.Shelf
set_option maxRecDepth 100000 in
set_option maxHeartbeats 4000000 in
theorem walk (w : World) (a0 : Option Addr) (len0 cap0 : Nat) (ls : List En) (hl0 : len0 = ls.length) (hb0 : len0 * 32 ≤ 140737488355328) (hr0 : Ens w a0 cap0 ls) (hz0 : ∀ r ∈ ls, r.1.size ≤ 140737488351232 ∧ r.2.size ≤ 140737488351232) (o : Opn) (ok : o.key.size ≤ 140737488351232) (ov : o.val.size ≤ 140737488351232) :
    Calls Tryz.prog 4 #[.slice a0 len0 cap0, .agg #[.int .i64 o.kind, .string o.key, .string o.val]] w fun e w' => e = .returned (.bool true) ∧ Fr (fun _ => False) w w' := by
  have HSP : Hid (∀ W, Calls Tryz.prog 13 #[] W fun e w' => e = .returned (.bool true) ∧ Fr (fun _ => False) W w') := speaks_any
  have ok' : o.key.size ≤ maxLen := by unfold maxLen; omega
  have ov' : o.val.size ≤ maxLen := by unfold maxLen; omega
  obtain ⟨R, err, HB, HRB⟩ : ∃ R err, Hid (∀ W, Fr (fun _ => False) w W → Calls Tryz.prog 20 #[.slice a0 len0 cap0, .agg #[.int .i64 o.kind, .string o.key, .string o.val]] W (AnsOut W R err)) ∧ Hid (∀ W, Fr (fun _ => False) w W → Calls Tryz.prog 21 #[.slice a0 len0 cap0, .agg #[.int .i64 o.kind, .string o.key, .string o.val]] W (AnsOut W R err)) :=
    ⟨_, _, fun W f => answer_any o ok' ov' a0 len0 cap0 ls hl0 hb0 W (hr0.same f), fun W f => ranswer_any o ok' ov' a0 len0 cap0 ls hl0 hb0 W (hr0.same f)⟩
  have hle := hr0.le
  have hmx := hr0.max
  obtain ⟨kind, key, val⟩ := o
  obtain ⟨fnd, rv, L⟩ := R
  have HPE : Hid (∀ b1 b2 d1 d2 W, Ens W b1 d1 L → Ens W b2 d2 L → Calls Tryz.prog 22 #[.agg #[.bool fnd, .string rv, .slice b1 L.length d1], .agg #[.bool fnd, .string rv, .slice b2 L.length d2]] W fun e w' => e = .returned (.bool true) ∧ Fr (fun _ => False) W w') := fun b1 b2 d1 d2 W h1 h2 => res_same fnd rv b1 b2 _ _ d1 d2 L rfl rfl W h1 h2
  clear hr0 hz0 hl0 ok ov ok' ov'
  dsimp only at HB HRB
  have HF0 : Hid (Fr (fun _ => False) w (w.alloc (.cells #[.int .i64 kind, .string key, .string val] 35))) := Fr.box w _
  have HX0 : Hid ((w.alloc (.cells #[.int .i64 kind, .string key, .string val] 35)).heap[w.heap.size]? = some (.cells #[.int .i64 kind, .string key, .string val] 35 (0, 0))) := heap_alloc_new w _
  go_enter Tryz.func4, Tryz.ntmps4
  have hb := HB.out _ HF0.out
  go_wp2_with fail
  refine hb.mono ?_
  rintro e w2 ⟨b2, c2, rfl, e2, _, f2⟩
  have HG2 : Hid (Fr (fun _ => False) w2 (w2.alloc (.cells #[.bool fnd, .string rv, .slice b2 L.length c2] 37))) := Fr.box w2 _
  have HE2 : Hid (Ens (w2.alloc (.cells #[.bool fnd, .string rv, .slice b2 L.length c2] 37)) b2 c2 L) := e2.same HG2.out
  have HF2 : Hid (Fr (fun _ => False) w (w2.alloc (.cells #[.bool fnd, .string rv, .slice b2 L.length c2] 37))) := (HF0.out.seq' f2).seq' HG2.out
  have hrb := HRB.out _ HF2.out
  obtain ⟨⟨x0, x1, x2⟩, _⟩ := three_cells ((f2.seq' HG2.out).blk HX0.out (fun f => f))
  have HXA : Hid ((w2.alloc (.cells #[.bool fnd, .string rv, .slice b2 L.length c2] 37)).heap[w2.heap.size]? = some (.cells #[.bool fnd, .string rv, .slice b2 L.length c2] 37 (0, 0))) := heap_alloc_new w2 _
  clear e2 f2 hb HB HG2
  go_wp2_with fail
  refine hrb.mono ?_
  rintro e w3 ⟨b3, c3, rfl, e3, _, f3⟩
  have HG3 : Hid (Fr (fun _ => False) w3 (w3.alloc (.cells #[.bool fnd, .string rv, .slice b3 L.length c3] 37))) := Fr.box w3 _
  have HE3 : Hid (Ens (w3.alloc (.cells #[.bool fnd, .string rv, .slice b3 L.length c3] 37)) b3 c3 L) := e3.same HG3.out
  have HE2b : Hid (Ens (w3.alloc (.cells #[.bool fnd, .string rv, .slice b3 L.length c3] 37)) b2 c2 L) := HE2.out.same (f3.seq' HG3.out)
  have HF3 : Hid (Fr (fun _ => False) w (w3.alloc (.cells #[.bool fnd, .string rv, .slice b3 L.length c3] 37))) := (HF2.out.seq' f3).seq' HG3.out
  obtain ⟨⟨y0, y1, y2⟩, _⟩ := three_cells ((f3.seq' HG3.out).blk HXA.out (fun f => f))
  obtain ⟨⟨z0, z1, z2⟩, _⟩ := three_cells (heap_alloc_new w3 (.cells #[.bool fnd, .string rv, .slice b3 L.length c3] 37))
  have hpe := HPE.out _ _ _ _ _ HE2b.out HE3.out
  clear e3 f3 hrb HRB HE2 HF2 x0 x1 x2 HG3
  go_wp2_with fail
  refine hpe.mono ?_
  rintro e w7 ⟨rfl, f7⟩
  have HF7 : Hid (Fr (fun _ => False) w w7) := HF3.out.seq' f7
  have hsp := HSP.out w7
  clear f7 hpe HF3
  go_wp2_with fail
  refine hsp.mono ?_
  rintro e w8 ⟨rfl, f8⟩
  have HF8 : Hid (Fr (fun _ => False) w w8) := HF7.out.seq' f8
  clear f8 hsp HF7
  go_wp2_with fail
  go_ret
  exact ⟨rfl, HF8.out⟩

set_option maxRecDepth 100000 in
theorem lifted (os : Os) (started : os.Started) (H : Type) (enc : TypeId × Value → H) :
    ReturnsInHanded {} Tryz.checked os 4 .any (Rows.foldAnswersSpec.pre6 enc Tryz.prog Tryz.f4 Rows.foldAnswersRow.domain false) (Rows.foldAnswersSpec.post enc Tryz.prog Tryz.f4 false true false false) := by
  refine returnsInHanded_of_change_sized (C := Tryz.checked) own started (by kernel_rfl) Tryz.func4
    (ChangeSpec.witness6 (enc := enc) (C := Tryz.checked) false ⟨#[], #[.slice none 0 0, .agg #[.int .i64 0, .string ByteArray.empty, .string ByteArray.empty]], []⟩ 8 (by kernel_rfl) (by kernel_rfl) (by kernel_rfl) (by kernel_rfl)) ?_
  intro W base args ds gs before hval0 hW hcnd hsz0 _
  have hsz : (DataW.weightsEach Tryz.prog (Tryz.f4.params.toList ++ Rows.foldAnswersSpec.plain.varTypes Tryz.prog) (ds ++ gs)).all (· ≤ reachBytes) = true := hsz0
  clear hsz0
  have hval : ∀ (j : Nat) t v, Tryz.f4.params[j]? = some t → args[j]? = some v → Value.okWide Tryz.prog W .any base t v := hval0
  have hW' := hW
  obtain ⟨p, q, hA0, hV, rfl, hfz, hnd⟩ := hW
  have hA : DataW.TrodAll enc Tryz.prog W 0 (fun _ => true) true Tryz.f4.params.toList args.toList ds p := hA0
  rw [Tryz.params4] at hA hval hsz
  obtain ⟨v0, vs0, d0, ds0, p0, q0, hargs, rfl, rfl, h0, r0⟩ := trodAll_cons hA
  obtain ⟨v1, vs1, d1, ds1, p1, q1, rfl, rfl, rfl, h1, r1⟩ := trodAll_cons r0
  obtain ⟨rfl, rfl, rfl⟩ := trodAll_nil r1
  obtain rfl : args = #[v0, v1] := by cases args; simp_all
  obtain ⟨rfl, rfl⟩ := trodVars_none hV
  obtain ⟨a0, len0, cap0, rfl⟩ := okWide_slice Tryz.underlying24 (hval 0 24 v0 rfl rfl)
  have k0 := h0
  have lt0 : ∀ x ∈ p0, x.block < W.heap.size := by obtain ⟨m, hm⟩ := k0; exact DataW.trod_lt m _ _ _ hm
  have wz0 : ∀ z ∈ d0.weights Tryz.prog 24, z ≤ reachBytes := fun z hz => by simpa using List.all_eq_true.1 hsz z (DataW.weights_mem_each (j := 0) rfl rfl z hz)
  obtain ⟨ls0, hl0, hb0, hr0, hz0⟩ : ∃ ls : List En, len0 = ls.length ∧ len0 * 32 ≤ 140737488355328 ∧ Ens W a0 cap0 ls ∧ ∀ r ∈ ls, r.1.size ≤ 140737488351232 ∧ r.2.size ≤ 140737488351232 := by
    obtain ⟨fuel, hf⟩ := h0
    exact ents_open hf wz0
  have k1 := h1
  have lt1 : ∀ x ∈ p1, x.block < W.heap.size := by obtain ⟨m, hm⟩ := k1; exact DataW.trod_lt m _ _ _ hm
  obtain ⟨op1, rfl, ok1, ov1⟩ := op_open (hval 1 35 v1 rfl rfl) h1 (fun z hz => by simpa using List.all_eq_true.1 hsz z (DataW.weights_mem_each (j := 1) rfl rfl z hz))
  clear hA0 hval0
  refine (walk W a0 len0 cap0 ls0 hl0 hb0 hr0 hz0 op1 ok1 ov1).mono fun e W' ⟨he, fr⟩ => ?_
  have bel : Below W.heap.size W W' := fr.below (Nat.le_refl _) (fun _ f => f.elim)
  subst he
  exact ⟨_, rfl, _, _, _, [], _, [], hW', trodAll_mk1 (shut_bool Tryz.underlying4 _), (trodAll_cons_mk (Below.trod laidOut (by kernel_rfl) (of_decide_eq_true (by kernel_rfl)) k0 bel lt0) (trodAll_cons_mk (Below.trod laidOut (by kernel_rfl) (of_decide_eq_true (by kernel_rfl)) k1 bel lt1) trodAll_mk0)), rfl, bel.frame _, fun h => by cases h⟩

theorem proved : Rows.FoldAnswersSaid :=
  OpenClaim.holds_of_wide 4 Tryz.f4 rfl rfl rfl rfl rfl rfl rfl ⟨rfl, rfl, rfl, rfl, rfl⟩ rfl rfl rfl rfl rfl (by kernel_rfl) Tryz.func4 (by kernel_rfl)
    (of_decide_eq_true (by kernel_rfl)) (by unfold Func.isWrapper; first | (rw [if_pos (by decide +kernel)]; kernel_rfl) | (rw [if_neg (by decide +kernel)]; exact ⟨rfl, rfl⟩))
    (fun os started H enc _ => lifted os started H enc)
end Go.Proofs.YtdlnflcjodpkiaaGreat.foldAnswers
namespace Go.Proofs.YtdlnflcjodpkiaaGreat
theorem foldAnswers_holds : Rows.FoldAnswersSaid := foldAnswers.proved
#print axioms foldAnswers_holds
end Go.Proofs.YtdlnflcjodpkiaaGreat
