
/- For every number, a nil log takes no record, has none, and tells what the document says of it; no condition on the input. -/
import Derived.Test.YtdiphnfbbajfiaaYB4
import Derived.Test.YtdiphnfbbajfiaaYW5
import Derived.Test.YtdiphnfbbajfiaaYW4
namespace Go.Proofs.Ytdiphnfbbajfiaa.walNil
open Go.ChangeShapes Go.WideShapes Go.ChangeAt Go.RowKit
open Go.ChangeMaps (open_string shut_string)
set_option linter.unusedVariables false

theorem own : ownKnob Try.prog.godebug = none := by kernel_rfl
theorem laidOut : laidOutB Try.prog = true := by kernel_rfl
theorem bytes8 : Try.prog.bytesOf 5 = 1 := by kernel_rfl

open Go.Proofs.Ytdiphnfbbajfiaa.Crcm

def n1 : Rec := ⟨0, 0, 1, 0, 0, 0, ⟨#[]⟩, ⟨#[]⟩⟩
theorem n1_ok : rok (nx [] n1) = true := by decide +kernel
theorem zr_no : rok (nx [] zr) = false := by decide +kernel
set_option maxRecDepth 100000 in
set_option maxHeartbeats 4000000 in
theorem walk (w : World) (n : Int) (hn : (Lit.int .i64 n).wf = true) :
    Calls Try.prog 10 #[.int .i64 n] w fun e w' => e = .returned (.bool true) ∧ Fr (fun _ => False) w w' := by
  have hb := bounds_i64 hn
  have ha1 := fun W => append_wnil n1 W
  rw [n1_ok, if_pos rfl] at ha1
  have ha2 := fun W => append_wnil zr W
  rw [zr_no, if_neg (by decide), zr_agg] at ha2
  have H5 : Hid ((if n1.ep < 0 then (100 : Int) else 5) = 5) := rfl
  rw [H5.out] at ha1
  have HN : Hid ((Value.agg #[.int .i64 n1.lsn, .int .i64 n1.ep, .int .i64 n1.kind, .int .i64 n1.page, .int .i64 n1.other, .int .i64 n1.req, .string n1.key, .string n1.val]) = .agg #[.int .i64 0, .int .i64 0, .int .i64 1, .int .i64 0, .int .i64 0, .int .i64 0, .string ⟨#[]⟩, .string ⟨#[]⟩]) := rfl
  rw [HN.out] at ha1
  have hfr := fun W => from_nil n hb W
  have hbn : ((if n = 0 then (0 : Int) else 1) == 0) = (n == 0) := by by_cases h : n = 0 <;> simp [h]
  have hct := fun W => cut_nil n W
  have hfl := fun W => flush_nil n W
  obtain ⟨x, hx⟩ : ∃ x : Int, x = if n = 0 then 0 else 1 := ⟨_, rfl⟩
  rw [← hx] at hbn hct hfl
  clear hx hn hb
  go_enter Try.func10, Try.ntmps10
  go_wp2_with fail
  refine (ha1 _).mono ?_
  rintro e w1 ⟨rfl, f1⟩
  go_wp2_with fail
  refine (ha2 _).mono ?_
  rintro e w2 ⟨rfl, f2⟩
  go_wp2_with fail
  refine (get_nil n _).mono ?_
  rintro e w3 ⟨rfl, f3⟩
  have fb := Fr.box w3 (.cells #[.int .i64 0, .int .i64 0, .int .i64 0, .int .i64 0, .int .i64 0, .int .i64 0, .string ⟨#[]⟩, .string ⟨#[]⟩] 23)
  have F3 := (f1.seq' f2).seq' (f3.seq' fb)
  go_wp2_with (first | (go_at_call 22; refine (last_nil _).mono ?_; rintro e w' ⟨rfl, rfl⟩) | (go_at_call 24; refine (hfr _).mono ?_; rintro e w' ⟨rfl, rfl⟩) | (go_at_call 27; refine (hct _).mono ?_; rintro e w' ⟨rfl, rfl⟩) | (go_at_call 30; refine (hfl _).mono ?_; rintro e w' ⟨rfl, rfl⟩) | (go_at_call 25; refine (flushed_nil _).mono ?_; rintro e w' ⟨rfl, rfl⟩) | (go_at_call 31; refine (marks_wnil _).mono ?_; rintro e w' ⟨rfl, rfl⟩) | (go_at_call 20; refine (bytes_wnil _).mono ?_; rintro e w' ⟨rfl, rfl⟩) | (go_at_call 26; refine (wspeaks_any _).mono ?_; rintro e w9 ⟨rfl, f9⟩))
  all_goals go_ret
  all_goals exact ⟨rfl, F3.seq' f9⟩

set_option maxRecDepth 100000 in
theorem lifted (os : Os) (started : os.Started) (H : Type) (enc : TypeId × Value → H) :
    ReturnsInHanded {} Try.checked os 10 .any (Rows.walNilSpec.pre6 enc Try.prog Try.f10 Rows.walNilRow.domain false) (Rows.walNilSpec.post enc Try.prog Try.f10 false true false false) := by
  refine returnsInHanded_of_change_sized (C := Try.checked) own started (by kernel_rfl) Try.func10
    (ChangeSpec.witness6 (enc := enc) (C := Try.checked) false ⟨#[], #[.int .i64 0], []⟩ 8 (by kernel_rfl) (by kernel_rfl) (by kernel_rfl) (by kernel_rfl)) ?_
  intro W base args ds gs before hval0 hW hcnd hsz0 _
  have hsz : (DataW.weightsEach Try.prog (Try.f10.params.toList ++ Rows.walNilSpec.plain.varTypes Try.prog) (ds ++ gs)).all (· ≤ reachBytes) = true := hsz0
  clear hsz0
  have hval : ∀ (j : Nat) t v, Try.f10.params[j]? = some t → args[j]? = some v → Value.okWide Try.prog W .any base t v := hval0
  have hW' := hW
  obtain ⟨p, q, hA0, hV, rfl, hfz, hnd⟩ := hW
  have hA : DataW.TrodAll enc Try.prog W 0 (fun _ => true) true Try.f10.params.toList args.toList ds p := hA0
  rw [Try.params10] at hA hval hsz
  obtain ⟨v0, vs0, d0, ds0, p0, q0, hargs, rfl, rfl, h0, r0⟩ := trodAll_cons hA
  obtain ⟨rfl, rfl, rfl⟩ := trodAll_nil r0
  obtain rfl : args = #[v0] := by cases args; simp_all
  obtain ⟨rfl, rfl⟩ := trodVars_none hV
  obtain ⟨a0, rfl, rfl, rfl, w0⟩ := open_int Try.underlying3 (hval 0 3 v0 rfl rfl) h0
  clear hA0 hval0
  refine (walk W a0 w0).mono fun e W' ⟨he, fr⟩ => ?_
  have bel : Below W.heap.size W W' := fr.below (Nat.le_refl _) (fun _ f => f.elim)
  subst he
  exact ⟨_, rfl, _, _, _, [], _, [], hW', trodAll_mk1 (shut_bool Try.underlying4 _), (trodAll_cons_mk (shut_int Try.underlying3 w0) trodAll_mk0), rfl, bel.frame _, fun h => by cases h⟩

theorem proved : Rows.WalNilSaid :=
  OpenClaim.holds_of_wide 10 Try.f10 rfl rfl rfl rfl rfl rfl rfl ⟨rfl, rfl, rfl, rfl, rfl⟩ rfl rfl rfl rfl rfl (by kernel_rfl) Try.func10 (by kernel_rfl)
    (of_decide_eq_true (by kernel_rfl)) (by unfold Func.isWrapper; first | (rw [if_pos (by decide +kernel)]; kernel_rfl) | (rw [if_neg (by decide +kernel)]; exact ⟨rfl, rfl⟩))
    (fun os started H enc _ => lifted os started H enc)
end Go.Proofs.Ytdiphnfbbajfiaa.walNil
namespace Go.Proofs.Ytdiphnfbbajfiaa
theorem walNil_holds : Rows.WalNilSaid := walNil.proved
#print axioms walNil_holds
end Go.Proofs.Ytdiphnfbbajfiaa
