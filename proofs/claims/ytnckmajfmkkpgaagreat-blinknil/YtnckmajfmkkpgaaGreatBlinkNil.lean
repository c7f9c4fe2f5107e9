
/- A nil tree has no pages. -/
import Derived.Test.YtnckmajfmkkpgaaGreatBB9
import Derived.Test.YtnckmajfmkkpgaaGreatBZ6
namespace Go.Proofs.YtnckmajfmkkpgaaGreat.blinkNil
open Go.ChangeShapes Go.WideShapes Go.ChangeAt Go.RowKit
open Go.ChangeMaps (open_string shut_string)
set_option linter.unusedVariables false

theorem own : ownKnob Tryz.prog.godebug = none := by kernel_rfl
theorem laidOut : laidOutB Tryz.prog = true := by kernel_rfl
theorem bytes8 : Tryz.prog.bytesOf 5 = 1 := by kernel_rfl

theorem get_n (k : ByteArray) (w : World) : Calls Tryz.prog 4 #[.pointer none, .string k] w fun e w' => e = .returned (.tuple #[.string ⟨#[]⟩, .bool false]) ∧ Fr (fun _ => False) w w' := by
  have h := Go.Proofs.YtnckmajfmkkpgaaGreat.get_any none k none 0 0 [] rfl w ⟨Nat.le_refl _, by omega, .inl rfl, fun s hs => by cases hs⟩ (fun W _ => all_none W)
  rw [lv_nil] at h
  exact h
theorem say_1 (w : World) : Calls Tryz.prog 7 #[.pointer none, .agg #[.int .i64 0, .int .i64 0, .int .i64 1, .int .i64 0, .int .i64 0, .int .i64 0, .string ⟨#[]⟩, .string ⟨#[]⟩]] w fun e w' => e = .returned (.tuple #[.agg #[.int .i64 0, .int .i64 0, .int .i64 0, .int .i64 0, .int .i64 0, .int .i64 0, .string ⟨#[]⟩, .string ⟨#[]⟩], .int .i64 6]) ∧ Fr (fun _ => False) w w' := by
  have h := say_none ⟨0, 0, 1, 0, 0, 0, ⟨#[]⟩, ⟨#[]⟩⟩ w
  rw [show refE ⟨1, 0, 1, 0, 0, 0, ⟨#[]⟩, ⟨#[]⟩⟩ = 6 by kernel_rfl] at h
  exact h
theorem say_0 (w : World) : Calls Tryz.prog 7 #[.pointer none, .agg #[.int .i64 0, .int .i64 0, .int .i64 0, .int .i64 0, .int .i64 0, .int .i64 0, .string ⟨#[]⟩, .string ⟨#[]⟩]] w fun e w' => e = .returned (.tuple #[.agg #[.int .i64 0, .int .i64 0, .int .i64 0, .int .i64 0, .int .i64 0, .int .i64 0, .string ⟨#[]⟩, .string ⟨#[]⟩], .int .i64 90]) ∧ Fr (fun _ => False) w w' := by
  have h := say_none ⟨0, 0, 0, 0, 0, 0, ⟨#[]⟩, ⟨#[]⟩⟩ w
  rw [show refE ⟨1, 0, 0, 0, 0, 0, ⟨#[]⟩, ⟨#[]⟩⟩ = 90 by kernel_rfl] at h
  exact h
set_option maxRecDepth 100000 in
set_option maxHeartbeats 4000000 in
theorem walk (w : World) (s0 : ByteArray) (z0 : s0.size ≤ 140737488351232) :
    Calls Tryz.prog 3 #[.string s0] w fun e w' => e = .returned (.bool true) ∧ Fr (fun _ => False) w w' := by
  clear z0
  go_enter Tryz.func3, Tryz.ntmps3
  go_wp2_with fail
  refine (get_n s0 _).mono ?_
  rintro e w1 ⟨rfl, f1⟩
  go_wp2_with fail
  refine (page_none 1 _).mono ?_
  rintro e w2 ⟨ak, ck, av, cv, ai, ci, rfl, f2⟩
  have F2 := (f1.seq' f2).alloc (.cells #[.int .i64 0, .int .i64 0, .int .i64 0, .string ⟨#[]⟩, .slice ak 0 ck, .slice av 0 cv, .slice ai 0 ci] 28)
  go_wp2_with fail
  refine (take_none _).mono ?_
  rintro e w3 ⟨rfl, f3⟩
  have F3 := F2.seq' f3
  clear f1 f2 f3 F2
  go_wp2_with fail
  refine (say_1 _).mono ?_
  rintro e w4 ⟨rfl, f4⟩
  have F4 := (F3.seq' f4).alloc (.cells #[.int .i64 0, .int .i64 0, .int .i64 0, .int .i64 0, .int .i64 0, .int .i64 0, .string ⟨#[]⟩, .string ⟨#[]⟩] 35)
  clear F3 f4
  go_wp2_with fail
  refine (say_0 _).mono ?_
  rintro e w5 ⟨rfl, f5⟩
  have F5 := (F4.seq' f5).alloc (.cells #[.int .i64 0, .int .i64 0, .int .i64 0, .int .i64 0, .int .i64 0, .int .i64 0, .string ⟨#[]⟩, .string ⟨#[]⟩] 35)
  clear F4 f5
  go_wp2_with fail
  refine (pages_none _).mono ?_
  rintro e w6 ⟨b, c, rfl, f6⟩
  have F6 := F5.seq' f6
  clear F5 f6
  go_wp2_with fail
  refine (last_none _).mono ?_
  rintro e w7 ⟨rfl, f7⟩
  have F7 := F6.seq' f7
  clear F6 f7
  go_wp2_with fail
  refine (scan_none ⟨#[]⟩ ⟨#[]⟩ 9 _).mono ?_
  rintro e w8 ⟨rfl, f8⟩
  have F8 := F7.seq' f8
  clear F7 f8
  go_wp2_with fail
  refine (bspeaks_any _).mono ?_
  rintro e w9 ⟨rfl, f9⟩
  have F9 := F8.seq' f9
  go_wp2
  go_ret
  exact ⟨rfl, F9⟩

set_option maxRecDepth 100000 in
theorem lifted (os : Os) (started : os.Started) (H : Type) (enc : TypeId × Value → H) :
    ReturnsInHanded {} Tryz.checked os 3 .any (Rows.blinkNilSpec.pre6 enc Tryz.prog Tryz.f3 Rows.blinkNilRow.domain false) (Rows.blinkNilSpec.post enc Tryz.prog Tryz.f3 false true false false) := by
  refine returnsInHanded_of_change_sized (C := Tryz.checked) own started (by kernel_rfl) Tryz.func3
    (ChangeSpec.witness6 (enc := enc) (C := Tryz.checked) false ⟨#[], #[.string ByteArray.empty], []⟩ 8 (by kernel_rfl) (by kernel_rfl) (by kernel_rfl) (by kernel_rfl)) ?_
  intro W base args ds gs before hval0 hW hcnd hsz0 _
  have hsz : (DataW.weightsEach Tryz.prog (Tryz.f3.params.toList ++ Rows.blinkNilSpec.plain.varTypes Tryz.prog) (ds ++ gs)).all (· ≤ reachBytes) = true := hsz0
  clear hsz0
  have hval : ∀ (j : Nat) t v, Tryz.f3.params[j]? = some t → args[j]? = some v → Value.okWide Tryz.prog W .any base t v := hval0
  have hW' := hW
  obtain ⟨p, q, hA0, hV, rfl, hfz, hnd⟩ := hW
  have hA : DataW.TrodAll enc Tryz.prog W 0 (fun _ => true) true Tryz.f3.params.toList args.toList ds p := hA0
  rw [Tryz.params3] at hA hval hsz
  obtain ⟨v0, vs0, d0, ds0, p0, q0, hargs, rfl, rfl, h0, r0⟩ := trodAll_cons hA
  obtain ⟨rfl, rfl, rfl⟩ := trodAll_nil r0
  obtain rfl : args = #[v0] := by cases args; simp_all
  obtain ⟨rfl, rfl⟩ := trodVars_none hV
  obtain ⟨s0, rfl, rfl, rfl, w0⟩ := open_string Tryz.underlying9 (hval 0 9 v0 rfl rfl) h0
  have z0 : s0.size ≤ 140737488351232 := by
    have := sized_string hsz (j := 0) (t := 9) rfl rfl
    simpa [reachBytes] using this
  clear hA0 hval0
  refine (walk W s0 z0).mono fun e W' ⟨he, fr⟩ => ?_
  have bel : Below W.heap.size W W' := fr.below (Nat.le_refl _) (fun _ f => f.elim)
  subst he
  exact ⟨_, rfl, _, _, _, [], _, [], hW', trodAll_mk1 (shut_bool Tryz.underlying4 _), (trodAll_cons_mk (shut_string Tryz.underlying9 w0) trodAll_mk0), rfl, bel.frame _, fun h => by cases h⟩

theorem proved : Rows.BlinkNilSaid :=
  OpenClaim.holds_of_wide 3 Tryz.f3 rfl rfl rfl rfl rfl rfl rfl ⟨rfl, rfl, rfl, rfl, rfl⟩ rfl rfl rfl rfl rfl (by kernel_rfl) Tryz.func3 (by kernel_rfl)
    (of_decide_eq_true (by kernel_rfl)) (by unfold Func.isWrapper; first | (rw [if_pos (by decide +kernel)]; kernel_rfl) | (rw [if_neg (by decide +kernel)]; exact ⟨rfl, rfl⟩))
    (fun os started H enc _ => lifted os started H enc)
end Go.Proofs.YtnckmajfmkkpgaaGreat.blinkNil
namespace Go.Proofs.YtnckmajfmkkpgaaGreat
theorem blinkNil_holds : Rows.BlinkNilSaid := blinkNil.proved
#print axioms blinkNil_holds
end Go.Proofs.YtnckmajfmkkpgaaGreat
