
/- PageBack, for every node and every row of bytes: what page.Encode gives page.Decode reads back as the node; what page.Decode reads page.Encode gives back byte by byte, and of what it does not read it gives a node of zeros, and the call answers true; no condition. -/
import Derived.Test.YtcmkpehbdlhjjaaArgs
import Derived.Test.YtcmkpehbdlhjjaaPgBack4
import Derived.Test.YtcmkpehbdlhjjaaPgSpeak
import Derived.Test.YtcmkpehbdlhjjaaPgArg
namespace Go.Proofs.Ytcmkpehbdlhjjaa.pageBack
open Go.ChangeShapes Go.WideShapes Go.ChangeAt Go.RowKit
open Go.ChangeMaps (open_string shut_string)
set_option linter.unusedVariables false

theorem own : ownKnob Try.prog.godebug = none := by kernel_rfl
theorem laidOut : laidOutB Try.prog = true := by kernel_rfl
theorem bytes8 : Try.prog.bytesOf 5 = 1 := by kernel_rfl


set_option maxRecDepth 100000 in
set_option maxHeartbeats 2000000 in
theorem walk (w : World) (n : Nd) (p : Pt) (nd0 : Nod w n p) (a1 : Option Addr) (len1 cap1 : Nat) (l1 : List Nat) (hl1 : len1 = l1.length) (_z1 : cap1 ≤ 140737488351232) (hr1 : Row w a1 cap1 l1) :
    Calls Try.prog 6 #[(.agg #[.int .i64 n.lev, .int .i64 n.lsn, .int .i64 n.rgt, .string n.high, .slice p.k n.keys.length p.kc, .slice p.v n.vals.length p.vc, .slice p.i n.kids.length p.ic]), .slice a1 len1 cap1] w fun e w' => e = .returned (.bool true) ∧ Fr (fun _ => False) w w' := by
  subst hl1
  have f0 := Fr.box w (.cells #[.int .i64 n.lev, .int .i64 n.lsn, .int .i64 n.rgt, .string n.high, .slice p.k n.keys.length p.kc, .slice p.v n.vals.length p.vc, .slice p.i n.kids.length p.ic] 25)
  have HB : Hid (∀ W, Fr (fun _ => False) (w.alloc (.cells #[.int .i64 n.lev, .int .i64 n.lsn, .int .i64 n.rgt, .string n.high, .slice p.k n.keys.length p.kc, .slice p.v n.vals.length p.vc, .slice p.i n.kids.length p.ic] 25)) W → W.cell? ⟨w.heap.size, 0, none⟩ = some (.int .i64 n.lev) ∧ W.cell? ⟨w.heap.size, 1, none⟩ = some (.int .i64 n.lsn) ∧ W.cell? ⟨w.heap.size, 2, none⟩ = some (.int .i64 n.rgt) ∧ W.cell? ⟨w.heap.size, 3, none⟩ = some (.string n.high) ∧ W.cell? ⟨w.heap.size, 4, none⟩ = some (.slice p.k n.keys.length p.kc) ∧ W.cell? ⟨w.heap.size, 5, none⟩ = some (.slice p.v n.vals.length p.vc) ∧ W.cell? ⟨w.heap.size, 6, none⟩ = some (.slice p.i n.kids.length p.ic)) := fun W f => box_cells (box_at w n p 25 f)
  by_cases hr : rightB n = true
  · have R : Hid (Rt n) := (right_iff n).1 hr
    have HD : Hid (decF (pg n) = some n) := dec_pg n R.out (by have := nb_length R.out; have := R.out.size; omega)
    clear hr
    go_enter Try.func6, Try.ntmps6
    go_wp2_with fail
    refine (encode_yes n p _ (nd0.same f0) R.out).mono ?_
    rintro e w2 ⟨g, rfl, A1, hg, f1⟩
    have hro : Row w2 (some ⟨g, 0, none⟩) 256 (pg n) := by
      have := A1.row (pg_octs n) 256 (by omega) 256 (by omega) (by omega)
      rwa [List.take_of_length_le (by rw [A1.length]; omega)] at this
    have HL : Hid ((pg n).length = 256) := A1.length
    clear A1 hg
    go_wp2_with fail
    refine (decode_good (some ⟨g, 0, none⟩) 256 _ HL.out _ hro n HD.out).mono ?_
    rintro e w3 ⟨p3, rfl, nd3, f3⟩
    have fb := Fr.box w3 (.cells #[.int .i64 n.lev, .int .i64 n.lsn, .int .i64 n.rgt, .string n.high, .slice p3.k n.keys.length p3.kc, .slice p3.v n.vals.length p3.vc, .slice p3.i n.kids.length p3.ic] 25)
    have F3 := f1.seq' (f3.seq' fb)
    obtain ⟨c0, c1, c2, c3, c4, c5, c6⟩ := HB.out _ F3
    go_wp2_with fail
    refine (plain_same n p3 p _ (nd3.same fb) (nd0.same (f0.seq' F3))).mono ?_
    rintro e w4 ⟨rfl, f4⟩
    have F4 := f0.seq' (F3.seq' f4)
    clear c0 c1 c2 c3 c4 c5 c6 hro
    go_wp2_with fail
    refine (decode_all a1 _ cap1 l1 rfl _ (hr1.same F4)).mono ?_
    rintro e w5 ⟨p5, rfl, nd5, f5⟩
    have F5 := F4.seq' f5
    cases hd : decF l1 with
    | none =>
      rw [hd] at nd5
      simp only [Option.getD_none, Option.isSome_none, Bool.false_eq_true, if_false] at nd5 ⊢
      clear hd
      have fb := Fr.box w5 (.cells #[.int .i64 zn.lev, .int .i64 zn.lsn, .int .i64 zn.rgt, .string zn.high, .slice p5.k zn.keys.length p5.kc, .slice p5.v zn.vals.length p5.vc, .slice p5.i zn.kids.length p5.ic] 25)
      go_wp2_with fail
      refine (plain_same zn p5 zp _ (nd5.same fb) (zn_nod _)).mono ?_
      rintro e w6 ⟨rfl, f6⟩
      go_wp2_with fail
      refine (pspeaks_any _).mono ?_
      rintro e w7 ⟨rfl, f7⟩
      go_wp2
      go_ret
      exact ⟨rfl, F5.seq' ((fb.seq' f6).seq' f7)⟩
    | some m =>
      obtain ⟨rm, hlm⟩ := dec_some l1 hr1.byte m hd
      rw [hd] at nd5
      simp only [Option.getD_some, Option.isSome_some, if_true] at nd5 ⊢
      have RM : Hid (Rt m) := rm
      have HLM : Hid (l1 = pg m) := hlm
      clear hd rm hlm
      have fb := Fr.box w5 (.cells #[.int .i64 m.lev, .int .i64 m.lsn, .int .i64 m.rgt, .string m.high, .slice p5.k m.keys.length p5.kc, .slice p5.v m.vals.length p5.vc, .slice p5.i m.kids.length p5.ic] 25)
      go_wp2_with fail
      refine (encode_yes m p5 _ (nd5.same fb) RM.out).mono ?_
      rintro e w6 ⟨g6, rfl, A6, hg6, f6⟩
      have hro : Row w6 (some ⟨g6, 0, none⟩) 256 l1 := by
        have := A6.row (pg_octs m) 256 (by omega) 256 (by omega) (by omega)
        rw [List.take_of_length_le (by rw [A6.length]; omega), ← HLM.out] at this
        exact this
      have hl256 : 256 = l1.length := by rw [HLM.out, A6.length]
      have F6 := F5.seq' (fb.seq' f6)
      have cvx := run_str (P := Try.prog) (src := 31) (dst := 9) Try.underlying31 Try.underlying5 Try.underlying9 hro 256 hl256
      have cvy := run_str (P := Try.prog) (src := 31) (dst := 9) Try.underlying31 Try.underlying5 Try.underlying9 (hr1.same F6) l1.length rfl
      clear hl256
      go_wp2_with fail
      refine (pspeaks_any _).mono ?_
      rintro e w7 ⟨rfl, f7⟩
      go_wp2
      go_ret
      exact ⟨rfl, F6.seq' f7⟩
  · have HR : Hid (rightB n = false) := by show _ = _; simpa using hr
    clear hr
    go_enter Try.func6, Try.ntmps6
    go_wp2_with fail
    refine (encode_no n p _ (nd0.same f0) HR.out).mono ?_
    rintro e w2 ⟨rfl, f1⟩
    have F4 := f0.seq' f1
    go_wp2_with fail
    refine (decode_all a1 _ cap1 l1 rfl _ (hr1.same F4)).mono ?_
    rintro e w5 ⟨p5, rfl, nd5, f5⟩
    have F5 := F4.seq' f5
    cases hd : decF l1 with
    | none =>
      rw [hd] at nd5
      simp only [Option.getD_none, Option.isSome_none, Bool.false_eq_true, if_false] at nd5 ⊢
      clear hd
      have fb := Fr.box w5 (.cells #[.int .i64 zn.lev, .int .i64 zn.lsn, .int .i64 zn.rgt, .string zn.high, .slice p5.k zn.keys.length p5.kc, .slice p5.v zn.vals.length p5.vc, .slice p5.i zn.kids.length p5.ic] 25)
      go_wp2_with fail
      refine (plain_same zn p5 zp _ (nd5.same fb) (zn_nod _)).mono ?_
      rintro e w6 ⟨rfl, f6⟩
      go_wp2_with fail
      refine (pspeaks_any _).mono ?_
      rintro e w7 ⟨rfl, f7⟩
      go_wp2
      go_ret
      exact ⟨rfl, F5.seq' ((fb.seq' f6).seq' f7)⟩
    | some m =>
      obtain ⟨rm, hlm⟩ := dec_some l1 hr1.byte m hd
      rw [hd] at nd5
      simp only [Option.getD_some, Option.isSome_some, if_true] at nd5 ⊢
      have RM : Hid (Rt m) := rm
      have HLM : Hid (l1 = pg m) := hlm
      clear hd rm hlm
      have fb := Fr.box w5 (.cells #[.int .i64 m.lev, .int .i64 m.lsn, .int .i64 m.rgt, .string m.high, .slice p5.k m.keys.length p5.kc, .slice p5.v m.vals.length p5.vc, .slice p5.i m.kids.length p5.ic] 25)
      go_wp2_with fail
      refine (encode_yes m p5 _ (nd5.same fb) RM.out).mono ?_
      rintro e w6 ⟨g6, rfl, A6, hg6, f6⟩
      have hro : Row w6 (some ⟨g6, 0, none⟩) 256 l1 := by
        have := A6.row (pg_octs m) 256 (by omega) 256 (by omega) (by omega)
        rw [List.take_of_length_le (by rw [A6.length]; omega), ← HLM.out] at this
        exact this
      have hl256 : 256 = l1.length := by rw [HLM.out, A6.length]
      have F6 := F5.seq' (fb.seq' f6)
      have cvx := run_str (P := Try.prog) (src := 31) (dst := 9) Try.underlying31 Try.underlying5 Try.underlying9 hro 256 hl256
      have cvy := run_str (P := Try.prog) (src := 31) (dst := 9) Try.underlying31 Try.underlying5 Try.underlying9 (hr1.same F6) l1.length rfl
      clear hl256
      go_wp2_with fail
      refine (pspeaks_any _).mono ?_
      rintro e w7 ⟨rfl, f7⟩
      go_wp2
      go_ret
      exact ⟨rfl, F6.seq' f7⟩

set_option maxRecDepth 100000 in
theorem lifted (os : Os) (started : os.Started) (H : Type) (enc : TypeId × Value → H) :
    ReturnsInHanded {} Try.checked os 6 .any (Rows.pageBackSpec.pre6 enc Try.prog Try.f6 Rows.pageBackRow.domain false) (Rows.pageBackSpec.post enc Try.prog Try.f6 false true false false) := by
  refine returnsInHanded_of_change_sized (C := Try.checked) own started (by kernel_rfl) Try.func6
    (ChangeSpec.witness6 (enc := enc) (C := Try.checked) false ⟨#[], #[.agg #[.int .i64 0, .int .i64 0, .int .i64 0, .string ByteArray.empty, .slice none 0 0, .slice none 0 0, .slice none 0 0], .slice none 0 0], []⟩ 8 (by kernel_rfl) (by kernel_rfl) (by kernel_rfl) (by kernel_rfl)) ?_
  intro W base args ds gs before hval0 hW hcnd hsz0 _
  have hsz : (DataW.weightsEach Try.prog (Try.f6.params.toList ++ Rows.pageBackSpec.plain.varTypes Try.prog) (ds ++ gs)).all (· ≤ reachBytes) = true := hsz0
  clear hsz0
  have hval : ∀ (j : Nat) t v, Try.f6.params[j]? = some t → args[j]? = some v → Value.okWide Try.prog W .any base t v := hval0
  have hW' := hW
  obtain ⟨p, q, hA0, hV, rfl, hfz, hnd⟩ := hW
  have hA : DataW.TrodAll enc Try.prog W 0 (fun _ => true) true Try.f6.params.toList args.toList ds p := hA0
  rw [Try.params6] at hA hval hsz
  obtain ⟨v0, vs0, d0, ds0, p0, q0, hargs, rfl, rfl, h0, r0⟩ := trodAll_cons hA
  obtain ⟨v1, vs1, d1, ds1, p1, q1, rfl, rfl, rfl, h1, r1⟩ := trodAll_cons r0
  obtain ⟨rfl, rfl, rfl⟩ := trodAll_nil r1
  obtain rfl : args = #[v0, v1] := by cases args; simp_all
  obtain ⟨rfl, rfl⟩ := trodVars_none hV
  have k0 := h0
  have lt0 : ∀ x ∈ p0, x.block < W.heap.size := by obtain ⟨m, hm⟩ := k0; exact DataW.trod_lt m _ _ _ hm
  obtain ⟨n0, np0, rfl, nd0⟩ := node_open (hval 0 25 v0 rfl rfl) h0 (fun z hz => by simpa using List.all_eq_true.1 hsz z (DataW.weights_mem_each (j := 0) rfl rfl z hz))
  obtain ⟨a1, len1, cap1, rfl⟩ := okWide_slice Try.underlying31 (hval 1 31 v1 rfl rfl)
  have k1 := h1
  have lt1 : ∀ x ∈ p1, x.block < W.heap.size := by obtain ⟨m, hm⟩ := k1; exact DataW.trod_lt m _ _ _ hm
  obtain ⟨l1, hl1, z1, hr1⟩ : ∃ l : List Nat, len1 = l.length ∧ cap1 ≤ 140737488351232 ∧ Row W a1 cap1 l := by
    obtain ⟨fuel, hf⟩ := h1
    rcases open_ints Try.underlying31 Try.underlying5 (by kernel_rfl) hf with ⟨hcs, _⟩ | ⟨x, l, c, zs, hcs, _, hl, hm, hz, hx, hcell, hwz⟩
    · simp [Value.cells] at hcs
      obtain ⟨rfl, rfl, rfl⟩ := hcs
      exact ⟨[], rfl, by omega, row_nil _ _⟩
    · simp [Value.cells] at hcs
      obtain ⟨rfl, rfl, rfl⟩ := hcs
      have hz' : zs.length = cap1 := by simpa using hz
      have hd : d1 = .slice (lits .u8 (zs.take len1)) (lits .u8 (zs.drop len1)) := congrArg Prod.fst hx
      have hcap : cap1 ≤ 140737488351232 := by
        have := sized_slice hsz (j := 1) (t := 31) (e := 5) rfl (by rw [hd]; rfl) Try.underlying31
        rw [bytes8] at this
        simp only [lits, List.length_map, List.length_take, List.length_drop, reachBytes] at this
        omega
      obtain ⟨l, h1, h2⟩ := row_of_ints hl (Nat.le_trans hcap (by omega)) hz' hcell hwz
      exact ⟨l, h1, hcap, h2⟩
  clear hA0 hval0
  refine (walk W n0 np0 nd0 a1 len1 cap1 l1 hl1 z1 hr1).mono fun e W' ⟨he, fr⟩ => ?_
  have bel : Below W.heap.size W W' := fr.below (Nat.le_refl _) (fun _ f => f.elim)
  subst he
  exact ⟨_, rfl, _, _, _, [], _, [], hW', trodAll_mk1 (shut_bool Try.underlying4 _), (trodAll_cons_mk (Below.trod laidOut (by kernel_rfl) (of_decide_eq_true (by kernel_rfl)) k0 bel lt0) (trodAll_cons_mk (Below.trod laidOut (by kernel_rfl) (of_decide_eq_true (by kernel_rfl)) k1 bel lt1) trodAll_mk0)), rfl, bel.frame _, fun h => by cases h⟩

theorem proved : Rows.PageBackSaid :=
  OpenClaim.holds_of_wide 6 Try.f6 rfl rfl rfl rfl rfl rfl rfl ⟨rfl, rfl, rfl, rfl, rfl⟩ rfl rfl rfl rfl rfl (by kernel_rfl) Try.func6 (by kernel_rfl)
    (of_decide_eq_true (by kernel_rfl)) (by unfold Func.isWrapper; first | (rw [if_pos (by decide +kernel)]; kernel_rfl) | (rw [if_neg (by decide +kernel)]; exact ⟨rfl, rfl⟩))
    (fun os started H enc _ => lifted os started H enc)
end Go.Proofs.Ytcmkpehbdlhjjaa.pageBack
namespace Go.Proofs.Ytcmkpehbdlhjjaa
theorem pageBack_holds : Rows.PageBackSaid := pageBack.proved
#print axioms pageBack_holds
end Go.Proofs.Ytcmkpehbdlhjjaa
