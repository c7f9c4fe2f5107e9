/- For every row of bytes and every list of items latticelaw01.WireReads answers true and leaves its arguments as they were: each call reads what the document says, and from where on nothing more is read (1.2, 1.3); no condition. -/
import Derived.Test.YtnnaaliadbihkaaArgs
import Derived.Test.YtnnaaliadbihkaaRdKeep
namespace Go.Proofs.Ytnnaaliadbihkaa.wireReads
open Go.ChangeShapes Go.WideShapes Go.ChangeAt Go.RowKit
open Go.ChangeMaps (open_string shut_string)
set_option linter.unusedVariables false

theorem own : ownKnob Try.prog.godebug = none := by kernel_rfl
theorem laidOut : laidOutB Try.prog = true := by kernel_rfl
theorem bytes8 : Try.prog.bytesOf 5 = 1 := by kernel_rfl

set_option maxRecDepth 100000 in
set_option maxHeartbeats 4000000 in
theorem walk (w : World) (a0 : Option Addr) (len0 cap0 : Nat) (l0 : List Nat) (hl0 : len0 = l0.length) (z0 : cap0 ≤ 140737488351232) (hr0 : Row w a0 cap0 l0) (a1 : Option Addr) (len1 cap1 : Nat) (its : List It) (hl1 : len1 = its.length) (hr1 : Items w a1 cap1 its) :
    Calls Try.prog 4 #[.slice a0 len0 cap0, .slice a1 len1 cap1] w fun e w' => e = .returned (.bool true) ∧ Fr (fun _ => False) w w' := by
  subst hl0 hl1
  have e1 := hr1.max
  have e2 := hr1.le
  go_enter Try.func4, Try.ntmps4
  go_wp2_with fail
  refine (of_any a0 _ cap0 l0 rfl _ hr0).mono ?_
  rintro e w2 ⟨rb, a2, c2, rfl, hrd2, f2, hrb, ha2⟩
  have lrb := lt_of_block hrd2.box
  have f3 : Fr (fun _ => False) w (w2.alloc (.cells #[.slice a0 l0.length cap0, .int .i64 0] 41)) := f2.alloc _
  have f23 : Fr (fun _ => False) w2 (w2.alloc (.cells #[.slice a0 l0.length cap0, .int .i64 0] 41)) := (Fr.refl (fun _ => False) w2).alloc _
  have hrd3 := hrd2.keep f23 (fun f => f) (.inr (fun _ _ _ _ f => f))
  have hB0 : l0 = [] ∨ ∀ b off sp, a0 = some ⟨b, off, sp⟩ → b < w.heap.size := by
    rcases hr0.at_ with h | ⟨b, off, h, hb, _⟩
    · exact .inl h
    · exact .inr (fun b' off' sp' e => by rw [h] at e; simp at e; omega)
  have hA0 : l0 = [] ∨ ∀ b off sp, a2 = some ⟨b, off, sp⟩ → b < w2.heap.size := by
    rcases hrd2.row.at_ with h | ⟨b, off, h, hb, _⟩
    · exact .inl h
    · exact .inr (fun b' off' sp' e => by rw [h] at e; simp at e; omega)
  have z2 := f2.size
  have hrf3 : Rf (w2.alloc (.cells #[.slice a0 l0.length cap0, .int .i64 0] 41)) w2.heap.size a0 cap0 l0 0 :=
    ⟨heap_alloc_new w2 _, hr0.same f3, hB0.imp id (fun h b off sp e => by have := h b off sp e; omega)⟩
  clear hrd2
  go_wp2
  go_loopw [26] (fun i wr => ∃ (k : Nat) (a : Option Addr) (c : Nat) (a' : Option Addr) (c' : Nat) (st : RS), k ≤ its.length ∧ i = .int .i64 k ∧ Rd wr rb a c st.1 st.2 ∧ Rf wr w2.heap.size a' c' st.1 st.2 ∧ (st.1 = [] ∨ ∀ b off sp, a = some ⟨b, off, sp⟩ → b < w2.heap.size) ∧ (st.1 = [] ∨ ∀ b off sp, a' = some ⟨b, off, sp⟩ → b < w.heap.size) ∧ Fr (fun _ => False) w wr ∧ w2.heap.size < wr.heap.size)
    (fun i _ => its.length - (intOf i).toNat)
  case atStart => exact ⟨0, a2, c2, a0, cap0, (l0, 0), by omega, rfl, hrd3, hrf3, hA0, hB0, f3, by simp⟩
  case round =>
    obtain ⟨k, a, c, a', c', st, hk, rfl, hrd, hrf, hAA, hBB, hf, zr⟩ := hrel
    have AA : Hid (st.1 = [] ∨ ∀ b off sp, a = some ⟨b, off, sp⟩ → b < w2.heap.size) := hAA
    have BB : Hid (st.1 = [] ∨ ∀ b off sp, a' = some ⟨b, off, sp⟩ → b < w.heap.size) := hBB
    clear hAA hBB
    by_cases hlt : k < its.length
    · obtain ⟨b, off, rfl, hb, hc⟩ := hr1.at_.resolve_left (fun h => by rw [h] at hlt; simp at hlt)
      obtain ⟨c0, c1, c2'⟩ := hc k hlt
      clear hc
      have d0 := (hf.cell (p := ⟨b, off + k * 3, none⟩) hb (fun f => f)).trans c0
      have d1 := (hf.cell (p := ⟨b, off + k * 3 + 1, none⟩) hb (fun f => f)).trans c1
      have d2 := (hf.cell (p := ⟨b, off + k * 3 + 2, none⟩) hb (fun f => f)).trans c2'
      clear c0 c1 c2'
      obtain ⟨x, hx⟩ : ∃ x, x = its.getD k itD := ⟨_, rfl⟩
      rw [← hx] at d0 d1 d2
      clear hx
      obtain ⟨n, size, s⟩ := x
      simp only at d0 d1 d2
      have f0 : Fr (fun _ => False) wr (wr.alloc (.cells #[.int .i64 n, .int .i64 size, .string s] 27)) := (Fr.refl (fun _ => False) wr).alloc _
      by_cases hsz : size = 0
      · subst hsz
        have hrd0 := hrd.keep f0 (fun f => f) (.inr (fun _ _ _ _ f => f))
        have hrf0 := hrf.keep f0 (fun f => f) (.inr (fun _ _ _ _ f => f))
        go_wp2_with fail
        refine (rtext_all n rb a c st _ hrd0).mono ?_
        rintro e w3 ⟨rfl, a3, c3, hrd3, g3, n3⟩
        have hrf3 := hrf0.keep g3 (by omega) (BB.out.imp id (fun h b off sp e => by have := h b off sp e; omega))
        have cb3 : w3.heap[wr.heap.size]? = some (.cells #[.int .i64 n, .int .i64 0, .string s] 27 (0, 0)) := by
          rw [g3.block wr.heap.size (by simp) (by omega)]; exact heap_alloc_new wr _
        have cc3 : w3.cell? ⟨wr.heap.size, 0, none⟩ = some (.int .i64 n) := by simp [World.cell?, cb3]
        clear cb3
        go_wp2_with fail
        refine (ftext_all n w2.heap.size a' c' st _ hrf3).mono ?_
        rintro e w4 ⟨rfl, a4, c4, hrf4, g4, n4⟩
        have AA3 := near_lt n3 (textS_len st n) AA.out
        have BB4 := near_lt n4 (textS_len st n) BB.out
        have hrd4 := hrd3.keep g4 (by omega) (AA3.imp id (fun h b off sp e => by have := h b off sp e; omega))
        have f4 : Fr (fun _ => False) w w4 := ((hf.false_trans f0).above g3 (fun i hi => by omega)).above g4 (fun i hi => by omega)
        have z4 : w2.heap.size < w4.heap.size := by have := g3.size; have := g4.size; simp at *; omega
        obtain ⟨st', hst⟩ : ∃ st', st' = (textS st n).2.2 := ⟨_, rfl⟩
        rw [← hst] at hrd4 hrf4 AA3 BB4
        clear hst hrd3 hrf3 hrd0 hrf0 g3 g4 n3 n4 cc3
        obtain ⟨k0, k1, _, _⟩ := cell_of_two hrf4.box
        have hrd4d := hrd4.drew
        have hrf4d := hrf4.drew
        have AA4 : Hid (st'.1 = [] ∨ ∀ b off sp, a3 = some ⟨b, off, sp⟩ → b < w2.heap.size) := AA3
        have BB5 : Hid (st'.1 = [] ∨ ∀ b off sp, a4 = some ⟨b, off, sp⟩ → b < w.heap.size) := BB4
        clear AA3 BB4
        go_wp2
        go_region_with (first
          | (go_at_call 22; refine (left_any rb a3 c3 st'.1 st'.2 _ ?_).mono ?_; exact hrd4d; rintro e w' ⟨rfl, rfl⟩)
          | (go_at_call 23; refine (end_any rb a3 c3 st'.1 st'.2 _ ?_).mono ?_; exact hrd4d; rintro e w' ⟨rfl, rfl⟩)
          | (go_at_call 24; refine (refEnd_any w2.heap.size a4 c4 st'.1 st'.2 _ ?_).mono ?_; exact hrf4d; rintro e w' ⟨rfl, rfl⟩))
        all_goals
          go_wp2
          go_roundw
          case rel => exact ⟨k + 1, a3, c3, a4, c4, st', by omega, by go_num, hrd4d, hrf4d, AA4.out, BB5.out, f4.drew, z4⟩
          case measure => simp [intOf]; omega
      · have hsz0 : (size == 0) = false := by simpa using hsz
        clear hsz
        have hrd0 := hrd.keep f0 (fun f => f) (.inr (fun _ _ _ _ f => f))
        have hrf0 := hrf.keep f0 (fun f => f) (.inr (fun _ _ _ _ f => f))
        go_wp2_with fail
        refine (rnum_all size rb a c st _ hrd0).mono ?_
        rintro e w3 ⟨rfl, a3, c3, hrd3, g3, n3⟩
        have hrf3 := hrf0.keep g3 (by omega) (BB.out.imp id (fun h b off sp e => by have := h b off sp e; omega))
        have cb3 : w3.heap[wr.heap.size]? = some (.cells #[.int .i64 n, .int .i64 size, .string s] 27 (0, 0)) := by
          rw [g3.block wr.heap.size (by simp) (by omega)]; exact heap_alloc_new wr _
        have cc3 : w3.cell? ⟨wr.heap.size, 1, none⟩ = some (.int .i64 size) := by simp [World.cell?, cb3]
        clear cb3
        go_wp2_with fail
        refine (fnum_all size w2.heap.size a' c' st _ hrf3).mono ?_
        rintro e w4 ⟨rfl, a4, c4, hrf4, g4, n4⟩
        have AA3 := near_lt n3 (numS_len st size) AA.out
        have BB4 := near_lt n4 (numS_len st size) BB.out
        have hrd4 := hrd3.keep g4 (by omega) (AA3.imp id (fun h b off sp e => by have := h b off sp e; omega))
        have f4 : Fr (fun _ => False) w w4 := ((hf.false_trans f0).above g3 (fun i hi => by omega)).above g4 (fun i hi => by omega)
        have z4 : w2.heap.size < w4.heap.size := by have := g3.size; have := g4.size; simp at *; omega
        obtain ⟨st', hst⟩ : ∃ st', st' = (numS st size).2.2 := ⟨_, rfl⟩
        rw [← hst] at hrd4 hrf4 AA3 BB4
        clear hst hrd3 hrf3 hrd0 hrf0 g3 g4 n3 n4 cc3
        obtain ⟨k0, k1, _, _⟩ := cell_of_two hrf4.box
        have hrd4d := hrd4.drew
        have hrf4d := hrf4.drew
        have AA4 : Hid (st'.1 = [] ∨ ∀ b off sp, a3 = some ⟨b, off, sp⟩ → b < w2.heap.size) := AA3
        have BB5 : Hid (st'.1 = [] ∨ ∀ b off sp, a4 = some ⟨b, off, sp⟩ → b < w.heap.size) := BB4
        clear AA3 BB4
        go_wp2
        go_region_with (first
          | (go_at_call 22; refine (left_any rb a3 c3 st'.1 st'.2 _ ?_).mono ?_; exact hrd4d; rintro e w' ⟨rfl, rfl⟩)
          | (go_at_call 23; refine (end_any rb a3 c3 st'.1 st'.2 _ ?_).mono ?_; exact hrd4d; rintro e w' ⟨rfl, rfl⟩)
          | (go_at_call 24; refine (refEnd_any w2.heap.size a4 c4 st'.1 st'.2 _ ?_).mono ?_; exact hrf4d; rintro e w' ⟨rfl, rfl⟩))
        all_goals
          go_wp2
          go_roundw
          case rel => exact ⟨k + 1, a3, c3, a4, c4, st', by omega, by go_num, hrd4d, hrf4d, AA4.out, BB5.out, f4.drew, z4⟩
          case measure => simp [intOf]; omega
    · clear hrd hrf
      go_wp2_with fail
      refine (speaks_any _).mono ?_
      rintro e w7 ⟨rfl, f7⟩
      go_wp2
      go_ret
      exact ⟨rfl, hf.false_trans f7⟩

set_option maxRecDepth 100000 in
theorem lifted (os : Os) (started : os.Started) (H : Type) (enc : TypeId × Value → H) :
    ReturnsInHanded {} Try.checked os 4 .any (Rows.wireReadsSpec.pre6 enc Try.prog Try.f4 Rows.wireReadsRow.domain false) (Rows.wireReadsSpec.post enc Try.prog Try.f4 false true false false) := by
  refine returnsInHanded_of_change_sized (C := Try.checked) own started (by kernel_rfl) Try.func4
    (ChangeSpec.witness6 (enc := enc) (C := Try.checked) false ⟨#[], #[.slice none 0 0, .slice none 0 0], []⟩ 8 (by kernel_rfl) (by kernel_rfl) (by kernel_rfl) (by kernel_rfl)) ?_
  intro W base args ds gs before hval0 hW hcnd hsz0 _
  have hsz : (DataW.weightsEach Try.prog (Try.f4.params.toList ++ Rows.wireReadsSpec.plain.varTypes Try.prog) (ds ++ gs)).all (· ≤ reachBytes) = true := hsz0
  clear hsz0
  have hval : ∀ (j : Nat) t v, Try.f4.params[j]? = some t → args[j]? = some v → Value.okWide Try.prog W .any base t v := hval0
  have hW' := hW
  obtain ⟨p, q, hA0, hV, rfl, hfz, hnd⟩ := hW
  have hA : DataW.TrodAll enc Try.prog W 0 (fun _ => true) true Try.f4.params.toList args.toList ds p := hA0
  rw [Try.params4] at hA hval hsz
  obtain ⟨v0, vs0, d0, ds0, p0, q0, hargs, rfl, rfl, h0, r0⟩ := trodAll_cons hA
  obtain ⟨v1, vs1, d1, ds1, p1, q1, rfl, rfl, rfl, h1, r1⟩ := trodAll_cons r0
  obtain ⟨rfl, rfl, rfl⟩ := trodAll_nil r1
  obtain rfl : args = #[v0, v1] := by cases args; simp_all
  obtain ⟨rfl, rfl⟩ := trodVars_none hV
  obtain ⟨a0, len0, cap0, rfl⟩ := okWide_slice Try.underlying25 (hval 0 25 v0 rfl rfl)
  have k0 := h0
  have lt0 : ∀ x ∈ p0, x.block < W.heap.size := by obtain ⟨m, hm⟩ := k0; exact DataW.trod_lt m _ _ _ hm
  obtain ⟨l0, hl0, z0, hr0⟩ : ∃ l : List Nat, len0 = l.length ∧ cap0 ≤ 140737488351232 ∧ Row W a0 cap0 l := by
    obtain ⟨fuel, hf⟩ := h0
    rcases open_ints Try.underlying25 Try.underlying5 (by kernel_rfl) hf with ⟨hcs, _⟩ | ⟨x, l, c, zs, hcs, _, hl, hm, hz, hx, hcell, hwz⟩
    · simp [Value.cells] at hcs
      obtain ⟨rfl, rfl, rfl⟩ := hcs
      exact ⟨[], rfl, by omega, row_nil _ _⟩
    · simp [Value.cells] at hcs
      obtain ⟨rfl, rfl, rfl⟩ := hcs
      have hz' : zs.length = cap0 := by simpa using hz
      have hd : d0 = .slice (lits .u8 (zs.take len0)) (lits .u8 (zs.drop len0)) := congrArg Prod.fst hx
      have hcap : cap0 ≤ 140737488351232 := by
        have := sized_slice hsz (j := 0) (t := 25) (e := 5) rfl (by rw [hd]; rfl) Try.underlying25
        rw [bytes8] at this
        simp only [lits, List.length_map, List.length_take, List.length_drop, reachBytes] at this
        omega
      obtain ⟨l, h1, h2⟩ := row_of_ints hl (Nat.le_trans hcap (by omega)) hz' hcell hwz
      exact ⟨l, h1, hcap, h2⟩
  obtain ⟨a1, len1, cap1, rfl⟩ := okWide_slice Try.underlying22 (hval 1 22 v1 rfl rfl)
  have k1 := h1
  have lt1 : ∀ x ∈ p1, x.block < W.heap.size := by obtain ⟨m, hm⟩ := k1; exact DataW.trod_lt m _ _ _ hm
  obtain ⟨its1, hl1, hr1⟩ : ∃ its : List It, len1 = its.length ∧ Items W a1 cap1 its := by
    obtain ⟨fuel, hf⟩ := h1
    obtain ⟨its, sp, e1, e2, e3⟩ := items_open hf
    exact ⟨its, e1, e2⟩
  clear hA0 hval0
  refine (walk W a0 len0 cap0 l0 hl0 z0 hr0 a1 len1 cap1 its1 hl1 hr1).mono fun e W' ⟨he, fr⟩ => ?_
  have bel : Below W.heap.size W W' := fr.below (Nat.le_refl _) (fun _ f => f.elim)
  subst he
  exact ⟨_, rfl, _, _, _, [], _, [], hW', trodAll_mk1 (shut_bool Try.underlying4 _), (trodAll_cons_mk (Below.trod laidOut (by kernel_rfl) (of_decide_eq_true (by kernel_rfl)) k0 bel lt0) (trodAll_cons_mk (Below.trod laidOut (by kernel_rfl) (of_decide_eq_true (by kernel_rfl)) k1 bel lt1) trodAll_mk0)), rfl, bel.frame _, fun h => by cases h⟩

theorem proved : Rows.WireReadsSaid :=
  OpenClaim.holds_of_wide 4 Try.f4 rfl rfl rfl rfl rfl rfl rfl ⟨rfl, rfl, rfl, rfl, rfl⟩ rfl rfl rfl rfl rfl (by kernel_rfl) Try.func4 (by kernel_rfl)
    (of_decide_eq_true (by kernel_rfl)) (by unfold Func.isWrapper; first | (rw [if_pos (by decide +kernel)]; kernel_rfl) | (rw [if_neg (by decide +kernel)]; exact ⟨rfl, rfl⟩))
    (fun os started H enc _ => lifted os started H enc)
end Go.Proofs.Ytnnaaliadbihkaa.wireReads
namespace Go.Proofs.Ytnnaaliadbihkaa
theorem wireReads_holds : Rows.WireReadsSaid := wireReads.proved
#print axioms wireReads_holds
end Go.Proofs.Ytnnaaliadbihkaa
