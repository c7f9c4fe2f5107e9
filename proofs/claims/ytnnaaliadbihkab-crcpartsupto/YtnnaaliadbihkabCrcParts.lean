/- Where what comes in is of bulk at most 1048576, latticelaw02.CrcParts answers true and leaves its arguments as they were: the sum of two pieces goes on from the first one's, and what is sealed is opened as it was (2.3). -/
import Derived.Test.YtnnaaliadbihkabArgs
import Derived.Test.YtnnaaliadbihkabSpeak
import Derived.Test.YtnnaaliadbihkabOpenAll
import Derived.Test.YtnnaaliadbihkabBulk
import Derived.JoinedCond
namespace Go.Proofs.Ytnnaaliadbihkab.crcParts
open Go.ChangeShapes Go.WideShapes Go.ChangeAt Go.RowKit
open Go.ChangeMaps (open_string shut_string)
set_option linter.unusedVariables false

theorem own : ownKnob Try.prog.godebug = none := by kernel_rfl
theorem laidOut : laidOutB Try.prog = true := by kernel_rfl
theorem bytes8 : Try.prog.bytesOf 5 = 1 := by kernel_rfl

open Go.Proofs.Ytnnaaliadbihkab.Crcm

theorem more_crc (l m : List Nat) : reg (crc l ^^^ 4294967295) m ^^^ 4294967295 = crc (l ++ m) := by
  unfold crc
  rw [Nat.xor_assoc, Nat.xor_self, Nat.xor_zero, reg_append]
theorem opened_seal (l : List Nat) (hl : octs l) : opened (l ++ le4 (crc l)) = (l, 0) := by
  have h4 : (l ++ le4 (crc l)).length = l.length + 4 := by simp [le4]
  have e1 : (l ++ le4 (crc l)).length - 4 = l.length := by omega
  unfold opened
  rw [e1, if_neg (by omega), List.drop_left, List.take_left, if_pos (val_le4 _ (crc_lt hl))]

set_option maxHeartbeats 1000000 in
theorem walk (w : World) (a0 : Option Addr) (len0 cap0 : Nat) (l0 : List Nat) (hl0 : len0 = l0.length) (z0 : cap0 ≤ 1048576) (hr0 : Row w a0 cap0 l0) (a1 : Option Addr) (len1 cap1 : Nat) (l1 : List Nat) (hl1 : len1 = l1.length) (z1 : cap1 ≤ 1048576) (hr1 : Row w a1 cap1 l1) :
    Calls Try.prog 5 #[.slice a0 len0 cap0, .slice a1 len1 cap1] w fun e w' => e = .returned (.bool true) ∧ Fr (fun _ => False) w w' := by
  obtain ⟨i0, hi, hz0, hz1, hz2⟩ := info_parts info8
  subst hl0 hl1
  have e0 := hr0.le
  have e1 := hr1.le
  go_enter Try.func5, Try.ntmps5
  go_wp2_with (first
    | (at_builtin; refine wpList_append_row _ rfl (.tmp 10) (.tmp 11) 22 22 5 rfl i0 Try.underlying22 Try.underlying22 hi hz0 hz1 hz2 w.heap.size (.slice none 0 0) [] rfl (World.ownsRow_nil _ _ _ _) a0 l0.length cap0 l0 rfl rfl hr0 (by simp; omega) (Nat.le_refl _) ?_; intro a2 c2 w2 hown2 hgrow2 hat2; have m2 : Mine w2 w.heap.size (.slice a2 l0.length c2) l0 := (by simpa using hown2); have f2 : Fr (fun _ => False) w w2 := Fr.ofGrown hgrow2; clear hown2 hat2)
    | (at_builtin; refine wpList_append_row _ rfl (.tmp 13) (.tmp 14) 22 22 5 rfl i0 Try.underlying22 Try.underlying22 hi hz0 hz1 hz2 w.heap.size (.slice a2 l0.length c2) l0 rfl m2 a1 l1.length cap1 l1 rfl rfl (hr1.same f2) (by omega) f2.size ?_; intro a3 c3 w3 m3 hgrow3 hat3; have f3 := f2.fresh hgrow3 (fun k e => (m2.lt k e).1)))
  have hoc : octs (l0 ++ l1) := fun x hx => by
    rcases List.mem_append.mp hx with h | h
    · exact hr0.byte x h
    · exact hr1.byte x h
  obtain ⟨a4, c4, he4, hr3⟩ := m3.row hoc (by simp; omega)
  rw [List.length_append] at he4
  simp only [Value.slice.injEq, true_and] at he4
  obtain ⟨rfl, rfl⟩ := he4
  clear m3 hat3 hgrow3 m2 hgrow2
  have hcl := crc_lt hr0.byte
  refine (sum_any a0 _ cap0 l0 rfl _ (hr0.same f3)).mono ?_
  rintro e w4 ⟨rfl, rfl⟩
  go_wp2_with fail
  refine (more_any (crc l0) hcl a1 _ cap1 l1 rfl _ (hr1.same f3)).mono ?_
  rw [more_crc]
  rintro e w4 ⟨rfl, rfl⟩
  obtain ⟨lb, hlb⟩ : ∃ l, l = l0 ++ l1 := ⟨_, rfl⟩
  rw [← hlb] at hr3 hoc ⊢
  have hll : l0.length + l1.length = lb.length := by rw [hlb]; simp
  have hlb2 : lb.length ≤ 2097152 := by omega
  rw [hll]
  clear hlb hll
  go_wp2_with fail
  refine (seal_any a3 _ c3 lb rfl (by omega) _ hr3).mono ?_
  rintro e w5 ⟨v5, rfl, m5⟩
  have ho5 : octs (lb ++ le4 (crc lb)) := fun x hx => by
    rcases List.mem_append.mp hx with h | h
    · exact hoc x h
    · exact le4_octs _ x h
  have hs5 : (lb ++ le4 (crc lb)).length ≤ 140737488355328 := by simp [le4]; omega
  obtain ⟨a5, c5, hv5, hr5⟩ := m5.own.row ho5 hs5
  have h5 : (lb ++ le4 (crc lb)).length = lb.length + 4 := by simp [le4]
  rw [h5] at hv5
  rw [hv5]
  clear hv5
  have H5 : Hid ((lb ++ le4 (crc lb)).length = lb.length + 4) := h5
  clear h5
  go_wp2_with fail
  refine (open_all a5 (lb.length + 4) c5 (lb ++ le4 (crc lb)) H5.out.symm _ hr5).mono ?_
  rw [opened_seal lb hoc]
  rintro e w6 ⟨a6, c6, rfl, hr6, f6⟩
  have f36 := m5.fr.false_trans f6
  have f06 := f3.false_trans f36
  have hr36 := hr3.same f36
  clear ho5 hs5 m5 hr5
  go_wp2_with fail
  refine (sum_any a3 _ c3 lb rfl _ hr36).mono ?_
  rintro e w7 ⟨rfl, rfl⟩
  have cv1 := run_str (P := Try.prog) (src := 22) (dst := 9) Try.underlying22 Try.underlying5 Try.underlying9 hr6 lb.length rfl
  have cv2 := run_str (P := Try.prog) (src := 22) (dst := 9) Try.underlying22 Try.underlying5 Try.underlying9 hr36 lb.length rfl
  go_wp2_with fail
  refine (speaks_any _).mono ?_
  rintro e w8 ⟨rfl, f8⟩
  go_wp2
  go_ret
  exact ⟨rfl, f06.false_trans f8⟩

set_option maxRecDepth 100000 in
theorem lifted (os : Os) (started : os.Started) (H : Type) (enc : TypeId × Value → H) (F : Stop.Interp) :
    ReturnsInHanded {} Try.checked os 5 .any ((Rows.OpenSpec.upto Rows.crcPartsSpec).pre6 enc Try.prog Try.f5 Rows.crcPartsUptoRow.domain false) (((Rows.OpenSpec.upto Rows.crcPartsSpec).at F).post enc Try.prog Try.f5 false true false false) := by
  refine returnsInHanded_of_cond (C := Try.checked) (s := Rows.OpenSpec.upto Rows.crcPartsSpec) (k := Rows.uptoSmall) rfl own started (by kernel_rfl) Try.func5
    (OpenSpec.witness (enc := enc) (C := Try.checked) (s := Rows.OpenSpec.upto Rows.crcPartsSpec) (k := Rows.uptoSmall) rfl false ⟨#[], #[.slice none 0 0, .slice none 0 0], []⟩ 8 (by kernel_rfl) (by kernel_rfl) (by kernel_rfl)
      (x := ([.nil, .nil], [], [])) (by kernel_rfl) rfl (by kernel_rfl)) ?_
  intro W base args ds gs before hval0 hW hcnd hk0 _
  have hbulk : Rows.uptoBulkAll (ds ++ gs) ≤ 1048576 := of_decide_eq_true hk0
  clear hk0
  have hval : ∀ (j : Nat) t v, Try.f5.params[j]? = some t → args[j]? = some v → Value.okWide Try.prog W .any base t v := hval0
  have hW' := hW
  obtain ⟨p, q, hA0, hV, rfl, hfz, hnd⟩ := hW
  have hA : DataW.TrodAll enc Try.prog W 0 (fun _ => true) true Try.f5.params.toList args.toList ds p := hA0
  rw [Try.params5] at hA hval
  obtain ⟨v0, vs0, d0, ds0, p0, q0, hargs, rfl, rfl, h0, r0⟩ := trodAll_cons hA
  obtain ⟨v1, vs1, d1, ds1, p1, q1, rfl, rfl, rfl, h1, r1⟩ := trodAll_cons r0
  obtain ⟨rfl, rfl, rfl⟩ := trodAll_nil r1
  obtain rfl : args = #[v0, v1] := by cases args; simp_all
  obtain ⟨rfl, rfl⟩ := trodVars_none hV
  obtain ⟨a0, len0, cap0, rfl⟩ := okWide_slice Try.underlying22 (hval 0 22 v0 rfl rfl)
  have k0 := h0
  have lt0 : ∀ x ∈ p0, x.block < W.heap.size := by obtain ⟨m, hm⟩ := k0; exact DataW.trod_lt m _ _ _ hm
  obtain ⟨l0, hl0, z0, hr0⟩ : ∃ l : List Nat, len0 = l.length ∧ cap0 ≤ 1048576 ∧ Row W a0 cap0 l := by
    obtain ⟨fuel, hf⟩ := h0
    rcases open_ints Try.underlying22 Try.underlying5 (by kernel_rfl) hf with ⟨hcs, _⟩ | ⟨x, l, c, zs, hcs, _, hl, hm, hz, hx, hcell, hwz⟩
    · simp [Value.cells] at hcs
      obtain ⟨rfl, rfl, rfl⟩ := hcs
      exact ⟨[], rfl, by omega, row_nil _ _⟩
    · simp [Value.cells] at hcs
      obtain ⟨rfl, rfl, rfl⟩ := hcs
      have hz' : zs.length = cap0 := by simpa using hz
      have hd : d0 = .slice (lits .u8 (zs.take len0)) (lits .u8 (zs.drop len0)) := congrArg Prod.fst hx
      have hcap : cap0 ≤ 1048576 := by
        have h1 := Nat.le_trans (bulk_part (l := [d0, d1] ++ []) (j := 0) rfl) hbulk
        rw [hd] at h1
        have h2 := bulk_slice (lits (H := H) .u8 (zs.take len0)) (lits .u8 (zs.drop len0))
        simp only [lits, List.length_map, List.length_take, List.length_drop] at h1 h2
        omega
      obtain ⟨l, h1, h2⟩ := row_of_ints hl (Nat.le_trans hcap (by omega)) hz' hcell hwz
      exact ⟨l, h1, hcap, h2⟩
  obtain ⟨a1, len1, cap1, rfl⟩ := okWide_slice Try.underlying22 (hval 1 22 v1 rfl rfl)
  have k1 := h1
  have lt1 : ∀ x ∈ p1, x.block < W.heap.size := by obtain ⟨m, hm⟩ := k1; exact DataW.trod_lt m _ _ _ hm
  obtain ⟨l1, hl1, z1, hr1⟩ : ∃ l : List Nat, len1 = l.length ∧ cap1 ≤ 1048576 ∧ Row W a1 cap1 l := by
    obtain ⟨fuel, hf⟩ := h1
    rcases open_ints Try.underlying22 Try.underlying5 (by kernel_rfl) hf with ⟨hcs, _⟩ | ⟨x, l, c, zs, hcs, _, hl, hm, hz, hx, hcell, hwz⟩
    · simp [Value.cells] at hcs
      obtain ⟨rfl, rfl, rfl⟩ := hcs
      exact ⟨[], rfl, by omega, row_nil _ _⟩
    · simp [Value.cells] at hcs
      obtain ⟨rfl, rfl, rfl⟩ := hcs
      have hz' : zs.length = cap1 := by simpa using hz
      have hd : d1 = .slice (lits .u8 (zs.take len1)) (lits .u8 (zs.drop len1)) := congrArg Prod.fst hx
      have hcap : cap1 ≤ 1048576 := by
        have h1 := Nat.le_trans (bulk_part (l := [d0, d1] ++ []) (j := 1) rfl) hbulk
        rw [hd] at h1
        have h2 := bulk_slice (lits (H := H) .u8 (zs.take len1)) (lits .u8 (zs.drop len1))
        simp only [lits, List.length_map, List.length_take, List.length_drop] at h1 h2
        omega
      obtain ⟨l, h1, h2⟩ := row_of_ints hl (Nat.le_trans hcap (by omega)) hz' hcell hwz
      exact ⟨l, h1, hcap, h2⟩
  clear hA0 hval0
  refine (walk W a0 len0 cap0 l0 hl0 z0 hr0 a1 len1 cap1 l1 hl1 z1 hr1).mono fun e W' ⟨he, fr⟩ => ?_
  have bel : Below W.heap.size W W' := fr.below (Nat.le_refl _) (fun _ f => f.elim)
  subst he
  exact ⟨_, rfl, _, _, _, [], _, [], hW', trodAll_mk1 (shut_bool Try.underlying4 _), (trodAll_cons_mk (Below.trod laidOut (by kernel_rfl) (of_decide_eq_true (by kernel_rfl)) k0 bel lt0) (trodAll_cons_mk (Below.trod laidOut (by kernel_rfl) (of_decide_eq_true (by kernel_rfl)) k1 bel lt1) trodAll_mk0)), rfl, bel.frame _, fun h => by cases h⟩

theorem proved : Rows.CrcPartsUptoSaid :=
  OpenClaim.holds_of_cond 5 Try.f5 rfl rfl rfl rfl rfl rfl rfl ⟨rfl, rfl, rfl, rfl, rfl⟩ rfl rfl rfl rfl rfl (by kernel_rfl) Try.func5 (by kernel_rfl)
    (of_decide_eq_true (by kernel_rfl)) (by unfold Func.isWrapper; first | (rw [if_pos (by decide +kernel)]; kernel_rfl) | (rw [if_neg (by decide +kernel)]; exact ⟨rfl, rfl⟩))
    (fun os started H enc _ F => lifted os started H enc F)
end Go.Proofs.Ytnnaaliadbihkab.crcParts
namespace Go.Proofs.Ytnnaaliadbihkab
theorem crcParts_holds : Rows.CrcPartsUptoSaid := crcParts.proved
#print axioms crcParts_holds
end Go.Proofs.Ytnnaaliadbihkab
