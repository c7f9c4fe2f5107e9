
/- RcREnc, RcRDec, RcList. -/
import Derived.Test.YtnoadmkkkeianaaGreatYB14
import Derived.Test.YtnoadmkkkeianaaGreatYB8
import Derived.Test.YtnoadmkkkeianaaGreatYB13
import Derived.Test.YtnoadmkkkeianaaGreatYB3
import Derived.Test.YtnoadmkkkeianaaGreatYB9
import Derived.Test.YtnoadmkkkeianaaGreatYB10
import Derived.Deep.DeepCutAuto
import Derived.Test.YtnoadmkkkeianaaGreatYB5
import Derived.Deep.Strs
/- What the document's own Encode of a record makes. -/
namespace Go.Proofs.YtnoadmkkkeianaaGreat
open Go.RowKit Crcm

set_option maxRecDepth 100000 in
set_option maxHeartbeats 1000000 in
theorem rencode_rno (r : Rec) (hr : rok r = false) (w : World) : Calls Tryz.prog 37 #[(.agg #[.int .i64 r.lsn, .int .i64 r.ep, .int .i64 r.kind, .int .i64 r.page, .int .i64 r.other, .int .i64 r.req, .string r.key, .string r.val])] w fun e w' => e = .returned (.tuple #[.slice none 0 0, .int .i64 90]) ∧ Fr (fun _ => False) w w' := by
  have hrt := fun W => right_any r W
  rw [hr] at hrt
  clear hr
  go_enter Tryz.func37, Tryz.ntmps37
  go_wp2_with fail
  refine (hrt _).mono ?_
  rintro e w1 ⟨rfl, f1⟩
  go_wp2
  go_ret2
  exact ⟨rfl, (Fr.box w _).seq' f1⟩
set_option maxRecDepth 100000 in
set_option maxHeartbeats 4000000 in
theorem rencode_ryes (r : Rec) (hr : rok r = true) (w : World) : Calls Tryz.prog 37 #[(.agg #[.int .i64 r.lsn, .int .i64 r.ep, .int .i64 r.kind, .int .i64 r.page, .int .i64 r.other, .int .i64 r.req, .string r.key, .string r.val])] w fun e w' => ∃ v', e = .returned (.tuple #[v', .int .i64 0]) ∧ Made w w' v' (frm r) := by
  obtain ⟨i0, hi, hz0, hz1, hz2⟩ := info_parts info8
  have HG : Hid (Rg r) := rok_rg hr
  have hrt := fun W => right_any r W
  rw [hr] at hrt
  clear hr
  obtain ⟨W0, hW0⟩ : ∃ W0, W0 = w.alloc (.cells #[.int .i64 r.lsn, .int .i64 r.ep, .int .i64 r.kind, .int .i64 r.page, .int .i64 r.other, .int .i64 r.req, .string r.key, .string r.val] 30) := ⟨_, rfl⟩
  have f0 : Fr (fun _ => False) w W0 := by rw [hW0]; exact Fr.box w _
  have HB : Hid (∀ W, Fr (fun _ => False) W0 W → W.cell? ⟨w.heap.size, 0, none⟩ = some (.int .i64 r.lsn) ∧ W.cell? ⟨w.heap.size, 1, none⟩ = some (.int .i64 r.ep) ∧ W.cell? ⟨w.heap.size, 2, none⟩ = some (.int .i64 r.kind) ∧ W.cell? ⟨w.heap.size, 3, none⟩ = some (.int .i64 r.page) ∧ W.cell? ⟨w.heap.size, 4, none⟩ = some (.int .i64 r.other) ∧ W.cell? ⟨w.heap.size, 5, none⟩ = some (.int .i64 r.req) ∧ W.cell? ⟨w.heap.size, 6, none⟩ = some (.string r.key) ∧ W.cell? ⟨w.heap.size, 7, none⟩ = some (.string r.val)) := fun W f => by rw [hW0] at f; exact (rec_cells (rec_at w _ _ f)).1
  have HW : Hid (w.alloc (.cells #[.int .i64 r.lsn, .int .i64 r.ep, .int .i64 r.kind, .int .i64 r.page, .int .i64 r.other, .int .i64 r.req, .string r.key, .string r.val] 30) = W0) := hW0.symm
  have HS : Hid (rb r = le 8 r.lsn.toNat ++ le 8 r.ep.toNat ++ le 1 r.kind.toNat ++ le 4 r.page.toNat ++ le 4 r.other.toNat ++ le 8 r.req.toNat ++ txt r.key ++ txt r.val) := rfl
  have HL : Hid ((rb r).length = 37 + r.key.size + r.val.size) := rb_length r
  have HT : Hid (txt (strOf (rb r)) = rh r) := by show _ = _; rw [bytes_text _ (rb_octs r)]; rfl
  have HZ : Hid ((strOf (rb r)).size = (rb r).length) := by show _ = _; rw [← bsOf_length, bbsOf_strOf _ (rb_octs r)]
  clear hW0
  go_enter Tryz.func37, Tryz.ntmps37
  go_wp2_with fail
  rw [HW.out]
  refine (hrt _).mono ?_
  clear hrt
  rintro e w1 ⟨rfl, f1⟩
  have s1 : Ast W0 w1 (.slice none 0 0) [] := ⟨World.ownsRow_nil _ _ _ _, f1⟩
  have B1 : Hid (([] : List Nat).length ≤ 400 + 1 * 300) := Nat.zero_le _
  obtain ⟨c0, c1, c2, c3, c4, c5, c6, c7⟩ := HB.out _ s1.2
  go_wp2_with fail
  refine (rnum_i r.lsn 8 (by have := HG.out.lsn0; omega) (by have := HG.out.lsn1; omega) (by omega) _).mono ?_
  rintro e w1a ⟨x1, y1, rfl, r1, g1⟩
  clear c0 c1 c2 c3 c4 c5 c6 c7
  have t1 := s1.go g1
  have HL1 : Hid ((le 8 r.lsn.toNat).length = 8) := le_length _ _
  go_wp2_with (at_builtin; refine wpList_append_row _ rfl (.tmp 8) (.tmp 11) 41 41 5 rfl i0 Tryz.underlying41 Tryz.underlying41 hi hz0 hz1 hz2 W0.heap.size (.slice none 0 0) ([] : List Nat) rfl t1.1 x1 (8) y1 (le 8 r.lsn.toNat) HL1.out.symm rfl r1 ?hb ?hs ?_)
  case hb => have := HL1.out; have := B1.out; have := HG.out.key; have := HG.out.val; omega
  case hs => exact t1.2.size
  intro b1 d1 w2 own1 grow1 _
  have s2 := t1.grow own1 grow1
  obtain ⟨L2, hE2⟩ : ∃ L, L = le 8 r.lsn.toNat := ⟨_, rfl⟩
  have HE2 : Hid (L2 = le 8 r.lsn.toNat) := hE2
  have B2 : Hid (L2.length ≤ 400 + 2 * 300) := by show _ ≤ _; rw [hE2, HL1.out]; omega
  rw [← hE2] at s2
  try simp only [List.length_nil, Nat.zero_add]
  rw [← hE2]
  clear hE2 own1 grow1 r1 g1 t1 s1
  obtain ⟨c0, c1, c2, c3, c4, c5, c6, c7⟩ := HB.out _ s2.2
  go_wp2_with fail
  refine (rnum_i r.ep 8 HG.out.ep0 (by have := HG.out.ep1; omega) (by omega) _).mono ?_
  rintro e w2a ⟨x2, y2, rfl, r2, g2⟩
  clear c0 c1 c2 c3 c4 c5 c6 c7
  have t2 := s2.go g2
  have HL2 : Hid ((le 8 r.ep.toNat).length = 8) := le_length _ _
  go_wp2_with (at_builtin; refine wpList_append_row _ rfl (.tmp 13) (.tmp 16) 41 41 5 rfl i0 Tryz.underlying41 Tryz.underlying41 hi hz0 hz1 hz2 W0.heap.size (.slice b1 L2.length d1) L2 rfl t2.1 x2 (8) y2 (le 8 r.ep.toNat) HL2.out.symm rfl r2 ?hb ?hs ?_)
  case hb => have := HL2.out; have := B2.out; have := HG.out.key; have := HG.out.val; omega
  case hs => exact t2.2.size
  intro b2 d2 w3 own2 grow2 _
  have s3 := t2.grow own2 grow2
  obtain ⟨L3, hE3⟩ : ∃ L, L = L2 ++ (le 8 r.ep.toNat) := ⟨_, rfl⟩
  have HE3 : Hid (L3 = L2 ++ (le 8 r.ep.toNat)) := hE3
  have B3 : Hid (L3.length ≤ 400 + 3 * 300) := by show _ ≤ _; rw [hE3, List.length_append, HL2.out]; have := B2.out; have := HG.out.key; have := HG.out.val; omega
  have hll3 : L2.length + (le 8 r.ep.toNat).length = L3.length := by rw [hE3, List.length_append]
  rw [← hE3, hll3] at s3
  rw [hll3]
  clear hE3 hll3 own2 grow2 r2 g2 t2 s2
  obtain ⟨c0, c1, c2, c3, c4, c5, c6, c7⟩ := HB.out _ s3.2
  go_wp2_with fail
  refine (rnum_i r.kind 1 (by have := HG.out.kind0; omega) (by have := HG.out.kind1; omega) (by omega) _).mono ?_
  rintro e w3a ⟨x3, y3, rfl, r3, g3⟩
  clear c0 c1 c2 c3 c4 c5 c6 c7
  have t3 := s3.go g3
  have HL3 : Hid ((le 1 r.kind.toNat).length = 1) := le_length _ _
  go_wp2_with (at_builtin; refine wpList_append_row _ rfl (.tmp 18) (.tmp 21) 41 41 5 rfl i0 Tryz.underlying41 Tryz.underlying41 hi hz0 hz1 hz2 W0.heap.size (.slice b2 L3.length d2) L3 rfl t3.1 x3 (1) y3 (le 1 r.kind.toNat) HL3.out.symm rfl r3 ?hb ?hs ?_)
  case hb => have := HL3.out; have := B3.out; have := HG.out.key; have := HG.out.val; omega
  case hs => exact t3.2.size
  intro b3 d3 w4 own3 grow3 _
  have s4 := t3.grow own3 grow3
  obtain ⟨L4, hE4⟩ : ∃ L, L = L3 ++ (le 1 r.kind.toNat) := ⟨_, rfl⟩
  have HE4 : Hid (L4 = L3 ++ (le 1 r.kind.toNat)) := hE4
  have B4 : Hid (L4.length ≤ 400 + 4 * 300) := by show _ ≤ _; rw [hE4, List.length_append, HL3.out]; have := B3.out; have := HG.out.key; have := HG.out.val; omega
  have hll4 : L3.length + (le 1 r.kind.toNat).length = L4.length := by rw [hE4, List.length_append]
  rw [← hE4, hll4] at s4
  rw [hll4]
  clear hE4 hll4 own3 grow3 r3 g3 t3 s3
  obtain ⟨c0, c1, c2, c3, c4, c5, c6, c7⟩ := HB.out _ s4.2
  go_wp2_with fail
  refine (rnum_i r.page 4 HG.out.page0 (by have := HG.out.page1; omega) (by omega) _).mono ?_
  rintro e w4a ⟨x4, y4, rfl, r4, g4⟩
  clear c0 c1 c2 c3 c4 c5 c6 c7
  have t4 := s4.go g4
  have HL4 : Hid ((le 4 r.page.toNat).length = 4) := le_length _ _
  go_wp2_with (at_builtin; refine wpList_append_row _ rfl (.tmp 23) (.tmp 26) 41 41 5 rfl i0 Tryz.underlying41 Tryz.underlying41 hi hz0 hz1 hz2 W0.heap.size (.slice b3 L4.length d3) L4 rfl t4.1 x4 (4) y4 (le 4 r.page.toNat) HL4.out.symm rfl r4 ?hb ?hs ?_)
  case hb => have := HL4.out; have := B4.out; have := HG.out.key; have := HG.out.val; omega
  case hs => exact t4.2.size
  intro b4 d4 w5 own4 grow4 _
  have s5 := t4.grow own4 grow4
  obtain ⟨L5, hE5⟩ : ∃ L, L = L4 ++ (le 4 r.page.toNat) := ⟨_, rfl⟩
  have HE5 : Hid (L5 = L4 ++ (le 4 r.page.toNat)) := hE5
  have B5 : Hid (L5.length ≤ 400 + 5 * 300) := by show _ ≤ _; rw [hE5, List.length_append, HL4.out]; have := B4.out; have := HG.out.key; have := HG.out.val; omega
  have hll5 : L4.length + (le 4 r.page.toNat).length = L5.length := by rw [hE5, List.length_append]
  rw [← hE5, hll5] at s5
  rw [hll5]
  clear hE5 hll5 own4 grow4 r4 g4 t4 s4
  obtain ⟨c0, c1, c2, c3, c4, c5, c6, c7⟩ := HB.out _ s5.2
  go_wp2_with fail
  refine (rnum_i r.other 4 HG.out.other0 (by have := HG.out.other1; omega) (by omega) _).mono ?_
  rintro e w5a ⟨x5, y5, rfl, r5, g5⟩
  clear c0 c1 c2 c3 c4 c5 c6 c7
  have t5 := s5.go g5
  have HL5 : Hid ((le 4 r.other.toNat).length = 4) := le_length _ _
  go_wp2_with (at_builtin; refine wpList_append_row _ rfl (.tmp 28) (.tmp 31) 41 41 5 rfl i0 Tryz.underlying41 Tryz.underlying41 hi hz0 hz1 hz2 W0.heap.size (.slice b4 L5.length d4) L5 rfl t5.1 x5 (4) y5 (le 4 r.other.toNat) HL5.out.symm rfl r5 ?hb ?hs ?_)
  case hb => have := HL5.out; have := B5.out; have := HG.out.key; have := HG.out.val; omega
  case hs => exact t5.2.size
  intro b5 d5 w6 own5 grow5 _
  have s6 := t5.grow own5 grow5
  obtain ⟨L6, hE6⟩ : ∃ L, L = L5 ++ (le 4 r.other.toNat) := ⟨_, rfl⟩
  have HE6 : Hid (L6 = L5 ++ (le 4 r.other.toNat)) := hE6
  have B6 : Hid (L6.length ≤ 400 + 6 * 300) := by show _ ≤ _; rw [hE6, List.length_append, HL5.out]; have := B5.out; have := HG.out.key; have := HG.out.val; omega
  have hll6 : L5.length + (le 4 r.other.toNat).length = L6.length := by rw [hE6, List.length_append]
  rw [← hE6, hll6] at s6
  rw [hll6]
  clear hE6 hll6 own5 grow5 r5 g5 t5 s5
  obtain ⟨c0, c1, c2, c3, c4, c5, c6, c7⟩ := HB.out _ s6.2
  go_wp2_with fail
  refine (rnum_i r.req 8 HG.out.req0 (by have := HG.out.req1; omega) (by omega) _).mono ?_
  rintro e w6a ⟨x6, y6, rfl, r6, g6⟩
  clear c0 c1 c2 c3 c4 c5 c6 c7
  have t6 := s6.go g6
  have HL6 : Hid ((le 8 r.req.toNat).length = 8) := le_length _ _
  go_wp2_with (at_builtin; refine wpList_append_row _ rfl (.tmp 33) (.tmp 36) 41 41 5 rfl i0 Tryz.underlying41 Tryz.underlying41 hi hz0 hz1 hz2 W0.heap.size (.slice b5 L6.length d5) L6 rfl t6.1 x6 (8) y6 (le 8 r.req.toNat) HL6.out.symm rfl r6 ?hb ?hs ?_)
  case hb => have := HL6.out; have := B6.out; have := HG.out.key; have := HG.out.val; omega
  case hs => exact t6.2.size
  intro b6 d6 w7 own6 grow6 _
  have s7 := t6.grow own6 grow6
  obtain ⟨L7, hE7⟩ : ∃ L, L = L6 ++ (le 8 r.req.toNat) := ⟨_, rfl⟩
  have HE7 : Hid (L7 = L6 ++ (le 8 r.req.toNat)) := hE7
  have B7 : Hid (L7.length ≤ 400 + 7 * 300) := by show _ ≤ _; rw [hE7, List.length_append, HL6.out]; have := B6.out; have := HG.out.key; have := HG.out.val; omega
  have hll7 : L6.length + (le 8 r.req.toNat).length = L7.length := by rw [hE7, List.length_append]
  rw [← hE7, hll7] at s7
  rw [hll7]
  clear hE7 hll7 own6 grow6 r6 g6 t6 s6
  obtain ⟨c0, c1, c2, c3, c4, c5, c6, c7⟩ := HB.out _ s7.2
  go_wp2_with fail
  refine (rtext_i r.key (by have := HG.out.key; omega) _).mono ?_
  rintro e w7a ⟨x7, y7, rfl, r7, g7⟩
  clear c0 c1 c2 c3 c4 c5 c6 c7
  have t7 := s7.go g7
  have HL7 : Hid ((txt r.key).length = r.key.size + 2) := txt_length _
  go_wp2_with (at_builtin; refine wpList_append_row _ rfl (.tmp 38) (.tmp 41) 41 41 5 rfl i0 Tryz.underlying41 Tryz.underlying41 hi hz0 hz1 hz2 W0.heap.size (.slice b6 L7.length d6) L7 rfl t7.1 x7 (r.key.size + 2) y7 (txt r.key) HL7.out.symm rfl r7 ?hb ?hs ?_)
  case hb => have := HL7.out; have := B7.out; have := HG.out.key; have := HG.out.val; omega
  case hs => exact t7.2.size
  intro b7 d7 w8 own7 grow7 _
  have s8 := t7.grow own7 grow7
  obtain ⟨L8, hE8⟩ : ∃ L, L = L7 ++ (txt r.key) := ⟨_, rfl⟩
  have HE8 : Hid (L8 = L7 ++ (txt r.key)) := hE8
  have B8 : Hid (L8.length ≤ 400 + 8 * 300) := by show _ ≤ _; rw [hE8, List.length_append, HL7.out]; have := B7.out; have := HG.out.key; have := HG.out.val; omega
  have hll8 : L7.length + (txt r.key).length = L8.length := by rw [hE8, List.length_append]
  rw [← hE8, hll8] at s8
  rw [hll8]
  clear hE8 hll8 own7 grow7 r7 g7 t7 s7
  obtain ⟨c0, c1, c2, c3, c4, c5, c6, c7⟩ := HB.out _ s8.2
  go_wp2_with fail
  refine (rtext_i r.val (by have := HG.out.val; omega) _).mono ?_
  rintro e w8a ⟨x8, y8, rfl, r8, g8⟩
  clear c0 c1 c2 c3 c4 c5 c6 c7
  have t8 := s8.go g8
  have HL8 : Hid ((txt r.val).length = r.val.size + 2) := txt_length _
  go_wp2_with (at_builtin; refine wpList_append_row _ rfl (.tmp 43) (.tmp 46) 41 41 5 rfl i0 Tryz.underlying41 Tryz.underlying41 hi hz0 hz1 hz2 W0.heap.size (.slice b7 L8.length d7) L8 rfl t8.1 x8 (r.val.size + 2) y8 (txt r.val) HL8.out.symm rfl r8 ?hb ?hs ?_)
  case hb => have := HL8.out; have := B8.out; have := HG.out.key; have := HG.out.val; omega
  case hs => exact t8.2.size
  intro b8 d8 w9 own8 grow8 _
  have s9 := t8.grow own8 grow8
  obtain ⟨L9, hE9⟩ : ∃ L, L = L8 ++ (txt r.val) := ⟨_, rfl⟩
  have HE9 : Hid (L9 = L8 ++ (txt r.val)) := hE9
  have B9 : Hid (L9.length ≤ 400 + 9 * 300) := by show _ ≤ _; rw [hE9, List.length_append, HL8.out]; have := B8.out; have := HG.out.key; have := HG.out.val; omega
  have hll9 : L8.length + (txt r.val).length = L9.length := by rw [hE9, List.length_append]
  rw [← hE9, hll9] at s9
  rw [hll9]
  clear hE9 hll9 own8 grow8 r8 g8 t8 s8
  have hL9 : L9 = rb r := by rw [HE9.out, HE8.out, HE7.out, HE6.out, HE5.out, HE4.out, HE3.out, HE2.out, HS.out]
  have HL9 : Hid (L9 = rb r) := hL9
  clear hL9
  obtain ⟨a9, k9, he9, r9⟩ := s9.1.row (by rw [HL9.out]; exact rb_octs r) (by have := B9.out; omega)
  simp only [Value.slice.injEq, true_and] at he9
  obtain ⟨rfl, rfl⟩ := he9
  have cv := run_str (P := Tryz.prog) (src := 41) (dst := 9) Tryz.underlying41 Tryz.underlying5 Tryz.underlying9 r9 L9.length rfl
  obtain ⟨S9, hS9⟩ : ∃ S, S = strOf L9 := ⟨_, rfl⟩
  have HS9 : Hid (S9 = strOf (rb r)) := by show _ = _; rw [hS9, HL9.out]
  rw [← hS9] at cv
  have HZ9 : Hid (S9.size ≤ 400) := by show _ ≤ _; rw [HS9.out, HZ.out, HL.out]; have := HG.out.key; have := HG.out.val; omega
  have HT9 : Hid (txt S9 = rh r) := by show _ = _; rw [HS9.out]; exact HT.out
  have HN9 : Hid (S9.size + 2 = (rh r).length) := by show _ = _; rw [← HT9.out, txt_length]
  clear hS9
  go_wp2_with fail
  refine (rtext_i S9 (by have := HZ9.out; omega) _).mono ?_
  rw [HT9.out, HN9.out]
  rintro e w10 ⟨a10, k10, rfl, r10, g10⟩
  obtain ⟨RH, hRH⟩ : ∃ RH, RH = rh r := ⟨_, rfl⟩
  have HRH : Hid (RH ++ le4 (crc RH) = frm r) := by rw [hRH]; exact rfl
  have HRL : Hid (RH.length + 4 ≤ 140737488355328) := by show _ ≤ _; rw [hRH, ← HN9.out]; have := HZ9.out; omega
  rw [← hRH] at r10 ⊢
  clear hRH cv
  go_wp2_with fail
  refine (refSeal_any a10 _ k10 RH rfl HRL.out _ r10).mono ?_
  rw [HRH.out]
  rintro e w11 ⟨v11, rfl, m11⟩
  go_wp2
  go_ret2
  exact ⟨v11, rfl, Made.of ((f0.seq' s9.2).seq' g10) m11⟩
end Go.Proofs.YtnoadmkkkeianaaGreat

/- What the document's own Decode of a record tells. -/
namespace Go.Proofs.YtnoadmkkkeianaaGreat
open Go.RowKit Crcm

theorem fnum_nm (size : Int) (rb : Nat) (a : Option Addr) (cap : Nat) (st : RS) (w : World) (h : Rf w rb a cap st.1 st.2) :
    Calls Tryz.prog 59 #[.pointer (some ⟨rb, 0, none⟩), .int .i64 size] w fun e w' => ∃ er, e = .returned (.tuple #[.int .i64 (nm st size).1, .int .i64 er]) ∧
      ∃ a' c', Rf w' rb a' c' (nm st size).2.1 (nm st size).2.2 ∧ Fr (fun k => k = rb) w w' ∧ Near a a' := by
  refine (fnum_all size rb a cap st w h).mono ?_
  rintro e w' ⟨rfl, hq⟩
  exact ⟨_, rfl, hq⟩
theorem ftext_tx (most : Int) (rb : Nat) (a : Option Addr) (cap : Nat) (st : RS) (w : World) (h : Rf w rb a cap st.1 st.2) :
    Calls Tryz.prog 60 #[.pointer (some ⟨rb, 0, none⟩), .int .i64 most] w fun e w' => ∃ er, e = .returned (.tuple #[.string (tx st most).1, .int .i64 er]) ∧
      ∃ a' c', Rf w' rb a' c' (tx st most).2.1 (tx st most).2.2 ∧ Fr (fun k => k = rb) w w' ∧ Near a a' := by
  refine (ftext_all most rb a cap st w h).mono ?_
  rintro e w' ⟨rfl, hq⟩
  exact ⟨_, rfl, hq⟩

/-- A record to be at block nk, a reader at rb, an answer at W0's end; what was there at W0 is as it was. -/
structure Rv (W0 w : World) (nk rb : Nat) (a : Option Addr) (cap : Nat) (s : RS) (C : Array Value) : Prop where
  box : w.heap[nk]? = some (.cells C 30 (0, 0))
  rf : Rf w rb a cap s.1 s.2
  ne : rb < nk
  low : W0.heap.size < rb
  alt : ∀ b off sp, a = some ⟨b, off, sp⟩ → b < W0.heap.size
  fr : Fr (fun _ => False) W0 w
  res : w.heap[W0.heap.size]? = some (.cells #[.int .i64 0, .int .i64 0, .int .i64 0, .int .i64 0, .int .i64 0, .int .i64 0, .string ⟨#[]⟩, .string ⟨#[]⟩] 30 (0, 0))
section
variable {W0 w w' : World} {nk rb : Nat} {a a' : Option Addr} {cap c' : Nat} {s s' : RS} {C : Array Value}
theorem Rv.goR (h : Rv W0 w nk rb a cap s C) (r : Rf w' rb a' c' s'.1 s'.2) (f : Fr (fun k => k = rb) w w') (na : Near a a') : Rv W0 w' nk rb a' c' s' C := by
  have h1 := h.ne
  have h2 := h.low
  exact ⟨by rw [f.block nk (lt_of_block h.box) (by omega)]; exact h.box, r, h.ne, h.low, (fun b off sp e => by obtain ⟨o, t, e2⟩ := na b off sp e; exact h.alt b o t e2), h.fr.trans f (S := fun _ => False) (fun i hi e => by omega), by rw [f.block _ (lt_of_block h.res) (by omega)]; exact h.res⟩
theorem Rv.putAll (h : Rv W0 w nk rb a cap s C) (f : Fr (fun k => k = nk) w w') {D : Array Value} (hb : w'.heap[nk]? = some (.cells D 30 (0, 0))) : Rv W0 w' nk rb a cap s D := by
  have h1 := h.ne
  have h2 := h.low
  have h3 := h.fr.size
  have h4 := lt_of_block h.box
  exact ⟨hb, ⟨by rw [f.block rb (lt_of_block h.rf.box) (by omega)]; exact h.rf.box, h.rf.row.fr f (fun b off sp e => by have := h.alt b off sp e; omega), h.rf.far⟩, h.ne, h.low, h.alt, h.fr.trans f (S := fun _ => False) (fun i hi e => by omega), by rw [f.block _ (lt_of_block h.res) (by omega)]; exact h.res⟩
theorem Rv.same (h : Rv W0 w nk rb a cap s C) (f : Fr (fun _ => False) w w') : Rv W0 w' nk rb a cap s C :=
  ⟨by rw [f.block nk (lt_of_block h.box) (fun f => f)]; exact h.box, ⟨by rw [f.block rb (lt_of_block h.rf.box) (fun f => f)]; exact h.rf.box, h.rf.row.same f, h.rf.far⟩, h.ne, h.low, h.alt, h.fr.seq' f, by rw [f.block _ (lt_of_block h.res) (fun f => f)]; exact h.res⟩
end

set_option maxRecDepth 100000 in
set_option maxHeartbeats 1000000 in
theorem rdecode_short (a : Option Addr) (cap : Nat) (l : List Nat) (h2 : l.length < 2) (w : World) :
    Calls Tryz.prog 39 #[.slice a l.length cap] w fun e w' => RdOut w (rdec l) e w' := by
  have f0 := Fr.box w (.cells #[.int .i64 0, .int .i64 0, .int .i64 0, .int .i64 0, .int .i64 0, .int .i64 0, .string ⟨#[]⟩, .string ⟨#[]⟩] 30)
  have HR : Hid (∀ W, Fr (fun _ => False) (w.alloc (.cells #[.int .i64 0, .int .i64 0, .int .i64 0, .int .i64 0, .int .i64 0, .int .i64 0, .string ⟨#[]⟩, .string ⟨#[]⟩] 30)) W → W.heap[w.heap.size]? = some (.cells #[.int .i64 0, .int .i64 0, .int .i64 0, .int .i64 0, .int .i64 0, .int .i64 0, .string ⟨#[]⟩, .string ⟨#[]⟩] 30 (0, 0))) := fun W f => rec_at w _ _ f
  have HX : Hid (rdec l = (zr, 0, 10)) := by show _ = _; unfold rdec; rw [if_pos h2]
  have i1 : (l.length : Int) < 2 := by omega
  have fr := Fr.refl (fun _ => False) (w.alloc (.cells #[.int .i64 0, .int .i64 0, .int .i64 0, .int .i64 0, .int .i64 0, .int .i64 0, .string ⟨#[]⟩, .string ⟨#[]⟩] 30))
  clear h2
  obtain ⟨⟨z0, z1, z2, z3, z4, z5, z6, z7⟩, zz⟩ := rec_cells (HR.out _ fr)
  have x0 := zz 0; have x1 := zz 1; have x2 := zz 2; have x3 := zz 3; have x4 := zz 4; have x5 := zz 5; have x6 := zz 6; have x7 := zz 7
  clear zz
  go_enter Tryz.func39, Tryz.ntmps39
  go_wp2
  exact bodyPost_ret (v := .tuple #[.agg #[.int .i64 0, .int .i64 0, .int .i64 0, .int .i64 0, .int .i64 0, .int .i64 0, .string ⟨#[]⟩, .string ⟨#[]⟩], .int .i64 0, .int .i64 ((10 : Nat) : Int)]) (by simp [results, Tryz.results39, go_sem, z0, z1, z2, z3, z4, z5, z6, z7]) rfl (rd_no HX.out f0)

set_option maxRecDepth 100000 in
set_option maxHeartbeats 4000000 in
theorem rdecode_rec (a : Option Addr) (n cap : Nat) (l : List Nat) (hn : n = l.length) (w : World) (hr : Row w a cap l) :
    Calls Tryz.prog 39 #[.slice a n cap] w fun e w' => RdOut w (rdec l) e w' := by
  subst hn
  by_cases h2 : l.length < 2
  · exact rdecode_short a cap l h2 w
  have f0 := Fr.box w (.cells #[.int .i64 0, .int .i64 0, .int .i64 0, .int .i64 0, .int .i64 0, .int .i64 0, .string ⟨#[]⟩, .string ⟨#[]⟩] 30)
  have HR : Hid (∀ W, Fr (fun _ => False) (w.alloc (.cells #[.int .i64 0, .int .i64 0, .int .i64 0, .int .i64 0, .int .i64 0, .int .i64 0, .string ⟨#[]⟩, .string ⟨#[]⟩] 30)) W → W.heap[w.heap.size]? = some (.cells #[.int .i64 0, .int .i64 0, .int .i64 0, .int .i64 0, .int .i64 0, .int .i64 0, .string ⟨#[]⟩, .string ⟨#[]⟩] 30 (0, 0))) := fun W f => rec_at w _ _ f
  have hle := hr.le
  have hmx := hr.max
  obtain ⟨b, off, rfl, hb, hc⟩ : ∃ b off, a = some ⟨b, off, none⟩ ∧ b < w.heap.size ∧ ∀ i, i < l.length → w.cell? ⟨b, off + i, none⟩ = some (.int .u8 ((l.getD i 0 : Nat) : Int)) := by
    rcases hr.at_ with e | e
    · rw [e] at h2; simp at h2
    · exact e
  have HC : Hid (∀ W, Fr (fun _ => False) w W → ∀ i, i < l.length → W.cell? ⟨b, off + i, none⟩ = some (.int .u8 ((l.getD i 0 : Nat) : Int))) := fun W f i hi => (f.cell (p := ⟨b, off + i, none⟩) hb (fun f => f)).trans (hc i hi)
  have c0 := HC.out _ f0 0 (by omega)
  have c1 := HC.out _ f0 1 (by omega)
  have x0 := octs_getD hr.byte 0
  have x1 := octs_getD hr.byte 1
  have hvv := val2 (l := l) (by omega)
  obtain ⟨x, hx⟩ : ∃ x, x = l.getD 0 0 := ⟨_, rfl⟩
  obtain ⟨y, hy⟩ : ∃ x, x = l.getD 1 0 := ⟨_, rfl⟩
  rw [← hx] at c0 x0 hvv
  rw [← hy] at c1 x1 hvv
  rw [Nat.add_zero] at c0
  obtain ⟨v, hv0⟩ : ∃ v, v = val (l.take 2) := ⟨_, rfl⟩
  have HV : Hid (v = val (l.take 2)) := hv0
  have HXY : Hid (v = x + 256 * y) := by show _ = _; rw [hv0]; exact hvv
  have hv : v < 65536 := by rw [HXY.out]; omega
  clear hx hy hc hv0 hvv
  have i1 : ¬ (l.length : Int) < 2 := by omega
  have i2 : (0 : Int) < (l.length : Int) := by omega
  have i3 : (1 : Int) < (l.length : Int) := by omega
  have H2 : Hid (¬ l.length < 2) := h2
  clear h2
  go_enter Tryz.func39, Tryz.ntmps39
  go_upto_region 3 with fail
  go_cut [5] (fun t wc => t = .int .i64 (v : Nat) ∧ Fr (fun _ => False) (w.alloc (.cells #[.int .i64 0, .int .i64 0, .int .i64 0, .int .i64 0, .int .i64 0, .int .i64 0, .string ⟨#[]⟩, .string ⟨#[]⟩] 30)) wc)
  case first =>
    go_quiet (fail)
    go_wp2
    go_meet
    exact ⟨val_int (by have := HXY.out; omega), Fr.drewN (Fr.refl _ _) _⟩
  case rest =>
  obtain ⟨rfl, F1⟩ := hcut
  clear c0 c1 x0 x1 HXY
  have e6 : IntKind.i64.wrap ((v : Int) + 6) = (v : Int) + 6 := by simp [IntKind.wrap, IntKind.bits, IntKind.signed]; omega
  have e2 : IntKind.i64.wrap ((v : Int) + 2) = (v : Int) + 2 := by simp [IntKind.wrap, IntKind.bits, IntKind.signed]; omega
  by_cases h6 : l.length < v + 6
  · have HX : Hid (rdec l = (zr, 0, 10)) := by show _ = _; unfold rdec; rw [if_neg H2.out, ← HV.out, if_pos h6]
    have h7 : (l.length : Int) < (v : Int) + 6 := by omega
    clear h6
    obtain ⟨⟨z0, z1, z2, z3, z4, z5, z6, z7⟩, zz⟩ := rec_cells (HR.out _ F1)
    have x0 := zz 0; have x1 := zz 1; have x2 := zz 2; have x3 := zz 3; have x4 := zz 4; have x5 := zz 5; have x6 := zz 6; have x7 := zz 7
    obtain ⟨hb, ff⟩ := fin8 (HR.out _ F1) (.int .i64 0) (.int .i64 0) (.int .i64 0) (.int .i64 0) (.int .i64 0) (.int .i64 0) (.string ⟨#[]⟩) (.string ⟨#[]⟩)
    obtain ⟨⟨q0, q1, q2, q3, q4, q5, q6, q7⟩, _⟩ := rec_cells hb
    have ff2 := (f0.seq' F1).trans ff (S := fun _ => False) (fun i hi e => by omega)
    clear zz
    go_wp2
    exact bodyPost_ret (v := .tuple #[.agg #[.int .i64 0, .int .i64 0, .int .i64 0, .int .i64 0, .int .i64 0, .int .i64 0, .string ⟨#[]⟩, .string ⟨#[]⟩], .int .i64 0, .int .i64 ((10 : Nat) : Int)]) (by simp [results, Tryz.results39, go_sem, q0, q1, q2, q3, q4, q5, q6, q7]) rfl (rd_no HX.out ff2)
  have h7 : ¬ (l.length : Int) < (v : Int) + 6 := by omega
  have j1 : (v : Int) + 6 ≤ (cap : Int) := by omega
  have j2 : (v : Int) + 2 ≤ (cap : Int) := by omega
  have j0 : (0 : Int) ≤ (v : Int) + 6 := by omega
  have j3 : (2 : Int) ≤ (v : Int) + 2 := by omega
  have j4 : ¬ cap = 2 := by omega
  have HTL : Hid ((l.take (v + 6)).length = v + 6) := by show _ = _; rw [List.length_take]; omega
  have HO := opened_two (l.take (v + 6)) (by rw [HTL.out]; omega)
  have hop := fun W hW => refOpen_all (some ⟨b, off, none⟩) (v + 6) cap (l.take (v + 6)) HTL.out.symm W hW
  have HRT : Hid (∀ W, Fr (fun _ => False) w W → Row W (some ⟨b, off, none⟩) cap (l.take (v + 6))) := fun W f => (hr.take (v + 6)).same f
  have HRD : Hid (rdec l = if (opened (l.take (v + 6))).2 ≠ 0 then (zr, 0, 20) else match recD ((l.drop 2).take v) with
      | none => (zr, 0, 90)
      | some r => (r, v + 6, 0)) := by show _ = _; unfold rdec; rw [if_neg H2.out, ← HV.out, if_neg h6]; rfl
  have HBY : Hid (octs l) := hr.byte
  have hsm := hr.small
  clear h6 HV H2 i1 i2 i3
  rcases HO with ⟨o2, _⟩ | ⟨o2, _⟩
  · rw [o2] at hop
    have HRX : Hid (rdec l = match recD ((l.drop 2).take v) with
      | none => (zr, 0, 90)
      | some r => (r, v + 6, 0)) := by show _ = _; rw [HRD.out, if_neg (by rw [o2]; decide)]
    obtain ⟨u, hu⟩ : ∃ u, u = (l.drop 2).take v := ⟨_, rfl⟩
    have hul : u.length = v := by rw [hu, List.length_take, List.length_drop]; omega
    have HUL : Hid (u.length = v) := hul
    have huo : octs u := by rw [hu]; exact octs_take (fun x hx => HBY.out x (List.mem_of_mem_drop hx)) v
    have HUO : Hid (octs u) := huo
    have HUR : Hid (∀ W, Fr (fun _ => False) w W → Row W (some ⟨b, off + 2, none⟩) (cap - 2) u) := fun W f => by
      have h1 := (hr.drop 2 (by omega) (off + 2) (.inr rfl) (.inr ⟨hb, fun i hi => HC.out w (Fr.refl _ _) i hi⟩)).take v
      rw [← hu] at h1
      exact h1.same f
    rw [← hu] at HRX
    have HRM : Hid (recD u = recM u 65535) := (recM_recD u huo 65535 (by omega) (by omega)).symm
    obtain ⟨y1, h1⟩ : ∃ y, y = nm (u, 0) 8 := ⟨_, rfl⟩
    obtain ⟨y2, h2⟩ : ∃ y, y = nm y1.2 8 := ⟨_, rfl⟩
    obtain ⟨y3, h3⟩ : ∃ y, y = nm y2.2 1 := ⟨_, rfl⟩
    obtain ⟨y4, h4⟩ : ∃ y, y = nm y3.2 4 := ⟨_, rfl⟩
    obtain ⟨y5, h5⟩ : ∃ y, y = nm y4.2 4 := ⟨_, rfl⟩
    obtain ⟨y6, h6⟩ : ∃ y, y = nm y5.2 8 := ⟨_, rfl⟩
    obtain ⟨y7, h7'⟩ : ∃ y, y = tx y6.2 65535 := ⟨_, rfl⟩
    obtain ⟨y8, h8⟩ : ∃ y, y = tx y7.2 65535 := ⟨_, rfl⟩
    have HS : Hid (recS (u, 0) 65535 = (⟨y1.1, y2.1, y3.1, y4.1, y5.1, y6.1, y7.1, y8.1⟩, y8.2)) := recS_eq (u, 0) 65535 h1.symm h2.symm h3.symm h4.symm h5.symm h6.symm h7'.symm h8.symm
    have H1 : Hid (y1 = nm (u, 0) 8) := h1
    have H2 : Hid (y2 = nm y1.2 8) := h2
    have H3 : Hid (y3 = nm y2.2 1) := h3
    have H4 : Hid (y4 = nm y3.2 4) := h4
    have H5 : Hid (y5 = nm y4.2 4) := h5
    have H6 : Hid (y6 = nm y5.2 8) := h6
    have H7 : Hid (y7 = tx y6.2 65535) := h7'
    have H8 : Hid (y8 = tx y7.2 65535) := h8
    have HD : Hid (recD u = if endOf y8.2.1 y8.2.2 = 0 ∧ rok ⟨y1.1, y2.1, y3.1, y4.1, y5.1, y6.1, y7.1, y8.1⟩ = true then some ⟨y1.1, y2.1, y3.1, y4.1, y5.1, y6.1, y7.1, y8.1⟩ else none) := by
      show _ = _
      rw [HRM.out]
      unfold recM; rw [HS.out]
    clear o2 HRD hu hul huo h1 h2 h3 h4 h5 h6 h7' h8 HS HRM HBY HTL HC
    go_wp2_with fail
    refine (hop _ (HRT.out _ (f0.seq' F1))).mono ?_
    clear hop HRT
    rintro e w1 ⟨a2, c2, rfl, r2, f2⟩
    have F2 := F1.seq' f2
    have G2 := f0.seq' F2
    have hs2 := F2.size
    have hz : (w.alloc (.cells #[.int .i64 0, .int .i64 0, .int .i64 0, .int .i64 0, .int .i64 0, .int .i64 0, .string ⟨#[]⟩, .string ⟨#[]⟩] 30)).heap.size = w.heap.size + 1 := by simp
    have hz2 : (w1.alloc (.cells #[.slice (some ⟨b, off + 2, none⟩) v (cap - 2), .int .i64 0] 100)).heap.size = w1.heap.size + 1 := by simp
    have B0 : Rv w ((w1.alloc (.cells #[.slice (some ⟨b, off + 2, none⟩) v (cap - 2), .int .i64 0] 100)).alloc (.cells #[.int .i64 0, .int .i64 0, .int .i64 0, .int .i64 0, .int .i64 0, .int .i64 0, .string ⟨#[]⟩, .string ⟨#[]⟩] 30)) (w1.heap.size + 1) w1.heap.size (some ⟨b, off + 2, none⟩) (cap - 2) (u, 0) #[.int .i64 0, .int .i64 0, .int .i64 0, .int .i64 0, .int .i64 0, .int .i64 0, .string ⟨#[]⟩, .string ⟨#[]⟩] := by
      have fb := Fr.box w1 (.cells #[.slice (some ⟨b, off + 2, none⟩) v (cap - 2), .int .i64 0] 100)
      have fc := Fr.box (w1.alloc (.cells #[.slice (some ⟨b, off + 2, none⟩) v (cap - 2), .int .i64 0] 100)) (.cells #[.int .i64 0, .int .i64 0, .int .i64 0, .int .i64 0, .int .i64 0, .int .i64 0, .string ⟨#[]⟩, .string ⟨#[]⟩] 30)
      refine ⟨by have := heap_alloc_new (w1.alloc (.cells #[.slice (some ⟨b, off + 2, none⟩) v (cap - 2), .int .i64 0] 100)) (.cells #[.int .i64 0, .int .i64 0, .int .i64 0, .int .i64 0, .int .i64 0, .int .i64 0, .string ⟨#[]⟩, .string ⟨#[]⟩] 30); rw [hz2] at this; exact this, ⟨?_, HUR.out _ ((G2.seq' fb).seq' fc), ?_⟩, by omega, by omega, ?_, (G2.seq' fb).seq' fc, HR.out _ ((F2.seq' fb).seq' fc)⟩
      · rw [fc.block _ (by omega) (fun f => f)]
        dsimp only
        rw [HUL.out]
        exact heap_alloc_new w1 _
      · right
        intro b' o' s' e
        simp only [Option.some.injEq, Addr.mk.injEq] at e
        omega
      · intro b' o' s' e
        simp only [Option.some.injEq, Addr.mk.injEq] at e
        omega
    clear HUR r2 hs2 hz
    go_wp2_with fail
    refine (fnum_nm 8 w1.heap.size (some ⟨b, off + 2, none⟩) (cap - 2) (u, 0) _ B0.rf).mono ?_
    rw [← H1.out]
    rintro e w3 ⟨er0, rfl, a3, c3, r2, g2, n2⟩
    have B1 := B0.goR r2 g2 n2
    clear r2 g2 n2 B0
    go_wp2_with fail
    refine (fnum_nm 8 w1.heap.size a3 c3 y1.2 _ B1.rf).mono ?_
    rw [← H2.out]
    rintro e w4 ⟨er1, rfl, a4, c4, r2, g2, n2⟩
    have B2 := B1.goR r2 g2 n2
    clear r2 g2 n2 B1
    go_wp2_with fail
    refine (fnum_nm 1 w1.heap.size a4 c4 y2.2 _ B2.rf).mono ?_
    rw [← H3.out]
    rintro e w5 ⟨er2, rfl, a5, c5, r2, g2, n2⟩
    have B3 := B2.goR r2 g2 n2
    clear r2 g2 n2 B2
    go_wp2_with fail
    refine (fnum_nm 4 w1.heap.size a5 c5 y3.2 _ B3.rf).mono ?_
    rw [← H4.out]
    rintro e w6 ⟨er3, rfl, a6, c6, r2, g2, n2⟩
    have B4 := B3.goR r2 g2 n2
    clear r2 g2 n2 B3
    go_wp2_with fail
    refine (fnum_nm 4 w1.heap.size a6 c6 y4.2 _ B4.rf).mono ?_
    rw [← H5.out]
    rintro e w7 ⟨er4, rfl, a7, c7, r2, g2, n2⟩
    have B5 := B4.goR r2 g2 n2
    clear r2 g2 n2 B4
    go_wp2_with fail
    refine (fnum_nm 8 w1.heap.size a7 c7 y5.2 _ B5.rf).mono ?_
    rw [← H6.out]
    rintro e w8 ⟨er5, rfl, a8, c8, r2, g2, n2⟩
    have B6 := B5.goR r2 g2 n2
    clear r2 g2 n2 B5
    go_wp2_with fail
    refine (ftext_tx 65535 w1.heap.size a8 c8 y6.2 _ B6.rf).mono ?_
    rw [← H7.out]
    rintro e w9 ⟨er6, rfl, a9, c9, r2, g2, n2⟩
    have B7 := B6.goR r2 g2 n2
    clear r2 g2 n2 B6
    go_wp2_with fail
    refine (ftext_tx 65535 w1.heap.size a9 c9 y7.2 _ B7.rf).mono ?_
    rw [← H8.out]
    rintro e w10 ⟨er7, rfl, a10, c10, r2, g2, n2⟩
    have B8 := B7.goR r2 g2 n2
    clear r2 g2 n2 B7
    obtain ⟨⟨k0, k1, k2, k3, k4, k5, k6, k7⟩, fz⟩ := rec_cells B8.box
    have x0 := fz 0; have x1 := fz 1; have x2 := fz 2; have x3 := fz 3; have x4 := fz 4; have x5 := fz 5; have x6 := fz 6; have x7 := fz 7
    obtain ⟨hbx, ffx⟩ := fin8 B8.box (.int .i64 y1.1) (.int .i64 y2.1) (.int .i64 y3.1) (.int .i64 y4.1) (.int .i64 y5.1) (.int .i64 y6.1) (.string y7.1) (.string y8.1)
    have B9 := B8.putAll ffx hbx
    obtain ⟨W9, hW9⟩ : ∃ W, W = ((((((((w10.setCell ⟨w1.heap.size + 1, 0, none⟩ (.int .i64 y1.1)).setCell ⟨w1.heap.size + 1, 1, none⟩ (.int .i64 y2.1)).setCell ⟨w1.heap.size + 1, 2, none⟩ (.int .i64 y3.1)).setCell ⟨w1.heap.size + 1, 3, none⟩ (.int .i64 y4.1)).setCell ⟨w1.heap.size + 1, 4, none⟩ (.int .i64 y5.1)).setCell ⟨w1.heap.size + 1, 5, none⟩ (.int .i64 y6.1)).setCell ⟨w1.heap.size + 1, 6, none⟩ (.string y7.1)).setCell ⟨w1.heap.size + 1, 7, none⟩ (.string y8.1)) := ⟨_, rfl⟩
    have HW9 : Hid (((((((((w10.setCell ⟨w1.heap.size + 1, 0, none⟩ (.int .i64 y1.1)).setCell ⟨w1.heap.size + 1, 1, none⟩ (.int .i64 y2.1)).setCell ⟨w1.heap.size + 1, 2, none⟩ (.int .i64 y3.1)).setCell ⟨w1.heap.size + 1, 3, none⟩ (.int .i64 y4.1)).setCell ⟨w1.heap.size + 1, 4, none⟩ (.int .i64 y5.1)).setCell ⟨w1.heap.size + 1, 5, none⟩ (.int .i64 y6.1)).setCell ⟨w1.heap.size + 1, 6, none⟩ (.string y7.1)).setCell ⟨w1.heap.size + 1, 7, none⟩ (.string y8.1)) = W9) := hW9.symm
    rw [← hW9] at B9
    clear hW9 fz hbx ffx B8
    have hen := refEnd_any w1.heap.size a10 c10 y8.2.1 y8.2.2 W9 B9.rf
    obtain ⟨en, hen0⟩ : ∃ en, en = endOf y8.2.1 y8.2.2 := ⟨_, rfl⟩
    rw [← hen0] at hen HD
    clear hen0
    obtain ⟨r, hr'⟩ : ∃ r : Rec, r = ⟨y1.1, y2.1, y3.1, y4.1, y5.1, y6.1, y7.1, y8.1⟩ := ⟨_, rfl⟩
    have hck := fun W => right_any ⟨y1.1, y2.1, y3.1, y4.1, y5.1, y6.1, y7.1, y8.1⟩ W
    rw [← hr'] at HD hck
    have HRV : Hid ((Value.agg #[.int .i64 r.lsn, .int .i64 r.ep, .int .i64 r.kind, .int .i64 r.page, .int .i64 r.other, .int .i64 r.req, .string r.key, .string r.val]) = .agg #[.int .i64 y1.1, .int .i64 y2.1, .int .i64 y3.1, .int .i64 y4.1, .int .i64 y5.1, .int .i64 y6.1, .string y7.1, .string y8.1]) := by show _ = _; rw [hr']
    rw [HRV.out] at hck
    clear hr'
    by_cases he : en = 0
    · subst he
      cases hk : rok r with
      | true =>
        have HX : Hid (rdec l = (r, v + 6, 0)) := by show _ = _; rw [HRX.out, HD.out, if_pos ⟨rfl, hk⟩]
        rw [hk] at hck
        clear hk
        go_wp2_with fail
        rw [HW9.out]
        refine hen.mono ?_
        rintro e w11 ⟨rfl, rfl⟩
        clear k0 k1 k2 k3 k4 k5 k6 k7 x0 x1 x2 x3 x4 x5 x6 x7
        obtain ⟨⟨k0, k1, k2, k3, k4, k5, k6, k7⟩, fz⟩ := rec_cells B9.box
        go_wp2_with fail
        refine (hck _).mono ?_
        rintro e w12 ⟨rfl, f12⟩
        have B10 := B9.same f12
        clear k0 k1 k2 k3 k4 k5 k6 k7 fz
        obtain ⟨⟨k0, k1, k2, k3, k4, k5, k6, k7⟩, fz⟩ := rec_cells B10.box
        obtain ⟨⟨z0, z1, z2, z3, z4, z5, z6, z7⟩, zz⟩ := rec_cells B10.res
        have x0 := zz 0; have x1 := zz 1; have x2 := zz 2; have x3 := zz 3; have x4 := zz 4; have x5 := zz 5; have x6 := zz 6; have x7 := zz 7
        obtain ⟨hb', ff⟩ := fin8 B10.res (.int .i64 y1.1) (.int .i64 y2.1) (.int .i64 y3.1) (.int .i64 y4.1) (.int .i64 y5.1) (.int .i64 y6.1) (.string y7.1) (.string y8.1)
        obtain ⟨⟨q0, q1, q2, q3, q4, q5, q6, q7⟩, _⟩ := rec_cells hb'
        have ff2 := B10.fr.trans ff (S := fun _ => False) (fun i hi e => by omega)
        clear zz fz
        go_wp2
        refine bodyPost_ret (v := .tuple #[.agg #[.int .i64 y1.1, .int .i64 y2.1, .int .i64 y3.1, .int .i64 y4.1, .int .i64 y5.1, .int .i64 y6.1, .string y7.1, .string y8.1], .int .i64 ((v + 6 : Nat) : Int), .int .i64 ((0 : Nat) : Int)]) (by simp [results, Tryz.results39, go_sem, q0, q1, q2, q3, q4, q5, q6, q7]) rfl ?_
        rw [← HRV.out]
        exact rd_yes HX.out ff2
      | false =>
        have HX : Hid (rdec l = (zr, 0, 90)) := by show _ = _; rw [HRX.out, HD.out, if_neg (fun h => by rw [hk] at h; exact absurd h.2 (by simp))]
        rw [hk] at hck
        clear hk
        go_wp2_with fail
        rw [HW9.out]
        refine hen.mono ?_
        rintro e w11 ⟨rfl, rfl⟩
        clear k0 k1 k2 k3 k4 k5 k6 k7 x0 x1 x2 x3 x4 x5 x6 x7
        obtain ⟨⟨k0, k1, k2, k3, k4, k5, k6, k7⟩, fz⟩ := rec_cells B9.box
        go_wp2_with fail
        refine (hck _).mono ?_
        rintro e w12 ⟨rfl, f12⟩
        have B10 := B9.same f12
        clear k0 k1 k2 k3 k4 k5 k6 k7 fz
        obtain ⟨⟨z0, z1, z2, z3, z4, z5, z6, z7⟩, zz⟩ := rec_cells B10.res
        have x0 := zz 0; have x1 := zz 1; have x2 := zz 2; have x3 := zz 3; have x4 := zz 4; have x5 := zz 5; have x6 := zz 6; have x7 := zz 7
        obtain ⟨hb', ff⟩ := fin8 B10.res (.int .i64 0) (.int .i64 0) (.int .i64 0) (.int .i64 0) (.int .i64 0) (.int .i64 0) (.string ⟨#[]⟩) (.string ⟨#[]⟩)
        obtain ⟨⟨q0, q1, q2, q3, q4, q5, q6, q7⟩, _⟩ := rec_cells hb'
        have ff2 := B10.fr.trans ff (S := fun _ => False) (fun i hi e => by omega)
        clear zz
        go_wp2
        exact bodyPost_ret (v := .tuple #[.agg #[.int .i64 0, .int .i64 0, .int .i64 0, .int .i64 0, .int .i64 0, .int .i64 0, .string ⟨#[]⟩, .string ⟨#[]⟩], .int .i64 0, .int .i64 ((90 : Nat) : Int)]) (by simp [results, Tryz.results39, go_sem, q0, q1, q2, q3, q4, q5, q6, q7]) rfl (rd_no HX.out ff2)
    · have HX : Hid (rdec l = (zr, 0, 90)) := by show _ = _; rw [HRX.out, HD.out, if_neg (fun h => he h.1)]
      have heb : (en != 0) = true := by simpa using he
      clear he
      go_wp2_with fail
      rw [HW9.out]
      refine hen.mono ?_
      rintro e w11 ⟨rfl, rfl⟩
      clear k0 k1 k2 k3 k4 k5 k6 k7 x0 x1 x2 x3 x4 x5 x6 x7
      obtain ⟨⟨z0, z1, z2, z3, z4, z5, z6, z7⟩, zz⟩ := rec_cells B9.res
      have x0 := zz 0; have x1 := zz 1; have x2 := zz 2; have x3 := zz 3; have x4 := zz 4; have x5 := zz 5; have x6 := zz 6; have x7 := zz 7
      obtain ⟨hb', ff⟩ := fin8 B9.res (.int .i64 0) (.int .i64 0) (.int .i64 0) (.int .i64 0) (.int .i64 0) (.int .i64 0) (.string ⟨#[]⟩) (.string ⟨#[]⟩)
      obtain ⟨⟨q0, q1, q2, q3, q4, q5, q6, q7⟩, _⟩ := rec_cells hb'
      have ff2 := B9.fr.trans ff (S := fun _ => False) (fun i hi e => by omega)
      clear zz
      go_wp2
      exact bodyPost_ret (v := .tuple #[.agg #[.int .i64 0, .int .i64 0, .int .i64 0, .int .i64 0, .int .i64 0, .int .i64 0, .string ⟨#[]⟩, .string ⟨#[]⟩], .int .i64 0, .int .i64 ((90 : Nat) : Int)]) (by simp [results, Tryz.results39, go_sem, q0, q1, q2, q3, q4, q5, q6, q7]) rfl (rd_no HX.out ff2)
  · rw [o2] at hop
    have HX : Hid (rdec l = (zr, 0, 20)) := by show _ = _; rw [HRD.out, if_pos (by rw [o2]; decide)]
    clear o2 HRD
    go_wp2_with fail
    refine (hop _ (HRT.out _ (f0.seq' F1))).mono ?_
    rintro e w1 ⟨a2, c2, rfl, r2, f2⟩
    have F2 := F1.seq' f2
    obtain ⟨⟨z0, z1, z2, z3, z4, z5, z6, z7⟩, zz⟩ := rec_cells (HR.out _ F2)
    have x0 := zz 0; have x1 := zz 1; have x2 := zz 2; have x3 := zz 3; have x4 := zz 4; have x5 := zz 5; have x6 := zz 6; have x7 := zz 7
    obtain ⟨hb, ff⟩ := fin8 (HR.out _ F2) (.int .i64 0) (.int .i64 0) (.int .i64 0) (.int .i64 0) (.int .i64 0) (.int .i64 0) (.string ⟨#[]⟩) (.string ⟨#[]⟩)
    obtain ⟨⟨q0, q1, q2, q3, q4, q5, q6, q7⟩, _⟩ := rec_cells hb
    have ff2 := (f0.seq' F2).trans ff (S := fun _ => False) (fun i hi e => by omega)
    clear zz
    go_wp2
    exact bodyPost_ret (v := .tuple #[.agg #[.int .i64 0, .int .i64 0, .int .i64 0, .int .i64 0, .int .i64 0, .int .i64 0, .string ⟨#[]⟩, .string ⟨#[]⟩], .int .i64 0, .int .i64 ((20 : Nat) : Int)]) (by simp [results, Tryz.results39, go_sem, q0, q1, q2, q3, q4, q5, q6, q7]) rfl (rd_no HX.out ff2)
end Go.Proofs.YtnoadmkkkeianaaGreat

/- Lists of records in memory; a slice of records that came in. -/
namespace Go.Proofs.YtnoadmkkkeianaaGreat
open Go.ChangeShapes Go.WideShapes Go.ChangeAt Go.RowKit Go.Deep

/-- A record's cells. -/
def recC (r : Rec) : List Value := [.int .i64 r.lsn, .int .i64 r.ep, .int .i64 r.kind, .int .i64 r.page, .int .i64 r.other, .int .i64 r.req, .string r.key, .string r.val]
theorem recC_length (r : Rec) : (recC r).length = 8 := rfl
theorem recC_one (r : Rec) : ∀ u ∈ recC r, u.oneCell' = true := by
  intro u hu
  simp only [recC, List.mem_cons, List.not_mem_nil, or_false] at hu
  rcases hu with h | h | h | h | h | h | h | h <;> (subst h; rfl)
theorem rec_range {w : World} {b o : Nat} {r : Rec} (h : w.rangeAt b o (recC r)) : w.cell? ⟨b, o, none⟩ = some (.int .i64 r.lsn) ∧ w.cell? ⟨b, o + 1, none⟩ = some (.int .i64 r.ep) ∧ w.cell? ⟨b, o + 2, none⟩ = some (.int .i64 r.kind) ∧ w.cell? ⟨b, o + 3, none⟩ = some (.int .i64 r.page) ∧ w.cell? ⟨b, o + 4, none⟩ = some (.int .i64 r.other) ∧ w.cell? ⟨b, o + 5, none⟩ = some (.int .i64 r.req) ∧ w.cell? ⟨b, o + 6, none⟩ = some (.string r.key) ∧ w.cell? ⟨b, o + 7, none⟩ = some (.string r.val) :=
  ⟨h 0 _ rfl, h 1 _ rfl, h 2 _ rfl, h 3 _ rfl, h 4 _ rfl, h 5 _ rfl, h 6 _ rfl, h 7 _ rfl⟩
/-- A slice of records as a walk sees it. -/
structure Recs (w : World) (a : Option Addr) (cap : Nat) (ls : List Rec) : Prop where
  le : ls.length ≤ cap
  max : cap ≤ 9223372036854775807
  at_ : ls = [] ∨ ∃ b off, a = some ⟨b, off, none⟩ ∧ b < w.heap.size ∧ ∀ i r, ls[i]? = some r → w.rangeAt b (off + i * 8) (recC r)
theorem Recs.same {w w' : World} {a : Option Addr} {cap : Nat} {ls : List Rec} (h : Recs w a cap ls) (f : Fr (fun _ => False) w w') : Recs w' a cap ls := by
  refine ⟨h.le, h.max, ?_⟩
  rcases h.at_ with h0 | ⟨b, off, rfl, hb, hc⟩
  · exact .inl h0
  · exact .inr ⟨b, off, rfl, Nat.lt_of_lt_of_le hb f.size, fun i r hr => range_fr (hc i r hr) f (fun f => f)⟩
theorem Recs.some {w : World} {a : Option Addr} {cap : Nat} {ls : List Rec} (h : Recs w a cap ls) (hn : 0 < ls.length) : ∃ b off, a = some ⟨b, off, none⟩ ∧ b < w.heap.size ∧ ∀ i r, ls[i]? = some r → w.rangeAt b (off + i * 8) (recC r) := by
  rcases h.at_ with h0 | h
  · rw [h0] at hn; simp at hn
  · exact h

def rec0 : Rec := ⟨0, 0, 0, 0, 0, 0, ⟨#[]⟩, ⟨#[]⟩⟩
section
variable {H : Type} {enc : TypeId × Value → H} {w : World}
set_option maxRecDepth 100000 in
/-- A record's eight cells that came in. -/
theorem rec_in {fuel : Nat} {cs : List Value} {x : DataW H × List MemPlace} (hlen : cs.length = 8) (h : DataW.trod enc Tryz.prog w 0 (fun _ => true) true fuel 30 cs = some x) : ∃ r : Rec, cs = recC r := by
  obtain ⟨xs, n', _, _, _, hxl, hfl⟩ := DataW.trod_struct Tryz.underlying30 h
  have t0 := hfl 0 _ rfl
  have t1 := hfl 1 _ rfl
  have t2 := hfl 2 _ rfl
  have t3 := hfl 3 _ rfl
  have t4 := hfl 4 _ rfl
  have t5 := hfl 5 _ rfl
  have t6 := hfl 6 _ rfl
  have t7 := hfl 7 _ rfl
  match xs, hxl with
  | [y0, y1, y2, y3, y4, y5, y6, y7], _ =>
  match cs, hlen with
  | [c0, c1, c2, c3, c4, c5, c6, c7], _ =>
    simp [rcellsI, rcellsS] at t0 t1 t2 t3 t4 t5 t6 t7
    obtain ⟨b0, e0, _, _⟩ := DataW.trod_int Tryz.underlying3 t0
    obtain ⟨b1, e1, _, _⟩ := DataW.trod_int Tryz.underlying3 t1
    obtain ⟨b2, e2, _, _⟩ := DataW.trod_int Tryz.underlying3 t2
    obtain ⟨b3, e3, _, _⟩ := DataW.trod_int Tryz.underlying3 t3
    obtain ⟨b4, e4, _, _⟩ := DataW.trod_int Tryz.underlying3 t4
    obtain ⟨b5, e5, _, _⟩ := DataW.trod_int Tryz.underlying3 t5
    obtain ⟨b6, e6, _, _⟩ := DataW.trod_string Tryz.underlying9 t6
    obtain ⟨b7, e7, _, _⟩ := DataW.trod_string Tryz.underlying9 t7
    simp only [List.cons.injEq, and_true] at e0 e1 e2 e3 e4 e5 e6 e7
    subst e0 e1 e2 e3 e4 e5 e6 e7
    exact ⟨⟨b0, b1, b2, b3, b4, b5, b6, b7⟩, rfl⟩
set_option maxRecDepth 100000 in
theorem recs_open {fuel len cap : Nat} {a : Option Addr} {d : DataW H} {p : List MemPlace} 
    (h : DataW.trod enc Tryz.prog w 0 (fun _ => true) true fuel 26 [.slice a len cap] = some (d, p)) :
    ∃ ls : List Rec, len = ls.length ∧ Recs w a cap ls ∧ (d = .nil ∧ ls = [] ∨ ∃ elems spare, d = .slice elems spare ∧ elems.length = ls.length) := by
  rcases open_slice Tryz.underlying26 h with ⟨hcs, hx⟩ | ⟨x, l, c, m, n, D, Pl, hcs, _, hl, hm, hmm, hx, heach⟩
  · simp at hcs
    obtain ⟨rfl, rfl, rfl⟩ := hcs
    simp only [Prod.mk.injEq] at hx
    exact ⟨[], rfl, ⟨Nat.le_refl _, by omega, .inl rfl⟩, .inl ⟨hx.1, rfl⟩⟩
  · simp at hcs
    obtain ⟨rfl, rfl, rfl⟩ := hcs
    simp only [if_true] at hmm
    subst hmm
    rw [rcellsR] at heach
    have each : ∀ i, i < m → ∃ r : Rec, ∀ j v, (recC r)[j]? = some v → w.cell? (x.add (i * 8 + j)) = some v := by
      intro i hi
      obtain ⟨cs', hc, ht'⟩ := heach i hi
      obtain ⟨_, hlen, hcell⟩ := World.cells?_some hc
      obtain ⟨r, hr⟩ := rec_in hlen ht'
      refine ⟨r, fun j v hv => ?_⟩
      have hj : j < 8 := by have := (List.getElem?_eq_some_iff.1 hv).1; rwa [recC_length] at this
      have z := hcell j (by omega)
      rw [add_add] at z
      rw [z, hr]
      exact hv
    have inh : Inhabited Rec := ⟨rec0⟩
    obtain ⟨f, hf⟩ := choose_lt (α := Rec) each
    have hget : ∀ i s, ((List.range len).map f)[i]? = some s → i < len ∧ s = f i := by
      intro i s hs
      have hi : i < len := by have := (List.getElem?_eq_some_iff.1 hs).1; simpa using this
      refine ⟨hi, ?_⟩
      simp [hi] at hs
      exact hs.symm
    refine ⟨(List.range len).map f, by simp, ⟨by simpa using hl, by unfold maxLen at hm; omega, ?_⟩, .inr ?_⟩
    · by_cases h0 : len = 0
      · exact .inl (by simp [h0])
      · obtain ⟨b, off, spot⟩ := x
        have hc := hf 0 (by omega) 0 _ rfl
        have hspot : spot = none := by simpa [Addr.add] using World.cell?_spot hc
        subst hspot
        refine .inr ⟨b, off, rfl, World.block_lt_of_cell? w ⟨b, off + (0 * 8 + 0), none⟩ (by rw [Addr.add_lit] at hc; exact hc), fun i s hs => ?_⟩
        obtain ⟨hi, rfl⟩ := hget i s hs
        intro j v hv
        have := hf i (by omega) j v hv
        rw [Addr.add_lit, ← Nat.add_assoc] at this
        exact this
    · simp only [Prod.mk.injEq] at hx
      exact ⟨_, _, hx.1, by simp⟩
end
end Go.Proofs.YtnoadmkkkeianaaGreat
