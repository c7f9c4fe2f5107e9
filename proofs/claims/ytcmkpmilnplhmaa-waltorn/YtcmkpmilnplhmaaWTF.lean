
/- RcKind, RcEnc, RcMath. -/
import Derived.Test.YtcmkpmilnplhmaaWTE
/- Which records record.Check takes. -/
namespace Go.Proofs.Ytcmkpmilnplhmaa
open Go.RowKit Crcm

set_option maxRecDepth 100000 in
set_option maxHeartbeats 1000000 in
theorem isCommit_any (lsn ep kind page other req : Int) (key val : ByteArray) (w : World) : Calls Try.prog 37 #[.agg #[.int .i64 lsn, .int .i64 ep, .int .i64 kind, .int .i64 page, .int .i64 other, .int .i64 req, .string key, .string val]] w fun e w' => e = .returned (.bool ((page == 0) && (((other == 1 && valB val) || (other == 2 && emp val)) && (wthB req 1 1099511627776 && keyB key)))) ∧ Fr (fun _ => False) w w' := by
  have HV : Hid (emp val = true → valB val = true) := valB_emp
  have HE : Hid (emp val = val.toList.isEmpty) := rfl
  go_enter Try.func37, Try.ntmps37
  go_wp2_with (first | (go_at_call 23; refine (rwithin_any _ _ _ _).mono ?_; rintro e w' ⟨rfl, rfl⟩) | (go_at_call 34; refine (isEntry_any lsn ep kind _ _ req key val _).mono ?_; rintro e w' ⟨rfl, rfl⟩))
  all_goals go_ret
  all_goals refine ⟨ret_bool ?_, by repeat (first | exact Fr.refl _ _ | apply Fr.own | apply Fr.alloc)⟩
  all_goals have hv := HV.out
  all_goals rw [HE.out] at hv ⊢
  all_goals simp_all [Bool.and_comm]

/-- What kinds but ReNew and ReCommit ask for. -/
def plainB (kind page other req : Int) (key val : ByteArray) : Bool :=
  (req == 0) && (
    if kind = 1 then (page == 0) && ((other == 0) && (emp key && emp val))
    else if kind = 2 then pgB page && ((other == 0) && (keyB key && valB val))
    else if kind = 3 then pgB page && ((other == 0) && (keyB key && emp val))
    else if kind = 5 ∨ kind = 6 then pgB page && (pgB other && (keyB key && emp val))
    else false)
set_option maxRecDepth 100000 in
set_option maxHeartbeats 4000000 in
theorem suits_plain (lsn ep kind page other req : Int) (key val : ByteArray) (h4 : kind ≠ 4) (h7 : kind ≠ 7) (w : World) : Calls Try.prog 24 #[.agg #[.int .i64 lsn, .int .i64 ep, .int .i64 kind, .int .i64 page, .int .i64 other, .int .i64 req, .string key, .string val]] w fun e w' => e = .returned (.bool (plainB kind page other req key val)) ∧ Fr (fun _ => False) w w' := by
  have HV : Hid (emp val = true → valB val = true) := valB_emp
  have HE : Hid (emp val = val.toList.isEmpty) := rfl
  have e4 : (kind == 4) = false := by simpa using h4
  have e7 : (kind == 7) = false := by simpa using h7
  clear h4 h7
  go_enter Try.func24, Try.ntmps24
  go_wp2_with (first | (go_at_call 33; refine (isPage_any _ _).mono ?_; rintro e w' ⟨rfl, rfl⟩) | (go_at_call 34; refine (isEntry_any _ _ _ _ _ _ _ _ _).mono ?_; rintro e w' ⟨rfl, rfl⟩) | (go_at_call 35; refine (isBare_any _ _ _ _ _ _ _ _ _).mono ?_; rintro e w9 ⟨rfl, f9⟩))
  all_goals go_ret
  all_goals refine ⟨ret_bool ?_, by first | ((repeat (first | exact Fr.refl _ _ | apply Fr.own | apply Fr.alloc)); done) | (refine Fr.false_trans ?_ f9; repeat (first | exact Fr.refl _ _ | apply Fr.own | apply Fr.alloc))⟩
  all_goals have hv := HV.out
  all_goals rw [HE.out] at hv
  all_goals unfold plainB
  all_goals try rw [HE.out]
  all_goals clear HV HE
  all_goals simp_all [emp, Bool.and_comm, Bool.and_left_comm, Bool.and_assoc]
  all_goals (rename_i hk; rcases hk with hk | hk <;> simp_all)

set_option maxRecDepth 100000 in
set_option maxHeartbeats 1000000 in
theorem suits_commit (lsn ep page other req : Int) (key val : ByteArray) (w : World) : Calls Try.prog 24 #[.agg #[.int .i64 lsn, .int .i64 ep, .int .i64 7, .int .i64 page, .int .i64 other, .int .i64 req, .string key, .string val]] w fun e w' => e = .returned (.bool ((page == 0) && (((other == 1 && valB val) || (other == 2 && emp val)) && (wthB req 1 1099511627776 && keyB key)))) ∧ Fr (fun _ => False) w w' := by
  go_enter Try.func24, Try.ntmps24
  go_wp2_with (go_at_call 37; refine (isCommit_any lsn ep 7 page other req key val _).mono ?_; rintro e w9 ⟨rfl, f9⟩)
  go_ret
  exact ⟨rfl, (Fr.box w _).seq' f9⟩
set_option maxRecDepth 100000 in
set_option maxHeartbeats 1000000 in
theorem suits_new (lsn ep page other req : Int) (key val : ByteArray) (w : World) : Calls Try.prog 24 #[.agg #[.int .i64 lsn, .int .i64 ep, .int .i64 4, .int .i64 page, .int .i64 other, .int .i64 req, .string key, .string val]] w fun e w' => e = .returned (.bool ((req == 0) && (pgB page && ((other == 0) && (emp key && newB val))))) ∧ Fr (fun _ => False) w w' := by
  go_enter Try.func24, Try.ntmps24
  go_wp2_with (first | (go_at_call 33; refine (isPage_any _ _).mono ?_; rintro e w' ⟨rfl, rfl⟩) | (go_at_call 36; refine (isNewPage_any val _).mono ?_; rintro e w2 ⟨rfl, f2⟩; have hb := rec_at w _ _ f2; obtain ⟨⟨q0, q1, q2, q3, q4, q5, q6, q7⟩, qz⟩ := rec_cells hb; have z3 := qz 3; have z7 := qz 7; clear qz hb) | (go_at_call 35; refine (isBare_any _ _ _ _ _ _ _ _ _).mono ?_; rintro e w9 ⟨rfl, f9⟩))
  all_goals go_ret
  all_goals refine ⟨ret_bool ?_, by first | exact Fr.box w _ | exact (Fr.box w _).seq' f2 | (refine Fr.false_trans ?_ f9; exact ((((Fr.box w _).seq' f2).own _ _).own _ _))⟩
  all_goals simp_all [emp, Bool.and_comm, Bool.and_left_comm]

theorem ksuits_any (r : Rec) (w : World) : Calls Try.prog 24 #[(.agg #[.int .i64 r.lsn, .int .i64 r.ep, .int .i64 r.kind, .int .i64 r.page, .int .i64 r.other, .int .i64 r.req, .string r.key, .string r.val])] w fun e w' => e = .returned (.bool (suitB r)) ∧ Fr (fun _ => False) w w' := by
  obtain ⟨lsn, ep, kind, page, other, req, key, val⟩ := r
  unfold suitB
  dsimp only
  by_cases h7 : kind = 7
  · subst h7
    rw [if_pos rfl]
    exact suits_commit lsn ep page other req key val w
  · rw [if_neg h7]
    by_cases h4 : kind = 4
    · subst h4
      exact suits_new lsn ep page other req key val w
    · rw [if_neg h4]
      exact suits_plain lsn ep kind page other req key val h4 h7 w

set_option maxRecDepth 100000 in
set_option maxHeartbeats 1000000 in
theorem rec_check (r : Rec) (w : World) : Calls Try.prog 14 #[(.agg #[.int .i64 r.lsn, .int .i64 r.ep, .int .i64 r.kind, .int .i64 r.page, .int .i64 r.other, .int .i64 r.req, .string r.key, .string r.val])] w fun e w' => e = .returned (.int .i64 (erec r)) ∧ Fr (fun _ => False) w w' := by
  have hsu := ksuits_any r
  have HR : Hid (rok r = (wthB r.lsn 1 1099511627776 && (wthB r.ep 0 1099511627776 && suitB r))) := rfl
  have HY : Hid (rok r = true → erec r = 0) := erec_yes
  have HN : Hid (rok r = false → erec r = 90) := erec_no
  generalize suitB r = b at *
  go_enter Try.func14, Try.ntmps14
  go_wp2_with (first | (go_at_call 23; refine (rwithin_any _ _ _ _).mono ?_; rintro e w' ⟨rfl, rfl⟩) | (go_at_call 24; refine (hsu _).mono ?_; rintro e w9 ⟨rfl, f9⟩))
  all_goals go_ret
  all_goals refine ⟨ret_int ?_, by first | exact Fr.box w _ | exact (Fr.box w _).seq' f9⟩
  all_goals symm
  all_goals have hr := HR.out
  all_goals first | (refine HN.out ?_; simp_all; done) | (refine HY.out ?_; simp_all; done)
end Go.Proofs.Ytcmkpmilnplhmaa

/- A record's bytes and its frame; what record.Encode makes. -/
namespace Go.Proofs.Ytcmkpmilnplhmaa
open Go.RowKit Crcm

/-- A record's bytes. -/
def rb (r : Rec) : List Nat := le 8 r.lsn.toNat ++ le 8 r.ep.toNat ++ le 1 r.kind.toNat ++ le 4 r.page.toNat ++ le 4 r.other.toNat ++ le 8 r.req.toNat ++ txt r.key ++ txt r.val
/-- What a frame's sum is of. -/
def rh (r : Rec) : List Nat := le 2 (rb r).length ++ rb r
/-- A record's frame. -/
def frm (r : Rec) : List Nat := rh r ++ le4 (crc (rh r))
/-- What a right record is, at hand. -/
structure Rg (r : Rec) : Prop where
  lsn0 : 1 ≤ r.lsn
  lsn1 : r.lsn ≤ 1099511627776
  ep0 : 0 ≤ r.ep
  ep1 : r.ep ≤ 1099511627776
  kind0 : 1 ≤ r.kind
  kind1 : r.kind ≤ 7
  page0 : 0 ≤ r.page
  page1 : r.page ≤ 4096
  other0 : 0 ≤ r.other
  other1 : r.other ≤ 4096
  req0 : 0 ≤ r.req
  req1 : r.req ≤ 1099511627776
  key : r.key.size ≤ 16
  val : r.val.size ≤ 256
theorem keyB_le {s : ByteArray} (h : keyB s = true) : s.size ≤ 16 := by
  unfold keyB ekey at h; simp only [beq_iff_eq] at h
  split at h
  · exact absurd h (by decide)
  · omega
theorem valB_le {s : ByteArray} (h : valB s = true) : s.size ≤ 32 := by
  unfold valB evalu at h; simp only [beq_iff_eq] at h
  split at h
  · exact absurd h (by decide)
  · omega
theorem emp_size {s : ByteArray} (h : emp s = true) : s.size = 0 := by
  unfold emp at h
  rw [List.isEmpty_iff, Lib.toList_data] at h
  rw [Lib.size_eq, h]; rfl
theorem pgB_le {x : Int} (h : pgB x = true) : 1 ≤ x ∧ x ≤ 4096 := by unfold pgB wthB at h; rwa [decide_eq_true_eq] at h
theorem newB_le {s : ByteArray} (h : newB s = true) : s.size = 256 := by
  unfold newB at h
  simp only [Bool.and_eq_true] at h
  have h1 := h.1
  rw [← bsOf_length]
  unfold decF at h1
  split at h1
  · rename_i hh; exact hh.1
  · simp at h1
theorem rok_rg {r : Rec} (h : rok r = true) : Rg r := by
  unfold rok at h
  simp only [Bool.and_eq_true, wthB, decide_eq_true_eq] at h
  obtain ⟨⟨h1, h2⟩, ⟨h3, h4⟩, hs⟩ := h
  unfold suitB at hs
  split at hs
  · rename_i hk
    simp only [Bool.and_eq_true, Bool.or_eq_true, beq_iff_eq, wthB, decide_eq_true_eq] at hs
    obtain ⟨hp, ho, ⟨hr1, hr2⟩, hkey⟩ := hs
    have hk16 := keyB_le hkey
    have hv : r.val.size ≤ 32 ∧ 0 ≤ r.other ∧ r.other ≤ 2 := by
      rcases ho with ⟨a, b⟩ | ⟨a, b⟩
      · exact ⟨valB_le b, by omega, by omega⟩
      · exact ⟨by rw [emp_size b]; omega, by omega, by omega⟩
    exact ⟨h1, h2, h3, h4, by omega, by omega, by omega, by omega, by omega, by omega, by omega, by omega, hk16, by omega⟩
  · simp only [Bool.and_eq_true, beq_iff_eq] at hs
    obtain ⟨hq, hs⟩ := hs
    split at hs
    · simp only [Bool.and_eq_true, beq_iff_eq] at hs
      obtain ⟨a, b, c, d⟩ := hs
      have := emp_size c; have := emp_size d
      exact ⟨h1, h2, h3, h4, by omega, by omega, by omega, by omega, by omega, by omega, by omega, by omega, by omega, by omega⟩
    · split at hs
      · simp only [Bool.and_eq_true, beq_iff_eq] at hs
        obtain ⟨a, b, c, d⟩ := hs
        have := pgB_le a; have := keyB_le c; have := valB_le d
        exact ⟨h1, h2, h3, h4, by omega, by omega, by omega, by omega, by omega, by omega, by omega, by omega, by omega, by omega⟩
      · split at hs
        · simp only [Bool.and_eq_true, beq_iff_eq] at hs
          obtain ⟨a, b, c, d⟩ := hs
          have := pgB_le a; have := keyB_le c; have := emp_size d
          exact ⟨h1, h2, h3, h4, by omega, by omega, by omega, by omega, by omega, by omega, by omega, by omega, by omega, by omega⟩
        · split at hs
          · simp only [Bool.and_eq_true, beq_iff_eq] at hs
            obtain ⟨a, b, c, d⟩ := hs
            have := pgB_le a; have := emp_size c; have := newB_le d
            exact ⟨h1, h2, h3, h4, by omega, by omega, by omega, by omega, by omega, by omega, by omega, by omega, by omega, by omega⟩
          · split at hs
            · simp only [Bool.and_eq_true] at hs
              obtain ⟨a, b, c, d⟩ := hs
              have := pgB_le a; have := pgB_le b; have := keyB_le c; have := emp_size d
              exact ⟨h1, h2, h3, h4, by omega, by omega, by omega, by omega, by omega, by omega, by omega, by omega, by omega, by omega⟩
            · simp at hs
theorem rb_length (r : Rec) : (rb r).length = 37 + r.key.size + r.val.size := by
  unfold rb; simp only [List.length_append, le_length, txt_length]; omega
theorem rb_octs (r : Rec) : octs (rb r) := by
  unfold rb
  exact octs_app (octs_app (octs_app (octs_app (octs_app (octs_app (octs_app (le_octs' _ _) (le_octs' _ _)) (le_octs' _ _)) (le_octs' _ _)) (le_octs' _ _)) (le_octs' _ _)) (txt_octs _)) (txt_octs _)
theorem rh_length (r : Rec) : (rh r).length = 39 + r.key.size + r.val.size := by
  unfold rh; rw [List.length_append, le_length, rb_length]; omega
theorem rh_octs (r : Rec) : octs (rh r) := octs_app (le_octs' _ _) (rb_octs r)
theorem frm_length (r : Rec) : (frm r).length = 43 + r.key.size + r.val.size := by
  unfold frm; rw [List.length_append, rh_length, ← le_le4, le_length]; omega
theorem frm_octs (r : Rec) : octs (frm r) := octs_app (rh_octs r) (by rw [← le_le4]; exact le_octs' _ _)


set_option maxRecDepth 100000 in
set_option maxHeartbeats 2000000 in
theorem rbytes_any (r : Rec) (hr : Rg r) (w : World) : Calls Try.prog 27 #[(.agg #[.int .i64 r.lsn, .int .i64 r.ep, .int .i64 r.kind, .int .i64 r.page, .int .i64 r.other, .int .i64 r.req, .string r.key, .string r.val])] w fun e w' => ∃ v', e = .returned v' ∧ Made w w' v' (rb r) := by
  have HG : Hid (Rg r) := hr
  clear hr
  obtain ⟨W0, hW0⟩ : ∃ W0, W0 = w.alloc (.cells #[.int .i64 r.lsn, .int .i64 r.ep, .int .i64 r.kind, .int .i64 r.page, .int .i64 r.other, .int .i64 r.req, .string r.key, .string r.val] 28) := ⟨_, rfl⟩
  have f0 : Fr (fun _ => False) w W0 := by rw [hW0]; exact Fr.box w _
  have HB : Hid (∀ W, Fr (fun _ => False) W0 W → W.cell? ⟨w.heap.size, 0, none⟩ = some (.int .i64 r.lsn) ∧ W.cell? ⟨w.heap.size, 1, none⟩ = some (.int .i64 r.ep) ∧ W.cell? ⟨w.heap.size, 2, none⟩ = some (.int .i64 r.kind) ∧ W.cell? ⟨w.heap.size, 3, none⟩ = some (.int .i64 r.page) ∧ W.cell? ⟨w.heap.size, 4, none⟩ = some (.int .i64 r.other) ∧ W.cell? ⟨w.heap.size, 5, none⟩ = some (.int .i64 r.req) ∧ W.cell? ⟨w.heap.size, 6, none⟩ = some (.string r.key) ∧ W.cell? ⟨w.heap.size, 7, none⟩ = some (.string r.val)) := fun W f => by rw [hW0] at f; exact (rec_cells (rec_at w _ _ f)).1
  have HW : Hid (w.alloc (.cells #[.int .i64 r.lsn, .int .i64 r.ep, .int .i64 r.kind, .int .i64 r.page, .int .i64 r.other, .int .i64 r.req, .string r.key, .string r.val] 28) = W0) := hW0.symm
  have HZ : Hid (W0.heap.size = w.heap.size + 1) := by show _ = _; rw [hW0]; simp
  have HS : Hid (rb r = le 8 r.lsn.toNat ++ le 8 r.ep.toNat ++ le 1 r.kind.toNat ++ le 4 r.page.toNat ++ le 4 r.other.toNat ++ le 8 r.req.toNat ++ txt r.key ++ txt r.val) := rfl
  clear hW0
  go_enter Try.func27, Try.ntmps27
  go_wp2_with fail
  rw [HW.out]
  refine (new_st W0).mono ?_
  rw [HZ.out]
  rintro e w1 ⟨rfl, s1⟩
  obtain ⟨c0, c1, c2, c3, c4, c5, c6, c7⟩ := HB.out _ s1.fr
  go_wp2_with fail
  refine (wnum_st W0 _ _ HZ.out _ r.lsn 8 (fit8 (by have := HG.out.lsn0; omega)) (by simp) s1).mono ?_
  rintro e w2 ⟨rfl, s2⟩
  clear c0 c1 c2 c3 c4 c5 c6 c7
  obtain ⟨c0, c1, c2, c3, c4, c5, c6, c7⟩ := HB.out _ s2.fr
  go_wp2_with fail
  refine (wnum_st W0 _ _ HZ.out _ r.ep 8 (fit8 HG.out.ep0) (by simp [le_length]) s2).mono ?_
  rintro e w3 ⟨rfl, s3⟩
  clear c0 c1 c2 c3 c4 c5 c6 c7
  obtain ⟨c0, c1, c2, c3, c4, c5, c6, c7⟩ := HB.out _ s3.fr
  go_wp2_with fail
  refine (wnum_st W0 _ _ HZ.out _ r.kind 1 (fit1 (by have := HG.out.kind0; omega) (by have := HG.out.kind1; omega)) (by simp [le_length]) s3).mono ?_
  rintro e w4 ⟨rfl, s4⟩
  clear c0 c1 c2 c3 c4 c5 c6 c7
  obtain ⟨c0, c1, c2, c3, c4, c5, c6, c7⟩ := HB.out _ s4.fr
  go_wp2_with fail
  refine (wnum_st W0 _ _ HZ.out _ r.page 4 (fit4' HG.out.page0 HG.out.page1) (by simp [le_length]) s4).mono ?_
  rintro e w5 ⟨rfl, s5⟩
  clear c0 c1 c2 c3 c4 c5 c6 c7
  obtain ⟨c0, c1, c2, c3, c4, c5, c6, c7⟩ := HB.out _ s5.fr
  go_wp2_with fail
  refine (wnum_st W0 _ _ HZ.out _ r.other 4 (fit4' HG.out.other0 HG.out.other1) (by simp [le_length]) s5).mono ?_
  rintro e w6 ⟨rfl, s6⟩
  clear c0 c1 c2 c3 c4 c5 c6 c7
  obtain ⟨c0, c1, c2, c3, c4, c5, c6, c7⟩ := HB.out _ s6.fr
  go_wp2_with fail
  refine (wnum_st W0 _ _ HZ.out _ r.req 8 (fit8 HG.out.req0) (by simp [le_length]) s6).mono ?_
  rintro e w7 ⟨rfl, s7⟩
  clear c0 c1 c2 c3 c4 c5 c6 c7
  obtain ⟨c0, c1, c2, c3, c4, c5, c6, c7⟩ := HB.out _ s7.fr
  go_wp2_with fail
  refine (wtext_st W0 _ _ HZ.out _ r.key (by have := HG.out.key; omega) (by simp [le_length]) s7).mono ?_
  rintro e w8 ⟨rfl, s8⟩
  clear c0 c1 c2 c3 c4 c5 c6 c7
  obtain ⟨c0, c1, c2, c3, c4, c5, c6, c7⟩ := HB.out _ s8.fr
  go_wp2_with fail
  refine (wtext_st W0 _ _ HZ.out _ r.val (by have := HG.out.val; omega) (by have := HG.out.key; simp [le_length, txt_length]; omega) s8).mono ?_
  rintro e w9 ⟨rfl, s9⟩
  clear c0 c1 c2 c3 c4 c5 c6 c7
  rw [List.nil_append, ← HS.out] at s9
  go_wp2_with fail
  refine (wbytes_st W0 _ _ HZ.out _ (rb_octs r) (by have := HG.out.key; have := HG.out.val; rw [rb_length]; omega) s9).mono ?_
  rintro e w10 ⟨v10, rfl, m10⟩
  go_wp2
  go_ret
  exact ⟨v10, rfl, Made.of (f0.seq' s9.fr) m10⟩

set_option maxRecDepth 100000 in
set_option maxHeartbeats 1000000 in
theorem encode_rno (r : Rec) (hr : rok r = false) (w : World) : Calls Try.prog 17 #[(.agg #[.int .i64 r.lsn, .int .i64 r.ep, .int .i64 r.kind, .int .i64 r.page, .int .i64 r.other, .int .i64 r.req, .string r.key, .string r.val])] w fun e w' => e = .returned (.tuple #[.slice none 0 0, .int .i64 90]) ∧ Fr (fun _ => False) w w' := by
  have HE : Hid (erec r = 90) := erec_no hr
  clear hr
  go_enter Try.func17, Try.ntmps17
  go_wp2_with fail
  refine (rec_check r _).mono ?_
  rw [HE.out]
  rintro e w1 ⟨rfl, f1⟩
  go_wp2
  go_ret2
  exact ⟨rfl, (Fr.box w _).seq' f1⟩

theorem bytes_text (l : List Nat) (ho : octs l) : txt (strOf l) = le 2 l.length ++ l := by
  unfold txt
  have h : bsOf (strOf l) = l := bbsOf_strOf l ho
  rw [← bsOf_length, h]

set_option maxRecDepth 100000 in
set_option maxHeartbeats 1000000 in
theorem encode_ryes (r : Rec) (hr : rok r = true) (w : World) : Calls Try.prog 17 #[(.agg #[.int .i64 r.lsn, .int .i64 r.ep, .int .i64 r.kind, .int .i64 r.page, .int .i64 r.other, .int .i64 r.req, .string r.key, .string r.val])] w fun e w' => ∃ v', e = .returned (.tuple #[v', .int .i64 0]) ∧ Made w w' v' (frm r) := by
  have HE : Hid (erec r = 0) := erec_yes hr
  have HG : Hid (Rg r) := rok_rg hr
  clear hr
  have f0 := Fr.box w (.cells #[.int .i64 r.lsn, .int .i64 r.ep, .int .i64 r.kind, .int .i64 r.page, .int .i64 r.other, .int .i64 r.req, .string r.key, .string r.val] 28)
  have HB : Hid (∀ W, Fr (fun _ => False) (w.alloc (.cells #[.int .i64 r.lsn, .int .i64 r.ep, .int .i64 r.kind, .int .i64 r.page, .int .i64 r.other, .int .i64 r.req, .string r.key, .string r.val] 28)) W → W.cell? ⟨w.heap.size, 0, none⟩ = some (.int .i64 r.lsn) ∧ W.cell? ⟨w.heap.size, 1, none⟩ = some (.int .i64 r.ep) ∧ W.cell? ⟨w.heap.size, 2, none⟩ = some (.int .i64 r.kind) ∧ W.cell? ⟨w.heap.size, 3, none⟩ = some (.int .i64 r.page) ∧ W.cell? ⟨w.heap.size, 4, none⟩ = some (.int .i64 r.other) ∧ W.cell? ⟨w.heap.size, 5, none⟩ = some (.int .i64 r.req) ∧ W.cell? ⟨w.heap.size, 6, none⟩ = some (.string r.key) ∧ W.cell? ⟨w.heap.size, 7, none⟩ = some (.string r.val)) := fun W f => (rec_cells (rec_at w _ _ f)).1
  have HL : Hid ((rb r).length = 37 + r.key.size + r.val.size) := rb_length r
  have HT : Hid (txt (strOf (rb r)) = rh r) := by show _ = _; rw [bytes_text _ (rb_octs r)]; rfl
  have HZ : Hid ((strOf (rb r)).size = (rb r).length) := by show _ = _; rw [← bsOf_length, bbsOf_strOf _ (rb_octs r)]
  go_enter Try.func17, Try.ntmps17
  go_wp2_with fail
  refine (rec_check r _).mono ?_
  rw [HE.out]
  rintro e w1 ⟨rfl, f1⟩
  go_wp2_with fail
  refine (new_st w1).mono ?_
  rintro e w2 ⟨rfl, s2⟩
  obtain ⟨c0, c1, c2, c3, c4, c5, c6, c7⟩ := HB.out _ (f1.seq' s2.fr)
  go_wp2_with fail
  refine (rbytes_any r HG.out _).mono ?_
  rintro e w3 ⟨v3, rfl, m3⟩
  have s3 := s2.same m3.fr
  obtain ⟨a3, k3, rfl, r3⟩ := m3.own.row (rb_octs r) (by have := HG.out.key; have := HG.out.val; rw [HL.out]; omega)
  have cv := run_str (P := Try.prog) (src := 23) (dst := 9) Try.underlying23 Try.underlying5 Try.underlying9 r3 (rb r).length rfl
  clear c0 c1 c2 c3 c4 c5 c6 c7
  go_wp2_with fail
  refine (wtext_st w1 _ _ rfl _ (strOf (rb r)) (by have := HG.out.key; have := HG.out.val; rw [HZ.out, HL.out]; omega) (by simp) s3).mono ?_
  rw [List.nil_append, HT.out]
  rintro e w4 ⟨rfl, s4⟩
  go_wp2_with fail
  refine (wbytes_st w1 _ _ rfl _ (rh_octs r) (by have := HG.out.key; have := HG.out.val; rw [rh_length]; omega) s4).mono ?_
  rintro e w5 ⟨v5, rfl, m5⟩
  obtain ⟨a5, k5, rfl, r5⟩ := m5.own.row (rh_octs r) (by have := HG.out.key; have := HG.out.val; rw [rh_length]; omega)
  go_wp2_with fail
  refine (seal_any a5 _ k5 (rh r) rfl (by have := HG.out.key; have := HG.out.val; rw [rh_length]; omega) _ r5).mono ?_
  rintro e w6 ⟨v6, rfl, m6⟩
  go_wp2
  go_ret2
  exact ⟨v6, rfl, Made.of (((f0.seq' f1).seq' s4.fr).seq' m5.fr) m6⟩
end Go.Proofs.Ytcmkpmilnplhmaa

/- Records as bytes, there and back, by plain functions of lists. -/
namespace Go.Proofs.Ytcmkpmilnplhmaa
open Go.RowKit Crcm

def nm (s : RS) (k : Int) : Int × RS := ((numS s k).1, (numS s k).2.2)
def tx (s : RS) (m : Int) : ByteArray × RS := (strOf (textS s m).1, (textS s m).2.2)
theorem nm_st (k v : Nat) (hk : k = 1 ∨ k = 2 ∨ k = 4 ∨ k = 8) (hv : v < 256 ^ k) (hv2 : v < 9223372036854775808) (r : List Nat) : nm (le k v ++ r, 0) (k : Int) = ((v : Int), (r, 0)) := by
  have h := numF_st k v hk hv hv2 r
  unfold numF at h
  simp only [Prod.mk.injEq] at h
  unfold nm; rw [h.1, ← h.2.1]
theorem tx_st (s : ByteArray) (m : Nat) (hs : s.size ≤ m) (hm : m ≤ 65535) (r : List Nat) : tx (txt s ++ r, 0) (m : Int) = (s, (r, 0)) := by
  have h := textF_st s m hs hm r
  unfold textF at h
  simp only [Prod.mk.injEq] at h
  unfold tx; rw [h.1, ← h.2.1]
theorem nm_stuck {s : RS} {k : Int} (h : (nm s k).2.2 = 0) : s.2 = 0 := by
  unfold nm numS at h
  by_cases h1 : s.2 = 0
  · exact h1
  · split at h
    · exact h
    · exact h
theorem tx_stuck {s : RS} {k : Int} (h : (tx s k).2.2 = 0) : s.2 = 0 := by
  unfold tx textS at h
  by_cases h1 : s.2 = 0
  · exact h1
  · split at h
    · exact h
    · exact h
theorem nm_ok (l : List Nat) (ho : octs l) (k : Nat) (hk : k = 1 ∨ k = 2 ∨ k = 4 ∨ k = 8) (h : (nm (l, 0) (k : Int)).2.2 = 0) : ∃ v r, l = le k v ++ r ∧ nm (l, 0) (k : Int) = ((v : Int), (r, 0)) := by
  have h0 : (numS (l, 0) (k : Int)).2.1 = 0 := by
    unfold nm numS at h
    unfold numS
    rw [if_neg (by omega), if_neg (by simp)] at h ⊢
    split
    · rename_i hc; rw [if_pos hc] at h; exact h
    · rename_i hc
      rw [if_neg hc] at h
      split
      · rename_i hd; rw [if_pos hd] at h; exact h
      · rfl
  obtain ⟨v, r, e, _, h1, h2⟩ := numF_ok l ho k hk (by unfold numF; simpa using h0)
  refine ⟨v, r, e, ?_⟩
  have := nm_st k v hk h1 h2 r
  rw [← e] at this; exact this
theorem tx_ok (l : List Nat) (ho : octs l) (m : Nat) (hm : m ≤ 65535) (h : (tx (l, 0) (m : Int)).2.2 = 0) : ∃ s r, l = txt s ++ r ∧ tx (l, 0) (m : Int) = (s, (r, 0)) := by
  have h0 : (textS (l, 0) (m : Int)).2.1 = 0 := by
    unfold tx textS at h
    unfold textS
    rw [if_neg (by omega), if_neg (by simp)] at h ⊢
    split
    · rename_i hc; rw [if_pos hc] at h; exact h
    · rename_i hc
      rw [if_neg hc] at h
      split
      · rename_i hd; rw [if_pos hd] at h; exact h
      · rename_i hd
        rw [if_neg hd] at h
        split
        · rename_i he; rw [if_pos he] at h; exact h
        · rfl
  obtain ⟨s, r, e, _, h1⟩ := textF_ok l ho m hm (by unfold textF; simpa using h0)
  refine ⟨s, r, e, ?_⟩
  have := tx_st s m h1 hm r
  rw [← e] at this; exact this

/-- What is read of a record: its parts, and the state behind. -/
def recS (s : RS) (m : Int) : Rec × RS :=
  (⟨(nm s 8).1, (nm (nm s 8).2 8).1, (nm (nm (nm s 8).2 8).2 1).1, (nm (nm (nm (nm s 8).2 8).2 1).2 4).1, (nm (nm (nm (nm (nm s 8).2 8).2 1).2 4).2 4).1, (nm (nm (nm (nm (nm (nm s 8).2 8).2 1).2 4).2 4).2 8).1,
    (tx (nm (nm (nm (nm (nm (nm s 8).2 8).2 1).2 4).2 4).2 8).2 m).1, (tx (tx (nm (nm (nm (nm (nm (nm s 8).2 8).2 1).2 4).2 4).2 8).2 m).2 m).1⟩,
   (tx (tx (nm (nm (nm (nm (nm (nm s 8).2 8).2 1).2 4).2 4).2 8).2 m).2 m).2)
theorem recS_eq (s : RS) (m : Int) {y1 y2 y3 y4 y5 y6 : Int × RS} {y7 y8 : ByteArray × RS} (h1 : nm s 8 = y1) (h2 : nm y1.2 8 = y2) (h3 : nm y2.2 1 = y3) (h4 : nm y3.2 4 = y4) (h5 : nm y4.2 4 = y5) (h6 : nm y5.2 8 = y6) (h7 : tx y6.2 m = y7) (h8 : tx y7.2 m = y8) :
    recS s m = (⟨y1.1, y2.1, y3.1, y4.1, y5.1, y6.1, y7.1, y8.1⟩, y8.2) := by
  subst h1; subst h2; subst h3; subst h4; subst h5; subst h6; subst h7; subst h8; rfl
theorem cast8 : ((8 : Nat) : Int) = 8 := rfl
theorem cast4 : ((4 : Nat) : Int) = 4 := rfl
theorem cast1 : ((1 : Nat) : Int) = 1 := rfl
theorem recS_fwd (r : Rec) (h : Rg r) (m : Nat) (h256 : 256 ≤ m) (hm : m ≤ 65535) (x : List Nat) : recS (rb r ++ x, 0) (m : Int) = (r, (x, 0)) := by
  have p8 : (1099511627776 : Nat) < 256 ^ 8 := by decide
  have p4 : (4096 : Nat) < 256 ^ 4 := by decide
  have p1 : (7 : Nat) < 256 ^ 1 := by decide
  have e : rb r ++ x = le 8 r.lsn.toNat ++ (le 8 r.ep.toNat ++ (le 1 r.kind.toNat ++ (le 4 r.page.toNat ++ (le 4 r.other.toNat ++ (le 8 r.req.toNat ++ (txt r.key ++ (txt r.val ++ x))))))) := by
    unfold rb; simp only [List.append_assoc]
  have := h.lsn0; have := h.lsn1; have := h.ep0; have := h.ep1; have := h.kind0; have := h.kind1; have := h.page0; have := h.page1; have := h.other0; have := h.other1; have := h.req0; have := h.req1; have := h.key; have := h.val
  rw [e, recS_eq _ _ (nm_st 8 r.lsn.toNat (by omega) (by omega) (by omega) _) (nm_st 8 r.ep.toNat (by omega) (by omega) (by omega) _) (nm_st 1 r.kind.toNat (by omega) (by omega) (by omega) _) (nm_st 4 r.page.toNat (by omega) (by omega) (by omega) _) (nm_st 4 r.other.toNat (by omega) (by omega) (by omega) _) (nm_st 8 r.req.toNat (by omega) (by omega) (by omega) _) (tx_st r.key m (by omega) hm _) (tx_st r.val m (by omega) hm _)]
  obtain ⟨a, b, c, d, f, g, k, v⟩ := r
  dsimp only at *
  rw [Int.toNat_of_nonneg (by omega), Int.toNat_of_nonneg (by omega), Int.toNat_of_nonneg (by omega), Int.toNat_of_nonneg (by omega), Int.toNat_of_nonneg (by omega), Int.toNat_of_nonneg (by omega)]
theorem recS_ok (l : List Nat) (ho : octs l) (m : Nat) (hm : m ≤ 65535) (h : (recS (l, 0) (m : Int)).2.2 = 0) (he : (recS (l, 0) (m : Int)).2.1 = []) : l = rb (recS (l, 0) (m : Int)).1 := by
  obtain ⟨y1, h1⟩ : ∃ y, nm (l, 0) 8 = y := ⟨_, rfl⟩
  obtain ⟨y2, h2⟩ : ∃ y, nm y1.2 8 = y := ⟨_, rfl⟩
  obtain ⟨y3, h3⟩ : ∃ y, nm y2.2 1 = y := ⟨_, rfl⟩
  obtain ⟨y4, h4⟩ : ∃ y, nm y3.2 4 = y := ⟨_, rfl⟩
  obtain ⟨y5, h5⟩ : ∃ y, nm y4.2 4 = y := ⟨_, rfl⟩
  obtain ⟨y6, h6⟩ : ∃ y, nm y5.2 8 = y := ⟨_, rfl⟩
  obtain ⟨y7, h7⟩ : ∃ y, tx y6.2 (m : Int) = y := ⟨_, rfl⟩
  obtain ⟨y8, h8⟩ : ∃ y, tx y7.2 (m : Int) = y := ⟨_, rfl⟩
  have hr := recS_eq (l, 0) (m : Int) h1 h2 h3 h4 h5 h6 h7 h8
  rw [hr] at h he ⊢
  dsimp only at h he
  have g7 : y7.2.2 = 0 := tx_stuck (by rw [h8]; exact h)
  have g6 : y6.2.2 = 0 := tx_stuck (by rw [h7]; exact g7)
  have g5 : y5.2.2 = 0 := nm_stuck (by rw [h6]; exact g6)
  have g4 : y4.2.2 = 0 := nm_stuck (by rw [h5]; exact g5)
  have g3 : y3.2.2 = 0 := nm_stuck (by rw [h4]; exact g4)
  have g2 : y2.2.2 = 0 := nm_stuck (by rw [h3]; exact g3)
  have g1 : y1.2.2 = 0 := nm_stuck (by rw [h2]; exact g2)
  obtain ⟨v1, l1, e1, q1⟩ := nm_ok l ho 8 (by omega) (by rw [cast8, h1]; exact g1)
  rw [cast8, h1] at q1; subst q1
  have o1 := octs_right ho e1
  obtain ⟨v2, l2, e2, q2⟩ := nm_ok l1 o1 8 (by omega) (by rw [cast8, h2]; exact g2)
  rw [cast8, h2] at q2; subst q2
  have o2 := octs_right o1 e2
  obtain ⟨v3, l3, e3, q3⟩ := nm_ok l2 o2 1 (by omega) (by rw [cast1, h3]; exact g3)
  rw [cast1, h3] at q3; subst q3
  have o3 := octs_right o2 e3
  obtain ⟨v4, l4, e4, q4⟩ := nm_ok l3 o3 4 (by omega) (by rw [cast4, h4]; exact g4)
  rw [cast4, h4] at q4; subst q4
  have o4 := octs_right o3 e4
  obtain ⟨v5, l5, e5, q5⟩ := nm_ok l4 o4 4 (by omega) (by rw [cast4, h5]; exact g5)
  rw [cast4, h5] at q5; subst q5
  have o5 := octs_right o4 e5
  obtain ⟨v6, l6, e6, q6⟩ := nm_ok l5 o5 8 (by omega) (by rw [cast8, h6]; exact g6)
  rw [cast8, h6] at q6; subst q6
  have o6 := octs_right o5 e6
  obtain ⟨s7, l7, e7, q7⟩ := tx_ok l6 o6 m hm (by rw [h7]; exact g7)
  rw [h7] at q7; subst q7
  have o7 := octs_right o6 e7
  obtain ⟨s8, l8, e8, q8⟩ := tx_ok l7 o7 m hm (by rw [h8]; exact h)
  rw [h8] at q8; subst q8
  dsimp only at he
  subst he
  unfold rb
  simp only [Int.toNat_natCast]
  rw [e1, e2, e3, e4, e5, e6, e7, e8]
  simp only [List.append_assoc, List.append_nil]

/-- The right record whose bytes these are, all of them. -/
def recM (l : List Nat) (m : Int) : Option Rec := if endOf (recS (l, 0) m).2.1 (recS (l, 0) m).2.2 = 0 ∧ rok (recS (l, 0) m).1 = true then some (recS (l, 0) m).1 else none
def recD (l : List Nat) : Option Rec := recM l 256
theorem endOf_zero (l : List Nat) (e : Int) : endOf l e = 0 ↔ e = 0 ∧ l = [] := by
  unfold endOf
  by_cases h : e = 0
  · rw [if_pos h]
    by_cases hl : l.length = 0
    · rw [if_pos hl]; exact ⟨fun _ => ⟨h, List.length_eq_zero_iff.1 hl⟩, fun _ => rfl⟩
    · rw [if_neg hl]; exact ⟨fun f => absurd f (by decide), fun f => absurd (by rw [f.2]; rfl) hl⟩
  · rw [if_neg h]; exact ⟨fun f => absurd f h, fun f => absurd f.1 h⟩
theorem recM_iff (l : List Nat) (ho : octs l) (m : Nat) (h256 : 256 ≤ m) (hm : m ≤ 65535) (r : Rec) : recM l (m : Int) = some r ↔ rok r = true ∧ l = rb r := by
  unfold recM
  constructor
  · intro h
    split at h
    · rename_i hc
      rw [endOf_zero] at hc
      have := recS_ok l ho m hm hc.1.1 hc.1.2
      simp only [Option.some.injEq] at h
      rw [h] at this hc
      exact ⟨hc.2, this⟩
    · simp at h
  · rintro ⟨h1, h2⟩
    have := recS_fwd r (rok_rg h1) m h256 hm []
    rw [List.append_nil, ← h2] at this
    rw [this, if_pos ⟨(endOf_zero _ _).2 ⟨rfl, rfl⟩, h1⟩]
theorem recD_iff (l : List Nat) (ho : octs l) (r : Rec) : recD l = some r ↔ rok r = true ∧ l = rb r := recM_iff l ho 256 (by omega) (by omega) r
theorem recM_recD (l : List Nat) (ho : octs l) (m : Nat) (h256 : 256 ≤ m) (hm : m ≤ 65535) : recM l (m : Int) = recD l := by
  cases h : recD l with
  | none =>
    cases h2 : recM l (m : Int) with
    | none => rfl
    | some r =>
      have := (recD_iff l ho r).2 ((recM_iff l ho m h256 hm r).1 h2)
      rw [h] at this; simp at this
  | some r => exact (recM_iff l ho m h256 hm r).2 ((recD_iff l ho r).1 h)

/-- A record of nothing. -/
def zr : Rec := ⟨0, 0, 0, 0, 0, 0, ⟨#[]⟩, ⟨#[]⟩⟩
/-- What Decode tells: the record, how many bytes its frame has, the error. -/
def rdec (l : List Nat) : Rec × Nat × Nat :=
  if l.length < 2 then (zr, 0, 10)
  else if l.length < val (l.take 2) + 6 then (zr, 0, 10)
  else if (opened (l.take (val (l.take 2) + 6))).2 ≠ 0 then (zr, 0, 20)
  else match recD ((l.drop 2).take (val (l.take 2))) with
    | none => (zr, 0, 90)
    | some r => (r, val (l.take 2) + 6, 0)
theorem zr_bad : rok zr = false := by decide
theorem val_le2 (n : Nat) (h : n < 65536) : val (le 2 n) = n := by rw [bval_le]; exact Nat.mod_eq_of_lt h
theorem rb_small {r : Rec} (h : rok r = true) : (rb r).length < 65536 := by
  have g := rok_rg h
  have := g.key; have := g.val
  rw [rb_length]; omega
theorem frm_take2 {r : Rec} (h : rok r = true) (x : List Nat) : val ((frm r ++ x).take 2) = (rb r).length := by
  have : (frm r ++ x).take 2 = le 2 (rb r).length := by
    unfold frm rh
    rw [List.append_assoc, List.append_assoc]
    exact List.take_left' (le_length 2 _)
  rw [this, val_le2 _ (rb_small h)]
theorem frm_len (r : Rec) : (frm r).length = (rb r).length + 6 := by rw [frm_length, rb_length]; omega
theorem opened_frm (r : Rec) : opened (frm r) = (rh r, 0) := by
  unfold opened
  have h4 : (le4 (crc (rh r))).length = 4 := by rw [← le_le4, le_length]
  have hl : (frm r).length - 4 = (rh r).length := by unfold frm; rw [List.length_append, h4]; omega
  rw [if_neg (by rw [frm_length]; omega), hl]
  unfold frm
  rw [List.take_left, List.drop_left, if_pos (val_le4 _ (crc_lt (rh_octs r)))]
theorem rdec_frm (r : Rec) (h : rok r = true) (x : List Nat) : rdec (frm r ++ x) = (r, (frm r).length, 0) := by
  unfold rdec
  have hl := frm_len r
  rw [frm_take2 h x, if_neg (by rw [List.length_append]; omega), if_neg (by rw [List.length_append]; omega)]
  rw [← hl, List.take_left, opened_frm]
  rw [if_neg (by simp)]
  have e : ((frm r ++ x).drop 2).take (rb r).length = rb r := by
    unfold frm rh
    rw [List.append_assoc, List.append_assoc, List.drop_left' (le_length 2 _)]
    exact List.take_left
  rw [e, (recD_iff (rb r) (rb_octs r) r).2 ⟨h, rfl⟩]
theorem rdec_some (l : List Nat) (ho : octs l) (r : Rec) (n : Nat) (h : rdec l = (r, n, 0)) : rok r = true ∧ n = (frm r).length ∧ n ≤ l.length ∧ l.take n = frm r := by
  unfold rdec at h
  split at h
  · simp at h
  · rename_i h2
    split at h
    · simp at h
    · rename_i h6
      split at h
      · simp at h
      · rename_i hop
        have od : octs ((l.drop 2).take (val (l.take 2))) := octs_take (fun x hx => ho x (List.mem_of_mem_drop hx)) _
        split at h
        · simp at h
        · rename_i r' hr
          simp only [Prod.mk.injEq, and_true] at h
          obtain ⟨rfl, rfl⟩ := h
          obtain ⟨hk, hb⟩ := (recD_iff _ od r').1 hr
          have hlen : (rb r').length = val (l.take 2) := by rw [← hb, List.length_take, List.length_drop]; omega
          have ht2 : l.take 2 = le 2 (rb r').length := by
            rw [hlen]
            have := ble_val (l.take 2) (octs_take ho 2)
            rw [show (l.take 2).length = 2 by rw [List.length_take]; omega] at this
            exact this.symm
          refine ⟨hk, by rw [frm_len, hlen], by omega, ?_⟩
          have hopen : (opened (l.take (val (l.take 2) + 6))).2 = 0 := by simpa using hop
          have hlt : (l.take (val (l.take 2) + 6)).length = val (l.take 2) + 6 := by rw [List.length_take]; omega
          unfold opened at hopen
          rw [if_neg (by omega), hlt] at hopen
          split at hopen
          · rename_i hv
            have e6 : val (l.take 2) + 6 - 4 = val (l.take 2) + 2 := by omega
            rw [e6] at hv
            have et : (l.take (val (l.take 2) + 6)).take (val (l.take 2) + 2) = rh r' := by
              rw [List.take_take, Nat.min_eq_left (by omega)]
              unfold rh
              rw [← ht2, ← hb, Nat.add_comm]
              exact List.take_add
            rw [et] at hv
            have o4 : octs ((l.take (val (l.take 2) + 6)).drop (val (l.take 2) + 2)) := fun x hx => ho x (List.mem_of_mem_take (List.mem_of_mem_drop hx))
            have l4 : ((l.take (val (l.take 2) + 6)).drop (val (l.take 2) + 2)).length = 4 := by rw [List.length_drop, hlt]; omega
            have := (le4_val _ o4 l4).1
            rw [hv] at this
            unfold frm
            rw [this, ← et, List.take_append_drop]
          · simp at hopen
theorem rdec_none (l : List Nat) (h : (rdec l).2.2 ≠ 0) : (rdec l).1 = zr ∧ (rdec l).2.1 = 0 := by
  unfold rdec at h ⊢
  split
  · exact ⟨rfl, rfl⟩
  · rename_i h2
    split
    · exact ⟨rfl, rfl⟩
    · rename_i h6
      split
      · exact ⟨rfl, rfl⟩
      · rename_i hop
        rw [if_neg h2, if_neg h6, if_neg hop] at h
        split
        · exact ⟨rfl, rfl⟩
        · rename_i r' hr
          rw [hr] at h
          simp at h
end Go.Proofs.Ytcmkpmilnplhmaa
