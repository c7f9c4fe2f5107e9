
/- RcEnc, RcMath, RcDec, RcDec2. -/
import Derived.Test.YtkibbojiflklpaaGreatBB23
/- A record's bytes and its frame; what record.Encode makes. -/
namespace Go.Proofs.YtkibbojiflklpaaGreat
open Go.RowKit Crcm

/-- A record's bytes. -/
def rb (r : Rec) : List Nat := le 8 r.lsn.toNat ++ le 8 r.ep.toNat ++ le 1 r.kind.toNat ++ le 4 r.page.toNat ++ le 4 r.other.toNat ++ le 8 r.req.toNat ++ txt r.key ++ txt r.val
/-- What a frame's sum is of. -/
def rh (r : Rec) : List Nat := le 2 (rb r).length ++ rb r
/-- A record's frame. -/
def frm (r : Rec) : List Nat := rh r ++ le4 (crc (rh r))
/-- What a right record is, at hand. -/
structure Rg (r : Rec) : Prop where
  lsn0 : 1 ≤ r.lsn
  lsn1 : r.lsn ≤ 1099511627776
  ep0 : 0 ≤ r.ep
  ep1 : r.ep ≤ 1099511627776
  kind0 : 1 ≤ r.kind
  kind1 : r.kind ≤ 7
  page0 : 0 ≤ r.page
  page1 : r.page ≤ 4096
  other0 : 0 ≤ r.other
  other1 : r.other ≤ 4096
  req0 : 0 ≤ r.req
  req1 : r.req ≤ 1099511627776
  key : r.key.size ≤ 16
  val : r.val.size ≤ 256
theorem keyB_le {s : ByteArray} (h : keyB s = true) : s.size ≤ 16 := by
  unfold keyB ekey at h; simp only [beq_iff_eq] at h
  split at h
  · exact absurd h (by decide)
  · omega
theorem valB_le {s : ByteArray} (h : valB s = true) : s.size ≤ 32 := by
  unfold valB evalu at h; simp only [beq_iff_eq] at h
  split at h
  · exact absurd h (by decide)
  · omega
theorem emp_size {s : ByteArray} (h : emp s = true) : s.size = 0 := by
  unfold emp at h
  rw [List.isEmpty_iff, Lib.toList_data] at h
  rw [Lib.size_eq, h]; rfl
theorem pgB_le {x : Int} (h : pgB x = true) : 1 ≤ x ∧ x ≤ 4096 := by unfold pgB wthB at h; rwa [decide_eq_true_eq] at h
theorem newB_le {s : ByteArray} (h : newB s = true) : s.size = 256 := by
  unfold newB at h
  simp only [Bool.and_eq_true] at h
  have h1 := h.1
  rw [← bsOf_length]
  unfold decF at h1
  split at h1
  · rename_i hh; exact hh.1
  · simp at h1
theorem rok_rg {r : Rec} (h : rok r = true) : Rg r := by
  unfold rok at h
  simp only [Bool.and_eq_true, wthB, decide_eq_true_eq] at h
  obtain ⟨⟨h1, h2⟩, ⟨h3, h4⟩, hs⟩ := h
  unfold suitB at hs
  split at hs
  · rename_i hk
    simp only [Bool.and_eq_true, Bool.or_eq_true, beq_iff_eq, wthB, decide_eq_true_eq] at hs
    obtain ⟨hp, ho, ⟨hr1, hr2⟩, hkey⟩ := hs
    have hk16 := keyB_le hkey
    have hv : r.val.size ≤ 32 ∧ 0 ≤ r.other ∧ r.other ≤ 2 := by
      rcases ho with ⟨a, b⟩ | ⟨a, b⟩
      · exact ⟨valB_le b, by omega, by omega⟩
      · exact ⟨by rw [emp_size b]; omega, by omega, by omega⟩
    exact ⟨h1, h2, h3, h4, by omega, by omega, by omega, by omega, by omega, by omega, by omega, by omega, hk16, by omega⟩
  · simp only [Bool.and_eq_true, beq_iff_eq] at hs
    obtain ⟨hq, hs⟩ := hs
    split at hs
    · simp only [Bool.and_eq_true, beq_iff_eq] at hs
      obtain ⟨a, b, c, d⟩ := hs
      have := emp_size c; have := emp_size d
      exact ⟨h1, h2, h3, h4, by omega, by omega, by omega, by omega, by omega, by omega, by omega, by omega, by omega, by omega⟩
    · split at hs
      · simp only [Bool.and_eq_true, beq_iff_eq] at hs
        obtain ⟨a, b, c, d⟩ := hs
        have := pgB_le a; have := keyB_le c; have := valB_le d
        exact ⟨h1, h2, h3, h4, by omega, by omega, by omega, by omega, by omega, by omega, by omega, by omega, by omega, by omega⟩
      · split at hs
        · simp only [Bool.and_eq_true, beq_iff_eq] at hs
          obtain ⟨a, b, c, d⟩ := hs
          have := pgB_le a; have := keyB_le c; have := emp_size d
          exact ⟨h1, h2, h3, h4, by omega, by omega, by omega, by omega, by omega, by omega, by omega, by omega, by omega, by omega⟩
        · split at hs
          · simp only [Bool.and_eq_true, beq_iff_eq] at hs
            obtain ⟨a, b, c, d⟩ := hs
            have := pgB_le a; have := emp_size c; have := newB_le d
            exact ⟨h1, h2, h3, h4, by omega, by omega, by omega, by omega, by omega, by omega, by omega, by omega, by omega, by omega⟩
          · split at hs
            · simp only [Bool.and_eq_true] at hs
              obtain ⟨a, b, c, d⟩ := hs
              have := pgB_le a; have := pgB_le b; have := keyB_le c; have := emp_size d
              exact ⟨h1, h2, h3, h4, by omega, by omega, by omega, by omega, by omega, by omega, by omega, by omega, by omega, by omega⟩
            · simp at hs
theorem rb_length (r : Rec) : (rb r).length = 37 + r.key.size + r.val.size := by
  unfold rb; simp only [List.length_append, le_length, txt_length]; omega
theorem rb_octs (r : Rec) : octs (rb r) := by
  unfold rb
  exact octs_app (octs_app (octs_app (octs_app (octs_app (octs_app (octs_app (le_octs' _ _) (le_octs' _ _)) (le_octs' _ _)) (le_octs' _ _)) (le_octs' _ _)) (le_octs' _ _)) (txt_octs _)) (txt_octs _)
theorem rh_length (r : Rec) : (rh r).length = 39 + r.key.size + r.val.size := by
  unfold rh; rw [List.length_append, le_length, rb_length]; omega
theorem rh_octs (r : Rec) : octs (rh r) := octs_app (le_octs' _ _) (rb_octs r)
theorem frm_length (r : Rec) : (frm r).length = 43 + r.key.size + r.val.size := by
  unfold frm; rw [List.length_append, rh_length, ← le_le4, le_length]; omega
theorem frm_octs (r : Rec) : octs (frm r) := octs_app (rh_octs r) (by rw [← le_le4]; exact le_octs' _ _)


set_option maxRecDepth 100000 in
set_option maxHeartbeats 2000000 in
theorem rbytes_any (r : Rec) (hr : Rg r) (w : World) : Calls Tryz.prog 100 #[(.agg #[.int .i64 r.lsn, .int .i64 r.ep, .int .i64 r.kind, .int .i64 r.page, .int .i64 r.other, .int .i64 r.req, .string r.key, .string r.val])] w fun e w' => ∃ v', e = .returned v' ∧ Made w w' v' (rb r) := by
  have HG : Hid (Rg r) := hr
  clear hr
  obtain ⟨W0, hW0⟩ : ∃ W0, W0 = w.alloc (.cells #[.int .i64 r.lsn, .int .i64 r.ep, .int .i64 r.kind, .int .i64 r.page, .int .i64 r.other, .int .i64 r.req, .string r.key, .string r.val] 54) := ⟨_, rfl⟩
  have f0 : Fr (fun _ => False) w W0 := by rw [hW0]; exact Fr.box w _
  have HB : Hid (∀ W, Fr (fun _ => False) W0 W → W.cell? ⟨w.heap.size, 0, none⟩ = some (.int .i64 r.lsn) ∧ W.cell? ⟨w.heap.size, 1, none⟩ = some (.int .i64 r.ep) ∧ W.cell? ⟨w.heap.size, 2, none⟩ = some (.int .i64 r.kind) ∧ W.cell? ⟨w.heap.size, 3, none⟩ = some (.int .i64 r.page) ∧ W.cell? ⟨w.heap.size, 4, none⟩ = some (.int .i64 r.other) ∧ W.cell? ⟨w.heap.size, 5, none⟩ = some (.int .i64 r.req) ∧ W.cell? ⟨w.heap.size, 6, none⟩ = some (.string r.key) ∧ W.cell? ⟨w.heap.size, 7, none⟩ = some (.string r.val)) := fun W f => by rw [hW0] at f; exact (rec_cells (rec_at w _ _ f)).1
  have HW : Hid (w.alloc (.cells #[.int .i64 r.lsn, .int .i64 r.ep, .int .i64 r.kind, .int .i64 r.page, .int .i64 r.other, .int .i64 r.req, .string r.key, .string r.val] 54) = W0) := hW0.symm
  have HZ : Hid (W0.heap.size = w.heap.size + 1) := by show _ = _; rw [hW0]; simp
  have HS : Hid (rb r = le 8 r.lsn.toNat ++ le 8 r.ep.toNat ++ le 1 r.kind.toNat ++ le 4 r.page.toNat ++ le 4 r.other.toNat ++ le 8 r.req.toNat ++ txt r.key ++ txt r.val) := rfl
  clear hW0
  go_enter Tryz.func100, Tryz.ntmps100
  go_wp2_with fail
  rw [HW.out]
  refine (new_st W0).mono ?_
  rw [HZ.out]
  rintro e w1 ⟨rfl, s1⟩
  obtain ⟨c0, c1, c2, c3, c4, c5, c6, c7⟩ := HB.out _ s1.fr
  go_wp2_with fail
  refine (wnum_st W0 _ _ HZ.out _ r.lsn 8 (fit8 (by have := HG.out.lsn0; omega)) (by simp) s1).mono ?_
  rintro e w2 ⟨rfl, s2⟩
  clear c0 c1 c2 c3 c4 c5 c6 c7
  obtain ⟨c0, c1, c2, c3, c4, c5, c6, c7⟩ := HB.out _ s2.fr
  go_wp2_with fail
  refine (wnum_st W0 _ _ HZ.out _ r.ep 8 (fit8 HG.out.ep0) (by simp [le_length]) s2).mono ?_
  rintro e w3 ⟨rfl, s3⟩
  clear c0 c1 c2 c3 c4 c5 c6 c7
  obtain ⟨c0, c1, c2, c3, c4, c5, c6, c7⟩ := HB.out _ s3.fr
  go_wp2_with fail
  refine (wnum_st W0 _ _ HZ.out _ r.kind 1 (fit1 (by have := HG.out.kind0; omega) (by have := HG.out.kind1; omega)) (by simp [le_length]) s3).mono ?_
  rintro e w4 ⟨rfl, s4⟩
  clear c0 c1 c2 c3 c4 c5 c6 c7
  obtain ⟨c0, c1, c2, c3, c4, c5, c6, c7⟩ := HB.out _ s4.fr
  go_wp2_with fail
  refine (wnum_st W0 _ _ HZ.out _ r.page 4 (fit4' HG.out.page0 HG.out.page1) (by simp [le_length]) s4).mono ?_
  rintro e w5 ⟨rfl, s5⟩
  clear c0 c1 c2 c3 c4 c5 c6 c7
  obtain ⟨c0, c1, c2, c3, c4, c5, c6, c7⟩ := HB.out _ s5.fr
  go_wp2_with fail
  refine (wnum_st W0 _ _ HZ.out _ r.other 4 (fit4' HG.out.other0 HG.out.other1) (by simp [le_length]) s5).mono ?_
  rintro e w6 ⟨rfl, s6⟩
  clear c0 c1 c2 c3 c4 c5 c6 c7
  obtain ⟨c0, c1, c2, c3, c4, c5, c6, c7⟩ := HB.out _ s6.fr
  go_wp2_with fail
  refine (wnum_st W0 _ _ HZ.out _ r.req 8 (fit8 HG.out.req0) (by simp [le_length]) s6).mono ?_
  rintro e w7 ⟨rfl, s7⟩
  clear c0 c1 c2 c3 c4 c5 c6 c7
  obtain ⟨c0, c1, c2, c3, c4, c5, c6, c7⟩ := HB.out _ s7.fr
  go_wp2_with fail
  refine (wtext_st W0 _ _ HZ.out _ r.key (by have := HG.out.key; omega) (by simp [le_length]) s7).mono ?_
  rintro e w8 ⟨rfl, s8⟩
  clear c0 c1 c2 c3 c4 c5 c6 c7
  obtain ⟨c0, c1, c2, c3, c4, c5, c6, c7⟩ := HB.out _ s8.fr
  go_wp2_with fail
  refine (wtext_st W0 _ _ HZ.out _ r.val (by have := HG.out.val; omega) (by have := HG.out.key; simp [le_length, txt_length]; omega) s8).mono ?_
  rintro e w9 ⟨rfl, s9⟩
  clear c0 c1 c2 c3 c4 c5 c6 c7
  rw [List.nil_append, ← HS.out] at s9
  go_wp2_with fail
  refine (wbytes_st W0 _ _ HZ.out _ (rb_octs r) (by have := HG.out.key; have := HG.out.val; rw [rb_length]; omega) s9).mono ?_
  rintro e w10 ⟨v10, rfl, m10⟩
  go_wp2
  go_ret
  exact ⟨v10, rfl, Made.of (f0.seq' s9.fr) m10⟩

set_option maxRecDepth 100000 in
set_option maxHeartbeats 1000000 in
theorem encode_rno (r : Rec) (hr : rok r = false) (w : World) : Calls Tryz.prog 62 #[(.agg #[.int .i64 r.lsn, .int .i64 r.ep, .int .i64 r.kind, .int .i64 r.page, .int .i64 r.other, .int .i64 r.req, .string r.key, .string r.val])] w fun e w' => e = .returned (.tuple #[.slice none 0 0, .int .i64 90]) ∧ Fr (fun _ => False) w w' := by
  have HE : Hid (erec r = 90) := erec_no hr
  clear hr
  go_enter Tryz.func62, Tryz.ntmps62
  go_wp2_with fail
  refine (rec_check r _).mono ?_
  rw [HE.out]
  rintro e w1 ⟨rfl, f1⟩
  go_wp2
  go_ret2
  exact ⟨rfl, (Fr.box w _).seq' f1⟩

theorem bytes_text (l : List Nat) (ho : octs l) : txt (strOf l) = le 2 l.length ++ l := by
  unfold txt
  have h : bsOf (strOf l) = l := bbsOf_strOf l ho
  rw [← bsOf_length, h]

set_option maxRecDepth 100000 in
set_option maxHeartbeats 1000000 in
theorem encode_ryes (r : Rec) (hr : rok r = true) (w : World) : Calls Tryz.prog 62 #[(.agg #[.int .i64 r.lsn, .int .i64 r.ep, .int .i64 r.kind, .int .i64 r.page, .int .i64 r.other, .int .i64 r.req, .string r.key, .string r.val])] w fun e w' => ∃ v', e = .returned (.tuple #[v', .int .i64 0]) ∧ Made w w' v' (frm r) := by
  have HE : Hid (erec r = 0) := erec_yes hr
  have HG : Hid (Rg r) := rok_rg hr
  clear hr
  have f0 := Fr.box w (.cells #[.int .i64 r.lsn, .int .i64 r.ep, .int .i64 r.kind, .int .i64 r.page, .int .i64 r.other, .int .i64 r.req, .string r.key, .string r.val] 54)
  have HB : Hid (∀ W, Fr (fun _ => False) (w.alloc (.cells #[.int .i64 r.lsn, .int .i64 r.ep, .int .i64 r.kind, .int .i64 r.page, .int .i64 r.other, .int .i64 r.req, .string r.key, .string r.val] 54)) W → W.cell? ⟨w.heap.size, 0, none⟩ = some (.int .i64 r.lsn) ∧ W.cell? ⟨w.heap.size, 1, none⟩ = some (.int .i64 r.ep) ∧ W.cell? ⟨w.heap.size, 2, none⟩ = some (.int .i64 r.kind) ∧ W.cell? ⟨w.heap.size, 3, none⟩ = some (.int .i64 r.page) ∧ W.cell? ⟨w.heap.size, 4, none⟩ = some (.int .i64 r.other) ∧ W.cell? ⟨w.heap.size, 5, none⟩ = some (.int .i64 r.req) ∧ W.cell? ⟨w.heap.size, 6, none⟩ = some (.string r.key) ∧ W.cell? ⟨w.heap.size, 7, none⟩ = some (.string r.val)) := fun W f => (rec_cells (rec_at w _ _ f)).1
  have HL : Hid ((rb r).length = 37 + r.key.size + r.val.size) := rb_length r
  have HT : Hid (txt (strOf (rb r)) = rh r) := by show _ = _; rw [bytes_text _ (rb_octs r)]; rfl
  have HZ : Hid ((strOf (rb r)).size = (rb r).length) := by show _ = _; rw [← bsOf_length, bbsOf_strOf _ (rb_octs r)]
  go_enter Tryz.func62, Tryz.ntmps62
  go_wp2_with fail
  refine (rec_check r _).mono ?_
  rw [HE.out]
  rintro e w1 ⟨rfl, f1⟩
  go_wp2_with fail
  refine (new_st w1).mono ?_
  rintro e w2 ⟨rfl, s2⟩
  obtain ⟨c0, c1, c2, c3, c4, c5, c6, c7⟩ := HB.out _ (f1.seq' s2.fr)
  go_wp2_with fail
  refine (rbytes_any r HG.out _).mono ?_
  rintro e w3 ⟨v3, rfl, m3⟩
  have s3 := s2.same m3.fr
  obtain ⟨a3, k3, rfl, r3⟩ := m3.own.row (rb_octs r) (by have := HG.out.key; have := HG.out.val; rw [HL.out]; omega)
  have cv := run_str (P := Tryz.prog) (src := 23) (dst := 9) Tryz.underlying23 Tryz.underlying5 Tryz.underlying9 r3 (rb r).length rfl
  clear c0 c1 c2 c3 c4 c5 c6 c7
  go_wp2_with fail
  refine (wtext_st w1 _ _ rfl _ (strOf (rb r)) (by have := HG.out.key; have := HG.out.val; rw [HZ.out, HL.out]; omega) (by simp) s3).mono ?_
  rw [List.nil_append, HT.out]
  rintro e w4 ⟨rfl, s4⟩
  go_wp2_with fail
  refine (wbytes_st w1 _ _ rfl _ (rh_octs r) (by have := HG.out.key; have := HG.out.val; rw [rh_length]; omega) s4).mono ?_
  rintro e w5 ⟨v5, rfl, m5⟩
  obtain ⟨a5, k5, rfl, r5⟩ := m5.own.row (rh_octs r) (by have := HG.out.key; have := HG.out.val; rw [rh_length]; omega)
  go_wp2_with fail
  refine (seal_any a5 _ k5 (rh r) rfl (by have := HG.out.key; have := HG.out.val; rw [rh_length]; omega) _ r5).mono ?_
  rintro e w6 ⟨v6, rfl, m6⟩
  go_wp2
  go_ret2
  exact ⟨v6, rfl, Made.of (((f0.seq' f1).seq' s4.fr).seq' m5.fr) m6⟩
end Go.Proofs.YtkibbojiflklpaaGreat

/- Records as bytes, there and back, by plain functions of lists. -/
namespace Go.Proofs.YtkibbojiflklpaaGreat
open Go.RowKit Crcm

def nm (s : RS) (k : Int) : Int × RS := ((numS s k).1, (numS s k).2.2)
def tx (s : RS) (m : Int) : ByteArray × RS := (strOf (textS s m).1, (textS s m).2.2)
theorem nm_st (k v : Nat) (hk : k = 1 ∨ k = 2 ∨ k = 4 ∨ k = 8) (hv : v < 256 ^ k) (hv2 : v < 9223372036854775808) (r : List Nat) : nm (le k v ++ r, 0) (k : Int) = ((v : Int), (r, 0)) := by
  have h := numF_st k v hk hv hv2 r
  unfold numF at h
  simp only [Prod.mk.injEq] at h
  unfold nm; rw [h.1, ← h.2.1]
theorem tx_st (s : ByteArray) (m : Nat) (hs : s.size ≤ m) (hm : m ≤ 65535) (r : List Nat) : tx (txt s ++ r, 0) (m : Int) = (s, (r, 0)) := by
  have h := textF_st s m hs hm r
  unfold textF at h
  simp only [Prod.mk.injEq] at h
  unfold tx; rw [h.1, ← h.2.1]
theorem nm_stuck {s : RS} {k : Int} (h : (nm s k).2.2 = 0) : s.2 = 0 := by
  unfold nm numS at h
  by_cases h1 : s.2 = 0
  · exact h1
  · split at h
    · exact h
    · exact h
theorem tx_stuck {s : RS} {k : Int} (h : (tx s k).2.2 = 0) : s.2 = 0 := by
  unfold tx textS at h
  by_cases h1 : s.2 = 0
  · exact h1
  · split at h
    · exact h
    · exact h
theorem nm_ok (l : List Nat) (ho : octs l) (k : Nat) (hk : k = 1 ∨ k = 2 ∨ k = 4 ∨ k = 8) (h : (nm (l, 0) (k : Int)).2.2 = 0) : ∃ v r, l = le k v ++ r ∧ nm (l, 0) (k : Int) = ((v : Int), (r, 0)) := by
  have h0 : (numS (l, 0) (k : Int)).2.1 = 0 := by
    unfold nm numS at h
    unfold numS
    rw [if_neg (by omega), if_neg (by simp)] at h ⊢
    split
    · rename_i hc; rw [if_pos hc] at h; exact h
    · rename_i hc
      rw [if_neg hc] at h
      split
      · rename_i hd; rw [if_pos hd] at h; exact h
      · rfl
  obtain ⟨v, r, e, _, h1, h2⟩ := numF_ok l ho k hk (by unfold numF; simpa using h0)
  refine ⟨v, r, e, ?_⟩
  have := nm_st k v hk h1 h2 r
  rw [← e] at this; exact this
theorem tx_ok (l : List Nat) (ho : octs l) (m : Nat) (hm : m ≤ 65535) (h : (tx (l, 0) (m : Int)).2.2 = 0) : ∃ s r, l = txt s ++ r ∧ tx (l, 0) (m : Int) = (s, (r, 0)) := by
  have h0 : (textS (l, 0) (m : Int)).2.1 = 0 := by
    unfold tx textS at h
    unfold textS
    rw [if_neg (by omega), if_neg (by simp)] at h ⊢
    split
    · rename_i hc; rw [if_pos hc] at h; exact h
    · rename_i hc
      rw [if_neg hc] at h
      split
      · rename_i hd; rw [if_pos hd] at h; exact h
      · rename_i hd
        rw [if_neg hd] at h
        split
        · rename_i he; rw [if_pos he] at h; exact h
        · rfl
  obtain ⟨s, r, e, _, h1⟩ := textF_ok l ho m hm (by unfold textF; simpa using h0)
  refine ⟨s, r, e, ?_⟩
  have := tx_st s m h1 hm r
  rw [← e] at this; exact this

/-- What is read of a record: its parts, and the state behind. -/
def recS (s : RS) (m : Int) : Rec × RS :=
  (⟨(nm s 8).1, (nm (nm s 8).2 8).1, (nm (nm (nm s 8).2 8).2 1).1, (nm (nm (nm (nm s 8).2 8).2 1).2 4).1, (nm (nm (nm (nm (nm s 8).2 8).2 1).2 4).2 4).1, (nm (nm (nm (nm (nm (nm s 8).2 8).2 1).2 4).2 4).2 8).1,
    (tx (nm (nm (nm (nm (nm (nm s 8).2 8).2 1).2 4).2 4).2 8).2 m).1, (tx (tx (nm (nm (nm (nm (nm (nm s 8).2 8).2 1).2 4).2 4).2 8).2 m).2 m).1⟩,
   (tx (tx (nm (nm (nm (nm (nm (nm s 8).2 8).2 1).2 4).2 4).2 8).2 m).2 m).2)
theorem recS_eq (s : RS) (m : Int) {y1 y2 y3 y4 y5 y6 : Int × RS} {y7 y8 : ByteArray × RS} (h1 : nm s 8 = y1) (h2 : nm y1.2 8 = y2) (h3 : nm y2.2 1 = y3) (h4 : nm y3.2 4 = y4) (h5 : nm y4.2 4 = y5) (h6 : nm y5.2 8 = y6) (h7 : tx y6.2 m = y7) (h8 : tx y7.2 m = y8) :
    recS s m = (⟨y1.1, y2.1, y3.1, y4.1, y5.1, y6.1, y7.1, y8.1⟩, y8.2) := by
  subst h1; subst h2; subst h3; subst h4; subst h5; subst h6; subst h7; subst h8; rfl
theorem cast8 : ((8 : Nat) : Int) = 8 := rfl
theorem cast4 : ((4 : Nat) : Int) = 4 := rfl
theorem cast1 : ((1 : Nat) : Int) = 1 := rfl
theorem recS_fwd (r : Rec) (h : Rg r) (m : Nat) (h256 : 256 ≤ m) (hm : m ≤ 65535) (x : List Nat) : recS (rb r ++ x, 0) (m : Int) = (r, (x, 0)) := by
  have p8 : (1099511627776 : Nat) < 256 ^ 8 := by decide
  have p4 : (4096 : Nat) < 256 ^ 4 := by decide
  have p1 : (7 : Nat) < 256 ^ 1 := by decide
  have e : rb r ++ x = le 8 r.lsn.toNat ++ (le 8 r.ep.toNat ++ (le 1 r.kind.toNat ++ (le 4 r.page.toNat ++ (le 4 r.other.toNat ++ (le 8 r.req.toNat ++ (txt r.key ++ (txt r.val ++ x))))))) := by
    unfold rb; simp only [List.append_assoc]
  have := h.lsn0; have := h.lsn1; have := h.ep0; have := h.ep1; have := h.kind0; have := h.kind1; have := h.page0; have := h.page1; have := h.other0; have := h.other1; have := h.req0; have := h.req1; have := h.key; have := h.val
  rw [e, recS_eq _ _ (nm_st 8 r.lsn.toNat (by omega) (by omega) (by omega) _) (nm_st 8 r.ep.toNat (by omega) (by omega) (by omega) _) (nm_st 1 r.kind.toNat (by omega) (by omega) (by omega) _) (nm_st 4 r.page.toNat (by omega) (by omega) (by omega) _) (nm_st 4 r.other.toNat (by omega) (by omega) (by omega) _) (nm_st 8 r.req.toNat (by omega) (by omega) (by omega) _) (tx_st r.key m (by omega) hm _) (tx_st r.val m (by omega) hm _)]
  obtain ⟨a, b, c, d, f, g, k, v⟩ := r
  dsimp only at *
  rw [Int.toNat_of_nonneg (by omega), Int.toNat_of_nonneg (by omega), Int.toNat_of_nonneg (by omega), Int.toNat_of_nonneg (by omega), Int.toNat_of_nonneg (by omega), Int.toNat_of_nonneg (by omega)]
theorem recS_ok (l : List Nat) (ho : octs l) (m : Nat) (hm : m ≤ 65535) (h : (recS (l, 0) (m : Int)).2.2 = 0) (he : (recS (l, 0) (m : Int)).2.1 = []) : l = rb (recS (l, 0) (m : Int)).1 := by
  obtain ⟨y1, h1⟩ : ∃ y, nm (l, 0) 8 = y := ⟨_, rfl⟩
  obtain ⟨y2, h2⟩ : ∃ y, nm y1.2 8 = y := ⟨_, rfl⟩
  obtain ⟨y3, h3⟩ : ∃ y, nm y2.2 1 = y := ⟨_, rfl⟩
  obtain ⟨y4, h4⟩ : ∃ y, nm y3.2 4 = y := ⟨_, rfl⟩
  obtain ⟨y5, h5⟩ : ∃ y, nm y4.2 4 = y := ⟨_, rfl⟩
  obtain ⟨y6, h6⟩ : ∃ y, nm y5.2 8 = y := ⟨_, rfl⟩
  obtain ⟨y7, h7⟩ : ∃ y, tx y6.2 (m : Int) = y := ⟨_, rfl⟩
  obtain ⟨y8, h8⟩ : ∃ y, tx y7.2 (m : Int) = y := ⟨_, rfl⟩
  have hr := recS_eq (l, 0) (m : Int) h1 h2 h3 h4 h5 h6 h7 h8
  rw [hr] at h he ⊢
  dsimp only at h he
  have g7 : y7.2.2 = 0 := tx_stuck (by rw [h8]; exact h)
  have g6 : y6.2.2 = 0 := tx_stuck (by rw [h7]; exact g7)
  have g5 : y5.2.2 = 0 := nm_stuck (by rw [h6]; exact g6)
  have g4 : y4.2.2 = 0 := nm_stuck (by rw [h5]; exact g5)
  have g3 : y3.2.2 = 0 := nm_stuck (by rw [h4]; exact g4)
  have g2 : y2.2.2 = 0 := nm_stuck (by rw [h3]; exact g3)
  have g1 : y1.2.2 = 0 := nm_stuck (by rw [h2]; exact g2)
  obtain ⟨v1, l1, e1, q1⟩ := nm_ok l ho 8 (by omega) (by rw [cast8, h1]; exact g1)
  rw [cast8, h1] at q1; subst q1
  have o1 := octs_right ho e1
  obtain ⟨v2, l2, e2, q2⟩ := nm_ok l1 o1 8 (by omega) (by rw [cast8, h2]; exact g2)
  rw [cast8, h2] at q2; subst q2
  have o2 := octs_right o1 e2
  obtain ⟨v3, l3, e3, q3⟩ := nm_ok l2 o2 1 (by omega) (by rw [cast1, h3]; exact g3)
  rw [cast1, h3] at q3; subst q3
  have o3 := octs_right o2 e3
  obtain ⟨v4, l4, e4, q4⟩ := nm_ok l3 o3 4 (by omega) (by rw [cast4, h4]; exact g4)
  rw [cast4, h4] at q4; subst q4
  have o4 := octs_right o3 e4
  obtain ⟨v5, l5, e5, q5⟩ := nm_ok l4 o4 4 (by omega) (by rw [cast4, h5]; exact g5)
  rw [cast4, h5] at q5; subst q5
  have o5 := octs_right o4 e5
  obtain ⟨v6, l6, e6, q6⟩ := nm_ok l5 o5 8 (by omega) (by rw [cast8, h6]; exact g6)
  rw [cast8, h6] at q6; subst q6
  have o6 := octs_right o5 e6
  obtain ⟨s7, l7, e7, q7⟩ := tx_ok l6 o6 m hm (by rw [h7]; exact g7)
  rw [h7] at q7; subst q7
  have o7 := octs_right o6 e7
  obtain ⟨s8, l8, e8, q8⟩ := tx_ok l7 o7 m hm (by rw [h8]; exact h)
  rw [h8] at q8; subst q8
  dsimp only at he
  subst he
  unfold rb
  simp only [Int.toNat_natCast]
  rw [e1, e2, e3, e4, e5, e6, e7, e8]
  simp only [List.append_assoc, List.append_nil]

/-- The right record whose bytes these are, all of them. -/
def recM (l : List Nat) (m : Int) : Option Rec := if endOf (recS (l, 0) m).2.1 (recS (l, 0) m).2.2 = 0 ∧ rok (recS (l, 0) m).1 = true then some (recS (l, 0) m).1 else none
def recD (l : List Nat) : Option Rec := recM l 256
theorem endOf_zero (l : List Nat) (e : Int) : endOf l e = 0 ↔ e = 0 ∧ l = [] := by
  unfold endOf
  by_cases h : e = 0
  · rw [if_pos h]
    by_cases hl : l.length = 0
    · rw [if_pos hl]; exact ⟨fun _ => ⟨h, List.length_eq_zero_iff.1 hl⟩, fun _ => rfl⟩
    · rw [if_neg hl]; exact ⟨fun f => absurd f (by decide), fun f => absurd (by rw [f.2]; rfl) hl⟩
  · rw [if_neg h]; exact ⟨fun f => absurd f h, fun f => absurd f.1 h⟩
theorem recM_iff (l : List Nat) (ho : octs l) (m : Nat) (h256 : 256 ≤ m) (hm : m ≤ 65535) (r : Rec) : recM l (m : Int) = some r ↔ rok r = true ∧ l = rb r := by
  unfold recM
  constructor
  · intro h
    split at h
    · rename_i hc
      rw [endOf_zero] at hc
      have := recS_ok l ho m hm hc.1.1 hc.1.2
      simp only [Option.some.injEq] at h
      rw [h] at this hc
      exact ⟨hc.2, this⟩
    · simp at h
  · rintro ⟨h1, h2⟩
    have := recS_fwd r (rok_rg h1) m h256 hm []
    rw [List.append_nil, ← h2] at this
    rw [this, if_pos ⟨(endOf_zero _ _).2 ⟨rfl, rfl⟩, h1⟩]
theorem recD_iff (l : List Nat) (ho : octs l) (r : Rec) : recD l = some r ↔ rok r = true ∧ l = rb r := recM_iff l ho 256 (by omega) (by omega) r
theorem recM_recD (l : List Nat) (ho : octs l) (m : Nat) (h256 : 256 ≤ m) (hm : m ≤ 65535) : recM l (m : Int) = recD l := by
  cases h : recD l with
  | none =>
    cases h2 : recM l (m : Int) with
    | none => rfl
    | some r =>
      have := (recD_iff l ho r).2 ((recM_iff l ho m h256 hm r).1 h2)
      rw [h] at this; simp at this
  | some r => exact (recM_iff l ho m h256 hm r).2 ((recD_iff l ho r).1 h)

/-- A record of nothing. -/
def zr : Rec := ⟨0, 0, 0, 0, 0, 0, ⟨#[]⟩, ⟨#[]⟩⟩
/-- What Decode tells: the record, how many bytes its frame has, the error. -/
def rdec (l : List Nat) : Rec × Nat × Nat :=
  if l.length < 2 then (zr, 0, 10)
  else if l.length < val (l.take 2) + 6 then (zr, 0, 10)
  else if (opened (l.take (val (l.take 2) + 6))).2 ≠ 0 then (zr, 0, 20)
  else match recD ((l.drop 2).take (val (l.take 2))) with
    | none => (zr, 0, 90)
    | some r => (r, val (l.take 2) + 6, 0)
theorem zr_bad : rok zr = false := by decide
theorem val_le2 (n : Nat) (h : n < 65536) : val (le 2 n) = n := by rw [bval_le]; exact Nat.mod_eq_of_lt h
theorem rb_small {r : Rec} (h : rok r = true) : (rb r).length < 65536 := by
  have g := rok_rg h
  have := g.key; have := g.val
  rw [rb_length]; omega
theorem frm_take2 {r : Rec} (h : rok r = true) (x : List Nat) : val ((frm r ++ x).take 2) = (rb r).length := by
  have : (frm r ++ x).take 2 = le 2 (rb r).length := by
    unfold frm rh
    rw [List.append_assoc, List.append_assoc]
    exact List.take_left' (le_length 2 _)
  rw [this, val_le2 _ (rb_small h)]
theorem frm_len (r : Rec) : (frm r).length = (rb r).length + 6 := by rw [frm_length, rb_length]; omega
theorem opened_frm (r : Rec) : opened (frm r) = (rh r, 0) := by
  unfold opened
  have h4 : (le4 (crc (rh r))).length = 4 := by rw [← le_le4, le_length]
  have hl : (frm r).length - 4 = (rh r).length := by unfold frm; rw [List.length_append, h4]; omega
  rw [if_neg (by rw [frm_length]; omega), hl]
  unfold frm
  rw [List.take_left, List.drop_left, if_pos (val_le4 _ (crc_lt (rh_octs r)))]
theorem rdec_frm (r : Rec) (h : rok r = true) (x : List Nat) : rdec (frm r ++ x) = (r, (frm r).length, 0) := by
  unfold rdec
  have hl := frm_len r
  rw [frm_take2 h x, if_neg (by rw [List.length_append]; omega), if_neg (by rw [List.length_append]; omega)]
  rw [← hl, List.take_left, opened_frm]
  rw [if_neg (by simp)]
  have e : ((frm r ++ x).drop 2).take (rb r).length = rb r := by
    unfold frm rh
    rw [List.append_assoc, List.append_assoc, List.drop_left' (le_length 2 _)]
    exact List.take_left
  rw [e, (recD_iff (rb r) (rb_octs r) r).2 ⟨h, rfl⟩]
theorem rdec_some (l : List Nat) (ho : octs l) (r : Rec) (n : Nat) (h : rdec l = (r, n, 0)) : rok r = true ∧ n = (frm r).length ∧ n ≤ l.length ∧ l.take n = frm r := by
  unfold rdec at h
  split at h
  · simp at h
  · rename_i h2
    split at h
    · simp at h
    · rename_i h6
      split at h
      · simp at h
      · rename_i hop
        have od : octs ((l.drop 2).take (val (l.take 2))) := octs_take (fun x hx => ho x (List.mem_of_mem_drop hx)) _
        split at h
        · simp at h
        · rename_i r' hr
          simp only [Prod.mk.injEq, and_true] at h
          obtain ⟨rfl, rfl⟩ := h
          obtain ⟨hk, hb⟩ := (recD_iff _ od r').1 hr
          have hlen : (rb r').length = val (l.take 2) := by rw [← hb, List.length_take, List.length_drop]; omega
          have ht2 : l.take 2 = le 2 (rb r').length := by
            rw [hlen]
            have := ble_val (l.take 2) (octs_take ho 2)
            rw [show (l.take 2).length = 2 by rw [List.length_take]; omega] at this
            exact this.symm
          refine ⟨hk, by rw [frm_len, hlen], by omega, ?_⟩
          have hopen : (opened (l.take (val (l.take 2) + 6))).2 = 0 := by simpa using hop
          have hlt : (l.take (val (l.take 2) + 6)).length = val (l.take 2) + 6 := by rw [List.length_take]; omega
          unfold opened at hopen
          rw [if_neg (by omega), hlt] at hopen
          split at hopen
          · rename_i hv
            have e6 : val (l.take 2) + 6 - 4 = val (l.take 2) + 2 := by omega
            rw [e6] at hv
            have et : (l.take (val (l.take 2) + 6)).take (val (l.take 2) + 2) = rh r' := by
              rw [List.take_take, Nat.min_eq_left (by omega)]
              unfold rh
              rw [← ht2, ← hb, Nat.add_comm]
              exact List.take_add
            rw [et] at hv
            have o4 : octs ((l.take (val (l.take 2) + 6)).drop (val (l.take 2) + 2)) := fun x hx => ho x (List.mem_of_mem_take (List.mem_of_mem_drop hx))
            have l4 : ((l.take (val (l.take 2) + 6)).drop (val (l.take 2) + 2)).length = 4 := by rw [List.length_drop, hlt]; omega
            have := (le4_val _ o4 l4).1
            rw [hv] at this
            unfold frm
            rw [this, ← et, List.take_append_drop]
          · simp at hopen
theorem rdec_none (l : List Nat) (h : (rdec l).2.2 ≠ 0) : (rdec l).1 = zr ∧ (rdec l).2.1 = 0 := by
  unfold rdec at h ⊢
  split
  · exact ⟨rfl, rfl⟩
  · rename_i h2
    split
    · exact ⟨rfl, rfl⟩
    · rename_i h6
      split
      · exact ⟨rfl, rfl⟩
      · rename_i hop
        rw [if_neg h2, if_neg h6, if_neg hop] at h
        split
        · exact ⟨rfl, rfl⟩
        · rename_i r' hr
          rw [hr] at h
          simp at h
end Go.Proofs.YtkibbojiflklpaaGreat

/- What record.recordOf and record.frameSize tell. -/
namespace Go.Proofs.YtkibbojiflklpaaGreat
open Go.RowKit Crcm

theorem rnum_nm (size : Int) (rb : Nat) (a : Option Addr) (cap : Nat) (st : RS) (w : World) (h : Rd w rb a cap st.1 st.2) :
    Calls Tryz.prog 125 #[.pointer (some ⟨rb, 0, none⟩), .int .i64 size] w fun e w' => ∃ er, e = .returned (.tuple #[.int .i64 (nm st size).1, .int .i64 er]) ∧
      ∃ a' c', Rd w' rb a' c' (nm st size).2.1 (nm st size).2.2 ∧ Fr (fun k => k = rb) w w' ∧ Near a a' := by
  refine (rnum_all size rb a cap st w h).mono ?_
  rintro e w' ⟨rfl, hq⟩
  exact ⟨_, rfl, hq⟩
theorem rtext_tx (most : Int) (rb : Nat) (a : Option Addr) (cap : Nat) (st : RS) (w : World) (h : Rd w rb a cap st.1 st.2) :
    Calls Tryz.prog 127 #[.pointer (some ⟨rb, 0, none⟩), .int .i64 most] w fun e w' => ∃ er, e = .returned (.tuple #[.string (tx st most).1, .int .i64 er]) ∧
      ∃ a' c', Rd w' rb a' c' (tx st most).2.1 (tx st most).2.2 ∧ Fr (fun k => k = rb) w w' ∧ Near a a' := by
  refine (rtext_all most rb a cap st w h).mono ?_
  rintro e w' ⟨rfl, hq⟩
  exact ⟨_, rfl, hq⟩
set_option maxRecDepth 100000 in
set_option maxHeartbeats 2000000 in
theorem fin8 {W : World} {B : Nat} {t : TypeId} {r0 r1 r2 r3 r4 r5 r6 r7 : Value} (h : W.heap[B]? = some (.cells #[r0, r1, r2, r3, r4, r5, r6, r7] t (0, 0))) (v0 v1 v2 v3 v4 v5 v6 v7 : Value) :
    ((((((((W.setCell ⟨B, 0, none⟩ v0).setCell ⟨B, 1, none⟩ v1).setCell ⟨B, 2, none⟩ v2).setCell ⟨B, 3, none⟩ v3).setCell ⟨B, 4, none⟩ v4).setCell ⟨B, 5, none⟩ v5).setCell ⟨B, 6, none⟩ v6).setCell ⟨B, 7, none⟩ v7).heap[B]? = some (.cells #[v0, v1, v2, v3, v4, v5, v6, v7] t (0, 0)) ∧
    Fr (fun k => k = B) W ((((((((W.setCell ⟨B, 0, none⟩ v0).setCell ⟨B, 1, none⟩ v1).setCell ⟨B, 2, none⟩ v2).setCell ⟨B, 3, none⟩ v3).setCell ⟨B, 4, none⟩ v4).setCell ⟨B, 5, none⟩ v5).setCell ⟨B, 6, none⟩ v6).setCell ⟨B, 7, none⟩ v7) := by
  refine ⟨?_, (((((((((Fr.refl (fun k => k = B) W).setCell (p := ⟨B, 0, none⟩) (fun _ => rfl) v0).setCell (p := ⟨B, 1, none⟩) (fun _ => rfl) v1).setCell (p := ⟨B, 2, none⟩) (fun _ => rfl) v2).setCell (p := ⟨B, 3, none⟩) (fun _ => rfl) v3).setCell (p := ⟨B, 4, none⟩) (fun _ => rfl) v4).setCell (p := ⟨B, 5, none⟩) (fun _ => rfl) v5).setCell (p := ⟨B, 6, none⟩) (fun _ => rfl) v6).setCell (p := ⟨B, 7, none⟩) (fun _ => rfl) v7)⟩
  rw [node_setCell (node_setCell (node_setCell (node_setCell (node_setCell (node_setCell (node_setCell (node_setCell h v0) v1) v2) v3) v4) v5) v6) v7]
  rfl

set_option maxRecDepth 100000 in
set_option maxHeartbeats 400000 in
theorem of_far (a : Option Addr) (n cap : Nat) (l : List Nat) (hn : n = l.length) (w : World) (hr : Row w a cap l) :
    Calls Tryz.prog 124 #[.slice a n cap] w fun e w' => ∃ rb a' c', e = .returned (.pointer (some ⟨rb, 0, none⟩)) ∧ Rd w' rb a' c' l 0 ∧ Fr (fun _ => False) w w' ∧ w.heap.size ≤ rb ∧ (∀ b off sp, a' = some ⟨b, off, sp⟩ → w.heap.size ≤ b ∧ b < w'.heap.size) := by
  obtain ⟨i0, hi, hz0, hz1, hz2⟩ := info_parts info8
  have hs := hr.small
  go_enter Tryz.func124, Tryz.ntmps124
  go_wp2_with (at_builtin; refine wpList_append_row _ rfl _ _ 23 23 5 rfl i0 Tryz.underlying23 Tryz.underlying23 hi hz0 hz1 hz2 w.heap.size (.slice none 0 0) [] rfl (World.ownsRow_nil _ _ _ _) a n cap l hn rfl hr (by simpa using hs) (Nat.le_refl _) ?_; intro a' c' w1 hown hgrow hat)
  go_ret
  have hm : Mine w1 w.heap.size (.slice a' l.length c') l := by simpa using hown
  obtain ⟨a2, c2, he, hrow⟩ := hm.row hr.byte hs
  simp only [Value.slice.injEq, true_and] at he
  obtain ⟨rfl, rfl⟩ := he
  have hge : ∀ b off sp, a' = some ⟨b, off, sp⟩ → w.heap.size ≤ b ∧ b < w1.heap.size := fun b off sp e => hm.lt b (by rw [e]; rfl)
  refine ⟨w1.heap.size, a', c', rfl, ⟨heap_alloc_new w1 _, hrow.fr ((Fr.refl (fun _ => False) w1).alloc _) (fun _ _ _ _ f => f), fun b off sp e => ?_⟩, (Fr.ofGrown hgrow).alloc _, hgrow.size, fun b off sp e => ⟨(hge b off sp e).1, by have := (hge b off sp e).2; simp; omega⟩⟩
  have := (hge b off sp e).2
  omega

/-- A record under way at block nk, a reader at rb, an answer at W0's end; what was there at W0 is as it was. -/
structure Rw (W0 w : World) (nk rb : Nat) (a : Option Addr) (cap : Nat) (s : RS) (C : Array Value) : Prop where
  box : w.heap[nk]? = some (.cells C 54 (0, 0))
  rd : Rd w rb a cap s.1 s.2
  ne : rb < nk
  low : W0.heap.size < rb
  alt : ∀ b off sp, a = some ⟨b, off, sp⟩ → b < nk ∧ W0.heap.size < b
  fr : Fr (fun _ => False) W0 w
  res : w.heap[W0.heap.size]? = some (.cells #[.int .i64 0, .int .i64 0, .int .i64 0, .int .i64 0, .int .i64 0, .int .i64 0, .string ⟨#[]⟩, .string ⟨#[]⟩] 54 (0, 0))
section
variable {W0 w w' : World} {nk rb : Nat} {a a' : Option Addr} {cap c' : Nat} {s s' : RS} {C : Array Value}
theorem Rw.goR (h : Rw W0 w nk rb a cap s C) (r : Rd w' rb a' c' s'.1 s'.2) (f : Fr (fun k => k = rb) w w') (na : Near a a') : Rw W0 w' nk rb a' c' s' C := by
  have h1 := h.ne
  have h2 := h.low
  exact ⟨by rw [f.block nk (lt_of_block h.box) (by omega)]; exact h.box, r, h.ne, h.low, (fun b off sp e => by obtain ⟨o, t, e2⟩ := na b off sp e; exact h.alt b o t e2), h.fr.trans f (S := fun _ => False) (fun i hi e => by omega), by rw [f.block _ (lt_of_block h.res) (by omega)]; exact h.res⟩
theorem Rw.put (h : Rw W0 w nk rb a cap s C) (j : Nat) (x : Value) : Rw W0 (w.setCell ⟨nk, j, none⟩ x) nk rb a cap s (C.setIfInBounds j x) := by
  have h1 := h.ne
  have h2 := h.low
  have f : Fr (fun k => k = nk) w (w.setCell ⟨nk, j, none⟩ x) := (Fr.refl (fun k => k = nk) w).setCell (p := ⟨nk, j, none⟩) (fun _ => rfl) _
  exact ⟨node_setCell h.box x, ⟨by rw [f.block rb (lt_of_block h.rd.box) (by omega)]; exact h.rd.box, h.rd.row.fr f (fun b off sp e => by have := (h.alt b off sp e).1; omega), h.rd.far⟩, h.ne, h.low, h.alt, h.fr.trans f (S := fun _ => False) (fun i hi e => by omega), by rw [f.block _ (lt_of_block h.res) (by omega)]; exact h.res⟩
theorem Rw.same (h : Rw W0 w nk rb a cap s C) (f : Fr (fun _ => False) w w') : Rw W0 w' nk rb a cap s C :=
  ⟨by rw [f.block nk (lt_of_block h.box) (fun f => f)]; exact h.box, ⟨by rw [f.block rb (lt_of_block h.rd.box) (fun f => f)]; exact h.rd.box, h.rd.row.same f, h.rd.far⟩, h.ne, h.low, h.alt, h.fr.seq' f, by rw [f.block _ (lt_of_block h.res) (fun f => f)]; exact h.res⟩
end

/-- What recordOf tells. -/
def RecOut (w : World) (o : Option Rec) (e : Ending) (w' : World) : Prop :=
  e = .returned (.tuple #[(.agg #[.int .i64 (o.getD zr).lsn, .int .i64 (o.getD zr).ep, .int .i64 (o.getD zr).kind, .int .i64 (o.getD zr).page, .int .i64 (o.getD zr).other, .int .i64 (o.getD zr).req, .string (o.getD zr).key, .string (o.getD zr).val]), .int .i64 (if o.isSome = true then 0 else 90)]) ∧ Fr (fun _ => False) w w'
theorem rec_no {w w' : World} {o : Option Rec} (h : o = none) (f : Fr (fun _ => False) w w') : RecOut w o (.returned (.tuple #[.agg #[.int .i64 0, .int .i64 0, .int .i64 0, .int .i64 0, .int .i64 0, .int .i64 0, .string ⟨#[]⟩, .string ⟨#[]⟩], .int .i64 90])) w' := by
  unfold RecOut; rw [h]; exact ⟨rfl, f⟩
theorem rec_yes {w w' : World} {o : Option Rec} (r : Rec) (h : o = some r) (f : Fr (fun _ => False) w w') : RecOut w o (.returned (.tuple #[(.agg #[.int .i64 r.lsn, .int .i64 r.ep, .int .i64 r.kind, .int .i64 r.page, .int .i64 r.other, .int .i64 r.req, .string r.key, .string r.val]), .int .i64 0])) w' := by
  unfold RecOut; rw [h]; exact ⟨rfl, f⟩
theorem tx_size (s : RS) (m : Int) (ho : octs s.1) : (tx s m).1.size ≤ 65535 := textF_size (s, false) m ho

set_option maxRecDepth 100000 in
set_option maxHeartbeats 4000000 in
theorem recordOf_any (a : Option Addr) (n cap : Nat) (l : List Nat) (hn : n = l.length) (w : World) (hr : Row w a cap l) :
    Calls Tryz.prog 91 #[.slice a n cap] w fun e w' => RecOut w (recD l) e w' := by
  obtain ⟨y1, h1⟩ : ∃ y, y = nm (l, 0) 8 := ⟨_, rfl⟩
  obtain ⟨y2, h2⟩ : ∃ y, y = nm y1.2 8 := ⟨_, rfl⟩
  obtain ⟨y3, h3⟩ : ∃ y, y = nm y2.2 1 := ⟨_, rfl⟩
  obtain ⟨y4, h4⟩ : ∃ y, y = nm y3.2 4 := ⟨_, rfl⟩
  obtain ⟨y5, h5⟩ : ∃ y, y = nm y4.2 4 := ⟨_, rfl⟩
  obtain ⟨y6, h6⟩ : ∃ y, y = nm y5.2 8 := ⟨_, rfl⟩
  obtain ⟨y7, h7⟩ : ∃ y, y = tx y6.2 256 := ⟨_, rfl⟩
  obtain ⟨y8, h8⟩ : ∃ y, y = tx y7.2 256 := ⟨_, rfl⟩
  have HS : Hid (recS (l, 0) 256 = (⟨y1.1, y2.1, y3.1, y4.1, y5.1, y6.1, y7.1, y8.1⟩, y8.2)) := recS_eq (l, 0) 256 h1.symm h2.symm h3.symm h4.symm h5.symm h6.symm h7.symm h8.symm
  have H1 : Hid (y1 = nm (l, 0) 8) := h1
  have H2 : Hid (y2 = nm y1.2 8) := h2
  have H3 : Hid (y3 = nm y2.2 1) := h3
  have H4 : Hid (y4 = nm y3.2 4) := h4
  have H5 : Hid (y5 = nm y4.2 4) := h5
  have H6 : Hid (y6 = nm y5.2 8) := h6
  have H7 : Hid (y7 = tx y6.2 256) := h7
  have H8 : Hid (y8 = tx y7.2 256) := h8
  have HD : Hid (recD l = if endOf y8.2.1 y8.2.2 = 0 ∧ rok ⟨y1.1, y2.1, y3.1, y4.1, y5.1, y6.1, y7.1, y8.1⟩ = true then some ⟨y1.1, y2.1, y3.1, y4.1, y5.1, y6.1, y7.1, y8.1⟩ else none) := by
    show recM l 256 = _
    unfold recM; rw [HS.out]
  clear h1 h2 h3 h4 h5 h6 h7 h8 HS
  subst hn
  have f0 := Fr.box w (.cells #[.int .i64 0, .int .i64 0, .int .i64 0, .int .i64 0, .int .i64 0, .int .i64 0, .string ⟨#[]⟩, .string ⟨#[]⟩] 54)
  have hof := of_far a l.length cap l rfl _ (hr.same f0)
  clear hr
  go_enter Tryz.func91, Tryz.ntmps91
  go_wp2_with fail
  refine hof.mono ?_
  clear hof
  rintro e w1 ⟨rb, a1, c1, rfl, rd1, f1, hrb, ha1⟩
  have hrl := lt_of_block rd1.box
  have B0 : Rw w (w1.alloc (.cells #[.int .i64 0, .int .i64 0, .int .i64 0, .int .i64 0, .int .i64 0, .int .i64 0, .string ⟨#[]⟩, .string ⟨#[]⟩] 54)) w1.heap.size rb a1 c1 (l, 0) #[.int .i64 0, .int .i64 0, .int .i64 0, .int .i64 0, .int .i64 0, .int .i64 0, .string ⟨#[]⟩, .string ⟨#[]⟩] := by
    have fb := Fr.box w1 (.cells #[.int .i64 0, .int .i64 0, .int .i64 0, .int .i64 0, .int .i64 0, .int .i64 0, .string ⟨#[]⟩, .string ⟨#[]⟩] 54)
    refine ⟨heap_alloc_new w1 _, ⟨by rw [fb.block rb hrl (fun f => f)]; exact rd1.box, rd1.row.same fb, rd1.far⟩, by omega, by simp at hrb; omega, ?_, (f0.seq' f1).seq' fb, ?_⟩
    · intro b off sp e; have := ha1 b off sp e; simp at this; omega
    · rw [fb.block _ (by have := f1.size; simp at this; omega) (fun f => f), f1.block _ (by simp) (fun f => f)]; exact heap_alloc_new w _
  clear rd1 ha1 hrl f1 hrb f0
  go_wp2_with fail
  refine (rnum_nm 8 rb a1 c1 (l, 0) _ B0.rd).mono ?_
  rw [← H1.out]
  rintro e w2 ⟨er0, rfl, a2, c2, r2, g2, n2⟩
  have A0 := B0.goR r2 g2 n2
  obtain ⟨⟨k0, k1, k2, k3, k4, k5, k6, k7⟩, fz⟩ := rec_cells A0.box
  have fz0 := fz 0
  have B1 := A0.put 0 (.int .i64 y1.1)
  clear r2 g2 n2 fz A0 B0
  go_wp2_with fail
  refine (rnum_nm 8 rb a2 c2 y1.2 _ B1.rd).mono ?_
  rw [← H2.out]
  rintro e w3 ⟨er1, rfl, a3, c3, r2, g2, n2⟩
  clear k0 k1 k2 k3 k4 k5 k6 k7 fz0
  have A1 := B1.goR r2 g2 n2
  obtain ⟨⟨k0, k1, k2, k3, k4, k5, k6, k7⟩, fz⟩ := rec_cells A1.box
  have fz0 := fz 1
  have B2 := A1.put 1 (.int .i64 y2.1)
  clear r2 g2 n2 fz A1 B1
  go_wp2_with fail
  refine (rnum_nm 1 rb a3 c3 y2.2 _ B2.rd).mono ?_
  rw [← H3.out]
  rintro e w4 ⟨er2, rfl, a4, c4, r2, g2, n2⟩
  clear k0 k1 k2 k3 k4 k5 k6 k7 fz0
  have A2 := B2.goR r2 g2 n2
  obtain ⟨⟨k0, k1, k2, k3, k4, k5, k6, k7⟩, fz⟩ := rec_cells A2.box
  have fz0 := fz 2
  have B3 := A2.put 2 (.int .i64 y3.1)
  clear r2 g2 n2 fz A2 B2
  go_wp2_with fail
  refine (rnum_nm 4 rb a4 c4 y3.2 _ B3.rd).mono ?_
  rw [← H4.out]
  rintro e w5 ⟨er3, rfl, a5, c5, r2, g2, n2⟩
  clear k0 k1 k2 k3 k4 k5 k6 k7 fz0
  have A3 := B3.goR r2 g2 n2
  obtain ⟨⟨k0, k1, k2, k3, k4, k5, k6, k7⟩, fz⟩ := rec_cells A3.box
  have fz0 := fz 3
  have B4 := A3.put 3 (.int .i64 y4.1)
  clear r2 g2 n2 fz A3 B3
  go_wp2_with fail
  refine (rnum_nm 4 rb a5 c5 y4.2 _ B4.rd).mono ?_
  rw [← H5.out]
  rintro e w6 ⟨er4, rfl, a6, c6, r2, g2, n2⟩
  clear k0 k1 k2 k3 k4 k5 k6 k7 fz0
  have A4 := B4.goR r2 g2 n2
  obtain ⟨⟨k0, k1, k2, k3, k4, k5, k6, k7⟩, fz⟩ := rec_cells A4.box
  have fz0 := fz 4
  have B5 := A4.put 4 (.int .i64 y5.1)
  clear r2 g2 n2 fz A4 B4
  go_wp2_with fail
  refine (rnum_nm 8 rb a6 c6 y5.2 _ B5.rd).mono ?_
  rw [← H6.out]
  rintro e w7 ⟨er5, rfl, a7, c7, r2, g2, n2⟩
  clear k0 k1 k2 k3 k4 k5 k6 k7 fz0
  have A5 := B5.goR r2 g2 n2
  obtain ⟨⟨k0, k1, k2, k3, k4, k5, k6, k7⟩, fz⟩ := rec_cells A5.box
  have fz0 := fz 5
  have B6 := A5.put 5 (.int .i64 y6.1)
  clear r2 g2 n2 fz A5 B5
  go_wp2_with fail
  refine (rtext_tx 256 rb a7 c7 y6.2 _ B6.rd).mono ?_
  rw [← H7.out]
  rintro e w8 ⟨er6, rfl, a8, c8, r2, g2, n2⟩
  clear k0 k1 k2 k3 k4 k5 k6 k7 fz0
  have A6 := B6.goR r2 g2 n2
  obtain ⟨⟨k0, k1, k2, k3, k4, k5, k6, k7⟩, fz⟩ := rec_cells A6.box
  have fz0 := fz 6
  have B7 := A6.put 6 (.string y7.1)
  clear r2 g2 n2 fz A6 B6
  go_wp2_with fail
  refine (rtext_tx 256 rb a8 c8 y7.2 _ B7.rd).mono ?_
  rw [← H8.out]
  rintro e w9 ⟨er7, rfl, a9, c9, r2, g2, n2⟩
  clear k0 k1 k2 k3 k4 k5 k6 k7 fz0
  have A7 := B7.goR r2 g2 n2
  obtain ⟨⟨k0, k1, k2, k3, k4, k5, k6, k7⟩, fz⟩ := rec_cells A7.box
  have fz0 := fz 7
  have B8 := A7.put 7 (.string y8.1)
  clear r2 g2 n2 fz A7 B7
  have HB8 : Hid (Rw w (w9.setCell ⟨w1.heap.size, 7, none⟩ (.string y8.1)) w1.heap.size rb a9 c9 y8.2 #[.int .i64 y1.1, .int .i64 y2.1, .int .i64 y3.1, .int .i64 y4.1, .int .i64 y5.1, .int .i64 y6.1, .string y7.1, .string y8.1]) := B8
  clear B8
  obtain ⟨W9, hW9⟩ : ∃ W, W = w9.setCell ⟨w1.heap.size, 7, none⟩ (.string y8.1) := ⟨_, rfl⟩
  rw [← hW9] at HB8
  have HW9 : Hid (w9.setCell ⟨w1.heap.size, 7, none⟩ (.string y8.1) = W9) := hW9.symm
  clear hW9
  have hen := end_any rb a9 c9 y8.2.1 y8.2.2 W9 HB8.out.rd
  obtain ⟨en, hen0⟩ : ∃ en, en = endOf y8.2.1 y8.2.2 := ⟨_, rfl⟩
  rw [← hen0] at hen HD
  clear hen0
  obtain ⟨r, hr⟩ : ∃ r : Rec, r = ⟨y1.1, y2.1, y3.1, y4.1, y5.1, y6.1, y7.1, y8.1⟩ := ⟨_, rfl⟩
  have hck := fun W => rec_check ⟨y1.1, y2.1, y3.1, y4.1, y5.1, y6.1, y7.1, y8.1⟩ W
  rw [← hr] at HD hck
  have HRV : Hid ((Value.agg #[.int .i64 r.lsn, .int .i64 r.ep, .int .i64 r.kind, .int .i64 r.page, .int .i64 r.other, .int .i64 r.req, .string r.key, .string r.val]) = .agg #[.int .i64 y1.1, .int .i64 y2.1, .int .i64 y3.1, .int .i64 y4.1, .int .i64 y5.1, .int .i64 y6.1, .string y7.1, .string y8.1]) := by show _ = _; rw [hr]
  rw [HRV.out] at hck
  clear hr
  by_cases he : en = 0
  · subst he
    cases hk : rok r with
    | true =>
      have HN : Hid (recD l = some r) := by show _ = _; rw [HD.out, if_pos ⟨rfl, hk⟩]
      have HE : Hid (erec r = 0) := erec_yes hk
      rw [HE.out] at hck
      clear hk HE
      go_wp2_with fail
      rw [HW9.out]
      refine hen.mono ?_
      rintro e w10 ⟨rfl, rfl⟩
      clear k0 k1 k2 k3 k4 k5 k6 k7 fz0
      obtain ⟨⟨k0, k1, k2, k3, k4, k5, k6, k7⟩, fz⟩ := rec_cells HB8.out.box
      go_wp2_with fail
      refine (hck _).mono ?_
      rintro e w11 ⟨rfl, f11⟩
      have B9 := HB8.out.same f11
      clear k0 k1 k2 k3 k4 k5 k6 k7 fz
      obtain ⟨⟨k0, k1, k2, k3, k4, k5, k6, k7⟩, fz⟩ := rec_cells B9.box
      obtain ⟨⟨z0, z1, z2, z3, z4, z5, z6, z7⟩, zz⟩ := rec_cells B9.res
      have x0 := zz 0; have x1 := zz 1; have x2 := zz 2; have x3 := zz 3; have x4 := zz 4; have x5 := zz 5; have x6 := zz 6; have x7 := zz 7
      obtain ⟨hb, ff⟩ := fin8 B9.res (.int .i64 y1.1) (.int .i64 y2.1) (.int .i64 y3.1) (.int .i64 y4.1) (.int .i64 y5.1) (.int .i64 y6.1) (.string y7.1) (.string y8.1)
      obtain ⟨⟨q0, q1, q2, q3, q4, q5, q6, q7⟩, _⟩ := rec_cells hb
      have ff2 := B9.fr.trans ff (S := fun _ => False) (fun i hi e => by omega)
      clear zz fz
      go_wp2
      refine bodyPost_ret (v := .tuple #[.agg #[.int .i64 y1.1, .int .i64 y2.1, .int .i64 y3.1, .int .i64 y4.1, .int .i64 y5.1, .int .i64 y6.1, .string y7.1, .string y8.1], .int .i64 0]) (by simp [results, Tryz.results91, go_sem, q0, q1, q2, q3, q4, q5, q6, q7]) rfl ?_
      rw [← HRV.out]
      exact rec_yes r HN.out ff2
    | false =>
      have HN : Hid (recD l = none) := by show _ = _; rw [HD.out, if_neg (fun h => by rw [hk] at h; exact absurd h.2 (by simp))]
      have HE : Hid (erec r = 90) := erec_no hk
      rw [HE.out] at hck
      clear hk HE
      go_wp2_with fail
      rw [HW9.out]
      refine hen.mono ?_
      rintro e w10 ⟨rfl, rfl⟩
      clear k0 k1 k2 k3 k4 k5 k6 k7 fz0
      obtain ⟨⟨k0, k1, k2, k3, k4, k5, k6, k7⟩, fz⟩ := rec_cells HB8.out.box
      go_wp2_with fail
      refine (hck _).mono ?_
      rintro e w11 ⟨rfl, f11⟩
      have B9 := HB8.out.same f11
      clear k0 k1 k2 k3 k4 k5 k6 k7 fz
      obtain ⟨⟨z0, z1, z2, z3, z4, z5, z6, z7⟩, zz⟩ := rec_cells B9.res
      have x0 := zz 0; have x1 := zz 1; have x2 := zz 2; have x3 := zz 3; have x4 := zz 4; have x5 := zz 5; have x6 := zz 6; have x7 := zz 7
      obtain ⟨hb, ff⟩ := fin8 B9.res (.int .i64 0) (.int .i64 0) (.int .i64 0) (.int .i64 0) (.int .i64 0) (.int .i64 0) (.string ⟨#[]⟩) (.string ⟨#[]⟩)
      obtain ⟨⟨q0, q1, q2, q3, q4, q5, q6, q7⟩, _⟩ := rec_cells hb
      have ff2 := B9.fr.trans ff (S := fun _ => False) (fun i hi e => by omega)
      clear zz
      go_wp2
      exact bodyPost_ret (v := .tuple #[.agg #[.int .i64 0, .int .i64 0, .int .i64 0, .int .i64 0, .int .i64 0, .int .i64 0, .string ⟨#[]⟩, .string ⟨#[]⟩], .int .i64 90]) (by simp [results, Tryz.results91, go_sem, q0, q1, q2, q3, q4, q5, q6, q7]) rfl (rec_no HN.out ff2)
  · have HN : Hid (recD l = none) := by show _ = _; rw [HD.out, if_neg (fun h => he h.1)]
    have heb : (en != 0) = true := by simpa using he
    clear he
    go_wp2_with fail
    rw [HW9.out]
    refine hen.mono ?_
    rintro e w10 ⟨rfl, rfl⟩
    clear k0 k1 k2 k3 k4 k5 k6 k7 fz0
    have B9 := HB8.out
    obtain ⟨⟨z0, z1, z2, z3, z4, z5, z6, z7⟩, zz⟩ := rec_cells B9.res
    have x0 := zz 0; have x1 := zz 1; have x2 := zz 2; have x3 := zz 3; have x4 := zz 4; have x5 := zz 5; have x6 := zz 6; have x7 := zz 7
    obtain ⟨hb, ff⟩ := fin8 B9.res (.int .i64 0) (.int .i64 0) (.int .i64 0) (.int .i64 0) (.int .i64 0) (.int .i64 0) (.string ⟨#[]⟩) (.string ⟨#[]⟩)
    obtain ⟨⟨q0, q1, q2, q3, q4, q5, q6, q7⟩, _⟩ := rec_cells hb
    have ff2 := B9.fr.trans ff (S := fun _ => False) (fun i hi e => by omega)
    clear zz
    go_wp2
    exact bodyPost_ret (v := .tuple #[.agg #[.int .i64 0, .int .i64 0, .int .i64 0, .int .i64 0, .int .i64 0, .int .i64 0, .string ⟨#[]⟩, .string ⟨#[]⟩], .int .i64 90]) (by simp [results, Tryz.results91, go_sem, q0, q1, q2, q3, q4, q5, q6, q7]) rfl (rec_no HN.out ff2)
end Go.Proofs.YtkibbojiflklpaaGreat

/- What record.frameSize and record.Decode tell. -/
namespace Go.Proofs.YtkibbojiflklpaaGreat
open Go.RowKit Crcm

set_option maxRecDepth 100000 in
set_option maxHeartbeats 1000000 in
theorem frameSize_short (a : Option Addr) (n cap : Nat) (l : List Nat) (hn : n = l.length) (h2 : l.length < 2) (w : World) (hr : Row w a cap l) :
    Calls Tryz.prog 89 #[.slice a n cap] w fun e w' => e = .returned (.tuple #[.int .i64 0, .int .i64 10]) ∧ Fr (fun _ => False) w w' := by
  subst hn
  have hle := hr.le
  have hmx := hr.max
  have i1 : (l.length : Int) < 2 := by omega
  have i3 : min 2 (l.length : Int) = (l.length : Int) := by omega
  have i4 : (min 2 (l.length : Int)).toNat = l.length := by omega
  have i2 : (l.length : Int) ≤ (cap : Int) := by omega
  go_enter Tryz.func89, Tryz.ntmps89
  go_wp2_with fail
  refine (of_far a _ cap l rfl _ hr).mono ?_
  rintro e w1 ⟨rb, a1, c1, rfl, rd1, f1, hrb, ha1⟩
  go_wp2_with fail
  refine (rnum_cut 2 (by omega) rb a1 c1 l h2 _ rd1).mono ?_
  rintro e w2 ⟨rfl, rd2, f2⟩
  have f02 : Fr (fun _ => False) w w2 := f1.trans f2 (fun i hi e => by omega)
  go_wp2
  go_ret2
  exact ⟨rfl, f02⟩

/-- What frameSize tells of bytes that have a size. -/
def fsz (n v : Nat) : Value := if n < v + 6 then .tuple #[.int .i64 0, .int .i64 10] else .tuple #[.int .i64 ((v + 6 : Nat) : Int), .int .i64 0]
set_option maxRecDepth 100000 in
set_option maxHeartbeats 1000000 in
theorem frameSize_any (a : Option Addr) (n cap : Nat) (l : List Nat) (hn : n = l.length) (h2 : 2 ≤ l.length) (w : World) (hr : Row w a cap l) :
    Calls Tryz.prog 89 #[.slice a n cap] w fun e w' => e = .returned (fsz l.length (val (l.take 2))) ∧ Fr (fun _ => False) w w' := by
  subst hn
  have hle := hr.le
  have hmx := hr.max
  have i1 : ¬ (l.length : Int) < 2 := by omega
  have i2 : (2 : Int) ≤ (cap : Int) := by omega
  have i3 : (2 : Int) ≤ (l.length : Int) := by omega
  have i5 : min 2 (l.length : Int) = 2 := by omega
  have i6 : (min 2 (l.length : Int)).toNat = 2 := by omega
  have r2 := hr.take 2
  have HL : Hid ((l.take 2).length = 2) := by show _ = _; rw [List.length_take]; omega
  have HT : Hid ((l.take 2).take 2 = l.take 2) := by show _ = _; rw [List.take_take]; rfl
  have hv := val2_lt hr.byte
  obtain ⟨v, hv0⟩ : ∃ v, v = val (l.take 2) := ⟨_, rfl⟩
  rw [← hv0] at hv ⊢
  have HV : Hid (v = val (l.take 2)) := hv0
  clear hv0
  obtain ⟨m, hm⟩ : ∃ m, m = l.take 2 := ⟨_, rfl⟩
  rw [← hm] at r2 HL HT HV
  clear hm
  have e1 : IntKind.i64.wrap (2 + (v : Int)) = 2 + (v : Int) := by simp [IntKind.wrap, IntKind.bits, IntKind.signed]; omega
  have e2 : IntKind.i64.wrap (2 + (v : Int) + 4) = 2 + (v : Int) + 4 := by simp [IntKind.wrap, IntKind.bits, IntKind.signed]; omega
  by_cases h6 : l.length < v + 6
  · have h7 : (l.length : Int) < 2 + (v : Int) + 4 := by omega
    have HF : Hid (fsz l.length v = .tuple #[.int .i64 0, .int .i64 10]) := if_pos h6
    rw [HF.out]
    clear h6
    go_enter Tryz.func89, Tryz.ntmps89
    go_wp2_with fail
    refine (of_far a _ cap m HL.out.symm _ r2).mono ?_
    rintro e w1 ⟨rb, a1, c1, rfl, rd1, f1, hrb, ha1⟩
    go_wp2_with fail
    refine (rnum_ok 2 (by omega) rb a1 c1 m (by rw [HL.out]; omega) (by rw [HT.out, ← HV.out]; omega) _ rd1).mono ?_
    rw [HT.out, ← HV.out]
    rintro e w2 ⟨rfl, a2, c2, rd2, f2, n2⟩
    have f02 : Fr (fun _ => False) w w2 := f1.trans f2 (fun i hi e => by omega)
    go_wp2
    go_ret2
    exact ⟨rfl, f02⟩
  · have h7 : ¬ (l.length : Int) < 2 + (v : Int) + 4 := by omega
    have HF : Hid (fsz l.length v = .tuple #[.int .i64 ((v + 6 : Nat) : Int), .int .i64 0]) := if_neg h6
    rw [HF.out]
    clear h6
    go_enter Tryz.func89, Tryz.ntmps89
    go_wp2_with fail
    refine (of_far a _ cap m HL.out.symm _ r2).mono ?_
    rintro e w1 ⟨rb, a1, c1, rfl, rd1, f1, hrb, ha1⟩
    go_wp2_with fail
    refine (rnum_ok 2 (by omega) rb a1 c1 m (by rw [HL.out]; omega) (by rw [HT.out, ← HV.out]; omega) _ rd1).mono ?_
    rw [HT.out, ← HV.out]
    rintro e w2 ⟨rfl, a2, c2, rd2, f2, n2⟩
    have f02 : Fr (fun _ => False) w w2 := f1.trans f2 (fun i hi e => by omega)
    go_wp2
    go_ret2
    refine ⟨?_, f02⟩
    have : (2 + (v : Int) + 4) = ((v + 6 : Nat) : Int) := by omega
    rw [← this]; rfl

/-- What Decode tells. -/
def RdOut (w : World) (x : Rec × Nat × Nat) (e : Ending) (w' : World) : Prop :=
  e = .returned (.tuple #[(.agg #[.int .i64 x.1.lsn, .int .i64 x.1.ep, .int .i64 x.1.kind, .int .i64 x.1.page, .int .i64 x.1.other, .int .i64 x.1.req, .string x.1.key, .string x.1.val]), .int .i64 (x.2.1 : Nat), .int .i64 (x.2.2 : Nat)]) ∧ Fr (fun _ => False) w w'
theorem rd_no {w w' : World} {x : Rec × Nat × Nat} {k : Nat} (h : x = (zr, 0, k)) (f : Fr (fun _ => False) w w') : RdOut w x (.returned (.tuple #[.agg #[.int .i64 0, .int .i64 0, .int .i64 0, .int .i64 0, .int .i64 0, .int .i64 0, .string ⟨#[]⟩, .string ⟨#[]⟩], .int .i64 0, .int .i64 (k : Nat)])) w' := by
  unfold RdOut; rw [h]; exact ⟨rfl, f⟩
theorem rd_yes {w w' : World} {x : Rec × Nat × Nat} {r : Rec} {k : Nat} (h : x = (r, k, 0)) (f : Fr (fun _ => False) w w') : RdOut w x (.returned (.tuple #[(.agg #[.int .i64 r.lsn, .int .i64 r.ep, .int .i64 r.kind, .int .i64 r.page, .int .i64 r.other, .int .i64 r.req, .string r.key, .string r.val]), .int .i64 (k : Nat), .int .i64 ((0 : Nat) : Int)])) w' := by
  unfold RdOut; rw [h]; exact ⟨rfl, f⟩
theorem zr_agg : Value.agg #[.int .i64 zr.lsn, .int .i64 zr.ep, .int .i64 zr.kind, .int .i64 zr.page, .int .i64 zr.other, .int .i64 zr.req, .string zr.key, .string zr.val] = .agg #[.int .i64 0, .int .i64 0, .int .i64 0, .int .i64 0, .int .i64 0, .int .i64 0, .string ⟨#[]⟩, .string ⟨#[]⟩] := rfl
theorem opened_two (l : List Nat) (h : 4 ≤ l.length) : (opened l).2 = 0 ∧ (opened l).1 = l.take (l.length - 4) ∨ (opened l).2 = 20 ∧ (opened l).1 = [] := by
  unfold opened
  rw [if_neg (by omega)]
  split
  · exact .inl ⟨rfl, rfl⟩
  · exact .inr ⟨rfl, rfl⟩

set_option maxRecDepth 100000 in
set_option maxHeartbeats 2000000 in
theorem decode_rec (a : Option Addr) (n cap : Nat) (l : List Nat) (hn : n = l.length) (w : World) (hr : Row w a cap l) :
    Calls Tryz.prog 54 #[.slice a n cap] w fun e w' => RdOut w (rdec l) e w' := by
  subst hn
  have f0 := Fr.box w (.cells #[.int .i64 0, .int .i64 0, .int .i64 0, .int .i64 0, .int .i64 0, .int .i64 0, .string ⟨#[]⟩, .string ⟨#[]⟩] 54)
  have HR : Hid (∀ W, Fr (fun _ => False) (w.alloc (.cells #[.int .i64 0, .int .i64 0, .int .i64 0, .int .i64 0, .int .i64 0, .int .i64 0, .string ⟨#[]⟩, .string ⟨#[]⟩] 54)) W → W.heap[w.heap.size]? = some (.cells #[.int .i64 0, .int .i64 0, .int .i64 0, .int .i64 0, .int .i64 0, .int .i64 0, .string ⟨#[]⟩, .string ⟨#[]⟩] 54 (0, 0))) := fun W f => rec_at w _ _ f
  by_cases h2 : l.length < 2
  · have HX : Hid (rdec l = (zr, 0, 10)) := by show _ = _; unfold rdec; rw [if_pos h2]
    have H2 : Hid (l.length < 2) := h2
    clear h2
    go_enter Tryz.func54, Tryz.ntmps54
    go_wp2_with fail
    refine (frameSize_short a _ cap l rfl H2.out _ (hr.same f0)).mono ?_
    rintro e w1 ⟨rfl, f1⟩
    obtain ⟨⟨z0, z1, z2, z3, z4, z5, z6, z7⟩, zz⟩ := rec_cells (HR.out _ f1)
    have x0 := zz 0; have x1 := zz 1; have x2 := zz 2; have x3 := zz 3; have x4 := zz 4; have x5 := zz 5; have x6 := zz 6; have x7 := zz 7
    obtain ⟨hb, ff⟩ := fin8 (HR.out _ f1) (.int .i64 0) (.int .i64 0) (.int .i64 0) (.int .i64 0) (.int .i64 0) (.int .i64 0) (.string ⟨#[]⟩) (.string ⟨#[]⟩)
    obtain ⟨⟨q0, q1, q2, q3, q4, q5, q6, q7⟩, _⟩ := rec_cells hb
    have ff2 := (f0.seq' f1).trans ff (S := fun _ => False) (fun i hi e => by omega)
    clear zz
    go_wp2
    exact bodyPost_ret (v := .tuple #[.agg #[.int .i64 0, .int .i64 0, .int .i64 0, .int .i64 0, .int .i64 0, .int .i64 0, .string ⟨#[]⟩, .string ⟨#[]⟩], .int .i64 0, .int .i64 ((10 : Nat) : Int)]) (by simp [results, Tryz.results54, go_sem, q0, q1, q2, q3, q4, q5, q6, q7]) rfl (rd_no HX.out ff2)
  · have H2 : Hid (2 ≤ l.length) := by show _ ≤ _; omega
    have hfs := frameSize_any a _ cap l rfl H2.out _ (hr.same f0)
    have hv := val2_lt hr.byte
    obtain ⟨v, hv0⟩ : ∃ v, v = val (l.take 2) := ⟨_, rfl⟩
    rw [← hv0] at hfs hv
    have HV : Hid (v = val (l.take 2)) := hv0
    clear hv0
    by_cases h6 : l.length < v + 6
    · have HX : Hid (rdec l = (zr, 0, 10)) := by show _ = _; unfold rdec; rw [if_neg h2, ← HV.out, if_pos h6]
      have HF : Hid (fsz l.length v = .tuple #[.int .i64 0, .int .i64 10]) := if_pos h6
      rw [HF.out] at hfs
      clear h2 h6
      go_enter Tryz.func54, Tryz.ntmps54
      go_wp2_with fail
      refine hfs.mono ?_
      rintro e w1 ⟨rfl, f1⟩
      obtain ⟨⟨z0, z1, z2, z3, z4, z5, z6, z7⟩, zz⟩ := rec_cells (HR.out _ f1)
      have x0 := zz 0; have x1 := zz 1; have x2 := zz 2; have x3 := zz 3; have x4 := zz 4; have x5 := zz 5; have x6 := zz 6; have x7 := zz 7
      obtain ⟨hb, ff⟩ := fin8 (HR.out _ f1) (.int .i64 0) (.int .i64 0) (.int .i64 0) (.int .i64 0) (.int .i64 0) (.int .i64 0) (.string ⟨#[]⟩) (.string ⟨#[]⟩)
      obtain ⟨⟨q0, q1, q2, q3, q4, q5, q6, q7⟩, _⟩ := rec_cells hb
      have ff2 := (f0.seq' f1).trans ff (S := fun _ => False) (fun i hi e => by omega)
      clear zz
      go_wp2
      exact bodyPost_ret (v := .tuple #[.agg #[.int .i64 0, .int .i64 0, .int .i64 0, .int .i64 0, .int .i64 0, .int .i64 0, .string ⟨#[]⟩, .string ⟨#[]⟩], .int .i64 0, .int .i64 ((10 : Nat) : Int)]) (by simp [results, Tryz.results54, go_sem, q0, q1, q2, q3, q4, q5, q6, q7]) rfl (rd_no HX.out ff2)
    · have HF : Hid (fsz l.length v = .tuple #[.int .i64 ((v + 6 : Nat) : Int), .int .i64 0]) := if_neg h6
      rw [HF.out] at hfs
      have hle := hr.le
      have hmx := hr.max
      have i1 : ((v + 6 : Nat) : Int) ≤ (cap : Int) := by omega
      have i0 : (0 : Int) ≤ ((v + 6 : Nat) : Int) := by omega
      have rt := hr.take (v + 6)
      have HTL : Hid ((l.take (v + 6)).length = v + 6) := by show _ = _; rw [List.length_take]; omega
      have HO := opened_two (l.take (v + 6)) (by rw [HTL.out]; omega)
      rw [HTL.out] at HO
      have hop := fun W hW => open_all a (v + 6) cap (l.take (v + 6)) HTL.out.symm W hW
      have HRT : Hid (∀ W, Fr (fun _ => False) w W → Row W a cap (l.take (v + 6))) := fun W f => rt.same f
      have HRD : Hid (rdec l = if (opened (l.take (v + 6))).2 ≠ 0 then (zr, 0, 20) else match recD ((l.drop 2).take v) with
          | none => (zr, 0, 90)
          | some r => (r, v + 6, 0)) := by show _ = _; unfold rdec; rw [if_neg h2, ← HV.out, if_neg h6]; try rfl
      clear h2 h6 rt hr HF
      rcases HO with ⟨o2, o1⟩ | ⟨o2, o1⟩
      · rw [o2, o1] at hop
        have HRX : Hid (rdec l = match recD ((l.drop 2).take v) with
          | none => (zr, 0, 90)
          | some r => (r, v + 6, 0)) := by show _ = _; rw [HRD.out, if_neg (by rw [o2]; decide)]
        have hml : ((l.take (v + 6)).take (v + 6 - 4)).length = v + 2 := by rw [List.length_take, HTL.out]; omega
        have hmd : ((l.take (v + 6)).take (v + 6 - 4)).drop 2 = (l.drop 2).take v := by
          rw [List.take_take, List.drop_take]
          congr 1
          omega
        obtain ⟨m, hm⟩ : ∃ m, m = (l.take (v + 6)).take (v + 6 - 4) := ⟨_, rfl⟩
        rw [← hm] at hop hml hmd
        have HML : Hid (m.length = v + 2) := hml
        obtain ⟨u, hu⟩ : ∃ u, u = (l.drop 2).take v := ⟨_, rfl⟩
        rw [← hu] at hmd HRX
        have HMD : Hid (m.drop 2 = u) := hmd
        have HUL : Hid (v = u.length) := by show _ = _; rw [← hmd, List.length_drop, hml]; omega
        clear o1 o2 HRD hm hml hmd hu
        go_enter Tryz.func54, Tryz.ntmps54
        go_wp2_with fail
        refine hfs.mono ?_
        rintro e w1 ⟨rfl, f1⟩
        go_wp2_with fail
        refine (hop _ (HRT.out _ (f0.seq' f1))).mono ?_
        rintro e w2 ⟨a2, c2, rfl, r2, f2⟩
        have f12 := f1.seq' f2
        obtain ⟨b2, off2, rfl, hb2, hc2⟩ : ∃ b off, a2 = some ⟨b, off, none⟩ ∧ b < w2.heap.size ∧ ∀ i, i < m.length → w2.cell? ⟨b, off + i, none⟩ = some (.int .u8 ((m.getD i 0 : Nat) : Int)) := by
          rcases r2.at_ with e | e
          · have := HML.out; rw [e] at this; simp at this
          · exact e
        have hle2 := r2.le
        have hmx2 := r2.max
        rw [HML.out] at hle2
        have j1 : (2 : Int) ≤ ((v + 2 : Nat) : Int) := by omega
        have j2 : ((v + 2 : Nat) : Int) ≤ (c2 : Int) := by omega
        rw [HML.out]
        obtain ⟨off3, hoff, ho3⟩ : ∃ off3, off3 = (if c2 = 2 then off2 else off2 + 2) ∧ (c2 = 2 ∨ off3 = off2 + 2) := by
          refine ⟨_, rfl, ?_⟩
          by_cases hc : c2 = 2
          · exact .inl hc
          · exact .inr (if_neg hc)
        have r3 := r2.drop 2 (by rw [HML.out]; omega) off3 ho3 (.inr ⟨hb2, hc2⟩)
        rw [HMD.out] at r3
        have hv2 : v + 2 - 2 = v := by omega
        clear hc2
        by_cases hc : c2 = 2
        · rw [if_pos hc] at hoff; subst hoff; subst hc
          go_wp2_with fail
          refine (recordOf_any _ _ _ u HUL.out _ r3).mono ?_
          unfold RecOut
          cases hrd : recD u with
          | none =>
            have HX : Hid (rdec l = (zr, 0, 90)) := by show _ = _; rw [HRX.out, hrd]
            rintro e w3 ⟨rfl, f3⟩
            clear hrd
            have f13 := f12.seq' f3
            have fb := Fr.box w3 (.cells #[.int .i64 0, .int .i64 0, .int .i64 0, .int .i64 0, .int .i64 0, .int .i64 0, .string ⟨#[]⟩, .string ⟨#[]⟩] 54)
            have f14 := f13.seq' fb
            obtain ⟨⟨z0, z1, z2, z3, z4, z5, z6, z7⟩, zz⟩ := rec_cells (HR.out _ f14)
            have x0 := zz 0; have x1 := zz 1; have x2 := zz 2; have x3 := zz 3; have x4 := zz 4; have x5 := zz 5; have x6 := zz 6; have x7 := zz 7
            obtain ⟨hb, ff⟩ := fin8 (HR.out _ f14) (.int .i64 0) (.int .i64 0) (.int .i64 0) (.int .i64 0) (.int .i64 0) (.int .i64 0) (.string ⟨#[]⟩) (.string ⟨#[]⟩)
            obtain ⟨⟨q0, q1, q2, q3, q4, q5, q6, q7⟩, _⟩ := rec_cells hb
            have ff2 := (f0.seq' f14).trans ff (S := fun _ => False) (fun i hi e => by omega)
            clear zz
            simp only [Option.getD_none, Option.isSome_none, Bool.false_eq_true, if_false]
            rw [zr_agg]
            go_wp2
            exact bodyPost_ret (v := .tuple #[.agg #[.int .i64 0, .int .i64 0, .int .i64 0, .int .i64 0, .int .i64 0, .int .i64 0, .string ⟨#[]⟩, .string ⟨#[]⟩], .int .i64 0, .int .i64 ((90 : Nat) : Int)]) (by simp [results, Tryz.results54, go_sem, q0, q1, q2, q3, q4, q5, q6, q7]) rfl (rd_no HX.out ff2)
          | some r =>
            have HX : Hid (rdec l = (r, v + 6, 0)) := by show _ = _; rw [HRX.out, hrd]
            rintro e w3 ⟨rfl, f3⟩
            clear hrd
            have f13 := f12.seq' f3
            have fb := Fr.box w3 (.cells #[.int .i64 r.lsn, .int .i64 r.ep, .int .i64 r.kind, .int .i64 r.page, .int .i64 r.other, .int .i64 r.req, .string r.key, .string r.val] 54)
            have f14 := f13.seq' fb
            obtain ⟨⟨z0, z1, z2, z3, z4, z5, z6, z7⟩, zz⟩ := rec_cells (HR.out _ f14)
            have x0 := zz 0; have x1 := zz 1; have x2 := zz 2; have x3 := zz 3; have x4 := zz 4; have x5 := zz 5; have x6 := zz 6; have x7 := zz 7
            obtain ⟨hb, ff⟩ := fin8 (HR.out _ f14) (.int .i64 r.lsn) (.int .i64 r.ep) (.int .i64 r.kind) (.int .i64 r.page) (.int .i64 r.other) (.int .i64 r.req) (.string r.key) (.string r.val)
            obtain ⟨⟨q0, q1, q2, q3, q4, q5, q6, q7⟩, _⟩ := rec_cells hb
            have ff2 := (f0.seq' f14).trans ff (S := fun _ => False) (fun i hi e => by omega)
            clear zz
            simp only [Option.getD_some, Option.isSome_some, if_true]
            go_wp2
            exact bodyPost_ret (v := .tuple #[(.agg #[.int .i64 r.lsn, .int .i64 r.ep, .int .i64 r.kind, .int .i64 r.page, .int .i64 r.other, .int .i64 r.req, .string r.key, .string r.val]), .int .i64 ((v + 6 : Nat) : Int), .int .i64 ((0 : Nat) : Int)]) (by simp [results, Tryz.results54, go_sem, q0, q1, q2, q3, q4, q5, q6, q7]) rfl (rd_yes HX.out ff2)
        · rw [if_neg hc] at hoff; subst hoff
          go_wp2_with fail
          refine (recordOf_any _ _ _ u HUL.out _ r3).mono ?_
          unfold RecOut
          cases hrd : recD u with
          | none =>
            have HX : Hid (rdec l = (zr, 0, 90)) := by show _ = _; rw [HRX.out, hrd]
            rintro e w3 ⟨rfl, f3⟩
            clear hrd
            have f13 := f12.seq' f3
            have fb := Fr.box w3 (.cells #[.int .i64 0, .int .i64 0, .int .i64 0, .int .i64 0, .int .i64 0, .int .i64 0, .string ⟨#[]⟩, .string ⟨#[]⟩] 54)
            have f14 := f13.seq' fb
            obtain ⟨⟨z0, z1, z2, z3, z4, z5, z6, z7⟩, zz⟩ := rec_cells (HR.out _ f14)
            have x0 := zz 0; have x1 := zz 1; have x2 := zz 2; have x3 := zz 3; have x4 := zz 4; have x5 := zz 5; have x6 := zz 6; have x7 := zz 7
            obtain ⟨hb, ff⟩ := fin8 (HR.out _ f14) (.int .i64 0) (.int .i64 0) (.int .i64 0) (.int .i64 0) (.int .i64 0) (.int .i64 0) (.string ⟨#[]⟩) (.string ⟨#[]⟩)
            obtain ⟨⟨q0, q1, q2, q3, q4, q5, q6, q7⟩, _⟩ := rec_cells hb
            have ff2 := (f0.seq' f14).trans ff (S := fun _ => False) (fun i hi e => by omega)
            clear zz
            simp only [Option.getD_none, Option.isSome_none, Bool.false_eq_true, if_false]
            rw [zr_agg]
            go_wp2
            exact bodyPost_ret (v := .tuple #[.agg #[.int .i64 0, .int .i64 0, .int .i64 0, .int .i64 0, .int .i64 0, .int .i64 0, .string ⟨#[]⟩, .string ⟨#[]⟩], .int .i64 0, .int .i64 ((90 : Nat) : Int)]) (by simp [results, Tryz.results54, go_sem, q0, q1, q2, q3, q4, q5, q6, q7]) rfl (rd_no HX.out ff2)
          | some r =>
            have HX : Hid (rdec l = (r, v + 6, 0)) := by show _ = _; rw [HRX.out, hrd]
            rintro e w3 ⟨rfl, f3⟩
            clear hrd
            have f13 := f12.seq' f3
            have fb := Fr.box w3 (.cells #[.int .i64 r.lsn, .int .i64 r.ep, .int .i64 r.kind, .int .i64 r.page, .int .i64 r.other, .int .i64 r.req, .string r.key, .string r.val] 54)
            have f14 := f13.seq' fb
            obtain ⟨⟨z0, z1, z2, z3, z4, z5, z6, z7⟩, zz⟩ := rec_cells (HR.out _ f14)
            have x0 := zz 0; have x1 := zz 1; have x2 := zz 2; have x3 := zz 3; have x4 := zz 4; have x5 := zz 5; have x6 := zz 6; have x7 := zz 7
            obtain ⟨hb, ff⟩ := fin8 (HR.out _ f14) (.int .i64 r.lsn) (.int .i64 r.ep) (.int .i64 r.kind) (.int .i64 r.page) (.int .i64 r.other) (.int .i64 r.req) (.string r.key) (.string r.val)
            obtain ⟨⟨q0, q1, q2, q3, q4, q5, q6, q7⟩, _⟩ := rec_cells hb
            have ff2 := (f0.seq' f14).trans ff (S := fun _ => False) (fun i hi e => by omega)
            clear zz
            simp only [Option.getD_some, Option.isSome_some, if_true]
            go_wp2
            exact bodyPost_ret (v := .tuple #[(.agg #[.int .i64 r.lsn, .int .i64 r.ep, .int .i64 r.kind, .int .i64 r.page, .int .i64 r.other, .int .i64 r.req, .string r.key, .string r.val]), .int .i64 ((v + 6 : Nat) : Int), .int .i64 ((0 : Nat) : Int)]) (by simp [results, Tryz.results54, go_sem, q0, q1, q2, q3, q4, q5, q6, q7]) rfl (rd_yes HX.out ff2)
      · rw [o2, o1] at hop
        have HX : Hid (rdec l = (zr, 0, 20)) := by show _ = _; rw [HRD.out, if_pos (by rw [o2]; decide)]
        clear o1 o2 HRD
        go_enter Tryz.func54, Tryz.ntmps54
        go_wp2_with fail
        refine hfs.mono ?_
        rintro e w1 ⟨rfl, f1⟩
        go_wp2_with fail
        refine (hop _ (HRT.out _ (f0.seq' f1))).mono ?_
        rintro e w2 ⟨a2, c2, rfl, r2, f2⟩
        have f12 := f1.seq' f2
        obtain ⟨⟨z0, z1, z2, z3, z4, z5, z6, z7⟩, zz⟩ := rec_cells (HR.out _ f12)
        have x0 := zz 0; have x1 := zz 1; have x2 := zz 2; have x3 := zz 3; have x4 := zz 4; have x5 := zz 5; have x6 := zz 6; have x7 := zz 7
        obtain ⟨hb, ff⟩ := fin8 (HR.out _ f12) (.int .i64 0) (.int .i64 0) (.int .i64 0) (.int .i64 0) (.int .i64 0) (.int .i64 0) (.string ⟨#[]⟩) (.string ⟨#[]⟩)
        obtain ⟨⟨q0, q1, q2, q3, q4, q5, q6, q7⟩, _⟩ := rec_cells hb
        have ff2 := (f0.seq' f12).trans ff (S := fun _ => False) (fun i hi e => by omega)
        clear zz
        go_wp2
        exact bodyPost_ret (v := .tuple #[.agg #[.int .i64 0, .int .i64 0, .int .i64 0, .int .i64 0, .int .i64 0, .int .i64 0, .string ⟨#[]⟩, .string ⟨#[]⟩], .int .i64 0, .int .i64 ((20 : Nat) : Int)]) (by simp [results, Tryz.results54, go_sem, q0, q1, q2, q3, q4, q5, q6, q7]) rfl (rd_no HX.out ff2)
end Go.Proofs.YtkibbojiflklpaaGreat
