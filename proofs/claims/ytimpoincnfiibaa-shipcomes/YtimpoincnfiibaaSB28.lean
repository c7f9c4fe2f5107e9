
/- RcMath. -/
import Derived.Test.YtimpoincnfiibaaSB27
/- Records as bytes, there and back, by plain functions of lists. -/
namespace Go.Proofs.Ytimpoincnfiibaa
open Go.RowKit Crcm

def nm (s : RS) (k : Int) : Int × RS := ((numS s k).1, (numS s k).2.2)
def tx (s : RS) (m : Int) : ByteArray × RS := (strOf (textS s m).1, (textS s m).2.2)
theorem nm_st (k v : Nat) (hk : k = 1 ∨ k = 2 ∨ k = 4 ∨ k = 8) (hv : v < 256 ^ k) (hv2 : v < 9223372036854775808) (r : List Nat) : nm (le k v ++ r, 0) (k : Int) = ((v : Int), (r, 0)) := by
  have h := numF_st k v hk hv hv2 r
  unfold numF at h
  simp only [Prod.mk.injEq] at h
  unfold nm; rw [h.1, ← h.2.1]
theorem tx_st (s : ByteArray) (m : Nat) (hs : s.size ≤ m) (hm : m ≤ 65535) (r : List Nat) : tx (txt s ++ r, 0) (m : Int) = (s, (r, 0)) := by
  have h := textF_st s m hs hm r
  unfold textF at h
  simp only [Prod.mk.injEq] at h
  unfold tx; rw [h.1, ← h.2.1]
theorem nm_stuck {s : RS} {k : Int} (h : (nm s k).2.2 = 0) : s.2 = 0 := by
  unfold nm numS at h
  by_cases h1 : s.2 = 0
  · exact h1
  · split at h
    · exact h
    · exact h
theorem tx_stuck {s : RS} {k : Int} (h : (tx s k).2.2 = 0) : s.2 = 0 := by
  unfold tx textS at h
  by_cases h1 : s.2 = 0
  · exact h1
  · split at h
    · exact h
    · exact h
theorem nm_ok (l : List Nat) (ho : octs l) (k : Nat) (hk : k = 1 ∨ k = 2 ∨ k = 4 ∨ k = 8) (h : (nm (l, 0) (k : Int)).2.2 = 0) : ∃ v r, l = le k v ++ r ∧ nm (l, 0) (k : Int) = ((v : Int), (r, 0)) := by
  have h0 : (numS (l, 0) (k : Int)).2.1 = 0 := by
    unfold nm numS at h
    unfold numS
    rw [if_neg (by omega), if_neg (by simp)] at h ⊢
    split
    · rename_i hc; rw [if_pos hc] at h; exact h
    · rename_i hc
      rw [if_neg hc] at h
      split
      · rename_i hd; rw [if_pos hd] at h; exact h
      · rfl
  obtain ⟨v, r, e, _, h1, h2⟩ := numF_ok l ho k hk (by unfold numF; simpa using h0)
  refine ⟨v, r, e, ?_⟩
  have := nm_st k v hk h1 h2 r
  rw [← e] at this; exact this
theorem tx_ok (l : List Nat) (ho : octs l) (m : Nat) (hm : m ≤ 65535) (h : (tx (l, 0) (m : Int)).2.2 = 0) : ∃ s r, l = txt s ++ r ∧ tx (l, 0) (m : Int) = (s, (r, 0)) := by
  have h0 : (textS (l, 0) (m : Int)).2.1 = 0 := by
    unfold tx textS at h
    unfold textS
    rw [if_neg (by omega), if_neg (by simp)] at h ⊢
    split
    · rename_i hc; rw [if_pos hc] at h; exact h
    · rename_i hc
      rw [if_neg hc] at h
      split
      · rename_i hd; rw [if_pos hd] at h; exact h
      · rename_i hd
        rw [if_neg hd] at h
        split
        · rename_i he; rw [if_pos he] at h; exact h
        · rfl
  obtain ⟨s, r, e, _, h1⟩ := textF_ok l ho m hm (by unfold textF; simpa using h0)
  refine ⟨s, r, e, ?_⟩
  have := tx_st s m h1 hm r
  rw [← e] at this; exact this

/-- What is read of a record: its parts, and the state behind. -/
def recS (s : RS) (m : Int) : Rec × RS :=
  (⟨(nm s 8).1, (nm (nm s 8).2 8).1, (nm (nm (nm s 8).2 8).2 1).1, (nm (nm (nm (nm s 8).2 8).2 1).2 4).1, (nm (nm (nm (nm (nm s 8).2 8).2 1).2 4).2 4).1, (nm (nm (nm (nm (nm (nm s 8).2 8).2 1).2 4).2 4).2 8).1,
    (tx (nm (nm (nm (nm (nm (nm s 8).2 8).2 1).2 4).2 4).2 8).2 m).1, (tx (tx (nm (nm (nm (nm (nm (nm s 8).2 8).2 1).2 4).2 4).2 8).2 m).2 m).1⟩,
   (tx (tx (nm (nm (nm (nm (nm (nm s 8).2 8).2 1).2 4).2 4).2 8).2 m).2 m).2)
theorem recS_eq (s : RS) (m : Int) {y1 y2 y3 y4 y5 y6 : Int × RS} {y7 y8 : ByteArray × RS} (h1 : nm s 8 = y1) (h2 : nm y1.2 8 = y2) (h3 : nm y2.2 1 = y3) (h4 : nm y3.2 4 = y4) (h5 : nm y4.2 4 = y5) (h6 : nm y5.2 8 = y6) (h7 : tx y6.2 m = y7) (h8 : tx y7.2 m = y8) :
    recS s m = (⟨y1.1, y2.1, y3.1, y4.1, y5.1, y6.1, y7.1, y8.1⟩, y8.2) := by
  subst h1; subst h2; subst h3; subst h4; subst h5; subst h6; subst h7; subst h8; rfl
theorem cast8 : ((8 : Nat) : Int) = 8 := rfl
theorem cast4 : ((4 : Nat) : Int) = 4 := rfl
theorem cast1 : ((1 : Nat) : Int) = 1 := rfl
theorem recS_fwd (r : Rec) (h : Rg r) (m : Nat) (h256 : 256 ≤ m) (hm : m ≤ 65535) (x : List Nat) : recS (rb r ++ x, 0) (m : Int) = (r, (x, 0)) := by
  have p8 : (1099511627776 : Nat) < 256 ^ 8 := by decide
  have p4 : (4096 : Nat) < 256 ^ 4 := by decide
  have p1 : (7 : Nat) < 256 ^ 1 := by decide
  have e : rb r ++ x = le 8 r.lsn.toNat ++ (le 8 r.ep.toNat ++ (le 1 r.kind.toNat ++ (le 4 r.page.toNat ++ (le 4 r.other.toNat ++ (le 8 r.req.toNat ++ (txt r.key ++ (txt r.val ++ x))))))) := by
    unfold rb; simp only [List.append_assoc]
  have := h.lsn0; have := h.lsn1; have := h.ep0; have := h.ep1; have := h.kind0; have := h.kind1; have := h.page0; have := h.page1; have := h.other0; have := h.other1; have := h.req0; have := h.req1; have := h.key; have := h.val
  rw [e, recS_eq _ _ (nm_st 8 r.lsn.toNat (by omega) (by omega) (by omega) _) (nm_st 8 r.ep.toNat (by omega) (by omega) (by omega) _) (nm_st 1 r.kind.toNat (by omega) (by omega) (by omega) _) (nm_st 4 r.page.toNat (by omega) (by omega) (by omega) _) (nm_st 4 r.other.toNat (by omega) (by omega) (by omega) _) (nm_st 8 r.req.toNat (by omega) (by omega) (by omega) _) (tx_st r.key m (by omega) hm _) (tx_st r.val m (by omega) hm _)]
  obtain ⟨a, b, c, d, f, g, k, v⟩ := r
  dsimp only at *
  rw [Int.toNat_of_nonneg (by omega), Int.toNat_of_nonneg (by omega), Int.toNat_of_nonneg (by omega), Int.toNat_of_nonneg (by omega), Int.toNat_of_nonneg (by omega), Int.toNat_of_nonneg (by omega)]
theorem recS_ok (l : List Nat) (ho : octs l) (m : Nat) (hm : m ≤ 65535) (h : (recS (l, 0) (m : Int)).2.2 = 0) (he : (recS (l, 0) (m : Int)).2.1 = []) : l = rb (recS (l, 0) (m : Int)).1 := by
  obtain ⟨y1, h1⟩ : ∃ y, nm (l, 0) 8 = y := ⟨_, rfl⟩
  obtain ⟨y2, h2⟩ : ∃ y, nm y1.2 8 = y := ⟨_, rfl⟩
  obtain ⟨y3, h3⟩ : ∃ y, nm y2.2 1 = y := ⟨_, rfl⟩
  obtain ⟨y4, h4⟩ : ∃ y, nm y3.2 4 = y := ⟨_, rfl⟩
  obtain ⟨y5, h5⟩ : ∃ y, nm y4.2 4 = y := ⟨_, rfl⟩
  obtain ⟨y6, h6⟩ : ∃ y, nm y5.2 8 = y := ⟨_, rfl⟩
  obtain ⟨y7, h7⟩ : ∃ y, tx y6.2 (m : Int) = y := ⟨_, rfl⟩
  obtain ⟨y8, h8⟩ : ∃ y, tx y7.2 (m : Int) = y := ⟨_, rfl⟩
  have hr := recS_eq (l, 0) (m : Int) h1 h2 h3 h4 h5 h6 h7 h8
  rw [hr] at h he ⊢
  dsimp only at h he
  have g7 : y7.2.2 = 0 := tx_stuck (by rw [h8]; exact h)
  have g6 : y6.2.2 = 0 := tx_stuck (by rw [h7]; exact g7)
  have g5 : y5.2.2 = 0 := nm_stuck (by rw [h6]; exact g6)
  have g4 : y4.2.2 = 0 := nm_stuck (by rw [h5]; exact g5)
  have g3 : y3.2.2 = 0 := nm_stuck (by rw [h4]; exact g4)
  have g2 : y2.2.2 = 0 := nm_stuck (by rw [h3]; exact g3)
  have g1 : y1.2.2 = 0 := nm_stuck (by rw [h2]; exact g2)
  obtain ⟨v1, l1, e1, q1⟩ := nm_ok l ho 8 (by omega) (by rw [cast8, h1]; exact g1)
  rw [cast8, h1] at q1; subst q1
  have o1 := octs_right ho e1
  obtain ⟨v2, l2, e2, q2⟩ := nm_ok l1 o1 8 (by omega) (by rw [cast8, h2]; exact g2)
  rw [cast8, h2] at q2; subst q2
  have o2 := octs_right o1 e2
  obtain ⟨v3, l3, e3, q3⟩ := nm_ok l2 o2 1 (by omega) (by rw [cast1, h3]; exact g3)
  rw [cast1, h3] at q3; subst q3
  have o3 := octs_right o2 e3
  obtain ⟨v4, l4, e4, q4⟩ := nm_ok l3 o3 4 (by omega) (by rw [cast4, h4]; exact g4)
  rw [cast4, h4] at q4; subst q4
  have o4 := octs_right o3 e4
  obtain ⟨v5, l5, e5, q5⟩ := nm_ok l4 o4 4 (by omega) (by rw [cast4, h5]; exact g5)
  rw [cast4, h5] at q5; subst q5
  have o5 := octs_right o4 e5
  obtain ⟨v6, l6, e6, q6⟩ := nm_ok l5 o5 8 (by omega) (by rw [cast8, h6]; exact g6)
  rw [cast8, h6] at q6; subst q6
  have o6 := octs_right o5 e6
  obtain ⟨s7, l7, e7, q7⟩ := tx_ok l6 o6 m hm (by rw [h7]; exact g7)
  rw [h7] at q7; subst q7
  have o7 := octs_right o6 e7
  obtain ⟨s8, l8, e8, q8⟩ := tx_ok l7 o7 m hm (by rw [h8]; exact h)
  rw [h8] at q8; subst q8
  dsimp only at he
  subst he
  unfold rb
  simp only [Int.toNat_natCast]
  rw [e1, e2, e3, e4, e5, e6, e7, e8]
  simp only [List.append_assoc, List.append_nil]

/-- The right record whose bytes these are, all of them. -/
def recM (l : List Nat) (m : Int) : Option Rec := if endOf (recS (l, 0) m).2.1 (recS (l, 0) m).2.2 = 0 ∧ rok (recS (l, 0) m).1 = true then some (recS (l, 0) m).1 else none
def recD (l : List Nat) : Option Rec := recM l 256
theorem endOf_zero (l : List Nat) (e : Int) : endOf l e = 0 ↔ e = 0 ∧ l = [] := by
  unfold endOf
  by_cases h : e = 0
  · rw [if_pos h]
    by_cases hl : l.length = 0
    · rw [if_pos hl]; exact ⟨fun _ => ⟨h, List.length_eq_zero_iff.1 hl⟩, fun _ => rfl⟩
    · rw [if_neg hl]; exact ⟨fun f => absurd f (by decide), fun f => absurd (by rw [f.2]; rfl) hl⟩
  · rw [if_neg h]; exact ⟨fun f => absurd f h, fun f => absurd f.1 h⟩
theorem recM_iff (l : List Nat) (ho : octs l) (m : Nat) (h256 : 256 ≤ m) (hm : m ≤ 65535) (r : Rec) : recM l (m : Int) = some r ↔ rok r = true ∧ l = rb r := by
  unfold recM
  constructor
  · intro h
    split at h
    · rename_i hc
      rw [endOf_zero] at hc
      have := recS_ok l ho m hm hc.1.1 hc.1.2
      simp only [Option.some.injEq] at h
      rw [h] at this hc
      exact ⟨hc.2, this⟩
    · simp at h
  · rintro ⟨h1, h2⟩
    have := recS_fwd r (rok_rg h1) m h256 hm []
    rw [List.append_nil, ← h2] at this
    rw [this, if_pos ⟨(endOf_zero _ _).2 ⟨rfl, rfl⟩, h1⟩]
theorem recD_iff (l : List Nat) (ho : octs l) (r : Rec) : recD l = some r ↔ rok r = true ∧ l = rb r := recM_iff l ho 256 (by omega) (by omega) r
theorem recM_recD (l : List Nat) (ho : octs l) (m : Nat) (h256 : 256 ≤ m) (hm : m ≤ 65535) : recM l (m : Int) = recD l := by
  cases h : recD l with
  | none =>
    cases h2 : recM l (m : Int) with
    | none => rfl
    | some r =>
      have := (recD_iff l ho r).2 ((recM_iff l ho m h256 hm r).1 h2)
      rw [h] at this; simp at this
  | some r => exact (recM_iff l ho m h256 hm r).2 ((recD_iff l ho r).1 h)

/-- A record of nothing. -/
def zr : Rec := ⟨0, 0, 0, 0, 0, 0, ⟨#[]⟩, ⟨#[]⟩⟩
/-- What Decode tells: the record, how many bytes its frame has, the error. -/
def rdec (l : List Nat) : Rec × Nat × Nat :=
  if l.length < 2 then (zr, 0, 10)
  else if l.length < val (l.take 2) + 6 then (zr, 0, 10)
  else if (opened (l.take (val (l.take 2) + 6))).2 ≠ 0 then (zr, 0, 20)
  else match recD ((l.drop 2).take (val (l.take 2))) with
    | none => (zr, 0, 90)
    | some r => (r, val (l.take 2) + 6, 0)
theorem zr_bad : rok zr = false := by decide
theorem val_le2 (n : Nat) (h : n < 65536) : val (le 2 n) = n := by rw [bval_le]; exact Nat.mod_eq_of_lt h
theorem rb_small {r : Rec} (h : rok r = true) : (rb r).length < 65536 := by
  have g := rok_rg h
  have := g.key; have := g.val
  rw [rb_length]; omega
theorem frm_take2 {r : Rec} (h : rok r = true) (x : List Nat) : val ((frm r ++ x).take 2) = (rb r).length := by
  have : (frm r ++ x).take 2 = le 2 (rb r).length := by
    unfold frm rh
    rw [List.append_assoc, List.append_assoc]
    exact List.take_left' (le_length 2 _)
  rw [this, val_le2 _ (rb_small h)]
theorem frm_len (r : Rec) : (frm r).length = (rb r).length + 6 := by rw [frm_length, rb_length]; omega
theorem opened_frm (r : Rec) : opened (frm r) = (rh r, 0) := by
  unfold opened
  have h4 : (le4 (crc (rh r))).length = 4 := by rw [← le_le4, le_length]
  have hl : (frm r).length - 4 = (rh r).length := by unfold frm; rw [List.length_append, h4]; omega
  rw [if_neg (by rw [frm_length]; omega), hl]
  unfold frm
  rw [List.take_left, List.drop_left, if_pos (val_le4 _ (crc_lt (rh_octs r)))]
theorem rdec_frm (r : Rec) (h : rok r = true) (x : List Nat) : rdec (frm r ++ x) = (r, (frm r).length, 0) := by
  unfold rdec
  have hl := frm_len r
  rw [frm_take2 h x, if_neg (by rw [List.length_append]; omega), if_neg (by rw [List.length_append]; omega)]
  rw [← hl, List.take_left, opened_frm]
  rw [if_neg (by simp)]
  have e : ((frm r ++ x).drop 2).take (rb r).length = rb r := by
    unfold frm rh
    rw [List.append_assoc, List.append_assoc, List.drop_left' (le_length 2 _)]
    exact List.take_left
  rw [e, (recD_iff (rb r) (rb_octs r) r).2 ⟨h, rfl⟩]
theorem rdec_some (l : List Nat) (ho : octs l) (r : Rec) (n : Nat) (h : rdec l = (r, n, 0)) : rok r = true ∧ n = (frm r).length ∧ n ≤ l.length ∧ l.take n = frm r := by
  unfold rdec at h
  split at h
  · simp at h
  · rename_i h2
    split at h
    · simp at h
    · rename_i h6
      split at h
      · simp at h
      · rename_i hop
        have od : octs ((l.drop 2).take (val (l.take 2))) := octs_take (fun x hx => ho x (List.mem_of_mem_drop hx)) _
        split at h
        · simp at h
        · rename_i r' hr
          simp only [Prod.mk.injEq, and_true] at h
          obtain ⟨rfl, rfl⟩ := h
          obtain ⟨hk, hb⟩ := (recD_iff _ od r').1 hr
          have hlen : (rb r').length = val (l.take 2) := by rw [← hb, List.length_take, List.length_drop]; omega
          have ht2 : l.take 2 = le 2 (rb r').length := by
            rw [hlen]
            have := ble_val (l.take 2) (octs_take ho 2)
            rw [show (l.take 2).length = 2 by rw [List.length_take]; omega] at this
            exact this.symm
          refine ⟨hk, by rw [frm_len, hlen], by omega, ?_⟩
          have hopen : (opened (l.take (val (l.take 2) + 6))).2 = 0 := by simpa using hop
          have hlt : (l.take (val (l.take 2) + 6)).length = val (l.take 2) + 6 := by rw [List.length_take]; omega
          unfold opened at hopen
          rw [if_neg (by omega), hlt] at hopen
          split at hopen
          · rename_i hv
            have e6 : val (l.take 2) + 6 - 4 = val (l.take 2) + 2 := by omega
            rw [e6] at hv
            have et : (l.take (val (l.take 2) + 6)).take (val (l.take 2) + 2) = rh r' := by
              rw [List.take_take, Nat.min_eq_left (by omega)]
              unfold rh
              rw [← ht2, ← hb, Nat.add_comm]
              exact List.take_add
            rw [et] at hv
            have o4 : octs ((l.take (val (l.take 2) + 6)).drop (val (l.take 2) + 2)) := fun x hx => ho x (List.mem_of_mem_take (List.mem_of_mem_drop hx))
            have l4 : ((l.take (val (l.take 2) + 6)).drop (val (l.take 2) + 2)).length = 4 := by rw [List.length_drop, hlt]; omega
            have := (le4_val _ o4 l4).1
            rw [hv] at this
            unfold frm
            rw [this, ← et, List.take_append_drop]
          · simp at hopen
theorem rdec_none (l : List Nat) (h : (rdec l).2.2 ≠ 0) : (rdec l).1 = zr ∧ (rdec l).2.1 = 0 := by
  unfold rdec at h ⊢
  split
  · exact ⟨rfl, rfl⟩
  · rename_i h2
    split
    · exact ⟨rfl, rfl⟩
    · rename_i h6
      split
      · exact ⟨rfl, rfl⟩
      · rename_i hop
        rw [if_neg h2, if_neg h6, if_neg hop] at h
        split
        · exact ⟨rfl, rfl⟩
        · rename_i r' hr
          rw [hr] at h
          simp at h
end Go.Proofs.Ytimpoincnfiibaa
