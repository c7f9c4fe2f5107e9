
/- OpenAll, Text, Read2, Read3, Speak1. -/
import Derived.Test.YtkibbojiflklpaaGreatBB7
import Derived.Test.YtkibbojiflklpaaGreatBB6
import Derived.Test.YtkibbojiflklpaaGreatBB1
/- What crc.Open and the document's Open tell, in one form: the same bytes and the same error. -/
namespace Go.Proofs.YtkibbojiflklpaaGreat
open Go.RowKit Crcm

/-- What is opened, and the error. -/
def opened (l : List Nat) : List Nat × Nat :=
  if l.length < 4 then ([], 10) else if val (l.drop (l.length - 4)) = crc (l.take (l.length - 4)) then (l.take (l.length - 4), 0) else ([], 20)

theorem row_empty (w : World) (a : Option Addr) : Row w a 0 [] := ⟨Nat.le_refl _, by omega, by simp, (fun x hx => by cases hx), .inl rfl⟩

theorem open_all (a : Option Addr) (n cap : Nat) (l : List Nat) (hn : n = l.length) (w : World) (hr : Row w a cap l) :
    Calls Tryz.prog 90 #[.slice a n cap] w fun e w' => ∃ ax cx, e = .returned (.tuple #[.slice ax (opened l).1.length cx, .int .i64 (((opened l).2 : Nat) : Int)]) ∧ Row w' ax cx (opened l).1 ∧ Fr (fun _ => False) w w' := by
  by_cases h4 : l.length < 4
  · refine (open_cut a n cap (by omega) w).mono ?_
    rintro e w' ⟨rfl, rfl⟩
    have ho : opened l = ([], 10) := by simp [opened, h4]
    rw [ho]
    exact ⟨none, 0, rfl, row_empty _ _, Fr.refl _ _⟩
  · by_cases hg : val (l.drop (l.length - 4)) = crc (l.take (l.length - 4))
    · refine (open_ok a n (l.length - 4) cap l hn (by omega) w hr hg).mono ?_
      rintro e w' ⟨v', rfl, hm⟩
      have ho : opened l = (l.take (l.length - 4), 0) := by simp [opened, h4, hg]
      rw [ho]
      obtain ⟨ax, cx, rfl, hrow⟩ := hm.own.row (octs_take hr.byte _) (by have := hr.small; simp; omega)
      exact ⟨ax, cx, rfl, hrow, hm.fr⟩
    · refine (open_bad a n (l.length - 4) cap l hn (by omega) w hr hg).mono ?_
      rintro e w' ⟨rfl, hf⟩
      have ho : opened l = ([], 20) := by simp [opened, h4, hg]
      rw [ho]
      exact ⟨none, 0, rfl, row_empty _ _, hf⟩

theorem le4_iff {t : List Nat} {c : Nat} (ht : octs t) (h4 : t.length = 4) (hc : c < 4294967296) : le 4 c = t ↔ val t = c := by
  rw [le_le4]
  constructor
  · intro h; rw [← h]; exact val_le4 c hc
  · intro h; rw [← h]; exact (le4_val t ht h4).1

end Go.Proofs.YtkibbojiflklpaaGreat

/- What (*Writer).Text does. -/
namespace Go.Proofs.YtkibbojiflklpaaGreat
open Go.RowKit

set_option maxRecDepth 100000 in
set_option maxHeartbeats 400000 in
theorem text_long (p : Option Addr) (s : ByteArray) (hs : 65535 < s.size) (w : World) :
    Calls Tryz.prog 99 #[.pointer p, .string s] w fun e w' => e = .returned (.int .i64 2) ∧ w' = w := by
  have h : (65535 : Int) < (s.size : Int) := by omega
  go_enter Tryz.func99, Tryz.ntmps99
  go_wp2
  go_ret
  exact ⟨rfl, rfl⟩
set_option maxRecDepth 100000 in
set_option maxHeartbeats 400000 in
theorem text_nil (s : ByteArray) (hs : s.size ≤ 65535) (w : World) :
    Calls Tryz.prog 99 #[.pointer none, .string s] w fun e w' => e = .returned (.int .i64 7) ∧ w' = w := by
  have h : (s.size : Int) ≤ 65535 := by omega
  go_enter Tryz.func99, Tryz.ntmps99
  go_wp2
  go_ret
  exact ⟨rfl, rfl⟩

/-- What the last store of Text makes of the writer. -/
theorem Wr.put {w w1 : World} {base wb : Nat} {v v' : Value} {l m : List Nat} (h : Wr w base wb v l) (hg : w.grownBy w1 v.ownBlock) (hown : Mine w1 base v' m) : Wr (w1.setCell ⟨wb, 0, none⟩ v') base wb v' m := by
  have hlt := lt_of_block h.box
  have hne : some wb ≠ v.ownBlock := fun e => by have := (h.own.lt wb e.symm).1; have := h.low; omega
  have hb : w1.heap[wb]? = some (.cells #[v] 202 (0, 0)) := by rw [hg.block wb hlt hne]; exact h.box
  exact ⟨one_setCell hb, h.low, ownsRow_setCell_below hown h.low v'⟩

set_option maxRecDepth 100000 in
set_option maxHeartbeats 1000000 in
theorem text_ok (s : ByteArray) (hs : s.size ≤ 65535) (base wb : Nat) (v : Value) (l : List Nat) (w : World) (h : Wr w base wb v l) (hb : base ≤ w.heap.size) (hroom : l.length + 65600 ≤ 140737488355328) :
    Calls Tryz.prog 99 #[.pointer (some ⟨wb, 0, none⟩), .string s] w fun e w' => e = .returned (.int .i64 0) ∧
      ∃ v', Wr w' base wb v' (l ++ le 2 s.size ++ bsOf s) ∧ Fr (wrS wb v) w w' ∧ (v'.ownBlock = v.ownBlock ∨ ∃ g, v'.ownBlock = some g ∧ w.heap.size ≤ g) := by
  obtain ⟨i0, hi, hz0, hz1, hz2⟩ := info_parts info8
  have hs' : (s.size : Int) ≤ 65535 := by omega
  go_enter Tryz.func99, Tryz.ntmps99
  go_wp2_with fail
  refine (number_any s.size 2 (by omega) base wb v l _ h hb (by omega)).mono ?_
  rintro e w1 ⟨rfl, v1, hw1, hf1, hv1⟩
  have hcell := cell_of_one hw1.box
  have hfree := free_of_one hw1.box
  have hlt1 := lt_of_block hw1.box
  have hsz1 := hf1.size
  have hll : (l ++ le 2 s.size).length = l.length + 2 := by simp [le_length]
  have hne : some wb ≠ v1.ownBlock := fun e => by have := (hw1.own.lt wb e.symm).1; have := hw1.low; omega
  obtain ⟨m, hm⟩ : ∃ m, m = l ++ le 2 s.size := ⟨_, rfl⟩
  rw [← hm] at hw1 hll
  have HM : Hid (l ++ le 2 s.size = m) := hm.symm
  clear hm
  have HLL : Hid (m.length = l.length + 2) := hll
  have hml : m.length + 65536 ≤ 140737488355328 := by omega
  clear hll
  go_wp2_with (at_builtin; refine wpList_append_str _ rfl _ _ 200 9 rfl i0 Tryz.underlying200 Tryz.underlying9 hi hz0 hz1 hz2 base v1 m rfl hw1.own s rfl (by omega) (Nat.le_trans hb hsz1) ?_; intro a2 c2 w2 hown2 hgrow2 hat2; have hc2 := (hgrow2.cell_far ⟨wb, 0, none⟩ hlt1 hne).trans hcell; have hf2 := (hgrow2.frozen_far ⟨wb, 0, none⟩ hlt1 hne).trans hfree)
  go_ret
  refine ⟨rfl, .slice a2 (m.length + s.size) c2, ?_, ?_, ?_⟩
  · rw [HM.out]; exact hw1.put hgrow2 hown2
  · refine (hf1.grown hgrow2 (fun k e hk => ?_)).setCell (fun _ => .inl rfl) _
    rcases hv1 with h1 | ⟨g, h1, hge⟩
    · exact .inr (by rw [← h1]; exact e)
    · rw [h1] at e; simp at e; omega
  · rcases hat2 with h2 | h2
    · rw [h2]; exact hv1
    · exact .inr ⟨_, h2, hsz1⟩
end Go.Proofs.YtkibbojiflklpaaGreat

/- What package wire's reader does besides: the ways in which Num fails; Text; Left; End; a nil reader, a nil writer. -/
namespace Go.Proofs.YtkibbojiflklpaaGreat
open Go.RowKit

set_option maxRecDepth 100000 in
set_option maxHeartbeats 400000 in
theorem rnum_arg (p : Option Addr) (size : Int) (h1 : ¬ size = 1) (h2 : ¬ size = 2) (h4 : ¬ size = 4) (h8 : ¬ size = 8) (w : World) :
    Calls Tryz.prog 125 #[.pointer p, .int .i64 size] w fun e w' => e = .returned (.tuple #[.int .i64 0, .int .i64 1]) ∧ w' = w := by
  have H1 : Hid (¬ size = 1) := h1
  have H2 : Hid (¬ size = 2) := h2
  have H4 : Hid (¬ size = 4) := h4
  have H8 : Hid (¬ size = 8) := h8
  clear h1 h2 h4 h8
  go_enter Tryz.func125, Tryz.ntmps125
  go_wp2_with (go_at_call 173; refine (isSize_no _ H1.out H2.out H4.out H8.out _).mono ?_; rintro e w' ⟨rfl, rfl⟩)
  go_ret2
  exact ⟨rfl, rfl⟩

set_option maxRecDepth 100000 in
set_option maxHeartbeats 400000 in
theorem stopped_nil (w : World) : Calls Tryz.prog 174 #[.pointer none] w fun e w' => e = .returned (.int .i64 10) ∧ w' = w := by
  go_enter Tryz.func174, Tryz.ntmps174
  go_wp2
  go_ret
  exact ⟨rfl, rfl⟩
set_option maxRecDepth 100000 in
set_option maxHeartbeats 400000 in
theorem rnum_nil (size : Int) (hs : size = 1 ∨ size = 2 ∨ size = 4 ∨ size = 8) (w : World) :
    Calls Tryz.prog 125 #[.pointer none, .int .i64 size] w fun e w' => e = .returned (.tuple #[.int .i64 0, .int .i64 10]) ∧ w' = w := by
  have HS : Hid (size = 1 ∨ size = 2 ∨ size = 4 ∨ size = 8) := hs
  clear hs
  go_enter Tryz.func125, Tryz.ntmps125
  go_wp2_with (first | (go_at_call 173; refine (isSize_yes _ HS.out _).mono ?_; rintro e w' ⟨rfl, rfl⟩) | (go_at_call 174; refine (stopped_nil _).mono ?_; rintro e w' ⟨rfl, rfl⟩))
  go_ret2
  exact ⟨rfl, rfl⟩

/-- The reader has an error already. -/
theorem rnum_stop (size : Int) (hs : size = 1 ∨ size = 2 ∨ size = 4 ∨ size = 8) (rb : Nat) (a : Option Addr) (cap : Nat) (l : List Nat) (err : Int) (herr : ¬ err = 0) (w : World) (h : Rd w rb a cap l err) :
    Calls Tryz.prog 125 #[.pointer (some ⟨rb, 0, none⟩), .int .i64 size] w fun e w' => e = .returned (.tuple #[.int .i64 0, .int .i64 err]) ∧ w' = w := by
  have HS : Hid (size = 1 ∨ size = 2 ∨ size = 4 ∨ size = 8) := hs
  have hne : (err != 0) = true := by simpa using herr
  clear hs
  go_enter Tryz.func125, Tryz.ntmps125
  go_wp2_with (first | (go_at_call 173; refine (isSize_yes _ HS.out _).mono ?_; rintro e w' ⟨rfl, rfl⟩) | (go_at_call 174; refine (stopped_any rb _ cap l err _ h).mono ?_; rintro e w' ⟨rfl, rfl⟩))
  go_ret2
  exact ⟨rfl, rfl⟩

set_option maxRecDepth 100000 in
set_option maxHeartbeats 400000 in
theorem rnum_cut (size : Nat) (hsz : (size : Int) = 1 ∨ (size : Int) = 2 ∨ (size : Int) = 4 ∨ (size : Int) = 8) (rb : Nat) (a : Option Addr) (cap : Nat) (l : List Nat) (hlen : l.length < size) (w : World) (h : Rd w rb a cap l 0) :
    Calls Tryz.prog 125 #[.pointer (some ⟨rb, 0, none⟩), .int .i64 size] w fun e w' => e = .returned (.tuple #[.int .i64 0, .int .i64 10]) ∧ Rd w' rb a cap l 10 ∧ Fr (fun k => k = rb) w w' := by
  obtain ⟨h0, h1, f0, f1⟩ := cell_of_two h.box
  have HZ : Hid ((size : Int) = 1 ∨ (size : Int) = 2 ∨ (size : Int) = 4 ∨ (size : Int) = 8) := hsz
  have hpos : 0 < size ∧ size ≤ 8 := by omega
  clear hsz
  have i1 : (l.length : Int) < (size : Int) := by omega
  go_enter Tryz.func125, Tryz.ntmps125
  go_wp2_with (first | (go_at_call 173; refine (isSize_yes _ HZ.out _).mono ?_; rintro e w' ⟨rfl, rfl⟩) | (go_at_call 174; refine (stopped_any rb _ cap l 0 _ h).mono ?_; rintro e w' ⟨rfl, rfl⟩) | (go_at_call 175; refine (fail_any rb a cap l 0 10 _ h).mono ?_; rintro e w' ⟨rfl, hq⟩))
  go_ret2
  exact ⟨rfl, hq⟩

set_option maxRecDepth 100000 in
set_option maxHeartbeats 1000000 in
theorem rnum_big (size : Nat) (hsz : (size : Int) = 1 ∨ (size : Int) = 2 ∨ (size : Int) = 4 ∨ (size : Int) = 8) (rb : Nat) (a : Option Addr) (cap : Nat) (l : List Nat) (hlen : size ≤ l.length) (hval : 9223372036854775808 ≤ val (l.take size)) (w : World) (h : Rd w rb a cap l 0) :
    Calls Tryz.prog 125 #[.pointer (some ⟨rb, 0, none⟩), .int .i64 size] w fun e w' => e = .returned (.tuple #[.int .i64 0, .int .i64 1]) ∧ Rd w' rb a cap l 1 ∧ Fr (fun k => k = rb) w w' := by
  obtain ⟨h0, h1, f0, f1⟩ := cell_of_two h.box
  have hle := h.row.le
  have hmx := h.row.max
  have HZ : Hid ((size : Int) = 1 ∨ (size : Int) = 2 ∨ (size : Int) = 4 ∨ (size : Int) = 8) := hsz
  have hpos : 0 < size ∧ size ≤ 8 := by omega
  clear hsz
  have htl : (l.take size).length = size := by simp; omega
  have i0 : (0 : Int) ≤ (size : Int) := by omega
  have i1 : (size : Int) ≤ (l.length : Int) := by omega
  have i2 : (size : Int) ≤ (cap : Int) := by omega
  obtain ⟨v, hv⟩ : ∃ v, v = val (l.take size) := ⟨_, rfl⟩
  have HV : Hid (val (l.take size) = v) := hv.symm
  rw [← hv] at hval
  clear hv
  have i3 : (9223372036854775807 : Int) < (v : Int) := by omega
  go_enter Tryz.func125, Tryz.ntmps125
  go_wp2_with (first | (go_at_call 173; refine (isSize_yes _ HZ.out _).mono ?_; rintro e w' ⟨rfl, rfl⟩) | (go_at_call 174; refine (stopped_any rb _ cap l 0 _ h).mono ?_; rintro e w' ⟨rfl, rfl⟩) | (go_at_call 176; refine (numberOf_any _ size cap (l.take size) htl.symm (by omega) _ (h.row.take size)).mono ?_; rw [HV.out]; rintro e w' ⟨rfl, rfl⟩) | (go_at_call 175; refine (fail_any rb a cap l 0 1 _ h).mono ?_; rintro e w' ⟨rfl, hq⟩))
  go_ret2
  exact ⟨rfl, hq⟩

set_option maxRecDepth 100000 in
set_option maxHeartbeats 400000 in
theorem left_any (rb : Nat) (a : Option Addr) (cap : Nat) (l : List Nat) (err : Int) (w : World) (h : Rd w rb a cap l err) :
    Calls Tryz.prog 131 #[.pointer (some ⟨rb, 0, none⟩)] w fun e w' => e = .returned (.int .i64 l.length) ∧ w' = w := by
  obtain ⟨h0, h1, f0, f1⟩ := cell_of_two h.box
  go_enter Tryz.func131, Tryz.ntmps131
  go_wp2
  go_ret
  exact ⟨rfl, rfl⟩
set_option maxRecDepth 100000 in
set_option maxHeartbeats 400000 in
theorem left_nil (w : World) : Calls Tryz.prog 131 #[.pointer none] w fun e w' => e = .returned (.int .i64 0) ∧ w' = w := by
  go_enter Tryz.func131, Tryz.ntmps131
  go_wp2
  go_ret
  exact ⟨rfl, rfl⟩
/-- What End tells. -/
def endOf (l : List Nat) (err : Int) : Int := if err = 0 then (if l.length = 0 then 0 else 4) else err
set_option maxRecDepth 100000 in
set_option maxHeartbeats 400000 in
theorem end_any (rb : Nat) (a : Option Addr) (cap : Nat) (l : List Nat) (err : Int) (w : World) (h : Rd w rb a cap l err) :
    Calls Tryz.prog 128 #[.pointer (some ⟨rb, 0, none⟩)] w fun e w' => e = .returned (.int .i64 (endOf l err)) ∧ w' = w := by
  obtain ⟨h0, h1, f0, f1⟩ := cell_of_two h.box
  by_cases he : err = 0
  · subst he
    by_cases hl : l.length = 0
    · have ho : endOf l 0 = 0 := by simp [endOf, hl]
      rw [ho]
      have i1 : ¬ (0 : Int) < (l.length : Int) := by omega
      go_enter Tryz.func128, Tryz.ntmps128
      go_wp2
      go_ret
      exact ⟨rfl, rfl⟩
    · have ho : endOf l 0 = 4 := by unfold endOf; rw [if_pos rfl, if_neg hl]
      rw [ho]
      have i1 : (0 : Int) < (l.length : Int) := by omega
      go_enter Tryz.func128, Tryz.ntmps128
      go_wp2
      go_ret
      exact ⟨rfl, rfl⟩
  · have ho : endOf l err = err := by unfold endOf; rw [if_neg he]
    rw [ho]
    have hne : (err != 0) = true := by simpa using he
    clear ho
    go_enter Tryz.func128, Tryz.ntmps128
    go_wp2
    go_ret
    exact ⟨rfl, rfl⟩
set_option maxRecDepth 100000 in
set_option maxHeartbeats 400000 in
theorem end_nil (w : World) : Calls Tryz.prog 128 #[.pointer none] w fun e w' => e = .returned (.int .i64 0) ∧ w' = w := by
  go_enter Tryz.func128, Tryz.ntmps128
  go_wp2
  go_ret
  exact ⟨rfl, rfl⟩
set_option maxRecDepth 100000 in
set_option maxHeartbeats 400000 in
theorem bytes_nil (w : World) : Calls Tryz.prog 102 #[.pointer none] w fun e w' => e = .returned (.slice none 0 0) ∧ w' = w := by
  go_enter Tryz.func102, Tryz.ntmps102
  go_wp2
  go_ret
  exact ⟨rfl, rfl⟩
end Go.Proofs.YtkibbojiflklpaaGreat

/- What (*Reader).Text does. -/
namespace Go.Proofs.YtkibbojiflklpaaGreat
open Go.RowKit

set_option maxRecDepth 100000 in
set_option maxHeartbeats 400000 in
theorem rtext_arg (p : Option Addr) (most : Int) (hm : most < 0) (w : World) :
    Calls Tryz.prog 127 #[.pointer p, .int .i64 most] w fun e w' => e = .returned (.tuple #[.string ⟨#[]⟩, .int .i64 1]) ∧ w' = w := by
  go_enter Tryz.func127, Tryz.ntmps127
  go_wp2
  go_ret2
  exact ⟨rfl, rfl⟩
set_option maxRecDepth 100000 in
set_option maxHeartbeats 400000 in
theorem rtext_nil (most : Int) (hm : ¬ most < 0) (w : World) :
    Calls Tryz.prog 127 #[.pointer none, .int .i64 most] w fun e w' => e = .returned (.tuple #[.string ⟨#[]⟩, .int .i64 10]) ∧ w' = w := by
  go_enter Tryz.func127, Tryz.ntmps127
  go_wp2_with (go_at_call 174; refine (stopped_nil _).mono ?_; rintro e w' ⟨rfl, rfl⟩)
  go_ret2
  exact ⟨rfl, rfl⟩
set_option maxRecDepth 100000 in
set_option maxHeartbeats 400000 in
theorem rtext_stop (most : Int) (hm : ¬ most < 0) (rb : Nat) (a : Option Addr) (cap : Nat) (l : List Nat) (err : Int) (herr : ¬ err = 0) (w : World) (h : Rd w rb a cap l err) :
    Calls Tryz.prog 127 #[.pointer (some ⟨rb, 0, none⟩), .int .i64 most] w fun e w' => e = .returned (.tuple #[.string ⟨#[]⟩, .int .i64 err]) ∧ w' = w := by
  have hne : (err != 0) = true := by simpa using herr
  go_enter Tryz.func127, Tryz.ntmps127
  go_wp2_with (go_at_call 174; refine (stopped_any rb _ cap l err _ h).mono ?_; rintro e w' ⟨rfl, rfl⟩)
  go_ret2
  exact ⟨rfl, rfl⟩
set_option maxRecDepth 100000 in
set_option maxHeartbeats 400000 in
theorem rtext_cut0 (most : Int) (hm : ¬ most < 0) (rb : Nat) (a : Option Addr) (cap : Nat) (l : List Nat) (hlen : l.length < 2) (w : World) (h : Rd w rb a cap l 0) :
    Calls Tryz.prog 127 #[.pointer (some ⟨rb, 0, none⟩), .int .i64 most] w fun e w' => e = .returned (.tuple #[.string ⟨#[]⟩, .int .i64 10]) ∧ Rd w' rb a cap l 10 ∧ Fr (fun k => k = rb) w w' := by
  obtain ⟨h0, h1, f0, f1⟩ := cell_of_two h.box
  have i1 : (l.length : Int) < 2 := by omega
  go_enter Tryz.func127, Tryz.ntmps127
  go_wp2_with (first | (go_at_call 174; refine (stopped_any rb _ cap l 0 _ h).mono ?_; rintro e w' ⟨rfl, rfl⟩) | (go_at_call 175; refine (fail_any rb a cap l 0 10 _ h).mono ?_; rintro e w' ⟨rfl, hq⟩))
  go_ret2
  exact ⟨rfl, hq⟩

theorem row_none (w : World) (a : Option Addr) : Row w a 0 [] := ⟨Nat.le_refl _, by omega, by simp, (fun x hx => by cases hx), .inl rfl⟩
theorem val2_lt {l : List Nat} (h : octs l) : val (l.take 2) < 65536 := by
  have h1 := val_lt (octs_take h 2)
  have h2 : 256 ^ (l.take 2).length ≤ 256 ^ 2 := Nat.pow_le_pow_right (by omega) (List.length_take_le _ _)
  omega

set_option maxRecDepth 100000 in
set_option maxHeartbeats 1000000 in
theorem rtext_bad (most : Int) (hm : ¬ most < 0) (rb : Nat) (a : Option Addr) (cap : Nat) (l : List Nat) (hlen : 2 ≤ l.length) (err : Int) (hbad : (l.length < 2 + val (l.take 2) ∧ err = 10) ∨ (2 + val (l.take 2) ≤ l.length ∧ most < val (l.take 2) ∧ err = 2)) (w : World) (h : Rd w rb a cap l 0) :
    Calls Tryz.prog 127 #[.pointer (some ⟨rb, 0, none⟩), .int .i64 most] w fun e w' => e = .returned (.tuple #[.string ⟨#[]⟩, .int .i64 err]) ∧ Rd w' rb a cap l err ∧ Fr (fun k => k = rb) w w' := by
  obtain ⟨h0, h1, f0, f1⟩ := cell_of_two h.box
  have hle := h.row.le
  have hmx := h.row.max
  have htl : (l.take 2).length = 2 := by simp; omega
  have hvl := val2_lt h.row.byte
  obtain ⟨v, hv⟩ : ∃ v, v = val (l.take 2) := ⟨_, rfl⟩
  have HV : Hid (val (l.take 2) = v) := hv.symm
  rw [← hv] at hvl hbad
  clear hv
  have i1 : ¬ (l.length : Int) < 2 := by omega
  have i2 : (2 : Int) ≤ (cap : Int) := by omega
  rcases hbad with ⟨hb, rfl⟩ | ⟨hb, hb2, rfl⟩
  · have i3 : (l.length : Int) < 2 + (v : Int) := by omega
    go_enter Tryz.func127, Tryz.ntmps127
    go_wp2_with (first | (go_at_call 174; refine (stopped_any rb _ cap l 0 _ h).mono ?_; rintro e w' ⟨rfl, rfl⟩) | (go_at_call 176; refine (numberOf_any _ 2 cap (l.take 2) htl.symm (by omega) _ (h.row.take 2)).mono ?_; rw [HV.out]; rintro e w' ⟨rfl, rfl⟩) | (go_at_call 175; refine (fail_any rb a cap l 0 10 _ h).mono ?_; rintro e w' ⟨rfl, hq⟩))
    go_ret2
    exact ⟨rfl, hq⟩
  · have i3 : ¬ (l.length : Int) < 2 + (v : Int) := by omega
    go_enter Tryz.func127, Tryz.ntmps127
    go_wp2_with (first | (go_at_call 174; refine (stopped_any rb _ cap l 0 _ h).mono ?_; rintro e w' ⟨rfl, rfl⟩) | (go_at_call 176; refine (numberOf_any _ 2 cap (l.take 2) htl.symm (by omega) _ (h.row.take 2)).mono ?_; rw [HV.out]; rintro e w' ⟨rfl, rfl⟩) | (go_at_call 175; refine (fail_any rb a cap l 0 2 _ h).mono ?_; rintro e w' ⟨rfl, hq⟩))
    go_ret2
    exact ⟨rfl, hq⟩

set_option maxRecDepth 100000 in
set_option maxHeartbeats 1000000 in
theorem rtext_ok (most : Int) (hm : ¬ most < 0) (rb : Nat) (a : Option Addr) (cap : Nat) (l : List Nat) (hlen : 2 + val (l.take 2) ≤ l.length) (hmost : (val (l.take 2) : Int) ≤ most) (w : World) (h : Rd w rb a cap l 0) :
    Calls Tryz.prog 127 #[.pointer (some ⟨rb, 0, none⟩), .int .i64 most] w fun e w' => e = .returned (.tuple #[.string (strOf ((l.drop 2).take (val (l.take 2)))), .int .i64 0]) ∧
      ∃ a' c', Rd w' rb a' c' (l.drop (2 + val (l.take 2))) 0 ∧ Fr (fun k => k = rb) w w' ∧ (∀ b off sp, a' = some ⟨b, off, sp⟩ → ∃ o s, a = some ⟨b, o, s⟩) := by
  obtain ⟨h0, h1, f0, f1⟩ := cell_of_two h.box
  have hle := h.row.le
  have hmx := h.row.max
  have htl : (l.take 2).length = 2 := by simp; omega
  have hvl := val2_lt h.row.byte
  obtain ⟨v, hv⟩ : ∃ v, v = val (l.take 2) := ⟨_, rfl⟩
  have HV : Hid (val (l.take 2) = v) := hv.symm
  rw [← hv] at hvl hlen hmost ⊢
  clear hv
  obtain ⟨b, off, rfl, hb, hc⟩ : ∃ b off, a = some ⟨b, off, none⟩ ∧ b < w.heap.size ∧ ∀ i, i < l.length → w.cell? ⟨b, off + i, none⟩ = some (.int .u8 ((l.getD i 0 : Nat) : Int)) := by
    rcases h.row.at_ with e | e
    · rw [e] at hlen; simp at hlen
    · exact e
  have i1 : ¬ (l.length : Int) < 2 := by omega
  have i2 : (2 : Int) ≤ (cap : Int) := by omega
  have i3 : ¬ (l.length : Int) < 2 + (v : Int) := by omega
  have i4 : (2 : Int) + (v : Int) ≤ (cap : Int) := by omega
  have hvt : v = ((l.drop 2).take v).length := by simp; omega
  by_cases c2 : cap = 2
  · have hv0 : v = 0 := by omega
    subst hv0
    subst c2
    have hadv := h.advance hb hc 2 (by omega) off (.inl rfl)
    have el : l.length - 2 = 0 := by omega
    rw [el, Nat.sub_self] at hadv
    have hcv := run_str (P := Tryz.prog) (src := 23) (dst := 9) Tryz.underlying23 Tryz.underlying5 Tryz.underlying9 (row_none w (some ⟨b, off, none⟩)) 0 rfl
    clear el hvt
    go_enter Tryz.func127, Tryz.ntmps127
    go_wp2_with (first | (go_at_call 174; refine (stopped_any rb _ _ l 0 _ h).mono ?_; rintro e w' ⟨rfl, rfl⟩) | (go_at_call 176; refine (numberOf_any _ 2 _ (l.take 2) htl.symm (by omega) _ (h.row.take 2)).mono ?_; rw [HV.out]; rintro e w' ⟨rfl, rfl⟩))
    go_ret2
    exact ⟨rfl, hadv⟩
  · have hrow2 : Row w (some ⟨b, off + 2, none⟩) (cap - 2) (l.drop 2) := h.row.drop 2 (by omega) (off + 2) (.inr rfl) (.inr ⟨hb, hc⟩)
    have hcv := run_str (P := Tryz.prog) (src := 23) (dst := 9) Tryz.underlying23 Tryz.underlying5 Tryz.underlying9 (hrow2.take v) v hvt
    clear hvt
    by_cases cv : cap = 2 + v
    · subst cv
      have hadv := h.advance hb hc (2 + v) (by omega) off (.inl rfl)
      have el : l.length - (2 + v) = 0 := by omega
      rw [el, Nat.sub_self] at hadv
      have ec : 2 + v - 2 = v := by omega
      rw [ec] at hcv
      clear el ec
      go_enter Tryz.func127, Tryz.ntmps127
      go_wp2_with (first | (go_at_call 174; refine (stopped_any rb _ _ l 0 _ h).mono ?_; rintro e w' ⟨rfl, rfl⟩) | (go_at_call 176; refine (numberOf_any _ 2 _ (l.take 2) htl.symm (by omega) _ (h.row.take 2)).mono ?_; rw [HV.out]; rintro e w' ⟨rfl, rfl⟩))
      go_ret2
      exact ⟨rfl, hadv⟩
    · have hadv := h.advance hb hc (2 + v) (by omega) (off + (2 + v)) (.inr rfl)
      go_enter Tryz.func127, Tryz.ntmps127
      go_wp2_with (first | (go_at_call 174; refine (stopped_any rb _ _ l 0 _ h).mono ?_; rintro e w' ⟨rfl, rfl⟩) | (go_at_call 176; refine (numberOf_any _ 2 _ (l.take 2) htl.symm (by omega) _ (h.row.take 2)).mono ?_; rw [HV.out]; rintro e w' ⟨rfl, rfl⟩))
      go_ret2
      exact ⟨rfl, hadv⟩
end Go.Proofs.YtkibbojiflklpaaGreat

/- latticelaw01.speaks answers true. -/
namespace Go.Proofs.YtkibbojiflklpaaGreat
open Go.RowKit

theorem Wr.ge {w : World} {base wb : Nat} {v : Value} {l : List Nat} (h : Wr w base wb v l) {k : Nat} (hk : wrS wb v k) : wb ≤ k := by
  rcases hk with rfl | hk
  · exact Nat.le_refl _
  · have := (h.own.lt k hk).1; have := h.low; omega
theorem Wr.lt {w : World} {base wb : Nat} {v : Value} {l : List Nat} (h : Wr w base wb v l) {k : Nat} (hk : wrS wb v k) : k < w.heap.size := by
  rcases hk with rfl | hk
  · exact lt_of_block h.box
  · exact (h.own.lt k hk).2
/-- What writes only blocks that are new to 'a' leaves all of 'a'. -/
theorem Fr.above {a b c : World} {S : Nat → Prop} (h : Fr (fun _ => False) a b) (k : Fr S b c) (hS : ∀ i, S i → a.heap.size ≤ i) : Fr (fun _ => False) a c :=
  h.trans k (fun i hi s => by have := hS i s; omega)

theorem octs_app {l m : List Nat} (hl : octs l) (hm : octs m) : octs (l ++ m) := fun x hx => by
  rcases List.mem_append.mp hx with h | h
  · exact hl x h
  · exact hm x h

end Go.Proofs.YtkibbojiflklpaaGreat
