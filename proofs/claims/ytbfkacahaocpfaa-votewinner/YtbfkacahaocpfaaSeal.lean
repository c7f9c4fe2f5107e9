
/- What crc.Seal and crc.Open do. -/
import Derived.Test.YtbfkacahaocpfaaSums
import Derived.Test.YtbfkacahaocpfaaRead
namespace Go.Proofs.Ytbfkacahaocpfaa
open Go.RowKit Crcm

theorem le_le4 (v : Nat) : le 4 v = le4 v := by
  simp [le, le4]

theorem fit4 (v : Nat) (h : v < 4294967296) : fit v ((4 : Nat) : Int) := ⟨by omega, .inr (.inr (.inl ⟨rfl, by omega⟩))⟩

set_option maxRecDepth 100000 in
set_option maxHeartbeats 1000000 in
theorem seal_any (a : Option Addr) (n cap : Nat) (l : List Nat) (hn : n = l.length) (hsm : l.length + 4 ≤ 140737488355328) (w : World) (hr : Row w a cap l) :
    Calls Try.prog 31 #[.slice a n cap] w fun e w' => ∃ v', e = .returned v' ∧ Made w w' v' (l ++ le4 (crc l)) := by
  obtain ⟨i0, hi, hz0, hz1, hz2⟩ := info_parts info8
  subst hn
  have hcl := crc_lt hr.byte
  have hr1 : Row (w.alloc (.cells #[.slice none 0 0] 96)) a cap l := hr.fr ((Fr.refl (fun _ => False) w).alloc _) (fun _ _ _ _ f => f)
  go_enter Try.func31, Try.ntmps31
  go_wp2_with fail
  refine (new_any _).mono ?_
  rintro e w1 ⟨rfl, rfl⟩
  go_wp2_with fail
  refine (sum_any a l.length cap l rfl _ hr1).mono ?_
  rintro e w1 ⟨rfl, rfl⟩
  obtain ⟨cv, hcv⟩ : ∃ cv, cv = crc l := ⟨_, rfl⟩
  rw [← hcv] at hcl ⊢
  have HC : Hid (crc l = cv) := hcv.symm
  clear hcv
  go_wp2_with fail
  refine (wnum_yes cv 4 (fit4 cv hcl) (w.heap.size + 1) w.heap.size (.slice none 0 0) [] _ (Wr.new w) (by simp) (by simp)).mono ?_
  rintro e w2 ⟨rfl, v2, hw2, hf2, hv2⟩
  have f2 : Fr (fun _ => False) w w2 := ((Fr.refl (fun _ => False) w).alloc _).trans hf2 (fun k hk hs => by
    rcases hs with h | h
    · omega
    · simp [Value.ownBlock] at h)
  have hb2 := hw2.own.lt
  have hwb := lt_of_block hw2.box
  have hl64 : (l.length : Int) + 4 ≤ 140737488355328 := by omega
  go_wp2_with (first
    | (at_make; refine wpList_make_own _ rfl _ _ 24 rfl w.heap.size 5 i0 (.int .u8 0) 1 Try.underlying24 hi hz0 hz1 _ _ _ (l.length + 4) rfl rfl (by omega) (by rw [hz2]; omega) (by unfold maxLen; omega) f2.size ?_; intro w3 hown3 hgrow3)
    | (at_builtin; refine wpList_append_row _ rfl _ _ 24 24 5 rfl i0 Try.underlying24 Try.underlying24 hi hz0 hz1 hz2 w.heap.size (.slice (some ⟨w2.heap.size, 0, none⟩) 0 (l.length + 4)) [] rfl hown3 a l.length cap l rfl rfl (hr.same (f2.fresh hgrow3 (by simp))) (by simp; omega) (Nat.le_trans f2.size hgrow3.size) ?_; intro a4 c4 w4 hown4 hgrow4 hat4)
    | fail)
  have f34 : Fr (fun _ => False) w2 w4 := (Fr.refl (fun _ => False) w2).fresh hgrow3 (by simp) |>.fresh hgrow4 (by simp [Value.ownBlock])
  have hw4 : Wr w4 (w.heap.size + 1) w.heap.size v2 ([] ++ le 4 cv) := hw2.fr f34 (fun f => f) (fun _ _ f => f)
  have hoct : octs ([] ++ le 4 cv) := by rw [List.nil_append, le_le4]; exact le4_octs cv
  refine (bytes_any (w.heap.size + 1) w.heap.size v2 ([] ++ le 4 cv) hoct (by simp [le_length]) _ hw4).mono ?_
  rintro e w5 ⟨v5, rfl, hmade⟩
  obtain ⟨a5, c5, hv5, hr5⟩ := hmade.own.row hoct (by simp [le_length])
  have hl5 : ([] ++ le 4 cv).length = 4 := by simp [le_length]
  rw [hl5] at hv5
  rw [hv5]
  have hown5 : Mine w5 w.heap.size (.slice a4 l.length c4) l := by
    have : Mine w4 w.heap.size (.slice a4 l.length c4) l := by simpa using hown4
    exact this.fr hmade.fr (fun _ _ f => f)
  have hge4 : ∀ k, (Value.slice a4 l.length c4).ownBlock = some k → w.heap.size ≤ k := fun k e => (hown5.lt k e).1
  have f5 : Fr (fun _ => False) w w5 := f2.false_trans (f34.false_trans hmade.fr)
  have hs5 := f5.size
  go_wp2_with (at_builtin; refine wpList_append_row _ rfl _ _ 24 24 5 rfl i0 Try.underlying24 Try.underlying24 hi hz0 hz1 hz2 w.heap.size (.slice a4 l.length c4) l rfl hown5 a5 4 c5 ([] ++ le 4 cv) hl5.symm rfl hr5 (by omega) hs5 ?_; intro a6 c6 w6 hown6 hgrow6 hat6)
  go_ret
  refine ⟨_, rfl, ?_, f5.fresh hgrow6 hge4⟩
  rw [HC.out, ← le_le4, ← List.nil_append (le 4 cv)]
  show w6.ownsRow _ _ _ _ _ _
  have e6 : (l ++ ([] ++ le 4 cv)).length = l.length + ([] ++ le 4 cv).length := by simp
  rw [hl5] at hown6 ⊢
  exact hown6

set_option maxRecDepth 100000 in
set_option maxHeartbeats 400000 in
theorem open_cut (a : Option Addr) (n cap : Nat) (hn : n < 4) (w : World) :
    Calls Try.prog 35 #[.slice a n cap] w fun e w' => e = .returned (.tuple #[.slice none 0 0, .int .i64 10]) ∧ w' = w := by
  have h4 : (n : Int) < 4 := by omega
  go_enter Try.func35, Try.ntmps35
  go_wp2
  go_ret2
  exact ⟨rfl, rfl⟩

set_option maxRecDepth 100000 in
set_option maxHeartbeats 1000000 in
theorem open_bad (a : Option Addr) (n k cap : Nat) (l : List Nat) (hn : n = l.length) (hk : n = k + 4) (w : World) (hr : Row w a cap l) (hbad : val (l.drop k) ≠ crc (l.take k)) :
    Calls Try.prog 35 #[.slice a n cap] w fun e w' => e = .returned (.tuple #[.slice none 0 0, .int .i64 20]) ∧ Fr (fun _ => False) w w' := by
  subst hk
  have hsm := hr.small
  have hle := hr.le
  have hmx := hr.max
  have h4 : ¬ ((k : Int) + 4 < 4) := by omega
  have htl : (l.take k).length = k := by simp; omega
  have hdl : (l.drop k).length = 4 := by simp; omega
  obtain ⟨b, off, rfl, hb, hc⟩ : ∃ b off, a = some ⟨b, off, none⟩ ∧ b < w.heap.size ∧ ∀ i, i < l.length → w.cell? ⟨b, off + i, none⟩ = some (.int .u8 ((l.getD i 0 : Nat) : Int)) := by
    rcases hr.at_ with e | e
    · rw [e] at hn; simp at hn
    · exact e
  have hrd : Row w (some ⟨b, off + k, none⟩) (cap - k) (l.drop k) := hr.drop k (by omega) (off + k) (.inr rfl) (.inr ⟨hb, hc⟩)
  have hrt := hr.take k
  have ho := hrd.byte
  have hvl : val (l.drop k) < 4294967296 := by have := val_lt ho; rw [hdl] at this; simpa using this
  have hcl := crc_lt hrt.byte
  have ht4 : (l.drop k).take 4 = l.drop k := List.take_of_length_le (by omega)
  obtain ⟨t, ht⟩ : ∃ t, t = l.drop k := ⟨_, rfl⟩
  obtain ⟨m, hm⟩ : ∃ m, m = l.take k := ⟨_, rfl⟩
  rw [← ht] at hdl hrd ho hvl ht4 hbad
  rw [← hm] at htl hrt hcl hbad
  have hne : ¬ ((val t : Int) = (crc m : Int)) := by omega
  have hne2 : (((val t : Nat) : Int) != ((crc m : Nat) : Int)) = true := by simpa using hne
  have HN : Hid (k + 4 = l.length) := hn
  have hkc : k + 4 ≤ cap := by omega
  clear ht hm hc hbad hr hn hne
  have q1 : (k : Int) ≤ (cap : Int) := by omega
  have q2 : ¬ cap = k := by omega
  go_enter Try.func35, Try.ntmps35
  go_wp2_with fail
  refine (of_any (some ⟨b, off + k, none⟩) 4 (cap - k) t hdl.symm _ hrd).mono ?_
  rintro e w1 ⟨rb, a1, c1, rfl, hrd1, f1, hrb, ha1⟩
  go_wp2_with fail
  refine (rnum_ok 4 (by omega) rb a1 c1 t (by omega) (by rw [ht4]; omega) _ hrd1).mono ?_
  rintro e w2 ⟨rfl, a2, c2, hrd2, f2, ha2⟩
  have f02 : Fr (fun _ => False) w w2 := f1.trans f2 (fun i hi e => by omega)
  rw [ht4]
  clear ht4
  go_wp2_with fail
  refine (sum_any (some ⟨b, off, none⟩) k cap m htl.symm _ (hrt.same f02)).mono ?_
  rintro e w3 ⟨rfl, rfl⟩
  go_wp2
  go_ret2
  exact ⟨rfl, f02⟩
set_option maxRecDepth 100000 in
set_option maxHeartbeats 1000000 in
theorem open_ok (a : Option Addr) (n k cap : Nat) (l : List Nat) (hn : n = l.length) (hk : n = k + 4) (w : World) (hr : Row w a cap l) (hgood : val (l.drop k) = crc (l.take k)) :
    Calls Try.prog 35 #[.slice a n cap] w fun e w' => ∃ v', e = .returned (.tuple #[v', .int .i64 0]) ∧ Made w w' v' (l.take k) := by
  obtain ⟨i0, hi, hz0, hz1, hz2⟩ := info_parts info8
  subst hk
  have hsm := hr.small
  have hle := hr.le
  have hmx := hr.max
  have h4 : ¬ ((k : Int) + 4 < 4) := by omega
  have htl : (l.take k).length = k := by simp; omega
  have hdl : (l.drop k).length = 4 := by simp; omega
  obtain ⟨b, off, rfl, hb, hc⟩ : ∃ b off, a = some ⟨b, off, none⟩ ∧ b < w.heap.size ∧ ∀ i, i < l.length → w.cell? ⟨b, off + i, none⟩ = some (.int .u8 ((l.getD i 0 : Nat) : Int)) := by
    rcases hr.at_ with e | e
    · rw [e] at hn; simp at hn
    · exact e
  have hrd : Row w (some ⟨b, off + k, none⟩) (cap - k) (l.drop k) := hr.drop k (by omega) (off + k) (.inr rfl) (.inr ⟨hb, hc⟩)
  have hrt := hr.take k
  have ho := hrd.byte
  have hvl : val (l.drop k) < 4294967296 := by have := val_lt ho; rw [hdl] at this; simpa using this
  have hcl := crc_lt hrt.byte
  have ht4 : (l.drop k).take 4 = l.drop k := List.take_of_length_le (by omega)
  obtain ⟨t, ht⟩ : ∃ t, t = l.drop k := ⟨_, rfl⟩
  obtain ⟨m, hm⟩ : ∃ m, m = l.take k := ⟨_, rfl⟩
  rw [← ht] at hdl hrd ho hvl ht4 hgood
  rw [← hm] at htl hrt hcl hgood ⊢
  have HG : Hid (val t = crc m) := hgood
  have hk47 : k ≤ 140737488355328 := by omega
  have HN : Hid (k + 4 = l.length) := hn
  have hkc : k + 4 ≤ cap := by omega
  clear ht hm hc hgood hr hn
  have q1 : (k : Int) ≤ (cap : Int) := by omega
  have q2 : ¬ cap = k := by omega
  go_enter Try.func35, Try.ntmps35
  go_wp2_with fail
  refine (of_any (some ⟨b, off + k, none⟩) 4 (cap - k) t hdl.symm _ hrd).mono ?_
  rintro e w1 ⟨rb, a1, c1, rfl, hrd1, f1, hrb, ha1⟩
  go_wp2_with fail
  refine (rnum_ok 4 (by omega) rb a1 c1 t (by omega) (by rw [ht4]; omega) _ hrd1).mono ?_
  rintro e w2 ⟨rfl, a2, c2, hrd2, f2, ha2⟩
  have f02 : Fr (fun _ => False) w w2 := f1.trans f2 (fun i hi e => by omega)
  rw [ht4, HG.out]
  clear ht4
  go_wp2_with fail
  refine (sum_any (some ⟨b, off, none⟩) k cap m htl.symm _ (hrt.same f02)).mono ?_
  rintro e w3 ⟨rfl, rfl⟩
  have hs3 := f02.size
  go_wp2_with (at_builtin; refine wpList_append_row _ rfl _ _ 24 24 5 rfl i0 Try.underlying24 Try.underlying24 hi hz0 hz1 hz2 w.heap.size (.slice none 0 0) [] rfl (World.ownsRow_nil _ _ _ _) (some ⟨b, off, none⟩) k cap m htl.symm rfl (hrt.same f02) (by simp; omega) hs3 ?_; intro a' c' w4 hown hgrow hat)
  go_ret2
  exact ⟨_, rfl, by simpa [htl] using hown, f02.fresh hgrow (by simp [Value.ownBlock])⟩
end Go.Proofs.Ytbfkacahaocpfaa
