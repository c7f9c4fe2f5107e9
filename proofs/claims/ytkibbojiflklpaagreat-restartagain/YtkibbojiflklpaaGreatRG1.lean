
/- RefRd, RefRd2, RefRd3. -/
import Derived.Test.YtkibbojiflklpaaGreatBB14
import Derived.Test.YtkibbojiflklpaaGreatBB9
import Derived.Deep.QuietTactic
import Derived.BigQuiet
/- What the document's own reader does: Num. -/
namespace Go.Proofs.YtkibbojiflklpaaGreat
open Go.RowKit

theorem val_split (l : List Nat) (j : Nat) (h : j ≤ l.length) : val l = val (l.take j) + 256 ^ j * val (l.drop j) := by
  induction j generalizing l with
  | zero => simp [val]
  | succ j ih =>
    cases l with
    | nil => simp at h
    | cons x l =>
      have := ih l (by simpa using h)
      simp only [List.take_succ_cons, List.drop_succ_cons, val, this, Nat.pow_succ]
      rw [Nat.mul_add, ← Nat.mul_assoc, Nat.mul_comm 256 (256 ^ j), Nat.add_assoc]
theorem val_drop (l : List Nat) (j : Nat) (h : j < l.length) : val (l.drop j) = l.getD j 0 + 256 * val (l.drop (j + 1)) := by
  rw [List.drop_eq_getElem_cons h]
  simp only [val]
  rw [List.getD_eq_getElem?_getD, List.getElem?_eq_getElem h]; rfl
theorem val_drop_le (l : List Nat) (j : Nat) (h : j ≤ l.length) : val (l.drop j) ≤ val l := by
  have h1 := val_split l j h
  have h2 : 1 ≤ 256 ^ j := Nat.pow_pos (by omega)
  have h3 : val (l.drop j) ≤ 256 ^ j * val (l.drop j) := Nat.le_mul_of_pos_left _ (by omega)
  omega

/-- The document's reader at block rb: what is left is l. -/
structure Rf (w : World) (rb : Nat) (a : Option Addr) (cap : Nat) (l : List Nat) (err : Int) : Prop where
  box : w.heap[rb]? = some (.cells #[.slice a l.length cap, .int .i64 err] 166 (0, 0))
  row : Row w a cap l
  far : l = [] ∨ ∀ b off sp, a = some ⟨b, off, sp⟩ → b ≠ rb
theorem Row.fr0 {S : Nat → Prop} {w w' : World} {a : Option Addr} {cap : Nat} {l : List Nat} (h : Row w a cap l) (f : Fr S w w') (hn : l = [] ∨ ∀ b off sp, a = some ⟨b, off, sp⟩ → ¬ S b) : Row w' a cap l := by
  rcases hn with e | e
  · exact ⟨h.le, h.max, h.small, h.byte, .inl e⟩
  · exact h.fr f e

theorem Rf.advance {w : World} {rb b off cap : Nat} {l : List Nat} (h : Rf w rb (some ⟨b, off, none⟩) cap l 0) (hb : b < w.heap.size) (hc : ∀ i, i < l.length → w.cell? ⟨b, off + i, none⟩ = some (.int .u8 ((l.getD i 0 : Nat) : Int))) (k : Nat) (hk : k ≤ l.length) (off2 : Nat) (ho : cap = k ∨ off2 = off + k) :
    ∃ a' c', Rf (w.setCell ⟨rb, 0, none⟩ (.slice (some ⟨b, off2, none⟩) (l.length - k) (cap - k))) rb a' c' (l.drop k) 0 ∧ Fr (fun k => k = rb) w (w.setCell ⟨rb, 0, none⟩ (.slice (some ⟨b, off2, none⟩) (l.length - k) (cap - k))) ∧ Near (some ⟨b, off, none⟩) a' := by
  have hf : Fr (fun k => k = rb) w (w.setCell ⟨rb, 0, none⟩ (.slice (some ⟨b, off2, none⟩) (l.length - k) (cap - k))) := (Fr.refl (fun k => k = rb) w).setCell (p := ⟨rb, 0, none⟩) (fun _ => rfl) _
  have hfar : l.drop k = [] ∨ ∀ b' off' sp, (some ⟨b, off2, none⟩ : Option Addr) = some ⟨b', off', sp⟩ → b' ≠ rb := by
    rcases h.far with e | e
    · exact .inl (by rw [e]; simp)
    · exact .inr (fun b' o s e' => by simp at e'; rw [← e'.1]; exact e b off none rfl)
  refine ⟨some ⟨b, off2, none⟩, cap - k, ⟨?_, ?_, hfar⟩, hf, ?_⟩
  · rw [two_setCell0 h.box, List.length_drop]
  · exact (h.row.drop k hk off2 ho (.inr ⟨hb, hc⟩)).fr0 hf hfar
  · intro b' o s e; simp at e; exact ⟨off, none, by rw [e.1]⟩
theorem Rf.fail {w : World} {rb cap : Nat} {a : Option Addr} {l : List Nat} {err : Int} (h : Rf w rb a cap l err) (err' : Int) :
    Rf (w.setCell ⟨rb, 1, none⟩ (.int .i64 err')) rb a cap l err' ∧ Fr (fun k => k = rb) w (w.setCell ⟨rb, 1, none⟩ (.int .i64 err')) := by
  have hf : Fr (fun k => k = rb) w (w.setCell ⟨rb, 1, none⟩ (.int .i64 err')) := (Fr.refl (fun k => k = rb) w).setCell (p := ⟨rb, 1, none⟩) (fun _ => rfl) _
  exact ⟨⟨two_setCell1 h.box, h.row.fr0 hf h.far, h.far⟩, hf⟩
theorem Rf.drew {w : World} {rb cap : Nat} {a : Option Addr} {l : List Nat} {err : Int} (h : Rf w rb a cap l err) : Rf w.drew rb a cap l err :=
  ⟨h.box, h.row.same (Fr.refl (fun _ => False) w).drew, h.far⟩

set_option maxRecDepth 100000 in
set_option maxHeartbeats 400000 in
theorem fnum_arg (p : Option Addr) (size : Int) (hs : sizedB size = false) (w : World) :
    Calls Tryz.prog 103 #[.pointer p, .int .i64 size] w fun e w' => e = .returned (.tuple #[.int .i64 0, .int .i64 1]) ∧ w' = w := by
  have HS : Hid (sizedB size = false) := hs
  clear hs
  go_enter Tryz.func103, Tryz.ntmps103
  go_wp2_with (go_at_call 139; refine (refSized_any _ _).mono ?_; rw [HS.out]; rintro e w' ⟨rfl, rfl⟩)
  go_ret2
  exact ⟨rfl, rfl⟩
set_option maxRecDepth 100000 in
set_option maxHeartbeats 400000 in
theorem fnum_stop (size : Int) (hs : sizedB size = true) (rb : Nat) (a : Option Addr) (cap : Nat) (l : List Nat) (err : Int) (herr : ¬ err = 0) (w : World) (h : Rf w rb a cap l err) :
    Calls Tryz.prog 103 #[.pointer (some ⟨rb, 0, none⟩), .int .i64 size] w fun e w' => e = .returned (.tuple #[.int .i64 0, .int .i64 err]) ∧ w' = w.drew := by
  obtain ⟨h0, h1, f0, f1⟩ := cell_of_two h.box
  have HS : Hid (sizedB size = true) := hs
  have hne : (err != 0) = true := by simpa using herr
  clear hs
  go_enter Tryz.func103, Tryz.ntmps103
  go_wp2_with (go_at_call 139; refine (refSized_any _ _).mono ?_; rw [HS.out]; rintro e w' ⟨rfl, rfl⟩)
  go_region
  all_goals
    go_wp2
    go_ret2
    exact ⟨rfl, rfl⟩
set_option maxRecDepth 100000 in
set_option maxHeartbeats 400000 in
theorem fnum_cut (size : Int) (hs : sizedB size = true) (rb : Nat) (a : Option Addr) (cap : Nat) (l : List Nat) (hlen : (l.length : Int) < size) (w : World) (h : Rf w rb a cap l 0) :
    Calls Tryz.prog 103 #[.pointer (some ⟨rb, 0, none⟩), .int .i64 size] w fun e w' => e = .returned (.tuple #[.int .i64 0, .int .i64 10]) ∧ w' = (w.setCell ⟨rb, 1, none⟩ (.int .i64 10)).drew := by
  obtain ⟨h0, h1, f0, f1⟩ := cell_of_two h.box
  have HS : Hid (sizedB size = true) := hs
  clear hs
  go_enter Tryz.func103, Tryz.ntmps103
  go_wp2_with (go_at_call 139; refine (refSized_any _ _).mono ?_; rw [HS.out]; rintro e w' ⟨rfl, rfl⟩)
  go_region
  all_goals
    go_wp2
    go_ret2
    exact ⟨rfl, rfl⟩
end Go.Proofs.YtkibbojiflklpaaGreat

/- What the document's own reader does: Num, where there are enough bytes. -/
namespace Go.Proofs.YtkibbojiflklpaaGreat
open Go.RowKit

theorem top_byte {l : List Nat} (ho : octs l) (h8 : l.length = 8) : (9223372036854775808 ≤ val l ↔ 127 < l.getD 7 0) := by
  have h1 := val_split l 7 (by omega)
  have h2 := val_drop l 7 (by omega)
  have h3 : l.drop 8 = [] := List.drop_eq_nil_of_le (by omega)
  rw [h3] at h2
  simp only [val, Nat.mul_zero, Nat.add_zero] at h2
  have h4 := val_lt (octs_take ho 7)
  have h5 : (l.take 7).length = 7 := by simp; omega
  rw [h5] at h4
  rw [h2] at h1
  omega
theorem small_val {l : List Nat} (ho : octs l) (h4 : l.length ≤ 4) : val l < 9223372036854775808 := by
  have h1 := val_lt ho
  have h2 : 256 ^ l.length ≤ 256 ^ 4 := Nat.pow_le_pow_right (by omega) h4
  omega

set_option maxRecDepth 100000 in
set_option maxHeartbeats 1000000 in
theorem fnum_big (rb b off cap : Nat) (l : List Nat) (hlen : 8 ≤ l.length) (hbig : 127 < l.getD 7 0) (w : World) (h : Rf w rb (some ⟨b, off, none⟩) cap l 0) (hc : ∀ i, i < l.length → w.cell? ⟨b, off + i, none⟩ = some (.int .u8 ((l.getD i 0 : Nat) : Int))) :
    Calls Tryz.prog 103 #[.pointer (some ⟨rb, 0, none⟩), .int .i64 8] w fun e w' => e = .returned (.tuple #[.int .i64 0, .int .i64 1]) ∧ w' = (w.setCell ⟨rb, 1, none⟩ (.int .i64 1)).drew := by
  obtain ⟨h0, h1, f0, f1⟩ := cell_of_two h.box
  have hle := h.row.le
  have hmx := h.row.max
  have hc7 := hc 7 (by omega)
  have hxl := octs_getD h.row.byte 7
  obtain ⟨x, hx⟩ : ∃ x, x = l.getD 7 0 := ⟨_, rfl⟩
  rw [← hx] at hc7 hbig hxl
  clear hx hc
  have i1 : (127 : Int) < (x : Int) := by omega
  have i2 : ¬ (l.length : Int) < 8 := by omega
  have i3 : (7 : Int) < (l.length : Int) := by omega
  have HS : Hid (sizedB 8 = true) := (by decide : sizedB 8 = true)
  go_enter Tryz.func103, Tryz.ntmps103
  go_wp2_with (go_at_call 139; refine (refSized_any _ _).mono ?_; rw [HS.out]; rintro e w' ⟨rfl, rfl⟩)
  refine wp_loop_rounds 1 ?_
  rw [rounds_succ]
  go_wp2
  go_region
  all_goals
    go_wp2
    go_ret2
    exact ⟨rfl, rfl⟩

set_option maxRecDepth 100000 in
set_option maxHeartbeats 2000000 in
theorem fnum_ok (size : Nat) (hsz : (size : Int) = 1 ∨ (size : Int) = 2 ∨ (size : Int) = 4 ∨ (size : Int) = 8) (rb b off cap : Nat) (l : List Nat) (hlen : size ≤ l.length) (hval : val (l.take size) < 9223372036854775808) (w : World) (h : Rf w rb (some ⟨b, off, none⟩) cap l 0) (hb : b < w.heap.size) (hc : ∀ i, i < l.length → w.cell? ⟨b, off + i, none⟩ = some (.int .u8 ((l.getD i 0 : Nat) : Int))) :
    Calls Tryz.prog 103 #[.pointer (some ⟨rb, 0, none⟩), .int .i64 size] w fun e w' => e = .returned (.tuple #[.int .i64 ((val (l.take size) : Nat) : Int), .int .i64 0]) ∧
      ∃ a' c', Rf w' rb a' c' (l.drop size) 0 ∧ Fr (fun k => k = rb) w w' ∧ Near (some ⟨b, off, none⟩) a' := by
  obtain ⟨h0, h1, f0, f1⟩ := cell_of_two h.box
  have hle := h.row.le
  have hmx := h.row.max
  have HS : Hid (sizedB (size : Int) = true) := decide_eq_true hsz
  have hpos : 0 < size ∧ size ≤ 8 := by omega
  have hx7 : size = 8 → l.getD 7 0 ≤ 127 := by
    intro e
    subst e
    have h8 : (l.take 8).length = 8 := by simp; omega
    have := top_byte (octs_take h.row.byte 8) h8
    have e7 : (l.take 8).getD 7 0 = l.getD 7 0 := by simp [List.getD_eq_getElem?_getD]
    rw [e7] at this
    omega
  have HX7 : Hid (size = 8 → l.getD 7 0 ≤ 127) := hx7
  have HC : Hid (∀ i, i < l.length → w.cell? ⟨b, off + i, none⟩ = some (.int .u8 ((l.getD i 0 : Nat) : Int))) := hc
  have HSZ : Hid ((size : Int) = 1 ∨ (size : Int) = 2 ∨ (size : Int) = 4 ∨ (size : Int) = 8) := hsz
  have htl : (l.take size).length = size := by simp; omega
  have HTL : Hid ((l.take size).length = size) := htl
  have HVB : Hid (∀ j, j ≤ size → val ((l.take size).drop j) < 9223372036854775808) := fun j hj => Nat.lt_of_le_of_lt (val_drop_le _ j (by omega)) hval
  have HVS : Hid (∀ j, j < size → val ((l.take size).drop j) = l.getD j 0 + 256 * val ((l.take size).drop (j + 1))) := fun j hj => by
    rw [val_drop _ j (by omega)]
    simp [List.getD_eq_getElem?_getD, hj]
  clear hc hx7 hsz htl
  have i2 : ¬ (l.length : Int) < (size : Int) := by omega
  have i4 : (size : Int) ≤ (cap : Int) := by omega
  go_enter Tryz.func103, Tryz.ntmps103
  go_wp2_with (go_at_call 139; refine (refSized_any _ _).mono ?_; rw [HS.out]; rintro e w' ⟨rfl, rfl⟩)
  go_loop [6, 7] (fun t i => ∃ j : Nat, j ≤ size ∧ i = .int .i64 ((j : Int) - 1) ∧ t = .int .i64 ((val ((l.take size).drop j) : Nat) : Int)) (fun _ i => ((intOf i) + 1).toNat)
  case atStart => exact ⟨size, Nat.le_refl _, rfl, by rw [List.drop_eq_nil_of_le (by rw [HTL.out]; exact Nat.le_refl _)]; rfl⟩
  case round =>
    obtain ⟨j, hj, rfl, rfl⟩ := hrel
    by_cases hj0 : j = 0
    · subst hj0
      have ev : (l.take size).drop 0 = l.take size := rfl
      rw [ev]
      obtain ⟨v, hv⟩ : ∃ v, v = val (l.take size) := ⟨_, rfl⟩
      have HV : Hid (val (l.take size) = v) := hv.symm
      rw [← hv]
      clear hv ev
      by_cases hcs : cap = size
      · subst hcs
        have hadv := h.advance hb HC.out cap hlen off (.inl rfl)
        have e0 : l.length - cap = 0 := by omega
        rw [e0, Nat.sub_self] at hadv
        clear e0
        go_wp2
        go_ret2
        obtain ⟨a', c', q1, q2, q3⟩ := hadv
        exact ⟨by rw [HV.out]; rfl, a', ⟨c', q1⟩, q2, q3⟩
      · have hadv := h.advance hb HC.out size hlen (off + size) (.inr rfl)
        go_wp2
        go_ret2
        obtain ⟨a', c', q1, q2, q3⟩ := hadv
        exact ⟨by rw [HV.out]; rfl, a', ⟨c', q1⟩, q2, q3⟩
    · obtain ⟨i, rfl⟩ : ∃ i, j = i + 1 := ⟨j - 1, by omega⟩
      have hci := HC.out i (by omega)
      have hxl := octs_getD h.row.byte i
      have hv1 := HVB.out (i + 1) hj
      have hv0 := HVB.out i (by omega)
      have hvs := HVS.out i (by omega)
      have h7 : i = 7 → l.getD i 0 ≤ 127 := fun e => by subst e; exact HX7.out (by omega)
      obtain ⟨x, hx⟩ : ∃ x, x = l.getD i 0 := ⟨_, rfl⟩
      rw [← hx] at hci hxl hvs h7
      clear hx
      obtain ⟨v1, hv1e⟩ : ∃ v, v = val ((l.take size).drop (i + 1)) := ⟨_, rfl⟩
      rw [← hv1e] at hv1 hvs ⊢
      clear hv1e
      have HV0 : Hid (val ((l.take size).drop i) = x + 256 * v1) := hvs
      rw [hvs] at hv0
      clear hvs
      have ei : (((i + 1 : Nat) : Int) - 1) = (i : Int) := by omega
      rw [ei]
      clear ei
      have q1 : (0 : Int) ≤ (i : Int) := by omega
      have q2 : (i : Int) < (l.length : Int) := by omega
      by_cases hi7 : i = 7
      · have hx127 := h7 hi7
        subst hi7
        have q3 : ¬ (127 : Int) < (x : Int) := by omega
        go_wp2
        go_round
        case rel => exact ⟨7, by omega, by go_num, by rw [HV0.out]; exact val_int (by omega)⟩
        case measure => simp [intOf]
      · have q3 : ((i : Int) == 7) = false := by simp; omega
        go_wp2
        go_round
        case rel => exact ⟨i, by omega, by go_num, by rw [HV0.out]; exact val_int (by omega)⟩
        case measure => simp [intOf]

theorem fnum_all (size : Int) (rb : Nat) (a : Option Addr) (cap : Nat) (st : RS) (w : World) (h : Rf w rb a cap st.1 st.2) :
    Calls Tryz.prog 103 #[.pointer (some ⟨rb, 0, none⟩), .int .i64 size] w fun e w' => e = .returned (.tuple #[.int .i64 (numS st size).1, .int .i64 (numS st size).2.1]) ∧
      ∃ a' c', Rf w' rb a' c' (numS st size).2.2.1 (numS st size).2.2.2 ∧ Fr (fun k => k = rb) w w' ∧ Near a a' := by
  obtain ⟨l, err⟩ := st
  by_cases hs : size = 1 ∨ size = 2 ∨ size = 4 ∨ size = 8
  · have hsb : sizedB size = true := decide_eq_true hs
    obtain ⟨sz, rfl⟩ := Int.eq_ofNat_of_zero_le (a := size) (by omega)
    by_cases he : err = 0
    · subst he
      by_cases hlt : l.length < sz
      · have e : numS (l, 0) sz = (0, 10, (l, 10)) := by unfold numS; rw [if_neg (not_not_intro hs), if_neg (by simp), if_pos (by simpa using hlt)]
        rw [e]
        refine (fnum_cut sz hsb rb a cap l (by omega) w h).mono ?_
        rintro e w' ⟨rfl, rfl⟩
        exact ⟨rfl, a, cap, (h.fail 10).1.drew, (h.fail 10).2.drew, Near.refl a⟩
      · obtain ⟨b, off, rfl, hb, hc⟩ : ∃ b off, a = some ⟨b, off, none⟩ ∧ b < w.heap.size ∧ ∀ i, i < l.length → w.cell? ⟨b, off + i, none⟩ = some (.int .u8 ((l.getD i 0 : Nat) : Int)) := by
          rcases h.row.at_ with e | e
          · have e' : l = [] := e
            rw [e'] at hlt; simp at hlt; omega
          · exact e
        have ho : octs l := h.row.byte
        by_cases hv : 9223372036854775808 ≤ val (l.take sz)
        · have e : numS (l, 0) sz = (0, 1, (l, 1)) := by unfold numS; rw [if_neg (not_not_intro hs), if_neg (by simp), if_neg (by simpa using hlt), if_pos (by simpa using hv)]
          rw [e]
          have h8 : sz = 8 := by
            have h1 : (l.take sz).length = sz := by simp; omega
            by_cases h4 : sz ≤ 4
            · have := small_val (octs_take ho sz) (by omega); omega
            · omega
          subst h8
          have ht8 : (l.take 8).length = 8 := by simp; omega
          have h7 := (top_byte (octs_take ho 8) ht8).mp hv
          have e7 : (l.take 8).getD 7 0 = l.getD 7 0 := by simp [List.getD_eq_getElem?_getD]
          rw [e7] at h7
          refine (fnum_big rb b off cap l (by omega) h7 w h hc).mono ?_
          rintro e w' ⟨rfl, rfl⟩
          exact ⟨rfl, _, cap, (h.fail 1).1.drew, (h.fail 1).2.drew, Near.refl _⟩
        · have e : numS (l, 0) sz = ((val (l.take sz) : Int), 0, (l.drop sz, 0)) := by unfold numS; rw [if_neg (not_not_intro hs), if_neg (by simp), if_neg (by simpa using hlt), if_neg (by simpa using hv)]; rfl
          rw [e]
          refine (fnum_ok sz hs rb b off cap l (by omega) (by omega) w h hb hc).mono ?_
          rintro e w' ⟨rfl, a', c', hrd, hf, hn⟩
          exact ⟨rfl, a', c', hrd, hf, hn⟩
    · have e : numS (l, err) sz = (0, err, (l, err)) := by unfold numS; rw [if_neg (not_not_intro hs), if_pos (by simpa using he)]
      rw [e]
      refine (fnum_stop sz hsb rb a cap l err he w h).mono ?_
      rintro e w' ⟨rfl, rfl⟩
      exact ⟨rfl, a, cap, h.drew, (Fr.refl _ _).drew, Near.refl a⟩
  · have e : numS (l, err) size = (0, 1, (l, err)) := by unfold numS; rw [if_pos hs]
    rw [e]
    refine (fnum_arg (some ⟨rb, 0, none⟩) size (decide_eq_false hs) w).mono ?_
    rintro e w' ⟨rfl, rfl⟩
    exact ⟨rfl, a, cap, h, Fr.refl _ _, Near.refl a⟩
end Go.Proofs.YtkibbojiflklpaaGreat

/- What the document's own reader does: Text. -/
namespace Go.Proofs.YtkibbojiflklpaaGreat
open Go.RowKit

set_option maxRecDepth 100000 in
set_option maxHeartbeats 400000 in
theorem ftext_arg (p : Option Addr) (most : Int) (hm : most < 0) (w : World) :
    Calls Tryz.prog 104 #[.pointer p, .int .i64 most] w fun e w' => e = .returned (.tuple #[.string ⟨#[]⟩, .int .i64 1]) ∧ w' = w := by
  go_enter Tryz.func104, Tryz.ntmps104
  go_wp2
  go_ret2
  exact ⟨rfl, rfl⟩
set_option maxRecDepth 100000 in
set_option maxHeartbeats 400000 in
theorem ftext_stop (most : Int) (hm : ¬ most < 0) (rb : Nat) (a : Option Addr) (cap : Nat) (l : List Nat) (err : Int) (herr : ¬ err = 0) (w : World) (h : Rf w rb a cap l err) :
    Calls Tryz.prog 104 #[.pointer (some ⟨rb, 0, none⟩), .int .i64 most] w fun e w' => e = .returned (.tuple #[.string ⟨#[]⟩, .int .i64 err]) ∧ w' = w.drew := by
  obtain ⟨h0, h1, f0, f1⟩ := cell_of_two h.box
  have hne : (err != 0) = true := by simpa using herr
  go_enter Tryz.func104, Tryz.ntmps104
  go_wp2
  go_region
  all_goals
    go_wp2
    go_ret2
    exact ⟨rfl, rfl⟩
set_option maxRecDepth 100000 in
set_option maxHeartbeats 400000 in
theorem ftext_cut0 (most : Int) (hm : ¬ most < 0) (rb : Nat) (a : Option Addr) (cap : Nat) (l : List Nat) (hlen : (l.length : Int) < 2) (w : World) (h : Rf w rb a cap l 0) :
    Calls Tryz.prog 104 #[.pointer (some ⟨rb, 0, none⟩), .int .i64 most] w fun e w' => e = .returned (.tuple #[.string ⟨#[]⟩, .int .i64 10]) ∧ w' = (w.setCell ⟨rb, 1, none⟩ (.int .i64 10)).drew := by
  obtain ⟨h0, h1, f0, f1⟩ := cell_of_two h.box
  go_enter Tryz.func104, Tryz.ntmps104
  go_wp2
  go_region
  all_goals
    go_wp2
    go_ret2
    exact ⟨rfl, rfl⟩

theorem val2 {l : List Nat} (h : 2 ≤ l.length) : val (l.take 2) = l.getD 0 0 + 256 * l.getD 1 0 := by
  match l, h with
  | x :: y :: r, _ => simp [val]

set_option maxRecDepth 100000 in
set_option maxHeartbeats 1000000 in
theorem ftext_bad (most : Int) (hm : ¬ most < 0) (rb b off cap : Nat) (l : List Nat) (hlen : 2 ≤ l.length) (err : Int) (hbad : (l.length < 2 + val (l.take 2) ∧ err = 10) ∨ (2 + val (l.take 2) ≤ l.length ∧ most < val (l.take 2) ∧ err = 2)) (w : World) (h : Rf w rb (some ⟨b, off, none⟩) cap l 0) (hc : ∀ i, i < l.length → w.cell? ⟨b, off + i, none⟩ = some (.int .u8 ((l.getD i 0 : Nat) : Int))) :
    Calls Tryz.prog 104 #[.pointer (some ⟨rb, 0, none⟩), .int .i64 most] w fun e w' => e = .returned (.tuple #[.string ⟨#[]⟩, .int .i64 err]) ∧ ∃ n m, w' = ((w.drewN n).setCell ⟨rb, 1, none⟩ (.int .i64 err)).drewN m := by
  obtain ⟨h0, h1, f0, f1⟩ := cell_of_two h.box
  have hmx := h.row.max
  have hle := h.row.le
  have c0 := hc 0 (by omega)
  have c1 := hc 1 (by omega)
  have x0 := octs_getD h.row.byte 0
  have x1 := octs_getD h.row.byte 1
  rw [val2 hlen] at hbad
  obtain ⟨x, hx⟩ : ∃ x, x = l.getD 0 0 := ⟨_, rfl⟩
  obtain ⟨y, hy⟩ : ∃ x, x = l.getD 1 0 := ⟨_, rfl⟩
  rw [← hx] at c0 x0 hbad
  rw [← hy] at c1 x1 hbad
  rw [Nat.add_zero] at c0
  clear hx hy hc
  have i1 : ¬ (l.length : Int) < 2 := by omega
  have i2 : (0 : Int) < (l.length : Int) := by omega
  have i3 : (1 : Int) < (l.length : Int) := by omega
  rcases hbad with ⟨hb, rfl⟩ | ⟨hb, hb2, rfl⟩
  · have i4 : (l.length : Int) < 2 + ((x : Int) + 256 * (y : Int)) := by omega
    go_enter Tryz.func104, Tryz.ntmps104
    go_wp2
    go_quiet (fail)
    go_wp2
    go_quiet (fail)
    go_wp2
    go_ret2
    exact ⟨rfl, _, _, rfl⟩
  · have i4 : ¬ (l.length : Int) < 2 + ((x : Int) + 256 * (y : Int)) := by omega
    have i5 : most < (x : Int) + 256 * (y : Int) := by omega
    go_enter Tryz.func104, Tryz.ntmps104
    go_wp2
    go_quiet (fail)
    go_wp2
    go_quiet (fail)
    go_wp2
    go_ret2
    exact ⟨rfl, _, _, rfl⟩



set_option maxRecDepth 100000 in
set_option maxHeartbeats 1000000 in
theorem ftext_ok (most : Int) (hm : ¬ most < 0) (rb b off cap : Nat) (l : List Nat) (hlen : 2 + val (l.take 2) ≤ l.length) (h2 : 2 ≤ l.length) (hmost : (val (l.take 2) : Int) ≤ most) (w : World) (h : Rf w rb (some ⟨b, off, none⟩) cap l 0) (hb : b < w.heap.size) (hc : ∀ i, i < l.length → w.cell? ⟨b, off + i, none⟩ = some (.int .u8 ((l.getD i 0 : Nat) : Int))) :
    Calls Tryz.prog 104 #[.pointer (some ⟨rb, 0, none⟩), .int .i64 most] w fun e w' => e = .returned (.tuple #[.string (strOf ((l.drop 2).take (val (l.take 2)))), .int .i64 0]) ∧
      ∃ a' c', Rf w' rb a' c' (l.drop (2 + val (l.take 2))) 0 ∧ Fr (fun k => k = rb) w w' ∧ Near (some ⟨b, off, none⟩) a' := by
  obtain ⟨h0, h1, f0, f1⟩ := cell_of_two h.box
  have hmx := h.row.max
  have hle := h.row.le
  have c0 := hc 0 (by omega)
  have c1 := hc 1 (by omega)
  have x0 := octs_getD h.row.byte 0
  have x1 := octs_getD h.row.byte 1
  have hv2 := val2 h2
  obtain ⟨x, hx⟩ : ∃ x, x = l.getD 0 0 := ⟨_, rfl⟩
  obtain ⟨y, hy⟩ : ∃ x, x = l.getD 1 0 := ⟨_, rfl⟩
  rw [← hx] at c0 x0 hv2
  rw [← hy] at c1 x1 hv2
  rw [Nat.add_zero] at c0
  rw [hv2] at hlen hmost ⊢
  clear hx hy hv2
  have i1 : ¬ (l.length : Int) < 2 := by omega
  have i2 : (0 : Int) < (l.length : Int) := by omega
  have i3 : (1 : Int) < (l.length : Int) := by omega
  have i4 : ¬ (l.length : Int) < 2 + ((x : Int) + 256 * (y : Int)) := by omega
  have i5 : ¬ most < (x : Int) + 256 * (y : Int) := by omega
  have i6 : (2 : Int) + ((x : Int) + 256 * (y : Int)) ≤ (cap : Int) := by omega
  have fq : ∀ n, Fr (fun _ => False) w (w.drewN n) := fun n => (Fr.refl (fun _ => False) w).drewN n
  have hq : ∀ n, Rf (w.drewN n) rb (some ⟨b, off, none⟩) cap l 0 := fun n => ⟨h.box, h.row.same (fq n), h.far⟩
  have hcq : ∀ n i, i < l.length → (w.drewN n).cell? ⟨b, off + i, none⟩ = some (.int .u8 ((l.getD i 0 : Nat) : Int)) := fun n i hi => hc i hi
  have HQ : Hid (∀ n, Rf (w.drewN n) rb (some ⟨b, off, none⟩) cap l 0) := hq
  have HCQ : Hid (∀ n i, i < l.length → (w.drewN n).cell? ⟨b, off + i, none⟩ = some (.int .u8 ((l.getD i 0 : Nat) : Int))) := hcq
  have hvt : x + 256 * y = ((l.drop 2).take (x + 256 * y)).length := by simp; omega
  clear hc hq hcq
  by_cases k2 : cap = 2
  · have hx0 : x = 0 := by omega
    have hy0 : y = 0 := by omega
    subst hx0 hy0
    subst k2
    have el : l.length - 2 = 0 := by omega
    have hcv := fun n => run_str (P := Tryz.prog) (src := 23) (dst := 9) Tryz.underlying23 Tryz.underlying5 Tryz.underlying9 (row_none (w.drewN n) (some ⟨b, off, none⟩)) 0 rfl
    clear hvt fq
    go_enter Tryz.func104, Tryz.ntmps104
    go_wp2
    go_quiet (fail)
    have hadv := (HQ.out nq).advance hb (HCQ.out nq) 2 (by omega) off (.inl rfl)
    rw [el, Nat.sub_self] at hadv
    clear el
    obtain ⟨a', c', q1, q2, q3⟩ := hadv
    have q4 := ((Fr.refl (fun k => k = rb) w).drewN nq).trans q2 (fun _ _ e => e)
    go_wp2
    go_ret2
    first | exact ⟨rfl, a', c', q1, q4, q3⟩ | exact ⟨rfl, a', ⟨c', q1⟩, q4, q3⟩
  · have hrow2 : Row w (some ⟨b, off + 2, none⟩) (cap - 2) (l.drop 2) := h.row.drop 2 (by omega) (off + 2) (.inr rfl) (.inr ⟨hb, fun i hi => HCQ.out 0 i hi⟩)
    have hcv := fun n => run_str (P := Tryz.prog) (src := 23) (dst := 9) Tryz.underlying23 Tryz.underlying5 Tryz.underlying9 ((hrow2.take (x + 256 * y)).same (fq n)) (x + 256 * y) hvt
    clear hvt fq
    by_cases kv : cap = 2 + (x + 256 * y)
    · subst kv
      have ec : 2 + (x + 256 * y) - 2 = x + 256 * y := by omega
      rw [ec] at hcv
      have el : l.length - (2 + (x + 256 * y)) = 0 := by omega
      go_enter Tryz.func104, Tryz.ntmps104
      go_wp2
      go_quiet (fail)
      have hadv := (HQ.out nq).advance hb (HCQ.out nq) (2 + (x + 256 * y)) (by omega) off (.inl rfl)
      rw [el, Nat.sub_self] at hadv
      clear el
      obtain ⟨a', c', q1, q2, q3⟩ := hadv
      have q4 := ((Fr.refl (fun k => k = rb) w).drewN nq).trans q2 (fun _ _ e => e)
      go_wp2
      go_ret2
      first | exact ⟨rfl, a', c', q1, q4, q3⟩ | exact ⟨rfl, a', ⟨c', q1⟩, q4, q3⟩
    · go_enter Tryz.func104, Tryz.ntmps104
      go_wp2
      go_quiet (fail)
      have hadv := (HQ.out nq).advance hb (HCQ.out nq) (2 + (x + 256 * y)) (by omega) (off + (2 + (x + 256 * y))) (.inr rfl)
      obtain ⟨a', c', q1, q2, q3⟩ := hadv
      have q4 := ((Fr.refl (fun k => k = rb) w).drewN nq).trans q2 (fun _ _ e => e)
      go_wp2
      go_ret2
      first | exact ⟨rfl, a', c', q1, q4, q3⟩ | exact ⟨rfl, a', ⟨c', q1⟩, q4, q3⟩

theorem ftext_all (most : Int) (rb : Nat) (a : Option Addr) (cap : Nat) (st : RS) (w : World) (h : Rf w rb a cap st.1 st.2) :
    Calls Tryz.prog 104 #[.pointer (some ⟨rb, 0, none⟩), .int .i64 most] w fun e w' => e = .returned (.tuple #[.string (strOf (textS st most).1), .int .i64 (textS st most).2.1]) ∧
      ∃ a' c', Rf w' rb a' c' (textS st most).2.2.1 (textS st most).2.2.2 ∧ Fr (fun k => k = rb) w w' ∧ Near a a' := by
  obtain ⟨l, err⟩ := st
  by_cases hm : most < 0
  · have e : textS (l, err) most = ([], 1, (l, err)) := by unfold textS; rw [if_pos hm]
    rw [e]
    refine (ftext_arg (some ⟨rb, 0, none⟩) most hm w).mono ?_
    rintro e w' ⟨rfl, rfl⟩
    exact ⟨rfl, a, cap, h, Fr.refl _ _, Near.refl a⟩
  · by_cases he : err = 0
    · subst he
      by_cases h2 : l.length < 2
      · have e : textS (l, 0) most = ([], 10, (l, 10)) := by unfold textS; rw [if_neg hm, if_neg (by simp), if_pos h2]
        rw [e]
        refine (ftext_cut0 most hm rb a cap l (by omega) w h).mono ?_
        rintro e w' ⟨rfl, rfl⟩
        exact ⟨rfl, a, cap, (h.fail 10).1.drew, (h.fail 10).2.drew, Near.refl a⟩
      · obtain ⟨b, off, rfl, hb, hc⟩ : ∃ b off, a = some ⟨b, off, none⟩ ∧ b < w.heap.size ∧ ∀ i, i < l.length → w.cell? ⟨b, off + i, none⟩ = some (.int .u8 ((l.getD i 0 : Nat) : Int)) := by
          rcases h.row.at_ with e | e
          · have e' : l = [] := e
            rw [e'] at h2; simp at h2
          · exact e
        have fin : ∀ (err' : Int) (n m : Nat), Rf (((w.drewN n).setCell ⟨rb, 1, none⟩ (.int .i64 err')).drewN m) rb (some ⟨b, off, none⟩) cap l err' ∧ Fr (fun k => k = rb) w (((w.drewN n).setCell ⟨rb, 1, none⟩ (.int .i64 err')).drewN m) := fun err' n m => by
          have hq : Rf (w.drewN n) rb (some ⟨b, off, none⟩) cap l 0 := ⟨h.box, h.row.same ((Fr.refl (fun _ => False) w).drewN n), h.far⟩
          obtain ⟨r1, r2⟩ := hq.fail err'
          exact ⟨⟨r1.box, r1.row.same ((Fr.refl (fun _ => False) _).drewN m), r1.far⟩, (((Fr.refl (fun k => k = rb) w).drewN n).trans r2 (fun _ _ e => e)).drewN m⟩
        by_cases hv : l.length < 2 + val (l.take 2)
        · have e : textS (l, 0) most = ([], 10, (l, 10)) := by unfold textS; rw [if_neg hm, if_neg (by simp), if_neg h2, if_pos hv]
          rw [e]
          refine (ftext_bad most hm rb b off cap l (by omega) 10 (.inl ⟨hv, rfl⟩) w h hc).mono ?_
          rintro e w' ⟨rfl, n, m, rfl⟩
          exact ⟨rfl, _, cap, (fin 10 n m).1, (fin 10 n m).2, Near.refl _⟩
        · by_cases hlong : most < val (l.take 2)
          · have e : textS (l, 0) most = ([], 2, (l, 2)) := by unfold textS; rw [if_neg hm, if_neg (by simp), if_neg h2, if_neg hv, if_pos hlong]
            rw [e]
            refine (ftext_bad most hm rb b off cap l (by omega) 2 (.inr ⟨by omega, hlong, rfl⟩) w h hc).mono ?_
            rintro e w' ⟨rfl, n, m, rfl⟩
            exact ⟨rfl, _, cap, (fin 2 n m).1, (fin 2 n m).2, Near.refl _⟩
          · have e : textS (l, 0) most = ((l.drop 2).take (val (l.take 2)), 0, (l.drop (2 + val (l.take 2)), 0)) := by unfold textS; rw [if_neg hm, if_neg (by simp), if_neg h2, if_neg hv, if_neg hlong]
            rw [e]
            refine (ftext_ok most hm rb b off cap l (by omega) (by omega) (by omega) w h hb hc).mono ?_
            rintro e w' ⟨rfl, a', c', hrd, hf, hn⟩
            exact ⟨rfl, a', c', hrd, hf, hn⟩
    · have e : textS (l, err) most = ([], err, (l, err)) := by unfold textS; rw [if_neg hm, if_pos (by simpa using he)]
      rw [e]
      refine (ftext_stop most hm rb a cap l err he w h).mono ?_
      rintro e w' ⟨rfl, rfl⟩
      exact ⟨rfl, a, cap, h.drew, (Fr.refl _ _).drew, Near.refl a⟩
end Go.Proofs.YtkibbojiflklpaaGreat
