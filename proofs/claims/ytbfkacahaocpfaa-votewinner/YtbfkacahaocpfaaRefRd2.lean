
/- What the document's own reader does: Num, where there are enough bytes. -/
import Derived.Test.YtbfkacahaocpfaaRefRd
namespace Go.Proofs.Ytbfkacahaocpfaa
open Go.RowKit

theorem top_byte {l : List Nat} (ho : octs l) (h8 : l.length = 8) : (9223372036854775808 ≤ val l ↔ 127 < l.getD 7 0) := by
  have h1 := val_split l 7 (by omega)
  have h2 := val_drop l 7 (by omega)
  have h3 : l.drop 8 = [] := List.drop_eq_nil_of_le (by omega)
  rw [h3] at h2
  simp only [val, Nat.mul_zero, Nat.add_zero] at h2
  have h4 := val_lt (octs_take ho 7)
  have h5 : (l.take 7).length = 7 := by simp; omega
  rw [h5] at h4
  rw [h2] at h1
  omega
theorem small_val {l : List Nat} (ho : octs l) (h4 : l.length ≤ 4) : val l < 9223372036854775808 := by
  have h1 := val_lt ho
  have h2 : 256 ^ l.length ≤ 256 ^ 4 := Nat.pow_le_pow_right (by omega) h4
  omega

set_option maxRecDepth 100000 in
set_option maxHeartbeats 1000000 in
theorem fnum_big (rb b off cap : Nat) (l : List Nat) (hlen : 8 ≤ l.length) (hbig : 127 < l.getD 7 0) (w : World) (h : Rf w rb (some ⟨b, off, none⟩) cap l 0) (hc : ∀ i, i < l.length → w.cell? ⟨b, off + i, none⟩ = some (.int .u8 ((l.getD i 0 : Nat) : Int))) :
    Calls Try.prog 38 #[.pointer (some ⟨rb, 0, none⟩), .int .i64 8] w fun e w' => e = .returned (.tuple #[.int .i64 0, .int .i64 1]) ∧ w' = (w.setCell ⟨rb, 1, none⟩ (.int .i64 1)).drew := by
  obtain ⟨h0, h1, f0, f1⟩ := cell_of_two h.box
  have hle := h.row.le
  have hmx := h.row.max
  have hc7 := hc 7 (by omega)
  have hxl := octs_getD h.row.byte 7
  obtain ⟨x, hx⟩ : ∃ x, x = l.getD 7 0 := ⟨_, rfl⟩
  rw [← hx] at hc7 hbig hxl
  clear hx hc
  have i1 : (127 : Int) < (x : Int) := by omega
  have i2 : ¬ (l.length : Int) < 8 := by omega
  have i3 : (7 : Int) < (l.length : Int) := by omega
  have HS : Hid (sizedB 8 = true) := (by decide : sizedB 8 = true)
  go_enter Try.func38, Try.ntmps38
  go_wp2_with (go_at_call 51; refine (refSized_any _ _).mono ?_; rw [HS.out]; rintro e w' ⟨rfl, rfl⟩)
  refine wp_loop_rounds 1 ?_
  rw [rounds_succ]
  go_wp2
  go_region
  all_goals
    go_wp2
    go_ret2
    exact ⟨rfl, rfl⟩

set_option maxRecDepth 100000 in
set_option maxHeartbeats 2000000 in
theorem fnum_ok (size : Nat) (hsz : (size : Int) = 1 ∨ (size : Int) = 2 ∨ (size : Int) = 4 ∨ (size : Int) = 8) (rb b off cap : Nat) (l : List Nat) (hlen : size ≤ l.length) (hval : val (l.take size) < 9223372036854775808) (w : World) (h : Rf w rb (some ⟨b, off, none⟩) cap l 0) (hb : b < w.heap.size) (hc : ∀ i, i < l.length → w.cell? ⟨b, off + i, none⟩ = some (.int .u8 ((l.getD i 0 : Nat) : Int))) :
    Calls Try.prog 38 #[.pointer (some ⟨rb, 0, none⟩), .int .i64 size] w fun e w' => e = .returned (.tuple #[.int .i64 ((val (l.take size) : Nat) : Int), .int .i64 0]) ∧
      ∃ a' c', Rf w' rb a' c' (l.drop size) 0 ∧ Fr (fun k => k = rb) w w' ∧ Near (some ⟨b, off, none⟩) a' := by
  obtain ⟨h0, h1, f0, f1⟩ := cell_of_two h.box
  have hle := h.row.le
  have hmx := h.row.max
  have HS : Hid (sizedB (size : Int) = true) := decide_eq_true hsz
  have hpos : 0 < size ∧ size ≤ 8 := by omega
  have hx7 : size = 8 → l.getD 7 0 ≤ 127 := by
    intro e
    subst e
    have h8 : (l.take 8).length = 8 := by simp; omega
    have := top_byte (octs_take h.row.byte 8) h8
    have e7 : (l.take 8).getD 7 0 = l.getD 7 0 := by simp [List.getD_eq_getElem?_getD]
    rw [e7] at this
    omega
  have HX7 : Hid (size = 8 → l.getD 7 0 ≤ 127) := hx7
  have HC : Hid (∀ i, i < l.length → w.cell? ⟨b, off + i, none⟩ = some (.int .u8 ((l.getD i 0 : Nat) : Int))) := hc
  have HSZ : Hid ((size : Int) = 1 ∨ (size : Int) = 2 ∨ (size : Int) = 4 ∨ (size : Int) = 8) := hsz
  have htl : (l.take size).length = size := by simp; omega
  have HTL : Hid ((l.take size).length = size) := htl
  have HVB : Hid (∀ j, j ≤ size → val ((l.take size).drop j) < 9223372036854775808) := fun j hj => Nat.lt_of_le_of_lt (val_drop_le _ j (by omega)) hval
  have HVS : Hid (∀ j, j < size → val ((l.take size).drop j) = l.getD j 0 + 256 * val ((l.take size).drop (j + 1))) := fun j hj => by
    rw [val_drop _ j (by omega)]
    simp [List.getD_eq_getElem?_getD, hj]
  clear hc hx7 hsz htl
  have i2 : ¬ (l.length : Int) < (size : Int) := by omega
  have i4 : (size : Int) ≤ (cap : Int) := by omega
  go_enter Try.func38, Try.ntmps38
  go_wp2_with (go_at_call 51; refine (refSized_any _ _).mono ?_; rw [HS.out]; rintro e w' ⟨rfl, rfl⟩)
  go_loop [6, 7] (fun t i => ∃ j : Nat, j ≤ size ∧ i = .int .i64 ((j : Int) - 1) ∧ t = .int .i64 ((val ((l.take size).drop j) : Nat) : Int)) (fun _ i => ((intOf i) + 1).toNat)
  case atStart => exact ⟨size, Nat.le_refl _, rfl, by rw [List.drop_eq_nil_of_le (by rw [HTL.out]; exact Nat.le_refl _)]; rfl⟩
  case round =>
    obtain ⟨j, hj, rfl, rfl⟩ := hrel
    by_cases hj0 : j = 0
    · subst hj0
      have ev : (l.take size).drop 0 = l.take size := rfl
      rw [ev]
      obtain ⟨v, hv⟩ : ∃ v, v = val (l.take size) := ⟨_, rfl⟩
      have HV : Hid (val (l.take size) = v) := hv.symm
      rw [← hv]
      clear hv ev
      by_cases hcs : cap = size
      · subst hcs
        have hadv := h.advance hb HC.out cap hlen off (.inl rfl)
        have e0 : l.length - cap = 0 := by omega
        rw [e0, Nat.sub_self] at hadv
        clear e0
        go_wp2
        go_ret2
        obtain ⟨a', c', q1, q2, q3⟩ := hadv
        exact ⟨by rw [HV.out]; rfl, a', ⟨c', q1⟩, q2, q3⟩
      · have hadv := h.advance hb HC.out size hlen (off + size) (.inr rfl)
        go_wp2
        go_ret2
        obtain ⟨a', c', q1, q2, q3⟩ := hadv
        exact ⟨by rw [HV.out]; rfl, a', ⟨c', q1⟩, q2, q3⟩
    · obtain ⟨i, rfl⟩ : ∃ i, j = i + 1 := ⟨j - 1, by omega⟩
      have hci := HC.out i (by omega)
      have hxl := octs_getD h.row.byte i
      have hv1 := HVB.out (i + 1) hj
      have hv0 := HVB.out i (by omega)
      have hvs := HVS.out i (by omega)
      have h7 : i = 7 → l.getD i 0 ≤ 127 := fun e => by subst e; exact HX7.out (by omega)
      obtain ⟨x, hx⟩ : ∃ x, x = l.getD i 0 := ⟨_, rfl⟩
      rw [← hx] at hci hxl hvs h7
      clear hx
      obtain ⟨v1, hv1e⟩ : ∃ v, v = val ((l.take size).drop (i + 1)) := ⟨_, rfl⟩
      rw [← hv1e] at hv1 hvs ⊢
      clear hv1e
      have HV0 : Hid (val ((l.take size).drop i) = x + 256 * v1) := hvs
      rw [hvs] at hv0
      clear hvs
      have ei : (((i + 1 : Nat) : Int) - 1) = (i : Int) := by omega
      rw [ei]
      clear ei
      have q1 : (0 : Int) ≤ (i : Int) := by omega
      have q2 : (i : Int) < (l.length : Int) := by omega
      by_cases hi7 : i = 7
      · have hx127 := h7 hi7
        subst hi7
        have q3 : ¬ (127 : Int) < (x : Int) := by omega
        go_wp2
        go_round
        case rel => exact ⟨7, by omega, by go_num, by rw [HV0.out]; exact val_int (by omega)⟩
        case measure => simp [intOf]
      · have q3 : ((i : Int) == 7) = false := by simp; omega
        go_wp2
        go_round
        case rel => exact ⟨i, by omega, by go_num, by rw [HV0.out]; exact val_int (by omega)⟩
        case measure => simp [intOf]

theorem fnum_all (size : Int) (rb : Nat) (a : Option Addr) (cap : Nat) (st : RS) (w : World) (h : Rf w rb a cap st.1 st.2) :
    Calls Try.prog 38 #[.pointer (some ⟨rb, 0, none⟩), .int .i64 size] w fun e w' => e = .returned (.tuple #[.int .i64 (numS st size).1, .int .i64 (numS st size).2.1]) ∧
      ∃ a' c', Rf w' rb a' c' (numS st size).2.2.1 (numS st size).2.2.2 ∧ Fr (fun k => k = rb) w w' ∧ Near a a' := by
  obtain ⟨l, err⟩ := st
  by_cases hs : size = 1 ∨ size = 2 ∨ size = 4 ∨ size = 8
  · have hsb : sizedB size = true := decide_eq_true hs
    obtain ⟨sz, rfl⟩ := Int.eq_ofNat_of_zero_le (a := size) (by omega)
    by_cases he : err = 0
    · subst he
      by_cases hlt : l.length < sz
      · have e : numS (l, 0) sz = (0, 10, (l, 10)) := by unfold numS; rw [if_neg (not_not_intro hs), if_neg (by simp), if_pos (by simpa using hlt)]
        rw [e]
        refine (fnum_cut sz hsb rb a cap l (by omega) w h).mono ?_
        rintro e w' ⟨rfl, rfl⟩
        exact ⟨rfl, a, cap, (h.fail 10).1.drew, (h.fail 10).2.drew, Near.refl a⟩
      · obtain ⟨b, off, rfl, hb, hc⟩ : ∃ b off, a = some ⟨b, off, none⟩ ∧ b < w.heap.size ∧ ∀ i, i < l.length → w.cell? ⟨b, off + i, none⟩ = some (.int .u8 ((l.getD i 0 : Nat) : Int)) := by
          rcases h.row.at_ with e | e
          · have e' : l = [] := e
            rw [e'] at hlt; simp at hlt; omega
          · exact e
        have ho : octs l := h.row.byte
        by_cases hv : 9223372036854775808 ≤ val (l.take sz)
        · have e : numS (l, 0) sz = (0, 1, (l, 1)) := by unfold numS; rw [if_neg (not_not_intro hs), if_neg (by simp), if_neg (by simpa using hlt), if_pos (by simpa using hv)]
          rw [e]
          have h8 : sz = 8 := by
            have h1 : (l.take sz).length = sz := by simp; omega
            by_cases h4 : sz ≤ 4
            · have := small_val (octs_take ho sz) (by omega); omega
            · omega
          subst h8
          have ht8 : (l.take 8).length = 8 := by simp; omega
          have h7 := (top_byte (octs_take ho 8) ht8).mp hv
          have e7 : (l.take 8).getD 7 0 = l.getD 7 0 := by simp [List.getD_eq_getElem?_getD]
          rw [e7] at h7
          refine (fnum_big rb b off cap l (by omega) h7 w h hc).mono ?_
          rintro e w' ⟨rfl, rfl⟩
          exact ⟨rfl, _, cap, (h.fail 1).1.drew, (h.fail 1).2.drew, Near.refl _⟩
        · have e : numS (l, 0) sz = ((val (l.take sz) : Int), 0, (l.drop sz, 0)) := by unfold numS; rw [if_neg (not_not_intro hs), if_neg (by simp), if_neg (by simpa using hlt), if_neg (by simpa using hv)]; rfl
          rw [e]
          refine (fnum_ok sz hs rb b off cap l (by omega) (by omega) w h hb hc).mono ?_
          rintro e w' ⟨rfl, a', c', hrd, hf, hn⟩
          exact ⟨rfl, a', c', hrd, hf, hn⟩
    · have e : numS (l, err) sz = (0, err, (l, err)) := by unfold numS; rw [if_neg (not_not_intro hs), if_pos (by simpa using he)]
      rw [e]
      refine (fnum_stop sz hsb rb a cap l err he w h).mono ?_
      rintro e w' ⟨rfl, rfl⟩
      exact ⟨rfl, a, cap, h.drew, (Fr.refl _ _).drew, Near.refl a⟩
  · have e : numS (l, err) size = (0, 1, (l, err)) := by unfold numS; rw [if_pos hs]
    rw [e]
    refine (fnum_arg (some ⟨rb, 0, none⟩) size (decide_eq_false hs) w).mono ?_
    rintro e w' ⟨rfl, rfl⟩
    exact ⟨rfl, a, cap, h, Fr.refl _ _, Near.refl a⟩
end Go.Proofs.Ytbfkacahaocpfaa
