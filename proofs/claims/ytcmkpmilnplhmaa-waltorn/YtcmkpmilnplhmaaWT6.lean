
/- Read, Seal, RefNum, Speak. -/
import Derived.Test.YtcmkpmilnplhmaaWT5
import Derived.Test.YtcmkpmilnplhmaaWT4
import Derived.Lib.SlBytesConst
/- What package wire's reader does: numberOf, stopped, fail, (*Reader).Num. -/
namespace Go.Proofs.Ytcmkpmilnplhmaa
open Go.RowKit

theorem or_step (r x k : Nat) (hr : r < 256 ^ k) (hx : x < 256) (hk : k < 8) : bits BinOp.or IntKind.u64 (r : Int) (IntKind.u64.wrap ((x : Int) * 2 ^ (8 * k))) = ((r + x * 256 ^ k : Nat) : Int) := by
  have hp : 256 ^ (k + 1) ≤ 18446744073709551616 := pow_le8 (by omega)
  have hp0 : 0 < 256 ^ k := Nat.pow_pos (by omega)
  rw [Nat.pow_succ] at hp
  have hy : x * 256 ^ k ≤ 255 * 256 ^ k := Nat.mul_le_mul_right _ (by omega)
  have e2 : (2 : Int) ^ (8 * k) = ((256 ^ k : Nat) : Int) := by rw [show (256 : Nat) = 2 ^ 8 from rfl, ← Nat.pow_mul]; simp
  have e3 : (x : Int) * ((256 ^ k : Nat) : Int) = ((x * 256 ^ k : Nat) : Int) := by rw [Int.natCast_mul]
  have e4 : IntKind.u64.wrap ((x * 256 ^ k : Nat) : Int) = ((x * 256 ^ k : Nat) : Int) := by
    rw [IntKind.wrap_u64]; omega
  rw [e2, e3, e4, u64_or_nat _ _ (by omega) (by omega), Nat.or_comm]
  have e5 : (256 : Nat) ^ k = 2 ^ (8 * k) := by rw [Nat.pow_mul]
  rw [nat_join (8 * k) (x * 256 ^ k) r (by rw [e5]; exact Nat.mul_mod_left _ _) (by rw [← e5]; exact hr), Nat.add_comm]

set_option maxRecDepth 100000 in
set_option maxHeartbeats 1000000 in
theorem numberOf_any (a : Option Addr) (n cap : Nat) (l : List Nat) (hn : n = l.length) (h8 : l.length ≤ 8) (w : World) (hr : Row w a cap l) :
    Calls Try.prog 53 #[.slice a n cap] w fun e w' => e = .returned (.int .u64 ((val l : Nat) : Int)) ∧ w' = w := by
  subst hn
  rcases hr.at_ with h0 | ⟨b, off, rfl, _, hc⟩
  · subst h0
    go_enter Try.func53, Try.ntmps53
    go_wp2
    refine wp_loop_rounds 1 ?_
    rw [rounds_succ]
    go_wp2
    go_ret
    exact ⟨rfl, rfl⟩
  · go_enter Try.func53, Try.ntmps53
    go_wp2
    go_loop [3, 8] (fun t i => ∃ k : Nat, k ≤ l.length ∧ i = .int .i64 k ∧ t = .int .u64 ((val (l.take k) : Nat) : Int)) (fun _ i => l.length - (intOf i).toNat)
    case atStart => exact ⟨0, by omega, rfl, rfl⟩
    case round =>
      obtain ⟨k, hk, rfl, rfl⟩ := hrel
      by_cases hlt : k < l.length
      · have hcell := hc k hlt
        have hxl := octs_getD hr.byte k
        have HS : Hid (val (l.take (k + 1)) = val (l.take k) + l.getD k 0 * 256 ^ k) := by
          have : (l.take k).length = k := by simp; omega
          rw [take_snoc l k hlt, val_snoc, this]; exact rfl
        have HV : Hid (val (l.take k) < 256 ^ k) := by
          have := val_lt (octs_take hr.byte k)
          have e : (l.take k).length = k := by simp; omega
          rw [e] at this; exact this
        obtain ⟨x, hxd⟩ : ∃ x, x = l.getD k 0 := ⟨_, rfl⟩
        obtain ⟨r, hrd⟩ : ∃ r, r = val (l.take k) := ⟨_, rfl⟩
        rw [← hxd] at hcell hxl HS
        rw [← hrd] at HV HS ⊢
        clear hxd hrd hc
        have hi0 : (0 : Int) ≤ 8 * (k : Int) := by omega
        have hi1 : 8 * (k : Int) ≤ 64 := by omega
        go_wp2
        go_round
        case rel => exact ⟨k + 1, by omega, by go_num, by rw [HS.out, or_step r x k HV.out hxl (by omega)]⟩
        case measure => simp [intOf]; omega
      · have ek : l.take k = l := List.take_of_length_le (by omega)
        rw [ek]
        go_wp2
        go_ret
        exact ⟨rfl, rfl⟩

theorem cell_of_two {w : World} {b : Nat} {v u : Value} {t : TypeId} (h : w.heap[b]? = some (.cells #[v, u] t (0, 0))) : w.cell? ⟨b, 0, none⟩ = some v ∧ w.cell? ⟨b, 1, none⟩ = some u ∧ w.frozen? ⟨b, 0, none⟩ = false ∧ w.frozen? ⟨b, 1, none⟩ = false := by
  refine ⟨?_, ?_, ?_, ?_⟩ <;> simp [World.cell?, World.frozen?, h]
theorem two_setCell0 {w : World} {b : Nat} {v u x : Value} {t : TypeId} (h : w.heap[b]? = some (.cells #[v, u] t (0, 0))) : (w.setCell ⟨b, 0, none⟩ x).heap[b]? = some (.cells #[x, u] t (0, 0)) := by
  have hlt := lt_of_block h
  have h' : w.heap[b] = .cells #[v, u] t (0, 0) := by simpa [Array.getElem?_eq_getElem hlt] using h
  show (w.heap.modify b _)[b]? = _
  rw [Array.getElem?_eq_getElem (by simpa using hlt), Array.getElem_modify_self, h']
  rfl
theorem two_setCell1 {w : World} {b : Nat} {v u x : Value} {t : TypeId} (h : w.heap[b]? = some (.cells #[v, u] t (0, 0))) : (w.setCell ⟨b, 1, none⟩ x).heap[b]? = some (.cells #[v, x] t (0, 0)) := by
  have hlt := lt_of_block h
  have h' : w.heap[b] = .cells #[v, u] t (0, 0) := by simpa [Array.getElem?_eq_getElem hlt] using h
  show (w.heap.modify b _)[b]? = _
  rw [Array.getElem?_eq_getElem (by simpa using hlt), Array.getElem_modify_self, h']
  rfl

theorem Row.take {w : World} {a : Option Addr} {cap : Nat} {l : List Nat} (h : Row w a cap l) (k : Nat) : Row w a cap (l.take k) := by
  refine ⟨by have := h.le; simp; omega, h.max, by have := h.small; simp; omega, octs_take h.byte k, ?_⟩
  rcases h.at_ with h0 | ⟨b, off, rfl, hb, hc⟩
  · exact .inl (by simp [h0])
  · refine .inr ⟨b, off, rfl, hb, fun i hi => ?_⟩
    simp at hi
    rw [hc i (by omega)]
    have hik : i < k := by omega
    simp [List.getD_eq_getElem?_getD, hik]

set_option maxRecDepth 100000 in
set_option maxHeartbeats 400000 in
theorem stopped_any (rb : Nat) (a : Option Addr) (cap : Nat) (l : List Nat) (err : Int) (w : World) (h : Rd w rb a cap l err) :
    Calls Try.prog 51 #[.pointer (some ⟨rb, 0, none⟩)] w fun e w' => e = .returned (.int .i64 err) ∧ w' = w := by
  obtain ⟨h0, h1, _, _⟩ := cell_of_two h.box
  go_enter Try.func51, Try.ntmps51
  go_wp2
  go_ret
  exact ⟨rfl, rfl⟩
set_option maxRecDepth 100000 in
set_option maxHeartbeats 400000 in
theorem fail_any (rb : Nat) (a : Option Addr) (cap : Nat) (l : List Nat) (err err' : Int) (w : World) (h : Rd w rb a cap l err) :
    Calls Try.prog 52 #[.pointer (some ⟨rb, 0, none⟩), .int .i64 err'] w fun e w' => e = .returned (.int .i64 err') ∧ Rd w' rb a cap l err' ∧ Fr (fun k => k = rb) w w' := by
  obtain ⟨h0, h1, f0, f1⟩ := cell_of_two h.box
  have hf : Fr (fun k => k = rb) w (w.setCell ⟨rb, 1, none⟩ (.int .i64 err')) := (Fr.refl (fun k => k = rb) w).setCell (p := ⟨rb, 1, none⟩) (fun _ => rfl) _
  have hrd : Rd (w.setCell ⟨rb, 1, none⟩ (.int .i64 err')) rb a cap l err' := ⟨two_setCell1 h.box, h.row.fr hf (fun b off sp e => h.far b off sp e), h.far⟩
  go_enter Try.func52, Try.ntmps52
  go_wp2
  go_ret
  exact ⟨rfl, hrd, hf⟩

theorem Row.drop {w : World} {b off cap : Nat} {l : List Nat} (h : Row w (some ⟨b, off, none⟩) cap l) (k : Nat) (hk : k ≤ l.length) (off2 : Nat) (ho : cap = k ∨ off2 = off + k) (hc : l = [] ∨ (b < w.heap.size ∧ ∀ i, i < l.length → w.cell? ⟨b, off + i, none⟩ = some (.int .u8 ((l.getD i 0 : Nat) : Int)))) : Row w (some ⟨b, off2, none⟩) (cap - k) (l.drop k) := by
  have h1 := h.le
  refine ⟨by simp; omega, by have := h.max; omega, by have := h.small; simp; omega, fun x hx => h.byte x (List.mem_of_mem_drop hx), ?_⟩
  rcases hc with h0 | ⟨hb, hc⟩
  · exact .inl (by simp [h0])
  · rcases ho with e | e
    · exact .inl (List.drop_eq_nil_of_le (by omega))
    · refine .inr ⟨b, off2, rfl, hb, fun i hi => ?_⟩
      simp at hi
      rw [e, Nat.add_assoc, hc (k + i) (by omega)]
      simp [List.getD_eq_getElem?_getD, List.getElem?_drop]

theorem Rd.advance {w : World} {rb b off cap : Nat} {l : List Nat} (h : Rd w rb (some ⟨b, off, none⟩) cap l 0) (hb : b < w.heap.size) (hc : ∀ i, i < l.length → w.cell? ⟨b, off + i, none⟩ = some (.int .u8 ((l.getD i 0 : Nat) : Int))) (k : Nat) (hk : k ≤ l.length) (off2 : Nat) (ho : cap = k ∨ off2 = off + k) :
    ∃ a' c', Rd (w.setCell ⟨rb, 0, none⟩ (.slice (some ⟨b, off2, none⟩) (l.length - k) (cap - k))) rb a' c' (l.drop k) 0 ∧ Fr (fun k => k = rb) w (w.setCell ⟨rb, 0, none⟩ (.slice (some ⟨b, off2, none⟩) (l.length - k) (cap - k))) ∧ (∀ b' off' sp, a' = some ⟨b', off', sp⟩ → ∃ o s, (some ⟨b, off, none⟩ : Option Addr) = some ⟨b', o, s⟩) := by
  have hf : Fr (fun k => k = rb) w (w.setCell ⟨rb, 0, none⟩ (.slice (some ⟨b, off2, none⟩) (l.length - k) (cap - k))) := (Fr.refl (fun k => k = rb) w).setCell (p := ⟨rb, 0, none⟩) (fun _ => rfl) _
  have hbr : b ≠ rb := h.far b off none rfl
  refine ⟨some ⟨b, off2, none⟩, cap - k, ⟨?_, ?_, ?_⟩, hf, ?_⟩
  · rw [two_setCell0 h.box, List.length_drop]
  · exact (h.row.drop k hk off2 ho (.inr ⟨hb, hc⟩)).fr hf (fun b' o s e => by simp at e; rw [← e.1]; exact hbr)
  · intro b' o s e; simp at e; rw [← e.1]; exact hbr
  · intro b' o s e; simp at e; exact ⟨off, none, by rw [e.1]⟩

set_option maxRecDepth 100000 in
set_option maxHeartbeats 1000000 in
theorem rnum_ok (size : Nat) (hsz : (size : Int) = 1 ∨ (size : Int) = 2 ∨ (size : Int) = 4 ∨ (size : Int) = 8) (rb : Nat) (a : Option Addr) (cap : Nat) (l : List Nat) (hlen : size ≤ l.length) (hval : val (l.take size) < 9223372036854775808) (w : World) (h : Rd w rb a cap l 0) :
    Calls Try.prog 42 #[.pointer (some ⟨rb, 0, none⟩), .int .i64 size] w fun e w' => e = .returned (.tuple #[.int .i64 ((val (l.take size) : Nat) : Int), .int .i64 0]) ∧
      ∃ a' c', Rd w' rb a' c' (l.drop size) 0 ∧ Fr (fun k => k = rb) w w' ∧ (∀ b off sp, a' = some ⟨b, off, sp⟩ → ∃ o s, a = some ⟨b, o, s⟩) := by
  obtain ⟨h0, h1, f0, f1⟩ := cell_of_two h.box
  have HS := hsz
  have hle := h.row.le
  have hmx := h.row.max
  have hsm := h.row.small
  have HZ : Hid ((size : Int) = 1 ∨ (size : Int) = 2 ∨ (size : Int) = 4 ∨ (size : Int) = 8) := hsz
  have hpos : 0 < size ∧ size ≤ 8 := by omega
  clear hsz HS
  have htl : (l.take size).length = size := by simp; omega
  have i0 : (0 : Int) ≤ (size : Int) := by omega
  have i1 : (size : Int) ≤ (l.length : Int) := by omega
  have i2 : (size : Int) ≤ (cap : Int) := by omega
  obtain ⟨b, off, rfl, hb, hc⟩ : ∃ b off, a = some ⟨b, off, none⟩ ∧ b < w.heap.size ∧ ∀ i, i < l.length → w.cell? ⟨b, off + i, none⟩ = some (.int .u8 ((l.getD i 0 : Nat) : Int)) := by
    rcases h.row.at_ with e | e
    · rw [e] at hlen; simp at hlen; omega
    · exact e
  obtain ⟨v, hv⟩ : ∃ v, v = val (l.take size) := ⟨_, rfl⟩
  have HV : Hid (val (l.take size) = v) := hv.symm
  rw [← hv] at hval
  clear hv
  by_cases hcs : cap = size
  · subst hcs
    have hadv := h.advance hb hc cap hlen off (.inl rfl)
    have e0 : l.length - cap = 0 := by omega
    rw [e0, Nat.sub_self] at hadv
    clear e0
    go_enter Try.func42, Try.ntmps42
    go_wp2_with (first | (go_at_call 48; refine (isSize_yes _ HZ.out _).mono ?_; rintro e w' ⟨rfl, rfl⟩) | (go_at_call 51; refine (stopped_any rb _ cap l 0 _ h).mono ?_; rintro e w' ⟨rfl, rfl⟩) | (go_at_call 53; refine (numberOf_any _ cap cap (l.take cap) htl.symm (by omega) _ (h.row.take cap)).mono ?_; rw [HV.out]; rintro e w' ⟨rfl, rfl⟩))
    go_ret2
    exact ⟨by rw [HV.out]; rfl, hadv⟩
  · have hadv := h.advance hb hc size hlen (off + size) (.inr rfl)
    go_enter Try.func42, Try.ntmps42
    go_wp2_with (first | (go_at_call 48; refine (isSize_yes _ HZ.out _).mono ?_; rintro e w' ⟨rfl, rfl⟩) | (go_at_call 51; refine (stopped_any rb _ cap l 0 _ h).mono ?_; rintro e w' ⟨rfl, rfl⟩) | (go_at_call 53; refine (numberOf_any _ size cap (l.take size) htl.symm (by omega) _ (h.row.take size)).mono ?_; rw [HV.out]; rintro e w' ⟨rfl, rfl⟩))
    go_ret2
    exact ⟨by rw [HV.out]; rfl, hadv⟩
end Go.Proofs.Ytcmkpmilnplhmaa

/- What crc.Seal and crc.Open do. -/
namespace Go.Proofs.Ytcmkpmilnplhmaa
open Go.RowKit Crcm

theorem le_le4 (v : Nat) : le 4 v = le4 v := by
  simp [le, le4]

theorem fit4 (v : Nat) (h : v < 4294967296) : fit v ((4 : Nat) : Int) := ⟨by omega, .inr (.inr (.inl ⟨rfl, by omega⟩))⟩

set_option maxRecDepth 100000 in
set_option maxHeartbeats 1000000 in
theorem seal_any (a : Option Addr) (n cap : Nat) (l : List Nat) (hn : n = l.length) (hsm : l.length + 4 ≤ 140737488355328) (w : World) (hr : Row w a cap l) :
    Calls Try.prog 28 #[.slice a n cap] w fun e w' => ∃ v', e = .returned v' ∧ Made w w' v' (l ++ le4 (crc l)) := by
  obtain ⟨i0, hi, hz0, hz1, hz2⟩ := info_parts info8
  subst hn
  have hcl := crc_lt hr.byte
  have hr1 : Row (w.alloc (.cells #[.slice none 0 0] 71)) a cap l := hr.fr ((Fr.refl (fun _ => False) w).alloc _) (fun _ _ _ _ f => f)
  go_enter Try.func28, Try.ntmps28
  go_wp2_with fail
  refine (new_any _).mono ?_
  rintro e w1 ⟨rfl, rfl⟩
  go_wp2_with fail
  refine (sum_any a l.length cap l rfl _ hr1).mono ?_
  rintro e w1 ⟨rfl, rfl⟩
  obtain ⟨cv, hcv⟩ : ∃ cv, cv = crc l := ⟨_, rfl⟩
  rw [← hcv] at hcl ⊢
  have HC : Hid (crc l = cv) := hcv.symm
  clear hcv
  go_wp2_with fail
  refine (wnum_yes cv 4 (fit4 cv hcl) (w.heap.size + 1) w.heap.size (.slice none 0 0) [] _ (Wr.new w) (by simp) (by simp)).mono ?_
  rintro e w2 ⟨rfl, v2, hw2, hf2, hv2⟩
  have f2 : Fr (fun _ => False) w w2 := ((Fr.refl (fun _ => False) w).alloc _).trans hf2 (fun k hk hs => by
    rcases hs with h | h
    · omega
    · simp [Value.ownBlock] at h)
  have hb2 := hw2.own.lt
  have hwb := lt_of_block hw2.box
  have hl64 : (l.length : Int) + 4 ≤ 140737488355328 := by omega
  go_wp2_with (first
    | (at_make; refine wpList_make_own _ rfl _ _ 23 rfl w.heap.size 5 i0 (.int .u8 0) 1 Try.underlying23 hi hz0 hz1 _ _ _ (l.length + 4) rfl rfl (by omega) (by rw [hz2]; omega) (by unfold maxLen; omega) f2.size ?_; intro w3 hown3 hgrow3)
    | (at_builtin; refine wpList_append_row _ rfl _ _ 23 23 5 rfl i0 Try.underlying23 Try.underlying23 hi hz0 hz1 hz2 w.heap.size (.slice (some ⟨w2.heap.size, 0, none⟩) 0 (l.length + 4)) [] rfl hown3 a l.length cap l rfl rfl (hr.same (f2.fresh hgrow3 (by simp))) (by simp; omega) (Nat.le_trans f2.size hgrow3.size) ?_; intro a4 c4 w4 hown4 hgrow4 hat4)
    | fail)
  have f34 : Fr (fun _ => False) w2 w4 := (Fr.refl (fun _ => False) w2).fresh hgrow3 (by simp) |>.fresh hgrow4 (by simp [Value.ownBlock])
  have hw4 : Wr w4 (w.heap.size + 1) w.heap.size v2 ([] ++ le 4 cv) := hw2.fr f34 (fun f => f) (fun _ _ f => f)
  have hoct : octs ([] ++ le 4 cv) := by rw [List.nil_append, le_le4]; exact le4_octs cv
  refine (bytes_any (w.heap.size + 1) w.heap.size v2 ([] ++ le 4 cv) hoct (by simp [le_length]) _ hw4).mono ?_
  rintro e w5 ⟨v5, rfl, hmade⟩
  obtain ⟨a5, c5, hv5, hr5⟩ := hmade.own.row hoct (by simp [le_length])
  have hl5 : ([] ++ le 4 cv).length = 4 := by simp [le_length]
  rw [hl5] at hv5
  rw [hv5]
  have hown5 : Mine w5 w.heap.size (.slice a4 l.length c4) l := by
    have : Mine w4 w.heap.size (.slice a4 l.length c4) l := by simpa using hown4
    exact this.fr hmade.fr (fun _ _ f => f)
  have hge4 : ∀ k, (Value.slice a4 l.length c4).ownBlock = some k → w.heap.size ≤ k := fun k e => (hown5.lt k e).1
  have f5 : Fr (fun _ => False) w w5 := f2.false_trans (f34.false_trans hmade.fr)
  have hs5 := f5.size
  go_wp2_with (at_builtin; refine wpList_append_row _ rfl _ _ 23 23 5 rfl i0 Try.underlying23 Try.underlying23 hi hz0 hz1 hz2 w.heap.size (.slice a4 l.length c4) l rfl hown5 a5 4 c5 ([] ++ le 4 cv) hl5.symm rfl hr5 (by omega) hs5 ?_; intro a6 c6 w6 hown6 hgrow6 hat6)
  go_ret
  refine ⟨_, rfl, ?_, f5.fresh hgrow6 hge4⟩
  rw [HC.out, ← le_le4, ← List.nil_append (le 4 cv)]
  show w6.ownsRow _ _ _ _ _ _
  have e6 : (l ++ ([] ++ le 4 cv)).length = l.length + ([] ++ le 4 cv).length := by simp
  rw [hl5] at hown6 ⊢
  exact hown6

set_option maxRecDepth 100000 in
set_option maxHeartbeats 400000 in
theorem open_cut (a : Option Addr) (n cap : Nat) (hn : n < 4) (w : World) :
    Calls Try.prog 31 #[.slice a n cap] w fun e w' => e = .returned (.tuple #[.slice none 0 0, .int .i64 10]) ∧ w' = w := by
  have h4 : (n : Int) < 4 := by omega
  go_enter Try.func31, Try.ntmps31
  go_wp2
  go_ret2
  exact ⟨rfl, rfl⟩

set_option maxRecDepth 100000 in
set_option maxHeartbeats 1000000 in
theorem open_bad (a : Option Addr) (n k cap : Nat) (l : List Nat) (hn : n = l.length) (hk : n = k + 4) (w : World) (hr : Row w a cap l) (hbad : val (l.drop k) ≠ crc (l.take k)) :
    Calls Try.prog 31 #[.slice a n cap] w fun e w' => e = .returned (.tuple #[.slice none 0 0, .int .i64 20]) ∧ Fr (fun _ => False) w w' := by
  subst hk
  have hsm := hr.small
  have hle := hr.le
  have hmx := hr.max
  have h4 : ¬ ((k : Int) + 4 < 4) := by omega
  have htl : (l.take k).length = k := by simp; omega
  have hdl : (l.drop k).length = 4 := by simp; omega
  obtain ⟨b, off, rfl, hb, hc⟩ : ∃ b off, a = some ⟨b, off, none⟩ ∧ b < w.heap.size ∧ ∀ i, i < l.length → w.cell? ⟨b, off + i, none⟩ = some (.int .u8 ((l.getD i 0 : Nat) : Int)) := by
    rcases hr.at_ with e | e
    · rw [e] at hn; simp at hn
    · exact e
  have hrd : Row w (some ⟨b, off + k, none⟩) (cap - k) (l.drop k) := hr.drop k (by omega) (off + k) (.inr rfl) (.inr ⟨hb, hc⟩)
  have hrt := hr.take k
  have ho := hrd.byte
  have hvl : val (l.drop k) < 4294967296 := by have := val_lt ho; rw [hdl] at this; simpa using this
  have hcl := crc_lt hrt.byte
  have ht4 : (l.drop k).take 4 = l.drop k := List.take_of_length_le (by omega)
  obtain ⟨t, ht⟩ : ∃ t, t = l.drop k := ⟨_, rfl⟩
  obtain ⟨m, hm⟩ : ∃ m, m = l.take k := ⟨_, rfl⟩
  rw [← ht] at hdl hrd ho hvl ht4 hbad
  rw [← hm] at htl hrt hcl hbad
  have hne : ¬ ((val t : Int) = (crc m : Int)) := by omega
  have hne2 : (((val t : Nat) : Int) != ((crc m : Nat) : Int)) = true := by simpa using hne
  have HN : Hid (k + 4 = l.length) := hn
  have hkc : k + 4 ≤ cap := by omega
  clear ht hm hc hbad hr hn hne
  have q1 : (k : Int) ≤ (cap : Int) := by omega
  have q2 : ¬ cap = k := by omega
  go_enter Try.func31, Try.ntmps31
  go_wp2_with fail
  refine (of_any (some ⟨b, off + k, none⟩) 4 (cap - k) t hdl.symm _ hrd).mono ?_
  rintro e w1 ⟨rb, a1, c1, rfl, hrd1, f1, hrb, ha1⟩
  go_wp2_with fail
  refine (rnum_ok 4 (by omega) rb a1 c1 t (by omega) (by rw [ht4]; omega) _ hrd1).mono ?_
  rintro e w2 ⟨rfl, a2, c2, hrd2, f2, ha2⟩
  have f02 : Fr (fun _ => False) w w2 := f1.trans f2 (fun i hi e => by omega)
  rw [ht4]
  clear ht4
  go_wp2_with fail
  refine (sum_any (some ⟨b, off, none⟩) k cap m htl.symm _ (hrt.same f02)).mono ?_
  rintro e w3 ⟨rfl, rfl⟩
  go_wp2
  go_ret2
  exact ⟨rfl, f02⟩
set_option maxRecDepth 100000 in
set_option maxHeartbeats 1000000 in
theorem open_ok (a : Option Addr) (n k cap : Nat) (l : List Nat) (hn : n = l.length) (hk : n = k + 4) (w : World) (hr : Row w a cap l) (hgood : val (l.drop k) = crc (l.take k)) :
    Calls Try.prog 31 #[.slice a n cap] w fun e w' => ∃ v', e = .returned (.tuple #[v', .int .i64 0]) ∧ Made w w' v' (l.take k) := by
  obtain ⟨i0, hi, hz0, hz1, hz2⟩ := info_parts info8
  subst hk
  have hsm := hr.small
  have hle := hr.le
  have hmx := hr.max
  have h4 : ¬ ((k : Int) + 4 < 4) := by omega
  have htl : (l.take k).length = k := by simp; omega
  have hdl : (l.drop k).length = 4 := by simp; omega
  obtain ⟨b, off, rfl, hb, hc⟩ : ∃ b off, a = some ⟨b, off, none⟩ ∧ b < w.heap.size ∧ ∀ i, i < l.length → w.cell? ⟨b, off + i, none⟩ = some (.int .u8 ((l.getD i 0 : Nat) : Int)) := by
    rcases hr.at_ with e | e
    · rw [e] at hn; simp at hn
    · exact e
  have hrd : Row w (some ⟨b, off + k, none⟩) (cap - k) (l.drop k) := hr.drop k (by omega) (off + k) (.inr rfl) (.inr ⟨hb, hc⟩)
  have hrt := hr.take k
  have ho := hrd.byte
  have hvl : val (l.drop k) < 4294967296 := by have := val_lt ho; rw [hdl] at this; simpa using this
  have hcl := crc_lt hrt.byte
  have ht4 : (l.drop k).take 4 = l.drop k := List.take_of_length_le (by omega)
  obtain ⟨t, ht⟩ : ∃ t, t = l.drop k := ⟨_, rfl⟩
  obtain ⟨m, hm⟩ : ∃ m, m = l.take k := ⟨_, rfl⟩
  rw [← ht] at hdl hrd ho hvl ht4 hgood
  rw [← hm] at htl hrt hcl hgood ⊢
  have HG : Hid (val t = crc m) := hgood
  have hk47 : k ≤ 140737600000000 := by omega
  have HN : Hid (k + 4 = l.length) := hn
  have hkc : k + 4 ≤ cap := by omega
  clear ht hm hc hgood hr hn
  have q1 : (k : Int) ≤ (cap : Int) := by omega
  have q2 : ¬ cap = k := by omega
  go_enter Try.func31, Try.ntmps31
  go_wp2_with fail
  refine (of_any (some ⟨b, off + k, none⟩) 4 (cap - k) t hdl.symm _ hrd).mono ?_
  rintro e w1 ⟨rb, a1, c1, rfl, hrd1, f1, hrb, ha1⟩
  go_wp2_with fail
  refine (rnum_ok 4 (by omega) rb a1 c1 t (by omega) (by rw [ht4]; omega) _ hrd1).mono ?_
  rintro e w2 ⟨rfl, a2, c2, hrd2, f2, ha2⟩
  have f02 : Fr (fun _ => False) w w2 := f1.trans f2 (fun i hi e => by omega)
  rw [ht4, HG.out]
  clear ht4
  go_wp2_with fail
  refine (sum_any (some ⟨b, off, none⟩) k cap m htl.symm _ (hrt.same f02)).mono ?_
  rintro e w3 ⟨rfl, rfl⟩
  have hs3 := f02.size
  go_wp2_with (at_builtin; refine wpList_append_rowW _ rfl _ _ 23 23 5 rfl i0 Try.underlying23 Try.underlying23 hi hz0 hz1 hz2 w.heap.size (.slice none 0 0) [] rfl (World.ownsRow_nil _ _ _ _) (some ⟨b, off, none⟩) k cap m htl.symm rfl (hrt.same f02) (by simp; omega) hs3 ?_; intro a' c' w4 hown hgrow)
  go_ret2
  exact ⟨_, rfl, by simpa [htl] using hown, f02.fresh hgrow (by simp [Value.ownBlock])⟩
end Go.Proofs.Ytcmkpmilnplhmaa

/- What the document's own Num makes: the bytes of a number, the lowest first. -/
namespace Go.Proofs.Ytcmkpmilnplhmaa
open Go.RowKit

theorem row_lit {w : World} {B : Nat} {t : TypeId} {fr : Nat × Nat} {l : List Nat} (hl : octs l) (hs : l.length ≤ 140737488355328) (h : w.heap[B]? = some (.cells (cellsOf l).toArray t fr)) : Row w (some ⟨B, 0, none⟩) l.length l := by
  refine ⟨Nat.le_refl _, by omega, by omega, hl, .inr ⟨B, 0, rfl, lt_of_block h, fun i hi => ?_⟩⟩
  rw [Nat.zero_add, cell_of_row w B i _ t fr h]
  simpa using cellsOf_get l i hi
theorem octs_one {x : Nat} (h : x < 256) : octs [x] := by intro y hy; simp at hy; omega
theorem le_octs (k n : Nat) : octs (le k n) := by
  induction k with
  | zero => intro x hx; cases hx
  | succ k ih =>
    intro x hx
    rcases List.mem_append.mp hx with h | h
    · exact ih x h
    · simp at h; omega

end Go.Proofs.Ytcmkpmilnplhmaa

/- latticelaw02.speaks answers true. -/
namespace Go.Proofs.Ytcmkpmilnplhmaa
open Go.RowKit Crcm

theorem crc9 : crc [49, 50, 51, 52, 53, 54, 55, 56, 57] = 3421780262 := by decide +kernel

end Go.Proofs.Ytcmkpmilnplhmaa
