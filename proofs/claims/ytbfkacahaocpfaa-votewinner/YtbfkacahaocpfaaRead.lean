
/- What package wire's reader does: numberOf, stopped, fail, (*Reader).Num. -/
import Derived.Test.YtbfkacahaocpfaaWire
namespace Go.Proofs.Ytbfkacahaocpfaa
open Go.RowKit

theorem or_step (r x k : Nat) (hr : r < 256 ^ k) (hx : x < 256) (hk : k < 8) : bits BinOp.or IntKind.u64 (r : Int) (IntKind.u64.wrap ((x : Int) * 2 ^ (8 * k))) = ((r + x * 256 ^ k : Nat) : Int) := by
  have hp : 256 ^ (k + 1) ≤ 18446744073709551616 := pow_le8 (by omega)
  have hp0 : 0 < 256 ^ k := Nat.pow_pos (by omega)
  rw [Nat.pow_succ] at hp
  have hy : x * 256 ^ k ≤ 255 * 256 ^ k := Nat.mul_le_mul_right _ (by omega)
  have e2 : (2 : Int) ^ (8 * k) = ((256 ^ k : Nat) : Int) := by rw [show (256 : Nat) = 2 ^ 8 from rfl, ← Nat.pow_mul]; simp
  have e3 : (x : Int) * ((256 ^ k : Nat) : Int) = ((x * 256 ^ k : Nat) : Int) := by rw [Int.natCast_mul]
  have e4 : IntKind.u64.wrap ((x * 256 ^ k : Nat) : Int) = ((x * 256 ^ k : Nat) : Int) := by
    rw [IntKind.wrap_u64]; omega
  rw [e2, e3, e4, u64_or_nat _ _ (by omega) (by omega), Nat.or_comm]
  have e5 : (256 : Nat) ^ k = 2 ^ (8 * k) := by rw [Nat.pow_mul]
  rw [nat_join (8 * k) (x * 256 ^ k) r (by rw [e5]; exact Nat.mul_mod_left _ _) (by rw [← e5]; exact hr), Nat.add_comm]

set_option maxRecDepth 100000 in
set_option maxHeartbeats 1000000 in
theorem numberOf_any (a : Option Addr) (n cap : Nat) (l : List Nat) (hn : n = l.length) (h8 : l.length ≤ 8) (w : World) (hr : Row w a cap l) :
    Calls Try.prog 58 #[.slice a n cap] w fun e w' => e = .returned (.int .u64 ((val l : Nat) : Int)) ∧ w' = w := by
  subst hn
  rcases hr.at_ with h0 | ⟨b, off, rfl, _, hc⟩
  · subst h0
    go_enter Try.func58, Try.ntmps58
    go_wp2
    refine wp_loop_rounds 1 ?_
    rw [rounds_succ]
    go_wp2
    go_ret
    exact ⟨rfl, rfl⟩
  · go_enter Try.func58, Try.ntmps58
    go_wp2
    go_loop [3, 8] (fun t i => ∃ k : Nat, k ≤ l.length ∧ i = .int .i64 k ∧ t = .int .u64 ((val (l.take k) : Nat) : Int)) (fun _ i => l.length - (intOf i).toNat)
    case atStart => exact ⟨0, by omega, rfl, rfl⟩
    case round =>
      obtain ⟨k, hk, rfl, rfl⟩ := hrel
      by_cases hlt : k < l.length
      · have hcell := hc k hlt
        have hxl := octs_getD hr.byte k
        have HS : Hid (val (l.take (k + 1)) = val (l.take k) + l.getD k 0 * 256 ^ k) := by
          have : (l.take k).length = k := by simp; omega
          rw [take_snoc l k hlt, val_snoc, this]; exact rfl
        have HV : Hid (val (l.take k) < 256 ^ k) := by
          have := val_lt (octs_take hr.byte k)
          have e : (l.take k).length = k := by simp; omega
          rw [e] at this; exact this
        obtain ⟨x, hxd⟩ : ∃ x, x = l.getD k 0 := ⟨_, rfl⟩
        obtain ⟨r, hrd⟩ : ∃ r, r = val (l.take k) := ⟨_, rfl⟩
        rw [← hxd] at hcell hxl HS
        rw [← hrd] at HV HS ⊢
        clear hxd hrd hc
        have hi0 : (0 : Int) ≤ 8 * (k : Int) := by omega
        have hi1 : 8 * (k : Int) ≤ 64 := by omega
        go_wp2
        go_round
        case rel => exact ⟨k + 1, by omega, by go_num, by rw [HS.out, or_step r x k HV.out hxl (by omega)]⟩
        case measure => simp [intOf]; omega
      · have ek : l.take k = l := List.take_of_length_le (by omega)
        rw [ek]
        go_wp2
        go_ret
        exact ⟨rfl, rfl⟩

theorem cell_of_two {w : World} {b : Nat} {v u : Value} {t : TypeId} (h : w.heap[b]? = some (.cells #[v, u] t (0, 0))) : w.cell? ⟨b, 0, none⟩ = some v ∧ w.cell? ⟨b, 1, none⟩ = some u ∧ w.frozen? ⟨b, 0, none⟩ = false ∧ w.frozen? ⟨b, 1, none⟩ = false := by
  refine ⟨?_, ?_, ?_, ?_⟩ <;> simp [World.cell?, World.frozen?, h]
theorem two_setCell0 {w : World} {b : Nat} {v u x : Value} {t : TypeId} (h : w.heap[b]? = some (.cells #[v, u] t (0, 0))) : (w.setCell ⟨b, 0, none⟩ x).heap[b]? = some (.cells #[x, u] t (0, 0)) := by
  have hlt := lt_of_block h
  have h' : w.heap[b] = .cells #[v, u] t (0, 0) := by simpa [Array.getElem?_eq_getElem hlt] using h
  show (w.heap.modify b _)[b]? = _
  rw [Array.getElem?_eq_getElem (by simpa using hlt), Array.getElem_modify_self, h']
  rfl
theorem two_setCell1 {w : World} {b : Nat} {v u x : Value} {t : TypeId} (h : w.heap[b]? = some (.cells #[v, u] t (0, 0))) : (w.setCell ⟨b, 1, none⟩ x).heap[b]? = some (.cells #[v, x] t (0, 0)) := by
  have hlt := lt_of_block h
  have h' : w.heap[b] = .cells #[v, u] t (0, 0) := by simpa [Array.getElem?_eq_getElem hlt] using h
  show (w.heap.modify b _)[b]? = _
  rw [Array.getElem?_eq_getElem (by simpa using hlt), Array.getElem_modify_self, h']
  rfl

theorem Row.take {w : World} {a : Option Addr} {cap : Nat} {l : List Nat} (h : Row w a cap l) (k : Nat) : Row w a cap (l.take k) := by
  refine ⟨by have := h.le; simp; omega, h.max, by have := h.small; simp; omega, octs_take h.byte k, ?_⟩
  rcases h.at_ with h0 | ⟨b, off, rfl, hb, hc⟩
  · exact .inl (by simp [h0])
  · refine .inr ⟨b, off, rfl, hb, fun i hi => ?_⟩
    simp at hi
    rw [hc i (by omega)]
    have hik : i < k := by omega
    simp [List.getD_eq_getElem?_getD, hik]

set_option maxRecDepth 100000 in
set_option maxHeartbeats 400000 in
theorem stopped_any (rb : Nat) (a : Option Addr) (cap : Nat) (l : List Nat) (err : Int) (w : World) (h : Rd w rb a cap l err) :
    Calls Try.prog 56 #[.pointer (some ⟨rb, 0, none⟩)] w fun e w' => e = .returned (.int .i64 err) ∧ w' = w := by
  obtain ⟨h0, h1, _, _⟩ := cell_of_two h.box
  go_enter Try.func56, Try.ntmps56
  go_wp2
  go_ret
  exact ⟨rfl, rfl⟩
set_option maxRecDepth 100000 in
set_option maxHeartbeats 400000 in
theorem fail_any (rb : Nat) (a : Option Addr) (cap : Nat) (l : List Nat) (err err' : Int) (w : World) (h : Rd w rb a cap l err) :
    Calls Try.prog 57 #[.pointer (some ⟨rb, 0, none⟩), .int .i64 err'] w fun e w' => e = .returned (.int .i64 err') ∧ Rd w' rb a cap l err' ∧ Fr (fun k => k = rb) w w' := by
  obtain ⟨h0, h1, f0, f1⟩ := cell_of_two h.box
  have hf : Fr (fun k => k = rb) w (w.setCell ⟨rb, 1, none⟩ (.int .i64 err')) := (Fr.refl (fun k => k = rb) w).setCell (p := ⟨rb, 1, none⟩) (fun _ => rfl) _
  have hrd : Rd (w.setCell ⟨rb, 1, none⟩ (.int .i64 err')) rb a cap l err' := ⟨two_setCell1 h.box, h.row.fr hf (fun b off sp e => h.far b off sp e), h.far⟩
  go_enter Try.func57, Try.ntmps57
  go_wp2
  go_ret
  exact ⟨rfl, hrd, hf⟩

theorem Row.drop {w : World} {b off cap : Nat} {l : List Nat} (h : Row w (some ⟨b, off, none⟩) cap l) (k : Nat) (hk : k ≤ l.length) (off2 : Nat) (ho : cap = k ∨ off2 = off + k) (hc : l = [] ∨ (b < w.heap.size ∧ ∀ i, i < l.length → w.cell? ⟨b, off + i, none⟩ = some (.int .u8 ((l.getD i 0 : Nat) : Int)))) : Row w (some ⟨b, off2, none⟩) (cap - k) (l.drop k) := by
  have h1 := h.le
  refine ⟨by simp; omega, by have := h.max; omega, by have := h.small; simp; omega, fun x hx => h.byte x (List.mem_of_mem_drop hx), ?_⟩
  rcases hc with h0 | ⟨hb, hc⟩
  · exact .inl (by simp [h0])
  · rcases ho with e | e
    · exact .inl (List.drop_eq_nil_of_le (by omega))
    · refine .inr ⟨b, off2, rfl, hb, fun i hi => ?_⟩
      simp at hi
      rw [e, Nat.add_assoc, hc (k + i) (by omega)]
      simp [List.getD_eq_getElem?_getD, List.getElem?_drop]

theorem Rd.advance {w : World} {rb b off cap : Nat} {l : List Nat} (h : Rd w rb (some ⟨b, off, none⟩) cap l 0) (hb : b < w.heap.size) (hc : ∀ i, i < l.length → w.cell? ⟨b, off + i, none⟩ = some (.int .u8 ((l.getD i 0 : Nat) : Int))) (k : Nat) (hk : k ≤ l.length) (off2 : Nat) (ho : cap = k ∨ off2 = off + k) :
    ∃ a' c', Rd (w.setCell ⟨rb, 0, none⟩ (.slice (some ⟨b, off2, none⟩) (l.length - k) (cap - k))) rb a' c' (l.drop k) 0 ∧ Fr (fun k => k = rb) w (w.setCell ⟨rb, 0, none⟩ (.slice (some ⟨b, off2, none⟩) (l.length - k) (cap - k))) ∧ (∀ b' off' sp, a' = some ⟨b', off', sp⟩ → ∃ o s, (some ⟨b, off, none⟩ : Option Addr) = some ⟨b', o, s⟩) := by
  have hf : Fr (fun k => k = rb) w (w.setCell ⟨rb, 0, none⟩ (.slice (some ⟨b, off2, none⟩) (l.length - k) (cap - k))) := (Fr.refl (fun k => k = rb) w).setCell (p := ⟨rb, 0, none⟩) (fun _ => rfl) _
  have hbr : b ≠ rb := h.far b off none rfl
  refine ⟨some ⟨b, off2, none⟩, cap - k, ⟨?_, ?_, ?_⟩, hf, ?_⟩
  · rw [two_setCell0 h.box, List.length_drop]
  · exact (h.row.drop k hk off2 ho (.inr ⟨hb, hc⟩)).fr hf (fun b' o s e => by simp at e; rw [← e.1]; exact hbr)
  · intro b' o s e; simp at e; rw [← e.1]; exact hbr
  · intro b' o s e; simp at e; exact ⟨off, none, by rw [e.1]⟩

set_option maxRecDepth 100000 in
set_option maxHeartbeats 1000000 in
theorem rnum_ok (size : Nat) (hsz : (size : Int) = 1 ∨ (size : Int) = 2 ∨ (size : Int) = 4 ∨ (size : Int) = 8) (rb : Nat) (a : Option Addr) (cap : Nat) (l : List Nat) (hlen : size ≤ l.length) (hval : val (l.take size) < 9223372036854775808) (w : World) (h : Rd w rb a cap l 0) :
    Calls Try.prog 49 #[.pointer (some ⟨rb, 0, none⟩), .int .i64 size] w fun e w' => e = .returned (.tuple #[.int .i64 ((val (l.take size) : Nat) : Int), .int .i64 0]) ∧
      ∃ a' c', Rd w' rb a' c' (l.drop size) 0 ∧ Fr (fun k => k = rb) w w' ∧ (∀ b off sp, a' = some ⟨b, off, sp⟩ → ∃ o s, a = some ⟨b, o, s⟩) := by
  obtain ⟨h0, h1, f0, f1⟩ := cell_of_two h.box
  have HS := hsz
  have hle := h.row.le
  have hmx := h.row.max
  have hsm := h.row.small
  have HZ : Hid ((size : Int) = 1 ∨ (size : Int) = 2 ∨ (size : Int) = 4 ∨ (size : Int) = 8) := hsz
  have hpos : 0 < size ∧ size ≤ 8 := by omega
  clear hsz HS
  have htl : (l.take size).length = size := by simp; omega
  have i0 : (0 : Int) ≤ (size : Int) := by omega
  have i1 : (size : Int) ≤ (l.length : Int) := by omega
  have i2 : (size : Int) ≤ (cap : Int) := by omega
  obtain ⟨b, off, rfl, hb, hc⟩ : ∃ b off, a = some ⟨b, off, none⟩ ∧ b < w.heap.size ∧ ∀ i, i < l.length → w.cell? ⟨b, off + i, none⟩ = some (.int .u8 ((l.getD i 0 : Nat) : Int)) := by
    rcases h.row.at_ with e | e
    · rw [e] at hlen; simp at hlen; omega
    · exact e
  obtain ⟨v, hv⟩ : ∃ v, v = val (l.take size) := ⟨_, rfl⟩
  have HV : Hid (val (l.take size) = v) := hv.symm
  rw [← hv] at hval
  clear hv
  by_cases hcs : cap = size
  · subst hcs
    have hadv := h.advance hb hc cap hlen off (.inl rfl)
    have e0 : l.length - cap = 0 := by omega
    rw [e0, Nat.sub_self] at hadv
    clear e0
    go_enter Try.func49, Try.ntmps49
    go_wp2_with (first | (go_at_call 43; refine (isSize_yes _ HZ.out _).mono ?_; rintro e w' ⟨rfl, rfl⟩) | (go_at_call 56; refine (stopped_any rb _ cap l 0 _ h).mono ?_; rintro e w' ⟨rfl, rfl⟩) | (go_at_call 58; refine (numberOf_any _ cap cap (l.take cap) htl.symm (by omega) _ (h.row.take cap)).mono ?_; rw [HV.out]; rintro e w' ⟨rfl, rfl⟩))
    go_ret2
    exact ⟨by rw [HV.out]; rfl, hadv⟩
  · have hadv := h.advance hb hc size hlen (off + size) (.inr rfl)
    go_enter Try.func49, Try.ntmps49
    go_wp2_with (first | (go_at_call 43; refine (isSize_yes _ HZ.out _).mono ?_; rintro e w' ⟨rfl, rfl⟩) | (go_at_call 56; refine (stopped_any rb _ cap l 0 _ h).mono ?_; rintro e w' ⟨rfl, rfl⟩) | (go_at_call 58; refine (numberOf_any _ size cap (l.take size) htl.symm (by omega) _ (h.row.take size)).mono ?_; rw [HV.out]; rintro e w' ⟨rfl, rfl⟩))
    go_ret2
    exact ⟨by rw [HV.out]; rfl, hadv⟩
end Go.Proofs.Ytbfkacahaocpfaa
