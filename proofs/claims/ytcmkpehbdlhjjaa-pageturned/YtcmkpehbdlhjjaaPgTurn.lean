
/- A page of which a bit is turned. -/
import Derived.Test.YtcmkpehbdlhjjaaPgSpeak
namespace Go.Proofs.Ytcmkpehbdlhjjaa
open Go.RowKit Crcm

theorem tturn_cell (x m : Nat) (hx : x < 256) (hm : m < 8) : bits BinOp.xor IntKind.u8 (x : Int) (2 ^ m % 256) = ((x ^^^ 2 ^ m : Nat) : Int) := by
  have hp : 2 ^ m < 256 := Nat.pow_lt_pow_right (a := 2) (by omega) hm
  have e : ((2 : Int) ^ m % 256) = ((2 ^ m : Nat) : Int) := by
    have e1 : (2 : Int) ^ m = ((2 ^ m : Nat) : Int) := by simp
    rw [e1]
    generalize 2 ^ m = q at hp ⊢
    omega
  rw [e, u8_xor_nat _ _ hx hp]
theorem tocts_set {L : List Nat} (h : octs L) (j y : Nat) (hy : y < 256) : octs (L.set j y) := by
  intro x hx
  rcases List.mem_or_eq_of_mem_set hx with h1 | h1
  · exact h x h1
  · omega
theorem xor_small {x m : Nat} (hx : x < 256) (hm : m < 8) : x ^^^ 2 ^ m < 256 := Nat.xor_lt_two_pow (n := 8) (by omega) (Nat.pow_lt_pow_right (a := 2) (by omega) hm)
theorem dec_turned (n : Nd) (hl : (pg n).length = 256) (k m : Nat) (hk : k < 256) (hm : m < 8) : decF ((pg n).set k ((pg n).getD k 0 ^^^ 2 ^ m)) = none := by
  have hx := octs_getD (pg_octs n) k
  have hy := xor_small hx hm
  have ho := tocts_set (pg_octs n) k _ hy
  have hkL : k < (pg n).length := by omega
  have hxe : (pg n).getD k 0 = (pg n)[k] := by rw [List.getD_eq_getElem?_getD, List.getElem?_eq_getElem hkL]; rfl
  have hr : reg 4294967295 (pg n) = steps 32 4294967295 := by
    unfold pg; rw [le_le4]; exact seal_reg _ (pad_octs (nb_octs n))
  have ht := reg_turn 4294967295 (pg n) k (2 ^ m) hkL
  rw [← hxe, hr] at ht
  obtain ⟨L, hL⟩ : ∃ L, L = (pg n).set k ((pg n).getD k 0 ^^^ 2 ^ m) := ⟨_, rfl⟩
  rw [← hL] at ht ho ⊢
  have hLl : L.length = 256 := by rw [hL, List.length_set, hl]
  have hp : 2 ^ m < 256 := Nat.pow_lt_pow_right (a := 2) (by omega) hm
  have hp0 : 2 ^ m ≠ 0 := Nat.ne_of_gt (Nat.pow_pos (by omega))
  have hf : val (L.drop 252) ≠ crc (L.take 252) := by
    refine turned_found (L.take 252) (L.drop 252) (8 * ((pg n).length - k)) (2 ^ m) (octs_take ho 252) (fun x hx => ho x (List.mem_of_mem_drop hx)) (by simp; omega) (by omega) hp0 ?_
    rw [List.take_append_drop]; exact ht
  have hop : (opened L).2 = 20 := by
    unfold opened
    rw [if_neg (by omega), hLl, if_neg hf]
  unfold decF
  rw [if_neg]
  intro h
  have := h.2.1
  omega
theorem set_one (w : World) (g k : Nat) (v : Value) : w.setCells g k [v] = w.setCell ⟨g, k, none⟩ v := rfl
theorem set_list (l : List Nat) (k y : Nat) (h : k < l.length) : l.take k ++ [y] ++ l.drop (k + 1) = l.set k y := by
  rw [List.set_eq_take_append_cons_drop, if_pos h]; simp
theorem Arr.put {w : World} {g : Nat} {l : List Nat} (h : Arr w g l) (k y : Nat) (hk : k < 256) : Arr (w.setCell ⟨g, k, none⟩ (.int .u8 (y : Int))) g (l.set k y) := by
  have := h.set k [y] (by simp; omega)
  rw [show l.take k ++ [y] ++ l.drop (k + [y].length) = l.set k y from set_list l k y (by rw [h.length]; exact hk)] at this
  exact this
theorem arr_at {w : World} {g : Nat} {l : List Nat} (h : Arr w g l) (k : Nat) (hk : k < 256) : w.cell? ⟨g, k, none⟩ = some (.int .u8 ((l.getD k 0 : Nat) : Int)) := by
  have := h.range k _ (cellsOf_get l k (by rw [h.length]; exact hk))
  simpa using this
theorem arr_froz {w : World} {g : Nat} {l : List Nat} (h : Arr w g l) (k : Nat) (hk : k < 256) : w.frozen? ⟨g, k, none⟩ = false := by
  have := (h.there k hk).2
  simpa using this
theorem decode_none (a : Option Addr) (cap : Nat) (l : List Nat) (hl : l.length = 256) (w : World) (hr : Row w a cap l) (hd : decF l = none) :
    Calls Try.prog 16 #[.slice a 256 cap] w fun e w' => ∃ p3 : Pt, e = .returned (.tuple #[(.agg #[.int .i64 zn.lev, .int .i64 zn.lsn, .int .i64 zn.rgt, .string zn.high, .slice p3.k zn.keys.length p3.kc, .slice p3.v zn.vals.length p3.vc, .slice p3.i zn.kids.length p3.ic]), .int .i64 60]) ∧ Nod w' zn p3 ∧ Fr (fun _ => False) w w' := by
  have h := decode_256 a cap l hl w hr
  unfold DecOut at h
  rw [hd] at h
  exact h
end Go.Proofs.Ytcmkpehbdlhjjaa
