
/- The map that bytes say. -/
import Derived.Test.YtgilemiejemgkaaAlRef2
namespace Go.Proofs.Ytgilemiejemgkaa
open Go.RowKit

section
variable {P : Program}
theorem wpList_copy_row {ops : Array Oper} {rest : List Oper} {o : Oper} {a : Act} {w : World} {Q : Exit → Act → World → Prop} (hgd : o.guard = none) (x y : Operand) (dT sT : TypeId) (ho : o.op = .call { callee := .builtin .copy, args := #[x, y], argTypes := #[dT, sT] })
    (hu : P.underlying dT = some (.slice 5)) (hs : (P.info? 5).map (·.size) = some 1) (b off dLen dCap : Nat) (ad : Option Addr) (n cap : Nat) (l : List Nat) (hx : a.eval x = .slice (some ⟨b, off, none⟩) dLen dCap) (hy : a.eval y = .slice ad n cap) (hn : n = l.length) (hle : l.length ≤ dLen) (hr : Row w ad cap l) (ht : w.there b off l.length)
    (h : wpList P ops Q rest (a.put o.dst (goInt l.length)) (w.setCells b off (cellsOf l))) : wpList P ops Q (o :: rest) a w :=
  wpList_plain hgd fun _ hK => by
    subst hn
    have hrun : (Builtin.copy_ #[dT, sT] o.type #[.slice (some ⟨b, off, none⟩) dLen dCap, .slice ad l.length cap]).run P w = .ok (goInt l.length) (w.setCells b off (cellsOf l)) := by
      rcases hr.at_ with h0 | ⟨b', off', rfl, _, hc⟩
      · subst h0
        exact run_copy_none w dT sT _ 5 _ _ dLen dCap 0 cap hu hs (by simp)
      · have := run_copy_cells (P := P) w dT sT o.type 5 b off dLen dCap ⟨b', off', none⟩ l.length cap (cellsOf l) hu hs (by rw [cellsOf_length]; exact (Nat.min_eq_left hle).symm) (fun j v hv => by
          rw [Addr.add_lit]
          have hj : j < l.length := by have := (List.getElem?_eq_some_iff.1 hv).1; rwa [cellsOf_length] at this
          rw [cellsOf_get l j hj] at hv
          rw [hc j hj]; exact hv) (fun j hj => (ht j (by rwa [cellsOf_length] at hj)).1) (fun j hj => (ht j (by rwa [cellsOf_length] at hj)).2) (cellsOf_oneCell l)
        rwa [cellsOf_length] at this
    unfold Oper.wp execOp
    simp only [ho, resolve, invoke, builtin, Sem.run_bind, Sem.run_pure, Result.andThen_ok, List.map_toArray, List.map_cons, List.map_nil, hx, hy, hrun]
    exact hK _ _ h
end

/-- Whether bytes are a map's, as the program asks. -/
def fromOK (most : Nat) (l : List Nat) : Prop := l.length = (most + 7) / 8 ∧ lnv (l.getD (l.length - 1) 0) ≤ (most - 1) % 8 + 1
theorem ln_lt {x e : Nat} (hx : x < 256) (h : lnv x ≤ e) : x < 2 ^ e := Nat.lt_of_lt_of_le (ln_facts ⟨x, hx⟩).2.1 (Nat.pow_le_pow_right (by omega) h)
theorem ln_le {x e : Nat} (hx : x < 256) (h : x < 2 ^ e) : lnv x ≤ e := by
  have hf := ln_facts ⟨x, hx⟩
  rcases Nat.lt_or_ge e (lnv x) with h1 | h1
  · exfalso
    have h8 := hf.1
    simp only at h8 hf
    have := hf.2.2 ⟨lnv x - 1, by omega⟩ (by simp only; omega)
    simp only at this
    rw [Nat.testBit_lt_two_pow (Nat.lt_of_lt_of_le h (Nat.pow_le_pow_right (by omega) (by omega)))] at this
    cases this
  · exact h1
/-- What the document reads. -/
theorem from_iff (most : Nat) (h1 : 1 ≤ most) (h4 : most ≤ 4096) (l : List Nat) (hl : octs l) : ((part l 512 most).take ((most + 7) / 8) = l) ↔ fromOK most l := by
  have hpl : ((part l 512 most).take ((most + 7) / 8)).length = (most + 7) / 8 := by rw [List.length_take, part_length]; omega
  have hget : ∀ q, q < (most + 7) / 8 → ((part l 512 most).take ((most + 7) / 8)).getD q 0 = l.getD q 0 % 2 ^ (most - 8 * q) := fun q hq => by
    rw [List.getD_eq_getElem?_getD, List.getElem?_take, if_pos hq, ← List.getD_eq_getElem?_getD, part_get _ _ _ _ (by omega)]
  constructor
  · intro h
    have hlen : l.length = (most + 7) / 8 := by rw [← h, hpl]
    refine ⟨hlen, ln_le (octs_getD hl _) ?_⟩
    have := hget (l.length - 1) (by omega)
    rw [h] at this
    rw [this]
    have e : most - 8 * (l.length - 1) = (most - 1) % 8 + 1 := by omega
    rw [e]
    exact Nat.mod_lt _ (Nat.pow_pos (by omega))
  · rintro ⟨hlen, hln⟩
    apply List.ext_getElem
    · rw [hpl, hlen]
    · intro q q1 q2
      have hq : q < (most + 7) / 8 := by omega
      have e1 := hget q hq
      rw [List.getD_eq_getElem?_getD, List.getElem?_eq_getElem q1, Option.getD_some] at e1
      rw [e1]
      have e2 : l.getD q 0 = l[q] := by rw [List.getD_eq_getElem?_getD, List.getElem?_eq_getElem q2]; rfl
      rw [e2]
      have hx := octs_getD hl q
      rcases Nat.lt_or_ge q (l.length - 1) with h3 | h3
      · rw [← e2]; exact mod_big hx (by omega)
      · have hq2 : q = l.length - 1 := by omega
        have := ln_lt (octs_getD hl (l.length - 1)) hln
        rw [← hq2, e2] at this
        rw [show most - 8 * q = (most - 1) % 8 + 1 by omega]
        exact Nat.mod_eq_of_lt this
theorem bitOf_app (l : List Nat) (n k : Nat) : bitOf (l ++ List.replicate n 0) k = bitOf l k := by
  unfold bitOf
  congr 1
  rw [List.getD_eq_getElem?_getD, List.getD_eq_getElem?_getD, List.getElem?_append]
  split
  · rfl
  · rename_i h
    rw [List.getElem?_replicate, List.getElem?_eq_none (by omega)]
    split <;> rfl
theorem bitOf_part (l : List Nat) (most k : Nat) (h4 : most ≤ 4096) : bitOf (part l 512 most) k = (decide (k < most) && bitOf l k) := by
  unfold bitOf
  rcases Nat.lt_or_ge (k / 8) 512 with h | h
  · rw [part_get _ _ _ _ h, Nat.testBit_mod_two_pow]
    congr 1
    rw [Bool.eq_iff_iff]
    simp only [decide_eq_true_eq]
    omega
  · have : (part l 512 most).getD (k / 8) 0 = 0 := by
      rw [List.getD_eq_getElem?_getD, List.getElem?_eq_none (by rw [part_length]; exact h)]; rfl
    rw [this, decide_eq_false (by omega)]
    simp
theorem part_octs (l : List Nat) (hl : octs l) (m c : Nat) : octs (part l m c) := by
  intro x hx
  simp only [part, List.mem_map, List.mem_range] at hx
  obtain ⟨q, _, rfl⟩ := hx
  exact Nat.lt_of_le_of_lt (Nat.mod_le _ _) (octs_getD hl q)
theorem from_tail {most : Nat} {l : List Nat} (h1 : 1 ≤ most) (hl : octs l) (h : fromOK most l) (k : Nat) (hk : most ≤ k) : bitOf l k = false := by
  obtain ⟨hlen, hln⟩ := h
  unfold bitOf
  rcases Nat.lt_or_ge (k / 8) l.length with h3 | h3
  · have hq : k / 8 = l.length - 1 := by omega
    rw [hq]
    exact Nat.testBit_lt_two_pow (Nat.lt_of_lt_of_le (ln_lt (octs_getD hl _) hln) (Nat.pow_le_pow_right (by omega) (by omega)))
  · rw [List.getD_eq_getElem?_getD, List.getElem?_eq_none h3]; simp

theorem from_bad (n : Int) (h : n < 1 ∨ 4096 < n) (v : Value) (w : World) : Calls Try.prog 21 #[.int .i64 n, v] w fun e w' => e = .returned (.tuple #[.pointer none, .int .i64 1]) ∧ w' = w := by
  have hn := anew_bad n h w
  clear h
  go_enter Try.func21, Try.ntmps21
  go_wp2_with fail
  refine hn.mono ?_
  rintro e w1 ⟨rfl, rfl⟩
  go_wp2
  go_ret2
  exact ⟨rfl, rfl⟩
set_option maxRecDepth 100000 in
set_option maxHeartbeats 1000000 in
theorem from_no (most : Nat) (h1 : 1 ≤ most) (h4 : most ≤ 4096) (a : Option Addr) (n cap : Nat) (l : List Nat) (hn : n = l.length) (w : World) (hr : Row w a cap l) (h : ¬ fromOK most l) :
    Calls Try.prog 21 #[.int .i64 most, .slice a n cap] w fun e w' => e = .returned (.tuple #[.pointer none, .int .i64 4]) ∧ Fr (fun _ => False) w w' := by
  have hnew := anew_ok most h1 h4 w
  have hnd := fun W => needed_any most h4 W
  have hlb := fun W => lastBits_any most h1 h4 W
  have hm1 : 1 ≤ (most + 7) / 8 := by omega
  have hm2 : (most + 7) / 8 ≤ 512 := by omega
  obtain ⟨m, hm⟩ : ∃ m, m = (most + 7) / 8 := ⟨_, rfl⟩
  by_cases hlm : l.length = m
  · have hbig : (most - 1) % 8 + 1 < lnv (l.getD (l.length - 1) 0) := by
      rcases Nat.lt_or_ge ((most - 1) % 8 + 1) (lnv (l.getD (l.length - 1) 0)) with h3 | h3
      · exact h3
      · exact absurd ⟨by omega, h3⟩ h
    have hx := octs_getD hr.byte (l.length - 1)
    have hlv := ln_any _ hx
    rw [← hm] at hm1 hm2 hnd
    obtain ⟨q, rfl⟩ : ∃ q, m = q + 1 := ⟨m - 1, by omega⟩
    rw [hlm] at hn hlv hx hbig
    rw [show q + 1 - 1 = q by omega] at hlv hx hbig
    rcases hr.at_ with h0 | ⟨b, off, rfl, hb, hc⟩
    · rw [h0] at hlm; simp at hlm
    have hcq := hc q (by omega)
    generalize l.getD q 0 = x at *
    generalize lnv x = t at *
    generalize (most - 1) % 8 + 1 = e8 at *
    subst hn
    clear hm hlm h hc
    have hbig' : (e8 : Int) < (t : Int) := by omega
    go_enter Try.func21, Try.ntmps21
    go_wp2_with fail
    refine hnew.mono ?_
    rintro e w1 ⟨rfl, m1, f1⟩
    have hcq1 := (f1.cell (p := ⟨b, off + q, none⟩) hb (fun f => f)).trans hcq
    go_wp2_with fail
    refine (hnd _).mono ?_
    rintro e w2 ⟨rfl, rfl⟩
    go_wp2_with fail
    refine (hlv _).mono ?_
    rintro e w2 ⟨rfl, rfl⟩
    go_wp2_with fail
    refine (hlb _).mono ?_
    rintro e w2 ⟨rfl, rfl⟩
    go_wp2
    go_ret2
    exact ⟨rfl, f1⟩
  · rw [← hm] at hnd
    subst hn
    have hne : ((l.length : Int) != (m : Int)) = true := by simp; omega
    clear hm1 hm2 hm hlb h
    generalize l.length = n at *
    go_enter Try.func21, Try.ntmps21
    go_wp2_with fail
    refine hnew.mono ?_
    rintro e w1 ⟨rfl, m1, f1⟩
    go_wp2_with fail
    refine (hnd _).mono ?_
    rintro e w2 ⟨rfl, rfl⟩
    go_wp2
    go_ret2
    exact ⟨rfl, f1⟩
theorem Mp.copied {w : World} {b most : Nat} (h : Mp w b most zeroL) (l : List Nat) (hl : octs l) (h5 : l.length ≤ 512) (ht : ∀ k, most ≤ k → bitOf l k = false) : Mp (w.setCells b 1 (cellsOf l)) b most (l ++ List.replicate (512 - l.length) 0) := by
  have hb := h.box.set 1 (cellsOf l) (by rw [List.length_cons, cellsOf_length, cellsOf_length, zeroL, List.length_replicate]; omega)
  have e : (Value.int .i64 (most : Int) :: cellsOf zeroL).take 1 ++ cellsOf l ++ (Value.int .i64 (most : Int) :: cellsOf zeroL).drop (1 + (cellsOf l).length) = .int .i64 most :: cellsOf (l ++ List.replicate (512 - l.length) 0) := by
    rw [cellsOf_length, cellsOf_append, Nat.add_comm 1, List.drop_succ_cons, List.take_succ_cons, List.take_zero]
    unfold zeroL cellsOf
    rw [List.map_replicate, List.drop_replicate, List.map_replicate]
    rfl
  rw [e] at hb
  refine ⟨hb, by simp; omega, octs_app hl (fun x hx => by obtain ⟨_, rfl⟩ := List.mem_replicate.1 hx; omega), h.pos, h.top, fun k hk => by rw [bitOf_app]; exact ht k hk⟩
set_option maxRecDepth 100000 in
set_option maxHeartbeats 1000000 in
theorem from_ok (most : Nat) (h1 : 1 ≤ most) (h4 : most ≤ 4096) (a : Option Addr) (n cap : Nat) (l : List Nat) (hn : n = l.length) (w : World) (hr : Row w a cap l) (h : fromOK most l) :
    Calls Try.prog 21 #[.int .i64 most, .slice a n cap] w fun e w' => e = .returned (.tuple #[.pointer (some ⟨w.heap.size, 0, none⟩), .int .i64 0]) ∧ Mp w' w.heap.size most (l ++ List.replicate (512 - l.length) 0) ∧ Fr (fun _ => False) w w' := by
  have hnew := anew_ok most h1 h4 w
  have hnd := fun W => needed_any most h4 W
  have hlb := fun W => lastBits_any most h1 h4 W
  have hm1 : 1 ≤ (most + 7) / 8 := by omega
  have hm2 : (most + 7) / 8 ≤ 512 := by omega
  have HT : Hid (∀ k, most ≤ k → bitOf l k = false) := fun k hk => from_tail h1 hr.byte h k hk
  have hrt : Hid (octs l) := hr.byte
  obtain ⟨hlm, hln⟩ := h
  obtain ⟨m, hm⟩ : ∃ m, m = (most + 7) / 8 := ⟨_, rfl⟩
  rw [← hm] at hlm hm1 hm2 hnd
  have hx := octs_getD hr.byte (l.length - 1)
  have hlv := ln_any _ hx
  obtain ⟨q, rfl⟩ : ∃ q, m = q + 1 := ⟨m - 1, by omega⟩
  have HLM : Hid (l.length = q + 1) := hlm
  have h8' : (Try.prog.info? 5).map (·.size) = some 1 := by kernel_rfl
  have h8 : Hid ((Try.prog.info? 5).map (·.size) = some 1) := h8'
  rw [hlm] at hn hlv hx hln
  rw [show q + 1 - 1 = q by omega] at hlv hx hln
  have hat := hr.at_
  rcases hat with h0 | ⟨b, off, ha, hb, hc⟩
  · rw [h0] at hlm; simp at hlm
  have hcq := hc q (by omega)
  generalize l.getD q 0 = x at *
  generalize lnv x = t at *
  generalize (most - 1) % 8 + 1 = e8 at *
  subst hn ha
  clear hm hlm hc h8'
  have hbig' : (t : Int) ≤ (e8 : Int) := by omega
  have hbd : decide ((e8 : Int) < (t : Int)) = false := by simp; omega
  go_enter Try.func21, Try.ntmps21
  go_wp2_with fail
  refine hnew.mono ?_
  rintro e w1 ⟨rfl, m1, f1⟩
  have hcq1 := (f1.cell (p := ⟨b, off + q, none⟩) hb (fun f => f)).trans hcq
  have hr1 := hr.same f1
  have ht1 : w1.there w.heap.size 1 l.length := fun j hj => by
    have := m1.form.2.1 (1 + j) (by have := HLM.out; omega)
    simpa using this
  clear hnew
  go_wp2_with fail
  refine (hnd _).mono ?_
  rintro e w2 ⟨rfl, rfl⟩
  go_wp2_with fail
  refine (hlv _).mono ?_
  rintro e w2 ⟨rfl, rfl⟩
  go_wp2_with fail
  refine (hlb _).mono ?_
  rintro e w2 ⟨rfl, rfl⟩
  go_wp2_with (refine wpList_copy_row rfl _ _ 41 41 rfl Try.underlying41 h8.out w.heap.size 1 512 512 (some ⟨b, off, none⟩) (q + 1) cap l rfl rfl HLM.out.symm (by have := HLM.out; omega) hr1 ht1 ?_)
  go_ret2
  have hset := m1.copied l hrt.out (by have := HLM.out; omega) HT.out
  exact ⟨rfl, hset, f1.above (Fr.setCells (S := fun k => k = w.heap.size) (fun _ => rfl) _ _ (Fr.refl _ _)) (fun i e => by omega)⟩

theorem rfrom_bad (n : Int) (h : n < 1 ∨ 4096 < n) (v : Value) (w : World) : Calls Try.prog 22 #[.int .i64 n, v] w fun e w' => e = .returned (.tuple #[.pointer none, .int .i64 1]) ∧ w' = w := by
  have hn := rnew_bad n h w
  clear h
  go_enter Try.func22, Try.ntmps22
  go_wp2_with fail
  refine hn.mono ?_
  rintro e w1 ⟨rfl, rfl⟩
  go_wp2
  go_ret2
  exact ⟨rfl, rfl⟩
/-- What the document's From does. -/
def RFromOut (most : Nat) (l : List Nat) (w : World) (e : Ending) (w' : World) : Prop :=
  (¬ fromOK most l ∧ e = .returned (.tuple #[.pointer none, .int .i64 4]) ∧ Fr (fun _ => False) w w') ∨
  (fromOK most l ∧ ∃ V, e = .returned (.tuple #[.pointer (some ⟨w.heap.size + 1, 0, none⟩), .int .i64 0]) ∧ RM w' (w.heap.size + 1) w.heap.size (most + 1) V ∧ Alike most (l ++ List.replicate (512 - l.length) 0) V ∧ Fr (fun _ => False) w w')
theorem shr_bit (x k : Nat) (hx : x < 256) : (bits BinOp.and IntKind.u8 ((x : Int) / 2 ^ (k % 8)) 1 == 1) = x.testBit (k % 8) := by
  have e : ((x : Int) / 2 ^ (k % 8)) = ((x / 2 ^ (k % 8) : Nat) : Int) := by simp
  have hlt : x / 2 ^ (k % 8) < 256 := Nat.lt_of_le_of_lt (Nat.div_le_self _ _) hx
  rw [e, show (1 : Int) = ((1 : Nat) : Int) from rfl, u8_and_nat _ 1 hlt (by omega), Nat.and_one_is_mod, Nat.testBit_eq_decide_div_mod_eq]
  rw [Bool.eq_iff_iff]
  simp only [beq_iff_eq, decide_eq_true_eq]
  omega
set_option maxRecDepth 100000 in
set_option maxHeartbeats 2000000 in
theorem rfrom_any (most : Nat) (h1 : 1 ≤ most) (h4 : most ≤ 4096) (a : Option Addr) (n cap : Nat) (l : List Nat) (hn : n = l.length) (w : World) (hr : Row w a cap l) :
    Calls Try.prog 22 #[.int .i64 most, .slice a n cap] w fun e w' => RFromOut most l w e w' := by
  have hnew := rnew_ok most h1 h4 w
  have HN : Hid (n = l.length) := hn
  have hsm := hr.small
  have hle := hr.le
  rw [← hn] at hsm hle
  clear hn
  go_enter Try.func22, Try.ntmps22
  go_wp2_with fail
  refine hnew.mono ?_
  rintro e w1 ⟨rfl, r1, f1⟩
  clear hnew
  have HBG : Hid (w.heap.size ≤ w.heap.size ∧ w.heap.size ≤ w.heap.size + 1) := ⟨Nat.le_refl _, by omega⟩
  generalize hrb : w.heap.size + 1 = rb at r1 ⊢
  generalize hrg : w.heap.size = rg at *
  have HRG : Hid (w.heap.size = rg ∧ rg + 1 = rb) := ⟨hrg, hrb⟩
  clear hrg hrb HBG
  go_wp2
  go_loopw [8] (fun i wr => ∃ (j : Nat) (V : List Bool), 1 ≤ j ∧ j ≤ most + 1 ∧ i = .int .i64 j ∧ RM wr rb rg (most + 1) V ∧ Hid (V.length = most + 1 ∧ (∀ k, k + 1 < j → V.getD (k + 1) false = bitOf l k) ∧ V.getD 0 false = false ∧ ∀ k, j ≤ k → V.getD k false = false) ∧ Fr (fun _ => False) w wr) (fun i _ => most + 1 - (intOf i).toNat)
  case atStart => exact ⟨1, _, by omega, by omega, rfl, r1, ⟨List.length_replicate, (fun k hk => by omega), by simp, fun k hk => by rw [List.getD_eq_getElem?_getD, List.getElem?_replicate]; split <;> rfl⟩, f1⟩
  case round =>
    obtain ⟨j, V, hj1, hj2, rfl, hR, HV, hf⟩ := hrel
    obtain ⟨c, rfl⟩ : ∃ c, j = c + 1 := ⟨j - 1, by omega⟩
    by_cases hlt : c < most ∧ c / 8 < n
    · have hcm : (c : Int) + 1 ≤ (most : Int) := by omega
      have hcn : (c : Int) / 8 < (n : Int) := by omega
      have hrw := hr.same hf
      rcases hrw.at_ with h0 | ⟨b, off, ha, hb, hc⟩
      · have := HN.out
        rw [h0] at this
        simp at this
        omega
      subst ha
      have hcc := hc (c / 8) (by have := HN.out; omega)
      have hx := octs_getD hr.byte (c / 8)
      have HB : Hid ((bits BinOp.and IntKind.u8 (((l.getD (c / 8) 0 : Nat) : Int) / 2 ^ (c % 8)) 1 == 1) = bitOf l c) := shr_bit _ c hx
      obtain ⟨_, vz, _⟩ := hR.row.at_ (k := c + 1) (by omega)
      have hR2 := fun x => hR.set (c + 1) (by omega) x
      have hbx := hR.cell0
      have HVN : ∀ x, x = bitOf l c → Hid ((V.set (c + 1) x).length = most + 1 ∧ (∀ k, k + 1 < c + 2 → (V.set (c + 1) x).getD (k + 1) false = bitOf l k) ∧ (V.set (c + 1) x).getD 0 false = false ∧ ∀ k, c + 2 ≤ k → (V.set (c + 1) x).getD k false = false) := by
        intro x hx
        obtain ⟨v1, v2, v3, v4⟩ := HV.out
        refine ⟨by rw [List.length_set]; exact v1, fun k hk => ?_, ?_, fun k hk => ?_⟩
        · rw [List.getD_eq_getElem?_getD]
          by_cases e : k = c
          · subst e; rw [List.getElem?_set_self (by omega)]; exact hx
          · rw [List.getElem?_set_ne (by omega), ← List.getD_eq_getElem?_getD]; exact v2 k (by omega)
        · rw [List.getD_eq_getElem?_getD, List.getElem?_set_ne (by omega), ← List.getD_eq_getElem?_getD]; exact v3
        · rw [List.getD_eq_getElem?_getD, List.getElem?_set_ne (by omega), ← List.getD_eq_getElem?_getD]; exact v4 k (by omega)
      obtain ⟨y, hy⟩ : ∃ y, y = l.getD (c / 8) 0 := ⟨_, rfl⟩
      rw [← hy] at hcc hx HB
      clear hy hc
      obtain ⟨N, hN⟩ : ∃ N, N = most + 1 := ⟨_, rfl⟩
      rw [← hN] at hbx
      have hcN : (c : Int) + 1 < (N : Int) := by omega
      have HNN : Hid (N = most + 1) := hN
      clear hN
      go_wp2
      go_region
      all_goals
        go_wp2
        rw [HB.out]
        refine ⟨⟨c + 2, _, by omega, by omega, val_int (by omega), (hR2 (bitOf l c)).same ((Fr.refl (fun _ => False) _).drew), HVN _ rfl, (hf.setCell (p := ⟨rg, c + 1, none⟩) (fun h => by have := HRG.out; simp only at h; omega) _).drew⟩, ?_⟩
        simp [intOf]; omega
    · have hR3 := hR.same ((Fr.refl (fun _ => False) wr).drew)
      have hlike : Alike most (part l 512 most) V := by
        obtain ⟨v1, v2, v3, v4⟩ := HV.out
        refine ⟨v1, v3, fun k hk => ?_⟩
        rw [bitOf_part _ _ _ h4, decide_eq_true hk, Bool.true_and]
        rcases Nat.lt_or_ge k c with h3 | h3
        · exact v2 k (by omega)
        · have hkn : n ≤ k / 8 := by omega
          rw [v4 (k + 1) (by omega)]
          unfold bitOf
          rw [List.getD_eq_getElem?_getD, List.getElem?_eq_none (by have := HN.out; omega)]; simp
      have hrb := fun W (hW : RM W rb rg (most + 1) V) => rbytes_any rb rg most V W hW (part l 512 most) hlike (part_octs l hr.byte 512 most) (part_length _ _ _) h1 h4 (fun k hk => by rw [bitOf_part _ _ _ h4, decide_eq_false (by omega), Bool.false_and])
      have HI : Hid ((part l 512 most).take ((most + 7) / 8) = l ↔ fromOK most l) := from_iff most h1 h4 l hr.byte
      have HKL : Hid (((part l 512 most).take ((most + 7) / 8)).length = (most + 7) / 8) := by show _ = _; rw [List.length_take, part_length]; omega
      have HKO : Hid (octs ((part l 512 most).take ((most + 7) / 8))) := octs_take (part_octs l hr.byte 512 most) _
      generalize (part l 512 most).take ((most + 7) / 8) = K at *
      generalize (most + 7) / 8 = m at *
      have hlk2 : Hid (Alike most (l ++ List.replicate (512 - l.length) 0) V) := ⟨hlike.len, hlike.zero, fun k hk => by rw [hlike.bits k hk, bitOf_part _ _ _ h4, decide_eq_true hk, Bool.true_and, bitOf_app]⟩
      have hfd : Fr (fun _ => False) w wr.drew := hf.drew
      have cvl := fun (W : World) (h : Fr (fun _ => False) w W) => run_str (P := Try.prog) (src := 41) (dst := 9) Try.underlying41 Try.underlying5 Try.underlying9 (hr.same h) n HN.out
      have hol : Hid (octs l) := hr.byte
      have HRB : Hid (∀ W, RM W rb rg (most + 1) V → Calls Try.prog 20 #[.pointer (some ⟨rb, 0, none⟩)] W fun e w' => ∃ a' c', e = .returned (.slice a' m c') ∧ Row w' a' c' K ∧ Fr (fun _ => False) W w') := hrb
      clear hrb hlike
      have HEQ : Hid (((strOf K).toList == (strOf l).toList) = decide (K = l)) := str_eq HKO.out hol.out
      by_cases hcm : c < most
      · have hcn : (n : Int) ≤ (c : Int) / 8 := by omega
        have hcm' : (c : Int) + 1 ≤ (most : Int) := by omega
        have hdn : decide ((c : Int) / 8 < (n : Int)) = false := by simp; omega
        clear hlt
        go_wp2_with fail
        go_region_with (go_at_call 20; refine (HRB.out _ hR3).mono ?_; rintro e w5 ⟨a5, c5, rfl, r5, f5⟩; have hR5 := hR3.same f5; have f05 := hfd.false_trans f5; have f55 := Fr.refl (fun _ => False) w5; have cv5 := fun (W : World) (h : Fr (fun _ => False) w5 W) => run_str (P := Try.prog) (src := 41) (dst := 9) Try.underlying41 Try.underlying5 Try.underlying9 (r5.same h) m HKL.out.symm)
        all_goals
          rw [HEQ.out]
          by_cases hK : K = l
          · have hd : decide (K = l) = true := by simpa using hK
            have HK : Hid (K = l) := hK
            rw [hd]
            clear hK hd
            go_wp2
            go_ret2
            exact .inr ⟨HI.out.1 HK.out, V, by rw [← HRG.out.2, ← HRG.out.1]; rfl, by have := hR5; rw [← HRG.out.2, ← HRG.out.1] at this; exact this, hlk2.out, f05⟩
          · have hd : decide (K = l) = false := by simpa using hK
            have HK : Hid (¬ K = l) := hK
            rw [hd]
            clear hK hd
            go_wp2
            go_ret2
            exact .inl ⟨fun h => HK.out (HI.out.2 h), rfl, f05⟩
      · have hce : c = most := by omega
        subst hce
        have hdn : decide ((c : Int) + 1 ≤ (c : Int)) = false := by simp; omega
        clear hlt
        go_wp2_with fail
        go_region_with (go_at_call 20; refine (HRB.out _ hR3).mono ?_; rintro e w5 ⟨a5, c5, rfl, r5, f5⟩; have hR5 := hR3.same f5; have f05 := hfd.false_trans f5; have f55 := Fr.refl (fun _ => False) w5; have cv5 := fun (W : World) (h : Fr (fun _ => False) w5 W) => run_str (P := Try.prog) (src := 41) (dst := 9) Try.underlying41 Try.underlying5 Try.underlying9 (r5.same h) m HKL.out.symm)
        all_goals
          rw [HEQ.out]
          by_cases hK : K = l
          · have hd : decide (K = l) = true := by simpa using hK
            have HK : Hid (K = l) := hK
            rw [hd]
            clear hK hd
            go_wp2
            go_ret2
            exact .inr ⟨HI.out.1 HK.out, V, by rw [← HRG.out.2, ← HRG.out.1]; rfl, by have := hR5; rw [← HRG.out.2, ← HRG.out.1] at this; exact this, hlk2.out, f05⟩
          · have hd : decide (K = l) = false := by simpa using hK
            have HK : Hid (¬ K = l) := hK
            rw [hd]
            clear hK hd
            go_wp2
            go_ret2
            exact .inl ⟨fun h => HK.out (HI.out.2 h), rfl, f05⟩
end Go.Proofs.Ytgilemiejemgkaa
