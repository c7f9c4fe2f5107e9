
/- How many pages are in use in the document's map, and its bytes. -/
import Derived.Test.YtgilemiejemgkaaAlRef
namespace Go.Proofs.Ytgilemiejemgkaa
open Go.RowKit

def cntV (V : List Bool) (j : Nat) : Nat := (List.range j).countP (fun i => V.getD i false)
theorem cntV_succ (V : List Bool) (j : Nat) : cntV V (j + 1) = cntV V j + (if V.getD j false = true then 1 else 0) := by
  unfold cntV
  rw [List.range_succ, List.countP_append, List.countP_singleton]
theorem cntV_le (V : List Bool) (j : Nat) : cntV V j ≤ j := by
  have := List.countP_le_length (p := fun i => V.getD i false) (l := List.range j)
  rwa [List.length_range] at this
/-- Both maps have the same pages in use. -/
structure Alike (most : Nat) (L : List Nat) (V : List Bool) : Prop where
  len : V.length = most + 1
  zero : V.getD 0 false = false
  bits : ∀ k, k < most → V.getD (k + 1) false = bitOf L k
theorem Alike.cnt {most : Nat} {L : List Nat} {V : List Bool} (h : Alike most L V) (j : Nat) (hj : j ≤ most) : cntV V (j + 1) = cnt L j := by
  induction j with
  | zero => rw [cntV_succ, h.zero]; rfl
  | succ j ih => rw [cntV_succ, ih (by omega), h.bits j (by omega), cnt_succ]
set_option maxRecDepth 100000 in
set_option maxHeartbeats 1000000 in
theorem count_any (b g n : Nat) (V : List Bool) (w : World) (h : RM w b g n V) : Calls Try.prog 18 #[.pointer (some ⟨b, 0, none⟩)] w fun e w' => e = .returned (.int .i64 (cntV V n)) ∧ w' = w := by
  have htop := h.top
  have hc := h.cell0
  go_enter Try.func18, Try.ntmps18
  go_wp2
  go_loopw [3, 11] (fun u i wr => ∃ j : Nat, j ≤ n ∧ i = .int .i64 j ∧ u = .int .i64 (cntV V j) ∧ wr = w) (fun _ i _ => n - (intOf i).toNat)
  case atStart => exact ⟨0, by omega, rfl, rfl, rfl⟩
  case round =>
    obtain ⟨j, hj, rfl, rfl, rfl⟩ := hrel
    have hcl := cntV_le V j
    by_cases hlt : j < n
    · have hjn : (j : Int) < (n : Int) := by omega
      obtain ⟨vc, _, _⟩ := h.row.at_ hlt
      have HC : Hid (cntV V (j + 1) = cntV V j + (if V.getD j false = true then 1 else 0)) := cntV_succ V j
      cases hb : V.getD j false
      · rw [hb] at vc HC
        rw [if_neg (by simp)] at HC
        clear hb
        go_wp2
        go_roundw
        case rel => exact ⟨j + 1, by omega, by go_num, val_int (by rw [HC.out]; omega), trivial⟩
        case measure => simp [intOf]; omega
      · rw [hb] at vc HC
        rw [if_pos rfl] at HC
        clear hb
        go_wp2
        go_roundw
        case rel => exact ⟨j + 1, by omega, by go_num, val_int (by rw [HC.out]; omega), trivial⟩
        case measure => simp [intOf]; omega
    · have e : j = n := by omega
      subst e
      go_wp2
      go_ret
      exact ⟨rfl, rfl⟩

/-- A slice of n bytes at block g. -/
def By (w : World) (g n : Nat) (K : List Nat) : Prop := Has w 1 (.slice (some ⟨g, 0, none⟩) n n) n (cellsOf K)
theorem By.len {w : World} {g n : Nat} {V : List Nat} (h : By w g n V) : V.length = n := by have := h.1; rw [cellsOf_length] at this; omega
theorem By.lt {w : World} {g n : Nat} {V : List Nat} (h : By w g n V) : g < w.heap.size := Has.lt h rfl
theorem By.fr {S : Nat → Prop} {w w' : World} {g n : Nat} {V : List Nat} (h : By w g n V) (f : Fr S w w') (hn : ¬ S g) : By w' g n V := Has.fr h f (fun k hk => by simp [Value.ownBlock] at hk; rwa [← hk])
theorem By.at_ {w : World} {g n : Nat} {V : List Nat} (h : By w g n V) {k : Nat} (hk : k < n) : w.cell? ⟨g, k, none⟩ = some (.int .u8 ((V.getD k 0 : Nat) : Int)) ∧ w.frozen? ⟨g, k, none⟩ = false ∧ ∀ x : Nat, By (w.setCell ⟨g, k, none⟩ (.int .u8 x)) g n (V.set k x) := by
  have hl := h.len
  obtain ⟨g', cap, hv, hg, hnc, hcm, hth, hra⟩ := Has.form h (by omega)
  simp only [Value.slice.injEq, Option.some.injEq, Addr.mk.injEq, and_true, true_and] at hv
  obtain ⟨rfl, rfl⟩ := hv
  have h1 := hra k _ (cellsOf_get V k (by omega))
  have h2 := (hth k (by omega)).2
  rw [Nat.zero_add] at h1 h2
  refine ⟨h1, h2, fun x => ?_⟩
  have := Has.set h k [.int .u8 x] (by rw [cellsOf_length]; simp; omega)
  have e : (cellsOf V).take k ++ [.int .u8 (x : Int)] ++ (cellsOf V).drop (k + [Value.int .u8 (x : Int)].length) = cellsOf (V.set k x) := by
    unfold cellsOf
    rw [List.set_eq_take_append_cons_drop, if_pos (by omega), List.map_append, List.map_cons, List.map_take, List.map_drop, List.append_assoc]; rfl
  rw [e] at this
  exact this
theorem by_made (w : World) (n : Nat) (hn : n ≤ maxLen) : By (w.alloc (.cells (madeCells (Value.int .u8 0).cells (n * 1)) 5)) w.heap.size n (List.replicate n 0) := by
  have := Has.made (fun x : Nat => [Value.int .u8 (x : Int)]) 0 (size := 1) (by omega) (z := .int .u8 0) (by simp [Value.cells]) rfl n hn w 5
  unfold By
  have e : (List.replicate n 0).flatMap (fun x : Nat => [Value.int .u8 (x : Int)]) = cellsOf (List.replicate n 0) := by
    rw [List.flatMap_def, cellsOf]; simp
  rwa [e] at this

/-- The bytes whose bits below c are L's. -/
def part (L : List Nat) (m c : Nat) : List Nat := (List.range m).map (fun q => L.getD q 0 % 2 ^ (c - 8 * q))
theorem part_length (L : List Nat) (m c : Nat) : (part L m c).length = m := by simp [part]
theorem part_get (L : List Nat) (m c q : Nat) (hq : q < m) : (part L m c).getD q 0 = L.getD q 0 % 2 ^ (c - 8 * q) := by
  simp [part, List.getD_eq_getElem?_getD, hq]
theorem mod_big {x e : Nat} (hx : x < 256) (he : 8 ≤ e) : x % 2 ^ e = x := Nat.mod_eq_of_lt (Nat.lt_of_lt_of_le hx (by
  have := Nat.pow_le_pow_right (n := 2) (by omega) he
  simpa using this))
theorem part_zero (L : List Nat) (m : Nat) : part L m 0 = List.replicate m 0 := by
  apply List.ext_getElem
  · simp [part]
  · intro i h1 h2
    simp [part, Nat.mod_one]
theorem mod_succ (x i : Nat) : x % 2 ^ (i + 1) = x % 2 ^ i + (if x.testBit i = true then 2 ^ i else 0) := by
  rw [Nat.pow_succ, Nat.mod_mul, Nat.testBit_eq_decide_div_mod_eq]
  rcases Nat.mod_two_eq_zero_or_one (x / 2 ^ i) with h | h <;> rw [h] <;> simp
theorem part_step (L : List Nat) (hL : octs L) (m c : Nat) (hc : c < 8 * m) : part L m (c + 1) = (part L m c).set (c / 8) ((part L m c).getD (c / 8) 0 + (if bitOf L c = true then 2 ^ (c % 8) else 0)) := by
  have hq : c / 8 < m := by omega
  rw [part_get L m c _ hq]
  apply List.ext_getElem
  · simp [part_length]
  · intro i h1 h2
    have hi : i < m := by simpa [part_length] using h1
    have hx := octs_getD hL i
    have e1 : (part L m (c + 1))[i]'h1 = L.getD i 0 % 2 ^ (c + 1 - 8 * i) := by simp [part]
    rw [e1, List.getElem_set]
    split
    · rename_i h
      subst h
      have e2 : c + 1 - 8 * (c / 8) = c % 8 + 1 := by omega
      have e3 : c - 8 * (c / 8) = c % 8 := by omega
      rw [e2, e3, mod_succ]
      rfl
    · rename_i h
      have e4 : (part L m c)[i]'(by rw [part_length]; exact hi) = L.getD i 0 % 2 ^ (c - 8 * i) := by simp [part]
      rw [e4]
      rcases Nat.lt_or_ge i (c / 8) with h3 | h3
      · rw [mod_big hx (by omega), mod_big hx (by omega)]
      · have : i > c / 8 := by omega
        rw [show c + 1 - 8 * i = 0 by omega, show c - 8 * i = 0 by omega]
theorem part_whole (L : List Nat) (hL : octs L) (hl : L.length = 512) (most : Nat) (ht : ∀ k, most ≤ k → bitOf L k = false) (m : Nat) (hm : m ≤ 512) : part L m most = L.take m := by
  apply List.ext_getElem
  · simp [part_length]; omega
  · intro i h1 h2
    have hi : i < m := by simpa [part_length] using h1
    have hx := octs_getD hL i
    have e1 : (part L m most)[i]'h1 = L.getD i 0 % 2 ^ (most - 8 * i) := by simp [part]
    have e2 : (L.take m)[i]'h2 = L.getD i 0 := by
      rw [List.getElem_take, List.getD_eq_getElem?_getD, List.getElem?_eq_getElem (by omega)]; rfl
    rw [e1, e2]
    apply Nat.eq_of_testBit_eq
    intro j
    rw [Nat.testBit_mod_two_pow]
    by_cases hj : j < most - 8 * i
    · simp [hj]
    · rw [decide_eq_false hj, Bool.false_and]
      rcases Nat.lt_or_ge j 8 with h3 | h3
      · have := ht (8 * i + j) (by omega)
        unfold bitOf at this
        rw [show (8 * i + j) / 8 = i by omega, show (8 * i + j) % 8 = j by omega] at this
        exact this.symm
      · exact (Nat.testBit_lt_two_pow (Nat.lt_of_lt_of_le hx (by
          have := Nat.pow_le_pow_right (n := 2) (by omega) h3
          simpa using this))).symm
theorem part_byte (L : List Nat) (m c : Nat) (hc : c < 8 * m) : (part L m c).getD (c / 8) 0 + 2 ^ (c % 8) < 256 := by
  rw [part_get L m c _ (by omega), show c - 8 * (c / 8) = c % 8 by omega]
  have h1 : L.getD (c / 8) 0 % 2 ^ (c % 8) < 2 ^ (c % 8) := Nat.mod_lt _ (Nat.pow_pos (by omega))
  have h2 : 2 ^ (c % 8 + 1) ≤ 2 ^ 8 := Nat.pow_le_pow_right (by omega) (by omega)
  rw [Nat.pow_succ] at h2
  omega
theorem sum_mod (y c : Nat) (h : y + 2 ^ (c % 8) < 256) : ((y : Int) + 2 ^ (c % 8)) % 256 = ((y + 2 ^ (c % 8) : Nat) : Int) := by
  have e : (2 : Int) ^ (c % 8) = ((2 ^ (c % 8) : Nat) : Int) := by simp
  rw [e]
  generalize 2 ^ (c % 8) = p at *
  omega
set_option maxRecDepth 100000 in
set_option maxHeartbeats 1000000 in
/-- The document's bytes, of a map that has the same pages in use. -/
theorem rbytes_any (b g most : Nat) (V : List Bool) (w : World) (h : RM w b g (most + 1) V) (L : List Nat) (ha : Alike most L V) (hL : octs L) (hl : L.length = 512) (h1 : 1 ≤ most) (h4 : most ≤ 4096) (ht : ∀ k, most ≤ k → bitOf L k = false) :
    Calls Try.prog 20 #[.pointer (some ⟨b, 0, none⟩)] w fun e w' => ∃ a' c', e = .returned (.slice a' ((most + 7) / 8) c') ∧ Row w' a' c' (L.take ((most + 7) / 8)) ∧ Fr (fun _ => False) w w' := by
  have hc := h.cell0
  obtain ⟨i0, hi, hz0, hz1, hz2⟩ := info_parts info8
  obtain ⟨N, hN⟩ : ∃ N, N = most + 1 := ⟨_, rfl⟩
  have HNN : Hid (N = most + 1) := hN
  rw [← hN] at h hc
  have hmk := fun (w : World) => run_make (P := Try.prog) w 41 5 i0 _ Try.underlying41 hi hz0 .i64 .i64 (((N : Int) + 6) / 8) (((N : Int) + 6) / 8) (by omega) (by omega) (by rw [hz2]; omega) (by omega)
  obtain ⟨m, hm⟩ : ∃ m, m = (most + 7) / 8 := ⟨_, rfl⟩
  rw [hz1, show (((N : Int) + 6) / 8).toNat = m by omega] at hmk
  rw [← hm]
  have HW : Hid (part L m most = L.take m) := part_whole L hL hl most ht m (by omega)
  have HT : Hid ((L.take m).length = m ∧ m ≤ 512) := ⟨by rw [List.length_take]; omega, by omega⟩
  have HO : Hid (octs (L.take m)) := octs_take hL m
  have H8 : Hid (∀ c, c < most → c < 8 * m) := fun c hc => by omega
  have hNm : N ≤ 4097 := by omega
  have HM : Hid (∀ W : World, By (W.alloc (.cells (madeCells (Value.int .u8 0).cells (m * 1)) 5)) W.heap.size m (List.replicate m 0)) := fun W => by_made W m (by unfold maxLen; omega)
  generalize madeCells (Value.int .u8 0).cells (m * 1) = C at *
  clear hN hm hz0 hi hz1 hz2 h4
  have f1 : Fr (fun _ => False) w (w.alloc (.cells C 5)) := (Fr.refl _ _).alloc _
  have hy := HM.out w
  have hR := h.same f1
  have hcc := hR.cell0
  have hbz := Has.lt h.row rfl
  have HBG : Hid (b < w.heap.size ∧ g < w.heap.size) := ⟨lt_of_block h.box, h.row.lt⟩
  clear hbz
  go_enter Try.func20, Try.ntmps20
  go_wp2
  obtain ⟨w1, hw1⟩ : ∃ w1, w1 = w.alloc (.cells C 5) := ⟨_, rfl⟩
  obtain ⟨o, ho⟩ : ∃ o, o = w.heap.size := ⟨_, rfl⟩
  rw [← hw1] at hy hR hcc f1 ⊢
  rw [← ho] at hy HBG ⊢
  have HO2 : Hid (o = w.heap.size) := ho
  clear hw1 ho HM hmk
  go_loopw [19] (fun i wr => ∃ (j : Nat), j ≤ N ∧ i = .int .i64 j ∧ By wr o m (part L m (j - 1)) ∧ Fr (fun k => k = o) w1 wr) (fun i _ => N - (intOf i).toNat)
  case atStart => exact ⟨0, by omega, rfl, by rw [show (0 - 1 : Nat) = 0 from rfl, part_zero]; exact hy, Fr.refl _ _⟩
  case round =>
    obtain ⟨j, hj, rfl, hB, hf⟩ := hrel
    have hR2 := hR.fr hf (fun e => by have := HBG.out; omega) (fun e => by have := HBG.out; omega)
    by_cases hlt : j < N
    · have hjn : (j : Int) < (N : Int) := by omega
      obtain ⟨vc, _, _⟩ := hR2.row.at_ hlt
      cases hv : V.getD j false
      · rw [hv] at vc
        have HP : Hid (part L m j = part L m (j - 1)) := by
          show part L m j = part L m (j - 1)
          rcases Nat.eq_zero_or_pos j with h0 | h0
          · rw [h0]
          · have hs := part_step L hL m (j - 1) (H8.out _ (by have := HNN.out; omega))
            have hb := ha.bits (j - 1) (by have := HNN.out; omega)
            rw [show j - 1 + 1 = j by omega] at hs hb
            rw [hv] at hb
            rw [hs, ← hb, if_neg (by simp), Nat.add_zero]
            apply List.ext_getElem
            · simp
            · intro i h1 h2
              rw [List.getElem_set]
              split
              · rename_i e
                subst e
                rw [List.getD_eq_getElem?_getD, List.getElem?_eq_getElem h2]; rfl
              · rfl
        clear hv
        go_wp2
        go_roundw
        case rel => exact ⟨j + 1, by omega, by go_num, by rw [show j + 1 - 1 = j by omega, HP.out]; exact hB, hf⟩
        case measure => simp [intOf]; omega
      · rw [hv] at vc
        have h0 : 1 ≤ j := by
          rcases Nat.eq_zero_or_pos j with h0 | h0
          · rw [h0, ha.zero] at hv; cases hv
          · exact h0
        obtain ⟨c, rfl⟩ : ∃ c, j = c + 1 := ⟨j - 1, by omega⟩
        have hcm : c < most := by have := HNN.out; omega
        have hb := ha.bits c hcm
        rw [hv] at hb
        have hs := part_step L hL m c (H8.out _ hcm)
        rw [← hb, if_pos rfl] at hs
        have hpb := part_byte L m c (H8.out _ hcm)
        rw [show c + 1 - 1 = c by omega] at hB
        have hq : c / 8 < m := by have := H8.out _ hcm; omega
        obtain ⟨kc, kz, ks⟩ := hB.at_ hq
        have k2 := ks ((part L m c).getD (c / 8) 0 + 2 ^ (c % 8))
        rw [← hs] at k2
        have HK : Hid (By (wr.setCell ⟨o, c / 8, none⟩ (.int .u8 (((part L m c).getD (c / 8) 0 + 2 ^ (c % 8) : Nat) : Int))) o m (part L m (c + 1))) := k2
        clear ks k2 hs hb hv
        have hp2 := pow_lt8 c
        have hqi : ((c : Int) / 8) < (m : Int) := by omega
        have HPM : Hid ((2 : Int) ^ (c % 8) % 256 = ((2 ^ (c % 8) : Nat) : Int)) := pow_mod c
        obtain ⟨y, hyy⟩ : ∃ y, y = (part L m c).getD (c / 8) 0 := ⟨_, rfl⟩
        rw [← hyy] at kc hpb HK
        clear hyy
        have HE : Hid (((y : Int) + 2 ^ (c % 8)) % 256 = ((y + 2 ^ (c % 8) : Nat) : Int)) := sum_mod y c hpb
        go_wp2
        rw [HE.out]
        refine ⟨⟨c + 2, by omega, val_int (by omega), HK.out, hf.setCell (p := ⟨o, c / 8, none⟩) (fun _ => rfl) _⟩, ?_⟩
        simp [intOf]; omega
    · have e : j = N := by omega
      subst e
      have hrow : Row wr (some ⟨o, 0, none⟩) m (L.take m) := by
        have := hB
        rw [show j - 1 = most by have := HNN.out; omega, HW.out] at this
        exact Has.bytes this HO.out (by have := HT.out; omega)
      go_wp2
      go_ret
      exact ⟨_, _, rfl, hrow, f1.above hf (fun i e => by have := HO2.out; omega)⟩
end Go.Proofs.Ytgilemiejemgkaa
