
/- Where a node is parted: what Split tells. -/
import Derived.Test.YtaaedmacefiinaaNdGet
import Derived.Test.YtaaedmacefiinaaPgBack4
namespace Go.Proofs.Ytaaedmacefiinaa
open Go.RowKit

/-- An entry's size, and that of the first entries. -/
def esz (n : Nd) (i : Nat) : Nat := if n.lev = 0 then 4 + (n.keys.getD i ByteArray.empty).size + (n.vals.getD i ByteArray.empty).size else 6 + (n.keys.getD i ByteArray.empty).size
def pre (n : Nd) : Nat → Nat
  | 0 => 0
  | j + 1 => pre n j + esz n j
theorem esz_le {n : Nd} (r : Rt n) (i : Nat) (hi : i < n.keys.length) : esz n i ≤ 52 := by
  unfold esz
  have hk := (r.keys i hi).1.2
  split
  · rename_i h
    have hv := (r.leaf h).2.2 i (by rw [(r.leaf h).1]; exact hi)
    omega
  · omega
theorem pre_le {n : Nd} (r : Rt n) (j : Nat) (hj : j ≤ n.keys.length) : pre n j ≤ 52 * j := by
  induction j with
  | zero => simp [pre]
  | succ j ih =>
    have := ih (by omega)
    have := esz_le r j (by omega)
    simp only [pre]; omega
/-- Where a node is parted. -/
structure Mid (n : Nd) (m : Nat) : Prop where
  lo : 1 ≤ m
  hi : m + 1 ≤ n.keys.length
  half : m + 1 = n.keys.length ∨ pre n n.keys.length ≤ 2 * pre n m
  least : ∀ i, 1 ≤ i → i < m → 2 * pre n i < pre n n.keys.length
theorem Mid.one {n : Nd} {a b : Nat} (ha : Mid n a) (hb : Mid n b) : a = b := by
  rcases Nat.lt_trichotomy a b with h | h | h
  · have := hb.least a ha.lo h
    rcases ha.half with h1 | h1
    · have := hb.hi; omega
    · omega
  · exact h
  · have := ha.least b hb.lo h
    rcases hb.half with h1 | h1
    · have := ha.hi; omega
    · omega
set_option maxRecDepth 100000 in
set_option maxHeartbeats 1000000 in
theorem entry_any (n : Nd) (p : Pt) (r : Rt n) (i : Nat) (hi : i < n.keys.length) (w : World) (h : Nod w n p) : Calls Try.prog 106 #[(.agg #[.int .i64 n.lev, .int .i64 n.lsn, .int .i64 n.rgt, .string n.high, .slice p.k n.keys.length p.kc, .slice p.v n.vals.length p.vc, .slice p.i n.kids.length p.ic]), .int .i64 i] w fun e w' => e = .returned (.int .i64 (esz n i : Nat)) ∧ Fr (fun _ => False) w w' := by
  have f0 := Fr.box w (.cells #[.int .i64 n.lev, .int .i64 n.lsn, .int .i64 n.rgt, .string n.high, .slice p.k n.keys.length p.kc, .slice p.v n.vals.length p.vc, .slice p.i n.kids.length p.ic] 25)
  have HB : Hid (∀ W, Fr (fun _ => False) (w.alloc (.cells #[.int .i64 n.lev, .int .i64 n.lsn, .int .i64 n.rgt, .string n.high, .slice p.k n.keys.length p.kc, .slice p.v n.vals.length p.vc, .slice p.i n.kids.length p.ic] 25)) W → W.cell? ⟨w.heap.size, 0, none⟩ = some (.int .i64 n.lev) ∧ W.cell? ⟨w.heap.size, 1, none⟩ = some (.int .i64 n.lsn) ∧ W.cell? ⟨w.heap.size, 2, none⟩ = some (.int .i64 n.rgt) ∧ W.cell? ⟨w.heap.size, 3, none⟩ = some (.string n.high) ∧ W.cell? ⟨w.heap.size, 4, none⟩ = some (.slice p.k n.keys.length p.kc) ∧ W.cell? ⟨w.heap.size, 5, none⟩ = some (.slice p.v n.vals.length p.vc) ∧ W.cell? ⟨w.heap.size, 6, none⟩ = some (.slice p.i n.kids.length p.ic)) := fun W f => box_cells (box_at w n p 25 f)
  have hkz := (r.keys i hi).1.2
  have hii : (i : Int) < (n.keys.length : Int) := by omega
  have hl := fun W => isLeafN_any n p W
  by_cases h0 : n.lev = 0
  · have hb : (n.lev == 0) = true := by simpa using h0
    rw [hb] at hl
    have hvl : i < n.vals.length := by rw [(r.leaf h0).1]; exact hi
    have hvz := (r.leaf h0).2.2 i hvl
    have hvi : (i : Int) < (n.vals.length : Int) := by omega
    have HE : Hid (esz n i = 4 + (n.keys.getD i ByteArray.empty).size + (n.vals.getD i ByteArray.empty).size) := if_pos h0
    clear h0 hb r
    go_enter Try.func106, Try.ntmps106
    go_wp2_with fail
    refine (hl _).mono ?_
    rintro e w1 ⟨rfl, f1⟩
    have hN := h.same (f0.seq' f1)
    obtain ⟨bk, ok, ek, hbk, hck⟩ := strs_some hN.keys hi
    obtain ⟨bv, ov, ev, hbv, hcv⟩ := strs_some hN.vals hvl
    have hkc := hck i hi
    have hvc := hcv i hvl
    obtain ⟨c0, c1, c2, c3, c4, c5, c6⟩ := HB.out _ f1
    rw [ek] at c4
    rw [ev] at c5
    generalize n.keys.getD i ByteArray.empty = x at *
    generalize n.vals.getD i ByteArray.empty = y at *
    clear hck hcv
    go_wp2
    go_quiet (fail)
    go_wp2
    go_ret
    exact ⟨ret_int (by rw [HE.out]; omega), (f0.seq' f1).drewN _⟩
  · have hb : (n.lev == 0) = false := by simpa using h0
    rw [hb] at hl
    have HE : Hid (esz n i = 6 + (n.keys.getD i ByteArray.empty).size) := if_neg h0
    clear h0 hb r
    go_enter Try.func106, Try.ntmps106
    go_wp2_with fail
    refine (hl _).mono ?_
    rintro e w1 ⟨rfl, f1⟩
    have hN := h.same (f0.seq' f1)
    obtain ⟨bk, ok, ek, hbk, hck⟩ := strs_some hN.keys hi
    have hkc := hck i hi
    obtain ⟨c0, c1, c2, c3, c4, c5, c6⟩ := HB.out _ f1
    rw [ek] at c4
    generalize n.keys.getD i ByteArray.empty = x at *
    clear hck
    go_wp2
    go_ret
    exact ⟨ret_int (by rw [HE.out]; omega), f0.seq' f1⟩
set_option maxRecDepth 100000 in
set_option maxHeartbeats 2000000 in
theorem middle_any (n : Nd) (p : Pt) (r : Rt n) (h2 : 2 ≤ n.keys.length) (w : World) (h : Nod w n p) : Calls Try.prog 71 #[(.agg #[.int .i64 n.lev, .int .i64 n.lsn, .int .i64 n.rgt, .string n.high, .slice p.k n.keys.length p.kc, .slice p.v n.vals.length p.vc, .slice p.i n.kids.length p.ic])] w fun e w' => ∃ m : Nat, Mid n m ∧ e = .returned (.int .i64 m) ∧ Fr (fun _ => False) w w' := by
  have f0 := Fr.box w (.cells #[.int .i64 n.lev, .int .i64 n.lsn, .int .i64 n.rgt, .string n.high, .slice p.k n.keys.length p.kc, .slice p.v n.vals.length p.vc, .slice p.i n.kids.length p.ic] 25)
  have HB : Hid (∀ W, Fr (fun _ => False) (w.alloc (.cells #[.int .i64 n.lev, .int .i64 n.lsn, .int .i64 n.rgt, .string n.high, .slice p.k n.keys.length p.kc, .slice p.v n.vals.length p.vc, .slice p.i n.kids.length p.ic] 25)) W → W.cell? ⟨w.heap.size, 0, none⟩ = some (.int .i64 n.lev) ∧ W.cell? ⟨w.heap.size, 1, none⟩ = some (.int .i64 n.lsn) ∧ W.cell? ⟨w.heap.size, 2, none⟩ = some (.int .i64 n.rgt) ∧ W.cell? ⟨w.heap.size, 3, none⟩ = some (.string n.high) ∧ W.cell? ⟨w.heap.size, 4, none⟩ = some (.slice p.k n.keys.length p.kc) ∧ W.cell? ⟨w.heap.size, 5, none⟩ = some (.slice p.v n.vals.length p.vc) ∧ W.cell? ⟨w.heap.size, 6, none⟩ = some (.slice p.i n.kids.length p.ic)) := fun W f => box_cells (box_at w n p 25 f)
  have hfew := keys_few r
  have HR : Hid (Rt n) := r
  have HP : Hid (∀ j, j ≤ n.keys.length → pre n j ≤ 52 * j) := fun j hj => pre_le r j hj
  have HEN : Hid (∀ i, i < n.keys.length → ∀ W, Nod W n p → Calls Try.prog 106 #[(.agg #[.int .i64 n.lev, .int .i64 n.lsn, .int .i64 n.rgt, .string n.high, .slice p.k n.keys.length p.kc, .slice p.v n.vals.length p.vc, .slice p.i n.kids.length p.ic]), .int .i64 i] W fun e w' => e = .returned (.int .i64 (esz n i : Nat)) ∧ Fr (fun _ => False) W w') := fun i hi W hW => entry_any n p r i hi W hW
  have HES : Hid (∀ i, i < n.keys.length → esz n i ≤ 52) := fun i hi => esz_le r i hi
  have hN0 := h.same f0
  clear r
  obtain ⟨W0, hW0⟩ : ∃ W0, W0 = w.alloc (.cells #[.int .i64 n.lev, .int .i64 n.lsn, .int .i64 n.rgt, .string n.high, .slice p.k n.keys.length p.kc, .slice p.v n.vals.length p.vc, .slice p.i n.kids.length p.ic] 25) := ⟨_, rfl⟩
  go_enter Try.func71, Try.ntmps71
  go_wp2
  rw [← hW0] at f0 hN0 HB ⊢
  go_loopw [3, 11] (fun u i wr => ∃ j : Nat, j ≤ n.keys.length ∧ i = .int .i64 j ∧ u = .int .i64 (pre n j : Nat) ∧ Fr (fun _ => False) W0 wr) (fun _ i _ => n.keys.length - (intOf i).toNat)
  case atStart => exact ⟨0, by omega, rfl, rfl, Fr.refl _ _⟩
  case round =>
    obtain ⟨j, hj, rfl, rfl, hf⟩ := hrel
    have hpj := HP.out j hj
    by_cases hlt : j < n.keys.length
    · have hji : (j : Int) < (n.keys.length : Int) := by omega
      have hes := HES.out j hlt
      have hen := HEN.out j hlt _ (hN0.same hf)
      obtain ⟨c0, c1, c2, c3, c4, c5, c6⟩ := HB.out _ hf
      have HPS : Hid (pre n (j + 1) = pre n j + esz n j) := rfl
      generalize esz n j = x at *
      generalize pre n j = y at *
      go_wp2_with fail
      refine hen.mono ?_
      rintro e w2 ⟨rfl, f2⟩
      clear c0 c1 c2 c3 c4 c5 c6
      go_wp2
      go_roundw
      case rel => exact ⟨j + 1, by omega, by go_num, val_int (by rw [HPS.out]; omega), hf.seq' f2⟩
      case measure => simp [intOf]; omega
    · have e : j = n.keys.length := by omega
      subst e
      obtain ⟨c0, c1, c2, c3, c4, c5, c6⟩ := HB.out _ hf
      have HAL : Hid (pre n n.keys.length = pre n n.keys.length) := rfl
      obtain ⟨al, hal⟩ : ∃ al, al = pre n n.keys.length := ⟨_, rfl⟩
      have HA : Hid (al = pre n n.keys.length) := hal
      rw [← hal] at hpj ⊢
      clear hal HAL
      obtain ⟨w1, hw1⟩ : ∃ w1, w1 = wr := ⟨_, rfl⟩
      go_wp2
      clear c0 c1 c2 c3 c4 c5 c6
      go_loopw [6, 25] (fun u i wx => ∃ j : Nat, j + 1 ≤ n.keys.length ∧ i = .int .i64 j ∧ u = .int .i64 (pre n j : Nat) ∧ Hid (∀ i, 1 ≤ i → i ≤ j → 2 * pre n i < al) ∧ Fr (fun _ => False) W0 wx) (fun _ i _ => n.keys.length - (intOf i).toNat)
      case atStart => exact ⟨0, by omega, rfl, rfl, (fun i h1 h2 => by omega), hf⟩
      case round =>
        obtain ⟨j, hj, rfl, rfl, HE, hf2⟩ := hrel
        have hpj2 := HP.out j (by omega)
        by_cases hlt : j + 1 < n.keys.length
        · have hji : (j : Int) < (n.keys.length : Int) - 1 := by omega
          have hes := HES.out j (by omega)
          have hen := HEN.out j (by omega) _ (hN0.same hf2)
          obtain ⟨c0, c1, c2, c3, c4, c5, c6⟩ := HB.out _ hf2
          have HPS : Hid (pre n (j + 1) = pre n j + esz n j) := rfl
          generalize esz n j = x at *
          obtain ⟨y, hy⟩ : ∃ y, y = pre n j := ⟨_, rfl⟩
          rw [← hy] at hpj2 HPS ⊢
          clear hy
          go_wp2_with fail
          refine hen.mono ?_
          rintro e w2 ⟨rfl, f2⟩
          clear c0 c1 c2 c3 c4 c5 c6
          by_cases hc : al ≤ 2 * (y + x)
          · have hci : (al : Int) ≤ 2 * ((y : Int) + (x : Int)) := by omega
            clear hc
            go_wp2
            go_ret
            refine ⟨j + 1, ⟨by omega, by omega, .inr ?_, fun i h1 h2 => ?_⟩, ret_int (by omega), (f0.seq' hf2).seq' f2⟩
            · rw [← HA.out, HPS.out]; omega
            · rw [← HA.out]; exact HE.out i h1 (by omega)
          · have hci : 2 * ((y : Int) + (x : Int)) < (al : Int) := by omega
            have HC : Hid (2 * (y + x) < al) := by show _ < _; omega
            clear hc
            go_wp2
            go_roundw
            case rel =>
              refine ⟨j + 1, by omega, by go_num, val_int (by rw [HPS.out]; omega), fun i h1 h2 => ?_, hf2.seq' f2⟩
              rcases Nat.lt_or_ge i (j + 1) with h3 | h3
              · exact HE.out i h1 (by omega)
              · rw [show i = j + 1 by omega, HPS.out]; exact HC.out
            case measure => simp [intOf]; omega
        · have hji : ¬ (j : Int) < (n.keys.length : Int) - 1 := by omega
          have hje : (n.keys.length : Int) - 1 = (j : Int) := by omega
          go_wp2
          go_ret
          refine ⟨j, ⟨by omega, by omega, .inl (by omega), fun i h1 h2 => ?_⟩, ret_int (by omega), f0.seq' hf2⟩
          rw [← HA.out]; exact HE.out i h1 (by omega)
end Go.Proofs.Ytaaedmacefiinaa
