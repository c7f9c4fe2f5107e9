
/- What a map's Take, Mark, Free do. -/
import Derived.Test.YtgilemiejemgkaaAlMap
namespace Go.Proofs.Ytgilemiejemgkaa
open Go.RowKit

theorem mp_turn {w : World} {b most : Nat} {L : List Nat} (h : Mp w b most L) (k : Nat) (hk : k < most) : Mp (w.setCell ⟨b, 1 + k / 8, none⟩ (.int .u8 ((L.getD (k / 8) 0 ^^^ 2 ^ (k % 8) : Nat) : Int))) b most (turned L k) := by
  have hl : k / 8 < L.length := by have := h.len; have := h.top; omega
  refine h.set (k / 8) _ (by have := h.top; omega) (bit_lt (octs_getD h.byte _) (Nat.mod_lt _ (by omega))) (fun j hj => ?_)
  have := bitOf_turned L k hl j
  rw [if_neg (by omega), h.tail j hj] at this
  exact this
theorem turn_any (b most : Nat) (L : List Nat) (w : World) (h : Mp w b most L) (k : Nat) (hk : k < most) : Calls Try.prog 25 #[.pointer (some ⟨b, 0, none⟩), .int .i64 ((k : Int) + 1)] w fun e w' => e = .returned (.tuple #[]) ∧ Mp w' b most (turned L k) ∧ Fr (fun j => j = b) w w' := by
  have hk4 : k < 4096 := by have := h.top; omega
  have hpl := fun W => place_any k hk4 W
  have HX : Hid (bits BinOp.xor IntKind.u8 ((L.getD (k / 8) 0 : Nat) : Int) ((2 ^ (k % 8) : Nat) : Int) = ((L.getD (k / 8) 0 ^^^ 2 ^ (k % 8) : Nat) : Int)) := u8_xor_nat _ _ (octs_getD h.byte (k / 8)) (pow_lt8 k)
  have HM : Hid (∀ W, Mp W b most L → Mp (W.setCell ⟨b, 1 + k / 8, none⟩ (.int .u8 ((L.getD (k / 8) 0 ^^^ 2 ^ (k % 8) : Nat) : Int))) b most (turned L k)) := fun W hW => mp_turn hW k hk
  have hc := h.cellB (k / 8) (by omega)
  have hz := h.free (1 + k / 8) (by omega)
  have hj : ((k / 8 : Nat) : Int) < 512 := by omega
  have hp2 := pow_lt8 k
  generalize k / 8 = j at *
  generalize 2 ^ (k % 8) = p at *
  generalize L.getD j 0 ^^^ p = z at *
  generalize L.getD j 0 = y at *
  go_enter Try.func25, Try.ntmps25
  go_wp2_with fail
  refine (hpl _).mono ?_
  rintro e w1 ⟨rfl, f1⟩
  have h1 := h.same f1
  have hc1 := (f1.cell (p := ⟨b, 1 + j, none⟩) h.lt (fun f => f)).trans hc
  have hz1 := h1.free (1 + j) (by omega)
  go_wp2
  go_region
  all_goals go_wp2
  all_goals go_end0
  all_goals rw [HX.out]
  all_goals exact ⟨rfl, (HM.out _ h1).same ((Fr.refl _ _).drew), ((f1.any (S := fun j => j = b)).setCell (p := ⟨b, 1 + j, none⟩) (fun _ => rfl) _).drew⟩
/-- How many bits 0 a byte ends with. -/
def tzTab : ByteArray := ⟨#[8, 0, 1, 0, 2, 0, 1, 0, 3, 0, 1, 0, 2, 0, 1, 0, 4, 0, 1, 0, 2, 0, 1, 0, 3, 0, 1, 0, 2, 0, 1, 0, 5, 0, 1, 0, 2, 0, 1, 0, 3, 0, 1, 0, 2, 0, 1, 0, 4, 0, 1, 0, 2, 0, 1, 0, 3, 0, 1, 0, 2, 0, 1, 0, 6, 0, 1, 0, 2, 0, 1, 0, 3, 0, 1, 0, 2, 0, 1, 0, 4, 0, 1, 0, 2, 0, 1, 0, 3, 0, 1, 0, 2, 0, 1, 0, 5, 0, 1, 0, 2, 0, 1, 0, 3, 0, 1, 0, 2, 0, 1, 0, 4, 0, 1, 0, 2, 0, 1, 0, 3, 0, 1, 0, 2, 0, 1, 0, 7, 0, 1, 0, 2, 0, 1, 0, 3, 0, 1, 0, 2, 0, 1, 0, 4, 0, 1, 0, 2, 0, 1, 0, 3, 0, 1, 0, 2, 0, 1, 0, 5, 0, 1, 0, 2, 0, 1, 0, 3, 0, 1, 0, 2, 0, 1, 0, 4, 0, 1, 0, 2, 0, 1, 0, 3, 0, 1, 0, 2, 0, 1, 0, 6, 0, 1, 0, 2, 0, 1, 0, 3, 0, 1, 0, 2, 0, 1, 0, 4, 0, 1, 0, 2, 0, 1, 0, 3, 0, 1, 0, 2, 0, 1, 0, 5, 0, 1, 0, 2, 0, 1, 0, 3, 0, 1, 0, 2, 0, 1, 0, 4, 0, 1, 0, 2, 0, 1, 0, 3, 0, 1, 0, 2, 0, 1, 0]⟩
def tzv (x : Nat) : Nat := (tzTab.data.getD x 0).toNat
/-- How many bits a byte has. -/
def lnTab : ByteArray := ⟨#[0, 1, 2, 2, 3, 3, 3, 3, 4, 4, 4, 4, 4, 4, 4, 4, 5, 5, 5, 5, 5, 5, 5, 5, 5, 5, 5, 5, 5, 5, 5, 5, 6, 6, 6, 6, 6, 6, 6, 6, 6, 6, 6, 6, 6, 6, 6, 6, 6, 6, 6, 6, 6, 6, 6, 6, 6, 6, 6, 6, 6, 6, 6, 6, 7, 7, 7, 7, 7, 7, 7, 7, 7, 7, 7, 7, 7, 7, 7, 7, 7, 7, 7, 7, 7, 7, 7, 7, 7, 7, 7, 7, 7, 7, 7, 7, 7, 7, 7, 7, 7, 7, 7, 7, 7, 7, 7, 7, 7, 7, 7, 7, 7, 7, 7, 7, 7, 7, 7, 7, 7, 7, 7, 7, 7, 7, 7, 7, 8, 8, 8, 8, 8, 8, 8, 8, 8, 8, 8, 8, 8, 8, 8, 8, 8, 8, 8, 8, 8, 8, 8, 8, 8, 8, 8, 8, 8, 8, 8, 8, 8, 8, 8, 8, 8, 8, 8, 8, 8, 8, 8, 8, 8, 8, 8, 8, 8, 8, 8, 8, 8, 8, 8, 8, 8, 8, 8, 8, 8, 8, 8, 8, 8, 8, 8, 8, 8, 8, 8, 8, 8, 8, 8, 8, 8, 8, 8, 8, 8, 8, 8, 8, 8, 8, 8, 8, 8, 8, 8, 8, 8, 8, 8, 8, 8, 8, 8, 8, 8, 8, 8, 8, 8, 8, 8, 8, 8, 8, 8, 8, 8, 8, 8, 8, 8, 8, 8, 8, 8, 8, 8, 8, 8, 8, 8, 8]⟩
def lnv (x : Nat) : Nat := (lnTab.data.getD x 0).toNat
set_option maxRecDepth 100000 in
theorem tz_facts : ∀ x : Fin 256, tzv x.1 ≤ 8 ∧ (x.1 ≠ 0 → tzv x < 8 ∧ x.1.testBit (tzv x) = true ∧ ∀ i : Fin 8, i.1 < tzv x → x.1.testBit i = false) := by decide +kernel
set_option maxRecDepth 100000 in
theorem ln_facts : ∀ x : Fin 256, lnv x.1 ≤ 8 ∧ (x.1 < 2 ^ lnv x.1) ∧ ∀ i : Fin 8, lnv x.1 = i.1 + 1 → x.1.testBit i.1 = true := by decide +kernel
theorem tab_get (T : ByteArray) (x : Nat) (h : x < T.size) : (T[x]'h).toNat = (T.data.getD x 0).toNat := by
  have h' : x < T.data.size := h
  rw [Array.getD_eq_getD_getElem?, Array.getElem?_eq_getElem h']
  rfl
theorem wrap_small (n : Nat) (h : n ≤ 8) : wrap64 (n : Int) = n := by unfold wrap64; omega
set_option maxRecDepth 100000 in
theorem tz_any (x : Nat) (hx : x < 256) (w : World) : Calls Try.prog 32 #[.int .u8 x] w fun e w' => e = .returned (.int .i64 (tzv x)) ∧ w' = w := by
  have hk := (tz_facts ⟨x, hx⟩).1
  have hT : x < tzTab.size := hx
  have HG : Hid (wrap64 ((tzTab[x]'hT).toNat : Int) = tzv x) := by
    show wrap64 ((tzTab[x]'hT).toNat : Int) = tzv x
    rw [tab_get]; exact wrap_small _ hk
  clear hk
  go_enter Try.func32, Try.ntmps32
  go_wp2
  go_ret
  exact ⟨ret_int HG.out, rfl⟩
set_option maxRecDepth 100000 in
theorem ln_any (x : Nat) (hx : x < 256) (w : World) : Calls Try.prog 30 #[.int .u8 x] w fun e w' => e = .returned (.int .i64 (lnv x)) ∧ w' = w := by
  have hk := (ln_facts ⟨x, hx⟩).1
  have hT : x < lnTab.size := hx
  have HG : Hid (wrap64 ((lnTab[x]'hT).toNat : Int) = lnv x) := by
    show wrap64 ((lnTab[x]'hT).toNat : Int) = lnv x
    rw [tab_get]; exact wrap_small _ hk
  clear hk
  go_enter Try.func30, Try.ntmps30
  go_wp2
  go_ret
  exact ⟨ret_int HG.out, rfl⟩

theorem bit_full {x i : Nat} (hx : x = 255) (hi : i < 8) : x.testBit i = true := by
  subst hx
  have : i = 0 ∨ i = 1 ∨ i = 2 ∨ i = 3 ∨ i = 4 ∨ i = 5 ∨ i = 6 ∨ i = 7 := by omega
  rcases this with rfl | rfl | rfl | rfl | rfl | rfl | rfl | rfl <;> rfl
set_option maxRecDepth 100000 in
theorem comp_bits : ∀ (x : Fin 256) (i : Fin 8), (255 - x.1).testBit i.1 = !(x.1.testBit i.1) := by decide +kernel
set_option maxRecDepth 100000 in
theorem compl_eq : ∀ y : Fin 256, 255 ^^^ y.1 = 255 - y.1 := by decide +kernel
theorem compl_u8 (y : Nat) (hy : y < 256) : bits BinOp.xor IntKind.u8 IntKind.u8.max (y : Int) = ((255 - y : Nat) : Int) := by
  have : IntKind.u8.max = ((255 : Nat) : Int) := by decide +kernel
  rw [this, u8_xor_nat 255 y (by omega) hy]
  exact congrArg _ (compl_eq ⟨y, hy⟩)
theorem all_full (L : List Nat) (j : Nat) (h : ∀ x, x < j → L.getD x 0 = 255) (k : Nat) (hk : k < 8 * j) : bitOf L k = true := bit_full (h (k / 8) (by omega)) (Nat.mod_lt _ (by omega))
/-- The first bit that is 0, at byte j. -/
theorem first_free (L : List Nat) (hL : octs L) (j : Nat) (h : ∀ x, x < j → L.getD x 0 = 255) (hne : L.getD j 0 ≠ 255) :
    tzv (255 - L.getD j 0) < 8 ∧ bitOf L (j * 8 + tzv (255 - L.getD j 0)) = false ∧ ∀ k, k < j * 8 + tzv (255 - L.getD j 0) → bitOf L k = true := by
  have hx := octs_getD hL j
  have hf := (tz_facts ⟨255 - L.getD j 0, by omega⟩).2 (by simp only; omega)
  simp only at hf
  obtain ⟨h1, h2, h3⟩ := hf
  have hcb := fun (i : Nat) (hi : i < 8) => comp_bits ⟨L.getD j 0, hx⟩ ⟨i, hi⟩
  simp only at hcb
  refine ⟨h1, ?_, fun k hk => ?_⟩
  · have := hcb _ h1
    rw [h2] at this
    unfold bitOf
    rw [show (j * 8 + tzv (255 - L.getD j 0)) / 8 = j by omega, show (j * 8 + tzv (255 - L.getD j 0)) % 8 = tzv (255 - L.getD j 0) by omega]
    simpa using this
  · rcases Nat.lt_or_ge k (8 * j) with hlt | hge
    · exact all_full L j h k hlt
    · have hm : k % 8 < 8 := Nat.mod_lt _ (by omega)
      have := h3 ⟨k % 8, hm⟩ (by simp only; omega)
      simp only at this
      have hc := hcb _ hm
      rw [this] at hc
      unfold bitOf
      rw [show k / 8 = j by omega]
      simpa using hc

/-- Whether k is the least free page's bit. -/
def least (L : List Nat) (k : Nat) : Prop := bitOf L k = false ∧ ∀ j, j < k → bitOf L j = true
set_option maxRecDepth 100000 in
set_option maxHeartbeats 1000000 in
theorem leastFree_any (b most : Nat) (L : List Nat) (w : World) (h : Mp w b most L) : Calls Try.prog 23 #[.pointer (some ⟨b, 0, none⟩)] w fun e w' => ∃ r : Nat, e = .returned (.int .i64 r) ∧ ((r = 0 ∧ ∀ k, k < most → bitOf L k = true) ∨ ∃ k, r = k + 1 ∧ k < 4096 ∧ least L k) ∧ w' = w := by
  have htop := h.top
  have hn := needed_any most htop w
  have HN : Hid ((most + 7) / 8 ≤ 512 ∧ most ≤ 8 * ((most + 7) / 8)) := ⟨by omega, by omega⟩
  generalize (most + 7) / 8 = n at *
  go_enter Try.func23, Try.ntmps23
  go_wp2_with fail
  refine (bound_any b most L _ h).mono ?_
  rintro e w1 ⟨rfl, rfl⟩
  go_wp2_with fail
  refine hn.mono ?_
  rintro e w2 ⟨rfl, rfl⟩
  go_wp2
  go_loopw [8] (fun i wr => ∃ j : Nat, j ≤ n ∧ i = .int .i64 j ∧ Hid (∀ x, x < j → L.getD x 0 = 255) ∧ wr = w2) (fun i _ => n - (intOf i).toNat)
  case atStart => exact ⟨0, by omega, rfl, (fun j h => by omega), rfl⟩
  case round =>
    obtain ⟨j, hj, rfl, HE, rfl⟩ := hrel
    by_cases hlt : j < n
    · have hjn : (j : Int) < (n : Int) := by omega
      have hj5 : (j : Int) < 512 := by have := HN.out.1; omega
      have hcell := h.cellB j (by omega)
      have hx := octs_getD h.byte j
      have HF : Hid (L.getD j 0 ≠ 255 → tzv (255 - L.getD j 0) < 8 ∧ bitOf L (j * 8 + tzv (255 - L.getD j 0)) = false ∧ ∀ k, k < j * 8 + tzv (255 - L.getD j 0) → bitOf L k = true) := first_free L h.byte j HE.out
      obtain ⟨y, hy⟩ : ∃ y, y = L.getD j 0 := ⟨_, rfl⟩
      have HY : Hid (y = L.getD j 0) := hy
      rw [← hy] at hcell hx HF
      clear hy
      by_cases h255 : y = 255
      · subst h255
        go_wp2
        go_roundw
        case rel =>
          refine ⟨j + 1, by omega, by go_num, fun x hx => ?_, trivial⟩
          rcases Nat.lt_or_ge x j with h2 | h2
          · exact HE.out x h2
          · rw [show x = j by omega]; exact HY.out.symm
        case measure => simp [intOf]; omega
      · have hne : ((y : Int) != 255) = true := by simp; omega
        have HF2 : Hid (tzv (255 - y) < 8 ∧ bitOf L (j * 8 + tzv (255 - y)) = false ∧ ∀ k, k < j * 8 + tzv (255 - y) → bitOf L k = true) := HF.out h255
        have htz := tz_any (255 - y) (by omega)
        have HC : Hid (bits BinOp.xor IntKind.u8 IntKind.u8.max (y : Int) = ((255 - y : Nat) : Int)) := compl_u8 y hx
        generalize 255 - y = z at *
        obtain ⟨t, ht⟩ : ∃ t, t = tzv z := ⟨_, rfl⟩
        rw [← ht] at HF2 htz
        have ht8 : t < 8 := HF2.out.1
        clear ht HF
        go_wp2_with fail
        rw [HC.out]
        refine (htz _).mono ?_
        rintro e w3 ⟨rfl, rfl⟩
        go_wp2
        go_ret
        exact ⟨j * 8 + t + 1, ret_int (by omega), .inr ⟨j * 8 + t, rfl, by have := HN.out.1; omega, HF2.out.2.1, HF2.out.2.2⟩, rfl⟩
    · have e : j = n := by omega
      subst e
      go_wp2
      go_ret
      exact ⟨0, rfl, .inl ⟨rfl, fun k hk => all_full L j HE.out k (by have := HN.out.2; omega)⟩, rfl⟩

theorem leastFree_nil (w : World) : Calls Try.prog 23 #[.pointer none] w fun e w' => e = .returned (.int .i64 0) ∧ w' = w := by
  have hn := needed_any 0 (by omega) w
  go_enter Try.func23, Try.ntmps23
  go_wp2_with fail
  refine (bound_nil _).mono ?_
  rintro e w1 ⟨rfl, rfl⟩
  go_wp2_with fail
  refine hn.mono ?_
  rintro e w2 ⟨rfl, rfl⟩
  go_wp2
  refine wp_loop_rounds 1 ?_
  rw [rounds_succ]
  go_wp2
  go_ret
  exact ⟨rfl, rfl⟩
theorem isPage_yes (b most : Nat) (L : List Nat) (w : World) (h : Mp w b most L) (k : Nat) (hk : k < most) : Calls Try.prog 24 #[.pointer (some ⟨b, 0, none⟩), .int .i64 ((k : Int) + 1)] w fun e w' => e = .returned (.bool true) ∧ w' = w := by
  have := isPage_any b most L w h ((k : Int) + 1)
  rwa [decide_eq_true (show 1 ≤ (k : Int) + 1 ∧ (k : Int) + 1 ≤ most by omega)] at this
theorem isPage_no (b most : Nat) (L : List Nat) (w : World) (h : Mp w b most L) (i : Int) (hi : i < 1 ∨ (most : Int) < i) : Calls Try.prog 24 #[.pointer (some ⟨b, 0, none⟩), .int .i64 i] w fun e w' => e = .returned (.bool false) ∧ w' = w := by
  have := isPage_any b most L w h i
  rwa [decide_eq_false (by omega)] at this
theorem take_nil (w : World) : Calls Try.prog 10 #[.pointer none] w fun e w' => e = .returned (.tuple #[.int .i64 0, .int .i64 5]) ∧ w' = w := by
  go_enter Try.func10, Try.ntmps10
  go_wp2_with fail
  refine (leastFree_nil _).mono ?_
  rintro e w1 ⟨rfl, rfl⟩
  go_wp2_with fail
  refine (isPage_nil _ _).mono ?_
  rintro e w1 ⟨rfl, rfl⟩
  go_wp2
  go_ret2
  exact ⟨rfl, rfl⟩
/-- What Take does. -/
def TakeOut (b most : Nat) (L : List Nat) (w : World) (e : Ending) (w' : World) : Prop :=
  (e = .returned (.tuple #[.int .i64 0, .int .i64 5]) ∧ w' = w ∧ ∀ k, k < most → bitOf L k = true) ∨
  ∃ k : Nat, k < most ∧ least L k ∧ e = .returned (.tuple #[.int .i64 ((k : Int) + 1), .int .i64 0]) ∧ Mp w' b most (turned L k) ∧ Fr (fun j => j = b) w w'
theorem take_any (b most : Nat) (L : List Nat) (w : World) (h : Mp w b most L) : Calls Try.prog 10 #[.pointer (some ⟨b, 0, none⟩)] w fun e w' => TakeOut b most L w e w' := by
  go_enter Try.func10, Try.ntmps10
  go_wp2_with fail
  refine (leastFree_any b most L _ h).mono ?_
  rintro e w1 ⟨r, rfl, hr, rfl⟩
  rcases hr with ⟨rfl, hall⟩ | ⟨k, rfl, hk4, hl⟩
  · have HA : Hid (∀ k, k < most → bitOf L k = true) := hall
    clear hall
    go_wp2_with fail
    refine (isPage_no b most L _ h 0 (by omega)).mono ?_
    rintro e w1 ⟨rfl, rfl⟩
    go_wp2
    go_ret2
    exact .inl ⟨rfl, rfl, HA.out⟩
  · have HL : Hid (least L k) := hl
    clear hl
    rw [show (((k + 1 : Nat) : Int)) = (k : Int) + 1 by omega]
    by_cases hkm : k < most
    · have hyes := isPage_yes b most L _ h k hkm
      go_wp2_with fail
      refine hyes.mono ?_
      rintro e w1 ⟨rfl, rfl⟩
      go_wp2_with fail
      refine (turn_any b most L _ h k hkm).mono ?_
      rintro e w2 ⟨rfl, h2, f2⟩
      go_wp2
      go_ret2
      exact .inr ⟨k, hkm, HL.out, rfl, h2, f2⟩
    · have hno := isPage_no b most L _ h ((k : Int) + 1) (by omega)
      have HA : Hid (∀ j, j < most → bitOf L j = true) := fun j hj => HL.out.2 j (by omega)
      go_wp2_with fail
      refine hno.mono ?_
      rintro e w1 ⟨rfl, rfl⟩
      go_wp2
      go_ret2
      exact .inl ⟨rfl, rfl, HA.out⟩
/-- What Mark and Free answer and leave, of a page that is to be as 'on' says. -/
def setE (most : Nat) (L : List Nat) (on : Bool) (i : Int) : Int := if 1 ≤ i ∧ i ≤ most then (if bitOf L (i.toNat - 1) = on then 7 else 0) else 6
def setL (most : Nat) (L : List Nat) (on : Bool) (i : Int) : List Nat := if 1 ≤ i ∧ i ≤ most then (if bitOf L (i.toNat - 1) = on then L else turned L (i.toNat - 1)) else L
theorem has_bit (b most : Nat) (L : List Nat) (w : World) (h : Mp w b most L) (k : Nat) (hk : k < most) : Calls Try.prog 15 #[.pointer (some ⟨b, 0, none⟩), .int .i64 ((k : Int) + 1)] w fun e w' => e = .returned (.bool (bitOf L k)) ∧ Fr (fun _ => False) w w' := by
  have := has_any b most L w h ((k : Int) + 1)
  have e : hasF most L ((k : Int) + 1) = bitOf L k := by unfold hasF; rw [decide_eq_true (by omega)]; simp
  rwa [e] at this
theorem mark_any (b most : Nat) (L : List Nat) (w : World) (h : Mp w b most L) (i : Int) : Calls Try.prog 12 #[.pointer (some ⟨b, 0, none⟩), .int .i64 i] w fun e w' => e = .returned (.int .i64 (setE most L true i)) ∧ Mp w' b most (setL most L true i) ∧ Fr (fun j => j = b) w w' := by
  unfold setE setL
  by_cases hi : 1 ≤ i ∧ i ≤ most
  · rw [if_pos hi, if_pos hi]
    obtain ⟨k, rfl⟩ : ∃ k : Nat, i = (k : Int) + 1 := ⟨(i - 1).toNat, by omega⟩
    rw [show ((k : Int) + 1).toNat - 1 = k by omega]
    have hkm : k < most := by omega
    have hyes := isPage_yes b most L _ h k hkm
    have hhas := has_bit b most L _ h k hkm
    clear hi
    cases hb : bitOf L k
    · rw [hb] at hhas
      have HB : Hid (bitOf L k = false) := hb
      clear hb
      rw [if_neg (by simp), if_neg (by simp)]
      go_enter Try.func12, Try.ntmps12
      go_wp2_with fail
      refine hyes.mono ?_
      rintro e w1 ⟨rfl, rfl⟩
      go_wp2_with fail
      refine hhas.mono ?_
      rintro e w2 ⟨rfl, f2⟩
      have h2 := h.same f2
      go_wp2_with fail
      refine (turn_any b most L _ h2 k hkm).mono ?_
      rintro e w3 ⟨rfl, h3, f3⟩
      go_wp2
      go_ret
      exact ⟨rfl, h3, f2.any.trans f3 (fun _ _ e => e)⟩
    · rw [hb] at hhas
      have HB : Hid (bitOf L k = true) := hb
      clear hb
      rw [if_pos rfl, if_pos rfl]
      go_enter Try.func12, Try.ntmps12
      go_wp2_with fail
      refine hyes.mono ?_
      rintro e w1 ⟨rfl, rfl⟩
      go_wp2_with fail
      refine hhas.mono ?_
      rintro e w2 ⟨rfl, f2⟩
      go_wp2
      go_ret
      exact ⟨rfl, h.same f2, f2.any⟩
  · rw [if_neg hi, if_neg hi]
    have hno := isPage_no b most L _ h i (by omega)
    clear hi
    go_enter Try.func12, Try.ntmps12
    go_wp2_with fail
    refine hno.mono ?_
    rintro e w1 ⟨rfl, rfl⟩
    go_wp2
    go_ret
    exact ⟨rfl, h, Fr.refl _ _⟩
theorem free_any (b most : Nat) (L : List Nat) (w : World) (h : Mp w b most L) (i : Int) : Calls Try.prog 14 #[.pointer (some ⟨b, 0, none⟩), .int .i64 i] w fun e w' => e = .returned (.int .i64 (setE most L false i)) ∧ Mp w' b most (setL most L false i) ∧ Fr (fun j => j = b) w w' := by
  unfold setE setL
  by_cases hi : 1 ≤ i ∧ i ≤ most
  · rw [if_pos hi, if_pos hi]
    obtain ⟨k, rfl⟩ : ∃ k : Nat, i = (k : Int) + 1 := ⟨(i - 1).toNat, by omega⟩
    rw [show ((k : Int) + 1).toNat - 1 = k by omega]
    have hkm : k < most := by omega
    have hyes := isPage_yes b most L _ h k hkm
    have hhas := has_bit b most L _ h k hkm
    clear hi
    cases hb : bitOf L k
    · rw [hb] at hhas
      have HB : Hid (bitOf L k = false) := hb
      clear hb
      rw [if_pos rfl, if_pos rfl]
      go_enter Try.func14, Try.ntmps14
      go_wp2_with fail
      refine hyes.mono ?_
      rintro e w1 ⟨rfl, rfl⟩
      go_wp2_with fail
      refine hhas.mono ?_
      rintro e w2 ⟨rfl, f2⟩
      go_wp2
      go_ret
      exact ⟨rfl, h.same f2, f2.any⟩
    · rw [hb] at hhas
      have HB : Hid (bitOf L k = true) := hb
      clear hb
      rw [if_neg (by simp), if_neg (by simp)]
      go_enter Try.func14, Try.ntmps14
      go_wp2_with fail
      refine hyes.mono ?_
      rintro e w1 ⟨rfl, rfl⟩
      go_wp2_with fail
      refine hhas.mono ?_
      rintro e w2 ⟨rfl, f2⟩
      have h2 := h.same f2
      go_wp2_with fail
      refine (turn_any b most L _ h2 k hkm).mono ?_
      rintro e w3 ⟨rfl, h3, f3⟩
      go_wp2
      go_ret
      exact ⟨rfl, h3, f2.any.trans f3 (fun _ _ e => e)⟩
  · rw [if_neg hi, if_neg hi]
    have hno := isPage_no b most L _ h i (by omega)
    clear hi
    go_enter Try.func14, Try.ntmps14
    go_wp2_with fail
    refine hno.mono ?_
    rintro e w1 ⟨rfl, rfl⟩
    go_wp2
    go_ret
    exact ⟨rfl, h, Fr.refl _ _⟩
theorem mark_nil (i : Int) (w : World) : Calls Try.prog 12 #[.pointer none, .int .i64 i] w fun e w' => e = .returned (.int .i64 6) ∧ w' = w := by
  go_enter Try.func12, Try.ntmps12
  go_wp2_with (refine (isPage_nil _ _).mono ?_; rintro e w' ⟨rfl, rfl⟩)
  go_ret
  exact ⟨rfl, rfl⟩
theorem free_nil (i : Int) (w : World) : Calls Try.prog 14 #[.pointer none, .int .i64 i] w fun e w' => e = .returned (.int .i64 6) ∧ w' = w := by
  go_enter Try.func14, Try.ntmps14
  go_wp2_with (refine (isPage_nil _ _).mono ?_; rintro e w' ⟨rfl, rfl⟩)
  go_ret
  exact ⟨rfl, rfl⟩
end Go.Proofs.Ytgilemiejemgkaa
