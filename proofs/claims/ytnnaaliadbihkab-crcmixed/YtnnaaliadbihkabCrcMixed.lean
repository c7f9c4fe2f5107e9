/- For every three rows of bytes latticelaw02.CrcMixed answers true and leaves its arguments as they were: the sum is mixed as the bytes are (2.1); no condition. -/
import Derived.Test.YtnnaaliadbihkabArgs
import Derived.Test.YtnnaaliadbihkabSpeak
import Derived.Test.YtnnaaliadbihkabRefSeal
import Derived.Test.YtnnaaliadbihkabAppStep
namespace Go.Proofs.Ytnnaaliadbihkab.crcMixed
open Go.ChangeShapes Go.WideShapes Go.ChangeAt Go.RowKit
open Go.ChangeMaps (open_string shut_string)
set_option linter.unusedVariables false

theorem own : ownKnob Try.prog.godebug = none := by kernel_rfl
theorem laidOut : laidOutB Try.prog = true := by kernel_rfl
theorem bytes8 : Try.prog.bytesOf 5 = 1 := by kernel_rfl

open Go.Proofs.Ytnnaaliadbihkab.Crcm
attribute [local go_sem ↓] Go.wp_at_zero Go.wp_at_succ

/-- The first n bytes of three rows, mixed. -/
def mix3 (a b c : List Nat) (n : Nat) : List Nat := mix (mix (a.take n) (b.take n)) (c.take n)
theorem mix3_length {a b c : List Nat} {n : Nat} (ha : n ≤ a.length) (hb : n ≤ b.length) (hc : n ≤ c.length) : (mix3 a b c n).length = n := by
  simp [mix3, mix, List.length_zipWith]; omega
theorem mix3_succ {a b c : List Nat} {n : Nat} (ha : n < a.length) (hb : n < b.length) (hc : n < c.length) : mix3 a b c (n + 1) = mix3 a b c n ++ [a.getD n 0 ^^^ b.getD n 0 ^^^ c.getD n 0] := by
  unfold mix3 mix
  rw [take_snoc a n ha, take_snoc b n hb, take_snoc c n hc]
  rw [List.zipWith_append (by simp; omega), List.zipWith_append (by simp [List.length_zipWith]; omega)]
  rfl
theorem xor8 {a b : Nat} (ha : a < 256) (hb : b < 256) : a ^^^ b < 256 := Nat.xor_lt_two_pow (n := 8) (by omega) (by omega)
theorem mix3_octs {a b c : List Nat} (ha : octs a) (hb : octs b) (hc : octs c) (n : Nat) (h1 : n ≤ a.length) (h2 : n ≤ b.length) (h3 : n ≤ c.length) : octs (mix3 a b c n) := by
  induction n with
  | zero => intro x hx; simp [mix3, mix] at hx
  | succ n ih =>
    rw [mix3_succ (by omega) (by omega) (by omega)]
    intro x hx
    rcases List.mem_append.mp hx with h | h
    · exact ih (by omega) (by omega) (by omega) x h
    · simp only [List.mem_singleton] at h
      rw [h]; exact xor8 (xor8 (octs_getD ha n) (octs_getD hb n)) (octs_getD hc n)
theorem mix3_crc {a b c : List Nat} {n : Nat} (ha : n ≤ a.length) (hb : n ≤ b.length) (hc : n ≤ c.length) : crc (mix3 a b c n) = crc (a.take n) ^^^ crc (b.take n) ^^^ crc (c.take n) :=
  crc_mix3 _ _ _ (by simp; omega) (by simp; omega)

theorem i64_xor {a b : Nat} (ha : a < 4294967296) (hb : b < 4294967296) : bits BinOp.xor IntKind.i64 (a : Int) (b : Int) = ((a ^^^ b : Nat) : Int) := by
  have hx : a ^^^ b < 2 ^ 32 := Nat.xor_lt_two_pow (by omega) (by omega)
  have h1 : (BitVec.ofInt 64 (a : Int)).toNat = a := ofInt_u64 a (by omega)
  have h2 : (BitVec.ofInt 64 (b : Int)).toNat = b := ofInt_u64 b (by omega)
  show IntKind.i64.wrap ((BitVec.ofInt 64 (a : Int) ^^^ BitVec.ofInt 64 (b : Int)).toNat : Int) = _
  rw [BitVec.toNat_xor, h1, h2]
  simp only [IntKind.wrap, IntKind.bits, IntKind.signed]
  simp
  omega

theorem crc_nil : crc [] = 0 := by decide +kernel

set_option maxRecDepth 100000 in
set_option maxHeartbeats 4000000 in
theorem walk (w : World) (a0 : Option Addr) (len0 cap0 : Nat) (l0 : List Nat) (hl0 : len0 = l0.length) (z0 : cap0 ≤ 140737488351232) (hr0 : Row w a0 cap0 l0) (a1 : Option Addr) (len1 cap1 : Nat) (l1 : List Nat) (hl1 : len1 = l1.length) (z1 : cap1 ≤ 140737488351232) (hr1 : Row w a1 cap1 l1) (a2 : Option Addr) (len2 cap2 : Nat) (l2 : List Nat) (hl2 : len2 = l2.length) (z2 : cap2 ≤ 140737488351232) (hr2 : Row w a2 cap2 l2) :
    Calls Try.prog 7 #[.slice a0 len0 cap0, .slice a1 len1 cap1, .slice a2 len2 cap2] w fun e w' => e = .returned (.bool true) ∧ Fr (fun _ => False) w w' := by
  obtain ⟨i0, hi, hz0, hz1, hz2⟩ := info_parts info8
  have e0 := hr0.le
  have e1 := hr1.le
  have e2 := hr2.le
  have m0 : l0.length ≤ len0 ∧ len0 ≤ l0.length := by omega
  have m1 : l1.length ≤ len1 ∧ len1 ≤ l1.length := by omega
  have m2 : l2.length ≤ len2 ∧ len2 ≤ l2.length := by omega
  clear hl0 hl1 hl2
  have hcase : ∃ n, n ≤ len0 ∧ n ≤ len1 ∧ n ≤ len2 ∧ (n = len0 ∧ len0 ≤ len1 ∧ len0 ≤ len2 ∨ n = len1 ∧ len1 < len0 ∧ len1 ≤ len2 ∨ n = len2 ∧ len0 ≤ len1 ∧ len2 < len0 ∨ n = len2 ∧ len1 < len0 ∧ len2 < len1) := by
    by_cases c1 : len1 < len0
    · by_cases c2 : len2 < len1
      · exact ⟨len2, by omega⟩
      · exact ⟨len1, by omega⟩
    · by_cases c2 : len2 < len0
      · exact ⟨len2, by omega⟩
      · exact ⟨len0, by omega⟩
  obtain ⟨n, n0, n1, n2, hcase⟩ := hcase
  have hcase2 : (n = len0 ∧ decide (len1 < len0) = false ∧ decide (len2 < len0) = false ∧ len0 ≤ len1 ∧ len0 ≤ len2) ∨ ((n = len1 ∧ len1 < len0 ∧ decide (len2 < len1) = false ∧ len1 ≤ len2) ∨ (n = len2 ∧ decide (len1 < len0) = false ∧ len2 < len0 ∧ len0 ≤ len1) ∨ (n = len2 ∧ len1 < len0 ∧ len2 < len1 ∧ len2 < len1)) := by
    simp only [decide_eq_false_iff_not]; omega
  clear hcase
  by_cases hn : n = 0
  · rcases hcase2 with ⟨hq, t1, t2, t3, t4⟩ | ⟨hq, t1, t2, t3⟩ | ⟨hq, t1, t2, t3⟩ | ⟨hq, t1, t2, t3⟩
    all_goals
      subst hq
      subst hn
      have g0 := (hr0.take 0).drew
      have g1 := (hr1.take 0).drew
      have g2 := (hr2.take 0).drew
      rw [List.take_zero] at g0 g1 g2
      clear hr0 hr1 hr2 e0 e1 e2 m0 m1 m2 n0 n1 n2 z0 z1 z2 hi hz0 hz1 hz2
      have s1 : (0 : Int) ≤ (cap0 : Int) := by omega
      have s2 : (0 : Int) ≤ (cap1 : Int) := by omega
      have s3 : (0 : Int) ≤ (cap2 : Int) := by omega
      have hxz : bits BinOp.xor IntKind.i64 0 0 = 0 := i64_xor (a := 0) (b := 0) (by omega) (by omega)
      go_enter Try.func7, Try.ntmps7
      go_wp2
      refine wp_loop_rounds 1 ?_
      rw [rounds_succ]
      go_wp2
      go_region_with (first
            | (go_at_call_of 10 a0; refine (sum_any a0 0 cap0 [] rfl _ ?_).mono ?_; exact g0; rw [crc_nil]; rintro e w' ⟨rfl, rfl⟩)
            | (go_at_call_of 10 a1; refine (sum_any a1 0 cap1 [] rfl _ ?_).mono ?_; exact g1; rw [crc_nil]; rintro e w' ⟨rfl, rfl⟩)
            | (go_at_call_of 10 a2; refine (sum_any a2 0 cap2 [] rfl _ ?_).mono ?_; exact g2; rw [crc_nil]; rintro e w' ⟨rfl, rfl⟩)
            | (go_at_call 10; refine (sum_any none 0 0 [] rfl _ ?_).mono ?_; exact row_nil _ _; rw [crc_nil]; rintro e w' ⟨rfl, rfl⟩)
            | (go_at_call 12; refine (speaks_any _).mono ?_; rintro e w7 ⟨rfl, f7⟩))
      go_wp2
      go_ret
      exact ⟨rfl, (Fr.refl (fun _ => False) w).drew.false_trans f7⟩
  · obtain ⟨b0, off0, rfl, hb0, hc0⟩ : ∃ b off, a0 = some ⟨b, off, none⟩ ∧ b < w.heap.size ∧ ∀ i, i < l0.length → w.cell? ⟨b, off + i, none⟩ = some (.int .u8 ((l0.getD i 0 : Nat) : Int)) := by
      rcases hr0.at_ with e | e
      · rw [e] at m0; simp at m0; omega
      · exact e
    obtain ⟨b1, off1, rfl, hb1, hc1⟩ : ∃ b off, a1 = some ⟨b, off, none⟩ ∧ b < w.heap.size ∧ ∀ i, i < l1.length → w.cell? ⟨b, off + i, none⟩ = some (.int .u8 ((l1.getD i 0 : Nat) : Int)) := by
      rcases hr1.at_ with e | e
      · rw [e] at m1; simp at m1; omega
      · exact e
    obtain ⟨b2, off2, rfl, hb2, hc2⟩ : ∃ b off, a2 = some ⟨b, off, none⟩ ∧ b < w.heap.size ∧ ∀ i, i < l2.length → w.cell? ⟨b, off + i, none⟩ = some (.int .u8 ((l2.getD i 0 : Nat) : Int)) := by
      rcases hr2.at_ with e | e
      · rw [e] at m2; simp at m2; omega
      · exact e
    have HC0 : Hid (∀ i, i < l0.length → w.cell? ⟨b0, off0 + i, none⟩ = some (.int .u8 ((l0.getD i 0 : Nat) : Int))) := hc0
    have HC1 : Hid (∀ i, i < l1.length → w.cell? ⟨b1, off1 + i, none⟩ = some (.int .u8 ((l1.getD i 0 : Nat) : Int))) := hc1
    have HC2 : Hid (∀ i, i < l2.length → w.cell? ⟨b2, off2 + i, none⟩ = some (.int .u8 ((l2.getD i 0 : Nat) : Int))) := hc2
    clear hc0 hc1 hc2
    have B0 : Hid (∀ k : Nat, k < n → (k : Int) < (len0 : Int)) := fun k hk => by omega
    have B1 : Hid (∀ k : Nat, k < n → (k : Int) < (len1 : Int)) := fun k hk => by omega
    have B2 : Hid (∀ k : Nat, k < n → (k : Int) < (len2 : Int)) := fun k hk => by omega
    rcases hcase2 with ⟨hq, t1, t2, t3, t4⟩ | ⟨hq, t1, t2, t3⟩ | ⟨hq, t1, t2, t3⟩ | ⟨hq, t1, t2, t3⟩
    all_goals
      subst hq
      go_enter Try.func7, Try.ntmps7
      go_wp2
      go_loopw [8, 9] (fun v i wr => ∃ (k : Nat) (a : Option Addr) (c : Nat), k ≤ n ∧ i = .int .i64 k ∧ v = .slice a k c ∧ Mine wr w.heap.size (.slice a k c) (mix3 l0 l1 l2 k) ∧ Fr (fun _ => False) w wr)
        (fun _ i _ => n - (intOf i).toNat)
      case atStart => exact ⟨0, none, 0, by omega, rfl, rfl, World.ownsRow_nil _ _ _ _, Fr.refl _ _⟩
      case round =>
        obtain ⟨k, am, cm, hk, rfl, rfl, hown, hf⟩ := hrel
        have hsz := hf.size
        by_cases hlt : k < n
        · have ec0 := (hf.cell (p := ⟨b0, off0 + k, none⟩) hb0 (fun f => f)).trans (HC0.out k (by omega))
          have ec1 := (hf.cell (p := ⟨b1, off1 + k, none⟩) hb1 (fun f => f)).trans (HC1.out k (by omega))
          have ec2 := (hf.cell (p := ⟨b2, off2 + k, none⟩) hb2 (fun f => f)).trans (HC2.out k (by omega))
          have HM : Hid (mix3 l0 l1 l2 (k + 1) = mix3 l0 l1 l2 k ++ [l0.getD k 0 ^^^ l1.getD k 0 ^^^ l2.getD k 0]) := mix3_succ (by omega) (by omega) (by omega)
          have hml : (mix3 l0 l1 l2 k).length = k := mix3_length (by omega) (by omega) (by omega)
          have x0l := octs_getD hr0.byte k
          have x1l := octs_getD hr1.byte k
          have x2l := octs_getD hr2.byte k
          obtain ⟨x0, hx0⟩ : ∃ x, x = l0.getD k 0 := ⟨_, rfl⟩
          obtain ⟨x1, hx1⟩ : ∃ x, x = l1.getD k 0 := ⟨_, rfl⟩
          obtain ⟨x2, hx2⟩ : ∃ x, x = l2.getD k 0 := ⟨_, rfl⟩
          rw [← hx0] at ec0 x0l HM
          rw [← hx1] at ec1 x1l HM
          rw [← hx2] at ec2 x2l HM
          clear hx0 hx1 hx2
          have hxa := u8_xor_nat x0 x1 x0l x1l
          have hxb := u8_xor_nat (x0 ^^^ x1) x2 (xor8 x0l x1l) x2l
          have hyl := xor8 (xor8 x0l x1l) x2l
          obtain ⟨y, hy⟩ : ∃ y, y = x0 ^^^ x1 ^^^ x2 := ⟨_, rfl⟩
          rw [← hy] at hxb HM hyl
          clear hy
          have s0 : (0 : Int) ≤ (k : Int) := by omega
          have s1 : (k : Int) < (n : Int) := by omega
          have s2 := B0.out k hlt
          have s3 := B1.out k hlt
          have s4 := B2.out k hlt
          have hro : Row (wr.alloc (.cells #[.int .u8 (y : Int)] 5)).drew (some ⟨wr.heap.size, 0, none⟩) 1 [y] := (row_lit (octs_one hyl) (by simp) (heap_alloc_new wr _)).drew
          have hk3 : Hid (∀ W, Fr (fun j => w.heap.size ≤ j) wr W → W.cell? ⟨b0, off0 + k, none⟩ = some (.int .u8 (x0 : Int)) ∧ W.cell? ⟨b1, off1 + k, none⟩ = some (.int .u8 (x1 : Int)) ∧ W.cell? ⟨b2, off2 + k, none⟩ = some (.int .u8 (x2 : Int))) := fun W hW => ⟨(hW.cell (Nat.lt_of_lt_of_le hb0 hsz) (fun f => Nat.not_le_of_lt hb0 f)).trans ec0, (hW.cell (Nat.lt_of_lt_of_le hb1 hsz) (fun f => Nat.not_le_of_lt hb1 f)).trans ec1, (hW.cell (Nat.lt_of_lt_of_le hb2 hsz) (fun f => Nat.not_le_of_lt hb2 f)).trans ec2⟩
          have fa : Fr (fun j => w.heap.size ≤ j) wr (wr.alloc (.cells #[.int .u8 (y : Int)] 5)).drew := ((Fr.refl (fun j => w.heap.size ≤ j) wr).alloc _).drew
          go_wp2
          go_region_held3 (fun W => W.cell? ⟨b0, off0 + k, none⟩ = some (.int .u8 (x0 : Int)) ∧ W.cell? ⟨b1, off1 + k, none⟩ = some (.int .u8 (x1 : Int)) ∧ W.cell? ⟨b2, off2 + k, none⟩ = some (.int .u8 (x2 : Int)))
            (first | exact hk3.out _ (Fr.refl (fun j => w.heap.size ≤ j) wr).drew | exact hk3.out _ fa | exact hk3.out _ f1)
            ((refine step_append_row _ (by rfl) _ _ 22 22 5 (by rfl) i0 Try.underlying22 Try.underlying22 hi hz0 hz1 hz2 w.heap.size (.slice am k cm) (mix3 l0 l1 l2 k) (by rfl) ((hown.alloc _).drew) (some ⟨wr.heap.size, 0, none⟩) 1 1 [y] rfl (by rfl) hro (by simp; omega) (by simp; omega) ?_; intro a1' c1' w1 hown1 hgrow hat; have f1 : Fr (fun j => w.heap.size ≤ j) wr w1 := fa.grown hgrow (fun j e _ => (hown.lt j e).1)))
          go_wp2
          go_roundw
          case rel =>
            have R : Mine w1 w.heap.size (.slice a1' (k + 1) c1') (mix3 l0 l1 l2 (k + 1)) := by
              rw [HM.out]
              simpa [hml] using hown1
            have F := (hf.alloc _).drew.fresh hgrow (fun j e => (hown.lt j e).1)
            first
              | exact ⟨k + 1, a1', c1', by omega, by go_num, rfl, R, F⟩
              | ((repeat apply Exists.intro); exact ⟨⟨k + 1, a1', c1', by omega, by go_num, rfl, R, F⟩, rfl⟩)
          case measure => simp [intOf]; omega
        · have ek : k = n := by omega
          subst ek
          have hml : (mix3 l0 l1 l2 k).length = k := mix3_length (by omega) (by omega) (by omega)
          have hmo : octs (mix3 l0 l1 l2 k) := mix3_octs hr0.byte hr1.byte hr2.byte k (by omega) (by omega) (by omega)
          obtain ⟨a4, c4, he4, hrm⟩ := hown.row hmo (by omega)
          rw [hml] at he4
          simp only [Value.slice.injEq, true_and] at he4
          obtain ⟨rfl, rfl⟩ := he4
          have g0 := ((hr0.take k).same hf).drew
          have g1 := ((hr1.take k).same hf).drew
          have g2 := ((hr2.take k).same hf).drew
          have gl0 : k = (l0.take k).length := by simp; omega
          have gl1 : k = (l1.take k).length := by simp; omega
          have gl2 : k = (l2.take k).length := by simp; omega
          have HX : Hid (crc (mix3 l0 l1 l2 k) = crc (l0.take k) ^^^ crc (l1.take k) ^^^ crc (l2.take k)) := mix3_crc (by omega) (by omega) (by omega)
          have u0 := crc_lt g0.byte
          have u1 := crc_lt g1.byte
          have u2 := crc_lt g2.byte
          have gm := hrm.drew
          obtain ⟨lm, hlm⟩ : ∃ l, l = mix3 l0 l1 l2 k := ⟨_, rfl⟩
          rw [← hlm] at hml gm HX
          obtain ⟨t0, ht0⟩ : ∃ t, t = l0.take k := ⟨_, rfl⟩
          obtain ⟨t1', ht1⟩ : ∃ t, t = l1.take k := ⟨_, rfl⟩
          obtain ⟨t2', ht2⟩ : ∃ t, t = l2.take k := ⟨_, rfl⟩
          rw [← ht0] at g0 gl0 HX u0
          rw [← ht1] at g1 gl1 HX u1
          rw [← ht2] at g2 gl2 HX u2
          have hxa := i64_xor u0 u1
          have hxb := i64_xor (xor32_lt u0 u1) u2
          rw [← HX.out] at hxb
          clear ht0 ht1 ht2 hlm hrm hmo hown
          have G0 : Hid (k = t0.length) := gl0
          have G1 : Hid (k = t1'.length) := gl1
          have G2 : Hid (k = t2'.length) := gl2
          have GM : Hid (k = lm.length) := hml.symm
          clear gl0 gl1 gl2 hml
          have s0 : (0 : Int) ≤ (k : Int) := by omega
          have s1 : (k : Int) ≤ (cap0 : Int) := by omega
          have s2 : (k : Int) ≤ (cap1 : Int) := by omega
          have s3 : (k : Int) ≤ (cap2 : Int) := by omega
          go_wp2
          go_region_with (first
            | (go_at_call_of 10 am; refine (sum_any am k cm lm GM.out _ ?_).mono ?_; exact gm; rintro e w' ⟨rfl, rfl⟩)
            | (go_at_call_of 10 b0; refine (sum_any (some ⟨b0, off0, none⟩) k cap0 t0 G0.out _ ?_).mono ?_; exact g0; rintro e w' ⟨rfl, rfl⟩)
            | (go_at_call_of 10 b1; refine (sum_any (some ⟨b1, off1, none⟩) k cap1 t1' G1.out _ ?_).mono ?_; exact g1; rintro e w' ⟨rfl, rfl⟩)
            | (go_at_call_of 10 b2; refine (sum_any (some ⟨b2, off2, none⟩) k cap2 t2' G2.out _ ?_).mono ?_; exact g2; rintro e w' ⟨rfl, rfl⟩)
            | (go_at_call 12; refine (speaks_any _).mono ?_; rintro e w7 ⟨rfl, f7⟩))
          go_wp2
          go_ret
          exact ⟨rfl, hf.drew.false_trans f7⟩

set_option maxRecDepth 100000 in
theorem lifted (os : Os) (started : os.Started) (H : Type) (enc : TypeId × Value → H) :
    ReturnsInHanded {} Try.checked os 7 .any (Rows.crcMixedSpec.pre6 enc Try.prog Try.f7 Rows.crcMixedRow.domain false) (Rows.crcMixedSpec.post enc Try.prog Try.f7 false true false false) := by
  refine returnsInHanded_of_change_sized (C := Try.checked) own started (by kernel_rfl) Try.func7
    (ChangeSpec.witness6 (enc := enc) (C := Try.checked) false ⟨#[], #[.slice none 0 0, .slice none 0 0, .slice none 0 0], []⟩ 8 (by kernel_rfl) (by kernel_rfl) (by kernel_rfl) (by kernel_rfl)) ?_
  intro W base args ds gs before hval0 hW hcnd hsz0 _
  have hsz : (DataW.weightsEach Try.prog (Try.f7.params.toList ++ Rows.crcMixedSpec.plain.varTypes Try.prog) (ds ++ gs)).all (· ≤ reachBytes) = true := hsz0
  clear hsz0
  have hval : ∀ (j : Nat) t v, Try.f7.params[j]? = some t → args[j]? = some v → Value.okWide Try.prog W .any base t v := hval0
  have hW' := hW
  obtain ⟨p, q, hA0, hV, rfl, hfz, hnd⟩ := hW
  have hA : DataW.TrodAll enc Try.prog W 0 (fun _ => true) true Try.f7.params.toList args.toList ds p := hA0
  rw [Try.params7] at hA hval hsz
  obtain ⟨v0, vs0, d0, ds0, p0, q0, hargs, rfl, rfl, h0, r0⟩ := trodAll_cons hA
  obtain ⟨v1, vs1, d1, ds1, p1, q1, rfl, rfl, rfl, h1, r1⟩ := trodAll_cons r0
  obtain ⟨v2, vs2, d2, ds2, p2, q2, rfl, rfl, rfl, h2, r2⟩ := trodAll_cons r1
  obtain ⟨rfl, rfl, rfl⟩ := trodAll_nil r2
  obtain rfl : args = #[v0, v1, v2] := by cases args; simp_all
  obtain ⟨rfl, rfl⟩ := trodVars_none hV
  obtain ⟨a0, len0, cap0, rfl⟩ := okWide_slice Try.underlying22 (hval 0 22 v0 rfl rfl)
  have k0 := h0
  have lt0 : ∀ x ∈ p0, x.block < W.heap.size := by obtain ⟨m, hm⟩ := k0; exact DataW.trod_lt m _ _ _ hm
  obtain ⟨l0, hl0, z0, hr0⟩ : ∃ l : List Nat, len0 = l.length ∧ cap0 ≤ 140737488351232 ∧ Row W a0 cap0 l := by
    obtain ⟨fuel, hf⟩ := h0
    rcases open_ints Try.underlying22 Try.underlying5 (by kernel_rfl) hf with ⟨hcs, _⟩ | ⟨x, l, c, zs, hcs, _, hl, hm, hz, hx, hcell, hwz⟩
    · simp [Value.cells] at hcs
      obtain ⟨rfl, rfl, rfl⟩ := hcs
      exact ⟨[], rfl, by omega, row_nil _ _⟩
    · simp [Value.cells] at hcs
      obtain ⟨rfl, rfl, rfl⟩ := hcs
      have hz' : zs.length = cap0 := by simpa using hz
      have hd : d0 = .slice (lits .u8 (zs.take len0)) (lits .u8 (zs.drop len0)) := congrArg Prod.fst hx
      have hcap : cap0 ≤ 140737488351232 := by
        have := sized_slice hsz (j := 0) (t := 22) (e := 5) rfl (by rw [hd]; rfl) Try.underlying22
        rw [bytes8] at this
        simp only [lits, List.length_map, List.length_take, List.length_drop, reachBytes] at this
        omega
      obtain ⟨l, h1, h2⟩ := row_of_ints hl hcap hz' hcell hwz
      exact ⟨l, h1, hcap, h2⟩
  obtain ⟨a1, len1, cap1, rfl⟩ := okWide_slice Try.underlying22 (hval 1 22 v1 rfl rfl)
  have k1 := h1
  have lt1 : ∀ x ∈ p1, x.block < W.heap.size := by obtain ⟨m, hm⟩ := k1; exact DataW.trod_lt m _ _ _ hm
  obtain ⟨l1, hl1, z1, hr1⟩ : ∃ l : List Nat, len1 = l.length ∧ cap1 ≤ 140737488351232 ∧ Row W a1 cap1 l := by
    obtain ⟨fuel, hf⟩ := h1
    rcases open_ints Try.underlying22 Try.underlying5 (by kernel_rfl) hf with ⟨hcs, _⟩ | ⟨x, l, c, zs, hcs, _, hl, hm, hz, hx, hcell, hwz⟩
    · simp [Value.cells] at hcs
      obtain ⟨rfl, rfl, rfl⟩ := hcs
      exact ⟨[], rfl, by omega, row_nil _ _⟩
    · simp [Value.cells] at hcs
      obtain ⟨rfl, rfl, rfl⟩ := hcs
      have hz' : zs.length = cap1 := by simpa using hz
      have hd : d1 = .slice (lits .u8 (zs.take len1)) (lits .u8 (zs.drop len1)) := congrArg Prod.fst hx
      have hcap : cap1 ≤ 140737488351232 := by
        have := sized_slice hsz (j := 1) (t := 22) (e := 5) rfl (by rw [hd]; rfl) Try.underlying22
        rw [bytes8] at this
        simp only [lits, List.length_map, List.length_take, List.length_drop, reachBytes] at this
        omega
      obtain ⟨l, h1, h2⟩ := row_of_ints hl hcap hz' hcell hwz
      exact ⟨l, h1, hcap, h2⟩
  obtain ⟨a2, len2, cap2, rfl⟩ := okWide_slice Try.underlying22 (hval 2 22 v2 rfl rfl)
  have k2 := h2
  have lt2 : ∀ x ∈ p2, x.block < W.heap.size := by obtain ⟨m, hm⟩ := k2; exact DataW.trod_lt m _ _ _ hm
  obtain ⟨l2, hl2, z2, hr2⟩ : ∃ l : List Nat, len2 = l.length ∧ cap2 ≤ 140737488351232 ∧ Row W a2 cap2 l := by
    obtain ⟨fuel, hf⟩ := h2
    rcases open_ints Try.underlying22 Try.underlying5 (by kernel_rfl) hf with ⟨hcs, _⟩ | ⟨x, l, c, zs, hcs, _, hl, hm, hz, hx, hcell, hwz⟩
    · simp [Value.cells] at hcs
      obtain ⟨rfl, rfl, rfl⟩ := hcs
      exact ⟨[], rfl, by omega, row_nil _ _⟩
    · simp [Value.cells] at hcs
      obtain ⟨rfl, rfl, rfl⟩ := hcs
      have hz' : zs.length = cap2 := by simpa using hz
      have hd : d2 = .slice (lits .u8 (zs.take len2)) (lits .u8 (zs.drop len2)) := congrArg Prod.fst hx
      have hcap : cap2 ≤ 140737488351232 := by
        have := sized_slice hsz (j := 2) (t := 22) (e := 5) rfl (by rw [hd]; rfl) Try.underlying22
        rw [bytes8] at this
        simp only [lits, List.length_map, List.length_take, List.length_drop, reachBytes] at this
        omega
      obtain ⟨l, h1, h2⟩ := row_of_ints hl hcap hz' hcell hwz
      exact ⟨l, h1, hcap, h2⟩
  clear hA0 hval0
  refine (walk W a0 len0 cap0 l0 hl0 z0 hr0 a1 len1 cap1 l1 hl1 z1 hr1 a2 len2 cap2 l2 hl2 z2 hr2).mono fun e W' ⟨he, fr⟩ => ?_
  have bel : Below W.heap.size W W' := fr.below (Nat.le_refl _) (fun _ f => f.elim)
  subst he
  exact ⟨_, rfl, _, _, _, [], _, [], hW', trodAll_mk1 (shut_bool Try.underlying4 _), (trodAll_cons_mk (Below.trod laidOut (by kernel_rfl) (of_decide_eq_true (by kernel_rfl)) k0 bel lt0) (trodAll_cons_mk (Below.trod laidOut (by kernel_rfl) (of_decide_eq_true (by kernel_rfl)) k1 bel lt1) (trodAll_cons_mk (Below.trod laidOut (by kernel_rfl) (of_decide_eq_true (by kernel_rfl)) k2 bel lt2) trodAll_mk0))), rfl, bel.frame _, fun h => by cases h⟩

theorem proved : Rows.CrcMixedSaid :=
  OpenClaim.holds_of_wide 7 Try.f7 rfl rfl rfl rfl rfl rfl rfl ⟨rfl, rfl, rfl, rfl, rfl⟩ rfl rfl rfl rfl rfl (by kernel_rfl) Try.func7 (by kernel_rfl)
    (of_decide_eq_true (by kernel_rfl)) (by unfold Func.isWrapper; first | (rw [if_pos (by decide +kernel)]; kernel_rfl) | (rw [if_neg (by decide +kernel)]; exact ⟨rfl, rfl⟩))
    (fun os started H enc _ => lifted os started H enc)
end Go.Proofs.Ytnnaaliadbihkab.crcMixed
namespace Go.Proofs.Ytnnaaliadbihkab
theorem crcMixed_holds : Rows.CrcMixedSaid := crcMixed.proved
#print axioms crcMixed_holds
end Go.Proofs.Ytnnaaliadbihkab
