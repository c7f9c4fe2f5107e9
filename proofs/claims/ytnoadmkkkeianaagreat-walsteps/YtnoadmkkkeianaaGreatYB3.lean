
/- Own, Wire, Read, Seal, RefNum, Speak, RefSeal, OpenAll, Text, Read2. -/
import Derived.Test.YtnoadmkkkeianaaGreatYB1
import Derived.Test.YtnoadmkkkeianaaGreatYB2
import Derived.Lib.SlBytesConst
/- What (*list).number does: a writer's bytes in memory, and a number behind them. -/
namespace Go.Proofs.YtnoadmkkkeianaaGreat
open Go.RowKit
attribute [local go_sem ↓] Go.wp_at_zero Go.wp_at_succ

/-- A writer at block wb: its list is v, which holds l. -/
structure Wr (w : World) (base wb : Nat) (v : Value) (l : List Nat) : Prop where
  box : w.heap[wb]? = some (.cells #[v] 108 (0, 0))
  low : wb < base
  own : Mine w base v l
/-- The blocks that a writer may write. -/
def wrS (wb : Nat) (v : Value) : Nat → Prop := fun k => k = wb ∨ v.ownBlock = some k

/-- The bytes of a number, the lowest first. -/
def le : Nat → Nat → List Nat
  | 0, _ => []
  | k + 1, n => le k n ++ [n / 256 ^ k % 256]
theorem le_length (k n : Nat) : (le k n).length = k := by
  induction k with
  | zero => rfl
  | succ k ih => simp [le, ih]

/-- One round of 'number': what the append and the store make of the writer. -/
theorem Wr.push {w w1 w2 : World} {base wb : Nat} {v v' : Value} {l : List Nat} {x : Nat} (h : Wr w base wb v l) (hg : w1.grownBy w2 v.ownBlock) (h1 : Fr (fun _ => False) w w1)
    (hown : w2.ownsRow base 5 1 v' (l.length + 1) (cellsOf l ++ [.int .u8 (x : Int)])) :
    Wr (w2.setCell ⟨wb, 0, none⟩ v') base wb v' (l ++ [x]) := by
  have hlt := lt_of_block h.box
  have hne : some wb ≠ v.ownBlock := fun e => by have := (h.own.lt wb e.symm).1; have := h.low; omega
  have hb : w2.heap[wb]? = some (.cells #[v] 108 (0, 0)) := by
    rw [hg.block wb (Nat.lt_of_lt_of_le hlt h1.size) hne, h1.block wb hlt (fun f => f)]; exact h.box
  refine ⟨one_setCell hb, h.low, ?_⟩
  have : w2.ownsRow base 5 1 v' (l ++ [x]).length (cellsOf (l ++ [x])) := by
    rw [cellsOf_append, cellsOf_one]; simpa using hown
  exact ownsRow_setCell_below this h.low v'

theorem byte_of (n k : Nat) : IntKind.u8.wrap ((n : Int) / 2 ^ (8 * (k : Int)).toNat) = ((n / 256 ^ k % 256 : Nat) : Int) := by
  have e : (8 * (k : Int)).toNat = 8 * k := by omega
  rw [e, IntKind.wrap_u8']
  have e2 : (2 : Int) ^ (8 * k) = ((256 ^ k : Nat) : Int) := by rw [show (256 : Nat) = 2 ^ 8 from rfl, ← Nat.pow_mul]; simp
  rw [e2, Int.natCast_emod, Int.natCast_ediv]; rfl
theorem number_fr {w wr w1 : World} {wb : Nat} {v vk v' : Value} {o : Obj} (hf : Fr (wrS wb v) w wr) (hv : vk.ownBlock = v.ownBlock ∨ ∃ g, vk.ownBlock = some g ∧ w.heap.size ≤ g)
    (hg : ((wr.alloc o).drew).grownBy w1 vk.ownBlock) : Fr (wrS wb v) w (w1.setCell ⟨wb, 0, none⟩ v') :=
  ((hf.alloc o).drew.grown hg (fun k e hk => by
    rcases hv with h | ⟨g, h, hge⟩
    · exact .inr (by rw [← h]; exact e)
    · rw [h] at e; simp at e; omega)).setCell (fun _ => .inl rfl) v'
theorem number_own {w wr : World} {v vk : Value} {n cap gg : Nat} (hv : vk.ownBlock = v.ownBlock ∨ ∃ g, vk.ownBlock = some g ∧ w.heap.size ≤ g) (hat : vk.ownBlock = some gg ∨ gg = wr.heap.size + 1) (hs : w.heap.size ≤ wr.heap.size) :
    (Value.slice (some ⟨gg, 0, none⟩) n cap).ownBlock = v.ownBlock ∨ ∃ g, (Value.slice (some ⟨gg, 0, none⟩) n cap).ownBlock = some g ∧ w.heap.size ≤ g := by
  rcases hat with h | h
  · rcases hv with h2 | ⟨g, h2, hge⟩
    · exact .inl (by rw [← h2, h]; rfl)
    · exact .inr ⟨gg, rfl, by rw [h2] at h; simp at h; omega⟩
  · exact .inr ⟨gg, rfl, by omega⟩

set_option maxRecDepth 100000 in
set_option maxHeartbeats 1000000 in
theorem number_any (n size : Nat) (hsz : size ≤ 8) (base wb : Nat) (v : Value) (l : List Nat) (w : World) (h : Wr w base wb v l) (hb : base ≤ w.heap.size) (hroom : l.length + 8 ≤ 140737488355328) :
    Calls Tryz.prog 68 #[.pointer (some ⟨wb, 0, none⟩), .int .i64 n, .int .i64 size] w fun e w' => e = .returned (.tuple #[]) ∧
      ∃ v', Wr w' base wb v' (l ++ le size n) ∧ Fr (wrS wb v) w w' ∧ (v'.ownBlock = v.ownBlock ∨ ∃ g, v'.ownBlock = some g ∧ w.heap.size ≤ g) := by
  obtain ⟨i0, hi, hz0, hz1, hz2⟩ := info_parts info8
  go_enter Tryz.func68, Tryz.ntmps68
  go_wp2
  go_loopw [8] (fun i wr => ∃ (k : Nat) (vk : Value), k ≤ size ∧ i = .int .i64 k ∧ Wr wr base wb vk (l ++ le k n) ∧ Fr (wrS wb v) w wr ∧ (vk.ownBlock = v.ownBlock ∨ ∃ g, vk.ownBlock = some g ∧ w.heap.size ≤ g))
    (fun i _ => size - (intOf i).toNat)
  case atStart => exact ⟨0, v, by omega, rfl, by simpa [le] using h, Fr.refl _ _, .inl rfl⟩
  case round =>
    obtain ⟨k, vk, hk, rfl, hw, hf, hv⟩ := hrel
    by_cases hlt : k < size
    · have hcell := cell_of_one hw.box
      have hfree := free_of_one hw.box
      have hi0 : (0 : Int) ≤ 8 * (k : Int) := by omega
      have hi1 : 8 * (k : Int) ≤ 64 := by omega
      have hwr : IntKind.i64.wrap (8 * (k : Int)) = 8 * (k : Int) := by simp [IntKind.wrap, IntKind.bits, IntKind.signed]; omega
      go_wp2
      have hsz1 := lt_of_block hw.box
      have hne : vk.ownBlock ≠ some wb := fun e => by have := (hw.own.lt wb e).1; have := hw.low; omega
      have hlen : (l ++ le k n).length = l.length + k := by simp [le_length]
      have hfs := hf.size
      obtain ⟨x, hx⟩ : ∃ x : Nat, x = n / 256 ^ k % 256 := ⟨_, rfl⟩
      have hxr : IntKind.u8.wrap ((n : Int) / 2 ^ (8 * (k : Int)).toNat) = ((x : Nat) : Int) := by rw [hx]; exact byte_of n k
      have HL : Hid (l ++ le (k + 1) n = (l ++ le k n) ++ [x]) := by rw [hx]; simp [le, Hid]
      clear hx
      have hc2 := (World.cell?_of_block (a := ⟨wb, 0, none⟩) (Below.heap_alloc wr (.cells #[.int .u8 (x : Int)] 5) wb hsz1)).trans hcell
      have hf2 := (World.frozen?_of_block (a := ⟨wb, 0, none⟩) (Below.heap_alloc wr (.cells #[.int .u8 (x : Int)] 5) wb hsz1)).trans hfree
      go_region_law
        ((refine step_append_lies _ (by rfl) _ _ _ (by rfl) base 5 i0 _ 1 1 Tryz.underlying106 hi hz0 hz1 hz2 rfl (by omega) vk _ _ (by rfl) ((hw.own.alloc _).drew)
            ⟨wr.heap.size, 0, none⟩ 1 1 [.int .u8 (x : Int)] (by rfl) (by rfl) (World.news_of_block (cs := #[.int .u8 (x : Int)]) (t := 5) (fr := (0, 0)) (heap_alloc_new wr _)) (by simp [Value.oneCell'])
            (by omega) (by unfold maxLen; omega) (by omega) (by simp; omega) (wr.heap.size + 1) (by simp) ?_; intro gg cap w1 hown1 hgrow hat hlt1; have hc3 := (hgrow.cell_far ⟨wb, 0, none⟩ (by simp; omega) (Ne.symm hne)).trans hc2; have hf3 := (hgrow.frozen_far ⟨wb, 0, none⟩ (by simp; omega) (Ne.symm hne)).trans hf2))
      all_goals
        go_wp2
        go_roundw
        case rel =>
          refine ⟨k + 1, .slice (some ⟨gg, 0, none⟩) (l.length + k + 1) cap, by omega, by go_num, ?_, ?_, ?_⟩
          · rw [HL.out]
            have hp := hw.push hgrow (((Fr.refl _ _).alloc _).drew) hown1
            rw [hlen] at hp
            exact hp
          · exact number_fr hf hv hgrow
          · exact number_own hv hat hfs
        case measure => simp [intOf]; omega
    · have : k = size := by omega
      subst this
      go_wp2
      go_end0
      exact ⟨rfl, vk, hw, hf, hv⟩
end Go.Proofs.YtnoadmkkkeianaaGreat

/- What package wire's small functions do: isSize, fits, New, (*Writer).Num, (*Writer).Bytes, Of. -/
namespace Go.Proofs.YtnoadmkkkeianaaGreat
open Go.RowKit

def sized (s : Int) : Bool := s == 1 || s == 2 || s == 4 || s == 8
set_option maxRecDepth 100000 in
set_option maxHeartbeats 400000 in
theorem isSize_yes (s : Int) (h : s = 1 ∨ s = 2 ∨ s = 4 ∨ s = 8) (w : World) : Calls Tryz.prog 81 #[.int .i64 s] w fun e w' => e = .returned (.bool true) ∧ w' = w := by
  rcases h with rfl | rfl | rfl | rfl <;>
    (go_enter Tryz.func81, Tryz.ntmps81; go_wp2; go_ret; exact ⟨rfl, rfl⟩)
set_option maxRecDepth 100000 in
set_option maxHeartbeats 400000 in
theorem isSize_no (s : Int) (h1 : ¬ s = 1) (h2 : ¬ s = 2) (h4 : ¬ s = 4) (h8 : ¬ s = 8) (w : World) : Calls Tryz.prog 81 #[.int .i64 s] w fun e w' => e = .returned (.bool false) ∧ w' = w := by
  have g1 : (s == 1) = false := by simpa using h1
  have g2 : (s == 2) = false := by simpa using h2
  have g4 : (s == 4) = false := by simpa using h4
  have g8 : (s == 8) = false := by simpa using h8
  clear h1 h2 h4 h8
  go_enter Tryz.func81, Tryz.ntmps81; go_wp2; go_ret; exact ⟨rfl, rfl⟩

/-- A number of so many bytes. -/
def fit (n size : Int) : Prop := 0 ≤ n ∧ (size = 1 ∧ n < 256 ∨ size = 2 ∧ n < 65536 ∨ size = 4 ∧ n < 4294967296 ∨ size = 8)
set_option maxRecDepth 100000 in
set_option maxHeartbeats 400000 in
theorem fits_yes (n size : Int) (h : fit n size) (w : World) : Calls Tryz.prog 82 #[.int .i64 n, .int .i64 size] w fun e w' => e = .returned (.bool true) ∧ w' = w := by
  obtain ⟨h0, h⟩ := h
  rcases h with ⟨rfl, h⟩ | ⟨rfl, h⟩ | ⟨rfl, h⟩ | rfl
  · have e : n / 256 = 0 := by omega
    go_enter Tryz.func82, Tryz.ntmps82; go_wp2; go_ret; exact ⟨rfl, rfl⟩
  · have e : n / 65536 = 0 := by omega
    go_enter Tryz.func82, Tryz.ntmps82; go_wp2; go_ret; exact ⟨rfl, rfl⟩
  · have e : n / 4294967296 = 0 := by omega
    go_enter Tryz.func82, Tryz.ntmps82; go_wp2; go_ret; exact ⟨rfl, rfl⟩
  · go_enter Tryz.func82, Tryz.ntmps82; go_wp2; go_ret; exact ⟨rfl, rfl⟩

theorem new_any (w : World) : Calls Tryz.prog 47 #[] w fun e w' => e = .returned (.pointer (some ⟨w.heap.size, 0, none⟩)) ∧ w' = w.alloc (.cells #[.slice none 0 0] 108) := by
  go_enter Tryz.func47, Tryz.ntmps47
  go_wp2
  go_ret
  exact ⟨rfl, rfl⟩
theorem Wr.new (w : World) : Wr (w.alloc (.cells #[.slice none 0 0] 108)) (w.heap.size + 1) w.heap.size (.slice none 0 0) [] :=
  ⟨heap_alloc_new w _, by omega, World.ownsRow_nil _ _ _ _⟩

set_option maxRecDepth 100000 in
set_option maxHeartbeats 400000 in
theorem wnum_yes (n size : Nat) (hfit : fit n size) (base wb : Nat) (v : Value) (l : List Nat) (w : World) (h : Wr w base wb v l) (hb : base ≤ w.heap.size) (hroom : l.length + 8 ≤ 140737488355328) :
    Calls Tryz.prog 69 #[.pointer (some ⟨wb, 0, none⟩), .int .i64 n, .int .i64 size] w fun e w' => e = .returned (.int .i64 0) ∧
      ∃ v', Wr w' base wb v' (l ++ le size n) ∧ Fr (wrS wb v) w w' ∧ (v'.ownBlock = v.ownBlock ∨ ∃ g, v'.ownBlock = some g ∧ w.heap.size ≤ g) := by
  have hs : (size : Int) = 1 ∨ (size : Int) = 2 ∨ (size : Int) = 4 ∨ (size : Int) = 8 := by have := hfit.2; omega
  have hs8 : size ≤ 8 := by omega
  have HF : Hid (fit n size) := hfit
  have HS : Hid ((size : Int) = 1 ∨ (size : Int) = 2 ∨ (size : Int) = 4 ∨ (size : Int) = 8) := hs
  clear hfit hs
  go_enter Tryz.func69, Tryz.ntmps69
  go_wp2_with (first | (go_at_call 81; refine (isSize_yes _ HS.out _).mono ?_; rintro e w' ⟨rfl, rfl⟩) | (go_at_call 82; refine (fits_yes _ _ HF.out _).mono ?_; rintro e w' ⟨rfl, rfl⟩) | (go_at_call 68; refine (number_any n size hs8 base wb v l _ h hb hroom).mono ?_; rintro e w' ⟨rfl, hq⟩))
  go_ret
  exact ⟨rfl, hq⟩

/-- A slice that was made is nobody else's. -/
structure Made (w w' : World) (v : Value) (l : List Nat) : Prop where
  own : Mine w' w.heap.size v l
  fr : Fr (fun _ => False) w w'

theorem Fr.ofGrown {w w' : World} (h : w.grownBy w' none) : Fr (fun _ => False) w w' := ⟨h.os, h.tape, h.output, h.size, fun k hk _ => h.block k hk (by simp)⟩

set_option maxRecDepth 100000 in
set_option maxHeartbeats 400000 in
theorem bytes_any (base wb : Nat) (v : Value) (l : List Nat) (hl : octs l) (hs : l.length ≤ 140737488355328) (w : World) (h : Wr w base wb v l) :
    Calls Tryz.prog 51 #[.pointer (some ⟨wb, 0, none⟩)] w fun e w' => ∃ v', e = .returned v' ∧ Made w w' v' l := by
  obtain ⟨i0, hi, hz0, hz1, hz2⟩ := info_parts info8
  obtain ⟨a, c, rfl, hr⟩ := h.own.row hl hs
  have hcell := cell_of_one h.box
  go_enter Tryz.func51, Tryz.ntmps51
  go_wp2_with (at_builtin; refine wpList_append_row _ rfl _ _ 41 106 5 rfl i0 Tryz.underlying41 Tryz.underlying106 hi hz0 hz1 hz2 w.heap.size (.slice none 0 0) [] rfl (World.ownsRow_nil _ _ _ _) a l.length c l rfl rfl hr (by simpa using hs) (Nat.le_refl _) ?_; intro a' c' w1 hown hgrow hat)
  go_ret
  exact ⟨_, rfl, by simpa using hown, Fr.ofGrown hgrow⟩

/-- A reader at block rb: what is left is l. -/
structure Rd (w : World) (rb : Nat) (a : Option Addr) (cap : Nat) (l : List Nat) (err : Int) : Prop where
  box : w.heap[rb]? = some (.cells #[.slice a l.length cap, .int .i64 err] 127 (0, 0))
  row : Row w a cap l
  far : ∀ b off sp, a = some ⟨b, off, sp⟩ → b ≠ rb

theorem Row.same {w w' : World} {a : Option Addr} {cap : Nat} {l : List Nat} (h : Row w a cap l) (f : Fr (fun _ => False) w w') : Row w' a cap l := by
  refine ⟨h.le, h.max, h.small, h.byte, ?_⟩
  rcases h.at_ with h0 | ⟨b, off, rfl, hb, hc⟩
  · exact .inl h0
  · exact .inr ⟨b, off, rfl, Nat.lt_of_lt_of_le hb f.size, fun i hi => (f.cell hb (fun x => x)).trans (hc i hi)⟩
theorem Wr.fr {S : Nat → Prop} {w w' : World} {base wb : Nat} {v : Value} {l : List Nat} (h : Wr w base wb v l) (f : Fr S w w') (h1 : ¬ S wb) (h2 : ∀ k, v.ownBlock = some k → ¬ S k) : Wr w' base wb v l :=
  ⟨by rw [f.block wb (lt_of_block h.box) h1]; exact h.box, h.low, h.own.fr f h2⟩
/-- What was grown by a row that is new to 'a' leaves all of 'a'. -/
theorem Fr.fresh {a w w' : World} {row : Option Nat} (h : Fr (fun _ => False) a w) (hg : w.grownBy w' row) (hr : ∀ k, row = some k → a.heap.size ≤ k) : Fr (fun _ => False) a w' :=
  h.grown hg (fun k e hk => by have := hr k e; omega)
theorem Fr.false_trans {a b c : World} (h : Fr (fun _ => False) a b) (k : Fr (fun _ => False) b c) : Fr (fun _ => False) a c := h.trans k (fun _ _ f => f)
theorem Row.fr {S : Nat → Prop} {w w' : World} {a : Option Addr} {cap : Nat} {l : List Nat} (h : Row w a cap l) (f : Fr S w w') (hn : ∀ b off sp, a = some ⟨b, off, sp⟩ → ¬ S b) : Row w' a cap l := by
  refine ⟨h.le, h.max, h.small, h.byte, ?_⟩
  rcases h.at_ with h0 | ⟨b, off, rfl, hb, hc⟩
  · exact .inl h0
  · exact .inr ⟨b, off, rfl, Nat.lt_of_lt_of_le hb f.size, fun i hi => (f.cell hb (hn _ _ _ rfl)).trans (hc i hi)⟩

set_option maxRecDepth 100000 in
set_option maxHeartbeats 400000 in
theorem of_any (a : Option Addr) (n cap : Nat) (l : List Nat) (hn : n = l.length) (w : World) (hr : Row w a cap l) :
    Calls Tryz.prog 72 #[.slice a n cap] w fun e w' => ∃ rb a' c', e = .returned (.pointer (some ⟨rb, 0, none⟩)) ∧ Rd w' rb a' c' l 0 ∧ Fr (fun _ => False) w w' ∧ w.heap.size ≤ rb ∧ (∀ b off sp, a' = some ⟨b, off, sp⟩ → w.heap.size ≤ b) := by
  obtain ⟨i0, hi, hz0, hz1, hz2⟩ := info_parts info8
  have hs := hr.small
  go_enter Tryz.func72, Tryz.ntmps72
  go_wp2_with (at_builtin; refine wpList_append_row _ rfl _ _ 41 41 5 rfl i0 Tryz.underlying41 Tryz.underlying41 hi hz0 hz1 hz2 w.heap.size (.slice none 0 0) [] rfl (World.ownsRow_nil _ _ _ _) a n cap l hn rfl hr (by simpa using hs) (Nat.le_refl _) ?_; intro a' c' w1 hown hgrow hat)
  go_ret
  have hm : Mine w1 w.heap.size (.slice a' l.length c') l := by simpa using hown
  obtain ⟨a2, c2, he, hrow⟩ := hm.row hr.byte hs
  simp only [Value.slice.injEq, true_and] at he
  obtain ⟨rfl, rfl⟩ := he
  have hge : ∀ b off sp, a' = some ⟨b, off, sp⟩ → w.heap.size ≤ b ∧ b < w1.heap.size := fun b off sp e => hm.lt b (by rw [e]; rfl)
  refine ⟨w1.heap.size, a', c', rfl, ⟨heap_alloc_new w1 _, hrow.fr ((Fr.refl (fun _ => False) w1).alloc _) (fun _ _ _ _ f => f), fun b off sp e => ?_⟩, (Fr.ofGrown hgrow).alloc _, hgrow.size, fun b off sp e => (hge b off sp e).1⟩
  have := (hge b off sp e).2
  omega
end Go.Proofs.YtnoadmkkkeianaaGreat

/- What package wire's reader does: numberOf, stopped, fail, (*Reader).Num. -/
namespace Go.Proofs.YtnoadmkkkeianaaGreat
open Go.RowKit

theorem or_step (r x k : Nat) (hr : r < 256 ^ k) (hx : x < 256) (hk : k < 8) : bits BinOp.or IntKind.u64 (r : Int) (IntKind.u64.wrap ((x : Int) * 2 ^ (8 * k))) = ((r + x * 256 ^ k : Nat) : Int) := by
  have hp : 256 ^ (k + 1) ≤ 18446744073709551616 := pow_le8 (by omega)
  have hp0 : 0 < 256 ^ k := Nat.pow_pos (by omega)
  rw [Nat.pow_succ] at hp
  have hy : x * 256 ^ k ≤ 255 * 256 ^ k := Nat.mul_le_mul_right _ (by omega)
  have e2 : (2 : Int) ^ (8 * k) = ((256 ^ k : Nat) : Int) := by rw [show (256 : Nat) = 2 ^ 8 from rfl, ← Nat.pow_mul]; simp
  have e3 : (x : Int) * ((256 ^ k : Nat) : Int) = ((x * 256 ^ k : Nat) : Int) := by rw [Int.natCast_mul]
  have e4 : IntKind.u64.wrap ((x * 256 ^ k : Nat) : Int) = ((x * 256 ^ k : Nat) : Int) := by
    rw [IntKind.wrap_u64]; omega
  rw [e2, e3, e4, u64_or_nat _ _ (by omega) (by omega), Nat.or_comm]
  have e5 : (256 : Nat) ^ k = 2 ^ (8 * k) := by rw [Nat.pow_mul]
  rw [nat_join (8 * k) (x * 256 ^ k) r (by rw [e5]; exact Nat.mul_mod_left _ _) (by rw [← e5]; exact hr), Nat.add_comm]

set_option maxRecDepth 100000 in
set_option maxHeartbeats 1000000 in
theorem numberOf_any (a : Option Addr) (n cap : Nat) (l : List Nat) (hn : n = l.length) (h8 : l.length ≤ 8) (w : World) (hr : Row w a cap l) :
    Calls Tryz.prog 86 #[.slice a n cap] w fun e w' => e = .returned (.int .u64 ((val l : Nat) : Int)) ∧ w' = w := by
  subst hn
  rcases hr.at_ with h0 | ⟨b, off, rfl, _, hc⟩
  · subst h0
    go_enter Tryz.func86, Tryz.ntmps86
    go_wp2
    refine wp_loop_rounds 1 ?_
    rw [rounds_succ]
    go_wp2
    go_ret
    exact ⟨rfl, rfl⟩
  · go_enter Tryz.func86, Tryz.ntmps86
    go_wp2
    go_loop [3, 8] (fun t i => ∃ k : Nat, k ≤ l.length ∧ i = .int .i64 k ∧ t = .int .u64 ((val (l.take k) : Nat) : Int)) (fun _ i => l.length - (intOf i).toNat)
    case atStart => exact ⟨0, by omega, rfl, rfl⟩
    case round =>
      obtain ⟨k, hk, rfl, rfl⟩ := hrel
      by_cases hlt : k < l.length
      · have hcell := hc k hlt
        have hxl := octs_getD hr.byte k
        have HS : Hid (val (l.take (k + 1)) = val (l.take k) + l.getD k 0 * 256 ^ k) := by
          have : (l.take k).length = k := by simp; omega
          rw [take_snoc l k hlt, val_snoc, this]; exact rfl
        have HV : Hid (val (l.take k) < 256 ^ k) := by
          have := val_lt (octs_take hr.byte k)
          have e : (l.take k).length = k := by simp; omega
          rw [e] at this; exact this
        obtain ⟨x, hxd⟩ : ∃ x, x = l.getD k 0 := ⟨_, rfl⟩
        obtain ⟨r, hrd⟩ : ∃ r, r = val (l.take k) := ⟨_, rfl⟩
        rw [← hxd] at hcell hxl HS
        rw [← hrd] at HV HS ⊢
        clear hxd hrd hc
        have hi0 : (0 : Int) ≤ 8 * (k : Int) := by omega
        have hi1 : 8 * (k : Int) ≤ 64 := by omega
        go_wp2
        go_round
        case rel => exact ⟨k + 1, by omega, by go_num, by rw [HS.out, or_step r x k HV.out hxl (by omega)]⟩
        case measure => simp [intOf]; omega
      · have ek : l.take k = l := List.take_of_length_le (by omega)
        rw [ek]
        go_wp2
        go_ret
        exact ⟨rfl, rfl⟩

theorem cell_of_two {w : World} {b : Nat} {v u : Value} {t : TypeId} (h : w.heap[b]? = some (.cells #[v, u] t (0, 0))) : w.cell? ⟨b, 0, none⟩ = some v ∧ w.cell? ⟨b, 1, none⟩ = some u ∧ w.frozen? ⟨b, 0, none⟩ = false ∧ w.frozen? ⟨b, 1, none⟩ = false := by
  refine ⟨?_, ?_, ?_, ?_⟩ <;> simp [World.cell?, World.frozen?, h]
theorem two_setCell0 {w : World} {b : Nat} {v u x : Value} {t : TypeId} (h : w.heap[b]? = some (.cells #[v, u] t (0, 0))) : (w.setCell ⟨b, 0, none⟩ x).heap[b]? = some (.cells #[x, u] t (0, 0)) := by
  have hlt := lt_of_block h
  have h' : w.heap[b] = .cells #[v, u] t (0, 0) := by simpa [Array.getElem?_eq_getElem hlt] using h
  show (w.heap.modify b _)[b]? = _
  rw [Array.getElem?_eq_getElem (by simpa using hlt), Array.getElem_modify_self, h']
  rfl
theorem two_setCell1 {w : World} {b : Nat} {v u x : Value} {t : TypeId} (h : w.heap[b]? = some (.cells #[v, u] t (0, 0))) : (w.setCell ⟨b, 1, none⟩ x).heap[b]? = some (.cells #[v, x] t (0, 0)) := by
  have hlt := lt_of_block h
  have h' : w.heap[b] = .cells #[v, u] t (0, 0) := by simpa [Array.getElem?_eq_getElem hlt] using h
  show (w.heap.modify b _)[b]? = _
  rw [Array.getElem?_eq_getElem (by simpa using hlt), Array.getElem_modify_self, h']
  rfl

theorem Row.take {w : World} {a : Option Addr} {cap : Nat} {l : List Nat} (h : Row w a cap l) (k : Nat) : Row w a cap (l.take k) := by
  refine ⟨by have := h.le; simp; omega, h.max, by have := h.small; simp; omega, octs_take h.byte k, ?_⟩
  rcases h.at_ with h0 | ⟨b, off, rfl, hb, hc⟩
  · exact .inl (by simp [h0])
  · refine .inr ⟨b, off, rfl, hb, fun i hi => ?_⟩
    simp at hi
    rw [hc i (by omega)]
    have hik : i < k := by omega
    simp [List.getD_eq_getElem?_getD, hik]

set_option maxRecDepth 100000 in
set_option maxHeartbeats 400000 in
theorem stopped_any (rb : Nat) (a : Option Addr) (cap : Nat) (l : List Nat) (err : Int) (w : World) (h : Rd w rb a cap l err) :
    Calls Tryz.prog 84 #[.pointer (some ⟨rb, 0, none⟩)] w fun e w' => e = .returned (.int .i64 err) ∧ w' = w := by
  obtain ⟨h0, h1, _, _⟩ := cell_of_two h.box
  go_enter Tryz.func84, Tryz.ntmps84
  go_wp2
  go_ret
  exact ⟨rfl, rfl⟩
set_option maxRecDepth 100000 in
set_option maxHeartbeats 400000 in
theorem fail_any (rb : Nat) (a : Option Addr) (cap : Nat) (l : List Nat) (err err' : Int) (w : World) (h : Rd w rb a cap l err) :
    Calls Tryz.prog 85 #[.pointer (some ⟨rb, 0, none⟩), .int .i64 err'] w fun e w' => e = .returned (.int .i64 err') ∧ Rd w' rb a cap l err' ∧ Fr (fun k => k = rb) w w' := by
  obtain ⟨h0, h1, f0, f1⟩ := cell_of_two h.box
  have hf : Fr (fun k => k = rb) w (w.setCell ⟨rb, 1, none⟩ (.int .i64 err')) := (Fr.refl (fun k => k = rb) w).setCell (p := ⟨rb, 1, none⟩) (fun _ => rfl) _
  have hrd : Rd (w.setCell ⟨rb, 1, none⟩ (.int .i64 err')) rb a cap l err' := ⟨two_setCell1 h.box, h.row.fr hf (fun b off sp e => h.far b off sp e), h.far⟩
  go_enter Tryz.func85, Tryz.ntmps85
  go_wp2
  go_ret
  exact ⟨rfl, hrd, hf⟩

theorem Row.drop {w : World} {b off cap : Nat} {l : List Nat} (h : Row w (some ⟨b, off, none⟩) cap l) (k : Nat) (hk : k ≤ l.length) (off2 : Nat) (ho : cap = k ∨ off2 = off + k) (hc : l = [] ∨ (b < w.heap.size ∧ ∀ i, i < l.length → w.cell? ⟨b, off + i, none⟩ = some (.int .u8 ((l.getD i 0 : Nat) : Int)))) : Row w (some ⟨b, off2, none⟩) (cap - k) (l.drop k) := by
  have h1 := h.le
  refine ⟨by simp; omega, by have := h.max; omega, by have := h.small; simp; omega, fun x hx => h.byte x (List.mem_of_mem_drop hx), ?_⟩
  rcases hc with h0 | ⟨hb, hc⟩
  · exact .inl (by simp [h0])
  · rcases ho with e | e
    · exact .inl (List.drop_eq_nil_of_le (by omega))
    · refine .inr ⟨b, off2, rfl, hb, fun i hi => ?_⟩
      simp at hi
      rw [e, Nat.add_assoc, hc (k + i) (by omega)]
      simp [List.getD_eq_getElem?_getD, List.getElem?_drop]

theorem Rd.advance {w : World} {rb b off cap : Nat} {l : List Nat} (h : Rd w rb (some ⟨b, off, none⟩) cap l 0) (hb : b < w.heap.size) (hc : ∀ i, i < l.length → w.cell? ⟨b, off + i, none⟩ = some (.int .u8 ((l.getD i 0 : Nat) : Int))) (k : Nat) (hk : k ≤ l.length) (off2 : Nat) (ho : cap = k ∨ off2 = off + k) :
    ∃ a' c', Rd (w.setCell ⟨rb, 0, none⟩ (.slice (some ⟨b, off2, none⟩) (l.length - k) (cap - k))) rb a' c' (l.drop k) 0 ∧ Fr (fun k => k = rb) w (w.setCell ⟨rb, 0, none⟩ (.slice (some ⟨b, off2, none⟩) (l.length - k) (cap - k))) ∧ (∀ b' off' sp, a' = some ⟨b', off', sp⟩ → ∃ o s, (some ⟨b, off, none⟩ : Option Addr) = some ⟨b', o, s⟩) := by
  have hf : Fr (fun k => k = rb) w (w.setCell ⟨rb, 0, none⟩ (.slice (some ⟨b, off2, none⟩) (l.length - k) (cap - k))) := (Fr.refl (fun k => k = rb) w).setCell (p := ⟨rb, 0, none⟩) (fun _ => rfl) _
  have hbr : b ≠ rb := h.far b off none rfl
  refine ⟨some ⟨b, off2, none⟩, cap - k, ⟨?_, ?_, ?_⟩, hf, ?_⟩
  · rw [two_setCell0 h.box, List.length_drop]
  · exact (h.row.drop k hk off2 ho (.inr ⟨hb, hc⟩)).fr hf (fun b' o s e => by simp at e; rw [← e.1]; exact hbr)
  · intro b' o s e; simp at e; rw [← e.1]; exact hbr
  · intro b' o s e; simp at e; exact ⟨off, none, by rw [e.1]⟩

set_option maxRecDepth 100000 in
set_option maxHeartbeats 1000000 in
theorem rnum_ok (size : Nat) (hsz : (size : Int) = 1 ∨ (size : Int) = 2 ∨ (size : Int) = 4 ∨ (size : Int) = 8) (rb : Nat) (a : Option Addr) (cap : Nat) (l : List Nat) (hlen : size ≤ l.length) (hval : val (l.take size) < 9223372036854775808) (w : World) (h : Rd w rb a cap l 0) :
    Calls Tryz.prog 73 #[.pointer (some ⟨rb, 0, none⟩), .int .i64 size] w fun e w' => e = .returned (.tuple #[.int .i64 ((val (l.take size) : Nat) : Int), .int .i64 0]) ∧
      ∃ a' c', Rd w' rb a' c' (l.drop size) 0 ∧ Fr (fun k => k = rb) w w' ∧ (∀ b off sp, a' = some ⟨b, off, sp⟩ → ∃ o s, a = some ⟨b, o, s⟩) := by
  obtain ⟨h0, h1, f0, f1⟩ := cell_of_two h.box
  have HS := hsz
  have hle := h.row.le
  have hmx := h.row.max
  have hsm := h.row.small
  have HZ : Hid ((size : Int) = 1 ∨ (size : Int) = 2 ∨ (size : Int) = 4 ∨ (size : Int) = 8) := hsz
  have hpos : 0 < size ∧ size ≤ 8 := by omega
  clear hsz HS
  have htl : (l.take size).length = size := by simp; omega
  have i0 : (0 : Int) ≤ (size : Int) := by omega
  have i1 : (size : Int) ≤ (l.length : Int) := by omega
  have i2 : (size : Int) ≤ (cap : Int) := by omega
  obtain ⟨b, off, rfl, hb, hc⟩ : ∃ b off, a = some ⟨b, off, none⟩ ∧ b < w.heap.size ∧ ∀ i, i < l.length → w.cell? ⟨b, off + i, none⟩ = some (.int .u8 ((l.getD i 0 : Nat) : Int)) := by
    rcases h.row.at_ with e | e
    · rw [e] at hlen; simp at hlen; omega
    · exact e
  obtain ⟨v, hv⟩ : ∃ v, v = val (l.take size) := ⟨_, rfl⟩
  have HV : Hid (val (l.take size) = v) := hv.symm
  rw [← hv] at hval
  clear hv
  by_cases hcs : cap = size
  · subst hcs
    have hadv := h.advance hb hc cap hlen off (.inl rfl)
    have e0 : l.length - cap = 0 := by omega
    rw [e0, Nat.sub_self] at hadv
    clear e0
    go_enter Tryz.func73, Tryz.ntmps73
    go_wp2_with (first | (go_at_call 81; refine (isSize_yes _ HZ.out _).mono ?_; rintro e w' ⟨rfl, rfl⟩) | (go_at_call 84; refine (stopped_any rb _ cap l 0 _ h).mono ?_; rintro e w' ⟨rfl, rfl⟩) | (go_at_call 86; refine (numberOf_any _ cap cap (l.take cap) htl.symm (by omega) _ (h.row.take cap)).mono ?_; rw [HV.out]; rintro e w' ⟨rfl, rfl⟩))
    go_ret2
    exact ⟨by rw [HV.out]; rfl, hadv⟩
  · have hadv := h.advance hb hc size hlen (off + size) (.inr rfl)
    go_enter Tryz.func73, Tryz.ntmps73
    go_wp2_with (first | (go_at_call 81; refine (isSize_yes _ HZ.out _).mono ?_; rintro e w' ⟨rfl, rfl⟩) | (go_at_call 84; refine (stopped_any rb _ cap l 0 _ h).mono ?_; rintro e w' ⟨rfl, rfl⟩) | (go_at_call 86; refine (numberOf_any _ size cap (l.take size) htl.symm (by omega) _ (h.row.take size)).mono ?_; rw [HV.out]; rintro e w' ⟨rfl, rfl⟩))
    go_ret2
    exact ⟨by rw [HV.out]; rfl, hadv⟩
end Go.Proofs.YtnoadmkkkeianaaGreat

/- What crc.Seal and crc.Open do. -/
namespace Go.Proofs.YtnoadmkkkeianaaGreat
open Go.RowKit Crcm

theorem le_le4 (v : Nat) : le 4 v = le4 v := by
  simp [le, le4]

theorem fit4 (v : Nat) (h : v < 4294967296) : fit v ((4 : Nat) : Int) := ⟨by omega, .inr (.inr (.inl ⟨rfl, by omega⟩))⟩

set_option maxRecDepth 100000 in
set_option maxHeartbeats 1000000 in
theorem seal_any (a : Option Addr) (n cap : Nat) (l : List Nat) (hn : n = l.length) (hsm : l.length + 4 ≤ 140737488355328) (w : World) (hr : Row w a cap l) :
    Calls Tryz.prog 50 #[.slice a n cap] w fun e w' => ∃ v', e = .returned v' ∧ Made w w' v' (l ++ le4 (crc l)) := by
  obtain ⟨i0, hi, hz0, hz1, hz2⟩ := info_parts info8
  subst hn
  have hcl := crc_lt hr.byte
  have hr1 : Row (w.alloc (.cells #[.slice none 0 0] 108)) a cap l := hr.fr ((Fr.refl (fun _ => False) w).alloc _) (fun _ _ _ _ f => f)
  go_enter Tryz.func50, Tryz.ntmps50
  go_wp2_with fail
  refine (new_any _).mono ?_
  rintro e w1 ⟨rfl, rfl⟩
  go_wp2_with fail
  refine (sum_any a l.length cap l rfl _ hr1).mono ?_
  rintro e w1 ⟨rfl, rfl⟩
  obtain ⟨cv, hcv⟩ : ∃ cv, cv = crc l := ⟨_, rfl⟩
  rw [← hcv] at hcl ⊢
  have HC : Hid (crc l = cv) := hcv.symm
  clear hcv
  go_wp2_with fail
  refine (wnum_yes cv 4 (fit4 cv hcl) (w.heap.size + 1) w.heap.size (.slice none 0 0) [] _ (Wr.new w) (by simp) (by simp)).mono ?_
  rintro e w2 ⟨rfl, v2, hw2, hf2, hv2⟩
  have f2 : Fr (fun _ => False) w w2 := ((Fr.refl (fun _ => False) w).alloc _).trans hf2 (fun k hk hs => by
    rcases hs with h | h
    · omega
    · simp [Value.ownBlock] at h)
  have hb2 := hw2.own.lt
  have hwb := lt_of_block hw2.box
  have hl64 : (l.length : Int) + 4 ≤ 140737488355328 := by omega
  go_wp2_with (first
    | (at_make; refine wpList_make_own _ rfl _ _ 41 rfl w.heap.size 5 i0 (.int .u8 0) 1 Tryz.underlying41 hi hz0 hz1 _ _ _ (l.length + 4) rfl rfl (by omega) (by rw [hz2]; omega) (by unfold maxLen; omega) f2.size ?_; intro w3 hown3 hgrow3)
    | (at_builtin; refine wpList_append_row _ rfl _ _ 41 41 5 rfl i0 Tryz.underlying41 Tryz.underlying41 hi hz0 hz1 hz2 w.heap.size (.slice (some ⟨w2.heap.size, 0, none⟩) 0 (l.length + 4)) [] rfl hown3 a l.length cap l rfl rfl (hr.same (f2.fresh hgrow3 (by simp))) (by simp; omega) (Nat.le_trans f2.size hgrow3.size) ?_; intro a4 c4 w4 hown4 hgrow4 hat4)
    | fail)
  have f34 : Fr (fun _ => False) w2 w4 := (Fr.refl (fun _ => False) w2).fresh hgrow3 (by simp) |>.fresh hgrow4 (by simp [Value.ownBlock])
  have hw4 : Wr w4 (w.heap.size + 1) w.heap.size v2 ([] ++ le 4 cv) := hw2.fr f34 (fun f => f) (fun _ _ f => f)
  have hoct : octs ([] ++ le 4 cv) := by rw [List.nil_append, le_le4]; exact le4_octs cv
  refine (bytes_any (w.heap.size + 1) w.heap.size v2 ([] ++ le 4 cv) hoct (by simp [le_length]) _ hw4).mono ?_
  rintro e w5 ⟨v5, rfl, hmade⟩
  obtain ⟨a5, c5, hv5, hr5⟩ := hmade.own.row hoct (by simp [le_length])
  have hl5 : ([] ++ le 4 cv).length = 4 := by simp [le_length]
  rw [hl5] at hv5
  rw [hv5]
  have hown5 : Mine w5 w.heap.size (.slice a4 l.length c4) l := by
    have : Mine w4 w.heap.size (.slice a4 l.length c4) l := by simpa using hown4
    exact this.fr hmade.fr (fun _ _ f => f)
  have hge4 : ∀ k, (Value.slice a4 l.length c4).ownBlock = some k → w.heap.size ≤ k := fun k e => (hown5.lt k e).1
  have f5 : Fr (fun _ => False) w w5 := f2.false_trans (f34.false_trans hmade.fr)
  have hs5 := f5.size
  go_wp2_with (at_builtin; refine wpList_append_row _ rfl _ _ 41 41 5 rfl i0 Tryz.underlying41 Tryz.underlying41 hi hz0 hz1 hz2 w.heap.size (.slice a4 l.length c4) l rfl hown5 a5 4 c5 ([] ++ le 4 cv) hl5.symm rfl hr5 (by omega) hs5 ?_; intro a6 c6 w6 hown6 hgrow6 hat6)
  go_ret
  refine ⟨_, rfl, ?_, f5.fresh hgrow6 hge4⟩
  rw [HC.out, ← le_le4, ← List.nil_append (le 4 cv)]
  show w6.ownsRow _ _ _ _ _ _
  have e6 : (l ++ ([] ++ le 4 cv)).length = l.length + ([] ++ le 4 cv).length := by simp
  rw [hl5] at hown6 ⊢
  exact hown6

set_option maxRecDepth 100000 in
set_option maxHeartbeats 400000 in
theorem open_cut (a : Option Addr) (n cap : Nat) (hn : n < 4) (w : World) :
    Calls Tryz.prog 56 #[.slice a n cap] w fun e w' => e = .returned (.tuple #[.slice none 0 0, .int .i64 10]) ∧ w' = w := by
  have h4 : (n : Int) < 4 := by omega
  go_enter Tryz.func56, Tryz.ntmps56
  go_wp2
  go_ret2
  exact ⟨rfl, rfl⟩

set_option maxRecDepth 100000 in
set_option maxHeartbeats 1000000 in
theorem open_bad (a : Option Addr) (n k cap : Nat) (l : List Nat) (hn : n = l.length) (hk : n = k + 4) (w : World) (hr : Row w a cap l) (hbad : val (l.drop k) ≠ crc (l.take k)) :
    Calls Tryz.prog 56 #[.slice a n cap] w fun e w' => e = .returned (.tuple #[.slice none 0 0, .int .i64 20]) ∧ Fr (fun _ => False) w w' := by
  subst hk
  have hsm := hr.small
  have hle := hr.le
  have hmx := hr.max
  have h4 : ¬ ((k : Int) + 4 < 4) := by omega
  have htl : (l.take k).length = k := by simp; omega
  have hdl : (l.drop k).length = 4 := by simp; omega
  obtain ⟨b, off, rfl, hb, hc⟩ : ∃ b off, a = some ⟨b, off, none⟩ ∧ b < w.heap.size ∧ ∀ i, i < l.length → w.cell? ⟨b, off + i, none⟩ = some (.int .u8 ((l.getD i 0 : Nat) : Int)) := by
    rcases hr.at_ with e | e
    · rw [e] at hn; simp at hn
    · exact e
  have hrd : Row w (some ⟨b, off + k, none⟩) (cap - k) (l.drop k) := hr.drop k (by omega) (off + k) (.inr rfl) (.inr ⟨hb, hc⟩)
  have hrt := hr.take k
  have ho := hrd.byte
  have hvl : val (l.drop k) < 4294967296 := by have := val_lt ho; rw [hdl] at this; simpa using this
  have hcl := crc_lt hrt.byte
  have ht4 : (l.drop k).take 4 = l.drop k := List.take_of_length_le (by omega)
  obtain ⟨t, ht⟩ : ∃ t, t = l.drop k := ⟨_, rfl⟩
  obtain ⟨m, hm⟩ : ∃ m, m = l.take k := ⟨_, rfl⟩
  rw [← ht] at hdl hrd ho hvl ht4 hbad
  rw [← hm] at htl hrt hcl hbad
  have hne : ¬ ((val t : Int) = (crc m : Int)) := by omega
  have hne2 : (((val t : Nat) : Int) != ((crc m : Nat) : Int)) = true := by simpa using hne
  have HN : Hid (k + 4 = l.length) := hn
  have hkc : k + 4 ≤ cap := by omega
  clear ht hm hc hbad hr hn hne
  have q1 : (k : Int) ≤ (cap : Int) := by omega
  have q2 : ¬ cap = k := by omega
  go_enter Tryz.func56, Tryz.ntmps56
  go_wp2_with fail
  refine (of_any (some ⟨b, off + k, none⟩) 4 (cap - k) t hdl.symm _ hrd).mono ?_
  rintro e w1 ⟨rb, a1, c1, rfl, hrd1, f1, hrb, ha1⟩
  go_wp2_with fail
  refine (rnum_ok 4 (by omega) rb a1 c1 t (by omega) (by rw [ht4]; omega) _ hrd1).mono ?_
  rintro e w2 ⟨rfl, a2, c2, hrd2, f2, ha2⟩
  have f02 : Fr (fun _ => False) w w2 := f1.trans f2 (fun i hi e => by omega)
  rw [ht4]
  clear ht4
  go_wp2_with fail
  refine (sum_any (some ⟨b, off, none⟩) k cap m htl.symm _ (hrt.same f02)).mono ?_
  rintro e w3 ⟨rfl, rfl⟩
  go_wp2
  go_ret2
  exact ⟨rfl, f02⟩
set_option maxRecDepth 100000 in
set_option maxHeartbeats 1000000 in
theorem open_ok (a : Option Addr) (n k cap : Nat) (l : List Nat) (hn : n = l.length) (hk : n = k + 4) (w : World) (hr : Row w a cap l) (hgood : val (l.drop k) = crc (l.take k)) :
    Calls Tryz.prog 56 #[.slice a n cap] w fun e w' => ∃ v', e = .returned (.tuple #[v', .int .i64 0]) ∧ Made w w' v' (l.take k) := by
  obtain ⟨i0, hi, hz0, hz1, hz2⟩ := info_parts info8
  subst hk
  have hsm := hr.small
  have hle := hr.le
  have hmx := hr.max
  have h4 : ¬ ((k : Int) + 4 < 4) := by omega
  have htl : (l.take k).length = k := by simp; omega
  have hdl : (l.drop k).length = 4 := by simp; omega
  obtain ⟨b, off, rfl, hb, hc⟩ : ∃ b off, a = some ⟨b, off, none⟩ ∧ b < w.heap.size ∧ ∀ i, i < l.length → w.cell? ⟨b, off + i, none⟩ = some (.int .u8 ((l.getD i 0 : Nat) : Int)) := by
    rcases hr.at_ with e | e
    · rw [e] at hn; simp at hn
    · exact e
  have hrd : Row w (some ⟨b, off + k, none⟩) (cap - k) (l.drop k) := hr.drop k (by omega) (off + k) (.inr rfl) (.inr ⟨hb, hc⟩)
  have hrt := hr.take k
  have ho := hrd.byte
  have hvl : val (l.drop k) < 4294967296 := by have := val_lt ho; rw [hdl] at this; simpa using this
  have hcl := crc_lt hrt.byte
  have ht4 : (l.drop k).take 4 = l.drop k := List.take_of_length_le (by omega)
  obtain ⟨t, ht⟩ : ∃ t, t = l.drop k := ⟨_, rfl⟩
  obtain ⟨m, hm⟩ : ∃ m, m = l.take k := ⟨_, rfl⟩
  rw [← ht] at hdl hrd ho hvl ht4 hgood
  rw [← hm] at htl hrt hcl hgood ⊢
  have HG : Hid (val t = crc m) := hgood
  have hk47 : k ≤ 140737488355328 := by omega
  have HN : Hid (k + 4 = l.length) := hn
  have hkc : k + 4 ≤ cap := by omega
  clear ht hm hc hgood hr hn
  have q1 : (k : Int) ≤ (cap : Int) := by omega
  have q2 : ¬ cap = k := by omega
  go_enter Tryz.func56, Tryz.ntmps56
  go_wp2_with fail
  refine (of_any (some ⟨b, off + k, none⟩) 4 (cap - k) t hdl.symm _ hrd).mono ?_
  rintro e w1 ⟨rb, a1, c1, rfl, hrd1, f1, hrb, ha1⟩
  go_wp2_with fail
  refine (rnum_ok 4 (by omega) rb a1 c1 t (by omega) (by rw [ht4]; omega) _ hrd1).mono ?_
  rintro e w2 ⟨rfl, a2, c2, hrd2, f2, ha2⟩
  have f02 : Fr (fun _ => False) w w2 := f1.trans f2 (fun i hi e => by omega)
  rw [ht4, HG.out]
  clear ht4
  go_wp2_with fail
  refine (sum_any (some ⟨b, off, none⟩) k cap m htl.symm _ (hrt.same f02)).mono ?_
  rintro e w3 ⟨rfl, rfl⟩
  have hs3 := f02.size
  go_wp2_with (at_builtin; refine wpList_append_row _ rfl _ _ 41 41 5 rfl i0 Tryz.underlying41 Tryz.underlying41 hi hz0 hz1 hz2 w.heap.size (.slice none 0 0) [] rfl (World.ownsRow_nil _ _ _ _) (some ⟨b, off, none⟩) k cap m htl.symm rfl (hrt.same f02) (by simp; omega) hs3 ?_; intro a' c' w4 hown hgrow hat)
  go_ret2
  exact ⟨_, rfl, by simpa [htl] using hown, f02.fresh hgrow (by simp [Value.ownBlock])⟩
end Go.Proofs.YtnoadmkkkeianaaGreat

/- What the document's own Num makes: the bytes of a number, the lowest first. -/
namespace Go.Proofs.YtnoadmkkkeianaaGreat
open Go.RowKit

theorem row_lit {w : World} {B : Nat} {t : TypeId} {fr : Nat × Nat} {l : List Nat} (hl : octs l) (hs : l.length ≤ 140737488355328) (h : w.heap[B]? = some (.cells (cellsOf l).toArray t fr)) : Row w (some ⟨B, 0, none⟩) l.length l := by
  refine ⟨Nat.le_refl _, by omega, hs, hl, .inr ⟨B, 0, rfl, lt_of_block h, fun i hi => ?_⟩⟩
  rw [Nat.zero_add, cell_of_row w B i _ t fr h]
  simpa using cellsOf_get l i hi
theorem octs_one {x : Nat} (h : x < 256) : octs [x] := by intro y hy; simp at hy; omega
theorem le_octs (k n : Nat) : octs (le k n) := by
  induction k with
  | zero => intro x hx; cases hx
  | succ k ih =>
    intro x hx
    rcases List.mem_append.mp hx with h | h
    · exact ih x h
    · simp at h; omega

set_option maxRecDepth 100000 in
set_option maxHeartbeats 1000000 in
theorem refNum_any (n size : Nat) (hn : n < 9223372036854775808) (hs : size ≤ 8) (w : World) :
    Calls Tryz.prog 52 #[.int .i64 n, .int .i64 size] w fun e w' => ∃ v', e = .returned v' ∧ Made w w' v' (le size n) := by
  obtain ⟨i0, hi, hz0, hz1, hz2⟩ := info_parts info8
  go_enter Tryz.func52, Tryz.ntmps52
  go_wp2
  go_loopw [0, 5, 6] (fun m o i wr => ∃ (k : Nat) (a : Option Addr) (c : Nat), k ≤ size ∧ i = .int .i64 k ∧ m = .int .i64 ((n / 256 ^ k : Nat) : Int) ∧ o = .slice a k c ∧ Mine wr w.heap.size (.slice a k c) (le k n) ∧ Fr (fun _ => False) w wr)
    (fun _ _ i _ => size - (intOf i).toNat)
  case atStart => exact ⟨0, none, 0, by omega, rfl, by simp, rfl, World.ownsRow_nil _ _ _ _, Fr.refl _ _⟩
  case round =>
    obtain ⟨k, a, c, hk, rfl, rfl, rfl, hown, hf⟩ := hrel
    have hsz := hf.size
    by_cases hlt : k < size
    · obtain ⟨m, hm⟩ : ∃ m, m = n / 256 ^ k := ⟨_, rfl⟩
      have HM : Hid (m = n / 256 ^ k) := hm
      have hmn : m < 9223372036854775808 := by rw [hm]; exact Nat.lt_of_le_of_lt (Nat.div_le_self _ _) hn
      rw [← hm]
      clear hm
      have hll := le_length k n
      have hmm : m % 256 < 256 := Nat.mod_lt _ (by omega)
      have hb0 : (0 : Int) ≤ (m : Int) % 256 := by omega
      have hb1 : (m : Int) % 256 < 256 := by omega
      have hro : Row (wr.alloc (.cells #[.int .u8 ((m : Int) % 256)] 5)) (some ⟨wr.heap.size, 0, none⟩) 1 [m % 256] := row_lit (octs_one hmm) (by simp) (heap_alloc_new wr _)
      go_wp2_with (at_builtin; refine wpList_append_row _ rfl _ _ 41 41 5 rfl i0 Tryz.underlying41 Tryz.underlying41 hi hz0 hz1 hz2 w.heap.size (.slice a k c) (le k n) rfl (hown.alloc _) (some ⟨wr.heap.size, 0, none⟩) 1 1 [m % 256] rfl rfl hro (by simp; omega) (by simp; omega) ?_; intro a' c' w1 hown1 hgrow hat)
      go_roundw
      case rel =>
        refine ⟨k + 1, a', c', by omega, by go_num, val_int ?_, by simp, ?_, ?_⟩
        · rw [Nat.pow_succ, ← Nat.div_div_eq_div_mul, ← HM.out]; omega
        · have e : le (k + 1) n = le k n ++ [m % 256] := by rw [HM.out]; rfl
          rw [e]
          simpa [hll] using hown1
        · exact (hf.alloc _).fresh hgrow (fun j e => (hown.lt j e).1)
      case measure => simp [intOf]; omega
    · have e : k = size := by omega
      subst e
      go_wp2
      go_ret
      exact ⟨_, rfl, hown, hf⟩
end Go.Proofs.YtnoadmkkkeianaaGreat

/- latticelaw02.speaks answers true. -/
namespace Go.Proofs.YtnoadmkkkeianaaGreat
open Go.RowKit Crcm

theorem crc9 : crc [49, 50, 51, 52, 53, 54, 55, 56, 57] = 3421780262 := by decide +kernel

end Go.Proofs.YtnoadmkkkeianaaGreat

/- What the document's own Seal and Open do. -/
namespace Go.Proofs.YtnoadmkkkeianaaGreat
open Go.RowKit Crcm

set_option maxRecDepth 100000 in
set_option maxHeartbeats 1000000 in
theorem refSeal_any (a : Option Addr) (n cap : Nat) (l : List Nat) (hn : n = l.length) (hsm : l.length + 4 ≤ 140737488355328) (w : World) (hr : Row w a cap l) :
    Calls Tryz.prog 54 #[.slice a n cap] w fun e w' => ∃ v', e = .returned v' ∧ Made w w' v' (l ++ le4 (crc l)) := by
  obtain ⟨i0, hi, hz0, hz1, hz2⟩ := info_parts info8
  subst hn
  have hcl := crc_lt hr.byte
  go_enter Tryz.func54, Tryz.ntmps54
  go_wp2_with (at_builtin; refine wpList_append_row _ rfl _ _ 41 41 5 rfl i0 Tryz.underlying41 Tryz.underlying41 hi hz0 hz1 hz2 w.heap.size (.slice none 0 0) [] rfl (World.ownsRow_nil _ _ _ _) a l.length cap l rfl rfl hr (by simp; omega) (Nat.le_refl _) ?_; intro a1 c1 w1 hown1 hgrow1 hat1)
  have hm1 : Mine w1 w.heap.size (.slice a1 l.length c1) l := by simpa using hown1
  have f1 : Fr (fun _ => False) w w1 := Fr.ofGrown hgrow1
  clear hown1 hat1
  refine (refSum_any a l.length cap l rfl _ (hr.same f1)).mono ?_
  rintro e w2 ⟨rfl, rfl⟩
  obtain ⟨cv, hcv⟩ : ∃ cv, cv = crc l := ⟨_, rfl⟩
  rw [← hcv] at hcl ⊢
  have HC : Hid (crc l = cv) := hcv.symm
  clear hcv
  go_wp2_with fail
  refine (refNum_any cv 4 (by omega) (by omega) _).mono ?_
  rintro e w3 ⟨v3, rfl, m3⟩
  obtain ⟨a3, c3, hv3, hr3⟩ := m3.own.row (le_octs 4 cv) (by simp [le_length])
  rw [le_length] at hv3
  rw [hv3]
  have hm3 : Mine w3 w.heap.size (.slice a1 l.length c1) l := hm1.fr m3.fr (fun _ _ f => f)
  have f3 : Fr (fun _ => False) w w3 := f1.false_trans m3.fr
  have hs3 := f3.size
  have hl4 := le_length 4 cv
  clear hv3 m3 hm1 hgrow1
  go_wp2_with (at_builtin; refine wpList_append_row _ rfl _ _ 41 41 5 rfl i0 Tryz.underlying41 Tryz.underlying41 hi hz0 hz1 hz2 w.heap.size (.slice a1 l.length c1) l rfl hm3 a3 4 c3 (le 4 cv) hl4.symm rfl hr3 (by omega) hs3 ?_; intro a6 c6 w6 hown6 hgrow6 hat6)
  go_ret
  refine ⟨_, rfl, ?_, f3.fresh hgrow6 (fun k e => (hm3.lt k e).1)⟩
  rw [HC.out, ← le_le4]
  rw [hl4] at hown6
  exact hown6

set_option maxRecDepth 100000 in
set_option maxHeartbeats 400000 in
theorem refOpen_cut (a : Option Addr) (n cap : Nat) (hn : n < 4) (w : World) :
    Calls Tryz.prog 58 #[.slice a n cap] w fun e w' => e = .returned (.tuple #[.slice none 0 0, .int .i64 10]) ∧ w' = w := by
  have h4 : (n : Int) - 4 < 0 := by omega
  go_enter Tryz.func58, Tryz.ntmps58
  go_wp2
  go_ret2
  exact ⟨rfl, rfl⟩

theorem Row.drew {w : World} {a : Option Addr} {cap : Nat} {l : List Nat} (h : Row w a cap l) : Row w.drew a cap l := h.same (Fr.refl (fun _ => False) w).drew

set_option maxRecDepth 100000 in
set_option maxHeartbeats 2000000 in
theorem refOpen_any (a : Option Addr) (n k cap : Nat) (l : List Nat) (hn : n = l.length) (hk : n = k + 4) (w : World) (hr : Row w a cap l) :
    Calls Tryz.prog 58 #[.slice a n cap] w fun e w' => ((le 4 (crc (l.take k)) = l.drop k ∧ ∃ b off, a = some ⟨b, off, none⟩ ∧ e = .returned (.tuple #[.slice (some ⟨b, off, none⟩) k cap, .int .i64 0])) ∨ (le 4 (crc (l.take k)) ≠ l.drop k ∧ e = .returned (.tuple #[.slice none 0 0, .int .i64 20]))) ∧ Fr (fun _ => False) w w' := by
  subst hk
  have hsm := hr.small
  have hle := hr.le
  have hmx := hr.max
  have h4 : ¬ ((k : Int) + 4 < 4) := by omega
  have htl : (l.take k).length = k := by simp; omega
  have hdl : (l.drop k).length = 4 := by simp; omega
  obtain ⟨b, off, rfl, hb, hc⟩ : ∃ b off, a = some ⟨b, off, none⟩ ∧ b < w.heap.size ∧ ∀ i, i < l.length → w.cell? ⟨b, off + i, none⟩ = some (.int .u8 ((l.getD i 0 : Nat) : Int)) := by
    rcases hr.at_ with e | e
    · rw [e] at hn; simp at hn
    · exact e
  have hrd : Row w (some ⟨b, off + k, none⟩) (cap - k) (l.drop k) := hr.drop k (by omega) (off + k) (.inr rfl) (.inr ⟨hb, hc⟩)
  have hrt := hr.take k
  have hcl := crc_lt hrt.byte
  obtain ⟨t, ht⟩ : ∃ t, t = l.drop k := ⟨_, rfl⟩
  obtain ⟨m, hm⟩ : ∃ m, m = l.take k := ⟨_, rfl⟩
  rw [← ht] at hdl hrd ⊢
  rw [← hm] at htl hrt hcl ⊢
  have HN : Hid (k + 4 = l.length) := hn
  have hkc : k + 4 ≤ cap := by omega
  have hk47 : k ≤ 140737488355328 := by omega
  clear ht hm hc hr hn
  have q1 : (k : Int) ≤ (cap : Int) := by omega
  have q0 : (0 : Int) ≤ (k : Int) := by omega
  have q3 : (k : Int) ≤ (k : Int) + 4 := by omega
  have q2 : ¬ cap = k := by omega
  go_enter Tryz.func58, Tryz.ntmps58
  go_wp2
  have hcv := fun (W : World) (h : Fr (fun _ => False) w W) => run_str (P := Tryz.prog) (src := 41) (dst := 9) Tryz.underlying41 Tryz.underlying5 Tryz.underlying9 (hrd.same h) 4 hdl.symm
  have fd : Fr (fun _ => False) w w.drew := (Fr.refl (fun _ => False) w).drew
  go_region_with (first
    | (go_at_call 71; refine (refSum_any (some ⟨b, off, none⟩) k cap m htl.symm _ ?_).mono ?_; exact hrt.drew; rintro e w' ⟨rfl, rfl⟩)
    | (go_at_call 52; refine (refNum_any (crc m) 4 (by omega) (by omega) _).mono ?_; rintro e w3 ⟨v3, rfl, m3⟩; obtain ⟨a3, c3, hv3, hr3⟩ := m3.own.row (le_octs 4 (crc m)) (by simp [le_length]); rw [le_length] at hv3; rw [hv3]; have f3 := fd.false_trans m3.fr; have hcv3 := run_str (P := Tryz.prog) (src := 41) (dst := 9) Tryz.underlying41 Tryz.underlying5 Tryz.underlying9 hr3 4 (by simp [le_length])))
  all_goals
    go_wp2
    · have hne : (!(strOf t).toList == (strOf (le 4 (crc m))).toList) = true := by assumption
      rw [str_eq hrd.byte (le_octs 4 (crc m))] at hne
      go_ret2
      exact ⟨.inr ⟨fun e => by rw [e] at hne; simp at hne, rfl⟩, f3⟩
    · have heq : (!(strOf t).toList == (strOf (le 4 (crc m))).toList) = false := by assumption
      rw [str_eq hrd.byte (le_octs 4 (crc m))] at heq
      have he : t = le 4 (crc m) := by simpa using heq
      go_ret2
      exact ⟨.inl ⟨he.symm, b, off, rfl, rfl⟩, f3⟩
end Go.Proofs.YtnoadmkkkeianaaGreat

/- What crc.Open and the document's Open tell, in one form: the same bytes and the same error. -/
namespace Go.Proofs.YtnoadmkkkeianaaGreat
open Go.RowKit Crcm

/-- What is opened, and the error. -/
def opened (l : List Nat) : List Nat × Nat :=
  if l.length < 4 then ([], 10) else if val (l.drop (l.length - 4)) = crc (l.take (l.length - 4)) then (l.take (l.length - 4), 0) else ([], 20)

theorem row_empty (w : World) (a : Option Addr) : Row w a 0 [] := ⟨Nat.le_refl _, by omega, by simp, (fun x hx => by cases hx), .inl rfl⟩

theorem open_all (a : Option Addr) (n cap : Nat) (l : List Nat) (hn : n = l.length) (w : World) (hr : Row w a cap l) :
    Calls Tryz.prog 56 #[.slice a n cap] w fun e w' => ∃ ax cx, e = .returned (.tuple #[.slice ax (opened l).1.length cx, .int .i64 (((opened l).2 : Nat) : Int)]) ∧ Row w' ax cx (opened l).1 ∧ Fr (fun _ => False) w w' := by
  by_cases h4 : l.length < 4
  · refine (open_cut a n cap (by omega) w).mono ?_
    rintro e w' ⟨rfl, rfl⟩
    have ho : opened l = ([], 10) := by simp [opened, h4]
    rw [ho]
    exact ⟨none, 0, rfl, row_empty _ _, Fr.refl _ _⟩
  · by_cases hg : val (l.drop (l.length - 4)) = crc (l.take (l.length - 4))
    · refine (open_ok a n (l.length - 4) cap l hn (by omega) w hr hg).mono ?_
      rintro e w' ⟨v', rfl, hm⟩
      have ho : opened l = (l.take (l.length - 4), 0) := by simp [opened, h4, hg]
      rw [ho]
      obtain ⟨ax, cx, rfl, hrow⟩ := hm.own.row (octs_take hr.byte _) (by have := hr.small; simp; omega)
      exact ⟨ax, cx, rfl, hrow, hm.fr⟩
    · refine (open_bad a n (l.length - 4) cap l hn (by omega) w hr hg).mono ?_
      rintro e w' ⟨rfl, hf⟩
      have ho : opened l = ([], 20) := by simp [opened, h4, hg]
      rw [ho]
      exact ⟨none, 0, rfl, row_empty _ _, hf⟩

theorem le4_iff {t : List Nat} {c : Nat} (ht : octs t) (h4 : t.length = 4) (hc : c < 4294967296) : le 4 c = t ↔ val t = c := by
  rw [le_le4]
  constructor
  · intro h; rw [← h]; exact val_le4 c hc
  · intro h; rw [← h]; exact (le4_val t ht h4).1

theorem refOpen_all (a : Option Addr) (n cap : Nat) (l : List Nat) (hn : n = l.length) (w : World) (hr : Row w a cap l) :
    Calls Tryz.prog 58 #[.slice a n cap] w fun e w' => ∃ ax cx, e = .returned (.tuple #[.slice ax (opened l).1.length cx, .int .i64 (((opened l).2 : Nat) : Int)]) ∧ Row w' ax cx (opened l).1 ∧ Fr (fun _ => False) w w' := by
  by_cases h4 : l.length < 4
  · refine (refOpen_cut a n cap (by omega) w).mono ?_
    rintro e w' ⟨rfl, rfl⟩
    have ho : opened l = ([], 10) := by simp [opened, h4]
    rw [ho]
    exact ⟨none, 0, rfl, row_empty _ _, Fr.refl _ _⟩
  · have hiff := le4_iff (t := l.drop (l.length - 4)) (c := crc (l.take (l.length - 4))) (fun x hx => hr.byte x (List.mem_of_mem_drop hx)) (by simp; omega) (crc_lt (octs_take hr.byte _))
    refine (refOpen_any a n (l.length - 4) cap l hn (by omega) w hr).mono ?_
    rintro e w' ⟨h, hf⟩
    rcases h with ⟨h1, b, off, rfl, rfl⟩ | ⟨h1, rfl⟩
    · have ho : opened l = (l.take (l.length - 4), 0) := by simp [opened, h4, hiff.mp h1]
      rw [ho]
      have hlen : (l.take (l.length - 4)).length = l.length - 4 := by simp
      exact ⟨_, cap, by rw [hlen]; rfl, (hr.take _).same hf, hf⟩
    · have h2 : ¬ val (l.drop (l.length - 4)) = crc (l.take (l.length - 4)) := fun h => h1 (hiff.mpr h)
      have ho : opened l = ([], 20) := by simp [opened, h4, h2]
      rw [ho]
      exact ⟨none, 0, rfl, row_empty _ _, hf⟩
end Go.Proofs.YtnoadmkkkeianaaGreat

/- What (*Writer).Text does. -/
namespace Go.Proofs.YtnoadmkkkeianaaGreat
open Go.RowKit

set_option maxRecDepth 100000 in
set_option maxHeartbeats 400000 in
theorem text_long (p : Option Addr) (s : ByteArray) (hs : 65535 < s.size) (w : World) :
    Calls Tryz.prog 48 #[.pointer p, .string s] w fun e w' => e = .returned (.int .i64 2) ∧ w' = w := by
  have h : (65535 : Int) < (s.size : Int) := by omega
  go_enter Tryz.func48, Tryz.ntmps48
  go_wp2
  go_ret
  exact ⟨rfl, rfl⟩
set_option maxRecDepth 100000 in
set_option maxHeartbeats 400000 in
theorem text_nil (s : ByteArray) (hs : s.size ≤ 65535) (w : World) :
    Calls Tryz.prog 48 #[.pointer none, .string s] w fun e w' => e = .returned (.int .i64 7) ∧ w' = w := by
  have h : (s.size : Int) ≤ 65535 := by omega
  go_enter Tryz.func48, Tryz.ntmps48
  go_wp2
  go_ret
  exact ⟨rfl, rfl⟩

/-- What the last store of Text makes of the writer. -/
theorem Wr.put {w w1 : World} {base wb : Nat} {v v' : Value} {l m : List Nat} (h : Wr w base wb v l) (hg : w.grownBy w1 v.ownBlock) (hown : Mine w1 base v' m) : Wr (w1.setCell ⟨wb, 0, none⟩ v') base wb v' m := by
  have hlt := lt_of_block h.box
  have hne : some wb ≠ v.ownBlock := fun e => by have := (h.own.lt wb e.symm).1; have := h.low; omega
  have hb : w1.heap[wb]? = some (.cells #[v] 108 (0, 0)) := by rw [hg.block wb hlt hne]; exact h.box
  exact ⟨one_setCell hb, h.low, ownsRow_setCell_below hown h.low v'⟩

set_option maxRecDepth 100000 in
set_option maxHeartbeats 1000000 in
theorem text_ok (s : ByteArray) (hs : s.size ≤ 65535) (base wb : Nat) (v : Value) (l : List Nat) (w : World) (h : Wr w base wb v l) (hb : base ≤ w.heap.size) (hroom : l.length + 65600 ≤ 140737488355328) :
    Calls Tryz.prog 48 #[.pointer (some ⟨wb, 0, none⟩), .string s] w fun e w' => e = .returned (.int .i64 0) ∧
      ∃ v', Wr w' base wb v' (l ++ le 2 s.size ++ bsOf s) ∧ Fr (wrS wb v) w w' ∧ (v'.ownBlock = v.ownBlock ∨ ∃ g, v'.ownBlock = some g ∧ w.heap.size ≤ g) := by
  obtain ⟨i0, hi, hz0, hz1, hz2⟩ := info_parts info8
  have hs' : (s.size : Int) ≤ 65535 := by omega
  go_enter Tryz.func48, Tryz.ntmps48
  go_wp2_with fail
  refine (number_any s.size 2 (by omega) base wb v l _ h hb (by omega)).mono ?_
  rintro e w1 ⟨rfl, v1, hw1, hf1, hv1⟩
  have hcell := cell_of_one hw1.box
  have hfree := free_of_one hw1.box
  have hlt1 := lt_of_block hw1.box
  have hsz1 := hf1.size
  have hll : (l ++ le 2 s.size).length = l.length + 2 := by simp [le_length]
  have hne : some wb ≠ v1.ownBlock := fun e => by have := (hw1.own.lt wb e.symm).1; have := hw1.low; omega
  obtain ⟨m, hm⟩ : ∃ m, m = l ++ le 2 s.size := ⟨_, rfl⟩
  rw [← hm] at hw1 hll
  have HM : Hid (l ++ le 2 s.size = m) := hm.symm
  clear hm
  have HLL : Hid (m.length = l.length + 2) := hll
  have hml : m.length + 65536 ≤ 140737488355328 := by omega
  clear hll
  go_wp2_with (at_builtin; refine wpList_append_str _ rfl _ _ 106 9 rfl i0 Tryz.underlying106 Tryz.underlying9 hi hz0 hz1 hz2 base v1 m rfl hw1.own s rfl (by omega) (Nat.le_trans hb hsz1) ?_; intro a2 c2 w2 hown2 hgrow2 hat2; have hc2 := (hgrow2.cell_far ⟨wb, 0, none⟩ hlt1 hne).trans hcell; have hf2 := (hgrow2.frozen_far ⟨wb, 0, none⟩ hlt1 hne).trans hfree)
  go_ret
  refine ⟨rfl, .slice a2 (m.length + s.size) c2, ?_, ?_, ?_⟩
  · rw [HM.out]; exact hw1.put hgrow2 hown2
  · refine (hf1.grown hgrow2 (fun k e hk => ?_)).setCell (fun _ => .inl rfl) _
    rcases hv1 with h1 | ⟨g, h1, hge⟩
    · exact .inr (by rw [← h1]; exact e)
    · rw [h1] at e; simp at e; omega
  · rcases hat2 with h2 | h2
    · rw [h2]; exact hv1
    · exact .inr ⟨_, h2, hsz1⟩
end Go.Proofs.YtnoadmkkkeianaaGreat

/- What package wire's reader does besides: the ways in which Num fails; Text; Left; End; a nil reader, a nil writer. -/
namespace Go.Proofs.YtnoadmkkkeianaaGreat
open Go.RowKit

set_option maxRecDepth 100000 in
set_option maxHeartbeats 400000 in
theorem rnum_arg (p : Option Addr) (size : Int) (h1 : ¬ size = 1) (h2 : ¬ size = 2) (h4 : ¬ size = 4) (h8 : ¬ size = 8) (w : World) :
    Calls Tryz.prog 73 #[.pointer p, .int .i64 size] w fun e w' => e = .returned (.tuple #[.int .i64 0, .int .i64 1]) ∧ w' = w := by
  have H1 : Hid (¬ size = 1) := h1
  have H2 : Hid (¬ size = 2) := h2
  have H4 : Hid (¬ size = 4) := h4
  have H8 : Hid (¬ size = 8) := h8
  clear h1 h2 h4 h8
  go_enter Tryz.func73, Tryz.ntmps73
  go_wp2_with (go_at_call 81; refine (isSize_no _ H1.out H2.out H4.out H8.out _).mono ?_; rintro e w' ⟨rfl, rfl⟩)
  go_ret2
  exact ⟨rfl, rfl⟩

set_option maxRecDepth 100000 in
set_option maxHeartbeats 400000 in
theorem stopped_nil (w : World) : Calls Tryz.prog 84 #[.pointer none] w fun e w' => e = .returned (.int .i64 10) ∧ w' = w := by
  go_enter Tryz.func84, Tryz.ntmps84
  go_wp2
  go_ret
  exact ⟨rfl, rfl⟩
set_option maxRecDepth 100000 in
set_option maxHeartbeats 400000 in
theorem rnum_nil (size : Int) (hs : size = 1 ∨ size = 2 ∨ size = 4 ∨ size = 8) (w : World) :
    Calls Tryz.prog 73 #[.pointer none, .int .i64 size] w fun e w' => e = .returned (.tuple #[.int .i64 0, .int .i64 10]) ∧ w' = w := by
  have HS : Hid (size = 1 ∨ size = 2 ∨ size = 4 ∨ size = 8) := hs
  clear hs
  go_enter Tryz.func73, Tryz.ntmps73
  go_wp2_with (first | (go_at_call 81; refine (isSize_yes _ HS.out _).mono ?_; rintro e w' ⟨rfl, rfl⟩) | (go_at_call 84; refine (stopped_nil _).mono ?_; rintro e w' ⟨rfl, rfl⟩))
  go_ret2
  exact ⟨rfl, rfl⟩

/-- The reader has an error already. -/
theorem rnum_stop (size : Int) (hs : size = 1 ∨ size = 2 ∨ size = 4 ∨ size = 8) (rb : Nat) (a : Option Addr) (cap : Nat) (l : List Nat) (err : Int) (herr : ¬ err = 0) (w : World) (h : Rd w rb a cap l err) :
    Calls Tryz.prog 73 #[.pointer (some ⟨rb, 0, none⟩), .int .i64 size] w fun e w' => e = .returned (.tuple #[.int .i64 0, .int .i64 err]) ∧ w' = w := by
  have HS : Hid (size = 1 ∨ size = 2 ∨ size = 4 ∨ size = 8) := hs
  have hne : (err != 0) = true := by simpa using herr
  clear hs
  go_enter Tryz.func73, Tryz.ntmps73
  go_wp2_with (first | (go_at_call 81; refine (isSize_yes _ HS.out _).mono ?_; rintro e w' ⟨rfl, rfl⟩) | (go_at_call 84; refine (stopped_any rb _ cap l err _ h).mono ?_; rintro e w' ⟨rfl, rfl⟩))
  go_ret2
  exact ⟨rfl, rfl⟩

set_option maxRecDepth 100000 in
set_option maxHeartbeats 400000 in
theorem rnum_cut (size : Nat) (hsz : (size : Int) = 1 ∨ (size : Int) = 2 ∨ (size : Int) = 4 ∨ (size : Int) = 8) (rb : Nat) (a : Option Addr) (cap : Nat) (l : List Nat) (hlen : l.length < size) (w : World) (h : Rd w rb a cap l 0) :
    Calls Tryz.prog 73 #[.pointer (some ⟨rb, 0, none⟩), .int .i64 size] w fun e w' => e = .returned (.tuple #[.int .i64 0, .int .i64 10]) ∧ Rd w' rb a cap l 10 ∧ Fr (fun k => k = rb) w w' := by
  obtain ⟨h0, h1, f0, f1⟩ := cell_of_two h.box
  have HZ : Hid ((size : Int) = 1 ∨ (size : Int) = 2 ∨ (size : Int) = 4 ∨ (size : Int) = 8) := hsz
  have hpos : 0 < size ∧ size ≤ 8 := by omega
  clear hsz
  have i1 : (l.length : Int) < (size : Int) := by omega
  go_enter Tryz.func73, Tryz.ntmps73
  go_wp2_with (first | (go_at_call 81; refine (isSize_yes _ HZ.out _).mono ?_; rintro e w' ⟨rfl, rfl⟩) | (go_at_call 84; refine (stopped_any rb _ cap l 0 _ h).mono ?_; rintro e w' ⟨rfl, rfl⟩) | (go_at_call 85; refine (fail_any rb a cap l 0 10 _ h).mono ?_; rintro e w' ⟨rfl, hq⟩))
  go_ret2
  exact ⟨rfl, hq⟩

set_option maxRecDepth 100000 in
set_option maxHeartbeats 1000000 in
theorem rnum_big (size : Nat) (hsz : (size : Int) = 1 ∨ (size : Int) = 2 ∨ (size : Int) = 4 ∨ (size : Int) = 8) (rb : Nat) (a : Option Addr) (cap : Nat) (l : List Nat) (hlen : size ≤ l.length) (hval : 9223372036854775808 ≤ val (l.take size)) (w : World) (h : Rd w rb a cap l 0) :
    Calls Tryz.prog 73 #[.pointer (some ⟨rb, 0, none⟩), .int .i64 size] w fun e w' => e = .returned (.tuple #[.int .i64 0, .int .i64 1]) ∧ Rd w' rb a cap l 1 ∧ Fr (fun k => k = rb) w w' := by
  obtain ⟨h0, h1, f0, f1⟩ := cell_of_two h.box
  have hle := h.row.le
  have hmx := h.row.max
  have HZ : Hid ((size : Int) = 1 ∨ (size : Int) = 2 ∨ (size : Int) = 4 ∨ (size : Int) = 8) := hsz
  have hpos : 0 < size ∧ size ≤ 8 := by omega
  clear hsz
  have htl : (l.take size).length = size := by simp; omega
  have i0 : (0 : Int) ≤ (size : Int) := by omega
  have i1 : (size : Int) ≤ (l.length : Int) := by omega
  have i2 : (size : Int) ≤ (cap : Int) := by omega
  obtain ⟨v, hv⟩ : ∃ v, v = val (l.take size) := ⟨_, rfl⟩
  have HV : Hid (val (l.take size) = v) := hv.symm
  rw [← hv] at hval
  clear hv
  have i3 : (9223372036854775807 : Int) < (v : Int) := by omega
  go_enter Tryz.func73, Tryz.ntmps73
  go_wp2_with (first | (go_at_call 81; refine (isSize_yes _ HZ.out _).mono ?_; rintro e w' ⟨rfl, rfl⟩) | (go_at_call 84; refine (stopped_any rb _ cap l 0 _ h).mono ?_; rintro e w' ⟨rfl, rfl⟩) | (go_at_call 86; refine (numberOf_any _ size cap (l.take size) htl.symm (by omega) _ (h.row.take size)).mono ?_; rw [HV.out]; rintro e w' ⟨rfl, rfl⟩) | (go_at_call 85; refine (fail_any rb a cap l 0 1 _ h).mono ?_; rintro e w' ⟨rfl, hq⟩))
  go_ret2
  exact ⟨rfl, hq⟩

set_option maxRecDepth 100000 in
set_option maxHeartbeats 400000 in
theorem left_any (rb : Nat) (a : Option Addr) (cap : Nat) (l : List Nat) (err : Int) (w : World) (h : Rd w rb a cap l err) :
    Calls Tryz.prog 89 #[.pointer (some ⟨rb, 0, none⟩)] w fun e w' => e = .returned (.int .i64 l.length) ∧ w' = w := by
  obtain ⟨h0, h1, f0, f1⟩ := cell_of_two h.box
  go_enter Tryz.func89, Tryz.ntmps89
  go_wp2
  go_ret
  exact ⟨rfl, rfl⟩
set_option maxRecDepth 100000 in
set_option maxHeartbeats 400000 in
theorem left_nil (w : World) : Calls Tryz.prog 89 #[.pointer none] w fun e w' => e = .returned (.int .i64 0) ∧ w' = w := by
  go_enter Tryz.func89, Tryz.ntmps89
  go_wp2
  go_ret
  exact ⟨rfl, rfl⟩
/-- What End tells. -/
def endOf (l : List Nat) (err : Int) : Int := if err = 0 then (if l.length = 0 then 0 else 4) else err
set_option maxRecDepth 100000 in
set_option maxHeartbeats 400000 in
theorem end_any (rb : Nat) (a : Option Addr) (cap : Nat) (l : List Nat) (err : Int) (w : World) (h : Rd w rb a cap l err) :
    Calls Tryz.prog 75 #[.pointer (some ⟨rb, 0, none⟩)] w fun e w' => e = .returned (.int .i64 (endOf l err)) ∧ w' = w := by
  obtain ⟨h0, h1, f0, f1⟩ := cell_of_two h.box
  by_cases he : err = 0
  · subst he
    by_cases hl : l.length = 0
    · have ho : endOf l 0 = 0 := by simp [endOf, hl]
      rw [ho]
      have i1 : ¬ (0 : Int) < (l.length : Int) := by omega
      go_enter Tryz.func75, Tryz.ntmps75
      go_wp2
      go_ret
      exact ⟨rfl, rfl⟩
    · have ho : endOf l 0 = 4 := by unfold endOf; rw [if_pos rfl, if_neg hl]
      rw [ho]
      have i1 : (0 : Int) < (l.length : Int) := by omega
      go_enter Tryz.func75, Tryz.ntmps75
      go_wp2
      go_ret
      exact ⟨rfl, rfl⟩
  · have ho : endOf l err = err := by unfold endOf; rw [if_neg he]
    rw [ho]
    have hne : (err != 0) = true := by simpa using he
    clear ho
    go_enter Tryz.func75, Tryz.ntmps75
    go_wp2
    go_ret
    exact ⟨rfl, rfl⟩
set_option maxRecDepth 100000 in
set_option maxHeartbeats 400000 in
theorem end_nil (w : World) : Calls Tryz.prog 75 #[.pointer none] w fun e w' => e = .returned (.int .i64 0) ∧ w' = w := by
  go_enter Tryz.func75, Tryz.ntmps75
  go_wp2
  go_ret
  exact ⟨rfl, rfl⟩
set_option maxRecDepth 100000 in
set_option maxHeartbeats 400000 in
theorem bytes_nil (w : World) : Calls Tryz.prog 51 #[.pointer none] w fun e w' => e = .returned (.slice none 0 0) ∧ w' = w := by
  go_enter Tryz.func51, Tryz.ntmps51
  go_wp2
  go_ret
  exact ⟨rfl, rfl⟩
end Go.Proofs.YtnoadmkkkeianaaGreat
