
/- Own, Wire. -/
import Derived.Test.YtcmkpmilnplhmaaWT1
/- What (*list).number does: a writer's bytes in memory, and a number behind them. -/
namespace Go.Proofs.Ytcmkpmilnplhmaa
open Go.RowKit
attribute [local go_sem ↓] Go.wp_at_zero Go.wp_at_succ

/-- A writer at block wb: its list is v, which holds l. -/
structure Wr (w : World) (base wb : Nat) (v : Value) (l : List Nat) : Prop where
  box : w.heap[wb]? = some (.cells #[v] 71 (0, 0))
  low : wb < base
  own : Mine w base v l
/-- The blocks that a writer may write. -/
def wrS (wb : Nat) (v : Value) : Nat → Prop := fun k => k = wb ∨ v.ownBlock = some k

/-- The bytes of a number, the lowest first. -/
def le : Nat → Nat → List Nat
  | 0, _ => []
  | k + 1, n => le k n ++ [n / 256 ^ k % 256]
theorem le_length (k n : Nat) : (le k n).length = k := by
  induction k with
  | zero => rfl
  | succ k ih => simp [le, ih]

/-- One round of 'number': what the append and the store make of the writer. -/
theorem Wr.push {w w1 w2 : World} {base wb : Nat} {v v' : Value} {l : List Nat} {x : Nat} (h : Wr w base wb v l) (hg : w1.grownBy w2 v.ownBlock) (h1 : Fr (fun _ => False) w w1)
    (hown : w2.ownsRow base 5 1 v' (l.length + 1) (cellsOf l ++ [.int .u8 (x : Int)])) :
    Wr (w2.setCell ⟨wb, 0, none⟩ v') base wb v' (l ++ [x]) := by
  have hlt := lt_of_block h.box
  have hne : some wb ≠ v.ownBlock := fun e => by have := (h.own.lt wb e.symm).1; have := h.low; omega
  have hb : w2.heap[wb]? = some (.cells #[v] 71 (0, 0)) := by
    rw [hg.block wb (Nat.lt_of_lt_of_le hlt h1.size) hne, h1.block wb hlt (fun f => f)]; exact h.box
  refine ⟨one_setCell hb, h.low, ?_⟩
  have : w2.ownsRow base 5 1 v' (l ++ [x]).length (cellsOf (l ++ [x])) := by
    rw [cellsOf_append, cellsOf_one]; simpa using hown
  exact ownsRow_setCell_below this h.low v'

theorem byte_of (n k : Nat) : IntKind.u8.wrap ((n : Int) / 2 ^ (8 * (k : Int)).toNat) = ((n / 256 ^ k % 256 : Nat) : Int) := by
  have e : (8 * (k : Int)).toNat = 8 * k := by omega
  rw [e, IntKind.wrap_u8']
  have e2 : (2 : Int) ^ (8 * k) = ((256 ^ k : Nat) : Int) := by rw [show (256 : Nat) = 2 ^ 8 from rfl, ← Nat.pow_mul]; simp
  rw [e2, Int.natCast_emod, Int.natCast_ediv]; rfl
theorem number_fr {w wr w1 : World} {wb : Nat} {v vk v' : Value} {o : Obj} (hf : Fr (wrS wb v) w wr) (hv : vk.ownBlock = v.ownBlock ∨ ∃ g, vk.ownBlock = some g ∧ w.heap.size ≤ g)
    (hg : ((wr.alloc o).drew).grownBy w1 vk.ownBlock) : Fr (wrS wb v) w (w1.setCell ⟨wb, 0, none⟩ v') :=
  ((hf.alloc o).drew.grown hg (fun k e hk => by
    rcases hv with h | ⟨g, h, hge⟩
    · exact .inr (by rw [← h]; exact e)
    · rw [h] at e; simp at e; omega)).setCell (fun _ => .inl rfl) v'
theorem number_own {w wr : World} {v vk : Value} {n cap gg : Nat} (hv : vk.ownBlock = v.ownBlock ∨ ∃ g, vk.ownBlock = some g ∧ w.heap.size ≤ g) (hat : vk.ownBlock = some gg ∨ gg = wr.heap.size + 1) (hs : w.heap.size ≤ wr.heap.size) :
    (Value.slice (some ⟨gg, 0, none⟩) n cap).ownBlock = v.ownBlock ∨ ∃ g, (Value.slice (some ⟨gg, 0, none⟩) n cap).ownBlock = some g ∧ w.heap.size ≤ g := by
  rcases hat with h | h
  · rcases hv with h2 | ⟨g, h2, hge⟩
    · exact .inl (by rw [← h2, h]; rfl)
    · exact .inr ⟨gg, rfl, by rw [h2] at h; simp at h; omega⟩
  · exact .inr ⟨gg, rfl, by omega⟩

set_option maxRecDepth 100000 in
set_option maxHeartbeats 1000000 in
theorem number_any (n size : Nat) (hsz : size ≤ 8) (base wb : Nat) (v : Value) (l : List Nat) (w : World) (h : Wr w base wb v l) (hb : base ≤ w.heap.size) (hroom : l.length + 8 ≤ 140737488355328) :
    Calls Try.prog 38 #[.pointer (some ⟨wb, 0, none⟩), .int .i64 n, .int .i64 size] w fun e w' => e = .returned (.tuple #[]) ∧
      ∃ v', Wr w' base wb v' (l ++ le size n) ∧ Fr (wrS wb v) w w' ∧ (v'.ownBlock = v.ownBlock ∨ ∃ g, v'.ownBlock = some g ∧ w.heap.size ≤ g) := by
  obtain ⟨i0, hi, hz0, hz1, hz2⟩ := info_parts info8
  go_enter Try.func38, Try.ntmps38
  go_wp2
  go_loopw [8] (fun i wr => ∃ (k : Nat) (vk : Value), k ≤ size ∧ i = .int .i64 k ∧ Wr wr base wb vk (l ++ le k n) ∧ Fr (wrS wb v) w wr ∧ (vk.ownBlock = v.ownBlock ∨ ∃ g, vk.ownBlock = some g ∧ w.heap.size ≤ g))
    (fun i _ => size - (intOf i).toNat)
  case atStart => exact ⟨0, v, by omega, rfl, by simpa [le] using h, Fr.refl _ _, .inl rfl⟩
  case round =>
    obtain ⟨k, vk, hk, rfl, hw, hf, hv⟩ := hrel
    by_cases hlt : k < size
    · have hcell := cell_of_one hw.box
      have hfree := free_of_one hw.box
      have hi0 : (0 : Int) ≤ 8 * (k : Int) := by omega
      have hi1 : 8 * (k : Int) ≤ 64 := by omega
      have hwr : IntKind.i64.wrap (8 * (k : Int)) = 8 * (k : Int) := by simp [IntKind.wrap, IntKind.bits, IntKind.signed]; omega
      go_wp2
      have hsz1 := lt_of_block hw.box
      have hne : vk.ownBlock ≠ some wb := fun e => by have := (hw.own.lt wb e).1; have := hw.low; omega
      have hlen : (l ++ le k n).length = l.length + k := by simp [le_length]
      have hfs := hf.size
      obtain ⟨x, hx⟩ : ∃ x : Nat, x = n / 256 ^ k % 256 := ⟨_, rfl⟩
      have hxr : IntKind.u8.wrap ((n : Int) / 2 ^ (8 * (k : Int)).toNat) = ((x : Nat) : Int) := by rw [hx]; exact byte_of n k
      have HL : Hid (l ++ le (k + 1) n = (l ++ le k n) ++ [x]) := by rw [hx]; simp [le, Hid]
      clear hx
      have hc2 := (World.cell?_of_block (a := ⟨wb, 0, none⟩) (Below.heap_alloc wr (.cells #[.int .u8 (x : Int)] 5) wb hsz1)).trans hcell
      have hf2 := (World.frozen?_of_block (a := ⟨wb, 0, none⟩) (Below.heap_alloc wr (.cells #[.int .u8 (x : Int)] 5) wb hsz1)).trans hfree
      go_region_law
        ((refine step_append_lies _ (by rfl) _ _ _ (by rfl) base 5 i0 _ 1 1 Try.underlying69 hi hz0 hz1 hz2 rfl (by omega) vk _ _ (by rfl) ((hw.own.alloc _).drew)
            ⟨wr.heap.size, 0, none⟩ 1 1 [.int .u8 (x : Int)] (by rfl) (by rfl) (World.news_of_block (cs := #[.int .u8 (x : Int)]) (t := 5) (fr := (0, 0)) (heap_alloc_new wr _)) (by simp [Value.oneCell'])
            (by omega) (by unfold maxLen; omega) (by omega) (by simp; omega) (wr.heap.size + 1) (by simp) ?_; intro gg cap w1 hown1 hgrow hat hlt1; have hc3 := (hgrow.cell_far ⟨wb, 0, none⟩ (by simp; omega) (Ne.symm hne)).trans hc2; have hf3 := (hgrow.frozen_far ⟨wb, 0, none⟩ (by simp; omega) (Ne.symm hne)).trans hf2))
      all_goals
        go_wp2
        go_roundw
        case rel =>
          refine ⟨k + 1, .slice (some ⟨gg, 0, none⟩) (l.length + k + 1) cap, by omega, by go_num, ?_, ?_, ?_⟩
          · rw [HL.out]
            have hp := hw.push hgrow (((Fr.refl _ _).alloc _).drew) hown1
            rw [hlen] at hp
            exact hp
          · exact number_fr hf hv hgrow
          · exact number_own hv hat hfs
        case measure => simp [intOf]; omega
    · have : k = size := by omega
      subst this
      go_wp2
      go_end0
      exact ⟨rfl, vk, hw, hf, hv⟩
end Go.Proofs.Ytcmkpmilnplhmaa

/- What package wire's small functions do: isSize, fits, New, (*Writer).Num, (*Writer).Bytes, Of. -/
namespace Go.Proofs.Ytcmkpmilnplhmaa
open Go.RowKit

def sized (s : Int) : Bool := s == 1 || s == 2 || s == 4 || s == 8
set_option maxRecDepth 100000 in
set_option maxHeartbeats 400000 in
theorem isSize_yes (s : Int) (h : s = 1 ∨ s = 2 ∨ s = 4 ∨ s = 8) (w : World) : Calls Try.prog 48 #[.int .i64 s] w fun e w' => e = .returned (.bool true) ∧ w' = w := by
  rcases h with rfl | rfl | rfl | rfl <;>
    (go_enter Try.func48, Try.ntmps48; go_wp2; go_ret; exact ⟨rfl, rfl⟩)
set_option maxRecDepth 100000 in
set_option maxHeartbeats 400000 in
theorem isSize_no (s : Int) (h1 : ¬ s = 1) (h2 : ¬ s = 2) (h4 : ¬ s = 4) (h8 : ¬ s = 8) (w : World) : Calls Try.prog 48 #[.int .i64 s] w fun e w' => e = .returned (.bool false) ∧ w' = w := by
  have g1 : (s == 1) = false := by simpa using h1
  have g2 : (s == 2) = false := by simpa using h2
  have g4 : (s == 4) = false := by simpa using h4
  have g8 : (s == 8) = false := by simpa using h8
  clear h1 h2 h4 h8
  go_enter Try.func48, Try.ntmps48; go_wp2; go_ret; exact ⟨rfl, rfl⟩

/-- A number of so many bytes. -/
def fit (n size : Int) : Prop := 0 ≤ n ∧ (size = 1 ∧ n < 256 ∨ size = 2 ∧ n < 65536 ∨ size = 4 ∧ n < 4294967296 ∨ size = 8)
set_option maxRecDepth 100000 in
set_option maxHeartbeats 400000 in
theorem fits_yes (n size : Int) (h : fit n size) (w : World) : Calls Try.prog 49 #[.int .i64 n, .int .i64 size] w fun e w' => e = .returned (.bool true) ∧ w' = w := by
  obtain ⟨h0, h⟩ := h
  rcases h with ⟨rfl, h⟩ | ⟨rfl, h⟩ | ⟨rfl, h⟩ | rfl
  · have e : n / 256 = 0 := by omega
    go_enter Try.func49, Try.ntmps49; go_wp2; go_ret; exact ⟨rfl, rfl⟩
  · have e : n / 65536 = 0 := by omega
    go_enter Try.func49, Try.ntmps49; go_wp2; go_ret; exact ⟨rfl, rfl⟩
  · have e : n / 4294967296 = 0 := by omega
    go_enter Try.func49, Try.ntmps49; go_wp2; go_ret; exact ⟨rfl, rfl⟩
  · go_enter Try.func49, Try.ntmps49; go_wp2; go_ret; exact ⟨rfl, rfl⟩

theorem new_any (w : World) : Calls Try.prog 25 #[] w fun e w' => e = .returned (.pointer (some ⟨w.heap.size, 0, none⟩)) ∧ w' = w.alloc (.cells #[.slice none 0 0] 71) := by
  go_enter Try.func25, Try.ntmps25
  go_wp2
  go_ret
  exact ⟨rfl, rfl⟩
theorem Wr.new (w : World) : Wr (w.alloc (.cells #[.slice none 0 0] 71)) (w.heap.size + 1) w.heap.size (.slice none 0 0) [] :=
  ⟨heap_alloc_new w _, by omega, World.ownsRow_nil _ _ _ _⟩

set_option maxRecDepth 100000 in
set_option maxHeartbeats 400000 in
theorem wnum_yes (n size : Nat) (hfit : fit n size) (base wb : Nat) (v : Value) (l : List Nat) (w : World) (h : Wr w base wb v l) (hb : base ≤ w.heap.size) (hroom : l.length + 8 ≤ 140737488355328) :
    Calls Try.prog 39 #[.pointer (some ⟨wb, 0, none⟩), .int .i64 n, .int .i64 size] w fun e w' => e = .returned (.int .i64 0) ∧
      ∃ v', Wr w' base wb v' (l ++ le size n) ∧ Fr (wrS wb v) w w' ∧ (v'.ownBlock = v.ownBlock ∨ ∃ g, v'.ownBlock = some g ∧ w.heap.size ≤ g) := by
  have hs : (size : Int) = 1 ∨ (size : Int) = 2 ∨ (size : Int) = 4 ∨ (size : Int) = 8 := by have := hfit.2; omega
  have hs8 : size ≤ 8 := by omega
  have HF : Hid (fit n size) := hfit
  have HS : Hid ((size : Int) = 1 ∨ (size : Int) = 2 ∨ (size : Int) = 4 ∨ (size : Int) = 8) := hs
  clear hfit hs
  go_enter Try.func39, Try.ntmps39
  go_wp2_with (first | (go_at_call 48; refine (isSize_yes _ HS.out _).mono ?_; rintro e w' ⟨rfl, rfl⟩) | (go_at_call 49; refine (fits_yes _ _ HF.out _).mono ?_; rintro e w' ⟨rfl, rfl⟩) | (go_at_call 38; refine (number_any n size hs8 base wb v l _ h hb hroom).mono ?_; rintro e w' ⟨rfl, hq⟩))
  go_ret
  exact ⟨rfl, hq⟩

/-- A slice that was made is nobody else's. -/
structure Made (w w' : World) (v : Value) (l : List Nat) : Prop where
  own : Mine w' w.heap.size v l
  fr : Fr (fun _ => False) w w'

theorem Fr.ofGrown {w w' : World} (h : w.grownBy w' none) : Fr (fun _ => False) w w' := ⟨h.os, h.tape, h.output, h.size, fun k hk _ => h.block k hk (by simp)⟩

set_option maxRecDepth 100000 in
set_option maxHeartbeats 400000 in
theorem bytes_any (base wb : Nat) (v : Value) (l : List Nat) (hl : octs l) (hs : l.length ≤ 140737488355328) (w : World) (h : Wr w base wb v l) :
    Calls Try.prog 29 #[.pointer (some ⟨wb, 0, none⟩)] w fun e w' => ∃ v', e = .returned v' ∧ Made w w' v' l := by
  obtain ⟨i0, hi, hz0, hz1, hz2⟩ := info_parts info8
  obtain ⟨a, c, rfl, hr⟩ := h.own.row hl hs
  have hcell := cell_of_one h.box
  go_enter Try.func29, Try.ntmps29
  go_wp2_with (at_builtin; refine wpList_append_row _ rfl _ _ 23 69 5 rfl i0 Try.underlying23 Try.underlying69 hi hz0 hz1 hz2 w.heap.size (.slice none 0 0) [] rfl (World.ownsRow_nil _ _ _ _) a l.length c l rfl rfl hr (by simpa using hs) (Nat.le_refl _) ?_; intro a' c' w1 hown hgrow hat)
  go_ret
  exact ⟨_, rfl, by simpa using hown, Fr.ofGrown hgrow⟩

/-- A reader at block rb: what is left is l. -/
structure Rd (w : World) (rb : Nat) (a : Option Addr) (cap : Nat) (l : List Nat) (err : Int) : Prop where
  box : w.heap[rb]? = some (.cells #[.slice a l.length cap, .int .i64 err] 91 (0, 0))
  row : Row w a cap l
  far : ∀ b off sp, a = some ⟨b, off, sp⟩ → b ≠ rb

theorem Row.same {w w' : World} {a : Option Addr} {cap : Nat} {l : List Nat} (h : Row w a cap l) (f : Fr (fun _ => False) w w') : Row w' a cap l := by
  refine ⟨h.le, h.max, h.small, h.byte, ?_⟩
  rcases h.at_ with h0 | ⟨b, off, rfl, hb, hc⟩
  · exact .inl h0
  · exact .inr ⟨b, off, rfl, Nat.lt_of_lt_of_le hb f.size, fun i hi => (f.cell hb (fun x => x)).trans (hc i hi)⟩
theorem Wr.fr {S : Nat → Prop} {w w' : World} {base wb : Nat} {v : Value} {l : List Nat} (h : Wr w base wb v l) (f : Fr S w w') (h1 : ¬ S wb) (h2 : ∀ k, v.ownBlock = some k → ¬ S k) : Wr w' base wb v l :=
  ⟨by rw [f.block wb (lt_of_block h.box) h1]; exact h.box, h.low, h.own.fr f h2⟩
/-- What was grown by a row that is new to 'a' leaves all of 'a'. -/
theorem Fr.fresh {a w w' : World} {row : Option Nat} (h : Fr (fun _ => False) a w) (hg : w.grownBy w' row) (hr : ∀ k, row = some k → a.heap.size ≤ k) : Fr (fun _ => False) a w' :=
  h.grown hg (fun k e hk => by have := hr k e; omega)
theorem Fr.false_trans {a b c : World} (h : Fr (fun _ => False) a b) (k : Fr (fun _ => False) b c) : Fr (fun _ => False) a c := h.trans k (fun _ _ f => f)
theorem Row.fr {S : Nat → Prop} {w w' : World} {a : Option Addr} {cap : Nat} {l : List Nat} (h : Row w a cap l) (f : Fr S w w') (hn : ∀ b off sp, a = some ⟨b, off, sp⟩ → ¬ S b) : Row w' a cap l := by
  refine ⟨h.le, h.max, h.small, h.byte, ?_⟩
  rcases h.at_ with h0 | ⟨b, off, rfl, hb, hc⟩
  · exact .inl h0
  · exact .inr ⟨b, off, rfl, Nat.lt_of_lt_of_le hb f.size, fun i hi => (f.cell hb (hn _ _ _ rfl)).trans (hc i hi)⟩

set_option maxRecDepth 100000 in
set_option maxHeartbeats 400000 in
theorem of_any (a : Option Addr) (n cap : Nat) (l : List Nat) (hn : n = l.length) (w : World) (hr : Row w a cap l) :
    Calls Try.prog 41 #[.slice a n cap] w fun e w' => ∃ rb a' c', e = .returned (.pointer (some ⟨rb, 0, none⟩)) ∧ Rd w' rb a' c' l 0 ∧ Fr (fun _ => False) w w' ∧ w.heap.size ≤ rb ∧ (∀ b off sp, a' = some ⟨b, off, sp⟩ → w.heap.size ≤ b) := by
  obtain ⟨i0, hi, hz0, hz1, hz2⟩ := info_parts info8
  have hs := hr.small
  go_enter Try.func41, Try.ntmps41
  go_wp2_with (at_builtin; refine wpList_append_rowW _ rfl _ _ 23 23 5 rfl i0 Try.underlying23 Try.underlying23 hi hz0 hz1 hz2 w.heap.size (.slice none 0 0) [] rfl (World.ownsRow_nil _ _ _ _) a n cap l hn rfl hr (by simpa using hs) (Nat.le_refl _) ?_; intro a' c' w1 hown hgrow)
  go_ret
  have hm : Mine w1 w.heap.size (.slice a' l.length c') l := by simpa using hown
  obtain ⟨a2, c2, he, hrow⟩ := hm.rowW hr.byte hs
  simp only [Value.slice.injEq, true_and] at he
  obtain ⟨rfl, rfl⟩ := he
  have hge : ∀ b off sp, a' = some ⟨b, off, sp⟩ → w.heap.size ≤ b ∧ b < w1.heap.size := fun b off sp e => hm.lt b (by rw [e]; rfl)
  refine ⟨w1.heap.size, a', c', rfl, ⟨heap_alloc_new w1 _, hrow.fr ((Fr.refl (fun _ => False) w1).alloc _) (fun _ _ _ _ f => f), fun b off sp e => ?_⟩, (Fr.ofGrown hgrow).alloc _, hgrow.size, fun b off sp e => (hge b off sp e).1⟩
  have := (hge b off sp e).2
  omega
end Go.Proofs.Ytcmkpmilnplhmaa
