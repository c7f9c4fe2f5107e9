
/- Sums, Own, Wire. -/
import Derived.Test.YtnckmajfmkkpgaaGreatBB5
import Derived.Test.YtnckmajfmkkpgaaGreatBB1
/- What crc.Sum and crc.More tell, and what the document's own Sum and More tell: the same. -/
namespace Go.Proofs.YtnckmajfmkkpgaaGreat
open Go.RowKit Crcm

theorem crc_zero (l : List Nat) : reg (0 ^^^ 4294967295) l ^^^ 4294967295 = crc l := by rw [Nat.zero_xor]; rfl

set_option maxRecDepth 100000 in
set_option maxHeartbeats 400000 in
theorem sum_any (a : Option Addr) (n cap : Nat) (l : List Nat) (hn : n = l.length) (w : World) (hr : Row w a cap l) :
    Calls Tryz.prog 118 #[.slice a n cap] w fun e w' => e = .returned (.int .i64 ((crc l : Nat) : Int)) ∧ w' = w := by
  subst hn
  have hb := crc_lt hr.byte
  go_enter Tryz.func118, Tryz.ntmps118
  go_wp2_with fail
  refine (goOn_any 0 (by omega) a cap l _ hr).mono ?_
  rintro e w' ⟨rfl, rfl⟩
  rw [crc_zero]
  go_wp2
  go_ret
  exact ⟨rfl, rfl⟩

theorem ser_lt {y x j : Nat} (hy : y < 4294967296) (hx : x < 256) : steps j y ^^^ x / 2 ^ j < 4294967296 :=
  xor32_lt (steps_lt j hy) (Nat.lt_of_le_of_lt (Nat.div_le_self _ _) (by omega))
theorem more_bit (y x j : Nat) (hy : y < 4294967296) (hx : x < 256) : bits BinOp.and IntKind.u32 (bits BinOp.xor IntKind.u32 ((steps j y ^^^ x / 2 ^ j : Nat) : Int) ((x : Int) / 2 ^ j)) 1 = ((steps j y % 2 : Nat) : Int) := by
  have hd : x / 2 ^ j < 4294967296 := Nat.lt_of_le_of_lt (Nat.div_le_self _ _) (by omega)
  have e : ((x : Int) / 2 ^ j) = ((x / 2 ^ j : Nat) : Int) := by simp
  rw [e, u32_xor_nat _ _ (ser_lt hy hx) hd, and1_u32 _ (xor32_lt (ser_lt hy hx) hd), Nat.xor_assoc, Nat.xor_self, Nat.xor_zero]
theorem more_hit (r x j : Nat) (hy : r ^^^ x < 4294967296) (hx : x < 256) (h : (bits BinOp.and IntKind.u32 (bits BinOp.xor IntKind.u32 ((steps j (r ^^^ x) ^^^ x / 2 ^ j : Nat) : Int) ((x : Int) / 2 ^ j)) 1 == 1) = true) :
    bits BinOp.xor IntKind.u32 (((steps j (r ^^^ x) ^^^ x / 2 ^ j : Nat) : Int) / 2) 3988292384 = ((steps (j + 1) (r ^^^ x) ^^^ x / 2 ^ (j + 1) : Nat) : Int) := by
  rw [more_bit _ x j hy hx] at h
  have h1 : steps j (r ^^^ x) % 2 = 1 := by simp at h; omega
  have hb := ser_lt (j := j) hy hx
  have e : ((steps j (r ^^^ x) ^^^ x / 2 ^ j : Nat) : Int) / 2 = (((steps j (r ^^^ x) ^^^ x / 2 ^ j) / 2 : Nat) : Int) := by omega
  rw [e, xorp_u32 _ (by omega), ← serial r x j, if_pos h1]
theorem more_miss (r x j : Nat) (hy : r ^^^ x < 4294967296) (hx : x < 256) (h : (bits BinOp.and IntKind.u32 (bits BinOp.xor IntKind.u32 ((steps j (r ^^^ x) ^^^ x / 2 ^ j : Nat) : Int) ((x : Int) / 2 ^ j)) 1 == 1) = false) :
    ((steps j (r ^^^ x) ^^^ x / 2 ^ j : Nat) : Int) / 2 = ((steps (j + 1) (r ^^^ x) ^^^ x / 2 ^ (j + 1) : Nat) : Int) := by
  rw [more_bit _ x j hy hx] at h
  have h1 : ¬ steps j (r ^^^ x) % 2 = 1 := by
    intro e; rw [e] at h; simp at h
  rw [← serial r x j, if_neg h1, Nat.xor_zero]; omega

end Go.Proofs.YtnckmajfmkkpgaaGreat

/- What (*list).number does: a writer's bytes in memory, and a number behind them. -/
namespace Go.Proofs.YtnckmajfmkkpgaaGreat
open Go.RowKit
attribute [local go_sem ↓] Go.wp_at_zero Go.wp_at_succ

/-- The blocks that a writer may write. -/
def wrS (wb : Nat) (v : Value) : Nat → Prop := fun k => k = wb ∨ v.ownBlock = some k

/-- The bytes of a number, the lowest first. -/
def le : Nat → Nat → List Nat
  | 0, _ => []
  | k + 1, n => le k n ++ [n / 256 ^ k % 256]
theorem le_length (k n : Nat) : (le k n).length = k := by
  induction k with
  | zero => rfl
  | succ k ih => simp [le, ih]

theorem byte_of (n k : Nat) : IntKind.u8.wrap ((n : Int) / 2 ^ (8 * (k : Int)).toNat) = ((n / 256 ^ k % 256 : Nat) : Int) := by
  have e : (8 * (k : Int)).toNat = 8 * k := by omega
  rw [e, IntKind.wrap_u8']
  have e2 : (2 : Int) ^ (8 * k) = ((256 ^ k : Nat) : Int) := by rw [show (256 : Nat) = 2 ^ 8 from rfl, ← Nat.pow_mul]; simp
  rw [e2, Int.natCast_emod, Int.natCast_ediv]; rfl
theorem number_fr {w wr w1 : World} {wb : Nat} {v vk v' : Value} {o : Obj} (hf : Fr (wrS wb v) w wr) (hv : vk.ownBlock = v.ownBlock ∨ ∃ g, vk.ownBlock = some g ∧ w.heap.size ≤ g)
    (hg : ((wr.alloc o).drew).grownBy w1 vk.ownBlock) : Fr (wrS wb v) w (w1.setCell ⟨wb, 0, none⟩ v') :=
  ((hf.alloc o).drew.grown hg (fun k e hk => by
    rcases hv with h | ⟨g, h, hge⟩
    · exact .inr (by rw [← h]; exact e)
    · rw [h] at e; simp at e; omega)).setCell (fun _ => .inl rfl) v'
theorem number_own {w wr : World} {v vk : Value} {n cap gg : Nat} (hv : vk.ownBlock = v.ownBlock ∨ ∃ g, vk.ownBlock = some g ∧ w.heap.size ≤ g) (hat : vk.ownBlock = some gg ∨ gg = wr.heap.size + 1) (hs : w.heap.size ≤ wr.heap.size) :
    (Value.slice (some ⟨gg, 0, none⟩) n cap).ownBlock = v.ownBlock ∨ ∃ g, (Value.slice (some ⟨gg, 0, none⟩) n cap).ownBlock = some g ∧ w.heap.size ≤ g := by
  rcases hat with h | h
  · rcases hv with h2 | ⟨g, h2, hge⟩
    · exact .inl (by rw [← h2, h]; rfl)
    · exact .inr ⟨gg, rfl, by rw [h2] at h; simp at h; omega⟩
  · exact .inr ⟨gg, rfl, by omega⟩

end Go.Proofs.YtnckmajfmkkpgaaGreat

/- What package wire's small functions do: isSize, fits, New, (*Writer).Num, (*Writer).Bytes, Of. -/
namespace Go.Proofs.YtnckmajfmkkpgaaGreat
open Go.RowKit

def sized (s : Int) : Bool := s == 1 || s == 2 || s == 4 || s == 8
set_option maxRecDepth 100000 in
set_option maxHeartbeats 400000 in
theorem isSize_yes (s : Int) (h : s = 1 ∨ s = 2 ∨ s = 4 ∨ s = 8) (w : World) : Calls Tryz.prog 125 #[.int .i64 s] w fun e w' => e = .returned (.bool true) ∧ w' = w := by
  rcases h with rfl | rfl | rfl | rfl <;>
    (go_enter Tryz.func125, Tryz.ntmps125; go_wp2; go_ret; exact ⟨rfl, rfl⟩)
set_option maxRecDepth 100000 in
set_option maxHeartbeats 400000 in
theorem isSize_no (s : Int) (h1 : ¬ s = 1) (h2 : ¬ s = 2) (h4 : ¬ s = 4) (h8 : ¬ s = 8) (w : World) : Calls Tryz.prog 125 #[.int .i64 s] w fun e w' => e = .returned (.bool false) ∧ w' = w := by
  have g1 : (s == 1) = false := by simpa using h1
  have g2 : (s == 2) = false := by simpa using h2
  have g4 : (s == 4) = false := by simpa using h4
  have g8 : (s == 8) = false := by simpa using h8
  clear h1 h2 h4 h8
  go_enter Tryz.func125, Tryz.ntmps125; go_wp2; go_ret; exact ⟨rfl, rfl⟩

/-- A number of so many bytes. -/
def fit (n size : Int) : Prop := 0 ≤ n ∧ (size = 1 ∧ n < 256 ∨ size = 2 ∧ n < 65536 ∨ size = 4 ∧ n < 4294967296 ∨ size = 8)
/-- A slice that was made is nobody else's. -/
structure Made (w w' : World) (v : Value) (l : List Nat) : Prop where
  own : Mine w' w.heap.size v l
  fr : Fr (fun _ => False) w w'

theorem Fr.ofGrown {w w' : World} (h : w.grownBy w' none) : Fr (fun _ => False) w w' := ⟨h.os, h.tape, h.output, h.size, fun k hk _ => h.block k hk (by simp)⟩

/-- A reader at block rb: what is left is l. -/
structure Rd (w : World) (rb : Nat) (a : Option Addr) (cap : Nat) (l : List Nat) (err : Int) : Prop where
  box : w.heap[rb]? = some (.cells #[.slice a l.length cap, .int .i64 err] 161 (0, 0))
  row : Row w a cap l
  far : ∀ b off sp, a = some ⟨b, off, sp⟩ → b ≠ rb

theorem Row.same {w w' : World} {a : Option Addr} {cap : Nat} {l : List Nat} (h : Row w a cap l) (f : Fr (fun _ => False) w w') : Row w' a cap l := by
  refine ⟨h.le, h.max, h.small, h.byte, ?_⟩
  rcases h.at_ with h0 | ⟨b, off, rfl, hb, hc⟩
  · exact .inl h0
  · exact .inr ⟨b, off, rfl, Nat.lt_of_lt_of_le hb f.size, fun i hi => (f.cell hb (fun x => x)).trans (hc i hi)⟩
/-- What was grown by a row that is new to 'a' leaves all of 'a'. -/
theorem Fr.fresh {a w w' : World} {row : Option Nat} (h : Fr (fun _ => False) a w) (hg : w.grownBy w' row) (hr : ∀ k, row = some k → a.heap.size ≤ k) : Fr (fun _ => False) a w' :=
  h.grown hg (fun k e hk => by have := hr k e; omega)
theorem Fr.false_trans {a b c : World} (h : Fr (fun _ => False) a b) (k : Fr (fun _ => False) b c) : Fr (fun _ => False) a c := h.trans k (fun _ _ f => f)
theorem Row.fr {S : Nat → Prop} {w w' : World} {a : Option Addr} {cap : Nat} {l : List Nat} (h : Row w a cap l) (f : Fr S w w') (hn : ∀ b off sp, a = some ⟨b, off, sp⟩ → ¬ S b) : Row w' a cap l := by
  refine ⟨h.le, h.max, h.small, h.byte, ?_⟩
  rcases h.at_ with h0 | ⟨b, off, rfl, hb, hc⟩
  · exact .inl h0
  · exact .inr ⟨b, off, rfl, Nat.lt_of_lt_of_le hb f.size, fun i hi => (f.cell hb (hn _ _ _ rfl)).trans (hc i hi)⟩

set_option maxRecDepth 100000 in
set_option maxHeartbeats 400000 in
theorem of_any (a : Option Addr) (n cap : Nat) (l : List Nat) (hn : n = l.length) (w : World) (hr : Row w a cap l) :
    Calls Tryz.prog 104 #[.slice a n cap] w fun e w' => ∃ rb a' c', e = .returned (.pointer (some ⟨rb, 0, none⟩)) ∧ Rd w' rb a' c' l 0 ∧ Fr (fun _ => False) w w' ∧ w.heap.size ≤ rb ∧ (∀ b off sp, a' = some ⟨b, off, sp⟩ → w.heap.size ≤ b) := by
  obtain ⟨i0, hi, hz0, hz1, hz2⟩ := info_parts info8
  have hs := hr.small
  go_enter Tryz.func104, Tryz.ntmps104
  go_wp2_with (at_builtin; refine wpList_append_row _ rfl _ _ 124 124 5 rfl i0 Tryz.underlying124 Tryz.underlying124 hi hz0 hz1 hz2 w.heap.size (.slice none 0 0) [] rfl (World.ownsRow_nil _ _ _ _) a n cap l hn rfl hr (by simpa using hs) (Nat.le_refl _) ?_; intro a' c' w1 hown hgrow hat)
  go_ret
  have hm : Mine w1 w.heap.size (.slice a' l.length c') l := by simpa using hown
  obtain ⟨a2, c2, he, hrow⟩ := hm.row hr.byte hs
  simp only [Value.slice.injEq, true_and] at he
  obtain ⟨rfl, rfl⟩ := he
  have hge : ∀ b off sp, a' = some ⟨b, off, sp⟩ → w.heap.size ≤ b ∧ b < w1.heap.size := fun b off sp e => hm.lt b (by rw [e]; rfl)
  refine ⟨w1.heap.size, a', c', rfl, ⟨heap_alloc_new w1 _, hrow.fr ((Fr.refl (fun _ => False) w1).alloc _) (fun _ _ _ _ f => f), fun b off sp e => ?_⟩, (Fr.ofGrown hgrow).alloc _, hgrow.size, fun b off sp e => (hge b off sp e).1⟩
  have := (hge b off sp e).2
  omega
end Go.Proofs.YtnckmajfmkkpgaaGreat
