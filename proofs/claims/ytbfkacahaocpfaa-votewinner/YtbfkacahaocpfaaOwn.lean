
/- What (*list).number does: a writer's bytes in memory, and a number behind them. -/
import Derived.Test.YtbfkacahaocpfaaBase
namespace Go.Proofs.Ytbfkacahaocpfaa
open Go.RowKit
attribute [local go_sem ↓] Go.wp_at_zero Go.wp_at_succ

/-- A writer at block wb: its list is v, which holds l. -/
structure Wr (w : World) (base wb : Nat) (v : Value) (l : List Nat) : Prop where
  box : w.heap[wb]? = some (.cells #[v] 96 (0, 0))
  low : wb < base
  own : Mine w base v l
/-- The blocks that a writer may write. -/
def wrS (wb : Nat) (v : Value) : Nat → Prop := fun k => k = wb ∨ v.ownBlock = some k

/-- The bytes of a number, the lowest first. -/
def le : Nat → Nat → List Nat
  | 0, _ => []
  | k + 1, n => le k n ++ [n / 256 ^ k % 256]
theorem le_length (k n : Nat) : (le k n).length = k := by
  induction k with
  | zero => rfl
  | succ k ih => simp [le, ih]

/-- One round of 'number': what the append and the store make of the writer. -/
theorem Wr.push {w w1 w2 : World} {base wb : Nat} {v v' : Value} {l : List Nat} {x : Nat} (h : Wr w base wb v l) (hg : w1.grownBy w2 v.ownBlock) (h1 : Fr (fun _ => False) w w1)
    (hown : w2.ownsRow base 5 1 v' (l.length + 1) (cellsOf l ++ [.int .u8 (x : Int)])) :
    Wr (w2.setCell ⟨wb, 0, none⟩ v') base wb v' (l ++ [x]) := by
  have hlt := lt_of_block h.box
  have hne : some wb ≠ v.ownBlock := fun e => by have := (h.own.lt wb e.symm).1; have := h.low; omega
  have hb : w2.heap[wb]? = some (.cells #[v] 96 (0, 0)) := by
    rw [hg.block wb (Nat.lt_of_lt_of_le hlt h1.size) hne, h1.block wb hlt (fun f => f)]; exact h.box
  refine ⟨one_setCell hb, h.low, ?_⟩
  have : w2.ownsRow base 5 1 v' (l ++ [x]).length (cellsOf (l ++ [x])) := by
    rw [cellsOf_append, cellsOf_one]; simpa using hown
  exact ownsRow_setCell_below this h.low v'

theorem byte_of (n k : Nat) : IntKind.u8.wrap ((n : Int) / 2 ^ (8 * (k : Int)).toNat) = ((n / 256 ^ k % 256 : Nat) : Int) := by
  have e : (8 * (k : Int)).toNat = 8 * k := by omega
  rw [e, IntKind.wrap_u8']
  have e2 : (2 : Int) ^ (8 * k) = ((256 ^ k : Nat) : Int) := by rw [show (256 : Nat) = 2 ^ 8 from rfl, ← Nat.pow_mul]; simp
  rw [e2, Int.natCast_emod, Int.natCast_ediv]; rfl
theorem number_fr {w wr w1 : World} {wb : Nat} {v vk v' : Value} {o : Obj} (hf : Fr (wrS wb v) w wr) (hv : vk.ownBlock = v.ownBlock ∨ ∃ g, vk.ownBlock = some g ∧ w.heap.size ≤ g)
    (hg : ((wr.alloc o).drew).grownBy w1 vk.ownBlock) : Fr (wrS wb v) w (w1.setCell ⟨wb, 0, none⟩ v') :=
  ((hf.alloc o).drew.grown hg (fun k e hk => by
    rcases hv with h | ⟨g, h, hge⟩
    · exact .inr (by rw [← h]; exact e)
    · rw [h] at e; simp at e; omega)).setCell (fun _ => .inl rfl) v'
theorem number_own {w wr : World} {v vk : Value} {n cap gg : Nat} (hv : vk.ownBlock = v.ownBlock ∨ ∃ g, vk.ownBlock = some g ∧ w.heap.size ≤ g) (hat : vk.ownBlock = some gg ∨ gg = wr.heap.size + 1) (hs : w.heap.size ≤ wr.heap.size) :
    (Value.slice (some ⟨gg, 0, none⟩) n cap).ownBlock = v.ownBlock ∨ ∃ g, (Value.slice (some ⟨gg, 0, none⟩) n cap).ownBlock = some g ∧ w.heap.size ≤ g := by
  rcases hat with h | h
  · rcases hv with h2 | ⟨g, h2, hge⟩
    · exact .inl (by rw [← h2, h]; rfl)
    · exact .inr ⟨gg, rfl, by rw [h2] at h; simp at h; omega⟩
  · exact .inr ⟨gg, rfl, by omega⟩

set_option maxRecDepth 100000 in
set_option maxHeartbeats 1000000 in
theorem number_any (n size : Nat) (hsz : size ≤ 8) (base wb : Nat) (v : Value) (l : List Nat) (w : World) (h : Wr w base wb v l) (hb : base ≤ w.heap.size) (hroom : l.length + 8 ≤ 140737488355328) :
    Calls Try.prog 45 #[.pointer (some ⟨wb, 0, none⟩), .int .i64 n, .int .i64 size] w fun e w' => e = .returned (.tuple #[]) ∧
      ∃ v', Wr w' base wb v' (l ++ le size n) ∧ Fr (wrS wb v) w w' ∧ (v'.ownBlock = v.ownBlock ∨ ∃ g, v'.ownBlock = some g ∧ w.heap.size ≤ g) := by
  obtain ⟨i0, hi, hz0, hz1, hz2⟩ := info_parts info8
  go_enter Try.func45, Try.ntmps45
  go_wp2
  go_loopw [8] (fun i wr => ∃ (k : Nat) (vk : Value), k ≤ size ∧ i = .int .i64 k ∧ Wr wr base wb vk (l ++ le k n) ∧ Fr (wrS wb v) w wr ∧ (vk.ownBlock = v.ownBlock ∨ ∃ g, vk.ownBlock = some g ∧ w.heap.size ≤ g))
    (fun i _ => size - (intOf i).toNat)
  case atStart => exact ⟨0, v, by omega, rfl, by simpa [le] using h, Fr.refl _ _, .inl rfl⟩
  case round =>
    obtain ⟨k, vk, hk, rfl, hw, hf, hv⟩ := hrel
    by_cases hlt : k < size
    · have hcell := cell_of_one hw.box
      have hfree := free_of_one hw.box
      have hi0 : (0 : Int) ≤ 8 * (k : Int) := by omega
      have hi1 : 8 * (k : Int) ≤ 64 := by omega
      have hwr : IntKind.i64.wrap (8 * (k : Int)) = 8 * (k : Int) := by simp [IntKind.wrap, IntKind.bits, IntKind.signed]; omega
      go_wp2
      have hsz1 := lt_of_block hw.box
      have hne : vk.ownBlock ≠ some wb := fun e => by have := (hw.own.lt wb e).1; have := hw.low; omega
      have hlen : (l ++ le k n).length = l.length + k := by simp [le_length]
      have hfs := hf.size
      obtain ⟨x, hx⟩ : ∃ x : Nat, x = n / 256 ^ k % 256 := ⟨_, rfl⟩
      have hxr : IntKind.u8.wrap ((n : Int) / 2 ^ (8 * (k : Int)).toNat) = ((x : Nat) : Int) := by rw [hx]; exact byte_of n k
      have HL : Hid (l ++ le (k + 1) n = (l ++ le k n) ++ [x]) := by rw [hx]; simp [le, Hid]
      clear hx
      have hc2 := (World.cell?_of_block (a := ⟨wb, 0, none⟩) (Below.heap_alloc wr (.cells #[.int .u8 (x : Int)] 5) wb hsz1)).trans hcell
      have hf2 := (World.frozen?_of_block (a := ⟨wb, 0, none⟩) (Below.heap_alloc wr (.cells #[.int .u8 (x : Int)] 5) wb hsz1)).trans hfree
      go_region_law
        ((refine step_append_lies _ (by rfl) _ _ _ (by rfl) base 5 i0 _ 1 1 Try.underlying94 hi hz0 hz1 hz2 rfl (by omega) vk _ _ (by rfl) ((hw.own.alloc _).drew)
            ⟨wr.heap.size, 0, none⟩ 1 1 [.int .u8 (x : Int)] (by rfl) (by rfl) (World.news_of_block (cs := #[.int .u8 (x : Int)]) (t := 5) (fr := (0, 0)) (heap_alloc_new wr _)) (by simp [Value.oneCell'])
            (by omega) (by unfold maxLen; omega) (by omega) (by simp; omega) (wr.heap.size + 1) (by simp) ?_; intro gg cap w1 hown1 hgrow hat hlt1; have hc3 := (hgrow.cell_far ⟨wb, 0, none⟩ (by simp; omega) (Ne.symm hne)).trans hc2; have hf3 := (hgrow.frozen_far ⟨wb, 0, none⟩ (by simp; omega) (Ne.symm hne)).trans hf2))
      all_goals
        go_wp2
        go_roundw
        case rel =>
          refine ⟨k + 1, .slice (some ⟨gg, 0, none⟩) (l.length + k + 1) cap, by omega, by go_num, ?_, ?_, ?_⟩
          · rw [HL.out]
            have hp := hw.push hgrow (((Fr.refl _ _).alloc _).drew) hown1
            rw [hlen] at hp
            exact hp
          · exact number_fr hf hv hgrow
          · exact number_own hv hat hfs
        case measure => simp [intOf]; omega
    · have : k = size := by omega
      subst this
      go_wp2
      go_end0
      exact ⟨rfl, vk, hw, hf, hv⟩
end Go.Proofs.Ytbfkacahaocpfaa
