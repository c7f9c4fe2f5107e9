
/- PgPlain, NdList, NdShelf, NdIns, NdBx. -/
import Derived.Test.YtaaedmacefiinaaZN8
import Derived.Test.YtaaedmacefiinaaProg
import Derived.Shelf.Spec.SlicesInsertGrow
import Derived.Shelf.Spec.SlicesInsert
import Derived.Shelf.Slices.Delete
/- That the plain comparison of two nodes that are the same is true. -/
namespace Go.Proofs.Ytaaedmacefiinaa
open Go.RowKit

set_option maxRecDepth 100000 in
set_option maxHeartbeats 1000000 in
theorem texts_same (a1 a2 : Option Addr) (n1 n2 c1 c2 : Nat) (l : List ByteArray) (h1 : n1 = l.length) (h2 : n2 = l.length) (w : World) (r1 : Strs w a1 c1 l) (r2 : Strs w a2 c2 l) :
    Calls Try.prog 53 #[.slice a1 n1 c1, .slice a2 n2 c2] w fun e w' => e = .returned (.bool true) ∧ Fr (fun _ => False) w w' := by
  subst h1
  have e2 : l.length = n2 := h2.symm
  subst e2
  have l1 := r1.le
  have m1 := r1.max
  have l2 := r2.le
  have m2 := r2.max
  go_enter Try.func53, Try.ntmps53
  go_wp2
  go_loopw [13] (fun i wr => ∃ k : Nat, k ≤ l.length ∧ i = .int .i64 k ∧ Fr (fun _ => False) w wr) (fun i _ => l.length - (intOf i).toNat)
  case atStart => exact ⟨0, by omega, rfl, Fr.refl _ _⟩
  case round =>
    obtain ⟨k, hk, rfl, hf⟩ := hrel
    by_cases hlt : k < l.length
    · obtain ⟨b1, o1, e1, hb1, hc1⟩ := strs_some (r1.same hf) hlt
      obtain ⟨b2, o2, e2, hb2, hc2⟩ := strs_some (r2.same hf) hlt
      have k1 := hc1 k hlt
      have k2 := hc2 k hlt
      obtain ⟨s, hs⟩ : ∃ s, s = l.getD k ByteArray.empty := ⟨_, rfl⟩
      rw [← hs] at k1 k2
      clear hs hc1 hc2
      subst e1 e2
      have i1 : (k : Int) < (l.length : Int) := by omega
      have hbe : (s.toList == s.toList) = true := by simp
      go_wp2
      go_quiet (fail)
      go_wp2
      go_roundw
      case rel => exact ⟨k + 1, by omega, by go_num, hf.drewN _⟩
      case measure => simp [intOf]; omega
    · go_wp2
      go_ret
      exact ⟨rfl, hf⟩
set_option maxRecDepth 100000 in
set_option maxHeartbeats 1000000 in
theorem ints_same (a1 a2 : Option Addr) (n1 n2 c1 c2 : Nat) (l : List Int) (h1 : n1 = l.length) (h2 : n2 = l.length) (w : World) (r1 : Ints w a1 c1 l) (r2 : Ints w a2 c2 l) :
    Calls Try.prog 54 #[.slice a1 n1 c1, .slice a2 n2 c2] w fun e w' => e = .returned (.bool true) ∧ Fr (fun _ => False) w w' := by
  subst h1
  have e2 : l.length = n2 := h2.symm
  subst e2
  have l1 := r1.le
  have m1 := r1.max
  have l2 := r2.le
  have m2 := r2.max
  go_enter Try.func54, Try.ntmps54
  go_wp2
  go_loopw [13] (fun i wr => ∃ k : Nat, k ≤ l.length ∧ i = .int .i64 k ∧ Fr (fun _ => False) w wr) (fun i _ => l.length - (intOf i).toNat)
  case atStart => exact ⟨0, by omega, rfl, Fr.refl _ _⟩
  case round =>
    obtain ⟨k, hk, rfl, hf⟩ := hrel
    by_cases hlt : k < l.length
    · obtain ⟨b1, o1, e1, hb1, hc1⟩ := ints_some (r1.same hf) hlt
      obtain ⟨b2, o2, e2, hb2, hc2⟩ := ints_some (r2.same hf) hlt
      have k1 := hc1 k hlt
      have k2 := hc2 k hlt
      obtain ⟨s, hs⟩ : ∃ s, s = l.getD k 0 := ⟨_, rfl⟩
      rw [← hs] at k1 k2
      clear hs hc1 hc2
      subst e1 e2
      have i1 : (k : Int) < (l.length : Int) := by omega
      go_wp2
      go_quiet (fail)
      go_wp2
      go_roundw
      case rel => exact ⟨k + 1, by omega, by go_num, hf.drewN _⟩
      case measure => simp [intOf]; omega
    · go_wp2
      go_ret
      exact ⟨rfl, hf⟩

set_option maxRecDepth 100000 in
set_option maxHeartbeats 1000000 in
theorem plain_same (n : Nd) (p q : Pt) (w : World) (h1 : Nod w n p) (h2 : Nod w n q) :
    Calls Try.prog 17 #[(.agg #[.int .i64 n.lev, .int .i64 n.lsn, .int .i64 n.rgt, .string n.high, .slice p.k n.keys.length p.kc, .slice p.v n.vals.length p.vc, .slice p.i n.kids.length p.ic]), (.agg #[.int .i64 n.lev, .int .i64 n.lsn, .int .i64 n.rgt, .string n.high, .slice q.k n.keys.length q.kc, .slice q.v n.vals.length q.vc, .slice q.i n.kids.length q.ic])] w fun e w' => e = .returned (.bool true) ∧ Fr (fun _ => False) w w' := by
  have f0 := (Fr.box w (.cells #[.int .i64 n.lev, .int .i64 n.lsn, .int .i64 n.rgt, .string n.high, .slice p.k n.keys.length p.kc, .slice p.v n.vals.length p.vc, .slice p.i n.kids.length p.ic] 25)).alloc (.cells #[.int .i64 n.lev, .int .i64 n.lsn, .int .i64 n.rgt, .string n.high, .slice q.k n.keys.length q.kc, .slice q.v n.vals.length q.vc, .slice q.i n.kids.length q.ic] 25)
  have hbe : (n.high.toList == n.high.toList) = true := by simp
  have hba : ∀ W, Fr (fun _ => False) ((w.alloc (.cells #[.int .i64 n.lev, .int .i64 n.lsn, .int .i64 n.rgt, .string n.high, .slice p.k n.keys.length p.kc, .slice p.v n.vals.length p.vc, .slice p.i n.kids.length p.ic] 25)).alloc (.cells #[.int .i64 n.lev, .int .i64 n.lsn, .int .i64 n.rgt, .string n.high, .slice q.k n.keys.length q.kc, .slice q.v n.vals.length q.vc, .slice q.i n.kids.length q.ic] 25)) W → W.heap[w.heap.size]? = some (.cells #[.int .i64 n.lev, .int .i64 n.lsn, .int .i64 n.rgt, .string n.high, .slice p.k n.keys.length p.kc, .slice p.v n.vals.length p.vc, .slice p.i n.kids.length p.ic] 25 (0, 0)) ∧ W.heap[w.heap.size + 1]? = some (.cells #[.int .i64 n.lev, .int .i64 n.lsn, .int .i64 n.rgt, .string n.high, .slice q.k n.keys.length q.kc, .slice q.v n.vals.length q.vc, .slice q.i n.kids.length q.ic] 25 (0, 0)) := fun W f => by
    refine ⟨box_at w n p 25 (((Fr.refl _ _).alloc _).seq' f), ?_⟩
    have := box_at (w.alloc (.cells #[.int .i64 n.lev, .int .i64 n.lsn, .int .i64 n.rgt, .string n.high, .slice p.k n.keys.length p.kc, .slice p.v n.vals.length p.vc, .slice p.i n.kids.length p.ic] 25)) n q 25 f
    simpa using this
  have HB := hba
  have HBB : Hid (∀ W, Fr (fun _ => False) ((w.alloc (.cells #[.int .i64 n.lev, .int .i64 n.lsn, .int .i64 n.rgt, .string n.high, .slice p.k n.keys.length p.kc, .slice p.v n.vals.length p.vc, .slice p.i n.kids.length p.ic] 25)).alloc (.cells #[.int .i64 n.lev, .int .i64 n.lsn, .int .i64 n.rgt, .string n.high, .slice q.k n.keys.length q.kc, .slice q.v n.vals.length q.vc, .slice q.i n.kids.length q.ic] 25)) W → W.heap[w.heap.size]? = some (.cells #[.int .i64 n.lev, .int .i64 n.lsn, .int .i64 n.rgt, .string n.high, .slice p.k n.keys.length p.kc, .slice p.v n.vals.length p.vc, .slice p.i n.kids.length p.ic] 25 (0, 0)) ∧ W.heap[w.heap.size + 1]? = some (.cells #[.int .i64 n.lev, .int .i64 n.lsn, .int .i64 n.rgt, .string n.high, .slice q.k n.keys.length q.kc, .slice q.v n.vals.length q.vc, .slice q.i n.kids.length q.ic] 25 (0, 0))) := hba
  clear hba HB
  go_enter Try.func17, Try.ntmps17
  go_wp2_with fail
  refine (texts_same _ _ _ _ _ _ n.keys rfl rfl _ (h1.same f0).keys (h2.same f0).keys).mono ?_
  rintro e w1 ⟨rfl, f1⟩
  obtain ⟨b1, b2⟩ := HBB.out w1 f1
  obtain ⟨c0, c1, c2, c3, c4, c5, c6⟩ := box_cells b1
  obtain ⟨d0, d1, d2, d3, d4, d5, d6⟩ := box_cells b2
  go_wp2_with fail
  refine (texts_same _ _ _ _ _ _ n.vals rfl rfl _ (h1.same (f0.seq' f1)).vals (h2.same (f0.seq' f1)).vals).mono ?_
  rintro e w2 ⟨rfl, f2⟩
  clear c0 c1 c2 c3 c4 c5 c6 d0 d1 d2 d3 d4 d5 d6 b1 b2
  obtain ⟨b1, b2⟩ := HBB.out w2 (f1.seq' f2)
  obtain ⟨c0, c1, c2, c3, c4, c5, c6⟩ := box_cells b1
  obtain ⟨d0, d1, d2, d3, d4, d5, d6⟩ := box_cells b2
  go_wp2_with fail
  refine (ints_same _ _ _ _ _ _ n.kids rfl rfl _ (h1.same ((f0.seq' f1).seq' f2)).kids (h2.same ((f0.seq' f1).seq' f2)).kids).mono ?_
  rintro e w3 ⟨rfl, f3⟩
  go_wp2
  go_ret
  exact ⟨rfl, ((f0.seq' f1).seq' f2).seq' f3⟩
end Go.Proofs.Ytaaedmacefiinaa
/- Lists with an entry more or one less, step by step. -/
namespace Go.Proofs.Ytaaedmacefiinaa
open Go.RowKit

section
variable {α : Type}
/-- The first j of a list without its i-th, if b. -/
def erTo (b : Bool) (i j : Nat) (l : List α) : List α := if b = true ∧ i < j then (l.take j).eraseIdx i else l.take j
theorem erTo_zero (b : Bool) (i : Nat) (l : List α) : erTo b i 0 l = [] := by unfold erTo; rw [if_neg (by omega)]; rfl
theorem take_getD (l : List α) (j : Nat) (d : α) (hj : j < l.length) : l.take (j + 1) = l.take j ++ [l.getD j d] := by
  rw [List.take_succ_eq_append_getElem hj, List.getD_eq_getElem?_getD, List.getElem?_eq_getElem hj]; rfl
theorem erTo_hit (l : List α) (i : Nat) (h : i < l.length) : erTo true i (i + 1) l = erTo true i i l := by
  unfold erTo
  rw [if_pos ⟨rfl, by omega⟩, if_neg (by omega), List.take_succ_eq_append_getElem h, List.eraseIdx_append_of_length_le (by simp; omega)]
  simp [Nat.min_eq_left (Nat.le_of_lt h)]
theorem erTo_miss (b : Bool) (i j : Nat) (l : List α) (d : α) (hj : j < l.length) (h : ¬ (b = true ∧ i = j)) : erTo b i (j + 1) l = erTo b i j l ++ [l.getD j d] := by
  unfold erTo
  by_cases h1 : b = true ∧ i < j
  · rw [if_pos ⟨h1.1, by omega⟩, if_pos h1, take_getD l j d hj, List.eraseIdx_append_of_lt_length (by simp; omega)]
  · have h2 : ¬ (b = true ∧ i < j + 1) := fun e => by
      rcases Nat.lt_or_ge i j with h3 | h3
      · exact h1 ⟨e.1, h3⟩
      · exact h ⟨e.1, by omega⟩
    rw [if_neg h2, if_neg h1, take_getD l j d hj]
theorem erTo_len (b : Bool) (i j : Nat) (l : List α) : (erTo b i j l).length ≤ j := by
  unfold erTo
  split
  · have := List.length_eraseIdx_le (l.take j) i
    have h2 : (l.take j).length ≤ j := by simp; omega
    omega
  · simp; omega
theorem erTo_mem (b : Bool) (i j : Nat) (l : List α) (s : α) (h : s ∈ erTo b i j l) : s ∈ l := by
  unfold erTo at h
  split at h
  · exact List.mem_of_mem_take (List.mem_of_mem_eraseIdx h)
  · exact List.mem_of_mem_take h
/-- The first j of a list, with x ahead of its i-th, or, if f, in its place. -/
def insTo (f : Bool) (i : Nat) (x : α) (j : Nat) (l : List α) : List α := if i < j then l.take i ++ x :: (l.take j).drop (i + (if f = true then 1 else 0)) else l.take j
def insAll (f : Bool) (i : Nat) (x : α) (l : List α) : List α := l.take i ++ x :: l.drop (i + (if f = true then 1 else 0))
theorem insTo_zero (f : Bool) (i : Nat) (x : α) (l : List α) : insTo f i x 0 l = [] := by unfold insTo; rw [if_neg (by omega)]; rfl
theorem insTo_before (f : Bool) (i j : Nat) (x : α) (l : List α) (d : α) (hj : j < l.length) (h : j < i) : insTo f i x (j + 1) l = insTo f i x j l ++ [l.getD j d] := by
  unfold insTo; rw [if_neg (by omega), if_neg (by omega), take_getD l j d hj]
theorem insTo_at (i : Nat) (x : α) (l : List α) (hj : i < l.length) : insTo true i x (i + 1) l = insTo true i x i l ++ [x] := by
  unfold insTo; rw [if_pos (show i < i + 1 by omega), if_neg (show ¬ i < i by omega), if_pos rfl, List.drop_eq_nil_of_le (by simp; omega)]
theorem insTo_at2 (i : Nat) (x : α) (l : List α) (d : α) (hj : i < l.length) : insTo false i x (i + 1) l = (insTo false i x i l ++ [x]) ++ [l.getD i d] := by
  unfold insTo; rw [if_pos (show i < i + 1 by omega), if_neg (show ¬ i < i by omega), if_neg (by simp), take_getD l i d hj]
  simp [Nat.min_eq_left (Nat.le_of_lt hj)]
theorem insTo_behind (f : Bool) (i j : Nat) (x : α) (l : List α) (d : α) (hj : j < l.length) (h : i < j) : insTo f i x (j + 1) l = insTo f i x j l ++ [l.getD j d] := by
  unfold insTo; rw [if_pos (by omega), if_pos h, take_getD l j d hj, List.drop_append_of_le_length (by simp; split <;> omega)]
  simp
theorem insTo_all (f : Bool) (i : Nat) (x : α) (l : List α) (h : i < l.length) : insTo f i x l.length l = insAll f i x l := by
  unfold insTo insAll; rw [if_pos h, List.take_length]
theorem insTo_end (f : Bool) (x : α) (l : List α) : insTo f l.length x l.length l ++ [x] = insAll f l.length x l := by
  unfold insTo insAll; rw [if_neg (by omega), List.drop_eq_nil_of_le (by omega), List.take_length]
theorem insTo_len (f : Bool) (i : Nat) (x : α) (j : Nat) (l : List α) : (insTo f i x j l).length ≤ j + 1 := by
  unfold insTo
  split
  · simp; omega
  · simp; omega
theorem insTo_mem (f : Bool) (i : Nat) (x : α) (j : Nat) (l : List α) (s : α) (h : s ∈ insTo f i x j l) : s = x ∨ s ∈ l := by
  unfold insTo at h
  split at h
  · rcases List.mem_append.1 h with h | h
    · exact .inr (List.mem_of_mem_take h)
    · rcases List.mem_cons.1 h with h | h
      · exact .inl h
      · exact .inr (List.mem_of_mem_take (List.mem_of_mem_drop h))
  · exact .inr (List.mem_of_mem_take h)
theorem insAll_mem (f : Bool) (i : Nat) (x : α) (l : List α) (s : α) (h : s ∈ insAll f i x l) : s = x ∨ s ∈ l := by
  unfold insAll at h
  rcases List.mem_append.1 h with h | h
  · exact .inr (List.mem_of_mem_take h)
  · rcases List.mem_cons.1 h with h | h
    · exact .inl h
    · exact .inr (List.mem_of_mem_drop h)
theorem insAll_set (i : Nat) (x : α) (l : List α) (h : i < l.length) : insAll true i x l = l.set i x := by
  unfold insAll; rw [if_pos rfl, List.set_eq_take_append_cons_drop, if_pos h]
end
end Go.Proofs.Ytaaedmacefiinaa
/- The library texts slices.Insert and slices.Delete, as the shelf knows them, in this program. -/
namespace Go.Proofs.Ytaaedmacefiinaa
open Go.Shelf Go.RowKit

def renS : Ren := ⟨fun k => if k = 17 then 125 else if k = 22 then 65 else if k = 29 then 102 else if k = 30 then 103 else if k = 36 then 121 else 0, fun k => if k = 0 then 0 else if k = 3 then 3 else if k = 4 then 4 else if k = 9 then 9 else if k = 22 then 23 else if k = 24 then 22 else 0, fun g => g⟩
theorem laysS : Lays2.n22 Try.prog renS := {
  mixed := by kernel_rfl
  f17 := Try.func125.trans (congrArg some (by kernel_rfl))
  f22 := Try.func65.trans (congrArg some (by kernel_rfl))
  f29 := Try.func102.trans (congrArg some (by kernel_rfl))
  f30 := Try.func103.trans (congrArg some (by kernel_rfl))
  f36 := Try.func121.trans (congrArg some (by kernel_rfl))
  t0 := Try.underlying0
  a0 := Try.isAgg0
  z0 := Try.sizeOf0
  v0 := Try.zeroValue0
  t3 := Try.underlying3
  a3 := Try.isAgg3
  z3 := Try.sizeOf3
  v3 := Try.zeroValue3
  t4 := Try.underlying4
  a4 := Try.isAgg4
  z4 := Try.sizeOf4
  v4 := Try.zeroValue4
  t9 := Try.underlying9
  a9 := Try.isAgg9
  z9 := Try.sizeOf9
  v9 := Try.zeroValue9
  t24 := Try.underlying22
  a24 := Try.isAgg22
  z24 := Try.sizeOf22
  v24 := Try.zeroValue22
  i9 := by kernel_rfl }
def renD : Ren := ⟨fun k => if k = 24 then 68 else 0, fun k => if k = 0 then 0 else if k = 3 then 3 else if k = 4 then 4 else if k = 9 then 9 else if k = 22 then 23 else if k = 24 then 22 else 0, fun g => g⟩
theorem laysD : Lays2.n24 Try.prog renD := {
  mixed := by kernel_rfl
  f24 := Try.func68.trans (congrArg some (by kernel_rfl))
  t0 := Try.underlying0
  a0 := Try.isAgg0
  z0 := Try.sizeOf0
  v0 := Try.zeroValue0
  t3 := Try.underlying3
  a3 := Try.isAgg3
  z3 := Try.sizeOf3
  v3 := Try.zeroValue3
  t4 := Try.underlying4
  a4 := Try.isAgg4
  z4 := Try.sizeOf4
  v4 := Try.zeroValue4
  t9 := Try.underlying9
  a9 := Try.isAgg9
  z9 := Try.sizeOf9
  v9 := Try.zeroValue9
  t24 := Try.underlying22
  a24 := Try.isAgg22
  z24 := Try.sizeOf22
  v24 := Try.zeroValue22
  i9 := by kernel_rfl }
def renI : Ren := ⟨fun k => if k = 21 then 70 else if k = 27 then 104 else if k = 28 then 105 else if k = 35 then 122 else if k = 39 then 126 else 0, fun k => if k = 0 then 0 else if k = 3 then 3 else if k = 4 then 4 else if k = 9 then 9 else if k = 22 then 23 else if k = 24 then 22 else 0, fun g => g⟩
theorem laysI : Lays2.n21 Try.prog renI := {
  mixed := by kernel_rfl
  f21 := Try.func70.trans (congrArg some (by kernel_rfl))
  f27 := Try.func104.trans (congrArg some (by kernel_rfl))
  f28 := Try.func105.trans (congrArg some (by kernel_rfl))
  f35 := Try.func122.trans (congrArg some (by kernel_rfl))
  f39 := Try.func126.trans (congrArg some (by kernel_rfl))
  t0 := Try.underlying0
  a0 := Try.isAgg0
  z0 := Try.sizeOf0
  v0 := Try.zeroValue0
  t3 := Try.underlying3
  a3 := Try.isAgg3
  z3 := Try.sizeOf3
  v3 := Try.zeroValue3
  t4 := Try.underlying4
  a4 := Try.isAgg4
  z4 := Try.sizeOf4
  v4 := Try.zeroValue4
  t22 := Try.underlying23
  a22 := Try.isAgg23
  z22 := Try.sizeOf23
  v22 := Try.zeroValue23
  i3 := by kernel_rfl }
end Go.Proofs.Ytaaedmacefiinaa
/- What slices.Insert and slices.Delete make of lists that are the call's own. -/
namespace Go.Proofs.Ytaaedmacefiinaa
open Go.Shelf Go.RowKit Go.Lib

/-- The list with one entry more. -/
def InsOut (w : World) (v : Value) (n : Nat) (xs : List Value) (e : Ending) (w' : World) : Prop :=
  ∃ a' c', e = .returned (.slice a' n c') ∧ Has w' 1 (.slice a' n c') n xs ∧ Fr (fun k => v.ownBlock = some k) w w' ∧ ((Value.slice a' n c').ownBlock = v.ownBlock ∨ ∃ g, (Value.slice a' n c').ownBlock = some g ∧ w.heap.size ≤ g)
theorem range_new {w : World} {b : Nat} {x : Value} {t : TypeId} (h : w.heap[b]? = some (.cells #[x] t (0, 0))) : ∀ j v, [x][j]? = some v → w.cell? ⟨b, 0 + j, none⟩ = some v := fun j v hv => by
  have : w.rangeAt b 0 [x] := range_block h (fun j v hv => by rw [Nat.zero_add]; simpa using hv)
  exact this j v hv
theorem shape_of {w : World} {b : Nat} (h : w.there b 0 1) : ∃ t k, w.shape? b = some (t, k) ∧ k ≠ 0 := by
  have h1 := (h 0 (by omega)).1
  unfold World.shape?
  unfold World.cell? at h1
  split at h1
  · rename_i c t f hb
    simp only [hb]
    refine ⟨t, c.size, rfl, fun e => ?_⟩
    simp [Array.eq_empty_of_size_eq_zero e] at h1
  · simp at h1
theorem Fr.own {w W : World} {g n cap : Nat} (f : Fr (fun k => k = g) w W) : Fr (fun k => (Value.slice (some ⟨g, 0, none⟩) n cap).ownBlock = some k) w W := f.mono (fun i _ e => by rw [e]; rfl)
theorem cut_range {w : World} {b o : Nat} {xs : List Value} (h : w.rangeAt b o xs) (k : Nat) : w.rangeAt b o (xs.take k) := fun j v hv => h j v (by
  rw [List.getElem?_take] at hv; split at hv
  · exact hv
  · cases hv)
/-- In place, with room. -/
theorem has_shift {w : World} {g n cap i : Nat} {cs : List Value} (x : Value) (h : Has w 1 (.slice (some ⟨g, 0, none⟩) n cap) n cs) (hroom : n + 1 ≤ cap) (hi : i ≤ n) :
    Has ((w.drew.setCells g (0 + (i + 1)) (cs.drop i)).setCells g (0 + i) [x]) 1 (.slice (some ⟨g, 0, none⟩) (n + 1) cap) (n + 1) (cs.take i ++ x :: cs.drop i) := by
  have hl : cs.length = n := by simpa using h.1
  rcases h.2 with ⟨h2, _⟩ | ⟨g', cap', hv, hg, h1, h2, h3, h4⟩
  · cases h2
  · simp only [Value.slice.injEq, Option.some.injEq, Addr.mk.injEq, and_true, true_and] at hv
    obtain ⟨rfl, rfl⟩ := hv
    rw [Nat.mul_one] at h3
    have h3d : w.drew.there g 0 cap := (World.there_drew _ _ _ _).2 h3
    have h4d : w.drew.rangeAt g 0 cs := h4
    have sub : ∀ {W : World} (o m : Nat), W.there g 0 cap → o + m ≤ cap → W.there g o m := fun o m hh hm j hj => by have := hh (o + j) (by omega); simpa using this
    have t1 : (w.drew.setCells g (0 + (i + 1)) (cs.drop i)).there g 0 cap := World.there_setCells h3d _ _ _
    have a1 : (w.drew.setCells g (0 + (i + 1)) (cs.drop i)).rangeAt g 0 (cs.take i) := World.rangeAt_setCells_apart (cut_range h4d i) g _ _ (.inr (.inl (by simp; omega)))
    have b1 : (w.drew.setCells g (0 + (i + 1)) (cs.drop i)).rangeAt g (0 + (i + 1)) (cs.drop i) := World.rangeAt_setCells_same _ _ _ _ (sub _ _ h3d (by simp; omega))
    have f1 : Fr (fun _ => True) w ((w.drew.setCells g (0 + (i + 1)) (cs.drop i)).setCells g (0 + i) [x]) := Fr.setCells (fun _ => trivial) _ _ (Fr.setCells (fun _ => trivial) _ _ ((Fr.refl _ w).drew))
    generalize w.drew.setCells g (0 + (i + 1)) (cs.drop i) = W1 at t1 a1 b1 f1 ⊢
    have a2 : (W1.setCells g (0 + i) [x]).rangeAt g 0 (cs.take i) := World.rangeAt_setCells_apart a1 g _ _ (.inr (.inl (by simp; omega)))
    have x2 : (W1.setCells g (0 + i) [x]).rangeAt g (0 + i) [x] := World.rangeAt_setCells_same _ _ _ _ (sub _ _ t1 (by simp; omega))
    have b2 : (W1.setCells g (0 + i) [x]).rangeAt g (0 + (i + 1)) (cs.drop i) := World.rangeAt_setCells_apart b1 g _ _ (.inr (.inr (by simp)))
    have hlt : (cs.take i).length = i := by simp; omega
    refine ⟨by simp; omega, .inr ⟨g, cap, rfl, Nat.lt_of_lt_of_le hg f1.size, hroom, h2, by rw [Nat.mul_one]; exact World.there_setCells t1 _ _ _, ?_⟩⟩
    refine range_join a2 ?_
    rw [hlt]
    exact range_join (xs := [x]) x2 (by rw [Nat.add_assoc]; exact b2)
theorem has_room {w : World} {g n cap : Nat} {cs : List Value} (x : Value) (h : Has w 1 (.slice (some ⟨g, 0, none⟩) n cap) n cs) (hroom : n + 1 ≤ cap) :
    Has (w.setCells g (0 + n) [x]) 1 (.slice (some ⟨g, 0, none⟩) (n + 1) cap) (n + 1) (cs ++ [x]) := by
  have hl : cs.length = n := by simpa using h.1
  rcases h.2 with ⟨h2, _⟩ | ⟨g', cap', hv, hg, h1, h2, h3, h4⟩
  · cases h2
  · simp only [Value.slice.injEq, Option.some.injEq, Addr.mk.injEq, and_true, true_and] at hv
    obtain ⟨rfl, rfl⟩ := hv
    rw [Nat.mul_one] at h3
    have f1 : Fr (fun _ => True) w (w.setCells g (0 + n) [x]) := Fr.setCells (fun _ => trivial) _ _ (Fr.refl _ w)
    refine ⟨by simp; omega, .inr ⟨g, cap, rfl, Nat.lt_of_lt_of_le hg f1.size, hroom, h2, by rw [Nat.mul_one]; exact World.there_setCells h3 _ _ _, ?_⟩⟩
    refine range_join (World.rangeAt_setCells_apart h4 g _ _ (.inr (.inl (by omega)))) ?_
    rw [hl]
    exact World.rangeAt_setCells_same _ _ _ _ (fun j hj => by have := h3 (n + j) (by simp at hj; omega); simpa using this)
theorem has_end (w : World) (n old : Nat) (e : TypeId) (z : Value) (hz : z.cells.size = 1) (cs : List Value) (x : Value) (hl : cs.length = n) (hn : n + 1 ≤ maxLen) :
    Has (w.drew.alloc (.cells ((cs ++ [x]).toArray ++ Builtin.zeroCells z.cells (grownCap w (n + 1) old e - (n + 1))) e)) 1 (.slice (some ⟨w.heap.size, 0, none⟩) (n + 1) (grownCap w (n + 1) old e)) (n + 1) (cs ++ [x]) := by
  have hge := grownCap_ge w (n + 1) old e
  have hcm : grownCap w (n + 1) old e ≤ maxLen := grownCap_le_maxLen w (n + 1) old e hn
  have hb := heap_alloc_new w.drew (.cells ((cs ++ [x]).toArray ++ Builtin.zeroCells z.cells (grownCap w (n + 1) old e - (n + 1))) e)
  refine ⟨by simp; omega, .inr ⟨w.heap.size, _, rfl, by simp, hge, hcm, there_block hb ?_, range_block hb ?_⟩⟩
  · simp only [Array.size_append, List.size_toArray, List.length_append, List.length_singleton, size_zeroCells, hz]; omega
  · intro j u hu
    have hj : j < (cs ++ [x]).length := (List.getElem?_eq_some_iff.1 hu).1
    rw [Nat.zero_add, Array.getElem?_append_left (by simpa using hj)]
    simpa using hu
theorem has_grow (w : World) (n old i : Nat) (e : TypeId) (z : Value) (hz : z.cells.size = 1) (cs : List Value) (x : Value) (hl : cs.length = n) (hi : i < n) (hn : n + 1 ≤ maxLen) :
    Has ((((w.alloc (.cells ((cs.take i).toArray ++ Builtin.zeroCells z.cells (n + 1 - i) ++ Builtin.zeroCells z.cells (grownCap w (n + 1) old e - (n + 1))) e)).drew.setCells w.heap.size i [x]).drew).setCells w.heap.size (i + 1) (cs.drop i)) 1 (.slice (some ⟨w.heap.size, 0, none⟩) (n + 1) (grownCap w (n + 1) old e)) (n + 1) (cs.take i ++ x :: cs.drop i) := by
  have hge := grownCap_ge w (n + 1) old e
  have hcm : grownCap w (n + 1) old e ≤ maxLen := grownCap_le_maxLen w (n + 1) old e hn
  have hb := heap_alloc_new w (.cells ((cs.take i).toArray ++ Builtin.zeroCells z.cells (n + 1 - i) ++ Builtin.zeroCells z.cells (grownCap w (n + 1) old e - (n + 1))) e)
  have hlt : (cs.take i).length = i := by simp; omega
  have t0 : (w.alloc (.cells ((cs.take i).toArray ++ Builtin.zeroCells z.cells (n + 1 - i) ++ Builtin.zeroCells z.cells (grownCap w (n + 1) old e - (n + 1))) e)).drew.there w.heap.size 0 (grownCap w (n + 1) old e) := by
    refine (World.there_drew _ _ _ _).2 (there_block hb ?_)
    simp only [Array.size_append, List.size_toArray, hlt, size_zeroCells, hz]; omega
  have r0 : (w.alloc (.cells ((cs.take i).toArray ++ Builtin.zeroCells z.cells (n + 1 - i) ++ Builtin.zeroCells z.cells (grownCap w (n + 1) old e - (n + 1))) e)).drew.rangeAt w.heap.size 0 (cs.take i) := by
    refine range_block (w := (w.alloc _).drew) (by exact hb) (fun j u hu => ?_)
    have hj : j < (cs.take i).length := (List.getElem?_eq_some_iff.1 hu).1
    rw [Nat.zero_add, Array.getElem?_append_left (by simp only [Array.size_append, List.size_toArray, hlt, size_zeroCells, hz]; omega), Array.getElem?_append_left (by simpa using hj)]
    simpa using hu
  have sz0 : w.heap.size < (w.alloc (.cells ((cs.take i).toArray ++ Builtin.zeroCells z.cells (n + 1 - i) ++ Builtin.zeroCells z.cells (grownCap w (n + 1) old e - (n + 1))) e)).drew.heap.size := by simp
  generalize (w.alloc (.cells ((cs.take i).toArray ++ Builtin.zeroCells z.cells (n + 1 - i) ++ Builtin.zeroCells z.cells (grownCap w (n + 1) old e - (n + 1))) e)).drew = W0 at t0 r0 sz0 ⊢
  generalize w.heap.size = g at t0 r0 sz0 ⊢
  generalize grownCap w (n + 1) old e = cap at *
  have sub : ∀ {W : World} (o m : Nat), W.there g 0 cap → o + m ≤ cap → W.there g o m := fun o m hh hm j hj => by have := hh (o + j) (by omega); simpa using this
  have t1 : (W0.setCells g i [x]).drew.there g 0 cap := (World.there_drew _ _ _ _).2 (World.there_setCells t0 _ _ _)
  have a1 : (W0.setCells g i [x]).drew.rangeAt g 0 (cs.take i) := World.rangeAt_setCells_apart r0 g _ _ (.inr (.inl (by omega)))
  have x1 : (W0.setCells g i [x]).drew.rangeAt g i [x] := World.rangeAt_setCells_same W0 _ _ _ (sub _ _ t0 (by simp; omega))
  have f1 : Fr (fun _ => True) W0 ((W0.setCells g i [x]).drew.setCells g (i + 1) (cs.drop i)) := Fr.setCells (fun _ => trivial) _ _ (Fr.setCells (fun _ => trivial) _ _ (Fr.refl _ W0)).drew
  generalize (W0.setCells g i [x]).drew = W1 at t1 a1 x1 f1 ⊢
  have a2 : (W1.setCells g (i + 1) (cs.drop i)).rangeAt g 0 (cs.take i) := World.rangeAt_setCells_apart a1 g _ _ (.inr (.inl (by omega)))
  have x2 : (W1.setCells g (i + 1) (cs.drop i)).rangeAt g i [x] := World.rangeAt_setCells_apart x1 g _ _ (.inr (.inl (by simp)))
  have b2 : (W1.setCells g (i + 1) (cs.drop i)).rangeAt g (i + 1) (cs.drop i) := World.rangeAt_setCells_same _ _ _ _ (sub _ _ t1 (by simp; omega))
  refine ⟨by simp; omega, .inr ⟨g, cap, rfl, Nat.lt_of_lt_of_le sz0 f1.size, hge, hcm, by rw [Nat.mul_one]; exact World.there_setCells t1 _ _ _, ?_⟩⟩
  refine range_join a2 ?_
  rw [hlt, Nat.zero_add]
  exact range_join (xs := [x]) x2 (by simpa using b2)

theorem insert_s (v : Value) (n : Nat) (cs : List Value) (h1 : ∀ u ∈ cs, u.oneCell' = true) (i vb : Nat) (x : Value) (hx1 : x.oneCell' = true) (t : TypeId) (w : World) (h : Has w 1 v n cs) (hv : w.heap[vb]? = some (.cells #[x] t (0, 0))) (hne : v.ownBlock ≠ some vb) (hi : i ≤ n) (hs : n ≤ 100000) :
    Calls Try.prog 65 #[v, .int .i64 i, .slice (some ⟨vb, 0, none⟩) 1 1] w fun e w' => InsOut w v (n + 1) (cs.take i ++ x :: cs.drop i) e w' := by
  have hl : cs.length = n := by simpa using h.1
  have hz : (.string ⟨#[]⟩ : Value).cells.size = 1 := rfl
  have hvx := range_new hv
  have hx : ∀ u ∈ [x], u.oneCell' = true := fun u hu => by rw [List.mem_singleton.1 hu]; exact hx1
  have hbig : (n + 1) * 16 ≤ 140737488355328 := by omega
  have hmx : n + 1 ≤ maxLen := by unfold maxLen; omega
  rcases h.2 with ⟨rfl, h0⟩ | ⟨g, cap, rfl, hg, hnc, hcm, hth, hra⟩
  · have hi0 : i = 0 := by omega
    have hc0 : cs = [] := List.eq_nil_of_length_eq_zero (by omega)
    subst h0; subst hi0; subst hc0
    refine (Any2.slices_Insert_string_end_grow laysS none 0 0 vb 0 1 1 [] [x] w (by omega) (by omega) (by omega) (by omega) rfl rfl (fun _ => rfl) (fun a ha => by cases ha) hvx hx).mono ?_
    rintro e w' ⟨rfl, rfl⟩
    exact ⟨_, _, rfl, has_end w 0 0 _ _ hz [] x rfl hmx, ((Fr.refl _ w).drew).alloc _, .inr ⟨_, rfl, Nat.le_refl _⟩⟩
  · have hcm' : cap ≤ 9223372036854775807 := by unfold maxLen at hcm; omega
    rw [Nat.mul_one] at hth
    by_cases hroom : n + 1 ≤ cap
    · have hgv : vb ≠ g := fun e => hne (by rw [e]; rfl)
      rcases Nat.lt_or_eq_of_le hi with hlt | heq
      · obtain ⟨tB, kB, hsb, hkB⟩ := shape_of (w := w) (b := g) (fun j hj => hth j (by omega))
        have hsa : w.shape? vb = some (t, 1) := by unfold World.shape?; rw [hv]; rfl
        refine (Any2.slices_Insert_string_shift laysS g 0 n cap i vb 0 1 1 cs [x] w hlt (by omega) hroom hcm' hgv hl rfl hra (fun j hj => (hth j (by omega)).1) (fun j hj => (hth j (by omega)).2) hvx h1 hx t tB 1 kB hsa hsb hkB (by simp [World.frozen?, hv]) (by simp [World.frozen?, hv])).mono ?_
        rintro e w' ⟨rfl, rfl⟩
        exact ⟨_, _, rfl, has_shift x h hroom hi, Fr.own (Fr.setCells (S := fun k => k = g) (fun _ => rfl) _ _ (Fr.setCells (S := fun k => k = g) (fun _ => rfl) _ _ ((Fr.refl _ w).drew))), .inl rfl⟩
      · subst heq
        refine (Any2.slices_Insert_string_end_room laysS g 0 i cap vb 0 1 1 [x] w (by omega) hroom hcm' rfl (fun j hj => by have := (hth (i + j) (by omega)).1; simpa using this) (fun j hj => by have := (hth (i + j) (by omega)).2; simpa using this) hvx hx).mono ?_
        rintro e w' ⟨rfl, rfl⟩
        refine ⟨_, _, rfl, ?_, Fr.own (Fr.setCells (S := fun k => k = g) (fun _ => rfl) _ _ (Fr.refl _ w)), .inl rfl⟩
        have := has_room x h hroom
        rw [List.take_of_length_le (by omega), List.drop_eq_nil_of_le (by omega)]
        exact this
    · rcases Nat.lt_or_eq_of_le hi with hlt | heq
      · refine (Any2.slices_Insert_string_grow laysS g 0 n cap i vb 0 1 1 cs [x] w hlt (by omega) hnc (by omega) hbig hl rfl hra hvx h1 hx).mono ?_
        rintro e w' ⟨rfl, rfl⟩
        exact ⟨_, _, rfl, has_grow w n cap i _ _ hz cs x hl hlt hmx, Fr.setCells (fun h => absurd h (by omega)) _ _ (Fr.setCells (fun h => absurd h (by omega)) _ _ ((Fr.refl _ w).alloc _).drew).drew, .inr ⟨_, rfl, Nat.le_refl _⟩⟩
      · subst heq
        refine (Any2.slices_Insert_string_end_grow laysS (some ⟨g, 0, none⟩) i cap vb 0 1 1 cs [x] w (by omega) hnc (by omega) hbig hl rfl (fun e => by cases e) (fun a ha j u hu => by cases ha; rw [Addr.add_lit]; exact hra j u hu) hvx hx).mono ?_
        rintro e w' ⟨rfl, rfl⟩
        refine ⟨_, _, rfl, ?_, ((Fr.refl _ w).drew).alloc _, .inr ⟨_, rfl, Nat.le_refl _⟩⟩
        rw [List.take_of_length_le (by omega), List.drop_eq_nil_of_le (by omega)]
        exact has_end w i cap _ _ hz cs x hl hmx

theorem insert_i (v : Value) (n : Nat) (cs : List Value) (h1 : ∀ u ∈ cs, u.oneCell' = true) (i vb : Nat) (x : Value) (hx1 : x.oneCell' = true) (t : TypeId) (w : World) (h : Has w 1 v n cs) (hv : w.heap[vb]? = some (.cells #[x] t (0, 0))) (hne : v.ownBlock ≠ some vb) (hi : i ≤ n) (hs : n ≤ 100000) :
    Calls Try.prog 70 #[v, .int .i64 i, .slice (some ⟨vb, 0, none⟩) 1 1] w fun e w' => InsOut w v (n + 1) (cs.take i ++ x :: cs.drop i) e w' := by
  have hl : cs.length = n := by simpa using h.1
  have hz : (.int .i64 0 : Value).cells.size = 1 := rfl
  have hvx := range_new hv
  have hx : ∀ u ∈ [x], u.oneCell' = true := fun u hu => by rw [List.mem_singleton.1 hu]; exact hx1
  have hbig : (n + 1) * 8 ≤ 140737488355328 := by omega
  have hmx : n + 1 ≤ maxLen := by unfold maxLen; omega
  rcases h.2 with ⟨rfl, h0⟩ | ⟨g, cap, rfl, hg, hnc, hcm, hth, hra⟩
  · have hi0 : i = 0 := by omega
    have hc0 : cs = [] := List.eq_nil_of_length_eq_zero (by omega)
    subst h0; subst hi0; subst hc0
    refine (Any2.slices_Insert_int_end_grow laysI none 0 0 vb 0 1 1 [] [x] w (by omega) (by omega) (by omega) (by omega) rfl rfl (fun _ => rfl) (fun a ha => by cases ha) hvx hx).mono ?_
    rintro e w' ⟨rfl, rfl⟩
    exact ⟨_, _, rfl, has_end w 0 0 _ _ hz [] x rfl hmx, ((Fr.refl _ w).drew).alloc _, .inr ⟨_, rfl, Nat.le_refl _⟩⟩
  · have hcm' : cap ≤ 9223372036854775807 := by unfold maxLen at hcm; omega
    rw [Nat.mul_one] at hth
    by_cases hroom : n + 1 ≤ cap
    · have hgv : vb ≠ g := fun e => hne (by rw [e]; rfl)
      rcases Nat.lt_or_eq_of_le hi with hlt | heq
      · obtain ⟨tB, kB, hsb, hkB⟩ := shape_of (w := w) (b := g) (fun j hj => hth j (by omega))
        have hsa : w.shape? vb = some (t, 1) := by unfold World.shape?; rw [hv]; rfl
        refine (Any2.slices_Insert_int_shift laysI g 0 n cap i vb 0 1 1 cs [x] w hlt (by omega) hroom hcm' hgv hl rfl hra (fun j hj => (hth j (by omega)).1) (fun j hj => (hth j (by omega)).2) hvx h1 hx t tB 1 kB hsa hsb hkB (by simp [World.frozen?, hv]) (by simp [World.frozen?, hv])).mono ?_
        rintro e w' ⟨rfl, rfl⟩
        exact ⟨_, _, rfl, has_shift x h hroom hi, Fr.own (Fr.setCells (S := fun k => k = g) (fun _ => rfl) _ _ (Fr.setCells (S := fun k => k = g) (fun _ => rfl) _ _ ((Fr.refl _ w).drew))), .inl rfl⟩
      · subst heq
        refine (Any2.slices_Insert_int_end_room laysI g 0 i cap vb 0 1 1 [x] w (by omega) hroom hcm' rfl (fun j hj => by have := (hth (i + j) (by omega)).1; simpa using this) (fun j hj => by have := (hth (i + j) (by omega)).2; simpa using this) hvx hx).mono ?_
        rintro e w' ⟨rfl, rfl⟩
        refine ⟨_, _, rfl, ?_, Fr.own (Fr.setCells (S := fun k => k = g) (fun _ => rfl) _ _ (Fr.refl _ w)), .inl rfl⟩
        have := has_room x h hroom
        rw [List.take_of_length_le (by omega), List.drop_eq_nil_of_le (by omega)]
        exact this
    · rcases Nat.lt_or_eq_of_le hi with hlt | heq
      · refine (Any2.slices_Insert_int_grow laysI g 0 n cap i vb 0 1 1 cs [x] w hlt (by omega) hnc (by omega) hbig hl rfl hra hvx h1 hx).mono ?_
        rintro e w' ⟨rfl, rfl⟩
        exact ⟨_, _, rfl, has_grow w n cap i _ _ hz cs x hl hlt hmx, Fr.setCells (fun h => absurd h (by omega)) _ _ (Fr.setCells (fun h => absurd h (by omega)) _ _ ((Fr.refl _ w).alloc _).drew).drew, .inr ⟨_, rfl, Nat.le_refl _⟩⟩
      · subst heq
        refine (Any2.slices_Insert_int_end_grow laysI (some ⟨g, 0, none⟩) i cap vb 0 1 1 cs [x] w (by omega) hnc (by omega) hbig hl rfl (fun e => by cases e) (fun a ha j u hu => by cases ha; rw [Addr.add_lit]; exact hra j u hu) hvx hx).mono ?_
        rintro e w' ⟨rfl, rfl⟩
        refine ⟨_, _, rfl, ?_, ((Fr.refl _ w).drew).alloc _, .inr ⟨_, rfl, Nat.le_refl _⟩⟩
        rw [List.take_of_length_le (by omega), List.drop_eq_nil_of_le (by omega)]
        exact has_end w i cap _ _ hz cs x hl hmx

theorem fr_putRow {α : Type} [Inhabited α] (enc : α → Value) (w : World) (q g off : Nat) (d : Array α) : Fr (fun k => k = g) w (Go.Sort.putRow enc (Go.Sort.ahead w q) g off d) :=
  ⟨rfl, rfl, rfl, by simp [Go.Sort.ahead], fun k hk hn => by
    simp only [Go.Sort.putRow, Go.Sort.mapBlock, Go.Sort.ahead, Array.getElem?_modify]
    rw [if_neg (fun e => hn e.symm)]⟩
theorem del_get (l : List ByteArray) (i j : Nat) (hi : i < l.length) (u : Value) (hu : (strCells (l.eraseIdx i))[j]? = some u) :
    Value.string ⟨(((l.map fun (s : ByteArray) => s.data.toList).take i ++ (l.map fun (s : ByteArray) => s.data.toList).drop (i + 1) ++ List.replicate (i + 1 - i) []).toArray[j]!).toArray⟩ = u := by
  have hle : (l.eraseIdx i).length = l.length - 1 := by rw [List.length_eraseIdx, if_pos hi]
  have hjl : j < l.length - 1 := by
    have := (List.getElem?_eq_some_iff.1 hu).1
    simpa [strCells, hle] using this
  rw [strCells, List.getElem?_map] at hu
  have e : (l.map fun (s : ByteArray) => s.data.toList).take i ++ (l.map fun (s : ByteArray) => s.data.toList).drop (i + 1) = (l.eraseIdx i).map fun (s : ByteArray) => s.data.toList := by
    rw [List.eraseIdx_eq_take_drop_succ]; simp
  rw [e]
  rw [List.getElem?_eq_getElem (by omega)] at hu
  simp only [Option.map_some, Option.some.injEq] at hu
  rw [← hu, getElem!_pos _ j (by simp; omega), List.getElem_toArray, List.getElem_append_left (by simp; omega), List.getElem_map]
/-- The list without one of its entries. -/
theorem delete_s (v : Value) (l : List ByteArray) (i : Nat) (w : World) (h : Has w 1 v l.length (strCells l)) (hi : i < l.length) :
    Calls Try.prog 68 #[v, .int .i64 i, .int .i64 (i + 1 : Nat)] w fun e w' => InsOut w v (l.length - 1) (strCells (l.eraseIdx i)) e w' := by
  rcases h.2 with ⟨_, h0⟩ | ⟨g, cap, rfl, hg, hnc, hcm, hth, hra⟩
  · omega
  · have hcm' : cap ≤ 9223372036854775807 := by unfold maxLen at hcm; omega
    rw [Nat.mul_one] at hth
    have hzl : (l.map fun (s : ByteArray) => s.data.toList).length = l.length := by simp
    have hH : Go.Sort.Holds Go.Proofs.encStr w g 0 (l.map fun (s : ByteArray) => s.data.toList).toArray := fun j hj => by
      have hj' : j < l.length := by simpa using hj
      refine ⟨?_, (hth j (by omega)).2⟩
      rw [hra j (.string l[j]) (by simp [strCells, hj'])]
      simp [hj']
    have hc := Any.slices_Delete_string laysD g 0 cap i (i + 1) (l.map fun (s : ByteArray) => s.data.toList) w hH (by rw [hzl]; exact hnc) hcm' (by omega) (by rw [hzl]; omega)
    rw [hzl] at hc
    refine hc.mono ?_
    rintro e w' ⟨rfl, q, rfl⟩
    have hH2 : Go.Sort.Holds Go.Proofs.encStr (Go.Sort.ahead w q) g 0 (l.map fun (s : ByteArray) => s.data.toList).toArray := hH
    have hsz : (((l.map fun (s : ByteArray) => s.data.toList).take i ++ (l.map fun (s : ByteArray) => s.data.toList).drop (i + 1) ++ List.replicate (i + 1 - i) []).toArray).size = (l.map fun (s : ByteArray) => s.data.toList).toArray.size := by simp; omega
    have hcell := fun j hj => Go.Sort.cell?_putRow Go.Proofs.encStr (Go.Sort.ahead w q) g 0 _ _ hH2 hsz j hj
    have hle : (l.eraseIdx i).length = l.length - 1 := by rw [List.length_eraseIdx, if_pos hi]
    have hsz2 : (((l.map fun (s : ByteArray) => s.data.toList).take i ++ (l.map fun (s : ByteArray) => s.data.toList).drop (i + 1) ++ List.replicate (i + 1 - i) []).toArray).size = l.length := by rw [hsz]; simp
    refine ⟨_, _, by rw [show i + 1 - i = 1 by omega], ⟨by simp [strCells, hle], .inr ⟨g, cap, rfl, by simpa [Go.Sort.ahead] using hg, by omega, hcm, ?_, ?_⟩⟩, Fr.own (fr_putRow _ w q g 0 _), .inl rfl⟩
    · rw [Nat.mul_one]
      intro j hj
      refine ⟨?_, ?_⟩
      · by_cases hjl : j < l.length
        · rw [hcell j (by rw [hsz2]; exact hjl)]; rfl
        · rw [Go.Sort.cell?_putRow_other _ _ _ _ _ _ (.inr (.inr (by rw [hsz2]; show 0 + l.length ≤ 0 + j; omega)))]
          exact (hth j hj).1
      · rw [Go.Sort.frozen?_putRow]
        exact (hth j hj).2
    · intro j u hu
      have hjl : j < l.length - 1 := by
        have := (List.getElem?_eq_some_iff.1 hu).1
        simpa [strCells, hle] using this
      have hj2 : j < (((l.map fun (s : ByteArray) => s.data.toList).take i ++ (l.map fun (s : ByteArray) => s.data.toList).drop (i + 1) ++ List.replicate (i + 1 - i) []).toArray).size := by rw [hsz2]; omega
      rw [hcell j hj2]
      exact congrArg some (del_get l i j hi u hu)
end Go.Proofs.Ytaaedmacefiinaa
/- A node that is built by appends, in a block of its own. -/
namespace Go.Proofs.Ytaaedmacefiinaa
open Go.RowKit

theorem wpList_append_run {P : Program} {ops : Array Oper} {rest : List Oper} {o : Oper} {ac : Act} {w w' : World} {Q : Exit → Act → World → Prop} (hgd : o.guard = none) (x y : Operand) (t tx : TypeId) (ho : o.op = .call { callee := .builtin .append, args := #[x, y], argTypes := #[t, tx] }) {v u v' : Value} (hx : ac.eval x = v) (hy : ac.eval y = u)
    (hrun : (Builtin.append_ #[t, tx] o.type #[v, u]).run P w = .ok v' w') (h : wpList P ops Q rest (ac.put o.dst v') w') : wpList P ops Q (o :: rest) ac w :=
  wpList_plain hgd fun _ hK => wp_append_run x y t tx ho hx hy hrun (hK _ _ h)

/-- A node under way at block nk; what was there at W0 is as it was. -/
structure Bx (W0 w : World) (nk : Nat) (n : Nd) (kv vv iv : Value) : Prop where
  box : w.heap[nk]? = some (.cells #[.int .i64 n.lev, .int .i64 n.lsn, .int .i64 n.rgt, .string n.high, kv, vv, iv] 25 (0, 0))
  new : W0.heap.size ≤ nk
  keys : Has w 1 kv n.keys.length (strCells n.keys)
  vals : Has w 1 vv n.vals.length (strCells n.vals)
  kids : Has w 1 iv n.kids.length (intCells n.kids)
  ok : ∀ g, kv.ownBlock = some g → nk < g
  ov : ∀ g, vv.ownBlock = some g → nk < g
  oi : ∀ g, iv.ownBlock = some g → nk < g
  nkv : ∀ g, kv.ownBlock = some g → vv.ownBlock ≠ some g
  nki : ∀ g, kv.ownBlock = some g → iv.ownBlock ≠ some g
  nvi : ∀ g, vv.ownBlock = some g → iv.ownBlock ≠ some g
  fr : Fr (fun _ => False) W0 w

section
variable {W0 w w' : World} {nk : Nat} {n : Nd} {kv vv iv : Value}
/-- What leaves everything leaves it. -/
theorem Bx.same (h : Bx W0 w nk n kv vv iv) (f : Fr (fun _ => False) w w') : Bx W0 w' nk n kv vv iv :=
  ⟨by rw [f.block nk (lt_of_block h.box) (fun f => f)]; exact h.box, h.new, h.keys.fr f (fun _ _ f => f), h.vals.fr f (fun _ _ f => f), h.kids.fr f (fun _ _ f => f), h.ok, h.ov, h.oi, h.nkv, h.nki, h.nvi, h.fr.seq' f⟩
/-- The beginning. -/
theorem Bx.start (w : World) (n : Nd) (hk : n.keys = []) (hv : n.vals = []) (hi : n.kids = []) : Bx w (w.alloc (.cells #[.int .i64 n.lev, .int .i64 n.lsn, .int .i64 n.rgt, .string n.high, .slice none 0 0, .slice none 0 0, .slice none 0 0] 25)) w.heap.size n (.slice none 0 0) (.slice none 0 0) (.slice none 0 0) :=
  ⟨heap_alloc_new w _, Nat.le_refl _, by rw [hk]; exact Has.nil _ _, by rw [hv]; exact Has.nil _ _, by rw [hi]; exact Has.nil _ _, (fun g e => by cases e), (fun g e => by cases e), (fun g e => by cases e), (fun g e => by cases e), (fun g e => by cases e), (fun g e => by cases e), (Fr.refl _ w).alloc _⟩
/-- Its right and its bound are stored. -/
theorem Bx.put (h : Bx W0 w nk n kv vv iv) (j : Nat) (x : Value) (m : Nd) (hk : m.keys = n.keys) (hv : m.vals = n.vals) (hi : m.kids = n.kids)
    (hb : (#[.int .i64 n.lev, .int .i64 n.lsn, .int .i64 n.rgt, .string n.high, kv, vv, iv] : Array Value).setIfInBounds j x = #[.int .i64 m.lev, .int .i64 m.lsn, .int .i64 m.rgt, .string m.high, kv, vv, iv]) :
    Bx W0 (w.setCell ⟨nk, j, none⟩ x) nk m kv vv iv := by
  have hn := h.new
  have f : Fr (fun k => k = nk) w (w.setCell ⟨nk, j, none⟩ x) := (Fr.refl (fun k => k = nk) w).setCell (p := ⟨nk, j, none⟩) (fun _ => rfl) _
  exact ⟨by rw [node_setCell h.box, hb], h.new, by rw [hk]; exact h.keys.fr f (fun g e e2 => by have := h.ok g e; omega), by rw [hv]; exact h.vals.fr f (fun g e e2 => by have := h.ov g e; omega), by rw [hi]; exact h.kids.fr f (fun g e e2 => by have := h.oi g e; omega),
    h.ok, h.ov, h.oi, h.nkv, h.nki, h.nvi, h.fr.trans f (fun i hi e => by omega)⟩
theorem Bx.rgt (h : Bx W0 w nk n kv vv iv) (x : Int) : Bx W0 (w.setCell ⟨nk, 2, none⟩ (.int .i64 x)) nk { n with rgt := x } kv vv iv := h.put 2 _ { n with rgt := x } rfl rfl rfl rfl
theorem Bx.high (h : Bx W0 w nk n kv vv iv) (x : ByteArray) : Bx W0 (w.setCell ⟨nk, 3, none⟩ (.string x)) nk { n with high := x } kv vv iv := h.put 3 _ { n with high := x } rfl rfl rfl rfl
/-- What an append onto one of its lists leaves. -/
theorem Bx.grow {w1 : World} {v : Value} (h : Bx W0 w nk n kv vv iv) (f : Fr (fun k => v.ownBlock = some k ∧ 0 < 1) w w1) (ov : ∀ g, v.ownBlock = some g → nk < g) :
    w1.heap[nk]? = some (.cells #[.int .i64 n.lev, .int .i64 n.lsn, .int .i64 n.rgt, .string n.high, kv, vv, iv] 25 (0, 0)) ∧ Fr (fun _ => False) W0 w1 := by
  have hn := h.new
  exact ⟨by rw [f.block nk (lt_of_block h.box) (fun e => by have := ov nk e.1; omega)]; exact h.box, h.fr.trans f (fun i hi e => by have := ov _ e.1; omega)⟩

theorem Bx.key (h : Bx W0 w nk n kv vv iv) (x : ByteArray) (hl : n.keys.length ≤ 100000) :
    ∃ a7 c7 w7, (Builtin.append_ #[22, 22] 22 #[kv, .slice (some ⟨w.heap.size, 0, none⟩) 1 1]).run Try.prog (w.alloc (.cells #[.string x] 9)) = .ok (.slice a7 (n.keys.length + 1) c7) w7 ∧
      w7.cell? ⟨nk, 4, none⟩ = some kv ∧ w7.frozen? ⟨nk, 4, none⟩ = false ∧ Bx W0 (w7.setCell ⟨nk, 4, none⟩ (.slice a7 (n.keys.length + 1) c7)) nk { n with keys := n.keys ++ [x] } (.slice a7 (n.keys.length + 1) c7) vv iv := by
  obtain ⟨i0, hi, hz0, hz1, hz2⟩ := info_parts infoStr
  have h1 := h.same (Fr.box w (.cells #[.string x] 9))
  have hb := heap_alloc_new w (.cells #[.string x] 9)
  obtain ⟨v', w7, hrun, hh, hf, ho⟩ := run_append_has (P := Try.prog) (w.alloc (.cells #[.string x] 9)) 22 22 22 9 9 i0 (.string ⟨#[]⟩) 1 16 Try.underlying22 Try.underlying22 hi hz0 hz1 hz2 rfl (by omega) kv n.keys.length (strCells n.keys) h1.keys
    (some ⟨w.heap.size, 0, none⟩) 1 1 [.string x] rfl (.inr ⟨w.heap.size, 0, rfl, range_block hb (fun j v hv => by rw [Nat.zero_add]; simpa using hv)⟩) (by simp [Value.oneCell']) (by unfold maxLen; omega) (by omega)
  obtain ⟨a7, c7, rfl, _, _⟩ := hh.slice
  obtain ⟨g1, g3⟩ := h1.grow hf h1.ok
  obtain ⟨⟨_, _, _, _, c4, _, _⟩, fz⟩ := node_cells g1
  have hsz : (w.alloc (.cells #[.string x] 9)).heap.size = w.heap.size + 1 := by simp
  rw [hsz] at ho
  have hnk := lt_of_block h.box
  have hv7 := h1.vals.fr hf (fun g e e2 => h.nkv g e2.1 e)
  have hi7 := h1.kids.fr hf (fun g e e2 => h.nki g e2.1 e)
  have f : Fr (fun k => k = nk) w7 (w7.setCell ⟨nk, 4, none⟩ (.slice a7 (n.keys.length + 1) c7)) := (Fr.refl (fun k => k = nk) w7).setCell (p := ⟨nk, 4, none⟩) (fun _ => rfl) _
  have hn := h.new
  have ok' := own_new ho hnk h.ok
  refine ⟨a7, c7, w7, hrun, c4, fz 4, ⟨by rw [node_setCell g1]; rfl, h.new, ?_, hv7.fr f (fun g e e2 => by have := h.ov g e; omega), hi7.fr f (fun g e e2 => by have := h.oi g e; omega), ok', h.ov, h.oi, own_apart ho (fun g e => h.vals.lt e) h.nkv, own_apart ho (fun g e => h.kids.lt e) h.nki, h.nvi, g3.trans f (fun i hi e => by omega)⟩⟩
  have : Has w7 1 (.slice a7 (n.keys.length + 1) c7) (n.keys ++ [x]).length (strCells (n.keys ++ [x])) := by
    rw [List.length_append]; simpa [strCells] using hh
  exact this.fr f (fun g e e2 => by have := ok' g e; omega)
theorem Bx.val (h : Bx W0 w nk n kv vv iv) (x : ByteArray) (hl : n.vals.length ≤ 100000) :
    ∃ a7 c7 w7, (Builtin.append_ #[22, 22] 22 #[vv, .slice (some ⟨w.heap.size, 0, none⟩) 1 1]).run Try.prog (w.alloc (.cells #[.string x] 9)) = .ok (.slice a7 (n.vals.length + 1) c7) w7 ∧
      w7.cell? ⟨nk, 5, none⟩ = some vv ∧ w7.frozen? ⟨nk, 5, none⟩ = false ∧ Bx W0 (w7.setCell ⟨nk, 5, none⟩ (.slice a7 (n.vals.length + 1) c7)) nk { n with vals := n.vals ++ [x] } kv (.slice a7 (n.vals.length + 1) c7) iv := by
  obtain ⟨i0, hi, hz0, hz1, hz2⟩ := info_parts infoStr
  have h1 := h.same (Fr.box w (.cells #[.string x] 9))
  have hb := heap_alloc_new w (.cells #[.string x] 9)
  obtain ⟨v', w7, hrun, hh, hf, ho⟩ := run_append_has (P := Try.prog) (w.alloc (.cells #[.string x] 9)) 22 22 22 9 9 i0 (.string ⟨#[]⟩) 1 16 Try.underlying22 Try.underlying22 hi hz0 hz1 hz2 rfl (by omega) vv n.vals.length (strCells n.vals) h1.vals
    (some ⟨w.heap.size, 0, none⟩) 1 1 [.string x] rfl (.inr ⟨w.heap.size, 0, rfl, range_block hb (fun j v hv => by rw [Nat.zero_add]; simpa using hv)⟩) (by simp [Value.oneCell']) (by unfold maxLen; omega) (by omega)
  obtain ⟨a7, c7, rfl, _, _⟩ := hh.slice
  obtain ⟨g1, g3⟩ := h1.grow hf h1.ov
  obtain ⟨⟨_, _, _, _, _, c5, _⟩, fz⟩ := node_cells g1
  have hsz : (w.alloc (.cells #[.string x] 9)).heap.size = w.heap.size + 1 := by simp
  rw [hsz] at ho
  have hnk := lt_of_block h.box
  have hk7 := h1.keys.fr hf (fun g e e2 => h.nkv g e e2.1)
  have hi7 := h1.kids.fr hf (fun g e e2 => h.nvi g e2.1 e)
  have f : Fr (fun k => k = nk) w7 (w7.setCell ⟨nk, 5, none⟩ (.slice a7 (n.vals.length + 1) c7)) := (Fr.refl (fun k => k = nk) w7).setCell (p := ⟨nk, 5, none⟩) (fun _ => rfl) _
  have hn := h.new
  have ok' := own_new ho hnk h.ov
  refine ⟨a7, c7, w7, hrun, c5, fz 5, ⟨by rw [node_setCell g1]; rfl, h.new, hk7.fr f (fun g e e2 => by have := h.ok g e; omega), ?_, hi7.fr f (fun g e e2 => by have := h.oi g e; omega), h.ok, ok', h.oi, own_apart' ho (fun g e => h.keys.lt e) h.nkv, h.nki, own_apart ho (fun g e => h.kids.lt e) h.nvi, g3.trans f (fun i hi e => by omega)⟩⟩
  have : Has w7 1 (.slice a7 (n.vals.length + 1) c7) (n.vals ++ [x]).length (strCells (n.vals ++ [x])) := by
    rw [List.length_append]; simpa [strCells] using hh
  exact this.fr f (fun g e e2 => by have := ok' g e; omega)
theorem Bx.kid (h : Bx W0 w nk n kv vv iv) (x : Int) (hl : n.kids.length ≤ 100000) :
    ∃ a7 c7 w7, (Builtin.append_ #[23, 23] 23 #[iv, .slice (some ⟨w.heap.size, 0, none⟩) 1 1]).run Try.prog (w.alloc (.cells #[.int .i64 x] 3)) = .ok (.slice a7 (n.kids.length + 1) c7) w7 ∧
      w7.cell? ⟨nk, 6, none⟩ = some iv ∧ w7.frozen? ⟨nk, 6, none⟩ = false ∧ Bx W0 (w7.setCell ⟨nk, 6, none⟩ (.slice a7 (n.kids.length + 1) c7)) nk { n with kids := n.kids ++ [x] } kv vv (.slice a7 (n.kids.length + 1) c7) := by
  obtain ⟨i0, hi, hz0, hz1, hz2⟩ := info_parts infoInt
  have h1 := h.same (Fr.box w (.cells #[.int .i64 x] 3))
  have hb := heap_alloc_new w (.cells #[.int .i64 x] 3)
  obtain ⟨v', w7, hrun, hh, hf, ho⟩ := run_append_has (P := Try.prog) (w.alloc (.cells #[.int .i64 x] 3)) 23 23 23 3 3 i0 (.int .i64 0) 1 8 Try.underlying23 Try.underlying23 hi hz0 hz1 hz2 rfl (by omega) iv n.kids.length (intCells n.kids) h1.kids
    (some ⟨w.heap.size, 0, none⟩) 1 1 [.int .i64 x] rfl (.inr ⟨w.heap.size, 0, rfl, range_block hb (fun j v hv => by rw [Nat.zero_add]; simpa using hv)⟩) (by simp [Value.oneCell']) (by unfold maxLen; omega) (by omega)
  obtain ⟨a7, c7, rfl, _, _⟩ := hh.slice
  obtain ⟨g1, g3⟩ := h1.grow hf h1.oi
  obtain ⟨⟨_, _, _, _, _, _, c6⟩, fz⟩ := node_cells g1
  have hsz : (w.alloc (.cells #[.int .i64 x] 3)).heap.size = w.heap.size + 1 := by simp
  rw [hsz] at ho
  have hnk := lt_of_block h.box
  have hk7 := h1.keys.fr hf (fun g e e2 => h.nki g e e2.1)
  have hv7 := h1.vals.fr hf (fun g e e2 => h.nvi g e e2.1)
  have f : Fr (fun k => k = nk) w7 (w7.setCell ⟨nk, 6, none⟩ (.slice a7 (n.kids.length + 1) c7)) := (Fr.refl (fun k => k = nk) w7).setCell (p := ⟨nk, 6, none⟩) (fun _ => rfl) _
  have hn := h.new
  have ok' := own_new ho hnk h.oi
  refine ⟨a7, c7, w7, hrun, c6, fz 6, ⟨by rw [node_setCell g1]; rfl, h.new, hk7.fr f (fun g e e2 => by have := h.ok g e; omega), hv7.fr f (fun g e e2 => by have := h.ov g e; omega), ?_, h.ok, h.ov, ok', h.nkv, own_apart' ho (fun g e => h.keys.lt e) h.nki, own_apart' ho (fun g e => h.vals.lt e) h.nvi, g3.trans f (fun i hi e => by omega)⟩⟩
  have : Has w7 1 (.slice a7 (n.kids.length + 1) c7) (n.kids ++ [x]).length (intCells (n.kids ++ [x])) := by
    rw [List.length_append]; simpa [intCells] using hh
  exact this.fr f (fun g e e2 => by have := ok' g e; omega)
/-- The lists as a node's. -/
theorem Bx.nod (h : Bx W0 w nk n kv vv iv) (sh : Short n) (hk : n.keys.length ≤ 100000) (hv : n.vals.length ≤ 100000) (hi : n.kids.length ≤ 100000) :
    ∃ p : Pt, kv = .slice p.k n.keys.length p.kc ∧ vv = .slice p.v n.vals.length p.vc ∧ iv = .slice p.i n.kids.length p.ic ∧ Nod w n p := by
  obtain ⟨ak, ck, e1, s1⟩ := h.keys.strs sh.keys
  obtain ⟨av, cv, e2, s2⟩ := h.vals.strs sh.vals
  obtain ⟨ai, ci, e3, s3⟩ := h.kids.ints
  exact ⟨⟨ak, ck, av, cv, ai, ci⟩, e1, e2, e3, s1, s2, s3, by have := sh.high; omega, (fun s hs => by have := sh.keys s hs; omega), (fun s hs => by have := sh.vals s hs; omega), by omega, by omega, by omega⟩
/-- The end: the node is stored as the answer, at block rb, which is zero. -/
theorem Bx.done {w1 : World} {rb : Nat} {r0 r1 r2 r3 r4 r5 r6 : Value} (h : Bx W0 w nk n kv vv iv) (sh : Short n) (hk : n.keys.length ≤ 100000) (hv : n.vals.length ≤ 100000) (hi : n.kids.length ≤ 100000) (hR : w.heap[rb]? = some (.cells #[r0, r1, r2, r3, r4, r5, r6] 25 (0, 0))) (h1 : w1.heap.size ≤ rb) (h2 : rb < W0.heap.size) (f1 : Fr (fun _ => False) w1 W0) :
    ∃ p : Pt, (kv = .slice p.k n.keys.length p.kc ∧ vv = .slice p.v n.vals.length p.vc ∧ iv = .slice p.i n.kids.length p.ic) ∧
      (((((((w.setCell ⟨rb, 0, none⟩ (.int .i64 n.lev)).setCell ⟨rb, 1, none⟩ (.int .i64 n.lsn)).setCell ⟨rb, 2, none⟩ (.int .i64 n.rgt)).setCell ⟨rb, 3, none⟩ (.string n.high)).setCell ⟨rb, 4, none⟩ kv).setCell ⟨rb, 5, none⟩ vv).setCell ⟨rb, 6, none⟩ iv).heap[rb]? = some (.cells #[.int .i64 n.lev, .int .i64 n.lsn, .int .i64 n.rgt, .string n.high, kv, vv, iv] 25 (0, 0)) ∧
      Nod (((((((w.setCell ⟨rb, 0, none⟩ (.int .i64 n.lev)).setCell ⟨rb, 1, none⟩ (.int .i64 n.lsn)).setCell ⟨rb, 2, none⟩ (.int .i64 n.rgt)).setCell ⟨rb, 3, none⟩ (.string n.high)).setCell ⟨rb, 4, none⟩ kv).setCell ⟨rb, 5, none⟩ vv).setCell ⟨rb, 6, none⟩ iv) n p ∧
      Fr (fun _ => False) w1 (((((((w.setCell ⟨rb, 0, none⟩ (.int .i64 n.lev)).setCell ⟨rb, 1, none⟩ (.int .i64 n.lsn)).setCell ⟨rb, 2, none⟩ (.int .i64 n.rgt)).setCell ⟨rb, 3, none⟩ (.string n.high)).setCell ⟨rb, 4, none⟩ kv).setCell ⟨rb, 5, none⟩ vv).setCell ⟨rb, 6, none⟩ iv) := by
  obtain ⟨hq, ff⟩ := fin7 hR (.int .i64 n.lev) (.int .i64 n.lsn) (.int .i64 n.rgt) (.string n.high) kv vv iv
  generalize (((((((w.setCell ⟨rb, 0, none⟩ (.int .i64 n.lev)).setCell ⟨rb, 1, none⟩ (.int .i64 n.lsn)).setCell ⟨rb, 2, none⟩ (.int .i64 n.rgt)).setCell ⟨rb, 3, none⟩ (.string n.high)).setCell ⟨rb, 4, none⟩ kv).setCell ⟨rb, 5, none⟩ vv).setCell ⟨rb, 6, none⟩ iv) = Wf at hq ff ⊢
  obtain ⟨p, e1, e2, e3, nd⟩ := h.nod sh hk hv hi
  have hn := h.new
  refine ⟨p, ⟨e1, e2, e3⟩, hq, nd_far nd ff (fun b off hx e => ?_), (f1.seq' h.fr).trans ff (S := fun _ => False) (fun i hi e => by omega)⟩
  rcases hx with hx | hx | hx
  · have := h.ok b (by rw [e1, hx]; rfl); omega
  · have := h.ov b (by rw [e2, hx]; rfl); omega
  · have := h.oi b (by rw [e3, hx]; rfl); omega
end
/-- A node without entries. -/
def bareN (n : Nd) : Nd := ⟨n.lev, n.lsn, n.rgt, n.high, [], [], []⟩
theorem bare_any (n : Nd) (p : Pt) (w : World) : Calls Try.prog 67 #[(.agg #[.int .i64 n.lev, .int .i64 n.lsn, .int .i64 n.rgt, .string n.high, .slice p.k n.keys.length p.kc, .slice p.v n.vals.length p.vc, .slice p.i n.kids.length p.ic])] w fun e w' => e = .returned (.agg #[.int .i64 n.lev, .int .i64 n.lsn, .int .i64 n.rgt, .string n.high, .slice none 0 0, .slice none 0 0, .slice none 0 0]) ∧ Fr (fun _ => False) w w' := by
  have f0 : Fr (fun _ => False) w ((w.alloc (.cells #[.int .i64 n.lev, .int .i64 n.lsn, .int .i64 n.rgt, .string n.high, .slice p.k n.keys.length p.kc, .slice p.v n.vals.length p.vc, .slice p.i n.kids.length p.ic] 25)).alloc (.cells #[.int .i64 n.lev, .int .i64 n.lsn, .int .i64 n.rgt, .string n.high, .slice none 0 0, .slice none 0 0, .slice none 0 0] 25)) := ((Fr.refl _ _).alloc _).alloc _
  go_enter Try.func67, Try.ntmps67
  go_wp2
  exact bodyPost_ret (v := .agg #[.int .i64 n.lev, .int .i64 n.lsn, .int .i64 n.rgt, .string n.high, .slice none 0 0, .slice none 0 0, .slice none 0 0]) (by simp [results, Try.results67, go_sem]) rfl ⟨rfl, f0⟩
end Go.Proofs.Ytaaedmacefiinaa
