
/- Base, Has, App. -/
import Derived.Test.YthdbkanbgfajbaaGreatProg
import Derived.WalkKit
import Derived.WalkSpells
import Derived.WalkLawsBesides
import Derived.Laws.BitsAllLaws
import Derived.Laws.AppendOwnNone
import Derived.Deep.RegionHeld3
import Derived.Deep.AppendLies
import Derived.Deep.RegionLaw
import Derived.Deep.DrawnRows
import Derived.OneCell
import Derived.Outline
import Derived.Deep.AppendSrc
import Derived.Deep.MidRow
import Derived.Laws.IdiomStrings
/- Frames (what a call leaves as it was), rows of bytes in memory, and what an append makes of them. -/
namespace Go.Proofs.YthdbkanbgfajbaaGreat
open Go.RowKit

/-- Outside of S the blocks that were there are as they were. -/
structure Fr (S : Nat → Prop) (w w' : World) : Prop where
  os : w'.os = w.os
  tape : w'.tape = w.tape
  output : w'.output = w.output
  size : w.heap.size ≤ w'.heap.size
  block : ∀ k, k < w.heap.size → ¬ S k → w'.heap[k]? = w.heap[k]?

theorem Fr.refl (S : Nat → Prop) (w : World) : Fr S w w := ⟨rfl, rfl, rfl, Nat.le_refl _, fun _ _ _ => rfl⟩
theorem Fr.trans {S T : Nat → Prop} {a b c : World} (h : Fr S a b) (k : Fr T b c) (hT : ∀ i, i < a.heap.size → T i → S i) : Fr S a c :=
  ⟨k.os.trans h.os, k.tape.trans h.tape, k.output.trans h.output, Nat.le_trans h.size k.size, fun i hi hs =>
    (k.block i (Nat.lt_of_lt_of_le hi h.size) (fun t => hs (hT i hi t))).trans (h.block i hi hs)⟩
theorem Fr.drew {S : Nat → Prop} {a w : World} (h : Fr S a w) : Fr S a w.drew := ⟨h.os, h.tape, h.output, h.size, h.block⟩
theorem Fr.drewN {S : Nat → Prop} {a w : World} (h : Fr S a w) (n : Nat) : Fr S a (w.drewN n) := ⟨h.os, h.tape, h.output, h.size, h.block⟩
theorem Fr.alloc {S : Nat → Prop} {a w : World} (h : Fr S a w) (o : Obj) : Fr S a (w.alloc o) :=
  h.trans (T := fun _ => False) ⟨rfl, rfl, rfl, by simp, fun k hk _ => Below.heap_alloc _ _ _ hk⟩ (fun _ _ f => f.elim)
theorem Fr.setCell {S : Nat → Prop} {a w : World} (h : Fr S a w) {p : Addr} (hp : p.block < a.heap.size → S p.block) (u : Value) : Fr S a (w.setCell p u) :=
  h.trans (T := fun k => k = p.block) ⟨rfl, rfl, rfl, by simp [World.setCell], fun k _ hk => Below.heap_setCell _ _ _ _ hk⟩ (fun i hi e => by rw [e]; exact hp (e ▸ hi))
theorem Fr.grown {S : Nat → Prop} {a w w' : World} {row : Option Nat} (h : Fr S a w) (hg : w.grownBy w' row) (hr : ∀ k, row = some k → k < a.heap.size → S k) : Fr S a w' :=
  h.trans (T := fun k => row = some k) ⟨hg.os, hg.tape, hg.output, hg.size, fun k hk hn => hg.block k hk (fun e => hn e.symm)⟩ (fun i hi e => hr i e hi)
theorem Fr.of_below {S : Nat → Prop} {w w' : World} {B : Nat} (h : Below B w w') (hS : ∀ k, k < w.heap.size → ¬ S k → k < B) : Fr S w w' :=
  ⟨h.os, h.tape, h.output, h.size, fun k hk hn => h.block k (hS k hk hn)⟩
theorem Fr.below {S : Nat → Prop} {w w' : World} {B : Nat} (h : Fr S w w') (hB : B ≤ w.heap.size) (hS : ∀ k, S k → B ≤ k) : Below B w w' :=
  ⟨h.os, h.tape, h.output, h.size, fun k hk => h.block k (by omega) (fun s => by have := hS k s; omega)⟩
theorem Fr.mono {S T : Nat → Prop} {w w' : World} (h : Fr S w w') (hT : ∀ i, i < w.heap.size → S i → T i) : Fr T w w' :=
  ⟨h.os, h.tape, h.output, h.size, fun k hk hn => h.block k hk (fun s => hn (hT k hk s))⟩
theorem Fr.cell {S : Nat → Prop} {w w' : World} (h : Fr S w w') {p : Addr} (hp : p.block < w.heap.size) (hn : ¬ S p.block) : w'.cell? p = w.cell? p := World.cell?_of_block (h.block p.block hp hn)

/-- Bytes as cells. -/
def cellsOf (l : List Nat) : List Value := l.map fun (x : Nat) => Value.int .u8 (x : Int)
theorem cellsOf_length (l : List Nat) : (cellsOf l).length = l.length := by simp [cellsOf]
theorem cellsOf_append (l m : List Nat) : cellsOf (l ++ m) = cellsOf l ++ cellsOf m := by simp [cellsOf]
theorem cellsOf_one (x : Nat) : cellsOf [x] = [.int .u8 (x : Int)] := rfl
theorem cellsOf_get (l : List Nat) (i : Nat) (h : i < l.length) : (cellsOf l)[i]? = some (.int .u8 ((l.getD i 0 : Nat) : Int)) := by
  simp [cellsOf, List.getD_eq_getElem?_getD, h]
theorem cellsOf_oneCell (l : List Nat) : ∀ u ∈ cellsOf l, u.oneCell' = true := by
  intro u hu
  simp only [cellsOf, List.mem_map] at hu
  obtain ⟨x, _, rfl⟩ := hu
  rfl

/-- v is a slice of bytes of the call's own that holds l; its row is no block below base. -/
abbrev Mine (w : World) (base : Nat) (v : Value) (l : List Nat) : Prop := w.ownsRow base 5 1 v l.length (cellsOf l)

theorem Mine.fr {S : Nat → Prop} {w w' : World} {base : Nat} {v : Value} {l : List Nat} (h : Mine w base v l) (f : Fr S w w') (hn : ∀ k, v.ownBlock = some k → ¬ S k) : Mine w' base v l := by
  obtain ⟨h1, h2⟩ := h
  refine ⟨h1, ?_⟩
  rcases h2 with h2 | ⟨g, cap, cur, hv, hg, hh, r⟩
  · exact .inl h2
  · refine .inr ⟨g, cap, cur, hv, hg, ?_, r⟩
    rw [f.block g (lt_of_block hh) (hn g (by rw [hv]; rfl))]
    exact hh

/-- Bytes are below 256. -/
def octs (l : List Nat) : Prop := ∀ x ∈ l, x < 256
/-- A slice of bytes as a walk sees it: its elements l lie in memory. -/
structure Row (w : World) (a : Option Addr) (cap : Nat) (l : List Nat) : Prop where
  le : l.length ≤ cap
  max : cap ≤ 9223372036854775807
  small : l.length ≤ 140737488355328
  byte : octs l
  at_ : l = [] ∨ ∃ b off, a = some ⟨b, off, none⟩ ∧ b < w.heap.size ∧ ∀ i, i < l.length → w.cell? ⟨b, off + i, none⟩ = some (.int .u8 ((l.getD i 0 : Nat) : Int))

theorem take_snoc (l : List Nat) (k : Nat) (h : k < l.length) : l.take (k + 1) = l.take k ++ [l.getD k 0] := by
  rw [List.take_succ_eq_append_getElem h, List.getD_eq_getElem?_getD, List.getElem?_eq_getElem h]; rfl
theorem octs_take {l : List Nat} (h : octs l) (k : Nat) : octs (l.take k) := fun x hx => h x (List.mem_of_mem_take hx)
theorem octs_getD {l : List Nat} (h : octs l) (k : Nat) : l.getD k 0 < 256 := by
  rw [List.getD_eq_getElem?_getD]
  rcases Nat.lt_or_ge k l.length with hk | hk
  · rw [List.getElem?_eq_getElem hk]; exact h _ (List.getElem_mem hk)
  · rw [List.getElem?_eq_none hk]; simp

theorem ret_int {k : IntKind} {a b : Int} (h : a = b) : Ending.returned (.int k a) = .returned (.int k b) := by rw [h]
theorem val_int {k : IntKind} {a b : Int} (h : a = b) : Value.int k a = .int k b := by rw [h]


theorem info8 : (Tryz.prog.info? 5).map (fun i => (i.zero, i.size, i.bytes)) = some (some (.int .u8 0), 1, 1) := by kernel_rfl

/-- The number that bytes are, the lowest first. -/
def val : List Nat → Nat
  | [] => 0
  | x :: r => x + 256 * val r
theorem val_snoc (l : List Nat) (x : Nat) : val (l ++ [x]) = val l + x * 256 ^ l.length := by
  induction l with
  | nil => simp [val]
  | cons y l ih =>
    simp only [List.cons_append, val, ih, List.length_cons, Nat.pow_succ]
    rw [Nat.mul_add, Nat.mul_comm (256 ^ l.length) 256, ← Nat.mul_assoc x, Nat.mul_comm x 256, Nat.mul_assoc 256 x, Nat.add_assoc]
theorem val_lt {l : List Nat} (h : octs l) : val l < 256 ^ l.length := by
  induction l with
  | nil => simp [val]
  | cons y l ih =>
    have h1 := h y (by simp)
    have h2 := ih (fun x hx => h x (by simp [hx]))
    simp only [val, List.length_cons, Nat.pow_succ]
    omega
theorem pow_le8 {k : Nat} (h : k ≤ 8) : 256 ^ k ≤ 18446744073709551616 := by
  have := Nat.pow_le_pow_right (n := 256) (by omega) h
  simpa using this

end Go.Proofs.YthdbkanbgfajbaaGreat

/- Slices whose room may be cut short: what lies in them, and what an append makes of them. -/
namespace Go.Proofs.YthdbkanbgfajbaaGreat
open Go.RowKit

theorem Fr.setCells {S : Nat → Prop} {a : World} {b : Nat} (hb : b < a.heap.size → S b) : ∀ (vs : List Value) (o : Nat) {w : World}, Fr S a w → Fr S a (w.setCells b o vs)
  | [], _, _, h => h
  | v :: r, o, _, h => by rw [World.setCells]; exact Fr.setCells hb r (o + 1) (h.setCell (p := ⟨b, o, none⟩) hb v)

theorem range_fr {S : Nat → Prop} {w w' : World} {b o : Nat} {xs : List Value} (h : w.rangeAt b o xs) (f : Fr S w w') (hn : ¬ S b) : w'.rangeAt b o xs := fun j v hv => by
  have h1 := h j v hv
  rw [f.cell (p := ⟨b, o + j, none⟩) (World.block_lt_of_cell? w _ h1) hn]; exact h1
theorem there_fr {S : Nat → Prop} {w w' : World} {b o n : Nat} (h : w.there b o n) (f : Fr S w w') (hn : ¬ S b) : w'.there b o n := fun j hj => by
  obtain ⟨h1, h2⟩ := h j hj
  obtain ⟨u, hu⟩ := Option.isSome_iff_exists.1 h1
  have hb := f.block b (World.block_lt_of_cell? w _ hu) hn
  exact ⟨by rw [World.cell?_of_block (a := ⟨b, o + j, none⟩) hb]; exact h1, by rw [World.frozen?_of_block (a := ⟨b, o + j, none⟩) hb]; exact h2⟩
theorem range_part {w : World} {b o : Nat} {xs ys : List Value} (k : Nat) (h : w.rangeAt b o xs) (hy : ∀ j v, ys[j]? = some v → xs[k + j]? = some v) : w.rangeAt b (o + k) ys := fun j v hv => by
  rw [Nat.add_assoc]; exact h (k + j) v (hy j v hv)
theorem range_join {w : World} {b o : Nat} {xs ys : List Value} (h : w.rangeAt b o xs) (k : w.rangeAt b (o + xs.length) ys) : w.rangeAt b o (xs ++ ys) := fun j v hv => by
  rcases Nat.lt_or_ge j xs.length with hj | hj
  · rw [List.getElem?_append_left hj] at hv; exact h j v hv
  · rw [List.getElem?_append_right hj] at hv
    have := k (j - xs.length) v hv
    rwa [show o + xs.length + (j - xs.length) = o + j by omega] at this
theorem range_block {w : World} {b : Nat} {C : Array Value} {t : TypeId} {fr : Nat × Nat} (hb : w.heap[b]? = some (.cells C t fr)) {o : Nat} {xs : List Value} (hx : ∀ j v, xs[j]? = some v → C[o + j]? = some v) : w.rangeAt b o xs := fun j v hv => by
  rw [cell_of_row w b (o + j) C t fr hb]; exact hx j v hv
theorem there_block {w : World} {b : Nat} {C : Array Value} {t : TypeId} (hb : w.heap[b]? = some (.cells C t (0, 0))) {o n : Nat} (hn : o + n ≤ C.size) : w.there b o n := fun j hj => by
  refine ⟨?_, ?_⟩
  · rw [cell_of_row w b (o + j) C t _ hb, Array.getElem?_eq_getElem (by omega)]; rfl
  · simp [World.frozen?, hb]

/-- v is a slice of n elements, of size cells each, that holds xs. -/
def Has (w : World) (size : Nat) (v : Value) (n : Nat) (xs : List Value) : Prop :=
  xs.length = n * size ∧
  ((v = .slice none 0 0 ∧ n = 0) ∨
   ∃ g cap, v = .slice (some ⟨g, 0, none⟩) n cap ∧ g < w.heap.size ∧ n ≤ cap ∧ cap ≤ maxLen ∧ w.there g 0 (cap * size) ∧ w.rangeAt g 0 xs)

theorem Has.nil (w : World) (size : Nat) : Has w size (.slice none 0 0) 0 [] := ⟨by simp, .inl ⟨rfl, rfl⟩⟩
theorem Has.lt {w : World} {size : Nat} {v : Value} {n : Nat} {xs : List Value} (h : Has w size v n xs) {k : Nat} (hk : v.ownBlock = some k) : k < w.heap.size := by
  rcases h.2 with ⟨rfl, _⟩ | ⟨g, cap, rfl, hg, _⟩
  · cases hk
  · simp [Value.ownBlock] at hk; omega
theorem Has.slice {w : World} {size : Nat} {v : Value} {n : Nat} {xs : List Value} (h : Has w size v n xs) : ∃ a c, v = .slice a n c ∧ n ≤ c ∧ c ≤ maxLen := by
  rcases h.2 with ⟨rfl, rfl⟩ | ⟨g, cap, rfl, _, h1, h2, _⟩
  · exact ⟨none, 0, rfl, Nat.le_refl _, by unfold maxLen; omega⟩
  · exact ⟨_, cap, rfl, h1, h2⟩
theorem Has.form {w : World} {size : Nat} {v : Value} {n : Nat} {xs : List Value} (h : Has w size v n xs) (hn : 0 < n) : ∃ g cap, v = .slice (some ⟨g, 0, none⟩) n cap ∧ g < w.heap.size ∧ n ≤ cap ∧ cap ≤ maxLen ∧ w.there g 0 (cap * size) ∧ w.rangeAt g 0 xs := by
  rcases h.2 with ⟨_, h0⟩ | h
  · omega
  · exact h
theorem Has.fr {S : Nat → Prop} {w w' : World} {size : Nat} {v : Value} {n : Nat} {xs : List Value} (h : Has w size v n xs) (f : Fr S w w') (hn : ∀ k, v.ownBlock = some k → ¬ S k) : Has w' size v n xs := by
  refine ⟨h.1, ?_⟩
  rcases h.2 with h2 | ⟨g, cap, rfl, hg, h1, h2, h3, h4⟩
  · exact .inl h2
  · exact .inr ⟨g, cap, rfl, Nat.lt_of_lt_of_le hg f.size, h1, h2, there_fr h3 f (hn g rfl), range_fr h4 f (hn g rfl)⟩
/-- One of its elements is stored anew. -/
theorem Has.set {w : World} {size : Nat} {g n cap : Nat} {xs : List Value} (h : Has w size (.slice (some ⟨g, 0, none⟩) n cap) n xs) (k : Nat) (ys : List Value) (hy : k + ys.length ≤ xs.length) :
    Has (w.setCells g k ys) size (.slice (some ⟨g, 0, none⟩) n cap) n (xs.take k ++ ys ++ xs.drop (k + ys.length)) := by
  refine ⟨by rw [← h.1]; simp; omega, ?_⟩
  rcases h.2 with ⟨h2, _⟩ | ⟨g', cap', hv, hg, h1, h2, h3, h4⟩
  · cases h2
  · simp only [Value.slice.injEq, Option.some.injEq, Addr.mk.injEq, and_true, true_and] at hv
    obtain ⟨rfl, rfl⟩ := hv
    refine .inr ⟨g, cap, rfl, ?_, h1, h2, World.there_setCells h3 _ _ _, ?_⟩
    · have := (Fr.setCells (S := fun _ => True) (a := w) (b := g) (fun _ => trivial) ys k (Fr.refl _ w)).size
      omega
    · have ht : w.there g k ys.length := fun j hj => by
        have := h3 (k + j) (by have := h.1; have := Nat.mul_le_mul_right size h1; omega)
        simpa using this
      have hs := World.rangeAt_setCells_same w g k ys ht
      have ha : (w.setCells g k ys).rangeAt g 0 (xs.take k) := World.rangeAt_setCells_apart (fun j v hv => h4 j v (by
        rw [List.getElem?_take] at hv; split at hv
        · exact hv
        · cases hv)) g k ys (.inr (.inl (by simp; omega)))
      have hb : (w.setCells g k ys).rangeAt g (k + ys.length) (xs.drop (k + ys.length)) := World.rangeAt_setCells_apart (by
        have := range_part (ys := xs.drop (k + ys.length)) (k + ys.length) h4 (fun j v hv => by rwa [List.getElem?_drop] at hv)
        rwa [Nat.zero_add] at this) g k ys (.inr (.inr (by omega)))
      have hl : (xs.take k).length = k := by simp; omega
      exact range_join (range_join ha (by rw [hl]; simpa using hs)) (by simp only [List.length_append, hl]; simpa using hb)

section
variable {P : Program} (w : World)

/-- Where cells come from: nothing, or they lie in memory. -/
def From (w : World) (a : Option Addr) (news : List Value) : Prop := news = [] ∨ ∃ b off, a = some ⟨b, off, none⟩ ∧ w.rangeAt b off news

theorem From.src {w : World} {a : Option Addr} {news : List Value} {size m c : Nat} {tx e' : TypeId} (hx : P.underlying tx = some (.slice e')) (h : From w a news) (hl : news.length = m * size) (hsz : 0 < size) (h1 : ∀ u ∈ news, u.oneCell' = true) (hc : m = 0 → a = none → True) :
    Src P size tx (.slice a m c) m news w := by
  have two : ∀ w' : World, (∀ x, w'.cell? x = w.cell? x) → (Builtin.firstCells size m (.slice a m c)).run P w' = .ok news.toArray w' := by
    intro w' hw
    rcases h with rfl | ⟨b, off, rfl, hr⟩
    · have hm : m = 0 := by
        rcases Nat.eq_zero_or_pos m with h | h
        · exact h
        · have := Nat.mul_pos h hsz; simp at hl; omega
      subst hm
      cases a with
      | none => exact run_firstCells_none w' size 0 0 c
      | some x => exact run_firstCells_some (P := P) w' size 0 x 0 c [] (by simp) (fun j u hu => by simp at hu)
    · exact run_firstCells_some (P := P) w' size m ⟨b, off, none⟩ m c news hl (fun j u hu => by rw [Addr.add_lit, hw]; exact hr j u hu)
  exact ⟨.inl ⟨e', hx⟩, fun _ => rfl, two w (fun _ => rfl), two w.drew (fun x => by simp), by omega, h1⟩

/-- What an append makes of such a slice. -/
theorem run_append_has (t tx ty e e' : TypeId) (i : TypeInfo) (z : Value) (size bytes : Nat) (ht : P.underlying t = some (.slice e)) (hx : P.underlying tx = some (.slice e')) (hi : P.info? e = some i) (hz : i.zero = some z)
    (hsize : i.size = size) (hby : i.bytes = bytes) (hzs : z.cells.size = size) (hsz : 0 < size)
    (v : Value) (n : Nat) (xs : List Value) (hown : Has w size v n xs)
    (a : Option Addr) (m c : Nat) (news : List Value) (hl : news.length = m * size) (hnews : From w a news) (h1 : ∀ u ∈ news, u.oneCell' = true)
    (h63 : n + m ≤ maxLen) (hbytes : (n + m) * bytes ≤ 140737488355328) :
    ∃ v' w', (Builtin.append_ #[t, tx] ty #[v, .slice a m c]).run P w = .ok v' w' ∧ Has w' size v' (n + m) (xs ++ news) ∧ Fr (fun k => v.ownBlock = some k ∧ 0 < m) w w' ∧
      (v'.ownBlock = v.ownBlock ∨ v'.ownBlock = some w.heap.size) := by
  subst hsize
  subst hby
  have hsmall : n + m ≤ 9223372036854775807 := by simp only [maxLen] at h63; omega
  have hlen : (xs ++ news).length = (n + m) * i.size := by rw [List.length_append, hown.1, hl, Nat.add_mul]
  have hsrc := From.src (P := P) (c := c) hx hnews hl hsz h1 (fun _ _ => trivial)
  have grown : ∀ (old : Nat), old < n + m →
      Has (w.drew.alloc (.cells ((xs ++ news).toArray ++ Builtin.zeroCells z.cells (grownCap w (n + m) old e - (n + m))) e)) i.size (.slice (some ⟨w.heap.size, 0, none⟩) (n + m) (grownCap w (n + m) old e)) (n + m) (xs ++ news) ∧
      ∀ S, Fr S w (w.drew.alloc (.cells ((xs ++ news).toArray ++ Builtin.zeroCells z.cells (grownCap w (n + m) old e - (n + m))) e)) := by
    intro old ho
    have hge := grownCap_ge w (n + m) old e
    have hcm : grownCap w (n + m) old e ≤ maxLen := grownCap_le_maxLen w (n + m) old e h63
    have hb := heap_alloc_new w.drew (.cells ((xs ++ news).toArray ++ Builtin.zeroCells z.cells (grownCap w (n + m) old e - (n + m))) e)
    refine ⟨⟨hlen, .inr ⟨w.heap.size, _, rfl, by simp, hge, hcm, there_block hb ?_, range_block hb ?_⟩⟩, fun S => ((Fr.refl S w).drew).alloc _⟩
    · simp only [Array.size_append, List.size_toArray, hlen, size_zeroCells, hzs, ← Nat.add_mul, Nat.zero_add]
      exact Nat.mul_le_mul_right _ (by omega)
    · intro j u hu
      have hj : j < (xs ++ news).length := (List.getElem?_eq_some_iff.1 hu).1
      rw [Nat.zero_add, Array.getElem?_append_left (by simpa using hj)]
      simpa using hu
  rcases hown.2 with ⟨rfl, rfl⟩ | ⟨g, cap, rfl, hg, hnc, hcm, hth, hra⟩
  · have hxs : xs = [] := List.eq_nil_of_length_eq_zero (by simpa using hown.1)
    subst hxs
    by_cases hm : m = 0
    · subst hm
      have hn : news = [] := List.eq_nil_of_length_eq_zero (by simpa using hl)
      subst hn
      refine ⟨.slice none 0 0, w, ?_, Has.nil w i.size, Fr.refl _ _, Or.inl rfl⟩
      simp [Builtin.append_, run_underlying ht, run_underlying hx, sizeOf, typeInfo, hi, Builtin.lenOf, hsrc.cells]
    · have hr := run_append_grow_src (P := P) w t tx ty e i z ht hi hz none 0 0 [] (by simpa using run_firstCells_none w.drew i.size 0 0 0) (.slice a m c) m news hsrc (by omega) (by omega) (by
        have hb := hbytes; simp only [Nat.zero_add] at hb ⊢; rw [nextslicecap_zero (by omega)]; omega)
      have hgr := grown 0 (by omega)
      exact ⟨_, _, hr, hgr.1, hgr.2 _, Or.inr rfl⟩
  · by_cases hroom : n + m ≤ cap
    · have hfit : n * i.size + news.length ≤ cap * i.size := by rw [hl, ← Nat.add_mul]; exact Nat.mul_le_mul_right _ hroom
      have hth2 : w.there g (n * i.size) news.length := fun j hj => by
        have := hth (n * i.size + j) (by omega)
        simpa using this
      have hr := run_append_room_src (P := P) w t tx ty e i ht hi g 0 n cap (.slice a m c) m news hsrc hroom (fun j hj => by simpa using (hth2 j hj).1) (fun j hj => by simpa using (hth2 j hj).2)
      rw [Nat.zero_add] at hr
      have hfr : Fr (fun k => (Value.slice (some ⟨g, 0, none⟩) n cap).ownBlock = some k ∧ 0 < m) w (w.setCells g (n * i.size) news) := by
        by_cases hm : m = 0
        · subst hm
          have hn : news = [] := List.eq_nil_of_length_eq_zero (by simpa using hl)
          subst hn
          exact Fr.refl _ _
        · exact Fr.setCells (fun _ => ⟨rfl, by omega⟩) news _ (Fr.refl _ w)
      refine ⟨_, _, hr, ⟨hlen, .inr ⟨g, cap, rfl, Nat.lt_of_lt_of_le hg hfr.size, hroom, hcm, World.there_setCells hth _ _ _, range_join ?_ ?_⟩⟩, hfr, Or.inl rfl⟩
      · exact World.rangeAt_setCells_apart hra _ _ _ (.inr (.inl (by rw [hown.1]; omega)))
      · have := World.rangeAt_setCells_same w g (n * i.size) news hth2
        rwa [hown.1, Nat.zero_add]
    · have hold : (Builtin.firstCells i.size n (.slice (some ⟨g, 0, none⟩) n cap)).run P w.drew = .ok xs.toArray w.drew :=
        run_firstCells_some (P := P) w.drew i.size n ⟨g, 0, none⟩ n cap xs hown.1 (fun j u hu => by rw [Addr.add_lit]; simpa using hra j u hu)
      have hr := run_append_grow_src (P := P) w t tx ty e i z ht hi hz (some ⟨g, 0, none⟩) n cap xs hold (.slice a m c) m news hsrc (by omega) (by omega) (growslice_fits (by omega) hbytes)
      have hgr := grown cap (by omega)
      exact ⟨_, _, hr, hgr.1, hgr.2 _, Or.inr rfl⟩

theorem wp_append_has {o : Oper} {ac : Act} {K : Act → World → Prop} {Q : Exit → Act → World → Prop} (s x : Operand) (t tx e e' : TypeId)
    (ho : o.op = .call { callee := .builtin .append, args := #[s, x], argTypes := #[t, tx] }) (i : TypeInfo) (z : Value) (size bytes : Nat) (ht : P.underlying t = some (.slice e)) (hx : P.underlying tx = some (.slice e')) (hi : P.info? e = some i) (hz : i.zero = some z)
    (hsize : i.size = size) (hby : i.bytes = bytes) (hzs : z.cells.size = size) (hsz : 0 < size)
    (v : Value) (n : Nat) (xs : List Value) (hse : ac.eval s = v) (hown : Has w size v n xs)
    (a : Option Addr) (m c : Nat) (news : List Value) (hxe : ac.eval x = .slice a m c) (hl : news.length = m * size) (hnews : From w a news) (h1 : ∀ u ∈ news, u.oneCell' = true)
    (h63 : n + m ≤ maxLen) (hbytes : (n + m) * bytes ≤ 140737488355328)
    (h : ∀ a' c' w', Has w' size (.slice a' (n + m) c') (n + m) (xs ++ news) → Fr (fun k => v.ownBlock = some k ∧ 0 < m) w w' → ((Value.slice a' (n + m) c').ownBlock = v.ownBlock ∨ (Value.slice a' (n + m) c').ownBlock = some w.heap.size) → K (ac.put o.dst (.slice a' (n + m) c')) w') : o.wp P ac w K Q := by
  obtain ⟨v', w', hrun, h2, h3, h4⟩ := run_append_has (P := P) w t tx o.type e e' i z size bytes ht hx hi hz hsize hby hzs hsz v n xs hown a m c news hl hnews h1 h63 hbytes
  unfold Oper.wp execOp
  simp only [ho, resolve, invoke, builtin, Sem.run_bind, Sem.run_pure, Result.andThen_ok, List.map_toArray, List.map_cons, List.map_nil, hse, hxe, hrun]
  obtain ⟨a', c', rfl, _⟩ := h2.slice
  exact h a' c' w' h2 h3 h4

theorem wpList_append_has {ops : Array Oper} {rest : List Oper} {o : Oper} {ac : Act} {Q : Exit → Act → World → Prop} (hgd : o.guard = none) (s x : Operand) (t tx e e' : TypeId)
    (ho : o.op = .call { callee := .builtin .append, args := #[s, x], argTypes := #[t, tx] }) (i : TypeInfo) (z : Value) (size bytes : Nat) (ht : P.underlying t = some (.slice e)) (hx : P.underlying tx = some (.slice e')) (hi : P.info? e = some i) (hz : i.zero = some z)
    (hsize : i.size = size) (hby : i.bytes = bytes) (hzs : z.cells.size = size) (hsz : 0 < size)
    (v : Value) (n : Nat) (xs : List Value) (hse : ac.eval s = v) (hown : Has w size v n xs)
    (a : Option Addr) (m c : Nat) (news : List Value) (hxe : ac.eval x = .slice a m c) (hl : news.length = m * size) (hnews : From w a news) (h1 : ∀ u ∈ news, u.oneCell' = true)
    (h63 : n + m ≤ maxLen) (hbytes : (n + m) * bytes ≤ 140737488355328)
    (h : ∀ a' c' w', Has w' size (.slice a' (n + m) c') (n + m) (xs ++ news) → Fr (fun k => v.ownBlock = some k ∧ 0 < m) w w' → ((Value.slice a' (n + m) c').ownBlock = v.ownBlock ∨ (Value.slice a' (n + m) c').ownBlock = some w.heap.size) → wpList P ops Q rest (ac.put o.dst (.slice a' (n + m) c')) w') : wpList P ops Q (o :: rest) ac w :=
  wpList_plain hgd fun _ hK => wp_append_has w s x t tx e e' ho i z size bytes ht hx hi hz hsize hby hzs hsz v n xs hse hown a m c news hxe hl hnews h1 h63 hbytes fun a' c' w' h2 h3 h4 => hK _ _ (h a' c' w' h2 h3 h4)

theorem step_append_has {ops : Array Oper} {o : Oper} {ac : Act} {K : Act → World → Prop} {Q : Exit → Act → World → Prop} {E : Prop} (hgd : o.guard = none) (s x : Operand) (t tx e e' : TypeId)
    (ho : o.op = .call { callee := .builtin .append, args := #[s, x], argTypes := #[t, tx] }) (i : TypeInfo) (z : Value) (size bytes : Nat) (ht : P.underlying t = some (.slice e)) (hx : P.underlying tx = some (.slice e')) (hi : P.info? e = some i) (hz : i.zero = some z)
    (hsize : i.size = size) (hby : i.bytes = bytes) (hzs : z.cells.size = size) (hsz : 0 < size)
    (v : Value) (n : Nat) (xs : List Value) (hse : ac.eval s = v) (hown : Has w size v n xs)
    (a : Option Addr) (m c : Nat) (news : List Value) (hxe : ac.eval x = .slice a m c) (hl : news.length = m * size) (hnews : From w a news) (h1 : ∀ u ∈ news, u.oneCell' = true)
    (h63 : n + m ≤ maxLen) (hbytes : (n + m) * bytes ≤ 140737488355328)
    (h : ∀ a' c' w', Has w' size (.slice a' (n + m) c') (n + m) (xs ++ news) → Fr (fun k => v.ownBlock = some k ∧ 0 < m) w w' → ((Value.slice a' (n + m) c').ownBlock = v.ownBlock ∨ (Value.slice a' (n + m) c').ownBlock = some w.heap.size) → K (ac.put o.dst (.slice a' (n + m) c')) w') :
    if Region.wanted o (yielded ops ac.tmps) = true then Oper.wp P o ac w K Q else E := by
  have hw : Region.wanted o (yielded ops ac.tmps) = true := by simp [Region.wanted, hgd]
  rw [if_pos hw]
  exact wp_append_has w s x t tx e e' ho i z size bytes ht hx hi hz hsize hby hzs hsz v n xs hse hown a m c news hxe hl hnews h1 h63 hbytes h
end

/-- Lists of elements, laid cell by cell. -/
theorem flat_length {α : Type} {f : α → List Value} {size : Nat} (hf : ∀ x, (f x).length = size) (l : List α) : (l.flatMap f).length = l.length * size := by
  induction l with
  | nil => simp
  | cons x l ih => rw [List.flatMap_cons, List.length_append, hf, ih, List.length_cons, Nat.add_mul]; omega
theorem flat_drop {α : Type} {f : α → List Value} {size : Nat} (hf : ∀ x, (f x).length = size) (l : List α) (i : Nat) : (l.flatMap f).drop (i * size) = (l.drop i).flatMap f := by
  induction l generalizing i with
  | nil => simp
  | cons x l ih =>
    cases i with
    | zero => simp
    | succ i =>
      rw [List.flatMap_cons, List.drop_succ_cons, ← ih i, List.drop_append, hf, List.drop_of_length_le (by rw [hf, Nat.add_mul]; omega), List.nil_append]
      congr 1
      rw [Nat.add_mul]; omega
theorem flat_take {α : Type} {f : α → List Value} {size : Nat} (hf : ∀ x, (f x).length = size) (l : List α) (i : Nat) : (l.flatMap f).take (i * size) = (l.take i).flatMap f := by
  induction l generalizing i with
  | nil => simp
  | cons x l ih =>
    cases i with
    | zero => simp
    | succ i =>
      rw [List.flatMap_cons, List.take_succ_cons, List.flatMap_cons, ← ih i, List.take_append, hf, List.take_of_length_le (by rw [hf, Nat.add_mul]; omega)]
      congr 2
      rw [Nat.add_mul]; omega
theorem flat_get {α : Type} {f : α → List Value} {size : Nat} (hf : ∀ x, (f x).length = size) (l : List α) (i : Nat) (x : α) (h : l[i]? = some x) (j : Nat) (hj : j < size) : (l.flatMap f)[i * size + j]? = (f x)[j]? := by
  rw [← List.getElem?_drop, flat_drop hf]
  obtain ⟨hi, rfl⟩ := List.getElem?_eq_some_iff.1 h
  rw [List.drop_eq_getElem_cons hi, List.flatMap_cons, List.getElem?_append_left (by rw [hf]; exact hj)]
/-- An element of such a slice. -/
theorem Has.elem {α : Type} {f : α → List Value} {w : World} {size g n cap : Nat} {l : List α} (h : Has w size (.slice (some ⟨g, 0, none⟩) n cap) n (l.flatMap f)) (hf : ∀ x, (f x).length = size) {i : Nat} {x : α} (hx : l[i]? = some x) : w.rangeAt g (i * size) (f x) := by
  rcases h.2 with ⟨h2, _⟩ | ⟨g', cap', hv, hg, h1, h2, h3, h4⟩
  · cases h2
  · simp only [Value.slice.injEq, Option.some.injEq, Addr.mk.injEq, and_true, true_and] at hv
    obtain ⟨rfl, rfl⟩ := hv
    intro j v hj
    have hlt : j < size := by have := (List.getElem?_eq_some_iff.1 hj).1; rwa [hf] at this
    have := h4 (i * size + j) v (by rw [flat_get hf l i x hx j hlt]; exact hj)
    rwa [Nat.zero_add] at this
/-- One element is stored anew. -/
theorem Has.put {α : Type} {f : α → List Value} {w : World} {size g n cap : Nat} {l : List α} (h : Has w size (.slice (some ⟨g, 0, none⟩) n cap) n (l.flatMap f)) (hf : ∀ x, (f x).length = size) {i : Nat} (hi : i < l.length) (y : α) :
    Has (w.setCells g (i * size) (f y)) size (.slice (some ⟨g, 0, none⟩) n cap) n ((l.set i y).flatMap f) := by
  have hle : (i + 1) * size ≤ l.length * size := Nat.mul_le_mul_right _ hi
  rw [Nat.add_mul] at hle
  have := h.set (i * size) (f y) (by rw [hf, flat_length hf]; omega)
  rw [hf, flat_take hf, show i * size + size = (i + 1) * size by rw [Nat.add_mul]; omega, flat_drop hf] at this
  rw [List.set_eq_take_append_cons_drop, if_pos hi, List.flatMap_append, List.flatMap_cons]
  simpa [List.append_assoc] using this
end Go.Proofs.YthdbkanbgfajbaaGreat

/- What an append of bytes onto a slice of the call's own makes, wherever the bytes come from. -/
namespace Go.Proofs.YthdbkanbgfajbaaGreat
open Go.RowKit

section
variable {P : Program} (w : World)

/-- The second argument's own type does not matter, if it is a slice's. -/
theorem append_type (t tx ty e e' : TypeId) (i : TypeInfo) (ht : P.underlying t = some (.slice e)) (htx : P.underlying tx = some (.slice e')) (hi : P.info? e = some i) (b : Option Addr) (n c : Nat) (x : Value) :
    (Builtin.append_ #[t, tx] ty #[.slice b n c, x]).run P w = (Builtin.append_ #[t, t] ty #[.slice b n c, x]).run P w := by
  simp [Builtin.append_, run_underlying ht, run_underlying htx, sizeOf, typeInfo, hi]
theorem Mine.slice {w : World} {base : Nat} {v : Value} {l : List Nat} (h : Mine w base v l) : ∃ a c, v = .slice a l.length c := by
  rcases h.2 with ⟨rfl, h0⟩ | ⟨g, cap, cur, rfl, _⟩
  · exact ⟨none, 0, by rw [h0]⟩
  · exact ⟨_, _, rfl⟩

theorem Row.news {w : World} {b off : Nat} {l : List Nat} (hc : ∀ i, i < l.length → w.cell? ⟨b, off + i, none⟩ = some (.int .u8 ((l.getD i 0 : Nat) : Int))) :
    ∀ j u, (cellsOf l)[j]? = some u → w.cell? ((⟨b, off, none⟩ : Addr).add j) = some u := by
  intro j u hu
  have hj : j < l.length := by
    rcases Nat.lt_or_ge j l.length with h | h
    · exact h
    · rw [List.getElem?_eq_none (by simpa [cellsOf] using h)] at hu; cases hu
  rw [cellsOf_get l j hj] at hu
  rw [Addr.add_lit, hc j hj]; exact hu

theorem run_append_row (t tx ty e' : TypeId) (i : TypeInfo) (ht : P.underlying t = some (.slice 5)) (htx : P.underlying tx = some (.slice e')) (hi : P.info? 5 = some i) (hz : i.zero = some (.int .u8 0)) (hs : i.size = 1) (hb : i.bytes = 1)
    (base : Nat) (v : Value) (l : List Nat) (hown : Mine w base v l) (a : Option Addr) (cap : Nat) (news : List Nat) (hr : Row w a cap news) (hbytes : l.length + news.length ≤ 140737488355328) (hbase : base ≤ w.heap.size) :
    ∃ v' w', (Builtin.append_ #[t, tx] ty #[v, .slice a news.length cap]).run P w = .ok v' w' ∧ Mine w' base v' (l ++ news) ∧ w.grownBy w' v.ownBlock ∧ (v'.ownBlock = v.ownBlock ∨ v'.ownBlock = some w.heap.size) := by
  have hty : (Builtin.append_ #[t, tx] ty #[v, .slice a news.length cap]).run P w = (Builtin.append_ #[t, t] ty #[v, .slice a news.length cap]).run P w := by
    obtain ⟨a', c', rfl⟩ := hown.slice
    exact append_type w t tx ty 5 e' i ht htx hi a' _ c' _
  rw [hty]
  rcases hr.at_ with h0 | ⟨b, off, rfl, _, hc⟩
  · subst h0
    refine ⟨v, w, ?_, by simpa using hown, ⟨rfl, rfl, rfl, Nat.le_refl _, fun _ _ _ => rfl⟩, .inl rfl⟩
    rcases hown.2 with ⟨rfl, hn⟩ | ⟨g, c, cur, rfl, _, _, hnc, _⟩
    · simp [Builtin.append_, run_underlying ht, sizeOf, typeInfo, hi, Builtin.lenOf, Builtin.firstCells, loadCells, loadCellsFrom]
      cases a <;> simp
    · simp [Builtin.append_, run_underlying ht, sizeOf, typeInfo, hi, Builtin.lenOf, Builtin.firstCells, loadCells, loadCellsFrom, hnc]
      cases a <;> simp [storeCells]
  · obtain ⟨v', w', h1, h2, h3, _, h5⟩ := run_append_own_at (P := P) w base t ty 5 i (.int .u8 0) 1 1 ht hi hz hs hb rfl (by omega) v l.length (cellsOf l) hown ⟨b, off, none⟩ news.length cap (cellsOf news) (by simp [cellsOf])
      (Row.news hc) (cellsOf_oneCell news) (by unfold maxLen; omega) (by omega) hbase
    refine ⟨v', w', h1, ?_, h3, h5⟩
    show w'.ownsRow base 5 1 v' (l ++ news).length (cellsOf (l ++ news))
    rw [cellsOf_append, List.length_append]; exact h2

theorem wp_append_row {o : Oper} {ac : Act} {K : Act → World → Prop} {Q : Exit → Act → World → Prop} (s x : Operand) (t tx e' : TypeId)
    (ho : o.op = .call { callee := .builtin .append, args := #[s, x], argTypes := #[t, tx] }) (i : TypeInfo) (ht : P.underlying t = some (.slice 5)) (htx : P.underlying tx = some (.slice e')) (hi : P.info? 5 = some i) (hz : i.zero = some (.int .u8 0)) (hs : i.size = 1) (hb : i.bytes = 1)
    (base : Nat) (v : Value) (l : List Nat) (hse : ac.eval s = v) (hown : Mine w base v l) (a : Option Addr) (n cap : Nat) (news : List Nat) (hn : n = news.length) (hxe : ac.eval x = .slice a n cap) (hr : Row w a cap news) (hbytes : l.length + news.length ≤ 140737488355328) (hbase : base ≤ w.heap.size)
    (h : ∀ a' c' w', Mine w' base (.slice a' (l.length + news.length) c') (l ++ news) → w.grownBy w' v.ownBlock → ((Value.slice a' (l.length + news.length) c').ownBlock = v.ownBlock ∨ (Value.slice a' (l.length + news.length) c').ownBlock = some w.heap.size) → K (ac.put o.dst (.slice a' (l.length + news.length) c')) w') : o.wp P ac w K Q := by
  subst hn
  obtain ⟨v', w', hrun, h2, h3, h4⟩ := run_append_row (P := P) w t tx o.type e' i ht htx hi hz hs hb base v l hown a cap news hr hbytes hbase
  unfold Oper.wp execOp
  simp only [ho, resolve, invoke, builtin, Sem.run_bind, Sem.run_pure, Result.andThen_ok, List.map_toArray, List.map_cons, List.map_nil, hse, hxe, hrun]
  obtain ⟨a', c', rfl⟩ := h2.slice
  rw [List.length_append] at h2 h4 ⊢
  exact h a' c' w' h2 h3 h4

theorem wpList_append_row {ops : Array Oper} {rest : List Oper} {o : Oper} {ac : Act} {Q : Exit → Act → World → Prop} (hgd : o.guard = none) (s x : Operand) (t tx e' : TypeId)
    (ho : o.op = .call { callee := .builtin .append, args := #[s, x], argTypes := #[t, tx] }) (i : TypeInfo) (ht : P.underlying t = some (.slice 5)) (htx : P.underlying tx = some (.slice e')) (hi : P.info? 5 = some i) (hz : i.zero = some (.int .u8 0)) (hs : i.size = 1) (hb : i.bytes = 1)
    (base : Nat) (v : Value) (l : List Nat) (hse : ac.eval s = v) (hown : Mine w base v l) (a : Option Addr) (n cap : Nat) (news : List Nat) (hn : n = news.length) (hxe : ac.eval x = .slice a n cap) (hr : Row w a cap news) (hbytes : l.length + news.length ≤ 140737488355328) (hbase : base ≤ w.heap.size)
    (h : ∀ a' c' w', Mine w' base (.slice a' (l.length + news.length) c') (l ++ news) → w.grownBy w' v.ownBlock → ((Value.slice a' (l.length + news.length) c').ownBlock = v.ownBlock ∨ (Value.slice a' (l.length + news.length) c').ownBlock = some w.heap.size) → wpList P ops Q rest (ac.put o.dst (.slice a' (l.length + news.length) c')) w') : wpList P ops Q (o :: rest) ac w :=
  wpList_plain hgd fun _ hK => wp_append_row w s x t tx e' ho i ht htx hi hz hs hb base v l hse hown a n cap news hn hxe hr hbytes hbase fun a' c' w' h2 h3 h4 => hK _ _ (h a' c' w' h2 h3 h4)

end

/-- What is owned is a row of bytes, and its value a slice. -/
theorem Mine.row {w : World} {base : Nat} {v : Value} {l : List Nat} (h : Mine w base v l) (hl : octs l) (hs : l.length ≤ 140737488355328) : ∃ a c, v = .slice a l.length c ∧ Row w a c l := by
  rcases h.2 with ⟨rfl, h0⟩ | ⟨g, cap, cur, rfl, hg, hh, hnc, hcm, hcs, htake⟩
  · have : l = [] := List.eq_nil_of_length_eq_zero h0
    subst this
    exact ⟨none, 0, rfl, Nat.le_refl _, by omega, hs, hl, .inl rfl⟩
  · refine ⟨_, cap, rfl, hnc, by unfold maxLen at hcm; omega, hs, hl, .inr ⟨g, 0, rfl, lt_of_block hh, fun i hi => ?_⟩⟩
    have := h.cells (g := g) rfl i _ (cellsOf_get l i hi)
    rw [Addr.add_lit] at this
    exact this

/-- Bytes as a string. -/
def strOf (l : List Nat) : ByteArray := ⟨(l.map fun (x : Nat) => UInt8.ofNat x).toArray⟩
theorem strOf_toList (l : List Nat) : (strOf l).toList = l.map fun (x : Nat) => UInt8.ofNat x := by
  rw [ByteArray.toList_eq]; simp [strOf]
theorem ofNat_inj {l m : List Nat} (hl : octs l) (hm : octs m) (h : (l.map fun (x : Nat) => UInt8.ofNat x) = m.map fun (x : Nat) => UInt8.ofNat x) : l = m := by
  induction l generalizing m with
  | nil => cases m with
    | nil => rfl
    | cons => simp at h
  | cons x l ih => cases m with
    | nil => simp at h
    | cons y m =>
      simp only [List.map_cons, List.cons.injEq] at h
      have hx := hl x (by simp)
      have hy := hm y (by simp)
      have e : x = y := by
        have := congrArg UInt8.toNat h.1
        simpa [Nat.mod_eq_of_lt hx, Nat.mod_eq_of_lt hy] using this
      rw [e, ih (fun z hz => hl z (by simp [hz])) (fun z hz => hm z (by simp [hz])) h.2]
theorem str_eq {l m : List Nat} (hl : octs l) (hm : octs m) : ((strOf l).toList == (strOf m).toList) = decide (l = m) := by
  rw [strOf_toList, strOf_toList, Bool.eq_iff_iff]
  simp only [beq_iff_eq, decide_eq_true_eq]
  exact ⟨ofNat_inj hl hm, fun h => by rw [h]⟩
theorem run_str {P : Program} {w : World} {src dst e : TypeId} {a : Option Addr} {cap : Nat} {l : List Nat} (hs : P.underlying src = some (.slice e)) (he : P.underlying e = some (.int .u8)) (hd : P.underlying dst = some .string)
    (hr : Row w a cap l) (n : Nat) (hn : n = l.length) : (convert src dst (.slice a n cap)).run P w = .ok (.string (strOf l)) w := by
  subst hn
  rcases hr.at_ with h0 | ⟨b, off, rfl, _, hc⟩
  · subst h0
    rw [run_convert_bytes_string w src dst e a _ cap hs he hd]
    cases a with
    | none => simp [Conv.bytesToString, strOf]; rfl
    | some x => exact run_bytesToString w x 0 cap [] (by simp [loadCells, loadCellsFrom])
  · have hlen : (l.map fun (x : Nat) => UInt8.ofNat x).length = l.length := by simp
    have := run_convert_bytes_back (P := P) w src dst e ⟨b, off, none⟩ cap (l.map fun (x : Nat) => UInt8.ofNat x) hs he hd (fun j hj => by
      rw [hlen] at hj
      rw [Addr.add_lit, hc j hj]
      have hb := hr.byte _ (List.getElem_mem hj)
      simp [List.getD_eq_getElem?_getD, hj, Nat.mod_eq_of_lt hb])
    rw [hlen] at this
    exact this
end Go.Proofs.YthdbkanbgfajbaaGreat
