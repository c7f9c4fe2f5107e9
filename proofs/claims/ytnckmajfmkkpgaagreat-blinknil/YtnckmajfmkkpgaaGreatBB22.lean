
/- NdList, NdIns. -/
import Derived.Test.YtnckmajfmkkpgaaGreatBB11
import Derived.Test.YtnckmajfmkkpgaaGreatBB21
import Derived.Test.YtnckmajfmkkpgaaGreatBB19
/- Lists with an entry more or one less, step by step. -/
namespace Go.Proofs.YtnckmajfmkkpgaaGreat
open Go.RowKit

section
variable {α : Type}
/-- The first j of a list without its i-th, if b. -/
def erTo (b : Bool) (i j : Nat) (l : List α) : List α := if b = true ∧ i < j then (l.take j).eraseIdx i else l.take j
theorem erTo_zero (b : Bool) (i : Nat) (l : List α) : erTo b i 0 l = [] := by unfold erTo; rw [if_neg (by omega)]; rfl
theorem take_getD (l : List α) (j : Nat) (d : α) (hj : j < l.length) : l.take (j + 1) = l.take j ++ [l.getD j d] := by
  rw [List.take_succ_eq_append_getElem hj, List.getD_eq_getElem?_getD, List.getElem?_eq_getElem hj]; rfl
theorem erTo_hit (l : List α) (i : Nat) (h : i < l.length) : erTo true i (i + 1) l = erTo true i i l := by
  unfold erTo
  rw [if_pos ⟨rfl, by omega⟩, if_neg (by omega), List.take_succ_eq_append_getElem h, List.eraseIdx_append_of_length_le (by simp; omega)]
  simp [Nat.min_eq_left (Nat.le_of_lt h)]
theorem erTo_miss (b : Bool) (i j : Nat) (l : List α) (d : α) (hj : j < l.length) (h : ¬ (b = true ∧ i = j)) : erTo b i (j + 1) l = erTo b i j l ++ [l.getD j d] := by
  unfold erTo
  by_cases h1 : b = true ∧ i < j
  · rw [if_pos ⟨h1.1, by omega⟩, if_pos h1, take_getD l j d hj, List.eraseIdx_append_of_lt_length (by simp; omega)]
  · have h2 : ¬ (b = true ∧ i < j + 1) := fun e => by
      rcases Nat.lt_or_ge i j with h3 | h3
      · exact h1 ⟨e.1, h3⟩
      · exact h ⟨e.1, by omega⟩
    rw [if_neg h2, if_neg h1, take_getD l j d hj]
theorem erTo_len (b : Bool) (i j : Nat) (l : List α) : (erTo b i j l).length ≤ j := by
  unfold erTo
  split
  · have := List.length_eraseIdx_le (l.take j) i
    have h2 : (l.take j).length ≤ j := by simp; omega
    omega
  · simp; omega
theorem erTo_mem (b : Bool) (i j : Nat) (l : List α) (s : α) (h : s ∈ erTo b i j l) : s ∈ l := by
  unfold erTo at h
  split at h
  · exact List.mem_of_mem_take (List.mem_of_mem_eraseIdx h)
  · exact List.mem_of_mem_take h
/-- The first j of a list, with x ahead of its i-th, or, if f, in its place. -/
def insTo (f : Bool) (i : Nat) (x : α) (j : Nat) (l : List α) : List α := if i < j then l.take i ++ x :: (l.take j).drop (i + (if f = true then 1 else 0)) else l.take j
def insAll (f : Bool) (i : Nat) (x : α) (l : List α) : List α := l.take i ++ x :: l.drop (i + (if f = true then 1 else 0))
theorem insTo_zero (f : Bool) (i : Nat) (x : α) (l : List α) : insTo f i x 0 l = [] := by unfold insTo; rw [if_neg (by omega)]; rfl
theorem insTo_before (f : Bool) (i j : Nat) (x : α) (l : List α) (d : α) (hj : j < l.length) (h : j < i) : insTo f i x (j + 1) l = insTo f i x j l ++ [l.getD j d] := by
  unfold insTo; rw [if_neg (by omega), if_neg (by omega), take_getD l j d hj]
theorem insTo_at (i : Nat) (x : α) (l : List α) (hj : i < l.length) : insTo true i x (i + 1) l = insTo true i x i l ++ [x] := by
  unfold insTo; rw [if_pos (show i < i + 1 by omega), if_neg (show ¬ i < i by omega), if_pos rfl, List.drop_eq_nil_of_le (by simp; omega)]
theorem insTo_at2 (i : Nat) (x : α) (l : List α) (d : α) (hj : i < l.length) : insTo false i x (i + 1) l = (insTo false i x i l ++ [x]) ++ [l.getD i d] := by
  unfold insTo; rw [if_pos (show i < i + 1 by omega), if_neg (show ¬ i < i by omega), if_neg (by simp), take_getD l i d hj]
  simp [Nat.min_eq_left (Nat.le_of_lt hj)]
theorem insTo_behind (f : Bool) (i j : Nat) (x : α) (l : List α) (d : α) (hj : j < l.length) (h : i < j) : insTo f i x (j + 1) l = insTo f i x j l ++ [l.getD j d] := by
  unfold insTo; rw [if_pos (by omega), if_pos h, take_getD l j d hj, List.drop_append_of_le_length (by simp; split <;> omega)]
  simp
theorem insTo_all (f : Bool) (i : Nat) (x : α) (l : List α) (h : i < l.length) : insTo f i x l.length l = insAll f i x l := by
  unfold insTo insAll; rw [if_pos h, List.take_length]
theorem insTo_end (f : Bool) (x : α) (l : List α) : insTo f l.length x l.length l ++ [x] = insAll f l.length x l := by
  unfold insTo insAll; rw [if_neg (by omega), List.drop_eq_nil_of_le (by omega), List.take_length]
theorem insTo_len (f : Bool) (i : Nat) (x : α) (j : Nat) (l : List α) : (insTo f i x j l).length ≤ j + 1 := by
  unfold insTo
  split
  · simp; omega
  · simp; omega
theorem insTo_mem (f : Bool) (i : Nat) (x : α) (j : Nat) (l : List α) (s : α) (h : s ∈ insTo f i x j l) : s = x ∨ s ∈ l := by
  unfold insTo at h
  split at h
  · rcases List.mem_append.1 h with h | h
    · exact .inr (List.mem_of_mem_take h)
    · rcases List.mem_cons.1 h with h | h
      · exact .inl h
      · exact .inr (List.mem_of_mem_take (List.mem_of_mem_drop h))
  · exact .inr (List.mem_of_mem_take h)
theorem insAll_mem (f : Bool) (i : Nat) (x : α) (l : List α) (s : α) (h : s ∈ insAll f i x l) : s = x ∨ s ∈ l := by
  unfold insAll at h
  rcases List.mem_append.1 h with h | h
  · exact .inr (List.mem_of_mem_take h)
  · rcases List.mem_cons.1 h with h | h
    · exact .inl h
    · exact .inr (List.mem_of_mem_drop h)
theorem insAll_set (i : Nat) (x : α) (l : List α) (h : i < l.length) : insAll true i x l = l.set i x := by
  unfold insAll; rw [if_pos rfl, List.set_eq_take_append_cons_drop, if_pos h]
end
end Go.Proofs.YtnckmajfmkkpgaaGreat

/- What slices.Insert and slices.Delete make of lists that are the call's own. -/
namespace Go.Proofs.YtnckmajfmkkpgaaGreat
open Go.Shelf Go.RowKit Go.Lib

/-- The list with one entry more. -/
def InsOut (w : World) (v : Value) (n : Nat) (xs : List Value) (e : Ending) (w' : World) : Prop :=
  ∃ a' c', e = .returned (.slice a' n c') ∧ Has w' 1 (.slice a' n c') n xs ∧ Fr (fun k => v.ownBlock = some k) w w' ∧ ((Value.slice a' n c').ownBlock = v.ownBlock ∨ ∃ g, (Value.slice a' n c').ownBlock = some g ∧ w.heap.size ≤ g)
theorem range_new {w : World} {b : Nat} {x : Value} {t : TypeId} (h : w.heap[b]? = some (.cells #[x] t (0, 0))) : ∀ j v, [x][j]? = some v → w.cell? ⟨b, 0 + j, none⟩ = some v := fun j v hv => by
  have : w.rangeAt b 0 [x] := range_block h (fun j v hv => by rw [Nat.zero_add]; simpa using hv)
  exact this j v hv
theorem shape_of {w : World} {b : Nat} (h : w.there b 0 1) : ∃ t k, w.shape? b = some (t, k) ∧ k ≠ 0 := by
  have h1 := (h 0 (by omega)).1
  unfold World.shape?
  unfold World.cell? at h1
  split at h1
  · rename_i c t f hb
    simp only [hb]
    refine ⟨t, c.size, rfl, fun e => ?_⟩
    simp [Array.eq_empty_of_size_eq_zero e] at h1
  · simp at h1
theorem Fr.ownB {w W : World} {g n cap : Nat} (f : Fr (fun k => k = g) w W) : Fr (fun k => (Value.slice (some ⟨g, 0, none⟩) n cap).ownBlock = some k) w W := f.mono (fun i _ e => by rw [e]; rfl)
theorem cut_range {w : World} {b o : Nat} {xs : List Value} (h : w.rangeAt b o xs) (k : Nat) : w.rangeAt b o (xs.take k) := fun j v hv => h j v (by
  rw [List.getElem?_take] at hv; split at hv
  · exact hv
  · cases hv)
/-- In place, with room. -/
theorem has_shift {w : World} {g n cap i : Nat} {cs : List Value} (x : Value) (h : Has w 1 (.slice (some ⟨g, 0, none⟩) n cap) n cs) (hroom : n + 1 ≤ cap) (hi : i ≤ n) :
    Has ((w.drew.setCells g (0 + (i + 1)) (cs.drop i)).setCells g (0 + i) [x]) 1 (.slice (some ⟨g, 0, none⟩) (n + 1) cap) (n + 1) (cs.take i ++ x :: cs.drop i) := by
  have hl : cs.length = n := by simpa using h.1
  rcases h.2 with ⟨h2, _⟩ | ⟨g', cap', hv, hg, h1, h2, h3, h4⟩
  · cases h2
  · simp only [Value.slice.injEq, Option.some.injEq, Addr.mk.injEq, and_true, true_and] at hv
    obtain ⟨rfl, rfl⟩ := hv
    rw [Nat.mul_one] at h3
    have h3d : w.drew.there g 0 cap := (World.there_drew _ _ _ _).2 h3
    have h4d : w.drew.rangeAt g 0 cs := h4
    have sub : ∀ {W : World} (o m : Nat), W.there g 0 cap → o + m ≤ cap → W.there g o m := fun o m hh hm j hj => by have := hh (o + j) (by omega); simpa using this
    have t1 : (w.drew.setCells g (0 + (i + 1)) (cs.drop i)).there g 0 cap := World.there_setCells h3d _ _ _
    have a1 : (w.drew.setCells g (0 + (i + 1)) (cs.drop i)).rangeAt g 0 (cs.take i) := World.rangeAt_setCells_apart (cut_range h4d i) g _ _ (.inr (.inl (by simp; omega)))
    have b1 : (w.drew.setCells g (0 + (i + 1)) (cs.drop i)).rangeAt g (0 + (i + 1)) (cs.drop i) := World.rangeAt_setCells_same _ _ _ _ (sub _ _ h3d (by simp; omega))
    have f1 : Fr (fun _ => True) w ((w.drew.setCells g (0 + (i + 1)) (cs.drop i)).setCells g (0 + i) [x]) := Fr.setCells (fun _ => trivial) _ _ (Fr.setCells (fun _ => trivial) _ _ ((Fr.refl _ w).drew))
    generalize w.drew.setCells g (0 + (i + 1)) (cs.drop i) = W1 at t1 a1 b1 f1 ⊢
    have a2 : (W1.setCells g (0 + i) [x]).rangeAt g 0 (cs.take i) := World.rangeAt_setCells_apart a1 g _ _ (.inr (.inl (by simp; omega)))
    have x2 : (W1.setCells g (0 + i) [x]).rangeAt g (0 + i) [x] := World.rangeAt_setCells_same _ _ _ _ (sub _ _ t1 (by simp; omega))
    have b2 : (W1.setCells g (0 + i) [x]).rangeAt g (0 + (i + 1)) (cs.drop i) := World.rangeAt_setCells_apart b1 g _ _ (.inr (.inr (by simp)))
    have hlt : (cs.take i).length = i := by simp; omega
    refine ⟨by simp; omega, .inr ⟨g, cap, rfl, Nat.lt_of_lt_of_le hg f1.size, hroom, h2, by rw [Nat.mul_one]; exact World.there_setCells t1 _ _ _, ?_⟩⟩
    refine range_join a2 ?_
    rw [hlt]
    exact range_join (xs := [x]) x2 (by rw [Nat.add_assoc]; exact b2)
theorem has_room {w : World} {g n cap : Nat} {cs : List Value} (x : Value) (h : Has w 1 (.slice (some ⟨g, 0, none⟩) n cap) n cs) (hroom : n + 1 ≤ cap) :
    Has (w.setCells g (0 + n) [x]) 1 (.slice (some ⟨g, 0, none⟩) (n + 1) cap) (n + 1) (cs ++ [x]) := by
  have hl : cs.length = n := by simpa using h.1
  rcases h.2 with ⟨h2, _⟩ | ⟨g', cap', hv, hg, h1, h2, h3, h4⟩
  · cases h2
  · simp only [Value.slice.injEq, Option.some.injEq, Addr.mk.injEq, and_true, true_and] at hv
    obtain ⟨rfl, rfl⟩ := hv
    rw [Nat.mul_one] at h3
    have f1 : Fr (fun _ => True) w (w.setCells g (0 + n) [x]) := Fr.setCells (fun _ => trivial) _ _ (Fr.refl _ w)
    refine ⟨by simp; omega, .inr ⟨g, cap, rfl, Nat.lt_of_lt_of_le hg f1.size, hroom, h2, by rw [Nat.mul_one]; exact World.there_setCells h3 _ _ _, ?_⟩⟩
    refine range_join (World.rangeAt_setCells_apart h4 g _ _ (.inr (.inl (by omega)))) ?_
    rw [hl]
    exact World.rangeAt_setCells_same _ _ _ _ (fun j hj => by have := h3 (n + j) (by simp at hj; omega); simpa using this)
theorem has_end (w : World) (n old : Nat) (e : TypeId) (z : Value) (hz : z.cells.size = 1) (cs : List Value) (x : Value) (hl : cs.length = n) (hn : n + 1 ≤ maxLen) :
    Has (w.drew.alloc (.cells ((cs ++ [x]).toArray ++ Builtin.zeroCells z.cells (grownCap w (n + 1) old e - (n + 1))) e)) 1 (.slice (some ⟨w.heap.size, 0, none⟩) (n + 1) (grownCap w (n + 1) old e)) (n + 1) (cs ++ [x]) := by
  have hge := grownCap_ge w (n + 1) old e
  have hcm : grownCap w (n + 1) old e ≤ maxLen := grownCap_le_maxLen w (n + 1) old e hn
  have hb := heap_alloc_new w.drew (.cells ((cs ++ [x]).toArray ++ Builtin.zeroCells z.cells (grownCap w (n + 1) old e - (n + 1))) e)
  refine ⟨by simp; omega, .inr ⟨w.heap.size, _, rfl, by simp, hge, hcm, there_block hb ?_, range_block hb ?_⟩⟩
  · simp only [Array.size_append, List.size_toArray, List.length_append, List.length_singleton, size_zeroCells, hz]; omega
  · intro j u hu
    have hj : j < (cs ++ [x]).length := (List.getElem?_eq_some_iff.1 hu).1
    rw [Nat.zero_add, Array.getElem?_append_left (by simpa using hj)]
    simpa using hu
theorem has_grow (w : World) (n old i : Nat) (e : TypeId) (z : Value) (hz : z.cells.size = 1) (cs : List Value) (x : Value) (hl : cs.length = n) (hi : i < n) (hn : n + 1 ≤ maxLen) :
    Has ((((w.alloc (.cells ((cs.take i).toArray ++ Builtin.zeroCells z.cells (n + 1 - i) ++ Builtin.zeroCells z.cells (grownCap w (n + 1) old e - (n + 1))) e)).drew.setCells w.heap.size i [x]).drew).setCells w.heap.size (i + 1) (cs.drop i)) 1 (.slice (some ⟨w.heap.size, 0, none⟩) (n + 1) (grownCap w (n + 1) old e)) (n + 1) (cs.take i ++ x :: cs.drop i) := by
  have hge := grownCap_ge w (n + 1) old e
  have hcm : grownCap w (n + 1) old e ≤ maxLen := grownCap_le_maxLen w (n + 1) old e hn
  have hb := heap_alloc_new w (.cells ((cs.take i).toArray ++ Builtin.zeroCells z.cells (n + 1 - i) ++ Builtin.zeroCells z.cells (grownCap w (n + 1) old e - (n + 1))) e)
  have hlt : (cs.take i).length = i := by simp; omega
  have t0 : (w.alloc (.cells ((cs.take i).toArray ++ Builtin.zeroCells z.cells (n + 1 - i) ++ Builtin.zeroCells z.cells (grownCap w (n + 1) old e - (n + 1))) e)).drew.there w.heap.size 0 (grownCap w (n + 1) old e) := by
    refine (World.there_drew _ _ _ _).2 (there_block hb ?_)
    simp only [Array.size_append, List.size_toArray, hlt, size_zeroCells, hz]; omega
  have r0 : (w.alloc (.cells ((cs.take i).toArray ++ Builtin.zeroCells z.cells (n + 1 - i) ++ Builtin.zeroCells z.cells (grownCap w (n + 1) old e - (n + 1))) e)).drew.rangeAt w.heap.size 0 (cs.take i) := by
    refine range_block (w := (w.alloc _).drew) (by exact hb) (fun j u hu => ?_)
    have hj : j < (cs.take i).length := (List.getElem?_eq_some_iff.1 hu).1
    rw [Nat.zero_add, Array.getElem?_append_left (by simp only [Array.size_append, List.size_toArray, hlt, size_zeroCells, hz]; omega), Array.getElem?_append_left (by simpa using hj)]
    simpa using hu
  have sz0 : w.heap.size < (w.alloc (.cells ((cs.take i).toArray ++ Builtin.zeroCells z.cells (n + 1 - i) ++ Builtin.zeroCells z.cells (grownCap w (n + 1) old e - (n + 1))) e)).drew.heap.size := by simp
  generalize (w.alloc (.cells ((cs.take i).toArray ++ Builtin.zeroCells z.cells (n + 1 - i) ++ Builtin.zeroCells z.cells (grownCap w (n + 1) old e - (n + 1))) e)).drew = W0 at t0 r0 sz0 ⊢
  generalize w.heap.size = g at t0 r0 sz0 ⊢
  generalize grownCap w (n + 1) old e = cap at *
  have sub : ∀ {W : World} (o m : Nat), W.there g 0 cap → o + m ≤ cap → W.there g o m := fun o m hh hm j hj => by have := hh (o + j) (by omega); simpa using this
  have t1 : (W0.setCells g i [x]).drew.there g 0 cap := (World.there_drew _ _ _ _).2 (World.there_setCells t0 _ _ _)
  have a1 : (W0.setCells g i [x]).drew.rangeAt g 0 (cs.take i) := World.rangeAt_setCells_apart r0 g _ _ (.inr (.inl (by omega)))
  have x1 : (W0.setCells g i [x]).drew.rangeAt g i [x] := World.rangeAt_setCells_same W0 _ _ _ (sub _ _ t0 (by simp; omega))
  have f1 : Fr (fun _ => True) W0 ((W0.setCells g i [x]).drew.setCells g (i + 1) (cs.drop i)) := Fr.setCells (fun _ => trivial) _ _ (Fr.setCells (fun _ => trivial) _ _ (Fr.refl _ W0)).drew
  generalize (W0.setCells g i [x]).drew = W1 at t1 a1 x1 f1 ⊢
  have a2 : (W1.setCells g (i + 1) (cs.drop i)).rangeAt g 0 (cs.take i) := World.rangeAt_setCells_apart a1 g _ _ (.inr (.inl (by omega)))
  have x2 : (W1.setCells g (i + 1) (cs.drop i)).rangeAt g i [x] := World.rangeAt_setCells_apart x1 g _ _ (.inr (.inl (by simp)))
  have b2 : (W1.setCells g (i + 1) (cs.drop i)).rangeAt g (i + 1) (cs.drop i) := World.rangeAt_setCells_same _ _ _ _ (sub _ _ t1 (by simp; omega))
  refine ⟨by simp; omega, .inr ⟨g, cap, rfl, Nat.lt_of_lt_of_le sz0 f1.size, hge, hcm, by rw [Nat.mul_one]; exact World.there_setCells t1 _ _ _, ?_⟩⟩
  refine range_join a2 ?_
  rw [hlt, Nat.zero_add]
  exact range_join (xs := [x]) x2 (by simpa using b2)

theorem insert_s (v : Value) (n : Nat) (cs : List Value) (h1 : ∀ u ∈ cs, u.oneCell' = true) (i vb : Nat) (x : Value) (hx1 : x.oneCell' = true) (t : TypeId) (w : World) (h : Has w 1 v n cs) (hv : w.heap[vb]? = some (.cells #[x] t (0, 0))) (hne : v.ownBlock ≠ some vb) (hi : i ≤ n) (hs : n ≤ 100000) :
    Calls Tryz.prog 96 #[v, .int .i64 i, .slice (some ⟨vb, 0, none⟩) 1 1] w fun e w' => InsOut w v (n + 1) (cs.take i ++ x :: cs.drop i) e w' := by
  have hl : cs.length = n := by simpa using h.1
  have hz : (.string ⟨#[]⟩ : Value).cells.size = 1 := rfl
  have hvx := range_new hv
  have hx : ∀ u ∈ [x], u.oneCell' = true := fun u hu => by rw [List.mem_singleton.1 hu]; exact hx1
  have hbig : (n + 1) * 16 ≤ 140737488355328 := by omega
  have hmx : n + 1 ≤ maxLen := by unfold maxLen; omega
  rcases h.2 with ⟨rfl, h0⟩ | ⟨g, cap, rfl, hg, hnc, hcm, hth, hra⟩
  · have hi0 : i = 0 := by omega
    have hc0 : cs = [] := List.eq_nil_of_length_eq_zero (by omega)
    subst h0; subst hi0; subst hc0
    refine (Any2.slices_Insert_string_end_grow laysS none 0 0 vb 0 1 1 [] [x] w (by omega) (by omega) (by omega) (by omega) rfl rfl (fun _ => rfl) (fun a ha => by cases ha) hvx hx).mono ?_
    rintro e w' ⟨rfl, rfl⟩
    exact ⟨_, _, rfl, has_end w 0 0 _ _ hz [] x rfl hmx, ((Fr.refl _ w).drew).alloc _, .inr ⟨_, rfl, Nat.le_refl _⟩⟩
  · have hcm' : cap ≤ 9223372036854775807 := by unfold maxLen at hcm; omega
    rw [Nat.mul_one] at hth
    by_cases hroom : n + 1 ≤ cap
    · have hgv : vb ≠ g := fun e => hne (by rw [e]; rfl)
      rcases Nat.lt_or_eq_of_le hi with hlt | heq
      · obtain ⟨tB, kB, hsb, hkB⟩ := shape_of (w := w) (b := g) (fun j hj => hth j (by omega))
        have hsa : w.shape? vb = some (t, 1) := by unfold World.shape?; rw [hv]; rfl
        refine (Any2.slices_Insert_string_shift laysS g 0 n cap i vb 0 1 1 cs [x] w hlt (by omega) hroom hcm' hgv hl rfl hra (fun j hj => (hth j (by omega)).1) (fun j hj => (hth j (by omega)).2) hvx h1 hx t tB 1 kB hsa hsb hkB (by simp [World.frozen?, hv]) (by simp [World.frozen?, hv])).mono ?_
        rintro e w' ⟨rfl, rfl⟩
        exact ⟨_, _, rfl, has_shift x h hroom hi, Fr.ownB (Fr.setCells (S := fun k => k = g) (fun _ => rfl) _ _ (Fr.setCells (S := fun k => k = g) (fun _ => rfl) _ _ ((Fr.refl _ w).drew))), .inl rfl⟩
      · subst heq
        refine (Any2.slices_Insert_string_end_room laysS g 0 i cap vb 0 1 1 [x] w (by omega) hroom hcm' rfl (fun j hj => by have := (hth (i + j) (by omega)).1; simpa using this) (fun j hj => by have := (hth (i + j) (by omega)).2; simpa using this) hvx hx).mono ?_
        rintro e w' ⟨rfl, rfl⟩
        refine ⟨_, _, rfl, ?_, Fr.ownB (Fr.setCells (S := fun k => k = g) (fun _ => rfl) _ _ (Fr.refl _ w)), .inl rfl⟩
        have := has_room x h hroom
        rw [List.take_of_length_le (by omega), List.drop_eq_nil_of_le (by omega)]
        exact this
    · rcases Nat.lt_or_eq_of_le hi with hlt | heq
      · refine (Any2.slices_Insert_string_grow laysS g 0 n cap i vb 0 1 1 cs [x] w hlt (by omega) hnc (by omega) hbig hl rfl hra hvx h1 hx).mono ?_
        rintro e w' ⟨rfl, rfl⟩
        exact ⟨_, _, rfl, has_grow w n cap i _ _ hz cs x hl hlt hmx, Fr.setCells (fun h => absurd h (by omega)) _ _ (Fr.setCells (fun h => absurd h (by omega)) _ _ ((Fr.refl _ w).alloc _).drew).drew, .inr ⟨_, rfl, Nat.le_refl _⟩⟩
      · subst heq
        refine (Any2.slices_Insert_string_end_grow laysS (some ⟨g, 0, none⟩) i cap vb 0 1 1 cs [x] w (by omega) hnc (by omega) hbig hl rfl (fun e => by cases e) (fun a ha j u hu => by cases ha; rw [Addr.add_lit]; exact hra j u hu) hvx hx).mono ?_
        rintro e w' ⟨rfl, rfl⟩
        refine ⟨_, _, rfl, ?_, ((Fr.refl _ w).drew).alloc _, .inr ⟨_, rfl, Nat.le_refl _⟩⟩
        rw [List.take_of_length_le (by omega), List.drop_eq_nil_of_le (by omega)]
        exact has_end w i cap _ _ hz cs x hl hmx

theorem insert_i (v : Value) (n : Nat) (cs : List Value) (h1 : ∀ u ∈ cs, u.oneCell' = true) (i vb : Nat) (x : Value) (hx1 : x.oneCell' = true) (t : TypeId) (w : World) (h : Has w 1 v n cs) (hv : w.heap[vb]? = some (.cells #[x] t (0, 0))) (hne : v.ownBlock ≠ some vb) (hi : i ≤ n) (hs : n ≤ 100000) :
    Calls Tryz.prog 102 #[v, .int .i64 i, .slice (some ⟨vb, 0, none⟩) 1 1] w fun e w' => InsOut w v (n + 1) (cs.take i ++ x :: cs.drop i) e w' := by
  have hl : cs.length = n := by simpa using h.1
  have hz : (.int .i64 0 : Value).cells.size = 1 := rfl
  have hvx := range_new hv
  have hx : ∀ u ∈ [x], u.oneCell' = true := fun u hu => by rw [List.mem_singleton.1 hu]; exact hx1
  have hbig : (n + 1) * 8 ≤ 140737488355328 := by omega
  have hmx : n + 1 ≤ maxLen := by unfold maxLen; omega
  rcases h.2 with ⟨rfl, h0⟩ | ⟨g, cap, rfl, hg, hnc, hcm, hth, hra⟩
  · have hi0 : i = 0 := by omega
    have hc0 : cs = [] := List.eq_nil_of_length_eq_zero (by omega)
    subst h0; subst hi0; subst hc0
    refine (Any2.slices_Insert_int_end_grow laysI none 0 0 vb 0 1 1 [] [x] w (by omega) (by omega) (by omega) (by omega) rfl rfl (fun _ => rfl) (fun a ha => by cases ha) hvx hx).mono ?_
    rintro e w' ⟨rfl, rfl⟩
    exact ⟨_, _, rfl, has_end w 0 0 _ _ hz [] x rfl hmx, ((Fr.refl _ w).drew).alloc _, .inr ⟨_, rfl, Nat.le_refl _⟩⟩
  · have hcm' : cap ≤ 9223372036854775807 := by unfold maxLen at hcm; omega
    rw [Nat.mul_one] at hth
    by_cases hroom : n + 1 ≤ cap
    · have hgv : vb ≠ g := fun e => hne (by rw [e]; rfl)
      rcases Nat.lt_or_eq_of_le hi with hlt | heq
      · obtain ⟨tB, kB, hsb, hkB⟩ := shape_of (w := w) (b := g) (fun j hj => hth j (by omega))
        have hsa : w.shape? vb = some (t, 1) := by unfold World.shape?; rw [hv]; rfl
        refine (Any2.slices_Insert_int_shift laysI g 0 n cap i vb 0 1 1 cs [x] w hlt (by omega) hroom hcm' hgv hl rfl hra (fun j hj => (hth j (by omega)).1) (fun j hj => (hth j (by omega)).2) hvx h1 hx t tB 1 kB hsa hsb hkB (by simp [World.frozen?, hv]) (by simp [World.frozen?, hv])).mono ?_
        rintro e w' ⟨rfl, rfl⟩
        exact ⟨_, _, rfl, has_shift x h hroom hi, Fr.ownB (Fr.setCells (S := fun k => k = g) (fun _ => rfl) _ _ (Fr.setCells (S := fun k => k = g) (fun _ => rfl) _ _ ((Fr.refl _ w).drew))), .inl rfl⟩
      · subst heq
        refine (Any2.slices_Insert_int_end_room laysI g 0 i cap vb 0 1 1 [x] w (by omega) hroom hcm' rfl (fun j hj => by have := (hth (i + j) (by omega)).1; simpa using this) (fun j hj => by have := (hth (i + j) (by omega)).2; simpa using this) hvx hx).mono ?_
        rintro e w' ⟨rfl, rfl⟩
        refine ⟨_, _, rfl, ?_, Fr.ownB (Fr.setCells (S := fun k => k = g) (fun _ => rfl) _ _ (Fr.refl _ w)), .inl rfl⟩
        have := has_room x h hroom
        rw [List.take_of_length_le (by omega), List.drop_eq_nil_of_le (by omega)]
        exact this
    · rcases Nat.lt_or_eq_of_le hi with hlt | heq
      · refine (Any2.slices_Insert_int_grow laysI g 0 n cap i vb 0 1 1 cs [x] w hlt (by omega) hnc (by omega) hbig hl rfl hra hvx h1 hx).mono ?_
        rintro e w' ⟨rfl, rfl⟩
        exact ⟨_, _, rfl, has_grow w n cap i _ _ hz cs x hl hlt hmx, Fr.setCells (fun h => absurd h (by omega)) _ _ (Fr.setCells (fun h => absurd h (by omega)) _ _ ((Fr.refl _ w).alloc _).drew).drew, .inr ⟨_, rfl, Nat.le_refl _⟩⟩
      · subst heq
        refine (Any2.slices_Insert_int_end_grow laysI (some ⟨g, 0, none⟩) i cap vb 0 1 1 cs [x] w (by omega) hnc (by omega) hbig hl rfl (fun e => by cases e) (fun a ha j u hu => by cases ha; rw [Addr.add_lit]; exact hra j u hu) hvx hx).mono ?_
        rintro e w' ⟨rfl, rfl⟩
        refine ⟨_, _, rfl, ?_, ((Fr.refl _ w).drew).alloc _, .inr ⟨_, rfl, Nat.le_refl _⟩⟩
        rw [List.take_of_length_le (by omega), List.drop_eq_nil_of_le (by omega)]
        exact has_end w i cap _ _ hz cs x hl hmx

theorem fr_putRow {α : Type} [Inhabited α] (enc : α → Value) (w : World) (q g off : Nat) (d : Array α) : Fr (fun k => k = g) w (Go.Sort.putRow enc (Go.Sort.ahead w q) g off d) :=
  ⟨rfl, rfl, rfl, by simp [Go.Sort.ahead], fun k hk hn => by
    simp only [Go.Sort.putRow, Go.Sort.mapBlock, Go.Sort.ahead, Array.getElem?_modify]
    rw [if_neg (fun e => hn e.symm)]⟩
theorem del_get (l : List ByteArray) (i j : Nat) (hi : i < l.length) (u : Value) (hu : (strCells (l.eraseIdx i))[j]? = some u) :
    Value.string ⟨(((l.map fun (s : ByteArray) => s.data.toList).take i ++ (l.map fun (s : ByteArray) => s.data.toList).drop (i + 1) ++ List.replicate (i + 1 - i) []).toArray[j]!).toArray⟩ = u := by
  have hle : (l.eraseIdx i).length = l.length - 1 := by rw [List.length_eraseIdx, if_pos hi]
  have hjl : j < l.length - 1 := by
    have := (List.getElem?_eq_some_iff.1 hu).1
    simpa [strCells, hle] using this
  rw [strCells, List.getElem?_map] at hu
  have e : (l.map fun (s : ByteArray) => s.data.toList).take i ++ (l.map fun (s : ByteArray) => s.data.toList).drop (i + 1) = (l.eraseIdx i).map fun (s : ByteArray) => s.data.toList := by
    rw [List.eraseIdx_eq_take_drop_succ]; simp
  rw [e]
  rw [List.getElem?_eq_getElem (by omega)] at hu
  simp only [Option.map_some, Option.some.injEq] at hu
  rw [← hu, getElem!_pos _ j (by simp; omega), List.getElem_toArray, List.getElem_append_left (by simp; omega), List.getElem_map]
/-- The list without one of its entries. -/
theorem delete_s (v : Value) (l : List ByteArray) (i : Nat) (w : World) (h : Has w 1 v l.length (strCells l)) (hi : i < l.length) :
    Calls Tryz.prog 98 #[v, .int .i64 i, .int .i64 (i + 1 : Nat)] w fun e w' => InsOut w v (l.length - 1) (strCells (l.eraseIdx i)) e w' := by
  rcases h.2 with ⟨_, h0⟩ | ⟨g, cap, rfl, hg, hnc, hcm, hth, hra⟩
  · omega
  · have hcm' : cap ≤ 9223372036854775807 := by unfold maxLen at hcm; omega
    rw [Nat.mul_one] at hth
    have hzl : (l.map fun (s : ByteArray) => s.data.toList).length = l.length := by simp
    have hH : Go.Sort.Holds Go.Proofs.encStr w g 0 (l.map fun (s : ByteArray) => s.data.toList).toArray := fun j hj => by
      have hj' : j < l.length := by simpa using hj
      refine ⟨?_, (hth j (by omega)).2⟩
      rw [hra j (.string l[j]) (by simp [strCells, hj'])]
      simp [hj']
    have hc := Any.slices_Delete_string laysD g 0 cap i (i + 1) (l.map fun (s : ByteArray) => s.data.toList) w hH (by rw [hzl]; exact hnc) hcm' (by omega) (by rw [hzl]; omega)
    rw [hzl] at hc
    refine hc.mono ?_
    rintro e w' ⟨rfl, q, rfl⟩
    have hH2 : Go.Sort.Holds Go.Proofs.encStr (Go.Sort.ahead w q) g 0 (l.map fun (s : ByteArray) => s.data.toList).toArray := hH
    have hsz : (((l.map fun (s : ByteArray) => s.data.toList).take i ++ (l.map fun (s : ByteArray) => s.data.toList).drop (i + 1) ++ List.replicate (i + 1 - i) []).toArray).size = (l.map fun (s : ByteArray) => s.data.toList).toArray.size := by simp; omega
    have hcell := fun j hj => Go.Sort.cell?_putRow Go.Proofs.encStr (Go.Sort.ahead w q) g 0 _ _ hH2 hsz j hj
    have hle : (l.eraseIdx i).length = l.length - 1 := by rw [List.length_eraseIdx, if_pos hi]
    have hsz2 : (((l.map fun (s : ByteArray) => s.data.toList).take i ++ (l.map fun (s : ByteArray) => s.data.toList).drop (i + 1) ++ List.replicate (i + 1 - i) []).toArray).size = l.length := by rw [hsz]; simp
    refine ⟨_, _, by rw [show i + 1 - i = 1 by omega], ⟨by simp [strCells, hle], .inr ⟨g, cap, rfl, by simpa [Go.Sort.ahead] using hg, by omega, hcm, ?_, ?_⟩⟩, Fr.ownB (fr_putRow _ w q g 0 _), .inl rfl⟩
    · rw [Nat.mul_one]
      intro j hj
      refine ⟨?_, ?_⟩
      · by_cases hjl : j < l.length
        · rw [hcell j (by rw [hsz2]; exact hjl)]; rfl
        · rw [Go.Sort.cell?_putRow_other _ _ _ _ _ _ (.inr (.inr (by rw [hsz2]; show 0 + l.length ≤ 0 + j; omega)))]
          exact (hth j hj).1
      · rw [Go.Sort.frozen?_putRow]
        exact (hth j hj).2
    · intro j u hu
      have hjl : j < l.length - 1 := by
        have := (List.getElem?_eq_some_iff.1 hu).1
        simpa [strCells, hle] using this
      have hj2 : j < (((l.map fun (s : ByteArray) => s.data.toList).take i ++ (l.map fun (s : ByteArray) => s.data.toList).drop (i + 1) ++ List.replicate (i + 1 - i) []).toArray).size := by rw [hsz2]; omega
      rw [hcell j hj2]
      exact congrArg some (del_get l i j hi u hu)
end Go.Proofs.YtnckmajfmkkpgaaGreat
