
/- Has, PgArr, PgEnc3, Read4, PgRd. -/
import Derived.Test.YtnoadmkkkeianaaGreatYB1
import Derived.Deep.AppendSrc
import Derived.Deep.MidRow
import Derived.Test.YtnoadmkkkeianaaGreatYB4
/- Slices whose room may be cut short: what lies in them, and what an append makes of them. -/
namespace Go.Proofs.YtnoadmkkkeianaaGreat
open Go.RowKit

theorem Fr.setCells {S : Nat → Prop} {a : World} {b : Nat} (hb : b < a.heap.size → S b) : ∀ (vs : List Value) (o : Nat) {w : World}, Fr S a w → Fr S a (w.setCells b o vs)
  | [], _, _, h => h
  | v :: r, o, _, h => by rw [World.setCells]; exact Fr.setCells hb r (o + 1) (h.setCell (p := ⟨b, o, none⟩) hb v)

theorem range_fr {S : Nat → Prop} {w w' : World} {b o : Nat} {xs : List Value} (h : w.rangeAt b o xs) (f : Fr S w w') (hn : ¬ S b) : w'.rangeAt b o xs := fun j v hv => by
  have h1 := h j v hv
  rw [f.cell (p := ⟨b, o + j, none⟩) (World.block_lt_of_cell? w _ h1) hn]; exact h1
theorem there_fr {S : Nat → Prop} {w w' : World} {b o n : Nat} (h : w.there b o n) (f : Fr S w w') (hn : ¬ S b) : w'.there b o n := fun j hj => by
  obtain ⟨h1, h2⟩ := h j hj
  obtain ⟨u, hu⟩ := Option.isSome_iff_exists.1 h1
  have hb := f.block b (World.block_lt_of_cell? w _ hu) hn
  exact ⟨by rw [World.cell?_of_block (a := ⟨b, o + j, none⟩) hb]; exact h1, by rw [World.frozen?_of_block (a := ⟨b, o + j, none⟩) hb]; exact h2⟩
theorem range_part {w : World} {b o : Nat} {xs ys : List Value} (k : Nat) (h : w.rangeAt b o xs) (hy : ∀ j v, ys[j]? = some v → xs[k + j]? = some v) : w.rangeAt b (o + k) ys := fun j v hv => by
  rw [Nat.add_assoc]; exact h (k + j) v (hy j v hv)
theorem range_join {w : World} {b o : Nat} {xs ys : List Value} (h : w.rangeAt b o xs) (k : w.rangeAt b (o + xs.length) ys) : w.rangeAt b o (xs ++ ys) := fun j v hv => by
  rcases Nat.lt_or_ge j xs.length with hj | hj
  · rw [List.getElem?_append_left hj] at hv; exact h j v hv
  · rw [List.getElem?_append_right hj] at hv
    have := k (j - xs.length) v hv
    rwa [show o + xs.length + (j - xs.length) = o + j by omega] at this
theorem range_block {w : World} {b : Nat} {C : Array Value} {t : TypeId} {fr : Nat × Nat} (hb : w.heap[b]? = some (.cells C t fr)) {o : Nat} {xs : List Value} (hx : ∀ j v, xs[j]? = some v → C[o + j]? = some v) : w.rangeAt b o xs := fun j v hv => by
  rw [cell_of_row w b (o + j) C t fr hb]; exact hx j v hv
theorem there_block {w : World} {b : Nat} {C : Array Value} {t : TypeId} (hb : w.heap[b]? = some (.cells C t (0, 0))) {o n : Nat} (hn : o + n ≤ C.size) : w.there b o n := fun j hj => by
  refine ⟨?_, ?_⟩
  · rw [cell_of_row w b (o + j) C t _ hb, Array.getElem?_eq_getElem (by omega)]; rfl
  · simp [World.frozen?, hb]

/-- v is a slice of n elements, of size cells each, that holds xs. -/
def Has (w : World) (size : Nat) (v : Value) (n : Nat) (xs : List Value) : Prop :=
  xs.length = n * size ∧
  ((v = .slice none 0 0 ∧ n = 0) ∨
   ∃ g cap, v = .slice (some ⟨g, 0, none⟩) n cap ∧ g < w.heap.size ∧ n ≤ cap ∧ cap ≤ maxLen ∧ w.there g 0 (cap * size) ∧ w.rangeAt g 0 xs)

theorem Has.nil (w : World) (size : Nat) : Has w size (.slice none 0 0) 0 [] := ⟨by simp, .inl ⟨rfl, rfl⟩⟩
theorem Has.lt {w : World} {size : Nat} {v : Value} {n : Nat} {xs : List Value} (h : Has w size v n xs) {k : Nat} (hk : v.ownBlock = some k) : k < w.heap.size := by
  rcases h.2 with ⟨rfl, _⟩ | ⟨g, cap, rfl, hg, _⟩
  · cases hk
  · simp [Value.ownBlock] at hk; omega
theorem Has.slice {w : World} {size : Nat} {v : Value} {n : Nat} {xs : List Value} (h : Has w size v n xs) : ∃ a c, v = .slice a n c ∧ n ≤ c ∧ c ≤ maxLen := by
  rcases h.2 with ⟨rfl, rfl⟩ | ⟨g, cap, rfl, _, h1, h2, _⟩
  · exact ⟨none, 0, rfl, Nat.le_refl _, by unfold maxLen; omega⟩
  · exact ⟨_, cap, rfl, h1, h2⟩
theorem Has.form {w : World} {size : Nat} {v : Value} {n : Nat} {xs : List Value} (h : Has w size v n xs) (hn : 0 < n) : ∃ g cap, v = .slice (some ⟨g, 0, none⟩) n cap ∧ g < w.heap.size ∧ n ≤ cap ∧ cap ≤ maxLen ∧ w.there g 0 (cap * size) ∧ w.rangeAt g 0 xs := by
  rcases h.2 with ⟨_, h0⟩ | h
  · omega
  · exact h
theorem Has.fr {S : Nat → Prop} {w w' : World} {size : Nat} {v : Value} {n : Nat} {xs : List Value} (h : Has w size v n xs) (f : Fr S w w') (hn : ∀ k, v.ownBlock = some k → ¬ S k) : Has w' size v n xs := by
  refine ⟨h.1, ?_⟩
  rcases h.2 with h2 | ⟨g, cap, rfl, hg, h1, h2, h3, h4⟩
  · exact .inl h2
  · exact .inr ⟨g, cap, rfl, Nat.lt_of_lt_of_le hg f.size, h1, h2, there_fr h3 f (hn g rfl), range_fr h4 f (hn g rfl)⟩
/-- One of its elements is stored anew. -/
theorem Has.set {w : World} {size : Nat} {g n cap : Nat} {xs : List Value} (h : Has w size (.slice (some ⟨g, 0, none⟩) n cap) n xs) (k : Nat) (ys : List Value) (hy : k + ys.length ≤ xs.length) :
    Has (w.setCells g k ys) size (.slice (some ⟨g, 0, none⟩) n cap) n (xs.take k ++ ys ++ xs.drop (k + ys.length)) := by
  refine ⟨by rw [← h.1]; simp; omega, ?_⟩
  rcases h.2 with ⟨h2, _⟩ | ⟨g', cap', hv, hg, h1, h2, h3, h4⟩
  · cases h2
  · simp only [Value.slice.injEq, Option.some.injEq, Addr.mk.injEq, and_true, true_and] at hv
    obtain ⟨rfl, rfl⟩ := hv
    refine .inr ⟨g, cap, rfl, ?_, h1, h2, World.there_setCells h3 _ _ _, ?_⟩
    · have := (Fr.setCells (S := fun _ => True) (a := w) (b := g) (fun _ => trivial) ys k (Fr.refl _ w)).size
      omega
    · have ht : w.there g k ys.length := fun j hj => by
        have := h3 (k + j) (by have := h.1; have := Nat.mul_le_mul_right size h1; omega)
        simpa using this
      have hs := World.rangeAt_setCells_same w g k ys ht
      have ha : (w.setCells g k ys).rangeAt g 0 (xs.take k) := World.rangeAt_setCells_apart (fun j v hv => h4 j v (by
        rw [List.getElem?_take] at hv; split at hv
        · exact hv
        · cases hv)) g k ys (.inr (.inl (by simp; omega)))
      have hb : (w.setCells g k ys).rangeAt g (k + ys.length) (xs.drop (k + ys.length)) := World.rangeAt_setCells_apart (by
        have := range_part (ys := xs.drop (k + ys.length)) (k + ys.length) h4 (fun j v hv => by rwa [List.getElem?_drop] at hv)
        rwa [Nat.zero_add] at this) g k ys (.inr (.inr (by omega)))
      have hl : (xs.take k).length = k := by simp; omega
      exact range_join (range_join ha (by rw [hl]; simpa using hs)) (by simp only [List.length_append, hl]; simpa using hb)

section
variable {P : Program} (w : World)

/-- Where cells come from: nothing, or they lie in memory. -/
def From (w : World) (a : Option Addr) (news : List Value) : Prop := news = [] ∨ ∃ b off, a = some ⟨b, off, none⟩ ∧ w.rangeAt b off news

theorem From.src {w : World} {a : Option Addr} {news : List Value} {size m c : Nat} {tx e' : TypeId} (hx : P.underlying tx = some (.slice e')) (h : From w a news) (hl : news.length = m * size) (hsz : 0 < size) (h1 : ∀ u ∈ news, u.oneCell' = true) (hc : m = 0 → a = none → True) :
    Src P size tx (.slice a m c) m news w := by
  have two : ∀ w' : World, (∀ x, w'.cell? x = w.cell? x) → (Builtin.firstCells size m (.slice a m c)).run P w' = .ok news.toArray w' := by
    intro w' hw
    rcases h with rfl | ⟨b, off, rfl, hr⟩
    · have hm : m = 0 := by
        rcases Nat.eq_zero_or_pos m with h | h
        · exact h
        · have := Nat.mul_pos h hsz; simp at hl; omega
      subst hm
      cases a with
      | none => exact run_firstCells_none w' size 0 0 c
      | some x => exact run_firstCells_some (P := P) w' size 0 x 0 c [] (by simp) (fun j u hu => by simp at hu)
    · exact run_firstCells_some (P := P) w' size m ⟨b, off, none⟩ m c news hl (fun j u hu => by rw [Addr.add_lit, hw]; exact hr j u hu)
  exact ⟨.inl ⟨e', hx⟩, fun _ => rfl, two w (fun _ => rfl), two w.drew (fun x => by simp), by omega, h1⟩

/-- What an append makes of such a slice. -/
theorem run_append_has (t tx ty e e' : TypeId) (i : TypeInfo) (z : Value) (size bytes : Nat) (ht : P.underlying t = some (.slice e)) (hx : P.underlying tx = some (.slice e')) (hi : P.info? e = some i) (hz : i.zero = some z)
    (hsize : i.size = size) (hby : i.bytes = bytes) (hzs : z.cells.size = size) (hsz : 0 < size)
    (v : Value) (n : Nat) (xs : List Value) (hown : Has w size v n xs)
    (a : Option Addr) (m c : Nat) (news : List Value) (hl : news.length = m * size) (hnews : From w a news) (h1 : ∀ u ∈ news, u.oneCell' = true)
    (h63 : n + m ≤ maxLen) (hbytes : (n + m) * bytes ≤ 140737488355328) :
    ∃ v' w', (Builtin.append_ #[t, tx] ty #[v, .slice a m c]).run P w = .ok v' w' ∧ Has w' size v' (n + m) (xs ++ news) ∧ Fr (fun k => v.ownBlock = some k ∧ 0 < m) w w' ∧
      (v'.ownBlock = v.ownBlock ∨ v'.ownBlock = some w.heap.size) := by
  subst hsize
  subst hby
  have hsmall : n + m ≤ 9223372036854775807 := by simp only [maxLen] at h63; omega
  have hlen : (xs ++ news).length = (n + m) * i.size := by rw [List.length_append, hown.1, hl, Nat.add_mul]
  have hsrc := From.src (P := P) (c := c) hx hnews hl hsz h1 (fun _ _ => trivial)
  have grown : ∀ (old : Nat), old < n + m →
      Has (w.drew.alloc (.cells ((xs ++ news).toArray ++ Builtin.zeroCells z.cells (grownCap w (n + m) old e - (n + m))) e)) i.size (.slice (some ⟨w.heap.size, 0, none⟩) (n + m) (grownCap w (n + m) old e)) (n + m) (xs ++ news) ∧
      ∀ S, Fr S w (w.drew.alloc (.cells ((xs ++ news).toArray ++ Builtin.zeroCells z.cells (grownCap w (n + m) old e - (n + m))) e)) := by
    intro old ho
    have hge := grownCap_ge w (n + m) old e
    have hcm : grownCap w (n + m) old e ≤ maxLen := grownCap_le_maxLen w (n + m) old e h63
    have hb := heap_alloc_new w.drew (.cells ((xs ++ news).toArray ++ Builtin.zeroCells z.cells (grownCap w (n + m) old e - (n + m))) e)
    refine ⟨⟨hlen, .inr ⟨w.heap.size, _, rfl, by simp, hge, hcm, there_block hb ?_, range_block hb ?_⟩⟩, fun S => ((Fr.refl S w).drew).alloc _⟩
    · simp only [Array.size_append, List.size_toArray, hlen, size_zeroCells, hzs, ← Nat.add_mul, Nat.zero_add]
      exact Nat.mul_le_mul_right _ (by omega)
    · intro j u hu
      have hj : j < (xs ++ news).length := (List.getElem?_eq_some_iff.1 hu).1
      rw [Nat.zero_add, Array.getElem?_append_left (by simpa using hj)]
      simpa using hu
  rcases hown.2 with ⟨rfl, rfl⟩ | ⟨g, cap, rfl, hg, hnc, hcm, hth, hra⟩
  · have hxs : xs = [] := List.eq_nil_of_length_eq_zero (by simpa using hown.1)
    subst hxs
    by_cases hm : m = 0
    · subst hm
      have hn : news = [] := List.eq_nil_of_length_eq_zero (by simpa using hl)
      subst hn
      refine ⟨.slice none 0 0, w, ?_, Has.nil w i.size, Fr.refl _ _, Or.inl rfl⟩
      simp [Builtin.append_, run_underlying ht, run_underlying hx, sizeOf, typeInfo, hi, Builtin.lenOf, hsrc.cells]
    · have hr := run_append_grow_src (P := P) w t tx ty e i z ht hi hz none 0 0 [] (by simpa using run_firstCells_none w.drew i.size 0 0 0) (.slice a m c) m news hsrc (by omega) (by omega) (by
        have hb := hbytes; simp only [Nat.zero_add] at hb ⊢; rw [nextslicecap_zero (by omega)]; omega)
      have hgr := grown 0 (by omega)
      exact ⟨_, _, hr, hgr.1, hgr.2 _, Or.inr rfl⟩
  · by_cases hroom : n + m ≤ cap
    · have hfit : n * i.size + news.length ≤ cap * i.size := by rw [hl, ← Nat.add_mul]; exact Nat.mul_le_mul_right _ hroom
      have hth2 : w.there g (n * i.size) news.length := fun j hj => by
        have := hth (n * i.size + j) (by omega)
        simpa using this
      have hr := run_append_room_src (P := P) w t tx ty e i ht hi g 0 n cap (.slice a m c) m news hsrc hroom (fun j hj => by simpa using (hth2 j hj).1) (fun j hj => by simpa using (hth2 j hj).2)
      rw [Nat.zero_add] at hr
      have hfr : Fr (fun k => (Value.slice (some ⟨g, 0, none⟩) n cap).ownBlock = some k ∧ 0 < m) w (w.setCells g (n * i.size) news) := by
        by_cases hm : m = 0
        · subst hm
          have hn : news = [] := List.eq_nil_of_length_eq_zero (by simpa using hl)
          subst hn
          exact Fr.refl _ _
        · exact Fr.setCells (fun _ => ⟨rfl, by omega⟩) news _ (Fr.refl _ w)
      refine ⟨_, _, hr, ⟨hlen, .inr ⟨g, cap, rfl, Nat.lt_of_lt_of_le hg hfr.size, hroom, hcm, World.there_setCells hth _ _ _, range_join ?_ ?_⟩⟩, hfr, Or.inl rfl⟩
      · exact World.rangeAt_setCells_apart hra _ _ _ (.inr (.inl (by rw [hown.1]; omega)))
      · have := World.rangeAt_setCells_same w g (n * i.size) news hth2
        rwa [hown.1, Nat.zero_add]
    · have hold : (Builtin.firstCells i.size n (.slice (some ⟨g, 0, none⟩) n cap)).run P w.drew = .ok xs.toArray w.drew :=
        run_firstCells_some (P := P) w.drew i.size n ⟨g, 0, none⟩ n cap xs hown.1 (fun j u hu => by rw [Addr.add_lit]; simpa using hra j u hu)
      have hr := run_append_grow_src (P := P) w t tx ty e i z ht hi hz (some ⟨g, 0, none⟩) n cap xs hold (.slice a m c) m news hsrc (by omega) (by omega) (growslice_fits (by omega) hbytes)
      have hgr := grown cap (by omega)
      exact ⟨_, _, hr, hgr.1, hgr.2 _, Or.inr rfl⟩

theorem wp_append_has {o : Oper} {ac : Act} {K : Act → World → Prop} {Q : Exit → Act → World → Prop} (s x : Operand) (t tx e e' : TypeId)
    (ho : o.op = .call { callee := .builtin .append, args := #[s, x], argTypes := #[t, tx] }) (i : TypeInfo) (z : Value) (size bytes : Nat) (ht : P.underlying t = some (.slice e)) (hx : P.underlying tx = some (.slice e')) (hi : P.info? e = some i) (hz : i.zero = some z)
    (hsize : i.size = size) (hby : i.bytes = bytes) (hzs : z.cells.size = size) (hsz : 0 < size)
    (v : Value) (n : Nat) (xs : List Value) (hse : ac.eval s = v) (hown : Has w size v n xs)
    (a : Option Addr) (m c : Nat) (news : List Value) (hxe : ac.eval x = .slice a m c) (hl : news.length = m * size) (hnews : From w a news) (h1 : ∀ u ∈ news, u.oneCell' = true)
    (h63 : n + m ≤ maxLen) (hbytes : (n + m) * bytes ≤ 140737488355328)
    (h : ∀ a' c' w', Has w' size (.slice a' (n + m) c') (n + m) (xs ++ news) → Fr (fun k => v.ownBlock = some k ∧ 0 < m) w w' → ((Value.slice a' (n + m) c').ownBlock = v.ownBlock ∨ (Value.slice a' (n + m) c').ownBlock = some w.heap.size) → K (ac.put o.dst (.slice a' (n + m) c')) w') : o.wp P ac w K Q := by
  obtain ⟨v', w', hrun, h2, h3, h4⟩ := run_append_has (P := P) w t tx o.type e e' i z size bytes ht hx hi hz hsize hby hzs hsz v n xs hown a m c news hl hnews h1 h63 hbytes
  unfold Oper.wp execOp
  simp only [ho, resolve, invoke, builtin, Sem.run_bind, Sem.run_pure, Result.andThen_ok, List.map_toArray, List.map_cons, List.map_nil, hse, hxe, hrun]
  obtain ⟨a', c', rfl, _⟩ := h2.slice
  exact h a' c' w' h2 h3 h4

theorem wpList_append_has {ops : Array Oper} {rest : List Oper} {o : Oper} {ac : Act} {Q : Exit → Act → World → Prop} (hgd : o.guard = none) (s x : Operand) (t tx e e' : TypeId)
    (ho : o.op = .call { callee := .builtin .append, args := #[s, x], argTypes := #[t, tx] }) (i : TypeInfo) (z : Value) (size bytes : Nat) (ht : P.underlying t = some (.slice e)) (hx : P.underlying tx = some (.slice e')) (hi : P.info? e = some i) (hz : i.zero = some z)
    (hsize : i.size = size) (hby : i.bytes = bytes) (hzs : z.cells.size = size) (hsz : 0 < size)
    (v : Value) (n : Nat) (xs : List Value) (hse : ac.eval s = v) (hown : Has w size v n xs)
    (a : Option Addr) (m c : Nat) (news : List Value) (hxe : ac.eval x = .slice a m c) (hl : news.length = m * size) (hnews : From w a news) (h1 : ∀ u ∈ news, u.oneCell' = true)
    (h63 : n + m ≤ maxLen) (hbytes : (n + m) * bytes ≤ 140737488355328)
    (h : ∀ a' c' w', Has w' size (.slice a' (n + m) c') (n + m) (xs ++ news) → Fr (fun k => v.ownBlock = some k ∧ 0 < m) w w' → ((Value.slice a' (n + m) c').ownBlock = v.ownBlock ∨ (Value.slice a' (n + m) c').ownBlock = some w.heap.size) → wpList P ops Q rest (ac.put o.dst (.slice a' (n + m) c')) w') : wpList P ops Q (o :: rest) ac w :=
  wpList_plain hgd fun _ hK => wp_append_has w s x t tx e e' ho i z size bytes ht hx hi hz hsize hby hzs hsz v n xs hse hown a m c news hxe hl hnews h1 h63 hbytes fun a' c' w' h2 h3 h4 => hK _ _ (h a' c' w' h2 h3 h4)

theorem step_append_has {ops : Array Oper} {o : Oper} {ac : Act} {K : Act → World → Prop} {Q : Exit → Act → World → Prop} {E : Prop} (hgd : o.guard = none) (s x : Operand) (t tx e e' : TypeId)
    (ho : o.op = .call { callee := .builtin .append, args := #[s, x], argTypes := #[t, tx] }) (i : TypeInfo) (z : Value) (size bytes : Nat) (ht : P.underlying t = some (.slice e)) (hx : P.underlying tx = some (.slice e')) (hi : P.info? e = some i) (hz : i.zero = some z)
    (hsize : i.size = size) (hby : i.bytes = bytes) (hzs : z.cells.size = size) (hsz : 0 < size)
    (v : Value) (n : Nat) (xs : List Value) (hse : ac.eval s = v) (hown : Has w size v n xs)
    (a : Option Addr) (m c : Nat) (news : List Value) (hxe : ac.eval x = .slice a m c) (hl : news.length = m * size) (hnews : From w a news) (h1 : ∀ u ∈ news, u.oneCell' = true)
    (h63 : n + m ≤ maxLen) (hbytes : (n + m) * bytes ≤ 140737488355328)
    (h : ∀ a' c' w', Has w' size (.slice a' (n + m) c') (n + m) (xs ++ news) → Fr (fun k => v.ownBlock = some k ∧ 0 < m) w w' → ((Value.slice a' (n + m) c').ownBlock = v.ownBlock ∨ (Value.slice a' (n + m) c').ownBlock = some w.heap.size) → K (ac.put o.dst (.slice a' (n + m) c')) w') :
    if Region.wanted o (yielded ops ac.tmps) = true then Oper.wp P o ac w K Q else E := by
  have hw : Region.wanted o (yielded ops ac.tmps) = true := by simp [Region.wanted, hgd]
  rw [if_pos hw]
  exact wp_append_has w s x t tx e e' ho i z size bytes ht hx hi hz hsize hby hzs hsz v n xs hse hown a m c news hxe hl hnews h1 h63 hbytes h
end

/-- Lists of elements, laid cell by cell. -/
theorem flat_length {α : Type} {f : α → List Value} {size : Nat} (hf : ∀ x, (f x).length = size) (l : List α) : (l.flatMap f).length = l.length * size := by
  induction l with
  | nil => simp
  | cons x l ih => rw [List.flatMap_cons, List.length_append, hf, ih, List.length_cons, Nat.add_mul]; omega
theorem flat_drop {α : Type} {f : α → List Value} {size : Nat} (hf : ∀ x, (f x).length = size) (l : List α) (i : Nat) : (l.flatMap f).drop (i * size) = (l.drop i).flatMap f := by
  induction l generalizing i with
  | nil => simp
  | cons x l ih =>
    cases i with
    | zero => simp
    | succ i =>
      rw [List.flatMap_cons, List.drop_succ_cons, ← ih i, List.drop_append, hf, List.drop_of_length_le (by rw [hf, Nat.add_mul]; omega), List.nil_append]
      congr 1
      rw [Nat.add_mul]; omega
theorem flat_take {α : Type} {f : α → List Value} {size : Nat} (hf : ∀ x, (f x).length = size) (l : List α) (i : Nat) : (l.flatMap f).take (i * size) = (l.take i).flatMap f := by
  induction l generalizing i with
  | nil => simp
  | cons x l ih =>
    cases i with
    | zero => simp
    | succ i =>
      rw [List.flatMap_cons, List.take_succ_cons, List.flatMap_cons, ← ih i, List.take_append, hf, List.take_of_length_le (by rw [hf, Nat.add_mul]; omega)]
      congr 2
      rw [Nat.add_mul]; omega
theorem flat_get {α : Type} {f : α → List Value} {size : Nat} (hf : ∀ x, (f x).length = size) (l : List α) (i : Nat) (x : α) (h : l[i]? = some x) (j : Nat) (hj : j < size) : (l.flatMap f)[i * size + j]? = (f x)[j]? := by
  rw [← List.getElem?_drop, flat_drop hf]
  obtain ⟨hi, rfl⟩ := List.getElem?_eq_some_iff.1 h
  rw [List.drop_eq_getElem_cons hi, List.flatMap_cons, List.getElem?_append_left (by rw [hf]; exact hj)]
/-- An element of such a slice. -/
theorem Has.elem {α : Type} {f : α → List Value} {w : World} {size g n cap : Nat} {l : List α} (h : Has w size (.slice (some ⟨g, 0, none⟩) n cap) n (l.flatMap f)) (hf : ∀ x, (f x).length = size) {i : Nat} {x : α} (hx : l[i]? = some x) : w.rangeAt g (i * size) (f x) := by
  rcases h.2 with ⟨h2, _⟩ | ⟨g', cap', hv, hg, h1, h2, h3, h4⟩
  · cases h2
  · simp only [Value.slice.injEq, Option.some.injEq, Addr.mk.injEq, and_true, true_and] at hv
    obtain ⟨rfl, rfl⟩ := hv
    intro j v hj
    have hlt : j < size := by have := (List.getElem?_eq_some_iff.1 hj).1; rwa [hf] at this
    have := h4 (i * size + j) v (by rw [flat_get hf l i x hx j hlt]; exact hj)
    rwa [Nat.zero_add] at this
/-- One element is stored anew. -/
theorem Has.put {α : Type} {f : α → List Value} {w : World} {size g n cap : Nat} {l : List α} (h : Has w size (.slice (some ⟨g, 0, none⟩) n cap) n (l.flatMap f)) (hf : ∀ x, (f x).length = size) {i : Nat} (hi : i < l.length) (y : α) :
    Has (w.setCells g (i * size) (f y)) size (.slice (some ⟨g, 0, none⟩) n cap) n ((l.set i y).flatMap f) := by
  have hle : (i + 1) * size ≤ l.length * size := Nat.mul_le_mul_right _ hi
  rw [Nat.add_mul] at hle
  have := h.set (i * size) (f y) (by rw [hf, flat_length hf]; omega)
  rw [hf, flat_take hf, show i * size + size = (i + 1) * size by rw [Nat.add_mul]; omega, flat_drop hf] at this
  rw [List.set_eq_take_append_cons_drop, if_pos hi, List.flatMap_append, List.flatMap_cons]
  simpa [List.append_assoc] using this
end Go.Proofs.YtnoadmkkkeianaaGreat

/- An array that a call makes: how it is laid, and what is copied into it. -/
namespace Go.Proofs.YtnoadmkkkeianaaGreat
open Go.RowKit Crcm

section
variable {P : Program}
theorem step_of {ops : Array Oper} {o : Oper} {ac : Act} {w : World} {K : Act → World → Prop} {Q : Exit → Act → World → Prop} {E : Prop} (hgd : o.guard = none) (h : Oper.wp P o ac w K Q) : if Region.wanted o (yielded ops ac.tmps) = true then Oper.wp P o ac w K Q else E := by
  have hw : Region.wanted o (yielded ops ac.tmps) = true := by simp [Region.wanted, hgd]
  rw [if_pos hw]
  exact h
theorem wp_alloc {o : Oper} {a : Act} {w : World} {K : Act → World → Prop} {Q : Exit → Act → World → Prop} (t : TypeId) (ho : o.op = .alloc t) (i : TypeInfo) (z : Value) (hi : P.info? t = some i) (hz : i.zero = some z)
    (h : K (a.put o.dst (.pointer (some ⟨w.heap.size, 0, none⟩))) (w.alloc (.cells z.cells t))) : o.wp P a w K Q := by
  have hzz : (zeroValue t).run P w = .ok z w := by simp [zeroValue, typeInfo, hi, hz]
  have hrun : (Instr.alloc t true (Value.tuple #[])).run P w = .ok (.pointer (some ⟨w.heap.size, 0, none⟩)) (w.alloc (.cells z.cells t)) := by
    simp [Instr.alloc, hzz, newVar, newRow]
  unfold Oper.wp execOp
  simp only [ho, Sem.run_bind, hrun, Result.andThen_ok]
  exact h
theorem wpList_alloc {ops : Array Oper} {rest : List Oper} {o : Oper} {a : Act} {w : World} {Q : Exit → Act → World → Prop} (hgd : o.guard = none) (t : TypeId) (ho : o.op = .alloc t) (i : TypeInfo) (z : Value) (hi : P.info? t = some i) (hz : i.zero = some z)
    (h : wpList P ops Q rest (a.put o.dst (.pointer (some ⟨w.heap.size, 0, none⟩))) (w.alloc (.cells z.cells t))) : wpList P ops Q (o :: rest) a w :=
  wpList_plain hgd fun _ hK => wp_alloc t ho i z hi hz (hK _ _ h)
theorem run_copy_arr (w : World) (ty dT sT : TypeId) (hu : P.underlying dT = some (.slice 5)) (hs : (P.info? 5).map (·.size) = some 1) (b off dLen dCap : Nat) (ad : Option Addr) (n cap : Nat) (l : List Nat) (hn : n = l.length) (hle : l.length ≤ dLen) (hr : Row w ad cap l) (ht : w.there b off l.length) :
    (Builtin.copy_ #[dT, sT] ty #[.slice (some ⟨b, off, none⟩) dLen dCap, .slice ad n cap]).run P w = .ok (goInt l.length) (w.setCells b off (cellsOf l)) := by
  subst hn
  rcases hr.at_ with h0 | ⟨b', off', rfl, _, hc⟩
  · subst h0
    exact run_copy_none w dT sT _ 5 _ _ dLen dCap 0 cap hu hs (by simp)
  · have := run_copy_cells (P := P) w dT sT ty 5 b off dLen dCap ⟨b', off', none⟩ l.length cap (cellsOf l) hu hs (by rw [cellsOf_length]; exact (Nat.min_eq_left hle).symm) (fun j v hv => by
      rw [Addr.add_lit]
      have hj : j < l.length := by have := (List.getElem?_eq_some_iff.1 hv).1; rwa [cellsOf_length] at this
      rw [cellsOf_get l j hj] at hv
      rw [hc j hj]; exact hv) (fun j hj => (ht j (by rwa [cellsOf_length] at hj)).1) (fun j hj => (ht j (by rwa [cellsOf_length] at hj)).2) (cellsOf_oneCell l)
    rwa [cellsOf_length] at this
end

def z256 : List Nat := List.replicate 256 0
theorem z256_length : z256.length = 256 := List.length_replicate
theorem z256_drop (k : Nat) : z256.drop k = List.replicate (256 - k) 0 := List.drop_replicate
theorem z256_octs : octs z256 := fun x hx => by have := (List.mem_replicate.1 hx).2; omega
/-- A slice over a whole array of so many bytes. -/
abbrev Arr (w : World) (g : Nat) (l : List Nat) : Prop := Has w 1 (.slice (some ⟨g, 0, none⟩) 256 256) 256 (cellsOf l)
theorem Arr.new (w : World) (t : TypeId) (l : List Nat) (hl : l.length = 256) : Arr (w.alloc (.cells (cellsOf l).toArray t)) w.heap.size l := by
  refine ⟨by rw [cellsOf_length, hl], .inr ⟨w.heap.size, 256, rfl, by simp, Nat.le_refl _, by unfold maxLen; omega, ?_, ?_⟩⟩
  · exact there_block (heap_alloc_new w _) (by simp [cellsOf_length, hl])
  · exact range_block (heap_alloc_new w _) (fun j v hv => by rw [Nat.zero_add]; simpa using hv)
theorem Arr.length {w : World} {g : Nat} {l : List Nat} (h : Arr w g l) : l.length = 256 := by have := h.1; rw [cellsOf_length] at this; omega
theorem Arr.there {w : World} {g : Nat} {l : List Nat} (h : Arr w g l) : w.there g 0 256 := by
  rcases h.2 with ⟨e, _⟩ | ⟨g', cap, e, _, _, _, ht, _⟩
  · cases e
  · simp only [Value.slice.injEq, Option.some.injEq, Addr.mk.injEq, and_true, true_and] at e
    obtain ⟨rfl, rfl⟩ := e
    simpa using ht
theorem Arr.lt {w : World} {g : Nat} {l : List Nat} (h : Arr w g l) : g < w.heap.size := Has.lt h rfl
theorem Arr.range {w : World} {g : Nat} {l : List Nat} (h : Arr w g l) : w.rangeAt g 0 (cellsOf l) := by
  rcases h.2 with ⟨e, _⟩ | ⟨g', cap, e, _, _, _, _, hr⟩
  · cases e
  · simp only [Value.slice.injEq, Option.some.injEq, Addr.mk.injEq, and_true, true_and] at e
    obtain ⟨rfl, rfl⟩ := e
    exact hr
theorem Arr.row {w : World} {g : Nat} {l : List Nat} (h : Arr w g l) (ho : octs l) (k : Nat) (hk : k ≤ 256) (cap : Nat) (hc : k ≤ cap) (hc2 : cap ≤ 256) : Row w (some ⟨g, 0, none⟩) cap (l.take k) := by
  have hl := h.length
  refine ⟨by simp; omega, by omega, by simp; omega, octs_take ho k, .inr ⟨g, 0, rfl, h.lt, fun i hi => ?_⟩⟩
  rw [List.length_take] at hi
  have := h.range i (.int .u8 ((l.getD i 0 : Nat) : Int)) (cellsOf_get l i (by omega))
  rw [this, List.getD_eq_getElem?_getD, List.getD_eq_getElem?_getD, List.getElem?_take, if_pos (by omega)]
theorem Arr.set {w : World} {g : Nat} {l : List Nat} (h : Arr w g l) (k : Nat) (m : List Nat) (hm : k + m.length ≤ 256) : Arr (w.setCells g k (cellsOf m)) g (l.take k ++ m ++ l.drop (k + m.length)) := by
  have hl := h.length
  have := Has.set h k (cellsOf m) (by rw [cellsOf_length, cellsOf_length, hl]; exact hm)
  rw [cellsOf_length] at this
  unfold Arr
  rw [cellsOf_append, cellsOf_append]
  simpa [cellsOf, List.map_take, List.map_drop] using this
end Go.Proofs.YtnoadmkkkeianaaGreat

/- What page.Encode makes. -/
namespace Go.Proofs.YtnoadmkkkeianaaGreat
open Go.RowKit Crcm

theorem pad_is (l : List Nat) (h : l.length ≤ 252) : (z256.take 0 ++ l ++ z256.drop (0 + l.length)).take 252 = pad l := by
  rw [z256_drop, List.take_zero, List.nil_append, pad, List.take_append, List.take_of_length_le h, List.take_replicate]
  congr 2; omega
theorem pg_is (l : List Nat) (h : l.length ≤ 252) (t : List Nat) (ht : t.length = 4) : (z256.take 0 ++ l ++ z256.drop (0 + l.length)).take 252 ++ t ++ (z256.take 0 ++ l ++ z256.drop (0 + l.length)).drop (252 + t.length) = pad l ++ t := by
  rw [pad_is l h]
  have : ((z256.take 0 ++ l ++ z256.drop (0 + l.length)).drop (252 + t.length)) = [] := List.drop_eq_nil_of_le (by rw [z256_drop]; simp; omega)
  rw [this, List.append_nil]

theorem Fr.set_new {W0 W : World} (f : Fr (fun _ => False) W0 W) {g : Nat} (hg : W0.heap.size ≤ g) (vs : List Value) (o : Nat) : Fr (fun _ => False) W0 (W.setCells g o vs) :=
  Fr.setCells (S := fun _ => False) (b := g) (fun hh => absurd hh (by omega)) vs o f
theorem Arr.some {w : World} {g : Nat} {l : List Nat} (h : Arr w g l) (k n : Nat) (hn : k + n ≤ 256) : w.there g k n := fun j hj => by
  have := h.there (k + j) (by omega)
  simpa using this

end Go.Proofs.YtnoadmkkkeianaaGreat

/- What the reader's calls tell, each in one form: by a plain function of what is left and the reader's error. -/
namespace Go.Proofs.YtnoadmkkkeianaaGreat
open Go.RowKit

/-- A reader's state: what is left, and its error. -/
abbrev RS : Type := List Nat × Int
def sizedP (s : Int) : Prop := s = 1 ∨ s = 2 ∨ s = 4 ∨ s = 8
/-- Num: the number, what is told, the state behind. -/
def numS (st : RS) (size : Int) : Int × Int × RS :=
  if ¬ (size = 1 ∨ size = 2 ∨ size = 4 ∨ size = 8) then (0, 1, st)
  else if ¬ st.2 = 0 then (0, st.2, st)
  else if (st.1.length : Int) < size then (0, 10, (st.1, 10))
  else if 9223372036854775808 ≤ val (st.1.take size.toNat) then (0, 1, (st.1, 1))
  else ((val (st.1.take size.toNat) : Int), 0, (st.1.drop size.toNat, 0))
/-- Text: the text's bytes, what is told, the state behind. -/
def textS (st : RS) (most : Int) : List Nat × Int × RS :=
  if most < 0 then ([], 1, st)
  else if ¬ st.2 = 0 then ([], st.2, st)
  else if st.1.length < 2 then ([], 10, (st.1, 10))
  else if st.1.length < 2 + val (st.1.take 2) then ([], 10, (st.1, 10))
  else if most < val (st.1.take 2) then ([], 2, (st.1, 2))
  else ((st.1.drop 2).take (val (st.1.take 2)), 0, (st.1.drop (2 + val (st.1.take 2)), 0))

/-- Where a reader's bytes lie behind a call: where they lay, or nowhere. -/
def Near (a a' : Option Addr) : Prop := ∀ b off sp, a' = some ⟨b, off, sp⟩ → ∃ o s, a = some ⟨b, o, s⟩
theorem Near.refl (a : Option Addr) : Near a a := fun _ off sp e => ⟨off, sp, e⟩

theorem rnum_all (size : Int) (rb : Nat) (a : Option Addr) (cap : Nat) (st : RS) (w : World) (h : Rd w rb a cap st.1 st.2) :
    Calls Tryz.prog 73 #[.pointer (some ⟨rb, 0, none⟩), .int .i64 size] w fun e w' => e = .returned (.tuple #[.int .i64 (numS st size).1, .int .i64 (numS st size).2.1]) ∧
      ∃ a' c', Rd w' rb a' c' (numS st size).2.2.1 (numS st size).2.2.2 ∧ Fr (fun k => k = rb) w w' ∧ Near a a' := by
  obtain ⟨l, err⟩ := st
  by_cases hs : size = 1 ∨ size = 2 ∨ size = 4 ∨ size = 8
  · obtain ⟨sz, rfl⟩ := Int.eq_ofNat_of_zero_le (a := size) (by omega)
    by_cases he : err = 0
    · subst he
      by_cases hlt : l.length < sz
      · have e : numS (l, 0) sz = (0, 10, (l, 10)) := by unfold numS; rw [if_neg (not_not_intro hs), if_neg (by simp), if_pos (by simpa using hlt)]
        rw [e]
        refine (rnum_cut sz hs rb a cap l hlt w h).mono ?_
        rintro e w' ⟨rfl, hrd, hf⟩
        exact ⟨rfl, a, cap, hrd, hf, Near.refl a⟩
      · by_cases hv : 9223372036854775808 ≤ val (l.take sz)
        · have e : numS (l, 0) sz = (0, 1, (l, 1)) := by unfold numS; rw [if_neg (not_not_intro hs), if_neg (by simp), if_neg (by simpa using hlt), if_pos (by simpa using hv)]
          rw [e]
          refine (rnum_big sz hs rb a cap l (by omega) hv w h).mono ?_
          rintro e w' ⟨rfl, hrd, hf⟩
          exact ⟨rfl, a, cap, hrd, hf, Near.refl a⟩
        · have e : numS (l, 0) sz = ((val (l.take sz) : Int), 0, (l.drop sz, 0)) := by unfold numS; rw [if_neg (not_not_intro hs), if_neg (by simp), if_neg (by simpa using hlt), if_neg (by simpa using hv)]; rfl
          rw [e]
          refine (rnum_ok sz hs rb a cap l (by omega) (by omega) w h).mono ?_
          rintro e w' ⟨rfl, a', c', hrd, hf, hn⟩
          exact ⟨rfl, a', c', hrd, hf, hn⟩
    · have e : numS (l, err) sz = (0, err, (l, err)) := by unfold numS; rw [if_neg (not_not_intro hs), if_pos (by simpa using he)]
      rw [e]
      refine (rnum_stop sz hs rb a cap l err he w h).mono ?_
      rintro e w' ⟨rfl, rfl⟩
      exact ⟨rfl, a, cap, h, Fr.refl _ _, Near.refl a⟩
  · have e : numS (l, err) size = (0, 1, (l, err)) := by unfold numS; rw [if_pos hs]
    rw [e]
    refine (rnum_arg (some ⟨rb, 0, none⟩) size (fun e => hs (.inl e)) (fun e => hs (.inr (.inl e))) (fun e => hs (.inr (.inr (.inl e)))) (fun e => hs (.inr (.inr (.inr e)))) w).mono ?_
    rintro e w' ⟨rfl, rfl⟩
    exact ⟨rfl, a, cap, h, Fr.refl _ _, Near.refl a⟩

theorem rtext_all (most : Int) (rb : Nat) (a : Option Addr) (cap : Nat) (st : RS) (w : World) (h : Rd w rb a cap st.1 st.2) :
    Calls Tryz.prog 74 #[.pointer (some ⟨rb, 0, none⟩), .int .i64 most] w fun e w' => e = .returned (.tuple #[.string (strOf (textS st most).1), .int .i64 (textS st most).2.1]) ∧
      ∃ a' c', Rd w' rb a' c' (textS st most).2.2.1 (textS st most).2.2.2 ∧ Fr (fun k => k = rb) w w' ∧ Near a a' := by
  obtain ⟨l, err⟩ := st
  by_cases hm : most < 0
  · have e : textS (l, err) most = ([], 1, (l, err)) := by unfold textS; rw [if_pos hm]
    rw [e]
    refine (rtext_arg (some ⟨rb, 0, none⟩) most hm w).mono ?_
    rintro e w' ⟨rfl, rfl⟩
    exact ⟨rfl, a, cap, h, Fr.refl _ _, Near.refl a⟩
  · by_cases he : err = 0
    · subst he
      by_cases h2 : l.length < 2
      · have e : textS (l, 0) most = ([], 10, (l, 10)) := by unfold textS; rw [if_neg hm, if_neg (by simp), if_pos h2]
        rw [e]
        refine (rtext_cut0 most hm rb a cap l h2 w h).mono ?_
        rintro e w' ⟨rfl, hrd, hf⟩
        exact ⟨rfl, a, cap, hrd, hf, Near.refl a⟩
      · by_cases hv : l.length < 2 + val (l.take 2)
        · have e : textS (l, 0) most = ([], 10, (l, 10)) := by unfold textS; rw [if_neg hm, if_neg (by simp), if_neg h2, if_pos hv]
          rw [e]
          refine (rtext_bad most hm rb a cap l (by omega) 10 (.inl ⟨hv, rfl⟩) w h).mono ?_
          rintro e w' ⟨rfl, hrd, hf⟩
          exact ⟨rfl, a, cap, hrd, hf, Near.refl a⟩
        · by_cases hlong : most < val (l.take 2)
          · have e : textS (l, 0) most = ([], 2, (l, 2)) := by unfold textS; rw [if_neg hm, if_neg (by simp), if_neg h2, if_neg hv, if_pos hlong]
            rw [e]
            refine (rtext_bad most hm rb a cap l (by omega) 2 (.inr ⟨by omega, hlong, rfl⟩) w h).mono ?_
            rintro e w' ⟨rfl, hrd, hf⟩
            exact ⟨rfl, a, cap, hrd, hf, Near.refl a⟩
          · have e : textS (l, 0) most = ((l.drop 2).take (val (l.take 2)), 0, (l.drop (2 + val (l.take 2)), 0)) := by unfold textS; rw [if_neg hm, if_neg (by simp), if_neg h2, if_neg hv, if_neg hlong]
            rw [e]
            refine (rtext_ok most hm rb a cap l (by omega) (by omega) w h).mono ?_
            rintro e w' ⟨rfl, a', c', hrd, hf, hn⟩
            exact ⟨rfl, a', c', hrd, hf, hn⟩
    · have e : textS (l, err) most = ([], err, (l, err)) := by unfold textS; rw [if_neg hm, if_pos (by simpa using he)]
      rw [e]
      refine (rtext_stop most hm rb a cap l err he w h).mono ?_
      rintro e w' ⟨rfl, rfl⟩
      exact ⟨rfl, a, cap, h, Fr.refl _ _, Near.refl a⟩
end Go.Proofs.YtnoadmkkkeianaaGreat

/- What page's reader tells: num and text, by plain functions of what is left, the error, and whether one failed. -/
namespace Go.Proofs.YtnoadmkkkeianaaGreat
open Go.RowKit Crcm

/-- A reader's state: what is left, its error, and whether something could not be read. -/
abbrev RF : Type := RS × Bool
def numF (s : RF) (size : Int) : Int × RF := ((numS s.1 size).1, ((numS s.1 size).2.2, s.2 || decide ((numS s.1 size).2.1 ≠ 0)))
def textF (s : RF) (most : Int) : ByteArray × RF := (strOf (textS s.1 most).1, ((textS s.1 most).2.2, s.2 || decide ((textS s.1 most).2.1 ≠ 0)))

/-- Page's reader at block qb over wire's at block rb. -/
structure Rr (w : World) (qb rb : Nat) (a : Option Addr) (cap : Nat) (s : RF) : Prop where
  box : w.heap[qb]? = some (.cells #[.pointer (some ⟨rb, 0, none⟩), .bool s.2] 133 (0, 0))
  rd : Rd w rb a cap s.1.1 s.1.2
  ne : qb ≠ rb
  far : ∀ b off sp, a = some ⟨b, off, sp⟩ → b ≠ qb
def rrS (qb rb : Nat) : Nat → Prop := fun k => k = qb ∨ k = rb
theorem Rr.fr {S : Nat → Prop} {w w' : World} {qb rb : Nat} {a : Option Addr} {cap : Nat} {s : RF} (h : Rr w qb rb a cap s) (f : Fr S w w') (h1 : ¬ S qb) (h2 : ¬ S rb) (h3 : ∀ b off sp, a = some ⟨b, off, sp⟩ → ¬ S b) : Rr w' qb rb a cap s :=
  ⟨by rw [f.block qb (lt_of_block h.box) h1]; exact h.box, ⟨by rw [f.block rb (lt_of_block h.rd.box) h2]; exact h.rd.box, h.rd.row.fr f h3, h.rd.far⟩, h.ne, h.far⟩
theorem Rr.same {w w' : World} {qb rb : Nat} {a : Option Addr} {cap : Nat} {s : RF} (h : Rr w qb rb a cap s) (f : Fr (fun _ => False) w w') : Rr w' qb rb a cap s := h.fr f (fun f => f) (fun f => f) (fun _ _ _ _ f => f)

theorem or_ne {e : Int} : (e != 0) = decide (e ≠ 0) := by
  rw [Bool.eq_iff_iff]; simp
set_option maxRecDepth 100000 in
set_option maxHeartbeats 1000000 in
theorem pnum_any (size : Int) (qb rb : Nat) (a : Option Addr) (cap : Nat) (s : RF) (w : World) (h : Rr w qb rb a cap s) :
    Calls Tryz.prog 94 #[.pointer (some ⟨qb, 0, none⟩), .int .i64 size] w fun e w' => e = .returned (.int .i64 (numF s size).1) ∧
      ∃ a' c', Rr w' qb rb a' c' (numF s size).2 ∧ Fr (rrS qb rb) w w' ∧ Near a a' := by
  obtain ⟨h0, h1, g0, g1⟩ := cell_of_two h.box
  have HN := rnum_all size rb a cap s.1 w h.rd
  obtain ⟨st, fl⟩ := s
  simp only at h0 h1 HN
  have HF : Hid (numF (st, fl) size = ((numS st size).1, ((numS st size).2.2, fl || decide ((numS st size).2.1 ≠ 0)))) := rfl
  rw [HF.out]
  obtain ⟨x, hx⟩ : ∃ x, x = (numS st size).1 := ⟨_, rfl⟩
  obtain ⟨er, her⟩ : ∃ x, x = (numS st size).2.1 := ⟨_, rfl⟩
  obtain ⟨st', hst⟩ : ∃ x, x = (numS st size).2.2 := ⟨_, rfl⟩
  rw [← hx, ← her, ← hst] at HN ⊢
  clear hx her hst HF
  have hq := lt_of_block h.box
  cases fl with
  | true =>
    go_enter Tryz.func94, Tryz.ntmps94
    go_wp2_with fail
    refine HN.mono ?_
    rintro e w1 ⟨rfl, a1, c1, r1, f1, n1⟩
    have hb1 : w1.heap[qb]? = some (.cells #[.pointer (some ⟨rb, 0, none⟩), .bool true] 133 (0, 0)) := by rw [f1.block qb hq h.ne]; exact h.box
    obtain ⟨k0, k1, k2, k3⟩ := cell_of_two hb1
    have f2 : Fr (fun k => k = qb) w1 (w1.setCell ⟨qb, 1, none⟩ (.bool true)) := (Fr.refl (fun k => k = qb) w1).setCell (p := ⟨qb, 1, none⟩) (fun _ => rfl) _
    go_wp2
    go_ret
    refine ⟨rfl, a1, c1, ⟨two_setCell1 hb1, ⟨by rw [f2.block rb (lt_of_block r1.box) (fun e => h.ne e.symm)]; exact r1.box, r1.row.fr f2 (fun b off sp e => by obtain ⟨o, t, e2⟩ := n1 b off sp e; exact h.far b o t e2), r1.far⟩, h.ne, fun b off sp e => by obtain ⟨o, t, e2⟩ := n1 b off sp e; exact h.far b o t e2⟩, (f1.mono (fun i _ e => .inr e)).trans f2 (fun i _ e => .inl e), n1⟩
  | false =>
    go_enter Tryz.func94, Tryz.ntmps94
    go_wp2_with fail
    refine HN.mono ?_
    rintro e w1 ⟨rfl, a1, c1, r1, f1, n1⟩
    have hb1 : w1.heap[qb]? = some (.cells #[.pointer (some ⟨rb, 0, none⟩), .bool false] 133 (0, 0)) := by rw [f1.block qb hq h.ne]; exact h.box
    obtain ⟨k0, k1, k2, k3⟩ := cell_of_two hb1
    have f2 : Fr (fun k => k = qb) w1 (w1.setCell ⟨qb, 1, none⟩ (.bool (decide (er ≠ 0)))) := (Fr.refl (fun k => k = qb) w1).setCell (p := ⟨qb, 1, none⟩) (fun _ => rfl) _
    have OE : Hid ((er != 0) = decide (er ≠ 0)) := or_ne
    go_wp2
    rw [OE.out]
    go_ret
    refine ⟨rfl, a1, c1, ⟨by rw [Bool.false_or]; exact two_setCell1 hb1, ⟨by rw [f2.block rb (lt_of_block r1.box) (fun e => h.ne e.symm)]; exact r1.box, r1.row.fr f2 (fun b off sp e => by obtain ⟨o, t, e2⟩ := n1 b off sp e; exact h.far b o t e2), r1.far⟩, h.ne, fun b off sp e => by obtain ⟨o, t, e2⟩ := n1 b off sp e; exact h.far b o t e2⟩, (f1.mono (fun i _ e => .inr e)).trans f2 (fun i _ e => .inl e), n1⟩
set_option maxRecDepth 100000 in
set_option maxHeartbeats 1000000 in
theorem ptext_any (most : Int) (qb rb : Nat) (a : Option Addr) (cap : Nat) (s : RF) (w : World) (h : Rr w qb rb a cap s) :
    Calls Tryz.prog 95 #[.pointer (some ⟨qb, 0, none⟩), .int .i64 most] w fun e w' => e = .returned (.string (textF s most).1) ∧
      ∃ a' c', Rr w' qb rb a' c' (textF s most).2 ∧ Fr (rrS qb rb) w w' ∧ Near a a' := by
  obtain ⟨h0, h1, g0, g1⟩ := cell_of_two h.box
  have HN := rtext_all most rb a cap s.1 w h.rd
  obtain ⟨st, fl⟩ := s
  simp only at h0 h1 HN
  have HF : Hid (textF (st, fl) most = (strOf (textS st most).1, ((textS st most).2.2, fl || decide ((textS st most).2.1 ≠ 0)))) := rfl
  rw [HF.out]
  obtain ⟨x, hx⟩ : ∃ x, x = strOf (textS st most).1 := ⟨_, rfl⟩
  obtain ⟨er, her⟩ : ∃ x, x = (textS st most).2.1 := ⟨_, rfl⟩
  obtain ⟨st', hst⟩ : ∃ x, x = (textS st most).2.2 := ⟨_, rfl⟩
  rw [← hx, ← her, ← hst] at HN ⊢
  clear hx her hst HF
  have hq := lt_of_block h.box
  cases fl with
  | true =>
    go_enter Tryz.func95, Tryz.ntmps95
    go_wp2_with fail
    refine HN.mono ?_
    rintro e w1 ⟨rfl, a1, c1, r1, f1, n1⟩
    have hb1 : w1.heap[qb]? = some (.cells #[.pointer (some ⟨rb, 0, none⟩), .bool true] 133 (0, 0)) := by rw [f1.block qb hq h.ne]; exact h.box
    obtain ⟨k0, k1, k2, k3⟩ := cell_of_two hb1
    have f2 : Fr (fun k => k = qb) w1 (w1.setCell ⟨qb, 1, none⟩ (.bool true)) := (Fr.refl (fun k => k = qb) w1).setCell (p := ⟨qb, 1, none⟩) (fun _ => rfl) _
    go_wp2
    go_ret
    refine ⟨rfl, a1, c1, ⟨two_setCell1 hb1, ⟨by rw [f2.block rb (lt_of_block r1.box) (fun e => h.ne e.symm)]; exact r1.box, r1.row.fr f2 (fun b off sp e => by obtain ⟨o, t, e2⟩ := n1 b off sp e; exact h.far b o t e2), r1.far⟩, h.ne, fun b off sp e => by obtain ⟨o, t, e2⟩ := n1 b off sp e; exact h.far b o t e2⟩, (f1.mono (fun i _ e => .inr e)).trans f2 (fun i _ e => .inl e), n1⟩
  | false =>
    go_enter Tryz.func95, Tryz.ntmps95
    go_wp2_with fail
    refine HN.mono ?_
    rintro e w1 ⟨rfl, a1, c1, r1, f1, n1⟩
    have hb1 : w1.heap[qb]? = some (.cells #[.pointer (some ⟨rb, 0, none⟩), .bool false] 133 (0, 0)) := by rw [f1.block qb hq h.ne]; exact h.box
    obtain ⟨k0, k1, k2, k3⟩ := cell_of_two hb1
    have f2 : Fr (fun k => k = qb) w1 (w1.setCell ⟨qb, 1, none⟩ (.bool (decide (er ≠ 0)))) := (Fr.refl (fun k => k = qb) w1).setCell (p := ⟨qb, 1, none⟩) (fun _ => rfl) _
    have OE : Hid ((er != 0) = decide (er ≠ 0)) := or_ne
    go_wp2
    rw [OE.out]
    go_ret
    refine ⟨rfl, a1, c1, ⟨by rw [Bool.false_or]; exact two_setCell1 hb1, ⟨by rw [f2.block rb (lt_of_block r1.box) (fun e => h.ne e.symm)]; exact r1.box, r1.row.fr f2 (fun b off sp e => by obtain ⟨o, t, e2⟩ := n1 b off sp e; exact h.far b o t e2), r1.far⟩, h.ne, fun b off sp e => by obtain ⟨o, t, e2⟩ := n1 b off sp e; exact h.far b o t e2⟩, (f1.mono (fun i _ e => .inr e)).trans f2 (fun i _ e => .inl e), n1⟩
end Go.Proofs.YtnoadmkkkeianaaGreat
