
/- Has, PgArr, PgEnc3. -/
import Derived.Test.YtcmkpmilnplhmaaWT1
import Derived.Deep.AppendSrc
import Derived.Deep.MidRow
import Derived.Test.YtcmkpmilnplhmaaWT9
/- Slices whose room may be cut short: what lies in them, and what an append makes of them. -/
namespace Go.Proofs.Ytcmkpmilnplhmaa
open Go.RowKit

theorem Fr.setCells {S : Nat → Prop} {a : World} {b : Nat} (hb : b < a.heap.size → S b) : ∀ (vs : List Value) (o : Nat) {w : World}, Fr S a w → Fr S a (w.setCells b o vs)
  | [], _, _, h => h
  | v :: r, o, _, h => by rw [World.setCells]; exact Fr.setCells hb r (o + 1) (h.setCell (p := ⟨b, o, none⟩) hb v)

theorem range_fr {S : Nat → Prop} {w w' : World} {b o : Nat} {xs : List Value} (h : w.rangeAt b o xs) (f : Fr S w w') (hn : ¬ S b) : w'.rangeAt b o xs := fun j v hv => by
  have h1 := h j v hv
  rw [f.cell (p := ⟨b, o + j, none⟩) (World.block_lt_of_cell? w _ h1) hn]; exact h1
theorem there_fr {S : Nat → Prop} {w w' : World} {b o n : Nat} (h : w.there b o n) (f : Fr S w w') (hn : ¬ S b) : w'.there b o n := fun j hj => by
  obtain ⟨h1, h2⟩ := h j hj
  obtain ⟨u, hu⟩ := Option.isSome_iff_exists.1 h1
  have hb := f.block b (World.block_lt_of_cell? w _ hu) hn
  exact ⟨by rw [World.cell?_of_block (a := ⟨b, o + j, none⟩) hb]; exact h1, by rw [World.frozen?_of_block (a := ⟨b, o + j, none⟩) hb]; exact h2⟩
theorem range_part {w : World} {b o : Nat} {xs ys : List Value} (k : Nat) (h : w.rangeAt b o xs) (hy : ∀ j v, ys[j]? = some v → xs[k + j]? = some v) : w.rangeAt b (o + k) ys := fun j v hv => by
  rw [Nat.add_assoc]; exact h (k + j) v (hy j v hv)
theorem range_join {w : World} {b o : Nat} {xs ys : List Value} (h : w.rangeAt b o xs) (k : w.rangeAt b (o + xs.length) ys) : w.rangeAt b o (xs ++ ys) := fun j v hv => by
  rcases Nat.lt_or_ge j xs.length with hj | hj
  · rw [List.getElem?_append_left hj] at hv; exact h j v hv
  · rw [List.getElem?_append_right hj] at hv
    have := k (j - xs.length) v hv
    rwa [show o + xs.length + (j - xs.length) = o + j by omega] at this
theorem range_block {w : World} {b : Nat} {C : Array Value} {t : TypeId} {fr : Nat × Nat} (hb : w.heap[b]? = some (.cells C t fr)) {o : Nat} {xs : List Value} (hx : ∀ j v, xs[j]? = some v → C[o + j]? = some v) : w.rangeAt b o xs := fun j v hv => by
  rw [cell_of_row w b (o + j) C t fr hb]; exact hx j v hv
theorem there_block {w : World} {b : Nat} {C : Array Value} {t : TypeId} (hb : w.heap[b]? = some (.cells C t (0, 0))) {o n : Nat} (hn : o + n ≤ C.size) : w.there b o n := fun j hj => by
  refine ⟨?_, ?_⟩
  · rw [cell_of_row w b (o + j) C t _ hb, Array.getElem?_eq_getElem (by omega)]; rfl
  · simp [World.frozen?, hb]

/-- v is a slice of n elements, of size cells each, that holds xs. -/
def Has (w : World) (size : Nat) (v : Value) (n : Nat) (xs : List Value) : Prop :=
  xs.length = n * size ∧
  ((v = .slice none 0 0 ∧ n = 0) ∨
   ∃ g cap, v = .slice (some ⟨g, 0, none⟩) n cap ∧ g < w.heap.size ∧ n ≤ cap ∧ cap ≤ maxLen ∧ w.there g 0 (cap * size) ∧ w.rangeAt g 0 xs)

theorem Has.nil (w : World) (size : Nat) : Has w size (.slice none 0 0) 0 [] := ⟨by simp, .inl ⟨rfl, rfl⟩⟩
theorem Has.lt {w : World} {size : Nat} {v : Value} {n : Nat} {xs : List Value} (h : Has w size v n xs) {k : Nat} (hk : v.ownBlock = some k) : k < w.heap.size := by
  rcases h.2 with ⟨rfl, _⟩ | ⟨g, cap, rfl, hg, _⟩
  · cases hk
  · simp [Value.ownBlock] at hk; omega
theorem Has.slice {w : World} {size : Nat} {v : Value} {n : Nat} {xs : List Value} (h : Has w size v n xs) : ∃ a c, v = .slice a n c ∧ n ≤ c ∧ c ≤ maxLen := by
  rcases h.2 with ⟨rfl, rfl⟩ | ⟨g, cap, rfl, _, h1, h2, _⟩
  · exact ⟨none, 0, rfl, Nat.le_refl _, by unfold maxLen; omega⟩
  · exact ⟨_, cap, rfl, h1, h2⟩
theorem Has.form {w : World} {size : Nat} {v : Value} {n : Nat} {xs : List Value} (h : Has w size v n xs) (hn : 0 < n) : ∃ g cap, v = .slice (some ⟨g, 0, none⟩) n cap ∧ g < w.heap.size ∧ n ≤ cap ∧ cap ≤ maxLen ∧ w.there g 0 (cap * size) ∧ w.rangeAt g 0 xs := by
  rcases h.2 with ⟨_, h0⟩ | h
  · omega
  · exact h
theorem Has.fr {S : Nat → Prop} {w w' : World} {size : Nat} {v : Value} {n : Nat} {xs : List Value} (h : Has w size v n xs) (f : Fr S w w') (hn : ∀ k, v.ownBlock = some k → ¬ S k) : Has w' size v n xs := by
  refine ⟨h.1, ?_⟩
  rcases h.2 with h2 | ⟨g, cap, rfl, hg, h1, h2, h3, h4⟩
  · exact .inl h2
  · exact .inr ⟨g, cap, rfl, Nat.lt_of_lt_of_le hg f.size, h1, h2, there_fr h3 f (hn g rfl), range_fr h4 f (hn g rfl)⟩
/-- One of its elements is stored anew. -/
theorem Has.set {w : World} {size : Nat} {g n cap : Nat} {xs : List Value} (h : Has w size (.slice (some ⟨g, 0, none⟩) n cap) n xs) (k : Nat) (ys : List Value) (hy : k + ys.length ≤ xs.length) :
    Has (w.setCells g k ys) size (.slice (some ⟨g, 0, none⟩) n cap) n (xs.take k ++ ys ++ xs.drop (k + ys.length)) := by
  refine ⟨by rw [← h.1]; simp; omega, ?_⟩
  rcases h.2 with ⟨h2, _⟩ | ⟨g', cap', hv, hg, h1, h2, h3, h4⟩
  · cases h2
  · simp only [Value.slice.injEq, Option.some.injEq, Addr.mk.injEq, and_true, true_and] at hv
    obtain ⟨rfl, rfl⟩ := hv
    refine .inr ⟨g, cap, rfl, ?_, h1, h2, World.there_setCells h3 _ _ _, ?_⟩
    · have := (Fr.setCells (S := fun _ => True) (a := w) (b := g) (fun _ => trivial) ys k (Fr.refl _ w)).size
      omega
    · have ht : w.there g k ys.length := fun j hj => by
        have := h3 (k + j) (by have := h.1; have := Nat.mul_le_mul_right size h1; omega)
        simpa using this
      have hs := World.rangeAt_setCells_same w g k ys ht
      have ha : (w.setCells g k ys).rangeAt g 0 (xs.take k) := World.rangeAt_setCells_apart (fun j v hv => h4 j v (by
        rw [List.getElem?_take] at hv; split at hv
        · exact hv
        · cases hv)) g k ys (.inr (.inl (by simp; omega)))
      have hb : (w.setCells g k ys).rangeAt g (k + ys.length) (xs.drop (k + ys.length)) := World.rangeAt_setCells_apart (by
        have := range_part (ys := xs.drop (k + ys.length)) (k + ys.length) h4 (fun j v hv => by rwa [List.getElem?_drop] at hv)
        rwa [Nat.zero_add] at this) g k ys (.inr (.inr (by omega)))
      have hl : (xs.take k).length = k := by simp; omega
      exact range_join (range_join ha (by rw [hl]; simpa using hs)) (by simp only [List.length_append, hl]; simpa using hb)

section
variable {P : Program} (w : World)

/-- Where cells come from: nothing, or they lie in memory. -/
def From (w : World) (a : Option Addr) (news : List Value) : Prop := news = [] ∨ ∃ b off, a = some ⟨b, off, none⟩ ∧ w.rangeAt b off news

theorem From.src {w : World} {a : Option Addr} {news : List Value} {size m c : Nat} {tx e' : TypeId} (hx : P.underlying tx = some (.slice e')) (h : From w a news) (hl : news.length = m * size) (hsz : 0 < size) (h1 : ∀ u ∈ news, u.oneCell' = true) (hc : m = 0 → a = none → True) :
    Src P size tx (.slice a m c) m news w := by
  have two : ∀ w' : World, (∀ x, w'.cell? x = w.cell? x) → (Builtin.firstCells size m (.slice a m c)).run P w' = .ok news.toArray w' := by
    intro w' hw
    rcases h with rfl | ⟨b, off, rfl, hr⟩
    · have hm : m = 0 := by
        rcases Nat.eq_zero_or_pos m with h | h
        · exact h
        · have := Nat.mul_pos h hsz; simp at hl; omega
      subst hm
      cases a with
      | none => exact run_firstCells_none w' size 0 0 c
      | some x => exact run_firstCells_some (P := P) w' size 0 x 0 c [] (by simp) (fun j u hu => by simp at hu)
    · exact run_firstCells_some (P := P) w' size m ⟨b, off, none⟩ m c news hl (fun j u hu => by rw [Addr.add_lit, hw]; exact hr j u hu)
  exact ⟨.inl ⟨e', hx⟩, fun _ => rfl, two w (fun _ => rfl), two w.drew (fun x => by simp), by omega, h1⟩

/-- What an append makes of such a slice. -/
theorem run_append_has (t tx ty e e' : TypeId) (i : TypeInfo) (z : Value) (size bytes : Nat) (ht : P.underlying t = some (.slice e)) (hx : P.underlying tx = some (.slice e')) (hi : P.info? e = some i) (hz : i.zero = some z)
    (hsize : i.size = size) (hby : i.bytes = bytes) (hzs : z.cells.size = size) (hsz : 0 < size)
    (v : Value) (n : Nat) (xs : List Value) (hown : Has w size v n xs)
    (a : Option Addr) (m c : Nat) (news : List Value) (hl : news.length = m * size) (hnews : From w a news) (h1 : ∀ u ∈ news, u.oneCell' = true)
    (h63 : n + m ≤ maxLen) (hbytes : (n + m) * bytes ≤ 140737488355328) :
    ∃ v' w', (Builtin.append_ #[t, tx] ty #[v, .slice a m c]).run P w = .ok v' w' ∧ Has w' size v' (n + m) (xs ++ news) ∧ Fr (fun k => v.ownBlock = some k ∧ 0 < m) w w' ∧
      (v'.ownBlock = v.ownBlock ∨ v'.ownBlock = some w.heap.size) := by
  subst hsize
  subst hby
  have hsmall : n + m ≤ 9223372036854775807 := by simp only [maxLen] at h63; omega
  have hlen : (xs ++ news).length = (n + m) * i.size := by rw [List.length_append, hown.1, hl, Nat.add_mul]
  have hsrc := From.src (P := P) (c := c) hx hnews hl hsz h1 (fun _ _ => trivial)
  have grown : ∀ (old : Nat), old < n + m →
      Has (w.drew.alloc (.cells ((xs ++ news).toArray ++ Builtin.zeroCells z.cells (grownCap w (n + m) old e - (n + m))) e)) i.size (.slice (some ⟨w.heap.size, 0, none⟩) (n + m) (grownCap w (n + m) old e)) (n + m) (xs ++ news) ∧
      ∀ S, Fr S w (w.drew.alloc (.cells ((xs ++ news).toArray ++ Builtin.zeroCells z.cells (grownCap w (n + m) old e - (n + m))) e)) := by
    intro old ho
    have hge := grownCap_ge w (n + m) old e
    have hcm : grownCap w (n + m) old e ≤ maxLen := grownCap_le_maxLen w (n + m) old e h63
    have hb := heap_alloc_new w.drew (.cells ((xs ++ news).toArray ++ Builtin.zeroCells z.cells (grownCap w (n + m) old e - (n + m))) e)
    refine ⟨⟨hlen, .inr ⟨w.heap.size, _, rfl, by simp, hge, hcm, there_block hb ?_, range_block hb ?_⟩⟩, fun S => ((Fr.refl S w).drew).alloc _⟩
    · simp only [Array.size_append, List.size_toArray, hlen, size_zeroCells, hzs, ← Nat.add_mul, Nat.zero_add]
      exact Nat.mul_le_mul_right _ (by omega)
    · intro j u hu
      have hj : j < (xs ++ news).length := (List.getElem?_eq_some_iff.1 hu).1
      rw [Nat.zero_add, Array.getElem?_append_left (by simpa using hj)]
      simpa using hu
  rcases hown.2 with ⟨rfl, rfl⟩ | ⟨g, cap, rfl, hg, hnc, hcm, hth, hra⟩
  · have hxs : xs = [] := List.eq_nil_of_length_eq_zero (by simpa using hown.1)
    subst hxs
    by_cases hm : m = 0
    · subst hm
      have hn : news = [] := List.eq_nil_of_length_eq_zero (by simpa using hl)
      subst hn
      refine ⟨.slice none 0 0, w, ?_, Has.nil w i.size, Fr.refl _ _, Or.inl rfl⟩
      simp [Builtin.append_, run_underlying ht, run_underlying hx, sizeOf, typeInfo, hi, Builtin.lenOf, hsrc.cells]
    · have hr := run_append_grow_src (P := P) w t tx ty e i z ht hi hz none 0 0 [] (by simpa using run_firstCells_none w.drew i.size 0 0 0) (.slice a m c) m news hsrc (by omega) (by omega) (by
        have hb := hbytes; simp only [Nat.zero_add] at hb ⊢; rw [nextslicecap_zero (by omega)]; omega)
      have hgr := grown 0 (by omega)
      exact ⟨_, _, hr, hgr.1, hgr.2 _, Or.inr rfl⟩
  · by_cases hroom : n + m ≤ cap
    · have hfit : n * i.size + news.length ≤ cap * i.size := by rw [hl, ← Nat.add_mul]; exact Nat.mul_le_mul_right _ hroom
      have hth2 : w.there g (n * i.size) news.length := fun j hj => by
        have := hth (n * i.size + j) (by omega)
        simpa using this
      have hr := run_append_room_src (P := P) w t tx ty e i ht hi g 0 n cap (.slice a m c) m news hsrc hroom (fun j hj => by simpa using (hth2 j hj).1) (fun j hj => by simpa using (hth2 j hj).2)
      rw [Nat.zero_add] at hr
      have hfr : Fr (fun k => (Value.slice (some ⟨g, 0, none⟩) n cap).ownBlock = some k ∧ 0 < m) w (w.setCells g (n * i.size) news) := by
        by_cases hm : m = 0
        · subst hm
          have hn : news = [] := List.eq_nil_of_length_eq_zero (by simpa using hl)
          subst hn
          exact Fr.refl _ _
        · exact Fr.setCells (fun _ => ⟨rfl, by omega⟩) news _ (Fr.refl _ w)
      refine ⟨_, _, hr, ⟨hlen, .inr ⟨g, cap, rfl, Nat.lt_of_lt_of_le hg hfr.size, hroom, hcm, World.there_setCells hth _ _ _, range_join ?_ ?_⟩⟩, hfr, Or.inl rfl⟩
      · exact World.rangeAt_setCells_apart hra _ _ _ (.inr (.inl (by rw [hown.1]; omega)))
      · have := World.rangeAt_setCells_same w g (n * i.size) news hth2
        rwa [hown.1, Nat.zero_add]
    · have hold : (Builtin.firstCells i.size n (.slice (some ⟨g, 0, none⟩) n cap)).run P w.drew = .ok xs.toArray w.drew :=
        run_firstCells_some (P := P) w.drew i.size n ⟨g, 0, none⟩ n cap xs hown.1 (fun j u hu => by rw [Addr.add_lit]; simpa using hra j u hu)
      have hr := run_append_grow_src (P := P) w t tx ty e i z ht hi hz (some ⟨g, 0, none⟩) n cap xs hold (.slice a m c) m news hsrc (by omega) (by omega) (growslice_fits (by omega) hbytes)
      have hgr := grown cap (by omega)
      exact ⟨_, _, hr, hgr.1, hgr.2 _, Or.inr rfl⟩

theorem wp_append_has {o : Oper} {ac : Act} {K : Act → World → Prop} {Q : Exit → Act → World → Prop} (s x : Operand) (t tx e e' : TypeId)
    (ho : o.op = .call { callee := .builtin .append, args := #[s, x], argTypes := #[t, tx] }) (i : TypeInfo) (z : Value) (size bytes : Nat) (ht : P.underlying t = some (.slice e)) (hx : P.underlying tx = some (.slice e')) (hi : P.info? e = some i) (hz : i.zero = some z)
    (hsize : i.size = size) (hby : i.bytes = bytes) (hzs : z.cells.size = size) (hsz : 0 < size)
    (v : Value) (n : Nat) (xs : List Value) (hse : ac.eval s = v) (hown : Has w size v n xs)
    (a : Option Addr) (m c : Nat) (news : List Value) (hxe : ac.eval x = .slice a m c) (hl : news.length = m * size) (hnews : From w a news) (h1 : ∀ u ∈ news, u.oneCell' = true)
    (h63 : n + m ≤ maxLen) (hbytes : (n + m) * bytes ≤ 140737488355328)
    (h : ∀ a' c' w', Has w' size (.slice a' (n + m) c') (n + m) (xs ++ news) → Fr (fun k => v.ownBlock = some k ∧ 0 < m) w w' → ((Value.slice a' (n + m) c').ownBlock = v.ownBlock ∨ (Value.slice a' (n + m) c').ownBlock = some w.heap.size) → K (ac.put o.dst (.slice a' (n + m) c')) w') : o.wp P ac w K Q := by
  obtain ⟨v', w', hrun, h2, h3, h4⟩ := run_append_has (P := P) w t tx o.type e e' i z size bytes ht hx hi hz hsize hby hzs hsz v n xs hown a m c news hl hnews h1 h63 hbytes
  unfold Oper.wp execOp
  simp only [ho, resolve, invoke, builtin, Sem.run_bind, Sem.run_pure, Result.andThen_ok, List.map_toArray, List.map_cons, List.map_nil, hse, hxe, hrun]
  obtain ⟨a', c', rfl, _⟩ := h2.slice
  exact h a' c' w' h2 h3 h4

theorem wpList_append_has {ops : Array Oper} {rest : List Oper} {o : Oper} {ac : Act} {Q : Exit → Act → World → Prop} (hgd : o.guard = none) (s x : Operand) (t tx e e' : TypeId)
    (ho : o.op = .call { callee := .builtin .append, args := #[s, x], argTypes := #[t, tx] }) (i : TypeInfo) (z : Value) (size bytes : Nat) (ht : P.underlying t = some (.slice e)) (hx : P.underlying tx = some (.slice e')) (hi : P.info? e = some i) (hz : i.zero = some z)
    (hsize : i.size = size) (hby : i.bytes = bytes) (hzs : z.cells.size = size) (hsz : 0 < size)
    (v : Value) (n : Nat) (xs : List Value) (hse : ac.eval s = v) (hown : Has w size v n xs)
    (a : Option Addr) (m c : Nat) (news : List Value) (hxe : ac.eval x = .slice a m c) (hl : news.length = m * size) (hnews : From w a news) (h1 : ∀ u ∈ news, u.oneCell' = true)
    (h63 : n + m ≤ maxLen) (hbytes : (n + m) * bytes ≤ 140737488355328)
    (h : ∀ a' c' w', Has w' size (.slice a' (n + m) c') (n + m) (xs ++ news) → Fr (fun k => v.ownBlock = some k ∧ 0 < m) w w' → ((Value.slice a' (n + m) c').ownBlock = v.ownBlock ∨ (Value.slice a' (n + m) c').ownBlock = some w.heap.size) → wpList P ops Q rest (ac.put o.dst (.slice a' (n + m) c')) w') : wpList P ops Q (o :: rest) ac w :=
  wpList_plain hgd fun _ hK => wp_append_has w s x t tx e e' ho i z size bytes ht hx hi hz hsize hby hzs hsz v n xs hse hown a m c news hxe hl hnews h1 h63 hbytes fun a' c' w' h2 h3 h4 => hK _ _ (h a' c' w' h2 h3 h4)

theorem step_append_has {ops : Array Oper} {o : Oper} {ac : Act} {K : Act → World → Prop} {Q : Exit → Act → World → Prop} {E : Prop} (hgd : o.guard = none) (s x : Operand) (t tx e e' : TypeId)
    (ho : o.op = .call { callee := .builtin .append, args := #[s, x], argTypes := #[t, tx] }) (i : TypeInfo) (z : Value) (size bytes : Nat) (ht : P.underlying t = some (.slice e)) (hx : P.underlying tx = some (.slice e')) (hi : P.info? e = some i) (hz : i.zero = some z)
    (hsize : i.size = size) (hby : i.bytes = bytes) (hzs : z.cells.size = size) (hsz : 0 < size)
    (v : Value) (n : Nat) (xs : List Value) (hse : ac.eval s = v) (hown : Has w size v n xs)
    (a : Option Addr) (m c : Nat) (news : List Value) (hxe : ac.eval x = .slice a m c) (hl : news.length = m * size) (hnews : From w a news) (h1 : ∀ u ∈ news, u.oneCell' = true)
    (h63 : n + m ≤ maxLen) (hbytes : (n + m) * bytes ≤ 140737488355328)
    (h : ∀ a' c' w', Has w' size (.slice a' (n + m) c') (n + m) (xs ++ news) → Fr (fun k => v.ownBlock = some k ∧ 0 < m) w w' → ((Value.slice a' (n + m) c').ownBlock = v.ownBlock ∨ (Value.slice a' (n + m) c').ownBlock = some w.heap.size) → K (ac.put o.dst (.slice a' (n + m) c')) w') :
    if Region.wanted o (yielded ops ac.tmps) = true then Oper.wp P o ac w K Q else E := by
  have hw : Region.wanted o (yielded ops ac.tmps) = true := by simp [Region.wanted, hgd]
  rw [if_pos hw]
  exact wp_append_has w s x t tx e e' ho i z size bytes ht hx hi hz hsize hby hzs hsz v n xs hse hown a m c news hxe hl hnews h1 h63 hbytes h
end

/-- Lists of elements, laid cell by cell. -/
theorem flat_length {α : Type} {f : α → List Value} {size : Nat} (hf : ∀ x, (f x).length = size) (l : List α) : (l.flatMap f).length = l.length * size := by
  induction l with
  | nil => simp
  | cons x l ih => rw [List.flatMap_cons, List.length_append, hf, ih, List.length_cons, Nat.add_mul]; omega
theorem flat_drop {α : Type} {f : α → List Value} {size : Nat} (hf : ∀ x, (f x).length = size) (l : List α) (i : Nat) : (l.flatMap f).drop (i * size) = (l.drop i).flatMap f := by
  induction l generalizing i with
  | nil => simp
  | cons x l ih =>
    cases i with
    | zero => simp
    | succ i =>
      rw [List.flatMap_cons, List.drop_succ_cons, ← ih i, List.drop_append, hf, List.drop_of_length_le (by rw [hf, Nat.add_mul]; omega), List.nil_append]
      congr 1
      rw [Nat.add_mul]; omega
theorem flat_take {α : Type} {f : α → List Value} {size : Nat} (hf : ∀ x, (f x).length = size) (l : List α) (i : Nat) : (l.flatMap f).take (i * size) = (l.take i).flatMap f := by
  induction l generalizing i with
  | nil => simp
  | cons x l ih =>
    cases i with
    | zero => simp
    | succ i =>
      rw [List.flatMap_cons, List.take_succ_cons, List.flatMap_cons, ← ih i, List.take_append, hf, List.take_of_length_le (by rw [hf, Nat.add_mul]; omega)]
      congr 2
      rw [Nat.add_mul]; omega
theorem flat_get {α : Type} {f : α → List Value} {size : Nat} (hf : ∀ x, (f x).length = size) (l : List α) (i : Nat) (x : α) (h : l[i]? = some x) (j : Nat) (hj : j < size) : (l.flatMap f)[i * size + j]? = (f x)[j]? := by
  rw [← List.getElem?_drop, flat_drop hf]
  obtain ⟨hi, rfl⟩ := List.getElem?_eq_some_iff.1 h
  rw [List.drop_eq_getElem_cons hi, List.flatMap_cons, List.getElem?_append_left (by rw [hf]; exact hj)]
/-- An element of such a slice. -/
theorem Has.elem {α : Type} {f : α → List Value} {w : World} {size g n cap : Nat} {l : List α} (h : Has w size (.slice (some ⟨g, 0, none⟩) n cap) n (l.flatMap f)) (hf : ∀ x, (f x).length = size) {i : Nat} {x : α} (hx : l[i]? = some x) : w.rangeAt g (i * size) (f x) := by
  rcases h.2 with ⟨h2, _⟩ | ⟨g', cap', hv, hg, h1, h2, h3, h4⟩
  · cases h2
  · simp only [Value.slice.injEq, Option.some.injEq, Addr.mk.injEq, and_true, true_and] at hv
    obtain ⟨rfl, rfl⟩ := hv
    intro j v hj
    have hlt : j < size := by have := (List.getElem?_eq_some_iff.1 hj).1; rwa [hf] at this
    have := h4 (i * size + j) v (by rw [flat_get hf l i x hx j hlt]; exact hj)
    rwa [Nat.zero_add] at this
/-- One element is stored anew. -/
theorem Has.put {α : Type} {f : α → List Value} {w : World} {size g n cap : Nat} {l : List α} (h : Has w size (.slice (some ⟨g, 0, none⟩) n cap) n (l.flatMap f)) (hf : ∀ x, (f x).length = size) {i : Nat} (hi : i < l.length) (y : α) :
    Has (w.setCells g (i * size) (f y)) size (.slice (some ⟨g, 0, none⟩) n cap) n ((l.set i y).flatMap f) := by
  have hle : (i + 1) * size ≤ l.length * size := Nat.mul_le_mul_right _ hi
  rw [Nat.add_mul] at hle
  have := h.set (i * size) (f y) (by rw [hf, flat_length hf]; omega)
  rw [hf, flat_take hf, show i * size + size = (i + 1) * size by rw [Nat.add_mul]; omega, flat_drop hf] at this
  rw [List.set_eq_take_append_cons_drop, if_pos hi, List.flatMap_append, List.flatMap_cons]
  simpa [List.append_assoc] using this
end Go.Proofs.Ytcmkpmilnplhmaa

/- An array that a call makes: how it is laid, and what is copied into it. -/
namespace Go.Proofs.Ytcmkpmilnplhmaa
open Go.RowKit Crcm

section
variable {P : Program}
theorem step_of {ops : Array Oper} {o : Oper} {ac : Act} {w : World} {K : Act → World → Prop} {Q : Exit → Act → World → Prop} {E : Prop} (hgd : o.guard = none) (h : Oper.wp P o ac w K Q) : if Region.wanted o (yielded ops ac.tmps) = true then Oper.wp P o ac w K Q else E := by
  have hw : Region.wanted o (yielded ops ac.tmps) = true := by simp [Region.wanted, hgd]
  rw [if_pos hw]
  exact h
theorem wp_alloc {o : Oper} {a : Act} {w : World} {K : Act → World → Prop} {Q : Exit → Act → World → Prop} (t : TypeId) (ho : o.op = .alloc t) (i : TypeInfo) (z : Value) (hi : P.info? t = some i) (hz : i.zero = some z)
    (h : K (a.put o.dst (.pointer (some ⟨w.heap.size, 0, none⟩))) (w.alloc (.cells z.cells t))) : o.wp P a w K Q := by
  have hzz : (zeroValue t).run P w = .ok z w := by simp [zeroValue, typeInfo, hi, hz]
  have hrun : (Instr.alloc t true (Value.tuple #[])).run P w = .ok (.pointer (some ⟨w.heap.size, 0, none⟩)) (w.alloc (.cells z.cells t)) := by
    simp [Instr.alloc, hzz, newVar, newRow]
  unfold Oper.wp execOp
  simp only [ho, Sem.run_bind, hrun, Result.andThen_ok]
  exact h
theorem wpList_alloc {ops : Array Oper} {rest : List Oper} {o : Oper} {a : Act} {w : World} {Q : Exit → Act → World → Prop} (hgd : o.guard = none) (t : TypeId) (ho : o.op = .alloc t) (i : TypeInfo) (z : Value) (hi : P.info? t = some i) (hz : i.zero = some z)
    (h : wpList P ops Q rest (a.put o.dst (.pointer (some ⟨w.heap.size, 0, none⟩))) (w.alloc (.cells z.cells t))) : wpList P ops Q (o :: rest) a w :=
  wpList_plain hgd fun _ hK => wp_alloc t ho i z hi hz (hK _ _ h)
theorem run_copy_arr (w : World) (ty dT sT : TypeId) (hu : P.underlying dT = some (.slice 5)) (hs : (P.info? 5).map (·.size) = some 1) (b off dLen dCap : Nat) (ad : Option Addr) (n cap : Nat) (l : List Nat) (hn : n = l.length) (hle : l.length ≤ dLen) (hr : Row w ad cap l) (ht : w.there b off l.length) :
    (Builtin.copy_ #[dT, sT] ty #[.slice (some ⟨b, off, none⟩) dLen dCap, .slice ad n cap]).run P w = .ok (goInt l.length) (w.setCells b off (cellsOf l)) := by
  subst hn
  rcases hr.at_ with h0 | ⟨b', off', rfl, _, hc⟩
  · subst h0
    exact run_copy_none w dT sT _ 5 _ _ dLen dCap 0 cap hu hs (by simp)
  · have := run_copy_cells (P := P) w dT sT ty 5 b off dLen dCap ⟨b', off', none⟩ l.length cap (cellsOf l) hu hs (by rw [cellsOf_length]; exact (Nat.min_eq_left hle).symm) (fun j v hv => by
      rw [Addr.add_lit]
      have hj : j < l.length := by have := (List.getElem?_eq_some_iff.1 hv).1; rwa [cellsOf_length] at this
      rw [cellsOf_get l j hj] at hv
      rw [hc j hj]; exact hv) (fun j hj => (ht j (by rwa [cellsOf_length] at hj)).1) (fun j hj => (ht j (by rwa [cellsOf_length] at hj)).2) (cellsOf_oneCell l)
    rwa [cellsOf_length] at this
end

def z256 : List Nat := List.replicate 256 0
theorem z256_length : z256.length = 256 := List.length_replicate
theorem z256_drop (k : Nat) : z256.drop k = List.replicate (256 - k) 0 := List.drop_replicate
theorem z256_octs : octs z256 := fun x hx => by have := (List.mem_replicate.1 hx).2; omega
/-- A slice over a whole array of so many bytes. -/
abbrev Arr (w : World) (g : Nat) (l : List Nat) : Prop := Has w 1 (.slice (some ⟨g, 0, none⟩) 256 256) 256 (cellsOf l)
theorem Arr.new (w : World) (t : TypeId) (l : List Nat) (hl : l.length = 256) : Arr (w.alloc (.cells (cellsOf l).toArray t)) w.heap.size l := by
  refine ⟨by rw [cellsOf_length, hl], .inr ⟨w.heap.size, 256, rfl, by simp, Nat.le_refl _, by unfold maxLen; omega, ?_, ?_⟩⟩
  · exact there_block (heap_alloc_new w _) (by simp [cellsOf_length, hl])
  · exact range_block (heap_alloc_new w _) (fun j v hv => by rw [Nat.zero_add]; simpa using hv)
theorem Arr.length {w : World} {g : Nat} {l : List Nat} (h : Arr w g l) : l.length = 256 := by have := h.1; rw [cellsOf_length] at this; omega
theorem Arr.there {w : World} {g : Nat} {l : List Nat} (h : Arr w g l) : w.there g 0 256 := by
  rcases h.2 with ⟨e, _⟩ | ⟨g', cap, e, _, _, _, ht, _⟩
  · cases e
  · simp only [Value.slice.injEq, Option.some.injEq, Addr.mk.injEq, and_true, true_and] at e
    obtain ⟨rfl, rfl⟩ := e
    simpa using ht
theorem Arr.lt {w : World} {g : Nat} {l : List Nat} (h : Arr w g l) : g < w.heap.size := Has.lt h rfl
theorem Arr.range {w : World} {g : Nat} {l : List Nat} (h : Arr w g l) : w.rangeAt g 0 (cellsOf l) := by
  rcases h.2 with ⟨e, _⟩ | ⟨g', cap, e, _, _, _, _, hr⟩
  · cases e
  · simp only [Value.slice.injEq, Option.some.injEq, Addr.mk.injEq, and_true, true_and] at e
    obtain ⟨rfl, rfl⟩ := e
    exact hr
theorem Arr.row {w : World} {g : Nat} {l : List Nat} (h : Arr w g l) (ho : octs l) (k : Nat) (hk : k ≤ 256) (cap : Nat) (hc : k ≤ cap) (hc2 : cap ≤ 256) : Row w (some ⟨g, 0, none⟩) cap (l.take k) := by
  have hl := h.length
  refine ⟨by simp; omega, by omega, by simp; omega, octs_take ho k, .inr ⟨g, 0, rfl, h.lt, fun i hi => ?_⟩⟩
  rw [List.length_take] at hi
  have := h.range i (.int .u8 ((l.getD i 0 : Nat) : Int)) (cellsOf_get l i (by omega))
  rw [this, List.getD_eq_getElem?_getD, List.getD_eq_getElem?_getD, List.getElem?_take, if_pos (by omega)]
theorem Arr.set {w : World} {g : Nat} {l : List Nat} (h : Arr w g l) (k : Nat) (m : List Nat) (hm : k + m.length ≤ 256) : Arr (w.setCells g k (cellsOf m)) g (l.take k ++ m ++ l.drop (k + m.length)) := by
  have hl := h.length
  have := Has.set h k (cellsOf m) (by rw [cellsOf_length, cellsOf_length, hl]; exact hm)
  rw [cellsOf_length] at this
  unfold Arr
  rw [cellsOf_append, cellsOf_append]
  simpa [cellsOf, List.map_take, List.map_drop] using this
end Go.Proofs.Ytcmkpmilnplhmaa

/- What page.Encode makes. -/
namespace Go.Proofs.Ytcmkpmilnplhmaa
open Go.RowKit Crcm

theorem pad_is (l : List Nat) (h : l.length ≤ 252) : (z256.take 0 ++ l ++ z256.drop (0 + l.length)).take 252 = pad l := by
  rw [z256_drop, List.take_zero, List.nil_append, pad, List.take_append, List.take_of_length_le h, List.take_replicate]
  congr 2; omega
theorem pg_is (l : List Nat) (h : l.length ≤ 252) (t : List Nat) (ht : t.length = 4) : (z256.take 0 ++ l ++ z256.drop (0 + l.length)).take 252 ++ t ++ (z256.take 0 ++ l ++ z256.drop (0 + l.length)).drop (252 + t.length) = pad l ++ t := by
  rw [pad_is l h]
  have : ((z256.take 0 ++ l ++ z256.drop (0 + l.length)).drop (252 + t.length)) = [] := List.drop_eq_nil_of_le (by rw [z256_drop]; simp; omega)
  rw [this, List.append_nil]

theorem Fr.set_new {W0 W : World} (f : Fr (fun _ => False) W0 W) {g : Nat} (hg : W0.heap.size ≤ g) (vs : List Value) (o : Nat) : Fr (fun _ => False) W0 (W.setCells g o vs) :=
  Fr.setCells (S := fun _ => False) (b := g) (fun hh => absurd hh (by omega)) vs o f
theorem Arr.some {w : World} {g : Nat} {l : List Nat} (h : Arr w g l) (k n : Nat) (hn : k + n ≤ 256) : w.there g k n := fun j hj => by
  have := h.there (k + j) (by omega)
  simpa using this

end Go.Proofs.Ytcmkpmilnplhmaa
