
/- A queue's row: as an append leaves it, or cut at its front without room behind it. -/
import Derived.Test.YtkibbojiflklpaaGreatRyQu2
import Derived.ArgAppend
namespace Go.Proofs.YtkibbojiflklpaaGreat
open Go.RowKit Go.Shelf

theorem Has.ofRow {w : World} {base : Nat} {e : TypeId} {size : Nat} {v : Value} {n : Nat} {xs : List Value} (h : w.ownsRow base e size v n xs) : Has w size v n xs := by
  obtain ⟨h1, h2 | ⟨g, cap, cur, rfl, hg, hb, hc, hm, hs, ht⟩⟩ := h
  · exact ⟨h1, .inl h2⟩
  · refine ⟨h1, .inr ⟨g, cap, rfl, lt_of_block hb, hc, hm, there_block hb (by omega), range_block hb (fun j v hv => ?_)⟩⟩
    rw [Nat.zero_add, ← Array.getElem?_toList]
    rw [← ht, List.getElem?_take] at hv
    split at hv
    · exact hv
    · cases hv
/-- A row that was cut. -/
def Tail (w : World) (a : Option Addr) (n c : Nat) (ws : List Wg) : Prop := c = n ∧ c ≤ maxLen ∧ ∃ g off, a = some ⟨g, off, none⟩ ∧ g < w.heap.size ∧ w.rangeAt g off (ws.flatMap wgC) ∧ w.there g off (n * 9)
def Rw (w : World) (a : Option Addr) (n c : Nat) (ws : List Wg) : Prop := n = ws.length ∧ (Has w 9 (.slice a n c) n (ws.flatMap wgC) ∨ Tail w a n c ws)
theorem flat_len (ws : List Wg) : (ws.flatMap wgC).length = ws.length * 9 := by
  induction ws with
  | nil => rfl
  | cons x l ih => rw [List.flatMap_cons, List.length_append, ih, wgC_length, List.length_cons]; omega
theorem flat_at : ∀ {ws : List Wg} {i : Nat} {x : Wg}, ws[i]? = some x → ∀ j v, (wgC x)[j]? = some v → (ws.flatMap wgC)[i * 9 + j]? = some v
  | [], i, x, h, _, _, _ => by simp at h
  | y :: l, 0, x, h, j, v, hv => by
    simp only [List.getElem?_cons_zero, Option.some.injEq] at h
    subst h
    have hj : j < 9 := by have := (List.getElem?_eq_some_iff.1 hv).1; rwa [wgC_length] at this
    rw [List.flatMap_cons, List.getElem?_append_left (by rw [wgC_length]; omega)]
    rw [show 0 * 9 + j = j by omega]; exact hv
  | y :: l, i + 1, x, h, j, v, hv => by
    rw [List.flatMap_cons, List.getElem?_append_right (by rw [wgC_length]; omega), wgC_length, show (i + 1) * 9 + j - 9 = i * 9 + j by omega]
    exact flat_at (by simpa using h) j v hv
theorem Rw.wgs {w : World} {a : Option Addr} {n c : Nat} {ws : List Wg} (h : Rw w a n c ws) : Wgs w a c ws := by
  obtain ⟨hn, h | ⟨hc, hm, g, off, rfl, hg, hr, _⟩⟩ := h
  · rcases h.2 with ⟨e, h0⟩ | ⟨g, cap, e, hg, h1, h2, h3, h4⟩
    · simp only [Value.slice.injEq] at e
      obtain ⟨rfl, _, rfl⟩ := e
      have : ws = [] := List.eq_nil_of_length_eq_zero (by omega)
      exact ⟨by rw [this]; exact Nat.le_refl _, by omega, .inl this⟩
    · simp only [Value.slice.injEq, true_and] at e
      obtain ⟨rfl, rfl⟩ := e
      exact ⟨by omega, by unfold maxLen at h2; omega, .inr ⟨g, 0, rfl, hg, fun i x hx j v hv => by
        have := h4 _ _ (flat_at hx j v hv)
        rwa [← Nat.add_assoc] at this⟩⟩
  · exact ⟨by omega, by unfold maxLen at hm; omega, .inr ⟨g, off, rfl, hg, fun i x hx j v hv => by
      have := hr _ _ (flat_at hx j v hv)
      rwa [← Nat.add_assoc] at this⟩⟩
theorem Rw.fr {S : Nat → Prop} {w w' : World} {a : Option Addr} {n c : Nat} {ws : List Wg} (h : Rw w a n c ws) (f : Fr S w w') (hn : ∀ k, (Value.slice a n c).ownBlock = some k → ¬ S k) : Rw w' a n c ws := by
  obtain ⟨h1, h | ⟨hc, hm, g, off, rfl, hg, hr, ht⟩⟩ := h
  · exact ⟨h1, .inl (h.fr f hn)⟩
  · exact ⟨h1, .inr ⟨hc, hm, g, off, rfl, Nat.lt_of_lt_of_le hg f.size, range_fr hr f (hn g rfl), there_fr ht f (hn g rfl)⟩⟩
theorem Rw.nil (w : World) : Rw w none 0 0 [] := ⟨rfl, .inl (Has.nil _ _)⟩
theorem Rw.lt {w : World} {a : Option Addr} {n c : Nat} {ws : List Wg} (h : Rw w a n c ws) {k : Nat} (hk : (Value.slice a n c).ownBlock = some k) : k < w.heap.size := by
  obtain ⟨h1, h | ⟨hc, hm, g, off, rfl, hg, hr, ht⟩⟩ := h
  · exact h.lt hk
  · simp [Value.ownBlock] at hk; omega
theorem infoWg : (Tryz.prog.info? 98).map (fun i => (i.zero, i.size, i.bytes)) = some (some (.agg #[.int .i64 0, .int .i64 0, .int .i64 0, .int .i64 0, .int .i64 0, .int .i64 0, .string ⟨#[]⟩, .string ⟨#[]⟩, .int .i64 0]), 9, 88) := by kernel_rfl
theorem wg_one (x : Wg) : ∀ u ∈ wgC x, u.oneCell' = true := by
  intro u hu
  simp only [wgC, recC, List.mem_append, List.mem_cons, List.not_mem_nil, or_false] at hu
  rcases hu with (h | h | h | h | h | h | h | h) | h <;> (subst h; rfl)
/-- One record more, whichever way the row lies. -/
theorem rw_app {V : World} {a : Option Addr} {n c : Nat} {ws : List Wg} (x : Wg) (h : Rw V a n c ws) (hn : n ≤ 1000000) (b : Nat) (hb : V.rangeAt b 0 (wgC x)) (ty : TypeId) :
    ∃ a' c' w', (Builtin.append_ #[86, 86] ty #[.slice a n c, .slice (some ⟨b, 0, none⟩) 1 1]).run Tryz.prog V = .ok (.slice a' (n + 1) c') w' ∧ Rw w' a' (n + 1) c' (ws ++ [x]) ∧ Fr (fun k => (Value.slice a n c).ownBlock = some k) V w' ∧ ((Value.slice a' (n + 1) c').ownBlock = (Value.slice a n c).ownBlock ∨ ∃ g, (Value.slice a' (n + 1) c').ownBlock = some g ∧ V.heap.size ≤ g) := by
  obtain ⟨i, hi, hz, hs, hby⟩ := info_parts infoWg
  have e1 : (ws ++ [x]).flatMap wgC = ws.flatMap wgC ++ wgC x := by simp
  obtain ⟨h1, h | ⟨hc, hm, g, off, rfl, hg, hr, ht⟩⟩ := h
  · obtain ⟨v', w', hrun, ho, hf, hat⟩ := run_append_has (P := Tryz.prog) V 86 86 ty 98 98 i _ 9 88 Tryz.underlying86 Tryz.underlying86 hi hz hs hby rfl (by omega) _ n _ h (some ⟨b, 0, none⟩) 1 1 (wgC x) rfl (.inr ⟨b, 0, rfl, hb⟩) (wg_one x) (by unfold maxLen; omega) (by omega)
    obtain ⟨a', c', rfl, _, _⟩ := ho.slice
    refine ⟨a', c', w', hrun, ⟨by rw [List.length_append, ← h1]; rfl, .inl (by rw [e1]; exact ho)⟩, (Fr.refl _ V).trans hf (fun k _ e => e.1), hat.imp id (fun e => ⟨_, e, Nat.le_refl _⟩)⟩
  · obtain ⟨v', w', hrun, ho, hgr⟩ := run_append_arg_grows (P := Tryz.prog) V 86 ty 98 i _ 9 88 Tryz.underlying86 hi hz hs hby rfl (by omega) ⟨g, off, none⟩ n c (ws.flatMap wgC) (by rw [flat_len, h1]) (fun j u hu => by rw [Addr.add_lit]; exact hr j u hu) ⟨b, 0, none⟩ 1 1 (wgC x) rfl (fun j u hu => by rw [Addr.add_lit]; exact hb j u hu) (by omega) (by unfold maxLen; omega) (by omega)
    have ho2 := Has.ofRow ho
    obtain ⟨a', c', rfl, _, _⟩ := ho2.slice
    have hf : Fr (fun k => (Value.slice (some ⟨g, off, none⟩) n c).ownBlock = some k) V w' := (Fr.refl _ V).grown hgr (fun k e _ => by cases e)
    refine ⟨a', c', w', hrun, ⟨by rw [List.length_append, ← h1]; rfl, .inl (by rw [e1]; exact ho2)⟩, hf, .inr ?_⟩
    obtain ⟨_, ⟨_, h0⟩ | ⟨g', cap, cur, e, hg', _⟩⟩ := ho
    · omega
    · exact ⟨g', by rw [e]; rfl, hg'⟩
theorem step_append_run {P : Program} {w w' : World} {ops : Array Oper} {o : Oper} {a : Act} {K : Act → World → Prop} {Q : Exit → Act → World → Prop} {E : Prop} {v y v' : Value} (hg : o.guard = none) (s x : Operand) (t : TypeId)
    (ho : o.op = .call { callee := .builtin .append, args := #[s, x], argTypes := #[t, t] }) (hs : a.eval s = v) (hx : a.eval x = y) (hrun : (Builtin.append_ #[t, t] o.type #[v, y]).run P w = .ok v' w')
    (h : K (a.put o.dst v') w') : if Region.wanted o (yielded ops a.tmps) = true then Oper.wp P o a w K Q else E := by
  have hw : Region.wanted o (yielded ops a.tmps) = true := by simp [Region.wanted, hg]
  rw [if_pos hw]
  unfold Oper.wp execOp
  simp only [ho, resolve, invoke, builtin, Sem.run_bind, Sem.run_pure, Result.andThen_ok, List.map_toArray, List.map_cons, List.map_nil, hs, hx, hrun]
  exact h
theorem Rw.some {w : World} {a : Option Addr} {n c : Nat} {ws : List Wg} (h : Rw w a n c ws) (hn : 0 < n) : ∃ g off, a = some ⟨g, off, none⟩ ∧ g < w.heap.size ∧ n ≤ c ∧ c ≤ maxLen ∧ w.there g off (n * 9) ∧ w.rangeAt g off (ws.flatMap wgC) := by
  obtain ⟨h1, h | ⟨hc, hm, g, off, rfl, hg, hr, ht⟩⟩ := h
  · obtain ⟨g, cap, e, hg, hc, hm, ht, hr⟩ := h.form hn
    simp only [Value.slice.injEq, true_and] at e
    obtain ⟨rfl, rfl⟩ := e
    exact ⟨g, 0, rfl, hg, hc, hm, fun j hj => ht j (by have := Nat.mul_le_mul_right 9 hc; omega), hr⟩
  · exact ⟨g, off, rfl, hg, by omega, hm, ht, hr⟩
theorem range_set {w : World} {b o : Nat} {xs : List Value} (h : w.rangeAt b o xs) (ht : w.there b o xs.length) (k : Nat) (ys : List Value) (hy : k + ys.length ≤ xs.length) : (w.setCells b (o + k) ys).rangeAt b o (xs.take k ++ ys ++ xs.drop (k + ys.length)) := by
  have ht' : w.there b (o + k) ys.length := fun j hj => by
    have := ht (k + j) (by omega)
    rwa [← Nat.add_assoc] at this
  have hs := World.rangeAt_setCells_same w b (o + k) ys ht'
  have ha : (w.setCells b (o + k) ys).rangeAt b o (xs.take k) := World.rangeAt_setCells_apart (fun j v hv => h j v (by
    rw [List.getElem?_take] at hv; split at hv
    · exact hv
    · cases hv)) b (o + k) ys (.inr (.inl (by simp; omega)))
  have hb : (w.setCells b (o + k) ys).rangeAt b (o + (k + ys.length)) (xs.drop (k + ys.length)) := World.rangeAt_setCells_apart (range_part (k + ys.length) h (fun j v hv => by rwa [List.getElem?_drop] at hv)) b (o + k) ys (.inr (.inr (by omega)))
  have hl : (xs.take k).length = k := by simp; omega
  exact range_join (range_join ha (by rw [hl]; exact hs)) (by simp only [List.length_append, hl]; exact hb)
theorem wg_take (ws : List Wg) (d : Nat) (hd : d ≤ ws.length) : (ws.take d).flatMap wgC = (ws.flatMap wgC).take (d * 9) := by
  have e : ws.flatMap wgC = (ws.take d).flatMap wgC ++ (ws.drop d).flatMap wgC := by rw [← List.flatMap_append, List.take_append_drop]
  have hl : ((ws.take d).flatMap wgC).length = d * 9 := by rw [flat_len, List.length_take]; congr 1; omega
  rw [e, ← hl, List.take_left]
theorem wg_drop (ws : List Wg) (d : Nat) (hd : d ≤ ws.length) : (ws.drop d).flatMap wgC = (ws.flatMap wgC).drop (d * 9) := by
  have e : ws.flatMap wgC = (ws.take d).flatMap wgC ++ (ws.drop d).flatMap wgC := by rw [← List.flatMap_append, List.take_append_drop]
  have hl : ((ws.take d).flatMap wgC).length = d * 9 := by rw [flat_len, List.length_take]; congr 1; omega
  rw [e, ← hl, List.drop_left]
def wgZ : Wg := (⟨0, 0, 0, 0, 0, 0, ⟨#[]⟩, ⟨#[]⟩⟩, 0)
theorem set_parts (ws : List Wg) (d : Nat) (hd : d < ws.length) : ws.set d wgZ = ws.take d ++ [wgZ] ++ ws.drop (d + 1) := by
  rw [List.set_eq_take_append_cons_drop, if_pos hd]; simp
/-- The row's d'th record is struck out. -/
theorem Rw.strike {w : World} {g off n c : Nat} {ws : List Wg} (h : Rw w (.some ⟨g, off, none⟩) n c ws) {d : Nat} (hd : d < n) : Rw (w.setCells g (off + d * 9) (wgC wgZ)) (.some ⟨g, off, none⟩) n c (ws.set d wgZ) ∧ Tail (w.setCells g (off + d * 9) (wgC wgZ)) (.some ⟨g, off + (d + 1) * 9, none⟩) (n - (d + 1)) (n - (d + 1)) (ws.drop (d + 1)) ∧ Fr (fun k => k = g) w (w.setCells g (off + d * 9) (wgC wgZ)) := by
  have hn : n = ws.length := h.1
  obtain ⟨g', off', e, hg, hc, hm, ht, hr⟩ := h.some (by omega)
  simp only [Option.some.injEq, Addr.mk.injEq, and_true] at e
  obtain ⟨rfl, rfl⟩ := e
  have hf : Fr (fun k => k = g) w (w.setCells g (off + d * 9) (wgC wgZ)) := Fr.setCells (S := fun k => k = g) (b := g) (fun _ => rfl) _ _ (Fr.refl _ w)
  have hlen := flat_len ws
  have hrs := range_set hr (by rw [hlen, ← hn]; exact ht) (d * 9) (wgC wgZ) (by rw [wgC_length, hlen]; omega)
  have e2 : (ws.set d wgZ).flatMap wgC = (ws.flatMap wgC).take (d * 9) ++ wgC wgZ ++ (ws.flatMap wgC).drop (d * 9 + (wgC wgZ).length) := by
    rw [set_parts ws d (by omega), List.flatMap_append, List.flatMap_append, wg_take ws d (by omega), wg_drop ws (d + 1) (by omega), wgC_length]
    simp [Nat.add_mul]
  rw [← e2] at hrs
  refine ⟨⟨by rw [List.length_set]; exact hn, ?_⟩, ⟨rfl, by omega, g, _, rfl, Nat.lt_of_lt_of_le hg hf.size, ?_, ?_⟩, hf⟩
  · rcases h.2 with h2 | h2
    · obtain ⟨_, _, e3, _⟩ := h2.form (by omega)
      simp only [Value.slice.injEq, Option.some.injEq, Addr.mk.injEq, and_true, true_and] at e3
      have h0 : off = 0 := e3.1.2
      subst h0
      have hs := h2.set (d * 9) (wgC wgZ) (by rw [wgC_length, hlen]; omega)
      rw [Nat.zero_add]
      rw [e2]
      exact .inl hs
    · obtain ⟨t1, t2, _⟩ := h2
      exact .inr ⟨t1, t2, g, off, rfl, Nat.lt_of_lt_of_le hg hf.size, hrs, World.there_setCells ht _ _ _⟩
  · have hp : w.rangeAt g (off + (d + 1) * 9) ((ws.drop (d + 1)).flatMap wgC) := by
      rw [wg_drop ws (d + 1) (by omega)]
      exact range_part ((d + 1) * 9) hr (fun j v hv => by rwa [List.getElem?_drop] at hv)
    exact World.rangeAt_setCells_apart hp g _ _ (.inr (.inr (by rw [wgC_length]; omega)))
  · refine World.there_setCells (fun j hj => ?_) _ _ _
    have := ht ((d + 1) * 9 + j) (by omega)
    rwa [← Nat.add_assoc] at this
end Go.Proofs.YtkibbojiflklpaaGreat
