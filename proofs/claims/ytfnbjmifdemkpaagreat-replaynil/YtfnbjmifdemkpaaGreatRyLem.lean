
/- What becomes of a replay: a number that is stored anew, a queue that is another one. -/
import Derived.Test.YtfnbjmifdemkpaaGreatRyNext
namespace Go.Proofs.YtfnbjmifdemkpaaGreat
open Go.RowKit Go.Shelf

theorem Off.or {S T : Nat → Prop} {n : Nd} {p : Pt} (h : Off S n p) (g : Off T n p) : Off (fun k => S k ∨ T k) n p := by
  obtain ⟨a1, a2, a3⟩ := h
  obtain ⟨b1, b2, b3⟩ := g
  refine ⟨?_, ?_, ?_⟩
  · rcases a1 with e | a1
    · exact .inl e
    · rcases b1 with e | b1
      · exact .inl e
      · exact .inr fun b o e hs => hs.elim (a1 b o e) (b1 b o e)
  · rcases a2 with e | a1
    · exact .inl e
    · rcases b2 with e | b1
      · exact .inl e
      · exact .inr fun b o e hs => hs.elim (a1 b o e) (b1 b o e)
  · rcases a3 with e | a1
    · exact .inl e
    · rcases b3 with e | b1
      · exact .inl e
      · exact .inr fun b o e hs => hs.elim (a1 b o e) (b1 b o e)
theorem Off.sub {S T : Nat → Prop} {n : Nd} {p : Pt} (h : Off S n p) (g : ∀ k, T k → S k) : Off T n p := by
  obtain ⟨a1, a2, a3⟩ := h
  exact ⟨a1.imp id (fun a b o e t => a b o e (g b t)), a2.imp id (fun a b o e t => a b o e (g b t)), a3.imp id (fun a b o e t => a b o e (g b t))⟩
section
variable {w : World} {S : Nat → Prop} {b : Nat} {R : RSt} {N : Nat} {A : Array Value} {m cnt : Nat} {q : Nat → QA} {pt : Int → Pt}
/-- One of the three numbers is stored anew. -/
theorem RyI.num (h : RyI w S b R N A m cnt q pt) {R2 : RSt} {A2 : Array Value} (j : Nat) (hj : j = 18 ∨ j = 19 ∨ j = 20) (v : Value) (hA : A2 = A.setIfInBounds j v) (h1 : R2.wk = R.wk) (h2 : R2.L = R.L) (h3 : R2.pg = R.pg) (hf : A2[18]? = some (.int .i64 R2.fed)) (hp : A2[19]? = some (.int .i64 R2.point)) (ht : A2[20]? = some (.int .i64 R2.top)) : RyI (w.setCell ⟨b, j, none⟩ v) S b R2 N A2 m cnt q pt ∧ Fr (fun k => k = b) w (w.setCell ⟨b, j, none⟩ v) := by
  have f : Fr (fun k => k = b) w (w.setCell ⟨b, j, none⟩ v) := (Fr.refl (fun k => k = b) w).setCell (p := ⟨b, j, none⟩) (fun _ => rfl) _
  have ho : ∀ k, k ≠ j → A2[k]? = A[k]? := fun k hk => by rw [hA, Array.getElem?_setIfInBounds_ne (by omega)]
  have fS : Fr S w (w.setCell ⟨b, j, none⟩ v) := (Fr.refl S w).trans f (fun k _ e => by rw [e]; exact h.ob)
  refine ⟨⟨?_, ⟨?_, ?_, ?_, fun i hi => ?_, fun i hi => ?_, hf, hp, ht⟩, by rw [h1]; exact h.few, fun i hi => ?_, ?_, h.cntN, fun x n hx => ?_, h.ob, h.om, h.bm, h.oq, h.apart, fun k hk => Nat.lt_of_lt_of_le (h.lt k hk) f.size⟩, f⟩
  · rw [hA]; exact set_blk h.blk j v
  · rw [hA]; simp [h.cells.size]
  · rw [ho 0 (by omega)]; exact h.cells.map
  · rw [ho 1 (by omega), h1]; exact h.cells.wk
  · rw [ho _ (by omega)]; exact h.cells.row i hi
  · rw [ho _ (by omega)]; exact h.cells.done i hi
  · rw [h2]
    exact ⟨(h.rows i hi).1.fr f (fun k e ek => (h.oq i k hi e).2.1 ek), (h.rows i hi).2⟩
  · rw [h3]; exact h.pages.fr f (fun e => h.bm e.symm)
  · rw [h3] at hx
    exact ⟨(h.nods x n hx).1.frS fS (h.nods x n hx).2, (h.nods x n hx).2⟩
def qupd (L : Nat → List Wg) (i : Nat) (l : List Wg) : Nat → List Wg := fun j => if j = i then l else L j
/-- A queue is another one. -/
theorem RyI.que (h : RyI w S b R N A m cnt q pt) {i : Nat} (hi : i < 8) {l : List Wg} {w' : World} (t : QTo w b (2 + 2 * i) A 93 (q i).a (q i).n (q i).c l w') : RyTo w S b { R with L := qupd R.L i l } (N + 1) w' := by
  obtain ⟨A2, a2, n2, c2, d2, ws2, g1, g2, g3, g4, g5, g6, g7, g8, g9, g10, g11⟩ := t
  have fS : Fr S w w' := (Fr.refl S w).trans g10 (fun k _ e => by
    rcases e with e | e
    · rw [e]; exact h.ob
    · exact (h.oq i k hi e).1)
  have hnew : ∀ k, (Value.slice a2 n2 c2).ownBlock = some k → ((q i).own = some k) ∨ w.heap.size ≤ k := fun k e => by
    rcases g11 with h1 | ⟨g, h1, hg⟩
    · exact .inl (by rw [← e, h1]; rfl)
    · rw [h1] at e; cases e; exact .inr hg
  have hbl := lt_of_block h.blk
  have hml := h.pages.lt
  refine ⟨fun k => S k ∨ (Value.slice a2 n2 c2).ownBlock = some k, ⟨A2, m, cnt, fun j => if j = i then ⟨a2, n2, c2, d2, ws2⟩ else q j, pt, g1, ⟨by rw [g2]; exact h.cells.size, ?_, ?_, fun j hj => ?_, fun j hj => ?_, ?_, ?_, ?_⟩, h.few, fun j hj => ?_, ?_, by have := h.cntN; omega, fun x n hx => ?_, .inl h.ob, .inl h.om, h.bm, fun j k hj e => ?_, fun j1 j2 k h1 h2 e1 e2 => ?_, fun k hk => ?_⟩, fun k hk => ?_, fun k hk => .inl hk, fS⟩
  · rw [g5 0 (by omega) (by omega)]; exact h.cells.map
  · rw [g5 1 (by omega) (by omega)]; exact h.cells.wk
  · by_cases e : j = i
    · subst e; simp only [if_true]; exact g3
    · simp only [if_neg e]; rw [g5 _ (by omega) (by omega)]; exact h.cells.row j hj
  · by_cases e : j = i
    · subst e; simp only [if_true]; exact g4
    · simp only [if_neg e]; rw [g5 _ (by omega) (by omega)]; exact h.cells.done j hj
  · rw [g5 18 (by omega) (by omega)]; exact h.cells.fed
  · rw [g5 19 (by omega) (by omega)]; exact h.cells.point
  · rw [g5 20 (by omega) (by omega)]; exact h.cells.top
  · by_cases e : j = i
    · subst e
      simp only [if_true, qupd]
      exact ⟨g6, g7, by have := (h.rows j hj).2.2.1; omega, g9⟩
    · simp only [if_neg e, qupd]
      refine ⟨(h.rows j hj).1.fr g10 (fun k ek hk => ?_), (h.rows j hj).2.1, by have := (h.rows j hj).2.2.1; omega, (h.rows j hj).2.2.2⟩
      rcases hk with hk | hk
      · exact (h.oq j k hj ek).2.1 hk
      · exact e (h.apart j i k hj hi ek hk)
  · refine h.pages.fr g10 (fun e => ?_)
    rcases e with e | e
    · exact h.bm e.symm
    · exact (h.oq i m hi e).2.2 rfl
  · obtain ⟨k1, k2⟩ := h.nods x n hx
    refine ⟨k1.frS fS k2, ?_⟩
    refine (k2.or (T := fun k => w.heap.size ≤ k) (k1.far (fun b' hb' => by omega))).sub (fun k hk => ?_)
    rcases hk with hk | hk
    · exact .inl hk
    · rcases hnew k hk with e | e
      · exact .inl (h.oq i k hi e).1
      · exact .inr e
  · by_cases ej : j = i
    · subst ej
      simp only [if_true, QA.own] at e
      refine ⟨.inr e, ?_⟩
      rcases hnew k e with e | e
      · exact (h.oq j k hj e).2
      · exact ⟨by omega, by omega⟩
    · simp only [if_neg ej] at e
      exact ⟨.inl (h.oq j k hj e).1, (h.oq j k hj e).2⟩
  · have key : ∀ j k, j < 8 → j ≠ i → (q j).own = some k → (Value.slice a2 n2 c2).ownBlock = some k → False := fun j k hj hne e1 e2 => by
      rcases hnew k e2 with e | e
      · exact hne (h.apart j i k hj hi e1 e)
      · have := (h.rows j hj).1.lt (k := k) e1; omega
    by_cases c1 : j1 = i
    · by_cases c2 : j2 = i
      · omega
      · simp only [c1, if_true, QA.own] at e1
        simp only [if_neg c2] at e2
        exact (key j2 k h2 c2 e2 e1).elim
    · by_cases c2 : j2 = i
      · simp only [if_neg c1] at e1
        simp only [c2, if_true, QA.own] at e2
        exact (key j1 k h1 c1 e1 e2).elim
      · simp only [if_neg c1] at e1
        simp only [if_neg c2] at e2
        exact h.apart j1 j2 k h1 h2 e1 e2
  · rcases hk with hk | hk
    · exact Nat.lt_of_lt_of_le (h.lt k hk) fS.size
    · exact g6.lt hk
  · rcases hk with hk | hk
    · exact .inl hk
    · rcases hnew k hk with e | e
      · exact .inl (h.oq i k hi e).1
      · exact .inr e
end
end Go.Proofs.YtfnbjmifdemkpaaGreat
