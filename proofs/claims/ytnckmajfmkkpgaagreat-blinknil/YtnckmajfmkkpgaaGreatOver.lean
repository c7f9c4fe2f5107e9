
/- A range over a function, said by frames: what an iterator owes, and what the caller owes who ranges over it. -/
import Derived.RangeFuncNested
import Derived.RangeFuncBound
import Derived.RangeFuncCalls
import Derived.RangeFuncLeaves
import Derived.Test.YtnckmajfmkkpgaaGreatBB1
namespace Go.Proofs.YtnckmajfmkkpgaaGreat
open Go.RowKit

theorem Fr.put (w : World) (r : Nat) (o : Obj) : Fr (fun k => k = r) w (w.putObj r o) :=
  ⟨rfl, rfl, rfl, by simp, fun _ _ h => World.putObj_heap_other h⟩
theorem Fr.widen {S T : Nat → Prop} {a b : World} (h : Fr S a b) (hs : ∀ k, S k → T k) : Fr T a b :=
  ⟨h.os, h.tape, h.output, h.size, fun k hk hT => h.block k hk (fun e => hT (hs k e))⟩
/-- What the caller of an iterator holds between two rounds (J), while a round may write some blocks (T), of which the iterator reads none (R). -/
structure Tend {α : Type} (R : Nat → Prop) (T : World → Nat → Prop) (J : List α → World → Prop) : Prop where
  steady : ∀ pre A B, J pre A → Fr (fun _ => False) A B → J pre B
  old : ∀ pre A k, J pre A → T A k → k < A.heap.size
  back : ∀ pre A B k, J pre A → Fr (fun _ => False) A B → T B k → T A k
  apart : ∀ pre A k, J pre A → T A k → ¬ R k
/-- What an iterator owes: each round is asked for what comes next; all come, or a round has said that no more shall. -/
def Iter {α : Type} (P : Program) (g : Nat) (lb : Array Value) (encs : α → Array Value) (R : Nat → Prop) (M : List α → α → World → Prop) (S : List α → Prop) (w : World) : Prop :=
  ∀ (l : Nat) (T : World → Nat → Prop) (J Jx : List α → World → Prop) (W : World), Fr (fun k => ¬ R k) w W → Tend R T J → (∀ pre A B, Jx pre A → Fr (fun _ => False) A B → Jx pre B) →
    (∀ pre x W1, J pre W1 → M pre x W1 → YieldAt Fence.wide 0 P l (encs x) W1 fun e W' => (e = .returned (.bool true) ∧ J (pre ++ [x]) W' ∧ Fr (T W1) W1 W' ∧ ∀ k, T W' k → T W1 k ∨ W1.heap.size ≤ k) ∨ (e = .returned (.bool false) ∧ Jx (pre ++ [x]) W')) →
    J [] W →
    CallsIn Fence.wide 0 P g (#[.func (.yield l) #[] #[]] ++ lb) W fun e W' => (∃ v, e = .returned v) ∧ ((∃ xs, S xs ∧ J xs W') ∨ (∃ pre, Jx pre W'))
/-- How a round may be left. -/
def RndOut {α : Type} (T : World → Nat → Prop) (I : List α → World → Prop) (Ix : Code → List α → World → Prop) (xs : List α) (W : World) : Exit → Act → World → Prop
  | .normal, _, W' => Fr (T W) W W' ∧ (∀ k, T W' k → T W k ∨ W.heap.size ≤ k) ∧ I xs W'
  | .ret, _, W' => Fr (T W) W W' ∧ Ix .ret xs W'
  | .exit id, _, W' => Fr (T W) W W' ∧ Ix (.exit id) xs W'
  | .goto t, _, W' => Fr (T W) W W' ∧ Ix (.goto t) xs W'
  | .panic _, _, _ => False
  | .outgrown, _, _ => False
/-- The caller's statement. -/
theorem over {α : Type} {P : Program} {g : Operand} {ps : Array Tmp} {assign body : Code} {Q : Exit → Act → World → Prop} {a : Act} {w : World} {gf : Nat} {lb : Array Value}
    (hg : a.eval g = .func (.func gf) #[] lb) (eg : ∀ args w, (callFunc gf args).run P w = .ok (.enter gf args) w) {encs : α → Array Value} {R : Nat → Prop} {M : List α → α → World → Prop} {S : List α → Prop} {w0 : World}
    (hit : Iter P gf lb encs R M S w0) (hw : Fr (fun k => ¬ R k) w0 w) (hps : ∀ x, (encs x).size = ps.size)
    (T : World → Nat → Prop) (I : List α → World → Prop) (Ix : Code → List α → World → Prop)
    (st : ∀ pre A B, I pre A → Fr (fun k => k = w.heap.size ∨ k = w.heap.size + 1) A B → I pre B)
    (stx : ∀ c pre A B, Ix c pre A → Fr (fun k => k = w.heap.size ∨ k = w.heap.size + 1) A B → Ix c pre B)
    (ol : ∀ pre A k, I pre A → T A k → k < A.heap.size)
    (bk : ∀ pre A B k, I pre A → Fr (fun k => k = w.heap.size ∨ k = w.heap.size + 1) A B → T B k → T A k)
    (ap : ∀ pre A k, I pre A → T A k → ¬ R k ∧ k ≠ w.heap.size ∧ k ≠ w.heap.size + 1)
    (h0 : I [] w)
    (hround : ∀ (pre : List α) (x : α) (W : World), I pre W → M pre x W → w.heap.size + 2 ≤ W.heap.size → (∀ k cs t f, (k = w.heap.size ∨ k = w.heap.size + 1) → W.heap[k]? ≠ some (.cells cs t f)) →
      assign.wpIn (Fence.wide.inRound (w.heap.size + 1)) 0 P (Exit.then (fun a₁ w₁ => Fr (fun _ => False) W w₁ ∧ ∀ W2, Fr (fun k => k = w.heap.size + 1) w₁ W2 → body.wpIn (Fence.wide.inRound (w.heap.size + 1)) 0 P (RndOut T I Ix (pre ++ [x]) W2) a₁ W2) (fun _ _ _ => False))
        { tmps := (ps.zip (encs x)).foldl (fun t (p, v) => t.setIfInBounds p v) a.tmps, defers := [] } W)
    (hdone : ∀ (xs : List α) (W : World), S xs → I xs W → W.heap[w.heap.size]? = some (.deferred (some [])) → Q .normal { a with defers := { target := .collected w.heap.size, args := #[] } :: a.defers } W)
    (hstop : ∀ (c : Code) (pre : List α) (W : World), Ix c pre W → W.heap[w.heap.size]? = some (.deferred (some [])) → c.wpIn Fence.wide 0 P Q { a with defers := { target := .collected w.heap.size, args := #[] } :: a.defers } W) :
    (Code.rangeFunc g ps assign body).wpIn Fence.wide 0 P Q a w := by
  refine wpIn_rangeFunc (F := Fence.wide) (n := 0) (fun fn _ => ?_)
  let mk : LoopState → Option Code → Loop := fun s p => { state := s, pending := p, fn, tmps := a.tmps, params := ps, assign, body, defers := w.heap.size }
  let V : World := (w.alloc (.deferred (some []))).alloc (.loop (mk .ready none))
  have hVl : V.heap[w.heap.size + 1]? = some (.loop (mk .ready none)) := by
    have := World.alloc_heap_new (w.alloc (.deferred (some []))) (.loop (mk .ready none))
    rwa [World.size_alloc] at this
  have fV : Fr (fun _ => False) w V := ((Fr.refl _ w).alloc _).alloc _
  have hVd : V.heap[w.heap.size]? = some (.deferred (some [])) := by
    have h1 : Fr (fun _ => False) (w.alloc (.deferred (some []))) V := (Fr.refl _ _).alloc _
    rw [h1.block _ (by simp) (fun f => f)]
    exact World.alloc_heap_new w _
  refine ⟨w.heap.size + 1, [{ target := .collected w.heap.size, args := #[] }], V, { target := .fn (.func gf) lb, args := #[.func (.yield (w.heap.size + 1)) #[] #[]] }, V, gf, #[.func (.yield (w.heap.size + 1)) #[] #[]] ++ lb, V, run_enterLoop_outer _ _ _ _ _, ?_, fun _ _ => trivial, ?_, fun h => by simp [Fence.wide] at h, ?_⟩
  · simp only [resolve, hg]
    simp [go_sem]
  · simp [invoke, go_sem, eg]
  have wide : ∀ {A B : World}, Fr (fun _ => False) A B → Fr (fun k => k = w.heap.size ∨ k = w.heap.size + 1) A B := fun f => f.widen (fun _ h => h.elim)
  refine (hit (w.heap.size + 1) T
    (fun pre W => I pre W ∧ W.heap[w.heap.size + 1]? = some (.loop (mk .ready none)) ∧ W.heap[w.heap.size]? = some (.deferred (some [])))
    (fun pre W => ∃ c, Ix c pre W ∧ W.heap[w.heap.size + 1]? = some (.loop (mk .done (some c))) ∧ W.heap[w.heap.size]? = some (.deferred (some [])))
    V (hw.trans fV (fun _ _ f => f.elim)) ⟨?_, ?_, ?_, ?_⟩ ?_ ?_ ⟨st _ _ _ h0 (wide fV), hVl, hVd⟩).mono ?_
  · rintro pre A B ⟨h1, h2, h3⟩ f
    exact ⟨st _ _ _ h1 (wide f), (f.block _ (Array.getElem?_eq_some_iff.1 h2).1 (fun f => f)).trans h2, (f.block _ (Array.getElem?_eq_some_iff.1 h3).1 (fun f => f)).trans h3⟩
  · rintro pre A k ⟨h1, _⟩ ht
    exact ol pre A k h1 ht
  · rintro pre A B k ⟨h1, _⟩ f ht
    exact bk pre A B k h1 (wide f) ht
  · rintro pre A k ⟨h1, _⟩ ht
    exact (ap pre A k h1 ht).1
  · rintro pre A B ⟨c, h1, h2, h3⟩ f
    exact ⟨c, stx _ _ _ _ h1 (wide f), (f.block _ (Array.getElem?_eq_some_iff.1 h2).1 (fun f => f)).trans h2, (f.block _ (Array.getElem?_eq_some_iff.1 h3).1 (fun f => f)).trans h3⟩
  · rintro pre x W ⟨h1, h2, h3⟩ hM
    have hlt := (Array.getElem?_eq_some_iff.1 h2).1
    refine ⟨fn, _, assign, body, run_yield h2 (hps x), roundIn_of_wpIn trivial ?_⟩
    refine wpIn_mono (hround pre x W h1 hM (by omega) (fun k cs t f hk e => by
      rcases hk with rfl | rfl
      · rw [h3] at e; cases e
      · rw [h2] at e; cases e)) ?_
    intro e a1 w1 he
    cases e with
    | normal =>
      obtain ⟨f1, hb⟩ := he
      have hl1 : w1.heap[w.heap.size + 1]? = some (.loop (mk .ready none)) := (f1.block _ hlt (fun f => f)).trans h2
      have hd1 : w1.heap[w.heap.size]? = some (.deferred (some [])) := (f1.block _ (by omega) (fun f => f)).trans h3
      have hz1 := f1.size
      refine ⟨_, run_beginRound hl1 rfl, ?_⟩
      have fb := Fr.put w1 (w.heap.size + 1) (.loop { mk .ready none with state := .busy })
      have hI1 := st _ _ _ h1 (wide f1)
      have hl2 : (w1.putObj (w.heap.size + 1) (.loop { mk .ready none with state := .busy })).heap[w.heap.size + 1]? = some (.loop { mk .ready none with state := .busy }) := World.putObj_heap_same (by omega)
      have hd2 : (w1.putObj (w.heap.size + 1) (.loop { mk .ready none with state := .busy })).heap[w.heap.size]? = some (.deferred (some [])) := (World.putObj_heap_other (by omega)).trans hd1
      have hb' := hb _ fb
      have hI2 := st _ _ _ hI1 (fb.widen (fun k h => .inr h))
      have hT2 : ∀ k, T (w1.putObj (w.heap.size + 1) (.loop { mk .ready none with state := .busy })) k → T W k := fun k hk => bk _ _ _ _ h1 (wide f1) (bk _ _ _ _ hI1 (fb.widen (fun k h => .inr h)) hk)
      have hN2 : ∀ k, T (w1.putObj (w.heap.size + 1) (.loop { mk .ready none with state := .busy })) k → k ≠ w.heap.size ∧ k ≠ w.heap.size + 1 := fun k hk => (ap _ _ _ hI2 hk).2
      have hz2 : (w1.putObj (w.heap.size + 1) (.loop { mk .ready none with state := .busy })).heap.size = w1.heap.size := by simp
      have hk2 : ∀ k, k ≠ w.heap.size + 1 → (w1.putObj (w.heap.size + 1) (.loop { mk .ready none with state := .busy })).heap[k]? = w1.heap[k]? := fun k hk => World.putObj_heap_other hk
      have ho2 : (w1.putObj (w.heap.size + 1) (.loop { mk .ready none with state := .busy })).os = w1.os ∧ (w1.putObj (w.heap.size + 1) (.loop { mk .ready none with state := .busy })).tape = w1.tape ∧ (w1.putObj (w.heap.size + 1) (.loop { mk .ready none with state := .busy })).output = w1.output := ⟨rfl, rfl, rfl⟩
      generalize w1.putObj (w.heap.size + 1) (.loop { mk .ready none with state := .busy }) = W2 at *
      refine wpIn_mono hb' ?_
      -- behind the body: the record is put back
      have fin : ∀ (jump : Option Code) (W3 : World), Fr (T W2) W2 W3 →
          (Instr.endRound (w.heap.size + 1) jump).run P W3 = .ok (.bool jump.isNone) (W3.putObj (w.heap.size + 1) (.loop (mk (if jump.isNone then .ready else .done) jump))) ∧
          (W3.putObj (w.heap.size + 1) (.loop (mk (if jump.isNone then .ready else .done) jump))).heap[w.heap.size + 1]? = some (.loop (mk (if jump.isNone then .ready else .done) jump)) ∧
          (W3.putObj (w.heap.size + 1) (.loop (mk (if jump.isNone then .ready else .done) jump))).heap[w.heap.size]? = some (.deferred (some [])) ∧
          Fr (fun k => k = w.heap.size ∨ k = w.heap.size + 1) W3 (W3.putObj (w.heap.size + 1) (.loop (mk (if jump.isNone then .ready else .done) jump))) := fun jump W3 f3 => by
        have hl3 := (f3.block (w.heap.size + 1) (by omega) (fun h => (hN2 _ h).2 rfl)).trans hl2
        have hd3 := (f3.block w.heap.size (by omega) (fun h => (hN2 _ h).1 rfl)).trans hd2
        exact ⟨run_endRound jump hl3, World.putObj_heap_same (Array.getElem?_eq_some_iff.1 hl3).1, (World.putObj_heap_other (by omega)).trans hd3, (Fr.put _ _ _).widen (fun k h => .inr h)⟩
      intro e2 a2 W3 hp
      cases e2 with
      | normal =>
        obtain ⟨f3, hg3, hi3⟩ := hp
        obtain ⟨hr, hl4, hd4, f4⟩ := fin none W3 f3
        refine ⟨_, _, hr, .inl ⟨rfl, ⟨st _ _ _ hi3 f4, hl4, hd4⟩, ?_, fun k hk => ?_⟩⟩
        rotate_left
        · rcases hg3 k (bk _ _ _ _ hi3 f4 hk) with h | h
          · exact .inl (hT2 k h)
          · exact .inr (by omega)
        have hz3 := f3.size
        refine ⟨?_, ?_, ?_, ?_, ?_⟩
        · rw [f4.os, f3.os, ho2.1, f1.os]
        · rw [f4.tape, f3.tape, ho2.2.1, f1.tape]
        · rw [f4.output, f3.output, ho2.2.2, f1.output]
        · have := f4.size; omega
        · intro k hk hT
          by_cases e : k = w.heap.size + 1
          · subst e; rw [h2]; exact hl4
          · rw [World.putObj_heap_other e, f3.block k (by omega) (fun h => hT (hT2 k h)), hk2 k e, f1.block k hk (fun f => f)]
      | ret =>
        obtain ⟨f3, hi3⟩ := hp
        obtain ⟨hr, hl4, hd4, f4⟩ := fin (some .ret) W3 f3
        exact ⟨_, _, hr, .inr ⟨rfl, .ret, stx _ _ _ _ hi3 f4, hl4, hd4⟩⟩
      | exit id =>
        obtain ⟨f3, hi3⟩ := hp
        obtain ⟨hr, hl4, hd4, f4⟩ := fin (some (.exit id)) W3 f3
        exact ⟨_, _, hr, .inr ⟨rfl, .exit id, stx _ _ _ _ hi3 f4, hl4, hd4⟩⟩
      | goto t =>
        obtain ⟨f3, hi3⟩ := hp
        obtain ⟨hr, hl4, hd4, f4⟩ := fin (some (.goto t)) W3 f3
        exact ⟨_, _, hr, .inr ⟨rfl, .goto t, stx _ _ _ _ hi3 f4, hl4, hd4⟩⟩
      | panic _ => exact hp.elim
      | outgrown => exact hp.elim
    | ret => exact he.elim
    | exit _ => exact he.elim
    | goto _ => exact he.elim
    | panic _ => exact he.elim
    | outgrown => exact he.elim
  · rintro e W2 ⟨⟨v, rfl⟩, (⟨xs, hS, hi, hl, hd⟩ | ⟨pre, c, hi, hl, hd⟩)⟩
    · exact ⟨none, _, run_endLoop hl (by simp [mk]), hdone xs _ hS (st _ _ _ hi ((Fr.put _ _ _).widen (fun k h => .inr h))) ((World.putObj_heap_other (by omega)).trans hd)⟩
    · exact ⟨some c, _, run_endLoop hl (by simp [mk]), hstop c pre _ (stx _ _ _ _ hi ((Fr.put _ _ _).widen (fun k h => .inr h))) ((World.putObj_heap_other (by omega)).trans hd)⟩
end Go.Proofs.YtnckmajfmkkpgaaGreat
