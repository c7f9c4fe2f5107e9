
/- KRef, FdKit, Args, FdRec. -/
import Derived.Test.YthdbkanbgfajbaaGreatTB2
import Derived.RangeFuncNested
import Derived.RangeFuncBound
import Derived.RangeFuncCalls
import Derived.RangeFuncLeaves
import Derived.Test.YthdbkanbgfajbaaGreatTB1
import Derived.Shelf.Abstract
import Derived.Shelf.RegionOpen
import Derived.OwnWalkIn
import Derived.TacticsInMore
import Derived.LoopNIn
import Derived.LoopIn
import Derived.Test.YthdbkanbgfajbaaGreatRows
import Derived.ProofKit
import Derived.OpenShut
import Derived.ShutString
import Derived.ChangeOld
import Derived.SizedLaws
import Derived.Deep.Strs
/- What the document's own Common and Compare tell. -/
namespace Go.Proofs.YthdbkanbgfajbaaGreat
open Go.RowKit

end Go.Proofs.YthdbkanbgfajbaaGreat

/- A range over a function, said by frames; rows that a loop over an iterator gathers. -/
namespace Go.Proofs.YthdbkanbgfajbaaGreat
open Go.RowKit Go.Shelf

theorem ret_bool {x y : Bool} (h : x = y) : Ending.returned (.bool x) = .returned (.bool y) := by rw [h]
theorem Fr.seq' {a b c : World} (h : Fr (fun _ => False) a b) (k : Fr (fun _ => False) b c) : Fr (fun _ => False) a c := h.trans k (fun _ _ f => f)
theorem Fr.box (w : World) (o : Obj) : Fr (fun _ => False) w (w.alloc o) := (Fr.refl _ w).alloc o
theorem Fr.blk {S : Nat → Prop} {w w' : World} (f : Fr S w w') {k : Nat} {o : Obj} (h : w.heap[k]? = some o) (hn : ¬ S k) : w'.heap[k]? = some o := by
  rw [f.block k (lt_of_block h) hn]; exact h
theorem Fr.put (w : World) (r : Nat) (o : Obj) : Fr (fun k => k = r) w (w.putObj r o) :=
  ⟨rfl, rfl, rfl, by simp, fun _ _ h => World.putObj_heap_other h⟩
theorem Fr.widen {S T : Nat → Prop} {a b : World} (h : Fr S a b) (hs : ∀ k, S k → T k) : Fr T a b :=
  ⟨h.os, h.tape, h.output, h.size, fun k hk hT => h.block k hk (fun e => hT (hs k e))⟩
/-- What the caller of an iterator holds between two rounds (J), while a round may write some blocks (T), of which the iterator reads none (R). -/
structure Tend {α : Type} (R : Nat → Prop) (T : World → Nat → Prop) (J : List α → World → Prop) : Prop where
  steady : ∀ pre A B, J pre A → Fr (fun _ => False) A B → J pre B
  old : ∀ pre A k, J pre A → T A k → k < A.heap.size
  back : ∀ pre A B k, J pre A → Fr (fun _ => False) A B → T B k → T A k
  apart : ∀ pre A k, J pre A → T A k → ¬ R k
/-- What an iterator owes: each round is asked for what comes next; all come, or a round has said that no more shall. -/
def Iter {α : Type} (P : Program) (g : Nat) (lb : Array Value) (encs : α → Array Value) (R : Nat → Prop) (M : List α → α → World → Prop) (S : List α → Prop) (w : World) : Prop :=
  ∀ (l : Nat) (T : World → Nat → Prop) (J Jx : List α → World → Prop) (W : World), Fr (fun k => ¬ R k) w W → Tend R T J → (∀ pre A B, Jx pre A → Fr (fun _ => False) A B → Jx pre B) →
    (∀ pre x W1, J pre W1 → M pre x W1 → YieldAt Fence.wide 0 P l (encs x) W1 fun e W' => (e = .returned (.bool true) ∧ J (pre ++ [x]) W' ∧ Fr (T W1) W1 W' ∧ ∀ k, T W' k → T W1 k ∨ W1.heap.size ≤ k) ∨ (e = .returned (.bool false) ∧ Jx (pre ++ [x]) W')) →
    J [] W →
    CallsIn Fence.wide 0 P g (#[.func (.yield l) #[] #[]] ++ lb) W fun e W' => (∃ v, e = .returned v) ∧ ((∃ xs, S xs ∧ J xs W') ∨ (∃ pre, Jx pre W'))
/-- How a round may be left. -/
def RndOut {α : Type} (T : World → Nat → Prop) (I : List α → World → Prop) (Ix : Code → List α → World → Prop) (xs : List α) (W : World) : Exit → Act → World → Prop
  | .normal, _, W' => Fr (T W) W W' ∧ (∀ k, T W' k → T W k ∨ W.heap.size ≤ k) ∧ I xs W'
  | .ret, _, W' => Fr (T W) W W' ∧ Ix .ret xs W'
  | .exit id, _, W' => Fr (T W) W W' ∧ Ix (.exit id) xs W'
  | .goto t, _, W' => Fr (T W) W W' ∧ Ix (.goto t) xs W'
  | .panic _, _, _ => False
  | .outgrown, _, _ => False
/-- The caller's statement. -/
theorem over {α : Type} {P : Program} {g : Operand} {ps : Array Tmp} {assign body : Code} {Q : Exit → Act → World → Prop} {a : Act} {w : World} {gf : Nat} {lb : Array Value}
    (hg : a.eval g = .func (.func gf) #[] lb) (eg : ∀ args w, (callFunc gf args).run P w = .ok (.enter gf args) w) {encs : α → Array Value} {R : Nat → Prop} {M : List α → α → World → Prop} {S : List α → Prop} {w0 : World}
    (hit : Iter P gf lb encs R M S w0) (hw : Fr (fun k => ¬ R k) w0 w) (hps : ∀ x, (encs x).size = ps.size)
    (T : World → Nat → Prop) (I : List α → World → Prop) (Ix : Code → List α → World → Prop)
    (st : ∀ pre A B, I pre A → Fr (fun k => k = w.heap.size ∨ k = w.heap.size + 1) A B → I pre B)
    (stx : ∀ c pre A B, Ix c pre A → Fr (fun k => k = w.heap.size ∨ k = w.heap.size + 1) A B → Ix c pre B)
    (ol : ∀ pre A k, I pre A → T A k → k < A.heap.size)
    (bk : ∀ pre A B k, I pre A → Fr (fun k => k = w.heap.size ∨ k = w.heap.size + 1) A B → T B k → T A k)
    (ap : ∀ pre A k, I pre A → T A k → ¬ R k ∧ k ≠ w.heap.size ∧ k ≠ w.heap.size + 1)
    (h0 : I [] w)
    (hround : ∀ (pre : List α) (x : α) (W : World), I pre W → M pre x W → w.heap.size + 2 ≤ W.heap.size → (∀ k cs t f, (k = w.heap.size ∨ k = w.heap.size + 1) → W.heap[k]? ≠ some (.cells cs t f)) →
      assign.wpIn (Fence.wide.inRound (w.heap.size + 1)) 0 P (Exit.then (fun a₁ w₁ => Fr (fun _ => False) W w₁ ∧ ∀ W2, Fr (fun k => k = w.heap.size + 1) w₁ W2 → body.wpIn (Fence.wide.inRound (w.heap.size + 1)) 0 P (RndOut T I Ix (pre ++ [x]) W2) a₁ W2) (fun _ _ _ => False))
        { tmps := (ps.zip (encs x)).foldl (fun t (p, v) => t.setIfInBounds p v) a.tmps, defers := [] } W)
    (hdone : ∀ (xs : List α) (W : World), S xs → I xs W → W.heap[w.heap.size]? = some (.deferred (some [])) → Q .normal { a with defers := { target := .collected w.heap.size, args := #[] } :: a.defers } W)
    (hstop : ∀ (c : Code) (pre : List α) (W : World), Ix c pre W → W.heap[w.heap.size]? = some (.deferred (some [])) → c.wpIn Fence.wide 0 P Q { a with defers := { target := .collected w.heap.size, args := #[] } :: a.defers } W) :
    (Code.rangeFunc g ps assign body).wpIn Fence.wide 0 P Q a w := by
  refine wpIn_rangeFunc (F := Fence.wide) (n := 0) (fun fn _ => ?_)
  let mk : LoopState → Option Code → Loop := fun s p => { state := s, pending := p, fn, tmps := a.tmps, params := ps, assign, body, defers := w.heap.size }
  let V : World := (w.alloc (.deferred (some []))).alloc (.loop (mk .ready none))
  have hVl : V.heap[w.heap.size + 1]? = some (.loop (mk .ready none)) := by
    have := World.alloc_heap_new (w.alloc (.deferred (some []))) (.loop (mk .ready none))
    rwa [World.size_alloc] at this
  have fV : Fr (fun _ => False) w V := ((Fr.refl _ w).alloc _).alloc _
  have hVd : V.heap[w.heap.size]? = some (.deferred (some [])) := by
    have h1 : Fr (fun _ => False) (w.alloc (.deferred (some []))) V := (Fr.refl _ _).alloc _
    rw [h1.block _ (by simp) (fun f => f)]
    exact World.alloc_heap_new w _
  refine ⟨w.heap.size + 1, [{ target := .collected w.heap.size, args := #[] }], V, { target := .fn (.func gf) lb, args := #[.func (.yield (w.heap.size + 1)) #[] #[]] }, V, gf, #[.func (.yield (w.heap.size + 1)) #[] #[]] ++ lb, V, run_enterLoop_outer _ _ _ _ _, ?_, fun _ _ => trivial, ?_, fun h => by simp [Fence.wide] at h, ?_⟩
  · simp only [resolve, hg]
    simp [go_sem]
  · simp [invoke, go_sem, eg]
  have wide : ∀ {A B : World}, Fr (fun _ => False) A B → Fr (fun k => k = w.heap.size ∨ k = w.heap.size + 1) A B := fun f => f.widen (fun _ h => h.elim)
  refine (hit (w.heap.size + 1) T
    (fun pre W => I pre W ∧ W.heap[w.heap.size + 1]? = some (.loop (mk .ready none)) ∧ W.heap[w.heap.size]? = some (.deferred (some [])))
    (fun pre W => ∃ c, Ix c pre W ∧ W.heap[w.heap.size + 1]? = some (.loop (mk .done (some c))) ∧ W.heap[w.heap.size]? = some (.deferred (some [])))
    V (hw.trans fV (fun _ _ f => f.elim)) ⟨?_, ?_, ?_, ?_⟩ ?_ ?_ ⟨st _ _ _ h0 (wide fV), hVl, hVd⟩).mono ?_
  · rintro pre A B ⟨h1, h2, h3⟩ f
    exact ⟨st _ _ _ h1 (wide f), (f.block _ (Array.getElem?_eq_some_iff.1 h2).1 (fun f => f)).trans h2, (f.block _ (Array.getElem?_eq_some_iff.1 h3).1 (fun f => f)).trans h3⟩
  · rintro pre A k ⟨h1, _⟩ ht
    exact ol pre A k h1 ht
  · rintro pre A B k ⟨h1, _⟩ f ht
    exact bk pre A B k h1 (wide f) ht
  · rintro pre A k ⟨h1, _⟩ ht
    exact (ap pre A k h1 ht).1
  · rintro pre A B ⟨c, h1, h2, h3⟩ f
    exact ⟨c, stx _ _ _ _ h1 (wide f), (f.block _ (Array.getElem?_eq_some_iff.1 h2).1 (fun f => f)).trans h2, (f.block _ (Array.getElem?_eq_some_iff.1 h3).1 (fun f => f)).trans h3⟩
  · rintro pre x W ⟨h1, h2, h3⟩ hM
    have hlt := (Array.getElem?_eq_some_iff.1 h2).1
    refine ⟨fn, _, assign, body, run_yield h2 (hps x), roundIn_of_wpIn trivial ?_⟩
    refine wpIn_mono (hround pre x W h1 hM (by omega) (fun k cs t f hk e => by
      rcases hk with rfl | rfl
      · rw [h3] at e; cases e
      · rw [h2] at e; cases e)) ?_
    intro e a1 w1 he
    cases e with
    | normal =>
      obtain ⟨f1, hb⟩ := he
      have hl1 : w1.heap[w.heap.size + 1]? = some (.loop (mk .ready none)) := (f1.block _ hlt (fun f => f)).trans h2
      have hd1 : w1.heap[w.heap.size]? = some (.deferred (some [])) := (f1.block _ (by omega) (fun f => f)).trans h3
      have hz1 := f1.size
      refine ⟨_, run_beginRound hl1 rfl, ?_⟩
      have fb := Fr.put w1 (w.heap.size + 1) (.loop { mk .ready none with state := .busy })
      have hI1 := st _ _ _ h1 (wide f1)
      have hl2 : (w1.putObj (w.heap.size + 1) (.loop { mk .ready none with state := .busy })).heap[w.heap.size + 1]? = some (.loop { mk .ready none with state := .busy }) := World.putObj_heap_same (by omega)
      have hd2 : (w1.putObj (w.heap.size + 1) (.loop { mk .ready none with state := .busy })).heap[w.heap.size]? = some (.deferred (some [])) := (World.putObj_heap_other (by omega)).trans hd1
      have hb' := hb _ fb
      have hI2 := st _ _ _ hI1 (fb.widen (fun k h => .inr h))
      have hT2 : ∀ k, T (w1.putObj (w.heap.size + 1) (.loop { mk .ready none with state := .busy })) k → T W k := fun k hk => bk _ _ _ _ h1 (wide f1) (bk _ _ _ _ hI1 (fb.widen (fun k h => .inr h)) hk)
      have hN2 : ∀ k, T (w1.putObj (w.heap.size + 1) (.loop { mk .ready none with state := .busy })) k → k ≠ w.heap.size ∧ k ≠ w.heap.size + 1 := fun k hk => (ap _ _ _ hI2 hk).2
      have hz2 : (w1.putObj (w.heap.size + 1) (.loop { mk .ready none with state := .busy })).heap.size = w1.heap.size := by simp
      have hk2 : ∀ k, k ≠ w.heap.size + 1 → (w1.putObj (w.heap.size + 1) (.loop { mk .ready none with state := .busy })).heap[k]? = w1.heap[k]? := fun k hk => World.putObj_heap_other hk
      have ho2 : (w1.putObj (w.heap.size + 1) (.loop { mk .ready none with state := .busy })).os = w1.os ∧ (w1.putObj (w.heap.size + 1) (.loop { mk .ready none with state := .busy })).tape = w1.tape ∧ (w1.putObj (w.heap.size + 1) (.loop { mk .ready none with state := .busy })).output = w1.output := ⟨rfl, rfl, rfl⟩
      generalize w1.putObj (w.heap.size + 1) (.loop { mk .ready none with state := .busy }) = W2 at *
      refine wpIn_mono hb' ?_
      -- behind the body: the record is put back
      have fin : ∀ (jump : Option Code) (W3 : World), Fr (T W2) W2 W3 →
          (Instr.endRound (w.heap.size + 1) jump).run P W3 = .ok (.bool jump.isNone) (W3.putObj (w.heap.size + 1) (.loop (mk (if jump.isNone then .ready else .done) jump))) ∧
          (W3.putObj (w.heap.size + 1) (.loop (mk (if jump.isNone then .ready else .done) jump))).heap[w.heap.size + 1]? = some (.loop (mk (if jump.isNone then .ready else .done) jump)) ∧
          (W3.putObj (w.heap.size + 1) (.loop (mk (if jump.isNone then .ready else .done) jump))).heap[w.heap.size]? = some (.deferred (some [])) ∧
          Fr (fun k => k = w.heap.size ∨ k = w.heap.size + 1) W3 (W3.putObj (w.heap.size + 1) (.loop (mk (if jump.isNone then .ready else .done) jump))) := fun jump W3 f3 => by
        have hl3 := (f3.block (w.heap.size + 1) (by omega) (fun h => (hN2 _ h).2 rfl)).trans hl2
        have hd3 := (f3.block w.heap.size (by omega) (fun h => (hN2 _ h).1 rfl)).trans hd2
        exact ⟨run_endRound jump hl3, World.putObj_heap_same (Array.getElem?_eq_some_iff.1 hl3).1, (World.putObj_heap_other (by omega)).trans hd3, (Fr.put _ _ _).widen (fun k h => .inr h)⟩
      intro e2 a2 W3 hp
      cases e2 with
      | normal =>
        obtain ⟨f3, hg3, hi3⟩ := hp
        obtain ⟨hr, hl4, hd4, f4⟩ := fin none W3 f3
        refine ⟨_, _, hr, .inl ⟨rfl, ⟨st _ _ _ hi3 f4, hl4, hd4⟩, ?_, fun k hk => ?_⟩⟩
        rotate_left
        · rcases hg3 k (bk _ _ _ _ hi3 f4 hk) with h | h
          · exact .inl (hT2 k h)
          · exact .inr (by omega)
        have hz3 := f3.size
        refine ⟨?_, ?_, ?_, ?_, ?_⟩
        · rw [f4.os, f3.os, ho2.1, f1.os]
        · rw [f4.tape, f3.tape, ho2.2.1, f1.tape]
        · rw [f4.output, f3.output, ho2.2.2, f1.output]
        · have := f4.size; omega
        · intro k hk hT
          by_cases e : k = w.heap.size + 1
          · subst e; rw [h2]; exact hl4
          · rw [World.putObj_heap_other e, f3.block k (by omega) (fun h => hT (hT2 k h)), hk2 k e, f1.block k hk (fun f => f)]
      | ret =>
        obtain ⟨f3, hi3⟩ := hp
        obtain ⟨hr, hl4, hd4, f4⟩ := fin (some .ret) W3 f3
        exact ⟨_, _, hr, .inr ⟨rfl, .ret, stx _ _ _ _ hi3 f4, hl4, hd4⟩⟩
      | exit id =>
        obtain ⟨f3, hi3⟩ := hp
        obtain ⟨hr, hl4, hd4, f4⟩ := fin (some (.exit id)) W3 f3
        exact ⟨_, _, hr, .inr ⟨rfl, .exit id, stx _ _ _ _ hi3 f4, hl4, hd4⟩⟩
      | goto t =>
        obtain ⟨f3, hi3⟩ := hp
        obtain ⟨hr, hl4, hd4, f4⟩ := fin (some (.goto t)) W3 f3
        exact ⟨_, _, hr, .inr ⟨rfl, .goto t, stx _ _ _ _ hi3 f4, hl4, hd4⟩⟩
      | panic _ => exact hp.elim
      | outgrown => exact hp.elim
    | ret => exact he.elim
    | exit _ => exact he.elim
    | goto _ => exact he.elim
    | panic _ => exact he.elim
    | outgrown => exact he.elim
  · rintro e W2 ⟨⟨v, rfl⟩, (⟨xs, hS, hi, hl, hd⟩ | ⟨pre, c, hi, hl, hd⟩)⟩
    · exact ⟨none, _, run_endLoop hl (by simp [mk]), hdone xs _ hS (st _ _ _ hi ((Fr.put _ _ _).widen (fun k h => .inr h))) ((World.putObj_heap_other (by omega)).trans hd)⟩
    · exact ⟨some c, _, run_endLoop hl (by simp [mk]), hstop c pre _ (stx _ _ _ _ hi ((Fr.put _ _ _).widen (fun k h => .inr h))) ((World.putObj_heap_other (by omega)).trans hd)⟩
attribute [local go_sem] Oper.semAt_some
theorem wpListIn_append_has {F : Fence} {nd : Nat} {P : Program} (w : World) {ops : Array Oper} {rest : List Oper} {o : Oper} {ac : Act} {Q : Exit → Act → World → Prop} (hgd : o.guard = none) (s x : Operand) (t tx e e' : TypeId)
    (ho : o.op = .call { callee := .builtin .append, args := #[s, x], argTypes := #[t, tx] }) (i : TypeInfo) (z : Value) (size bytes : Nat) (ht : P.underlying t = some (.slice e)) (hx : P.underlying tx = some (.slice e')) (hi : P.info? e = some i) (hz : i.zero = some z)
    (hsize : i.size = size) (hby : i.bytes = bytes) (hzs : z.cells.size = size) (hsz : 0 < size)
    (v : Value) (n : Nat) (xs : List Value) (hse : ac.eval s = v) (hown : Has w size v n xs)
    (a : Option Addr) (m c : Nat) (news : List Value) (hxe : ac.eval x = .slice a m c) (hl : news.length = m * size) (hnews : From w a news) (h1 : ∀ u ∈ news, u.oneCell' = true)
    (h63 : n + m ≤ maxLen) (hbytes : (n + m) * bytes ≤ 140737488355328)
    (h : ∀ a' c' w', Has w' size (.slice a' (n + m) c') (n + m) (xs ++ news) → Fr (fun k => v.ownBlock = some k ∧ 0 < m) w w' → ((Value.slice a' (n + m) c').ownBlock = v.ownBlock ∨ (Value.slice a' (n + m) c').ownBlock = some w.heap.size) → wpListIn F nd P ops Q rest (ac.put o.dst (.slice a' (n + m) c')) w') : wpListIn F nd P ops Q (o :: rest) ac w := by
  refine wpListIn_plain hgd fun K hK' => ?_
  obtain ⟨v', w', hrun, h2, h3, h4⟩ := run_append_has (P := P) w t tx o.type e e' i z size bytes ht hx hi hz hsize hby hzs hsz v n xs hown a m c news hl hnews h1 h63 hbytes
  obtain ⟨a', c', rfl, _⟩ := h2.slice
  unfold Oper.wpIn
  refine ⟨?_, ?_⟩
  · simp [Oper.about, ho, resolve, Target.leads, Sem.run_pure]
  · rw [Oper.semAt_plain F _ _ (by rw [ho]; intro c hc'; cases hc')]
    simp [execOp, ho, resolve, invoke, builtin, hse, hxe, hrun, Result.andThen]
    exact hK' _ _ (h a' c' w' h2 h3 h4)
theorem one_cells {W : World} {B : Nat} {v : Value} {t : TypeId} (h : W.heap[B]? = some (.cells #[v] t (0, 0))) : W.cell? ⟨B, 0, none⟩ = some v ∧ W.frozen? ⟨B, 0, none⟩ = false := by
  constructor <;> simp [World.cell?, World.frozen?, h]
theorem one_setCell {W : World} {B : Nat} {v : Value} {t : TypeId} (h : W.heap[B]? = some (.cells #[v] t (0, 0))) (u : Value) : (W.setCell ⟨B, 0, none⟩ u).heap[B]? = some (.cells #[u] t (0, 0)) := by
  obtain ⟨hlt, he⟩ := Array.getElem?_eq_some_iff.1 h
  show (W.heap.modify B _)[B]? = _
  rw [Array.getElem?_eq_getElem (by rw [Array.size_modify]; exact hlt), Array.getElem_modify_self, he]
  rfl
/-- A row that is being gathered: its slice lies in a box, its memory in blocks that are new. -/
structure Gat (W : World) (B lo : Nat) (t : TypeId) (sz : Nat) (v : Value) (n : Nat) (cs : List Value) : Prop where
  blk : W.heap[B]? = some (.cells #[v] t (0, 0))
  has : Has W sz v n cs
  own : ∀ g, v.ownBlock = some g → lo ≤ g
  low : B < lo
theorem Gat.fr {S : Nat → Prop} {W W' : World} {B lo : Nat} {t : TypeId} {sz : Nat} {v : Value} {n : Nat} {cs : List Value} (h : Gat W B lo t sz v n cs) (f : Fr S W W') (hB : ¬ S B) (hS : ∀ k, lo ≤ k → ¬ S k) : Gat W' B lo t sz v n cs :=
  ⟨f.blk h.blk hB, h.has.fr f (fun k hk => hS k (h.own k hk)), h.own, h.low⟩
theorem Gat.next {W W8 : World} {B lo : Nat} {t : TypeId} {sz : Nat} {v v4 : Value} {n : Nat} {cs news : List Value} (h : Gat W B lo t sz v n cs) (hlo : lo ≤ W.heap.size) (ht : Has W8 sz v4 (n + 1) (cs ++ news)) (f : Fr (fun k => v.ownBlock = some k ∧ 0 < 1) W W8) (hat : v4.ownBlock = v.ownBlock ∨ v4.ownBlock = some W.heap.size) :
    W8.heap[B]? = some (.cells #[v] t (0, 0)) ∧ Gat (W8.setCell ⟨B, 0, none⟩ v4) B lo t sz v4 (n + 1) (cs ++ news) ∧ Fr (fun k => k = B ∨ v.ownBlock = some k) W (W8.setCell ⟨B, 0, none⟩ v4) := by
  have hb : W8.heap[B]? = some (.cells #[v] t (0, 0)) := f.blk h.blk (fun e => by have := h.own _ e.1; have := h.low; omega)
  have ho : ∀ g, v4.ownBlock = some g → lo ≤ g := fun g e => by
    rcases hat with e1 | e1
    · rw [e1] at e; exact h.own g e
    · rw [e1] at e; simp at e; omega
  have fs : Fr (fun k => k = B) W8 (W8.setCell ⟨B, 0, none⟩ v4) := (Fr.refl (fun k => k = B) W8).setCell (p := ⟨B, 0, none⟩) (fun _ => rfl) v4
  refine ⟨hb, ⟨one_setCell hb v4, ht.fr fs (fun k hk e => by have := ho k hk; have := h.low; omega), ho, h.low⟩, ?_⟩
  exact (f.widen (fun k e => .inr e.1)).trans fs (fun i _ e => .inl e)
theorem two_cells {W : World} {b : Nat} {t : TypeId} {c0 c1 : Value} (h : W.heap[b]? = some (.cells #[c0, c1] t (0, 0))) : W.cell? ⟨b, 0, none⟩ = some c0 ∧ W.cell? ⟨b, 1, none⟩ = some c1 := by
  constructor <;> simp [World.cell?, h]
end Go.Proofs.YthdbkanbgfajbaaGreat

/- A slice of bytes that came in, as a row. -/
namespace Go.Proofs.YthdbkanbgfajbaaGreat
open Go.ChangeShapes Go.WideShapes Go.ChangeAt Go.RowKit

theorem row_nil (w : World) (a : Option Addr) : Row w a 0 [] := ⟨Nat.le_refl _, by omega, by simp, (fun x hx => by cases hx), .inl rfl⟩
theorem row_of_ints {w : World} {x : Addr} {len cap : Nat} {zs : List Int} (hl : len ≤ cap) (hcap : cap ≤ 140737488351232) (hz : zs.length = cap)
    (hcell : ∀ i, i < zs.length → w.cell? (x.add i) = some (.int .u8 (zs.getD i 0))) (hwz : ∀ n ∈ zs, (Lit.int .u8 n).wf = true) : ∃ l : List Nat, len = l.length ∧ Row w (some x) cap l := by
  have hr := range_u8 hwz
  refine ⟨(zs.take len).map Int.toNat, by simp; omega, ?_⟩
  refine ⟨by simp; omega, by omega, by simp; omega, ?_, ?_⟩
  · intro y hy
    simp only [List.mem_map] at hy
    obtain ⟨z, hzm, rfl⟩ := hy
    have hz2 := List.mem_of_mem_take hzm
    obtain ⟨i, hi, he⟩ := List.getElem_of_mem hz2
    have := hr i
    rw [List.getElem?_eq_getElem hi, Option.getD_some, he] at this
    omega
  · by_cases h0 : len = 0
    · exact .inl (by simp [h0])
    · obtain ⟨b, off, spot⟩ := x
      have hc := hcell 0 (by omega)
      have hspot : spot = none := by simpa [Addr.add] using World.cell?_spot hc
      subst hspot
      refine .inr ⟨b, off, rfl, World.block_lt_of_cell? w ⟨b, off + 0, none⟩ (by rw [Addr.add_lit] at hc; exact hc), fun i hi => ?_⟩
      simp at hi
      have h1 := hcell i (by omega)
      rw [Addr.add_lit] at h1
      rw [h1]
      have h2 := hr i
      simp only [List.getD_eq_getElem?_getD, List.getElem?_map, List.getElem?_take, if_pos (show i < len by omega)]
      rw [List.getElem?_eq_getElem (show i < zs.length by omega)] at h2 ⊢
      simp only [Option.getD_some, Option.map_some] at h2 ⊢
      rw [Int.toNat_of_nonneg h2.1]
end Go.Proofs.YthdbkanbgfajbaaGreat

/- Records that are commits, and lists of records. -/
namespace Go.Proofs.YthdbkanbgfajbaaGreat
open Go.ChangeShapes Go.WideShapes Go.ChangeAt Go.RowKit Go.Deep

def wthB (x a b : Int) : Bool := decide (a ≤ x ∧ x ≤ b)
/-- A record's parts. -/
structure Rec where
  lsn : Int
  ep : Int
  kind : Int
  page : Int
  other : Int
  req : Int
  key : ByteArray
  val : ByteArray
def keyB (s : ByteArray) : Bool := ekey s.size == 0
def valB (s : ByteArray) : Bool := evalu s.size == 0
def emp (s : ByteArray) : Bool := s.toList.isEmpty
theorem valB_emp {s : ByteArray} (h : emp s = true) : valB s = true := by
  unfold emp at h
  unfold valB evalu
  rw [List.isEmpty_iff, Lib.toList_data] at h
  have : s.size = 0 := by rw [Lib.size_eq, h]; rfl
  rw [this]; rfl
theorem Fr.own {a w : World} (h : Fr (fun _ => False) a w) (j : Nat) (u : Value) : Fr (fun _ => False) a (w.setCell ⟨a.heap.size, j, none⟩ u) := h.setCell (p := ⟨a.heap.size, j, none⟩) (fun hh => absurd hh (Nat.lt_irrefl _)) u
theorem rec_cells {w' : World} {c0 c1 c2 c3 c4 c5 c6 c7 : Value} {b : Nat} {t : TypeId} (h : w'.heap[b]? = some (.cells #[c0, c1, c2, c3, c4, c5, c6, c7] t (0, 0))) :
    (w'.cell? ⟨b, 0, none⟩ = some c0 ∧ w'.cell? ⟨b, 1, none⟩ = some c1 ∧ w'.cell? ⟨b, 2, none⟩ = some c2 ∧ w'.cell? ⟨b, 3, none⟩ = some c3 ∧ w'.cell? ⟨b, 4, none⟩ = some c4 ∧ w'.cell? ⟨b, 5, none⟩ = some c5 ∧ w'.cell? ⟨b, 6, none⟩ = some c6 ∧ w'.cell? ⟨b, 7, none⟩ = some c7) ∧ ∀ j, w'.frozen? ⟨b, j, none⟩ = false := by
  refine ⟨⟨?_, ?_, ?_, ?_, ?_, ?_, ?_, ?_⟩, fun j => ?_⟩
  all_goals simp [World.cell?, World.frozen?, h]
theorem rec_at (w : World) (C : Array Value) (t : TypeId) {w' : World} (f : Fr (fun _ => False) (w.alloc (.cells C t)) w') : w'.heap[w.heap.size]? = some (.cells C t (0, 0)) := by
  rw [f.block w.heap.size (by simp) (fun f => f)]; exact heap_alloc_new w _
set_option maxRecDepth 100000 in
set_option maxHeartbeats 400000 in
theorem rwithin_any (n a b : Int) (w : World) : Calls Tryz.prog 36 #[.int .i64 n, .int .i64 a, .int .i64 b] w fun e w' => e = .returned (.bool (wthB n a b)) ∧ w' = w := by
  by_cases h1 : a ≤ n
  · by_cases h2 : n ≤ b
    · have e : wthB n a b = true := by unfold wthB; rw [decide_eq_true_eq]; exact ⟨h1, h2⟩
      rw [e]
      go_enter Tryz.func36, Tryz.ntmps36
      go_wp2
      go_ret
      exact ⟨rfl, rfl⟩
    · have e : wthB n a b = false := by unfold wthB; rw [decide_eq_false_iff_not]; exact fun h => h2 h.2
      rw [e]
      go_enter Tryz.func36, Tryz.ntmps36
      go_wp2
      go_ret
      exact ⟨rfl, rfl⟩
  · have e : wthB n a b = false := by unfold wthB; rw [decide_eq_false_iff_not]; exact fun h => h1 h.1
    rw [e]
    go_enter Tryz.func36, Tryz.ntmps36
    go_wp2
    go_ret
    exact ⟨rfl, rfl⟩
set_option maxRecDepth 100000 in
set_option maxHeartbeats 400000 in
theorem isEntry_any (lsn ep kind page other req : Int) (key val : ByteArray) (w : World) : Calls Tryz.prog 46 #[.agg #[.int .i64 lsn, .int .i64 ep, .int .i64 kind, .int .i64 page, .int .i64 other, .int .i64 req, .string key, .string val]] w fun e w' => e = .returned (.bool (keyB key && valB val)) ∧ w' = w.alloc (.cells #[.int .i64 lsn, .int .i64 ep, .int .i64 kind, .int .i64 page, .int .i64 other, .int .i64 req, .string key, .string val] 44) := by
  have H1 : Hid (keyB key = (((ekey key.size : Nat) : Int) == 0)) := by show _ = _; unfold keyB; rw [Bool.eq_iff_iff]; simp
  have H2 : Hid (valB val = (((evalu val.size : Nat) : Int) == 0)) := by show _ = _; unfold valB; rw [Bool.eq_iff_iff]; simp
  rw [H1.out, H2.out]
  have h1 := kcheck_any key
  have h2 := kvalue_any val
  generalize ((ekey key.size : Nat) : Int) = x at *
  generalize ((evalu val.size : Nat) : Int) = y at *
  by_cases hx : x = 0
  · subst hx
    go_enter Tryz.func46, Tryz.ntmps46
    go_wp2_with (first | (go_at_call 59; refine (h1 _).mono ?_; rintro e w' ⟨rfl, rfl⟩) | (go_at_call 60; refine (h2 _).mono ?_; rintro e w' ⟨rfl, rfl⟩))
    go_ret
    exact ⟨rfl, rfl⟩
  · have hx : (x == 0) = false := by simpa using hx
    rw [hx]
    go_enter Tryz.func46, Tryz.ntmps46
    go_wp2_with (first | (go_at_call 59; refine (h1 _).mono ?_; rintro e w' ⟨rfl, rfl⟩) | (go_at_call 60; refine (h2 _).mono ?_; rintro e w' ⟨rfl, rfl⟩))
    go_ret
    exact ⟨rfl, rfl⟩
set_option maxRecDepth 100000 in
set_option maxHeartbeats 1000000 in
theorem isCommit_any (lsn ep kind page other req : Int) (key val : ByteArray) (w : World) : Calls Tryz.prog 49 #[.agg #[.int .i64 lsn, .int .i64 ep, .int .i64 kind, .int .i64 page, .int .i64 other, .int .i64 req, .string key, .string val]] w fun e w' => e = .returned (.bool ((page == 0) && (((other == 1 && valB val) || (other == 2 && emp val)) && (wthB req 1 1099511627776 && keyB key)))) ∧ Fr (fun _ => False) w w' := by
  have HV : Hid (emp val = true → valB val = true) := valB_emp
  have HE : Hid (emp val = val.toList.isEmpty) := rfl
  go_enter Tryz.func49, Tryz.ntmps49
  go_wp2_with (first | (go_at_call 36; refine (rwithin_any _ _ _ _).mono ?_; rintro e w' ⟨rfl, rfl⟩) | (go_at_call 46; refine (isEntry_any lsn ep kind _ _ req key val _).mono ?_; rintro e w' ⟨rfl, rfl⟩))
  all_goals go_ret
  all_goals refine ⟨ret_bool ?_, by repeat (first | exact Fr.refl _ _ | apply Fr.own | apply Fr.alloc)⟩
  all_goals have hv := HV.out
  all_goals rw [HE.out] at hv ⊢
  all_goals simp_all [Bool.and_comm]
set_option maxRecDepth 100000 in
set_option maxHeartbeats 1000000 in
theorem suits_commit (lsn ep page other req : Int) (key val : ByteArray) (w : World) : Calls Tryz.prog 37 #[.agg #[.int .i64 lsn, .int .i64 ep, .int .i64 7, .int .i64 page, .int .i64 other, .int .i64 req, .string key, .string val]] w fun e w' => e = .returned (.bool ((page == 0) && (((other == 1 && valB val) || (other == 2 && emp val)) && (wthB req 1 1099511627776 && keyB key)))) ∧ Fr (fun _ => False) w w' := by
  go_enter Tryz.func37, Tryz.ntmps37
  go_wp2_with (go_at_call 49; refine (isCommit_any lsn ep 7 page other req key val _).mono ?_; rintro e w9 ⟨rfl, f9⟩)
  go_ret
  exact ⟨rfl, (Fr.box w _).seq' f9⟩
theorem rcellsI : Tryz.prog.cellsOf 3 = 1 := by kernel_rfl
theorem rcellsS : Tryz.prog.cellsOf 9 = 1 := by kernel_rfl
theorem rcellsR : Tryz.prog.cellsOf 44 = 8 := by kernel_rfl
/-- A record's cells. -/
def recC (r : Rec) : List Value := [.int .i64 r.lsn, .int .i64 r.ep, .int .i64 r.kind, .int .i64 r.page, .int .i64 r.other, .int .i64 r.req, .string r.key, .string r.val]
theorem recC_length (r : Rec) : (recC r).length = 8 := rfl
theorem recC_one (r : Rec) : ∀ u ∈ recC r, u.oneCell' = true := by
  intro u hu
  simp only [recC, List.mem_cons, List.not_mem_nil, or_false] at hu
  rcases hu with h | h | h | h | h | h | h | h <;> (subst h; rfl)
theorem rec_range {w : World} {b o : Nat} {r : Rec} (h : w.rangeAt b o (recC r)) : w.cell? ⟨b, o, none⟩ = some (.int .i64 r.lsn) ∧ w.cell? ⟨b, o + 1, none⟩ = some (.int .i64 r.ep) ∧ w.cell? ⟨b, o + 2, none⟩ = some (.int .i64 r.kind) ∧ w.cell? ⟨b, o + 3, none⟩ = some (.int .i64 r.page) ∧ w.cell? ⟨b, o + 4, none⟩ = some (.int .i64 r.other) ∧ w.cell? ⟨b, o + 5, none⟩ = some (.int .i64 r.req) ∧ w.cell? ⟨b, o + 6, none⟩ = some (.string r.key) ∧ w.cell? ⟨b, o + 7, none⟩ = some (.string r.val) :=
  ⟨h 0 _ rfl, h 1 _ rfl, h 2 _ rfl, h 3 _ rfl, h 4 _ rfl, h 5 _ rfl, h 6 _ rfl, h 7 _ rfl⟩
/-- A slice of records as a walk sees it. -/
structure Recs (w : World) (a : Option Addr) (cap : Nat) (ls : List Rec) : Prop where
  le : ls.length ≤ cap
  max : cap ≤ 9223372036854775807
  at_ : ls = [] ∨ ∃ b off, a = some ⟨b, off, none⟩ ∧ b < w.heap.size ∧ ∀ i r, ls[i]? = some r → w.rangeAt b (off + i * 8) (recC r)
theorem Recs.same {w w' : World} {a : Option Addr} {cap : Nat} {ls : List Rec} (h : Recs w a cap ls) (f : Fr (fun _ => False) w w') : Recs w' a cap ls := by
  refine ⟨h.le, h.max, ?_⟩
  rcases h.at_ with h0 | ⟨b, off, rfl, hb, hc⟩
  · exact .inl h0
  · exact .inr ⟨b, off, rfl, Nat.lt_of_lt_of_le hb f.size, fun i r hr => range_fr (hc i r hr) f (fun f => f)⟩
theorem Recs.some {w : World} {a : Option Addr} {cap : Nat} {ls : List Rec} (h : Recs w a cap ls) (hn : 0 < ls.length) : ∃ b off, a = some ⟨b, off, none⟩ ∧ b < w.heap.size ∧ ∀ i r, ls[i]? = some r → w.rangeAt b (off + i * 8) (recC r) := by
  rcases h.at_ with h0 | h
  · rw [h0] at hn; simp at hn
  · exact h
def rec0 : Rec := ⟨0, 0, 0, 0, 0, 0, ⟨#[]⟩, ⟨#[]⟩⟩
end Go.Proofs.YthdbkanbgfajbaaGreat
