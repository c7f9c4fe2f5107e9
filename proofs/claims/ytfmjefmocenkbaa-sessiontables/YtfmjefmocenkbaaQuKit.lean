
/- Rows of numbers: those that came in, and those that the program makes itself. -/
import Derived.Test.YtfmjefmocenkbaaHas
import Derived.Deep.DeepCutAuto
namespace Go.Proofs.Ytfmjefmocenkbaa
open Go.RowKit

theorem Fr.seq' {a b c : World} (h : Fr (fun _ => False) a b) (k : Fr (fun _ => False) b c) : Fr (fun _ => False) a c := h.trans k (fun _ _ f => f)
theorem Fr.box (w : World) (o : Obj) : Fr (fun _ => False) w (w.alloc o) := (Fr.refl _ w).alloc o
def zI (x : Int) : Value := .int .i64 x
/-- A row of numbers at block b, no earlier than B. -/
structure Ir (w : World) (B : Nat) (a : Option Addr) (cap : Nat) (ts : List Int) : Prop where
  le : ts.length ≤ cap
  max : cap ≤ 9223372036854775807
  at_ : ts = [] ∨ ∃ b, a = some ⟨b, 0, none⟩ ∧ B ≤ b ∧ b < w.heap.size ∧ ∀ (i : Nat) (x : Int), ts[i]? = some x → w.cell? ⟨b, i, none⟩ = some (.int .i64 x)
theorem Ir.of {w : World} {B : Nat} {v : Value} {ts : List Int} (h : w.ownsRow B 3 1 v ts.length (ts.map zI)) : ∃ a cap, v = .slice a ts.length cap ∧ Ir w B a cap ts := by
  obtain ⟨h1, ⟨rfl, h0⟩ | ⟨g, cap, cur, rfl, hg, hb, r1, r2, r3, r4⟩⟩ := h
  · have : ts = [] := List.eq_nil_of_length_eq_zero h0
    subst this
    exact ⟨none, 0, rfl, by simp, by omega, .inl rfl⟩
  · refine ⟨some ⟨g, 0, none⟩, cap, rfl, r1, by simp only [maxLen] at r2; omega, .inr ⟨g, rfl, hg, lt_of_block hb, fun i x hx => ?_⟩⟩
    obtain ⟨hi, hx'⟩ := List.getElem?_eq_some_iff.1 hx
    rw [cell_of_row w g i _ _ _ hb]
    have h2 : (cur.toList.take (ts.length * 1))[i]? = (ts.map zI)[i]? := by rw [r4]
    rw [List.getElem?_take_of_lt (by omega), List.getElem?_map, hx] at h2
    rw [← Array.getElem?_toList, h2]; rfl
theorem Ir.fr {S : Nat → Prop} {w w' : World} {B cap : Nat} {a : Option Addr} {ts : List Int} (h : Ir w B a cap ts) (f : Fr S w w') (hS : ∀ i, B ≤ i → i < w.heap.size → ¬ S i) : Ir w' B a cap ts := by
  refine ⟨h.le, h.max, ?_⟩
  rcases h.at_ with h0 | ⟨b, rfl, hb, hl, hc⟩
  · exact .inl h0
  · exact .inr ⟨b, rfl, hb, Nat.lt_of_lt_of_le hl f.size, fun i x hx => (f.cell (p := ⟨b, _, none⟩) hl (hS b hb hl)).trans (hc i x hx)⟩
theorem Ir.some {w : World} {B cap : Nat} {a : Option Addr} {ts : List Int} (h : Ir w B a cap ts) (hn : 0 < ts.length) : ∃ b, a = .some ⟨b, 0, none⟩ ∧ B ≤ b ∧ b < w.heap.size ∧ ∀ (i : Nat) (x : Int), ts[i]? = .some x → w.cell? ⟨b, i, none⟩ = .some (.int .i64 x) := by
  rcases h.at_ with h0 | h
  · rw [h0] at hn; simp at hn
  · exact h
theorem row_fr {S : Nat → Prop} {w w' : World} {B n : Nat} {e : TypeId} {v : Value} {xs : List Value} (h : w.ownsRow B e 1 v n xs) (f : Fr S w w') (hS : ∀ i, B ≤ i → i < w.heap.size → ¬ S i) : w'.ownsRow B e 1 v n xs := by
  obtain ⟨h1, h2 | ⟨g, cap, cur, hv, hg, hb, r⟩⟩ := h
  · exact ⟨h1, .inl h2⟩
  · exact ⟨h1, .inr ⟨g, cap, cur, hv, hg, (f.block g (lt_of_block hb) (hS g hg (lt_of_block hb))).trans hb, r⟩⟩
theorem infoI : (Try.prog.info? 3).map (fun i => (i.zero, i.size, i.bytes)) = some (some (.int .i64 0), 1, 8) := by kernel_rfl
theorem one_cell_n {w : World} {b : Nat} {t : TypeId} {c : Value} (h : w.heap[b]? = some (.cells #[c] t (0, 0))) : w.cell? ⟨b, 0, none⟩ = some c := by simp [World.cell?, h]
theorem app_one {w : World} {B : Nat} {v : Value} {l : List Int} (x : Int) (h : w.ownsRow B 3 1 v l.length (l.map zI)) (hB : B ≤ w.heap.size) (hl : l.length + 1 ≤ 17592186044416) :
    ∃ a' c' w', (Builtin.append_ #[27, 27] 27 #[v, .slice (some ⟨w.heap.size, 0, none⟩) 1 1]).run Try.prog (w.alloc (.cells #[.int .i64 x] 3)) = .ok (.slice a' (l.length + 1) c') w' ∧ w'.ownsRow B 3 1 (.slice a' (l.length + 1) c') (l ++ [x]).length ((l ++ [x]).map zI) ∧ Fr (fun k => B ≤ k) w w' := by
  obtain ⟨i, hi, hi1, hi2, hi3⟩ : ∃ i, Try.prog.info? 3 = some i ∧ i.zero = some (.int .i64 0) ∧ i.size = 1 ∧ i.bytes = 8 := by
    have := infoI
    cases hh : Try.prog.info? 3 with
    | none => rw [hh] at this; cases this
    | some i =>
      rw [hh] at this
      simp only [Option.map_some, Option.some.injEq, Prod.mk.injEq] at this
      exact ⟨i, rfl, this.1, this.2.1, this.2.2⟩
  have fb := Fr.box w (.cells #[.int .i64 x] 3)
  have hc : (w.alloc (.cells #[.int .i64 x] 3)).cell? ⟨w.heap.size, 0, none⟩ = some (.int .i64 x) := one_cell_n (heap_alloc_new w _)
  have h' := row_fr h fb (fun _ _ _ f => f)
  have hs1 := fb.size
  obtain ⟨v', w', hrun, hown, hgr, _⟩ := run_append_own (P := Try.prog) (w.alloc (.cells #[.int .i64 x] 3)) B 27 27 3 i (.int .i64 0) 1 8 Try.underlying27 hi hi1 hi2 hi3 rfl (by omega) v l.length (l.map zI) h' ⟨w.heap.size, 0, none⟩ 1 1 [.int .i64 x] rfl
    (fun j u hu => by
      cases j with
      | zero => simp at hu; subst hu; simp [Addr.add]
      | succ j => simp at hu) (fun u hu => by simp at hu; subst hu; rfl) (by unfold maxLen; omega) (by omega) (by omega)
  have e1 : l.map zI ++ [.int .i64 x] = (l ++ [x]).map zI := by simp [zI]
  have e2 : l.length + 1 = (l ++ [x]).length := by simp
  rw [e1, e2] at hown
  obtain ⟨a', c', rfl, _⟩ := Ir.of hown
  rw [← e2] at hown hrun ⊢
  refine ⟨a', c', w', hrun, hown, ?_⟩
  have fg : Fr (fun k => B ≤ k) (w.alloc (.cells #[.int .i64 x] 3)) w' := (Fr.refl _ _).grown hgr (fun k e _ => by
    rcases h.2 with ⟨rfl, _⟩ | ⟨g, cap, cur, rfl, hg, _⟩
    · simp [Value.ownBlock] at e
    · simp [Value.ownBlock] at e; omega)
  exact (fb.mono (T := fun k => B ≤ k) (fun i hi e => e.elim)).trans fg (fun i hi e => e)


theorem append_step {P : Program} {w w' : World} {ops : Array Oper} {rest : List Oper} {o : Oper} {ac : Act} {Q : Exit → Act → World → Prop} {v x v' : Value} (hgd : o.guard = none) (sl xo : Operand) (t : TypeId)
    (ho : o.op = .call { callee := .builtin .append, args := #[sl, xo], argTypes := #[t, t] }) (hse : ac.eval sl = v) (hxe : ac.eval xo = x) (hrun : (Builtin.append_ #[t, t] o.type #[v, x]).run P w = .ok v' w')
    (h : wpList P ops Q rest (ac.put o.dst v') w') : wpList P ops Q (o :: rest) ac w :=
  wpList_plain hgd fun _ hK => by
    unfold Oper.wp execOp
    simp only [ho, resolve, invoke, builtin, Sem.run_bind, Sem.run_pure, Result.andThen_ok, List.map_toArray, List.map_cons, List.map_nil, hse, hxe, hrun]
    exact hK _ _ h

/-- A slice of numbers as a walk sees it. -/
structure Is (w : World) (a : Option Addr) (cap : Nat) (xs : List Int) : Prop where
  le : xs.length ≤ cap
  max : cap ≤ 9223372036854775807
  at_ : xs = [] ∨ ∃ b off, a = some ⟨b, off, none⟩ ∧ b < w.heap.size ∧ ∀ (i : Nat) x, xs[i]? = some x → w.cell? ⟨b, off + i, none⟩ = some (.int .i64 x)
theorem Is.fr {S : Nat → Prop} {w w' : World} {a : Option Addr} {cap : Nat} {xs : List Int} (h : Is w a cap xs) (f : Fr S w w') (hn : ∀ b, b < w.heap.size → ¬ S b) : Is w' a cap xs := by
  refine ⟨h.le, h.max, ?_⟩
  rcases h.at_ with h0 | ⟨b, off, rfl, hb, hc⟩
  · exact .inl h0
  · exact .inr ⟨b, off, rfl, Nat.lt_of_lt_of_le hb f.size, fun i x hx => (f.cell (p := ⟨b, _, none⟩) hb (hn b hb)).trans (hc i x hx)⟩
theorem Is.same {w w' : World} {a : Option Addr} {cap : Nat} {xs : List Int} (h : Is w a cap xs) (f : Fr (fun _ => False) w w') : Is w' a cap xs := h.fr f (fun _ _ f => f)
theorem Is.some {w : World} {a : Option Addr} {cap : Nat} {xs : List Int} (h : Is w a cap xs) (hn : 0 < xs.length) : ∃ b off, a = some ⟨b, off, none⟩ ∧ b < w.heap.size ∧ ∀ (i : Nat) x, xs[i]? = some x → w.cell? ⟨b, off + i, none⟩ = some (.int .i64 x) := by
  rcases h.at_ with h0 | h
  · rw [h0] at hn; simp at hn
  · exact h
theorem Is.nil (w : World) (a : Option Addr) : Is w a 0 [] := ⟨Nat.le_refl _, by omega, .inl rfl⟩
theorem Ir.is {w : World} {B cap : Nat} {a : Option Addr} {xs : List Int} (h : Ir w B a cap xs) : Is w a cap xs := by
  refine ⟨h.le, h.max, ?_⟩
  rcases h.at_ with h0 | ⟨b, rfl, _, hb, hc⟩
  · exact .inl h0
  · exact .inr ⟨b, 0, rfl, hb, fun i x hx => by rw [Nat.zero_add]; exact hc i x hx⟩
/-- A row that is written out. -/
theorem is_lit (w : World) (xs : List Int) (hx : xs.length ≤ 9223372036854775807) : Is (w.alloc (.cells (xs.map zI).toArray 3)) (some ⟨w.heap.size, 0, none⟩) xs.length xs := by
  refine ⟨Nat.le_refl _, hx, .inr ⟨w.heap.size, 0, rfl, by simp, fun i x h => ?_⟩⟩
  rw [Nat.zero_add, cell_of_row _ _ _ _ _ _ (heap_alloc_new w _)]
  simp [h, zI]
end Go.Proofs.Ytfmjefmocenkbaa
