
/- Rows of numbers that a program has made itself; what PoolPins asks of Get. -/
import Derived.Test.YtneniagingoleaaPlKeys
import Derived.Test.YtneniagingoleaaPlArg
namespace Go.Proofs.Ytneniagingoleaa
open Go.Shelf Go.RowKit Go.Maps Go.Sort

/-- A row of numbers at block b, no earlier than B. -/
structure Ir (w : World) (B : Nat) (a : Option Addr) (cap : Nat) (ts : List Int) : Prop where
  le : ts.length ≤ cap
  max : cap ≤ 9223372036854775807
  at_ : ts = [] ∨ ∃ b, a = some ⟨b, 0, none⟩ ∧ B ≤ b ∧ b < w.heap.size ∧ ∀ (i : Nat) (x : Int), ts[i]? = some x → w.cell? ⟨b, i, none⟩ = some (.int .i64 x)
theorem Ir.of {w : World} {B : Nat} {v : Value} {ts : List Int} (h : w.ownsRow B 3 1 v ts.length (ts.map encZ)) : ∃ a cap, v = .slice a ts.length cap ∧ Ir w B a cap ts := by
  obtain ⟨h1, ⟨rfl, h0⟩ | ⟨g, cap, cur, rfl, hg, hb, r1, r2, r3, r4⟩⟩ := h
  · have : ts = [] := List.eq_nil_of_length_eq_zero h0
    subst this
    exact ⟨none, 0, rfl, by simp, by omega, .inl rfl⟩
  · refine ⟨some ⟨g, 0, none⟩, cap, rfl, r1, by simp only [maxLen] at r2; omega, .inr ⟨g, rfl, hg, lt_of_block hb, fun i x hx => ?_⟩⟩
    obtain ⟨hi, hx'⟩ := List.getElem?_eq_some_iff.1 hx
    have h2 := (holds_of_block_i hb (by simpa using r4) i (by simpa using hi)).1
    rw [getElem!_pos ts.toArray i (by simpa using hi), Nat.zero_add] at h2
    rw [h2]
    simp [encZ, hx']
theorem Ir.fr {S : Nat → Prop} {w w' : World} {B cap : Nat} {a : Option Addr} {ts : List Int} (h : Ir w B a cap ts) (f : Fr S w w') (hS : ∀ i, B ≤ i → i < w.heap.size → ¬ S i) : Ir w' B a cap ts := by
  refine ⟨h.le, h.max, ?_⟩
  rcases h.at_ with h0 | ⟨b, rfl, hb, hl, hc⟩
  · exact .inl h0
  · exact .inr ⟨b, rfl, hb, Nat.lt_of_lt_of_le hl f.size, fun i x hx => (f.cell (p := ⟨b, _, none⟩) hl (hS b hb hl)).trans (hc i x hx)⟩
theorem Ir.some {w : World} {B cap : Nat} {a : Option Addr} {ts : List Int} (h : Ir w B a cap ts) (hn : 0 < ts.length) : ∃ b, a = .some ⟨b, 0, none⟩ ∧ B ≤ b ∧ b < w.heap.size ∧ ∀ (i : Nat) (x : Int), ts[i]? = .some x → w.cell? ⟨b, i, none⟩ = .some (.int .i64 x) := by
  rcases h.at_ with h0 | h
  · rw [h0] at hn; simp at hn
  · exact h
theorem row_fr {S : Nat → Prop} {w w' : World} {B n : Nat} {e : TypeId} {v : Value} {xs : List Value} (h : w.ownsRow B e 1 v n xs) (f : Fr S w w') (hS : ∀ i, B ≤ i → i < w.heap.size → ¬ S i) : w'.ownsRow B e 1 v n xs := by
  obtain ⟨h1, h2 | ⟨g, cap, cur, hv, hg, hb, r⟩⟩ := h
  · exact ⟨h1, .inl h2⟩
  · exact ⟨h1, .inr ⟨g, cap, cur, hv, hg, (f.block g (lt_of_block hb) (hS g hg (lt_of_block hb))).trans hb, r⟩⟩
theorem app_one {w : World} {B : Nat} {v : Value} {l : List Int} (x : Int) (h : w.ownsRow B 3 1 v l.length (l.map encZ)) (hB : B ≤ w.heap.size) (hl : l.length ≤ 1000000) :
    ∃ a' c' w', (Builtin.append_ #[37, 37] 37 #[v, .slice (some ⟨w.heap.size, 0, none⟩) 1 1]).run Try.prog (w.alloc (.cells #[.int .i64 x] 3)) = .ok (.slice a' (l.length + 1) c') w' ∧ w'.ownsRow B 3 1 (.slice a' (l.length + 1) c') (l ++ [x]).length ((l ++ [x]).map encZ) ∧ Fr (fun k => B ≤ k) w w' := by
  obtain ⟨i, hi, hi1, hi2, hi3⟩ : ∃ i, Try.prog.info? 3 = some i ∧ i.zero = some (.int .i64 0) ∧ i.size = 1 ∧ i.bytes = 8 := by
    have := laysC.i26
    change (Try.prog.info? 3).map _ = _ at this
    cases hh : Try.prog.info? 3 with
    | none => rw [hh] at this; cases this
    | some i =>
      rw [hh] at this
      simp only [Option.map_some, Option.some.injEq, Prod.mk.injEq] at this
      exact ⟨i, rfl, this.1, this.2.1, this.2.2⟩
  have fb := Fr.box w (.cells #[.int .i64 x] 3)
  have hc : (w.alloc (.cells #[.int .i64 x] 3)).cell? ⟨w.heap.size, 0, none⟩ = some (.int .i64 x) := one_cell_n (heap_alloc_new w _)
  have h' := row_fr h fb (fun _ _ _ f => f)
  have hs1 := fb.size
  obtain ⟨v', w', hrun, hown, hgr, _⟩ := run_append_own (P := Try.prog) (w.alloc (.cells #[.int .i64 x] 3)) B 37 37 3 i (.int .i64 0) 1 8 Try.underlying37 hi hi1 hi2 hi3 rfl (by omega) v l.length (l.map encZ) h' ⟨w.heap.size, 0, none⟩ 1 1 [.int .i64 x] rfl
    (fun j u hu => by
      cases j with
      | zero => simp at hu; subst hu; simp [Addr.add]
      | succ j => simp at hu) (fun u hu => by simp at hu; subst hu; rfl) (by unfold maxLen; omega) (by omega) (by omega)
  have e1 : l.map encZ ++ [.int .i64 x] = (l ++ [x]).map encZ := by simp
  have e2 : l.length + 1 = (l ++ [x]).length := by simp
  rw [e1, e2] at hown
  obtain ⟨a', c', rfl, _⟩ := Ir.of hown
  rw [← e2] at hown hrun ⊢
  refine ⟨a', c', w', hrun, hown, ?_⟩
  have fg : Fr (fun k => B ≤ k) (w.alloc (.cells #[.int .i64 x] 3)) w' := (Fr.refl _ _).grown hgr (fun k e _ => by
    rcases h.2 with ⟨rfl, _⟩ | ⟨g, cap, cur, rfl, hg, _⟩
    · simp [Value.ownBlock] at e
    · simp [Value.ownBlock] at e; omega)
  exact (fb.mono (T := fun k => B ≤ k) (fun i hi e => e.elim)).trans fg (fun i hi e => e)
theorem get_pins {M : Pmap} {n : Nat} {fr us fl x : Int} {hit wr : Bool} {out need er : Int} {M' : Pmap} {n' : Nat} {us' fl' : Int} (h : GetO M n fr us fl x hit wr out need er M' n' us' fl') (hn : (n : Int) ≤ fr) (h1 : 1 ≤ fr) (hkey : ∀ x g, M x = some g → 1 ≤ x ∧ x ≤ 4096) :
    ((M out).getD h0).pins = 0 ∧ (n' : Int) ≤ fr := by
  have hz : ((M 0).getD h0).pins = 0 := by
    cases hm : M 0 with
    | none => rfl
    | some g => have := hkey 0 g hm; omega
  rcases h with ⟨_, _, _, rfl, _, _, _, rfl, _⟩ | ⟨_, g, _, _, _, rfl, _, _, _, rfl, _⟩ | ⟨_, _, hl, _, _, rfl, _, _, _, rfl, _⟩ | ⟨_, _, _, _, _, _, rfl, _, _, _, rfl, _⟩ | ⟨_, _, hl, r, g, hr, hp, _, _, _, rfl, _, _, _, rfl, _⟩
  · exact ⟨hz, hn⟩
  · exact ⟨hz, hn⟩
  · exact ⟨hz, by omega⟩
  · exact ⟨hz, hn⟩
  · exact ⟨by rw [hr]; exact hp, by omega⟩
end Go.Proofs.Ytneniagingoleaa
