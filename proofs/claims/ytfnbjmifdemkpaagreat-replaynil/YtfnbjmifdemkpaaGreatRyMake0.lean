
/- A replay that is made. -/
import Derived.Test.YtfnbjmifdemkpaaGreatRyWork2
namespace Go.Proofs.YtfnbjmifdemkpaaGreat
open Go.RowKit Go.Shelf

def pgF (l : List (Int × Nd)) : Int → Option Nd := l.foldl (fun P x => pupd P x.1 x.2) (fun _ => none)
theorem pgF_snoc (l : List (Int × Nd)) (x : Int × Nd) : pgF (l ++ [x]) = pupd (pgF l) x.1 x.2 := by
  unfold pgF; rw [List.foldl_append]; rfl
theorem ps_next {ls : List Sl} {k : Nat} {s : Sl} (h : ls[k]? = some s) : psOf (ls.take (k + 1)) = psOf (ls.take k) ++ [(s.page, s.nd)] := by
  unfold psOf
  rw [List.take_add_one, h, List.map_append]
  rfl
theorem ari_page : ∀ (l : List (Int × Nd)) (x : Int), ariB x l = true → ∀ e ∈ l, x < e.1 ∧ e.1 ≤ 4096
  | [], _, _, e, he => by cases he
  | (y, n) :: l, x, h, e, he => by
    simp only [ariB, Bool.and_eq_true, decide_eq_true_eq] at h
    obtain ⟨⟨⟨h1, h2⟩, _⟩, h4⟩ := h
    rcases List.mem_cons.1 he with rfl | he
    · exact ⟨h1, h2⟩
    · have := ari_page l y h4 e he
      exact ⟨by omega, this.2⟩
/-- The cells of a replay that is made. -/
def mkC (m : Nat) (wk : Nat) (last : Int) : Array Value := #[.map (some m), .int .i64 (wk : Int), .slice none 0 0, .int .i64 0, .slice none 0 0, .int .i64 0, .slice none 0 0, .int .i64 0, .slice none 0 0, .int .i64 0, .slice none 0 0, .int .i64 0, .slice none 0 0, .int .i64 0, .slice none 0 0, .int .i64 0, .slice none 0 0, .int .i64 0, .int .i64 last, .int .i64 last, .int .i64 0]
def mkR (wk : Nat) (last : Int) (pg : Int → Option Nd) : RSt := ⟨wk, fun _ => [], last, last, 0, pg⟩
def mkS (m b : Nat) : Nat → Prop := fun k => k = m ∨ k = b
theorem mk_ry {w : World} {m b wk : Nat} {last : Int} (hb : w.heap[b]? = some (.cells (mkC m wk last) 93 (0, 0))) (hm : Mp w m 0 (fun _ => none)) (hne : b ≠ m) (hwk : wk ≤ 8) : Ry w (mkS m b) b (mkR wk last (pgF [])) 0 := by
  refine ⟨mkC m wk last, m, 0, fun _ => ⟨none, 0, 0, 0, []⟩, fun _ => ⟨none, 0, none, 0, none, 0⟩, hb, ⟨rfl, rfl, rfl, fun i hi => ?_, fun i hi => ?_, rfl, rfl, rfl⟩, hwk, fun i _ => ⟨Rw.nil w, Nat.le_refl _, Nat.le_refl _, rfl⟩, hm, Nat.le_refl _, (fun x n h => by cases h), .inr rfl, .inl rfl, hne, (fun i k _ e => by cases e), (fun i j k _ _ e => by cases e), fun k hk => ?_⟩
  · have : i = 0 ∨ i = 1 ∨ i = 2 ∨ i = 3 ∨ i = 4 ∨ i = 5 ∨ i = 6 ∨ i = 7 := by omega
    rcases this with rfl | rfl | rfl | rfl | rfl | rfl | rfl | rfl <;> rfl
  · have : i = 0 ∨ i = 1 ∨ i = 2 ∨ i = 3 ∨ i = 4 ∨ i = 5 ∨ i = 6 ∨ i = 7 := by omega
    rcases this with rfl | rfl | rfl | rfl | rfl | rfl | rfl | rfl <;> rfl
  · rcases hk with rfl | rfl
    · exact hm.lt
    · exact lt_of_block hb
end Go.Proofs.YtfnbjmifdemkpaaGreat
