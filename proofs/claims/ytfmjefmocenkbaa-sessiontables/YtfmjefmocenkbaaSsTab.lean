
/- Tables of requests in memory. -/
import Derived.Test.YtfmjefmocenkbaaSsPure
namespace Go.Proofs.Ytfmjefmocenkbaa
open Go.RowKit

def wMap (L : Wt) : Vmap := fun x => (lk L x).map zI
def dMap (D : List Int) : Vmap := fun x => if x ∈ D then some (.agg #[]) else none
/-- A table at block b whose own blocks are S. -/
structure Tb (w : World) (S : Nat → Prop) (b : Nat) (L : Wt) (D : List Int) : Prop where
  own : S b
  lt : ∀ i, S i → i < w.heap.size
  ok : Ok L
  wf : ∀ x ∈ D, wfK x
  at_ : (Two w b 61 (.map none) (.map none) ∧ L = [] ∧ D = []) ∨ ∃ m d nd, S m ∧ S d ∧ b ≠ m ∧ b ≠ d ∧ m ≠ d ∧ Two w b 61 (.map (some m)) (.map (some d)) ∧ Mp w m L.length (wMap L) ∧ Mp w d nd (dMap D) ∧ nd ≤ D.length
theorem Tb.fr {R S : Nat → Prop} {w w' : World} {b : Nat} {L : Wt} {D : List Int} (h : Tb w S b L D) (f : Fr R w w') (hd : ∀ i, S i → ¬ R i) : Tb w' S b L D := by
  refine ⟨h.own, fun i hi => Nat.lt_of_lt_of_le (h.lt i hi) f.size, h.ok, h.wf, ?_⟩
  rcases h.at_ with ⟨h1, h2⟩ | ⟨m, d, nd, h1, h2, h3, h4, h5, h6, h7, h8, h9⟩
  · exact .inl ⟨h1.fr f (hd b h.own), h2⟩
  · exact .inr ⟨m, d, nd, h1, h2, h3, h4, h5, h6.fr f (hd b h.own), h7.fr f (hd m h1), h8.fr f (hd d h2), h9⟩
theorem Tb.same {S : Nat → Prop} {w w' : World} {b : Nat} {L : Wt} {D : List Int} (h : Tb w S b L D) (f : Fr (fun _ => False) w w') : Tb w' S b L D := h.fr f (fun _ _ f => f)
theorem zeroI (w : World) : (zeroValue 3).run Try.prog w = .ok (.int .i64 0) w := by kernel_rfl
theorem zeroU (w : World) : (zeroValue 65).run Try.prog w = .ok (.agg #[]) w := by kernel_rfl
theorem wMap_getD (L : Wt) (x : Int) : ((wMap L) x).getD (.int .i64 0) = .int .i64 ((lk L x).getD 0) := by
  unfold wMap
  cases lk L x <;> rfl
theorem wMap_some (L : Wt) (x : Int) : ((wMap L) x).isSome = (lk L x).isSome := by simp [wMap]
theorem dMap_getD (D : List Int) (x : Int) : ((dMap D) x).getD (.agg #[]) = .agg #[] := by
  unfold dMap
  split <;> rfl
theorem dMap_some (D : List Int) (x : Int) : ((dMap D) x).isSome = decide (x ∈ D) := by
  unfold dMap
  by_cases h : x ∈ D <;> simp [h]
theorem Mp.lookW {w : World} {b n : Nat} {L : Wt} (h : Mp w b n (wMap L)) {x : Int} (hx : wfK x) : (Instr.lookup 58 (.map (some b)) (.int .i64 x) true).run Try.prog w = .ok (.tuple #[.int .i64 ((lk L x).getD 0), .bool (lk L x).isSome]) w := by
  rw [h.look Try.underlying58 (zeroI w) hx, wMap_getD, wMap_some]
theorem Mp.lookW1 {w : World} {b n : Nat} {L : Wt} (h : Mp w b n (wMap L)) {x : Int} (hx : wfK x) : (Instr.lookup 58 (.map (some b)) (.int .i64 x) false).run Try.prog w = .ok (.int .i64 ((lk L x).getD 0)) w := by
  rw [h.look1 Try.underlying58 (zeroI w) hx, wMap_getD]
theorem Mp.lookD {w : World} {b n : Nat} {D : List Int} (h : Mp w b n (dMap D)) {x : Int} (hx : wfK x) : (Instr.lookup 59 (.map (some b)) (.int .i64 x) true).run Try.prog w = .ok (.tuple #[.agg #[], .bool (decide (x ∈ D))]) w := by
  rw [h.look Try.underlying59 (zeroU w) hx, dMap_getD, dMap_some]
theorem lookN {w : World} {x : Int} (hx : wfK x) : (Instr.lookup 58 (.map none) (.int .i64 x) true).run Try.prog w = .ok (.tuple #[.int .i64 0, .bool false]) w :=
  Maps.look_nil true keyed3 Try.underlying58 (zeroI w) (key3 hx)
theorem lookND {w : World} {x : Int} (hx : wfK x) : (Instr.lookup 59 (.map none) (.int .i64 x) true).run Try.prog w = .ok (.tuple #[.agg #[], .bool false]) w :=
  Maps.look_nil true keyed3 Try.underlying59 (zeroU w) (key3 hx)
def inB (n l m : Int) : Bool := decide (l ≤ n) && decide (n ≤ m)
theorem within_any (n l m : Int) (w : World) : Calls Try.prog 26 #[.int .i64 n, .int .i64 l, .int .i64 m] w fun e w' => e = .returned (.bool (inB n l m)) ∧ w = w' := by
  by_cases h1 : l ≤ n
  · rw [show inB n l m = decide (n ≤ m) by simp [inB, h1]]
    go_enter Try.func26, Try.ntmps26
    go_wp2
    go_ret
    exact ⟨rfl, rfl⟩
  · have h1' : decide (l ≤ n) = false := by simpa using h1
    rw [show inB n l m = false by simp [inB, h1]]
    go_enter Try.func26, Try.ntmps26
    go_wp2
    go_ret
    exact ⟨rfl, rfl⟩
/-- A request's state. -/
def stN (L : Wt) (D : List Int) (x : Int) : Int := if (lk L x).isSome = true then 1 else if x ∈ D then 2 else 0
theorem state_nil (x : Int) (w : World) : Calls Try.prog 16 #[.pointer none, .int .i64 x] w fun e w' => e = .returned (.int .i64 0) ∧ w' = w := by
  go_enter Try.func16, Try.ntmps16
  go_wp2
  go_ret
  exact ⟨rfl, rfl⟩
set_option maxRecDepth 100000 in
set_option maxHeartbeats 2000000 in
theorem state_any {S : Nat → Prop} {b : Nat} {L : Wt} {D : List Int} (x : Int) (hx : wfK x) (w : World) (h : Tb w S b L D) : Calls Try.prog 16 #[.pointer (some ⟨b, 0, none⟩), .int .i64 x] w fun e w' => e = .returned (.int .i64 (stN L D x)) ∧ Fr (fun _ => False) w w' := by
  have HB : Hid (Fr (fun _ => False) w (w.alloc (.cells #[] 65))) := Fr.box w _
  rcases h.at_ with ⟨h1, rfl, rfl⟩ | ⟨m, d, nd, _, _, _, _, _, h1, h2, h3, _⟩
  · obtain ⟨x0, x1, _⟩ := h1.cells
    have e1 := lookN (w := w) hx
    have e2 := lookND (w := w) hx
    rw [show stN [] [] x = 0 by simp [stN, lk]]
    clear h h1
    go_enter Try.func16, Try.ntmps16
    go_wp2
    go_ret
    exact ⟨rfl, HB.out⟩
  · obtain ⟨x0, x1, _⟩ := h1.cells
    have e1 := h2.lookW hx
    have e2 := h3.lookD hx
    clear h h1 h2 h3
    cases hl : lk L x with
    | some l =>
      rw [show stN L D x = 1 by simp [stN, hl]]
      rw [hl] at e1
      dsimp only [Option.getD, Option.isSome] at e1
      clear hl e2
      go_enter Try.func16, Try.ntmps16
      go_wp2
      go_ret
      exact ⟨rfl, Fr.refl _ _⟩
    | none =>
      rw [hl] at e1
      dsimp only [Option.getD, Option.isSome] at e1
      by_cases hd : x ∈ D
      · rw [show stN L D x = 2 by simp [stN, hl, hd]]
        rw [show decide (x ∈ D) = true by simpa using hd] at e2
        clear hl hd
        go_enter Try.func16, Try.ntmps16
        go_wp2
        go_ret
        exact ⟨rfl, HB.out⟩
      · rw [show stN L D x = 0 by simp [stN, hl, hd]]
        rw [show decide (x ∈ D) = false by simpa using hd] at e2
        clear hl hd
        go_enter Try.func16, Try.ntmps16
        go_wp2
        go_ret
        exact ⟨rfl, HB.out⟩
theorem waiting_nil (w : World) : Calls Try.prog 18 #[.pointer none] w fun e w' => e = .returned (.int .i64 0) ∧ w' = w := by
  go_enter Try.func18, Try.ntmps18
  go_wp2
  go_ret
  exact ⟨rfl, rfl⟩
theorem waiting_any {S : Nat → Prop} {b : Nat} {L : Wt} {D : List Int} (w : World) (h : Tb w S b L D) : Calls Try.prog 18 #[.pointer (some ⟨b, 0, none⟩)] w fun e w' => e = .returned (.int .i64 (L.length : Nat)) ∧ w' = w := by
  rcases h.at_ with ⟨h1, rfl, rfl⟩ | ⟨m, d, nd, _, _, _, _, _, h1, h2, h3, _⟩
  · obtain ⟨x0, x1, _⟩ := h1.cells
    have e1 := fun ty => Maps.len_nil (P := Try.prog) (w := w) Try.underlying58 ty
    clear h h1
    go_enter Try.func18, Try.ntmps18
    go_wp2
    go_ret
    exact ⟨rfl, rfl⟩
  · obtain ⟨x0, x1, _⟩ := h1.cells
    have e1 := fun ty => h2.len Try.underlying58 ty
    clear h h1 h2 h3
    obtain ⟨n, hn⟩ : ∃ n, n = L.length := ⟨_, rfl⟩
    rw [← hn] at e1 ⊢
    clear hn
    go_enter Try.func18, Try.ntmps18
    go_wp2
    go_ret
    exact ⟨rfl, rfl⟩
theorem snew_any (w : World) : Calls Try.prog 8 #[] w fun e w' => ∃ b, e = .returned (.pointer (some ⟨b, 0, none⟩)) ∧ b = w.heap.size ∧ Tb w' (fun i => i = b) b [] [] ∧ Fr (fun _ => False) w w' := by
  go_enter Try.func8, Try.ntmps8
  go_wp2
  go_ret
  exact ⟨_, rfl, rfl, ⟨rfl, (fun i hi => by subst hi; simp), Ok.nil, (fun _ h => by cases h), .inl ⟨Two.new _ _ _ _, rfl, rfl⟩⟩, Fr.box _ _⟩
end Go.Proofs.Ytfmjefmocenkbaa
