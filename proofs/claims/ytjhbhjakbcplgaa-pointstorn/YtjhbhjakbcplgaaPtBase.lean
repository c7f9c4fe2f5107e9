
/- Checkpoints as values; which are right; what Redo tells, in the program and in the document. -/
import Derived.Test.YtjhbhjakbcplgaaOpenAll
import Derived.Test.YtjhbhjakbcplgaaRefRd2
namespace Go.Proofs.Ytjhbhjakbcplgaa
open Go.RowKit Crcm

theorem ret_bool {x y : Bool} (h : x = y) : Ending.returned (.bool x) = .returned (.bool y) := by rw [h]
theorem Fr.seq' {a b c : World} (h : Fr (fun _ => False) a b) (k : Fr (fun _ => False) b c) : Fr (fun _ => False) a c := h.trans k (fun _ _ f => f)
theorem Fr.box (w : World) (o : Obj) : Fr (fun _ => False) w (w.alloc o) := (Fr.refl _ w).alloc o
theorem Made.of {a b c : World} {v : Value} {l : List Nat} (f : Fr (fun _ => False) a b) (m : Made b c v l) : Made a c v l := by
  refine ⟨⟨m.own.1, ?_⟩, f.seq' m.fr⟩
  rcases m.own.2 with h | ⟨g, cap, cur, hv, hg, r⟩
  · exact .inl h
  · exact .inr ⟨g, cap, cur, hv, Nat.le_trans f.size hg, r⟩
theorem fit8 {x : Int} (h0 : 0 ≤ x) : fit x ((8 : Nat) : Int) := ⟨h0, .inr (.inr (.inr rfl))⟩

/-- A checkpoint: Number, LSN, Redo. -/
structure Pn where
  num : Int
  lsn : Int
  redo : Int
/-- Are two points the same? -/
def eqP (p q : Pn) : Bool := decide (p.num = q.num) && (decide (p.lsn = q.lsn) && decide (p.redo = q.redo))
theorem eqP_iff (p q : Pn) : eqP p q = true ↔ p = q := by
  obtain ⟨p1, p2, p3⟩ := p
  obtain ⟨q1, q2, q3⟩ := q
  unfold eqP
  simp
def wthB (x a b : Int) : Bool := decide (a ≤ x ∧ x ≤ b)
def ptB (p : Pn) : Bool := wthB p.num 1 1099511627776 && (wthB p.lsn 0 1099511627776 && wthB p.redo 1 (p.lsn + 1))
structure Pr (p : Pn) : Prop where
  num0 : 1 ≤ p.num
  num1 : p.num ≤ 1099511627776
  lsn0 : 0 ≤ p.lsn
  lsn1 : p.lsn ≤ 1099511627776
  redo0 : 1 ≤ p.redo
  redo1 : p.redo ≤ p.lsn + 1
theorem ptB_iff (p : Pn) : ptB p = true ↔ Pr p := by
  unfold ptB wthB
  simp only [Bool.and_eq_true, decide_eq_true_eq]
  exact ⟨fun h => ⟨h.1.1, h.1.2, h.2.1.1, h.2.1.2, h.2.2.1, h.2.2.2⟩, fun h => ⟨⟨h.1, h.2⟩, ⟨h.3, h.4⟩, ⟨h.5, h.6⟩⟩⟩

set_option maxRecDepth 100000 in
set_option maxHeartbeats 400000 in
theorem within_any (x a b : Int) (w : World) : Calls Try.prog 20 #[.int .i64 x, .int .i64 a, .int .i64 b] w fun e w' => e = .returned (.bool (wthB x a b)) ∧ w' = w := by
  by_cases h1 : a ≤ x
  · by_cases h2 : x ≤ b
    · rw [show wthB x a b = true by simp [wthB, h1, h2]]
      go_enter Try.func20, Try.ntmps20
      go_wp2
      go_ret
      exact ⟨rfl, rfl⟩
    · rw [show wthB x a b = false by simp [wthB, h2]]
      go_enter Try.func20, Try.ntmps20
      go_wp2
      go_ret
      exact ⟨rfl, rfl⟩
  · rw [show wthB x a b = false by simp [wthB, h1]]
    have h2 : decide (a ≤ x) = false := by simpa using h1
    go_enter Try.func20, Try.ntmps20
    go_wp2
    go_ret
    exact ⟨rfl, rfl⟩
theorem three_cells {w' : World} {c0 c1 c2 : Value} {b : Nat} {t : TypeId} (h : w'.heap[b]? = some (.cells #[c0, c1, c2] t (0, 0))) :
    w'.cell? ⟨b, 0, none⟩ = some c0 ∧ w'.cell? ⟨b, 1, none⟩ = some c1 ∧ w'.cell? ⟨b, 2, none⟩ = some c2 := by
  refine ⟨?_, ?_, ?_⟩ <;> simp [World.cell?, h]
theorem box_at (w : World) (C : Array Value) (t : TypeId) {w' : World} (f : Fr (fun _ => False) (w.alloc (.cells C t)) w') : w'.heap[w.heap.size]? = some (.cells C t (0, 0)) := by
  rw [f.block w.heap.size (by simp) (fun f => f)]
  exact heap_alloc_new w _

set_option maxRecDepth 100000 in
set_option maxHeartbeats 1000000 in
theorem isRight_any (p : Pn) (w : World) : Calls Try.prog 21 #[.agg #[.int .i64 p.num, .int .i64 p.lsn, .int .i64 p.redo]] w fun e w' => e = .returned (.bool (ptB p)) ∧ w' = w.alloc (.cells #[.int .i64 p.num, .int .i64 p.lsn, .int .i64 p.redo] 34) := by
  obtain ⟨b1, h1⟩ : ∃ b, wthB p.num 1 1099511627776 = b := ⟨_, rfl⟩
  obtain ⟨b2, h2⟩ : ∃ b, wthB p.lsn 0 1099511627776 = b := ⟨_, rfl⟩
  obtain ⟨b3, h3⟩ : ∃ b, wthB p.redo 1 (p.lsn + 1) = b := ⟨_, rfl⟩
  have HH : Hid (ptB p = (b1 && (b2 && b3))) := by show ptB p = _; unfold ptB; rw [h1, h2, h3]
  rw [HH.out]
  have K1 : Hid (wthB p.num 1 1099511627776 = b1) := h1
  have K2 : Hid (wthB p.lsn 0 1099511627776 = b2) := h2
  have K3 : Hid (wthB p.redo 1 (p.lsn + 1) = b3) := h3
  cases b1
  · clear h1 h2 h3 K2 K3 HH
    go_enter Try.func21, Try.ntmps21
    go_wp2_with (go_at_call 20; refine (within_any _ _ _ _).mono ?_; rw [K1.out]; rintro e w' ⟨rfl, rfl⟩)
    go_ret
    exact ⟨rfl, rfl⟩
  · cases b2
    · clear h1 h2 h3 K3 HH
      go_enter Try.func21, Try.ntmps21
      go_wp2_with (go_at_call 20; refine (within_any _ _ _ _).mono ?_; (first | rw [K1.out] | rw [K2.out]); rintro e w' ⟨rfl, rfl⟩)
      go_ret
      exact ⟨rfl, rfl⟩
    · have h2a : 0 ≤ p.lsn ∧ p.lsn ≤ 1099511627776 := by unfold wthB at h2; simpa using h2
      obtain ⟨h2b, h2c⟩ := h2a
      clear HH h1 h2 h3
      go_enter Try.func21, Try.ntmps21
      go_wp2_with (go_at_call 20; refine (within_any _ _ _ _).mono ?_; (first | rw [K1.out] | rw [K2.out] | rw [K3.out]); rintro e w' ⟨rfl, rfl⟩)
      go_ret
      exact ⟨rfl, rfl⟩

set_option maxRecDepth 100000 in
set_option maxHeartbeats 2000000 in
theorem rRight_any (p : Pn) (hr : p.redo < 9223372036854775808) (w : World) : Calls Try.prog 26 #[.agg #[.int .i64 p.num, .int .i64 p.lsn, .int .i64 p.redo]] w fun e w' => e = .returned (.bool (ptB p)) ∧ w' = w.alloc (.cells #[.int .i64 p.num, .int .i64 p.lsn, .int .i64 p.redo] 40) := by
  have no : ∀ (h : ¬ Pr p), ptB p = false := fun h => by rw [← Bool.not_eq_true, ptB_iff]; exact h
  by_cases h0 : 1 ≤ p.num
  · skip
    by_cases h1 : p.num ≤ 1099511627776
    · skip
      by_cases h2 : 0 ≤ p.lsn
      · skip
        by_cases h3 : p.lsn ≤ 1099511627776
        · skip
          by_cases h4 : 1 ≤ p.redo
          · skip
            by_cases h5 : p.redo ≤ p.lsn + 1
            · skip
              rw [(ptB_iff p).2 ⟨h0, h1, h2, h3, h4, h5⟩]
              have h6 : p.redo - 1 ≤ p.lsn := by omega
              clear no
              go_enter Try.func26, Try.ntmps26
              go_wp2
              go_ret
              exact ⟨rfl, rfl⟩
            · rw [no (fun h => h5 h.redo1)]
              clear no
              have h6 : ¬ p.redo - 1 ≤ p.lsn := by omega
              clear h5
              go_enter Try.func26, Try.ntmps26
              go_wp2
              go_ret
              exact ⟨rfl, rfl⟩
          · rw [no (fun h => h4 h.redo0)]
            clear no
            go_enter Try.func26, Try.ntmps26
            go_wp2
            go_ret
            exact ⟨rfl, rfl⟩
        · rw [no (fun h => h3 h.lsn1)]
          clear no
          go_enter Try.func26, Try.ntmps26
          go_wp2
          go_ret
          exact ⟨rfl, rfl⟩
      · rw [no (fun h => h2 h.lsn0)]
        clear no
        go_enter Try.func26, Try.ntmps26
        go_wp2
        go_ret
        exact ⟨rfl, rfl⟩
    · rw [no (fun h => h1 h.num1)]
      clear no
      go_enter Try.func26, Try.ntmps26
      go_wp2
      go_ret
      exact ⟨rfl, rfl⟩
  · rw [no (fun h => h0 h.num0)]
    clear no
    go_enter Try.func26, Try.ntmps26
    go_wp2
    go_ret
    exact ⟨rfl, rfl⟩
end Go.Proofs.Ytjhbhjakbcplgaa
