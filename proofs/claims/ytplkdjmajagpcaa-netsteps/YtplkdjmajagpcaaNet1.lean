/- A net in memory; what its small functions do: New, Len, isNode, has, (Message).own. -/
import Derived.Test.YtplkdjmajagpcaaGen
namespace Go.Proofs.Ytplkdjmajagpcaa
open Go.RowKit

/-- A message: from whom, to whom, where its bytes lie, its bytes. -/
structure Msg where
  fr : Int
  to : Int
  a : Option Addr
  c : Nat
  l : List Nat
def mc (m : Msg) : List Value := [.int .i64 m.fr, .int .i64 m.to, .slice m.a m.l.length m.c]
theorem mc_length (m : Msg) : (mc m).length = 3 := rfl
theorem mc_one (m : Msg) : ∀ u ∈ mc m, u.oneCell' = true := by
  intro u hu
  simp only [mc, List.mem_cons, List.not_mem_nil, or_false] at hu
  rcases hu with rfl | rfl | rfl <;> rfl
theorem mcs_one (ms : List Msg) : ∀ u ∈ ms.flatMap mc, u.oneCell' = true := by
  intro u hu
  obtain ⟨m, _, h⟩ := List.mem_flatMap.1 hu
  exact mc_one m u h

/-- A net at block nb: its row is v, which holds the messages ms; their bytes lie elsewhere. -/
structure Net (w : World) (nb : Nat) (nodes : Int) (v : Value) (ms : List Msg) : Prop where
  box : w.heap[nb]? = some (.cells #[.int .i64 nodes, v] 94 (0, 0))
  row : Has w 3 v ms.length (ms.flatMap mc)
  ne : v.ownBlock ≠ some nb
  bytes : ∀ m ∈ ms, Row w m.a m.c m.l ∧ ∀ b off, m.a = some ⟨b, off, none⟩ → m.l ≠ [] → b ≠ nb ∧ v.ownBlock ≠ some b
  len : ms.length ≤ 1024
  low : 1 ≤ nodes
  top : nodes ≤ 7
  small : ∀ m ∈ ms, m.l.length ≤ 65535
/-- The blocks that a net may write. -/
def netS (nb : Nat) (v : Value) : Nat → Prop := fun k => k = nb ∨ v.ownBlock = some k

theorem Net.lt {w : World} {nb : Nat} {nodes : Int} {v : Value} {ms : List Msg} (h : Net w nb nodes v ms) {k : Nat} (hk : netS nb v k) : k < w.heap.size := by
  rcases hk with rfl | hk
  · exact lt_of_block h.box
  · exact h.row.lt hk
theorem Net.framed {S : Nat → Prop} {w w' : World} {nb : Nat} {nodes : Int} {v : Value} {ms : List Msg} (h : Net w nb nodes v ms) (f : Fr S w w') (hn : ∀ k, netS nb v k → ¬ S k)
    (hb : ∀ m ∈ ms, ∀ b off, m.a = some ⟨b, off, none⟩ → m.l ≠ [] → ¬ S b) : Net w' nb nodes v ms :=
  ⟨f.block_eq h.box (hn nb (.inl rfl)), h.row.fr f (fun k hk => hn k (.inr hk)), h.ne, fun m hm => ⟨(h.bytes m hm).1.fr f (hb m hm), (h.bytes m hm).2⟩, h.len, h.low, h.top, h.small⟩
theorem Net.same {w w' : World} {nb : Nat} {nodes : Int} {v : Value} {ms : List Msg} (h : Net w nb nodes v ms) (f : Fr (fun _ => False) w w') : Net w' nb nodes v ms :=
  h.framed f (fun _ _ f => f) (fun _ _ _ _ _ _ f => f)

theorem new_ok (n : Int) (h1 : 1 ≤ n) (h2 : n ≤ 7) (w : World) : Calls Try.prog 21 #[.int .i64 n] w fun e w' => e = .returned (.tuple #[.pointer (some ⟨w.heap.size, 0, none⟩), .int .i64 0]) ∧ w' = w.alloc (.cells #[.int .i64 n, .slice none 0 0] 94) := by
  go_enter Try.func21, Try.ntmps21
  go_wp2
  go_ret2
  exact ⟨rfl, rfl⟩
theorem new_bad (n : Int) (h : n < 1 ∨ 7 < n) (w : World) : Calls Try.prog 21 #[.int .i64 n] w fun e w' => e = .returned (.tuple #[.pointer none, .int .i64 1]) ∧ w' = w := by
  rcases h with h | h
  · go_enter Try.func21, Try.ntmps21
    go_wp2
    go_ret2
    exact ⟨rfl, rfl⟩
  · have h2 : 1 ≤ n := by omega
    go_enter Try.func21, Try.ntmps21
    go_wp2
    go_ret2
    exact ⟨rfl, rfl⟩
theorem Net.new (n : Int) (h1 : 1 ≤ n) (h2 : n ≤ 7) (w : World) : Net (w.alloc (.cells #[.int .i64 n, .slice none 0 0] 94)) w.heap.size n (.slice none 0 0) [] :=
  ⟨heap_alloc_new w _, Has.nil _ _, (by simp [Value.ownBlock]), (fun m hm => by cases hm), (by simp), h1, h2, (fun m hm => by cases hm)⟩

theorem len_nil (w : World) : Calls Try.prog 39 #[.pointer none] w fun e w' => e = .returned (.int .i64 0) ∧ w' = w := by
  go_enter Try.func39, Try.ntmps39
  go_wp2
  go_ret
  exact ⟨rfl, rfl⟩
theorem Net.cell0 {w : World} {nb : Nat} {nodes : Int} {v : Value} {ms : List Msg} (h : Net w nb nodes v ms) : w.cell? ⟨nb, 0, none⟩ = some (.int .i64 nodes) := by simp [World.cell?, h.box]
theorem Net.cell1 {w : World} {nb : Nat} {nodes : Int} {v : Value} {ms : List Msg} (h : Net w nb nodes v ms) : w.cell? ⟨nb, 1, none⟩ = some v := by simp [World.cell?, h.box]
theorem Net.free1 {w : World} {nb : Nat} {nodes : Int} {v : Value} {ms : List Msg} (h : Net w nb nodes v ms) : w.frozen? ⟨nb, 1, none⟩ = false := by simp [World.frozen?, h.box]

theorem len_any (nb : Nat) (nodes : Int) (v : Value) (ms : List Msg) (w : World) (h : Net w nb nodes v ms) : Calls Try.prog 39 #[.pointer (some ⟨nb, 0, none⟩)] w fun e w' => e = .returned (.int .i64 ms.length) ∧ w' = w := by
  have hc := h.cell1
  obtain ⟨a, c, rfl, _⟩ := h.row.slice
  go_enter Try.func39, Try.ntmps39
  go_wp2
  go_ret
  exact ⟨rfl, rfl⟩
theorem isNode_nil (i : Int) (w : World) : Calls Try.prog 44 #[.pointer none, .int .i64 i] w fun e w' => e = .returned (.bool false) ∧ w' = w := by
  go_enter Try.func44, Try.ntmps44
  go_wp2
  go_ret
  exact ⟨rfl, rfl⟩
theorem isNode_yes (nb : Nat) (nodes : Int) (v : Value) (ms : List Msg) (i : Int) (h0 : 0 ≤ i) (h1 : i < nodes) (w : World) (h : Net w nb nodes v ms) : Calls Try.prog 44 #[.pointer (some ⟨nb, 0, none⟩), .int .i64 i] w fun e w' => e = .returned (.bool true) ∧ w' = w := by
  have hc := h.cell0
  go_enter Try.func44, Try.ntmps44
  go_wp2
  go_ret
  exact ⟨rfl, rfl⟩
theorem isNode_no (nb : Nat) (nodes : Int) (v : Value) (ms : List Msg) (i : Int) (hi : i < 0 ∨ nodes ≤ i) (w : World) (h : Net w nb nodes v ms) : Calls Try.prog 44 #[.pointer (some ⟨nb, 0, none⟩), .int .i64 i] w fun e w' => e = .returned (.bool false) ∧ w' = w := by
  have hc := h.cell0
  have hl := h.low
  rcases hi with hi | hi
  · go_enter Try.func44, Try.ntmps44
    go_wp2
    go_ret
    exact ⟨rfl, rfl⟩
  · have h2 : 0 ≤ i := by omega
    have hd : decide (i < nodes) = false := by simpa using hi
    go_enter Try.func44, Try.ntmps44
    go_wp2
    go_ret
    exact ⟨rfl, rfl⟩
theorem has_yes (nb : Nat) (nodes : Int) (v : Value) (ms : List Msg) (i : Nat) (h1 : i < ms.length) (w : World) (h : Net w nb nodes v ms) : Calls Try.prog 40 #[.pointer (some ⟨nb, 0, none⟩), .int .i64 i] w fun e w' => e = .returned (.bool true) ∧ w' = w := by
  go_enter Try.func40, Try.ntmps40
  go_wp2_with (refine (len_any nb nodes v ms _ h).mono ?_; rintro e w' ⟨rfl, rfl⟩)
  go_ret
  exact ⟨rfl, rfl⟩
theorem has_no (nb : Nat) (nodes : Int) (v : Value) (ms : List Msg) (i : Int) (hi : i < 0 ∨ (ms.length : Int) ≤ i) (w : World) (h : Net w nb nodes v ms) : Calls Try.prog 40 #[.pointer (some ⟨nb, 0, none⟩), .int .i64 i] w fun e w' => e = .returned (.bool false) ∧ w' = w := by
  rcases hi with hi | hi
  · go_enter Try.func40, Try.ntmps40
    go_wp2
    go_ret
    exact ⟨rfl, rfl⟩
  · have h2 : 0 ≤ i := by omega
    have hd : decide (i < (ms.length : Int)) = false := by simpa using hi
    go_enter Try.func40, Try.ntmps40
    go_wp2_with (refine (len_any nb nodes v ms _ h).mono ?_; rintro e w' ⟨rfl, rfl⟩)
    go_ret
    exact ⟨rfl, rfl⟩
theorem has_nil (i : Int) (w : World) : Calls Try.prog 40 #[.pointer none, .int .i64 i] w fun e w' => e = .returned (.bool false) ∧ w' = w := by
  by_cases hi : i < 0
  · go_enter Try.func40, Try.ntmps40
    go_wp2
    go_ret
    exact ⟨rfl, rfl⟩
  · have h2 : 0 ≤ i := by omega
    have hd : decide (i < 0) = false := by simpa using h2
    clear hi
    go_enter Try.func40, Try.ntmps40
    go_wp2_with (refine (len_nil _).mono ?_; rintro e w' ⟨rfl, rfl⟩)
    go_ret
    exact ⟨rfl, rfl⟩

theorem two_first (w : World) (o p : Obj) : ((w.alloc o).alloc p).heap[w.heap.size]? = some o := (Below.heap_alloc _ _ _ (by simp)).trans (heap_alloc_new w o)
theorem two_second (w : World) (o p : Obj) : ((w.alloc o).alloc p).heap[w.heap.size + 1]? = some p := by
  have := heap_alloc_new (w.alloc o) p
  simpa using this
theorem cell_at {w : World} {b : Nat} {C : Array Value} {t : TypeId} {fr : Nat × Nat} (h : w.heap[b]? = some (.cells C t fr)) (j : Nat) : w.cell? ⟨b, j, none⟩ = C[j]? := cell_of_row w b j C t fr h
theorem free_at {w : World} {b : Nat} {C : Array Value} {t : TypeId} (h : w.heap[b]? = some (.cells C t (0, 0))) (j : Nat) : w.frozen? ⟨b, j, none⟩ = false := by simp [World.frozen?, h]

/-- A message whose bytes are nobody else's. -/
structure Own (w w' : World) (m m' : Msg) : Prop where
  fr_ : m'.fr = m.fr
  to_ : m'.to = m.to
  l_ : m'.l = m.l
  has : Has w' 1 (.slice m'.a m'.l.length m'.c) m'.l.length (cellsOf m'.l)
  new : ∀ k, (Value.slice m'.a m'.l.length m'.c).ownBlock = some k → w.heap.size ≤ k
  fr : Fr (fun _ => False) w w'
set_option maxHeartbeats 400000 in
theorem own_any (m : Msg) (w : World) (hr : Row w m.a m.c m.l) : Calls Try.prog 41 #[.agg (mc m).toArray] w fun e w' => ∃ m', e = .returned (.agg (mc m').toArray) ∧ Own w w' m m' := by
  obtain ⟨i0, hi, hz0, hz1, hz2⟩ := info_parts info8
  obtain ⟨f, t, a, c, l⟩ := m
  have hs := hr.small
  simp only at hs hr
  unfold mc
  simp only
  go_enter Try.func41, Try.ntmps41
  go_wp2_with (at_builtin; refine wpList_append_has _ rfl _ _ 31 31 5 5 rfl i0 _ 1 1 Try.underlying31 Try.underlying31 hi hz0 hz1 hz2 rfl (by omega) (.slice none 0 0) 0 [] rfl (Has.nil _ _) a l.length c (cellsOf l) rfl (by rw [cellsOf_length]; omega) ((hr.same (((Fr.refl _ w).alloc _).alloc _)).from) (cellsOf_oneCell l) (by unfold maxLen; omega) (by omega) ?_; intro a' c' w1 hown hfr hat; have hb1 := hfr.block_eq (two_first w _ _) (by simp [Value.ownBlock]); have hb2 := hfr.block_eq (two_second w _ _) (by simp [Value.ownBlock]); have q0 := cell_at hb1 0; have q1 := cell_at hb1 1; have q2 := cell_at hb1 2; have q3 := cell_at hb2 0; have q4 := cell_at hb2 1; have q5 := cell_at hb2 2; have z0 := free_at hb1 0; have z1 := free_at hb1 1; have z2 := free_at hb1 2; have z3 := free_at hb2 0; have z4 := free_at hb2 1; have z5 := free_at hb2 2; simp only [List.getElem?_toArray, List.getElem?_cons_zero, List.getElem?_cons_succ] at q0 q1 q2 q3 q4 q5)
  refine bodyPost_ret (v := .agg #[.int .i64 f, .int .i64 t, .slice a' l.length c']) (by simp [results, Try.results41, go_sem, q3, q4, q5]) rfl ⟨⟨f, t, a', c', l⟩, rfl, ?_⟩
  have hown' : Has w1 1 (.slice a' l.length c') l.length (cellsOf l) := by simpa using hown
  have hat' : ∀ k, (Value.slice a' l.length c').ownBlock = some k → w.heap.size + 2 ≤ k := by
    intro k hk
    rcases hat with h | h
    · have h' : (Value.slice a' l.length c').ownBlock = none := by simpa [Value.ownBlock] using h
      rw [hk] at h'; cases h'
    · have h' : (Value.slice a' l.length c').ownBlock = some (w.heap.size + 1 + 1) := by simpa [Value.ownBlock] using h
      rw [hk] at h'
      simp at h'
      omega
  have f1 : Fr (fun _ => False) w w1 := ((((Fr.refl (fun _ => False) w).alloc _).alloc _).above hfr (fun i h => by simp [Value.ownBlock] at h))
  refine ⟨rfl, rfl, rfl, hown'.fr (S := fun k => k = w.heap.size ∨ k = w.heap.size + 1) ?_ (fun k hk => by have := hat' k hk; omega), fun k hk => by have := hat' k hk; omega, ?_⟩
  · exact ((((Fr.refl _ w1).setCell (fun _ => .inl rfl) _).setCell (fun _ => .inr rfl) _).setCell (fun _ => .inr rfl) _).setCell (fun _ => .inr rfl) _
  · exact (((f1.setCell (fun h => absurd h (by simp)) _).setCell (fun h => absurd h (by simp)) _).setCell (fun h => absurd h (by simp)) _).setCell (fun h => absurd h (by simp)) _
end Go.Proofs.Ytplkdjmajagpcaa
