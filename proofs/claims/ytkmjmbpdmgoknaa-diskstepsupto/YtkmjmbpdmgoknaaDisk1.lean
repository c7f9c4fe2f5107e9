
/- A disk in memory; what its small functions do. -/
import Derived.Test.YtkmjmbpdmgoknaaGen
import Derived.Test.YtkmjmbpdmgoknaaMade
import Derived.Deep.WholeRow
namespace Go.Proofs.Ytkmjmbpdmgoknaa
open Go.RowKit

/-- A sector: 256 bytes. -/
def Sec : Type := { l : List Nat // l.length = 256 ∧ octs l }
def sc (s : Sec) : List Value := cellsOf s.1
theorem sc_length (s : Sec) : (sc s).length = 256 := by rw [sc, cellsOf_length]; exact s.2.1
theorem sc_one (s : Sec) : ∀ u ∈ sc s, u.oneCell' = true := cellsOf_oneCell s.1
/-- A write that waits: where, and what. -/
def wc (q : Nat × Sec) : List Value := .int .i64 (q.1 : Nat) :: sc q.2
theorem wc_length (q : Nat × Sec) : (wc q).length = 257 := by simp [wc, sc_length]
theorem wc_one (q : Nat × Sec) : ∀ u ∈ wc q, u.oneCell' = true := by
  intro u hu
  rcases List.mem_cons.1 hu with rfl | h
  · rfl
  · exact sc_one q.2 u h
def zeroSec : Sec := ⟨List.replicate 256 0, List.length_replicate, fun x hx => by obtain ⟨_, rfl⟩ := List.mem_replicate.1 hx; omega⟩

theorem info80 : (Try.prog.info? 53).map (fun i => (i.zero, i.size, i.bytes)) = some (some (.agg (sc zeroSec).toArray), 256, 256) := by kernel_rfl
theorem info82 : (Try.prog.info? 55).map (fun i => (i.zero, i.size, i.bytes)) = some (some (.agg (wc (0, zeroSec)).toArray), 257, 264) := by kernel_rfl

/-- A disk at block db: what lasts lies in lv, what waits in wv. -/
structure Dk (w : World) (db : Nat) (lv wv : Value) (L : List Sec) (Q : List (Nat × Sec)) : Prop where
  box : w.heap[db]? = some (.cells #[lv, wv] 47 (0, 0))
  lasts : Has w 256 lv L.length (L.flatMap sc)
  waits : Has w 257 wv Q.length (Q.flatMap wc)
  ne1 : lv.ownBlock ≠ some db
  ne2 : wv.ownBlock ≠ some db
  ne3 : ∀ k, lv.ownBlock = some k → wv.ownBlock ≠ some k
  at_ : ∀ q ∈ Q, q.1 < L.length
  pos : 1 ≤ L.length
  top : L.length ≤ 8192
/-- The blocks that a disk may write. -/
def dkS (db : Nat) (lv wv : Value) : Nat → Prop := fun k => k = db ∨ lv.ownBlock = some k ∨ wv.ownBlock = some k

theorem Dk.lt {w : World} {db : Nat} {lv wv : Value} {L : List Sec} {Q : List (Nat × Sec)} (h : Dk w db lv wv L Q) {k : Nat} (hk : dkS db lv wv k) : k < w.heap.size := by
  rcases hk with rfl | hk | hk
  · exact lt_of_block h.box
  · exact h.lasts.lt hk
  · exact h.waits.lt hk
theorem Dk.framed {S : Nat → Prop} {w w' : World} {db : Nat} {lv wv : Value} {L : List Sec} {Q : List (Nat × Sec)} (h : Dk w db lv wv L Q) (f : Fr S w w') (hn : ∀ k, dkS db lv wv k → ¬ S k) : Dk w' db lv wv L Q :=
  ⟨f.block_eq h.box (hn db (.inl rfl)), h.lasts.fr f (fun k hk => hn k (.inr (.inl hk))), h.waits.fr f (fun k hk => hn k (.inr (.inr hk))), h.ne1, h.ne2, h.ne3, h.at_, h.pos, h.top⟩
theorem Dk.same {w w' : World} {db : Nat} {lv wv : Value} {L : List Sec} {Q : List (Nat × Sec)} (h : Dk w db lv wv L Q) (f : Fr (fun _ => False) w w') : Dk w' db lv wv L Q := h.framed f (fun _ _ f => f)
theorem cell_at {w : World} {b : Nat} {C : Array Value} {t : TypeId} {fr : Nat × Nat} (h : w.heap[b]? = some (.cells C t fr)) (j : Nat) : w.cell? ⟨b, j, none⟩ = C[j]? := cell_of_row w b j C t fr h
theorem free_at {w : World} {b : Nat} {C : Array Value} {t : TypeId} (h : w.heap[b]? = some (.cells C t (0, 0))) (j : Nat) : w.frozen? ⟨b, j, none⟩ = false := by simp [World.frozen?, h]
theorem Dk.cell0 {w : World} {db : Nat} {lv wv : Value} {L : List Sec} {Q : List (Nat × Sec)} (h : Dk w db lv wv L Q) : w.cell? ⟨db, 0, none⟩ = some lv := cell_at h.box 0
theorem Dk.cell1 {w : World} {db : Nat} {lv wv : Value} {L : List Sec} {Q : List (Nat × Sec)} (h : Dk w db lv wv L Q) : w.cell? ⟨db, 1, none⟩ = some wv := cell_at h.box 1
theorem Dk.free1 {w : World} {db : Nat} {lv wv : Value} {L : List Sec} {Q : List (Nat × Sec)} (h : Dk w db lv wv L Q) : w.frozen? ⟨db, 1, none⟩ = false := free_at h.box 1

theorem waits_nil (w : World) : Calls Try.prog 14 #[.pointer none] w fun e w' => e = .returned (.int .i64 0) ∧ w' = w := by
  go_enter Try.func14, Try.ntmps14
  go_wp2
  go_ret
  exact ⟨rfl, rfl⟩
theorem dhas_nil (i : Int) (w : World) : Calls Try.prog 15 #[.pointer none, .int .i64 i] w fun e w' => e = .returned (.bool false) ∧ w' = w := by
  go_enter Try.func15, Try.ntmps15
  go_wp2
  go_ret
  exact ⟨rfl, rfl⟩
section
variable (db : Nat) (lv wv : Value) (L : List Sec) (Q : List (Nat × Sec)) (w : World)
theorem waits_any (h : Dk w db lv wv L Q) : Calls Try.prog 14 #[.pointer (some ⟨db, 0, none⟩)] w fun e w' => e = .returned (.int .i64 Q.length) ∧ w' = w := by
  have hc := h.cell1
  obtain ⟨a, c, rfl, _⟩ := h.waits.slice
  go_enter Try.func14, Try.ntmps14
  go_wp2
  go_ret
  exact ⟨rfl, rfl⟩
theorem dhas_yes (h : Dk w db lv wv L Q) (i : Nat) (hi : i < L.length) : Calls Try.prog 15 #[.pointer (some ⟨db, 0, none⟩), .int .i64 i] w fun e w' => e = .returned (.bool true) ∧ w' = w := by
  have hc := h.cell0
  obtain ⟨a, c, rfl, _⟩ := h.lasts.slice
  have hd : decide ((i : Int) < (L.length : Int)) = true := by simpa using hi
  go_enter Try.func15, Try.ntmps15
  go_wp2
  go_ret
  exact ⟨rfl, rfl⟩
theorem dhas_no (h : Dk w db lv wv L Q) (i : Int) (hi : i < 0 ∨ (L.length : Int) ≤ i) : Calls Try.prog 15 #[.pointer (some ⟨db, 0, none⟩), .int .i64 i] w fun e w' => e = .returned (.bool false) ∧ w' = w := by
  have hc := h.cell0
  obtain ⟨a, c, rfl, _⟩ := h.lasts.slice
  rcases hi with hi | hi
  · go_enter Try.func15, Try.ntmps15
    go_wp2
    go_ret
    exact ⟨rfl, rfl⟩
  · have h2 : 0 ≤ i := by omega
    have hd : decide (i < (L.length : Int)) = false := by simpa using hi
    go_enter Try.func15, Try.ntmps15
    go_wp2
    go_ret
    exact ⟨rfl, rfl⟩
end
theorem dnew_bad (n : Int) (h : n < 1 ∨ 8192 < n) (w : World) : Calls Try.prog 4 #[.int .i64 n] w fun e w' => e = .returned (.tuple #[.pointer none, .int .i64 1]) ∧ w' = w := by
  rcases h with h | h
  · go_enter Try.func4, Try.ntmps4
    go_wp2
    go_ret2
    exact ⟨rfl, rfl⟩
  · have h2 : 1 ≤ n := by omega
    go_enter Try.func4, Try.ntmps4
    go_wp2
    go_ret2
    exact ⟨rfl, rfl⟩
/-- The slice of a sector's bytes. -/
theorem bytesOf_any (s : Sec) (w : World) : Calls Try.prog 21 #[.agg (sc s).toArray] w fun e w' => e = .returned (.slice (some ⟨w.heap.size, 0, none⟩) 256 256) ∧ w' = w.alloc (.cells (sc s).toArray 53) := by
  go_enter Try.func21, Try.ntmps21
  go_wp2
  go_ret
  exact ⟨rfl, rfl⟩
theorem dnew_ok (n : Nat) (h1 : 1 ≤ n) (h2 : n ≤ 8192) (w : World) : Calls Try.prog 4 #[.int .i64 n] w fun e w' => e = .returned (.tuple #[.pointer (some ⟨w.heap.size + 1, 0, none⟩), .int .i64 0]) ∧
    Dk w' (w.heap.size + 1) (.slice (some ⟨w.heap.size, 0, none⟩) n n) (.slice none 0 0) (List.replicate n zeroSec) [] ∧ Fr (fun _ => False) w w' := by
  obtain ⟨i0, hi, hz0, hz1, hz2⟩ := info_parts info80
  have hmk := fun (w : World) => run_make (P := Try.prog) w 44 53 i0 _ Try.underlying44 hi hz0 .i64 .i64 n n (by omega) (by omega) (by rw [hz2]; omega) (by omega)
  simp only [hz1, Int.toNat_natCast] at hmk
  have hh2 := Has.made sc zeroSec (size := 256) (by omega) (z := .agg (sc zeroSec).toArray) (by simp [Value.cells]) (sc_length _) n (by unfold maxLen; omega) w 53
  generalize (madeCells (Value.agg (sc zeroSec).toArray).cells (n * 256)) = C at hmk hh2
  have h1' : (1 : Int) ≤ n := by omega
  have h2' : (n : Int) ≤ 8192 := by omega
  have HH : Hid (Has (w.alloc (.cells C 53)) 256 (.slice (some ⟨w.heap.size, 0, none⟩) n n) n ((List.replicate n zeroSec).flatMap sc)) := hh2
  clear hz0 hi hz1 hz2 hh2
  go_enter Try.func4, Try.ntmps4
  go_wp2
  go_ret2
  have f : Fr (fun _ => False) (w.alloc (.cells C 53)) ((w.alloc (.cells C 53)).alloc (.cells #[.slice (some ⟨w.heap.size, 0, none⟩) n n, .slice none 0 0] 47)) := (Fr.refl (fun _ => False) _).alloc _
  refine ⟨rfl, ⟨?_, ?_, Has.nil _ _, by simp [Value.ownBlock], by simp [Value.ownBlock], fun k _ => by simp [Value.ownBlock], (fun q hq => by cases hq), by simpa using h1, by simpa using h2⟩, ((Fr.refl (fun _ => False) w).alloc _).alloc _⟩
  · have := heap_alloc_new (w.alloc (.cells C 53)) (.cells #[.slice (some ⟨w.heap.size, 0, none⟩) n n, .slice none 0 0] 47)
    simpa using this
  · rw [List.length_replicate]
    exact HH.out.fr f (fun _ _ f => f)
end Go.Proofs.Ytkmjmbpdmgoknaa
