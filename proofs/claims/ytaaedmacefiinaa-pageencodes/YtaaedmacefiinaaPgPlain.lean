
/- That the plain comparison of two nodes that are the same is true. -/
import Derived.Test.YtaaedmacefiinaaPgRef
namespace Go.Proofs.Ytaaedmacefiinaa
open Go.RowKit

set_option maxRecDepth 100000 in
set_option maxHeartbeats 1000000 in
theorem texts_same (a1 a2 : Option Addr) (n1 n2 c1 c2 : Nat) (l : List ByteArray) (h1 : n1 = l.length) (h2 : n2 = l.length) (w : World) (r1 : Strs w a1 c1 l) (r2 : Strs w a2 c2 l) :
    Calls Try.prog 53 #[.slice a1 n1 c1, .slice a2 n2 c2] w fun e w' => e = .returned (.bool true) ∧ Fr (fun _ => False) w w' := by
  subst h1
  have e2 : l.length = n2 := h2.symm
  subst e2
  have l1 := r1.le
  have m1 := r1.max
  have l2 := r2.le
  have m2 := r2.max
  go_enter Try.func53, Try.ntmps53
  go_wp2
  go_loopw [13] (fun i wr => ∃ k : Nat, k ≤ l.length ∧ i = .int .i64 k ∧ Fr (fun _ => False) w wr) (fun i _ => l.length - (intOf i).toNat)
  case atStart => exact ⟨0, by omega, rfl, Fr.refl _ _⟩
  case round =>
    obtain ⟨k, hk, rfl, hf⟩ := hrel
    by_cases hlt : k < l.length
    · obtain ⟨b1, o1, e1, hb1, hc1⟩ := strs_some (r1.same hf) hlt
      obtain ⟨b2, o2, e2, hb2, hc2⟩ := strs_some (r2.same hf) hlt
      have k1 := hc1 k hlt
      have k2 := hc2 k hlt
      obtain ⟨s, hs⟩ : ∃ s, s = l.getD k ByteArray.empty := ⟨_, rfl⟩
      rw [← hs] at k1 k2
      clear hs hc1 hc2
      subst e1 e2
      have i1 : (k : Int) < (l.length : Int) := by omega
      have hbe : (s.toList == s.toList) = true := by simp
      go_wp2
      go_quiet (fail)
      go_wp2
      go_roundw
      case rel => exact ⟨k + 1, by omega, by go_num, hf.drewN _⟩
      case measure => simp [intOf]; omega
    · go_wp2
      go_ret
      exact ⟨rfl, hf⟩
set_option maxRecDepth 100000 in
set_option maxHeartbeats 1000000 in
theorem ints_same (a1 a2 : Option Addr) (n1 n2 c1 c2 : Nat) (l : List Int) (h1 : n1 = l.length) (h2 : n2 = l.length) (w : World) (r1 : Ints w a1 c1 l) (r2 : Ints w a2 c2 l) :
    Calls Try.prog 54 #[.slice a1 n1 c1, .slice a2 n2 c2] w fun e w' => e = .returned (.bool true) ∧ Fr (fun _ => False) w w' := by
  subst h1
  have e2 : l.length = n2 := h2.symm
  subst e2
  have l1 := r1.le
  have m1 := r1.max
  have l2 := r2.le
  have m2 := r2.max
  go_enter Try.func54, Try.ntmps54
  go_wp2
  go_loopw [13] (fun i wr => ∃ k : Nat, k ≤ l.length ∧ i = .int .i64 k ∧ Fr (fun _ => False) w wr) (fun i _ => l.length - (intOf i).toNat)
  case atStart => exact ⟨0, by omega, rfl, Fr.refl _ _⟩
  case round =>
    obtain ⟨k, hk, rfl, hf⟩ := hrel
    by_cases hlt : k < l.length
    · obtain ⟨b1, o1, e1, hb1, hc1⟩ := ints_some (r1.same hf) hlt
      obtain ⟨b2, o2, e2, hb2, hc2⟩ := ints_some (r2.same hf) hlt
      have k1 := hc1 k hlt
      have k2 := hc2 k hlt
      obtain ⟨s, hs⟩ : ∃ s, s = l.getD k 0 := ⟨_, rfl⟩
      rw [← hs] at k1 k2
      clear hs hc1 hc2
      subst e1 e2
      have i1 : (k : Int) < (l.length : Int) := by omega
      go_wp2
      go_quiet (fail)
      go_wp2
      go_roundw
      case rel => exact ⟨k + 1, by omega, by go_num, hf.drewN _⟩
      case measure => simp [intOf]; omega
    · go_wp2
      go_ret
      exact ⟨rfl, hf⟩

set_option maxRecDepth 100000 in
set_option maxHeartbeats 1000000 in
theorem plain_same (n : Nd) (p q : Pt) (w : World) (h1 : Nod w n p) (h2 : Nod w n q) :
    Calls Try.prog 17 #[(.agg #[.int .i64 n.lev, .int .i64 n.lsn, .int .i64 n.rgt, .string n.high, .slice p.k n.keys.length p.kc, .slice p.v n.vals.length p.vc, .slice p.i n.kids.length p.ic]), (.agg #[.int .i64 n.lev, .int .i64 n.lsn, .int .i64 n.rgt, .string n.high, .slice q.k n.keys.length q.kc, .slice q.v n.vals.length q.vc, .slice q.i n.kids.length q.ic])] w fun e w' => e = .returned (.bool true) ∧ Fr (fun _ => False) w w' := by
  have f0 := (Fr.box w (.cells #[.int .i64 n.lev, .int .i64 n.lsn, .int .i64 n.rgt, .string n.high, .slice p.k n.keys.length p.kc, .slice p.v n.vals.length p.vc, .slice p.i n.kids.length p.ic] 25)).alloc (.cells #[.int .i64 n.lev, .int .i64 n.lsn, .int .i64 n.rgt, .string n.high, .slice q.k n.keys.length q.kc, .slice q.v n.vals.length q.vc, .slice q.i n.kids.length q.ic] 25)
  have hbe : (n.high.toList == n.high.toList) = true := by simp
  have hba : ∀ W, Fr (fun _ => False) ((w.alloc (.cells #[.int .i64 n.lev, .int .i64 n.lsn, .int .i64 n.rgt, .string n.high, .slice p.k n.keys.length p.kc, .slice p.v n.vals.length p.vc, .slice p.i n.kids.length p.ic] 25)).alloc (.cells #[.int .i64 n.lev, .int .i64 n.lsn, .int .i64 n.rgt, .string n.high, .slice q.k n.keys.length q.kc, .slice q.v n.vals.length q.vc, .slice q.i n.kids.length q.ic] 25)) W → W.heap[w.heap.size]? = some (.cells #[.int .i64 n.lev, .int .i64 n.lsn, .int .i64 n.rgt, .string n.high, .slice p.k n.keys.length p.kc, .slice p.v n.vals.length p.vc, .slice p.i n.kids.length p.ic] 25 (0, 0)) ∧ W.heap[w.heap.size + 1]? = some (.cells #[.int .i64 n.lev, .int .i64 n.lsn, .int .i64 n.rgt, .string n.high, .slice q.k n.keys.length q.kc, .slice q.v n.vals.length q.vc, .slice q.i n.kids.length q.ic] 25 (0, 0)) := fun W f => by
    refine ⟨box_at w n p 25 (((Fr.refl _ _).alloc _).seq' f), ?_⟩
    have := box_at (w.alloc (.cells #[.int .i64 n.lev, .int .i64 n.lsn, .int .i64 n.rgt, .string n.high, .slice p.k n.keys.length p.kc, .slice p.v n.vals.length p.vc, .slice p.i n.kids.length p.ic] 25)) n q 25 f
    simpa using this
  have HB := hba
  have HBB : Hid (∀ W, Fr (fun _ => False) ((w.alloc (.cells #[.int .i64 n.lev, .int .i64 n.lsn, .int .i64 n.rgt, .string n.high, .slice p.k n.keys.length p.kc, .slice p.v n.vals.length p.vc, .slice p.i n.kids.length p.ic] 25)).alloc (.cells #[.int .i64 n.lev, .int .i64 n.lsn, .int .i64 n.rgt, .string n.high, .slice q.k n.keys.length q.kc, .slice q.v n.vals.length q.vc, .slice q.i n.kids.length q.ic] 25)) W → W.heap[w.heap.size]? = some (.cells #[.int .i64 n.lev, .int .i64 n.lsn, .int .i64 n.rgt, .string n.high, .slice p.k n.keys.length p.kc, .slice p.v n.vals.length p.vc, .slice p.i n.kids.length p.ic] 25 (0, 0)) ∧ W.heap[w.heap.size + 1]? = some (.cells #[.int .i64 n.lev, .int .i64 n.lsn, .int .i64 n.rgt, .string n.high, .slice q.k n.keys.length q.kc, .slice q.v n.vals.length q.vc, .slice q.i n.kids.length q.ic] 25 (0, 0))) := hba
  clear hba HB
  go_enter Try.func17, Try.ntmps17
  go_wp2_with fail
  refine (texts_same _ _ _ _ _ _ n.keys rfl rfl _ (h1.same f0).keys (h2.same f0).keys).mono ?_
  rintro e w1 ⟨rfl, f1⟩
  obtain ⟨b1, b2⟩ := HBB.out w1 f1
  obtain ⟨c0, c1, c2, c3, c4, c5, c6⟩ := box_cells b1
  obtain ⟨d0, d1, d2, d3, d4, d5, d6⟩ := box_cells b2
  go_wp2_with fail
  refine (texts_same _ _ _ _ _ _ n.vals rfl rfl _ (h1.same (f0.seq' f1)).vals (h2.same (f0.seq' f1)).vals).mono ?_
  rintro e w2 ⟨rfl, f2⟩
  clear c0 c1 c2 c3 c4 c5 c6 d0 d1 d2 d3 d4 d5 d6 b1 b2
  obtain ⟨b1, b2⟩ := HBB.out w2 (f1.seq' f2)
  obtain ⟨c0, c1, c2, c3, c4, c5, c6⟩ := box_cells b1
  obtain ⟨d0, d1, d2, d3, d4, d5, d6⟩ := box_cells b2
  go_wp2_with fail
  refine (ints_same _ _ _ _ _ _ n.kids rfl rfl _ (h1.same ((f0.seq' f1).seq' f2)).kids (h2.same ((f0.seq' f1).seq' f2)).kids).mono ?_
  rintro e w3 ⟨rfl, f3⟩
  go_wp2
  go_ret
  exact ⟨rfl, ((f0.seq' f1).seq' f2).seq' f3⟩
end Go.Proofs.Ytaaedmacefiinaa
