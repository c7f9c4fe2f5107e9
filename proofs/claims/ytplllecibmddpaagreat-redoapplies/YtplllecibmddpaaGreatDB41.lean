
/- PgPlain, RdSpeak, PgArg, NdArg, RcArg. -/
import Derived.Test.YtplllecibmddpaaGreatDB4
import Derived.Test.YtplllecibmddpaaGreatDB29
import Derived.Test.YtplllecibmddpaaGreatDB9
import Derived.Test.YtplllecibmddpaaGreatDB3
import Derived.SliceStrings
import Derived.Lib.SmallJoins
import Derived.Test.YtplllecibmddpaaGreatDB23
/- That the plain comparison of two nodes that are the same is true. -/
namespace Go.Proofs.YtplllecibmddpaaGreat
open Go.RowKit

set_option maxRecDepth 100000 in
set_option maxHeartbeats 1000000 in
theorem texts_same (a1 a2 : Option Addr) (n1 n2 c1 c2 : Nat) (l : List ByteArray) (h1 : n1 = l.length) (h2 : n2 = l.length) (w : World) (r1 : Strs w a1 c1 l) (r2 : Strs w a2 c2 l) :
    Calls Tryz.prog 26 #[.slice a1 n1 c1, .slice a2 n2 c2] w fun e w' => e = .returned (.bool true) ∧ Fr (fun _ => False) w w' := by
  subst h1
  have e2 : l.length = n2 := h2.symm
  subst e2
  have l1 := r1.le
  have m1 := r1.max
  have l2 := r2.le
  have m2 := r2.max
  go_enter Tryz.func26, Tryz.ntmps26
  go_wp2
  go_loopw [13] (fun i wr => ∃ k : Nat, k ≤ l.length ∧ i = .int .i64 k ∧ Fr (fun _ => False) w wr) (fun i _ => l.length - (intOf i).toNat)
  case atStart => exact ⟨0, by omega, rfl, Fr.refl _ _⟩
  case round =>
    obtain ⟨k, hk, rfl, hf⟩ := hrel
    by_cases hlt : k < l.length
    · obtain ⟨b1, o1, e1, hb1, hc1⟩ := strs_some (r1.same hf) hlt
      obtain ⟨b2, o2, e2, hb2, hc2⟩ := strs_some (r2.same hf) hlt
      have k1 := hc1 k hlt
      have k2 := hc2 k hlt
      obtain ⟨s, hs⟩ : ∃ s, s = l.getD k ByteArray.empty := ⟨_, rfl⟩
      rw [← hs] at k1 k2
      clear hs hc1 hc2
      subst e1 e2
      have i1 : (k : Int) < (l.length : Int) := by omega
      have hbe : (s.toList == s.toList) = true := by simp
      go_wp2
      go_quiet (fail)
      go_wp2
      go_roundw
      case rel => exact ⟨k + 1, by omega, by go_num, hf.drewN _⟩
      case measure => simp [intOf]; omega
    · go_wp2
      go_ret
      exact ⟨rfl, hf⟩
set_option maxRecDepth 100000 in
set_option maxHeartbeats 1000000 in
theorem ints_same (a1 a2 : Option Addr) (n1 n2 c1 c2 : Nat) (l : List Int) (h1 : n1 = l.length) (h2 : n2 = l.length) (w : World) (r1 : Ints w a1 c1 l) (r2 : Ints w a2 c2 l) :
    Calls Tryz.prog 27 #[.slice a1 n1 c1, .slice a2 n2 c2] w fun e w' => e = .returned (.bool true) ∧ Fr (fun _ => False) w w' := by
  subst h1
  have e2 : l.length = n2 := h2.symm
  subst e2
  have l1 := r1.le
  have m1 := r1.max
  have l2 := r2.le
  have m2 := r2.max
  go_enter Tryz.func27, Tryz.ntmps27
  go_wp2
  go_loopw [13] (fun i wr => ∃ k : Nat, k ≤ l.length ∧ i = .int .i64 k ∧ Fr (fun _ => False) w wr) (fun i _ => l.length - (intOf i).toNat)
  case atStart => exact ⟨0, by omega, rfl, Fr.refl _ _⟩
  case round =>
    obtain ⟨k, hk, rfl, hf⟩ := hrel
    by_cases hlt : k < l.length
    · obtain ⟨b1, o1, e1, hb1, hc1⟩ := ints_some (r1.same hf) hlt
      obtain ⟨b2, o2, e2, hb2, hc2⟩ := ints_some (r2.same hf) hlt
      have k1 := hc1 k hlt
      have k2 := hc2 k hlt
      obtain ⟨s, hs⟩ : ∃ s, s = l.getD k 0 := ⟨_, rfl⟩
      rw [← hs] at k1 k2
      clear hs hc1 hc2
      subst e1 e2
      have i1 : (k : Int) < (l.length : Int) := by omega
      go_wp2
      go_quiet (fail)
      go_wp2
      go_roundw
      case rel => exact ⟨k + 1, by omega, by go_num, hf.drewN _⟩
      case measure => simp [intOf]; omega
    · go_wp2
      go_ret
      exact ⟨rfl, hf⟩

set_option maxRecDepth 100000 in
set_option maxHeartbeats 1000000 in
theorem plain_same (n : Nd) (p q : Pt) (w : World) (h1 : Nod w n p) (h2 : Nod w n q) :
    Calls Tryz.prog 7 #[(.agg #[.int .i64 n.lev, .int .i64 n.lsn, .int .i64 n.rgt, .string n.high, .slice p.k n.keys.length p.kc, .slice p.v n.vals.length p.vc, .slice p.i n.kids.length p.ic]), (.agg #[.int .i64 n.lev, .int .i64 n.lsn, .int .i64 n.rgt, .string n.high, .slice q.k n.keys.length q.kc, .slice q.v n.vals.length q.vc, .slice q.i n.kids.length q.ic])] w fun e w' => e = .returned (.bool true) ∧ Fr (fun _ => False) w w' := by
  have f0 := (Fr.box w (.cells #[.int .i64 n.lev, .int .i64 n.lsn, .int .i64 n.rgt, .string n.high, .slice p.k n.keys.length p.kc, .slice p.v n.vals.length p.vc, .slice p.i n.kids.length p.ic] 25)).alloc (.cells #[.int .i64 n.lev, .int .i64 n.lsn, .int .i64 n.rgt, .string n.high, .slice q.k n.keys.length q.kc, .slice q.v n.vals.length q.vc, .slice q.i n.kids.length q.ic] 25)
  have hbe : (n.high.toList == n.high.toList) = true := by simp
  have hba : ∀ W, Fr (fun _ => False) ((w.alloc (.cells #[.int .i64 n.lev, .int .i64 n.lsn, .int .i64 n.rgt, .string n.high, .slice p.k n.keys.length p.kc, .slice p.v n.vals.length p.vc, .slice p.i n.kids.length p.ic] 25)).alloc (.cells #[.int .i64 n.lev, .int .i64 n.lsn, .int .i64 n.rgt, .string n.high, .slice q.k n.keys.length q.kc, .slice q.v n.vals.length q.vc, .slice q.i n.kids.length q.ic] 25)) W → W.heap[w.heap.size]? = some (.cells #[.int .i64 n.lev, .int .i64 n.lsn, .int .i64 n.rgt, .string n.high, .slice p.k n.keys.length p.kc, .slice p.v n.vals.length p.vc, .slice p.i n.kids.length p.ic] 25 (0, 0)) ∧ W.heap[w.heap.size + 1]? = some (.cells #[.int .i64 n.lev, .int .i64 n.lsn, .int .i64 n.rgt, .string n.high, .slice q.k n.keys.length q.kc, .slice q.v n.vals.length q.vc, .slice q.i n.kids.length q.ic] 25 (0, 0)) := fun W f => by
    refine ⟨box_at w n p 25 (((Fr.refl _ _).alloc _).seq' f), ?_⟩
    have := box_at (w.alloc (.cells #[.int .i64 n.lev, .int .i64 n.lsn, .int .i64 n.rgt, .string n.high, .slice p.k n.keys.length p.kc, .slice p.v n.vals.length p.vc, .slice p.i n.kids.length p.ic] 25)) n q 25 f
    simpa using this
  have HB := hba
  have HBB : Hid (∀ W, Fr (fun _ => False) ((w.alloc (.cells #[.int .i64 n.lev, .int .i64 n.lsn, .int .i64 n.rgt, .string n.high, .slice p.k n.keys.length p.kc, .slice p.v n.vals.length p.vc, .slice p.i n.kids.length p.ic] 25)).alloc (.cells #[.int .i64 n.lev, .int .i64 n.lsn, .int .i64 n.rgt, .string n.high, .slice q.k n.keys.length q.kc, .slice q.v n.vals.length q.vc, .slice q.i n.kids.length q.ic] 25)) W → W.heap[w.heap.size]? = some (.cells #[.int .i64 n.lev, .int .i64 n.lsn, .int .i64 n.rgt, .string n.high, .slice p.k n.keys.length p.kc, .slice p.v n.vals.length p.vc, .slice p.i n.kids.length p.ic] 25 (0, 0)) ∧ W.heap[w.heap.size + 1]? = some (.cells #[.int .i64 n.lev, .int .i64 n.lsn, .int .i64 n.rgt, .string n.high, .slice q.k n.keys.length q.kc, .slice q.v n.vals.length q.vc, .slice q.i n.kids.length q.ic] 25 (0, 0))) := hba
  clear hba HB
  go_enter Tryz.func7, Tryz.ntmps7
  go_wp2_with fail
  refine (texts_same _ _ _ _ _ _ n.keys rfl rfl _ (h1.same f0).keys (h2.same f0).keys).mono ?_
  rintro e w1 ⟨rfl, f1⟩
  obtain ⟨b1, b2⟩ := HBB.out w1 f1
  obtain ⟨c0, c1, c2, c3, c4, c5, c6⟩ := box_cells b1
  obtain ⟨d0, d1, d2, d3, d4, d5, d6⟩ := box_cells b2
  go_wp2_with fail
  refine (texts_same _ _ _ _ _ _ n.vals rfl rfl _ (h1.same (f0.seq' f1)).vals (h2.same (f0.seq' f1)).vals).mono ?_
  rintro e w2 ⟨rfl, f2⟩
  clear c0 c1 c2 c3 c4 c5 c6 d0 d1 d2 d3 d4 d5 d6 b1 b2
  obtain ⟨b1, b2⟩ := HBB.out w2 (f1.seq' f2)
  obtain ⟨c0, c1, c2, c3, c4, c5, c6⟩ := box_cells b1
  obtain ⟨d0, d1, d2, d3, d4, d5, d6⟩ := box_cells b2
  go_wp2_with fail
  refine (ints_same _ _ _ _ _ _ n.kids rfl rfl _ (h1.same ((f0.seq' f1).seq' f2)).kids (h2.same ((f0.seq' f1).seq' f2)).kids).mono ?_
  rintro e w3 ⟨rfl, f3⟩
  go_wp2
  go_ret
  exact ⟨rfl, ((f0.seq' f1).seq' f2).seq' f3⟩
end Go.Proofs.YtplllecibmddpaaGreat

/- A record is done once. -/
namespace Go.Proofs.YtplllecibmddpaaGreat
open Go.RowKit

def sn0 : Nd := ⟨0, 4, 0, ⟨#[]⟩, [], [], []⟩
def sn1 : Nd := ⟨0, 5, 0, ⟨#[]⟩, [⟨#[97]⟩], [⟨#[120]⟩], []⟩
def sr5 : Rec := ⟨5, 0, 2, 1, 0, 0, ⟨#[97]⟩, ⟨#[120]⟩⟩
theorem s_ap1 : apN sn0 true sr5 = sn1 ∧ apD sn0 true sr5 = true ∧ apE sn0 true sr5 = 0 := by
  refine ⟨?_, ?_, ?_⟩ <;> kernel_rfl
theorem s_ap2 : apN sn1 true sr5 = sn1 ∧ apD sn1 true sr5 = false ∧ apE sn1 true sr5 = 0 := by
  refine ⟨?_, ?_, ?_⟩ <;> kernel_rfl
theorem sn0_nod (w : World) : Nod w sn0 zp := ⟨⟨Nat.le_refl _, by simp [zp], (fun s hs => by cases hs), .inl rfl⟩, ⟨Nat.le_refl _, by simp [zp], (fun s hs => by cases hs), .inl rfl⟩, ⟨Nat.le_refl _, by simp [zp], .inl rfl⟩, by decide, (fun s hs => by cases hs), (fun s hs => by cases hs), by simp [sn0], by simp [sn0], by simp [sn0]⟩
theorem s_call1 (w : World) : Calls Tryz.prog 5 #[.agg #[.int .i64 0, .int .i64 4, .int .i64 0, .string ⟨#[]⟩, .slice none 0 0, .slice none 0 0, .slice none 0 0], .bool true, .agg #[.int .i64 5, .int .i64 0, .int .i64 2, .int .i64 1, .int .i64 0, .int .i64 0, .string ⟨#[97]⟩, .string ⟨#[120]⟩]] w fun e w' => ∃ q : Pt, e = .returned (.tuple #[.agg #[.int .i64 0, .int .i64 5, .int .i64 0, .string ⟨#[]⟩, .slice q.k 1 q.kc, .slice q.v 1 q.vc, .slice q.i 0 q.ic], .bool true, .int .i64 0]) ∧ Nod w' sn1 q ∧ Fr (fun _ => False) w w' ∧ Nw w q := by
  have h := apply_any sn0 zp true sr5 (by decide) (by decide) w (sn0_nod w)
  rw [s_ap1.1, s_ap1.2.1, s_ap1.2.2] at h
  exact h
theorem s_call2 (q : Pt) (w : World) (hn : Nod w sn1 q) : Calls Tryz.prog 5 #[.agg #[.int .i64 0, .int .i64 5, .int .i64 0, .string ⟨#[]⟩, .slice q.k 1 q.kc, .slice q.v 1 q.vc, .slice q.i 0 q.ic], .bool true, .agg #[.int .i64 5, .int .i64 0, .int .i64 2, .int .i64 1, .int .i64 0, .int .i64 0, .string ⟨#[97]⟩, .string ⟨#[120]⟩]] w fun e w' => ∃ q : Pt, e = .returned (.tuple #[.agg #[.int .i64 0, .int .i64 5, .int .i64 0, .string ⟨#[]⟩, .slice q.k 1 q.kc, .slice q.v 1 q.vc, .slice q.i 0 q.ic], .bool false, .int .i64 0]) ∧ Nod w' sn1 q ∧ Fr (fun _ => False) w w' ∧ Nw w q := by
  have h := apply_any sn1 q true sr5 (by decide) (by decide) w hn
  rw [s_ap2.1, s_ap2.2.1, s_ap2.2.2] at h
  exact h
theorem s_plain (p q : Pt) (w : World) (h1 : Nod w sn1 p) (h2 : Nod w sn1 q) : Calls Tryz.prog 7 #[.agg #[.int .i64 0, .int .i64 5, .int .i64 0, .string ⟨#[]⟩, .slice p.k 1 p.kc, .slice p.v 1 p.vc, .slice p.i 0 p.ic], .agg #[.int .i64 0, .int .i64 5, .int .i64 0, .string ⟨#[]⟩, .slice q.k 1 q.kc, .slice q.v 1 q.vc, .slice q.i 0 q.ic]] w fun e w' => e = .returned (.bool true) ∧ Fr (fun _ => False) w w' := plain_same sn1 p q w h1 h2
set_option maxRecDepth 100000 in
set_option maxHeartbeats 4000000 in
theorem dspeaks_any (w : World) : Calls Tryz.prog 8 #[] w fun e w' => e = .returned (.bool true) ∧ Fr (fun _ => False) w w' := by
  have f0 := Fr.box w (.cells #[.int .i64 5, .int .i64 0, .int .i64 2, .int .i64 1, .int .i64 0, .int .i64 0, .string ⟨#[97]⟩, .string ⟨#[120]⟩] 27)
  have hb0 := heap_alloc_new w (.cells #[.int .i64 5, .int .i64 0, .int .i64 2, .int .i64 1, .int .i64 0, .int .i64 0, .string ⟨#[97]⟩, .string ⟨#[120]⟩] 27)
  obtain ⟨⟨r0, r1, r2, r3, r4, r5, r6, r7⟩, _⟩ := rec_cells hb0
  go_enter Tryz.func8, Tryz.ntmps8
  go_wp2_with fail
  refine (s_call1 _).mono ?_
  rintro e w1 ⟨p, rfl, nd1, f1, _⟩
  clear r0 r1 r2 r3 r4 r5 r6 r7
  have fa := Fr.box w1 (.cells #[.int .i64 0, .int .i64 5, .int .i64 0, .string ⟨#[]⟩, .slice p.k 1 p.kc, .slice p.v 1 p.vc, .slice p.i 0 p.ic] 25)
  have hA := heap_alloc_new w1 (.cells #[.int .i64 0, .int .i64 5, .int .i64 0, .string ⟨#[]⟩, .slice p.k 1 p.kc, .slice p.v 1 p.vc, .slice p.i 0 p.ic] 25)
  have hb1 := fa.blk (f1.blk hb0 (fun f => f)) (fun f => f)
  obtain ⟨⟨r0, r1, r2, r3, r4, r5, r6, r7⟩, _⟩ := rec_cells hb1
  obtain ⟨⟨a0, a1, a2, a3, a4, a5, a6⟩, _⟩ := node_cells hA
  go_wp2_with fail
  refine (s_call2 p _ (nd1.same fa)).mono ?_
  rintro e w2 ⟨q, rfl, nd2, f2, _⟩
  clear r0 r1 r2 r3 r4 r5 r6 r7 a0 a1 a2 a3 a4 a5 a6
  have fc := Fr.box w2 (.cells #[.int .i64 0, .int .i64 5, .int .i64 0, .string ⟨#[]⟩, .slice q.k 1 q.kc, .slice q.v 1 q.vc, .slice q.i 0 q.ic] 25)
  have hA2 := fc.blk (f2.blk hA (fun f => f)) (fun f => f)
  obtain ⟨⟨a0, a1, a2, a3, a4, a5, a6⟩, _⟩ := node_cells hA2
  obtain ⟨⟨b0, b1, b2, b3, b4, b5, b6⟩, _⟩ := node_cells (heap_alloc_new w2 (.cells #[.int .i64 0, .int .i64 5, .int .i64 0, .string ⟨#[]⟩, .slice q.k 1 q.kc, .slice q.v 1 q.vc, .slice q.i 0 q.ic] 25))
  have nd1' := ((nd1.same fa).same f2).same fc
  have nd2' := nd2.same fc
  go_wp2_with fail
  refine (s_plain p q _ nd1' nd2').mono ?_
  rintro e w3 ⟨rfl, f3⟩
  go_wp2
  go_ret
  exact ⟨rfl, ((((f0.seq' f1).seq' fa).seq' f2).seq' fc).seq' f3⟩
end Go.Proofs.YtplllecibmddpaaGreat

/- A node that came in. -/
namespace Go.Proofs.YtplllecibmddpaaGreat
open Go.ChangeShapes Go.WideShapes Go.ChangeAt Go.RowKit

theorem cellsI : Tryz.prog.cellsOf 3 = 1 := by kernel_rfl
theorem cellsS : Tryz.prog.cellsOf 9 = 1 := by kernel_rfl
theorem cellsSs : Tryz.prog.cellsOf 22 = 1 := by kernel_rfl
theorem cellsIs : Tryz.prog.cellsOf 23 = 1 := by kernel_rfl
theorem cellsN : Tryz.prog.cellsOf 25 = 7 := by kernel_rfl
theorem bytesS : Tryz.prog.bytesOf 9 = 16 := by kernel_rfl
theorem bytesI : Tryz.prog.bytesOf 3 = 8 := by kernel_rfl

section
variable {H : Type} {enc : TypeId × Value → H} {w : World} {base : Nat} {spare : Nat → Bool} {held : Bool}

theorem strs_part {fuel : Nat} {c : Value} {x : DataW H × List MemPlace} (h : DataW.trod enc Tryz.prog w base spare held fuel 22 [c] = some x) (hz : ∀ z ∈ x.1.weights Tryz.prog 22, z ≤ reachBytes) :
    ∃ (a : Option Addr) (cap : Nat) (l : List ByteArray), c = .slice a l.length cap ∧ Strs w a cap l ∧ (∀ s ∈ l, s.size ≤ 140737488351232) ∧ l.length ≤ 140737488351232 := by
  rcases open_strings Tryz.underlying22 Tryz.underlying9 cellsS h with ⟨hcs, _⟩ | ⟨y, len, cap, ss, hcs, _, hl, hm, hzz, hx, hcell, hsz⟩
  · simp only [List.cons.injEq, and_true] at hcs
    subst hcs
    exact ⟨none, 0, [], rfl, ⟨by simp, by omega, (fun s hs => by cases hs), .inl rfl⟩, (fun s hs => by cases hs), by simp⟩
  · simp only [List.cons.injEq, and_true] at hcs
    subst hcs
    have hlen : len ≤ ss.length := by rw [hzz]; split <;> omega
    have hll : (ss.take len).length = len := by simp; omega
    have hx1 : x.1 = .slice (strs (ss.take len)) (strs (ss.drop len)) := by rw [hx]
    rw [hx1] at hz
    have w1 := hz (((strs (H := H) (ss.take len)).length + (strs (H := H) (ss.drop len)).length) * Tryz.prog.bytesOf 9) (by simp [DataW.weights, Tryz.underlying22])
    have wl : len ≤ 140737488351232 := by
      rw [bytesS] at w1
      simp only [strs, List.length_map, List.length_take, List.length_drop, reachBytes] at w1
      omega
    have ws : ∀ s ∈ ss.take len, s.size ≤ 140737488351232 := fun s hs => by
      have : s.data.toList.length ∈ DataW.weights Tryz.prog 22 (.slice (strs (H := H) (ss.take len)) (strs (ss.drop len))) := by
        simp only [DataW.weights, Tryz.underlying22, List.mem_cons, List.mem_append]
        refine .inr (.inl ?_)
        have key : ∀ l : List ByteArray, s ∈ l → s.data.toList.length ∈ DataW.weightsAll Tryz.prog 9 (strs (H := H) l) := by
          intro l
          induction l with
          | nil => intro h; cases h
          | cons b r ih =>
            intro h
            simp only [strs, List.map_cons, DataW.weightsAll, List.mem_append]
            rcases List.mem_cons.1 h with rfl | h
            · left; simp [DataW.weights]
            · right; exact ih h
        exact key _ hs
      have := hz _ this
      rw [← Lib.size_eq] at this
      simpa [reachBytes] using this
    refine ⟨some y, cap, ss.take len, by rw [hll], ⟨by omega, by unfold maxLen at hm; omega, fun s hs => hsz s (List.mem_of_mem_take hs), ?_⟩, ws, by omega⟩
    by_cases h0 : len = 0
    · exact .inl (by simp [h0])
    · obtain ⟨b, off, spot⟩ := y
      have hc0 := hcell 0 (by omega)
      have hspot : spot = none := by simpa [Addr.add] using World.cell?_spot hc0
      subst hspot
      refine .inr ⟨b, off, rfl, World.block_lt_of_cell? w ⟨b, off + 0, none⟩ (by rw [Addr.add_lit] at hc0; exact hc0), fun i hi => ?_⟩
      rw [hll] at hi
      have h1 := hcell i (by omega)
      rw [Addr.add_lit] at h1
      rw [h1, List.getD_eq_getElem?_getD, List.getD_eq_getElem?_getD, List.getElem?_take, if_pos hi]
theorem ints_part {fuel : Nat} {c : Value} {x : DataW H × List MemPlace} (h : DataW.trod enc Tryz.prog w base spare held fuel 23 [c] = some x) (hz : ∀ z ∈ x.1.weights Tryz.prog 23, z ≤ reachBytes) :
    ∃ (a : Option Addr) (cap : Nat) (l : List Int), c = .slice a l.length cap ∧ Ints w a cap l ∧ l.length ≤ 140737488351232 := by
  rcases open_ints Tryz.underlying23 Tryz.underlying3 cellsI h with ⟨hcs, _⟩ | ⟨y, len, cap, ss, hcs, _, hl, hm, hzz, hx, hcell, _⟩
  · simp only [List.cons.injEq, and_true] at hcs
    subst hcs
    exact ⟨none, 0, [], rfl, ⟨by simp, by omega, .inl rfl⟩, by simp⟩
  · simp only [List.cons.injEq, and_true] at hcs
    subst hcs
    have hlen : len ≤ ss.length := by rw [hzz]; split <;> omega
    have hll : (ss.take len).length = len := by simp; omega
    have hx1 : x.1 = .slice (lits .i64 (ss.take len)) (lits .i64 (ss.drop len)) := by rw [hx]
    rw [hx1] at hz
    have w1 := hz (((lits (H := H) .i64 (ss.take len)).length + (lits (H := H) .i64 (ss.drop len)).length) * Tryz.prog.bytesOf 3) (by simp [DataW.weights, Tryz.underlying23])
    have wl : len ≤ 140737488351232 := by
      rw [bytesI] at w1
      simp only [lits, List.length_map, List.length_take, List.length_drop, reachBytes] at w1
      omega
    refine ⟨some y, cap, ss.take len, by rw [hll], ⟨by omega, by unfold maxLen at hm; omega, ?_⟩, by omega⟩
    by_cases h0 : len = 0
    · exact .inl (by simp [h0])
    · obtain ⟨b, off, spot⟩ := y
      have hc0 := hcell 0 (by omega)
      have hspot : spot = none := by simpa [Addr.add] using World.cell?_spot hc0
      subst hspot
      refine .inr ⟨b, off, rfl, World.block_lt_of_cell? w ⟨b, off + 0, none⟩ (by rw [Addr.add_lit] at hc0; exact hc0), fun i hi => ?_⟩
      rw [hll] at hi
      have h1 := hcell i (by omega)
      rw [Addr.add_lit] at h1
      rw [h1, List.getD_eq_getElem?_getD, List.getD_eq_getElem?_getD, List.getElem?_take, if_pos hi]

theorem array7 {α : Type} {cs : Array α} (h : cs.size = 7) : ∃ c0 c1 c2 c3 c4 c5 c6, cs = #[c0, c1, c2, c3, c4, c5, c6] := by
  obtain ⟨l⟩ := cs
  match l, h with
  | [c0, c1, c2, c3, c4, c5, c6], _ => exact ⟨c0, c1, c2, c3, c4, c5, c6, rfl⟩
set_option maxRecDepth 100000 in
theorem node_open {r : Reach} {b0 : Nat} {v : Value} {d : DataW H} {pl : List MemPlace} (hv : Value.okWide Tryz.prog w r b0 25 v) (h : DataW.Trod enc Tryz.prog w base spare held 25 v d pl) (hz : ∀ z ∈ d.weights Tryz.prog 25, z ≤ reachBytes) :
    ∃ (n : Nd) (p : Pt), v = (.agg #[.int .i64 n.lev, .int .i64 n.lsn, .int .i64 n.rgt, .string n.high, .slice p.k n.keys.length p.kc, .slice p.v n.vals.length p.vc, .slice p.i n.kids.length p.ic]) ∧ Nod w n p := by
  obtain ⟨cs, rfl, hsz⟩ := okWide_struct Tryz.underlying25 hv
  obtain ⟨c0, c1, c2, c3, c4, c5, c6, rfl⟩ := array7 (hsz.trans cellsN)
  obtain ⟨fuel, hf⟩ := h
  obtain ⟨xs, m, _, hx, hl, hlen, hfs⟩ := DataW.trod_struct Tryz.underlying25 hf
  match xs, hlen with
  | [y0, y1, y2, y3, y4, y5, y6], _ =>
    have t0 := hfs 0 _ rfl
    have t1 := hfs 1 _ rfl
    have t2 := hfs 2 _ rfl
    have t3 := hfs 3 _ rfl
    have t4 := hfs 4 _ rfl
    have t5 := hfs 5 _ rfl
    have t6 := hfs 6 _ rfl
    simp [Value.cells, cellsI, cellsS, cellsSs, cellsIs] at t0 t1 t2 t3 t4 t5 t6
    have hd : d = .agg [y0.1, y1.1, y2.1, y3.1, y4.1, y5.1, y6.1] := by simpa using congrArg Prod.fst hx
    rw [hd] at hz
    simp only [DataW.weights, Tryz.underlying25] at hz
    have z3 : ∀ z ∈ y3.1.weights Tryz.prog 9, z ≤ reachBytes := fun z h => hz z (DataW.weights_mem_each (j := 3) rfl rfl z h)
    have z4 : ∀ z ∈ y4.1.weights Tryz.prog 22, z ≤ reachBytes := fun z h => hz z (DataW.weights_mem_each (j := 4) rfl rfl z h)
    have z5 : ∀ z ∈ y5.1.weights Tryz.prog 22, z ≤ reachBytes := fun z h => hz z (DataW.weights_mem_each (j := 5) rfl rfl z h)
    have z6 : ∀ z ∈ y6.1.weights Tryz.prog 23, z ≤ reachBytes := fun z h => hz z (DataW.weights_mem_each (j := 6) rfl rfl z h)
    obtain ⟨b0, e0, _, _⟩ := DataW.trod_int Tryz.underlying3 t0
    obtain ⟨b1, e1, _, _⟩ := DataW.trod_int Tryz.underlying3 t1
    obtain ⟨b2, e2, _, _⟩ := DataW.trod_int Tryz.underlying3 t2
    obtain ⟨b3, e3, e3', _⟩ := DataW.trod_string Tryz.underlying9 t3
    simp only [List.cons.injEq, and_true] at e0 e1 e2 e3
    subst e0 e1 e2 e3
    rw [e3'] at z3
    have w3 := z3 b3.data.toList.length (by simp [DataW.weights])
    rw [← Lib.size_eq] at w3
    obtain ⟨ak, ck, lk, rfl, s4, s4s, s4l⟩ := strs_part t4 z4
    obtain ⟨av, cv, lv, rfl, s5, s5s, s5l⟩ := strs_part t5 z5
    obtain ⟨ai, ci, li, rfl, s6, s6l⟩ := ints_part t6 z6
    exact ⟨⟨b0, b1, b2, b3, lk, lv, li⟩, ⟨ak, ck, av, cv, ai, ci⟩, rfl, s4, s5, s6, by simpa [reachBytes] using w3, s4s, s5s, s4l, s5l, s6l⟩
end
end Go.Proofs.YtplllecibmddpaaGreat

/- An entry that came in. -/
namespace Go.Proofs.YtplllecibmddpaaGreat
open Go.ChangeShapes Go.WideShapes Go.ChangeAt Go.RowKit

theorem array2 {α : Type} {cs : Array α} (h : cs.size = 2) : ∃ c0 c1, cs = #[c0, c1] := by
  obtain ⟨l⟩ := cs
  match l, h with
  | [c0, c1], _ => exact ⟨c0, c1, rfl⟩
section
variable {H : Type} {enc : TypeId × Value → H} {w : World} {base : Nat} {spare : Nat → Bool} {held : Bool}
end
end Go.Proofs.YtplllecibmddpaaGreat

/- A record that came in. -/
namespace Go.Proofs.YtplllecibmddpaaGreat
open Go.ChangeShapes Go.WideShapes Go.ChangeAt Go.RowKit

theorem rcellsI : Tryz.prog.cellsOf 3 = 1 := by kernel_rfl
theorem rcellsS : Tryz.prog.cellsOf 9 = 1 := by kernel_rfl
theorem rcellsR : Tryz.prog.cellsOf 27 = 8 := by kernel_rfl
theorem array8 {α : Type} {cs : Array α} (h : cs.size = 8) : ∃ c0 c1 c2 c3 c4 c5 c6 c7, cs = #[c0, c1, c2, c3, c4, c5, c6, c7] := by
  obtain ⟨l⟩ := cs
  match l, h with
  | [c0, c1, c2, c3, c4, c5, c6, c7], _ => exact ⟨c0, c1, c2, c3, c4, c5, c6, c7, rfl⟩
section
variable {H : Type} {enc : TypeId × Value → H} {w : World} {base : Nat} {spare : Nat → Bool} {held : Bool}
set_option maxRecDepth 100000 in
theorem rec_open {r : Reach} {b0 : Nat} {v : Value} {d : DataW H} {pl : List MemPlace} (hv : Value.okWide Tryz.prog w r b0 27 v) (h : DataW.Trod enc Tryz.prog w base spare held 27 v d pl) (hz : ∀ z ∈ d.weights Tryz.prog 27, z ≤ reachBytes) :
    ∃ (r : Rec), v = (.agg #[.int .i64 r.lsn, .int .i64 r.ep, .int .i64 r.kind, .int .i64 r.page, .int .i64 r.other, .int .i64 r.req, .string r.key, .string r.val]) ∧ r.key.size ≤ 140737488351232 ∧ r.val.size ≤ 140737488351232 := by
  obtain ⟨cs, rfl, hsz⟩ := okWide_struct Tryz.underlying27 hv
  obtain ⟨c0, c1, c2, c3, c4, c5, c6, c7, rfl⟩ := array8 (hsz.trans rcellsR)
  obtain ⟨fuel, hf⟩ := h
  obtain ⟨xs, m, _, hx, hl, hlen, hfs⟩ := DataW.trod_struct Tryz.underlying27 hf
  match xs, hlen with
  | [y0, y1, y2, y3, y4, y5, y6, y7], _ =>
    have t0 := hfs 0 _ rfl
    have t1 := hfs 1 _ rfl
    have t2 := hfs 2 _ rfl
    have t3 := hfs 3 _ rfl
    have t4 := hfs 4 _ rfl
    have t5 := hfs 5 _ rfl
    have t6 := hfs 6 _ rfl
    have t7 := hfs 7 _ rfl
    simp [Value.cells, rcellsI, rcellsS] at t0 t1 t2 t3 t4 t5 t6 t7
    have hd : d = .agg [y0.1, y1.1, y2.1, y3.1, y4.1, y5.1, y6.1, y7.1] := by simpa using congrArg Prod.fst hx
    rw [hd] at hz
    simp only [DataW.weights, Tryz.underlying27] at hz
    have z6 : ∀ z ∈ y6.1.weights Tryz.prog 9, z ≤ reachBytes := fun z h => hz z (DataW.weights_mem_each (j := 6) rfl rfl z h)
    have z7 : ∀ z ∈ y7.1.weights Tryz.prog 9, z ≤ reachBytes := fun z h => hz z (DataW.weights_mem_each (j := 7) rfl rfl z h)
    obtain ⟨b0, e0, _, _⟩ := DataW.trod_int Tryz.underlying3 t0
    obtain ⟨b1, e1, _, _⟩ := DataW.trod_int Tryz.underlying3 t1
    obtain ⟨b2, e2, _, _⟩ := DataW.trod_int Tryz.underlying3 t2
    obtain ⟨b3, e3, _, _⟩ := DataW.trod_int Tryz.underlying3 t3
    obtain ⟨b4, e4, _, _⟩ := DataW.trod_int Tryz.underlying3 t4
    obtain ⟨b5, e5, _, _⟩ := DataW.trod_int Tryz.underlying3 t5
    obtain ⟨b6, e6, e6', _⟩ := DataW.trod_string Tryz.underlying9 t6
    obtain ⟨b7, e7, e7', _⟩ := DataW.trod_string Tryz.underlying9 t7
    simp only [List.cons.injEq, and_true] at e0 e1 e2 e3 e4 e5 e6 e7
    subst e0 e1 e2 e3 e4 e5 e6 e7
    rw [e6'] at z6
    rw [e7'] at z7
    have w6 := z6 b6.data.toList.length (by simp [DataW.weights])
    have w7 := z7 b7.data.toList.length (by simp [DataW.weights])
    rw [← Lib.size_eq] at w6 w7
    exact ⟨⟨b0, b1, b2, b3, b4, b5, b6, b7⟩, rfl, by simpa [reachBytes] using w6, by simpa [reachBytes] using w7⟩
end
end Go.Proofs.YtplllecibmddpaaGreat
