
/- PgCheck3, PgRef, PgRef2. -/
import Derived.Test.YtnckmajfmkkpgaaGreatBB3
/- What page.Check tells. -/
namespace Go.Proofs.YtnckmajfmkkpgaaGreat
open Go.RowKit

theorem all_of {l : List ByteArray} {m : Nat} (h : ∀ i, i < l.length → (l.getD i ByteArray.empty).size ≤ m) : ∀ s ∈ l, s.size ≤ m := by
  intro s hs
  obtain ⟨i, hi, he⟩ := List.getElem_of_mem hs
  have := h i hi
  rw [List.getD_eq_getElem?_getD, List.getElem?_eq_getElem hi] at this
  simp only [Option.getD_some] at this
  rw [he] at this; exact this
theorem small_size {w : World} {n : Nd} {p : Pt} (h : Nod w n p) (h1 : headB n = true) (h2 : keysB n = true) (h3 : entB n = true) : sizeN n < 9223372036854775808 := by
  have a1 : n.high.size ≤ 16 := by simp [headB] at h1; exact h1.2.2.2
  have a2 := tsz_le n.keys 16 (all_of (fun i hi => (keysB_of h2 i hi).1.2))
  have hk := h.klen
  have hv := h.vlen
  have hi := h.ilen
  unfold sizeN
  by_cases h0 : n.lev = 0
  · rw [if_pos h0]
    unfold entB at h3
    rw [if_pos h0] at h3
    simp only [Bool.and_eq_true] at h3
    have a3 := tsz_le n.vals 32 (all_of (valsB_of h3.2.2))
    omega
  · rw [if_neg h0]; omega
theorem wrap_id {x : Nat} (h : x < 9223372036854775808) : wrap64 (x : Int) = (x : Int) := by unfold wrap64; omega
/-- What Check tells. -/
def epage (n : Nd) : Nat := if rightB n = true then 0 else 60
theorem epage_no {n : Nd} (h : rightB n = false) : epage n = 60 := by unfold epage; rw [h]; rfl
theorem epage_yes {n : Nd} (h : rightB n = true) : epage n = 0 := by unfold epage; rw [h]; rfl

set_option maxRecDepth 100000 in
set_option maxHeartbeats 1000000 in
theorem check_any (n : Nd) (p : Pt) (w : World) (h : Nod w n p) : Calls Tryz.prog 40 #[(.agg #[.int .i64 n.lev, .int .i64 n.lsn, .int .i64 n.rgt, .string n.high, .slice p.k n.keys.length p.kc, .slice p.v n.vals.length p.vc, .slice p.i n.kids.length p.ic])] w fun e w' => e = .returned (.int .i64 (epage n : Nat)) ∧ Fr (fun _ => False) w w' := by
  have f0 := Fr.box w (.cells #[.int .i64 n.lev, .int .i64 n.lsn, .int .i64 n.rgt, .string n.high, .slice p.k n.keys.length p.kc, .slice p.v n.vals.length p.vc, .slice p.i n.kids.length p.ic] 28)
  have f1 := f0.alloc (.cells #[.int .i64 n.lev, .int .i64 n.lsn, .int .i64 n.rgt, .string n.high, .slice p.k n.keys.length p.kc, .slice p.v n.vals.length p.vc, .slice p.i n.kids.length p.ic] 28)
  have sm := small_size h
  have hr : rightB n = (headB n && (keysB n && (entB n && decide (sizeN n ≤ 256)))) := rfl
  obtain ⟨b1, h1⟩ : ∃ b, headB n = b := ⟨_, rfl⟩
  obtain ⟨b2, h2⟩ : ∃ b, keysB n = b := ⟨_, rfl⟩
  obtain ⟨b3, h3⟩ : ∃ b, entB n = b := ⟨_, rfl⟩
  rw [h1, h2, h3] at hr
  cases b1
  · have e60 := epage_no (n := n) (by rw [hr]; simp)
    rw [e60]
    have H1 : Hid (headB n = false) := h1
    clear hr h1 h2 h3 sm
    go_enter Tryz.func40, Tryz.ntmps40
    go_wp2_with fail
    refine (head_any n p _).mono ?_
    rw [H1.out]
    rintro e w1 ⟨rfl, rfl⟩
    go_wp2
    go_ret
    exact ⟨rfl, f1⟩
  · have H1 : Hid (headB n = true) := h1
    cases b2
    · have e60 := epage_no (n := n) (by rw [hr]; simp)
      rw [e60]
      have H2 : Hid (keysB n = false) := h2
      clear hr h1 h2 h3 sm
      go_enter Tryz.func40, Tryz.ntmps40
      go_wp2_with fail
      refine (head_any n p _).mono ?_
      rw [H1.out]
      rintro e w1 ⟨rfl, rfl⟩
      go_wp2_with fail
      refine (keys_any n p _ (h.same f1)).mono ?_
      rw [H2.out]
      rintro e w2 ⟨rfl, f2⟩
      go_wp2
      go_ret
      exact ⟨rfl, f1.seq' f2⟩
    · have H2 : Hid (keysB n = true) := h2
      cases b3
      · have e60 := epage_no (n := n) (by rw [hr]; simp)
        rw [e60]
        have H3 : Hid (entB n = false) := h3
        clear hr h1 h2 h3 sm
        go_enter Tryz.func40, Tryz.ntmps40
        go_wp2_with fail
        refine (head_any n p _).mono ?_
        rw [H1.out]
        rintro e w1 ⟨rfl, rfl⟩
        go_wp2_with fail
        refine (keys_any n p _ (h.same f1)).mono ?_
        rw [H2.out]
        rintro e w2 ⟨rfl, f2⟩
        obtain ⟨c0, c1, c2, c3, c4, c5, c6⟩ := box_cells (box_at w n p 28 (((Fr.refl _ _).alloc _).seq' f2))
        go_wp2_with fail
        refine (ent_any n p _ (h.same (f1.seq' f2))).mono ?_
        rw [H3.out]
        rintro e w3 ⟨rfl, f3⟩
        go_wp2
        go_ret
        exact ⟨rfl, (f1.seq' f2).seq' f3⟩
      · have H3 : Hid (entB n = true) := h3
        have sm2 := sm h1 h2 h3
        have hw := wrap_id sm2
        by_cases hz : sizeN n ≤ 256
        · have e0 := epage_yes (n := n) (by rw [hr]; simp [hz])
          rw [e0]
          clear hr h1 h2 h3 sm
          go_enter Tryz.func40, Tryz.ntmps40
          go_wp2_with fail
          refine (head_any n p _).mono ?_
          rw [H1.out]
          rintro e w1 ⟨rfl, rfl⟩
          go_wp2_with fail
          refine (keys_any n p _ (h.same f1)).mono ?_
          rw [H2.out]
          rintro e w2 ⟨rfl, f2⟩
          have fb := ((Fr.refl (fun _ => False) (w.alloc (.cells #[.int .i64 n.lev, .int .i64 n.lsn, .int .i64 n.rgt, .string n.high, .slice p.k n.keys.length p.kc, .slice p.v n.vals.length p.vc, .slice p.i n.kids.length p.ic] 28))).alloc (.cells #[.int .i64 n.lev, .int .i64 n.lsn, .int .i64 n.rgt, .string n.high, .slice p.k n.keys.length p.kc, .slice p.v n.vals.length p.vc, .slice p.i n.kids.length p.ic] 28)).seq' f2
          obtain ⟨c0, c1, c2, c3, c4, c5, c6⟩ := box_cells (box_at w n p 28 fb)
          go_wp2_with fail
          refine (ent_any n p _ (h.same (f1.seq' f2))).mono ?_
          rw [H3.out]
          rintro e w3 ⟨rfl, f3⟩
          obtain ⟨d0, d1, d2, d3, d4, d5, d6⟩ := box_cells (box_at w n p 28 (fb.seq' f3))
          go_wp2_with fail
          refine (size_any n p _ (h.same ((f1.seq' f2).seq' f3))).mono ?_
          rw [hw]
          rintro e w4 ⟨rfl, f4⟩
          go_wp2
          go_ret
          exact ⟨rfl, ((f1.seq' f2).seq' f3).seq' f4⟩
        · have e0 := epage_no (n := n) (by rw [hr]; simp [hz])
          rw [e0]
          clear hr h1 h2 h3 sm
          go_enter Tryz.func40, Tryz.ntmps40
          go_wp2_with fail
          refine (head_any n p _).mono ?_
          rw [H1.out]
          rintro e w1 ⟨rfl, rfl⟩
          go_wp2_with fail
          refine (keys_any n p _ (h.same f1)).mono ?_
          rw [H2.out]
          rintro e w2 ⟨rfl, f2⟩
          have fb := ((Fr.refl (fun _ => False) (w.alloc (.cells #[.int .i64 n.lev, .int .i64 n.lsn, .int .i64 n.rgt, .string n.high, .slice p.k n.keys.length p.kc, .slice p.v n.vals.length p.vc, .slice p.i n.kids.length p.ic] 28))).alloc (.cells #[.int .i64 n.lev, .int .i64 n.lsn, .int .i64 n.rgt, .string n.high, .slice p.k n.keys.length p.kc, .slice p.v n.vals.length p.vc, .slice p.i n.kids.length p.ic] 28)).seq' f2
          obtain ⟨c0, c1, c2, c3, c4, c5, c6⟩ := box_cells (box_at w n p 28 fb)
          go_wp2_with fail
          refine (ent_any n p _ (h.same (f1.seq' f2))).mono ?_
          rw [H3.out]
          rintro e w3 ⟨rfl, f3⟩
          obtain ⟨d0, d1, d2, d3, d4, d5, d6⟩ := box_cells (box_at w n p 28 (fb.seq' f3))
          go_wp2_with fail
          refine (size_any n p _ (h.same ((f1.seq' f2).seq' f3))).mono ?_
          rw [hw]
          rintro e w4 ⟨rfl, f4⟩
          go_wp2
          go_ret
          exact ⟨rfl, ((f1.seq' f2).seq' f3).seq' f4⟩
end Go.Proofs.YtnckmajfmkkpgaaGreat

/- What the document's own Size tells. -/
namespace Go.Proofs.YtnckmajfmkkpgaaGreat
open Go.RowKit

theorem wrap_step (g s q : Nat) (h : q = g + (s + 2)) : wrap64 (wrap64 (wrap64 (g : Int) + 2) + (s : Int)) = wrap64 (q : Int) := by
  subst h; unfold wrap64; omega
theorem wrap_four (g s q : Nat) (h : q = g + 4 * s) : wrap64 (wrap64 (g : Int) + 4 * (s : Int)) = wrap64 (q : Int) := by
  subst h; rw [wrap_add]; congr 1
theorem strs_some {w : World} {a : Option Addr} {cap : Nat} {l : List ByteArray} (h : Strs w a cap l) {k : Nat} (hk : k < l.length) : ∃ b off, a = some ⟨b, off, none⟩ ∧ b < w.heap.size ∧ ∀ i, i < l.length → w.cell? ⟨b, off + i, none⟩ = some (.string (l.getD i ByteArray.empty)) := by
  rcases h.at_ with h0 | h0
  · rw [h0] at hk; simp at hk
  · exact h0
theorem ints_some {w : World} {a : Option Addr} {cap : Nat} {l : List Int} (h : Ints w a cap l) {k : Nat} (hk : k < l.length) : ∃ b off, a = some ⟨b, off, none⟩ ∧ b < w.heap.size ∧ ∀ i, i < l.length → w.cell? ⟨b, off + i, none⟩ = some (.int .i64 (l.getD i 0)) := by
  rcases h.at_ with h0 | h0
  · rw [h0] at hk; simp at hk
  · exact h0

end Go.Proofs.YtnckmajfmkkpgaaGreat

/- What the document's own Right and Check tell. -/
namespace Go.Proofs.YtnckmajfmkkpgaaGreat
open Go.RowKit

/-- What stands behind the keys is decided by the entries and the size. -/
theorem right_rest {n : Nd} (h1 : headB n = true) (h2 : keysB n = true) : rightB n = (entB n && decide (sizeN n ≤ 256)) := by
  unfold rightB; rw [h1, h2]; simp
theorem right_keys {n : Nd} (h2 : keysB n = false) : rightB n = false := by
  unfold rightB; rw [h2]; simp
theorem right_ent {n : Nd} (h2 : entB n = false) : rightB n = false := by
  unfold rightB; rw [h2]; simp
theorem right_all {n : Nd} (h1 : headB n = true) (h2 : keysB n = true) (h3 : entB n = true) : rightB n = decide (sizeN n ≤ 256) := by
  rw [right_rest h1 h2, h3]; simp
theorem right_is {w : World} {n : Nd} {p : Pt} (h : Nod w n p) (h1 : headB n = true) (h2 : keysB n = true) (h3 : entB n = true) : rightB n = decide (wrap64 ((sizeN n : Nat) : Int) ≤ 256) := by
  rw [right_all h1 h2 h3, wrap_id (small_size h h1 h2 h3), Bool.eq_iff_iff]; simp; omega

end Go.Proofs.YtnckmajfmkkpgaaGreat
