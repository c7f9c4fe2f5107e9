
/- What the statements' own helpers tell: same, ref, speaks. -/
import Derived.Test.YtjhbhjakbcplgaaPtNx
import Derived.Test.YtjhbhjakbcplgaaPtRedo
namespace Go.Proofs.Ytjhbhjakbcplgaa
open Go.RowKit Crcm

theorem agg3 (p : Pn) : p = ⟨p.num, p.lsn, p.redo⟩ := rfl
set_option maxRecDepth 100000 in
set_option maxHeartbeats 2000000 in
theorem same_any (p q : Pn) (w : World) : Calls Try.prog 15 #[.agg #[.int .i64 p.num, .int .i64 p.lsn, .int .i64 p.redo], .agg #[.int .i64 q.num, .int .i64 q.lsn, .int .i64 q.redo]] w fun e w' => e = .returned (.bool (eqP p q)) ∧ Fr (fun _ => False) w w' := by
  obtain ⟨p1, p2, p3⟩ := p
  obtain ⟨q1, q2, q3⟩ := q
  have hd : eqP ⟨p1, p2, p3⟩ ⟨q1, q2, q3⟩ = (decide (p1 = q1) && (decide (p2 = q2) && decide (p3 = q3))) := rfl
  rw [hd]
  clear hd
  have f0 : Fr (fun _ => False) w ((w.alloc (.cells #[.int .i64 p1, .int .i64 p2, .int .i64 p3] 34)).alloc (.cells #[.int .i64 q1, .int .i64 q2, .int .i64 q3] 40)) := (Fr.box w _).alloc _
  by_cases h1 : p1 = q1
  · by_cases h2 : p2 = q2
    · by_cases h3 : p3 = q3
      · subst h1 h2 h3
        rw [show (decide (p1 = p1) && (decide (p2 = p2) && decide (p3 = p3))) = true by simp]
        go_enter Try.func15, Try.ntmps15
        go_wp2
        go_ret
        exact ⟨rfl, f0⟩
      · subst h1 h2
        rw [show (decide (p1 = p1) && (decide (p2 = p2) && decide (p3 = q3))) = false by simp [h3]]
        have h3' : (p3 == q3) = false := by simpa using h3
        clear h3
        go_enter Try.func15, Try.ntmps15
        go_wp2
        go_ret
        exact ⟨rfl, f0⟩
    · subst h1
      rw [show (decide (p1 = p1) && (decide (p2 = q2) && decide (p3 = q3))) = false by simp [h2]]
      have h2' : (p2 == q2) = false := by simpa using h2
      clear h2
      go_enter Try.func15, Try.ntmps15
      go_wp2
      go_ret
      exact ⟨rfl, f0⟩
  · rw [show (decide (p1 = q1) && (decide (p2 = q2) && decide (p3 = q3))) = false by simp [h1]]
    have h1' : (p1 == q1) = false := by simpa using h1
    clear h1
    go_enter Try.func15, Try.ntmps15
    go_wp2
    go_ret
    exact ⟨rfl, f0⟩

set_option maxRecDepth 100000 in
set_option maxHeartbeats 1000000 in
theorem ref_any (p : Pn) (w : World) : Calls Try.prog 12 #[.agg #[.int .i64 p.num, .int .i64 p.lsn, .int .i64 p.redo]] w fun e w' => e = .returned (.agg #[.int .i64 p.num, .int .i64 p.lsn, .int .i64 p.redo]) ∧ Fr (fun _ => False) w w' := by
  obtain ⟨p1, p2, p3⟩ := p
  obtain ⟨W0, hW0⟩ : ∃ W0, W0 = (w.alloc (.cells #[.int .i64 p1, .int .i64 p2, .int .i64 p3] 34)).alloc (.cells #[.int .i64 0, .int .i64 0, .int .i64 0] 40) := ⟨_, rfl⟩
  have f0 : Fr (fun _ => False) w W0 := by rw [hW0]; exact (Fr.box w _).alloc _
  obtain ⟨x, hx⟩ : ∃ z, z = w.heap.size := ⟨_, rfl⟩
  obtain ⟨z, hz⟩ : ∃ q, q = w.heap.size + 1 := ⟨_, rfl⟩
  have t1 : Tri (w.alloc (.cells #[.int .i64 p1, .int .i64 p2, .int .i64 p3] 34)) x 34 p1 p2 p3 := by rw [hx]; exact heap_alloc_new w _
  have tx : Tri W0 x 34 p1 p2 p3 := by rw [hW0]; exact t1.fr (Fr.box _ _) (fun f => f)
  have tz : Tri W0 z 40 0 0 0 := by
    have h := heap_alloc_new (w.alloc (.cells #[.int .i64 p1, .int .i64 p2, .int .i64 p3] 34)) (.cells #[.int .i64 0, .int .i64 0, .int .i64 0] 40)
    have e : (w.alloc (.cells #[.int .i64 p1, .int .i64 p2, .int .i64 p3] 34)).heap.size = z := by rw [hz]; simp
    rw [e] at h; rw [hW0]; exact h
  have HXZ : Hid (w.heap.size ≤ z) := by show _ ≤ _; omega
  have HW : Hid ((w.alloc (.cells #[.int .i64 p1, .int .i64 p2, .int .i64 p3] 34)).alloc (.cells #[.int .i64 0, .int .i64 0, .int .i64 0] 40) = W0) := hW0.symm
  have HX' : Hid (w.heap.size = x) := hx.symm
  have HZ' : Hid (x + 1 = z) := by show _ = _; omega
  clear hW0 hx hz t1
  go_enter Try.func12, Try.ntmps12
  go_upto_region 1 with fail
  rw [HW.out, HX'.out, HZ'.out]
  obtain ⟨x0, x1, x2, _, _, _⟩ := tx.cells
  obtain ⟨z0, z1, z2, k0, k1, k2⟩ := tz.cells
  go_wp2
  obtain ⟨tf, ff⟩ := tz.fin p1 p2 p3
  have fff : Fr (fun _ => False) w _ := f0.trans ff (fun i hi e => by have := HXZ.out; omega)
  generalize (((W0.setCell ⟨z, 0, none⟩ (.int .i64 p1)).setCell ⟨z, 1, none⟩ (.int .i64 p2)).setCell ⟨z, 2, none⟩ (.int .i64 p3)) = Wf at tf fff ⊢
  obtain ⟨q0, q1, q2, _, _, _⟩ := tf.cells
  exact bodyPost_ret (v := .agg #[.int .i64 p1, .int .i64 p2, .int .i64 p3]) (by simp [results, Try.results12, go_sem, q0, q1, q2]) rfl ⟨rfl, fff⟩
end Go.Proofs.Ytjhbhjakbcplgaa
