
/- The document's disk: Write that is taken. -/
import Derived.Test.YtkmjmbpdmgoknaaDsFull
import Derived.Deep.RegionHeld
namespace Go.Proofs.Ytkmjmbpdmgoknaa
open Go.RowKit
theorem full_any2 (w : World) (a : Option Addr) (c : Nat) (l : List Nat) (hr : Row w a c l) (hl : l.length ≤ 256) : Calls Try.prog 16 #[.slice a l.length c] w fun e w' => e = .returned (.slice (some ⟨w.heap.size, 0, none⟩) 256 256) ∧ Lies w' (some w.heap.size) (padS l) ∧ Fr (fun _ => False) w w' := full_any w a c l hr hl
theorem wr_news (w : World) (i b : Nat) (s : Sec) : From (w.alloc (.cells #[.int .i64 (i : Int), .slice (some ⟨b, 0, none⟩) 256 256] 58)) (some ⟨w.heap.size, 0, none⟩) (qc (i, b, s)) :=
  .inr ⟨_, _, rfl, range_block (w := (w.alloc _)) (heap_alloc_new w _) (fun j u hu => by rw [Nat.zero_add]; simpa [qc, lvOf] using hu)⟩
section
variable (rb : Nat) (lv qv : Value) (A : List (Option Nat × Sec)) (B : List (Nat × Nat × Sec)) (w : World)
set_option maxRecDepth 100000 in
set_option maxHeartbeats 1000000 in
theorem dswrite_ok (h : Rk w rb lv qv A B) (i : Nat) (hi : i < A.length) (a : Option Addr) (c : Nat) (l : List Nat) (hr : Row w a c l) (hn : l.length ≤ 256) (hB : B.length ≤ 10000000) : Calls Try.prog 8 #[.pointer (some ⟨rb, 0, none⟩), .int .i64 i, .slice a l.length c] w fun e w' => e = .returned (.int .i64 0) ∧
    ∃ qv', Rk w' rb lv qv' A (B ++ [(i, w.heap.size, padS l)]) ∧ Fr (rkS rb lv qv) w w' ∧ (∀ k, rkS rb lv qv' k → rkS rb lv qv k ∨ w.heap.size ≤ k) := by
  obtain ⟨iM, hiM, hzM, hsM, hbM⟩ := info_parts infoW
  have hc := h.cell0
  have hc1 := h.cell1
  obtain ⟨al, cl, rfl, _⟩ := h.lasts.slice
  obtain ⟨aq, cq, rfl, _⟩ := h.waits.slice
  have hn' : (l.length : Int) ≤ 256 := by omega
  have hd : decide ((A.length : Int) ≤ (i : Int)) = false := by simp; omega
  have fD : Fr (fun _ => False) w w.drew := (Fr.refl (fun _ => False) w).drew
  have hrD := hr.same fD
  have hne := h.ne2
  obtain ⟨n, hnn⟩ : ∃ n, n = B.length := ⟨_, rfl⟩
  have HN : Hid (n = B.length) := hnn
  have HIA : Hid (i < A.length) := hi
  rw [← hnn] at hc1 hB hne
  have M1 : Hid (Try.prog.info? 58 = some iM) := hiM
  have M2 : Hid (iM.zero = some (.agg #[.int .i64 0, .slice none 0 0])) := hzM
  have M3 : Hid (iM.size = 2) := hsM
  have M4 : Hid (iM.bytes = 32) := hbM
  have HB : Hid (n ≤ 10000000) := hB
  clear hnn hiM hzM hsM hbM hB
  go_enter Try.func8, Try.ntmps8
  go_wp2_with fail
  clear hi
  go_region_law
    (first
      | (refine step_of (by rfl) ?_; go_simp; go_at_call 16; refine (full_any2 _ a c l hrD hn).mono ?_; rintro e w1 ⟨rfl, l1, f1⟩; have F1 := fD.false_trans f1; have h1 := h.same F1; have q1 := h1.cell1; have F2 := F1.alloc (.cells #[.int .i64 (i : Int), .slice (some ⟨w.heap.size, 0, none⟩) 256 256] 58); have h2 := h.same F2; have q2 := h2.cell1; have hw2 := h2.waits; have hx2 := h2.box; rw [← HN.out] at q1 q2 hw2 hx2)
      | (refine step_append_has _ (by rfl) _ _ 38 38 58 58 (by rfl) iM _ 2 32 Try.underlying38 Try.underlying38 M1.out M2.out M3.out M4.out rfl (by omega) (.slice aq n cq) n (B.flatMap qc) (by rfl) hw2 (some ⟨w1.heap.size, 0, none⟩) 1 1 (qc (i, w.heap.size, padS l)) (by rfl) (by rfl) (wr_news w1 i w.heap.size (padS l)) (qc_one _) (by have := HB.out; unfold maxLen; omega) (by have := HB.out; omega) ?_; intro a' c' w3 hown hfr hat; have hb3 := hfr.block_eq hx2 (fun e => hne e.1); have q3 := cell_at hb3 1; have z3 := free_at hb3 1; simp only [List.getElem?_toArray, List.getElem?_cons_zero, List.getElem?_cons_succ] at q3))
  all_goals
    go_wp2
    go_ret
    obtain rfl := HN.out
    refine ⟨rfl, _, h.grow F2 hfr (B2 := B ++ [(i, w.heap.size, padS l)]) (by simpa using hown) ?_ (fun q hq => ?_)⟩
    · rcases hat with e | e
      · exact .inl e
      · exact .inr (.inr ⟨_, e, Nat.le_refl _⟩)
    · rcases List.mem_append.1 hq with h4 | h4
      · exact ⟨h.at_ q h4, (h2.rowB q h4).1, (h2.rowB q h4).2⟩
      · obtain rfl := List.mem_singleton.1 h4
        exact ⟨HIA.out, l1.same ((Fr.refl (fun _ => False) w1).alloc _), fun e => Nat.lt_irrefl _ (h.lt e)⟩
end
end Go.Proofs.Ytkmjmbpdmgoknaa
