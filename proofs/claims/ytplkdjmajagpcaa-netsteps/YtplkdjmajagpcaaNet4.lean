/- What a net's Pick does. -/
import Derived.Test.YtplkdjmajagpcaaNet3
namespace Go.Proofs.Ytplkdjmajagpcaa
open Go.RowKit

section
variable (nb : Nat) (nodes : Int) (v : Value) (ms : List Msg) (w : World)

theorem pick_nil (i : Int) : Calls Try.prog 24 #[.pointer none, .int .i64 i] w fun e w' => e = .returned (.tuple #[.agg #[.int .i64 0, .int .i64 0, .slice none 0 0], .int .i64 6]) ∧ Fr (fun _ => False) w w' := by
  go_enter Try.func24, Try.ntmps24
  go_wp2_with (refine (has_nil _ _).mono ?_; rintro e w' ⟨rfl, rfl⟩)
  refine bodyPost_ret (v := .tuple #[.agg #[.int .i64 0, .int .i64 0, .slice none 0 0], .int .i64 6]) (by simp [results, Try.results24, go_sem]) rfl ⟨rfl, ?_⟩
  have f1 : Fr (fun _ => False) w (w.alloc (.cells #[.int .i64 0, .int .i64 0, .slice none 0 0] 61)) := (Fr.refl _ w).alloc _
  exact f1
theorem pick_no (h : Net w nb nodes v ms) (i : Int) (hi : i < 0 ∨ (ms.length : Int) ≤ i) : Calls Try.prog 24 #[.pointer (some ⟨nb, 0, none⟩), .int .i64 i] w fun e w' => e = .returned (.tuple #[.agg #[.int .i64 0, .int .i64 0, .slice none 0 0], .int .i64 6]) ∧ Fr (fun _ => False) w w' := by
  have HI : Hid (i < 0 ∨ (ms.length : Int) ≤ i) := hi
  clear hi
  have f1 : Fr (fun _ => False) w (w.alloc (.cells #[.int .i64 0, .int .i64 0, .slice none 0 0] 61)) := (Fr.refl _ w).alloc _
  go_enter Try.func24, Try.ntmps24
  go_wp2_with (refine (has_no nb nodes v ms i HI.out _ (h.same f1)).mono ?_; rintro e w' ⟨rfl, rfl⟩)
  refine bodyPost_ret (v := .tuple #[.agg #[.int .i64 0, .int .i64 0, .slice none 0 0], .int .i64 6]) (by simp [results, Try.results24, go_sem]) rfl ⟨rfl, ?_⟩
  exact f1

set_option maxHeartbeats 1000000 in
theorem pick_ok (h : Net w nb nodes v ms) (i : Nat) (m : Msg) (hm : ms[i]? = some m) : Calls Try.prog 24 #[.pointer (some ⟨nb, 0, none⟩), .int .i64 i] w fun e w' => ∃ a' c', e = .returned (.tuple #[.agg #[.int .i64 m.fr, .int .i64 m.to, .slice a' m.l.length c'], .int .i64 0]) ∧
      Fresh w w' a' c' m.l ∧ ∃ v', Net w' nb nodes v' (ms.eraseIdx i) ∧ Fr (netS nb v) w w' ∧ (v'.ownBlock = v.ownBlock ∨ ∃ g, v'.ownBlock = some g ∧ w.heap.size ≤ g) ∧ (∀ k, (Value.slice a' m.l.length c').ownBlock = some k → v'.ownBlock ≠ some k) := by
  have f1 : Fr (fun _ => False) w (w.alloc (.cells #[.int .i64 0, .int .i64 0, .slice none 0 0] 61)) := (Fr.refl _ w).alloc _
  have h1 := h.same f1
  obtain ⟨g, cap, rfl, hi, c0, c1, c2, hmem⟩ := h1.elem hm
  have hc := h1.cell1
  have hr := (h1.bytes m hmem).1
  have hlt := lt_of_block h.box
  have HI : Hid (i < ms.length) := hi
  have hi2 : (i : Int) < (ms.length : Int) := by omega
  obtain ⟨fm, tm, am, cm, lm⟩ := m
  simp only at c0 c1 c2 hr ⊢
  clear hi
  go_enter Try.func24, Try.ntmps24
  go_wp2_with fail
  refine (has_yes nb nodes _ ms i HI.out _ h1).mono ?_
  rintro e w' ⟨rfl, rfl⟩
  go_wp2_with fail
  refine (own_at fm tm am cm lm _ hr).mono ?_
  rintro e w1 ⟨a', c', rfl, ho, f12⟩
  have f2 := f1.false_trans f12
  have z1 : w.heap.size + 1 ≤ w1.heap.size := by simpa using f12.size
  have hb1 := f12.block_eq (heap_alloc_new w _) (fun f => f)
  have hs : Hid (∀ k, (Value.slice a' lm.length c').ownBlock = some k → k < w1.heap.size) := fun k hk => ho.has.lt hk
  go_wp2_with fail
  have f3 : Fr (fun _ => False) w (w1.alloc (.cells #[.int .i64 fm, .int .i64 tm, .slice a' lm.length c'] 61)) := f2.alloc _
  refine (cut_any i nb nodes _ ms _ (h.same f3) HI.out).mono ?_
  rintro e w4 ⟨rfl, v', n4, f4, o4⟩
  have hnS : ∀ k, w.heap.size ≤ k → ¬ netS nb (Value.slice (some ⟨g, 0, none⟩) ms.length cap) k := fun k hk e => by have := h.lt e; omega
  have hb2 := f4.block_eq (heap_alloc_new w1 _) (hnS _ (by omega))
  have hb3 := f4.block_eq ((Below.heap_alloc w1 _ _ (lt_of_block hb1)).trans hb1) (hnS _ (by omega))
  have q0 := cell_at hb2 0
  have q1 := cell_at hb2 1
  have q2 := cell_at hb2 2
  have q3 := cell_at hb3 0
  have q4 := cell_at hb3 1
  have q5 := cell_at hb3 2
  have z3 := free_at hb3 0
  have z4 := free_at hb3 1
  have z5 := free_at hb3 2
  simp only [List.getElem?_toArray, List.getElem?_cons_zero, List.getElem?_cons_succ] at q0 q1 q2 q3 q4 q5
  go_wp2
  refine bodyPost_ret (v := .tuple #[.agg #[.int .i64 fm, .int .i64 tm, .slice a' lm.length c'], .int .i64 0]) (by simp [results, Try.results24, go_sem, q3, q4, q5]) rfl ⟨a', c', rfl, ?_⟩
  have z4 : w1.heap.size + 1 ≤ w4.heap.size := by simpa using f4.size
  have f5 : ∀ {W : World}, Fr (fun k => k = w.heap.size) w4 W → Fr (netS nb (Value.slice (some ⟨g, 0, none⟩) ms.length cap)) w W := fun {W} f => (f3.any.trans f4 (fun _ _ s => s)).trans f (fun i hi e => by omega)
  have o5 : v'.ownBlock = (Value.slice (some ⟨g, 0, none⟩) ms.length cap).ownBlock ∨ ∃ g, v'.ownBlock = some g ∧ w1.heap.size + 1 ≤ g := by simpa using o4
  have hvn : ∀ k, v'.ownBlock = some k → k < w.heap.size ∨ w1.heap.size + 1 ≤ k := fun k hk => by
    rcases o5 with e | ⟨g', e, hge⟩
    · exact .inl (h.row.lt (by rw [← e]; exact hk))
    · rw [hk] at e
      simp at e
      exact .inr (by omega)
  have f6 : ∀ {W : World}, Fr (fun k => k = w.heap.size) w4 W → Net W nb nodes v' (ms.eraseIdx i) := fun {W} f =>
    n4.framed f (fun k hk e => by
      rcases hk with hk | hk
      · omega
      · have := hvn k hk; omega) (fun m hm b off ha hl e => by have := (h.bytes m (List.mem_of_mem_eraseIdx hm)).1.lt ha hl; omega)
  have f7 : ∀ {W : World}, Fr (fun k => k = w.heap.size) w4 W → Fresh w W a' c' lm := fun {W} f => by
    have n1 : ∀ k, (Value.slice a' lm.length c').ownBlock = some k → w.heap.size + 1 ≤ k := fun k hk => by simpa using ho.new k hk
    refine ⟨?_, fun k hk => by have := n1 k hk; omega⟩
    refine ((ho.has.fr (S := fun _ => False) ((Fr.refl (fun _ => False) w1).alloc _) (fun _ _ f => f)).fr f4 (fun k hk => hnS k (by have := n1 k hk; omega))).fr f (fun k hk e => by have := n1 k hk; omega)
  have f8 : ∀ {W : World}, Fr (fun k => k = w.heap.size) w4 W → Fresh w W a' c' lm ∧ ∃ v', Net W nb nodes v' (ms.eraseIdx i) ∧ Fr (netS nb (Value.slice (some ⟨g, 0, none⟩) ms.length cap)) w W ∧ (v'.ownBlock = (Value.slice (some ⟨g, 0, none⟩) ms.length cap).ownBlock ∨ ∃ g, v'.ownBlock = some g ∧ w.heap.size ≤ g) ∧ (∀ k, (Value.slice a' lm.length c').ownBlock = some k → v'.ownBlock ≠ some k) := fun {W} f => by
    refine ⟨f7 f, v', f6 f, f5 f, ?_, fun k hk e => ?_⟩
    · rcases o5 with e | ⟨g', e, hge⟩
      · exact .inl e
      · exact .inr ⟨g', e, by omega⟩
    · have h1 := hs.out k hk
      have h2 := hvn k e
      have h3 := ho.new k hk
      simp at h3
      omega
  refine f8 ?_
  exact (((Fr.refl (fun k => k = w.heap.size) w4).setCell (p := ⟨w.heap.size, 0, none⟩) (fun _ => rfl) _).setCell (p := ⟨w.heap.size, 1, none⟩) (fun _ => rfl) _).setCell (p := ⟨w.heap.size, 2, none⟩) (fun _ => rfl) _
end
end Go.Proofs.Ytplkdjmajagpcaa
