
/- What the document asks of a node and a key. -/
import Derived.Test.YtaaedmacefiinaaNdBase
import Derived.Deep.RegionHeld3
namespace Go.Proofs.Ytaaedmacefiinaa
open Go.RowKit

theorem evalu_no {n : Nat} (h : 32 < n) : evalu n = 51 := if_pos h
theorem evalu_ok {n : Nat} (h : n ≤ 32) : evalu n = 0 := if_neg (by omega)
theorem first3 (x y z : Int) (W : World) : Calls Try.prog 55 #[.slice (some ⟨W.heap.size, 0, none⟩) 3 3] (W.alloc (.cells #[.int .i64 x, .int .i64 y, .int .i64 z] 27)) fun e w' => e = .returned (.int .i64 (firstE [x, y, z])) ∧ w' = W.alloc (.cells #[.int .i64 x, .int .i64 y, .int .i64 z] 27) :=
  first_any W.heap.size 27 [x, y, z] (by simp) _ (heap_alloc_new W _)
theorem first4 (x y z u : Int) (W : World) : Calls Try.prog 55 #[.slice (some ⟨W.heap.size, 0, none⟩) 4 4] (W.alloc (.cells #[.int .i64 x, .int .i64 y, .int .i64 z, .int .i64 u] 27)) fun e w' => e = .returned (.int .i64 (firstE [x, y, z, u])) ∧ w' = W.alloc (.cells #[.int .i64 x, .int .i64 y, .int .i64 z, .int .i64 u] 27) :=
  first_any W.heap.size 27 [x, y, z, u] (by simp) _ (heap_alloc_new W _)

set_option maxRecDepth 100000 in
set_option maxHeartbeats 2000000 in
theorem asked_any (n : Nd) (p : Pt) (k v : ByteArray) (num lvl want : Int) (hl : (lvl = 0 ∧ want = 1) ∨ (lvl = 1 ∧ want = 2) ∨ (lvl = 2 ∧ want = 0)) (hh : n.high.size ≤ maxLen) (hk : k.size ≤ maxLen) (w : World) (h : Nod w n p) :
    Calls Try.prog 60 #[(.agg #[.int .i64 n.lev, .int .i64 n.lsn, .int .i64 n.rgt, .string n.high, .slice p.k n.keys.length p.kc, .slice p.v n.vals.length p.vc, .slice p.i n.kids.length p.ic]), .string k, .string v, .int .i64 num, .int .i64 lvl] w fun e w' => e = .returned (.int .i64 (askE n k (evalu v.size) (nuE num) want)) ∧ Fr (fun _ => False) w w' := by
  have f0 := Fr.box w (.cells #[.int .i64 n.lev, .int .i64 n.lsn, .int .i64 n.rgt, .string n.high, .slice p.k n.keys.length p.kc, .slice p.v n.vals.length p.vc, .slice p.i n.kids.length p.ic] 25)
  have HB : Hid (∀ W, Fr (fun _ => False) (w.alloc (.cells #[.int .i64 n.lev, .int .i64 n.lsn, .int .i64 n.rgt, .string n.high, .slice p.k n.keys.length p.kc, .slice p.v n.vals.length p.vc, .slice p.i n.kids.length p.ic] 25)) W → W.cell? ⟨w.heap.size, 0, none⟩ = some (.int .i64 n.lev) ∧ W.cell? ⟨w.heap.size, 1, none⟩ = some (.int .i64 n.lsn) ∧ W.cell? ⟨w.heap.size, 2, none⟩ = some (.int .i64 n.rgt) ∧ W.cell? ⟨w.heap.size, 3, none⟩ = some (.string n.high) ∧ W.cell? ⟨w.heap.size, 4, none⟩ = some (.slice p.k n.keys.length p.kc) ∧ W.cell? ⟨w.heap.size, 5, none⟩ = some (.slice p.v n.vals.length p.vc) ∧ W.cell? ⟨w.heap.size, 6, none⟩ = some (.slice p.i n.kids.length p.ic)) := fun W f => box_cells (box_at w n p 25 f)
  have hrt := rright_any n p _ (h.same f0)
  have hck := fun W => rcheck_any k W
  have hcv := fun W => rvalue_any v W
  have hfu := fun W => rfurther_any n p k hh hk W
  cases hr : rightB n
  · have e : askE n k (evalu v.size) (nuE num) want = 70 := by simp [askE, firstE, rgE, hr]
    rw [e]
    rw [hr] at hrt
    clear hr e hl
    go_enter Try.func60, Try.ntmps60
    go_wp2_with fail
    refine hrt.mono ?_
    rintro e w1 ⟨rfl, f1⟩
    go_wp2
    go_ret
    exact ⟨rfl, f0.seq' f1⟩
  · rw [hr] at hrt
    have e : askE n k (evalu v.size) (nuE num) want = firstE [ekey k.size, evalu v.size, nuE num, suE n k want] := by simp [askE, firstE, rgE, hr]
    rw [e]
    clear hr e
    by_cases hke : k.size = 0 ∨ 16 < k.size
    · rw [ekey_no hke] at hck ⊢
      rw [show firstE [((50 : Nat) : Int), ((evalu v.size : Nat) : Int), nuE num, suE n k want] = 50 from rfl]
      clear hke hl
      go_enter Try.func60, Try.ntmps60
      go_wp2_with fail
      refine hrt.mono ?_
      rintro e w1 ⟨rfl, f1⟩
      go_wp2_with fail
      refine (hck _).mono ?_
      rintro e w2 ⟨rfl, rfl⟩
      go_wp2_with fail
      refine (hck _).mono ?_
      rintro e w2 ⟨rfl, rfl⟩
      go_wp2
      go_ret
      exact ⟨rfl, f0.seq' f1⟩
    · rw [ekey_ok (by omega) (by omega)] at hck ⊢
      rw [show firstE [((0 : Nat) : Int), ((evalu v.size : Nat) : Int), nuE num, suE n k want] = firstE [((evalu v.size : Nat) : Int), nuE num, suE n k want] from rfl]
      clear hke
      by_cases hve : 32 < v.size
      · rw [evalu_no hve] at hcv ⊢
        rw [show firstE [((51 : Nat) : Int), nuE num, suE n k want] = 51 from rfl]
        clear hve hl
        go_enter Try.func60, Try.ntmps60
        go_wp2_with fail
        refine hrt.mono ?_
        rintro e w1 ⟨rfl, f1⟩
        go_wp2_with fail
        refine (hck _).mono ?_
        rintro e w2 ⟨rfl, rfl⟩
        go_wp2_with fail
        refine (hcv _).mono ?_
        rintro e w2 ⟨rfl, rfl⟩
        go_wp2_with fail
        refine (hcv _).mono ?_
        rintro e w2 ⟨rfl, rfl⟩
        go_wp2
        go_ret
        exact ⟨rfl, f0.seq' f1⟩
      · rw [evalu_ok (by omega)] at hcv ⊢
        rw [show firstE [((0 : Nat) : Int), nuE num, suE n k want] = firstE [nuE num, suE n k want] from rfl]
        clear hve
        by_cases hn1 : num < 1
        · have e : nuE num = 1 := by unfold nuE; rw [if_neg (by omega)]
          rw [e, show firstE [1, suE n k want] = 1 from rfl]
          clear e hl
          go_enter Try.func60, Try.ntmps60
          go_wp2_with fail
          refine hrt.mono ?_
          rintro e w1 ⟨rfl, f1⟩
          go_wp2_with fail
          refine (hck _).mono ?_
          rintro e w2 ⟨rfl, rfl⟩
          go_wp2_with fail
          refine (hcv _).mono ?_
          rintro e w2 ⟨rfl, rfl⟩
          go_wp2
          go_ret
          exact ⟨rfl, f0.seq' f1⟩
        · have hn1' : 1 ≤ num := by omega
          by_cases hn2 : 4096 < num
          · have e : nuE num = 1 := by unfold nuE; rw [if_neg (by omega)]
            rw [e, show firstE [1, suE n k want] = 1 from rfl]
            clear e hl hn1
            go_enter Try.func60, Try.ntmps60
            go_wp2_with fail
            refine hrt.mono ?_
            rintro e w1 ⟨rfl, f1⟩
            go_wp2_with fail
            refine (hck _).mono ?_
            rintro e w2 ⟨rfl, rfl⟩
            go_wp2_with fail
            refine (hcv _).mono ?_
            rintro e w2 ⟨rfl, rfl⟩
            go_wp2
            go_ret
            exact ⟨rfl, f0.seq' f1⟩
          · have e : nuE num = 0 := by unfold nuE; rw [if_pos (by omega)]
            have hn2' : num ≤ 4096 := by omega
            have e2 : firstE [(0 : Int), suE n k want] = suE n k want := by
              show (if (0 : Int) = 0 then (if suE n k want = 0 then 0 else suE n k want) else 0) = _
              rw [if_pos rfl]
              split
              · rename_i h; exact h.symm
              · rfl
            rw [e, e2]
            clear e e2 hn1 hn2
            unfold suE
            generalize fthB n k = x at *
            by_cases h0 : n.lev = 0
            · have hb : (n.lev == 0) = true := by simpa using h0
              have hb2 : (n.lev != 0) = false := by simpa using h0
              have H0 : Hid (n.lev = 0) := h0
              clear h0
              rcases hl with ⟨rfl, rfl⟩ | ⟨rfl, rfl⟩ | ⟨rfl, rfl⟩
              · rw [if_neg (by have := H0.out; omega)]
                cases x <;>
                (go_enter Try.func60, Try.ntmps60
                 go_wp2_with fail
                 refine hrt.mono ?_
                 rintro e w1 ⟨rfl, f1⟩
                 obtain ⟨c0, c1, c2, c3, c4, c5, c6⟩ := HB.out _ f1
                 go_wp2_with fail
                 refine (hck _).mono ?_
                 rintro e w2 ⟨rfl, rfl⟩
                 go_wp2_with fail
                 refine (hcv _).mono ?_
                 rintro e w2 ⟨rfl, rfl⟩
                 go_wp2_with fail
                 refine (hfu _).mono ?_
                 rintro e w3 ⟨rfl, f3⟩
                 go_wp2
                 go_ret
                 exact ⟨rfl, (f0.seq' f1).seq' f3⟩)
              · rw [if_pos (by have := H0.out; omega)]
                go_enter Try.func60, Try.ntmps60
                go_wp2_with fail
                refine hrt.mono ?_
                rintro e w1 ⟨rfl, f1⟩
                obtain ⟨c0, c1, c2, c3, c4, c5, c6⟩ := HB.out _ f1
                go_wp2_with fail
                refine (hck _).mono ?_
                rintro e w2 ⟨rfl, rfl⟩
                go_wp2_with fail
                refine (hcv _).mono ?_
                rintro e w2 ⟨rfl, rfl⟩
                go_wp2
                go_ret
                exact ⟨rfl, f0.seq' f1⟩
              · rw [if_neg (by omega)]
                cases x <;>
                (go_enter Try.func60, Try.ntmps60
                 go_wp2_with fail
                 refine hrt.mono ?_
                 rintro e w1 ⟨rfl, f1⟩
                 obtain ⟨c0, c1, c2, c3, c4, c5, c6⟩ := HB.out _ f1
                 go_wp2_with fail
                 refine (hck _).mono ?_
                 rintro e w2 ⟨rfl, rfl⟩
                 go_wp2_with fail
                 refine (hcv _).mono ?_
                 rintro e w2 ⟨rfl, rfl⟩
                 go_wp2_with fail
                 refine (hfu _).mono ?_
                 rintro e w3 ⟨rfl, f3⟩
                 go_wp2
                 go_ret
                 exact ⟨rfl, (f0.seq' f1).seq' f3⟩)
            · have hb : (n.lev == 0) = false := by simpa using h0
              have hb2 : (n.lev != 0) = true := by simpa using h0
              have H0 : Hid (n.lev ≠ 0) := h0
              clear h0
              rcases hl with ⟨rfl, rfl⟩ | ⟨rfl, rfl⟩ | ⟨rfl, rfl⟩
              · rw [if_pos (by have := H0.out; omega)]
                go_enter Try.func60, Try.ntmps60
                go_wp2_with fail
                refine hrt.mono ?_
                rintro e w1 ⟨rfl, f1⟩
                obtain ⟨c0, c1, c2, c3, c4, c5, c6⟩ := HB.out _ f1
                go_wp2_with fail
                refine (hck _).mono ?_
                rintro e w2 ⟨rfl, rfl⟩
                go_wp2_with fail
                refine (hcv _).mono ?_
                rintro e w2 ⟨rfl, rfl⟩
                go_wp2
                go_ret
                exact ⟨rfl, f0.seq' f1⟩
              · rw [if_neg (by have := H0.out; omega)]
                cases x <;>
                (go_enter Try.func60, Try.ntmps60
                 go_wp2_with fail
                 refine hrt.mono ?_
                 rintro e w1 ⟨rfl, f1⟩
                 obtain ⟨c0, c1, c2, c3, c4, c5, c6⟩ := HB.out _ f1
                 go_wp2_with fail
                 refine (hck _).mono ?_
                 rintro e w2 ⟨rfl, rfl⟩
                 go_wp2_with fail
                 refine (hcv _).mono ?_
                 rintro e w2 ⟨rfl, rfl⟩
                 go_wp2_with fail
                 refine (hfu _).mono ?_
                 rintro e w3 ⟨rfl, f3⟩
                 go_wp2
                 go_ret
                 exact ⟨rfl, (f0.seq' f1).seq' f3⟩)
              · rw [if_neg (by omega)]
                cases x <;>
                (go_enter Try.func60, Try.ntmps60
                 go_wp2_with fail
                 refine hrt.mono ?_
                 rintro e w1 ⟨rfl, f1⟩
                 obtain ⟨c0, c1, c2, c3, c4, c5, c6⟩ := HB.out _ f1
                 go_wp2_with fail
                 refine (hck _).mono ?_
                 rintro e w2 ⟨rfl, rfl⟩
                 go_wp2_with fail
                 refine (hcv _).mono ?_
                 rintro e w2 ⟨rfl, rfl⟩
                 go_wp2_with fail
                 refine (hfu _).mono ?_
                 rintro e w3 ⟨rfl, f3⟩
                 go_wp2
                 go_ret
                 exact ⟨rfl, (f0.seq' f1).seq' f3⟩)
end Go.Proofs.Ytaaedmacefiinaa
