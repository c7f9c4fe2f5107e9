
/- Where two logs part. -/
import Derived.Test.YtihkdffihmhnaaaGreatLnAll
namespace Go.Proofs.YtihkdffihmhnaaaGreat
open Go.RowKit
open Go.Proofs.YtihkdffihmhnaaaGreat.Ln (Mk Mks fkN arE fork_any rfork_any two_boxes)

def ptB (ms : List Mk) (last : Int) (ns : List Mk) (lst : Int) : Bool := decide (arE ms last ns lst = 0) && decide (fkN ms last ns lst < last)
def ptN (ms : List Mk) (last : Int) (ns : List Mk) (lst : Int) : Int := if arE ms last ns lst = 0 then fkN ms last ns lst else 0
set_option maxRecDepth 100000 in
set_option maxHeartbeats 4000000 in
theorem point_any (a a' : Option Addr) (n n' c c' : Nat) (ms ns : List Mk) (last lst : Int) (hn : n = ms.length) (hn' : n' = ns.length) (w : World) (h : Mks w a c ms) (h' : Mks w a' c' ns) : Calls Tryz.prog 26 #[.agg #[.slice a n c, .int .i64 last], .agg #[.slice a' n' c', .int .i64 lst]] w fun e w' => e = .returned (.tuple #[.int .i64 (ptN ms last ns lst), .bool (ptB ms last ns lst), .int .i64 (arE ms last ns lst)]) ∧ Fr (fun _ => False) w w' := by
  obtain ⟨T1, T2, F1⟩ := two_boxes w 67 (.slice a n c) (.int .i64 last) (.slice a' n' c') (.int .i64 lst)
  have hfk := fork_any a a' n n' c c' ms ns last lst hn hn' _ (h.same F1) (h'.same F1)
  obtain ⟨x0, x1, _⟩ := T1.cells
  obtain ⟨y0, y1, _⟩ := T2.cells
  have HT1 : Hid (∀ W, Fr (fun _ => False) ((w.alloc (.cells #[.slice a n c, .int .i64 last] 67)).alloc (.cells #[.slice a' n' c', .int .i64 lst] 67)) W → Ln.Two W w.heap.size 67 (.slice a n c) (.int .i64 last)) := fun W f => T1.fr f (fun f => f)
  have HF1 : Hid (Fr (fun _ => False) w ((w.alloc (.cells #[.slice a n c, .int .i64 last] 67)).alloc (.cells #[.slice a' n' c', .int .i64 lst] 67))) := F1
  unfold ptN ptB
  generalize fkN ms last ns lst = fk at *
  generalize arE ms last ns lst = ae at *
  clear h h' hn hn' T1 T2 F1
  by_cases g : ae = 0
  · subst g
    rw [if_pos rfl, show (decide ((0 : Int) = 0) && decide (fk < last)) = decide (fk < last) by simp]
    go_enter Tryz.func26, Tryz.ntmps26
    go_wp2_with fail
    generalize ((w.alloc (.cells #[.slice a n c, .int .i64 last] 67)).alloc (.cells #[.slice a' n' c', .int .i64 lst] 67)) = V at *
    refine hfk.mono ?_
    rintro e w1 ⟨rfl, f1⟩
    clear hfk x0 x1 y0 y1
    obtain ⟨x0, x1, _⟩ := (HT1.out _ f1).cells
    go_wp2
    go_quiet (fail)
    go_wp2
    refine bodyPost_ret (v := .tuple #[.int .i64 fk, .bool (decide (fk < last)), .int .i64 0]) (by simp [results, Tryz.results26, go_sem]) rfl ?_
    exact ⟨rfl, (HF1.out.seq' f1).drewN _⟩
  · rw [if_neg g, show (decide (ae = 0) && decide (fk < last)) = false by simp [g]]
    have g1 : (ae == 0) = false := by simpa using g
    have g2 : (ae != 0) = true := by simpa using g
    clear g
    go_enter Tryz.func26, Tryz.ntmps26
    go_wp2_with fail
    refine hfk.mono ?_
    rintro e w1 ⟨rfl, f1⟩
    clear hfk
    go_wp2
    refine bodyPost_ret (v := .tuple #[.int .i64 0, .bool false, .int .i64 ae]) (by simp [results, Tryz.results26, go_sem]) rfl ?_
    exact ⟨rfl, HF1.out.seq' f1⟩
set_option maxRecDepth 100000 in
set_option maxHeartbeats 4000000 in
theorem rpoint_any (a a' : Option Addr) (n n' c c' : Nat) (ms ns : List Mk) (last lst : Int) (hn : n = ms.length) (hn' : n' = ns.length) (w : World) (h : Mks w a c ms) (h' : Mks w a' c' ns) : Calls Tryz.prog 27 #[.agg #[.slice a n c, .int .i64 last], .agg #[.slice a' n' c', .int .i64 lst]] w fun e w' => e = .returned (.tuple #[.int .i64 (ptN ms last ns lst), .bool (ptB ms last ns lst), .int .i64 (arE ms last ns lst)]) ∧ Fr (fun _ => False) w w' := by
  obtain ⟨T1, T2, F1⟩ := two_boxes w 72 (.slice a n c) (.int .i64 last) (.slice a' n' c') (.int .i64 lst)
  have hfk := rfork_any a a' n n' c c' ms ns last lst hn hn' _ (h.same F1) (h'.same F1)
  obtain ⟨x0, x1, _⟩ := T1.cells
  obtain ⟨y0, y1, _⟩ := T2.cells
  have HT1 : Hid (∀ W, Fr (fun _ => False) ((w.alloc (.cells #[.slice a n c, .int .i64 last] 72)).alloc (.cells #[.slice a' n' c', .int .i64 lst] 72)) W → Ln.Two W w.heap.size 72 (.slice a n c) (.int .i64 last)) := fun W f => T1.fr f (fun f => f)
  have HF1 : Hid (Fr (fun _ => False) w ((w.alloc (.cells #[.slice a n c, .int .i64 last] 72)).alloc (.cells #[.slice a' n' c', .int .i64 lst] 72))) := F1
  unfold ptN ptB
  generalize fkN ms last ns lst = fk at *
  generalize arE ms last ns lst = ae at *
  clear h h' hn hn' T1 T2 F1
  by_cases g : ae = 0
  · subst g
    rw [if_pos rfl, show (decide ((0 : Int) = 0) && decide (fk < last)) = decide (fk < last) by simp]
    go_enter Tryz.func27, Tryz.ntmps27
    go_wp2_with fail
    generalize ((w.alloc (.cells #[.slice a n c, .int .i64 last] 72)).alloc (.cells #[.slice a' n' c', .int .i64 lst] 72)) = V at *
    refine hfk.mono ?_
    rintro e w1 ⟨rfl, f1⟩
    clear hfk x0 x1 y0 y1
    obtain ⟨x0, x1, _⟩ := (HT1.out _ f1).cells
    go_wp2
    go_quiet (fail)
    go_wp2
    refine bodyPost_ret (v := .tuple #[.int .i64 fk, .bool (decide (fk < last)), .int .i64 0]) (by simp [results, Tryz.results27, go_sem]) rfl ?_
    exact ⟨rfl, (HF1.out.seq' f1).drewN _⟩
  · rw [if_neg g, show (decide (ae = 0) && decide (fk < last)) = false by simp [g]]
    have g1 : (ae == 0) = false := by simpa using g
    have g2 : (ae != 0) = true := by simpa using g
    clear g
    go_enter Tryz.func27, Tryz.ntmps27
    go_wp2_with fail
    refine hfk.mono ?_
    rintro e w1 ⟨rfl, f1⟩
    clear hfk
    go_wp2
    refine bodyPost_ret (v := .tuple #[.int .i64 0, .bool false, .int .i64 ae]) (by simp [results, Tryz.results27, go_sem]) rfl ?_
    exact ⟨rfl, HF1.out.seq' f1⟩
end Go.Proofs.YtihkdffihmhnaaaGreat
