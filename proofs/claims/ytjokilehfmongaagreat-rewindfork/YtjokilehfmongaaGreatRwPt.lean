
/- Where two logs part. -/
import Derived.Test.YtjokilehfmongaaGreatLnAll
namespace Go.Proofs.YtjokilehfmongaaGreat
open Go.RowKit
open Go.Proofs.YtjokilehfmongaaGreat.Ln (Mk Mks fkN arE fork_any rfork_any two_boxes)

def ptB (ms : List Mk) (last : Int) (ns : List Mk) (lst : Int) : Bool := decide (arE ms last ns lst = 0) && decide (fkN ms last ns lst < last)
def ptN (ms : List Mk) (last : Int) (ns : List Mk) (lst : Int) : Int := if arE ms last ns lst = 0 then fkN ms last ns lst else 0
set_option maxRecDepth 100000 in
set_option maxHeartbeats 4000000 in
theorem point_any (a a' : Option Addr) (n n' c c' : Nat) (ms ns : List Mk) (last lst : Int) (hn : n = ms.length) (hn' : n' = ns.length) (w : World) (h : Mks w a c ms) (h' : Mks w a' c' ns) : Calls Tryz.prog 9 #[.agg #[.slice a n c, .int .i64 last], .agg #[.slice a' n' c', .int .i64 lst]] w fun e w' => e = .returned (.tuple #[.int .i64 (ptN ms last ns lst), .bool (ptB ms last ns lst), .int .i64 (arE ms last ns lst)]) ∧ Fr (fun _ => False) w w' := by
  obtain ⟨T1, T2, F1⟩ := two_boxes w 24 (.slice a n c) (.int .i64 last) (.slice a' n' c') (.int .i64 lst)
  have hfk := fork_any a a' n n' c c' ms ns last lst hn hn' _ (h.same F1) (h'.same F1)
  obtain ⟨x0, x1, _⟩ := T1.cells
  obtain ⟨y0, y1, _⟩ := T2.cells
  have HT1 : Hid (∀ W, Fr (fun _ => False) ((w.alloc (.cells #[.slice a n c, .int .i64 last] 24)).alloc (.cells #[.slice a' n' c', .int .i64 lst] 24)) W → Ln.Two W w.heap.size 24 (.slice a n c) (.int .i64 last)) := fun W f => T1.fr f (fun f => f)
  have HF1 : Hid (Fr (fun _ => False) w ((w.alloc (.cells #[.slice a n c, .int .i64 last] 24)).alloc (.cells #[.slice a' n' c', .int .i64 lst] 24))) := F1
  unfold ptN ptB
  generalize fkN ms last ns lst = fk at *
  generalize arE ms last ns lst = ae at *
  clear h h' hn hn' T1 T2 F1
  by_cases g : ae = 0
  · subst g
    rw [if_pos rfl, show (decide ((0 : Int) = 0) && decide (fk < last)) = decide (fk < last) by simp]
    go_enter Tryz.func9, Tryz.ntmps9
    go_wp2_with fail
    generalize ((w.alloc (.cells #[.slice a n c, .int .i64 last] 24)).alloc (.cells #[.slice a' n' c', .int .i64 lst] 24)) = V at *
    refine hfk.mono ?_
    rintro e w1 ⟨rfl, f1⟩
    clear hfk x0 x1 y0 y1
    obtain ⟨x0, x1, _⟩ := (HT1.out _ f1).cells
    go_wp2
    go_quiet (fail)
    go_wp2
    refine bodyPost_ret (v := .tuple #[.int .i64 fk, .bool (decide (fk < last)), .int .i64 0]) (by simp [results, Tryz.results9, go_sem]) rfl ?_
    exact ⟨rfl, (HF1.out.seq' f1).drewN _⟩
  · rw [if_neg g, show (decide (ae = 0) && decide (fk < last)) = false by simp [g]]
    have g1 : (ae == 0) = false := by simpa using g
    have g2 : (ae != 0) = true := by simpa using g
    clear g
    go_enter Tryz.func9, Tryz.ntmps9
    go_wp2_with fail
    refine hfk.mono ?_
    rintro e w1 ⟨rfl, f1⟩
    clear hfk
    go_wp2
    refine bodyPost_ret (v := .tuple #[.int .i64 0, .bool false, .int .i64 ae]) (by simp [results, Tryz.results9, go_sem]) rfl ?_
    exact ⟨rfl, HF1.out.seq' f1⟩
set_option maxRecDepth 100000 in
set_option maxHeartbeats 4000000 in
theorem rpoint_any (a a' : Option Addr) (n n' c c' : Nat) (ms ns : List Mk) (last lst : Int) (hn : n = ms.length) (hn' : n' = ns.length) (w : World) (h : Mks w a c ms) (h' : Mks w a' c' ns) : Calls Tryz.prog 10 #[.agg #[.slice a n c, .int .i64 last], .agg #[.slice a' n' c', .int .i64 lst]] w fun e w' => e = .returned (.tuple #[.int .i64 (ptN ms last ns lst), .bool (ptB ms last ns lst), .int .i64 (arE ms last ns lst)]) ∧ Fr (fun _ => False) w w' := by
  obtain ⟨T1, T2, F1⟩ := two_boxes w 30 (.slice a n c) (.int .i64 last) (.slice a' n' c') (.int .i64 lst)
  have hfk := rfork_any a a' n n' c c' ms ns last lst hn hn' _ (h.same F1) (h'.same F1)
  obtain ⟨x0, x1, _⟩ := T1.cells
  obtain ⟨y0, y1, _⟩ := T2.cells
  have HT1 : Hid (∀ W, Fr (fun _ => False) ((w.alloc (.cells #[.slice a n c, .int .i64 last] 30)).alloc (.cells #[.slice a' n' c', .int .i64 lst] 30)) W → Ln.Two W w.heap.size 30 (.slice a n c) (.int .i64 last)) := fun W f => T1.fr f (fun f => f)
  have HF1 : Hid (Fr (fun _ => False) w ((w.alloc (.cells #[.slice a n c, .int .i64 last] 30)).alloc (.cells #[.slice a' n' c', .int .i64 lst] 30))) := F1
  unfold ptN ptB
  generalize fkN ms last ns lst = fk at *
  generalize arE ms last ns lst = ae at *
  clear h h' hn hn' T1 T2 F1
  by_cases g : ae = 0
  · subst g
    rw [if_pos rfl, show (decide ((0 : Int) = 0) && decide (fk < last)) = decide (fk < last) by simp]
    go_enter Tryz.func10, Tryz.ntmps10
    go_wp2_with fail
    generalize ((w.alloc (.cells #[.slice a n c, .int .i64 last] 30)).alloc (.cells #[.slice a' n' c', .int .i64 lst] 30)) = V at *
    refine hfk.mono ?_
    rintro e w1 ⟨rfl, f1⟩
    clear hfk x0 x1 y0 y1
    obtain ⟨x0, x1, _⟩ := (HT1.out _ f1).cells
    go_wp2
    go_quiet (fail)
    go_wp2
    refine bodyPost_ret (v := .tuple #[.int .i64 fk, .bool (decide (fk < last)), .int .i64 0]) (by simp [results, Tryz.results10, go_sem]) rfl ?_
    exact ⟨rfl, (HF1.out.seq' f1).drewN _⟩
  · rw [if_neg g, show (decide (ae = 0) && decide (fk < last)) = false by simp [g]]
    have g1 : (ae == 0) = false := by simpa using g
    have g2 : (ae != 0) = true := by simpa using g
    clear g
    go_enter Tryz.func10, Tryz.ntmps10
    go_wp2_with fail
    refine hfk.mono ?_
    rintro e w1 ⟨rfl, f1⟩
    clear hfk
    go_wp2
    refine bodyPost_ret (v := .tuple #[.int .i64 0, .bool false, .int .i64 ae]) (by simp [results, Tryz.results10, go_sem]) rfl ?_
    exact ⟨rfl, HF1.out.seq' f1⟩
end Go.Proofs.YtjokilehfmongaaGreat
