
/- Which of two timelines is newer; the document's Fork and Newer. -/
import Derived.Test.YtphfngboddnbmaaLnFk
namespace Go.Proofs.Ytphfngboddnbmaa
open Go.RowKit
open Go.Proofs.Ytphfngboddnbmaa.Ln

def nwB (ms : List Mk) (last : Int) (ns : List Mk) (lst : Int) : Bool := if linB ms last && linB ns lst then newB ms ns last lst else false
theorem nwB_no {ms : List Mk} {last : Int} {ns : List Mk} {lst : Int} (h : (linB ms last && linB ns lst) = false) : nwB ms last ns lst = false := by unfold nwB; rw [h]; rfl
theorem nwB_yes {ms : List Mk} {last : Int} {ns : List Mk} {lst : Int} (h : (linB ms last && linB ns lst) = true) : nwB ms last ns lst = newB ms ns last lst := by unfold nwB; rw [h]; rfl
theorem new_cases {ms ns : List Mk} {last lst x y : Int} (hx : epF ms last = x) (hy : epF ns lst = y) : ∃ d1 d2 d3 : Bool, decide (y < x) = d1 ∧ (x == y) = d2 ∧ decide (lst < last) = d3 ∧ newB ms ns last lst = (d1 || (d2 && d3)) := by
  refine ⟨_, _, _, rfl, rfl, rfl, ?_⟩
  unfold newB
  rw [hx, hy, show (x == y) = decide (x = y) from rfl]
set_option maxRecDepth 100000 in
set_option maxHeartbeats 4000000 in
theorem newer_any (a a' : Option Addr) (n n' c c' : Nat) (ms ns : List Mk) (last lst : Int) (hn : n = ms.length) (hn' : n' = ns.length) (w : World) (h : Mks w a c ms) (h' : Mks w a' c' ns) : Calls Try.prog 12 #[.agg #[.slice a n c, .int .i64 last], .agg #[.slice a' n' c', .int .i64 lst]] w fun e w' => e = .returned (.tuple #[.bool (nwB ms last ns lst), .int .i64 (arE ms last ns lst)]) ∧ Fr (fun _ => False) w w' := by
  subst hn
  subst hn'
  obtain ⟨T1, T2, F1⟩ := two_boxes w 24 (.slice a ms.length c) (.int .i64 last) (.slice a' ns.length c') (.int .i64 lst)
  have har := areRight_any a a' ms.length ns.length c c' ms ns last lst rfl rfl _ (h.same F1) (h'.same F1)
  obtain ⟨x0, x1, _⟩ := T1.cells
  obtain ⟨y0, y1, _⟩ := T2.cells
  cases cl : (linB ms last && linB ns lst)
  · rw [(arE_no cl).1] at har ⊢
    rw [nwB_no cl]
    clear cl h h' T1 T2
    go_enter Try.func12, Try.ntmps12
    go_wp2_with fail
    refine har.mono ?_
    rintro e w1 ⟨rfl, f1⟩
    go_wp2
    go_ret2
    exact ⟨rfl, F1.seq' f1⟩
  · obtain ⟨R1, R2⟩ := both_right cl
    rw [(arE_yes cl).1] at har ⊢
    rw [nwB_yes cl]
    have HA1 : Hid (∀ W, Fr (fun _ => False) w W → Calls Try.prog 24 #[.agg #[.slice a ms.length c, .int .i64 last], .int .i64 last] W fun e w' => e = .returned (.int .i64 (epF ms last)) ∧ Fr (fun _ => False) W w') := fun W f => epochAt_any a ms.length c ms last last rfl R1 R1.last0 R1.last1 W (h.same f)
    have HA2 : Hid (∀ W, Fr (fun _ => False) w W → Calls Try.prog 24 #[.agg #[.slice a' ns.length c', .int .i64 lst], .int .i64 lst] W fun e w' => e = .returned (.int .i64 (epF ns lst)) ∧ Fr (fun _ => False) W w') := fun W f => epochAt_any a' ns.length c' ns lst lst rfl R2 R2.last0 R2.last1 W (h'.same f)
    obtain ⟨x, hx⟩ : ∃ x, epF ms last = x := ⟨_, rfl⟩
    obtain ⟨y, hy⟩ : ∃ y, epF ns lst = y := ⟨_, rfl⟩
    obtain ⟨d1, d2, d3, k1, k2, k3, k4⟩ := new_cases hx hy
    rw [hx] at HA1
    rw [hy] at HA2
    rw [k4]
    clear hx hy k4
    have HT1 : Hid (∀ W, Fr (fun _ => False) ((w.alloc (.cells #[.slice a ms.length c, .int .i64 last] 24)).alloc (.cells #[.slice a' ns.length c', .int .i64 lst] 24)) W → (W.cell? ⟨w.heap.size, 0, none⟩ = some (.slice a ms.length c) ∧ W.cell? ⟨w.heap.size, 1, none⟩ = some (.int .i64 last)) ∧ W.cell? ⟨w.heap.size + 1, 0, none⟩ = some (.slice a' ns.length c') ∧ W.cell? ⟨w.heap.size + 1, 1, none⟩ = some (.int .i64 lst)) := fun W f => ⟨⟨(T1.fr f (fun f => f)).cells.1, (T1.fr f (fun f => f)).cells.2.1⟩, (T2.fr f (fun f => f)).cells.1, (T2.fr f (fun f => f)).cells.2.1⟩
    clear cl h h' T1 T2 R1 R2
    go_enter Try.func12, Try.ntmps12
    go_wp2_with fail
    generalize ((w.alloc (.cells #[.slice a ms.length c, .int .i64 last] 24)).alloc (.cells #[.slice a' ns.length c', .int .i64 lst] 24)) = V at *
    refine har.mono ?_
    rintro e w1 ⟨rfl, f1⟩
    clear har x0 x1 y0 y1
    go_wp2_with fail
    have f2 : Fr (fun _ => False) V w1.drew := f1.drew
    have q9 := HT1.out _ f2
    have QA1 := HA1.out _ (F1.seq' f2)
    go_region_held3 (fun W => (W.cell? ⟨w.heap.size, 0, none⟩ = some (.slice a ms.length c) ∧ W.cell? ⟨w.heap.size, 1, none⟩ = some (.int .i64 last)) ∧ W.cell? ⟨w.heap.size + 1, 0, none⟩ = some (.slice a' ns.length c') ∧ W.cell? ⟨w.heap.size + 1, 1, none⟩ = some (.int .i64 lst))
      (first | with_reducible exact q9 | with_reducible exact q8 | with_reducible exact q7 | fail)
      (first
        | (go_at_call 24; refine QA1.mono ?_; rintro e w5 ⟨rfl, f5⟩; clear QA1; have q8 := HT1.out _ (f2.seq' f5); have QB1 := HA2.out _ (F1.seq' (f2.seq' f5)))
        | (go_at_call 24; refine QB1.mono ?_; rintro e w6 ⟨rfl, f6⟩; clear QB1; have q7 := HT1.out _ ((f2.seq' f5).seq' f6)))
    obtain ⟨⟨x0, x1⟩, y0, y1⟩ := q7
    have FE := F1.seq' ((f2.seq' f5).seq' f6)
    clear q8 q9 f2 f5 f6
    cases d1
    · cases d2
      · go_wp2
        go_ret2
        exact ⟨rfl, FE⟩
      · go_wp2
        go_ret2
        exact ⟨rfl, FE⟩
    · go_wp2
      go_ret2
      exact ⟨rfl, FE⟩
set_option maxRecDepth 100000 in
set_option maxHeartbeats 4000000 in
theorem rnewer_any (a a' : Option Addr) (n n' c c' : Nat) (ms ns : List Mk) (last lst : Int) (hn : n = ms.length) (hn' : n' = ns.length) (w : World) (h : Mks w a c ms) (h' : Mks w a' c' ns) : Calls Try.prog 13 #[.agg #[.slice a n c, .int .i64 last], .agg #[.slice a' n' c', .int .i64 lst]] w fun e w' => e = .returned (.tuple #[.bool (nwB ms last ns lst), .int .i64 (arE ms last ns lst)]) ∧ Fr (fun _ => False) w w' := by
  subst hn
  subst hn'
  obtain ⟨T1, T2, F1⟩ := two_boxes w 30 (.slice a ms.length c) (.int .i64 last) (.slice a' ns.length c') (.int .i64 lst)
  have hra := rright_any a ms.length c ms last rfl _ (h.same F1)
  have hrb := fun W (f : Fr (fun _ => False) w W) => rright_any a' ns.length c' ns lst rfl W (h'.same f)
  obtain ⟨x0, x1, _⟩ := T1.cells
  obtain ⟨y0, y1, _⟩ := T2.cells
  have HT1 : Hid (∀ W, Fr (fun _ => False) ((w.alloc (.cells #[.slice a ms.length c, .int .i64 last] 30)).alloc (.cells #[.slice a' ns.length c', .int .i64 lst] 30)) W → (W.cell? ⟨w.heap.size, 0, none⟩ = some (.slice a ms.length c) ∧ W.cell? ⟨w.heap.size, 1, none⟩ = some (.int .i64 last)) ∧ W.cell? ⟨w.heap.size + 1, 0, none⟩ = some (.slice a' ns.length c') ∧ W.cell? ⟨w.heap.size + 1, 1, none⟩ = some (.int .i64 lst)) := fun W f => ⟨⟨(T1.fr f (fun f => f)).cells.1, (T1.fr f (fun f => f)).cells.2.1⟩, (T2.fr f (fun f => f)).cells.1, (T2.fr f (fun f => f)).cells.2.1⟩
  cases c1 : linB ms last
  · have cl : (linB ms last && linB ns lst) = false := by rw [c1]; rfl
    rw [(arE_no cl).1, nwB_no cl]
    rw [c1] at hra
    clear cl h h' T1 T2 c1 hrb
    go_enter Try.func13, Try.ntmps13
    go_wp2_with fail
    refine hra.mono ?_
    rintro e w1 ⟨rfl, f1⟩
    go_wp2
    go_ret2
    exact ⟨rfl, F1.seq' f1⟩
  · rw [c1] at hra
    cases c2 : linB ns lst
    · have cl : (linB ms last && linB ns lst) = false := by rw [c1, c2]; rfl
      rw [(arE_no cl).1, nwB_no cl]
      rw [c2] at hrb
      clear cl h h' T1 T2 c1 c2
      go_enter Try.func13, Try.ntmps13
      go_wp2_with fail
      generalize ((w.alloc (.cells #[.slice a ms.length c, .int .i64 last] 30)).alloc (.cells #[.slice a' ns.length c', .int .i64 lst] 30)) = V at *
      refine hra.mono ?_
      rintro e w1 ⟨rfl, f1⟩
      obtain ⟨⟨x0, x1⟩, y0, y1⟩ := HT1.out _ f1
      go_wp2_with fail
      refine (hrb _ (F1.seq' f1)).mono ?_
      rintro e w2 ⟨rfl, f2⟩
      go_wp2
      go_ret2
      exact ⟨rfl, (F1.seq' f1).seq' f2⟩
    · have cl : (linB ms last && linB ns lst) = true := by rw [c1, c2]; rfl
      rw [(arE_yes cl).1, nwB_yes cl]
      rw [c2] at hrb
      have HA1 : Hid (∀ W, Fr (fun _ => False) w W → Calls Try.prog 25 #[.agg #[.slice a ms.length c, .int .i64 last], .int .i64 last] W fun e w' => e = .returned (.int .i64 (epF ms last)) ∧ Fr (fun _ => False) W w') := fun W f => repoch_any a ms.length c ms last last rfl W (h.same f)
      have HA2 : Hid (∀ W, Fr (fun _ => False) w W → Calls Try.prog 25 #[.agg #[.slice a' ns.length c', .int .i64 lst], .int .i64 lst] W fun e w' => e = .returned (.int .i64 (epF ns lst)) ∧ Fr (fun _ => False) W w') := fun W f => repoch_any a' ns.length c' ns lst lst rfl W (h'.same f)
      obtain ⟨x, hx⟩ : ∃ x, epF ms last = x := ⟨_, rfl⟩
      obtain ⟨y, hy⟩ : ∃ y, epF ns lst = y := ⟨_, rfl⟩
      obtain ⟨d1, d2, d3, k1, k2, k3, k4⟩ := new_cases hx hy
      rw [hx] at HA1
      rw [hy] at HA2
      rw [k4]
      clear hx hy k4 cl h h' T1 T2 c1 c2
      go_enter Try.func13, Try.ntmps13
      go_wp2_with fail
      generalize ((w.alloc (.cells #[.slice a ms.length c, .int .i64 last] 30)).alloc (.cells #[.slice a' ns.length c', .int .i64 lst] 30)) = V at *
      refine hra.mono ?_
      rintro e w1 ⟨rfl, f1⟩
      clear hra x0 x1 y0 y1
      obtain ⟨⟨x0, x1⟩, y0, y1⟩ := HT1.out _ f1
      go_wp2_with fail
      refine (hrb _ (F1.seq' f1)).mono ?_
      rintro e w2 ⟨rfl, f2⟩
      clear hrb x0 x1 y0 y1
      obtain ⟨⟨x0, x1⟩, y0, y1⟩ := HT1.out _ (f1.seq' f2)
      go_wp2_with fail
      refine (HA1.out _ ((F1.seq' f1).seq' f2)).mono ?_
      rintro e w3 ⟨rfl, f3⟩
      clear x0 x1 y0 y1
      obtain ⟨⟨x0, x1⟩, y0, y1⟩ := HT1.out _ ((f1.seq' f2).seq' f3)
      go_wp2_with fail
      refine (HA2.out _ (((F1.seq' f1).seq' f2).seq' f3)).mono ?_
      rintro e w4 ⟨rfl, f4⟩
      clear x0 x1 y0 y1
      obtain ⟨⟨x0, x1⟩, y0, y1⟩ := HT1.out _ (((f1.seq' f2).seq' f3).seq' f4)
      have FE := (((F1.seq' f1).seq' f2).seq' f3).seq' f4
      clear f1 f2 f3 f4 HA1 HA2
      cases d1
      · cases d2
        · go_wp2
          go_ret2
          exact ⟨rfl, FE⟩
        · go_wp2
          go_ret2
          exact ⟨rfl, FE⟩
      · go_wp2
        go_ret2
        exact ⟨rfl, FE⟩
end Go.Proofs.Ytphfngboddnbmaa
