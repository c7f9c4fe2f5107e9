
/- Where two timelines part: Fork. -/
import Derived.Test.YtphfngboddnbmaaLnFork
import Derived.Deep.RegionHeld3
namespace Go.Proofs.Ytphfngboddnbmaa
open Go.RowKit
open Go.Proofs.Ytphfngboddnbmaa.Ln

theorem arE_no {ms : List Mk} {last : Int} {ns : List Mk} {lst : Int} (h : (linB ms last && linB ns lst) = false) : arE ms last ns lst = 4 ∧ fkN ms last ns lst = 0 := by
  unfold arE fkN; rw [h]; exact ⟨rfl, rfl⟩
theorem arE_yes {ms : List Mk} {last : Int} {ns : List Mk} {lst : Int} (h : (linB ms last && linB ns lst) = true) : arE ms last ns lst = 0 ∧ fkN ms last ns lst = forkF ms ns last lst := by
  unfold arE fkN; rw [h]; exact ⟨rfl, rfl⟩
theorem both_right {ms : List Mk} {last : Int} {ns : List Mk} {lst : Int} (h : (linB ms last && linB ns lst) = true) : Right ms last ∧ Right ns lst := by
  rw [Bool.and_eq_true] at h
  exact ⟨linB_right h.1, linB_right h.2⟩
theorem two_boxes (w : World) (t : TypeId) (x y u v : Value) : Two ((w.alloc (.cells #[x, y] t)).alloc (.cells #[u, v] t)) w.heap.size t x y ∧ Two ((w.alloc (.cells #[x, y] t)).alloc (.cells #[u, v] t)) (w.heap.size + 1) t u v ∧ Fr (fun _ => False) w ((w.alloc (.cells #[x, y] t)).alloc (.cells #[u, v] t)) := by
  refine ⟨(Two.new w _ _ _).fr (Fr.box _ _) (fun f => f), ?_, (Fr.box _ _).alloc _⟩
  have := Two.new (w.alloc (.cells #[x, y] t)) t u v
  rwa [World.size_alloc] at this
set_option maxRecDepth 100000 in
set_option maxHeartbeats 4000000 in
theorem fork_any (a a' : Option Addr) (n n' c c' : Nat) (ms ns : List Mk) (last lst : Int) (hn : n = ms.length) (hn' : n' = ns.length) (w : World) (h : Mks w a c ms) (h' : Mks w a' c' ns) : Calls Try.prog 10 #[.agg #[.slice a n c, .int .i64 last], .agg #[.slice a' n' c', .int .i64 lst]] w fun e w' => e = .returned (.tuple #[.int .i64 (fkN ms last ns lst), .int .i64 (arE ms last ns lst)]) ∧ Fr (fun _ => False) w w' := by
  subst hn
  subst hn'
  obtain ⟨T1, T2, F1⟩ := two_boxes w 24 (.slice a ms.length c) (.int .i64 last) (.slice a' ns.length c') (.int .i64 lst)
  have har := areRight_any a a' ms.length ns.length c c' ms ns last lst rfl rfl _ (h.same F1) (h'.same F1)
  obtain ⟨x0, x1, _⟩ := T1.cells
  obtain ⟨y0, y1, _⟩ := T2.cells
  cases cl : (linB ms last && linB ns lst)
  · obtain ⟨e1, e2⟩ := arE_no cl
    rw [e1] at har ⊢
    rw [e2]
    clear cl e1 e2 h h' T1 T2
    go_enter Try.func10, Try.ntmps10
    go_wp2_with fail
    refine har.mono ?_
    rintro e w1 ⟨rfl, f1⟩
    go_wp2
    go_ret2
    exact ⟨rfl, F1.seq' f1⟩
  · obtain ⟨e1, e2⟩ := arE_yes cl
    obtain ⟨R1, R2⟩ := both_right cl
    rw [e1] at har ⊢
    rw [e2]
    have HA1 : Hid (∀ W, Fr (fun _ => False) w W → Mks W a c ms) := fun W f => h.same f
    have HA2 : Hid (∀ W, Fr (fun _ => False) w W → Mks W a' c' ns) := fun W f => h'.same f
    have HR1 : Hid (Right ms last) := R1
    have HR2 : Hid (Right ns lst) := R2
    have l1 := right_len R1
    have l2 := right_len R2
    have hcx := h.max
    have hcx' := h'.max
    have HT1 : Hid (∀ W, Fr (fun _ => False) ((w.alloc (.cells #[.slice a ms.length c, .int .i64 last] 24)).alloc (.cells #[.slice a' ns.length c', .int .i64 lst] 24)) W → Two W w.heap.size 24 (.slice a ms.length c) (.int .i64 last) ∧ Two W (w.heap.size + 1) 24 (.slice a' ns.length c') (.int .i64 lst)) := fun W f => ⟨T1.fr f (fun f => f), T2.fr f (fun f => f)⟩
    obtain ⟨M, hM, hM1, hM2, hM3⟩ : ∃ M : Nat, (if ns.length < ms.length then (ns.length : Int) else (ms.length : Int)) = (M : Int) ∧ M ≤ ms.length ∧ M ≤ ns.length ∧ (M = ms.length ∨ M = ns.length) := ⟨min ms.length ns.length, by split <;> omega, by omega, by omega, by omega⟩
    have HM3 : Hid (M = ms.length ∨ M = ns.length) := hM3
    clear cl e1 e2 h h' T1 T2 R1 R2 hM3
    go_enter Try.func10, Try.ntmps10
    go_wp2_with fail
    generalize ((w.alloc (.cells #[.slice a ms.length c, .int .i64 last] 24)).alloc (.cells #[.slice a' ns.length c', .int .i64 lst] 24)) = V at *
    refine har.mono ?_
    rintro e w1 ⟨rfl, f1⟩
    clear har x0 x1 y0 y1
    go_wp2
    go_loopw [7] (fun i wr => ∃ (k : Nat), k ≤ M ∧ i = .int .i64 k ∧ Hid (shN ms ns = k + shN (ms.drop k) (ns.drop k)) ∧ Hid (Fr (fun _ => False) V wr)) (fun i _ => M - (intOf i).toNat)
    case atStart => exact ⟨0, by omega, rfl, by show _ = _; simp, f1⟩
    case round =>
      obtain ⟨k, hk, rfl, HE, HF⟩ := hrel
      have FW := F1.seq' HF.out
      obtain ⟨T1, T2⟩ := HT1.out _ HF.out
      obtain ⟨x0, x1, _⟩ := T1.cells
      obtain ⟨y0, y1, _⟩ := T2.cells
      have fin : Hid (shN ms ns = k) → Hid (∀ (W : World), Fr (fun _ => False) V W → Calls Try.prog 27 #[.agg #[.slice a ms.length c, .int .i64 last], .int .i64 k] W fun e w' => e = .returned (.int .i64 (ahF ms last k)) ∧ Fr (fun _ => False) W w') := fun _ W f => aheadOf_any a ms.length c ms last k rfl (by omega) HR1.out W (HA1.out _ (F1.seq' f))
      have fin2 : Hid (shN ms ns = k) → Hid (∀ (W : World), Fr (fun _ => False) V W → Calls Try.prog 27 #[.agg #[.slice a' ns.length c', .int .i64 lst], .int .i64 k] W fun e w' => e = .returned (.int .i64 (ahF ns lst k)) ∧ Fr (fun _ => False) W w') := fun _ W f => aheadOf_any a' ns.length c' ns lst k rfl (by omega) HR2.out W (HA2.out _ (F1.seq' f))
      by_cases hlt : k < M
      · obtain ⟨m, hm⟩ : ∃ m, ms[k]? = some m := ⟨_, List.getElem?_eq_getElem (by omega)⟩
        obtain ⟨m', hm'⟩ : ∃ m, ns[k]? = some m := ⟨_, List.getElem?_eq_getElem (by omega)⟩
        obtain ⟨b, off, rfl, hb, hc⟩ := (HA1.out _ FW).some (by omega)
        obtain ⟨b', off', rfl, hb', hc'⟩ := (HA2.out _ FW).some (by omega)
        obtain ⟨q0, q1⟩ := mk_range (hc k m hm)
        obtain ⟨p0, p1⟩ := mk_range (hc' k m' hm')
        have HSH : Hid (shN (ms.drop k) (ns.drop k) = if m = m' then shN (ms.drop (k + 1)) (ns.drop (k + 1)) + 1 else 0) := shN_drop hm hm'
        have hki : (k : Int) < (ms.length : Int) := by omega
        have hki' : (k : Int) < (ns.length : Int) := by omega
        have hkM : (k : Int) < (M : Int) := by omega
        have heq := eql_mk m.1 m.2 m'.1 m'.2
        clear hm hm' hc hc'
        by_cases hq : m = m'
        · have d0 : decide ((m.1, m.2) = (m'.1, m'.2)) = true := decide_eq_true hq
          rw [d0] at heq
          have HN : Hid (shN ms ns = (k + 1) + shN (ms.drop (k + 1)) (ns.drop (k + 1))) := by
            show _ = _
            rw [HE.out, HSH.out, if_pos hq]; omega
          clear hq d0 HSH HE fin fin2
          go_wp2_with fail
          go_quiet (fail)
          go_wp2
          go_roundw
          case rel => exact ⟨k + 1, by omega, by go_num, HN, Fr.drewN HF.out _⟩
          case measure => simp [intOf]; omega
        · have d0 : decide ((m.1, m.2) = (m'.1, m'.2)) = false := decide_eq_false hq
          rw [d0] at heq
          have HS : Hid (shN ms ns = k) := by
            show _ = _
            rw [HE.out, HSH.out, if_neg hq]; rfl
          clear hq d0 HSH
          have QA := (fin HS).out
          have QB := (fin2 HS).out
          have HFK : Hid (forkF ms ns last lst = if ahF ns lst k < ahF ms last k then ahF ns lst k else ahF ms last k) := by
            show _ = _
            unfold forkF
            rw [HS.out]
            split <;> omega
          generalize ahF ms last k = A at *
          generalize ahF ns lst k = B at *
          obtain ⟨C, hC⟩ : ∃ C : Int, (if B < A then B else A) = C := ⟨_, rfl⟩
          rw [hC] at HFK
          clear HE fin fin2 HS
          go_wp2_with fail
          go_quiet (fail)
          go_wp2_with fail
          have F2 : Fr (fun _ => False) V (wr.drewN nq).drew := (Fr.drewN HF.out _).drew
          have HQ : Hid (∀ W, Fr (fun _ => False) V W → (W.cell? ⟨w.heap.size, 0, none⟩ = some (.slice (some ⟨b, off, none⟩) ms.length c) ∧ W.cell? ⟨w.heap.size, 1, none⟩ = some (.int .i64 last)) ∧ W.cell? ⟨w.heap.size + 1, 0, none⟩ = some (.slice (some ⟨b', off', none⟩) ns.length c') ∧ W.cell? ⟨w.heap.size + 1, 1, none⟩ = some (.int .i64 lst)) := fun W f => ⟨⟨(HT1.out _ f).1.cells.1, (HT1.out _ f).1.cells.2.1⟩, (HT1.out _ f).2.cells.1, (HT1.out _ f).2.cells.2.1⟩
          have q9 := HQ.out _ F2
          have QA1 := QA _ F2
          clear x0 x1 y0 y1 T1 T2
          go_region_held3 (fun W => (W.cell? ⟨w.heap.size, 0, none⟩ = some (.slice (some ⟨b, off, none⟩) ms.length c) ∧ W.cell? ⟨w.heap.size, 1, none⟩ = some (.int .i64 last)) ∧ W.cell? ⟨w.heap.size + 1, 0, none⟩ = some (.slice (some ⟨b', off', none⟩) ns.length c') ∧ W.cell? ⟨w.heap.size + 1, 1, none⟩ = some (.int .i64 lst))
            (first | with_reducible exact q9 | with_reducible exact q8 | with_reducible exact q7 | fail)
            (first
              | (go_at_call 27; refine QA1.mono ?_; rintro e w5 ⟨rfl, f5⟩; clear QA1; have q8 := HQ.out _ (F2.seq' f5); have QB1 := QB _ (F2.seq' f5))
              | (go_at_call 27; refine QB1.mono ?_; rintro e w6 ⟨rfl, f6⟩; clear QB1; have q7 := HQ.out _ ((F2.seq' f5).seq' f6)))
          go_wp2
          go_ret2
          rw [HFK.out]
          exact ⟨rfl, F1.seq' ((F2.seq' f5).seq' f6)⟩
      · have hkM : decide ((k : Int) < (M : Int)) = false := decide_eq_false (by omega)
        have hkN : decide (k < M) = false := decide_eq_false (by omega)
        have HS : Hid (shN ms ns = k) := by
          show _ = _
          rw [HE.out, shN_end (by rcases HM3.out with h | h <;> omega)]; rfl
        clear hlt
        have QA := (fin HS).out
        have QB := (fin2 HS).out
        have HFK : Hid (forkF ms ns last lst = if ahF ns lst k < ahF ms last k then ahF ns lst k else ahF ms last k) := by
          show _ = _
          unfold forkF
          rw [HS.out]
          split <;> omega
        generalize ahF ms last k = A at *
        generalize ahF ns lst k = B at *
        obtain ⟨C, hC⟩ : ∃ C : Int, (if B < A then B else A) = C := ⟨_, rfl⟩
        rw [hC] at HFK
        clear HE fin fin2 HS
        go_wp2_with fail
        go_quiet (fail)
        go_wp2_with fail
        have F2 : Fr (fun _ => False) V (wr.drewN nq).drew := (Fr.drewN HF.out _).drew
        have HQ : Hid (∀ W, Fr (fun _ => False) V W → (W.cell? ⟨w.heap.size, 0, none⟩ = some (.slice a ms.length c) ∧ W.cell? ⟨w.heap.size, 1, none⟩ = some (.int .i64 last)) ∧ W.cell? ⟨w.heap.size + 1, 0, none⟩ = some (.slice a' ns.length c') ∧ W.cell? ⟨w.heap.size + 1, 1, none⟩ = some (.int .i64 lst)) := fun W f => ⟨⟨(HT1.out _ f).1.cells.1, (HT1.out _ f).1.cells.2.1⟩, (HT1.out _ f).2.cells.1, (HT1.out _ f).2.cells.2.1⟩
        have q9 := HQ.out _ F2
        have QA1 := QA _ F2
        clear x0 x1 y0 y1 T1 T2
        go_region_held3 (fun W => (W.cell? ⟨w.heap.size, 0, none⟩ = some (.slice a ms.length c) ∧ W.cell? ⟨w.heap.size, 1, none⟩ = some (.int .i64 last)) ∧ W.cell? ⟨w.heap.size + 1, 0, none⟩ = some (.slice a' ns.length c') ∧ W.cell? ⟨w.heap.size + 1, 1, none⟩ = some (.int .i64 lst))
            (first | with_reducible exact q9 | with_reducible exact q8 | with_reducible exact q7 | fail)
            (first
            | (go_at_call 27; refine QA1.mono ?_; rintro e w5 ⟨rfl, f5⟩; clear QA1; have q8 := HQ.out _ (F2.seq' f5); have QB1 := QB _ (F2.seq' f5))
            | (go_at_call 27; refine QB1.mono ?_; rintro e w6 ⟨rfl, f6⟩; clear QB1; have q7 := HQ.out _ ((F2.seq' f5).seq' f6)))
        go_wp2
        go_ret2
        rw [HFK.out]
        exact ⟨rfl, F1.seq' ((F2.seq' f5).seq' f6)⟩
end Go.Proofs.Ytphfngboddnbmaa
