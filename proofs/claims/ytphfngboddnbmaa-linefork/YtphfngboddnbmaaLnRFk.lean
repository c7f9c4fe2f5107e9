
/- The document's Fork. -/
import Derived.Test.YtphfngboddnbmaaLnNew
namespace Go.Proofs.Ytphfngboddnbmaa
open Go.RowKit
open Go.Proofs.Ytphfngboddnbmaa.Ln

theorem take_next {ms : List Mk} {k : Nat} {m : Mk} (h : ms[k]? = some m) : ms.take (k + 1) = ms.take k ++ [m] := by
  rw [List.take_succ_eq_append_getElem (List.getElem?_eq_some_iff.1 h).1, (List.getElem?_eq_some_iff.1 h).2]
set_option maxRecDepth 100000 in
set_option maxHeartbeats 8000000 in
theorem rfork_any (a a' : Option Addr) (n n' c c' : Nat) (ms ns : List Mk) (last lst : Int) (hn : n = ms.length) (hn' : n' = ns.length) (w : World) (h : Mks w a c ms) (h' : Mks w a' c' ns) : Calls Try.prog 11 #[.agg #[.slice a n c, .int .i64 last], .agg #[.slice a' n' c', .int .i64 lst]] w fun e w' => e = .returned (.tuple #[.int .i64 (fkN ms last ns lst), .int .i64 (arE ms last ns lst)]) ∧ Fr (fun _ => False) w w' := by
  subst hn
  subst hn'
  obtain ⟨T1, T2, F1⟩ := two_boxes w 30 (.slice a ms.length c) (.int .i64 last) (.slice a' ns.length c') (.int .i64 lst)
  have hra := rright_any a ms.length c ms last rfl _ (h.same F1)
  have hrb := fun W (f : Fr (fun _ => False) w W) => rright_any a' ns.length c' ns lst rfl W (h'.same f)
  obtain ⟨x0, x1, _⟩ := T1.cells
  obtain ⟨y0, y1, _⟩ := T2.cells
  have HT1 : Hid (∀ W, Fr (fun _ => False) ((w.alloc (.cells #[.slice a ms.length c, .int .i64 last] 30)).alloc (.cells #[.slice a' ns.length c', .int .i64 lst] 30)) W → (W.cell? ⟨w.heap.size, 0, none⟩ = some (.slice a ms.length c) ∧ W.cell? ⟨w.heap.size, 1, none⟩ = some (.int .i64 last)) ∧ W.cell? ⟨w.heap.size + 1, 0, none⟩ = some (.slice a' ns.length c') ∧ W.cell? ⟨w.heap.size + 1, 1, none⟩ = some (.int .i64 lst)) := fun W f => ⟨⟨(T1.fr f (fun f => f)).cells.1, (T1.fr f (fun f => f)).cells.2.1⟩, (T2.fr f (fun f => f)).cells.1, (T2.fr f (fun f => f)).cells.2.1⟩
  cases c1 : linB ms last
  · have cl : (linB ms last && linB ns lst) = false := by rw [c1]; rfl
    rw [(arE_no cl).1, (arE_no cl).2]
    rw [c1] at hra
    clear cl h h' T1 T2 c1 hrb
    go_enter Try.func11, Try.ntmps11
    go_wp2_with fail
    refine hra.mono ?_
    rintro e w1 ⟨rfl, f1⟩
    go_wp2
    go_ret2
    exact ⟨rfl, F1.seq' f1⟩
  · have HR1 : Hid (Right ms last) := linB_right c1
    rw [c1] at hra
    cases c2 : linB ns lst
    · have cl : (linB ms last && linB ns lst) = false := by rw [c1, c2]; rfl
      rw [(arE_no cl).1, (arE_no cl).2]
      rw [c2] at hrb
      clear cl h h' T1 T2 c1 c2
      go_enter Try.func11, Try.ntmps11
      go_wp2_with fail
      generalize ((w.alloc (.cells #[.slice a ms.length c, .int .i64 last] 30)).alloc (.cells #[.slice a' ns.length c', .int .i64 lst] 30)) = V at *
      refine hra.mono ?_
      rintro e w1 ⟨rfl, f1⟩
      obtain ⟨⟨x0, x1⟩, y0, y1⟩ := HT1.out _ f1
      go_wp2_with fail
      refine (hrb _ (F1.seq' f1)).mono ?_
      rintro e w2 ⟨rfl, f2⟩
      go_wp2
      go_ret2
      exact ⟨rfl, (F1.seq' f1).seq' f2⟩
    · have HR2 : Hid (Right ns lst) := linB_right c2
      have cl : (linB ms last && linB ns lst) = true := by rw [c1, c2]; rfl
      rw [(arE_yes cl).1, (arE_yes cl).2]
      rw [c2] at hrb
      have HEA : Hid (∀ x W, Fr (fun _ => False) ((w.alloc (.cells #[.slice a ms.length c, .int .i64 last] 30)).alloc (.cells #[.slice a' ns.length c', .int .i64 lst] 30)) W → Calls Try.prog 25 #[.agg #[.slice a ms.length c, .int .i64 last], .int .i64 x] W fun e w' => e = .returned (.int .i64 (epF ms x)) ∧ Fr (fun _ => False) W w') := fun x W f => repoch_any a ms.length c ms last x rfl W (h.same (F1.seq' f))
      have HEB : Hid (∀ x W, Fr (fun _ => False) ((w.alloc (.cells #[.slice a ms.length c, .int .i64 last] 30)).alloc (.cells #[.slice a' ns.length c', .int .i64 lst] 30)) W → Calls Try.prog 25 #[.agg #[.slice a' ns.length c', .int .i64 lst], .int .i64 x] W fun e w' => e = .returned (.int .i64 (epF ns x)) ∧ Fr (fun _ => False) W w') := fun x W f => repoch_any a' ns.length c' ns lst x rfl W (h'.same (F1.seq' f))
      have HM1 : Hid (∀ W, Fr (fun _ => False) ((w.alloc (.cells #[.slice a ms.length c, .int .i64 last] 30)).alloc (.cells #[.slice a' ns.length c', .int .i64 lst] 30)) W → Mks W a c ms) := fun W f => h.same (F1.seq' f)
      have HM2 : Hid (∀ W, Fr (fun _ => False) ((w.alloc (.cells #[.slice a ms.length c, .int .i64 last] 30)).alloc (.cells #[.slice a' ns.length c', .int .i64 lst] 30)) W → Mks W a' c' ns) := fun W f => h'.same (F1.seq' f)
      have l1 := right_len HR1.out
      have l2 := right_len HR2.out
      have hcx := h.max
      have hcx' := h'.max
      obtain ⟨u0, hu0⟩ : ∃ u : Int, u = (if lst < last then lst else last) := ⟨_, rfl⟩
      have HU0 : Hid (u0 = (if lst < last then lst else last)) := hu0
      clear cl h h' T1 T2 c1 c2 hu0
      go_enter Try.func11, Try.ntmps11
      go_wp2_with fail
      generalize ((w.alloc (.cells #[.slice a ms.length c, .int .i64 last] 30)).alloc (.cells #[.slice a' ns.length c', .int .i64 lst] 30)) = V at *
      refine hra.mono ?_
      rintro e w1 ⟨rfl, f1⟩
      clear hra x0 x1 y0 y1
      obtain ⟨⟨x0, x1⟩, y0, y1⟩ := HT1.out _ f1
      go_wp2_with fail
      refine (hrb _ (F1.seq' f1)).mono ?_
      rintro e w2 ⟨rfl, f2⟩
      clear hrb x0 x1 y0 y1
      obtain ⟨⟨x0, x1⟩, y0, y1⟩ := HT1.out _ (f1.seq' f2)
      have f1s : Hid (Fr (fun _ => False) V w2) := f1.seq' f2
      clear f1 f2
      go_upto_if 24 with fail
      go_cut [6] (fun p wc => p = .int .i64 u0 ∧ w2 = wc)
      case first =>
        by_cases hll : lst < last
        · have hu : u0 = lst := by rw [HU0.out, if_pos hll]
          have d1 : decide (lst < last) = true := decide_eq_true hll
          go_wp2
          go_meet
          exact ⟨by rw [hu], rfl⟩
        · have hu : u0 = last := by rw [HU0.out, if_neg hll]
          have d1 : decide (lst < last) = false := decide_eq_false hll
          go_wp2
          go_meet
          exact ⟨by rw [hu], rfl⟩
      case rest =>
      obtain ⟨rfl, rfl⟩ := hcut
      go_wp2
      go_loopw [30, 6] (fun i t wr => ∃ (k : Nat) (u : Int), k ≤ ms.length ∧ i = .int .i64 k ∧ t = .int .i64 u ∧ Hid (u = swF ns (ms.take k) u0) ∧ Hid (Fr (fun _ => False) V wr)) (fun i _ _ => ms.length - (intOf i).toNat)
      case atStart => exact ⟨0, u0, by omega, rfl, rfl, rfl, f1s⟩
      case round =>
        obtain ⟨k, u, hk, rfl, rfl, HU, HF⟩ := hrel
        by_cases hlt : k < ms.length
        · obtain ⟨m, hm⟩ : ∃ m, ms[k]? = some m := ⟨_, List.getElem?_eq_getElem hlt⟩
          obtain ⟨h1, h2, _⟩ := (HR1).out.each m (List.mem_of_getElem? hm)
          have h3 := (HR1).out.last1
          have HN : Hid (swF ns (ms.take (k + 1)) u0 = if m.2 ≤ u ∧ epF ns m.2 ≠ m.1 then m.2 - 1 else u) := by
            show _ = _
            rw [take_next hm, swF_snoc, ← HU.out]
          obtain ⟨b, off, rfl, hb, hc⟩ := (HM1.out _ HF.out).some (by omega)
          obtain ⟨q0, q1⟩ := mk_range (hc k m hm)
          have hki : (k : Int) < (ms.length : Int) := by omega
          have hep := HEB.out m.2
          have fb : Fr (fun _ => False) wr (wr.alloc (.cells #[.int .i64 m.1, .int .i64 m.2] 53)) := Fr.box _ _
          have TM := Two.new wr 53 (.int .i64 m.1) (.int .i64 m.2)
          obtain ⟨m1, m2⟩ := m
          dsimp only at *
          clear hm hc
          by_cases hg : m2 ≤ u
          · have hgd : decide (m2 ≤ u) = true := decide_eq_true hg
            obtain ⟨x, hx⟩ : ∃ x, epF ns m2 = x := ⟨_, rfl⟩
            rw [hx] at hep HN
            clear hx
            have HQ : Hid (∀ W, Fr (fun _ => False) (wr.alloc (.cells #[.int .i64 m1, .int .i64 m2] 53)) W → (W.cell? ⟨wr.heap.size, 0, none⟩ = some (.int .i64 m1) ∧ W.cell? ⟨wr.heap.size, 1, none⟩ = some (.int .i64 m2)) ∧ W.cell? ⟨(w.heap.size + 1), 0, none⟩ = some (.slice a' ns.length c') ∧ W.cell? ⟨(w.heap.size + 1), 1, none⟩ = some (.int .i64 lst)) := fun W f => ⟨⟨(TM.fr f (fun f => f)).cells.1, (TM.fr f (fun f => f)).cells.2.1⟩, (HT1.out _ ((HF.out.seq' fb).seq' f)).2⟩
            have HV : Hid (∀ W, Fr (fun _ => False) (wr.alloc (.cells #[.int .i64 m1, .int .i64 m2] 53)) W → Fr (fun _ => False) V W) := fun W f => (HF.out.seq' fb).seq' f
            have FD := (Fr.refl (fun _ => False) (wr.alloc (.cells #[.int .i64 m1, .int .i64 m2] 53))).drew
            have q9 := HQ.out _ FD
            have hep1 := hep _ (HV.out _ FD)
            clear fb TM hep
            by_cases he : x = m1
            · have de : (x != m1) = false := by rw [he]; simp
              have HU2 : Hid (u = swF ns (ms.take (k + 1)) u0) := by show _ = _; rw [HN.out, if_neg (fun h => h.2 he)]
              clear HN HU he
              go_wp2_with fail
              go_region_held3 (fun W => (W.cell? ⟨wr.heap.size, 0, none⟩ = some (.int .i64 m1) ∧ W.cell? ⟨wr.heap.size, 1, none⟩ = some (.int .i64 m2)) ∧ W.cell? ⟨(w.heap.size + 1), 0, none⟩ = some (.slice a' ns.length c') ∧ W.cell? ⟨(w.heap.size + 1), 1, none⟩ = some (.int .i64 lst))
                (first | with_reducible exact q9 | with_reducible exact q8 | fail)
                ((go_at_call 25; refine hep1.mono ?_; rintro e w5 ⟨rfl, f5⟩; have q8 := HQ.out _ (FD.seq' f5)))
              have HFE : Hid (Fr (fun _ => False) V w5) := HV.out _ (FD.seq' f5)
              clear q9 f5 hep1
              obtain ⟨⟨z0, z1⟩, z2, z3⟩ := q8
              go_wp2
              go_roundw
              case rel => exact ⟨k + 1, u, by omega, by go_num, rfl, HU2, HFE⟩
              case measure => simp [intOf]; omega
            · have de : (x != m1) = true := by simpa using he
              have HU2 : Hid (m2 - 1 = swF ns (ms.take (k + 1)) u0) := by show _ = _; rw [HN.out, if_pos ⟨hg, he⟩]
              clear HN HU he
              go_wp2_with fail
              go_region_held3 (fun W => (W.cell? ⟨wr.heap.size, 0, none⟩ = some (.int .i64 m1) ∧ W.cell? ⟨wr.heap.size, 1, none⟩ = some (.int .i64 m2)) ∧ W.cell? ⟨(w.heap.size + 1), 0, none⟩ = some (.slice a' ns.length c') ∧ W.cell? ⟨(w.heap.size + 1), 1, none⟩ = some (.int .i64 lst))
                (first | with_reducible exact q9 | with_reducible exact q8 | fail)
                ((go_at_call 25; refine hep1.mono ?_; rintro e w5 ⟨rfl, f5⟩; have q8 := HQ.out _ (FD.seq' f5)))
              have HFE : Hid (Fr (fun _ => False) V w5) := HV.out _ (FD.seq' f5)
              clear q9 f5 hep1
              obtain ⟨⟨z0, z1⟩, z2, z3⟩ := q8
              go_wp2
              go_roundw
              case rel => exact ⟨k + 1, m2 - 1, by omega, by go_num, rfl, HU2, HFE⟩
              case measure => simp [intOf]; omega
          · have hgd : decide (m2 ≤ u) = false := decide_eq_false hg
            have HU2 : Hid (u = swF ns (ms.take (k + 1)) u0) := by show _ = _; rw [HN.out, if_neg (fun h => hg h.1)]
            have HFE : Hid (Fr (fun _ => False) V (wr.alloc (.cells #[.int .i64 m1, .int .i64 m2] 53))) := HF.out.seq' fb
            obtain ⟨z0, z1, _⟩ := TM.cells
            clear HN HU hep fb TM hg
            go_wp2_with fail
            go_quiet (fail)
            go_wp2
            go_roundw
            case rel => exact ⟨k + 1, u, by omega, by go_num, rfl, HU2, Fr.drewN HFE.out _⟩
            case measure => simp [intOf]; omega
        · have HU2 : Hid (u = swF ns ms u0) := by show _ = _; rw [HU.out, List.take_of_length_le (by omega)]
          clear HU
          obtain ⟨⟨x0, x1⟩, y0, y1⟩ := HT1.out _ HF.out
          have hkn : decide ((k : Int) < (ms.length : Int)) = false := decide_eq_false (by omega)
          have HUA : Hid (u = swF ns ms u0) := HU2
          have HF1 : Hid (Fr (fun _ => False) V wr) := HF
          have HFK : Hid (forkF ms ns last lst = swF ms ns u) := by show _ = _; rw [HUA.out, HU0.out]; exact (rfork_eq HR1.out HR2.out).symm
          generalize u = uA at *
          clear HU2 HF HUA
          go_wp2
          clear hlt
          rename World => W2
          go_loopw [54, 6] (fun i t wr => ∃ (k : Nat) (u : Int), k ≤ ns.length ∧ i = .int .i64 k ∧ t = .int .i64 u ∧ Hid (u = swF ms (ns.take k) uA) ∧ Hid (Fr (fun _ => False) V wr)) (fun i _ _ => ns.length - (intOf i).toNat)
          case atStart => exact ⟨0, uA, by omega, rfl, rfl, rfl, HF1⟩
          case round =>
            obtain ⟨k, u, hk, rfl, rfl, HU, HF⟩ := hrel
            by_cases hlt : k < ns.length
            · obtain ⟨m, hm⟩ : ∃ m, ns[k]? = some m := ⟨_, List.getElem?_eq_getElem hlt⟩
              obtain ⟨h1, h2, _⟩ := (HR2).out.each m (List.mem_of_getElem? hm)
              have h3 := (HR2).out.last1
              have HN : Hid (swF ms (ns.take (k + 1)) uA = if m.2 ≤ u ∧ epF ms m.2 ≠ m.1 then m.2 - 1 else u) := by
                show _ = _
                rw [take_next hm, swF_snoc, ← HU.out]
              obtain ⟨b, off, rfl, hb, hc⟩ := (HM2.out _ HF.out).some (by omega)
              obtain ⟨q0, q1⟩ := mk_range (hc k m hm)
              have hki : (k : Int) < (ns.length : Int) := by omega
              have hep := HEA.out m.2
              have fb : Fr (fun _ => False) wr (wr.alloc (.cells #[.int .i64 m.1, .int .i64 m.2] 53)) := Fr.box _ _
              have TM := Two.new wr 53 (.int .i64 m.1) (.int .i64 m.2)
              obtain ⟨m1, m2⟩ := m
              dsimp only at *
              clear hm hc
              by_cases hg : m2 ≤ u
              · have hgd : decide (m2 ≤ u) = true := decide_eq_true hg
                obtain ⟨x, hx⟩ : ∃ x, epF ms m2 = x := ⟨_, rfl⟩
                rw [hx] at hep HN
                clear hx
                have HQ : Hid (∀ W, Fr (fun _ => False) (wr.alloc (.cells #[.int .i64 m1, .int .i64 m2] 53)) W → (W.cell? ⟨wr.heap.size, 0, none⟩ = some (.int .i64 m1) ∧ W.cell? ⟨wr.heap.size, 1, none⟩ = some (.int .i64 m2)) ∧ W.cell? ⟨w.heap.size, 0, none⟩ = some (.slice a ms.length c) ∧ W.cell? ⟨w.heap.size, 1, none⟩ = some (.int .i64 last)) := fun W f => ⟨⟨(TM.fr f (fun f => f)).cells.1, (TM.fr f (fun f => f)).cells.2.1⟩, (HT1.out _ ((HF.out.seq' fb).seq' f)).1⟩
                have HV : Hid (∀ W, Fr (fun _ => False) (wr.alloc (.cells #[.int .i64 m1, .int .i64 m2] 53)) W → Fr (fun _ => False) V W) := fun W f => (HF.out.seq' fb).seq' f
                have FD := (Fr.refl (fun _ => False) (wr.alloc (.cells #[.int .i64 m1, .int .i64 m2] 53))).drew
                have q9 := HQ.out _ FD
                have hep1 := hep _ (HV.out _ FD)
                clear fb TM hep
                by_cases he : x = m1
                · have de : (x != m1) = false := by rw [he]; simp
                  have HU2 : Hid (u = swF ms (ns.take (k + 1)) uA) := by show _ = _; rw [HN.out, if_neg (fun h => h.2 he)]
                  clear HN HU he
                  go_wp2_with fail
                  go_region_held3 (fun W => (W.cell? ⟨wr.heap.size, 0, none⟩ = some (.int .i64 m1) ∧ W.cell? ⟨wr.heap.size, 1, none⟩ = some (.int .i64 m2)) ∧ W.cell? ⟨w.heap.size, 0, none⟩ = some (.slice a ms.length c) ∧ W.cell? ⟨w.heap.size, 1, none⟩ = some (.int .i64 last))
                    (first | with_reducible exact q9 | with_reducible exact q8 | fail)
                    ((go_at_call 25; refine hep1.mono ?_; rintro e w5 ⟨rfl, f5⟩; have q8 := HQ.out _ (FD.seq' f5)))
                  have HFE : Hid (Fr (fun _ => False) V w5) := HV.out _ (FD.seq' f5)
                  clear q9 f5 hep1
                  obtain ⟨⟨z0, z1⟩, z2, z3⟩ := q8
                  go_wp2
                  go_roundw
                  case rel => exact ⟨k + 1, u, by omega, by go_num, rfl, HU2, HFE⟩
                  case measure => simp [intOf]; omega
                · have de : (x != m1) = true := by simpa using he
                  have HU2 : Hid (m2 - 1 = swF ms (ns.take (k + 1)) uA) := by show _ = _; rw [HN.out, if_pos ⟨hg, he⟩]
                  clear HN HU he
                  go_wp2_with fail
                  go_region_held3 (fun W => (W.cell? ⟨wr.heap.size, 0, none⟩ = some (.int .i64 m1) ∧ W.cell? ⟨wr.heap.size, 1, none⟩ = some (.int .i64 m2)) ∧ W.cell? ⟨w.heap.size, 0, none⟩ = some (.slice a ms.length c) ∧ W.cell? ⟨w.heap.size, 1, none⟩ = some (.int .i64 last))
                    (first | with_reducible exact q9 | with_reducible exact q8 | fail)
                    ((go_at_call 25; refine hep1.mono ?_; rintro e w5 ⟨rfl, f5⟩; have q8 := HQ.out _ (FD.seq' f5)))
                  have HFE : Hid (Fr (fun _ => False) V w5) := HV.out _ (FD.seq' f5)
                  clear q9 f5 hep1
                  obtain ⟨⟨z0, z1⟩, z2, z3⟩ := q8
                  go_wp2
                  go_roundw
                  case rel => exact ⟨k + 1, m2 - 1, by omega, by go_num, rfl, HU2, HFE⟩
                  case measure => simp [intOf]; omega
              · have hgd : decide (m2 ≤ u) = false := decide_eq_false hg
                have HU2 : Hid (u = swF ms (ns.take (k + 1)) uA) := by show _ = _; rw [HN.out, if_neg (fun h => hg h.1)]
                have HFE : Hid (Fr (fun _ => False) V (wr.alloc (.cells #[.int .i64 m1, .int .i64 m2] 53))) := HF.out.seq' fb
                obtain ⟨z0, z1, _⟩ := TM.cells
                clear HN HU hep fb TM hg
                go_wp2_with fail
                go_quiet (fail)
                go_wp2
                go_roundw
                case rel => exact ⟨k + 1, u, by omega, by go_num, rfl, HU2, Fr.drewN HFE.out _⟩
                case measure => simp [intOf]; omega
            · have HU2 : Hid (u = swF ms ns uA) := by show _ = _; rw [HU.out, List.take_of_length_le (by omega)]
              clear HU
              obtain ⟨⟨x0, x1⟩, y0, y1⟩ := HT1.out _ HF.out
              have hkn : decide ((k : Int) < (ns.length : Int)) = false := decide_eq_false (by omega)
              go_wp2
              go_ret2
              refine ⟨?_, F1.seq' HF.out⟩
              rw [HFK.out, HU2.out]
              rfl


end Go.Proofs.Ytphfngboddnbmaa
