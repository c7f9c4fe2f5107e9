
/- Commit by the document. -/
import Derived.Test.YtnjfihmghhjfcaaQuCom
namespace Go.Proofs.Ytnjfihmghhjfcaa
open Go.RowKit
open Go.Proofs.Ytnjfihmghhjfcaa.Qu

def cntG (xs : List Int) (a : Int) : Nat := xs.countP (fun b => decide (a ≤ b))
/-- The best of those that a majority has. -/
def bestF (xs : List Int) : Int → List Int → Int
  | best, [] => best
  | best, a :: r => bestF xs (if xs.length < 2 * cntG xs a ∧ best < a then a else best) r
theorem best_drop {xs : List Int} {k : Nat} {a : Int} (h : xs[k]? = some a) (best : Int) : bestF xs best (xs.drop k) = bestF xs (if xs.length < 2 * cntG xs a ∧ best < a then a else best) (xs.drop (k + 1)) := by
  obtain ⟨hk, he⟩ := List.getElem?_eq_some_iff.1 h
  rw [List.drop_eq_getElem_cons hk, he]; rfl
def rcomN (xs : List Int) : Int := if nOk xs.length && !xs.any badB then bestF xs 0 xs else 0
theorem cnt_take {xs : List Int} {k : Nat} {b : Int} (h : xs[k]? = some b) (a : Int) : (xs.take (k + 1)).countP (fun b => decide (a ≤ b)) = (xs.take k).countP (fun b => decide (a ≤ b)) + (if a ≤ b then 1 else 0) := by
  rw [List.take_add_one, h, List.countP_append]
  simp [List.countP_cons]
set_option maxRecDepth 100000 in
set_option maxHeartbeats 4000000 in
theorem rcommit_any (p : Option Addr) (n c : Nat) (xs : List Int) (hn : n = xs.length) (w : World) (h : Is w p c xs) : Calls Try.prog 19 #[.slice p n c] w fun e w' => e = .returned (.tuple #[.int .i64 (rcomN xs), .int .i64 (comE xs)]) ∧ w' = w := by
  subst hn
  have hle := h.le
  have hmx := h.max
  by_cases h1 : xs.length < 1
  · have hz : nOk xs.length = false := by simp [nOk]; omega
    rw [show rcomN xs = 0 by simp [rcomN, hz], show comE xs = 1 by simp [comE, hz]]
    clear hz h
    go_enter Try.func19, Try.ntmps19
    go_wp2
    go_ret2
    exact ⟨rfl, rfl⟩
  · have h1' : decide (xs.length < 1) = false := by simpa using h1
    have h1'' : decide ((xs.length : Int) < 1) = false := by simp; omega
    by_cases h2 : 7 < xs.length
    · have hz : nOk xs.length = false := by simp [nOk]; omega
      rw [show rcomN xs = 0 by simp [rcomN, hz], show comE xs = 1 by simp [comE, hz]]
      clear hz h
      go_enter Try.func19, Try.ntmps19
      go_wp2
      go_ret2
      exact ⟨rfl, rfl⟩
    · have h2' : decide (7 < xs.length) = false := by simpa using h2
      have h2'' : decide ((7 : Int) < (xs.length : Int)) = false := by simp; omega
      have hz : nOk xs.length = true := by simp [nOk]; omega
      have HS : Hid (Is w p c xs) := h
      have HC : Hid (rcomN xs = if xs.any badB = true then 0 else bestF xs 0 xs) := by
        show _ = _
        cases hb : xs.any badB <;> simp [rcomN, hz, hb]
      have HE : Hid (comE xs = if xs.any badB = true then 1 else 0) := by
        show _ = _
        cases hb : xs.any badB <;> simp [comE, hz, hb]
      obtain ⟨N, hN⟩ : ∃ N, N = xs.length := ⟨_, rfl⟩
      have HN : Hid (N = xs.length) := hN
      rw [← hN] at hle h1 h1' h1'' h2 h2' h2'' ⊢
      clear h hz hN
      go_enter Try.func19, Try.ntmps19
      go_wp2
      go_loopw [22] (fun i wr => ∃ k : Nat, k ≤ N ∧ i = .int .i64 k ∧ wr = w ∧ Hid ((xs.take k).any badB = false)) (fun i _ => N - (intOf i).toNat)
      case atStart => exact ⟨0, by omega, rfl, rfl, by show _ = _; simp⟩
      case round =>
        obtain ⟨k, hk, rfl, rfl, HA⟩ := hrel
        by_cases hlt : k < N
        · obtain ⟨x, hx⟩ : ∃ x, xs[k]? = some x := ⟨_, List.getElem?_eq_getElem (by have := HN.out; omega)⟩
          obtain ⟨b, off, rfl, hb, hc⟩ := HS.out.some (by have := HN.out; omega)
          have q0 := hc k x hx
          have HX : Hid (xs[k]? = some x) := hx
          clear hc hx
          by_cases g1 : x < 0
          · go_wp2
            go_ret2
            refine ⟨?_, rfl⟩
            rw [HC.out, HE.out, if_pos (List.any_eq_true.2 ⟨x, List.mem_of_getElem? HX.out, by simp [badB, g1]⟩), if_pos (List.any_eq_true.2 ⟨x, List.mem_of_getElem? HX.out, by simp [badB, g1]⟩)]
            rfl
          · have g1' : decide (x < 0) = false := by simpa using g1
            by_cases g2 : 1099511627776 < x
            · go_wp2
              go_ret2
              refine ⟨?_, rfl⟩
              rw [HC.out, HE.out, if_pos (List.any_eq_true.2 ⟨x, List.mem_of_getElem? HX.out, by simp [badB, g2]⟩), if_pos (List.any_eq_true.2 ⟨x, List.mem_of_getElem? HX.out, by simp [badB, g2]⟩)]
              rfl
            · have g2' : decide (1099511627776 < x) = false := by simpa using g2
              go_wp2
              refine ⟨⟨k + 1, by omega, by simp, trivial, ?_⟩, by simp [intOf]; omega⟩
              show _ = _
              rw [List.take_add_one, HX.out, List.any_append, HA.out]
              simp [badB, g1', g2']
        · have hke : k = N := by omega
          subst hke
          have HB : Hid (xs.any badB = false) := by
            have := HA.out
            rw [HN.out, List.take_length] at this
            exact this
          clear HA hlt hk
          go_wp2
          go_loopw [4, 35] (fun s i wq => ∃ (m : Nat) (best : Int), m ≤ k ∧ i = .int .i64 m ∧ s = .int .i64 best ∧ wq = wr ∧ Hid (bestF xs best (xs.drop m) = bestF xs 0 xs)) (fun _ i _ => k - (intOf i).toNat)
          case atStart => exact ⟨0, 0, by omega, rfl, rfl, rfl, rfl⟩
          case round =>
            obtain ⟨m, best, hm, rfl, rfl, rfl, HD⟩ := hrel
            by_cases hlt : m < k
            · obtain ⟨x, hx⟩ : ∃ x, xs[m]? = some x := ⟨_, List.getElem?_eq_getElem (by have := HN.out; omega)⟩
              obtain ⟨b, off, rfl, hb, hc⟩ := HS.out.some (by have := HN.out; omega)
              have q0 := hc m x hx
              have HX : Hid (xs[m]? = some x) := hx
              have HCELL : Hid _ := hc
              have HBD : Hid (bestF xs best (xs.drop m) = bestF xs (if xs.length < 2 * cntG xs x ∧ best < x then x else best) (xs.drop (m + 1))) := best_drop hx best
              clear hc hx
              go_wp2
              go_loopw [9, 41] (fun s i wz => ∃ (j : Nat) (t : Nat), j ≤ k ∧ i = .int .i64 j ∧ s = .int .i64 t ∧ t ≤ j ∧ wz = wr ∧ Hid (t = (xs.take j).countP (fun b => decide (x ≤ b)))) (fun _ i _ => k - (intOf i).toNat)
              case atStart => exact ⟨0, 0, by omega, rfl, rfl, by omega, rfl, by show _ = _; simp⟩
              case round =>
                obtain ⟨j, t, hj, rfl, rfl, htj, rfl, HT⟩ := hrel
                by_cases hlj : j < k
                · obtain ⟨y, hy⟩ : ∃ y, xs[j]? = some y := ⟨_, List.getElem?_eq_getElem (by have := HN.out; omega)⟩
                  have q1 := HCELL.out j y hy
                  have HTN := cnt_take hy x
                  have HTN' : Hid ((xs.take (j + 1)).countP (fun b => decide (x ≤ b)) = t + (if x ≤ y then 1 else 0)) := by show _ = _; rw [HTN, ← HT.out]
                  clear hy HTN HT
                  by_cases g : x ≤ y
                  · go_wp2
                    refine ⟨⟨j + 1, t + 1, by omega, by simp, by simp, by omega, trivial, ?_⟩, by simp [intOf]; omega⟩
                    show _ = _
                    rw [HTN'.out, if_pos g]
                  · have g' : decide (x ≤ y) = false := by simpa using g
                    go_wp2
                    refine ⟨⟨j + 1, t, by omega, by simp, by simp, by omega, trivial, ?_⟩, by simp [intOf]; omega⟩
                    show _ = _
                    rw [HTN'.out, if_neg g]; rfl
                · have hje : j = k := by omega
                  subst hje
                  have hcn : t = cntG xs x := by
                    rw [HT.out, HN.out, List.take_length]; rfl
                  have HBD' : Hid (bestF xs 0 xs = bestF xs (if j < 2 * t ∧ best < x then x else best) (xs.drop (m + 1))) := by
                    show _ = _
                    rw [← HD.out, HBD.out, hcn, HN.out]
                  clear hcn HBD HD HT
                  by_cases g1 : (j : Int) < 2 * t
                  · by_cases g2 : best < x
                    · have HF : Hid (bestF xs x (xs.drop (m + 1)) = bestF xs 0 xs) := by
                        show _ = _
                        rw [HBD'.out, if_pos ⟨by omega, g2⟩]
                      clear HBD'
                      go_wp2
                      refine ⟨⟨m + 1, x, by omega, by simp, by simp, trivial, HF⟩, by simp [intOf]; omega⟩
                    · have g2' : decide (best < x) = false := by simpa using g2
                      have HF : Hid (bestF xs best (xs.drop (m + 1)) = bestF xs 0 xs) := by
                        show _ = _
                        rw [HBD'.out, if_neg (by omega)]
                      clear HBD'
                      go_wp2
                      refine ⟨⟨m + 1, best, by omega, by simp, by simp, trivial, HF⟩, by simp [intOf]; omega⟩
                  · have g1' : decide ((j : Int) < 2 * t) = false := by simpa using g1
                    have HF : Hid (bestF xs best (xs.drop (m + 1)) = bestF xs 0 xs) := by
                      show _ = _
                      rw [HBD'.out, if_neg (by omega)]
                    clear HBD'
                    go_wp2
                    refine ⟨⟨m + 1, best, by omega, by simp, by simp, trivial, HF⟩, by simp [intOf]; omega⟩
            · have hme : m = k := by omega
              subst hme
              have HF : Hid (bestF xs 0 xs = best) := by
                show _ = _
                rw [← HD.out, HN.out, List.drop_length]; rfl
              clear HD
              go_wp2
              go_ret2
              refine ⟨?_, rfl⟩
              rw [HC.out, HE.out, HB.out, HF.out]; rfl
end Go.Proofs.Ytnjfihmghhjfcaa
