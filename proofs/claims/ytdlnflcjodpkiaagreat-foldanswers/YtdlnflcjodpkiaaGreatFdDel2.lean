
/- slices.DeleteFunc at records. -/
import Derived.Test.YtdlnflcjodpkiaaGreatFdDel
namespace Go.Proofs.YtdlnflcjodpkiaaGreat
open Go.RowKit

theorem zero_cellsR (n : Nat) : ∃ Z : List Value, (Builtin.zeroCells #[.int .i64 0, .int .i64 0, .int .i64 0, .int .i64 0, .int .i64 0, .int .i64 0, .string ⟨#[]⟩, .string ⟨#[]⟩] n).toList = Z ∧ Z.length = n * 8 ∧ ∀ v ∈ Z, v.oneCell' = true := by
  refine ⟨_, rfl, by simp [Builtin.zeroCells], fun v hv => ?_⟩
  simp only [Builtin.zeroCells, Array.toList_map, List.mem_map] at hv
  obtain ⟨i, _, rfl⟩ := hv
  have : ∀ k : Fin 8, ((#[.int .i64 0, .int .i64 0, .int .i64 0, .int .i64 0, .int .i64 0, .int .i64 0, .string ⟨#[]⟩, .string ⟨#[]⟩] : Array Value)[k.val]!).oneCell' = true := by decide
  exact this ⟨i % 8, Nat.mod_lt _ (by omega)⟩
theorem clear_recsR (w : World) (ty : TypeId) (b o n c : Nat) (hn : 0 < n) (Z : List Value) (hZ : (Builtin.zeroCells #[.int .i64 0, .int .i64 0, .int .i64 0, .int .i64 0, .int .i64 0, .int .i64 0, .string ⟨#[]⟩, .string ⟨#[]⟩] n).toList = Z) (h1 : ∀ v ∈ Z, v.oneCell' = true)
    (hc : ∀ j, j < Z.length → (w.cell? ⟨b, o + j, none⟩).isSome = true) (hf : ∀ j, j < Z.length → w.frozen? ⟨b, o + j, none⟩ = false) :
    (Builtin.clear_ #[22] ty #[.slice (some ⟨b, o, none⟩) n c]).run Tryz.prog w = .ok (.tuple #[]) (w.setCells b o Z) := by
  have hst := run_storeCells_cells (P := Tryz.prog) b o Z 0 w (by simpa using hc) (by simpa using hf) h1
  simp only [Nat.add_zero] at hst
  obtain ⟨m, rfl⟩ : ∃ m, n = m + 1 := ⟨n - 1, by omega⟩
  have hv := fun w => Tryz.zeroValue53 (w := w)
  simp [Builtin.clear_, run_underlying Tryz.underlying22, Value.cells, hv, hZ, hst]
theorem Has.shrinkR {w : World} {size g n cap i : Nat} {xs : List Value} (h : Has w size (.slice (some ⟨g, 0, none⟩) n cap) n xs) (hi : i ≤ n) : Has w size (.slice (some ⟨g, 0, none⟩) i cap) i (xs.take (i * size)) := by
  refine ⟨?_, ?_⟩
  · rw [List.length_take, h.1]
    exact Nat.min_eq_left (Nat.mul_le_mul_right _ hi)
  · rcases h.2 with ⟨h2, _⟩ | ⟨g', cap', hv, hg, h1, h2, h3, h4⟩
    · cases h2
    · simp only [Value.slice.injEq, Option.some.injEq, Addr.mk.injEq, and_true, true_and] at hv
      obtain ⟨rfl, rfl⟩ := hv
      refine .inr ⟨g, cap, rfl, hg, by omega, h2, h3, fun j v hv => ?_⟩
      refine h4 j v ?_
      rw [List.getElem?_take] at hv
      split at hv
      · exact hv
      · cases hv
/-- What stands in the row while it is gone through: what is kept, whatever was there, what comes. -/
structure Dl (ls R : List Rec) (i j : Nat) : Prop where
  len : R.length = ls.length
  lt : i < j
  le : j ≤ ls.length
  kept : R.take i = hist (ls.take j)
  rest : ∀ k, j ≤ k → R[k]? = ls[k]?
theorem Dl.yes {ls R : List Rec} {i j : Nat} {r : Rec} (h : Dl ls R i j) (hr : ls[j]? = some r) (hc : comB r = true) : Dl ls (R.set i r) (i + 1) (j + 1) := by
  have hj : j < ls.length := (List.getElem?_eq_some_iff.1 hr).1
  have hi : i < R.length := by have := h.lt; have := h.len; omega
  refine ⟨by simpa using h.len, by have := h.lt; omega, hj, ?_, fun k hk => ?_⟩
  · rw [hist_yes hr hc, ← h.kept, take_snocH (r := r) (by rw [List.getElem?_set_self hi]), List.take_set_of_le (Nat.le_refl i)]
  · rw [List.getElem?_set_ne (by have := h.lt; omega)]; exact h.rest k (by omega)
theorem Dl.no {ls R : List Rec} {i j : Nat} {r : Rec} (h : Dl ls R i j) (hr : ls[j]? = some r) (hc : comB r = false) : Dl ls R i (j + 1) := by
  have hj : j < ls.length := (List.getElem?_eq_some_iff.1 hr).1
  exact ⟨h.len, by have := h.lt; omega, hj, by rw [hist_no hr hc]; exact h.kept, fun k hk => h.rest k (by omega)⟩
theorem Has.bounds {w : World} {size g n cap : Nat} {xs : List Value} (h : Has w size (.slice (some ⟨g, 0, none⟩) n cap) n xs) : g < w.heap.size ∧ n ≤ cap ∧ cap ≤ maxLen ∧ w.there g 0 (cap * size) := by
  rcases h.2 with ⟨h2, _⟩ | ⟨g', cap', hv, hg, h1, h2, h3, h4⟩
  · cases h2
  · simp only [Value.slice.injEq, Option.some.injEq, Addr.mk.injEq, and_true, true_and] at hv
    obtain ⟨rfl, rfl⟩ := hv
    exact ⟨hg, h1, h2, h3⟩
theorem Has.recs {w : World} {a : Option Addr} {n c : Nat} {ls : List Rec} (hn : n = ls.length) (h : Has w 8 (.slice a n c) n (ls.flatMap recC)) : Recs w a c ls := by
  subst hn
  obtain ⟨a', c', e, hr⟩ := Recs.of h
  simp only [Value.slice.injEq, true_and] at e
  obtain ⟨rfl, rfl⟩ := e
  exact hr
/-- What DeleteFunc leaves. -/
def DlO (g cap : Nat) (ls : List Rec) (w : World) (e : Ending) (w' : World) : Prop := ∃ m, m = (hist ls).length ∧ e = .returned (.slice (some ⟨g, 0, none⟩) m cap) ∧ Has w' 8 (.slice (some ⟨g, 0, none⟩) m cap) m ((hist ls).flatMap recC) ∧ Fr (fun k => k = g) w w'
set_option maxRecDepth 100000 in
set_option maxHeartbeats 8000000 in
theorem delNo_some (g n cap : Nat) (ls : List Rec) (hn : n = ls.length) (hs : n ≤ 1000000) (w : World) (h : Has w 8 (.slice (some ⟨g, 0, none⟩) n cap) n (ls.flatMap recC)) :
    Calls Tryz.prog 42 #[.slice (some ⟨g, 0, none⟩) n cap, .func (.func 44) #[] #[]] w (DlO g cap ls w) := by
  have hix := idxNo_any (some ⟨g, 0, none⟩) n cap ls hn w (h.recs hn)
  obtain ⟨hg, hnc, hcx, _⟩ := h.bounds
  have hcm : cap ≤ 9223372036854775807 := by unfold maxLen at hcx; omega
  have HH : Hid (∀ W, Fr (fun _ => False) w W → Has W 8 (.slice (some ⟨g, 0, none⟩) n cap) n (ls.flatMap recC)) := fun W f => h.fr f (fun _ _ f => f)
  have HN : Hid (n = ls.length) := hn
  clear h hn hcx
  go_enter Tryz.func42, Tryz.ntmps42
  go_wp2_with fail
  refine hix.mono ?_
  rintro e w1 ⟨⟨z, rfl, hz⟩, f1⟩
  clear hix
  rcases hz with ⟨rfl, hall⟩ | ⟨k, rfl, hk, hkk⟩
  · have HF : Hid (DlO g cap ls w (.returned (Value.slice (some ⟨g, 0, none⟩) n cap)) w1) := ⟨n, by rw [hall]; exact HN.out, rfl, by rw [hall]; exact HH.out w1 f1, f1.widen (fun _ f => f.elim)⟩
    clear hall
    go_wp2
    go_ret
    exact HF.out
  · have HD : Hid (∃ R, Dl ls R k (k + 1) ∧ Has w1 8 (.slice (some ⟨g, 0, none⟩) n cap) n (R.flatMap recC)) := ⟨ls, ⟨rfl, by omega, by omega, hkk.symm, fun _ _ => rfl⟩, HH.out w1 f1⟩
    have hkn : k < n := by have := HN.out; omega
    have F1 : Fr (fun k => k = g) w w1 := f1.widen (fun _ f => f.elim)
    have hk1 : ((k : Int) == -1) = false := by simp
    clear hkk f1 HH hk
    go_wp2
    go_loopw [5, 6] (fun i j wr => ∃ (p q : Nat), q ≤ n ∧ p < q ∧ i = .int .i64 p ∧ j = .int .i64 q ∧ Hid (∃ R, Dl ls R p q ∧ Has wr 8 (.slice (some ⟨g, 0, none⟩) n cap) n (R.flatMap recC)) ∧ Fr (fun k => k = g) w wr) (fun _ j _ => n - (intOf j).toNat)
    case atStart => exact ⟨k, k + 1, by omega, by omega, rfl, by go_num, HD, F1⟩
    case round =>
      obtain ⟨p, q, hq, hpq, rfl, rfl, HR, F⟩ := hrel
      obtain ⟨R, hdl, hh⟩ := HR.out
      by_cases hlt : q < n
      · obtain ⟨r, hr⟩ : ∃ r, ls[q]? = some r := ⟨_, List.getElem?_eq_getElem (by have := HN.out; omega)⟩
        have hRr : R[q]? = some r := by rw [hdl.rest q (Nat.le_refl _)]; exact hr
        obtain ⟨q0, q1, q2, q3, q4, q5, q6, q7⟩ := rec_range (hh.elem recC_length hRr)
        have HY : Hid (comB r = true → Dl ls (R.set p r) (p + 1) (q + 1)) := fun h => hdl.yes hr h
        have HNO : Hid (comB r = false → Dl ls R p (q + 1)) := fun h => hdl.no hr h
        have hpR : p < R.length := by have := hdl.len; have := HN.out; omega
        obtain ⟨lsn, ep, kind, page, other, req, key, val⟩ := r
        dsimp only at q0 q1 q2 q3 q4 q5 q6 q7
        have hp := noCommit_any lsn ep kind page other req key val
        have HB : Hid (∀ W, Fr (fun _ => False) (wr.alloc (.cells #[.int .i64 lsn, .int .i64 ep, .int .i64 kind, .int .i64 page, .int .i64 other, .int .i64 req, .string key, .string val] 53)) W → W.heap[wr.heap.size]? = some (.cells #[.int .i64 lsn, .int .i64 ep, .int .i64 kind, .int .i64 page, .int .i64 other, .int .i64 req, .string key, .string val] 53 (0, 0))) := fun W f => rec_at wr _ _ f
        have hqi : (q : Int) < (n : Int) := by omega
        have hpi : (p : Int) < (n : Int) := by omega
        have HHH : Hid (∀ W, Fr (fun _ => False) wr W → Has W 8 (.slice (some ⟨g, 0, none⟩) n cap) n (R.flatMap recC)) := fun W f => hh.fr f (fun _ _ f => f)
        clear hr hRr hdl hh HR
        cases hc : comB ⟨lsn, ep, kind, page, other, req, key, val⟩ with
        | false =>
          rw [hc] at hp
          simp only [Bool.not_false] at hp
          have HD2 := HNO.out hc
          have HD3 : Hid (Dl ls R p (q + 1)) := HD2
          clear HY HNO hc HD2
          go_wp2_with fail
          refine (hp _).mono ?_
          rintro e w3 ⟨rfl, f3⟩
          have F3 := (Fr.box wr (.cells #[.int .i64 lsn, .int .i64 ep, .int .i64 kind, .int .i64 page, .int .i64 other, .int .i64 req, .string key, .string val] 53)).seq' f3
          have HR2 : Hid (∃ R, Dl ls R p (q + 1) ∧ Has w3 8 (.slice (some ⟨g, 0, none⟩) n cap) n (R.flatMap recC)) := ⟨R, HD3.out, HHH.out w3 F3⟩
          clear hp f3
          go_wp2
          go_roundw
          case rel => exact ⟨p, q + 1, by omega, by omega, rfl, by go_num, HR2, F.trans F3 (fun _ _ f => f.elim)⟩
          case measure => simp [intOf]; omega
        | true =>
          rw [hc] at hp
          simp only [Bool.not_true] at hp
          have HD2 := HY.out hc
          have HD3 : Hid (Dl ls (R.set p ⟨lsn, ep, kind, page, other, req, key, val⟩) (p + 1) (q + 1)) := HD2
          clear HY HNO hc HD2
          go_wp2_with fail
          refine (hp _).mono ?_
          rintro e w3 ⟨rfl, f3⟩
          have F3 := (Fr.box wr (.cells #[.int .i64 lsn, .int .i64 ep, .int .i64 kind, .int .i64 page, .int .i64 other, .int .i64 req, .string key, .string val] 53)).seq' f3
          obtain ⟨⟨p0, p1, p2, p3, p4, p5, p6, p7⟩, qz⟩ := rec_cells (HB.out w3 f3)
          have hH3 := HHH.out w3 F3
          obtain ⟨_, _, _, hth⟩ := hH3.bounds
          have hts : ∀ j, j < 8 → (∃ x, w3.cell? ⟨g, p * 8 + j, none⟩ = some x) ∧ w3.frozen? ⟨g, p * 8 + j, none⟩ = false := fun j hj => by
            have := hth (p * 8 + j) (by omega)
            rw [Nat.zero_add] at this
            exact ⟨Option.isSome_iff_exists.1 this.1, this.2⟩
          have hput := hH3.put recC_length hpR ⟨lsn, ep, kind, page, other, req, key, val⟩
          have HR2 : Hid (∃ R, Dl ls R (p + 1) (q + 1) ∧ Has (w3.setCells g (p * 8) (recC ⟨lsn, ep, kind, page, other, req, key, val⟩)) 8 (.slice (some ⟨g, 0, none⟩) n cap) n (R.flatMap recC)) := ⟨_, HD3.out, hput⟩
          have F5 : Fr (fun k => k = g) w (w3.setCells g (p * 8) (recC ⟨lsn, ep, kind, page, other, req, key, val⟩)) := (F.trans F3 (fun _ _ f => f.elim)).trans (Fr.setCells (S := fun k => k = g) (a := w3) (b := g) (fun _ => rfl) _ _ (Fr.refl _ _)) (fun _ _ f => f)
          obtain ⟨⟨x0, u0⟩, v0⟩ := hts 0 (by omega)
          obtain ⟨⟨x1, u1⟩, v1⟩ := hts 1 (by omega)
          obtain ⟨⟨x2, u2⟩, v2⟩ := hts 2 (by omega)
          obtain ⟨⟨x3, u3⟩, v3⟩ := hts 3 (by omega)
          obtain ⟨⟨x4, u4⟩, v4⟩ := hts 4 (by omega)
          obtain ⟨⟨x5, u5⟩, v5⟩ := hts 5 (by omega)
          obtain ⟨⟨x6, u6⟩, v6⟩ := hts 6 (by omega)
          obtain ⟨⟨x7, u7⟩, v7⟩ := hts 7 (by omega)
          rw [Nat.add_zero] at u0 v0
          clear hp f3 hts hth hput hH3 HB HHH qz
          go_wp2
          go_roundw
          case rel => exact ⟨p + 1, q + 1, by omega, by omega, by go_num, by go_num, HR2, F5⟩
          case measure => simp [intOf]; omega
      · obtain rfl : q = n := by omega
        obtain ⟨_, _, hcx, hth⟩ := hh.bounds
        obtain ⟨Z, hZ, hZl, hZ1⟩ := zero_cellsR (q - p)
        have hcl : ∀ ty, (Builtin.clear_ #[22] ty #[.slice (some ⟨g, p * 8, none⟩) (q - p) (cap - p)]).run Tryz.prog wr = .ok (.tuple #[]) (wr.setCells g (p * 8) Z) := fun ty =>
          clear_recsR wr ty g (p * 8) (q - p) (cap - p) (by omega) Z hZ hZ1 (fun j hj => by have := (hth (p * 8 + j) (by rw [hZl] at hj; omega)).1; rw [Nat.zero_add] at this; exact this) (fun j hj => by have := (hth (p * 8 + j) (by rw [hZl] at hj; omega)).2; rw [Nat.zero_add] at this; exact this)
        have hfl : (R.flatMap recC).length = q * 8 := by rw [flat_length recC_length, hdl.len, HN.out]
        have HS := (hh.set (p * 8) Z (by rw [hfl, hZl]; omega)).shrinkR (i := p) (by omega)
        have htk : (List.take (p * 8) (R.flatMap recC) ++ Z ++ List.drop (p * 8 + Z.length) (R.flatMap recC)).take (p * 8) = (R.take p).flatMap recC := by
          rw [List.append_assoc, List.take_append_of_le_length (by rw [List.length_take, hfl]; omega), List.take_take, Nat.min_self, flat_take recC_length]
        have hkp : R.take p = hist ls := by rw [hdl.kept, List.take_of_length_le (by have := HN.out; omega)]
        rw [htk, hkp] at HS
        have hpl : p = (hist ls).length := by
          rw [← hkp, List.length_take, hdl.len]
          have := HN.out
          omega
        have Fset : Fr (fun k => k = g) w (wr.setCells g (p * 8) Z) := F.trans (Fr.setCells (S := fun k => k = g) (a := wr) (b := g) (fun _ => rfl) Z (p * 8) (Fr.refl _ _)) (fun _ _ f => f)
        have HFIN : Hid (DlO g cap ls w (.returned (.slice (some ⟨g, 0, none⟩) p cap)) (wr.setCells g (p * 8) Z)) := ⟨p, hpl, rfl, HS, Fset⟩
        obtain ⟨W2, hW2⟩ : ∃ W, W = wr.setCells g (p * 8) Z := ⟨_, rfl⟩
        rw [← hW2] at hcl HFIN
        have hpc : p ≤ cap := by omega
        clear hW2 HS Fset htk hfl hh hth hZ hZ1 hZl hkp hpl hdl HR hcx
        go_wp2
        go_ret
        exact HFIN.out
theorem delNo_any (a : Option Addr) (n c : Nat) (ls : List Rec) (hn : n = ls.length) (hs : n ≤ 1000000) (w : World) (h : Has w 8 (.slice a n c) n (ls.flatMap recC)) :
    Calls Tryz.prog 42 #[.slice a n c, .func (.func 44) #[] #[]] w fun e w' => ∃ m, m = (hist ls).length ∧ e = .returned (.slice a m c) ∧ Has w' 8 (.slice a m c) m ((hist ls).flatMap recC) ∧ Fr (fun k => (Value.slice a n c).ownBlock = some k) w w' := by
  rcases h.2 with ⟨h2, h3⟩ | ⟨g', cap', hv, _⟩
  · simp only [Value.slice.injEq] at h2
    obtain ⟨rfl, rfl, rfl⟩ := h2
    have h0 : ls = [] := List.eq_nil_of_length_eq_zero hn.symm
    subst h0
    have hix := idxNo_any none 0 0 [] rfl w (h.recs hn)
    clear h h3 hn hs
    go_enter Tryz.func42, Tryz.ntmps42
    go_wp2_with fail
    refine hix.mono ?_
    rintro e w1 ⟨⟨z, rfl, hz⟩, f1⟩
    clear hix
    rcases hz with ⟨rfl, hall⟩ | ⟨k, rfl, hk, hkk⟩
    · clear hall
      go_wp2
      go_ret
      exact ⟨0, rfl, rfl, Has.nil _ _, f1.widen (fun _ f => f.elim)⟩
    · simp at hk
  · simp only [Value.slice.injEq] at hv
    obtain ⟨rfl, _, rfl⟩ := hv
    refine (delNo_some g' n c ls hn hs w h).mono ?_
    rintro e w' ⟨m, h1, h2, h3, h4⟩
    exact ⟨m, h1, h2, h3, h4.widen (fun k e => by rw [e]; rfl)⟩
end Go.Proofs.YtdlnflcjodpkiaaGreat
