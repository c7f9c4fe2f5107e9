
/- FdDel2, FdHist, FdMap, FdCmp. -/
import Derived.Test.YthdbkanbgfajbaaGreatTB4
import Derived.Maps.OwnSet
import Derived.Maps.RangeWalk
import Derived.StringKeys
/- slices.DeleteFunc at records. -/
namespace Go.Proofs.YthdbkanbgfajbaaGreat
open Go.RowKit

theorem zero_cellsR (n : Nat) : ∃ Z : List Value, (Builtin.zeroCells #[.int .i64 0, .int .i64 0, .int .i64 0, .int .i64 0, .int .i64 0, .int .i64 0, .string ⟨#[]⟩, .string ⟨#[]⟩] n).toList = Z ∧ Z.length = n * 8 ∧ ∀ v ∈ Z, v.oneCell' = true := by
  refine ⟨_, rfl, by simp [Builtin.zeroCells], fun v hv => ?_⟩
  simp only [Builtin.zeroCells, Array.toList_map, List.mem_map] at hv
  obtain ⟨i, _, rfl⟩ := hv
  have : ∀ k : Fin 8, ((#[.int .i64 0, .int .i64 0, .int .i64 0, .int .i64 0, .int .i64 0, .int .i64 0, .string ⟨#[]⟩, .string ⟨#[]⟩] : Array Value)[k.val]!).oneCell' = true := by decide
  exact this ⟨i % 8, Nat.mod_lt _ (by omega)⟩
theorem clear_recsR (w : World) (ty : TypeId) (b o n c : Nat) (hn : 0 < n) (Z : List Value) (hZ : (Builtin.zeroCells #[.int .i64 0, .int .i64 0, .int .i64 0, .int .i64 0, .int .i64 0, .int .i64 0, .string ⟨#[]⟩, .string ⟨#[]⟩] n).toList = Z) (h1 : ∀ v ∈ Z, v.oneCell' = true)
    (hc : ∀ j, j < Z.length → (w.cell? ⟨b, o + j, none⟩).isSome = true) (hf : ∀ j, j < Z.length → w.frozen? ⟨b, o + j, none⟩ = false) :
    (Builtin.clear_ #[37] ty #[.slice (some ⟨b, o, none⟩) n c]).run Tryz.prog w = .ok (.tuple #[]) (w.setCells b o Z) := by
  have hst := run_storeCells_cells (P := Tryz.prog) b o Z 0 w (by simpa using hc) (by simpa using hf) h1
  simp only [Nat.add_zero] at hst
  obtain ⟨m, rfl⟩ : ∃ m, n = m + 1 := ⟨n - 1, by omega⟩
  have hv := fun w => Tryz.zeroValue44 (w := w)
  simp [Builtin.clear_, run_underlying Tryz.underlying37, Value.cells, hv, hZ, hst]
theorem Has.shrinkR {w : World} {size g n cap i : Nat} {xs : List Value} (h : Has w size (.slice (some ⟨g, 0, none⟩) n cap) n xs) (hi : i ≤ n) : Has w size (.slice (some ⟨g, 0, none⟩) i cap) i (xs.take (i * size)) := by
  refine ⟨?_, ?_⟩
  · rw [List.length_take, h.1]
    exact Nat.min_eq_left (Nat.mul_le_mul_right _ hi)
  · rcases h.2 with ⟨h2, _⟩ | ⟨g', cap', hv, hg, h1, h2, h3, h4⟩
    · cases h2
    · simp only [Value.slice.injEq, Option.some.injEq, Addr.mk.injEq, and_true, true_and] at hv
      obtain ⟨rfl, rfl⟩ := hv
      refine .inr ⟨g, cap, rfl, hg, by omega, h2, h3, fun j v hv => ?_⟩
      refine h4 j v ?_
      rw [List.getElem?_take] at hv
      split at hv
      · exact hv
      · cases hv
/-- What stands in the row while it is gone through: what is kept, whatever was there, what comes. -/
structure Dl (ls R : List Rec) (i j : Nat) : Prop where
  len : R.length = ls.length
  lt : i < j
  le : j ≤ ls.length
  kept : R.take i = hist (ls.take j)
  rest : ∀ k, j ≤ k → R[k]? = ls[k]?
theorem Dl.yes {ls R : List Rec} {i j : Nat} {r : Rec} (h : Dl ls R i j) (hr : ls[j]? = some r) (hc : comB r = true) : Dl ls (R.set i r) (i + 1) (j + 1) := by
  have hj : j < ls.length := (List.getElem?_eq_some_iff.1 hr).1
  have hi : i < R.length := by have := h.lt; have := h.len; omega
  refine ⟨by simpa using h.len, by have := h.lt; omega, hj, ?_, fun k hk => ?_⟩
  · rw [hist_yes hr hc, ← h.kept, take_snocH (r := r) (by rw [List.getElem?_set_self hi]), List.take_set_of_le (Nat.le_refl i)]
  · rw [List.getElem?_set_ne (by have := h.lt; omega)]; exact h.rest k (by omega)
theorem Dl.no {ls R : List Rec} {i j : Nat} {r : Rec} (h : Dl ls R i j) (hr : ls[j]? = some r) (hc : comB r = false) : Dl ls R i (j + 1) := by
  have hj : j < ls.length := (List.getElem?_eq_some_iff.1 hr).1
  exact ⟨h.len, by have := h.lt; omega, hj, by rw [hist_no hr hc]; exact h.kept, fun k hk => h.rest k (by omega)⟩
theorem Has.bounds {w : World} {size g n cap : Nat} {xs : List Value} (h : Has w size (.slice (some ⟨g, 0, none⟩) n cap) n xs) : g < w.heap.size ∧ n ≤ cap ∧ cap ≤ maxLen ∧ w.there g 0 (cap * size) := by
  rcases h.2 with ⟨h2, _⟩ | ⟨g', cap', hv, hg, h1, h2, h3, h4⟩
  · cases h2
  · simp only [Value.slice.injEq, Option.some.injEq, Addr.mk.injEq, and_true, true_and] at hv
    obtain ⟨rfl, rfl⟩ := hv
    exact ⟨hg, h1, h2, h3⟩
theorem Has.recs {w : World} {a : Option Addr} {n c : Nat} {ls : List Rec} (hn : n = ls.length) (h : Has w 8 (.slice a n c) n (ls.flatMap recC)) : Recs w a c ls := by
  subst hn
  obtain ⟨a', c', e, hr⟩ := Recs.of h
  simp only [Value.slice.injEq, true_and] at e
  obtain ⟨rfl, rfl⟩ := e
  exact hr
/-- What DeleteFunc leaves. -/
def DlO (g cap : Nat) (ls : List Rec) (w : World) (e : Ending) (w' : World) : Prop := ∃ m, m = (hist ls).length ∧ e = .returned (.slice (some ⟨g, 0, none⟩) m cap) ∧ Has w' 8 (.slice (some ⟨g, 0, none⟩) m cap) m ((hist ls).flatMap recC) ∧ Fr (fun k => k = g) w w'
set_option maxRecDepth 100000 in
set_option maxHeartbeats 8000000 in
theorem delNo_some (g n cap : Nat) (ls : List Rec) (hn : n = ls.length) (hs : n ≤ 1000000) (w : World) (h : Has w 8 (.slice (some ⟨g, 0, none⟩) n cap) n (ls.flatMap recC)) :
    Calls Tryz.prog 20 #[.slice (some ⟨g, 0, none⟩) n cap, .func (.func 22) #[] #[]] w (DlO g cap ls w) := by
  have hix := idxNo_any (some ⟨g, 0, none⟩) n cap ls hn w (h.recs hn)
  obtain ⟨hg, hnc, hcx, _⟩ := h.bounds
  have hcm : cap ≤ 9223372036854775807 := by unfold maxLen at hcx; omega
  have HH : Hid (∀ W, Fr (fun _ => False) w W → Has W 8 (.slice (some ⟨g, 0, none⟩) n cap) n (ls.flatMap recC)) := fun W f => h.fr f (fun _ _ f => f)
  have HN : Hid (n = ls.length) := hn
  clear h hn hcx
  go_enter Tryz.func20, Tryz.ntmps20
  go_wp2_with fail
  refine hix.mono ?_
  rintro e w1 ⟨⟨z, rfl, hz⟩, f1⟩
  clear hix
  rcases hz with ⟨rfl, hall⟩ | ⟨k, rfl, hk, hkk⟩
  · have HF : Hid (DlO g cap ls w (.returned (Value.slice (some ⟨g, 0, none⟩) n cap)) w1) := ⟨n, by rw [hall]; exact HN.out, rfl, by rw [hall]; exact HH.out w1 f1, f1.widen (fun _ f => f.elim)⟩
    clear hall
    go_wp2
    go_ret
    exact HF.out
  · have HD : Hid (∃ R, Dl ls R k (k + 1) ∧ Has w1 8 (.slice (some ⟨g, 0, none⟩) n cap) n (R.flatMap recC)) := ⟨ls, ⟨rfl, by omega, by omega, hkk.symm, fun _ _ => rfl⟩, HH.out w1 f1⟩
    have hkn : k < n := by have := HN.out; omega
    have F1 : Fr (fun k => k = g) w w1 := f1.widen (fun _ f => f.elim)
    have hk1 : ((k : Int) == -1) = false := by simp
    clear hkk f1 HH hk
    go_wp2
    go_loopw [5, 6] (fun i j wr => ∃ (p q : Nat), q ≤ n ∧ p < q ∧ i = .int .i64 p ∧ j = .int .i64 q ∧ Hid (∃ R, Dl ls R p q ∧ Has wr 8 (.slice (some ⟨g, 0, none⟩) n cap) n (R.flatMap recC)) ∧ Fr (fun k => k = g) w wr) (fun _ j _ => n - (intOf j).toNat)
    case atStart => exact ⟨k, k + 1, by omega, by omega, rfl, by go_num, HD, F1⟩
    case round =>
      obtain ⟨p, q, hq, hpq, rfl, rfl, HR, F⟩ := hrel
      obtain ⟨R, hdl, hh⟩ := HR.out
      by_cases hlt : q < n
      · obtain ⟨r, hr⟩ : ∃ r, ls[q]? = some r := ⟨_, List.getElem?_eq_getElem (by have := HN.out; omega)⟩
        have hRr : R[q]? = some r := by rw [hdl.rest q (Nat.le_refl _)]; exact hr
        obtain ⟨q0, q1, q2, q3, q4, q5, q6, q7⟩ := rec_range (hh.elem recC_length hRr)
        have HY : Hid (comB r = true → Dl ls (R.set p r) (p + 1) (q + 1)) := fun h => hdl.yes hr h
        have HNO : Hid (comB r = false → Dl ls R p (q + 1)) := fun h => hdl.no hr h
        have hpR : p < R.length := by have := hdl.len; have := HN.out; omega
        obtain ⟨lsn, ep, kind, page, other, req, key, val⟩ := r
        dsimp only at q0 q1 q2 q3 q4 q5 q6 q7
        have hp := noCommit_any lsn ep kind page other req key val
        have HB : Hid (∀ W, Fr (fun _ => False) (wr.alloc (.cells #[.int .i64 lsn, .int .i64 ep, .int .i64 kind, .int .i64 page, .int .i64 other, .int .i64 req, .string key, .string val] 44)) W → W.heap[wr.heap.size]? = some (.cells #[.int .i64 lsn, .int .i64 ep, .int .i64 kind, .int .i64 page, .int .i64 other, .int .i64 req, .string key, .string val] 44 (0, 0))) := fun W f => rec_at wr _ _ f
        have hqi : (q : Int) < (n : Int) := by omega
        have hpi : (p : Int) < (n : Int) := by omega
        have HHH : Hid (∀ W, Fr (fun _ => False) wr W → Has W 8 (.slice (some ⟨g, 0, none⟩) n cap) n (R.flatMap recC)) := fun W f => hh.fr f (fun _ _ f => f)
        clear hr hRr hdl hh HR
        cases hc : comB ⟨lsn, ep, kind, page, other, req, key, val⟩ with
        | false =>
          rw [hc] at hp
          simp only [Bool.not_false] at hp
          have HD2 := HNO.out hc
          have HD3 : Hid (Dl ls R p (q + 1)) := HD2
          clear HY HNO hc HD2
          go_wp2_with fail
          refine (hp _).mono ?_
          rintro e w3 ⟨rfl, f3⟩
          have F3 := (Fr.box wr (.cells #[.int .i64 lsn, .int .i64 ep, .int .i64 kind, .int .i64 page, .int .i64 other, .int .i64 req, .string key, .string val] 44)).seq' f3
          have HR2 : Hid (∃ R, Dl ls R p (q + 1) ∧ Has w3 8 (.slice (some ⟨g, 0, none⟩) n cap) n (R.flatMap recC)) := ⟨R, HD3.out, HHH.out w3 F3⟩
          clear hp f3
          go_wp2
          go_roundw
          case rel => exact ⟨p, q + 1, by omega, by omega, rfl, by go_num, HR2, F.trans F3 (fun _ _ f => f.elim)⟩
          case measure => simp [intOf]; omega
        | true =>
          rw [hc] at hp
          simp only [Bool.not_true] at hp
          have HD2 := HY.out hc
          have HD3 : Hid (Dl ls (R.set p ⟨lsn, ep, kind, page, other, req, key, val⟩) (p + 1) (q + 1)) := HD2
          clear HY HNO hc HD2
          go_wp2_with fail
          refine (hp _).mono ?_
          rintro e w3 ⟨rfl, f3⟩
          have F3 := (Fr.box wr (.cells #[.int .i64 lsn, .int .i64 ep, .int .i64 kind, .int .i64 page, .int .i64 other, .int .i64 req, .string key, .string val] 44)).seq' f3
          obtain ⟨⟨p0, p1, p2, p3, p4, p5, p6, p7⟩, qz⟩ := rec_cells (HB.out w3 f3)
          have hH3 := HHH.out w3 F3
          obtain ⟨_, _, _, hth⟩ := hH3.bounds
          have hts : ∀ j, j < 8 → (∃ x, w3.cell? ⟨g, p * 8 + j, none⟩ = some x) ∧ w3.frozen? ⟨g, p * 8 + j, none⟩ = false := fun j hj => by
            have := hth (p * 8 + j) (by omega)
            rw [Nat.zero_add] at this
            exact ⟨Option.isSome_iff_exists.1 this.1, this.2⟩
          have hput := hH3.put recC_length hpR ⟨lsn, ep, kind, page, other, req, key, val⟩
          have HR2 : Hid (∃ R, Dl ls R (p + 1) (q + 1) ∧ Has (w3.setCells g (p * 8) (recC ⟨lsn, ep, kind, page, other, req, key, val⟩)) 8 (.slice (some ⟨g, 0, none⟩) n cap) n (R.flatMap recC)) := ⟨_, HD3.out, hput⟩
          have F5 : Fr (fun k => k = g) w (w3.setCells g (p * 8) (recC ⟨lsn, ep, kind, page, other, req, key, val⟩)) := (F.trans F3 (fun _ _ f => f.elim)).trans (Fr.setCells (S := fun k => k = g) (a := w3) (b := g) (fun _ => rfl) _ _ (Fr.refl _ _)) (fun _ _ f => f)
          obtain ⟨⟨x0, u0⟩, v0⟩ := hts 0 (by omega)
          obtain ⟨⟨x1, u1⟩, v1⟩ := hts 1 (by omega)
          obtain ⟨⟨x2, u2⟩, v2⟩ := hts 2 (by omega)
          obtain ⟨⟨x3, u3⟩, v3⟩ := hts 3 (by omega)
          obtain ⟨⟨x4, u4⟩, v4⟩ := hts 4 (by omega)
          obtain ⟨⟨x5, u5⟩, v5⟩ := hts 5 (by omega)
          obtain ⟨⟨x6, u6⟩, v6⟩ := hts 6 (by omega)
          obtain ⟨⟨x7, u7⟩, v7⟩ := hts 7 (by omega)
          rw [Nat.add_zero] at u0 v0
          clear hp f3 hts hth hput hH3 HB HHH qz
          go_wp2
          go_roundw
          case rel => exact ⟨p + 1, q + 1, by omega, by omega, by go_num, by go_num, HR2, F5⟩
          case measure => simp [intOf]; omega
      · obtain rfl : q = n := by omega
        obtain ⟨_, _, hcx, hth⟩ := hh.bounds
        obtain ⟨Z, hZ, hZl, hZ1⟩ := zero_cellsR (q - p)
        have hcl : ∀ ty, (Builtin.clear_ #[37] ty #[.slice (some ⟨g, p * 8, none⟩) (q - p) (cap - p)]).run Tryz.prog wr = .ok (.tuple #[]) (wr.setCells g (p * 8) Z) := fun ty =>
          clear_recsR wr ty g (p * 8) (q - p) (cap - p) (by omega) Z hZ hZ1 (fun j hj => by have := (hth (p * 8 + j) (by rw [hZl] at hj; omega)).1; rw [Nat.zero_add] at this; exact this) (fun j hj => by have := (hth (p * 8 + j) (by rw [hZl] at hj; omega)).2; rw [Nat.zero_add] at this; exact this)
        have hfl : (R.flatMap recC).length = q * 8 := by rw [flat_length recC_length, hdl.len, HN.out]
        have HS := (hh.set (p * 8) Z (by rw [hfl, hZl]; omega)).shrinkR (i := p) (by omega)
        have htk : (List.take (p * 8) (R.flatMap recC) ++ Z ++ List.drop (p * 8 + Z.length) (R.flatMap recC)).take (p * 8) = (R.take p).flatMap recC := by
          rw [List.append_assoc, List.take_append_of_le_length (by rw [List.length_take, hfl]; omega), List.take_take, Nat.min_self, flat_take recC_length]
        have hkp : R.take p = hist ls := by rw [hdl.kept, List.take_of_length_le (by have := HN.out; omega)]
        rw [htk, hkp] at HS
        have hpl : p = (hist ls).length := by
          rw [← hkp, List.length_take, hdl.len]
          have := HN.out
          omega
        have Fset : Fr (fun k => k = g) w (wr.setCells g (p * 8) Z) := F.trans (Fr.setCells (S := fun k => k = g) (a := wr) (b := g) (fun _ => rfl) Z (p * 8) (Fr.refl _ _)) (fun _ _ f => f)
        have HFIN : Hid (DlO g cap ls w (.returned (.slice (some ⟨g, 0, none⟩) p cap)) (wr.setCells g (p * 8) Z)) := ⟨p, hpl, rfl, HS, Fset⟩
        obtain ⟨W2, hW2⟩ : ∃ W, W = wr.setCells g (p * 8) Z := ⟨_, rfl⟩
        rw [← hW2] at hcl HFIN
        have hpc : p ≤ cap := by omega
        clear hW2 HS Fset htk hfl hh hth hZ hZ1 hZl hkp hpl hdl HR hcx
        go_wp2
        go_ret
        exact HFIN.out
theorem delNo_any (a : Option Addr) (n c : Nat) (ls : List Rec) (hn : n = ls.length) (hs : n ≤ 1000000) (w : World) (h : Has w 8 (.slice a n c) n (ls.flatMap recC)) :
    Calls Tryz.prog 20 #[.slice a n c, .func (.func 22) #[] #[]] w fun e w' => ∃ m, m = (hist ls).length ∧ e = .returned (.slice a m c) ∧ Has w' 8 (.slice a m c) m ((hist ls).flatMap recC) ∧ Fr (fun k => (Value.slice a n c).ownBlock = some k) w w' := by
  rcases h.2 with ⟨h2, h3⟩ | ⟨g', cap', hv, _⟩
  · simp only [Value.slice.injEq] at h2
    obtain ⟨rfl, rfl, rfl⟩ := h2
    have h0 : ls = [] := List.eq_nil_of_length_eq_zero hn.symm
    subst h0
    have hix := idxNo_any none 0 0 [] rfl w (h.recs hn)
    clear h h3 hn hs
    go_enter Tryz.func20, Tryz.ntmps20
    go_wp2_with fail
    refine hix.mono ?_
    rintro e w1 ⟨⟨z, rfl, hz⟩, f1⟩
    clear hix
    rcases hz with ⟨rfl, hall⟩ | ⟨k, rfl, hk, hkk⟩
    · clear hall
      go_wp2
      go_ret
      exact ⟨0, rfl, rfl, Has.nil _ _, f1.widen (fun _ f => f.elim)⟩
    · simp at hk
  · simp only [Value.slice.injEq] at hv
    obtain ⟨rfl, _, rfl⟩ := hv
    refine (delNo_some g' n c ls hn hs w h).mono ?_
    rintro e w' ⟨m, h1, h2, h3, h4⟩
    exact ⟨m, h1, h2, h3, h4.widen (fun k e => by rw [e]; rfl)⟩
end Go.Proofs.YthdbkanbgfajbaaGreat

/- The history of records, on both sides. -/
namespace Go.Proofs.YthdbkanbgfajbaaGreat
open Go.RowKit

set_option maxRecDepth 100000 in
set_option maxHeartbeats 4000000 in
theorem history_any (a : Option Addr) (n c : Nat) (ls : List Rec) (hn : n = ls.length) (hf : n ≤ 1000000) (w : World) (h : Recs w a c ls) :
    Calls Tryz.prog 11 #[.slice a n c] w fun e w' => RcOut w (hist ls) e w' := by
  have hcl := cloneR a n c ls w h hn (by omega)
  have HN : Hid (n = ls.length) := hn
  clear hn h
  go_enter Tryz.func11, Tryz.ntmps11
  go_wp2_with fail
  refine hcl.mono ?_
  rintro e w1 ⟨a1, c1, rfl, h1, f1, ho⟩
  have hdl := delNo_any a1 ls.length c1 ls rfl (by have := HN.out; omega) w1 h1
  have HO : Hid (∀ k, (Value.slice a1 ls.length c1).ownBlock = some k → w.heap.size ≤ k) := ho
  clear hcl ho
  dsimp only
  go_wp2_with fail
  refine hdl.mono ?_
  rintro e w2 ⟨m, hm, rfl, h2, f2⟩
  have HFIN : Hid (RcOut w (hist ls) (.returned (.slice a1 m c1)) w2) := by
    subst hm
    refine ⟨a1, c1, rfl, h2.recs rfl, fun k hk => HO.out k ?_, f1.trans f2 (fun i hi e => by have := HO.out i e; omega)⟩
    cases a1 with
    | none => cases hk
    | some x => exact hk
  clear hdl h1 h2 f2 hm
  go_wp2
  go_ret
  exact HFIN.out

end Go.Proofs.YthdbkanbgfajbaaGreat

/- A map from keys to entries, in memory, as a rising list. -/
namespace Go.Proofs.YthdbkanbgfajbaaGreat
open Go.RowKit
open Go.Maps (Keyed)

/-- A map's element is read as it lies there. -/
def vR : Value → Option (DataW Value × List MemPlace) := fun v => some (.held v, [])
def enV (e : En) : Value := .agg #[.string e.1, .string e.2]
def en0 : En := (⟨#[]⟩, ⟨#[]⟩)
def kL (x : ByteArray) : Lit := .string x.data.toList
theorem kL_inj {x y : ByteArray} (h : x ≠ y) : kL x ≠ kL y := fun e => by
  simp only [kL, Lit.string.injEq] at e
  have : x.data = y.data := Array.ext' e
  apply h
  cases x; cases y; cases this; rfl
/-- A datum says what a list says. -/
structure ELike (D : DataW Value) (L : List En) : Prop where
  has : ∀ x, x.size ≤ maxLen → Maps.has D (kL x) = (fnd L x).isSome
  at_ : ∀ x e, x.size ≤ maxLen → fnd L x = some e → ∀ z, D.atKey (kL x) z = .held (enV e)
theorem ekeyed : Keyed Tryz.prog 9 := Maps.string_keyed Tryz.underlying9
theorem ekey' {x : ByteArray} (h : x.size ≤ maxLen) : keyOf Tryz.prog 9 (.string x) = some (kL x) := WideMaps.keyOf_string_mk Tryz.underlying9 h
theorem ezero (w : World) : (zeroValue 107).run Tryz.prog w = .ok (enV en0) w := by kernel_rfl
structure Em (w : World) (b : Nat) (L : List En) : Prop where
  ris : Ris L
  sml : ∀ e ∈ L, e.1.size ≤ maxLen
  own : ∃ D, w.ownsMap Tryz.prog 9 vR b L.length D ∧ Maps.size D = L.length ∧ ELike D L
theorem eownsMap_fit {w : World} {b n : Nat} {D : DataW Value} (h : w.ownsMap Tryz.prog 9 vR b n D) : w.ownsMap Tryz.prog 9 vR b (Maps.size D) D := by
  obtain ⟨es, clock, hb, F, hs, rfl⟩ := h
  exact ⟨es, clock, hb, F, by simp [Maps.size, length_sorted], rfl⟩
theorem Em.lt {w : World} {b : Nat} {L : List En} (h : Em w b L) : b < w.heap.size := by
  obtain ⟨D, h1, _⟩ := h.own
  exact h1.lt
theorem Em.fr {S : Nat → Prop} {w w' : World} {b : Nat} {L : List En} (h : Em w b L) (f : Fr S w w') (hn : ¬ S b) : Em w' b L := by
  obtain ⟨D, h1, h2⟩ := h.own
  refine ⟨h.ris, h.sml, D, ?_, h2⟩
  have hlt := h1.lt
  obtain ⟨es, clock, hb, r⟩ := h1
  exact ⟨es, clock, (f.block b hlt hn).trans hb, r⟩
theorem Em.same {w w' : World} {b : Nat} {L : List En} (h : Em w b L) (f : Fr (fun _ => False) w w') : Em w' b L := h.fr f (fun f => f)
theorem Em.made (w : World) : Em (w.alloc (.map #[] 0)) w.heap.size [] :=
  ⟨List.Pairwise.nil, (fun _ h => by cases h), .map [], World.ownsMap_made w Tryz.prog 9 vR, rfl, ⟨fun _ _ => rfl, (fun _ _ _ h => by cases h)⟩⟩
theorem Em.atD {D : DataW Value} {L : List En} (hl : ELike D L) {x : ByteArray} (hx : x.size ≤ maxLen) : D.atKey (kL x) (.held (enV en0)) = .held (enV ((fnd L x).getD en0)) := by
  cases hm : fnd L x with
  | none =>
    have := hl.has x hx
    rw [hm] at this
    exact Maps.atKey_of_not_has this _
  | some s => exact hl.at_ x s hx hm _
theorem Em.look {w : World} {b : Nat} {L : List En} (h : Em w b L) {x : ByteArray} (hx : x.size ≤ maxLen) :
    (Instr.lookup 91 (.map (some b)) (.string x) true).run Tryz.prog w = .ok (.tuple #[.agg #[.string ((fnd L x).getD en0).1, .string ((fnd L x).getD en0).2], .bool (fnd L x).isSome]) w := by
  obtain ⟨D, h1, _, hl⟩ := h.own
  obtain ⟨v, ps, hrun, hv⟩ := h1.look_ok ekeyed Tryz.underlying91 (ezero w) (show vR (enV en0) = some (.held (enV en0), []) from rfl) (ekey' hx)
  rw [Em.atD hl hx] at hv
  simp only [vR, Option.some.injEq, Prod.mk.injEq, DataW.held.injEq] at hv
  rw [hrun, hl.has x hx, hv.1]
  rfl
theorem Em.look1 {w : World} {b : Nat} {L : List En} (h : Em w b L) {x : ByteArray} (hx : x.size ≤ maxLen) :
    (Instr.lookup 91 (.map (some b)) (.string x) false).run Tryz.prog w = .ok (.agg #[.string ((fnd L x).getD en0).1, .string ((fnd L x).getD en0).2]) w := by
  obtain ⟨D, h1, _, hl⟩ := h.own
  obtain ⟨v, ps, hrun, hv⟩ := h1.lookup ekeyed Tryz.underlying91 (ezero w) (show vR (enV en0) = some (.held (enV en0), []) from rfl) (ekey' hx)
  rw [Em.atD hl hx] at hv
  simp only [vR, Option.some.injEq, Prod.mk.injEq, DataW.held.injEq] at hv
  rw [hrun, hv.1]
  rfl
theorem Fr.eturned {w w' : World} {b : Nat} (h : w.mapTurned w' b) : Fr (fun k => k = b) w w' := (Fr.refl _ w).grown h.grown (fun k e _ => by simp only [Option.some.injEq] at e; exact e.symm)
theorem sml_wth {k v : ByteArray} {L : List En} (hr : Ris L) (hs : ∀ e ∈ L, e.1.size ≤ maxLen) (hk : k.size ≤ maxLen) (p : Bool) : ∀ e ∈ wthG k v p L, e.1.size ≤ maxLen := fun e he => by
  rcases (mem_wth hr p e).1 he with ⟨h, _⟩ | ⟨_, rfl⟩
  · exact hs e h
  · exact hk
theorem Em.store {w : World} {b : Nat} {L : List En} (h : Em w b L) (hn : L.length ≤ 1000000) {x : ByteArray} (hx : x.size ≤ maxLen) (v : ByteArray) :
    ∃ w', (Instr.mapUpdate 91 (.map (some b)) (.string x) (.agg #[.string x, .string v])).run Tryz.prog w = .ok () w' ∧ Em w' b (wthG x v false L) ∧ Fr (fun k => k = b) w w' := by
  obtain ⟨D, h1, h2, hl⟩ := h.own
  obtain ⟨w', hrun, hown, hturn⟩ := h1.store ekeyed Tryz.underlying91 (by unfold maxLen; omega) (ekey' hx) (show vR (.agg #[.string x, .string v]) = some (.held (enV (x, v)), []) from rfl)
  have hm := h1.isMap
  have hkl : WideAt.IsKeyLit (kL x) := trivial
  have hsz : Maps.size (D.put (kL x) (.held (enV (x, v)))) = (wthG x v false L).length := by
    rw [Maps.size_put (h1.tidy ekeyed), hl.has x hx, h2, len_wth h.ris]
    simp only [Bool.false_eq_true, if_false]
    split
    · rename_i hs
      obtain ⟨e, he, _⟩ := fnd_some.1 hs
      have := List.length_pos_of_mem he
      omega
    · omega
  refine ⟨w', hrun, ⟨ris_wth h.ris _, sml_wth h.ris h.sml hx _, _, ?_, hsz, ⟨fun y hy => ?_, fun y k hy hk z => ?_⟩⟩, Fr.eturned hturn⟩
  · have := eownsMap_fit hown
    rw [hsz] at this
    exact this
  · rw [fnd_wth h.ris]
    by_cases e : y = x
    · subst e; rw [if_pos rfl, Maps.has_put_same hm hkl]; rfl
    · rw [if_neg e, Maps.has_put_other (kL_inj e), hl.has y hy]
  · rw [fnd_wth h.ris] at hk
    by_cases e : y = x
    · subst e
      rw [if_pos rfl] at hk
      simp only [Bool.false_eq_true, if_false, Option.some.injEq] at hk
      subst hk
      exact Maps.atKey_put_same hm hkl _ _
    · rw [if_neg e] at hk
      rw [Maps.atKey_put_other (kL_inj e)]
      exact hl.at_ y k hy hk z
theorem Em.drop {w : World} {b : Nat} {L : List En} (h : Em w b L) {x : ByteArray} (hx : x.size ≤ maxLen) (v : ByteArray) (ty : TypeId) :
    ∃ w', (Builtin.delete_ #[91, 9] ty #[.map (some b), .string x]).run Tryz.prog w = .ok (.tuple #[]) w' ∧ Em w' b (wthG x v true L) ∧ Fr (fun k => k = b) w w' := by
  obtain ⟨D, h1, h2, hl⟩ := h.own
  obtain ⟨w', hrun, hown, hturn⟩ := h1.drop ekeyed Tryz.underlying91 (ekey' hx) ty
  have hsz : Maps.size (D.del (kL x)) = (wthG x v true L).length := by
    have := Maps.size_del (k := kL x) (h1.tidy ekeyed)
    rw [hl.has x hx, h2] at this
    rw [len_wth h.ris]
    simp only [if_true]
    split
    · rename_i hs; rw [if_pos hs] at this; omega
    · rename_i hs; rw [if_neg hs] at this; omega
  refine ⟨w', hrun, ⟨ris_wth h.ris _, sml_wth h.ris h.sml hx _, _, ?_, hsz, ⟨fun y hy => ?_, fun y k hy hk z => ?_⟩⟩, Fr.eturned hturn⟩
  · have := eownsMap_fit hown
    rw [hsz] at this
    exact this
  · rw [fnd_wth h.ris]
    by_cases e : y = x
    · subst e; rw [if_pos rfl, Maps.has_del_same]; rfl
    · rw [if_neg e, Maps.has_del_other (kL_inj e), hl.has y hy]
  · rw [fnd_wth h.ris] at hk
    by_cases e : y = x
    · subst e; rw [if_pos rfl] at hk; simp at hk
    · rw [if_neg e] at hk
      rw [Maps.atKey_del_other (kL_inj e)]
      exact hl.at_ y k hy hk z
theorem Em.len {w : World} {b : Nat} {L : List En} (h : Em w b L) (ty : TypeId) : (Builtin.len_ #[91] ty #[.map (some b)]).run Tryz.prog w = .ok (.int .i64 (L.length : Nat)) w := by
  obtain ⟨D, h1, h2, hl⟩ := h.own
  rw [h1.len Tryz.underlying91 ty, h2]
/-- A write of a commit. -/
theorem write_any {w : World} {b : Nat} {L : List En} (h : Em w b L) (hn : L.length ≤ 1000000) (r : Rec) (hk : r.key.size ≤ 1000) :
    Calls Tryz.prog 53 #[.map (some b), (.agg #[.int .i64 r.lsn, .int .i64 r.ep, .int .i64 r.kind, .int .i64 r.page, .int .i64 r.other, .int .i64 r.req, .string r.key, .string r.val])] w fun e w' => e = .returned (.tuple #[]) ∧ Em w' b (wth L r) ∧ Fr (fun k => k = b) w w' := by
  obtain ⟨lsn, ep, kind, page, other, req, key, val⟩ := r
  dsimp only at hk ⊢
  unfold wth
  dsimp only
  have hkm : key.size ≤ maxLen := by unfold maxLen; omega
  have f0 : Fr (fun k => k = b) w (w.alloc (.cells #[.int .i64 lsn, .int .i64 ep, .int .i64 kind, .int .i64 page, .int .i64 other, .int .i64 req, .string key, .string val] 44)) := (Fr.refl _ w).alloc _
  have h' := h.fr (Fr.box w (.cells #[.int .i64 lsn, .int .i64 ep, .int .i64 kind, .int .i64 page, .int .i64 other, .int .i64 req, .string key, .string val] 44)) (fun f => f)
  by_cases ho : other = 1
  · subst ho
    obtain ⟨w', hrun, hem, f1⟩ := h'.store hn hkm val
    have HF : Hid (Em w' b (wthG key val false L) ∧ Fr (fun k => k = b) w w') := ⟨hem, f0.trans f1 (fun _ _ e => e)⟩
    have e0 : decide ((1 : Int) ≠ 1) = false := rfl
    rw [e0]
    clear hem f1 h' h f0 hn hkm hk
    go_enter Tryz.func53, Tryz.ntmps53
    go_wp2
    go_end0
    exact ⟨rfl, HF.out⟩
  · have hob : (other == 1) = false := by simpa using ho
    obtain ⟨w', hrun, hem, f1⟩ := h'.drop hkm val 0
    have HF : Hid (Em w' b (wthG key val true L) ∧ Fr (fun k => k = b) w w') := ⟨hem, f0.trans f1 (fun _ _ e => e)⟩
    have e0 : decide (other ≠ 1) = true := by simpa using ho
    rw [e0]
    clear hem f1 h' h f0 hn hkm hk e0 ho
    go_enter Tryz.func53, Tryz.ntmps53
    go_wp2
    go_end0
    exact ⟨rfl, HF.out⟩
end Go.Proofs.YthdbkanbgfajbaaGreat

/- The order of keys, told with nothing but draws. -/
namespace Go.Proofs.YthdbkanbgfajbaaGreat
open Go.RowKit

/-- A world ahead by draws alone. -/
structure Dr (w w' : World) : Prop where
  ex : ∃ q, w' = w.drewN q
theorem Dr.refl (w : World) : Dr w w := ⟨0, rfl⟩
theorem Dr.drewN {a w : World} (h : Dr a w) (n : Nat) : Dr a (w.drewN n) := by
  obtain ⟨q, rfl⟩ := h.ex
  exact ⟨q + n, by simp [World.drewN, Nat.add_assoc]⟩
theorem Dr.fr {S : Nat → Prop} {a w : World} (h : Dr a w) : Fr S a w := by
  obtain ⟨q, rfl⟩ := h.ex
  exact (Fr.refl _ _).drewN q
set_option maxRecDepth 100000 in
set_option maxHeartbeats 1000000 in
theorem commonD_any (a b : ByteArray) (ha : a.size ≤ maxLen) (hb : b.size ≤ maxLen) (w : World) :
    Calls Tryz.prog 75 #[.string a, .string b] w fun e w' => e = .returned (.int .i64 (cmn (bsOf a) (bsOf b) : Nat)) ∧ Dr w w' := by
  unfold maxLen at ha hb
  by_cases hm : (b.size : Int) < (a.size : Int)
  all_goals
    go_enter Tryz.func75, Tryz.ntmps75
    go_wp2
    go_loopw [13, 6] (fun i _ wr => ∃ k : Nat, k ≤ a.size ∧ k ≤ b.size ∧ i = .int .i64 k ∧ Hid (∀ j, j < k → (bsOf a).getD j 0 = (bsOf b).getD j 0) ∧ Dr w wr) (fun i _ _ => a.size - (intOf i).toNat)
    case atStart => exact ⟨0, by omega, by omega, rfl, (fun j h => by omega), Dr.refl _⟩
    case round =>
      obtain ⟨k, hk, hk2, rfl, HE, hf⟩ := hrel
      by_cases hlt : k < a.size ∧ k < b.size
      · obtain ⟨h1, h2⟩ := hlt
        have HA : Hid (a[k].toNat = (bsOf a).getD k 0) := bs_at a k h1
        have HB : Hid (b[k].toNat = (bsOf b).getD k 0) := bs_at b k h2
        go_wp2
        go_quiet (fail)
        go_wp2
        · go_ret
          exact ⟨ret_int (by rw [cmn_is (bsOf a) (bsOf b) k (by rw [bsOf_length]; omega) (by rw [bsOf_length]; omega) HE.out (.inr (.inr (by rw [← HA.out, ← HB.out]; exact bne_nat ‹_›)))]), hf.drewN _⟩
        · go_roundw
          case rel =>
            refine ⟨k + 1, by omega, by omega, by go_num, fun j hj => ?_, hf.drewN _⟩
            rcases Nat.lt_or_ge j k with h | h
            · exact HE.out j h
            · have e : j = k := by omega
              rw [e, ← HA.out, ← HB.out]; exact beq_nat ‹_›
          case measure => simp [intOf]; omega
      · have e : k = a.size ∨ k = b.size := by omega
        have HM : Hid (k = a.size ∨ k = b.size) := e
        have hge : ¬ (k : Int) < (a.size : Int) ∨ ¬ (k : Int) < (b.size : Int) := by omega
        clear e hlt
        go_wp2
        go_ret
        exact ⟨ret_int (by rw [cmn_is (bsOf a) (bsOf b) k (by rw [bsOf_length]; omega) (by rw [bsOf_length]; omega) HE.out (by rw [bsOf_length, bsOf_length]; have := HM.out; omega)]; omega), hf⟩
set_option maxRecDepth 100000 in
set_option maxHeartbeats 1000000 in
theorem compareD_any (a b : ByteArray) (ha : a.size ≤ maxLen) (hb : b.size ≤ maxLen) (w : World) :
    Calls Tryz.prog 62 #[.string a, .string b] w fun e w' => e = .returned (.int .i64 (cpl (bsOf a) (bsOf b))) ∧ Dr w w' := by
  have hc := cpl_at (bsOf a) (bsOf b)
  have hl := cmn_le (bsOf a) (bsOf b)
  have common := commonD_any a b ha hb w
  unfold maxLen at ha hb
  rw [bsOf_length, bsOf_length] at hc hl
  obtain ⟨n, hn⟩ : ∃ n, n = cmn (bsOf a) (bsOf b) := ⟨_, rfl⟩
  rw [← hn] at hc hl common
  clear hn
  have l1 := hl.1
  have l2 := hl.2
  clear hl
  by_cases hx : n < a.size ∧ n < b.size
  · rw [if_pos hx] at hc
    obtain ⟨h1, h2⟩ := hx
    have HA := bs_at a n h1
    have HB := bs_at b n h2
    rw [← HA, ← HB] at hc
    have HC : Hid (cpl (bsOf a) (bsOf b) = cpn a[n].toNat b[n].toNat) := hc
    clear hc HA HB
    go_enter Tryz.func62, Tryz.ntmps62
    go_wp2_with fail
    refine common.mono ?_
    rintro e w1 ⟨rfl, hf⟩
    clear common
    go_wp2
    go_quiet ((go_at_call 76; exact Calls.quiet_of_same (cmpb_any _ _ _)))
    go_wp2
    go_ret
    exact ⟨ret_int HC.out.symm, hf.drewN _⟩
  · rw [if_neg hx] at hc
    have HC : Hid (cpl (bsOf a) (bsOf b) = cpn a.size b.size) := hc
    clear hc
    by_cases h1 : n < a.size
    · have h2 : ¬ (n : Int) < (b.size : Int) := by omega
      have h3 : decide ((n : Int) < (b.size : Int)) = false := by simpa using h2
      clear hx
      go_enter Tryz.func62, Tryz.ntmps62
      go_wp2_with fail
      refine common.mono ?_
      rintro e w1 ⟨rfl, hf⟩
      clear common
      go_wp2_with (go_at_call 77; refine (cmpi_any _ _ _).mono ?_; rintro e w2 ⟨rfl, rfl⟩)
      go_ret
      exact ⟨ret_int HC.out.symm, hf⟩
    · have h2 : ¬ (n : Int) < (a.size : Int) := by omega
      have h3 : decide ((n : Int) < (a.size : Int)) = false := by simpa using h2
      clear hx
      go_enter Tryz.func62, Tryz.ntmps62
      go_wp2_with fail
      refine common.mono ?_
      rintro e w1 ⟨rfl, hf⟩
      clear common
      go_wp2_with (go_at_call 77; refine (cmpi_any _ _ _).mono ?_; rintro e w2 ⟨rfl, rfl⟩)
      go_ret
      exact ⟨ret_int HC.out.symm, hf⟩
end Go.Proofs.YthdbkanbgfajbaaGreat
