
/- RwHist, RwLost, RwSpk. -/
import Derived.Test.YtihkdffihmhnaaaGreatRN7
import Derived.Deep.QuietTactic
import Derived.BigQuiet
/- The history of records. -/
namespace Go.Proofs.YtihkdffihmhnaaaGreat
open Go.RowKit

theorem infoRec : (Tryz.prog.info? 54).map (fun i => (i.zero, i.size, i.bytes)) = some (some (.agg #[.int .i64 0, .int .i64 0, .int .i64 0, .int .i64 0, .int .i64 0, .int .i64 0, .string ⟨#[]⟩, .string ⟨#[]⟩]), 8, 80) := by kernel_rfl
theorem take_snocH {α : Type} {l : List α} {k : Nat} {r : α} (h : l[k]? = some r) : l.take (k + 1) = l.take k ++ [r] := by
  rw [List.take_add_one, h]; rfl
def comB (r : Rec) : Bool := (r.kind == 7) && rok r
def hist (rs : List Rec) : List Rec := rs.filter comB
theorem hist_yes {ls : List Rec} {k : Nat} {r : Rec} (h : ls[k]? = some r) (hc : comB r = true) : hist (ls.take (k + 1)) = hist (ls.take k) ++ [r] := by
  unfold hist; rw [take_snocH h, List.filter_append, List.filter_cons_of_pos (by simpa using hc)]; rfl
theorem hist_no {ls : List Rec} {k : Nat} {r : Rec} (h : ls[k]? = some r) (hc : comB r = false) : hist (ls.take (k + 1)) = hist (ls.take k) := by
  unfold hist; rw [take_snocH h, List.filter_append, List.filter_cons_of_neg (by simp [hc])]; simp
theorem hist_len (ls : List Rec) : (hist ls).length ≤ ls.length := List.length_filter_le _ _
theorem comB_kind {r : Rec} (h : r.kind ≠ 7) : comB r = false := by unfold comB; simp [h]
theorem Recs.of {w : World} {v : Value} {ls : List Rec} (h : Has w 8 v ls.length (ls.flatMap recC)) : ∃ a c, v = .slice a ls.length c ∧ Recs w a c ls := by
  obtain ⟨a, c, rfl, h1, h2⟩ := h.slice
  refine ⟨a, c, rfl, h1, by unfold maxLen at h2; omega, ?_⟩
  by_cases h0 : ls.length = 0
  · exact .inl (List.eq_nil_of_length_eq_zero h0)
  · obtain ⟨g, cap, hv, hg, _⟩ := h.form (by omega)
    simp only [Value.slice.injEq, true_and] at hv
    obtain ⟨rfl, rfl⟩ := hv
    refine .inr ⟨g, 0, rfl, hg, fun i e he => ?_⟩
    have hr := h.elem recC_length he
    rw [Nat.zero_add]
    exact hr
theorem check7 (lsn ep page other req : Int) (key val : ByteArray) (w : World) : Calls Tryz.prog 57 #[.agg #[.int .i64 lsn, .int .i64 ep, .int .i64 7, .int .i64 page, .int .i64 other, .int .i64 req, .string key, .string val]] w fun e w' => e = .returned (.int .i64 (if comB ⟨lsn, ep, 7, page, other, req, key, val⟩ = true then 0 else 90)) ∧ Fr (fun _ => False) w w' := by
  have h := rec_check ⟨lsn, ep, 7, page, other, req, key, val⟩ w
  have e : erec ⟨lsn, ep, 7, page, other, req, key, val⟩ = if comB ⟨lsn, ep, 7, page, other, req, key, val⟩ = true then 0 else 90 := by
    have hc : comB ⟨lsn, ep, 7, page, other, req, key, val⟩ = rok ⟨lsn, ep, 7, page, other, req, key, val⟩ := by simp [comB]
    rw [hc]
    cases hr : rok ⟨lsn, ep, 7, page, other, req, key, val⟩ with
    | true => rw [erec_yes hr]; rfl
    | false => rw [erec_no hr]; rfl
  rw [← e]
  exact h
/-- What a call leaves that answers a list of records of its own. -/
def RcOut (w : World) (ls : List Rec) (e : Ending) (w' : World) : Prop := ∃ a c, e = .returned (.slice a ls.length c) ∧ Recs w' a c ls ∧ (∀ g, (Value.slice a ls.length c).ownBlock = some g → w.heap.size ≤ g) ∧ Fr (fun _ => False) w w'

set_option maxRecDepth 100000 in
set_option maxHeartbeats 2000000 in
/-- fold.isNoCommit. -/
theorem noCommit_any (lsn ep kind page other req : Int) (key val : ByteArray) (w : World) : Calls Tryz.prog 154 #[.agg #[.int .i64 lsn, .int .i64 ep, .int .i64 kind, .int .i64 page, .int .i64 other, .int .i64 req, .string key, .string val]] w fun e w' => e = .returned (.bool (!comB ⟨lsn, ep, kind, page, other, req, key, val⟩)) ∧ Fr (fun _ => False) w w' := by
  have f0 := Fr.box w (.cells #[.int .i64 lsn, .int .i64 ep, .int .i64 kind, .int .i64 page, .int .i64 other, .int .i64 req, .string key, .string val] 54)
  by_cases h7 : kind = 7
  · subst h7
    have hck := check7 lsn ep page other req key val
    cases hcb : comB ⟨lsn, ep, 7, page, other, req, key, val⟩ with
    | true =>
      rw [hcb] at hck
      simp only [if_true] at hck
      clear hcb
      go_enter Tryz.func154, Tryz.ntmps154
      go_wp2_with (go_at_call 57; refine (hck _).mono ?_; rintro e w3 ⟨rfl, f3⟩)
      go_ret
      exact ⟨rfl, f0.seq' f3⟩
    | false =>
      rw [hcb] at hck
      simp only [Bool.false_eq_true, if_false] at hck
      clear hcb
      go_enter Tryz.func154, Tryz.ntmps154
      go_wp2_with (go_at_call 57; refine (hck _).mono ?_; rintro e w3 ⟨rfl, f3⟩)
      go_ret
      exact ⟨rfl, f0.seq' f3⟩
  · have h7' : (kind == 7) = false := by simpa using h7
    have h7'' : (kind != 7) = true := by simpa using h7
    have HC : Hid (comB ⟨lsn, ep, kind, page, other, req, key, val⟩ = false) := comB_kind h7
    clear h7
    go_enter Tryz.func154, Tryz.ntmps154
    go_wp2
    go_ret
    exact ⟨by rw [HC.out]; rfl, f0⟩

theorem recs_range {w : World} {b off : Nat} : ∀ {ls : List Rec}, (∀ i r, ls[i]? = some r → w.rangeAt b (off + i * 8) (recC r)) → w.rangeAt b off (ls.flatMap recC) := by
  intro ls h j v hv
  have hl := (List.getElem?_eq_some_iff.1 hv).1
  rw [flat_length recC_length] at hl
  have hi : j / 8 < ls.length := by omega
  have hx := List.getElem?_eq_getElem hi
  have hjj : j = j / 8 * 8 + j % 8 := by omega
  have h2 := flat_get recC_length ls (j / 8) _ hx (j % 8) (by omega)
  rw [← hjj, hv] at h2
  have := h (j / 8) _ hx (j % 8) v h2.symm
  rw [show off + j = off + j / 8 * 8 + j % 8 by omega]
  exact this
theorem Recs.from {w : World} {a : Option Addr} {cap : Nat} {ls : List Rec} (h : Recs w a cap ls) : From w a (ls.flatMap recC) := by
  rcases h.at_ with h0 | ⟨b, off, rfl, hb, hc⟩
  · exact .inl (by rw [h0]; rfl)
  · exact .inr ⟨b, off, rfl, recs_range hc⟩
theorem recCs_one (ls : List Rec) : ∀ u ∈ ls.flatMap recC, u.oneCell' = true := by
  intro u hu
  obtain ⟨r, _, h⟩ := List.mem_flatMap.1 hu
  exact recC_one r u h
theorem has_emptyR (w : World) (size : Nat) (e : TypeId) : Has (w.alloc (.cells #[] e)) size (.slice (some ⟨w.heap.size, 0, none⟩) 0 0) 0 [] :=
  ⟨by simp, .inr ⟨_, _, rfl, by simp, Nat.le_refl _, by decide, (fun j hj => by omega), (fun j v hv => by cases hv)⟩⟩
/-- Records of a call's own. -/
def RhOut (w : World) (ls : List Rec) (e : Ending) (w' : World) : Prop := ∃ a c, e = .returned (.slice a ls.length c) ∧ Has w' 8 (.slice a ls.length c) ls.length (ls.flatMap recC) ∧ Fr (fun _ => False) w w' ∧ ∀ k, (Value.slice a ls.length c).ownBlock = some k → w.heap.size ≤ k
set_option maxRecDepth 100000 in
set_option maxHeartbeats 1000000 in
theorem cloneR (a : Option Addr) (n c : Nat) (ls : List Rec) (w : World) (h : Recs w a c ls) (hn : n = ls.length) (hs : ls.length ≤ 1000000) : Calls Tryz.prog 79 #[.slice a n c] w fun e w' => RhOut w ls e w' := by
  obtain ⟨i0, hi, hz0, hz1, hz2⟩ := info_parts infoRec
  have hq := fun W => Lib.run_eql_slice_nil (P := Tryz.prog) W 45 54 a n c 0 0 Tryz.underlying45
  have hsl : (ls.flatMap recC).length = ls.length * 8 := flat_length recC_length ls
  cases a with
  | none =>
    have hl : ls = [] := by
      rcases h.at_ with h | ⟨_, _, h, _⟩
      · exact h
      · cases h
    subst hl
    obtain rfl : n = 0 := by simpa using hn
    clear hn hsl hs h
    go_enter Tryz.func79, Tryz.ntmps79
    go_wp2
    go_ret
    exact ⟨none, 0, rfl, Has.nil _ _, Fr.refl _ _, fun k hk => by cases hk⟩
  | some x =>
    have HE : Hid (Has (w.alloc (.cells #[] 54)) 8 (.slice (some ⟨w.heap.size, 0, none⟩) 0 0) 0 []) := has_emptyR w 8 _
    have f1 : Fr (fun _ => False) w (w.alloc (.cells #[] 54)) := (Fr.refl _ _).alloc _
    have hr1 := (h.same f1).from
    have HN : Hid (n = ls.length) := hn
    have HSL : Hid ((ls.flatMap recC).length = ls.length * 8) := hsl
    have hs' : n ≤ 1000000 := by omega
    clear hn hs hsl h
    go_enter Tryz.func79, Tryz.ntmps79
    go_wp2_with (at_builtin; refine wpList_append_has _ rfl _ _ 45 45 54 54 rfl i0 _ 8 80 Tryz.underlying45 Tryz.underlying45 hi hz0 hz1 hz2 rfl (by omega) (.slice (some ⟨w.heap.size, 0, none⟩) 0 0) 0 [] rfl HE.out (some x) n c (ls.flatMap recC) rfl (by rw [HSL.out, HN.out]) hr1 (recCs_one ls) (by unfold maxLen; omega) (by omega) ?_; intro am cm w2 hown hfr hat)
    go_ret
    rw [Nat.zero_add, List.nil_append] at hown
    rw [Nat.zero_add] at hat
    rw [HN.out] at hown hat
    have F : Fr (fun _ => False) w w2 := f1.trans hfr (by
      rintro i hi ⟨e, _⟩
      simp [Value.ownBlock] at e
      omega)
    have hnew : ∀ k, (Value.slice am ls.length cm).ownBlock = some k → w.heap.size ≤ k := fun k hk => by
      rw [hk] at hat
      rcases hat with e | e <;> simp [Value.ownBlock] at e <;> omega
    exact ⟨am, cm, by rw [← HN.out]; rfl, hown, F, hnew⟩
/-- Where the first is that is no commit. -/
def IxO (ls : List Rec) (z : Int) : Prop := (z = -1 ∧ hist ls = ls) ∨ ∃ k : Nat, z = k ∧ k < ls.length ∧ hist (ls.take (k + 1)) = ls.take k
set_option maxRecDepth 100000 in
set_option maxHeartbeats 4000000 in
theorem idxNo_any (a : Option Addr) (n c : Nat) (hs : List Rec) (hn : n = hs.length) (w : World) (r : Recs w a c hs) :
    Calls Tryz.prog 206 #[.slice a n c, .func (.func 154) #[] #[]] w fun e w' => (∃ z : Int, e = .returned (.int .i64 z) ∧ IxO hs z) ∧ Fr (fun _ => False) w w' := by
  have hl1 : n ≤ c := by rw [hn]; exact r.le
  have hm2 := r.max
  have HS1 : Hid (∀ W, Fr (fun _ => False) w W → Recs W a c hs) := fun W f => r.same f
  have HN : Hid (n = hs.length) := hn
  clear r hn
  go_enter Tryz.func206, Tryz.ntmps206
  go_wp2
  go_loopw [8] (fun i wr => ∃ k : Nat, k ≤ n ∧ i = .int .i64 k ∧ Hid (hist (hs.take k) = hs.take k) ∧ Fr (fun _ => False) w wr) (fun i _ => n - (intOf i).toNat)
  case atStart => exact ⟨0, by omega, rfl, (show _ = _ from rfl), Fr.refl _ _⟩
  case round =>
    obtain ⟨k, hk, rfl, HE, F⟩ := hrel
    by_cases hlt : k < n
    · obtain ⟨r, hr⟩ : ∃ r, hs[k]? = some r := ⟨_, List.getElem?_eq_getElem (by have := HN.out; omega)⟩
      obtain ⟨b1, o1, rfl, hb1, hcc1⟩ := (HS1.out _ F).some (by have := HN.out; omega)
      obtain ⟨q0, q1, q2, q3, q4, q5, q6, q7⟩ := rec_range (hcc1 k r hr)
      have hki : (k : Int) < (n : Int) := by omega
      have HY : Hid (comB r = true → hist (hs.take (k + 1)) = hs.take (k + 1)) := fun h => by
        rw [hist_yes hr h, HE.out, take_snocH hr]
      have HNO : Hid (comB r = false → hist (hs.take (k + 1)) = hs.take k) := fun h => by rw [hist_no hr h, HE.out]
      obtain ⟨lsn, ep, kind, page, other, req, key, val⟩ := r
      dsimp only at q0 q1 q2 q3 q4 q5 q6 q7
      have hp := noCommit_any lsn ep kind page other req key val wr
      clear hr hcc1
      cases hq : comB ⟨lsn, ep, kind, page, other, req, key, val⟩ with
      | false =>
        have HP : Hid (IxO hs (k : Int)) := .inr ⟨k, rfl, by have := HN.out; omega, HNO.out hq⟩
        rw [hq] at hp
        simp only [Bool.not_false] at hp
        clear HY HNO hq
        go_wp2_with fail
        refine hp.mono ?_
        rintro e w3 ⟨rfl, f3⟩
        clear hp
        go_wp2
        go_ret
        exact ⟨⟨_, rfl, HP.out⟩, F.seq' f3⟩
      | true =>
        have HN3 : Hid (hist (hs.take (k + 1)) = hs.take (k + 1)) := HY.out hq
        rw [hq] at hp
        simp only [Bool.not_true] at hp
        clear HY HNO hq
        go_wp2_with fail
        refine hp.mono ?_
        rintro e w3 ⟨rfl, f3⟩
        clear hp
        go_wp2
        go_roundw
        case rel => exact ⟨k + 1, by omega, by go_num, HN3, F.seq' f3⟩
        case measure => simp [intOf]; omega
    · obtain rfl : k = n := by omega
      have HP : Hid (IxO hs (-1)) := .inl ⟨rfl, by have h := HE.out; rw [HN.out, List.take_length] at h; exact h⟩
      go_wp2
      go_ret
      exact ⟨⟨_, rfl, HP.out⟩, F⟩

theorem zero_cellsR (n : Nat) : ∃ Z : List Value, (Builtin.zeroCells #[.int .i64 0, .int .i64 0, .int .i64 0, .int .i64 0, .int .i64 0, .int .i64 0, .string ⟨#[]⟩, .string ⟨#[]⟩] n).toList = Z ∧ Z.length = n * 8 ∧ ∀ v ∈ Z, v.oneCell' = true := by
  refine ⟨_, rfl, by simp [Builtin.zeroCells], fun v hv => ?_⟩
  simp only [Builtin.zeroCells, Array.toList_map, List.mem_map] at hv
  obtain ⟨i, _, rfl⟩ := hv
  have : ∀ k : Fin 8, ((#[.int .i64 0, .int .i64 0, .int .i64 0, .int .i64 0, .int .i64 0, .int .i64 0, .string ⟨#[]⟩, .string ⟨#[]⟩] : Array Value)[k.val]!).oneCell' = true := by decide
  exact this ⟨i % 8, Nat.mod_lt _ (by omega)⟩
theorem clear_recsR (w : World) (ty : TypeId) (b o n c : Nat) (hn : 0 < n) (Z : List Value) (hZ : (Builtin.zeroCells #[.int .i64 0, .int .i64 0, .int .i64 0, .int .i64 0, .int .i64 0, .int .i64 0, .string ⟨#[]⟩, .string ⟨#[]⟩] n).toList = Z) (h1 : ∀ v ∈ Z, v.oneCell' = true)
    (hc : ∀ j, j < Z.length → (w.cell? ⟨b, o + j, none⟩).isSome = true) (hf : ∀ j, j < Z.length → w.frozen? ⟨b, o + j, none⟩ = false) :
    (Builtin.clear_ #[45] ty #[.slice (some ⟨b, o, none⟩) n c]).run Tryz.prog w = .ok (.tuple #[]) (w.setCells b o Z) := by
  have hst := run_storeCells_cells (P := Tryz.prog) b o Z 0 w (by simpa using hc) (by simpa using hf) h1
  simp only [Nat.add_zero] at hst
  obtain ⟨m, rfl⟩ : ∃ m, n = m + 1 := ⟨n - 1, by omega⟩
  have hv := fun w => Tryz.zeroValue54 (w := w)
  simp [Builtin.clear_, run_underlying Tryz.underlying45, Value.cells, hv, hZ, hst]
theorem Has.shrinkR {w : World} {size g n cap i : Nat} {xs : List Value} (h : Has w size (.slice (some ⟨g, 0, none⟩) n cap) n xs) (hi : i ≤ n) : Has w size (.slice (some ⟨g, 0, none⟩) i cap) i (xs.take (i * size)) := by
  refine ⟨?_, ?_⟩
  · rw [List.length_take, h.1]
    exact Nat.min_eq_left (Nat.mul_le_mul_right _ hi)
  · rcases h.2 with ⟨h2, _⟩ | ⟨g', cap', hv, hg, h1, h2, h3, h4⟩
    · cases h2
    · simp only [Value.slice.injEq, Option.some.injEq, Addr.mk.injEq, and_true, true_and] at hv
      obtain ⟨rfl, rfl⟩ := hv
      refine .inr ⟨g, cap, rfl, hg, by omega, h2, h3, fun j v hv => ?_⟩
      refine h4 j v ?_
      rw [List.getElem?_take] at hv
      split at hv
      · exact hv
      · cases hv
/-- What stands in the row while it is gone through: what is kept, whatever was there, what comes. -/
structure Dl (ls R : List Rec) (i j : Nat) : Prop where
  len : R.length = ls.length
  lt : i < j
  le : j ≤ ls.length
  kept : R.take i = hist (ls.take j)
  rest : ∀ k, j ≤ k → R[k]? = ls[k]?
theorem Dl.yes {ls R : List Rec} {i j : Nat} {r : Rec} (h : Dl ls R i j) (hr : ls[j]? = some r) (hc : comB r = true) : Dl ls (R.set i r) (i + 1) (j + 1) := by
  have hj : j < ls.length := (List.getElem?_eq_some_iff.1 hr).1
  have hi : i < R.length := by have := h.lt; have := h.len; omega
  refine ⟨by simpa using h.len, by have := h.lt; omega, hj, ?_, fun k hk => ?_⟩
  · rw [hist_yes hr hc, ← h.kept, take_snocH (r := r) (by rw [List.getElem?_set_self hi]), List.take_set_of_le (Nat.le_refl i)]
  · rw [List.getElem?_set_ne (by have := h.lt; omega)]; exact h.rest k (by omega)
theorem Dl.no {ls R : List Rec} {i j : Nat} {r : Rec} (h : Dl ls R i j) (hr : ls[j]? = some r) (hc : comB r = false) : Dl ls R i (j + 1) := by
  have hj : j < ls.length := (List.getElem?_eq_some_iff.1 hr).1
  exact ⟨h.len, by have := h.lt; omega, hj, by rw [hist_no hr hc]; exact h.kept, fun k hk => h.rest k (by omega)⟩
theorem Has.bounds {w : World} {size g n cap : Nat} {xs : List Value} (h : Has w size (.slice (some ⟨g, 0, none⟩) n cap) n xs) : g < w.heap.size ∧ n ≤ cap ∧ cap ≤ maxLen ∧ w.there g 0 (cap * size) := by
  rcases h.2 with ⟨h2, _⟩ | ⟨g', cap', hv, hg, h1, h2, h3, h4⟩
  · cases h2
  · simp only [Value.slice.injEq, Option.some.injEq, Addr.mk.injEq, and_true, true_and] at hv
    obtain ⟨rfl, rfl⟩ := hv
    exact ⟨hg, h1, h2, h3⟩
theorem Has.recs {w : World} {a : Option Addr} {n c : Nat} {ls : List Rec} (hn : n = ls.length) (h : Has w 8 (.slice a n c) n (ls.flatMap recC)) : Recs w a c ls := by
  subst hn
  obtain ⟨a', c', e, hr⟩ := Recs.of h
  simp only [Value.slice.injEq, true_and] at e
  obtain ⟨rfl, rfl⟩ := e
  exact hr
/-- What DeleteFunc leaves. -/
def DlO (g cap : Nat) (ls : List Rec) (w : World) (e : Ending) (w' : World) : Prop := ∃ m, m = (hist ls).length ∧ e = .returned (.slice (some ⟨g, 0, none⟩) m cap) ∧ Has w' 8 (.slice (some ⟨g, 0, none⟩) m cap) m ((hist ls).flatMap recC) ∧ Fr (fun k => k = g) w w'
set_option maxRecDepth 100000 in
set_option maxHeartbeats 8000000 in
theorem delNo_some (g n cap : Nat) (ls : List Rec) (hn : n = ls.length) (hs : n ≤ 1000000) (w : World) (h : Has w 8 (.slice (some ⟨g, 0, none⟩) n cap) n (ls.flatMap recC)) :
    Calls Tryz.prog 153 #[.slice (some ⟨g, 0, none⟩) n cap, .func (.func 154) #[] #[]] w (DlO g cap ls w) := by
  have hix := idxNo_any (some ⟨g, 0, none⟩) n cap ls hn w (h.recs hn)
  obtain ⟨hg, hnc, hcx, _⟩ := h.bounds
  have hcm : cap ≤ 9223372036854775807 := by unfold maxLen at hcx; omega
  have HH : Hid (∀ W, Fr (fun _ => False) w W → Has W 8 (.slice (some ⟨g, 0, none⟩) n cap) n (ls.flatMap recC)) := fun W f => h.fr f (fun _ _ f => f)
  have HN : Hid (n = ls.length) := hn
  clear h hn hcx
  go_enter Tryz.func153, Tryz.ntmps153
  go_wp2_with fail
  refine hix.mono ?_
  rintro e w1 ⟨⟨z, rfl, hz⟩, f1⟩
  clear hix
  rcases hz with ⟨rfl, hall⟩ | ⟨k, rfl, hk, hkk⟩
  · have HF : Hid (DlO g cap ls w (.returned (Value.slice (some ⟨g, 0, none⟩) n cap)) w1) := ⟨n, by rw [hall]; exact HN.out, rfl, by rw [hall]; exact HH.out w1 f1, f1.widen (fun _ f => f.elim)⟩
    clear hall
    go_wp2
    go_ret
    exact HF.out
  · have HD : Hid (∃ R, Dl ls R k (k + 1) ∧ Has w1 8 (.slice (some ⟨g, 0, none⟩) n cap) n (R.flatMap recC)) := ⟨ls, ⟨rfl, by omega, by omega, hkk.symm, fun _ _ => rfl⟩, HH.out w1 f1⟩
    have hkn : k < n := by have := HN.out; omega
    have F1 : Fr (fun k => k = g) w w1 := f1.widen (fun _ f => f.elim)
    have hk1 : ((k : Int) == -1) = false := by simp
    clear hkk f1 HH hk
    go_wp2
    go_loopw [5, 6] (fun i j wr => ∃ (p q : Nat), q ≤ n ∧ p < q ∧ i = .int .i64 p ∧ j = .int .i64 q ∧ Hid (∃ R, Dl ls R p q ∧ Has wr 8 (.slice (some ⟨g, 0, none⟩) n cap) n (R.flatMap recC)) ∧ Fr (fun k => k = g) w wr) (fun _ j _ => n - (intOf j).toNat)
    case atStart => exact ⟨k, k + 1, by omega, by omega, rfl, by go_num, HD, F1⟩
    case round =>
      obtain ⟨p, q, hq, hpq, rfl, rfl, HR, F⟩ := hrel
      obtain ⟨R, hdl, hh⟩ := HR.out
      by_cases hlt : q < n
      · obtain ⟨r, hr⟩ : ∃ r, ls[q]? = some r := ⟨_, List.getElem?_eq_getElem (by have := HN.out; omega)⟩
        have hRr : R[q]? = some r := by rw [hdl.rest q (Nat.le_refl _)]; exact hr
        obtain ⟨q0, q1, q2, q3, q4, q5, q6, q7⟩ := rec_range (hh.elem recC_length hRr)
        have HY : Hid (comB r = true → Dl ls (R.set p r) (p + 1) (q + 1)) := fun h => hdl.yes hr h
        have HNO : Hid (comB r = false → Dl ls R p (q + 1)) := fun h => hdl.no hr h
        have hpR : p < R.length := by have := hdl.len; have := HN.out; omega
        obtain ⟨lsn, ep, kind, page, other, req, key, val⟩ := r
        dsimp only at q0 q1 q2 q3 q4 q5 q6 q7
        have hp := noCommit_any lsn ep kind page other req key val
        have HB : Hid (∀ W, Fr (fun _ => False) (wr.alloc (.cells #[.int .i64 lsn, .int .i64 ep, .int .i64 kind, .int .i64 page, .int .i64 other, .int .i64 req, .string key, .string val] 54)) W → W.heap[wr.heap.size]? = some (.cells #[.int .i64 lsn, .int .i64 ep, .int .i64 kind, .int .i64 page, .int .i64 other, .int .i64 req, .string key, .string val] 54 (0, 0))) := fun W f => rec_at wr _ _ f
        have hqi : (q : Int) < (n : Int) := by omega
        have hpi : (p : Int) < (n : Int) := by omega
        have HHH : Hid (∀ W, Fr (fun _ => False) wr W → Has W 8 (.slice (some ⟨g, 0, none⟩) n cap) n (R.flatMap recC)) := fun W f => hh.fr f (fun _ _ f => f)
        clear hr hRr hdl hh HR
        cases hc : comB ⟨lsn, ep, kind, page, other, req, key, val⟩ with
        | false =>
          rw [hc] at hp
          simp only [Bool.not_false] at hp
          have HD2 := HNO.out hc
          have HD3 : Hid (Dl ls R p (q + 1)) := HD2
          clear HY HNO hc HD2
          go_wp2_with fail
          refine (hp _).mono ?_
          rintro e w3 ⟨rfl, f3⟩
          have F3 := (Fr.box wr (.cells #[.int .i64 lsn, .int .i64 ep, .int .i64 kind, .int .i64 page, .int .i64 other, .int .i64 req, .string key, .string val] 54)).seq' f3
          have HR2 : Hid (∃ R, Dl ls R p (q + 1) ∧ Has w3 8 (.slice (some ⟨g, 0, none⟩) n cap) n (R.flatMap recC)) := ⟨R, HD3.out, HHH.out w3 F3⟩
          clear hp f3
          go_wp2
          go_roundw
          case rel => exact ⟨p, q + 1, by omega, by omega, rfl, by go_num, HR2, F.trans F3 (fun _ _ f => f.elim)⟩
          case measure => simp [intOf]; omega
        | true =>
          rw [hc] at hp
          simp only [Bool.not_true] at hp
          have HD2 := HY.out hc
          have HD3 : Hid (Dl ls (R.set p ⟨lsn, ep, kind, page, other, req, key, val⟩) (p + 1) (q + 1)) := HD2
          clear HY HNO hc HD2
          go_wp2_with fail
          refine (hp _).mono ?_
          rintro e w3 ⟨rfl, f3⟩
          have F3 := (Fr.box wr (.cells #[.int .i64 lsn, .int .i64 ep, .int .i64 kind, .int .i64 page, .int .i64 other, .int .i64 req, .string key, .string val] 54)).seq' f3
          obtain ⟨⟨p0, p1, p2, p3, p4, p5, p6, p7⟩, qz⟩ := rec_cells (HB.out w3 f3)
          have hH3 := HHH.out w3 F3
          obtain ⟨_, _, _, hth⟩ := hH3.bounds
          have hts : ∀ j, j < 8 → (∃ x, w3.cell? ⟨g, p * 8 + j, none⟩ = some x) ∧ w3.frozen? ⟨g, p * 8 + j, none⟩ = false := fun j hj => by
            have := hth (p * 8 + j) (by omega)
            rw [Nat.zero_add] at this
            exact ⟨Option.isSome_iff_exists.1 this.1, this.2⟩
          have hput := hH3.put recC_length hpR ⟨lsn, ep, kind, page, other, req, key, val⟩
          have HR2 : Hid (∃ R, Dl ls R (p + 1) (q + 1) ∧ Has (w3.setCells g (p * 8) (recC ⟨lsn, ep, kind, page, other, req, key, val⟩)) 8 (.slice (some ⟨g, 0, none⟩) n cap) n (R.flatMap recC)) := ⟨_, HD3.out, hput⟩
          have F5 : Fr (fun k => k = g) w (w3.setCells g (p * 8) (recC ⟨lsn, ep, kind, page, other, req, key, val⟩)) := (F.trans F3 (fun _ _ f => f.elim)).trans (Fr.setCells (S := fun k => k = g) (a := w3) (b := g) (fun _ => rfl) _ _ (Fr.refl _ _)) (fun _ _ f => f)
          obtain ⟨⟨x0, u0⟩, v0⟩ := hts 0 (by omega)
          obtain ⟨⟨x1, u1⟩, v1⟩ := hts 1 (by omega)
          obtain ⟨⟨x2, u2⟩, v2⟩ := hts 2 (by omega)
          obtain ⟨⟨x3, u3⟩, v3⟩ := hts 3 (by omega)
          obtain ⟨⟨x4, u4⟩, v4⟩ := hts 4 (by omega)
          obtain ⟨⟨x5, u5⟩, v5⟩ := hts 5 (by omega)
          obtain ⟨⟨x6, u6⟩, v6⟩ := hts 6 (by omega)
          obtain ⟨⟨x7, u7⟩, v7⟩ := hts 7 (by omega)
          rw [Nat.add_zero] at u0 v0
          clear hp f3 hts hth hput hH3 HB HHH qz
          go_wp2
          go_roundw
          case rel => exact ⟨p + 1, q + 1, by omega, by omega, by go_num, by go_num, HR2, F5⟩
          case measure => simp [intOf]; omega
      · obtain rfl : q = n := by omega
        obtain ⟨_, _, hcx, hth⟩ := hh.bounds
        obtain ⟨Z, hZ, hZl, hZ1⟩ := zero_cellsR (q - p)
        have hcl : ∀ ty, (Builtin.clear_ #[45] ty #[.slice (some ⟨g, p * 8, none⟩) (q - p) (cap - p)]).run Tryz.prog wr = .ok (.tuple #[]) (wr.setCells g (p * 8) Z) := fun ty =>
          clear_recsR wr ty g (p * 8) (q - p) (cap - p) (by omega) Z hZ hZ1 (fun j hj => by have := (hth (p * 8 + j) (by rw [hZl] at hj; omega)).1; rw [Nat.zero_add] at this; exact this) (fun j hj => by have := (hth (p * 8 + j) (by rw [hZl] at hj; omega)).2; rw [Nat.zero_add] at this; exact this)
        have hfl : (R.flatMap recC).length = q * 8 := by rw [flat_length recC_length, hdl.len, HN.out]
        have HS := (hh.set (p * 8) Z (by rw [hfl, hZl]; omega)).shrinkR (i := p) (by omega)
        have htk : (List.take (p * 8) (R.flatMap recC) ++ Z ++ List.drop (p * 8 + Z.length) (R.flatMap recC)).take (p * 8) = (R.take p).flatMap recC := by
          rw [List.append_assoc, List.take_append_of_le_length (by rw [List.length_take, hfl]; omega), List.take_take, Nat.min_self, flat_take recC_length]
        have hkp : R.take p = hist ls := by rw [hdl.kept, List.take_of_length_le (by have := HN.out; omega)]
        rw [htk, hkp] at HS
        have hpl : p = (hist ls).length := by
          rw [← hkp, List.length_take, hdl.len]
          have := HN.out
          omega
        have Fset : Fr (fun k => k = g) w (wr.setCells g (p * 8) Z) := F.trans (Fr.setCells (S := fun k => k = g) (a := wr) (b := g) (fun _ => rfl) Z (p * 8) (Fr.refl _ _)) (fun _ _ f => f)
        have HFIN : Hid (DlO g cap ls w (.returned (.slice (some ⟨g, 0, none⟩) p cap)) (wr.setCells g (p * 8) Z)) := ⟨p, hpl, rfl, HS, Fset⟩
        obtain ⟨W2, hW2⟩ : ∃ W, W = wr.setCells g (p * 8) Z := ⟨_, rfl⟩
        rw [← hW2] at hcl HFIN
        have hpc : p ≤ cap := by omega
        clear hW2 HS Fset htk hfl hh hth hZ hZ1 hZl hkp hpl hdl HR hcx
        go_wp2
        go_ret
        exact HFIN.out
theorem delNo_any (a : Option Addr) (n c : Nat) (ls : List Rec) (hn : n = ls.length) (hs : n ≤ 1000000) (w : World) (h : Has w 8 (.slice a n c) n (ls.flatMap recC)) :
    Calls Tryz.prog 153 #[.slice a n c, .func (.func 154) #[] #[]] w fun e w' => ∃ m, m = (hist ls).length ∧ e = .returned (.slice a m c) ∧ Has w' 8 (.slice a m c) m ((hist ls).flatMap recC) ∧ Fr (fun k => (Value.slice a n c).ownBlock = some k) w w' := by
  rcases h.2 with ⟨h2, h3⟩ | ⟨g', cap', hv, _⟩
  · simp only [Value.slice.injEq] at h2
    obtain ⟨rfl, rfl, rfl⟩ := h2
    have h0 : ls = [] := List.eq_nil_of_length_eq_zero hn.symm
    subst h0
    have hix := idxNo_any none 0 0 [] rfl w (h.recs hn)
    clear h h3 hn hs
    go_enter Tryz.func153, Tryz.ntmps153
    go_wp2_with fail
    refine hix.mono ?_
    rintro e w1 ⟨⟨z, rfl, hz⟩, f1⟩
    clear hix
    rcases hz with ⟨rfl, hall⟩ | ⟨k, rfl, hk, hkk⟩
    · clear hall
      go_wp2
      go_ret
      exact ⟨0, rfl, rfl, Has.nil _ _, f1.widen (fun _ f => f.elim)⟩
    · simp at hk
  · simp only [Value.slice.injEq] at hv
    obtain ⟨rfl, _, rfl⟩ := hv
    refine (delNo_some g' n c ls hn hs w h).mono ?_
    rintro e w' ⟨m, h1, h2, h3, h4⟩
    exact ⟨m, h1, h2, h3, h4.widen (fun k e => by rw [e]; rfl)⟩
set_option maxRecDepth 100000 in
set_option maxHeartbeats 4000000 in
theorem history_any (a : Option Addr) (n c : Nat) (ls : List Rec) (hn : n = ls.length) (hf : n ≤ 1000000) (w : World) (h : Recs w a c ls) :
    Calls Tryz.prog 115 #[.slice a n c] w fun e w' => RcOut w (hist ls) e w' := by
  have hcl := cloneR a n c ls w h hn (by omega)
  have HN : Hid (n = ls.length) := hn
  clear hn h
  go_enter Tryz.func115, Tryz.ntmps115
  go_wp2_with fail
  refine hcl.mono ?_
  rintro e w1 ⟨a1, c1, rfl, h1, f1, ho⟩
  have hdl := delNo_any a1 ls.length c1 ls rfl (by have := HN.out; omega) w1 h1
  have HO : Hid (∀ k, (Value.slice a1 ls.length c1).ownBlock = some k → w.heap.size ≤ k) := ho
  clear hcl ho
  dsimp only
  go_wp2_with fail
  refine hdl.mono ?_
  rintro e w2 ⟨m, hm, rfl, h2, f2⟩
  have HFIN : Hid (RcOut w (hist ls) (.returned (.slice a1 m c1)) w2) := by
    subst hm
    refine ⟨a1, c1, rfl, h2.recs rfl, fun k hk => HO.out k ?_, f1.trans f2 (fun i hi e => by have := HO.out i e; omega)⟩
    cases a1 with
    | none => cases hk
    | some x => exact hk
  clear hdl h1 h2 f2 hm
  go_wp2
  go_ret
  exact HFIN.out

end Go.Proofs.YtihkdffihmhnaaaGreat

/- Requests that are lost. -/
namespace Go.Proofs.YtihkdffihmhnaaaGreat
open Go.RowKit

def rwI (x : Int) : Value := .int .i64 x
theorem rinfoI : (Tryz.prog.info? 3).map (fun i => (i.zero, i.size, i.bytes)) = some (some (.int .i64 0), 1, 8) := by kernel_rfl
theorem rapp_has {w : World} {v : Value} {l : List Int} (x : Int) (h : Has w 1 v l.length (l.map rwI)) (hl : l.length + 1 ≤ 1000000000) :
    ∃ a' c' w', (Builtin.append_ #[31, 31] 31 #[v, .slice (some ⟨w.heap.size, 0, none⟩) 1 1]).run Tryz.prog (w.alloc (.cells #[.int .i64 x] 3)) = .ok (.slice a' (l.length + 1) c') w' ∧ Has w' 1 (.slice a' (l.length + 1) c') (l ++ [x]).length ((l ++ [x]).map rwI) ∧ Fr (fun k => v.ownBlock = some k) w w' ∧ ((Value.slice a' (l.length + 1) c').ownBlock = v.ownBlock ∨ (Value.slice a' (l.length + 1) c').ownBlock = some (w.heap.size + 1)) := by
  obtain ⟨i, hi, hi1, hi2, hi3⟩ : ∃ i, Tryz.prog.info? 3 = some i ∧ i.zero = some (.int .i64 0) ∧ i.size = 1 ∧ i.bytes = 8 := by
    have := rinfoI
    cases hh : Tryz.prog.info? 3 with
    | none => rw [hh] at this; cases this
    | some i =>
      rw [hh] at this
      simp only [Option.map_some, Option.some.injEq, Prod.mk.injEq] at this
      exact ⟨i, rfl, this.1, this.2.1, this.2.2⟩
  have fb := Fr.box w (.cells #[.int .i64 x] 3)
  have hc : (w.alloc (.cells #[.int .i64 x] 3)).cell? ⟨w.heap.size, 0, none⟩ = some (.int .i64 x) := by rw [cell_of_row _ _ _ _ _ _ (heap_alloc_new w (.cells #[.int .i64 x] 3))]; rfl
  have h' := h.fr fb (fun _ _ f => f)
  obtain ⟨v', w', hrun, h2, h3, h4⟩ := run_append_has (P := Tryz.prog) (w.alloc (.cells #[.int .i64 x] 3)) 31 31 31 3 3 i (.int .i64 0) 1 8 Tryz.underlying31 Tryz.underlying31 hi hi1 hi2 hi3 rfl (by omega) v l.length (l.map rwI) h' (some ⟨w.heap.size, 0, none⟩) 1 1 [.int .i64 x] rfl
    (.inr ⟨w.heap.size, 0, rfl, fun j u hu => by
      cases j with
      | zero => simp at hu; subst hu; simp [hc]
      | succ j => simp at hu⟩) (fun u hu => by simp at hu; subst hu; rfl) (by unfold maxLen; omega) (by omega)
  obtain ⟨a', c', rfl, _⟩ := h2.slice
  refine ⟨a', c', w', hrun, ?_, (fb.mono (T := fun k => v.ownBlock = some k) (fun i hi e => e.elim)).trans h3 (fun i hi e => e.1), ?_⟩
  · have e1 : l.map rwI ++ [.int .i64 x] = (l ++ [x]).map rwI := by simp [rwI]
    rw [e1] at h2
    simpa using h2
  · rcases h4 with e | e
    · exact .inl e
    · right; rw [e]; simp
theorem rapp_step {P : Program} {w w' : World} {ops : Array Oper} {rest : List Oper} {o : Oper} {ac : Act} {Q : Exit → Act → World → Prop} {v x v' : Value} (hgd : o.guard = none) (sl xo : Operand) (t : TypeId)
    (ho : o.op = .call { callee := .builtin .append, args := #[sl, xo], argTypes := #[t, t] }) (hse : ac.eval sl = v) (hxe : ac.eval xo = x) (hrun : (Builtin.append_ #[t, t] o.type #[v, x]).run P w = .ok v' w')
    (h : wpList P ops Q rest (ac.put o.dst v') w') : wpList P ops Q (o :: rest) ac w :=
  wpList_plain hgd fun _ hK => by
    unfold Oper.wp execOp
    simp only [ho, resolve, invoke, builtin, Sem.run_bind, Sem.run_pure, Result.andThen_ok, List.map_toArray, List.map_cons, List.map_nil, hse, hxe, hrun]
    exact hK _ _ h
theorem recs_drop {w : World} {b off c : Nat} {rs : List Rec} (h : Recs w (some ⟨b, off, none⟩) c rs) (k : Nat) (hk : k < rs.length) : Recs w (some ⟨b, off + k * 8, none⟩) (c - k) (rs.drop k) := by
  refine ⟨by have := h.le; rw [List.length_drop]; omega, by have := h.max; omega, ?_⟩
  obtain ⟨b', off', he, hb, hc⟩ := h.some (by omega)
  simp only [Option.some.injEq, Addr.mk.injEq, and_true] at he
  obtain ⟨rfl, rfl⟩ := he
  refine .inr ⟨b, off + k * 8, rfl, hb, fun i r hr => ?_⟩
  rw [List.getElem?_drop] at hr
  have := hc (k + i) r hr
  rwa [show off + k * 8 + i * 8 = off + (k + i) * 8 by omega]
/-- The requests of a history. -/
def rqs (rs : List Rec) : List Int := rs.map fun r => r.req
def LoOut (w : World) (ts : List Int) (e : Ending) (w' : World) : Prop := ∃ p q, e = .returned (.tuple #[.slice p ts.length q, .int .i64 0]) ∧ Has w' 1 (.slice p ts.length q) ts.length (ts.map rwI) ∧ Fr (fun _ => False) w w'
set_option maxRecDepth 100000 in
set_option maxHeartbeats 8000000 in
theorem rlost_any (b off n c k : Nat) (rs : List Rec) (hn : n = rs.length) (hf : n ≤ 1000000) (hk : k < n) (hz : rchE rs k = 0) (w : World) (h : Recs w (some ⟨b, off, none⟩) c rs) :
    Calls Tryz.prog 71 #[.slice (some ⟨b, off, none⟩) n c, .int .i64 k] w fun e w' => LoOut w (rqs (hist (rs.drop k))) e w' := by
  have hre := rreaches_any (some ⟨b, off, none⟩) n c rs k hn w h
  rw [hz] at hre
  have hle : n ≤ c := by rw [hn]; exact h.le
  have hmx := h.max
  have HD : Hid (∀ W, Fr (fun _ => False) w W → Recs W (some ⟨b, off + k * 8, none⟩) (c - k) (rs.drop k)) := fun W f => recs_drop (h.same f) k (by omega)
  obtain ⟨rd, hrd⟩ : ∃ rd, rd = rs.drop k := ⟨_, rfl⟩
  have hrl : n - k = rd.length := by rw [hrd, List.length_drop]; omega
  rw [← hrd] at HD ⊢
  have HRL : Hid (n - k = rd.length ∧ n ≤ 1000000) := ⟨hrl, hf⟩
  have HHL : Hid ((hist rd).length ≤ 1000000) := by have := hist_len rd; have := HRL.out; show _ ≤ _; omega
  obtain ⟨H, hH⟩ : ∃ H, H = hist rd := ⟨_, rfl⟩
  rw [← hH] at HHL ⊢
  have HHH : Hid (hist rd = H) := hH.symm
  clear h hn hz hrd hrl hH
  go_enter Tryz.func71, Tryz.ntmps71
  go_wp2_with fail
  refine hre.mono ?_
  rintro e w1 ⟨rfl, f1⟩
  have hh := history_any (some ⟨b, off + k * 8, none⟩) (n - k) (c - k) rd HRL.out.1 (by omega) w1 (HD.out w1 f1)
  have HF1 : Hid (Fr (fun _ => False) w w1) := f1
  rw [HHH.out] at hh
  clear hre f1
  go_wp2_with fail
  refine hh.mono ?_
  rintro e w2 ⟨ha, hc, rfl, hR, hO, f2⟩
  have HF2 : Hid (Fr (fun _ => False) w w2) := HF1.out.seq' f2
  have HS : Hid (∀ (T : Nat → Prop) W, Fr T w2 W → (∀ i, i < w2.heap.size → ¬ T i) → Recs W ha hc H) := fun T W f hT => hR.same ⟨f.os, f.tape, f.output, f.size, fun k hk _ => f.block k hk (hT k hk)⟩
  have hl1 := hR.le
  have hl2 := hR.max
  clear hh hR hO f2
  go_wp2
  go_loopw [7, 21] (fun o i wr => ∃ (j : Nat) (ts : List Int) (a' : Option Addr) (c' : Nat), j ≤ H.length ∧ o = .slice a' ts.length c' ∧ i = .int .i64 j ∧ Hid (ts = rqs (H.take j)) ∧ Hid (Has wr 1 (.slice a' ts.length c') ts.length (ts.map rwI)) ∧ Hid (∀ g, (Value.slice a' ts.length c').ownBlock = some g → w2.heap.size ≤ g) ∧ Hid (Fr (fun _ => False) w2 wr)) (fun _ i _ => H.length - (intOf i).toNat)
  case atStart => exact ⟨0, [], none, 0, by omega, rfl, rfl, rfl, Has.nil _ _, (fun g e => by cases e), Fr.refl _ _⟩
  case round =>
    obtain ⟨j, ts, a', c', hj, rfl, rfl, HT, HH, HO, HF⟩ := hrel
    by_cases hlt : j < H.length
    · obtain ⟨r, hr⟩ : ∃ r, H[j]? = some r := ⟨_, List.getElem?_eq_getElem hlt⟩
      obtain ⟨bb, of2, rfl, hbb, hcc⟩ := (HS.out _ _ HF.out (fun _ _ f => f)).some (by omega)
      have HTK : Hid (rqs (H.take (j + 1)) = rqs (H.take j) ++ [r.req]) := by show _ = _; rw [take_snocR hr]; simp [rqs]
      have hqq := rec_range (hcc j r hr)
      obtain ⟨lsn, ep, kind, page, other, req, key, val⟩ := r
      dsimp only at hqq HTK
      obtain ⟨q0, q1, q2, q3, q4, q5, q6, q7⟩ := hqq
      have hki : (j : Int) < (H.length : Int) := by omega
      have F0 := Fr.box wr (.cells #[.int .i64 lsn, .int .i64 ep, .int .i64 kind, .int .i64 page, .int .i64 other, .int .i64 req, .string key, .string val] 54)
      have htl : ts.length ≤ 1000000 := by have := HHL.out; rw [HT.out]; simp [rqs]; omega
      obtain ⟨a4, c4, w4, hrun, hh4, f4, ho4⟩ := rapp_has req (HH.out.fr F0 (fun _ _ f => f)) (by omega)
      rw [show (wr.alloc (.cells #[.int .i64 lsn, .int .i64 ep, .int .i64 kind, .int .i64 page, .int .i64 other, .int .i64 req, .string key, .string val] 54)).heap.size = wr.heap.size + 1 by simp] at hrun ho4
      have HT4 : Hid (ts ++ [req] = rqs (H.take (j + 1))) := by show _ = _; rw [HTK.out, HT.out]
      have HH4 : Hid (Has w4 1 (.slice a4 (ts ++ [req]).length c4) (ts ++ [req]).length ((ts ++ [req]).map rwI)) := by
        rw [show (ts ++ [req]).length = ts.length + 1 by simp] at hh4 ⊢
        exact hh4
      have HO4 : Hid (∀ g, (Value.slice a4 (ts ++ [req]).length c4).ownBlock = some g → w2.heap.size ≤ g) := fun g e => by
        rw [show (ts ++ [req]).length = ts.length + 1 by simp] at e
        have hz := HF.out.size
        rcases ho4 with h1 | h1
        · rw [h1] at e; exact HO.out g e
        · rw [h1] at e; simp at e; omega
      have HF4 : Hid (Fr (fun _ => False) w2 w4) := (HF.out.seq' F0).trans f4 (fun i hi e => by have := HO.out i e; omega)
      have HLE : Hid (ts.length + 1 = (ts ++ [req]).length) := by show _ = _; simp
      clear hr hcc hh4 f4 ho4 htl F0 HT HH HO HF HTK
      go_wp2_with (at_builtin; refine rapp_step rfl _ _ 31 rfl rfl rfl hrun ?_)
      refine ⟨⟨j + 1, ts ++ [req], a4, c4, by omega, by rw [HLE.out], by simp, HT4, HH4, HO4, HF4⟩, by simp [intOf]; omega⟩
    · have HE : Hid (ts = rqs H) := by have := HT.out; rw [List.take_of_length_le (by omega)] at this; exact this
      have HFIN : Hid (LoOut w (rqs H) (.returned (.tuple #[.slice a' ts.length c', .int .i64 0])) wr) := by
        rw [← HE.out]
        exact ⟨a', c', rfl, HH.out, HF2.out.seq' HF.out⟩
      clear HT HH HO HF
      go_wp2
      go_ret2
      exact HFIN.out
end Go.Proofs.YtihkdffihmhnaaaGreat

/- Two puts, of which one is taken back. -/
namespace Go.Proofs.YtihkdffihmhnaaaGreat
open Go.RowKit

/-- A slice of numbers as a walk sees it. -/
structure Is (w : World) (a : Option Addr) (cap : Nat) (xs : List Int) : Prop where
  le : xs.length ≤ cap
  max : cap ≤ 9223372036854775807
  at_ : xs = [] ∨ ∃ b off, a = some ⟨b, off, none⟩ ∧ b < w.heap.size ∧ ∀ (i : Nat) x, xs[i]? = some x → w.cell? ⟨b, off + i, none⟩ = some (.int .i64 x)
theorem Is.fr {S : Nat → Prop} {w w' : World} {a : Option Addr} {cap : Nat} {xs : List Int} (h : Is w a cap xs) (f : Fr S w w') (hn : ∀ b, b < w.heap.size → ¬ S b) : Is w' a cap xs := by
  refine ⟨h.le, h.max, ?_⟩
  rcases h.at_ with h0 | ⟨b, off, rfl, hb, hc⟩
  · exact .inl h0
  · exact .inr ⟨b, off, rfl, Nat.lt_of_lt_of_le hb f.size, fun i x hx => (f.cell (p := ⟨b, _, none⟩) hb (hn b hb)).trans (hc i x hx)⟩
theorem Is.same {w w' : World} {a : Option Addr} {cap : Nat} {xs : List Int} (h : Is w a cap xs) (f : Fr (fun _ => False) w w') : Is w' a cap xs := h.fr f (fun _ _ f => f)
theorem Is.some {w : World} {a : Option Addr} {cap : Nat} {xs : List Int} (h : Is w a cap xs) (hn : 0 < xs.length) : ∃ b off, a = some ⟨b, off, none⟩ ∧ b < w.heap.size ∧ ∀ (i : Nat) x, xs[i]? = some x → w.cell? ⟨b, off + i, none⟩ = some (.int .i64 x) := by
  rcases h.at_ with h0 | h
  · rw [h0] at hn; simp at hn
  · exact h
set_option maxRecDepth 100000 in
set_option maxHeartbeats 1000000 in
theorem rplain_is (a1 a2 : Option Addr) (c1 c2 : Nat) (l : List Int) (w : World) (r1 : Is w a1 c1 l) (r2 : Is w a2 c2 l) :
    Calls Tryz.prog 72 #[.slice a1 l.length c1, .slice a2 l.length c2] w fun e w' => e = .returned (.bool true) ∧ Fr (fun _ => False) w w' := by
  have l1 := r1.le
  have m1 := r1.max
  have l2 := r2.le
  have m2 := r2.max
  have H1 : Hid (∀ W, Fr (fun _ => False) w W → Is W a1 c1 l) := fun W f => r1.same f
  have H2 : Hid (∀ W, Fr (fun _ => False) w W → Is W a2 c2 l) := fun W f => r2.same f
  clear r1 r2
  go_enter Tryz.func72, Tryz.ntmps72
  go_wp2
  go_loopw [13] (fun i wr => ∃ k : Nat, k ≤ l.length ∧ i = .int .i64 k ∧ Fr (fun _ => False) w wr) (fun i _ => l.length - (intOf i).toNat)
  case atStart => exact ⟨0, by omega, rfl, Fr.refl _ _⟩
  case round =>
    obtain ⟨k, hk, rfl, hf⟩ := hrel
    by_cases hlt : k < l.length
    · obtain ⟨b1, o1, rfl, hb1, hc1⟩ := (H1.out _ hf).some (by omega)
      obtain ⟨b2, o2, rfl, hb2, hc2⟩ := (H2.out _ hf).some (by omega)
      obtain ⟨s, hs⟩ : ∃ s, l[k]? = some s := ⟨_, List.getElem?_eq_getElem hlt⟩
      have k1 := hc1 k s hs
      have k2 := hc2 k s hs
      clear hs hc1 hc2
      have i1 : (k : Int) < (l.length : Int) := by omega
      go_wp2
      go_quiet (fail)
      go_wp2
      go_roundw
      case rel => exact ⟨k + 1, by omega, by go_num, hf.drewN _⟩
      case measure => simp [intOf]; omega
    · go_wp2
      go_ret
      exact ⟨rfl, hf⟩


theorem rhas_is {w : World} {a : Option Addr} {c : Nat} {l : List Int} (h : Has w 1 (.slice a l.length c) l.length (l.map rwI)) : Is w a c l := by
  obtain ⟨a', c', hv, h1, h2⟩ := h.slice
  simp only [Value.slice.injEq] at hv
  obtain ⟨_, _, rfl⟩ := hv
  refine ⟨h1, by unfold maxLen at h2; omega, ?_⟩
  by_cases h0 : l = []
  · exact .inl h0
  · obtain ⟨g, cap, hv, hg, _, _, _, h4⟩ := h.form (List.length_pos_iff.2 h0)
    simp only [Value.slice.injEq] at hv
    refine .inr ⟨g, 0, hv.1, hg, fun i x hx => ?_⟩
    exact h4 i (rwI x) (by rw [List.getElem?_map, hx]; rfl)
def r1 : Rec := ⟨1, 0, 2, 1, 0, 0, ⟨#[97]⟩, ⟨#[]⟩⟩
def r2 : Rec := ⟨2, 0, 2, 1, 0, 0, ⟨#[98]⟩, ⟨#[]⟩⟩
def r3 : Rec := ⟨3, 0, 7, 0, 2, 7, ⟨#[98]⟩, ⟨#[]⟩⟩
def n1 : Nd := ⟨0, 1, 0, ⟨#[]⟩, [⟨#[97]⟩], [⟨#[]⟩], []⟩
def n2 : Nd := ⟨0, 2, 0, ⟨#[]⟩, [⟨#[97]⟩, ⟨#[98]⟩], [⟨#[]⟩, ⟨#[]⟩], []⟩
set_option maxRecDepth 100000 in
theorem spk_rpl : rplA p0 [r1, r2, r3] = ([(1, n2)], 0) := by kernel_rfl
set_option maxRecDepth 100000 in
theorem spk_rew : rewP [(1, n2)] [r1, r2, r3] 1 = ([(1, n1)], 0) := by kernel_rfl
set_option maxRecDepth 100000 in
theorem spk_lost : rqs (hist ([r1, r2, r3].drop 1)) = [7] ∧ rchE [r1, r2, r3] 1 = 0 := ⟨by kernel_rfl, by kernel_rfl⟩
theorem recs_lit (w : World) : Recs (w.alloc (.cells #[.int .i64 1, .int .i64 0, .int .i64 2, .int .i64 1, .int .i64 0, .int .i64 0, .string ⟨#[97]⟩, .string ⟨#[]⟩, .int .i64 2, .int .i64 0, .int .i64 2, .int .i64 1, .int .i64 0, .int .i64 0, .string ⟨#[98]⟩, .string ⟨#[]⟩, .int .i64 3, .int .i64 0, .int .i64 7, .int .i64 0, .int .i64 2, .int .i64 7, .string ⟨#[98]⟩, .string ⟨#[]⟩] 54)) (some ⟨w.heap.size, 0, none⟩) 3 [r1, r2, r3] := by
  refine ⟨by simp, by omega, .inr ⟨w.heap.size, 0, rfl, by simp, fun i r hr => ?_⟩⟩
  have hb := heap_alloc_new w (.cells #[.int .i64 1, .int .i64 0, .int .i64 2, .int .i64 1, .int .i64 0, .int .i64 0, .string ⟨#[97]⟩, .string ⟨#[]⟩, .int .i64 2, .int .i64 0, .int .i64 2, .int .i64 1, .int .i64 0, .int .i64 0, .string ⟨#[98]⟩, .string ⟨#[]⟩, .int .i64 3, .int .i64 0, .int .i64 7, .int .i64 0, .int .i64 2, .int .i64 7, .string ⟨#[98]⟩, .string ⟨#[]⟩] 54)
  match i, hr with
  | 0, hr => simp at hr; subst hr; exact range_block hb (o := 0 + 0 * 8) (fun j v hv => by
      match j, hv with
      | 0, hv => exact hv | 1, hv => exact hv | 2, hv => exact hv | 3, hv => exact hv | 4, hv => exact hv | 5, hv => exact hv | 6, hv => exact hv | 7, hv => exact hv
      | (j + 8), hv => simp [recC] at hv)
  | 1, hr => simp at hr; subst hr; exact range_block hb (o := 0 + 1 * 8) (fun j v hv => by
      match j, hv with
      | 0, hv => exact hv | 1, hv => exact hv | 2, hv => exact hv | 3, hv => exact hv | 4, hv => exact hv | 5, hv => exact hv | 6, hv => exact hv | 7, hv => exact hv
      | (j + 8), hv => simp [recC] at hv)
  | 2, hr => simp at hr; subst hr; exact range_block hb (o := 0 + 2 * 8) (fun j v hv => by
      match j, hv with
      | 0, hv => exact hv | 1, hv => exact hv | 2, hv => exact hv | 3, hv => exact hv | 4, hv => exact hv | 5, hv => exact hv | 6, hv => exact hv | 7, hv => exact hv
      | (j + 8), hv => simp [recC] at hv)
  | (i + 3), hr => simp at hr
theorem slots_root (w : World) : Slots (w.alloc (.cells #[.int .i64 1, .int .i64 0, .int .i64 0, .int .i64 0, .string ⟨#[]⟩, .slice none 0 0, .slice none 0 0, .slice none 0 0] 35)) (some ⟨w.heap.size, 0, none⟩) 1 [rS] := by
  have h := has_root w
  refine ⟨by simp, by omega, .inr ⟨w.heap.size, 0, rfl, by simp, fun i s hs => ?_⟩, fun s hs => ?_⟩
  · have := Has.elem (l := [rS]) h slC_length hs
    rw [Nat.zero_add]
    exact this
  · simp at hs; subst hs; exact zn_nod _
theorem spk_size : ∀ r ∈ [r1, r2, r3], r.key.size ≤ 140737488351232 ∧ r.val.size ≤ 140737488351232 := by decide
set_option maxRecDepth 100000 in
set_option maxHeartbeats 8000000 in
theorem rwspk_any (w : World) : Calls Tryz.prog 28 #[] w fun e w' => e = .returned (.bool true) ∧ Fr (fun _ => False) w w' := by
  have HR : Hid (Recs (w.alloc (.cells #[.int .i64 1, .int .i64 0, .int .i64 2, .int .i64 1, .int .i64 0, .int .i64 0, .string ⟨#[97]⟩, .string ⟨#[]⟩, .int .i64 2, .int .i64 0, .int .i64 2, .int .i64 1, .int .i64 0, .int .i64 0, .string ⟨#[98]⟩, .string ⟨#[]⟩, .int .i64 3, .int .i64 0, .int .i64 7, .int .i64 0, .int .i64 2, .int .i64 7, .string ⟨#[98]⟩, .string ⟨#[]⟩] 54)) (some ⟨w.heap.size, 0, none⟩) 3 [r1, r2, r3]) := recs_lit w
  obtain ⟨W1, hW1⟩ : ∃ W1, W1 = w.alloc (.cells #[.int .i64 1, .int .i64 0, .int .i64 2, .int .i64 1, .int .i64 0, .int .i64 0, .string ⟨#[97]⟩, .string ⟨#[]⟩, .int .i64 2, .int .i64 0, .int .i64 2, .int .i64 1, .int .i64 0, .int .i64 0, .string ⟨#[98]⟩, .string ⟨#[]⟩, .int .i64 3, .int .i64 0, .int .i64 7, .int .i64 0, .int .i64 2, .int .i64 7, .string ⟨#[98]⟩, .string ⟨#[]⟩] 54) := ⟨_, rfl⟩
  have HW1 : Hid (w.alloc (.cells #[.int .i64 1, .int .i64 0, .int .i64 2, .int .i64 1, .int .i64 0, .int .i64 0, .string ⟨#[97]⟩, .string ⟨#[]⟩, .int .i64 2, .int .i64 0, .int .i64 2, .int .i64 1, .int .i64 0, .int .i64 0, .string ⟨#[98]⟩, .string ⟨#[]⟩, .int .i64 3, .int .i64 0, .int .i64 7, .int .i64 0, .int .i64 2, .int .i64 7, .string ⟨#[98]⟩, .string ⟨#[]⟩] 54) = W1) := hW1.symm
  have HF1 : Hid (Fr (fun _ => False) w W1) := by rw [hW1]; exact Fr.box _ _
  have HSZ : Hid (W1.heap.size = w.heap.size + 1) := by rw [hW1]; show _ = _; simp
  rw [← hW1] at HR
  obtain ⟨B, hB⟩ : ∃ B, B = w.heap.size := ⟨_, rfl⟩
  have HB : Hid (w.heap.size = B) := hB.symm
  rw [← hB] at HR HSZ
  have hrp := replay_any (some ⟨W1.heap.size, 0, none⟩) (some ⟨B, 0, none⟩) 1 1 3 3 [rS] [r1, r2, r3] rfl rfl spk_size (W1.alloc (.cells #[.int .i64 1, .int .i64 0, .int .i64 0, .int .i64 0, .string ⟨#[]⟩, .slice none 0 0, .slice none 0 0, .slice none 0 0] 35)) (slots_root W1) (HR.out.same (Fr.box _ _))
  rw [show rplA (psOf [rS]) [r1, r2, r3] = ([(1, n2)], 0) from spk_rpl, HSZ.out] at hrp
  have HF2 : Hid (Fr (fun _ => False) W1 (W1.alloc (.cells #[.int .i64 1, .int .i64 0, .int .i64 0, .int .i64 0, .string ⟨#[]⟩, .slice none 0 0, .slice none 0 0, .slice none 0 0] 35))) := Fr.box _ _
  clear hW1 hB
  go_enter Tryz.func28, Tryz.ntmps28
  go_wp2_with fail
  rw [HW1.out, HB.out]
  refine hrp.mono ?_
  rintro e w3 ⟨a3, c3, l3, rfl, hsv3, hp3, f3⟩
  have G3 := HF2.out.seq' f3
  have hl3 : l3.length = 1 := by have := congrArg List.length hp3; rw [ps_length] at this; simpa using this
  have hpg := rpages_any a3 (some ⟨B, 0, none⟩) 1 c3 3 3 l3 [r1, r2, r3] 1 hl3.symm rfl (by omega) spk_size w3 (hsv3.slots rfl) (HR.out.same G3)
  rw [hp3, spk_rew] at hpg
  rw [hl3]
  have HG3 : Hid (Fr (fun _ => False) W1 w3) := G3
  clear hrp hsv3 hp3 f3 G3 hl3
  go_wp2_with fail
  refine hpg.mono ?_
  rintro e w4 ⟨a4, c4, l4, rfl, hsv4, hp4, f4⟩
  have HG4 : Hid (Fr (fun _ => False) W1 w4) := HG3.out.seq' f4
  have hl4 : l4.length = 1 := by have := congrArg List.length hp4; rw [ps_length] at this; simpa using this
  have hlo := rlost_any B 0 3 3 1 [r1, r2, r3] rfl (by omega) (by omega) spk_lost.2 w4 (HR.out.same HG4.out)
  rw [spk_lost.1] at hlo
  have HSV : Hid (∀ W, Fr (fun _ => False) w4 W → Slots W a4 c4 l4) := fun W f => (hsv4.slots rfl).same f
  have HP4 : Hid (psOf l4 = [(1, n1)]) := hp4
  have HL4 : Hid (l4.length = 1) := hl4
  rw [hl4]
  clear hpg hsv4 hp4 f4 hl4
  go_wp2_with fail
  refine hlo.mono ?_
  rintro e w5 ⟨p5, q5, rfl, hh5, f5⟩
  rw [show [(7 : Int)].length = 1 from rfl]
  have HI5 : Hid (∀ W, Fr (fun _ => False) w5 W → Is W p5 q5 [7]) := fun W f => (rhas_is hh5).same f
  have hS5 := HSV.out w5 f5
  obtain ⟨s4, hs4⟩ : ∃ s4, l4 = [s4] := by
    have := HL4.out
    match l4, this with
    | [s], _ => exact ⟨s, rfl⟩
  have hpn : s4.nd = n1 := by
    have := HP4.out
    rw [hs4] at this
    simp [psOf] at this
    exact this.2
  obtain ⟨b4, o4, ha4, _, hc4⟩ := hS5.some (by rw [hs4]; simp)
  have hcell := (sl_range (hc4 0 s4 (by rw [hs4]; rfl))).2.2.2.2.2.1
  rw [hpn] at hcell
  rw [show (n1.keys).length = 1 from rfl] at hcell
  have hle4 := hS5.le
  have hmx4 := hS5.max
  rw [HL4.out] at hle4
  have HG5 : Hid (Fr (fun _ => False) w w5) := (HF1.out.seq' HG4.out).seq' f5
  have L7 : Is (w5.alloc (.cells #[.int .i64 7] 3)) (some ⟨w5.heap.size, 0, none⟩) 1 [7] := ⟨by simp, by omega, .inr ⟨w5.heap.size, 0, rfl, by simp, fun i x hx => by
    match i, hx with
    | 0, hx => simp at hx; subst hx; rw [cell_of_row _ _ _ _ _ _ (heap_alloc_new w5 (.cells #[.int .i64 7] 3))]; rfl
    | (i + 1), hx => simp at hx⟩⟩
  have c7 : Calls Tryz.prog 72 #[.slice p5 1 q5, .slice (some ⟨w5.heap.size, 0, none⟩) 1 1] (w5.alloc (.cells #[.int .i64 7] 3)) _ := rplain_is p5 (some ⟨w5.heap.size, 0, none⟩) q5 1 [7] _ (HI5.out _ (Fr.box _ _)) L7
  have HFB : Hid (Fr (fun _ => False) w (w5.alloc (.cells #[.int .i64 7] 3))) := HG5.out.seq' (Fr.box _ _)
  subst ha4
  clear hlo hh5 f5 hS5 hc4 L7 hs4 hpn HSV HP4
  go_wp2_with (go_at_call 72; refine c7.mono ?_; rintro e w6 ⟨rfl, f6⟩)
  go_ret
  exact ⟨rfl, HFB.out.seq' f6⟩
end Go.Proofs.YtihkdffihmhnaaaGreat
