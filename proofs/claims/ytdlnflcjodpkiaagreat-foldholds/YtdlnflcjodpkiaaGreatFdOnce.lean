
/- Once, on both sides. -/
import Derived.Test.YtdlnflcjodpkiaaGreatFdROnce
import Derived.Sort.OwnSortedInts
import Derived.Shelf.SortM.Plain
import Derived.Shelf.SortM.SortNone
import Derived.Shelf.SlicesG.CompactI
import Derived.Deep.QuietTactic
import Derived.BigQuiet
namespace Go.Proofs.YtdlnflcjodpkiaaGreat
open Go.Shelf Go.RowKit Go.Sort

def renM : Ren := ⟨fun k => if k = 5 then 58 else if k = 7 then 81 else if k = 8 then 82 else if k = 10 then 101 else if k = 11 then 102 else if k = 12 then 103 else if k = 13 then 104 else if k = 14 then 105 else if k = 15 then 106 else if k = 16 then 107 else if k = 17 then 108 else if k = 18 then 109 else if k = 19 then 110 else if k = 20 then 111 else if k = 30 then 134 else if k = 31 then 135 else if k = 32 then 136 else if k = 33 then 137 else if k = 34 then 138 else if k = 35 then 123 else if k = 40 then 154 else 0, fun k => if k = 0 then 0 else if k = 3 then 3 else if k = 4 then 4 else if k = 5 then 5 else if k = 9 then 9 else if k = 22 then 70 else if k = 23 then 70 else if k = 25 then 3 else if k = 32 then 131 else if k = 35 then 161 else if k = 36 then 162 else if k = 41 then 44 else if k = 44 then 169 else if k = 46 then 171 else if k = 53 then 180 else if k = 57 then 184 else if k = 63 then 197 else if k = 64 then 154 else 0, fun g => g⟩
theorem laysM : SlLaysM.n5 Tryz.prog renM := {
  mixed := by kernel_rfl
  f5 := ⟨Tryz.f58.name, by kernel_rfl, Tryz.func58.trans (congrArg some (by kernel_rfl))⟩
  f7 := ⟨Tryz.f81.name, by kernel_rfl, Tryz.func81.trans (congrArg some (by kernel_rfl))⟩
  f8 := Tryz.func82.trans (congrArg some (by kernel_rfl))
  f10 := ⟨Tryz.f101.name, by kernel_rfl, Tryz.func101.trans (congrArg some (by kernel_rfl))⟩
  f11 := ⟨Tryz.f102.name, by kernel_rfl, Tryz.func102.trans (congrArg some (by kernel_rfl))⟩
  f12 := ⟨Tryz.f103.name, by kernel_rfl, Tryz.func103.trans (congrArg some (by kernel_rfl))⟩
  f13 := ⟨Tryz.f104.name, by kernel_rfl, Tryz.func104.trans (congrArg some (by kernel_rfl))⟩
  f14 := ⟨Tryz.f105.name, by kernel_rfl, Tryz.func105.trans (congrArg some (by kernel_rfl))⟩
  f15 := ⟨Tryz.f106.name, by kernel_rfl, Tryz.func106.trans (congrArg some (by kernel_rfl))⟩
  f16 := ⟨Tryz.f107.name, by kernel_rfl, Tryz.func107.trans (congrArg some (by kernel_rfl))⟩
  f17 := ⟨Tryz.f108.name, by kernel_rfl, Tryz.func108.trans (congrArg some (by kernel_rfl))⟩
  f18 := ⟨Tryz.f109.name, by kernel_rfl, Tryz.func109.trans (congrArg some (by kernel_rfl))⟩
  f19 := Tryz.func110.trans (congrArg some (by kernel_rfl))
  f20 := Tryz.func111.trans (congrArg some (by kernel_rfl))
  f30 := ⟨Tryz.f134.name, by kernel_rfl, Tryz.func134.trans (congrArg some (by kernel_rfl))⟩
  f31 := Tryz.func135.trans (congrArg some (by kernel_rfl))
  f32 := Tryz.func136.trans (congrArg some (by kernel_rfl))
  f33 := ⟨Tryz.f137.name, by kernel_rfl, Tryz.func137.trans (congrArg some (by kernel_rfl))⟩
  f34 := ⟨Tryz.f138.name, by kernel_rfl, Tryz.func138.trans (congrArg some (by kernel_rfl))⟩
  f35 := ⟨Tryz.f123.name, by kernel_rfl, Tryz.func123.trans (congrArg some (by kernel_rfl))⟩
  f40 := ⟨Tryz.f154.name, by kernel_rfl, Tryz.func154.trans (congrArg some (by kernel_rfl))⟩
  t0 := Tryz.underlying0
  a0 := Tryz.isAgg0
  z0 := Tryz.sizeOf0
  v0 := Tryz.zeroValue0
  t3 := Tryz.underlying3
  a3 := Tryz.isAgg3
  z3 := Tryz.sizeOf3
  v3 := Tryz.zeroValue3
  t4 := Tryz.underlying4
  a4 := Tryz.isAgg4
  z4 := Tryz.sizeOf4
  v4 := Tryz.zeroValue4
  t5 := Tryz.underlying5
  a5 := Tryz.isAgg5
  z5 := Tryz.sizeOf5
  v5 := Tryz.zeroValue5
  t9 := Tryz.underlying9
  a9 := Tryz.isAgg9
  z9 := Tryz.sizeOf9
  v9 := Tryz.zeroValue9
  t22 := Tryz.underlying70
  a22 := Tryz.isAgg70
  z22 := Tryz.sizeOf70
  v22 := Tryz.zeroValue70
  t23 := Tryz.underlying70
  a23 := Tryz.isAgg70
  z23 := Tryz.sizeOf70
  v23 := Tryz.zeroValue70
  t25 := Tryz.underlying3
  a25 := Tryz.isAgg3
  z25 := Tryz.sizeOf3
  v25 := Tryz.zeroValue3
  t32 := Tryz.underlying131
  a32 := Tryz.isAgg131
  z32 := Tryz.sizeOf131
  v32 := Tryz.zeroValue131
  t35 := Tryz.underlying161
  a35 := Tryz.isAgg161
  z35 := Tryz.sizeOf161
  v35 := Tryz.zeroValue161
  t36 := Tryz.underlying162
  a36 := Tryz.isAgg162
  z36 := Tryz.sizeOf162
  v36 := Tryz.zeroValue162
  t41 := Tryz.underlying44
  a41 := Tryz.isAgg44
  z41 := Tryz.sizeOf44
  v41 := Tryz.zeroValue44
  t44 := Tryz.underlying169
  a44 := Tryz.isAgg169
  z44 := Tryz.sizeOf169
  v44 := Tryz.zeroValue169
  t46 := Tryz.underlying171
  a46 := Tryz.isAgg171
  z46 := Tryz.sizeOf171
  v46 := Tryz.zeroValue171
  t53 := Tryz.underlying180
  a53 := Tryz.isAgg180
  z53 := Tryz.sizeOf180
  v53 := Tryz.zeroValue180
  t57 := Tryz.underlying184
  a57 := Tryz.isAgg184
  z57 := Tryz.sizeOf184
  v57 := Tryz.zeroValue184
  t63 := Tryz.underlying197
  a63 := Tryz.isAgg197
  z63 := Tryz.sizeOf197
  v63 := Tryz.zeroValue197
  t64 := Tryz.underlying154
  a64 := Tryz.isAgg154
  z64 := Tryz.sizeOf154
  v64 := Tryz.zeroValue154 }
def renN : Ren := ⟨fun k => if k = 43 then 59 else 0, fun k => if k = 0 then 0 else if k = 3 then 3 else if k = 4 then 4 else if k = 22 then 70 else if k = 23 then 3 else 0, fun g => g⟩
theorem laysN : SlLaysN.n43 Tryz.prog renN := {
  mixed := by kernel_rfl
  f43 := ⟨Tryz.f59.name, by kernel_rfl, Tryz.func59.trans (congrArg some (by kernel_rfl))⟩
  t0 := Tryz.underlying0
  a0 := Tryz.isAgg0
  z0 := Tryz.sizeOf0
  v0 := Tryz.zeroValue0
  t3 := Tryz.underlying3
  a3 := Tryz.isAgg3
  z3 := Tryz.sizeOf3
  v3 := Tryz.zeroValue3
  t4 := Tryz.underlying4
  a4 := Tryz.isAgg4
  z4 := Tryz.sizeOf4
  v4 := Tryz.zeroValue4
  t22 := Tryz.underlying70
  a22 := Tryz.isAgg70
  z22 := Tryz.sizeOf70
  v22 := Tryz.zeroValue70
  t23 := Tryz.underlying3
  a23 := Tryz.isAgg3
  z23 := Tryz.sizeOf3
  v23 := Tryz.zeroValue3
  i23 := by kernel_rfl }

theorem infoI : (Tryz.prog.info? 3).map (fun i => (i.zero, i.size, i.bytes)) = some (some (.int .i64 0), 1, 8) := by kernel_rfl
def inC (x : Int) : List Value := [.int .i64 x]
theorem inC_length (x : Int) : (inC x).length = 1 := rfl
theorem inC_one (x : Int) : ∀ u ∈ inC x, u.oneCell' = true := by
  intro u hu
  simp only [inC, List.mem_cons, List.not_mem_nil, or_false] at hu
  subst hu; rfl
theorem compact_len {l : List Int} (hs : l.Pairwise (· ≤ ·)) : ((Lib.compact l).length = l.length) ↔ l.Nodup := by
  have e : (Lib.compact l).length = l.length ↔ ∀ j, j < l.length → Lib.keeps l.toArray j = true := by
    unfold Lib.compact Lib.compactUpTo
    rw [List.length_map]
    have := List.length_filter_eq_length_iff (l := List.range l.length) (p := Lib.keeps l.toArray)
    rw [List.length_range] at this
    rw [this]
    simp
  rw [e]
  have adj : ∀ j, 0 < j → j < l.length → (Lib.keeps l.toArray j = true ↔ l.toArray[j]! ≠ l.toArray[j - 1]!) := fun j h0 hj => by
    constructor
    · intro h hx
      rw [Lib.keeps_neg h0 hx] at h; cases h
    · intro h; exact Lib.keeps_pos h
  constructor
  · intro h
    have step : ∀ (i j : Nat) (hi : i < l.length) (hj : j < l.length), i < j → l[i] < l[j] := by
      intro i j hi hj hij
      induction j with
      | zero => omega
      | succ j ih =>
        have h1 := (adj (j + 1) (by omega) hj).1 (h (j + 1) hj)
        rw [getElem!_pos _ _ (by simpa using hj), getElem!_pos _ _ (by simp; omega)] at h1
        simp at h1
        have h2 := List.pairwise_iff_getElem.1 hs j (j + 1) (by omega) hj (by omega)
        by_cases e : i = j
        · subst e; omega
        · have := ih (by omega) (by omega); omega
    exact List.pairwise_iff_getElem.2 (fun i j hi hj hij => by have := step i j hi hj hij; omega)
  · intro h j hj
    rcases Nat.eq_zero_or_pos j with rfl | h0
    · exact Lib.keeps_lt_one _ 0 (by omega)
    · refine (adj j h0 hj).2 ?_
      rw [getElem!_pos _ _ (by simpa using hj), getElem!_pos _ _ (by simp; omega)]
      have := List.pairwise_iff_getElem.1 h (j - 1) j (by omega) hj (by omega)
      simp
      exact fun e => this e.symm
theorem once_len (l : List Int) : (((Lib.compact (l.mergeSort fun x y => decide (x ≤ y))).length : Nat) == l.length) = decide l.Nodup := by
  have hp := List.mergeSort_perm l (fun x y => decide (x ≤ y))
  have hs := List.pairwise_mergeSort (le := fun x y : Int => decide (x ≤ y)) (fun a b c h1 h2 => by simp at *; omega) (fun a b => by simp; omega) l
  have hs' : (l.mergeSort fun x y => decide (x ≤ y)).Pairwise (· ≤ ·) := hs.imp (fun h => by simpa using h)
  have h1 := compact_len hs'
  rw [hp.length_eq, hp.nodup_iff] at h1
  rw [Bool.eq_iff_iff, beq_iff_eq, decide_eq_true_eq]
  exact h1
/-- What slices.Sort and then slices.Compact leave of a row of numbers: how many. -/
theorem sort_ii {w : World} {v : Value} {n : Nat} {l : List Int} (hn : n = l.length) (h : Has w 1 v n (l.flatMap inC)) (hb : n ≤ 1000000) :
    Calls Tryz.prog 58 #[v] w fun e w1 => e = .returned (.tuple #[]) ∧ Fr (fun k => v.ownBlock = some k) w w1 ∧ ∃ a c, v = .slice a n c ∧ Calls Tryz.prog 59 #[v] w1 fun e w2 => ∃ a' c', e = .returned (.slice a' (Lib.compact (l.mergeSort fun x y => decide (x ≤ y))).length c') ∧ Fr (fun k => v.ownBlock = some k) w1 w2 := by
  subst hn
  rcases h.2 with ⟨rfl, h0⟩ | ⟨g, cap, rfl, hg, h1, h2, h3, h4⟩
  · have hl : l = [] := List.eq_nil_of_length_eq_zero h0
    subst hl
    refine (AnyM.slices_Sort_int_none laysM none 0 w).mono ?_
    rintro e w1 ⟨rfl, hw⟩
    have hw2 := hw.symm
    clear hw
    subst hw2
    refine ⟨rfl, Fr.refl _ _, none, 0, rfl, (AnyG.slices_Compact_int_empty laysN none 0 w).mono ?_⟩
    rintro e w2 ⟨rfl, hw⟩
    have hw2 := hw.symm
    clear hw
    subst hw2
    exact ⟨none, 0, by simp [Lib.compact, Lib.compactUpTo], Fr.refl _ _⟩
  · have hH : Holds (Value.int .i64) w g 0 l.toArray := fun j hj => by
      have hj' : j < l.length := by simpa using hj
      refine ⟨?_, ?_⟩
      · have := h.elem inC_length (List.getElem?_eq_getElem hj') 0 _ rfl
        rw [getElem!_pos l.toArray j hj]
        simpa using this
      · have := (h3 j (by omega)).2
        simpa using this
    refine (AnyM.slices_Sort_int laysM g 0 cap l w hH hg (by omega)).mono ?_
    rintro e w1 ⟨rfl, q, os, hw⟩
    have hp := List.mergeSort_perm l (fun x y => decide (x ≤ y))
    generalize hS : (l.mergeSort fun x y => decide (x ≤ y)) = s at *
    have hlen : s.length = l.length := hp.length_eq
    have hH0 : Holds (Value.int .i64) (Sort.ahead w q) g 0 l.toArray := hH
    have hH1 : Holds (Value.int .i64) (putRow (Value.int .i64) (Sort.ahead w q) g 0 s.toArray) g 0 s.toArray := holds_putRow _ _ _ _ _ _ hH0 (by simp [hlen])
    have hsz : g < (putRow (Value.int .i64) (Sort.ahead w q) g 0 s.toArray).heap.size := by simpa [putRow, mapBlock, Sort.ahead] using hg
    have hH2 := holds_grow _ _ os _ _ _ hsz hH1
    have fr1 : Fr (fun k => (Value.slice (some ⟨g, 0, none⟩) l.length cap).ownBlock = some k) w w1 := by
      rw [hw]
      exact (Fr.refl _ w).grown (grownBy_sortedI s.toArray) (fun k e _ => by simp only [Option.some.injEq] at e; rw [e]; rfl)
    rw [← hw] at hH2
    refine ⟨rfl, fr1, _, _, rfl, ?_⟩
    have hc := AnyG.slices_Compact_int laysN g 0 cap s w1 hH2 (by omega) (by omega)
    rw [hlen] at hc
    refine hc.mono ?_
    rintro e w2 ⟨rfl, q2, hw2⟩
    refine ⟨_, _, rfl, ?_⟩
    rw [hw2]
    have hg2 := grownBy_sortedI (w := w1) (g := g) (n := q2) (os := #[]) (Lib.compact s ++ List.replicate (l.length - (Lib.compact s).length) 0).toArray
    rw [grow_empty] at hg2
    exact (Fr.refl _ w1).grown hg2 (fun k e _ => by simp only [Option.some.injEq] at e; rw [e]; rfl)
set_option maxRecDepth 100000 in
set_option maxHeartbeats 4000000 in
theorem once_any (a : Option Addr) (n c : Nat) (ls : List Rec) (hn : n = ls.length) (hf : n ≤ 100000) (w : World) (h : Recs w a c ls) :
    Calls Tryz.prog 27 #[.slice a n c] w fun e w' => e = .returned (.bool (oncB (hist ls))) ∧ Fr (fun _ => False) w w' := by
  obtain ⟨iR, hiR, hR0, hR1, hR2⟩ := info_parts infoI
  have hh := history_any a n c ls hn (by omega) w h
  have hlen : (hist ls).length ≤ 100000 := by have := hist_len ls; omega
  generalize hist ls = hs at *
  obtain ⟨m, hm⟩ : ∃ m, m = hs.length := ⟨_, rfl⟩
  have HM : Hid (m = hs.length) := hm
  have hm9 : m ≤ 100000 := by omega
  have hh2 : Calls Tryz.prog 17 #[.slice a n c] w fun e w' => ∃ a' c', e = .returned (.slice a' m c') ∧ Recs w' a' c' hs ∧ Fr (fun _ => False) w w' := hh.mono fun e w' ⟨a', c', he, hr, _, f⟩ => ⟨a', c', by rw [he, hm], hr, f⟩
  clear hh h hn hf hm hlen
  go_enter Tryz.func27, Tryz.ntmps27
  go_wp2_with fail
  refine hh2.mono ?_
  rintro e w1 ⟨a', c', rfl, hr, f1⟩
  clear hh2
  have HS1 : Hid (∀ W, Fr (fun _ => False) w1 W → Recs W a' c' hs) := fun W f => hr.same f
  have hc3 : m ≤ c' := by have := hr.le; have := HM.out; omega
  have hc3m := hr.max
  have HF1 : Hid (Fr (fun _ => False) w w1) := f1
  clear hr f1
  go_wp2
  go_loopw [9, 3] (fun i o wr => ∃ (k : Nat) (a2 : Option Addr) (c2 : Nat), k ≤ m ∧ i = .int .i64 k ∧ o = .slice a2 k c2 ∧ Hid (Has wr 1 (.slice a2 k c2) k (((hs.take k).map (·.req)).flatMap inC)) ∧ Hid (∀ g, (Value.slice a2 k c2).ownBlock = some g → w1.heap.size ≤ g) ∧ Fr (fun _ => False) w1 wr) (fun i _ _ => m - (intOf i).toNat)
  case atStart => exact ⟨0, none, 0, by omega, rfl, rfl, Has.nil _ _, (fun g e => by cases e), Fr.refl _ _⟩
  case round =>
    obtain ⟨k, a2, c2, hk, rfl, rfl, HH, HO, F⟩ := hrel
    by_cases hlt : k < m
    · obtain ⟨r, hr⟩ : ∃ r, hs[k]? = some r := ⟨_, List.getElem?_eq_getElem (by have := HM.out; omega)⟩
      obtain ⟨b1, o1, rfl, hb1, hcc1⟩ := (HS1.out _ F).some (by have := HM.out; omega)
      obtain ⟨q0, q1, q2, q3, q4, q5, q6, q7⟩ := rec_range (hcc1 k r hr)
      have hki : (k : Int) < (m : Int) := by omega
      have HTK : Hid ((hs.take (k + 1)).map (·.req) = (hs.take k).map (·.req) ++ [r.req]) := by show _ = _; rw [take_snocH hr, List.map_append]; rfl
      obtain ⟨lsn, ep, kind, page, other, req, key, val⟩ := r
      dsimp only at q0 q1 q2 q3 q4 q5 q6 q7 HTK
      have fb := (Fr.box wr (.cells #[.int .i64 lsn, .int .i64 ep, .int .i64 kind, .int .i64 page, .int .i64 other, .int .i64 req, .string key, .string val] 53)).alloc (.cells #[.int .i64 req] 3)
      have HRW : Hid (Has ((wr.alloc (.cells #[.int .i64 lsn, .int .i64 ep, .int .i64 kind, .int .i64 page, .int .i64 other, .int .i64 req, .string key, .string val] 53)).alloc (.cells #[.int .i64 req] 3)) 1 (.slice a2 k c2) k (((hs.take k).map (·.req)).flatMap inC)) := HH.out.fr fb (fun _ _ f => f)
      have FF : Fr (fun _ => False) w1 ((wr.alloc (.cells #[.int .i64 lsn, .int .i64 ep, .int .i64 kind, .int .i64 page, .int .i64 other, .int .i64 req, .string key, .string val] 53)).alloc (.cells #[.int .i64 req] 3)) := F.seq' fb
      have HNE : Hid (From ((wr.alloc (.cells #[.int .i64 lsn, .int .i64 ep, .int .i64 kind, .int .i64 page, .int .i64 other, .int .i64 req, .string key, .string val] 53)).alloc (.cells #[.int .i64 req] 3)) (some ⟨wr.heap.size + 1, 0, none⟩) (inC req)) := .inr ⟨_, _, rfl, by
        have := range_block (heap_alloc_new (wr.alloc (.cells #[.int .i64 lsn, .int .i64 ep, .int .i64 kind, .int .i64 page, .int .i64 other, .int .i64 req, .string key, .string val] 53)) (.cells #[.int .i64 req] 3)) (xs := inC req) (o := 0) (fun j v hv => by rw [Nat.zero_add]; simpa [inC] using hv)
        rwa [show (wr.alloc (.cells #[.int .i64 lsn, .int .i64 ep, .int .i64 kind, .int .i64 page, .int .i64 other, .int .i64 req, .string key, .string val] 53)).heap.size = wr.heap.size + 1 by simp] at this⟩
      clear hr hcc1 fb
      go_wp2_with (at_builtin; refine Hid.out (?_ : Hid _))
      unfold Hid
      refine wpList_append_has _ rfl (.tmp 13) (.tmp 16) 70 70 3 3 rfl iR _ 1 8 Tryz.underlying70 Tryz.underlying70 hiR hR0 hR1 hR2 rfl (by omega) (.slice a2 k c2) k (((hs.take k).map (·.req)).flatMap inC) rfl HRW.out (some ⟨wr.heap.size + 1, 0, none⟩) 1 1 (inC req) rfl rfl HNE.out (inC_one _) (by unfold maxLen; omega) (by omega) ?_
      intro a4 c4 w8 ht4 f34 hat4
      have HT5 : Hid (Has w8 1 (.slice a4 (k + 1) c4) (k + 1) (((hs.take (k + 1)).map (·.req)).flatMap inC)) := by
        show Has _ _ _ _ _
        rw [HTK.out, List.flatMap_append]
        simpa using ht4
      have HO5 : Hid (∀ g, (Value.slice a4 (k + 1) c4).ownBlock = some g → w1.heap.size ≤ g) := fun g e => by
        have hz := F.size
        rcases hat4 with h1 | h1
        · rw [h1] at e; exact HO.out g e
        · rw [h1] at e; simp at e; omega
      have F5 : Fr (fun _ => False) w1 w8 := FF.trans f34 (fun i hi e => by have := HO.out i e.1; omega)
      clear ht4 hat4 f34 FF q0 q1 q2 q3 q4 q5 q6 q7 HRW HNE HTK
      go_wp2
      go_roundw
      case rel => exact ⟨k + 1, a4, c4, by omega, by go_num, rfl, HT5, HO5, F5⟩
      case measure => simp [intOf]; omega
    · obtain rfl : k = m := by omega
      have hh := HH.out
      rw [List.take_of_length_le (by have := HM.out; omega)] at hh
      have hso := sort_ii (l := hs.map (·.req)) (by rw [List.length_map]; exact HM.out) hh (by omega)
      have HON : Hid (oncB hs = (((Lib.compact ((hs.map (·.req)).mergeSort fun x y => decide (x ≤ y))).length : Nat) == k)) := by
        show _ = _
        have := once_len (hs.map (·.req))
        rw [List.length_map, ← HM.out] at this
        rw [this]; rfl
      generalize (Lib.compact ((hs.map (·.req)).mergeSort fun x y => decide (x ≤ y))).length = z at *
      have HOO : Hid (∀ k, k < w.heap.size → ¬ (Value.slice a2 _ c2).ownBlock = some k) := fun i hi e => by have := HO.out i e; have := HF1.out.size; omega
      have HFW : Hid (Fr (fun _ => False) w wr) := HF1.out.seq' F
      clear hh HH HO F
      go_wp2_with fail
      refine hso.mono ?_
      rintro e w3 ⟨rfl, f3, a3, c3, he, hco⟩
      clear hso he
      have HF3 : Hid (Fr (fun _ => False) w w3) := HFW.out.trans f3 (fun i hi e => HOO.out i hi e)
      clear f3
      go_wp2_with fail
      refine hco.mono ?_
      rintro e w4 ⟨a5, c5, rfl, f4⟩
      clear hco
      have HF4 : Hid (Fr (fun _ => False) w w4) := HF3.out.trans f4 (fun i hi e => HOO.out i hi e)
      clear f4
      go_wp2
      go_ret
      exact ⟨ret_bool (by rw [HON.out, Bool.eq_iff_iff]; simp; omega), HF4.out⟩
end Go.Proofs.YtdlnflcjodpkiaaGreat

