
/- slices.SortFunc[[]int,int] as the shelf knows it, in this program; Pages on a pool that holds pages. -/
import Derived.Test.YtneniagingoleaaPlKeys
import Derived.Shelf.SlSortCmp.Whole1
namespace Go.Proofs.Ytneniagingoleaa
open Go.Shelf Go.RowKit Go.Maps Go.Sort

def renF : Ren := ⟨fun k => if k = 6 then 44 else if k = 14 then 48 else if k = 15 then 49 else if k = 20 then 50 else if k = 21 then 51 else if k = 22 then 52 else if k = 23 then 53 else if k = 24 then 54 else if k = 25 then 55 else if k = 26 then 56 else if k = 27 then 57 else if k = 28 then 58 else if k = 29 then 59 else if k = 46 then 60 else if k = 47 then 61 else if k = 48 then 62 else if k = 49 then 63 else if k = 50 then 64 else if k = 57 then 65 else 0, fun k => if k = 0 then 0 else if k = 3 then 3 else if k = 4 then 4 else if k = 5 then 5 else if k = 9 then 9 else if k = 22 then 37 else if k = 24 then 3 else if k = 25 then 61 else if k = 39 then 85 else if k = 45 then 87 else if k = 46 then 88 else if k = 50 then 34 else if k = 53 then 94 else if k = 55 then 96 else if k = 66 then 97 else if k = 70 then 101 else if k = 76 then 103 else if k = 77 then 62 else 0, fun g => g⟩
theorem laysF : SlLaysF.n6 Try.prog renF := {
  mixed := by kernel_rfl
  f6 := ⟨Try.f44.name, by kernel_rfl, Try.func44.trans (congrArg some (by kernel_rfl))⟩
  f14 := ⟨Try.f48.name, by kernel_rfl, Try.func48.trans (congrArg some (by kernel_rfl))⟩
  f15 := Try.func49.trans (congrArg some (by kernel_rfl))
  f20 := ⟨Try.f50.name, by kernel_rfl, Try.func50.trans (congrArg some (by kernel_rfl))⟩
  f21 := ⟨Try.f51.name, by kernel_rfl, Try.func51.trans (congrArg some (by kernel_rfl))⟩
  f22 := ⟨Try.f52.name, by kernel_rfl, Try.func52.trans (congrArg some (by kernel_rfl))⟩
  f23 := ⟨Try.f53.name, by kernel_rfl, Try.func53.trans (congrArg some (by kernel_rfl))⟩
  f24 := ⟨Try.f54.name, by kernel_rfl, Try.func54.trans (congrArg some (by kernel_rfl))⟩
  f25 := ⟨Try.f55.name, by kernel_rfl, Try.func55.trans (congrArg some (by kernel_rfl))⟩
  f26 := ⟨Try.f56.name, by kernel_rfl, Try.func56.trans (congrArg some (by kernel_rfl))⟩
  f27 := ⟨Try.f57.name, by kernel_rfl, Try.func57.trans (congrArg some (by kernel_rfl))⟩
  f28 := Try.func58.trans (congrArg some (by kernel_rfl))
  f29 := Try.func59.trans (congrArg some (by kernel_rfl))
  f46 := ⟨Try.f60.name, by kernel_rfl, Try.func60.trans (congrArg some (by kernel_rfl))⟩
  f47 := Try.func61.trans (congrArg some (by kernel_rfl))
  f48 := Try.func62.trans (congrArg some (by kernel_rfl))
  f49 := ⟨Try.f63.name, by kernel_rfl, Try.func63.trans (congrArg some (by kernel_rfl))⟩
  f50 := ⟨Try.f64.name, by kernel_rfl, Try.func64.trans (congrArg some (by kernel_rfl))⟩
  f57 := ⟨Try.f65.name, by kernel_rfl, Try.func65.trans (congrArg some (by kernel_rfl))⟩
  t0 := Try.underlying0
  a0 := Try.isAgg0
  z0 := Try.sizeOf0
  v0 := Try.zeroValue0
  t3 := Try.underlying3
  a3 := Try.isAgg3
  z3 := Try.sizeOf3
  v3 := Try.zeroValue3
  t4 := Try.underlying4
  a4 := Try.isAgg4
  z4 := Try.sizeOf4
  v4 := Try.zeroValue4
  t5 := Try.underlying5
  a5 := Try.isAgg5
  z5 := Try.sizeOf5
  v5 := Try.zeroValue5
  t9 := Try.underlying9
  a9 := Try.isAgg9
  z9 := Try.sizeOf9
  v9 := Try.zeroValue9
  t22 := Try.underlying37
  a22 := Try.isAgg37
  z22 := Try.sizeOf37
  v22 := Try.zeroValue37
  a24 := Try.isAgg3
  z24 := Try.sizeOf3
  t25 := Try.underlying61
  a25 := Try.isAgg61
  z25 := Try.sizeOf61
  v25 := Try.zeroValue61
  t39 := Try.underlying85
  a39 := Try.isAgg85
  z39 := Try.sizeOf85
  v39 := Try.zeroValue85
  t45 := Try.underlying87
  a45 := Try.isAgg87
  z45 := Try.sizeOf87
  v45 := Try.zeroValue87
  t46 := Try.underlying88
  a46 := Try.isAgg88
  z46 := Try.sizeOf88
  v46 := Try.zeroValue88
  t50 := Try.underlying34
  a50 := Try.isAgg34
  z50 := Try.sizeOf34
  v50 := Try.zeroValue34
  t53 := Try.underlying94
  a53 := Try.isAgg94
  z53 := Try.sizeOf94
  v53 := Try.zeroValue94
  t55 := Try.underlying96
  a55 := Try.isAgg96
  z55 := Try.sizeOf96
  v55 := Try.zeroValue96
  t66 := Try.underlying97
  a66 := Try.isAgg97
  z66 := Try.sizeOf97
  v66 := Try.zeroValue97
  t70 := Try.underlying101
  a70 := Try.isAgg101
  z70 := Try.sizeOf101
  v70 := Try.zeroValue101
  t76 := Try.underlying103
  a76 := Try.isAgg103
  z76 := Try.sizeOf103
  v76 := Try.zeroValue103
  t77 := Try.underlying62
  a77 := Try.isAgg62
  z77 := Try.sizeOf62
  v77 := Try.zeroValue62 }

theorem grownP {w : World} {g n : Nat} {os : Array Obj} (d : Array Int) : w.grownBy (sortWorld encP w g 0 n d os) (some g) := by
  unfold sortWorld
  refine ⟨rfl, rfl, rfl, by simp, fun k hk hne => ?_⟩
  rw [heap_grow_old _ _ (by simpa using hk)]
  have : g ≠ k := fun e => hne (by rw [e])
  simp [putRow, mapBlock, Sort.ahead, Array.getElem?_modify, this]
theorem encP_of {x : Int} (h : wfK x) : encP x = encZ x := by unfold encP; rw [nrm_of h]
theorem putP (w : World) (blk : Nat) (ts : List Int) (h : ∀ x ∈ ts, wfK x) : putRow encP w blk 0 ts.toArray = putRow encZ w blk 0 ts.toArray := by
  unfold putRow
  congr 1
  funext c
  unfold putCells
  congr 1
  funext k x
  split
  · rename_i hk
    refine encP_of (h _ ?_)
    have : k - 0 < ts.length := by have := hk.2; simp at this; omega
    rw [getElem!_pos _ _ (by simpa using this)]
    simp
  · rfl
theorem sort_pl {w : World} {mb n Bm blk cap : Nat} {M : Pmap} {ss : List Int} {cur : Array Value} (h : Pm w mb n M) (hc : w.cell? ⟨Bm, 0, none⟩ = some (.map (some mb))) (hBl : Bm < w.heap.size) (hm : mb ≠ blk) (hB : Bm ≠ blk) (hwf : ∀ x ∈ ss, wfK x)
    (hgb : w.heap[blk]? = some (.cells cur 3 (0, 0))) (ht : cur.toList.take ss.length = ss.map encZ) (hsz : ss.length < 4611686018427387904) :
    Calls Try.prog 44 #[.slice (some ⟨blk, 0, none⟩) ss.length cap, .func (.func 33) #[] #[.pointer (some ⟨Bm, 0, none⟩)]] w fun e w' =>
      e = .returned (.tuple #[]) ∧ ∃ (ts : List Int) (k : Nat) (os : Array Obj), ts.Perm ss ∧ ts.Pairwise (fun x y => ((M x).getD h0).used ≤ ((M y).getD h0).used) ∧ w' = grow (putRow encZ (Sort.ahead w k) blk 0 ts.toArray) os := by
  have hH : Holds encP w blk 0 ss.toArray := fun j hj => by
    have h1 := holds_of_block_i hgb ht j hj
    have : j < ss.length := by simpa using hj
    rw [getElem!_pos ss.toArray j hj] at h1 ⊢
    rw [encP_of (hwf _ (by simp))]
    exact h1
  have hcmp : CmpLays1 Try.prog 33 #[.pointer (some ⟨Bm, 0, none⟩)] encP (cfP M) blk 0 ss.toArray.size w := fun m os dk hs x y => by
    have fr : Fr (fun k => k = blk) w (sortWorld encP w blk 0 m dk os) := (Fr.refl _ w).grown (grownP dk) (fun k e _ => by simp only [Option.some.injEq] at e; exact e.symm)
    refine (pcmp (h.fr fr hm) ((fr.cell (p := ⟨Bm, 0, none⟩) hBl hB).trans hc) (nrm_wf x) (nrm_wf y)).mono ?_
    rintro e w' ⟨rfl, rfl⟩
    exact ⟨rfl, 0, #[], by rw [grow_empty]; rfl⟩
  have hblk : blk < w.heap.size := lt_of_block hgb
  have main := Any.slices_SortFunc laysF encP encP_one (cfP M) (swoP M) 33 #[.pointer (some ⟨Bm, 0, none⟩)] blk 0 cap ss.toArray w (enters_of Try.func33 (by kernel_rfl) rfl) hcmp hH hblk (by simpa using hsz)
  refine main.mono ?_
  rintro e w' ⟨rfl, d', k, os, ⟨hp1, _, hp2⟩, hs, rfl⟩
  have hsz' : d'.size = ss.length := by simpa using hp1
  have hperm : d'.toList.Perm ss := by
    have e1 : d'.extract 0 ss.length = d' := by rw [← hsz']; simp
    have e2 : ss.toArray.extract 0 ss.length = ss.toArray := by simp
    rw [List.size_toArray, e1, e2] at hp2
    exact hp2
  have hwf' : ∀ x ∈ d'.toList, wfK x := fun x hx => hwf x (hperm.mem_iff.1 hx)
  refine ⟨rfl, d'.toList, k, os, hperm, ?_, ?_⟩
  · rw [List.pairwise_iff_getElem]
    intro i j hi hj hij
    have := hs i j (Nat.zero_le _) hij (by simpa [hsz'] using hj)
    rw [lt_cfP, decide_eq_false_iff_not] at this
    have hi' : i < d'.size := by simpa using hi
    have hj' : j < d'.size := by simpa using hj
    rw [getElem!_pos d' i hi', getElem!_pos d' j hj'] at this
    have wi := hwf' d'[i] (by simp)
    have wj := hwf' d'[j] (by simp)
    unfold usedAt at this
    rw [nrm_of wi, nrm_of wj] at this
    simp only [Array.getElem_toList]
    omega
  · unfold sortWorld
    have := putP (Sort.ahead w k) blk d'.toList hwf'
    rw [Array.toArray_toList] at this ⊢
    rw [this]

theorem row_base {w : World} {b b' : Nat} {e : TypeId} {v : Value} {n : Nat} {xs : List Value} (hb : b ≤ b') (h : w.ownsRow b' e 1 v n xs) : w.ownsRow b e 1 v n xs := by
  obtain ⟨h1, h2 | ⟨g, cap, cur, hv, hg, r⟩⟩ := h
  · exact ⟨h1, .inl h2⟩
  · exact ⟨h1, .inr ⟨g, cap, cur, hv, Nat.le_trans hb hg, r⟩⟩
set_option maxRecDepth 100000 in
set_option maxHeartbeats 1000000 in
theorem sorted_pl {w : World} {mb n Bk Bm : Nat} {M : Pmap} (h : Pm w mb n M) (hn : n ≤ 1000000) (hK : Bk < w.heap.size) (hck : w.cell? ⟨Bk, 0, none⟩ = some (.map (some mb))) (hB : Bm < w.heap.size) (hcm : w.cell? ⟨Bm, 0, none⟩ = some (.map (some mb))) :
    Calls Try.prog 31 #[.func (.func 45) #[] #[.pointer (some ⟨Bk, 0, none⟩)], .func (.func 33) #[] #[.pointer (some ⟨Bm, 0, none⟩)]] w fun e w' =>
      ∃ (v : Value) (ts : List Int), e = .returned v ∧ Keep M n ts ∧ ts.Pairwise (fun x y => ((M x).getD h0).used ≤ ((M y).getD h0).used) ∧ w'.ownsRow w.heap.size 3 1 v ts.length (ts.map encZ) ∧ Fr (fun _ => False) w w' := by
  have hl := collect_pl h hn hK hck
  have hmb := h.lt
  go_enter Try.func31, Try.ntmps31
  go_wp2_with (go_at_call 43; refine hl.mono ?_; rintro e w1 ⟨v, ss, rfl, hk, hrow, f1⟩)
  rcases hrow.2 with ⟨rfl, hz⟩ | ⟨gb, cap, cur, rfl, hbase, hgb, r1, r2, r3, r4⟩
  · have hss : ss = [] := List.eq_nil_of_length_eq_zero hz
    subst hss
    refine (sort_n w1 _).mono ?_
    rintro e w2 ⟨rfl, f2⟩
    go_wp2
    go_ret
    exact ⟨_, [], rfl, hk, List.Pairwise.nil, ⟨rfl, .inl ⟨rfl, rfl⟩⟩, f1.seq' f2⟩
  · have hwf : ∀ x ∈ ss, wfK x := fun x hx => by
      obtain ⟨g, hg⟩ := Option.isSome_iff_exists.1 ((hk.mem x).1 hx)
      obtain ⟨D, _, _, hl⟩ := h
      have := hl.key x g hg
      exact wfK_of (by omega)
    have hlen := hk.len
    refine (sort_pl (cap := cap) (h.same f1) ((f1.cell (p := ⟨Bm, 0, none⟩) hB (fun f => f)).trans hcm) (by have := f1.size; omega) (by omega) (by omega) hwf hgb (by simpa using r4) (by omega)).mono ?_
    rintro e w2 ⟨rfl, ts, k, os, hp, hs, rfl⟩
    clear hlen
    have hown := ownsRow_sorted_i (n := k) (os := os) (ts := ts) (ss := ss) hp.length_eq hbase hgb r1 r2 r3
    have f2 : Fr (fun k => k = gb) w1 (grow (putRow encZ (Sort.ahead w1 k) gb 0 ts.toArray) os) := (Fr.refl _ w1).grown (grownBy_sorted_i ts.toArray) (fun k e _ => by simp only [Option.some.injEq] at e; exact e.symm)
    generalize grow (putRow encZ (Sort.ahead w1 k) gb 0 ts.toArray) os = w2 at hown f2 ⊢
    go_wp2
    go_ret
    refine ⟨.slice (some ⟨gb, 0, none⟩) ss.length cap, ts, rfl, hk.perm hp, hs, ?_, f1.trans f2 (fun i hi e => by omega)⟩
    rw [hp.length_eq]
    exact hown
set_option maxRecDepth 100000 in
set_option maxHeartbeats 1000000 in
theorem pages_pl {w : World} {pb mb n : Nat} {fr us fl : Int} {M : Pmap} (h : Pl w pb fr mb n us fl M) (hn : n ≤ 1000000) :
    Calls Try.prog 14 #[.pointer (some ⟨pb, 0, none⟩)] w fun e w' =>
      ∃ (v : Value) (ts : List Int), e = .returned v ∧ Keep M n ts ∧ ts.Pairwise (fun x y => ((M x).getD h0).used ≤ ((M y).getD h0).used) ∧ w'.ownsRow w.heap.size 3 1 v ts.length (ts.map encZ) ∧ Fr (fun _ => False) w w' := by
  have hal := all_pl pb fr mb n us fl M w h
  go_enter Try.func14, Try.ntmps14
  go_wp2_with (first
      | (go_at_call 29; refine hal.mono ?_; rintro e w' ⟨rfl, hw⟩; have hw2 := hw.symm; clear hw; subst hw2)
      | (go_at_call 32; refine (keys_pl mb _).mono ?_; rintro e w' ⟨rfl, rfl⟩))
  have F2 : Fr (fun _ => False) w ((w.alloc (.cells #[.map (some mb)] 52)).alloc (.cells #[.map (some mb)] 52)) := (Fr.box w _).alloc _
  have g1 : ((w.alloc (.cells #[.map (some mb)] 52)).alloc (.cells #[.map (some mb)] 52)).heap[w.heap.size]? = some (.cells #[.map (some mb)] 52 (0, 0)) := (Fr.box _ _).keep (heap_alloc_new w _) (fun f => f)
  have g2 : ((w.alloc (.cells #[.map (some mb)] 52)).alloc (.cells #[.map (some mb)] 52)).heap[w.heap.size + 1]? = some (.cells #[.map (some mb)] 52 (0, 0)) := by
    have := heap_alloc_new (w.alloc (.cells #[.map (some mb)] 52)) (.cells #[.map (some mb)] 52)
    simpa using this
  refine (sorted_pl (h.map.same F2) hn (lt_of_block g2) (one_cell_n g2) (lt_of_block g1) (one_cell_n g1)).mono ?_
  rintro e w' ⟨v, ts, rfl, hk, hs, hrow, f1⟩
  go_wp2
  go_ret
  exact ⟨v, ts, rfl, hk, hs, row_base F2.size hrow, F2.seq' f1⟩

