
/- The keys of a map, in order: maps.Keys, slices.Collect, slices.SortFunc. -/
import Derived.Test.YtdlnflcjodpkiaaGreatFdCmp
import Derived.Shelf.SlIter.Collect
import Derived.Shelf.SlSortCmp.Whole1
import Derived.Shelf.SlSortCmp.Insertion
import Derived.Sort.OwnSorted
namespace Go.Proofs.YtdlnflcjodpkiaaGreat
open Go.Shelf Go.RowKit Go.Maps Go.Sort

def renK : Ren := ⟨fun k => if k = 7 then 73 else if k = 8 then 90 else if k = 10 then 92 else if k = 11 then 120 else 0, fun k => if k = 0 then 0 else if k = 3 then 77 else if k = 4 then 4 else if k = 23 then 79 else if k = 24 then 118 else if k = 26 then 9 else if k = 27 then 120 else if k = 28 then 121 else if k = 33 then 147 else 0, fun g => g⟩
theorem laysK : SlLaysZ.n7 Tryz.prog renK := {
  mixed := by kernel_rfl
  f7 := ⟨Tryz.f73.name, by kernel_rfl, Tryz.func73.trans (congrArg some (by kernel_rfl))⟩
  f10 := ⟨Tryz.f92.name, by kernel_rfl, Tryz.func92.trans (congrArg some (by kernel_rfl))⟩
  t0 := Tryz.underlying0
  a0 := Tryz.isAgg0
  z0 := Tryz.sizeOf0
  v0 := Tryz.zeroValue0
  t4 := Tryz.underlying4
  a4 := Tryz.isAgg4
  z4 := Tryz.sizeOf4
  v4 := Tryz.zeroValue4
  t23 := Tryz.underlying79
  a23 := Tryz.isAgg79
  z23 := Tryz.sizeOf79
  v23 := Tryz.zeroValue79
  t26 := Tryz.underlying9
  a26 := Tryz.isAgg9
  z26 := Tryz.sizeOf9
  v26 := Tryz.zeroValue9
  t27 := Tryz.underlying120
  a27 := Tryz.isAgg120
  z27 := Tryz.sizeOf120
  v27 := Tryz.zeroValue120
  t28 := Tryz.underlying121
  a28 := Tryz.isAgg121
  z28 := Tryz.sizeOf121
  v28 := Tryz.zeroValue121
  t33 := Tryz.underlying147
  a33 := Tryz.isAgg147
  z33 := Tryz.sizeOf147
  v33 := Tryz.zeroValue147 }
theorem laysC : SlLaysZ.n8 Tryz.prog renK := {
  mixed := by kernel_rfl
  f8 := ⟨Tryz.f90.name, by kernel_rfl, Tryz.func90.trans (congrArg some (by kernel_rfl))⟩
  f11 := ⟨Tryz.f120.name, by kernel_rfl, Tryz.func120.trans (congrArg some (by kernel_rfl))⟩
  t0 := Tryz.underlying0
  a0 := Tryz.isAgg0
  z0 := Tryz.sizeOf0
  v0 := Tryz.zeroValue0
  t24 := Tryz.underlying118
  a24 := Tryz.isAgg118
  z24 := Tryz.sizeOf118
  v24 := Tryz.zeroValue118
  t26 := Tryz.underlying9
  a26 := Tryz.isAgg9
  z26 := Tryz.sizeOf9
  v26 := Tryz.zeroValue9
  t28 := Tryz.underlying121
  a28 := Tryz.isAgg121
  z28 := Tryz.sizeOf121
  v28 := Tryz.zeroValue121
  i26 := by kernel_rfl }
def renF : Ren := ⟨fun k => if k = 6 then 91 else if k = 14 then 121 else if k = 15 then 82 else if k = 20 then 143 else if k = 21 then 144 else if k = 22 then 145 else if k = 23 then 146 else if k = 24 then 147 else if k = 25 then 148 else if k = 26 then 149 else if k = 27 then 150 else if k = 28 then 110 else if k = 29 then 111 else if k = 46 then 155 else if k = 47 then 135 else if k = 48 then 136 else if k = 49 then 156 else if k = 50 then 157 else if k = 57 then 164 else 0, fun k => if k = 0 then 0 else if k = 3 then 3 else if k = 4 then 4 else if k = 5 then 5 else if k = 9 then 9 else if k = 22 then 118 else if k = 24 then 9 else if k = 25 then 93 else if k = 39 then 131 else if k = 45 then 161 else if k = 46 then 162 else if k = 50 then 44 else if k = 53 then 169 else if k = 55 then 171 else if k = 66 then 180 else if k = 70 then 184 else if k = 76 then 197 else if k = 77 then 154 else 0, fun g => g⟩
theorem laysF : SlLaysF.n6 Tryz.prog renF := {
  mixed := by kernel_rfl
  f6 := ⟨Tryz.f91.name, by kernel_rfl, Tryz.func91.trans (congrArg some (by kernel_rfl))⟩
  f14 := ⟨Tryz.f121.name, by kernel_rfl, Tryz.func121.trans (congrArg some (by kernel_rfl))⟩
  f15 := Tryz.func82.trans (congrArg some (by kernel_rfl))
  f20 := ⟨Tryz.f143.name, by kernel_rfl, Tryz.func143.trans (congrArg some (by kernel_rfl))⟩
  f21 := ⟨Tryz.f144.name, by kernel_rfl, Tryz.func144.trans (congrArg some (by kernel_rfl))⟩
  f22 := ⟨Tryz.f145.name, by kernel_rfl, Tryz.func145.trans (congrArg some (by kernel_rfl))⟩
  f23 := ⟨Tryz.f146.name, by kernel_rfl, Tryz.func146.trans (congrArg some (by kernel_rfl))⟩
  f24 := ⟨Tryz.f147.name, by kernel_rfl, Tryz.func147.trans (congrArg some (by kernel_rfl))⟩
  f25 := ⟨Tryz.f148.name, by kernel_rfl, Tryz.func148.trans (congrArg some (by kernel_rfl))⟩
  f26 := ⟨Tryz.f149.name, by kernel_rfl, Tryz.func149.trans (congrArg some (by kernel_rfl))⟩
  f27 := ⟨Tryz.f150.name, by kernel_rfl, Tryz.func150.trans (congrArg some (by kernel_rfl))⟩
  f28 := Tryz.func110.trans (congrArg some (by kernel_rfl))
  f29 := Tryz.func111.trans (congrArg some (by kernel_rfl))
  f46 := ⟨Tryz.f155.name, by kernel_rfl, Tryz.func155.trans (congrArg some (by kernel_rfl))⟩
  f47 := Tryz.func135.trans (congrArg some (by kernel_rfl))
  f48 := Tryz.func136.trans (congrArg some (by kernel_rfl))
  f49 := ⟨Tryz.f156.name, by kernel_rfl, Tryz.func156.trans (congrArg some (by kernel_rfl))⟩
  f50 := ⟨Tryz.f157.name, by kernel_rfl, Tryz.func157.trans (congrArg some (by kernel_rfl))⟩
  f57 := ⟨Tryz.f164.name, by kernel_rfl, Tryz.func164.trans (congrArg some (by kernel_rfl))⟩
  t0 := Tryz.underlying0
  a0 := Tryz.isAgg0
  z0 := Tryz.sizeOf0
  v0 := Tryz.zeroValue0
  t3 := Tryz.underlying3
  a3 := Tryz.isAgg3
  z3 := Tryz.sizeOf3
  v3 := Tryz.zeroValue3
  t4 := Tryz.underlying4
  a4 := Tryz.isAgg4
  z4 := Tryz.sizeOf4
  v4 := Tryz.zeroValue4
  t5 := Tryz.underlying5
  a5 := Tryz.isAgg5
  z5 := Tryz.sizeOf5
  v5 := Tryz.zeroValue5
  t9 := Tryz.underlying9
  a9 := Tryz.isAgg9
  z9 := Tryz.sizeOf9
  v9 := Tryz.zeroValue9
  t22 := Tryz.underlying118
  a22 := Tryz.isAgg118
  z22 := Tryz.sizeOf118
  v22 := Tryz.zeroValue118
  a24 := Tryz.isAgg9
  z24 := Tryz.sizeOf9
  t25 := Tryz.underlying93
  a25 := Tryz.isAgg93
  z25 := Tryz.sizeOf93
  v25 := Tryz.zeroValue93
  t39 := Tryz.underlying131
  a39 := Tryz.isAgg131
  z39 := Tryz.sizeOf131
  v39 := Tryz.zeroValue131
  t45 := Tryz.underlying161
  a45 := Tryz.isAgg161
  z45 := Tryz.sizeOf161
  v45 := Tryz.zeroValue161
  t46 := Tryz.underlying162
  a46 := Tryz.isAgg162
  z46 := Tryz.sizeOf162
  v46 := Tryz.zeroValue162
  t50 := Tryz.underlying44
  a50 := Tryz.isAgg44
  z50 := Tryz.sizeOf44
  v50 := Tryz.zeroValue44
  t53 := Tryz.underlying169
  a53 := Tryz.isAgg169
  z53 := Tryz.sizeOf169
  v53 := Tryz.zeroValue169
  t55 := Tryz.underlying171
  a55 := Tryz.isAgg171
  z55 := Tryz.sizeOf171
  v55 := Tryz.zeroValue171
  t66 := Tryz.underlying180
  a66 := Tryz.isAgg180
  z66 := Tryz.sizeOf180
  v66 := Tryz.zeroValue180
  t70 := Tryz.underlying184
  a70 := Tryz.isAgg184
  z70 := Tryz.sizeOf184
  v70 := Tryz.zeroValue184
  t76 := Tryz.underlying197
  a76 := Tryz.isAgg197
  z76 := Tryz.sizeOf197
  v76 := Tryz.zeroValue197
  t77 := Tryz.underlying154
  a77 := Tryz.isAgg154
  z77 := Tryz.sizeOf154
  v77 := Tryz.zeroValue154 }

/-- A text of a list of bytes, and one that no machine holds. -/
def tx (x : List UInt8) : ByteArray := ⟨x.toArray⟩
def nrm (x : List UInt8) : List UInt8 := if x.length ≤ maxLen then x else []
theorem nrm_of {x : List UInt8} (h : x.length ≤ maxLen) : nrm x = x := if_pos h
theorem nrm_le (x : List UInt8) : (nrm x).length ≤ maxLen := by
  unfold nrm
  split
  · assumption
  · simp
theorem tx_size (x : List UInt8) : (tx x).size = x.length := by simp [tx, ByteArray.size]
theorem tx_inj {x y : List UInt8} (h : tx x = tx y) : x = y := by
  simp only [tx, ByteArray.mk.injEq] at h
  simpa using congrArg Array.toList h
theorem tx_data (x : ByteArray) : tx x.data.toList = x := by cases x; simp [tx]
def encP (x : List UInt8) : Value := encStr (nrm x)
theorem encP_tx (x : List UInt8) : encStr x = .string (tx x) := rfl
theorem encP_one : OneCell encP := fun _ => rfl
def cfP (x y : List UInt8) : Int := cp (tx (nrm x)) (tx (nrm y))
theorem lt_cfP (x y : List UInt8) : ltOf cfP x y = decide (cp (tx (nrm x)) (tx (nrm y)) < 0) := rfl
theorem swoP : SWO (ltOf cfP) := by
  refine ⟨fun x => ?_, fun x y z h1 h2 => ?_, fun x y z h1 h2 => ?_⟩ <;> simp only [lt_cfP, decide_eq_true_eq, decide_eq_false_iff_not] at *
  · rw [cp_refl]; omega
  · exact cp_lt_trans h1 h2
  · have a := cp_neg (tx (nrm x)) (tx (nrm y))
    have b := cp_neg (tx (nrm y)) (tx (nrm z))
    have c := cp_neg (tx (nrm x)) (tx (nrm z))
    have := cp_trans (a := tx (nrm z)) (b := tx (nrm y)) (c := tx (nrm x)) (by omega) (by omega)
    omega
theorem scmp {W : World} {x y : List UInt8} : Calls Tryz.prog 74 (#[encP x, encP y] ++ #[]) W fun e w' => e = .returned (.int .i64 (cfP x y)) ∧ ∃ q os', w' = grow (W.drewN q) os' := by
  have h := compareD_any (tx (nrm x)) (tx (nrm y)) (by rw [tx_size]; exact nrm_le x) (by rw [tx_size]; exact nrm_le y) W
  refine h.mono ?_
  rintro e w' ⟨rfl, hd⟩
  obtain ⟨q, rfl⟩ := hd.ex
  exact ⟨rfl, q, #[], by rw [grow_empty]⟩
/-- A list is the keys of a map. -/
theorem keys_of {w : World} {b : Nat} {L : List En} (h : Em w b L) : ∃ D, w.ownsMap Tryz.prog 9 vR b L.length D ∧ Maps.size D = L.length ∧ (∀ x ∈ strKeys D, x.length ≤ maxLen) ∧ ∀ ss : List (List UInt8), ss.Perm (strKeys D) → ss.length = L.length ∧ ss.Nodup ∧ ∀ x, x ∈ ss ↔ tx x ∈ L.map (·.1) := by
  obtain ⟨D, hown, hs, hl⟩ := h.own
  have hle := strKeys_le hown Tryz.underlying9
  refine ⟨D, hown, hs, hle, fun ss hp => ?_⟩
  obtain ⟨es, hD, hpw, _⟩ := hown.entries ekeyed
  obtain ⟨es', hD', hko⟩ := hown.keysOf
  obtain rfl : es = es' := by rw [hD] at hD'; simpa using hD'
  subst hD
  have hk : ∀ p ∈ es, ∃ x, p.1 = .string x := fun p hp => by obtain ⟨v, hv⟩ := hko p hp; obtain ⟨x, _, hx, _⟩ := Maps.keyOf_str Tryz.underlying9 hv; exact ⟨x, hx⟩
  have hm : ∀ x, x ∈ strKeys (.map es) ↔ has (.map es) (.string x) = true := by
    intro x
    rw [has_eq, List.any_eq_true]
    show x ∈ es.map (fun p => _root_.Go.strOf p.1) ↔ _
    rw [List.mem_map]
    constructor
    · rintro ⟨p, hp', rfl⟩
      obtain ⟨a, ha⟩ := hk p hp'
      exact ⟨p, hp', by rw [ha]; simp [Lit.sameKey, _root_.Go.strOf]⟩
    · rintro ⟨p, hp', hs⟩
      obtain ⟨a, ha⟩ := hk p hp'
      rw [ha] at hs
      exact ⟨p, hp', by rw [ha]; simpa [Lit.sameKey, _root_.Go.strOf] using hs⟩
  have hnd : (strKeys (.map es)).Nodup := by
    show (es.map fun p => _root_.Go.strOf p.1).Nodup
    refine List.pairwise_map.2 (hpw.imp_of_mem fun {p q} hp' hq' hne e => hne ?_)
    obtain ⟨a, ha⟩ := hk p hp'
    obtain ⟨b, hb⟩ := hk q hq'
    rw [ha, hb] at e ⊢
    exact congrArg _ e
  refine ⟨?_, hp.nodup_iff.2 hnd, fun x => ?_⟩
  · rw [hp.length_eq, ← hs]
    simp [strKeys, Maps.size]
  · rw [hp.mem_iff]
    have hmm : ∀ y : ByteArray, y.size ≤ maxLen → (has (.map es) (.string y.data.toList) = true ↔ y ∈ L.map (·.1)) := fun y hy => by
      have := hl.has y hy
      unfold kL at this
      rw [this, fnd_some, List.mem_map]
    constructor
    · intro hx
      have h1 := (hm x).1 hx
      have h2 := hle x hx
      exact (hmm (tx x) (by rw [tx_size]; exact h2)).1 h1
    · intro hx
      obtain ⟨e, he, he'⟩ := List.mem_map.1 hx
      have hz := h.sml e he
      rw [he'] at hz
      exact (hm x).2 ((hmm (tx x) hz).2 hx)
/-- Keys in order are the list's. -/
theorem keys_same {L : List En} (hr : Ris L) {ts : List (List UInt8)} (hnd : ts.Nodup) (hmem : ∀ x, x ∈ ts ↔ tx x ∈ L.map (·.1)) (hs : ts.Pairwise (fun x y => cp (tx x) (tx y) ≤ 0)) : ts.map tx = L.map (·.1) := by
  have e1 : (ts.map tx).map (fun k => ((k, k) : En)) = (L.map (·.1)).map (fun k => ((k, k) : En)) := by
    refine ris_ext ?_ ?_ fun e => ?_
    · refine List.pairwise_map.2 (List.pairwise_map.2 ?_)
      have := hs.and hnd
      refine this.imp ?_
      rintro x y ⟨h1, h2⟩
      rcases Int.lt_or_eq_of_le h1 with h | h
      · exact h
      · exact absurd (tx_inj (cp_eq h)) h2
    · exact List.pairwise_map.2 (List.pairwise_map.2 hr)
    · simp only [List.mem_map]
      constructor
      · rintro ⟨k, ⟨x, hx, rfl⟩, rfl⟩
        exact ⟨tx x, by simpa using (hmem x).1 hx, rfl⟩
      · rintro ⟨k, hk, rfl⟩
        refine ⟨k, ⟨k.data.toList, ?_, tx_data k⟩, rfl⟩
        rw [hmem, tx_data]
        simpa using hk
  have := congrArg (List.map Prod.fst) e1
  simpa [List.map_map, Function.comp_def] using this
theorem collect_st {w : World} {b Bm : Nat} {L : List En} (h : Em w b L) (hn : L.length ≤ 1000000) (hB : Bm < w.heap.size) (hc : w.cell? ⟨Bm, 0, none⟩ = some (.map (some b))) :
    Calls Tryz.prog 90 #[.func (.func 92) #[] #[.pointer (some ⟨Bm, 0, none⟩)]] w fun e w' => ∃ (v : Value) (ss : List (List UInt8)), e = .returned v ∧ (ss.length = L.length ∧ ss.Nodup ∧ (∀ x, x ∈ ss ↔ tx x ∈ L.map (·.1)) ∧ ∀ x ∈ ss, x.length ≤ maxLen) ∧ w'.ownsRow w.heap.size 9 1 v ss.length (ss.map encStr) ∧ Fr (fun _ => False) w w' := by
  obtain ⟨D, h1, h2, hle, hk⟩ := keys_of h
  refine (callsIn_wide.1 (AnyZ.collect_in laysC Fence.wide 3 trivial trivial rfl (by omega) 92 #[.pointer (some ⟨Bm, 0, none⟩)] trivial (laysK.f10.enters rfl) (fun ss => ss.Perm (strKeys D)) (Maps.size D) (by unfold maxLen; omega) (by omega) w (AnyZ.keys_gives { laysK with } Fence.wide _ trivial rfl (by omega) Bm b L.length D w hB hc h1))).mono ?_
  rintro e w' ⟨v, ss, rfl, hS, hrow, _, hb⟩
  obtain ⟨k1, k2, k3⟩ := hk ss hS
  exact ⟨v, ss, rfl, ⟨k1, k2, k3, fun x hx => hle x (hS.mem_iff.1 hx)⟩, hrow, Fr.of_below hb (fun k hk _ => hk)⟩
theorem keys_st (b : Nat) (w : World) : Calls Tryz.prog 73 #[.map (some b)] w fun e w' => e = .returned (.func (.func 92) #[] #[.pointer (some ⟨w.heap.size, 0, none⟩)]) ∧ w' = w.alloc (.cells #[.map (some b)] 79) :=
  callsIn_wide.1 (AnyZ.keys_in laysK Fence.wide 1 trivial rfl (some b) w)
theorem encP_of {x : List UInt8} (h : x.length ≤ maxLen) : encP x = encStr x := by unfold encP; rw [nrm_of h]
theorem putP (w : World) (blk : Nat) (ts : List (List UInt8)) (h : ∀ x ∈ ts, x.length ≤ maxLen) : putRow encP w blk 0 ts.toArray = putRow encStr w blk 0 ts.toArray := by
  unfold putRow
  congr 1
  funext c
  unfold putCells
  congr 1
  funext k x
  split
  · rename_i hk
    refine encP_of (h _ ?_)
    have : k - 0 < ts.length := by have := hk.2; simp at this; omega
    rw [getElem!_pos _ _ (by simpa using this)]
    simp
  · rfl
theorem sort_st {w : World} {blk cap : Nat} {ss : List (List UInt8)} {cur : Array Value} (hwf : ∀ x ∈ ss, x.length ≤ maxLen)
    (hgb : w.heap[blk]? = some (.cells cur 9 (0, 0))) (ht : cur.toList.take ss.length = ss.map encStr) (hsz : ss.length < 4611686018427387904) :
    Calls Tryz.prog 91 #[.slice (some ⟨blk, 0, none⟩) ss.length cap, .func (.func 74) #[] #[]] w fun e w' =>
      e = .returned (.tuple #[]) ∧ ∃ (ts : List (List UInt8)) (k : Nat) (os : Array Obj), ts.Perm ss ∧ ts.Pairwise (fun x y => cp (tx x) (tx y) ≤ 0) ∧ w' = grow (putRow encStr (Sort.ahead w k) blk 0 ts.toArray) os := by
  have hH : Holds encP w blk 0 ss.toArray := fun j hj => by
    have h1 := holds_of_block hgb ht j hj
    have : j < ss.length := by simpa using hj
    rw [getElem!_pos ss.toArray j hj] at h1 ⊢
    rw [encP_of (hwf _ (by simp))]
    exact h1
  have hcmp : CmpLays1 Tryz.prog 74 #[] encP cfP blk 0 ss.toArray.size w := fun m os dk hs x y => scmp
  have hblk : blk < w.heap.size := lt_of_block hgb
  have main := Any.slices_SortFunc laysF encP encP_one cfP swoP 74 #[] blk 0 cap ss.toArray w (enters_of Tryz.func74 (by kernel_rfl) rfl) hcmp hH hblk (by simpa using hsz)
  refine main.mono ?_
  rintro e w' ⟨rfl, d', k, os, ⟨hp1, _, hp2⟩, hs, rfl⟩
  have hsz' : d'.size = ss.length := by simpa using hp1
  have hperm : d'.toList.Perm ss := by
    have e1 : d'.extract 0 ss.length = d' := by rw [← hsz']; simp
    have e2 : ss.toArray.extract 0 ss.length = ss.toArray := by simp
    rw [List.size_toArray, e1, e2] at hp2
    exact hp2
  have hwf' : ∀ x ∈ d'.toList, x.length ≤ maxLen := fun x hx => hwf x (hperm.mem_iff.1 hx)
  refine ⟨rfl, d'.toList, k, os, hperm, ?_, ?_⟩
  · rw [List.pairwise_iff_getElem]
    intro i j hi hj hij
    have := hs i j (Nat.zero_le _) hij (by simpa [hsz'] using hj)
    rw [lt_cfP, decide_eq_false_iff_not] at this
    have hi' : i < d'.size := by simpa using hi
    have hj' : j < d'.size := by simpa using hj
    rw [getElem!_pos d' i hi', getElem!_pos d' j hj'] at this
    have wi := hwf' d'[i] (by simp)
    have wj := hwf' d'[j] (by simp)
    rw [nrm_of wi, nrm_of wj] at this
    simp only [Array.getElem_toList]
    have := cp_neg (tx d'[i]) (tx d'[j])
    omega
  · unfold sortWorld
    have := putP (Sort.ahead w k) blk d'.toList hwf'
    rw [Array.toArray_toList] at this ⊢
    rw [this]
theorem ins_n (c : Value) (w : World) : Calls Tryz.prog 143 #[.slice none 0 0, .int .i64 0, .int .i64 0, c] w fun e w' => e = .returned (.tuple #[]) ∧ Fr (fun _ => False) w w' := by
  go_enter Tryz.func143, Tryz.ntmps143
  go_wp2
  refine wp_loop_rounds 1 ?_
  rw [rounds_succ]
  go_wp2
  go_end0
  exact ⟨rfl, Fr.refl _ w⟩
set_option maxRecDepth 20000 in
theorem len64_n (w : World) : Calls Tryz.prog 111 #[.int .u64 0] w fun e w' => e = .returned (.int .i64 0) ∧ Fr (fun _ => False) w w' := by
  go_enter Tryz.func111, Tryz.ntmps111
  go_wp2
  go_ret
  refine ⟨?_, Fr.refl _ w⟩
  simp [go_sem]
  kernel_rfl
theorem len_n (w : World) : Calls Tryz.prog 82 #[.int .u64 0] w fun e w' => e = .returned (.int .i64 0) ∧ Fr (fun _ => False) w w' := by
  have hl := len64_n w
  go_enter Tryz.func82, Tryz.ntmps82
  go_wp2_with (go_at_call 111; refine hl.mono ?_; rintro e w' ⟨rfl, f1⟩)
  go_ret
  exact ⟨rfl, f1⟩
set_option maxRecDepth 100000 in
set_option maxHeartbeats 1000000 in
theorem pdq_n (c : Value) (w : World) : Calls Tryz.prog 121 #[.slice none 0 0, .int .i64 0, .int .i64 0, .int .i64 0, c] w fun e w' => e = .returned (.tuple #[]) ∧ Fr (fun _ => False) w w' := by
  have hi := ins_n c w
  go_enter Tryz.func121, Tryz.ntmps121
  go_wp2
  refine wp_loop_rounds 1 ?_
  rw [rounds_succ]
  go_wp2_with (go_at_call 143; refine hi.mono ?_; rintro e w' ⟨rfl, f1⟩)
  refine bodyPost_ret (results_none rfl _ _ _) rfl ?_
  exact ⟨rfl, f1⟩
theorem sort_n (c : Value) (w : World) : Calls Tryz.prog 91 #[.slice none 0 0, c] w fun e w' => e = .returned (.tuple #[]) ∧ Fr (fun _ => False) w w' := by
  have hl := len_n w
  go_enter Tryz.func91, Tryz.ntmps91
  go_wp2_with (go_at_call 82; refine hl.mono ?_; rintro e w1 ⟨rfl, f1⟩)
  refine (pdq_n c w1).mono ?_
  rintro e w2 ⟨rfl, f2⟩
  go_wp2
  go_end0
  exact ⟨rfl, f1.seq' f2⟩
/-- The keys of a map in order, as a row in memory. -/
def KeyOut (w : World) (L : List En) (e : Ending) (w' : World) : Prop := ∃ v, e = .returned v ∧ w'.ownsRow w.heap.size 9 1 v L.length (L.map (fun e => Value.string e.1)) ∧ Fr (fun _ => False) w w'
set_option maxRecDepth 100000 in
set_option maxHeartbeats 1000000 in
theorem sorted_st {w : World} {b Bk : Nat} {L : List En} (h : Em w b L) (hn : L.length ≤ 1000000) (hK : Bk < w.heap.size) (hck : w.cell? ⟨Bk, 0, none⟩ = some (.map (some b))) :
    Calls Tryz.prog 72 #[.func (.func 92) #[] #[.pointer (some ⟨Bk, 0, none⟩)], .func (.func 74) #[] #[]] w fun e w' => KeyOut w L e w' := by
  have hl := collect_st h hn hK hck
  have HR := h.ris
  have hmb := h.lt
  go_enter Tryz.func72, Tryz.ntmps72
  go_wp2_with (go_at_call 90; refine hl.mono ?_; rintro e w1 ⟨v, ss, rfl, ⟨k1, k2, k3, k4⟩, hrow, f1⟩)
  rcases hrow.2 with ⟨rfl, hz⟩ | ⟨gb, cap, cur, rfl, hbase, hgb, r1, r2, r3, r4⟩
  · have hss : ss = [] := List.eq_nil_of_length_eq_zero hz
    subst hss
    have hL0 : L = [] := List.eq_nil_of_length_eq_zero k1.symm
    subst hL0
    refine (sort_n _ w1).mono ?_
    rintro e w2 ⟨rfl, f2⟩
    go_wp2
    go_ret
    exact ⟨_, rfl, ⟨rfl, .inl ⟨rfl, rfl⟩⟩, f1.seq' f2⟩
  · have HK1 : Hid (ss.length = L.length) := k1
    have HK2 : Hid (ss.Nodup ∧ ∀ x, x ∈ ss ↔ tx x ∈ L.map (·.1)) := ⟨k2, k3⟩
    refine (sort_st (cap := cap) k4 hgb (by simpa using r4) (by omega)).mono ?_
    rintro e w2 ⟨rfl, ts, k, os, hp, hs, rfl⟩
    have hown := ownsRow_sorted (n := k) (os := os) (ts := ts) (ss := ss) hp.length_eq hbase hgb r1 r2 r3
    have f2 : Fr (fun k => k = gb) w1 (grow (putRow encStr (Sort.ahead w1 k) gb 0 ts.toArray) os) := (Fr.refl _ w1).grown (grownBy_sorted ts.toArray) (fun k e _ => by simp only [Option.some.injEq] at e; exact e.symm)
    generalize grow (putRow encStr (Sort.ahead w1 k) gb 0 ts.toArray) os = w2 at hown f2 ⊢
    have HKS : Hid (ts.map encStr = L.map (fun e => Value.string e.1)) := by
      have := keys_same HR (hp.nodup_iff.2 HK2.out.1) (fun x => hp.mem_iff.trans (HK2.out.2 x)) hs
      show _ = _
      have e2 := congrArg (List.map Value.string) this
      rw [List.map_map, List.map_map] at e2
      exact e2
    have HOUT : Hid (KeyOut w L (.returned (.slice (some ⟨gb, 0, none⟩) ss.length cap)) w2) := ⟨_, rfl, by rw [← HKS.out, ← HK1.out]; exact hown, f1.trans f2 (fun i hi e => by omega)⟩
    clear k1 k2 k3 k4 hown f2 HK1 HK2 HKS hp hs HR hl h
    go_wp2
    go_ret
    exact HOUT.out
end Go.Proofs.YtdlnflcjodpkiaaGreat
