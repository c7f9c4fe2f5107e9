
/- slices.SortFunc[[]int,int] as the shelf knows it, at the order of requests. -/
import Derived.Test.YtfmjefmocenkbaaSsWait
import Derived.Shelf.SlSortCmp.Whole1
import Derived.Lib.SlKeysI
namespace Go.Proofs.Ytfmjefmocenkbaa
open Go.Shelf Go.RowKit Go.Maps Go.Sort

section
variable (w : World)
theorem ins_n (c : Value) : Calls Try.prog 35 #[.slice none 0 0, .int .i64 0, .int .i64 0, c] w fun e w' => e = .returned (.tuple #[]) ∧ Fr (fun _ => False) w w' := by
  go_enter Try.func35, Try.ntmps35
  go_wp2
  refine wp_loop_rounds 1 ?_
  rw [rounds_succ]
  go_wp2
  go_end0
  exact ⟨rfl, Fr.refl _ w⟩
set_option maxRecDepth 20000 in
theorem len64_n : Calls Try.prog 44 #[.int .u64 0] w fun e w' => e = .returned (.int .i64 0) ∧ Fr (fun _ => False) w w' := by
  go_enter Try.func44, Try.ntmps44
  go_wp2
  go_ret
  refine ⟨?_, Fr.refl _ w⟩
  simp [go_sem]
  kernel_rfl
theorem len_n : Calls Try.prog 33 #[.int .u64 0] w fun e w' => e = .returned (.int .i64 0) ∧ Fr (fun _ => False) w w' := by
  have hl := len64_n w
  go_enter Try.func33, Try.ntmps33
  go_wp2_with (go_at_call 44; refine hl.mono ?_; rintro e w' ⟨rfl, f1⟩)
  go_ret
  exact ⟨rfl, f1⟩
set_option maxRecDepth 100000 in
set_option maxHeartbeats 1000000 in
theorem pdq_n (c : Value) : Calls Try.prog 32 #[.slice none 0 0, .int .i64 0, .int .i64 0, .int .i64 0, c] w fun e w' => e = .returned (.tuple #[]) ∧ Fr (fun _ => False) w w' := by
  have hi := ins_n w c
  go_enter Try.func32, Try.ntmps32
  go_wp2
  refine wp_loop_rounds 1 ?_
  rw [rounds_succ]
  go_wp2_with (go_at_call 35; refine hi.mono ?_; rintro e w' ⟨rfl, f1⟩)
  refine bodyPost_ret (results_none rfl _ _ _) rfl ?_
  exact ⟨rfl, f1⟩
theorem sort_n (c : Value) : Calls Try.prog 29 #[.slice none 0 0, c] w fun e w' => e = .returned (.tuple #[]) ∧ Fr (fun _ => False) w w' := by
  have hl := len_n w
  go_enter Try.func29, Try.ntmps29
  go_wp2_with (go_at_call 33; refine hl.mono ?_; rintro e w1 ⟨rfl, f1⟩)
  refine (pdq_n w1 c).mono ?_
  rintro e w2 ⟨rfl, f2⟩
  go_wp2
  go_end0
  exact ⟨rfl, f1.seq' f2⟩
end
def renF : Ren := ⟨fun k => if k = 6 then 29 else if k = 14 then 32 else if k = 15 then 33 else if k = 20 then 35 else if k = 21 then 36 else if k = 22 then 37 else if k = 23 then 38 else if k = 24 then 39 else if k = 25 then 40 else if k = 26 then 41 else if k = 27 then 42 else if k = 28 then 43 else if k = 29 then 44 else if k = 46 then 45 else if k = 47 then 46 else if k = 48 then 47 else if k = 49 then 48 else if k = 50 then 49 else if k = 57 then 50 else 0, fun k => if k = 0 then 0 else if k = 3 then 3 else if k = 4 then 4 else if k = 5 then 5 else if k = 9 then 9 else if k = 22 then 27 else if k = 24 then 3 else if k = 25 then 34 else if k = 39 then 74 else if k = 45 then 76 else if k = 46 then 77 else if k = 50 then 66 else if k = 53 then 83 else if k = 55 then 85 else if k = 66 then 86 else if k = 70 then 90 else if k = 76 then 92 else if k = 77 then 93 else 0, fun g => g⟩
theorem laysF : SlLaysF.n6 Try.prog renF := {
  mixed := by kernel_rfl
  f6 := ⟨Try.f29.name, by kernel_rfl, Try.func29.trans (congrArg some (by kernel_rfl))⟩
  f14 := ⟨Try.f32.name, by kernel_rfl, Try.func32.trans (congrArg some (by kernel_rfl))⟩
  f15 := Try.func33.trans (congrArg some (by kernel_rfl))
  f20 := ⟨Try.f35.name, by kernel_rfl, Try.func35.trans (congrArg some (by kernel_rfl))⟩
  f21 := ⟨Try.f36.name, by kernel_rfl, Try.func36.trans (congrArg some (by kernel_rfl))⟩
  f22 := ⟨Try.f37.name, by kernel_rfl, Try.func37.trans (congrArg some (by kernel_rfl))⟩
  f23 := ⟨Try.f38.name, by kernel_rfl, Try.func38.trans (congrArg some (by kernel_rfl))⟩
  f24 := ⟨Try.f39.name, by kernel_rfl, Try.func39.trans (congrArg some (by kernel_rfl))⟩
  f25 := ⟨Try.f40.name, by kernel_rfl, Try.func40.trans (congrArg some (by kernel_rfl))⟩
  f26 := ⟨Try.f41.name, by kernel_rfl, Try.func41.trans (congrArg some (by kernel_rfl))⟩
  f27 := ⟨Try.f42.name, by kernel_rfl, Try.func42.trans (congrArg some (by kernel_rfl))⟩
  f28 := Try.func43.trans (congrArg some (by kernel_rfl))
  f29 := Try.func44.trans (congrArg some (by kernel_rfl))
  f46 := ⟨Try.f45.name, by kernel_rfl, Try.func45.trans (congrArg some (by kernel_rfl))⟩
  f47 := Try.func46.trans (congrArg some (by kernel_rfl))
  f48 := Try.func47.trans (congrArg some (by kernel_rfl))
  f49 := ⟨Try.f48.name, by kernel_rfl, Try.func48.trans (congrArg some (by kernel_rfl))⟩
  f50 := ⟨Try.f49.name, by kernel_rfl, Try.func49.trans (congrArg some (by kernel_rfl))⟩
  f57 := ⟨Try.f50.name, by kernel_rfl, Try.func50.trans (congrArg some (by kernel_rfl))⟩
  t0 := Try.underlying0
  a0 := Try.isAgg0
  z0 := Try.sizeOf0
  v0 := Try.zeroValue0
  t3 := Try.underlying3
  a3 := Try.isAgg3
  z3 := Try.sizeOf3
  v3 := Try.zeroValue3
  t4 := Try.underlying4
  a4 := Try.isAgg4
  z4 := Try.sizeOf4
  v4 := Try.zeroValue4
  t5 := Try.underlying5
  a5 := Try.isAgg5
  z5 := Try.sizeOf5
  v5 := Try.zeroValue5
  t9 := Try.underlying9
  a9 := Try.isAgg9
  z9 := Try.sizeOf9
  v9 := Try.zeroValue9
  t22 := Try.underlying27
  a22 := Try.isAgg27
  z22 := Try.sizeOf27
  v22 := Try.zeroValue27
  a24 := Try.isAgg3
  z24 := Try.sizeOf3
  t25 := Try.underlying34
  a25 := Try.isAgg34
  z25 := Try.sizeOf34
  v25 := Try.zeroValue34
  t39 := Try.underlying74
  a39 := Try.isAgg74
  z39 := Try.sizeOf74
  v39 := Try.zeroValue74
  t45 := Try.underlying76
  a45 := Try.isAgg76
  z45 := Try.sizeOf76
  v45 := Try.zeroValue76
  t46 := Try.underlying77
  a46 := Try.isAgg77
  z46 := Try.sizeOf77
  v46 := Try.zeroValue77
  t50 := Try.underlying66
  a50 := Try.isAgg66
  z50 := Try.sizeOf66
  v50 := Try.zeroValue66
  t53 := Try.underlying83
  a53 := Try.isAgg83
  z53 := Try.sizeOf83
  v53 := Try.zeroValue83
  t55 := Try.underlying85
  a55 := Try.isAgg85
  z55 := Try.sizeOf85
  v55 := Try.zeroValue85
  t66 := Try.underlying86
  a66 := Try.isAgg86
  z66 := Try.sizeOf86
  v66 := Try.zeroValue86
  t70 := Try.underlying90
  a70 := Try.isAgg90
  z70 := Try.sizeOf90
  v70 := Try.zeroValue90
  t76 := Try.underlying92
  a76 := Try.isAgg92
  z76 := Try.sizeOf92
  v76 := Try.zeroValue92
  t77 := Try.underlying93
  a77 := Try.isAgg93
  z77 := Try.sizeOf93
  v77 := Try.zeroValue93 }

def nrm (x : Int) : Int := if (Lit.int .i64 x).wf = true then x else 0
theorem nrm_of {x : Int} (h : wfK x) : nrm x = x := if_pos h
theorem nrm_wf (x : Int) : wfK (nrm x) := by
  unfold nrm
  split
  · assumption
  · exact wfK_of (by omega)
def encP (x : Int) : Value := .int .i64 (nrm x)
theorem encP_one : OneCell encP := fun _ => rfl
def cmpI (a b : Int) : Int := if a < b then -1 else if b < a then 1 else 0
def atL (L : Wt) (x : Int) : Int := (lk L x).getD 0
def cf2 (a b x y : Int) : Int := if cmpI a b = 0 then cmpI x y else cmpI a b
def cfW (L : Wt) (x y : Int) : Int := cf2 (atL L (nrm x)) (atL L (nrm y)) (nrm x) (nrm y)
theorem lt_cfW (L : Wt) (x y : Int) : ltOf (cfW L) x y = ltB (nrm x, atL L (nrm x)) (nrm y, atL L (nrm y)) := by
  unfold ltOf cfW cf2 cmpI ltB
  generalize atL L (nrm x) = a
  generalize atL L (nrm y) = b
  generalize nrm x = u
  generalize nrm y = v
  dsimp only
  by_cases h1 : a < b
  · simp [h1]
  · by_cases h2 : b < a
    · have : ¬ a = b := by omega
      simp [h1, h2, this]
    · have : a = b := by omega
      subst this
      by_cases h3 : u < v
      · simp [h3]
      · by_cases h4 : v < u <;> simp [h3, h4]
theorem swoW (L : Wt) : SWO (ltOf (cfW L)) := by
  refine ⟨fun x => ?_, fun x y z h1 h2 => ?_, fun x y z h1 h2 => ?_⟩ <;> simp only [lt_cfW] at *
  · exact ltB_irr _
  · exact ltB_trans h1 h2
  · simp [ltB] at *; omega
theorem nan_any (a : Int) (w : World) : Calls Try.prog 34 #[.int .i64 a] w fun e w' => e = .returned (.bool false) ∧ w = w' := by
  go_enter Try.func34, Try.ntmps34
  go_wp2
  go_ret
  exact ⟨by simp, rfl⟩
theorem compare_any (a b : Int) (w : World) : Calls Try.prog 31 #[.int .i64 a, .int .i64 b] w fun e w' => e = .returned (.int .i64 (cmpI a b)) ∧ w = w' := by
  by_cases h : a < b
  · have e1 : cmpI a b = -1 := if_pos h
    rw [e1]
    go_enter Try.func31, Try.ntmps31
    go_wp2_with (go_at_call 34; refine (nan_any _ _).mono ?_; rintro e w' ⟨rfl, rfl⟩)
    go_ret
    exact ⟨rfl, rfl⟩
  · by_cases h2 : b < a
    · have e1 : cmpI a b = 1 := (if_neg h).trans (if_pos h2)
      rw [e1]
      go_enter Try.func31, Try.ntmps31
      go_wp2_with (go_at_call 34; refine (nan_any _ _).mono ?_; rintro e w' ⟨rfl, rfl⟩)
      go_ret
      exact ⟨rfl, rfl⟩
    · have e1 : cmpI a b = 0 := (if_neg h).trans (if_neg h2)
      rw [e1]
      go_enter Try.func31, Try.ntmps31
      go_wp2_with (go_at_call 34; refine (nan_any _ _).mono ?_; rintro e w' ⟨rfl, rfl⟩)
      go_ret
      exact ⟨rfl, rfl⟩
set_option maxRecDepth 100000 in
set_option maxHeartbeats 2000000 in
theorem wcmp {W : World} {b mb n Bm : Nat} {L : Wt} {dv : Value} (h : Mp W mb n (wMap L)) (ht : Two W b 61 (.map (some mb)) dv) (hc : W.cell? ⟨Bm, 0, none⟩ = some (.pointer (some ⟨b, 0, none⟩))) {x y : Int} (hx : wfK x) (hy : wfK y) :
    Calls Try.prog 30 #[.int .i64 x, .int .i64 y, .pointer (some ⟨Bm, 0, none⟩)] W fun e w' => e = .returned (.int .i64 (cf2 (atL L x) (atL L y) x y)) ∧ ∃ q, w' = W.drewN q := by
  have h1 : ∀ k, (Instr.lookup 58 (.map (some mb)) (.int .i64 x) false).run Try.prog (W.drewN k) = .ok (.int .i64 (atL L x)) (W.drewN k) := fun k => (h.same ((Fr.refl _ W).drewN k)).lookW1 hx
  have h2 : ∀ k, (Instr.lookup 58 (.map (some mb)) (.int .i64 y) false).run Try.prog (W.drewN k) = .ok (.int .i64 (atL L y)) (W.drewN k) := fun k => (h.same ((Fr.refl _ W).drewN k)).lookW1 hy
  obtain ⟨x0, x1, _⟩ := ht.cells
  generalize atL L x = a at *
  generalize atL L y = c at *
  clear h ht hx hy
  by_cases hz : cmpI a c = 0
  · rw [show cf2 a c x y = cmpI x y from if_pos hz]
    go_enter Try.func30, Try.ntmps30
    go_wp2
    go_quiet ((go_at_call 31; exact Calls.quiet_of_same ((compare_any _ _ _).mono fun _ _ h => ⟨h.1, h.2.symm⟩)))
    go_wp2_with (go_at_call 31; refine (compare_any _ _ _).mono ?_; rintro e w' ⟨rfl, rfl⟩)
    go_ret
    exact ⟨rfl, _, rfl⟩
  · rw [show cf2 a c x y = cmpI a c from if_neg hz]
    have hz' : (cmpI a c == 0) = false := by simpa using hz
    have hz2 : (cmpI a c != 0) = true := by simpa using hz
    clear hz
    go_enter Try.func30, Try.ntmps30
    go_wp2
    go_quiet ((go_at_call 31; exact Calls.quiet_of_same ((compare_any _ _ _).mono fun _ _ h => ⟨h.1, h.2.symm⟩)))
    go_wp2
    go_ret
    exact ⟨rfl, _, rfl⟩
theorem grownP {w : World} {g n : Nat} {os : Array Obj} (d : Array Int) : w.grownBy (sortWorld encP w g 0 n d os) (some g) := by
  unfold sortWorld
  refine ⟨rfl, rfl, rfl, by simp, fun k hk hne => ?_⟩
  rw [heap_grow_old _ _ (by simpa using hk)]
  have : g ≠ k := fun e => hne (by rw [e])
  simp [putRow, mapBlock, Sort.ahead, Array.getElem?_modify, this]
theorem encP_of {x : Int} (h : wfK x) : encP x = encZ x := by unfold encP; rw [nrm_of h]
theorem putP (w : World) (blk : Nat) (ts : List Int) (h : ∀ x ∈ ts, wfK x) : putRow encP w blk 0 ts.toArray = putRow encZ w blk 0 ts.toArray := by
  unfold putRow
  congr 1
  funext c
  unfold putCells
  congr 1
  funext k x
  split
  · rename_i hk
    refine encP_of (h _ ?_)
    have : k - 0 < ts.length := by have := hk.2; simp at this; omega
    rw [getElem!_pos _ _ (by simpa using this)]
    simp
  · rfl
theorem sort_w {w : World} {b mb n Bm blk cap : Nat} {L : Wt} {dv : Value} {ss : List Int} {cur : Array Value} (h : Mp w mb n (wMap L)) (ht : Two w b 61 (.map (some mb)) dv) (hc : w.cell? ⟨Bm, 0, none⟩ = some (.pointer (some ⟨b, 0, none⟩))) (hBl : Bm < w.heap.size) (hm : mb ≠ blk) (hb : b ≠ blk) (hB : Bm ≠ blk) (hwf : ∀ x ∈ ss, wfK x)
    (hgb : w.heap[blk]? = some (.cells cur 3 (0, 0))) (hct : cur.toList.take ss.length = ss.map encZ) (hsz : ss.length < 4611686018427387904) :
    Calls Try.prog 29 #[.slice (some ⟨blk, 0, none⟩) ss.length cap, .func (.func 30) #[] #[.pointer (some ⟨Bm, 0, none⟩)]] w fun e w' =>
      e = .returned (.tuple #[]) ∧ ∃ (ts : List Int) (k : Nat) (os : Array Obj), ts.Perm ss ∧ ts.Pairwise (fun x y => ltB (y, atL L y) (x, atL L x) = false) ∧ w' = grow (putRow encZ (Sort.ahead w k) blk 0 ts.toArray) os := by
  have hH : Holds encP w blk 0 ss.toArray := fun j hj => by
    have h1 := holds_of_block_i hgb hct j hj
    have : j < ss.length := by simpa using hj
    rw [getElem!_pos ss.toArray j hj] at h1 ⊢
    rw [encP_of (hwf _ (by simp))]
    exact h1
  have hcmp : CmpLays1 Try.prog 30 #[.pointer (some ⟨Bm, 0, none⟩)] encP (cfW L) blk 0 ss.toArray.size w := fun m os dk hs x y => by
    have fr : Fr (fun k => k = blk) w (sortWorld encP w blk 0 m dk os) := (Fr.refl _ w).grown (grownP dk) (fun k e _ => by simp only [Option.some.injEq] at e; exact e.symm)
    refine (wcmp (h.fr fr hm) (ht.fr fr hb) ((fr.cell (p := ⟨Bm, 0, none⟩) hBl hB).trans hc) (nrm_wf x) (nrm_wf y)).mono ?_
    rintro e w' ⟨rfl, q, rfl⟩
    exact ⟨rfl, q, #[], by rw [grow_empty]⟩
  have hblk : blk < w.heap.size := lt_of_block hgb
  have main := Any.slices_SortFunc laysF encP encP_one (cfW L) (swoW L) 30 #[.pointer (some ⟨Bm, 0, none⟩)] blk 0 cap ss.toArray w (enters_of Try.func30 (by kernel_rfl) rfl) hcmp hH hblk (by simpa using hsz)
  refine main.mono ?_
  rintro e w' ⟨rfl, d', k, os, ⟨hp1, _, hp2⟩, hs, rfl⟩
  have hsz' : d'.size = ss.length := by simpa using hp1
  have hperm : d'.toList.Perm ss := by
    have e1 : d'.extract 0 ss.length = d' := by rw [← hsz']; simp
    have e2 : ss.toArray.extract 0 ss.length = ss.toArray := by simp
    rw [List.size_toArray, e1, e2] at hp2
    exact hp2
  have hwf' : ∀ x ∈ d'.toList, wfK x := fun x hx => hwf x (hperm.mem_iff.1 hx)
  refine ⟨rfl, d'.toList, k, os, hperm, ?_, ?_⟩
  · rw [List.pairwise_iff_getElem]
    intro i j hi hj hij
    have := hs i j (Nat.zero_le _) hij (by simpa [hsz'] using hj)
    rw [lt_cfW] at this
    have hi' : i < d'.size := by simpa using hi
    have hj' : j < d'.size := by simpa using hj
    rw [getElem!_pos d' i hi', getElem!_pos d' j hj'] at this
    have wi := hwf' d'[i] (by simp)
    have wj := hwf' d'[j] (by simp)
    rw [nrm_of wi, nrm_of wj] at this
    simp only [Array.getElem_toList]
    exact this
  · unfold sortWorld
    have := putP (Sort.ahead w k) blk d'.toList hwf'
    rw [Array.toArray_toList] at this ⊢
    rw [this]
end Go.Proofs.Ytfmjefmocenkbaa
