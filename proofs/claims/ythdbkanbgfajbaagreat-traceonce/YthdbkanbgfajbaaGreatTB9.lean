
/- TcRul2, FdSort. -/
import Derived.Test.YthdbkanbgfajbaaGreatTB8
import Derived.Test.YthdbkanbgfajbaaGreatTB5
import Derived.Shelf.SlIter.Collect
import Derived.Shelf.SlSortCmp.Whole1
import Derived.Shelf.SlSortCmp.Insertion
import Derived.Sort.OwnSorted
/- The rules of an answer: 3 and 6. -/
namespace Go.Proofs.YthdbkanbgfajbaaGreat
open Go.RowKit

theorem cell_blk {W : World} {b : Nat} {A : Array Value} {t : TypeId} (h : W.heap[b]? = some (.cells A t (0, 0))) (j : Nat) : W.cell? ⟨b, j, none⟩ = A[j]? := cell_of_row W b j A t (0, 0) h
section
variable {S : Nat → Prop} {b : Nat} {W : Wt} {K m1 m2 : Nat} {oa : Option Addr} {oc : Nat} {ha : Option Addr} {hc : Nat} {P : Int → Nat}
set_option maxRecDepth 100000 in
set_option maxHeartbeats 4000000 in
theorem r3_wi (s : Sn) (a : An) (hx : wfK a.req) (w : World) (hR : Recs w s.ha s.hc s.H) (hn : s.H.length ≤ 100000) (h : Wi w S b W K m1 m2 oa oc ha hc P) : Calls Tryz.prog 31 #[.pointer (some ⟨b, 0, none⟩), snV s, anV a] w fun e w' => e = .returned (.bool (r3B W s a)) ∧ Fr (fun _ => False) w w' := by
  have f0 := (Fr.box w (.cells (snC s) 39)).seq' (Fr.box (w.alloc (.cells (snC s) 39)) (.cells (anC a) 49))
  have h1 := h.same f0
  have hak := acks_wi a hx _ h1
  have hz : (w.alloc (.cells (snC s) 39)).heap.size = w.heap.size + 1 := by simp
  have HB1 : Hid (∀ V, Fr (fun _ => False) ((w.alloc (.cells (snC s) 39)).alloc (.cells (anC a) 49)) V → V.cell? ⟨w.heap.size, 11, none⟩ = some (.slice s.ha s.H.length s.hc) ∧ V.cell? ⟨w.heap.size + 1, 0, none⟩ = some (.int .i64 a.req)) := fun V f => by
    have k1 : ((w.alloc (.cells (snC s) 39)).alloc (.cells (anC a) 49)).heap[w.heap.size]? = some (.cells (snC s) 39 (0, 0)) := ((Fr.box (w.alloc (.cells (snC s) 39)) _).block _ (by rw [hz]; omega) (fun f => f)).trans (heap_alloc_new w _)
    have k2 := heap_alloc_new (w.alloc (.cells (snC s) 39)) (.cells (anC a) 49)
    rw [hz] at k2
    have k3 := (f.block _ (blk_lt k1) (fun f => f)).trans k1
    have k4 := (f.block _ (blk_lt k2) (fun f => f)).trans k2
    exact ⟨(cell_blk k3 11).trans rfl, (cell_blk k4 0).trans rfl⟩
  have HP : Hid (∀ V, Fr (fun _ => False) w V → Calls Tryz.prog 38 #[.slice s.ha s.H.length s.hc, .int .i64 a.req] V fun e w' => e = .returned (plV (plc (hist s.H) a.req)) ∧ Fr (fun _ => False) V w') := fun V f => place_any s.ha s.H.length s.hc s.H rfl hn a.req V (hR.same f)
  have HF : Hid (Fr (fun _ => False) w ((w.alloc (.cells (snC s) 39)).alloc (.cells (anC a) 49))) := f0
  unfold r3B
  generalize plc (hist s.H) a.req = pq at *
  generalize ackB W a = ak at *
  clear h h1 f0 hR hn hz hx
  obtain ⟨req, node, code, ⟨found, val, ents⟩, ea, ec⟩ := a
  obtain ⟨kind, snode, n, m, creq, cnode, ⟨ok, okey, oval⟩, ba, bn, bc, ans, aa, ac, H, sha, shc⟩ := s
  unfold anV snV at *
  unfold anC snC at *
  dsimp only at *
  cases ak with
  | false =>
    go_enter Tryz.func31, Tryz.ntmps31
    go_wp2_with fail
    refine hak.mono ?_
    rintro e w3 ⟨rfl, f3⟩
    clear hak
    dsimp only
    go_wp2
    go_ret
    exact ⟨rfl, HF.out.seq' f3⟩
  | true =>
    go_enter Tryz.func31, Tryz.ntmps31
    go_wp2_with fail
    refine hak.mono ?_
    rintro e w3 ⟨rfl, f3⟩
    obtain ⟨x1, x2⟩ := HB1.out w3 f3
    have hp := HP.out w3 (HF.out.seq' f3)
    clear hak
    dsimp only
    go_wp2_with fail
    refine hp.mono ?_
    rintro e w4 ⟨rfl, f4⟩
    unfold plV
    clear hp
    dsimp only
    go_wp2
    go_ret
    exact ⟨rfl, (HF.out.seq' f3).seq' f4⟩
set_option maxRecDepth 100000 in
set_option maxHeartbeats 4000000 in
theorem r6_wi (s : Sn) (a : An) (hx : wfK a.req) (w : World) {c : Md} (hq : W.calls a.req = some c) (hle : a.res.ents.length ≤ a.ec) (hmx : a.ec ≤ 9223372036854775807) (h : Wi w S b W K m1 m2 oa oc ha hc P) : Calls Tryz.prog 33 #[.pointer (some ⟨b, 0, none⟩), snV s, anV a] w fun e w' => e = .returned (.bool (r6B W a)) ∧ Fr (fun _ => False) w w' := by
  have f0 := (Fr.box w (.cells (snC s) 39)).seq' (Fr.box (w.alloc (.cells (snC s) 39)) (.cells (anC a) 49))
  have f1 := f0.seq' (Fr.box ((w.alloc (.cells (snC s) 39)).alloc (.cells (anC a) 49)) (.cells #[.bool a.res.found, .string a.res.val, .slice a.ea a.res.ents.length a.ec] 47))
  have h1 := h.same f1
  obtain ⟨c0, c1, c2, c3, cz⟩ := four_cells h1.blk
  have e1 := (h1.same (Fr.drew (Fr.refl _ _))).look1 hx
  have hm := h1.made a.req c hq
  have hpl : P a.req < w.heap.size := blk_lt (h.made _ _ hq)
  have HF : Hid (Fr (fun _ => False) w (((w.alloc (.cells (snC s) 39)).alloc (.cells (anC a) 49)).alloc (.cells #[.bool a.res.found, .string a.res.val, .slice a.ea a.res.ents.length a.ec] 47))) := f1
  have hb : b < w.heap.size := blk_lt h.blk
  have hw := isWrite_any c.op
  have HR6 : Hid (r6B W a = if a.code = 1 then bareB a.res || !wrB c.op else bareB a.res && !a.res.found) := by show _ = _; unfold r6B; rw [hq]
  rw [HR6.out]
  rw [hq] at e1
  dsimp only [Option.map, Option.getD, Option.isSome] at e1
  clear HR6 h h1 f0 f1
  obtain ⟨p, hpp⟩ : ∃ p, p = P a.req := ⟨_, rfl⟩
  rw [← hpp] at e1 hm hpl
  clear hpp hq
  obtain ⟨req, node, code, ⟨found, val, ents⟩, ea, ec⟩ := a
  obtain ⟨kind, snode, n, m, creq, cnode, ⟨ok, okey, oval⟩, ba, bn, bc, ans, aa, ac, H, sha, shc⟩ := s
  obtain ⟨⟨ck, ckey, cval⟩, cn, ca, cr⟩ := c
  unfold anV snV bareB emp at *
  unfold anC snC opA mdC at *
  dsimp only at *
  obtain ⟨d0, d1, d2, d3, d4, d5, dz⟩ := six_cells hm
  have hemp : ents.isEmpty = decide (ents.length = 0) := by cases ents <;> simp
  rw [hemp]
  generalize wrB ⟨ck, ckey, cval⟩ = wb at *
  generalize ents.length = el at *
  clear hm dz hemp
  by_cases hc1 : code = 1
  · rw [if_pos hc1]
    subst hc1
    cases hv : val.toList.isEmpty with
    | true =>
      by_cases h0 : el = 0
      · subst h0
        go_enter Tryz.func33, Tryz.ntmps33
        go_wp2
        go_quiet (fail)
        go_wp2
        go_ret
        exact ⟨ret_bool (by simp_all), HF.out.drewN _⟩
      · have h0i : ((el : Int) == 0) = false := by rw [beq_eq_false_iff_ne]; omega
        have h0n : (el == 0) = false := by rw [beq_eq_false_iff_ne]; omega
        have HG : Hid ((true && decide (el = 0) || !wb) = !wb) := by show _ = _; simp [h0]
        rw [HG.out]
        clear h0 HG
        go_enter Tryz.func33, Tryz.ntmps33
        go_wp2
        go_region_with (go_at_call 27; refine (hw _).mono ?_; rintro e w3 ⟨rfl, f3⟩)
        all_goals go_wp2
        all_goals go_ret
        all_goals exact ⟨ret_bool (by simp_all), HF.out.drew.seq' f3⟩
    | false =>
      have HG : Hid ((false && decide (el = 0) || !wb) = !wb) := by show _ = _; simp
      rw [HG.out]
      clear HG
      go_enter Tryz.func33, Tryz.ntmps33
      go_wp2
      go_region_with (go_at_call 27; refine (hw _).mono ?_; rintro e w3 ⟨rfl, f3⟩)
      all_goals go_wp2
      all_goals go_ret
      all_goals exact ⟨ret_bool (by simp_all), HF.out.drew.seq' f3⟩
  · rw [if_neg hc1]
    have e2 : (code == 1) = false := by simpa using hc1
    have e3 : (code != 1) = true := by simpa using hc1
    clear hc1
    cases hv : val.toList.isEmpty with
    | true =>
      by_cases h0 : el = 0
      · subst h0
        go_enter Tryz.func33, Tryz.ntmps33
        go_wp2
        go_ret
        exact ⟨ret_bool (by simp_all), HF.out⟩
      · have h0i : ((el : Int) == 0) = false := by rw [beq_eq_false_iff_ne]; omega
        have h0n : (el == 0) = false := by rw [beq_eq_false_iff_ne]; omega
        have HG : Hid ((true && decide (el = 0) && !found) = false) := by show _ = _; simp [h0]
        rw [HG.out]
        clear h0 HG
        go_enter Tryz.func33, Tryz.ntmps33
        go_wp2
        go_ret
        exact ⟨ret_bool (by simp_all), HF.out⟩
    | false =>
      have HG : Hid ((false && decide (el = 0) && !found) = false) := by show _ = _; simp
      rw [HG.out]
      clear HG
      go_enter Tryz.func33, Tryz.ntmps33
      go_wp2
      go_ret
      exact ⟨ret_bool (by simp_all), HF.out⟩
end
end Go.Proofs.YthdbkanbgfajbaaGreat

/- The keys of a map, in order: maps.Keys, slices.Collect, slices.SortFunc. -/
namespace Go.Proofs.YthdbkanbgfajbaaGreat
open Go.Shelf Go.RowKit Go.Maps Go.Sort

def renK : Ren := ⟨fun k => if k = 7 then 82 else if k = 8 then 106 else if k = 10 then 108 else if k = 11 then 125 else 0, fun k => if k = 0 then 0 else if k = 3 then 107 else if k = 4 then 4 else if k = 23 then 91 else if k = 24 then 100 else if k = 26 then 9 else if k = 27 then 133 else if k = 28 then 134 else if k = 33 then 89 else 0, fun g => g⟩
theorem laysK : SlLaysZ.n7 Tryz.prog renK := {
  mixed := by kernel_rfl
  f7 := ⟨Tryz.f82.name, by kernel_rfl, Tryz.func82.trans (congrArg some (by kernel_rfl))⟩
  f10 := ⟨Tryz.f108.name, by kernel_rfl, Tryz.func108.trans (congrArg some (by kernel_rfl))⟩
  t0 := Tryz.underlying0
  a0 := Tryz.isAgg0
  z0 := Tryz.sizeOf0
  v0 := Tryz.zeroValue0
  t4 := Tryz.underlying4
  a4 := Tryz.isAgg4
  z4 := Tryz.sizeOf4
  v4 := Tryz.zeroValue4
  t23 := Tryz.underlying91
  a23 := Tryz.isAgg91
  z23 := Tryz.sizeOf91
  v23 := Tryz.zeroValue91
  t26 := Tryz.underlying9
  a26 := Tryz.isAgg9
  z26 := Tryz.sizeOf9
  v26 := Tryz.zeroValue9
  t27 := Tryz.underlying133
  a27 := Tryz.isAgg133
  z27 := Tryz.sizeOf133
  v27 := Tryz.zeroValue133
  t28 := Tryz.underlying134
  a28 := Tryz.isAgg134
  z28 := Tryz.sizeOf134
  v28 := Tryz.zeroValue134
  t33 := Tryz.underlying89
  a33 := Tryz.isAgg89
  z33 := Tryz.sizeOf89
  v33 := Tryz.zeroValue89 }
theorem laysC : SlLaysZ.n8 Tryz.prog renK := {
  mixed := by kernel_rfl
  f8 := ⟨Tryz.f106.name, by kernel_rfl, Tryz.func106.trans (congrArg some (by kernel_rfl))⟩
  f11 := ⟨Tryz.f125.name, by kernel_rfl, Tryz.func125.trans (congrArg some (by kernel_rfl))⟩
  t0 := Tryz.underlying0
  a0 := Tryz.isAgg0
  z0 := Tryz.sizeOf0
  v0 := Tryz.zeroValue0
  t24 := Tryz.underlying100
  a24 := Tryz.isAgg100
  z24 := Tryz.sizeOf100
  v24 := Tryz.zeroValue100
  t26 := Tryz.underlying9
  a26 := Tryz.isAgg9
  z26 := Tryz.sizeOf9
  v26 := Tryz.zeroValue9
  t28 := Tryz.underlying134
  a28 := Tryz.isAgg134
  z28 := Tryz.sizeOf134
  v28 := Tryz.zeroValue134
  i26 := by kernel_rfl }
def renF : Ren := ⟨fun k => if k = 6 then 107 else if k = 14 then 126 else if k = 15 then 68 else if k = 20 then 129 else if k = 21 then 130 else if k = 22 then 131 else if k = 23 then 132 else if k = 24 then 133 else if k = 25 then 134 else if k = 26 then 135 else if k = 27 then 136 else if k = 28 then 92 else if k = 29 then 93 else if k = 46 then 137 else if k = 47 then 110 else if k = 48 then 111 else if k = 49 then 138 else if k = 50 then 139 else if k = 57 then 140 else 0, fun k => if k = 0 then 0 else if k = 3 then 3 else if k = 4 then 4 else if k = 5 then 5 else if k = 9 then 9 else if k = 22 then 100 else if k = 24 then 9 else if k = 25 then 105 else if k = 39 then 116 else if k = 45 then 137 else if k = 46 then 138 else if k = 50 then 84 else if k = 53 then 145 else if k = 55 then 147 else if k = 66 then 162 else if k = 70 then 166 else if k = 76 then 180 else if k = 77 then 181 else 0, fun g => g⟩
theorem laysF : SlLaysF.n6 Tryz.prog renF := {
  mixed := by kernel_rfl
  f6 := ⟨Tryz.f107.name, by kernel_rfl, Tryz.func107.trans (congrArg some (by kernel_rfl))⟩
  f14 := ⟨Tryz.f126.name, by kernel_rfl, Tryz.func126.trans (congrArg some (by kernel_rfl))⟩
  f15 := Tryz.func68.trans (congrArg some (by kernel_rfl))
  f20 := ⟨Tryz.f129.name, by kernel_rfl, Tryz.func129.trans (congrArg some (by kernel_rfl))⟩
  f21 := ⟨Tryz.f130.name, by kernel_rfl, Tryz.func130.trans (congrArg some (by kernel_rfl))⟩
  f22 := ⟨Tryz.f131.name, by kernel_rfl, Tryz.func131.trans (congrArg some (by kernel_rfl))⟩
  f23 := ⟨Tryz.f132.name, by kernel_rfl, Tryz.func132.trans (congrArg some (by kernel_rfl))⟩
  f24 := ⟨Tryz.f133.name, by kernel_rfl, Tryz.func133.trans (congrArg some (by kernel_rfl))⟩
  f25 := ⟨Tryz.f134.name, by kernel_rfl, Tryz.func134.trans (congrArg some (by kernel_rfl))⟩
  f26 := ⟨Tryz.f135.name, by kernel_rfl, Tryz.func135.trans (congrArg some (by kernel_rfl))⟩
  f27 := ⟨Tryz.f136.name, by kernel_rfl, Tryz.func136.trans (congrArg some (by kernel_rfl))⟩
  f28 := Tryz.func92.trans (congrArg some (by kernel_rfl))
  f29 := Tryz.func93.trans (congrArg some (by kernel_rfl))
  f46 := ⟨Tryz.f137.name, by kernel_rfl, Tryz.func137.trans (congrArg some (by kernel_rfl))⟩
  f47 := Tryz.func110.trans (congrArg some (by kernel_rfl))
  f48 := Tryz.func111.trans (congrArg some (by kernel_rfl))
  f49 := ⟨Tryz.f138.name, by kernel_rfl, Tryz.func138.trans (congrArg some (by kernel_rfl))⟩
  f50 := ⟨Tryz.f139.name, by kernel_rfl, Tryz.func139.trans (congrArg some (by kernel_rfl))⟩
  f57 := ⟨Tryz.f140.name, by kernel_rfl, Tryz.func140.trans (congrArg some (by kernel_rfl))⟩
  t0 := Tryz.underlying0
  a0 := Tryz.isAgg0
  z0 := Tryz.sizeOf0
  v0 := Tryz.zeroValue0
  t3 := Tryz.underlying3
  a3 := Tryz.isAgg3
  z3 := Tryz.sizeOf3
  v3 := Tryz.zeroValue3
  t4 := Tryz.underlying4
  a4 := Tryz.isAgg4
  z4 := Tryz.sizeOf4
  v4 := Tryz.zeroValue4
  t5 := Tryz.underlying5
  a5 := Tryz.isAgg5
  z5 := Tryz.sizeOf5
  v5 := Tryz.zeroValue5
  t9 := Tryz.underlying9
  a9 := Tryz.isAgg9
  z9 := Tryz.sizeOf9
  v9 := Tryz.zeroValue9
  t22 := Tryz.underlying100
  a22 := Tryz.isAgg100
  z22 := Tryz.sizeOf100
  v22 := Tryz.zeroValue100
  a24 := Tryz.isAgg9
  z24 := Tryz.sizeOf9
  t25 := Tryz.underlying105
  a25 := Tryz.isAgg105
  z25 := Tryz.sizeOf105
  v25 := Tryz.zeroValue105
  t39 := Tryz.underlying116
  a39 := Tryz.isAgg116
  z39 := Tryz.sizeOf116
  v39 := Tryz.zeroValue116
  t45 := Tryz.underlying137
  a45 := Tryz.isAgg137
  z45 := Tryz.sizeOf137
  v45 := Tryz.zeroValue137
  t46 := Tryz.underlying138
  a46 := Tryz.isAgg138
  z46 := Tryz.sizeOf138
  v46 := Tryz.zeroValue138
  t50 := Tryz.underlying84
  a50 := Tryz.isAgg84
  z50 := Tryz.sizeOf84
  v50 := Tryz.zeroValue84
  t53 := Tryz.underlying145
  a53 := Tryz.isAgg145
  z53 := Tryz.sizeOf145
  v53 := Tryz.zeroValue145
  t55 := Tryz.underlying147
  a55 := Tryz.isAgg147
  z55 := Tryz.sizeOf147
  v55 := Tryz.zeroValue147
  t66 := Tryz.underlying162
  a66 := Tryz.isAgg162
  z66 := Tryz.sizeOf162
  v66 := Tryz.zeroValue162
  t70 := Tryz.underlying166
  a70 := Tryz.isAgg166
  z70 := Tryz.sizeOf166
  v70 := Tryz.zeroValue166
  t76 := Tryz.underlying180
  a76 := Tryz.isAgg180
  z76 := Tryz.sizeOf180
  v76 := Tryz.zeroValue180
  t77 := Tryz.underlying181
  a77 := Tryz.isAgg181
  z77 := Tryz.sizeOf181
  v77 := Tryz.zeroValue181 }

/-- A text of a list of bytes, and one that no machine holds. -/
def tx (x : List UInt8) : ByteArray := ⟨x.toArray⟩
def nrm (x : List UInt8) : List UInt8 := if x.length ≤ maxLen then x else []
theorem nrm_of {x : List UInt8} (h : x.length ≤ maxLen) : nrm x = x := if_pos h
theorem nrm_le (x : List UInt8) : (nrm x).length ≤ maxLen := by
  unfold nrm
  split
  · assumption
  · simp
theorem tx_size (x : List UInt8) : (tx x).size = x.length := by simp [tx, ByteArray.size]
theorem tx_inj {x y : List UInt8} (h : tx x = tx y) : x = y := by
  simp only [tx, ByteArray.mk.injEq] at h
  simpa using congrArg Array.toList h
theorem tx_data (x : ByteArray) : tx x.data.toList = x := by cases x; simp [tx]
def encP (x : List UInt8) : Value := encStr (nrm x)
theorem encP_tx (x : List UInt8) : encStr x = .string (tx x) := rfl
theorem encP_one : OneCell encP := fun _ => rfl
def cfP (x y : List UInt8) : Int := cp (tx (nrm x)) (tx (nrm y))
theorem lt_cfP (x y : List UInt8) : ltOf cfP x y = decide (cp (tx (nrm x)) (tx (nrm y)) < 0) := rfl
theorem swoP : SWO (ltOf cfP) := by
  refine ⟨fun x => ?_, fun x y z h1 h2 => ?_, fun x y z h1 h2 => ?_⟩ <;> simp only [lt_cfP, decide_eq_true_eq, decide_eq_false_iff_not] at *
  · rw [cp_refl]; omega
  · exact cp_lt_trans h1 h2
  · have a := cp_neg (tx (nrm x)) (tx (nrm y))
    have b := cp_neg (tx (nrm y)) (tx (nrm z))
    have c := cp_neg (tx (nrm x)) (tx (nrm z))
    have := cp_trans (a := tx (nrm z)) (b := tx (nrm y)) (c := tx (nrm x)) (by omega) (by omega)
    omega
theorem scmp {W : World} {x y : List UInt8} : Calls Tryz.prog 62 (#[encP x, encP y] ++ #[]) W fun e w' => e = .returned (.int .i64 (cfP x y)) ∧ ∃ q os', w' = grow (W.drewN q) os' := by
  have h := compareD_any (tx (nrm x)) (tx (nrm y)) (by rw [tx_size]; exact nrm_le x) (by rw [tx_size]; exact nrm_le y) W
  refine h.mono ?_
  rintro e w' ⟨rfl, hd⟩
  obtain ⟨q, rfl⟩ := hd.ex
  exact ⟨rfl, q, #[], by rw [grow_empty]⟩
/-- A list is the keys of a map. -/
theorem keys_of {w : World} {b : Nat} {L : List En} (h : Em w b L) : ∃ D, w.ownsMap Tryz.prog 9 vR b L.length D ∧ Maps.size D = L.length ∧ (∀ x ∈ strKeys D, x.length ≤ maxLen) ∧ ∀ ss : List (List UInt8), ss.Perm (strKeys D) → ss.length = L.length ∧ ss.Nodup ∧ ∀ x, x ∈ ss ↔ tx x ∈ L.map (·.1) := by
  obtain ⟨D, hown, hs, hl⟩ := h.own
  have hle := strKeys_le hown Tryz.underlying9
  refine ⟨D, hown, hs, hle, fun ss hp => ?_⟩
  obtain ⟨es, hD, hpw, _⟩ := hown.entries ekeyed
  obtain ⟨es', hD', hko⟩ := hown.keysOf
  obtain rfl : es = es' := by rw [hD] at hD'; simpa using hD'
  subst hD
  have hk : ∀ p ∈ es, ∃ x, p.1 = .string x := fun p hp => by obtain ⟨v, hv⟩ := hko p hp; obtain ⟨x, _, hx, _⟩ := Maps.keyOf_str Tryz.underlying9 hv; exact ⟨x, hx⟩
  have hm : ∀ x, x ∈ strKeys (.map es) ↔ has (.map es) (.string x) = true := by
    intro x
    rw [has_eq, List.any_eq_true]
    show x ∈ es.map (fun p => _root_.Go.strOf p.1) ↔ _
    rw [List.mem_map]
    constructor
    · rintro ⟨p, hp', rfl⟩
      obtain ⟨a, ha⟩ := hk p hp'
      exact ⟨p, hp', by rw [ha]; simp [Lit.sameKey, _root_.Go.strOf]⟩
    · rintro ⟨p, hp', hs⟩
      obtain ⟨a, ha⟩ := hk p hp'
      rw [ha] at hs
      exact ⟨p, hp', by rw [ha]; simpa [Lit.sameKey, _root_.Go.strOf] using hs⟩
  have hnd : (strKeys (.map es)).Nodup := by
    show (es.map fun p => _root_.Go.strOf p.1).Nodup
    refine List.pairwise_map.2 (hpw.imp_of_mem fun {p q} hp' hq' hne e => hne ?_)
    obtain ⟨a, ha⟩ := hk p hp'
    obtain ⟨b, hb⟩ := hk q hq'
    rw [ha, hb] at e ⊢
    exact congrArg _ e
  refine ⟨?_, hp.nodup_iff.2 hnd, fun x => ?_⟩
  · rw [hp.length_eq, ← hs]
    simp [strKeys, Maps.size]
  · rw [hp.mem_iff]
    have hmm : ∀ y : ByteArray, y.size ≤ maxLen → (has (.map es) (.string y.data.toList) = true ↔ y ∈ L.map (·.1)) := fun y hy => by
      have := hl.has y hy
      unfold kL at this
      rw [this, fnd_some, List.mem_map]
    constructor
    · intro hx
      have h1 := (hm x).1 hx
      have h2 := hle x hx
      exact (hmm (tx x) (by rw [tx_size]; exact h2)).1 h1
    · intro hx
      obtain ⟨e, he, he'⟩ := List.mem_map.1 hx
      have hz := h.sml e he
      rw [he'] at hz
      exact (hm x).2 ((hmm (tx x) hz).2 hx)
/-- Keys in order are the list's. -/
theorem keys_same {L : List En} (hr : Ris L) {ts : List (List UInt8)} (hnd : ts.Nodup) (hmem : ∀ x, x ∈ ts ↔ tx x ∈ L.map (·.1)) (hs : ts.Pairwise (fun x y => cp (tx x) (tx y) ≤ 0)) : ts.map tx = L.map (·.1) := by
  have e1 : (ts.map tx).map (fun k => ((k, k) : En)) = (L.map (·.1)).map (fun k => ((k, k) : En)) := by
    refine ris_ext ?_ ?_ fun e => ?_
    · refine List.pairwise_map.2 (List.pairwise_map.2 ?_)
      have := hs.and hnd
      refine this.imp ?_
      rintro x y ⟨h1, h2⟩
      rcases Int.lt_or_eq_of_le h1 with h | h
      · exact h
      · exact absurd (tx_inj (cp_eq h)) h2
    · exact List.pairwise_map.2 (List.pairwise_map.2 hr)
    · simp only [List.mem_map]
      constructor
      · rintro ⟨k, ⟨x, hx, rfl⟩, rfl⟩
        exact ⟨tx x, by simpa using (hmem x).1 hx, rfl⟩
      · rintro ⟨k, hk, rfl⟩
        refine ⟨k, ⟨k.data.toList, ?_, tx_data k⟩, rfl⟩
        rw [hmem, tx_data]
        simpa using hk
  have := congrArg (List.map Prod.fst) e1
  simpa [List.map_map, Function.comp_def] using this
theorem collect_st {w : World} {b Bm : Nat} {L : List En} (h : Em w b L) (hn : L.length ≤ 1000000) (hB : Bm < w.heap.size) (hc : w.cell? ⟨Bm, 0, none⟩ = some (.map (some b))) :
    Calls Tryz.prog 106 #[.func (.func 108) #[] #[.pointer (some ⟨Bm, 0, none⟩)]] w fun e w' => ∃ (v : Value) (ss : List (List UInt8)), e = .returned v ∧ (ss.length = L.length ∧ ss.Nodup ∧ (∀ x, x ∈ ss ↔ tx x ∈ L.map (·.1)) ∧ ∀ x ∈ ss, x.length ≤ maxLen) ∧ w'.ownsRow w.heap.size 9 1 v ss.length (ss.map encStr) ∧ Fr (fun _ => False) w w' := by
  obtain ⟨D, h1, h2, hle, hk⟩ := keys_of h
  refine (callsIn_wide.1 (AnyZ.collect_in laysC Fence.wide 3 trivial trivial rfl (by omega) 108 #[.pointer (some ⟨Bm, 0, none⟩)] trivial (laysK.f10.enters rfl) (fun ss => ss.Perm (strKeys D)) (Maps.size D) (by unfold maxLen; omega) (by omega) w (AnyZ.keys_gives { laysK with } Fence.wide _ trivial rfl (by omega) Bm b L.length D w hB hc h1))).mono ?_
  rintro e w' ⟨v, ss, rfl, hS, hrow, _, hb⟩
  obtain ⟨k1, k2, k3⟩ := hk ss hS
  exact ⟨v, ss, rfl, ⟨k1, k2, k3, fun x hx => hle x (hS.mem_iff.1 hx)⟩, hrow, Fr.of_below hb (fun k hk _ => hk)⟩
theorem keys_st (b : Nat) (w : World) : Calls Tryz.prog 82 #[.map (some b)] w fun e w' => e = .returned (.func (.func 108) #[] #[.pointer (some ⟨w.heap.size, 0, none⟩)]) ∧ w' = w.alloc (.cells #[.map (some b)] 91) :=
  callsIn_wide.1 (AnyZ.keys_in laysK Fence.wide 1 trivial rfl (some b) w)
theorem encP_of {x : List UInt8} (h : x.length ≤ maxLen) : encP x = encStr x := by unfold encP; rw [nrm_of h]
theorem putP (w : World) (blk : Nat) (ts : List (List UInt8)) (h : ∀ x ∈ ts, x.length ≤ maxLen) : putRow encP w blk 0 ts.toArray = putRow encStr w blk 0 ts.toArray := by
  unfold putRow
  congr 1
  funext c
  unfold putCells
  congr 1
  funext k x
  split
  · rename_i hk
    refine encP_of (h _ ?_)
    have : k - 0 < ts.length := by have := hk.2; simp at this; omega
    rw [getElem!_pos _ _ (by simpa using this)]
    simp
  · rfl
theorem sort_st {w : World} {blk cap : Nat} {ss : List (List UInt8)} {cur : Array Value} (hwf : ∀ x ∈ ss, x.length ≤ maxLen)
    (hgb : w.heap[blk]? = some (.cells cur 9 (0, 0))) (ht : cur.toList.take ss.length = ss.map encStr) (hsz : ss.length < 4611686018427387904) :
    Calls Tryz.prog 107 #[.slice (some ⟨blk, 0, none⟩) ss.length cap, .func (.func 62) #[] #[]] w fun e w' =>
      e = .returned (.tuple #[]) ∧ ∃ (ts : List (List UInt8)) (k : Nat) (os : Array Obj), ts.Perm ss ∧ ts.Pairwise (fun x y => cp (tx x) (tx y) ≤ 0) ∧ w' = grow (putRow encStr (Sort.ahead w k) blk 0 ts.toArray) os := by
  have hH : Holds encP w blk 0 ss.toArray := fun j hj => by
    have h1 := holds_of_block hgb ht j hj
    have : j < ss.length := by simpa using hj
    rw [getElem!_pos ss.toArray j hj] at h1 ⊢
    rw [encP_of (hwf _ (by simp))]
    exact h1
  have hcmp : CmpLays1 Tryz.prog 62 #[] encP cfP blk 0 ss.toArray.size w := fun m os dk hs x y => scmp
  have hblk : blk < w.heap.size := lt_of_block hgb
  have main := Any.slices_SortFunc laysF encP encP_one cfP swoP 62 #[] blk 0 cap ss.toArray w (enters_of Tryz.func62 (by kernel_rfl) rfl) hcmp hH hblk (by simpa using hsz)
  refine main.mono ?_
  rintro e w' ⟨rfl, d', k, os, ⟨hp1, _, hp2⟩, hs, rfl⟩
  have hsz' : d'.size = ss.length := by simpa using hp1
  have hperm : d'.toList.Perm ss := by
    have e1 : d'.extract 0 ss.length = d' := by rw [← hsz']; simp
    have e2 : ss.toArray.extract 0 ss.length = ss.toArray := by simp
    rw [List.size_toArray, e1, e2] at hp2
    exact hp2
  have hwf' : ∀ x ∈ d'.toList, x.length ≤ maxLen := fun x hx => hwf x (hperm.mem_iff.1 hx)
  refine ⟨rfl, d'.toList, k, os, hperm, ?_, ?_⟩
  · rw [List.pairwise_iff_getElem]
    intro i j hi hj hij
    have := hs i j (Nat.zero_le _) hij (by simpa [hsz'] using hj)
    rw [lt_cfP, decide_eq_false_iff_not] at this
    have hi' : i < d'.size := by simpa using hi
    have hj' : j < d'.size := by simpa using hj
    rw [getElem!_pos d' i hi', getElem!_pos d' j hj'] at this
    have wi := hwf' d'[i] (by simp)
    have wj := hwf' d'[j] (by simp)
    rw [nrm_of wi, nrm_of wj] at this
    simp only [Array.getElem_toList]
    have := cp_neg (tx d'[i]) (tx d'[j])
    omega
  · unfold sortWorld
    have := putP (Sort.ahead w k) blk d'.toList hwf'
    rw [Array.toArray_toList] at this ⊢
    rw [this]
theorem ins_n (c : Value) (w : World) : Calls Tryz.prog 129 #[.slice none 0 0, .int .i64 0, .int .i64 0, c] w fun e w' => e = .returned (.tuple #[]) ∧ Fr (fun _ => False) w w' := by
  go_enter Tryz.func129, Tryz.ntmps129
  go_wp2
  refine wp_loop_rounds 1 ?_
  rw [rounds_succ]
  go_wp2
  go_end0
  exact ⟨rfl, Fr.refl _ w⟩
set_option maxRecDepth 20000 in
theorem len64_n (w : World) : Calls Tryz.prog 93 #[.int .u64 0] w fun e w' => e = .returned (.int .i64 0) ∧ Fr (fun _ => False) w w' := by
  go_enter Tryz.func93, Tryz.ntmps93
  go_wp2
  go_ret
  refine ⟨?_, Fr.refl _ w⟩
  simp [go_sem]
  kernel_rfl
theorem len_n (w : World) : Calls Tryz.prog 68 #[.int .u64 0] w fun e w' => e = .returned (.int .i64 0) ∧ Fr (fun _ => False) w w' := by
  have hl := len64_n w
  go_enter Tryz.func68, Tryz.ntmps68
  go_wp2_with (go_at_call 93; refine hl.mono ?_; rintro e w' ⟨rfl, f1⟩)
  go_ret
  exact ⟨rfl, f1⟩
set_option maxRecDepth 100000 in
set_option maxHeartbeats 1000000 in
theorem pdq_n (c : Value) (w : World) : Calls Tryz.prog 126 #[.slice none 0 0, .int .i64 0, .int .i64 0, .int .i64 0, c] w fun e w' => e = .returned (.tuple #[]) ∧ Fr (fun _ => False) w w' := by
  have hi := ins_n c w
  go_enter Tryz.func126, Tryz.ntmps126
  go_wp2
  refine wp_loop_rounds 1 ?_
  rw [rounds_succ]
  go_wp2_with (go_at_call 129; refine hi.mono ?_; rintro e w' ⟨rfl, f1⟩)
  refine bodyPost_ret (results_none rfl _ _ _) rfl ?_
  exact ⟨rfl, f1⟩
theorem sort_n (c : Value) (w : World) : Calls Tryz.prog 107 #[.slice none 0 0, c] w fun e w' => e = .returned (.tuple #[]) ∧ Fr (fun _ => False) w w' := by
  have hl := len_n w
  go_enter Tryz.func107, Tryz.ntmps107
  go_wp2_with (go_at_call 68; refine hl.mono ?_; rintro e w1 ⟨rfl, f1⟩)
  refine (pdq_n c w1).mono ?_
  rintro e w2 ⟨rfl, f2⟩
  go_wp2
  go_end0
  exact ⟨rfl, f1.seq' f2⟩
/-- The keys of a map in order, as a row in memory. -/
def KeyOut (w : World) (L : List En) (e : Ending) (w' : World) : Prop := ∃ v, e = .returned v ∧ w'.ownsRow w.heap.size 9 1 v L.length (L.map (fun e => Value.string e.1)) ∧ Fr (fun _ => False) w w'
set_option maxRecDepth 100000 in
set_option maxHeartbeats 1000000 in
theorem sorted_st {w : World} {b Bk : Nat} {L : List En} (h : Em w b L) (hn : L.length ≤ 1000000) (hK : Bk < w.heap.size) (hck : w.cell? ⟨Bk, 0, none⟩ = some (.map (some b))) :
    Calls Tryz.prog 81 #[.func (.func 108) #[] #[.pointer (some ⟨Bk, 0, none⟩)], .func (.func 62) #[] #[]] w fun e w' => KeyOut w L e w' := by
  have hl := collect_st h hn hK hck
  have HR := h.ris
  have hmb := h.lt
  go_enter Tryz.func81, Tryz.ntmps81
  go_wp2_with (go_at_call 106; refine hl.mono ?_; rintro e w1 ⟨v, ss, rfl, ⟨k1, k2, k3, k4⟩, hrow, f1⟩)
  rcases hrow.2 with ⟨rfl, hz⟩ | ⟨gb, cap, cur, rfl, hbase, hgb, r1, r2, r3, r4⟩
  · have hss : ss = [] := List.eq_nil_of_length_eq_zero hz
    subst hss
    have hL0 : L = [] := List.eq_nil_of_length_eq_zero k1.symm
    subst hL0
    refine (sort_n _ w1).mono ?_
    rintro e w2 ⟨rfl, f2⟩
    go_wp2
    go_ret
    exact ⟨_, rfl, ⟨rfl, .inl ⟨rfl, rfl⟩⟩, f1.seq' f2⟩
  · have HK1 : Hid (ss.length = L.length) := k1
    have HK2 : Hid (ss.Nodup ∧ ∀ x, x ∈ ss ↔ tx x ∈ L.map (·.1)) := ⟨k2, k3⟩
    refine (sort_st (cap := cap) k4 hgb (by simpa using r4) (by omega)).mono ?_
    rintro e w2 ⟨rfl, ts, k, os, hp, hs, rfl⟩
    have hown := ownsRow_sorted (n := k) (os := os) (ts := ts) (ss := ss) hp.length_eq hbase hgb r1 r2 r3
    have f2 : Fr (fun k => k = gb) w1 (grow (putRow encStr (Sort.ahead w1 k) gb 0 ts.toArray) os) := (Fr.refl _ w1).grown (grownBy_sorted ts.toArray) (fun k e _ => by simp only [Option.some.injEq] at e; exact e.symm)
    generalize grow (putRow encStr (Sort.ahead w1 k) gb 0 ts.toArray) os = w2 at hown f2 ⊢
    have HKS : Hid (ts.map encStr = L.map (fun e => Value.string e.1)) := by
      have := keys_same HR (hp.nodup_iff.2 HK2.out.1) (fun x => hp.mem_iff.trans (HK2.out.2 x)) hs
      show _ = _
      have e2 := congrArg (List.map Value.string) this
      rw [List.map_map, List.map_map] at e2
      exact e2
    have HOUT : Hid (KeyOut w L (.returned (.slice (some ⟨gb, 0, none⟩) ss.length cap)) w2) := ⟨_, rfl, by rw [← HKS.out, ← HK1.out]; exact hown, f1.trans f2 (fun i hi e => by omega)⟩
    clear k1 k2 k3 k4 hown f2 HK1 HK2 HKS hp hs HR hl h
    go_wp2
    go_ret
    exact HOUT.out
end Go.Proofs.YthdbkanbgfajbaaGreat
