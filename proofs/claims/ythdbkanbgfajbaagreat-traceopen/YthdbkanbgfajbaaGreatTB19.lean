
/- TcEq, FdROnce, FdOnce. -/
import Derived.Test.YthdbkanbgfajbaaGreatTB17
import Derived.Test.YthdbkanbgfajbaaGreatTB11
import Derived.Test.YthdbkanbgfajbaaGreatTB8
import Derived.Deep.QuietTactic
import Derived.BigQuiet
import Derived.Sort.OwnSortedInts
import Derived.Shelf.SortM.Plain
import Derived.Shelf.SortM.SortNone
import Derived.Shelf.SlicesG.CompactI
/- slices.Equal at records. -/
namespace Go.Proofs.YthdbkanbgfajbaaGreat
open Go.RowKit Go.Shelf

def eqRB (r s : Rec) : Bool := r.lsn == s.lsn && (r.ep == s.ep && (r.kind == s.kind && (r.page == s.page && (r.other == s.other && (r.req == s.req && (r.key.toList == s.key.toList && r.val.toList == s.val.toList))))))
theorem eqRB_iff {r s : Rec} : eqRB r s = true ↔ r = s := by
  obtain ⟨a, b, c, d, e, f, g, h⟩ := r
  obtain ⟨a', b', c', d', e', f', g', h'⟩ := s
  unfold eqRB
  rw [beq_bytes, beq_bytes]
  simp
def eqLs : List Rec → List Rec → Bool
  | [], [] => true
  | a :: l, b :: m => eqRB a b && eqLs l m
  | [], _ :: _ => false
  | _ :: _, [] => false
theorem eqLs_iff : ∀ {l m : List Rec}, eqLs l m = true ↔ l = m
  | [], [] => by simp [eqLs]
  | a :: l, b :: m => by simp [eqLs, eqRB_iff, eqLs_iff]
  | [], _ :: _ => by simp [eqLs]
  | _ :: _, [] => by simp [eqLs]
theorem eqLs_no {l m : List Rec} (h : l ≠ m) : eqLs l m = false := by
  cases hq : eqLs l m with
  | false => rfl
  | true => exact absurd (eqLs_iff.1 hq) h
theorem neq_rec2 (r s : Rec) (w : World) : (binOp .neq 44 (.agg #[.int .i64 r.lsn, .int .i64 r.ep, .int .i64 r.kind, .int .i64 r.page, .int .i64 r.other, .int .i64 r.req, .string r.key, .string r.val]) (.agg #[.int .i64 s.lsn, .int .i64 s.ep, .int .i64 s.kind, .int .i64 s.page, .int .i64 s.other, .int .i64 s.req, .string s.key, .string s.val])).run Tryz.prog w = .ok (.bool (!eqRB r s)) w := by
  have hf : Tryz.prog.stoodInHeld 44 = false := by kernel_rfl
  have hu : Tryz.prog.underlying 44 = some (.struct (Tryz.prog.fieldsOf 44)) := by kernel_rfl
  rw [run_neq_struct, run_equalIn_struct _ _ _ _ _ hu hf]
  unfold eqRB
  by_cases h1 : r.lsn = s.lsn
  · by_cases h2 : r.ep = s.ep
    · by_cases h3 : r.kind = s.kind
      · by_cases h4 : r.page = s.page
        · by_cases h5 : r.other = s.other
          · by_cases h6 : r.req = s.req
            · by_cases h7 : r.key.toList = s.key.toList
              · by_cases h8 : r.val.toList = s.val.toList <;> simp [Op.eqFields, go_sem, h1, h2, h3, h4, h5, h6, h7, h8]
              · simp [Op.eqFields, go_sem, h1, h2, h3, h4, h5, h6, h7]
            · simp [Op.eqFields, go_sem, h1, h2, h3, h4, h5, h6]
          · simp [Op.eqFields, go_sem, h1, h2, h3, h4, h5]
        · simp [Op.eqFields, go_sem, h1, h2, h3, h4]
      · simp [Op.eqFields, go_sem, h1, h2, h3]
    · simp [Op.eqFields, go_sem, h1, h2]
  · simp [Op.eqFields, go_sem, h1]
theorem rec_inj {L M : List Rec} {k : Nat} {e f : Rec} (hl : L[k]? = some e) (hm : M[k]? = some f) (h : e ≠ f) : L ≠ M := fun he => by rw [he, hm] at hl; cases hl; exact h rfl
set_option maxRecDepth 100000 in
set_option maxHeartbeats 4000000 in
theorem equalR_any (a1 a2 : Option Addr) (n1 n2 c1 c2 : Nat) (L M : List Rec) (h1 : n1 = L.length) (h2 : n2 = M.length) (w : World) (r1 : Recs w a1 c1 L) (r2 : Recs w a2 c2 M) :
    Calls Tryz.prog 41 #[.slice a1 n1 c1, .slice a2 n2 c2] w fun e w' => e = .returned (.bool (eqLs L M)) ∧ ∃ k, w' = w.drewN k := by
  have l1 : n1 ≤ c1 := by rw [h1]; exact r1.le
  have m1 := r1.max
  have l2 : n2 ≤ c2 := by rw [h2]; exact r2.le
  have m2 := r2.max
  have HS1 : Hid (∀ W, Fr (fun _ => False) w W → Recs W a1 c1 L) := fun W f => r1.same f
  have HS2 : Hid (∀ W, Fr (fun _ => False) w W → Recs W a2 c2 M) := fun W f => r2.same f
  have HN1 : Hid (n1 = L.length) := h1
  have HN2 : Hid (n2 = M.length) := h2
  clear r1 r2 h1 h2
  by_cases hnn : n1 = n2
  · subst hnn
    go_enter Tryz.func41, Tryz.ntmps41
    go_wp2
    go_loopw [13] (fun i wr => ∃ k : Nat, k ≤ n1 ∧ i = .int .i64 k ∧ Hid (L.take k = M.take k) ∧ ∃ q, wr = w.drewN q) (fun i _ => n1 - (intOf i).toNat)
    case atStart => exact ⟨0, by omega, rfl, rfl, 0, rfl⟩
    case round =>
      obtain ⟨k, hk, rfl, HE, q, rfl⟩ := hrel
      by_cases hlt : k < n1
      · obtain ⟨g1, o1, e1, hb1, hc1⟩ := (HS1.out w (Fr.refl _ _)).some (by have := HN1.out; omega)
        obtain ⟨g2, o2, e2, hb2, hc2⟩ := (HS2.out w (Fr.refl _ _)).some (by have := HN2.out; omega)
        obtain ⟨x, hx⟩ : ∃ e, L[k]? = some e := ⟨_, List.getElem?_eq_getElem (by have := HN1.out; omega)⟩
        obtain ⟨y, hx'⟩ : ∃ e, M[k]? = some e := ⟨_, List.getElem?_eq_getElem (by have := HN2.out; omega)⟩
        obtain ⟨p0, p1, p2, p3, p4, p5, p6, p7⟩ := rec_range (hc1 k x hx)
        obtain ⟨q0, q1, q2, q3, q4, q5, q6, q7⟩ := rec_range (hc2 k y hx')
        have HY : Hid (x = y → L.take (k + 1) = M.take (k + 1)) := fun h => by show _ = _; rw [take_snocH hx, take_snocH hx', HE.out, h]
        have HNO : Hid (x ≠ y → eqLs L M = false) := fun h => eqLs_no (rec_inj hx hx' h)
        have hnq := fun W => neq_rec2 x y W
        clear hx hx' hc1 hc2
        subst e1 e2
        have i1 : (k : Int) < (n1 : Int) := by omega
        cases hxy : eqRB x y with
        | true =>
          rw [hxy] at hnq
          have HY2 : Hid (L.take (k + 1) = M.take (k + 1)) := HY.out (eqRB_iff.1 hxy)
          clear HY HNO hxy
          obtain ⟨a, b, c, d, e, f, g, h⟩ := x
          obtain ⟨a', b', c', d', e', f', g', h'⟩ := y
          dsimp only [Bool.not_true] at p0 p1 p2 p3 p4 p5 p6 p7 q0 q1 q2 q3 q4 q5 q6 q7 hnq
          go_wp2
          go_quiet (fail)
          go_wp2
          go_roundw
          case rel => exact ⟨k + 1, by omega, by go_num, HY2, _, by first | rfl | rw [World.drewN_drewN]⟩
          case measure => simp [intOf]; omega
        | false =>
          rw [hxy] at hnq
          have HF : Hid (eqLs L M = false) := HNO.out (fun e => by rw [eqRB_iff.2 e] at hxy; cases hxy)
          clear HY HNO hxy
          obtain ⟨a, b, c, d, e, f, g, h⟩ := x
          obtain ⟨a', b', c', d', e', f', g', h'⟩ := y
          dsimp only [Bool.not_false] at p0 p1 p2 p3 p4 p5 p6 p7 q0 q1 q2 q3 q4 q5 q6 q7 hnq
          go_wp2
          go_quiet (fail)
          go_wp2
          go_ret
          exact ⟨ret_bool HF.out.symm, _, by first | rfl | rw [World.drewN_drewN]⟩
      · obtain rfl : k = n1 := by omega
        have HT : Hid (eqLs L M = true) := by
          refine eqLs_iff.2 ?_
          have := HE.out
          rwa [List.take_of_length_le (by have := HN1.out; omega), List.take_of_length_le (by have := HN2.out; omega)] at this
        go_wp2
        go_ret
        exact ⟨ret_bool HT.out.symm, q, rfl⟩
  · have HF : Hid (eqLs L M = false) := eqLs_no (fun h => hnn (by rw [HN1.out, HN2.out, h]))
    have hnn' : ((n1 : Int) != (n2 : Int)) = true := by simp; omega
    have hnn'' : ¬ (n1 : Int) = (n2 : Int) := by omega
    go_enter Tryz.func41, Tryz.ntmps41
    go_wp2
    go_ret
    exact ⟨ret_bool HF.out.symm, 0, rfl⟩
end Go.Proofs.YthdbkanbgfajbaaGreat

/- The document's own Once. -/
namespace Go.Proofs.YthdbkanbgfajbaaGreat
open Go.RowKit Go.Shelf

/-- No request is there twice. -/
def oncB (hs : List Rec) : Bool := decide ((hs.map (·.req)).Nodup)
theorem oncB_yes {hs : List Rec} (h : ∀ (i j : Nat) (a b : Rec), j < i → hs[i]? = some a → hs[j]? = some b → b.req ≠ a.req) : oncB hs = true := by
  unfold oncB
  rw [decide_eq_true_eq]
  refine List.pairwise_map.2 (List.pairwise_iff_getElem.2 (fun j i hj hi hij => ?_))
  exact h i j _ _ hij (List.getElem?_eq_getElem hi) (List.getElem?_eq_getElem hj)
theorem oncB_no {hs : List Rec} {i j : Nat} {a b : Rec} (hij : j < i) (ha : hs[i]? = some a) (hb : hs[j]? = some b) (he : b.req = a.req) : oncB hs = false := by
  unfold oncB
  rw [decide_eq_false_iff_not]
  intro h
  obtain ⟨hi, ha'⟩ := List.getElem?_eq_some_iff.1 ha
  obtain ⟨hj, hb'⟩ := List.getElem?_eq_some_iff.1 hb
  have := List.pairwise_iff_getElem.1 (List.pairwise_map.1 h) j i hj hi hij
  rw [ha', hb'] at this
  exact this he
end Go.Proofs.YthdbkanbgfajbaaGreat

/- Once, on both sides. -/
namespace Go.Proofs.YthdbkanbgfajbaaGreat
open Go.Shelf Go.RowKit Go.Sort

def renM : Ren := ⟨fun k => if k = 5 then 55 else if k = 7 then 67 else if k = 8 then 68 else if k = 10 then 83 else if k = 11 then 84 else if k = 12 then 85 else if k = 13 then 86 else if k = 14 then 87 else if k = 15 then 88 else if k = 16 then 89 else if k = 17 then 90 else if k = 18 then 91 else if k = 19 then 92 else if k = 20 then 93 else if k = 30 then 109 else if k = 31 then 110 else if k = 32 then 111 else if k = 33 then 112 else if k = 34 then 113 else if k = 35 then 104 else if k = 40 then 127 else 0, fun k => if k = 0 then 0 else if k = 3 then 3 else if k = 4 then 4 else if k = 5 then 5 else if k = 9 then 9 else if k = 22 then 40 else if k = 23 then 40 else if k = 25 then 3 else if k = 32 then 116 else if k = 35 then 137 else if k = 36 then 138 else if k = 41 then 84 else if k = 44 then 145 else if k = 46 then 147 else if k = 53 then 162 else if k = 57 then 166 else if k = 63 then 180 else if k = 64 then 181 else 0, fun g => g⟩
theorem laysM : SlLaysM.n5 Tryz.prog renM := {
  mixed := by kernel_rfl
  f5 := ⟨Tryz.f55.name, by kernel_rfl, Tryz.func55.trans (congrArg some (by kernel_rfl))⟩
  f7 := ⟨Tryz.f67.name, by kernel_rfl, Tryz.func67.trans (congrArg some (by kernel_rfl))⟩
  f8 := Tryz.func68.trans (congrArg some (by kernel_rfl))
  f10 := ⟨Tryz.f83.name, by kernel_rfl, Tryz.func83.trans (congrArg some (by kernel_rfl))⟩
  f11 := ⟨Tryz.f84.name, by kernel_rfl, Tryz.func84.trans (congrArg some (by kernel_rfl))⟩
  f12 := ⟨Tryz.f85.name, by kernel_rfl, Tryz.func85.trans (congrArg some (by kernel_rfl))⟩
  f13 := ⟨Tryz.f86.name, by kernel_rfl, Tryz.func86.trans (congrArg some (by kernel_rfl))⟩
  f14 := ⟨Tryz.f87.name, by kernel_rfl, Tryz.func87.trans (congrArg some (by kernel_rfl))⟩
  f15 := ⟨Tryz.f88.name, by kernel_rfl, Tryz.func88.trans (congrArg some (by kernel_rfl))⟩
  f16 := ⟨Tryz.f89.name, by kernel_rfl, Tryz.func89.trans (congrArg some (by kernel_rfl))⟩
  f17 := ⟨Tryz.f90.name, by kernel_rfl, Tryz.func90.trans (congrArg some (by kernel_rfl))⟩
  f18 := ⟨Tryz.f91.name, by kernel_rfl, Tryz.func91.trans (congrArg some (by kernel_rfl))⟩
  f19 := Tryz.func92.trans (congrArg some (by kernel_rfl))
  f20 := Tryz.func93.trans (congrArg some (by kernel_rfl))
  f30 := ⟨Tryz.f109.name, by kernel_rfl, Tryz.func109.trans (congrArg some (by kernel_rfl))⟩
  f31 := Tryz.func110.trans (congrArg some (by kernel_rfl))
  f32 := Tryz.func111.trans (congrArg some (by kernel_rfl))
  f33 := ⟨Tryz.f112.name, by kernel_rfl, Tryz.func112.trans (congrArg some (by kernel_rfl))⟩
  f34 := ⟨Tryz.f113.name, by kernel_rfl, Tryz.func113.trans (congrArg some (by kernel_rfl))⟩
  f35 := ⟨Tryz.f104.name, by kernel_rfl, Tryz.func104.trans (congrArg some (by kernel_rfl))⟩
  f40 := ⟨Tryz.f127.name, by kernel_rfl, Tryz.func127.trans (congrArg some (by kernel_rfl))⟩
  t0 := Tryz.underlying0
  a0 := Tryz.isAgg0
  z0 := Tryz.sizeOf0
  v0 := Tryz.zeroValue0
  t3 := Tryz.underlying3
  a3 := Tryz.isAgg3
  z3 := Tryz.sizeOf3
  v3 := Tryz.zeroValue3
  t4 := Tryz.underlying4
  a4 := Tryz.isAgg4
  z4 := Tryz.sizeOf4
  v4 := Tryz.zeroValue4
  t5 := Tryz.underlying5
  a5 := Tryz.isAgg5
  z5 := Tryz.sizeOf5
  v5 := Tryz.zeroValue5
  t9 := Tryz.underlying9
  a9 := Tryz.isAgg9
  z9 := Tryz.sizeOf9
  v9 := Tryz.zeroValue9
  t22 := Tryz.underlying40
  a22 := Tryz.isAgg40
  z22 := Tryz.sizeOf40
  v22 := Tryz.zeroValue40
  t23 := Tryz.underlying40
  a23 := Tryz.isAgg40
  z23 := Tryz.sizeOf40
  v23 := Tryz.zeroValue40
  t25 := Tryz.underlying3
  a25 := Tryz.isAgg3
  z25 := Tryz.sizeOf3
  v25 := Tryz.zeroValue3
  t32 := Tryz.underlying116
  a32 := Tryz.isAgg116
  z32 := Tryz.sizeOf116
  v32 := Tryz.zeroValue116
  t35 := Tryz.underlying137
  a35 := Tryz.isAgg137
  z35 := Tryz.sizeOf137
  v35 := Tryz.zeroValue137
  t36 := Tryz.underlying138
  a36 := Tryz.isAgg138
  z36 := Tryz.sizeOf138
  v36 := Tryz.zeroValue138
  t41 := Tryz.underlying84
  a41 := Tryz.isAgg84
  z41 := Tryz.sizeOf84
  v41 := Tryz.zeroValue84
  t44 := Tryz.underlying145
  a44 := Tryz.isAgg145
  z44 := Tryz.sizeOf145
  v44 := Tryz.zeroValue145
  t46 := Tryz.underlying147
  a46 := Tryz.isAgg147
  z46 := Tryz.sizeOf147
  v46 := Tryz.zeroValue147
  t53 := Tryz.underlying162
  a53 := Tryz.isAgg162
  z53 := Tryz.sizeOf162
  v53 := Tryz.zeroValue162
  t57 := Tryz.underlying166
  a57 := Tryz.isAgg166
  z57 := Tryz.sizeOf166
  v57 := Tryz.zeroValue166
  t63 := Tryz.underlying180
  a63 := Tryz.isAgg180
  z63 := Tryz.sizeOf180
  v63 := Tryz.zeroValue180
  t64 := Tryz.underlying181
  a64 := Tryz.isAgg181
  z64 := Tryz.sizeOf181
  v64 := Tryz.zeroValue181 }
def renN : Ren := ⟨fun k => if k = 43 then 56 else 0, fun k => if k = 0 then 0 else if k = 3 then 3 else if k = 4 then 4 else if k = 22 then 40 else if k = 23 then 3 else 0, fun g => g⟩
theorem laysN : SlLaysN.n43 Tryz.prog renN := {
  mixed := by kernel_rfl
  f43 := ⟨Tryz.f56.name, by kernel_rfl, Tryz.func56.trans (congrArg some (by kernel_rfl))⟩
  t0 := Tryz.underlying0
  a0 := Tryz.isAgg0
  z0 := Tryz.sizeOf0
  v0 := Tryz.zeroValue0
  t3 := Tryz.underlying3
  a3 := Tryz.isAgg3
  z3 := Tryz.sizeOf3
  v3 := Tryz.zeroValue3
  t4 := Tryz.underlying4
  a4 := Tryz.isAgg4
  z4 := Tryz.sizeOf4
  v4 := Tryz.zeroValue4
  t22 := Tryz.underlying40
  a22 := Tryz.isAgg40
  z22 := Tryz.sizeOf40
  v22 := Tryz.zeroValue40
  t23 := Tryz.underlying3
  a23 := Tryz.isAgg3
  z23 := Tryz.sizeOf3
  v23 := Tryz.zeroValue3
  i23 := by kernel_rfl }

theorem infoI : (Tryz.prog.info? 3).map (fun i => (i.zero, i.size, i.bytes)) = some (some (.int .i64 0), 1, 8) := by kernel_rfl
def inC (x : Int) : List Value := [.int .i64 x]
theorem inC_length (x : Int) : (inC x).length = 1 := rfl
theorem inC_one (x : Int) : ∀ u ∈ inC x, u.oneCell' = true := by
  intro u hu
  simp only [inC, List.mem_cons, List.not_mem_nil, or_false] at hu
  subst hu; rfl
theorem compact_len {l : List Int} (hs : l.Pairwise (· ≤ ·)) : ((Lib.compact l).length = l.length) ↔ l.Nodup := by
  have e : (Lib.compact l).length = l.length ↔ ∀ j, j < l.length → Lib.keeps l.toArray j = true := by
    unfold Lib.compact Lib.compactUpTo
    rw [List.length_map]
    have := List.length_filter_eq_length_iff (l := List.range l.length) (p := Lib.keeps l.toArray)
    rw [List.length_range] at this
    rw [this]
    simp
  rw [e]
  have adj : ∀ j, 0 < j → j < l.length → (Lib.keeps l.toArray j = true ↔ l.toArray[j]! ≠ l.toArray[j - 1]!) := fun j h0 hj => by
    constructor
    · intro h hx
      rw [Lib.keeps_neg h0 hx] at h; cases h
    · intro h; exact Lib.keeps_pos h
  constructor
  · intro h
    have step : ∀ (i j : Nat) (hi : i < l.length) (hj : j < l.length), i < j → l[i] < l[j] := by
      intro i j hi hj hij
      induction j with
      | zero => omega
      | succ j ih =>
        have h1 := (adj (j + 1) (by omega) hj).1 (h (j + 1) hj)
        rw [getElem!_pos _ _ (by simpa using hj), getElem!_pos _ _ (by simp; omega)] at h1
        simp at h1
        have h2 := List.pairwise_iff_getElem.1 hs j (j + 1) (by omega) hj (by omega)
        by_cases e : i = j
        · subst e; omega
        · have := ih (by omega) (by omega); omega
    exact List.pairwise_iff_getElem.2 (fun i j hi hj hij => by have := step i j hi hj hij; omega)
  · intro h j hj
    rcases Nat.eq_zero_or_pos j with rfl | h0
    · exact Lib.keeps_lt_one _ 0 (by omega)
    · refine (adj j h0 hj).2 ?_
      rw [getElem!_pos _ _ (by simpa using hj), getElem!_pos _ _ (by simp; omega)]
      have := List.pairwise_iff_getElem.1 h (j - 1) j (by omega) hj (by omega)
      simp
      exact fun e => this e.symm
theorem once_len (l : List Int) : (((Lib.compact (l.mergeSort fun x y => decide (x ≤ y))).length : Nat) == l.length) = decide l.Nodup := by
  have hp := List.mergeSort_perm l (fun x y => decide (x ≤ y))
  have hs := List.pairwise_mergeSort (le := fun x y : Int => decide (x ≤ y)) (fun a b c h1 h2 => by simp at *; omega) (fun a b => by simp; omega) l
  have hs' : (l.mergeSort fun x y => decide (x ≤ y)).Pairwise (· ≤ ·) := hs.imp (fun h => by simpa using h)
  have h1 := compact_len hs'
  rw [hp.length_eq, hp.nodup_iff] at h1
  rw [Bool.eq_iff_iff, beq_iff_eq, decide_eq_true_eq]
  exact h1
/-- What slices.Sort and then slices.Compact leave of a row of numbers: how many. -/
theorem sort_ii {w : World} {v : Value} {n : Nat} {l : List Int} (hn : n = l.length) (h : Has w 1 v n (l.flatMap inC)) (hb : n ≤ 1000000) :
    Calls Tryz.prog 55 #[v] w fun e w1 => e = .returned (.tuple #[]) ∧ Fr (fun k => v.ownBlock = some k) w w1 ∧ ∃ a c, v = .slice a n c ∧ Calls Tryz.prog 56 #[v] w1 fun e w2 => ∃ a' c', e = .returned (.slice a' (Lib.compact (l.mergeSort fun x y => decide (x ≤ y))).length c') ∧ Fr (fun k => v.ownBlock = some k) w1 w2 := by
  subst hn
  rcases h.2 with ⟨rfl, h0⟩ | ⟨g, cap, rfl, hg, h1, h2, h3, h4⟩
  · have hl : l = [] := List.eq_nil_of_length_eq_zero h0
    subst hl
    refine (AnyM.slices_Sort_int_none laysM none 0 w).mono ?_
    rintro e w1 ⟨rfl, hw⟩
    have hw2 := hw.symm
    clear hw
    subst hw2
    refine ⟨rfl, Fr.refl _ _, none, 0, rfl, (AnyG.slices_Compact_int_empty laysN none 0 w).mono ?_⟩
    rintro e w2 ⟨rfl, hw⟩
    have hw2 := hw.symm
    clear hw
    subst hw2
    exact ⟨none, 0, by simp [Lib.compact, Lib.compactUpTo], Fr.refl _ _⟩
  · have hH : Holds (Value.int .i64) w g 0 l.toArray := fun j hj => by
      have hj' : j < l.length := by simpa using hj
      refine ⟨?_, ?_⟩
      · have := h.elem inC_length (List.getElem?_eq_getElem hj') 0 _ rfl
        rw [getElem!_pos l.toArray j hj]
        simpa using this
      · have := (h3 j (by omega)).2
        simpa using this
    refine (AnyM.slices_Sort_int laysM g 0 cap l w hH hg (by omega)).mono ?_
    rintro e w1 ⟨rfl, q, os, hw⟩
    have hp := List.mergeSort_perm l (fun x y => decide (x ≤ y))
    generalize hS : (l.mergeSort fun x y => decide (x ≤ y)) = s at *
    have hlen : s.length = l.length := hp.length_eq
    have hH0 : Holds (Value.int .i64) (Sort.ahead w q) g 0 l.toArray := hH
    have hH1 : Holds (Value.int .i64) (putRow (Value.int .i64) (Sort.ahead w q) g 0 s.toArray) g 0 s.toArray := holds_putRow _ _ _ _ _ _ hH0 (by simp [hlen])
    have hsz : g < (putRow (Value.int .i64) (Sort.ahead w q) g 0 s.toArray).heap.size := by simpa [putRow, mapBlock, Sort.ahead] using hg
    have hH2 := holds_grow _ _ os _ _ _ hsz hH1
    have fr1 : Fr (fun k => (Value.slice (some ⟨g, 0, none⟩) l.length cap).ownBlock = some k) w w1 := by
      rw [hw]
      exact (Fr.refl _ w).grown (grownBy_sortedI s.toArray) (fun k e _ => by simp only [Option.some.injEq] at e; rw [e]; rfl)
    rw [← hw] at hH2
    refine ⟨rfl, fr1, _, _, rfl, ?_⟩
    have hc := AnyG.slices_Compact_int laysN g 0 cap s w1 hH2 (by omega) (by omega)
    rw [hlen] at hc
    refine hc.mono ?_
    rintro e w2 ⟨rfl, q2, hw2⟩
    refine ⟨_, _, rfl, ?_⟩
    rw [hw2]
    have hg2 := grownBy_sortedI (w := w1) (g := g) (n := q2) (os := #[]) (Lib.compact s ++ List.replicate (l.length - (Lib.compact s).length) 0).toArray
    rw [grow_empty] at hg2
    exact (Fr.refl _ w1).grown hg2 (fun k e _ => by simp only [Option.some.injEq] at e; rw [e]; rfl)
set_option maxRecDepth 100000 in
set_option maxHeartbeats 4000000 in
theorem once_any (a : Option Addr) (n c : Nat) (ls : List Rec) (hn : n = ls.length) (hf : n ≤ 100000) (w : World) (h : Recs w a c ls) :
    Calls Tryz.prog 42 #[.slice a n c] w fun e w' => e = .returned (.bool (oncB (hist ls))) ∧ Fr (fun _ => False) w w' := by
  obtain ⟨iR, hiR, hR0, hR1, hR2⟩ := info_parts infoI
  have hh := history_any a n c ls hn (by omega) w h
  have hlen : (hist ls).length ≤ 100000 := by have := hist_len ls; omega
  generalize hist ls = hs at *
  obtain ⟨m, hm⟩ : ∃ m, m = hs.length := ⟨_, rfl⟩
  have HM : Hid (m = hs.length) := hm
  have hm9 : m ≤ 100000 := by omega
  have hh2 : Calls Tryz.prog 11 #[.slice a n c] w fun e w' => ∃ a' c', e = .returned (.slice a' m c') ∧ Recs w' a' c' hs ∧ Fr (fun _ => False) w w' := hh.mono fun e w' ⟨a', c', he, hr, _, f⟩ => ⟨a', c', by rw [he, hm], hr, f⟩
  clear hh h hn hf hm hlen
  go_enter Tryz.func42, Tryz.ntmps42
  go_wp2_with fail
  refine hh2.mono ?_
  rintro e w1 ⟨a', c', rfl, hr, f1⟩
  clear hh2
  have HS1 : Hid (∀ W, Fr (fun _ => False) w1 W → Recs W a' c' hs) := fun W f => hr.same f
  have hc3 : m ≤ c' := by have := hr.le; have := HM.out; omega
  have hc3m := hr.max
  have HF1 : Hid (Fr (fun _ => False) w w1) := f1
  clear hr f1
  go_wp2
  go_loopw [9, 3] (fun i o wr => ∃ (k : Nat) (a2 : Option Addr) (c2 : Nat), k ≤ m ∧ i = .int .i64 k ∧ o = .slice a2 k c2 ∧ Hid (Has wr 1 (.slice a2 k c2) k (((hs.take k).map (·.req)).flatMap inC)) ∧ Hid (∀ g, (Value.slice a2 k c2).ownBlock = some g → w1.heap.size ≤ g) ∧ Fr (fun _ => False) w1 wr) (fun i _ _ => m - (intOf i).toNat)
  case atStart => exact ⟨0, none, 0, by omega, rfl, rfl, Has.nil _ _, (fun g e => by cases e), Fr.refl _ _⟩
  case round =>
    obtain ⟨k, a2, c2, hk, rfl, rfl, HH, HO, F⟩ := hrel
    by_cases hlt : k < m
    · obtain ⟨r, hr⟩ : ∃ r, hs[k]? = some r := ⟨_, List.getElem?_eq_getElem (by have := HM.out; omega)⟩
      obtain ⟨b1, o1, rfl, hb1, hcc1⟩ := (HS1.out _ F).some (by have := HM.out; omega)
      obtain ⟨q0, q1, q2, q3, q4, q5, q6, q7⟩ := rec_range (hcc1 k r hr)
      have hki : (k : Int) < (m : Int) := by omega
      have HTK : Hid ((hs.take (k + 1)).map (·.req) = (hs.take k).map (·.req) ++ [r.req]) := by show _ = _; rw [take_snocH hr, List.map_append]; rfl
      obtain ⟨lsn, ep, kind, page, other, req, key, val⟩ := r
      dsimp only at q0 q1 q2 q3 q4 q5 q6 q7 HTK
      have fb := (Fr.box wr (.cells #[.int .i64 lsn, .int .i64 ep, .int .i64 kind, .int .i64 page, .int .i64 other, .int .i64 req, .string key, .string val] 44)).alloc (.cells #[.int .i64 req] 3)
      have HRW : Hid (Has ((wr.alloc (.cells #[.int .i64 lsn, .int .i64 ep, .int .i64 kind, .int .i64 page, .int .i64 other, .int .i64 req, .string key, .string val] 44)).alloc (.cells #[.int .i64 req] 3)) 1 (.slice a2 k c2) k (((hs.take k).map (·.req)).flatMap inC)) := HH.out.fr fb (fun _ _ f => f)
      have FF : Fr (fun _ => False) w1 ((wr.alloc (.cells #[.int .i64 lsn, .int .i64 ep, .int .i64 kind, .int .i64 page, .int .i64 other, .int .i64 req, .string key, .string val] 44)).alloc (.cells #[.int .i64 req] 3)) := F.seq' fb
      have HNE : Hid (From ((wr.alloc (.cells #[.int .i64 lsn, .int .i64 ep, .int .i64 kind, .int .i64 page, .int .i64 other, .int .i64 req, .string key, .string val] 44)).alloc (.cells #[.int .i64 req] 3)) (some ⟨wr.heap.size + 1, 0, none⟩) (inC req)) := .inr ⟨_, _, rfl, by
        have := range_block (heap_alloc_new (wr.alloc (.cells #[.int .i64 lsn, .int .i64 ep, .int .i64 kind, .int .i64 page, .int .i64 other, .int .i64 req, .string key, .string val] 44)) (.cells #[.int .i64 req] 3)) (xs := inC req) (o := 0) (fun j v hv => by rw [Nat.zero_add]; simpa [inC] using hv)
        rwa [show (wr.alloc (.cells #[.int .i64 lsn, .int .i64 ep, .int .i64 kind, .int .i64 page, .int .i64 other, .int .i64 req, .string key, .string val] 44)).heap.size = wr.heap.size + 1 by simp] at this⟩
      clear hr hcc1 fb
      go_wp2_with (at_builtin; refine Hid.out (?_ : Hid _))
      unfold Hid
      refine wpList_append_has _ rfl (.tmp 13) (.tmp 16) 40 40 3 3 rfl iR _ 1 8 Tryz.underlying40 Tryz.underlying40 hiR hR0 hR1 hR2 rfl (by omega) (.slice a2 k c2) k (((hs.take k).map (·.req)).flatMap inC) rfl HRW.out (some ⟨wr.heap.size + 1, 0, none⟩) 1 1 (inC req) rfl rfl HNE.out (inC_one _) (by unfold maxLen; omega) (by omega) ?_
      intro a4 c4 w8 ht4 f34 hat4
      have HT5 : Hid (Has w8 1 (.slice a4 (k + 1) c4) (k + 1) (((hs.take (k + 1)).map (·.req)).flatMap inC)) := by
        show Has _ _ _ _ _
        rw [HTK.out, List.flatMap_append]
        simpa using ht4
      have HO5 : Hid (∀ g, (Value.slice a4 (k + 1) c4).ownBlock = some g → w1.heap.size ≤ g) := fun g e => by
        have hz := F.size
        rcases hat4 with h1 | h1
        · rw [h1] at e; exact HO.out g e
        · rw [h1] at e; simp at e; omega
      have F5 : Fr (fun _ => False) w1 w8 := FF.trans f34 (fun i hi e => by have := HO.out i e.1; omega)
      clear ht4 hat4 f34 FF q0 q1 q2 q3 q4 q5 q6 q7 HRW HNE HTK
      go_wp2
      go_roundw
      case rel => exact ⟨k + 1, a4, c4, by omega, by go_num, rfl, HT5, HO5, F5⟩
      case measure => simp [intOf]; omega
    · obtain rfl : k = m := by omega
      have hh := HH.out
      rw [List.take_of_length_le (by have := HM.out; omega)] at hh
      have hso := sort_ii (l := hs.map (·.req)) (by rw [List.length_map]; exact HM.out) hh (by omega)
      have HON : Hid (oncB hs = (((Lib.compact ((hs.map (·.req)).mergeSort fun x y => decide (x ≤ y))).length : Nat) == k)) := by
        show _ = _
        have := once_len (hs.map (·.req))
        rw [List.length_map, ← HM.out] at this
        rw [this]; rfl
      generalize (Lib.compact ((hs.map (·.req)).mergeSort fun x y => decide (x ≤ y))).length = z at *
      have HOO : Hid (∀ k, k < w.heap.size → ¬ (Value.slice a2 _ c2).ownBlock = some k) := fun i hi e => by have := HO.out i e; have := HF1.out.size; omega
      have HFW : Hid (Fr (fun _ => False) w wr) := HF1.out.seq' F
      clear hh HH HO F
      go_wp2_with fail
      refine hso.mono ?_
      rintro e w3 ⟨rfl, f3, a3, c3, he, hco⟩
      clear hso he
      have HF3 : Hid (Fr (fun _ => False) w w3) := HFW.out.trans f3 (fun i hi e => HOO.out i hi e)
      clear f3
      go_wp2_with fail
      refine hco.mono ?_
      rintro e w4 ⟨a5, c5, rfl, f4⟩
      clear hco
      have HF4 : Hid (Fr (fun _ => False) w w4) := HF3.out.trans f4 (fun i hi e => HOO.out i hi e)
      clear f4
      go_wp2
      go_ret
      exact ⟨ret_bool (by rw [HON.out, Bool.eq_iff_iff]; simp; omega), HF4.out⟩
end Go.Proofs.YthdbkanbgfajbaaGreat
