
/- BkSeqE, BkScan, BkScan2, BkEntA, BkRise, BkNrm, RwMath. -/
import Derived.Test.YtkibbojiflklpaaGreatRXC
import Derived.Test.YtkibbojiflklpaaGreatRXA
import Derived.Test.YtkibbojiflklpaaGreatRXE
import Derived.Test.YtkibbojiflklpaaGreatRXD
/- slices.Collect of entries. -/
namespace Go.Proofs.YtkibbojiflklpaaGreat
open Go.RowKit Go.Shelf
attribute [local go_sem] Oper.semAt_some

/-- An entry's cells. -/
def enC (e : ByteArray × ByteArray) : List Value := [.string e.1, .string e.2]
theorem enC_one (e : ByteArray × ByteArray) : ∀ u ∈ enC e, u.oneCell' = true := by
  intro u hu
  simp only [enC, List.mem_cons, List.not_mem_nil, or_false] at hu
  rcases hu with rfl | rfl <;> rfl
theorem enC_length (e : ByteArray × ByteArray) : (enC e).length = 2 := rfl

end Go.Proofs.YtkibbojiflklpaaGreat

/- Scan of a nil tree. -/
namespace Go.Proofs.YtkibbojiflklpaaGreat
open Go.RowKit

theorem lv_nil : treeE [] = [] := by kernel_rfl
end Go.Proofs.YtkibbojiflklpaaGreat

/- Scan of all entries of a tree. -/
namespace Go.Proofs.YtkibbojiflklpaaGreat
open Go.RowKit Go.Shelf
attribute [local go_sem] Oper.semAt_some

end Go.Proofs.YtkibbojiflklpaaGreat

/- Entries: all entries of pages that are a tree. -/
namespace Go.Proofs.YtkibbojiflklpaaGreat
open Go.RowKit Go.Shelf
attribute [local go_sem] Oper.semAt_some

theorem keys_256 {n : Nd} (r : Rt n) : n.keys.length ≤ 256 := by
  have h1 := r.size
  have h2 : n.keys.length ≤ tsz n.keys := by
    generalize n.keys = l
    induction l with
    | nil => simp
    | cons x t ih => simp only [tsz, List.map_cons, List.sum_cons, List.length_cons] at ih ⊢; omega
  unfold sizeN at h1
  omega
theorem ndE_len (n : Nd) : (ndE n).length ≤ n.keys.length := by
  unfold ndE; rw [List.length_zip]; omega
theorem lvE_len (sp : List Spt) (m : Nat) (h : ∀ s ∈ sp, s.nd.keys.length ≤ m) : (lvE sp).length ≤ sp.length * m := by
  induction sp with
  | nil => simp [lvE]
  | cons s r ih =>
    have h1 := ih (fun t ht => h t (List.mem_cons_of_mem _ ht))
    have h2 := h s (by simp)
    have h3 := ndE_len s.nd
    have e : lvE (s :: r) = ndE s.nd ++ lvE r := rfl
    rw [e, List.length_append, List.length_cons, Nat.add_mul]
    omega
theorem leaves_few {ls : List Sl} {sp : List Spt} (h : leavesF ls = some sp) : sp.length ≤ 4096 := by
  unfold leavesF at h
  by_cases h1 : ariB 0 (psOf ls) = true
  · rw [if_pos h1] at h
    by_cases h2 : chkF [] (lvR ls) = true
    · rw [if_pos h2] at h
      obtain rfl := Option.some.inj h
      have hp := ari_ok 0 _ h1
      have hf := pw_few _ 1 hp.1 (fun y hy => by have := hp.2.1 y hy; omega)
      have hl : ls.length ≤ 4096 := by simp [psOf] at hf; omega
      rcases end_mem (l := lvR ls) with e | ⟨y, hy, e⟩
      · rw [e]; simp
      · rw [← e]
        have := rowsF_len _ _ y hy
        omega
    · rw [if_neg h2] at h; cases h
  · rw [if_neg h1] at h; cases h
theorem treeE_few (ls : List Sl) : (treeE ls).length ≤ 2000000 := by
  unfold treeE
  cases h : leavesF ls with
  | none => simp [lvE]
  | some sp =>
    have h1 := leaves_few h
    have h2 := lvE_len sp 400 (fun s hs => by
      have := keys_256 (leaves_in h s hs).2
      omega)
    simp only [Option.getD_some]
    omega
end Go.Proofs.YtkibbojiflklpaaGreat

/- The keys of a tree's entries rise. -/
namespace Go.Proofs.YtkibbojiflklpaaGreat
open Go.RowKit

theorem less_cpl (l m : List UInt8) : Op.bytesLess l m = decide (cpl (l.map UInt8.toNat) (m.map UInt8.toNat) < 0) := by
  induction l generalizing m with
  | nil => cases m <;> simp [Op.bytesLess, cpl]
  | cons x l ih =>
    cases m with
    | nil => simp [Op.bytesLess, cpl]
    | cons y m =>
      simp only [Op.bytesLess, List.map_cons, cpl]
      rw [ih]
      have h1 : (x < y) = (x.toNat < y.toNat) := by rw [UInt8.lt_iff_toNat_lt]
      have h2 : (x == y) = decide (x.toNat = y.toNat) := by
        rw [Bool.eq_iff_iff]; simp [UInt8.toNat_inj]
      rw [h2]
      by_cases a : x.toNat < y.toNat
      · rw [if_pos a]; simp [h1, a]
      · rw [if_neg a]
        by_cases b : y.toNat < x.toNat
        · rw [if_pos b]
          have : ¬ x.toNat = y.toNat := by omega
          simp [h1, a, this]
        · rw [if_neg b]
          have : x.toNat = y.toNat := by omega
          simp [h1, this]
theorem lsB_cpl (a b : ByteArray) : lsB a b = decide (cpl (bsOf a) (bsOf b) < 0) := by
  unfold lsB
  rw [less_cpl, Lib.toList_data, Lib.toList_data]; rfl
/-- One key is less than another one. -/
def Kl (a b : ByteArray) : Prop := cpl (bsOf a) (bsOf b) < 0
def Kle (a b : ByteArray) : Prop := cpl (bsOf a) (bsOf b) ≤ 0
theorem Kl.of_le {a b c : ByteArray} (h : Kl a b) (k : Kle b c) : Kl a c := by
  unfold Kl Kle at *
  have h1 := cpl_trans _ _ _ (Int.le_of_lt h) k
  rcases Int.lt_or_eq_of_le h1 with h2 | h2
  · exact h2
  · have e := (cpl_eq _ _).1 h2
    have h3 := cpl_neg (bsOf a) (bsOf b)
    rw [← e] at k
    omega
theorem Kl.le {a b : ByteArray} (h : Kl a b) : Kle a b := Int.le_of_lt h
theorem Kle.trans {a b c : ByteArray} (h : Kle a b) (k : Kle b c) : Kle a c := cpl_trans _ _ _ h k
theorem not_ls {a b : ByteArray} (h : lsB a b = false) : Kle b a := by
  rw [lsB_cpl] at h
  have := of_decide_eq_false h
  have h2 := cpl_neg (bsOf a) (bsOf b)
  unfold Kle
  omega
theorem empty_le (a : ByteArray) (h : a.toList = []) (b : ByteArray) : Kle a b := by
  unfold Kle
  have : bsOf a = [] := by unfold bsOf; rw [← Lib.toList_data, h]; rfl
  rw [this]
  cases bsOf b <;> simp [cpl]
/-- The keys of a node rise. -/
theorem node_rise {n : Nd} (h : Rt n) : n.keys.Pairwise Kl := by
  rw [List.pairwise_iff_getElem]
  have key : ∀ (d i j : Nat) (hi : i < n.keys.length) (hj : j < n.keys.length), j = i + d + 1 → Kl n.keys[i] n.keys[j] := by
    intro d
    induction d with
    | zero =>
      intro i j hi hj e
      have h1 := (h.keys j hj).2.1 (by omega)
      have e1 : n.keys.getD (j - 1) ByteArray.empty = n.keys[i] := by
        rw [List.getD_eq_getElem?_getD, show j - 1 = i by omega, List.getElem?_eq_getElem hi]; rfl
      have e2 : n.keys.getD j ByteArray.empty = n.keys[j] := by
        rw [List.getD_eq_getElem?_getD, List.getElem?_eq_getElem hj]; rfl
      rw [e1, e2] at h1
      exact h1
    | succ d ih =>
      intro i j hi hj e
      have h1 := ih i (j - 1) hi (by omega) (by omega)
      have h2 := (h.keys j hj).2.1 (by omega)
      have e1 : n.keys.getD (j - 1) ByteArray.empty = n.keys[j - 1]'(by omega) := by
        rw [List.getD_eq_getElem?_getD, List.getElem?_eq_getElem (by omega)]; rfl
      have e2 : n.keys.getD j ByteArray.empty = n.keys[j] := by
        rw [List.getD_eq_getElem?_getD, List.getElem?_eq_getElem hj]; rfl
      rw [e1, e2] at h2
      exact h1.of_le (Int.le_of_lt h2)
  intro i j hi hj hij
  exact key (j - i - 1) i j hi hj (by omega)
theorem node_below {n : Nd} (h : Rt n) (hh : n.high.toList ≠ []) : ∀ k ∈ n.keys, Kl k n.high := by
  intro k hk
  obtain ⟨i, hi, rfl⟩ := List.getElem_of_mem hk
  have h1 := (h.keys i hi).2.2 (by
    intro e; apply hh
    rw [Lib.toList_data]
    exact List.eq_nil_of_length_eq_zero (by rw [← Lib.size_eq]; exact e))
  have e2 : n.keys.getD i ByteArray.empty = n.keys[i] := by
    rw [List.getD_eq_getElem?_getD, List.getElem?_eq_getElem hi]; rfl
  rw [e2] at h1
  exact h1
theorem ndE_keys {n : Nd} (h : Rt n) (h0 : n.lev = 0) : (ndE n).map Prod.fst = n.keys := by
  unfold ndE
  rw [List.map_fst_zip]
  rw [(h.leaf h0).1]; exact Nat.le_refl _
theorem row_rise {ls : List Sl} (k : Nat) : ∀ (x : Int) (low : ByteArray), isRowB (rowS ls k x low) 0 = true → (∀ s ∈ rowS ls k x low, Rt s.nd) → ((lvE (rowS ls k x low)).map Prod.fst).Pairwise Kl ∧ ∀ y ∈ (lvE (rowS ls k x low)).map Prod.fst, Kle low y := by
  induction k with
  | zero => intro x low _ _; simp [rowS, lvE]
  | succ k ih =>
    intro x low hr hR
    cases hh : hasB ls x
    · rw [rowS_no _ _ hh]; simp [lvE]
    · obtain ⟨s, hs, _⟩ := has_some hh
      rw [rowS_yes _ _ hh hs] at hr hR ⊢
      simp only [isRowB, Bool.and_eq_true, beq_iff_eq] at hr
      obtain ⟨hl, _, hhi, hkp, hrest⟩ := hr
      have rt : Rt s.nd := hR _ (List.mem_cons_self ..)
      obtain ⟨ihp, ihl⟩ := ih s.nd.rgt s.nd.high hrest (fun t ht => hR t (List.mem_cons_of_mem _ ht))
      have e : lvE (⟨x, s.nd, s.pt, low⟩ :: rowS ls k s.nd.rgt s.nd.high) = ndE s.nd ++ lvE (rowS ls k s.nd.rgt s.nd.high) := rfl
      rw [e, List.map_append, ndE_keys rt hl]
      have hkeep : ∀ y ∈ s.nd.keys, Kle low y := by
        unfold keepB keepN at hkp
        simp only [Bool.and_eq_true] at hkp
        intro y hy
        have := List.all_eq_true.1 hkp.1 y hy
        unfold kOk at this
        simp only [Bool.not_eq_true', Bool.or_eq_false_iff] at this
        exact not_ls this.1
      have hne : ∀ y ∈ (lvE (rowS ls k s.nd.rgt s.nd.high)).map Prod.fst, s.nd.high.toList ≠ [] := by
        intro y hy h0
        have hem : (rowS ls k s.nd.rgt s.nd.high).isEmpty = true := by rw [← hhi, h0]; rfl
        rw [List.isEmpty_iff] at hem
        rw [hem] at hy; simp [lvE] at hy
      refine ⟨List.pairwise_append.2 ⟨node_rise rt, ihp, fun a ha b hb => (node_below rt (hne b hb) a ha).of_le (ihl b hb)⟩, fun y hy => ?_⟩
      rcases List.mem_append.1 hy with h1 | h1
      · exact hkeep y h1
      · have h2 := hne y h1
        unfold keepB keepN at hkp
        simp only [Bool.and_eq_true, Bool.or_eq_true] at hkp
        rcases hkp.2 with h3 | h3
        · rw [List.isEmpty_iff] at h3; exact absurd h3 h2
        · have : lsB s.nd.high low = false := by simpa using h3
          exact (not_ls this).trans (ihl y h1)
theorem rowsF_is {ls : List Sl} (k : Nat) (x : Int) : ∀ y ∈ rowsF ls k x, ∃ x', y.2 = rowS ls ls.length x' ByteArray.empty := by
  induction k generalizing x with
  | zero => intro y hy; cases hy
  | succ k ih =>
    intro y hy
    have e : rowsF ls (k + 1) x = ((k : Int), rowS ls ls.length x ByteArray.empty) :: nxt (rowsF ls k) (rowS ls ls.length x ByteArray.empty) := rfl
    rw [e] at hy
    rcases List.mem_cons.1 hy with rfl | h
    · exact ⟨x, rfl⟩
    · cases hr : rowS ls ls.length x ByteArray.empty with
      | nil => rw [hr] at h; cases h
      | cons s r =>
        rw [hr] at h
        cases hk : s.nd.kids with
        | nil => rw [nxt_leaf _ _ hk] at h; cases h
        | cons z zs => rw [nxt_kid _ _ hk] at h; exact ih z y h
theorem chk_rows {ab : List Spt} {l : List (Int × List Spt)} (h : chkF ab l = true) : ∀ y ∈ l, isRowB y.2 y.1 = true := by
  induction l generalizing ab with
  | nil => intro y hy; cases hy
  | cons x l ih =>
    simp only [chkF, Bool.and_eq_true] at h
    intro y hy
    rcases List.mem_cons.1 hy with rfl | hy
    · exact h.1.1
    · exact ih h.2 y hy
theorem isRow_zero {l : List Spt} {lev : Int} (h : isRowB l lev = true) (h0 : ∀ s ∈ l, s.nd.lev = 0) : isRowB l 0 = true := by
  cases l with
  | nil => rfl
  | cons s r =>
    have : lev = 0 := by
      have h1 := isRow_lev h s (by simp)
      rw [← h1]; exact h0 s (by simp)
    rw [← this]; exact h
/-- The keys of a tree's entries rise. -/
theorem tree_rise (ls : List Sl) : ((treeE ls).map Prod.fst).Pairwise Kl := by
  unfold treeE
  cases h : leavesF ls with
  | none => simp [lvE]
  | some sp =>
    have hin := leaves_in h
    simp only [Option.getD_some]
    unfold leavesF at h
    by_cases h1 : ariB 0 (psOf ls) = true
    · rw [if_pos h1] at h
      by_cases h2 : chkF [] (lvR ls) = true
      · rw [if_pos h2] at h
        obtain rfl := Option.some.inj h
        rcases end_mem (l := lvR ls) with e | ⟨y, hy, e⟩
        · rw [e]; simp [lvE]
        · rw [← e] at hin ⊢
          obtain ⟨x', hx⟩ := rowsF_is _ _ y hy
          have hr := chk_rows h2 y hy
          rw [hx] at hin hr ⊢
          exact (row_rise _ _ _ (isRow_zero hr (fun s hs => (hin s hs).1)) (fun s hs => (hin s hs).2)).1
      · rw [if_neg h2] at h; cases h
    · rw [if_neg h1] at h; cases h
theorem rise_at {L : List (ByteArray × ByteArray)} (h : (L.map Prod.fst).Pairwise Kl) {i j : Nat} {a b : ByteArray × ByteArray} (ha : L[i]? = some a) (hb : L[j]? = some b) (hij : i < j) : Kl a.1 b.1 := by
  obtain ⟨hi, rfl⟩ := List.getElem?_eq_some_iff.1 ha
  obtain ⟨hj, rfl⟩ := List.getElem?_eq_some_iff.1 hb
  have := List.pairwise_iff_getElem.1 h i j (by simpa using hi) (by simpa using hj) hij
  simpa using this
theorem Kl.ne {a b : ByteArray} (h : Kl a b) : (a.toList == b.toList) = false := by
  rw [beq_eq_false_iff_ne]
  intro e
  have : a = b := by
    have h1 : a.data.toList = b.data.toList := by rw [← Lib.toList_data, ← Lib.toList_data]; exact e
    cases a; cases b; congr; exact Array.toList_inj.1 h1
  subst this
  unfold Kl at h
  rw [cpl_refl] at h
  omega
/-- Each entry is found by its key. -/
theorem found_at {L : List (ByteArray × ByteArray)} (h : (L.map Prod.fst).Pairwise Kl) {i : Nat} {a : ByteArray × ByteArray} (ha : L[i]? = some a) : fndE L a.1 = some a := by
  unfold fndE
  rw [List.find?_eq_some_iff_getElem]
  obtain ⟨hi, rfl⟩ := List.getElem?_eq_some_iff.1 ha
  refine ⟨by simp, i, hi, rfl, fun j hj => ?_⟩
  have := (rise_at h (List.getElem?_eq_getElem (by omega : j < L.length)) ha hj).ne
  simp only [Bool.not_eq_true', this]
end Go.Proofs.YtkibbojiflklpaaGreat

/- The entries of pages do not lean on where their lists lie. -/
namespace Go.Proofs.YtkibbojiflklpaaGreat
open Go.RowKit

def nS (s : Sl) : Sl := ⟨s.page, s.nd, zp⟩
def nP (s : Spt) : Spt := ⟨s.page, s.nd, zp, s.low⟩
def nR (y : Int × List Spt) : Int × List Spt := (y.1, y.2.map nP)
theorem ahead_n (ls : List Sl) (x : Int) : ahead (ls.map nS) x = ahead ls x := by
  induction ls with
  | nil => rfl
  | cons s l ih => simp only [List.map_cons, ahead, ih]; rfl
theorem has_n (ls : List Sl) (x : Int) : hasB (ls.map nS) x = hasB ls x := by
  unfold hasB
  rw [ahead_n, List.getElem?_map]
  cases ls[ahead ls x]? <;> rfl
theorem rowS_n (ls : List Sl) (k : Nat) : ∀ (x : Int) (low : ByteArray), rowS (ls.map nS) k x low = (rowS ls k x low).map nP := by
  induction k with
  | zero => intro x low; rfl
  | succ k ih =>
    intro x low
    cases hh : hasB ls x
    · rw [rowS_no _ _ hh, rowS_no _ _ (by rw [has_n]; exact hh)]; rfl
    · obtain ⟨s, hs, _⟩ := has_some hh
      rw [rowS_yes _ _ hh hs, rowS_yes (s := nS s) _ _ (by rw [has_n]; exact hh) (by rw [ahead_n, List.getElem?_map, hs]; rfl)]
      rw [List.map_cons]
      show _ :: rowS (ls.map nS) k s.nd.rgt s.nd.high = _
      rw [ih]; rfl
theorem rowsF_n (ls : List Sl) (k : Nat) : ∀ (x : Int), rowsF (ls.map nS) k x = (rowsF ls k x).map nR := by
  induction k with
  | zero => intro x; rfl
  | succ k ih =>
    intro x
    have e : ∀ l : List Sl, rowsF l (k + 1) x = ((k : Int), rowS l l.length x ByteArray.empty) :: nxt (rowsF l k) (rowS l l.length x ByteArray.empty) := fun _ => rfl
    rw [e, e, List.length_map, rowS_n, List.map_cons]
    congr 1
    cases hr : rowS ls ls.length x ByteArray.empty with
    | nil => rfl
    | cons s r =>
      rw [List.map_cons]
      cases hk : s.nd.kids with
      | nil => rw [nxt_leaf _ _ hk, nxt_leaf (s := nP s) _ _ hk]; rfl
      | cons z zs => rw [nxt_kid _ _ hk, nxt_kid (s := nP s) _ _ hk]; exact ih z
theorem isRow_n (r : List Spt) (lev : Int) : isRowB (r.map nP) lev = isRowB r lev := by
  induction r with
  | nil => rfl
  | cons s r ih =>
    simp only [List.map_cons, isRowB, ih, List.isEmpty_map]
    rfl
theorem sm_n (row : List Spt) (x : Int) : sm (row.map nP) x = (sm row x).map nP := by
  unfold sm
  rw [← List.map_reverse, List.find?_map]
  rfl
theorem kl1_n (row : List Spt) (low : ByteArray) (kid : Int) : kl1B (sm (row.map nP)) low kid = kl1B (sm row) low kid := by
  unfold kl1B
  rw [sm_n]
  cases sm row kid <;> rfl
theorem kl_n (row : List Spt) (low : ByteArray) (keys : List ByteArray) (kids : List Int) : ∀ i, klB (sm (row.map nP)) low keys i kids = klB (sm row) low keys i kids := by
  induction kids with
  | nil => intro i; rfl
  | cons y ys ih => intro i; simp only [klB, kl1_n, ih]
theorem bel_n (row above : List Spt) : belB (row.map nP) (above.map nP) = belB row above := by
  unfold belB
  cases above with
  | nil => simp
  | cons s r =>
    rw [if_neg (by simp), if_neg (by simp), List.all_map]
    congr 1
    funext t
    exact kl_n row t.low t.nd.keys t.nd.kids 0
theorem chk_n (l : List (Int × List Spt)) : ∀ ab : List Spt, chkF (ab.map nP) (l.map nR) = chkF ab l := by
  induction l with
  | nil => intro ab; rfl
  | cons x l ih =>
    intro ab
    simp only [List.map_cons, chkF]
    show ((isRowB (x.2.map nP) x.1 && belB (x.2.map nP) (ab.map nP)) && chkF (x.2.map nP) (l.map nR)) = _
    rw [isRow_n, bel_n, ih]
theorem end_n (l : List (Int × List Spt)) : ∀ ab : List Spt, endF (ab.map nP) (l.map nR) = (endF ab l).map nP := by
  induction l with
  | nil => intro ab; rfl
  | cons x l ih => intro ab; simp only [List.map_cons, endF]; exact ih x.2
theorem top_n (ls : List Sl) : topF (ls.map nS) = topF ls := by
  unfold topF
  rw [has_n, ahead_n, List.getElem?_map]
  cases ls[ahead ls 1]? <;> rfl
theorem ps_n (ls : List Sl) : psOf (ls.map nS) = psOf ls := by
  unfold psOf; rw [List.map_map]; rfl
theorem leaves_n (ls : List Sl) : leavesF (ls.map nS) = (leavesF ls).map (List.map nP) := by
  unfold leavesF lvR
  rw [ps_n, top_n, rowsF_n]
  have h1 := chk_n (rowsF ls (topF ls + 1).toNat 1) []
  have h2 := end_n (rowsF ls (topF ls + 1).toNat 1) []
  rw [List.map_nil] at h1 h2
  rw [h1, h2]
  split
  · split <;> rfl
  · rfl
theorem lvE_n (sp : List Spt) : lvE (sp.map nP) = lvE sp := by
  unfold lvE; rw [List.flatMap_map]; rfl
theorem tree_n (ls : List Sl) : treeE (ls.map nS) = treeE ls := by
  unfold treeE
  rw [leaves_n]
  cases leavesF ls with
  | none => rfl
  | some sp => exact lvE_n sp
theorem tree_ps {la lb : List Sl} (h : psOf la = psOf lb) : treeE la = treeE lb := by
  have e : ∀ l : List Sl, l.map nS = (psOf l).map (fun p => (⟨p.1, p.2, zp⟩ : Sl)) := fun l => by unfold psOf; rw [List.map_map]; rfl
  rw [← tree_n la, ← tree_n lb, e, e, h]
theorem tree_key (ls : List Sl) : ∀ e ∈ treeE ls, e.1.size ≤ 16 := by
  unfold treeE
  cases h : leavesF ls with
  | none => intro e he; simp [lvE] at he
  | some sp =>
    intro e he
    simp only [Option.getD_some, lvE, List.mem_flatMap] at he
    obtain ⟨s, hs, he⟩ := he
    have rt := (leaves_in h s hs).2
    unfold ndE at he
    have hk := (List.of_mem_zip he).1
    obtain ⟨i, hi, e1⟩ := List.getElem_of_mem hk
    have h1 := (rt.keys i hi).1.2
    rw [List.getD_eq_getElem?_getD, List.getElem?_eq_getElem hi] at h1
    rw [← e1]; exact h1
end Go.Proofs.YtkibbojiflklpaaGreat

/- Pages that are rewound: what a replay of the log's beginning over those that stay comes to. -/
namespace Go.Proofs.YtkibbojiflklpaaGreat
open Go.RowKit

theorem run1_app (o : Option Nd) (a b : List Rec) : run1 o (a ++ b) = (run1 o a).bind (fun q => run1 q b) := by
  induction a generalizing o with
  | nil => rfl
  | cons r a ih =>
    simp only [List.cons_append, run1]
    split
    · exact ih _
    · rfl
/-- Behind a run each of its records is past. -/
theorem run1_past {rs : List Rec} : ∀ {o q : Option Nd}, run1 o rs = some q → ∀ x, (x ∈ rs ∨ Past o x) → Past q x := by
  induction rs with
  | nil =>
    intro o q h x hx
    simp only [run1, Option.some.injEq] at h
    subst h
    rcases hx with hx | hx
    · cases hx
    · exact hx
  | cons r rs ih =>
    intro o q h x hx
    simp only [run1] at h
    split at h
    · rename_i h0
      refine ih h x ?_
      rcases hx with hx | hx
      · rcases List.mem_cons.1 hx with rfl | hx
        · exact .inr (past_step h0)
        · exact .inl hx
      · exact .inr (past_keep h0 hx)
    · cases h
theorem run1_same {o : Option Nd} (hr : ∀ n, o = some n → rightB n = true) : ∀ rs : List Rec, (∀ x ∈ rs, Past o x) → run1 o rs = some o := by
  intro rs
  induction rs with
  | nil => intro _; rfl
  | cons r rs ih =>
    intro h
    obtain ⟨h1, h2⟩ := past_none (h r (List.mem_cons_self ..)) hr
    simp only [run1]
    rw [if_pos h1, h2]
    exact ih (fun x hx => h x (List.mem_cons_of_mem _ hx))
/-- Of records behind k, a page that is not behind k was not touched. -/
theorem run1_late {k : Int} {rs : List Rec} : ∀ {o : Option Nd} {n : Nd}, (∀ r ∈ rs, k < r.lsn) → run1 o rs = some (some n) → n.lsn ≤ k → o = some n := by
  induction rs with
  | nil => intro o n _ h _; simpa [run1] using h
  | cons r rs ih =>
    intro o n hl h hn
    simp only [run1] at h
    split at h
    · rename_i h0
      have h1 := ih (fun x hx => hl x (List.mem_cons_of_mem _ hx)) h hn
      have hlr := hl r (List.mem_cons_self ..)
      rcases ap_cases h0 with e | e
      · unfold st1 at h1; rw [if_pos e] at h1; exact h1
      · unfold st1 at h1
        rw [if_neg (by rw [e]; decide)] at h1
        simp only [Option.some.injEq] at h1
        rcases ap_lsn e with ⟨e1, e2, e3⟩ | ⟨e1, _⟩
        · rw [e1] at h1
          rw [h1] at e3
          omega
        · rw [h1] at e1; omega
    · cases h
/-- Pages that stay, with the root ahead. -/
def staP (k : Int) (ps : List (Int × Nd)) : List (Int × Nd) := ps.filter fun p => decide (p.2.lsn ≤ k)
def rooB : List (Int × Nd) → Bool
  | [] => false
  | p :: _ => p.1 == 1
def thoP (k : Int) (ps : List (Int × Nd)) : List (Int × Nd) := if rooB (staP k ps) = true then staP k ps else (1, zn) :: staP k ps
def p0 : List (Int × Nd) := [(1, zn)]
theorem p0_ok : PsOk p0 := ⟨by simp [p0], by intro x hx; simp [p0] at hx; omega⟩
theorem get_p0 (x : Int) : getP p0 x = if x = 1 then some zn else none := by
  unfold p0 getP
  by_cases h : x = 1
  · simp [h]
  · rw [if_neg (fun e => h e.symm), if_neg h]; rfl
theorem sta_srt {k : Int} {ps : List (Int × Nd)} (h : PsOk ps) : PsOk (staP k ps) := by
  have hs : (staP k ps).Sublist ps := List.filter_sublist
  exact ⟨h.1.sublist (hs.map _), fun x hx => h.2 x ((hs.map _).subset hx)⟩
theorem get_mem {ps : List (Int × Nd)} (h : PsOk ps) {x : Int} {n : Nd} (hm : (x, n) ∈ ps) : getP ps x = some n := by
  have h1 := h.1
  clear h
  induction ps with
  | nil => cases hm
  | cons p t ih =>
    simp only [List.map_cons, List.pairwise_cons] at h1
    unfold getP
    rcases List.mem_cons.1 hm with rfl | hm
    · rw [if_pos rfl]
    · have := h1.1 x (List.mem_map.2 ⟨(x, n), hm, rfl⟩)
      rw [if_neg (by omega)]
      exact ih hm h1.2
theorem get_sta {k : Int} {ps : List (Int × Nd)} (h : PsOk ps) (x : Int) : getP (staP k ps) x = match getP ps x with | some n => if n.lsn ≤ k then some n else none | none => none := by
  cases hg : getP ps x with
  | some n =>
    have hm := get_some hg
    dsimp only
    by_cases hl : n.lsn ≤ k
    · rw [if_pos hl]
      exact get_mem (sta_srt h) (List.mem_filter.2 ⟨hm, by simpa using hl⟩)
    · rw [if_neg hl]
      cases h2 : getP (staP k ps) x with
      | none => rfl
      | some m =>
        have hm2 := get_some h2
        obtain ⟨h3, h4⟩ := List.mem_filter.1 hm2
        have := get_mem h h3
        rw [hg] at this
        cases this
        simp at h4
        omega
  | none =>
    cases h2 : getP (staP k ps) x with
    | none => rfl
    | some m =>
      have := get_mem h (List.mem_filter.1 (get_some h2)).1
      rw [hg] at this
      cases this
theorem roo_get {ps : List (Int × Nd)} (h : PsOk ps) : rooB ps = (getP ps 1).isSome := by
  cases ps with
  | nil => rfl
  | cons p t =>
    show (p.1 == 1) = (if p.1 = 1 then some p.2 else getP t 1).isSome
    by_cases e : p.1 = 1
    · simp [e]
    · rw [if_neg e, show (p.1 == 1) = false by simpa using e]
      have hp := h.2 p.1 (by simp)
      have h1 := h.1
      simp only [List.map_cons, List.pairwise_cons] at h1
      rw [get_none (fun q hq => by have := h1.1 q.1 (List.mem_map.2 ⟨q, hq, rfl⟩); omega)]
      rfl
theorem tho_ok {k : Int} {ps : List (Int × Nd)} (h : PsOk ps) : PsOk (thoP k ps) := by
  have hs := sta_srt (k := k) h
  unfold thoP
  split
  · exact hs
  · rename_i hr
    rw [roo_get hs] at hr
    refine ⟨?_, fun x hx => ?_⟩
    · simp only [List.map_cons, List.pairwise_cons]
      refine ⟨fun x hx => ?_, hs.1⟩
      have h1 := hs.2 x hx
      by_cases e : x = 1
      · obtain ⟨q, hq, rfl⟩ := List.mem_map.1 hx
        have := get_mem hs (x := q.1) (n := q.2) hq
        rw [e] at this
        rw [this] at hr
        exact absurd rfl hr
      · omega
    · simp only [List.map_cons, List.mem_cons] at hx
      rcases hx with rfl | hx
      · omega
      · exact hs.2 x hx
theorem get_tho {k : Int} {ps : List (Int × Nd)} (h : PsOk ps) (x : Int) : getP (thoP k ps) x = (getP (staP k ps) x).or (getP p0 x) := by
  have hs := sta_srt (k := k) h
  unfold thoP
  split
  · rename_i hr
    rw [roo_get hs] at hr
    cases hg : getP (staP k ps) x with
    | some n => rfl
    | none =>
      rw [get_p0, if_neg (fun e => by rw [e] at hg; rw [hg] at hr; cases hr)]
      rfl
  · rename_i hr
    rw [roo_get hs] at hr
    show (if (1 : Int) = x then some zn else getP (staP k ps) x) = _
    by_cases e : (1 : Int) = x
    · subst e
      rw [if_pos rfl]
      cases hg : getP (staP k ps) 1 with
      | some n => rw [hg] at hr; exact absurd rfl hr
      | none => rw [get_p0, if_pos rfl]; rfl
    · rw [if_neg e, get_p0, if_neg (fun h => e h.symm)]
      cases getP (staP k ps) x <;> rfl
/-- LSNs as they stand in a log. -/
def Lsn (rs : List Rec) : Prop := ∀ (i : Nat) r, rs[i]? = some r → r.lsn = (i : Int) + 1
theorem Lsn.take {rs : List Rec} (h : Lsn rs) (k : Nat) : Lsn (rs.take k) := fun i r hr => by
  rw [List.getElem?_take] at hr
  split at hr
  · exact h i r hr
  · cases hr
theorem Lsn.drop {rs : List Rec} (h : Lsn rs) (k : Nat) : ∀ r ∈ rs.drop k, (k : Int) < r.lsn := by
  intro r hr
  obtain ⟨i, hi⟩ := List.getElem?_of_mem hr
  rw [List.getElem?_drop] at hi
  have := h _ r hi
  omega
theorem rpl_pre {rs : List Rec} (k : Nat) : ∀ {ps qs : List (Int × Nd)}, rplP ps rs = (qs, 0) → ∃ ss, rplP ps (rs.take k) = (ss, 0) ∧ rplP ss (rs.drop k) = (qs, 0) := by
  induction rs generalizing k with
  | nil => intro ps qs h; exact ⟨ps, by simp [rplP], by simpa using h⟩
  | cons r rs ih =>
    intro ps qs h
    cases k with
    | zero => exact ⟨ps, rfl, h⟩
    | succ k =>
      simp only [rplP] at h
      split at h
      · rename_i h0
        obtain ⟨ss, h1, h2⟩ := ih k h
        refine ⟨ss, ?_, h2⟩
        simp only [List.take_succ_cons, rplP]
        rw [if_pos h0]
        exact h1
      · rename_i h0
        simp only [Prod.mk.injEq] at h
        exact absurd h.2 h0
theorem rplok {ps : List (Int × Nd)} (h : PsOk ps) (rs : List Rec) : ∀ {qs}, rplP ps rs = (qs, 0) → PsOk qs := by
  induction rs generalizing ps with
  | nil => intro qs e; simp only [rplP, Prod.mk.injEq, and_true] at e; subst e; exact h
  | cons r rs ih =>
    intro qs e
    simp only [rplP] at e
    split at e
    · rename_i h0; exact ih (h.step r h0) e
    · rename_i h0; simp only [Prod.mk.injEq] at e; exact absurd e.2 h0
/-- REWOUND: pages that came of a log, those that stay, replayed up to there, are those that came of it up to there. -/
theorem rew_eq {rs : List Rec} (hl : Lsn rs) {P : List (Int × Nd)} (h : rplP p0 rs = (P, 0)) (k : Nat) (ha : ariB 0 (thoP k P) = true) : ∃ ss, rplP p0 (rs.take k) = (ss, 0) ∧ rplA (thoP k P) (rs.take k) = (ss, 0) := by
  obtain ⟨ss, h1, h2⟩ := rpl_pre k h
  have hP := rplok p0_ok rs h
  have hS := rplok p0_ok _ h1
  refine ⟨ss, h1, ?_⟩
  unfold rplA
  rw [if_pos ha, rpl_iff _ _ _ (tho_ok hP) hS.1]
  intro x
  have e1 := (rpl_iff _ _ _ p0_ok hS.1).1 h1 x
  have e2 := (rpl_iff _ _ _ hS hP.1).1 h2 x
  rw [get_tho hP, get_sta hP]
  cases hg : getP P x with
  | none => exact e1
  | some n =>
    dsimp only
    by_cases hn : n.lsn ≤ k
    · rw [if_pos hn]
      rw [hg] at e2
      have hs := run1_late (k := k) (fun r hr => hl.drop k r (List.mem_filter.1 hr).1) e2 hn
      rw [hs] at e1 ⊢
      have hrt : rightB n = true := by
        have hm : (x, n) ∈ thoP k P := by
          have hm : (x, n) ∈ staP k P := List.mem_filter.2 ⟨get_some hg, by simpa using hn⟩
          unfold thoP
          split
          · exact hm
          · exact List.mem_cons_of_mem _ hm
        exact (ari_ok 0 _ ha).2.2 _ hm
      exact run1_same (fun m hm => by cases hm; exact hrt) _ (fun r hr => run1_past e1 r (.inl hr))
    · rw [if_neg hn]
      exact e1
/-- What rewinding tells. -/
def ckP (ps : List (Int × Nd)) : Int := ckE (ps.map fun p => (⟨p.1, p.2, zp⟩ : Sl))
theorem ck_ps (ls : List Sl) : ckE ls = ckP (psOf ls) := by
  have e : ls.map nS = (psOf ls).map (fun p => (⟨p.1, p.2, zp⟩ : Sl)) := by unfold psOf; rw [List.map_map]; rfl
  unfold ckP ckE
  rw [← e, leaves_n]
  cases leavesF ls <;> rfl
theorem ck_right {ls : List Sl} (h : ckE ls = 0) : ariB 0 (psOf ls) = true := by
  unfold ckE at h
  split at h
  · rename_i hl
    unfold leavesF at hl
    split at hl
    · assumption
    · cases hl
  · cases h
/-- Whether LSNs stand as in a log. -/
def lsnB : Nat → List Rec → Bool
  | _, [] => true
  | i, r :: rs => decide (r.lsn = (i : Int) + 1) && lsnB (i + 1) rs
theorem lsnB_iff (rs : List Rec) : ∀ j, lsnB j rs = true ↔ ∀ (i : Nat) r, rs[i]? = some r → r.lsn = ((j + i : Nat) : Int) + 1 := by
  induction rs with
  | nil => intro j; simp [lsnB]
  | cons r rs ih =>
    intro j
    simp only [lsnB, Bool.and_eq_true, decide_eq_true_eq, ih]
    constructor
    · rintro ⟨h1, h2⟩ i x hx
      cases i with
      | zero => simp at hx; subst hx; simpa using h1
      | succ i => have := h2 i x (by simpa using hx); rw [show j + (i + 1) = j + 1 + i by omega]; exact this
    · intro h
      refine ⟨by have := h 0 r rfl; simpa using this, fun i x hx => ?_⟩
      have := h (i + 1) x (by simpa using hx)
      rw [show j + (i + 1) = j + 1 + i by omega] at this
      exact this
def rchE (rs : List Rec) (cut : Int) : Int := if lsnB 0 rs = true then (if 0 ≤ cut ∧ cut ≤ rs.length then 0 else 1) else 100
def rewP (ps : List (Int × Nd)) (rs : List Rec) (cut : Int) : List (Int × Nd) × Int :=
  if rchE rs cut = 0 then
    (if (rplA (thoP cut ps) (rs.take cut.toNat)).2 = 0 then (if ckP (rplA (thoP cut ps) (rs.take cut.toNat)).1 = 0 then ((rplA (thoP cut ps) (rs.take cut.toNat)).1, 0) else ([], ckP (rplA (thoP cut ps) (rs.take cut.toNat)).1)) else ([], (rplA (thoP cut ps) (rs.take cut.toNat)).2))
  else ([], rchE rs cut)
theorem rew_zero {ps : List (Int × Nd)} {rs : List Rec} {cut : Int} (h : (rewP ps rs cut).2 = 0) : rchE rs cut = 0 ∧ rplA (thoP cut ps) (rs.take cut.toNat) = ((rewP ps rs cut).1, 0) ∧ ckP (rewP ps rs cut).1 = 0 := by
  unfold rewP at h ⊢
  by_cases h1 : rchE rs cut = 0
  · rw [if_pos h1] at h ⊢
    by_cases h2 : (rplA (thoP cut ps) (rs.take cut.toNat)).2 = 0
    · rw [if_pos h2] at h ⊢
      by_cases h3 : ckP (rplA (thoP cut ps) (rs.take cut.toNat)).1 = 0
      · rw [if_pos h3]
        exact ⟨h1, Prod.ext rfl h2, h3⟩
      · rw [if_neg h3] at h; exact absurd h h3
    · rw [if_neg h2] at h; exact absurd h h2
  · rw [if_neg h1] at h; exact absurd h h1
theorem ari_weak {x y : Int} {ps : List (Int × Nd)} (h : ariB y ps = true) (hx : x ≤ y) : ariB x ps = true := by
  cases ps with
  | nil => rfl
  | cons q t =>
    obtain ⟨z, m⟩ := q
    simp only [ariB, Bool.and_eq_true, decide_eq_true_eq] at h ⊢
    exact ⟨⟨⟨by omega, h.1.1.2⟩, h.1.2⟩, h.2⟩
theorem ari_filter {x : Int} {ps : List (Int × Nd)} (f : Int × Nd → Bool) (h : ariB x ps = true) : ariB x (ps.filter f) = true := by
  induction ps generalizing x with
  | nil => rfl
  | cons q t ih =>
    obtain ⟨z, m⟩ := q
    simp only [ariB, Bool.and_eq_true, decide_eq_true_eq] at h
    rw [List.filter_cons]
    split
    · simp only [ariB, Bool.and_eq_true, decide_eq_true_eq]
      exact ⟨h.1, ih h.2⟩
    · exact ih (ari_weak h.2 (by omega))
theorem zn_right : rightB zn = true := by decide
theorem tho_right {k : Int} {ps : List (Int × Nd)} (h : ariB 0 ps = true) : ariB 0 (thoP k ps) = true := by
  have hs : ariB 0 (staP k ps) = true := ari_filter _ h
  have hp := ari_psok hs
  unfold thoP
  split
  · exact hs
  · rename_i hr
    cases hl : staP k ps with
    | nil => simp [ariB, zn_right]
    | cons p t =>
      rw [hl] at hs hr hp
      obtain ⟨y, n⟩ := p
      simp only [rooB] at hr
      have hy := hp.2 y (by simp)
      simp only [ariB, Bool.and_eq_true, decide_eq_true_eq] at hs ⊢
      have : y ≠ 1 := by simpa using hr
      exact ⟨⟨⟨by omega, by omega⟩, zn_right⟩, ⟨⟨by omega, hs.1.1.2⟩, hs.1.2⟩, hs.2⟩
/-- REWOUND TWICE. -/
theorem rew_twice {rs : List Rec} (hl : Lsn rs) {P : List (Int × Nd)} (h : rplP p0 rs = (P, 0)) {cut fur : Nat} (h1 : cut ≤ rs.length) (h2 : fur ≤ cut) (hf : (rewP P rs cut).2 = 0) (hg : (rewP P rs fur).2 = 0) : rewP (rewP P rs cut).1 (rs.take cut) fur = ((rewP P rs fur).1, 0) := by
  obtain ⟨a1, a2, a3⟩ := rew_zero hf
  obtain ⟨b1, b2, b3⟩ := rew_zero hg
  rw [Int.toNat_natCast] at a2 b2
  have haA : ariB 0 (thoP cut P) = true := by
    cases e : ariB 0 (thoP cut P) with
    | true => rfl
    | false => unfold rplA at a2; rw [e] at a2; simp at a2
  have haB : ariB 0 (thoP fur P) = true := by
    cases e : ariB 0 (thoP fur P) with
    | true => rfl
    | false => unfold rplA at b2; rw [e] at b2; simp at b2
  obtain ⟨sA, e1, e2⟩ := rew_eq hl h cut haA
  obtain ⟨sB, e3, e4⟩ := rew_eq hl h fur haB
  rw [a2] at e2
  rw [b2] at e4
  simp only [Prod.mk.injEq, and_true] at e2 e4
  rw [e2] at a3 ⊢
  rw [e4] at b3 ⊢
  have hr : ariB 0 sA = true := by
    have := ck_right (ls := sA.map fun (p : Int × Nd) => (⟨p.1, p.2, zp⟩ : Sl)) a3
    rw [show psOf (sA.map fun (p : Int × Nd) => (⟨p.1, p.2, zp⟩ : Sl)) = sA by unfold psOf; rw [List.map_map]; exact List.map_id' sA] at this
    exact this
  obtain ⟨sC, e5, e6⟩ := rew_eq (hl.take cut) e1 fur (tho_right hr)
  rw [List.take_take, Nat.min_eq_left h2] at e5 e6
  rw [e3] at e5
  simp only [Prod.mk.injEq, and_true] at e5
  have hlb : lsnB 0 (rs.take cut) = true := (lsnB_iff _ 0).2 (fun i r hr => by rw [Nat.zero_add]; exact hl.take cut i r hr)
  have hrc : rchE (rs.take cut) fur = 0 := by
    unfold rchE
    rw [if_pos hlb, if_pos ⟨by omega, by rw [List.length_take]; omega⟩]
  unfold rewP
  rw [if_pos hrc, Int.toNat_natCast, List.take_take, Nat.min_eq_left h2, e6]
  dsimp only
  rw [if_pos rfl, ← e5, if_pos b3]
end Go.Proofs.YtkibbojiflklpaaGreat
