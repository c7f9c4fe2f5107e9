
/- BkSeqE, BkScan2, BkEntA, BkRise, BkNrm. -/
import Derived.Test.YtihkdffihmhnaaaGreatRN4
import Derived.Test.YtihkdffihmhnaaaGreatRN1
import Derived.Test.YtihkdffihmhnaaaGreatRNB
/- slices.Collect of entries. -/
namespace Go.Proofs.YtihkdffihmhnaaaGreat
open Go.RowKit Go.Shelf
attribute [local go_sem] Oper.semAt_some

/-- An entry's cells. -/
def enC (e : ByteArray × ByteArray) : List Value := [.string e.1, .string e.2]
theorem enC_one (e : ByteArray × ByteArray) : ∀ u ∈ enC e, u.oneCell' = true := by
  intro u hu
  simp only [enC, List.mem_cons, List.not_mem_nil, or_false] at hu
  rcases hu with rfl | rfl <;> rfl
theorem enC_length (e : ByteArray × ByteArray) : (enC e).length = 2 := rfl

end Go.Proofs.YtihkdffihmhnaaaGreat

/- Scan of all entries of a tree. -/
namespace Go.Proofs.YtihkdffihmhnaaaGreat
open Go.RowKit Go.Shelf
attribute [local go_sem] Oper.semAt_some

end Go.Proofs.YtihkdffihmhnaaaGreat

/- Entries: all entries of pages that are a tree. -/
namespace Go.Proofs.YtihkdffihmhnaaaGreat
open Go.RowKit Go.Shelf
attribute [local go_sem] Oper.semAt_some

theorem keys_256 {n : Nd} (r : Rt n) : n.keys.length ≤ 256 := by
  have h1 := r.size
  have h2 : n.keys.length ≤ tsz n.keys := by
    generalize n.keys = l
    induction l with
    | nil => simp
    | cons x t ih => simp only [tsz, List.map_cons, List.sum_cons, List.length_cons] at ih ⊢; omega
  unfold sizeN at h1
  omega
theorem ndE_len (n : Nd) : (ndE n).length ≤ n.keys.length := by
  unfold ndE; rw [List.length_zip]; omega
theorem lvE_len (sp : List Spt) (m : Nat) (h : ∀ s ∈ sp, s.nd.keys.length ≤ m) : (lvE sp).length ≤ sp.length * m := by
  induction sp with
  | nil => simp [lvE]
  | cons s r ih =>
    have h1 := ih (fun t ht => h t (List.mem_cons_of_mem _ ht))
    have h2 := h s (by simp)
    have h3 := ndE_len s.nd
    have e : lvE (s :: r) = ndE s.nd ++ lvE r := rfl
    rw [e, List.length_append, List.length_cons, Nat.add_mul]
    omega
theorem leaves_few {ls : List Sl} {sp : List Spt} (h : leavesF ls = some sp) : sp.length ≤ 4096 := by
  unfold leavesF at h
  by_cases h1 : ariB 0 (psOf ls) = true
  · rw [if_pos h1] at h
    by_cases h2 : chkF [] (lvR ls) = true
    · rw [if_pos h2] at h
      obtain rfl := Option.some.inj h
      have hp := ari_ok 0 _ h1
      have hf := pw_few _ 1 hp.1 (fun y hy => by have := hp.2.1 y hy; omega)
      have hl : ls.length ≤ 4096 := by simp [psOf] at hf; omega
      rcases end_mem (l := lvR ls) with e | ⟨y, hy, e⟩
      · rw [e]; simp
      · rw [← e]
        have := rowsF_len _ _ y hy
        omega
    · rw [if_neg h2] at h; cases h
  · rw [if_neg h1] at h; cases h
theorem treeE_few (ls : List Sl) : (treeE ls).length ≤ 2000000 := by
  unfold treeE
  cases h : leavesF ls with
  | none => simp [lvE]
  | some sp =>
    have h1 := leaves_few h
    have h2 := lvE_len sp 400 (fun s hs => by
      have := keys_256 (leaves_in h s hs).2
      omega)
    simp only [Option.getD_some]
    omega
end Go.Proofs.YtihkdffihmhnaaaGreat

/- The keys of a tree's entries rise. -/
namespace Go.Proofs.YtihkdffihmhnaaaGreat
open Go.RowKit

theorem less_cpl (l m : List UInt8) : Op.bytesLess l m = decide (cpl (l.map UInt8.toNat) (m.map UInt8.toNat) < 0) := by
  induction l generalizing m with
  | nil => cases m <;> simp [Op.bytesLess, cpl]
  | cons x l ih =>
    cases m with
    | nil => simp [Op.bytesLess, cpl]
    | cons y m =>
      simp only [Op.bytesLess, List.map_cons, cpl]
      rw [ih]
      have h1 : (x < y) = (x.toNat < y.toNat) := by rw [UInt8.lt_iff_toNat_lt]
      have h2 : (x == y) = decide (x.toNat = y.toNat) := by
        rw [Bool.eq_iff_iff]; simp [UInt8.toNat_inj]
      rw [h2]
      by_cases a : x.toNat < y.toNat
      · rw [if_pos a]; simp [h1, a]
      · rw [if_neg a]
        by_cases b : y.toNat < x.toNat
        · rw [if_pos b]
          have : ¬ x.toNat = y.toNat := by omega
          simp [h1, a, this]
        · rw [if_neg b]
          have : x.toNat = y.toNat := by omega
          simp [h1, this]
theorem lsB_cpl (a b : ByteArray) : lsB a b = decide (cpl (bsOf a) (bsOf b) < 0) := by
  unfold lsB
  rw [less_cpl, Lib.toList_data, Lib.toList_data]; rfl
/-- One key is less than another one. -/
def Kl (a b : ByteArray) : Prop := cpl (bsOf a) (bsOf b) < 0
def Kle (a b : ByteArray) : Prop := cpl (bsOf a) (bsOf b) ≤ 0
theorem Kl.of_le {a b c : ByteArray} (h : Kl a b) (k : Kle b c) : Kl a c := by
  unfold Kl Kle at *
  have h1 := cpl_trans _ _ _ (Int.le_of_lt h) k
  rcases Int.lt_or_eq_of_le h1 with h2 | h2
  · exact h2
  · have e := (cpl_eq _ _).1 h2
    have h3 := cpl_neg (bsOf a) (bsOf b)
    rw [← e] at k
    omega
theorem Kl.le {a b : ByteArray} (h : Kl a b) : Kle a b := Int.le_of_lt h
theorem Kle.trans {a b c : ByteArray} (h : Kle a b) (k : Kle b c) : Kle a c := cpl_trans _ _ _ h k
theorem not_ls {a b : ByteArray} (h : lsB a b = false) : Kle b a := by
  rw [lsB_cpl] at h
  have := of_decide_eq_false h
  have h2 := cpl_neg (bsOf a) (bsOf b)
  unfold Kle
  omega
theorem empty_le (a : ByteArray) (h : a.toList = []) (b : ByteArray) : Kle a b := by
  unfold Kle
  have : bsOf a = [] := by unfold bsOf; rw [← Lib.toList_data, h]; rfl
  rw [this]
  cases bsOf b <;> simp [cpl]
/-- The keys of a node rise. -/
theorem node_rise {n : Nd} (h : Rt n) : n.keys.Pairwise Kl := by
  rw [List.pairwise_iff_getElem]
  have key : ∀ (d i j : Nat) (hi : i < n.keys.length) (hj : j < n.keys.length), j = i + d + 1 → Kl n.keys[i] n.keys[j] := by
    intro d
    induction d with
    | zero =>
      intro i j hi hj e
      have h1 := (h.keys j hj).2.1 (by omega)
      have e1 : n.keys.getD (j - 1) ByteArray.empty = n.keys[i] := by
        rw [List.getD_eq_getElem?_getD, show j - 1 = i by omega, List.getElem?_eq_getElem hi]; rfl
      have e2 : n.keys.getD j ByteArray.empty = n.keys[j] := by
        rw [List.getD_eq_getElem?_getD, List.getElem?_eq_getElem hj]; rfl
      rw [e1, e2] at h1
      exact h1
    | succ d ih =>
      intro i j hi hj e
      have h1 := ih i (j - 1) hi (by omega) (by omega)
      have h2 := (h.keys j hj).2.1 (by omega)
      have e1 : n.keys.getD (j - 1) ByteArray.empty = n.keys[j - 1]'(by omega) := by
        rw [List.getD_eq_getElem?_getD, List.getElem?_eq_getElem (by omega)]; rfl
      have e2 : n.keys.getD j ByteArray.empty = n.keys[j] := by
        rw [List.getD_eq_getElem?_getD, List.getElem?_eq_getElem hj]; rfl
      rw [e1, e2] at h2
      exact h1.of_le (Int.le_of_lt h2)
  intro i j hi hj hij
  exact key (j - i - 1) i j hi hj (by omega)
theorem node_below {n : Nd} (h : Rt n) (hh : n.high.toList ≠ []) : ∀ k ∈ n.keys, Kl k n.high := by
  intro k hk
  obtain ⟨i, hi, rfl⟩ := List.getElem_of_mem hk
  have h1 := (h.keys i hi).2.2 (by
    intro e; apply hh
    rw [Lib.toList_data]
    exact List.eq_nil_of_length_eq_zero (by rw [← Lib.size_eq]; exact e))
  have e2 : n.keys.getD i ByteArray.empty = n.keys[i] := by
    rw [List.getD_eq_getElem?_getD, List.getElem?_eq_getElem hi]; rfl
  rw [e2] at h1
  exact h1
theorem ndE_keys {n : Nd} (h : Rt n) (h0 : n.lev = 0) : (ndE n).map Prod.fst = n.keys := by
  unfold ndE
  rw [List.map_fst_zip]
  rw [(h.leaf h0).1]; exact Nat.le_refl _
theorem row_rise {ls : List Sl} (k : Nat) : ∀ (x : Int) (low : ByteArray), isRowB (rowS ls k x low) 0 = true → (∀ s ∈ rowS ls k x low, Rt s.nd) → ((lvE (rowS ls k x low)).map Prod.fst).Pairwise Kl ∧ ∀ y ∈ (lvE (rowS ls k x low)).map Prod.fst, Kle low y := by
  induction k with
  | zero => intro x low _ _; simp [rowS, lvE]
  | succ k ih =>
    intro x low hr hR
    cases hh : hasB ls x
    · rw [rowS_no _ _ hh]; simp [lvE]
    · obtain ⟨s, hs, _⟩ := has_some hh
      rw [rowS_yes _ _ hh hs] at hr hR ⊢
      simp only [isRowB, Bool.and_eq_true, beq_iff_eq] at hr
      obtain ⟨hl, _, hhi, hkp, hrest⟩ := hr
      have rt : Rt s.nd := hR _ (List.mem_cons_self ..)
      obtain ⟨ihp, ihl⟩ := ih s.nd.rgt s.nd.high hrest (fun t ht => hR t (List.mem_cons_of_mem _ ht))
      have e : lvE (⟨x, s.nd, s.pt, low⟩ :: rowS ls k s.nd.rgt s.nd.high) = ndE s.nd ++ lvE (rowS ls k s.nd.rgt s.nd.high) := rfl
      rw [e, List.map_append, ndE_keys rt hl]
      have hkeep : ∀ y ∈ s.nd.keys, Kle low y := by
        unfold keepB keepN at hkp
        simp only [Bool.and_eq_true] at hkp
        intro y hy
        have := List.all_eq_true.1 hkp.1 y hy
        unfold kOk at this
        simp only [Bool.not_eq_true', Bool.or_eq_false_iff] at this
        exact not_ls this.1
      have hne : ∀ y ∈ (lvE (rowS ls k s.nd.rgt s.nd.high)).map Prod.fst, s.nd.high.toList ≠ [] := by
        intro y hy h0
        have hem : (rowS ls k s.nd.rgt s.nd.high).isEmpty = true := by rw [← hhi, h0]; rfl
        rw [List.isEmpty_iff] at hem
        rw [hem] at hy; simp [lvE] at hy
      refine ⟨List.pairwise_append.2 ⟨node_rise rt, ihp, fun a ha b hb => (node_below rt (hne b hb) a ha).of_le (ihl b hb)⟩, fun y hy => ?_⟩
      rcases List.mem_append.1 hy with h1 | h1
      · exact hkeep y h1
      · have h2 := hne y h1
        unfold keepB keepN at hkp
        simp only [Bool.and_eq_true, Bool.or_eq_true] at hkp
        rcases hkp.2 with h3 | h3
        · rw [List.isEmpty_iff] at h3; exact absurd h3 h2
        · have : lsB s.nd.high low = false := by simpa using h3
          exact (not_ls this).trans (ihl y h1)
theorem rowsF_is {ls : List Sl} (k : Nat) (x : Int) : ∀ y ∈ rowsF ls k x, ∃ x', y.2 = rowS ls ls.length x' ByteArray.empty := by
  induction k generalizing x with
  | zero => intro y hy; cases hy
  | succ k ih =>
    intro y hy
    have e : rowsF ls (k + 1) x = ((k : Int), rowS ls ls.length x ByteArray.empty) :: nxt (rowsF ls k) (rowS ls ls.length x ByteArray.empty) := rfl
    rw [e] at hy
    rcases List.mem_cons.1 hy with rfl | h
    · exact ⟨x, rfl⟩
    · cases hr : rowS ls ls.length x ByteArray.empty with
      | nil => rw [hr] at h; cases h
      | cons s r =>
        rw [hr] at h
        cases hk : s.nd.kids with
        | nil => rw [nxt_leaf _ _ hk] at h; cases h
        | cons z zs => rw [nxt_kid _ _ hk] at h; exact ih z y h
theorem chk_rows {ab : List Spt} {l : List (Int × List Spt)} (h : chkF ab l = true) : ∀ y ∈ l, isRowB y.2 y.1 = true := by
  induction l generalizing ab with
  | nil => intro y hy; cases hy
  | cons x l ih =>
    simp only [chkF, Bool.and_eq_true] at h
    intro y hy
    rcases List.mem_cons.1 hy with rfl | hy
    · exact h.1.1
    · exact ih h.2 y hy
theorem isRow_zero {l : List Spt} {lev : Int} (h : isRowB l lev = true) (h0 : ∀ s ∈ l, s.nd.lev = 0) : isRowB l 0 = true := by
  cases l with
  | nil => rfl
  | cons s r =>
    have : lev = 0 := by
      have h1 := isRow_lev h s (by simp)
      rw [← h1]; exact h0 s (by simp)
    rw [← this]; exact h
/-- The keys of a tree's entries rise. -/
theorem tree_rise (ls : List Sl) : ((treeE ls).map Prod.fst).Pairwise Kl := by
  unfold treeE
  cases h : leavesF ls with
  | none => simp [lvE]
  | some sp =>
    have hin := leaves_in h
    simp only [Option.getD_some]
    unfold leavesF at h
    by_cases h1 : ariB 0 (psOf ls) = true
    · rw [if_pos h1] at h
      by_cases h2 : chkF [] (lvR ls) = true
      · rw [if_pos h2] at h
        obtain rfl := Option.some.inj h
        rcases end_mem (l := lvR ls) with e | ⟨y, hy, e⟩
        · rw [e]; simp [lvE]
        · rw [← e] at hin ⊢
          obtain ⟨x', hx⟩ := rowsF_is _ _ y hy
          have hr := chk_rows h2 y hy
          rw [hx] at hin hr ⊢
          exact (row_rise _ _ _ (isRow_zero hr (fun s hs => (hin s hs).1)) (fun s hs => (hin s hs).2)).1
      · rw [if_neg h2] at h; cases h
    · rw [if_neg h1] at h; cases h
theorem rise_at {L : List (ByteArray × ByteArray)} (h : (L.map Prod.fst).Pairwise Kl) {i j : Nat} {a b : ByteArray × ByteArray} (ha : L[i]? = some a) (hb : L[j]? = some b) (hij : i < j) : Kl a.1 b.1 := by
  obtain ⟨hi, rfl⟩ := List.getElem?_eq_some_iff.1 ha
  obtain ⟨hj, rfl⟩ := List.getElem?_eq_some_iff.1 hb
  have := List.pairwise_iff_getElem.1 h i j (by simpa using hi) (by simpa using hj) hij
  simpa using this
theorem Kl.ne {a b : ByteArray} (h : Kl a b) : (a.toList == b.toList) = false := by
  rw [beq_eq_false_iff_ne]
  intro e
  have : a = b := by
    have h1 : a.data.toList = b.data.toList := by rw [← Lib.toList_data, ← Lib.toList_data]; exact e
    cases a; cases b; congr; exact Array.toList_inj.1 h1
  subst this
  unfold Kl at h
  rw [cpl_refl] at h
  omega
/-- Each entry is found by its key. -/
theorem found_at {L : List (ByteArray × ByteArray)} (h : (L.map Prod.fst).Pairwise Kl) {i : Nat} {a : ByteArray × ByteArray} (ha : L[i]? = some a) : fndE L a.1 = some a := by
  unfold fndE
  rw [List.find?_eq_some_iff_getElem]
  obtain ⟨hi, rfl⟩ := List.getElem?_eq_some_iff.1 ha
  refine ⟨by simp, i, hi, rfl, fun j hj => ?_⟩
  have := (rise_at h (List.getElem?_eq_getElem (by omega : j < L.length)) ha hj).ne
  simp only [Bool.not_eq_true', this]
end Go.Proofs.YtihkdffihmhnaaaGreat

/- The entries of pages do not lean on where their lists lie. -/
namespace Go.Proofs.YtihkdffihmhnaaaGreat
open Go.RowKit

def nS (s : Sl) : Sl := ⟨s.page, s.nd, zp⟩
def nP (s : Spt) : Spt := ⟨s.page, s.nd, zp, s.low⟩
def nR (y : Int × List Spt) : Int × List Spt := (y.1, y.2.map nP)
theorem ahead_n (ls : List Sl) (x : Int) : ahead (ls.map nS) x = ahead ls x := by
  induction ls with
  | nil => rfl
  | cons s l ih => simp only [List.map_cons, ahead, ih]; rfl
theorem has_n (ls : List Sl) (x : Int) : hasB (ls.map nS) x = hasB ls x := by
  unfold hasB
  rw [ahead_n, List.getElem?_map]
  cases ls[ahead ls x]? <;> rfl
theorem rowS_n (ls : List Sl) (k : Nat) : ∀ (x : Int) (low : ByteArray), rowS (ls.map nS) k x low = (rowS ls k x low).map nP := by
  induction k with
  | zero => intro x low; rfl
  | succ k ih =>
    intro x low
    cases hh : hasB ls x
    · rw [rowS_no _ _ hh, rowS_no _ _ (by rw [has_n]; exact hh)]; rfl
    · obtain ⟨s, hs, _⟩ := has_some hh
      rw [rowS_yes _ _ hh hs, rowS_yes (s := nS s) _ _ (by rw [has_n]; exact hh) (by rw [ahead_n, List.getElem?_map, hs]; rfl)]
      rw [List.map_cons]
      show _ :: rowS (ls.map nS) k s.nd.rgt s.nd.high = _
      rw [ih]; rfl
theorem rowsF_n (ls : List Sl) (k : Nat) : ∀ (x : Int), rowsF (ls.map nS) k x = (rowsF ls k x).map nR := by
  induction k with
  | zero => intro x; rfl
  | succ k ih =>
    intro x
    have e : ∀ l : List Sl, rowsF l (k + 1) x = ((k : Int), rowS l l.length x ByteArray.empty) :: nxt (rowsF l k) (rowS l l.length x ByteArray.empty) := fun _ => rfl
    rw [e, e, List.length_map, rowS_n, List.map_cons]
    congr 1
    cases hr : rowS ls ls.length x ByteArray.empty with
    | nil => rfl
    | cons s r =>
      rw [List.map_cons]
      cases hk : s.nd.kids with
      | nil => rw [nxt_leaf _ _ hk, nxt_leaf (s := nP s) _ _ hk]; rfl
      | cons z zs => rw [nxt_kid _ _ hk, nxt_kid (s := nP s) _ _ hk]; exact ih z
theorem isRow_n (r : List Spt) (lev : Int) : isRowB (r.map nP) lev = isRowB r lev := by
  induction r with
  | nil => rfl
  | cons s r ih =>
    simp only [List.map_cons, isRowB, ih, List.isEmpty_map]
    rfl
theorem sm_n (row : List Spt) (x : Int) : sm (row.map nP) x = (sm row x).map nP := by
  unfold sm
  rw [← List.map_reverse, List.find?_map]
  rfl
theorem kl1_n (row : List Spt) (low : ByteArray) (kid : Int) : kl1B (sm (row.map nP)) low kid = kl1B (sm row) low kid := by
  unfold kl1B
  rw [sm_n]
  cases sm row kid <;> rfl
theorem kl_n (row : List Spt) (low : ByteArray) (keys : List ByteArray) (kids : List Int) : ∀ i, klB (sm (row.map nP)) low keys i kids = klB (sm row) low keys i kids := by
  induction kids with
  | nil => intro i; rfl
  | cons y ys ih => intro i; simp only [klB, kl1_n, ih]
theorem bel_n (row above : List Spt) : belB (row.map nP) (above.map nP) = belB row above := by
  unfold belB
  cases above with
  | nil => simp
  | cons s r =>
    rw [if_neg (by simp), if_neg (by simp), List.all_map]
    congr 1
    funext t
    exact kl_n row t.low t.nd.keys t.nd.kids 0
theorem chk_n (l : List (Int × List Spt)) : ∀ ab : List Spt, chkF (ab.map nP) (l.map nR) = chkF ab l := by
  induction l with
  | nil => intro ab; rfl
  | cons x l ih =>
    intro ab
    simp only [List.map_cons, chkF]
    show ((isRowB (x.2.map nP) x.1 && belB (x.2.map nP) (ab.map nP)) && chkF (x.2.map nP) (l.map nR)) = _
    rw [isRow_n, bel_n, ih]
theorem end_n (l : List (Int × List Spt)) : ∀ ab : List Spt, endF (ab.map nP) (l.map nR) = (endF ab l).map nP := by
  induction l with
  | nil => intro ab; rfl
  | cons x l ih => intro ab; simp only [List.map_cons, endF]; exact ih x.2
theorem top_n (ls : List Sl) : topF (ls.map nS) = topF ls := by
  unfold topF
  rw [has_n, ahead_n, List.getElem?_map]
  cases ls[ahead ls 1]? <;> rfl
theorem ps_n (ls : List Sl) : psOf (ls.map nS) = psOf ls := by
  unfold psOf; rw [List.map_map]; rfl
theorem leaves_n (ls : List Sl) : leavesF (ls.map nS) = (leavesF ls).map (List.map nP) := by
  unfold leavesF lvR
  rw [ps_n, top_n, rowsF_n]
  have h1 := chk_n (rowsF ls (topF ls + 1).toNat 1) []
  have h2 := end_n (rowsF ls (topF ls + 1).toNat 1) []
  rw [List.map_nil] at h1 h2
  rw [h1, h2]
  split
  · split <;> rfl
  · rfl
theorem lvE_n (sp : List Spt) : lvE (sp.map nP) = lvE sp := by
  unfold lvE; rw [List.flatMap_map]; rfl
theorem tree_n (ls : List Sl) : treeE (ls.map nS) = treeE ls := by
  unfold treeE
  rw [leaves_n]
  cases leavesF ls with
  | none => rfl
  | some sp => exact lvE_n sp
theorem tree_ps {la lb : List Sl} (h : psOf la = psOf lb) : treeE la = treeE lb := by
  have e : ∀ l : List Sl, l.map nS = (psOf l).map (fun p => (⟨p.1, p.2, zp⟩ : Sl)) := fun l => by unfold psOf; rw [List.map_map]; rfl
  rw [← tree_n la, ← tree_n lb, e, e, h]
theorem tree_key (ls : List Sl) : ∀ e ∈ treeE ls, e.1.size ≤ 16 := by
  unfold treeE
  cases h : leavesF ls with
  | none => intro e he; simp [lvE] at he
  | some sp =>
    intro e he
    simp only [Option.getD_some, lvE, List.mem_flatMap] at he
    obtain ⟨s, hs, he⟩ := he
    have rt := (leaves_in h s hs).2
    unfold ndE at he
    have hk := (List.of_mem_zip he).1
    obtain ⟨i, hi, e1⟩ := List.getElem_of_mem hk
    have h1 := (rt.keys i hi).1.2
    rw [List.getD_eq_getElem?_getD, List.getElem?_eq_getElem hi] at h1
    rw [← e1]; exact h1
end Go.Proofs.YtihkdffihmhnaaaGreat
