
/- NdHalf, NdHalf2. -/
import Derived.Test.YtaaedmacefiinaaZN8
/- A node that is parted by its parting key: both parts are right, and every key is where it belongs. -/
namespace Go.Proofs.Ytaaedmacefiinaa
open Go.RowKit

theorem getD_take {α : Type} (l : List α) (m i : Nat) (d : α) (h : i < m) : (l.take m).getD i d = l.getD i d := by
  rw [List.getD_eq_getElem?_getD, List.getD_eq_getElem?_getD, List.getElem?_take, if_pos h]
theorem getD_drop {α : Type} (l : List α) (m i : Nat) (d : α) : (l.drop m).getD i d = l.getD (m + i) d := by
  rw [List.getD_eq_getElem?_getD, List.getD_eq_getElem?_getD, List.getElem?_drop]
theorem tsz_drop (l : List ByteArray) (m : Nat) : tsz (l.take m) + tsz (l.drop m) = tsz l := by
  have : tsz l = tsz (l.take m ++ l.drop m) := by rw [List.take_append_drop]
  rw [this]; simp only [tsz, List.map_append, List.sum_append]
theorem take_drop_all {α : Type} (l : List α) (b e : Nat) (h : e = l.length) : (l.take e).drop b = l.drop b := by
  subst h; rw [List.take_length]
/-- The parting key stands between. -/
structure Btw (n : Nd) (m : Nat) (s : ByteArray) : Prop where
  m1 : 1 ≤ m
  m2 : m < n.keys.length
  s1 : 1 ≤ s.size
  s2 : s.size ≤ (n.keys.getD m ByteArray.empty).size
  lo : cpl (bsOf (n.keys.getD (m - 1) ByteArray.empty)) (bsOf s) < 0
  hi : cpl (bsOf s) (bsOf (n.keys.getD m ByteArray.empty)) ≤ 0
  eq : n.lev ≠ 0 → s = n.keys.getD m ByteArray.empty
theorem mid_btw {n : Nd} {m : Nat} (r : Rt n) (hm : Mid n m) : Btw n m (splS n m) := by
  have h1 := hm.lo
  have h2 := hm.hi
  have hk := r.keys m (by omega)
  have hlt := hk.2.1 (by omega)
  by_cases h0 : n.lev = 0
  · have e : splS n m = (n.keys.getD m ByteArray.empty).extract 0 (cmn (bsOf (n.keys.getD (m - 1) ByteArray.empty)) (bsOf (n.keys.getD m ByteArray.empty)) + 1) := if_pos h0
    have hg := cpl_take_gt _ _ (cpl_m1 hlt)
    have hb : bsOf (splS n m) = (bsOf (n.keys.getD m ByteArray.empty)).take (cmn (bsOf (n.keys.getD (m - 1) ByteArray.empty)) (bsOf (n.keys.getD m ByteArray.empty)) + 1) := by rw [e, bs_extract]
    have hsz : (splS n m).size = cmn (bsOf (n.keys.getD (m - 1) ByteArray.empty)) (bsOf (n.keys.getD m ByteArray.empty)) + 1 := by
      have h3 := congrArg List.length hb
      rw [bsOf_length, List.length_take] at h3
      have := hg.2
      omega
    have hcl := hg.2
    rw [bsOf_length] at hcl
    refine ⟨h1, by omega, by omega, by omega, ?_, ?_, fun h => absurd h0 h⟩
    · rw [hb, ← cpl_pos]
      have := hg.1
      omega
    · rw [hb]
      have := cpl_take_le (bsOf (n.keys.getD m ByteArray.empty)) (bsOf (n.keys.getD m ByteArray.empty)) (cmn (bsOf (n.keys.getD (m - 1) ByteArray.empty)) (bsOf (n.keys.getD m ByteArray.empty)) + 1) (by
        rw [cmn_is (bsOf (n.keys.getD m ByteArray.empty)) (bsOf (n.keys.getD m ByteArray.empty)) (bsOf (n.keys.getD m ByteArray.empty)).length (Nat.le_refl _) (Nat.le_refl _) (fun _ _ => rfl) (.inl rfl)]
        have := hg.2
        omega)
      exact this
  · have e : splS n m = n.keys.getD m ByteArray.empty := if_neg h0
    rw [e]
    exact ⟨h1, by omega, hk.1.1, Nat.le_refl _, hlt, by rw [cpl_refl]; omega, fun _ => rfl⟩
section
variable {n : Nd} {m : Nat} {s : ByteArray}
theorem Btw.below (h : Btw n m s) (r : Rt n) (j : Nat) (hj : j < m) : cpl (bsOf (n.keys.getD j ByteArray.empty)) (bsOf s) < 0 := by
  have h1 := h.m2
  rcases Nat.lt_or_ge j (m - 1) with h2 | h2
  · exact cpl_lt_trans (r.srt j (m - 1) h2 (by omega)) h.lo
  · rw [show j = m - 1 by omega]; exact h.lo
theorem Btw.above (h : Btw n m s) (r : Rt n) (j : Nat) (hj : m ≤ j) (hl : j < n.keys.length) : cpl (bsOf s) (bsOf (n.keys.getD j ByteArray.empty)) ≤ 0 := by
  rcases Nat.lt_or_ge m j with h2 | h2
  · have := cpl_le_lt h.hi (r.srt m j h2 hl)
    omega
  · rw [show j = m by omega]; exact h.hi
theorem Btw.plc1 (h : Btw n m s) (r : Rt n) : (plc (bsOf s) n.keys).1 = m := by
  have := plc_hit (bsOf s) n.keys m h.m2 (fun j hj => h.below r j hj) (by rw [cpl_neg]; have := h.hi; omega)
  rw [this]
theorem Btw.plc2 (h : Btw n m s) (r : Rt n) (h0 : n.lev ≠ 0) : (plc (bsOf s) n.keys).2 = true := by
  have := plc_hit (bsOf s) n.keys m h.m2 (fun j hj => h.below r j hj) (by rw [cpl_neg]; have := h.hi; omega)
  rw [this, h.eq h0]; simp
theorem Btw.parE (h : Btw n m s) (r : Rt n) : parE n s = 0 := by
  by_cases h0 : n.lev = 0
  · exact parE_leaf h0
  · exact parE_hit (h.plc2 r h0)
theorem Btw.parA (h : Btw n m s) (r : Rt n) : parA n s = m := by rw [parA_ok (h.parE r), h.plc1 r]
theorem Btw.small (h : Btw n m s) (r : Rt n) : s.size ≤ 16 := by
  have := h.s2
  have := (r.keys m h.m2).1.2
  omega
theorem Btw.notFar (h : Btw n m s) (r : Rt n) : fthB n s = false := by
  unfold fthB
  by_cases h0 : n.high.size = 0
  · rw [decide_eq_false (by omega)]; rfl
  · have := (r.keys m h.m2).2.2 h0
    have h2 := cpl_le_lt h.hi this
    rw [decide_eq_true h0, Bool.true_and, decide_eq_false]
    rw [cpl_neg]; omega
theorem ask_yes {n : Nd} {k : ByteArray} {en want : Int} (r : Rt n) (h1 : 1 ≤ k.size) (h2 : k.size ≤ 16) (h3 : en = 0) (h4 : ¬ ((want = 1 ∧ n.lev ≠ 0) ∨ (want = 2 ∧ n.lev = 0))) (h5 : fthB n k = false) : askE n k 0 en want = 0 := by
  have e1 : rgE n = 0 := by unfold rgE; rw [if_pos ((right_iff n).2 r)]
  have e2 : (ekey k.size : Int) = 0 := by rw [ekey_ok (by omega) h2]; rfl
  have e3 : suE n k want = 0 := by unfold suE; rw [if_neg h4, h5, if_neg (by simp)]
  unfold askE
  rw [e1, e2, h3, e3]
  rfl
theorem Btw.lrE (h : Btw n m s) (r : Rt n) (en : Int) (he : en = 0) : lrE n s en = 0 := by
  have ha : askE n s 0 en 0 = 0 := ask_yes r h.s1 (h.small r) he (by omega) (h.notFar r)
  unfold Go.Proofs.Ytaaedmacefiinaa.lrE
  rw [if_pos ha, h.parE r]
theorem leftN_leaf (h0 : n.lev = 0) (rt : Int) (ha : parA n s = m) : leftN n s rt = ⟨n.lev, n.lsn, rt, s, n.keys.take m, n.vals.take m, []⟩ := by
  unfold leftN pieceN
  rw [ha, if_pos h0, if_pos h0, List.drop_zero, List.drop_zero]
theorem leftN_inner (h0 : n.lev ≠ 0) (rt : Int) (ha : parA n s = m) : leftN n s rt = ⟨n.lev, n.lsn, rt, s, n.keys.take m, [], n.kids.take (m + 1)⟩ := by
  unfold leftN pieceN
  rw [ha, if_neg h0, if_neg h0, List.drop_zero, List.drop_zero]
theorem restN_leaf (r : Rt n) (h0 : n.lev = 0) (hb : parB n s = m) : restN n s = ⟨n.lev, n.lsn, n.rgt, n.high, n.keys.drop m, n.vals.drop m, []⟩ := by
  unfold restN pieceN
  rw [hb, if_pos h0, if_pos h0, take_drop_all _ _ _ rfl, take_drop_all _ _ _ (r.leaf h0).1.symm]
theorem restN_inner (r : Rt n) (h0 : n.lev ≠ 0) (hb : parB n s = m + 1) : restN n s = ⟨n.lev, n.lsn, n.rgt, n.high, n.keys.drop (m + 1), [], n.kids.drop (m + 1)⟩ := by
  unfold restN pieceN
  rw [hb, if_neg h0, if_neg h0, take_drop_all _ _ _ rfl, take_drop_all _ _ _ (r.inner h0).1.symm]
theorem Btw.parB_leaf (h : Btw n m s) (r : Rt n) (h0 : n.lev = 0) : parB n s = m := by rw [Go.Proofs.Ytaaedmacefiinaa.parB_leaf h0, h.plc1 r]
theorem Btw.parB_inner (h : Btw n m s) (r : Rt n) (h0 : n.lev ≠ 0) : parB n s = m + 1 := by rw [parB_hit h0 (h.plc2 r h0), h.plc1 r]
theorem kok_take (h : Btw n m s) (r : Rt n) : ∀ i, i < (n.keys.take m).length → kok s (n.keys.take m) i := by
  intro i hi
  have hi' : i < m := by have := h.m2; simp at hi; omega
  have hk := r.keys i (by have := h.m2; omega)
  unfold kok
  rw [getD_take _ _ _ _ hi']
  refine ⟨hk.1, fun h0 => ?_, fun _ => h.below r i hi'⟩
  rw [getD_take _ _ _ _ (by omega)]
  exact hk.2.1 h0
theorem kok_drop (r : Rt n) (d : Nat) : ∀ i, i < (n.keys.drop d).length → kok n.high (n.keys.drop d) i := by
  intro i hi
  have hi' : d + i < n.keys.length := by simp at hi; omega
  have hk := r.keys (d + i) hi'
  unfold kok
  rw [getD_drop]
  refine ⟨hk.1, fun h0 => ?_, hk.2.2⟩
  rw [getD_drop, show d + (i - 1) = d + i - 1 by omega]
  exact hk.2.1 (by omega)
theorem Btw.left_rt (h : Btw n m s) (r : Rt n) (rt : Int) (h1 : 1 ≤ rt) (h2 : rt ≤ 4096) : Rt (leftN n s rt) := by
  have hm := h.m2
  have hsz := r.size
  have htk := tsz_drop n.keys m
  have hts := tsz_snoc n.keys m hm
  have htl := tsz_drop n.keys (m + 1)
  have hs2 := h.s2
  unfold sizeN at hsz
  by_cases h0 : n.lev = 0
  · rw [leftN_leaf h0 rt (h.parA r)]
    have hv := r.leaf h0
    have htv := tsz_drop n.vals m
    rw [if_pos h0] at hsz
    refine ⟨r.lev0, r.lev1, r.lsn0, r.lsn1, (by show 0 ≤ rt; omega), h2, h.small r, kok_take h r, fun _ => ⟨?_, rfl, fun i hi => ?_⟩, fun hne => absurd h0 hne, ?_⟩
    · simp; omega
    · simp at hi
      rw [getD_take _ _ _ _ (by omega)]
      exact hv.2.2 i (by omega)
    · unfold sizeN; rw [if_pos h0]; simp only; omega
  · rw [leftN_inner h0 rt (h.parA r)]
    have hv := r.inner h0
    rw [if_neg h0] at hsz
    refine ⟨r.lev0, r.lev1, r.lsn0, r.lsn1, (by show 0 ≤ rt; omega), h2, h.small r, kok_take h r, fun e => absurd e h0, fun _ => ⟨?_, rfl, fun i hi => ?_⟩, ?_⟩
    · simp; omega
    · simp at hi
      rw [getD_take _ _ _ _ (by omega)]
      exact hv.2.2 i (by omega)
    · unfold sizeN; rw [if_neg h0]; simp only [List.length_take]; omega
theorem Btw.rest_rt (h : Btw n m s) (r : Rt n) : Rt (restN n s) := by
  have hm := h.m2
  have hsz := r.size
  unfold sizeN at hsz
  by_cases h0 : n.lev = 0
  · rw [restN_leaf r h0 (h.parB_leaf r h0)]
    have hv := r.leaf h0
    have htk := tsz_drop n.keys m
    have htv := tsz_drop n.vals m
    rw [if_pos h0] at hsz
    refine ⟨r.lev0, r.lev1, r.lsn0, r.lsn1, r.rgt0, r.rgt1, r.high, kok_drop r m, fun _ => ⟨?_, rfl, fun i hi => ?_⟩, fun hne => absurd h0 hne, ?_⟩
    · simp; omega
    · simp at hi
      rw [getD_drop]
      exact hv.2.2 (m + i) (by omega)
    · unfold sizeN; rw [if_pos h0]; simp only; omega
  · rw [restN_inner r h0 (h.parB_inner r h0)]
    have hv := r.inner h0
    have htk := tsz_drop n.keys (m + 1)
    rw [if_neg h0] at hsz
    refine ⟨r.lev0, r.lev1, r.lsn0, r.lsn1, r.rgt0, r.rgt1, r.high, kok_drop r (m + 1), fun e => absurd e h0, fun _ => ⟨?_, rfl, fun i hi => ?_⟩, ?_⟩
    · simp; omega
    · simp at hi
      rw [getD_drop]
      exact hv.2.2 (m + 1 + i) (by omega)
    · unfold sizeN; rw [if_neg h0]; simp only [List.length_drop]; omega
theorem kid_uniq {k : ByteArray} {l : List ByteArray} (hs : srt l) (q : Nat) (hq : q ≤ l.length) (h : ∀ j, j < l.length → (cpl (bsOf (l.getD j ByteArray.empty)) (bsOf k) ≤ 0 ↔ j < q)) : kidF k l = q := by
  have hle := kid_le (k := k) hs
  rcases Nat.lt_trichotomy (kidF k l) q with h1 | h1 | h1
  · have h2 := (h (kidF k l) (by omega)).2 h1
    have h3 := (kid_iff hs (kidF k l) (by omega)).1 h2
    omega
  · exact h1
  · have h2 := (kid_iff hs q (by omega)).2 h1
    have h3 := (h q (by omega)).1 h2
    omega
theorem srt_take {l : List ByteArray} (hs : srt l) (m : Nat) : srt (l.take m) := by
  intro i j hij hj
  simp at hj
  rw [getD_take _ _ _ _ (by omega), getD_take _ _ _ _ (by omega)]
  exact hs i j hij (by omega)
theorem srt_drop {l : List ByteArray} (hs : srt l) (m : Nat) : srt (l.drop m) := by
  intro i j hij hj
  simp at hj
  rw [getD_drop, getD_drop]
  exact hs (m + i) (m + j) (by omega) (by omega)
/-- A key that belongs to the left part. -/
theorem Btw.kid_left (h : Btw n m s) (r : Rt n) (k : ByteArray) (hk : cpl (bsOf k) (bsOf s) < 0) : kidF k (n.keys.take m) = kidF k n.keys ∧ kidF k n.keys ≤ m := by
  have hm := h.m2
  have hle : kidF k n.keys ≤ m := by
    rcases Nat.lt_or_ge m (kidF k n.keys) with h1 | h1
    · have h2 := (kid_iff r.srt m hm).2 h1
      have h3 := cpl_lt_le hk h.hi
      rw [cpl_neg] at h3
      omega
    · exact h1
  refine ⟨kid_uniq (srt_take r.srt m) _ (by simp; omega) (fun j hj => ?_), hle⟩
  simp at hj
  rw [getD_take _ _ _ _ (by omega)]
  exact kid_iff r.srt j (by omega)
theorem Btw.kid_rest (h : Btw n m s) (r : Rt n) (h0 : n.lev ≠ 0) (k : ByteArray) (hk : cpl (bsOf s) (bsOf k) ≤ 0) : kidF k n.keys = m + 1 + kidF k (n.keys.drop (m + 1)) := by
  have hm := h.m2
  have hle := kid_le (k := k) (srt_drop r.srt (m + 1))
  refine kid_uniq r.srt _ (by simp at hle; omega) (fun j hj => ?_)
  rcases Nat.lt_or_ge j (m + 1) with h1 | h1
  · constructor
    · intro _; omega
    · intro _
      rcases Nat.lt_or_ge j m with h2 | h2
      · have := cpl_lt_le (h.below r j h2) hk; omega
      · rw [show j = m by omega, ← h.eq h0]; exact hk
  · obtain ⟨i, rfl⟩ : ∃ i, j = m + 1 + i := ⟨j - (m + 1), by omega⟩
    have := kid_iff (k := k) (srt_drop r.srt (m + 1)) i (by simp; omega)
    rw [getD_drop] at this
    rw [this]
    omega
/-- Whether a key belongs further right than the left part. -/
theorem left_fth (h : Btw n m s) (k : ByteArray) (l : Nd) (hl : l.high = s) : fthB l k = decide (cpl (bsOf s) (bsOf k) ≤ 0) := by
  unfold fthB
  rw [hl, decide_eq_true (by have := h.s1; omega), Bool.true_and]
theorem lt_of_not_fth {k : ByteArray} (h : ¬ cpl (bsOf s) (bsOf k) ≤ 0) : cpl (bsOf k) (bsOf s) < 0 := by
  rw [cpl_neg]; omega
/-- What the left part has of a key of its own. -/
theorem Btw.get_left (h : Btw n m s) (r : Rt n) (k : ByteArray) (hk : cpl (bsOf k) (bsOf s) < 0) : plc (bsOf k) (n.keys.take m) = plc (bsOf k) n.keys ∨ ((plc (bsOf k) (n.keys.take m)).2 = false ∧ (plc (bsOf k) n.keys).2 = false) := by
  have hm := h.m2
  by_cases hx : ∃ j, j < n.keys.length ∧ bsOf (n.keys.getD j ByteArray.empty) = bsOf k
  · obtain ⟨j, hj, he⟩ := hx
    have hjm : j < m := by
      rcases Nat.lt_or_ge j m with h1 | h1
      · exact h1
      · have h2 := h.above r j h1 hj
        rw [he] at h2
        rw [cpl_neg] at hk
        omega
    left
    rw [plc_at r.srt j hj he, plc_at (srt_take r.srt m) j (by simp; omega) (by rw [getD_take _ _ _ _ hjm]; exact he)]
  · right
    refine ⟨plc_none (srt_take r.srt m) (fun j hj he => ?_), plc_none r.srt (fun j hj he => hx ⟨j, hj, he⟩)⟩
    simp at hj
    rw [getD_take _ _ _ _ (by omega)] at he
    exact hx ⟨j, by omega, he⟩
theorem Btw.get_none (h : Btw n m s) (r : Rt n) (k : ByteArray) (hk : cpl (bsOf k) (bsOf s) < 0) : (plc (bsOf k) (n.keys.drop m)).2 = false := by
  refine plc_none (srt_drop r.srt m) (fun j hj he => ?_)
  simp at hj
  rw [getD_drop] at he
  have h2 := h.above r (m + j) (by omega) (by omega)
  rw [he] at h2
  rw [cpl_neg] at hk
  omega
theorem Btw.get_rest (h : Btw n m s) (r : Rt n) (k : ByteArray) (hk : cpl (bsOf s) (bsOf k) ≤ 0) : (∃ j, (plc (bsOf k) (n.keys.drop m)) = (j, true) ∧ plc (bsOf k) n.keys = (m + j, true)) ∨ ((plc (bsOf k) (n.keys.drop m)).2 = false ∧ (plc (bsOf k) n.keys).2 = false) := by
  have hm := h.m2
  by_cases hx : ∃ j, j < n.keys.length ∧ bsOf (n.keys.getD j ByteArray.empty) = bsOf k
  · obtain ⟨j, hj, he⟩ := hx
    have hjm : m ≤ j := by
      rcases Nat.lt_or_ge j m with h1 | h1
      · have h2 := cpl_lt_le (h.below r j h1) hk
        rw [he, cpl_refl] at h2
        omega
      · exact h1
    left
    refine ⟨j - m, plc_at (srt_drop r.srt m) (j - m) (by simp; omega) (by rw [getD_drop, show m + (j - m) = j by omega]; exact he), ?_⟩
    rw [plc_at r.srt j hj he, show m + (j - m) = j by omega]
  · right
    refine ⟨plc_none (srt_drop r.srt m) (fun j hj he => ?_), plc_none r.srt (fun j hj he => hx ⟨j, hj, he⟩)⟩
    simp at hj
    rw [getD_drop] at he
    exact hx ⟨m + j, by omega, he⟩
end
end Go.Proofs.Ytaaedmacefiinaa

/- What both parts of a node tell of a key. -/
namespace Go.Proofs.Ytaaedmacefiinaa
open Go.RowKit

section
variable {n : Nd} {m : Nat} {s : ByteArray}
theorem left_high (rt : Int) : (leftN n s rt).high = s := rfl
theorem left_rgt (rt : Int) : (leftN n s rt).rgt = rt := rfl
theorem left_lev (rt : Int) : (leftN n s rt).lev = n.lev := rfl
theorem rest_high : (restN n s).high = n.high := rfl
theorem rest_rgt : (restN n s).rgt = n.rgt := rfl
theorem rest_lev : (restN n s).lev = n.lev := rfl
theorem Btw.left_len (h : Btw n m s) (r : Rt n) (rt : Int) : (leftN n s rt).keys.length = m := by
  have hm := h.m2
  show (List.drop 0 (List.take (Go.Proofs.Ytaaedmacefiinaa.parA n s) n.keys)).length = m
  rw [h.parA r]; simp; omega
theorem Btw.rest_len (h : Btw n m s) (r : Rt n) (h0 : n.lev = 0) : (restN n s).keys.length = n.keys.length - m := by
  rw [restN_leaf r h0 (h.parB_leaf r h0)]; simp
theorem rest_fth (k : ByteArray) : fthB (restN n s) k = fthB n k := rfl
theorem Btw.left_near (h : Btw n m s) (rt : Int) (k : ByteArray) (hk : ¬ cpl (bsOf s) (bsOf k) ≤ 0) : fthB (leftN n s rt) k = false := by
  rw [left_fth h k _ (left_high rt), decide_eq_false hk]
theorem Btw.left_far (h : Btw n m s) (rt : Int) (k : ByteArray) (hk : cpl (bsOf s) (bsOf k) ≤ 0) : fthB (leftN n s rt) k = true := by
  rw [left_fth h k _ (left_high rt), decide_eq_true hk]
theorem Btw.in_far {k : ByteArray} (h : Btw n m s) (r : Rt n) (k1 : 1 ≤ k.size) (k2 : k.size ≤ 16) (hf : fthB n k = false) (h0 : n.lev ≠ 0) (hk : cpl (bsOf s) (bsOf k) ≤ 0) : kidV (restN n s) k = kidV n k ∧ askE (restN n s) k 0 0 2 = 0 := by
  have ha : askE (restN n s) k 0 0 2 = 0 := ask_yes (h.rest_rt r) k1 k2 rfl (by rw [rest_lev]; omega) hf
  have hn : askE n k 0 0 2 = 0 := ask_yes r k1 k2 rfl (by omega) hf
  refine ⟨?_, ha⟩
  unfold kidV
  rw [if_pos ha, if_pos hn, restN_inner r h0 (h.parB_inner r h0)]
  simp only
  rw [getD_drop, h.kid_rest r h0 k hk]
theorem Btw.in_near {k : ByteArray} (h : Btw n m s) (r : Rt n) (k1 : 1 ≤ k.size) (k2 : k.size ≤ 16) (hf : fthB n k = false) (h0 : n.lev ≠ 0) (rt : Int) (h1 : 1 ≤ rt) (h2 : rt ≤ 4096) (hk : ¬ cpl (bsOf s) (bsOf k) ≤ 0) : kidV (leftN n s rt) k = kidV n k ∧ askE (leftN n s rt) k 0 0 2 = 0 := by
  have ha : askE (leftN n s rt) k 0 0 2 = 0 := ask_yes (h.left_rt r rt h1 h2) k1 k2 rfl (by rw [left_lev]; omega) (h.left_near rt k hk)
  have hn : askE n k 0 0 2 = 0 := ask_yes r k1 k2 rfl (by omega) hf
  obtain ⟨e1, e2⟩ := h.kid_left r k (lt_of_not_fth hk)
  refine ⟨?_, ha⟩
  unfold kidV
  rw [if_pos ha, if_pos hn, leftN_inner h0 rt (h.parA r)]
  simp only
  rw [e1, getD_take _ _ _ _ (by omega)]
theorem Btw.lf_ask {k : ByteArray} (h : Btw n m s) (r : Rt n) (k1 : 1 ≤ k.size) (k2 : k.size ≤ 16) (hf : fthB n k = false) (h0 : n.lev = 0) : askE (restN n s) k 0 0 1 = 0 := ask_yes (h.rest_rt r) k1 k2 rfl (by rw [rest_lev]; omega) hf
theorem Btw.lf_far {k : ByteArray} (h : Btw n m s) (r : Rt n) (k1 : 1 ≤ k.size) (k2 : k.size ≤ 16) (hf : fthB n k = false) (h0 : n.lev = 0) (hk : cpl (bsOf s) (bsOf k) ≤ 0) : getV (restN n s) k = getV n k ∧ getB (restN n s) k = getB n k := by
  have ha := h.lf_ask r k1 k2 hf h0
  have hn : askE n k 0 0 1 = 0 := ask_yes r k1 k2 rfl (by omega) hf
  unfold getV getB
  rw [if_pos ha, if_pos hn, if_pos ha, if_pos hn, restN_leaf r h0 (h.parB_leaf r h0)]
  simp only
  rcases h.get_rest r k hk with ⟨j, e1, e2⟩ | ⟨e1, e2⟩
  · rw [e1, e2, if_pos rfl, if_pos rfl]
    simp only
    rw [getD_drop]
    simp
  · rw [e1, e2, if_neg (by simp), if_neg (by simp)]
    simp
theorem Btw.lf_none {k : ByteArray} (h : Btw n m s) (r : Rt n) (k1 : 1 ≤ k.size) (k2 : k.size ≤ 16) (hf : fthB n k = false) (h0 : n.lev = 0) (hk : ¬ cpl (bsOf s) (bsOf k) ≤ 0) : getB (restN n s) k = false := by
  have ha := h.lf_ask r k1 k2 hf h0
  unfold getB
  rw [if_pos ha, restN_leaf r h0 (h.parB_leaf r h0)]
  exact h.get_none r k (lt_of_not_fth hk)
theorem Btw.lf_near {k : ByteArray} (h : Btw n m s) (r : Rt n) (k1 : 1 ≤ k.size) (k2 : k.size ≤ 16) (hf : fthB n k = false) (h0 : n.lev = 0) (rt : Int) (h1 : 1 ≤ rt) (h2 : rt ≤ 4096) (hk : ¬ cpl (bsOf s) (bsOf k) ≤ 0) : getV (leftN n s rt) k = getV n k ∧ getB (leftN n s rt) k = getB n k ∧ askE (leftN n s rt) k 0 0 1 = 0 := by
  have ha : askE (leftN n s rt) k 0 0 1 = 0 := ask_yes (h.left_rt r rt h1 h2) k1 k2 rfl (by rw [left_lev]; omega) (h.left_near rt k hk)
  have hn : askE n k 0 0 1 = 0 := ask_yes r k1 k2 rfl (by omega) hf
  have hm := h.m2
  unfold getV getB
  rw [if_pos ha, if_pos hn, if_pos ha, if_pos hn, leftN_leaf h0 rt (h.parA r)]
  simp only
  rcases h.get_left r k (lt_of_not_fth hk) with e | ⟨e1, e2⟩
  · rw [e]
    refine ⟨?_, rfl, ?_⟩
    · cases hp : (plc (bsOf k) n.keys).2
      · rw [if_neg (by simp), if_neg (by simp)]
      · rw [if_pos rfl, if_pos rfl]
        have hlt : (plc (bsOf k) (n.keys.take m)).1 < (n.keys.take m).length := plc_lt _ _ (by rw [e]; exact hp)
        rw [e] at hlt
        simp at hlt
        rw [getD_take _ _ _ _ (by omega)]
    · rw [leftN_leaf h0 rt (h.parA r)] at ha; exact ha
  · rw [e1, e2, if_neg (by simp), if_neg (by simp)]
    rw [leftN_leaf h0 rt (h.parA r)] at ha
    exact ⟨rfl, rfl, ha⟩
end
end Go.Proofs.Ytaaedmacefiinaa
