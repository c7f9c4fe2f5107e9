
/- NdSort, NdGet, NdSplit. -/
import Derived.Test.YtimpoincnfiibaaSB18
import Derived.Test.YtimpoincnfiibaaSB14
/- Lists of keys that rise: where a key stands in them. -/
namespace Go.Proofs.Ytimpoincnfiibaa
open Go.RowKit

theorem cpl_lt_trans {a b c : List Nat} (h1 : cpl a b < 0) (h2 : cpl b c < 0) : cpl a c < 0 := by
  have h := cpl_trans a b c (by omega) (by omega)
  rcases Int.lt_or_eq_of_le h with h3 | h3
  · exact h3
  · have e := (cpl_eq a c).1 h3
    rw [e] at h1
    rw [cpl_neg c b] at h2
    omega
theorem cpl_le_lt {a b c : List Nat} (h1 : cpl a b ≤ 0) (h2 : cpl b c < 0) : cpl a c < 0 := by
  rcases Int.lt_or_eq_of_le h1 with h | h
  · exact cpl_lt_trans h h2
  · rw [(cpl_eq a b).1 h]; exact h2
theorem cpl_lt_le {a b c : List Nat} (h1 : cpl a b < 0) (h2 : cpl b c ≤ 0) : cpl a c < 0 := by
  rcases Int.lt_or_eq_of_le h2 with h | h
  · exact cpl_lt_trans h1 h
  · rw [← (cpl_eq b c).1 h]; exact h1
theorem cpl_pos {a b : List Nat} : 0 < cpl a b ↔ cpl b a < 0 := by rw [cpl_neg b a]; omega
/-- Keys that rise. -/
def srt (l : List ByteArray) : Prop := ∀ i j, i < j → j < l.length → cpl (bsOf (l.getD i ByteArray.empty)) (bsOf (l.getD j ByteArray.empty)) < 0
theorem srt_of {l : List ByteArray} (h : ∀ i, i < l.length → 0 < i → cpl (bsOf (l.getD (i - 1) ByteArray.empty)) (bsOf (l.getD i ByteArray.empty)) < 0) : srt l := by
  intro i j hij
  induction j with
  | zero => omega
  | succ j ih =>
    intro hj
    have h1 := h (j + 1) hj (by omega)
    rw [show j + 1 - 1 = j by omega] at h1
    rcases Nat.lt_or_ge i j with h2 | h2
    · exact cpl_lt_trans (ih h2 (by omega)) h1
    · rw [show i = j by omega]; exact h1
theorem Rt.srt {n : Nd} (h : Rt n) : srt n.keys := srt_of (fun i hi h0 => (h.keys i hi).2.1 h0)
/-- Where a key stands. -/
structure Pl (k : List Nat) (l : List ByteArray) (i : Nat) (f : Bool) : Prop where
  le : i ≤ l.length
  lt : ∀ j, j < i → cpl (bsOf (l.getD j ByteArray.empty)) k < 0
  eq : f = true → i < l.length ∧ bsOf (l.getD i ByteArray.empty) = k
  ge : ∀ j, i ≤ j → j < l.length → (f = false ∨ i < j) → 0 < cpl (bsOf (l.getD j ByteArray.empty)) k
theorem plc_pl {k : List Nat} {l : List ByteArray} (hs : srt l) : Pl k l (plc k l).1 (plc k l).2 := by
  by_cases h : ∃ i, i < l.length ∧ 0 ≤ cpl (bsOf (l.getD i ByteArray.empty)) k
  · have hm : ∃ i, (i < l.length ∧ 0 ≤ cpl (bsOf (l.getD i ByteArray.empty)) k) ∧ ∀ j, j < i → ¬ (j < l.length ∧ 0 ≤ cpl (bsOf (l.getD j ByteArray.empty)) k) := by
      obtain ⟨i0, h0⟩ := h
      induction i0 using Nat.strongRecOn with
      | ind i0 ih =>
        by_cases h1 : ∃ j, j < i0 ∧ (j < l.length ∧ 0 ≤ cpl (bsOf (l.getD j ByteArray.empty)) k)
        · obtain ⟨j, hj, h2⟩ := h1
          exact ih j hj h2
        · exact ⟨i0, h0, fun j hj h2 => h1 ⟨j, hj, h2⟩⟩
    obtain ⟨i, ⟨hi, hge⟩, hmin⟩ := hm
    have hlt : ∀ j, j < i → cpl (bsOf (l.getD j ByteArray.empty)) k < 0 := fun j hj => by
      have := hmin j hj
      rcases Int.lt_or_le (cpl (bsOf (l.getD j ByteArray.empty)) k) 0 with h3 | h3
      · exact h3
      · exact absurd ⟨by omega, h3⟩ this
    rw [plc_hit k l i hi hlt hge]
    refine ⟨by simp only; omega, hlt, fun h => ⟨hi, by simpa using h⟩, fun j h1 h2 h3 => ?_⟩
    simp only at h1 h3
    rcases Nat.lt_or_ge i j with h4 | h4
    · have h5 := hs i j h4 h2
      rw [cpl_pos]
      have h6 : cpl k (bsOf (l.getD i ByteArray.empty)) ≤ 0 := by rw [cpl_neg]; omega
      exact cpl_le_lt h6 h5
    · have e : i = j := by omega
      subst e
      rcases h3 with h3 | h3
      · have h7 : bsOf (l.getD i ByteArray.empty) ≠ k := by simpa using h3
        rcases Int.lt_or_eq_of_le hge with h8 | h8
        · exact h8
        · exact absurd ((cpl_eq _ _).1 h8.symm) h7
      · omega
  · have hall : ∀ j, j < l.length → cpl (bsOf (l.getD j ByteArray.empty)) k < 0 := fun j hj => by
      rcases Int.lt_or_le (cpl (bsOf (l.getD j ByteArray.empty)) k) 0 with h3 | h3
      · exact h3
      · exact absurd ⟨j, hj, h3⟩ h
    rw [plc_miss k l hall]
    refine ⟨Nat.le_refl _, hall, ?_, ?_⟩
    · intro h; cases h
    · intro j h1 h2 _; simp only at h1; omega
/-- Of the keys up to where the kid of a key stands. -/
def kidF (k : ByteArray) (l : List ByteArray) : Nat := (plc (bsOf k) l).1 + (if (plc (bsOf k) l).2 = true then 1 else 0)
theorem kid_le {k : ByteArray} {l : List ByteArray} (hs : srt l) : kidF k l ≤ l.length := by
  have h := plc_pl (k := bsOf k) hs
  unfold kidF
  split
  · rename_i e
    have := (h.eq e).1
    omega
  · have := h.le; omega
theorem kid_iff {k : ByteArray} {l : List ByteArray} (hs : srt l) (j : Nat) (hj : j < l.length) : cpl (bsOf (l.getD j ByteArray.empty)) (bsOf k) ≤ 0 ↔ j < kidF k l := by
  have h := plc_pl (k := bsOf k) hs
  unfold kidF
  cases hf : (plc (bsOf k) l).2
  · rw [if_neg (by simp), Nat.add_zero]
    rw [hf] at h
    constructor
    · intro h1
      rcases Nat.lt_or_ge j (plc (bsOf k) l).1 with h2 | h2
      · exact h2
      · have := h.ge j h2 hj (.inl rfl); omega
    · intro h1
      have := h.lt j h1; omega
  · rw [if_pos rfl]
    rw [hf] at h
    constructor
    · intro h1
      rcases Nat.lt_or_ge j ((plc (bsOf k) l).1 + 1) with h2 | h2
      · exact h2
      · have := h.ge j (by omega) hj (.inr (by omega)); omega
    · intro h1
      rcases Nat.lt_or_ge j (plc (bsOf k) l).1 with h2 | h2
      · have := h.lt j h2; omega
      · have e : j = (plc (bsOf k) l).1 := by omega
        rw [e, (h.eq rfl).2, cpl_refl]; omega
/-- A key that stands at j is found there. -/
theorem plc_at {k : ByteArray} {l : List ByteArray} (hs : srt l) (j : Nat) (hj : j < l.length) (he : bsOf (l.getD j ByteArray.empty) = bsOf k) : plc (bsOf k) l = (j, true) := by
  have := plc_hit (bsOf k) l j hj (fun i hi => by rw [← he]; exact hs i j hi hj) (by rw [he, cpl_refl]; omega)
  rw [this, he]
  simp
theorem plc_none {k : ByteArray} {l : List ByteArray} (hs : srt l) (h : ∀ j, j < l.length → bsOf (l.getD j ByteArray.empty) ≠ bsOf k) : (plc (bsOf k) l).2 = false := by
  cases hf : (plc (bsOf k) l).2
  · rfl
  · have := (plc_pl (k := bsOf k) hs).eq hf
    exact absurd this.2 (h _ this.1)
end Go.Proofs.Ytimpoincnfiibaa

/- What Get and Kid tell, and what the document's own tell. -/
namespace Go.Proofs.Ytimpoincnfiibaa
open Go.RowKit

/-- What Get tells. -/
def getV (n : Nd) (k : ByteArray) : ByteArray := if askE n k 0 0 1 = 0 then (if (plc (bsOf k) n.keys).2 = true then n.vals.getD (plc (bsOf k) n.keys).1 ByteArray.empty else ⟨#[]⟩) else ⟨#[]⟩
def getB (n : Nd) (k : ByteArray) : Bool := if askE n k 0 0 1 = 0 then (plc (bsOf k) n.keys).2 else false
/-- What Kid tells. -/
def kidV (n : Nd) (k : ByteArray) : Int := if askE n k 0 0 2 = 0 then n.kids.getD (kidF k n.keys) 0 else 0
theorem ask1_leaf {n : Nd} {k : ByteArray} {ev en : Int} (h : askE n k ev en 1 = 0) : n.lev = 0 := by
  have := (ask_ok h).2.2.2.2.1
  rcases Decidable.em (n.lev = 0) with e | e
  · exact e
  · exact absurd (.inl ⟨rfl, e⟩) this
theorem ask2_inner {n : Nd} {k : ByteArray} {ev en : Int} (h : askE n k ev en 2 = 0) : n.lev ≠ 0 := fun e => (ask_ok h).2.2.2.2.1 (.inr ⟨rfl, e⟩)
theorem ret3 {a b : ByteArray} {x y : Bool} {e f : Int} (h : a = b) (k : x = y) (g : e = f) : Ending.returned (.tuple #[.string a, .bool x, .int .i64 e]) = .returned (.tuple #[.string b, .bool y, .int .i64 f]) := by rw [h, k, g]
theorem ret_ii {a b : Int} {x y : Int} (h : a = b) (k : x = y) : Ending.returned (.tuple #[.int .i64 a, .int .i64 x]) = .returned (.tuple #[.int .i64 b, .int .i64 y]) := by rw [h, k]
theorem high_le {w : World} {n : Nd} {p : Pt} (h : Nod w n p) : n.high.size ≤ maxLen := Nat.le_trans h.high (by decide)

end Go.Proofs.Ytimpoincnfiibaa

/- Where a node is parted: what Split tells. -/
namespace Go.Proofs.Ytimpoincnfiibaa
open Go.RowKit

/-- An entry's size, and that of the first entries. -/
def esz (n : Nd) (i : Nat) : Nat := if n.lev = 0 then 4 + (n.keys.getD i ByteArray.empty).size + (n.vals.getD i ByteArray.empty).size else 6 + (n.keys.getD i ByteArray.empty).size
def pre (n : Nd) : Nat → Nat
  | 0 => 0
  | j + 1 => pre n j + esz n j
theorem esz_le {n : Nd} (r : Rt n) (i : Nat) (hi : i < n.keys.length) : esz n i ≤ 52 := by
  unfold esz
  have hk := (r.keys i hi).1.2
  split
  · rename_i h
    have hv := (r.leaf h).2.2 i (by rw [(r.leaf h).1]; exact hi)
    omega
  · omega
theorem pre_le {n : Nd} (r : Rt n) (j : Nat) (hj : j ≤ n.keys.length) : pre n j ≤ 52 * j := by
  induction j with
  | zero => simp [pre]
  | succ j ih =>
    have := ih (by omega)
    have := esz_le r j (by omega)
    simp only [pre]; omega
/-- Where a node is parted. -/
structure Mid (n : Nd) (m : Nat) : Prop where
  lo : 1 ≤ m
  hi : m + 1 ≤ n.keys.length
  half : m + 1 = n.keys.length ∨ pre n n.keys.length ≤ 2 * pre n m
  least : ∀ i, 1 ≤ i → i < m → 2 * pre n i < pre n n.keys.length
theorem Mid.one {n : Nd} {a b : Nat} (ha : Mid n a) (hb : Mid n b) : a = b := by
  rcases Nat.lt_trichotomy a b with h | h | h
  · have := hb.least a ha.lo h
    rcases ha.half with h1 | h1
    · have := hb.hi; omega
    · omega
  · exact h
  · have := ha.least b hb.lo h
    rcases hb.half with h1 | h1
    · have := ha.hi; omega
    · omega
end Go.Proofs.Ytimpoincnfiibaa
