
/- Nodes: what they hold, how they lie in memory, which are right, and how large they are. -/
import Derived.Test.YtaaedmacefiinaaKRef
import Derived.Test.YtaaedmacefiinaaKStrs
namespace Go.Proofs.Ytaaedmacefiinaa
open Go.RowKit

/-- A node's parts. -/
structure Nd where
  lev : Int
  lsn : Int
  rgt : Int
  high : ByteArray
  keys : List ByteArray
  vals : List ByteArray
  kids : List Int
/-- Where a node's lists lie. -/
structure Pt where
  k : Option Addr
  kc : Nat
  v : Option Addr
  vc : Nat
  i : Option Addr
  ic : Nat
/-- A slice of numbers as a walk sees it. -/
structure Ints (w : World) (a : Option Addr) (cap : Nat) (l : List Int) : Prop where
  le : l.length ≤ cap
  max : cap ≤ 9223372036854775807
  at_ : l = [] ∨ ∃ b off, a = some ⟨b, off, none⟩ ∧ b < w.heap.size ∧ ∀ i, i < l.length → w.cell? ⟨b, off + i, none⟩ = some (.int .i64 (l.getD i 0))
theorem Ints.same {w w' : World} {a : Option Addr} {cap : Nat} {l : List Int} (h : Ints w a cap l) (f : Fr (fun _ => False) w w') : Ints w' a cap l := by
  refine ⟨h.le, h.max, ?_⟩
  rcases h.at_ with h0 | ⟨b, off, ha, hb, hc⟩
  · exact .inl h0
  · refine .inr ⟨b, off, ha, Nat.lt_of_lt_of_le hb f.size, fun i hi => ?_⟩
    rw [f.cell (p := ⟨b, off + i, none⟩) hb (fun f => f)]
    exact hc i hi
/-- A node in memory. -/
structure Nod (w : World) (n : Nd) (p : Pt) : Prop where
  keys : Strs w p.k p.kc n.keys
  vals : Strs w p.v p.vc n.vals
  kids : Ints w p.i p.ic n.kids
  high : n.high.size ≤ 140737488351232
  ksz : ∀ s ∈ n.keys, s.size ≤ 140737488351232
  vsz : ∀ s ∈ n.vals, s.size ≤ 140737488351232
  klen : n.keys.length ≤ 140737488351232
  vlen : n.vals.length ≤ 140737488351232
  ilen : n.kids.length ≤ 140737488351232
theorem Nod.same {w w' : World} {n : Nd} {p : Pt} (h : Nod w n p) (f : Fr (fun _ => False) w w') : Nod w' n p :=
  ⟨h.keys.same f, h.vals.same f, h.kids.same f, h.high, h.ksz, h.vsz, h.klen, h.vlen, h.ilen⟩

/-- How many bytes texts need. -/
def tsz (l : List ByteArray) : Nat := (l.map fun (s : ByteArray) => s.size + 2).sum
theorem tsz_snoc (l : List ByteArray) (k : Nat) (h : k < l.length) : tsz (l.take (k + 1)) = tsz (l.take k) + ((l.getD k ByteArray.empty).size + 2) := by
  rw [List.take_succ_eq_append_getElem h, List.getD_eq_getElem?_getD, List.getElem?_eq_getElem h]
  simp only [tsz, List.map_append, List.sum_append, List.map_cons, List.map_nil, List.sum_cons, List.sum_nil, Option.getD_some]; omega
theorem tsz_le (l : List ByteArray) (m : Nat) (h : ∀ s ∈ l, s.size ≤ m) : tsz l ≤ l.length * (m + 2) := by
  induction l with
  | nil => simp [tsz]
  | cons x r ih =>
    have h1 := h x (by simp)
    have h2 := ih (fun s hs => h s (by simp [hs]))
    have e : tsz (x :: r) = (x.size + 2) + tsz r := by simp [tsz]
    rw [e, List.length_cons, Nat.succ_mul]; omega
def sizeN (n : Nd) : Nat := 21 + n.high.size + tsz n.keys + (if n.lev = 0 then tsz n.vals else 4 * n.kids.length)
def wthB (x a b : Int) : Bool := decide (a ≤ x ∧ x ≤ b)
def headB (n : Nd) : Bool := wthB n.lev 0 20 && (wthB n.lsn 0 1099511627776 && (wthB n.rgt 0 4096 && decide (n.high.size ≤ 16)))
/-- A key in its place. -/
abbrev kok (hi : ByteArray) (l : List ByteArray) (i : Nat) : Prop :=
  (1 ≤ (l.getD i ByteArray.empty).size ∧ (l.getD i ByteArray.empty).size ≤ 16) ∧ (0 < i → cpl (bsOf (l.getD (i - 1) ByteArray.empty)) (bsOf (l.getD i ByteArray.empty)) < 0) ∧ (hi.size ≠ 0 → cpl (bsOf (l.getD i ByteArray.empty)) (bsOf hi) < 0)
def keysB (n : Nd) : Bool := decide (∀ i, i < n.keys.length → kok n.high n.keys i)
def valsB (l : List ByteArray) : Bool := decide (∀ i, i < l.length → (l.getD i ByteArray.empty).size ≤ 32)
def kidsB (l : List Int) : Bool := decide (∀ i, i < l.length → wthB (l.getD i 0) 1 4096 = true)
def entB (n : Nd) : Bool := if n.lev = 0 then (n.vals.length == n.keys.length) && ((n.kids.length == 0) && valsB n.vals) else (n.kids.length == n.keys.length + 1) && ((n.vals.length == 0) && kidsB n.kids)
/-- Whether a node is right. -/
def rightB (n : Nd) : Bool := headB n && (keysB n && (entB n && decide (sizeN n ≤ 256)))
theorem keysB_no {n : Nd} (i : Nat) (hi : i < n.keys.length) (h : ¬ kok n.high n.keys i) : keysB n = false := by
  unfold keysB; rw [decide_eq_false_iff_not]; exact fun f => h (f i hi)
theorem keysB_yes {n : Nd} (h : ∀ i, i < n.keys.length → kok n.high n.keys i) : keysB n = true := by unfold keysB; rw [decide_eq_true_eq]; exact h
theorem keysB_of {n : Nd} (h : keysB n = true) : ∀ i, i < n.keys.length → kok n.high n.keys i := by unfold keysB at h; rwa [decide_eq_true_eq] at h
theorem valsB_no {l : List ByteArray} (i : Nat) (hi : i < l.length) (h : ¬ (l.getD i ByteArray.empty).size ≤ 32) : valsB l = false := by
  unfold valsB; rw [decide_eq_false_iff_not]; exact fun f => h (f i hi)
theorem valsB_yes {l : List ByteArray} (h : ∀ i, i < l.length → (l.getD i ByteArray.empty).size ≤ 32) : valsB l = true := by unfold valsB; rw [decide_eq_true_eq]; exact h
theorem valsB_of {l : List ByteArray} (h : valsB l = true) : ∀ i, i < l.length → (l.getD i ByteArray.empty).size ≤ 32 := by unfold valsB at h; rwa [decide_eq_true_eq] at h
theorem kidsB_no {l : List Int} (i : Nat) (hi : i < l.length) (h : ¬ wthB (l.getD i 0) 1 4096 = true) : kidsB l = false := by
  unfold kidsB; rw [decide_eq_false_iff_not]; exact fun f => h (f i hi)
theorem kidsB_yes {l : List Int} (h : ∀ i, i < l.length → wthB (l.getD i 0) 1 4096 = true) : kidsB l = true := by unfold kidsB; rw [decide_eq_true_eq]; exact h
theorem kidsB_of {l : List Int} (h : kidsB l = true) : ∀ i, i < l.length → wthB (l.getD i 0) 1 4096 = true := by unfold kidsB at h; rwa [decide_eq_true_eq] at h
end Go.Proofs.Ytaaedmacefiinaa
