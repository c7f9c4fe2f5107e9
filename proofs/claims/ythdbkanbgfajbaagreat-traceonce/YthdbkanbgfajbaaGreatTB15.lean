
/- FdAns2, FdPlain, FdAgr. -/
import Derived.Test.YthdbkanbgfajbaaGreatTB13
import Derived.Laws.StructEq
import Derived.Deep.QuietTactic
import Derived.BigQuiet
/- Answer where it is refused, and the document's own Answer. -/
namespace Go.Proofs.YthdbkanbgfajbaaGreat
open Go.RowKit Go.Shelf

theorem kindB_lt {k : Int} : kindB k = false → k < 1 ∨ (¬ k < 1 ∧ 4 < k) := fun h => by unfold kindB at h; rw [decide_eq_false_iff_not] at h; omega
theorem kindB_in {k : Int} : kindB k = true → ¬ k < 1 ∧ ¬ 4 < k := fun h => by unfold kindB at h; rw [decide_eq_true_eq] at h; omega
end Go.Proofs.YthdbkanbgfajbaaGreat

/- The plain comparisons of rows and results that are the same. -/
namespace Go.Proofs.YthdbkanbgfajbaaGreat
open Go.RowKit Go.Shelf

theorem neq_ent (x y : ByteArray) (w : World) : (binOp .neq 107 (.agg #[.string x, .string y]) (.agg #[.string x, .string y])).run Tryz.prog w = .ok (.bool false) w := by
  have hf : Tryz.prog.stoodInHeld 107 = false := by kernel_rfl
  have hu : Tryz.prog.underlying 107 = some (.struct (Tryz.prog.fieldsOf 107)) := by kernel_rfl
  rw [run_neq_struct, run_equalIn_struct _ _ _ _ _ hu hf]
  simp [Op.eqFields, go_sem]
end Go.Proofs.YthdbkanbgfajbaaGreat

/- The mathematics of Agrees. -/
namespace Go.Proofs.YthdbkanbgfajbaaGreat
open Go.RowKit

theorem giv_filter (o : Opn) (L : List En) : givF o (L.filter (fun e => lookB o e.1)) = givF o L := by
  by_cases h : o.kind = 4
  · rw [givF_scan h, givF_scan h, List.filter_filter]
    simp
  · refine givF_fnd h ?_
    unfold fnd
    rw [List.find?_filter]
    congr 1
    funext e
    rw [look_key h]
    simp
/-- A write counts just if its key is looked at. -/
theorem filter_wth (o : Opn) {L : List En} (hr : Ris L) (r : Rec) : (wth L r).filter (fun e => lookB o e.1) = if lookB o r.key = true then wth (L.filter (fun e => lookB o e.1)) r else L.filter (fun e => lookB o e.1) := by
  have hr2 : Ris (L.filter (fun e => lookB o e.1)) := ris_filter hr _
  unfold wth
  split
  · rename_i hk
    refine ris_ext (ris_filter (ris_wth hr _) _) (ris_wth hr2 _) fun e => ?_
    rw [List.mem_filter, mem_wth hr, mem_wth hr2, List.mem_filter]
    constructor
    · rintro ⟨h1 | h1, h2⟩
      · exact .inl ⟨⟨h1.1, h2⟩, h1.2⟩
      · exact .inr h1
    · rintro (⟨⟨h1, h2⟩, h3⟩ | ⟨h1, rfl⟩)
      · exact ⟨.inl ⟨h1, h3⟩, h2⟩
      · exact ⟨.inr ⟨h1, rfl⟩, hk⟩
  · rename_i hk
    refine ris_ext (ris_filter (ris_wth hr _) _) hr2 fun e => ?_
    rw [List.mem_filter, mem_wth hr, List.mem_filter]
    constructor
    · rintro ⟨h1 | ⟨_, rfl⟩, h2⟩
      · exact ⟨h1.1, h2⟩
      · exact absurd h2 hk
    · rintro ⟨h1, h2⟩
      refine ⟨.inl ⟨h1, fun e' => hk ?_⟩, h2⟩
      rw [← e']; exact h2
/-- Whether the map behind the first n gives the result. -/
def atB (hs : List Rec) (o : Opn) (x : Rs) (n : Nat) : Bool := sameB (givF o (beh (hs.take n))) x
/-- What counts of the map behind the first n. -/
def fil (hs : List Rec) (o : Opn) (n : Nat) : List En := (beh (hs.take n)).filter (fun e => lookB o e.1)
theorem fil_zero (hs : List Rec) (o : Opn) : fil hs o 0 = [] := rfl
theorem fil_succ {hs : List Rec} {o : Opn} {n : Nat} {r : Rec} (h : hs[n]? = some r) : fil hs o (n + 1) = if lookB o r.key = true then wth (fil hs o n) r else fil hs o n := by
  unfold fil
  rw [take_snocH h, beh_snoc, filter_wth o (ris_beh _)]
theorem fil_look (hs : List Rec) (o : Opn) (n : Nat) : ∀ e ∈ fil hs o n, lookB o e.1 = true := fun _ he => (List.mem_filter.1 he).2
theorem fil_len (hs : List Rec) (o : Opn) (n : Nat) : (fil hs o n).length ≤ n := by
  have h1 := List.length_filter_le (fun e : En => lookB o e.1) (beh (hs.take n))
  have h2 := len_beh (hs.take n)
  have h3 : (hs.take n).length ≤ n := List.length_take_le _ _
  unfold fil
  omega
theorem atB_fil (hs : List Rec) (o : Opn) (x : Rs) (n : Nat) : sameB (givF o (fil hs o n)) x = atB hs o x n := by
  unfold atB fil
  rw [giv_filter]
theorem atB_same {hs : List Rec} {o : Opn} {x : Rs} {n : Nat} {r : Rec} (h : hs[n]? = some r) (hk : lookB o r.key = false) : atB hs o x (n + 1) = atB hs o x n := by
  rw [← atB_fil, ← atB_fil, fil_succ h, if_neg (by rw [hk]; simp)]
/-- The least beginning that agrees. -/
def agr (hs : List Rec) (o : Opn) (x : Rs) (from_ : Int) : Option Nat := if kindB o.kind = true then (List.range (hs.length + 1)).find? (fun n => decide (from_ ≤ n) && atB hs o x n) else none
theorem find_range_some {p : Nat → Bool} {m k : Nat} (hk : k < m) (hp : p k = true) (hn : ∀ j, j < k → p j = false) : (List.range m).find? p = some k := by
  rw [List.find?_range_eq_some]
  exact ⟨hp, List.mem_range.2 hk, fun j hj => by rw [hn j hj]; rfl⟩
theorem find_range_none {p : Nat → Bool} {m : Nat} (hn : ∀ j, j < m → p j = false) : (List.range m).find? p = none := by
  rw [List.find?_eq_none]
  intro j hj
  rw [hn j (List.mem_range.1 hj)]
  simp
theorem agr_at {hs : List Rec} {o : Opn} {x : Rs} {f : Int} {k : Nat} (ho : kindB o.kind = true) (hk : k ≤ hs.length) (hf : f ≤ k) (hp : atB hs o x k = true) (hn : ∀ j : Nat, j < k → f ≤ j → atB hs o x j = false) : agr hs o x f = some k := by
  unfold agr
  rw [if_pos ho]
  refine find_range_some (by omega) (by simp [hf, hp]) fun j hj => ?_
  by_cases h : f ≤ j
  · rw [hn j hj h]; simp
  · simp [h]
theorem agr_none {hs : List Rec} {o : Opn} {x : Rs} {f : Int} (ho : kindB o.kind = true) (hn : ∀ j : Nat, j ≤ hs.length → f ≤ j → atB hs o x j = false) : agr hs o x f = none := by
  unfold agr
  rw [if_pos ho]
  refine find_range_none fun j hj => ?_
  by_cases h : f ≤ j
  · rw [hn j (by omega) h]; simp
  · simp [h]
theorem agr_bad {hs : List Rec} {o : Opn} {x : Rs} {f : Int} (ho : kindB o.kind = false) : agr hs o x f = none := by
  unfold agr
  rw [if_neg (by rw [ho]; simp)]
end Go.Proofs.YthdbkanbgfajbaaGreat
