
/- What (*Log).Marks makes; plain comparisons of marks and of records. -/
import Derived.Test.YtimpoincnfiibaaShWlBytes
namespace Go.Proofs.Ytimpoincnfiibaa
open Go.RowKit Crcm

theorem infoMark : (Try.prog.info? 36).map (fun i => (i.zero, i.size, i.bytes)) = some (some (.agg #[.int .i64 0, .int .i64 0]), 2, 16) := by kernel_rfl
/-- A mark's cells. -/
def mkC (m : Int × Int) : List Value := [.int .i64 m.1, .int .i64 m.2]
theorem mkC_length (m : Int × Int) : (mkC m).length = 2 := rfl
theorem mkC_one (m : Int × Int) : ∀ u ∈ mkC m, u.oneCell' = true := by
  intro u hu
  simp only [mkC, List.mem_cons, List.not_mem_nil, or_false] at hu
  rcases hu with h | h <;> (subst h; rfl)
theorem mk_range {w : World} {b o : Nat} {m : Int × Int} (h : w.rangeAt b o (mkC m)) : w.cell? ⟨b, o, none⟩ = some (.int .i64 m.1) ∧ w.cell? ⟨b, o + 1, none⟩ = some (.int .i64 m.2) := ⟨h 0 _ rfl, h 1 _ rfl⟩
/-- One record more. -/
def mkS (ms : List (Int × Int)) (r : Rec) : List (Int × Int) := if ms = [] ∨ r.ep ≠ (ms.getLast?.getD (0, 0)).1 then ms ++ [(r.ep, r.lsn)] else ms
/-- The epochs, and where each begins. -/
def mks (ls : List Rec) : List (Int × Int) := ls.foldl mkS []
theorem mks_snoc (ls : List Rec) (r : Rec) : mks (ls ++ [r]) = mkS (mks ls) r := by unfold mks; rw [List.foldl_append]; rfl
theorem mks_nil : mks [] = [] := rfl
theorem mkS_ne (ms : List (Int × Int)) (r : Rec) : mkS ms r ≠ [] := by
  unfold mkS
  split
  · simp
  · rename_i h; exact fun e => h (.inl e)
theorem mks_empty {ls : List Rec} : mks ls = [] ↔ ls = [] := by
  constructor
  · intro h
    rcases List.eq_nil_or_concat ls with h0 | ⟨l, r, h0⟩
    · exact h0
    · rw [h0, List.concat_eq_append, mks_snoc] at h
      exact absurd h (mkS_ne _ _)
  · rintro rfl; rfl
theorem mkS_len (ms : List (Int × Int)) (r : Rec) : (mkS ms r).length ≤ ms.length + 1 := by
  unfold mkS; split <;> simp
theorem mks_len (ls : List Rec) : (mks ls).length ≤ ls.length := by
  have key : ∀ (l : List Rec) (ms : List (Int × Int)), (l.foldl mkS ms).length ≤ ms.length + l.length := by
    intro l
    induction l with
    | nil => intro ms; simp
    | cons r l ih => intro ms; rw [List.foldl_cons, List.length_cons]; have := ih (mkS ms r); have := mkS_len ms r; omega
  have := key ls []
  simpa [mks] using this

/-- A slice of marks as a walk sees it. -/
structure Mks (w : World) (a : Option Addr) (cap : Nat) (ms : List (Int × Int)) : Prop where
  le : ms.length ≤ cap
  max : cap ≤ 9223372036854775807
  at_ : ms = [] ∨ ∃ b off, a = some ⟨b, off, none⟩ ∧ b < w.heap.size ∧ ∀ (i : Nat) m, ms[i]? = some m → w.rangeAt b (off + i * 2) (mkC m)
theorem Mks.same {w w' : World} {a : Option Addr} {cap : Nat} {ms : List (Int × Int)} (h : Mks w a cap ms) (f : Fr (fun _ => False) w w') : Mks w' a cap ms := by
  refine ⟨h.le, h.max, ?_⟩
  rcases h.at_ with h0 | ⟨b, off, rfl, hb, hc⟩
  · exact .inl h0
  · exact .inr ⟨b, off, rfl, Nat.lt_of_lt_of_le hb f.size, fun i r hr => range_fr (hc i r hr) f (fun f => f)⟩
theorem Has.mks {w : World} {a : Option Addr} {n c : Nat} {ms : List (Int × Int)} (hn : n = ms.length) (h : Has w 2 (.slice a n c) n (ms.flatMap mkC)) : Mks w a c ms := by
  subst hn
  obtain ⟨a', c', he, h1, h2⟩ := h.slice
  simp only [Value.slice.injEq, true_and] at he
  obtain ⟨rfl, rfl⟩ := he
  refine ⟨h1, by unfold maxLen at h2; exact h2, ?_⟩
  by_cases h0 : ms.length = 0
  · exact .inl (List.length_eq_zero_iff.1 h0)
  · obtain ⟨g, cap, hv, hg, _⟩ := h.form (by omega)
    simp only [Value.slice.injEq, true_and] at hv
    obtain ⟨rfl, rfl⟩ := hv
    refine .inr ⟨g, 0, rfl, hg, fun i m hm => ?_⟩
    rw [Nat.zero_add]
    exact h.elem mkC_length hm
theorem Has.recs {w : World} {a : Option Addr} {n c : Nat} {ls : List Rec} (hn : n = ls.length) (h : Has w 8 (.slice a n c) n (ls.flatMap recC)) : Recs w a c ls := by
  subst hn
  obtain ⟨a', c', he, h1, h2⟩ := h.slice
  simp only [Value.slice.injEq, true_and] at he
  obtain ⟨rfl, rfl⟩ := he
  refine ⟨h1, by unfold maxLen at h2; exact h2, ?_⟩
  by_cases h0 : ls.length = 0
  · exact .inl (List.length_eq_zero_iff.1 h0)
  · obtain ⟨g, cap, hv, hg, _⟩ := h.form (by omega)
    simp only [Value.slice.injEq, true_and] at hv
    obtain ⟨rfl, rfl⟩ := hv
    refine .inr ⟨g, 0, rfl, hg, fun i m hm => ?_⟩
    rw [Nat.zero_add]
    exact h.elem recC_length hm

end Go.Proofs.Ytimpoincnfiibaa
