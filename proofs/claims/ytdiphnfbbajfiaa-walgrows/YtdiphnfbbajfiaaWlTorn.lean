
/- What is whole of a torn log, by plain lists. -/
import Derived.Test.YtdiphnfbbajfiaaYW2
import Derived.Test.YtdiphnfbbajfiaaYW3
namespace Go.Proofs.Ytdiphnfbbajfiaa
open Go.RowKit Crcm

/-- Where each record's frame ends. -/
def ends (ls : List Rec) : List Int := (List.range ls.length).map (fun i => ((lfr (ls.take (i + 1))).length : Int))
theorem ends_length (ls : List Rec) : (ends ls).length = ls.length := by unfold ends; simp
theorem ends_snoc (ls : List Rec) (x : Rec) : ends (ls ++ [x]) = ends ls ++ [((lfr (ls ++ [x])).length : Int)] := by
  unfold ends
  rw [List.length_append, List.length_singleton, List.range_succ, List.map_append]
  congr 1
  · refine List.map_congr_left (fun i hi => ?_)
    have : i < ls.length := List.mem_range.1 hi
    rw [List.take_append_of_le_length (by omega)]
  · simp only [List.map_cons, List.map_nil]
    rw [List.take_of_length_le (by simp)]
theorem ends_get (ls : List Rec) (i : Nat) (h : i < ls.length) : (ends ls)[i]? = some ((lfr (ls.take (i + 1))).length : Int) := by
  unfold ends; simp [h]
/-- Numbers as cells. -/
def numC (x : Int) : List Value := [.int .i64 x]
theorem numC_length (x : Int) : (numC x).length = 1 := rfl
theorem infoNum : (Try.prog.info? 3).map (fun i => (i.zero, i.size, i.bytes)) = some (some (.int .i64 0), 1, 8) := by kernel_rfl
theorem frF_all (l : List Rec) (h : l.length ≤ 100000) : frF l 1 100000 = l := by
  unfold frF
  rw [if_neg (by decide)]
  have : (max (1 : Int) 1 - 1).toNat = 0 := by decide
  rw [this, List.drop_zero]
  exact List.take_of_length_le h
theorem frF_first (l : List Rec) (k : Nat) : frF l 1 (k : Int) = l.take k := by
  unfold frF
  have h0 : (max (1 : Int) 1 - 1).toNat = 0 := by decide
  by_cases h : (k : Int) < 1
  · rw [if_pos h]
    have : k = 0 := by omega
    rw [this]; rfl
  · rw [if_neg h, h0, List.drop_zero, Int.toNat_natCast]
end Go.Proofs.Ytdiphnfbbajfiaa
