
/- KBet, KAbv, KPlc. -/
import Derived.Test.YtnckmajfmkkpgaaGreatBB2
import Derived.Lib.BufferWrite
import Derived.Lib.UnsafeStr
import Derived.Laws.MakeOwn
/- What strings.Clone and key.Between tell, and what the document's own Between tells. -/
namespace Go.Proofs.YtnckmajfmkkpgaaGreat
open Go.RowKit

theorem Fr.seq {a b c : World} (h : Fr (fun _ => False) a b) (k : Fr (fun _ => False) b c) : Fr (fun _ => False) a c := h.trans k (fun _ _ f => f)
end Go.Proofs.YtnckmajfmkkpgaaGreat

/- What key.Above tells, and what the document's own Above tells. -/
namespace Go.Proofs.YtnckmajfmkkpgaaGreat
open Go.RowKit

theorem bytes_cell (s : ByteArray) (c : Nat) (w : World) (t : TypeId) (fr : Nat × Nat) (j : Nat) (h : j < s.size) : (w.alloc (.cells (bytesRow s c) t fr)).cell? ⟨w.heap.size, j, none⟩ = some (.int .u8 ((bsOf s).getD j 0 : Nat)) := by
  rw [cell_of_row _ _ j _ t fr (heap_alloc_new w _)]
  unfold bytesRow
  rw [Array.getElem?_append_left (by simpa using h)]
  have h' : j < s.data.size := h
  rw [← bs_at s j h, Array.getElem?_map, Array.getElem?_eq_getElem h']
  rfl
theorem low_take (l : List Nat) (k : Nat) (h : k < l.length) : low (l.take (k + 1)) = if l.getD k 0 < 255 then k + 1 else low (l.take k) := by
  rw [take_snoc l k h, low_snoc]
  simp only [List.length_take, Nat.min_eq_left (Nat.le_of_lt h)]
/-- What Above tells. -/
def abv (s : ByteArray) : ByteArray := if low (bsOf s) = 0 then ⟨#[]⟩ else strOf (up (bsOf s))
def abvB (s : ByteArray) : Bool := decide (low (bsOf s) ≠ 0)
theorem abv_no {s : ByteArray} (h : low (bsOf s) = 0) : abv s = ⟨#[]⟩ ∧ abvB s = false := ⟨if_pos h, by simp [abvB, h]⟩
theorem abv_yes {s : ByteArray} (h : low (bsOf s) ≠ 0) : abv s = strOf (up (bsOf s)) ∧ abvB s = true := ⟨if_neg h, by simp [abvB, h]⟩
theorem ret_sb {a b : ByteArray} {x y : Bool} (h : a = b ∧ x = y) : Ending.returned (.tuple #[.string a, .bool x]) = .returned (.tuple #[.string b, .bool y]) := by rw [h.1, h.2]

/-- What '[]byte(..)' of a text's beginning lays. -/
theorem bytes_of (s : ByteArray) (p : Nat) (hs : s.size ≤ 140737488351232) (hp : p < s.size) (w : World) : ∃ cap C fr, (convert 9 124 (.string (s.extract 0 (p + 1)))).run Tryz.prog w = .ok (.slice (some ⟨w.heap.size, 0, none⟩) (p + 1) cap) (w.drew.alloc (.cells C 5 fr)) ∧
    p + 1 ≤ C.size ∧ p + 1 ≤ cap ∧ cap ≤ maxLen ∧ C.size < fr.1 + 1 ∧ fr.1 ≤ fr.2 ∧ ∀ j, j < p + 1 → C[j]? = some (.int .u8 ((bsOf s).getD j 0 : Nat)) := by
  have h := run_bytes_of_string (P := Tryz.prog) w 9 124 5 (s.extract 0 (p + 1)) Tryz.underlying9 Tryz.underlying124 Tryz.underlying5
  have hz : (s.extract 0 (p + 1)).size = p + 1 := by simp [ByteArray.size_extract]; omega
  rw [hz] at h
  have hC : ∀ c, p + 1 ≤ (bytesRow (s.extract 0 (p + 1)) c).size := fun c => by
    have : (s.extract 0 (p + 1)).data.size = p + 1 := hz
    simp only [bytesRow, Array.size_append, Array.size_map, this]; omega
  refine ⟨_, _, _, h, hC _, ?_, grownCap_le_maxLen _ _ _ _ (by unfold maxLen; omega), by simp, by simp, fun j hj => ?_⟩
  · exact grownCap_ge _ _ _ _
  · unfold bytesRow
    have hz' : (s.extract 0 (p + 1)).data.size = p + 1 := hz
    rw [Array.getElem?_append_left (by simp only [Array.size_map, hz']; exact hj), Array.getElem?_map, Array.getElem?_eq_getElem (by rw [hz']; exact hj)]
    have := bs_at (s.extract 0 (p + 1)) j (by rw [hz]; exact hj)
    rw [bs_extract] at this
    have e : ((bsOf s).take (p + 1)).getD j 0 = (bsOf s).getD j 0 := by
      rw [List.getD_eq_getElem?_getD, List.getD_eq_getElem?_getD, List.getElem?_take, if_pos hj]
    rw [e] at this
    rw [← this]; rfl

theorem row_one (w : World) (x : Nat) (z : Int) (hx : x < 256) (hz : z = (x : Int)) : Row (w.alloc (.cells #[.int .u8 z] 5)) (some ⟨w.heap.size, 0, none⟩) 1 [x] := by
  subst hz
  refine ⟨by simp, by omega, by simp, (fun y hy => by simp at hy; omega), .inr ⟨w.heap.size, 0, rfl, by simp, fun i hi => ?_⟩⟩
  have : i = 0 := by simpa using hi
  subst this
  simp
theorem up_at (l : List Nat) (k : Nat) (h : low l = k + 1) : up l = l.take k ++ [l.getD k 0 + 1] := by unfold up; rw [h]; rfl

end Go.Proofs.YtnckmajfmkkpgaaGreat

/- What key.Place tells, and what the document's own Place tells; that key speaks. -/
namespace Go.Proofs.YtnckmajfmkkpgaaGreat
open Go.RowKit

/-- Where a text stands in a list. -/
def plc (k : List Nat) : List ByteArray → Nat × Bool
  | [] => (0, false)
  | x :: r => if 0 ≤ cpl (bsOf x) k then (0, decide (bsOf x = k)) else ((plc k r).1 + 1, (plc k r).2)
theorem plc_hit (k : List Nat) (l : List ByteArray) (i : Nat) (hi : i < l.length) (he : ∀ j, j < i → cpl (bsOf (l.getD j ByteArray.empty)) k < 0) (h : 0 ≤ cpl (bsOf (l.getD i ByteArray.empty)) k) : plc k l = (i, decide (bsOf (l.getD i ByteArray.empty) = k)) := by
  induction l generalizing i with
  | nil => simp at hi
  | cons x r ih => cases i with
    | zero => simp at h; simp [plc, h]
    | succ i =>
      have h0 := he 0 (by omega)
      simp at h0
      have := ih i (by simpa using hi) (fun j hj => by have := he (j + 1) (by omega); simpa using this) (by simpa using h)
      simp only [plc]
      rw [if_neg (by omega), this]
      simp
theorem plc_miss (k : List Nat) (l : List ByteArray) (he : ∀ j, j < l.length → cpl (bsOf (l.getD j ByteArray.empty)) k < 0) : plc k l = (l.length, false) := by
  induction l with
  | nil => rfl
  | cons x r ih =>
    have h0 := he 0 (by simp)
    simp at h0
    simp only [plc]
    rw [if_neg (by omega), ih (fun j hj => by have := he (j + 1) (by simpa using hj); simpa using this)]
    simp
theorem ret_ib {a b : Int} {x y : Bool} (h : a = b) (k : x = y) : Ending.returned (.tuple #[.int .i64 a, .bool x]) = .returned (.tuple #[.int .i64 b, .bool y]) := by rw [h, k]
theorem cpl_beq (a b : List Nat) : (cpl a b == 0) = decide (a = b) := by
  have := cpl_eq a b
  rw [Bool.eq_iff_iff]; simp [this]
theorem str_beq (a b : ByteArray) : (a.toList == b.toList) = decide (bsOf a = bsOf b) := by
  rw [Bool.eq_iff_iff]
  simp only [beq_iff_eq, decide_eq_true_eq]
  rw [Lib.toList_data, Lib.toList_data]
  constructor
  · intro h; unfold bsOf; rw [h]
  · intro h; rw [bs_inj h]

set_option maxRecDepth 100000 in
set_option maxHeartbeats 1000000 in
theorem place_any (a : Option Addr) (n cap : Nat) (l : List ByteArray) (hn : n = l.length) (k : ByteArray) (hk : k.size ≤ maxLen) (w : World) (hr : Strs w a cap l) :
    Calls Tryz.prog 95 #[.slice a n cap, .string k] w fun e w' => e = .returned (.tuple #[.int .i64 ((plc (bsOf k) l).1 : Nat), .bool (plc (bsOf k) l).2]) ∧ Fr (fun _ => False) w w' := by
  subst hn
  have hle := hr.le
  have hmx := hr.max
  rcases hr.at_ with h0 | ⟨b, off, rfl, hb, hc⟩
  · subst h0
    go_enter Tryz.func95, Tryz.ntmps95
    go_wp2
    refine wp_loop_rounds 1 ?_
    rw [rounds_succ]
    go_wp2
    go_ret2
    exact ⟨rfl, Fr.refl _ _⟩
  · go_enter Tryz.func95, Tryz.ntmps95
    go_wp2
    go_loopw [11] (fun i wr => ∃ j : Nat, j ≤ l.length ∧ i = .int .i64 j ∧ Hid (∀ x, x < j → cpl (bsOf (l.getD x ByteArray.empty)) (bsOf k) < 0) ∧ Fr (fun _ => False) w wr) (fun i _ => l.length - (intOf i).toNat)
    case atStart => exact ⟨0, by omega, rfl, (fun j h => by omega), Fr.refl _ _⟩
    case round =>
      obtain ⟨j, hj, rfl, HE, hf⟩ := hrel
      by_cases hlt : j < l.length
      · have hcell := (hf.cell (p := ⟨b, off + j, none⟩) hb (fun f => f)).trans (hc j hlt)
        have hsz := hr.text _ (strs_get hlt)
        have HH : Hid (0 ≤ cpl (bsOf (l.getD j ByteArray.empty)) (bsOf k) → plc (bsOf k) l = (j, decide (bsOf (l.getD j ByteArray.empty) = bsOf k))) := fun h => plc_hit (bsOf k) l j hlt HE.out h
        obtain ⟨s, hs⟩ : ∃ s, s = l.getD j ByteArray.empty := ⟨_, rfl⟩
        have HS : Hid (s = l.getD j ByteArray.empty) := hs
        rw [← hs] at hcell hsz HH
        clear hs
        go_wp2_with fail
        refine (compare_any s k hsz hk _).mono ?_
        rintro e w1 ⟨rfl, hf1⟩
        go_wp2
        · have h : 0 ≤ cpl (bsOf s) (bsOf k) := by assumption
          go_ret2
          exact ⟨ret_ib (by rw [HH.out h]) (by rw [HH.out h, cpl_beq]), hf.seq hf1⟩
        · have h : ¬ 0 ≤ cpl (bsOf s) (bsOf k) := by first | assumption | (have : cpl (bsOf s) (bsOf k) < 0 := by assumption); omega
          go_roundw
          case rel =>
            refine ⟨j + 1, by omega, by go_num, fun x hx => ?_, hf.seq hf1⟩
            rcases Nat.lt_or_ge x j with h2 | h2
            · exact HE.out x h2
            · have e : x = j := by omega
              rw [e, ← HS.out]; omega
          case measure => simp [intOf]; omega
      · have e : j = l.length := by omega
        subst e
        go_wp2
        go_ret2
        exact ⟨ret_ib (by rw [plc_miss (bsOf k) l HE.out]) (by rw [plc_miss (bsOf k) l HE.out]), hf⟩
end Go.Proofs.YtnckmajfmkkpgaaGreat
