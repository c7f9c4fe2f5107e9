
/- The history of records, on both sides. -/
import Derived.Test.YtdlnflcjodpkiaaGreatFdPure
namespace Go.Proofs.YtdlnflcjodpkiaaGreat
open Go.RowKit

theorem infoRec : (Tryz.prog.info? 53).map (fun i => (i.zero, i.size, i.bytes)) = some (some (.agg #[.int .i64 0, .int .i64 0, .int .i64 0, .int .i64 0, .int .i64 0, .int .i64 0, .string ⟨#[]⟩, .string ⟨#[]⟩]), 8, 80) := by kernel_rfl
theorem take_snocH {α : Type} {l : List α} {k : Nat} {r : α} (h : l[k]? = some r) : l.take (k + 1) = l.take k ++ [r] := by
  rw [List.take_add_one, h]; rfl
theorem hist_yes {ls : List Rec} {k : Nat} {r : Rec} (h : ls[k]? = some r) (hc : comB r = true) : hist (ls.take (k + 1)) = hist (ls.take k) ++ [r] := by
  unfold hist; rw [take_snocH h, List.filter_append, List.filter_cons_of_pos (by simpa using hc)]; rfl
theorem hist_no {ls : List Rec} {k : Nat} {r : Rec} (h : ls[k]? = some r) (hc : comB r = false) : hist (ls.take (k + 1)) = hist (ls.take k) := by
  unfold hist; rw [take_snocH h, List.filter_append, List.filter_cons_of_neg (by simp [hc])]; simp
theorem hist_len (ls : List Rec) : (hist ls).length ≤ ls.length := List.length_filter_le _ _
theorem comB_kind {r : Rec} (h : r.kind ≠ 7) : comB r = false := by unfold comB; simp [h]
theorem Recs.of {w : World} {v : Value} {ls : List Rec} (h : Has w 8 v ls.length (ls.flatMap recC)) : ∃ a c, v = .slice a ls.length c ∧ Recs w a c ls := by
  obtain ⟨a, c, rfl, h1, h2⟩ := h.slice
  refine ⟨a, c, rfl, h1, by unfold maxLen at h2; omega, ?_⟩
  by_cases h0 : ls.length = 0
  · exact .inl (List.eq_nil_of_length_eq_zero h0)
  · obtain ⟨g, cap, hv, hg, _⟩ := h.form (by omega)
    simp only [Value.slice.injEq, true_and] at hv
    obtain ⟨rfl, rfl⟩ := hv
    refine .inr ⟨g, 0, rfl, hg, fun i e he => ?_⟩
    have hr := h.elem recC_length he
    rw [Nat.zero_add]
    exact hr
set_option maxRecDepth 100000 in
set_option maxHeartbeats 2000000 in
/-- record.Check of a commit. -/
theorem check7 (lsn ep page other req : Int) (key val : ByteArray) (w : World) : Calls Tryz.prog 75 #[.agg #[.int .i64 lsn, .int .i64 ep, .int .i64 7, .int .i64 page, .int .i64 other, .int .i64 req, .string key, .string val]] w fun e w' => e = .returned (.int .i64 (if comB ⟨lsn, ep, 7, page, other, req, key, val⟩ = true then 0 else 90)) ∧ Fr (fun _ => False) w w' := by
  have hs := suits_commit lsn ep page other req key val
  have HR : Hid (comB ⟨lsn, ep, 7, page, other, req, key, val⟩ = (wthB lsn 1 1099511627776 && (wthB ep 0 1099511627776 && ((page == 0) && (((other == 1 && valB val) || (other == 2 && emp val)) && (wthB req 1 1099511627776 && keyB key)))))) := by show _ = _; unfold comB; simp
  rw [HR.out]
  clear HR
  generalize ((page == 0) && (((other == 1 && valB val) || (other == 2 && emp val)) && (wthB req 1 1099511627776 && keyB key))) = b at *
  go_enter Tryz.func75, Tryz.ntmps75
  go_wp2_with (first | (go_at_call 96; refine (rwithin_any _ _ _ _).mono ?_; rintro e w' ⟨rfl, rfl⟩) | (go_at_call 97; refine (hs _).mono ?_; rintro e w9 ⟨rfl, f9⟩))
  all_goals go_ret
  all_goals refine ⟨ret_int ?_, by first | exact Fr.box w _ | exact (Fr.box w _).seq' f9⟩
  all_goals simp_all
/-- latticeref09.Right of a commit. -/
theorem right7 (lsn ep page other req : Int) (key val : ByteArray) (w : World) : Calls Tryz.prog 45 #[.agg #[.int .i64 lsn, .int .i64 ep, .int .i64 7, .int .i64 page, .int .i64 other, .int .i64 req, .string key, .string val]] w fun e w' => e = .returned (.bool (comB ⟨lsn, ep, 7, page, other, req, key, val⟩)) ∧ Fr (fun _ => False) w w' := by
  have HR : comB ⟨lsn, ep, 7, page, other, req, key, val⟩ = (wthB lsn 1 1099511627776 && (wthB ep 0 1099511627776 && ((page == 0) && (((other == 1 && valB val) || (other == 2 && emp val)) && (wthB req 1 1099511627776 && keyB key))))) := by unfold comB; simp
  rw [HR]
  by_cases h : wthB lsn 1 1099511627776 = false ∨ wthB ep 0 1099511627776 = false
  · have e : (wthB lsn 1 1099511627776 && (wthB ep 0 1099511627776 && ((page == 0) && (((other == 1 && valB val) || (other == 2 && emp val)) && (wthB req 1 1099511627776 && keyB key))))) = false := by rcases h with h | h <;> simp [h]
    rw [e]
    exact right_bad lsn ep 7 page other req key val h w
  · have h1 : wthB lsn 1 1099511627776 = true := by cases hq : wthB lsn 1 1099511627776 with | true => rfl | false => exact absurd (.inl hq) h
    have h2 : wthB ep 0 1099511627776 = true := by cases hq : wthB ep 0 1099511627776 with | true => rfl | false => exact absurd (.inr hq) h
    rw [h1, h2]
    exact right_commit lsn ep page other req key val h1 h2 w
/-- What a call leaves that answers a list of records of its own. -/
def RcOut (w : World) (ls : List Rec) (e : Ending) (w' : World) : Prop := ∃ a c, e = .returned (.slice a ls.length c) ∧ Recs w' a c ls ∧ (∀ g, (Value.slice a ls.length c).ownBlock = some g → w.heap.size ≤ g) ∧ Fr (fun _ => False) w w'
end Go.Proofs.YtdlnflcjodpkiaaGreat
