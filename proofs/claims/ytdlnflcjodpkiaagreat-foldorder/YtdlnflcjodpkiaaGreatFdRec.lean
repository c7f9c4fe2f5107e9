
/- Records that are commits, and lists of records. -/
import Derived.Test.YtdlnflcjodpkiaaGreatFdKit
import Derived.Test.YtdlnflcjodpkiaaGreatArgs
import Derived.Deep.Strs
namespace Go.Proofs.YtdlnflcjodpkiaaGreat
open Go.ChangeShapes Go.WideShapes Go.ChangeAt Go.RowKit Go.Deep

def wthB (x a b : Int) : Bool := decide (a ≤ x ∧ x ≤ b)
/-- A record's parts. -/
structure Rec where
  lsn : Int
  ep : Int
  kind : Int
  page : Int
  other : Int
  req : Int
  key : ByteArray
  val : ByteArray
def keyB (s : ByteArray) : Bool := ekey s.size == 0
def valB (s : ByteArray) : Bool := evalu s.size == 0
def emp (s : ByteArray) : Bool := s.toList.isEmpty
theorem valB_emp {s : ByteArray} (h : emp s = true) : valB s = true := by
  unfold emp at h
  unfold valB evalu
  rw [List.isEmpty_iff, Lib.toList_data] at h
  have : s.size = 0 := by rw [Lib.size_eq, h]; rfl
  rw [this]; rfl
theorem Fr.own {a w : World} (h : Fr (fun _ => False) a w) (j : Nat) (u : Value) : Fr (fun _ => False) a (w.setCell ⟨a.heap.size, j, none⟩ u) := h.setCell (p := ⟨a.heap.size, j, none⟩) (fun hh => absurd hh (Nat.lt_irrefl _)) u
theorem rec_cells {w' : World} {c0 c1 c2 c3 c4 c5 c6 c7 : Value} {b : Nat} {t : TypeId} (h : w'.heap[b]? = some (.cells #[c0, c1, c2, c3, c4, c5, c6, c7] t (0, 0))) :
    (w'.cell? ⟨b, 0, none⟩ = some c0 ∧ w'.cell? ⟨b, 1, none⟩ = some c1 ∧ w'.cell? ⟨b, 2, none⟩ = some c2 ∧ w'.cell? ⟨b, 3, none⟩ = some c3 ∧ w'.cell? ⟨b, 4, none⟩ = some c4 ∧ w'.cell? ⟨b, 5, none⟩ = some c5 ∧ w'.cell? ⟨b, 6, none⟩ = some c6 ∧ w'.cell? ⟨b, 7, none⟩ = some c7) ∧ ∀ j, w'.frozen? ⟨b, j, none⟩ = false := by
  refine ⟨⟨?_, ?_, ?_, ?_, ?_, ?_, ?_, ?_⟩, fun j => ?_⟩
  all_goals simp [World.cell?, World.frozen?, h]
theorem rec_at (w : World) (C : Array Value) (t : TypeId) {w' : World} (f : Fr (fun _ => False) (w.alloc (.cells C t)) w') : w'.heap[w.heap.size]? = some (.cells C t (0, 0)) := by
  rw [f.block w.heap.size (by simp) (fun f => f)]; exact heap_alloc_new w _
set_option maxRecDepth 100000 in
set_option maxHeartbeats 400000 in
theorem rwithin_any (n a b : Int) (w : World) : Calls Tryz.prog 96 #[.int .i64 n, .int .i64 a, .int .i64 b] w fun e w' => e = .returned (.bool (wthB n a b)) ∧ w' = w := by
  by_cases h1 : a ≤ n
  · by_cases h2 : n ≤ b
    · have e : wthB n a b = true := by unfold wthB; rw [decide_eq_true_eq]; exact ⟨h1, h2⟩
      rw [e]
      go_enter Tryz.func96, Tryz.ntmps96
      go_wp2
      go_ret
      exact ⟨rfl, rfl⟩
    · have e : wthB n a b = false := by unfold wthB; rw [decide_eq_false_iff_not]; exact fun h => h2 h.2
      rw [e]
      go_enter Tryz.func96, Tryz.ntmps96
      go_wp2
      go_ret
      exact ⟨rfl, rfl⟩
  · have e : wthB n a b = false := by unfold wthB; rw [decide_eq_false_iff_not]; exact fun h => h1 h.1
    rw [e]
    go_enter Tryz.func96, Tryz.ntmps96
    go_wp2
    go_ret
    exact ⟨rfl, rfl⟩
set_option maxRecDepth 100000 in
set_option maxHeartbeats 400000 in
theorem isEntry_any (lsn ep kind page other req : Int) (key val : ByteArray) (w : World) : Calls Tryz.prog 125 #[.agg #[.int .i64 lsn, .int .i64 ep, .int .i64 kind, .int .i64 page, .int .i64 other, .int .i64 req, .string key, .string val]] w fun e w' => e = .returned (.bool (keyB key && valB val)) ∧ w' = w.alloc (.cells #[.int .i64 lsn, .int .i64 ep, .int .i64 kind, .int .i64 page, .int .i64 other, .int .i64 req, .string key, .string val] 53) := by
  have H1 : Hid (keyB key = (((ekey key.size : Nat) : Int) == 0)) := by show _ = _; unfold keyB; rw [Bool.eq_iff_iff]; simp
  have H2 : Hid (valB val = (((evalu val.size : Nat) : Int) == 0)) := by show _ = _; unfold valB; rw [Bool.eq_iff_iff]; simp
  rw [H1.out, H2.out]
  have h1 := kcheck_any key
  have h2 := kvalue_any val
  generalize ((ekey key.size : Nat) : Int) = x at *
  generalize ((evalu val.size : Nat) : Int) = y at *
  by_cases hx : x = 0
  · subst hx
    go_enter Tryz.func125, Tryz.ntmps125
    go_wp2_with (first | (go_at_call 78; refine (h1 _).mono ?_; rintro e w' ⟨rfl, rfl⟩) | (go_at_call 79; refine (h2 _).mono ?_; rintro e w' ⟨rfl, rfl⟩))
    go_ret
    exact ⟨rfl, rfl⟩
  · have hx : (x == 0) = false := by simpa using hx
    rw [hx]
    go_enter Tryz.func125, Tryz.ntmps125
    go_wp2_with (first | (go_at_call 78; refine (h1 _).mono ?_; rintro e w' ⟨rfl, rfl⟩) | (go_at_call 79; refine (h2 _).mono ?_; rintro e w' ⟨rfl, rfl⟩))
    go_ret
    exact ⟨rfl, rfl⟩
set_option maxRecDepth 100000 in
set_option maxHeartbeats 1000000 in
theorem isCommit_any (lsn ep kind page other req : Int) (key val : ByteArray) (w : World) : Calls Tryz.prog 128 #[.agg #[.int .i64 lsn, .int .i64 ep, .int .i64 kind, .int .i64 page, .int .i64 other, .int .i64 req, .string key, .string val]] w fun e w' => e = .returned (.bool ((page == 0) && (((other == 1 && valB val) || (other == 2 && emp val)) && (wthB req 1 1099511627776 && keyB key)))) ∧ Fr (fun _ => False) w w' := by
  have HV : Hid (emp val = true → valB val = true) := valB_emp
  have HE : Hid (emp val = val.toList.isEmpty) := rfl
  go_enter Tryz.func128, Tryz.ntmps128
  go_wp2_with (first | (go_at_call 96; refine (rwithin_any _ _ _ _).mono ?_; rintro e w' ⟨rfl, rfl⟩) | (go_at_call 125; refine (isEntry_any lsn ep kind _ _ req key val _).mono ?_; rintro e w' ⟨rfl, rfl⟩))
  all_goals go_ret
  all_goals refine ⟨ret_bool ?_, by repeat (first | exact Fr.refl _ _ | apply Fr.own | apply Fr.alloc)⟩
  all_goals have hv := HV.out
  all_goals rw [HE.out] at hv ⊢
  all_goals simp_all [Bool.and_comm]
set_option maxRecDepth 100000 in
set_option maxHeartbeats 1000000 in
theorem suits_commit (lsn ep page other req : Int) (key val : ByteArray) (w : World) : Calls Tryz.prog 97 #[.agg #[.int .i64 lsn, .int .i64 ep, .int .i64 7, .int .i64 page, .int .i64 other, .int .i64 req, .string key, .string val]] w fun e w' => e = .returned (.bool ((page == 0) && (((other == 1 && valB val) || (other == 2 && emp val)) && (wthB req 1 1099511627776 && keyB key)))) ∧ Fr (fun _ => False) w w' := by
  go_enter Tryz.func97, Tryz.ntmps97
  go_wp2_with (go_at_call 128; refine (isCommit_any lsn ep 7 page other req key val _).mono ?_; rintro e w9 ⟨rfl, f9⟩)
  go_ret
  exact ⟨rfl, (Fr.box w _).seq' f9⟩
set_option maxRecDepth 100000 in
set_option maxHeartbeats 1000000 in
theorem right_bad (lsn ep kind page other req : Int) (key val : ByteArray) (h : wthB lsn 1 1099511627776 = false ∨ wthB ep 0 1099511627776 = false) (w : World) : Calls Tryz.prog 45 #[.agg #[.int .i64 lsn, .int .i64 ep, .int .i64 kind, .int .i64 page, .int .i64 other, .int .i64 req, .string key, .string val]] w fun e w' => e = .returned (.bool false) ∧ Fr (fun _ => False) w w' := by
  have h' : lsn < 1 ∨ (¬ lsn < 1 ∧ 1099511627776 < lsn) ∨ (¬ lsn < 1 ∧ ¬ 1099511627776 < lsn ∧ ep < 0) ∨ (¬ lsn < 1 ∧ ¬ 1099511627776 < lsn ∧ ¬ ep < 0 ∧ 1099511627776 < ep) := by
    unfold wthB at h; rw [decide_eq_false_iff_not, decide_eq_false_iff_not] at h; omega
  clear h
  rcases h' with h1 | ⟨h1, h2⟩ | ⟨h1, h2, h3⟩ | ⟨h1, h2, h3, h4⟩
  all_goals
    go_enter Tryz.func45, Tryz.ntmps45
    go_wp2
    go_ret
    exact ⟨rfl, Fr.box w _⟩
set_option maxRecDepth 100000 in
set_option maxHeartbeats 4000000 in
theorem right_commit (lsn ep page other req : Int) (key val : ByteArray) (h1 : wthB lsn 1 1099511627776 = true) (h2 : wthB ep 0 1099511627776 = true) (w : World) : Calls Tryz.prog 45 #[.agg #[.int .i64 lsn, .int .i64 ep, .int .i64 7, .int .i64 page, .int .i64 other, .int .i64 req, .string key, .string val]] w fun e w' => e = .returned (.bool ((page == 0) && (((other == 1 && valB val) || (other == 2 && emp val)) && (wthB req 1 1099511627776 && keyB key)))) ∧ Fr (fun _ => False) w w' := by
  have ⟨g1, g2, g3, g4⟩ : ¬ lsn < 1 ∧ ¬ 1099511627776 < lsn ∧ ¬ ep < 0 ∧ ¬ 1099511627776 < ep := by
    unfold wthB at h1 h2; rw [decide_eq_true_eq] at h1 h2; omega
  clear h1 h2
  have H1 : Hid (keyB key = (((ekey key.size : Nat) : Int) == 0)) := by show _ = _; unfold keyB; rw [Bool.eq_iff_iff]; simp
  have H2 : Hid (valB val = (((evalu val.size : Nat) : Int) == 0)) := by show _ = _; unfold valB; rw [Bool.eq_iff_iff]; simp
  have HE : Hid (emp val = val.toList.isEmpty) := rfl
  have HW : Hid (wthB req 1 1099511627776 = decide (1 ≤ req ∧ req ≤ 1099511627776)) := rfl
  rw [H1.out, H2.out, HE.out, HW.out]
  have k1 := rcheck_any key
  have k2 := rvalue_any val
  generalize ((ekey key.size : Nat) : Int) = x at *
  generalize ((evalu val.size : Nat) : Int) = y at *
  clear H1 H2 HE HW
  go_enter Tryz.func45, Tryz.ntmps45
  go_wp2_with (first | (go_at_call 50; refine (k1 _).mono ?_; rintro e w' ⟨rfl, rfl⟩) | (go_at_call 51; refine (k2 _).mono ?_; rintro e w' ⟨rfl, rfl⟩))
  all_goals go_ret
  all_goals refine ⟨ret_bool ?_, Fr.box w _⟩
  all_goals simp_all
  all_goals (intros; omega)
theorem rcellsI : Tryz.prog.cellsOf 3 = 1 := by kernel_rfl
theorem rcellsS : Tryz.prog.cellsOf 9 = 1 := by kernel_rfl
theorem rcellsR : Tryz.prog.cellsOf 53 = 8 := by kernel_rfl
/-- A record's cells. -/
def recC (r : Rec) : List Value := [.int .i64 r.lsn, .int .i64 r.ep, .int .i64 r.kind, .int .i64 r.page, .int .i64 r.other, .int .i64 r.req, .string r.key, .string r.val]
theorem recC_length (r : Rec) : (recC r).length = 8 := rfl
theorem recC_one (r : Rec) : ∀ u ∈ recC r, u.oneCell' = true := by
  intro u hu
  simp only [recC, List.mem_cons, List.not_mem_nil, or_false] at hu
  rcases hu with h | h | h | h | h | h | h | h <;> (subst h; rfl)
theorem rec_range {w : World} {b o : Nat} {r : Rec} (h : w.rangeAt b o (recC r)) : w.cell? ⟨b, o, none⟩ = some (.int .i64 r.lsn) ∧ w.cell? ⟨b, o + 1, none⟩ = some (.int .i64 r.ep) ∧ w.cell? ⟨b, o + 2, none⟩ = some (.int .i64 r.kind) ∧ w.cell? ⟨b, o + 3, none⟩ = some (.int .i64 r.page) ∧ w.cell? ⟨b, o + 4, none⟩ = some (.int .i64 r.other) ∧ w.cell? ⟨b, o + 5, none⟩ = some (.int .i64 r.req) ∧ w.cell? ⟨b, o + 6, none⟩ = some (.string r.key) ∧ w.cell? ⟨b, o + 7, none⟩ = some (.string r.val) :=
  ⟨h 0 _ rfl, h 1 _ rfl, h 2 _ rfl, h 3 _ rfl, h 4 _ rfl, h 5 _ rfl, h 6 _ rfl, h 7 _ rfl⟩
/-- A slice of records as a walk sees it. -/
structure Recs (w : World) (a : Option Addr) (cap : Nat) (ls : List Rec) : Prop where
  le : ls.length ≤ cap
  max : cap ≤ 9223372036854775807
  at_ : ls = [] ∨ ∃ b off, a = some ⟨b, off, none⟩ ∧ b < w.heap.size ∧ ∀ i r, ls[i]? = some r → w.rangeAt b (off + i * 8) (recC r)
theorem Recs.same {w w' : World} {a : Option Addr} {cap : Nat} {ls : List Rec} (h : Recs w a cap ls) (f : Fr (fun _ => False) w w') : Recs w' a cap ls := by
  refine ⟨h.le, h.max, ?_⟩
  rcases h.at_ with h0 | ⟨b, off, rfl, hb, hc⟩
  · exact .inl h0
  · exact .inr ⟨b, off, rfl, Nat.lt_of_lt_of_le hb f.size, fun i r hr => range_fr (hc i r hr) f (fun f => f)⟩
theorem Recs.some {w : World} {a : Option Addr} {cap : Nat} {ls : List Rec} (h : Recs w a cap ls) (hn : 0 < ls.length) : ∃ b off, a = some ⟨b, off, none⟩ ∧ b < w.heap.size ∧ ∀ i r, ls[i]? = some r → w.rangeAt b (off + i * 8) (recC r) := by
  rcases h.at_ with h0 | h
  · rw [h0] at hn; simp at hn
  · exact h
def rec0 : Rec := ⟨0, 0, 0, 0, 0, 0, ⟨#[]⟩, ⟨#[]⟩⟩
end Go.Proofs.YtdlnflcjodpkiaaGreat
