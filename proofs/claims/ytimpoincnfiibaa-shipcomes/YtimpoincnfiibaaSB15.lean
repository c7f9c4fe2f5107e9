
/- KAbv, RcBase, RcKind. -/
import Derived.Test.YtimpoincnfiibaaSB14
/- What key.Above tells, and what the document's own Above tells. -/
namespace Go.Proofs.Ytimpoincnfiibaa
open Go.RowKit

theorem bytes_cell (s : ByteArray) (c : Nat) (w : World) (t : TypeId) (fr : Nat × Nat) (j : Nat) (h : j < s.size) : (w.alloc (.cells (bytesRow s c) t fr)).cell? ⟨w.heap.size, j, none⟩ = some (.int .u8 ((bsOf s).getD j 0 : Nat)) := by
  rw [cell_of_row _ _ j _ t fr (heap_alloc_new w _)]
  unfold bytesRow
  rw [Array.getElem?_append_left (by simpa using h)]
  have h' : j < s.data.size := h
  rw [← bs_at s j h, Array.getElem?_map, Array.getElem?_eq_getElem h']
  rfl
theorem low_take (l : List Nat) (k : Nat) (h : k < l.length) : low (l.take (k + 1)) = if l.getD k 0 < 255 then k + 1 else low (l.take k) := by
  rw [take_snoc l k h, low_snoc]
  simp only [List.length_take, Nat.min_eq_left (Nat.le_of_lt h)]
/-- What Above tells. -/
def abv (s : ByteArray) : ByteArray := if low (bsOf s) = 0 then ⟨#[]⟩ else strOf (up (bsOf s))
def abvB (s : ByteArray) : Bool := decide (low (bsOf s) ≠ 0)
theorem abv_no {s : ByteArray} (h : low (bsOf s) = 0) : abv s = ⟨#[]⟩ ∧ abvB s = false := ⟨if_pos h, by simp [abvB, h]⟩
theorem abv_yes {s : ByteArray} (h : low (bsOf s) ≠ 0) : abv s = strOf (up (bsOf s)) ∧ abvB s = true := ⟨if_neg h, by simp [abvB, h]⟩
theorem ret_sb {a b : ByteArray} {x y : Bool} (h : a = b ∧ x = y) : Ending.returned (.tuple #[.string a, .bool x]) = .returned (.tuple #[.string b, .bool y]) := by rw [h.1, h.2]

/-- What '[]byte(..)' of a text's beginning lays. -/
theorem bytes_of (s : ByteArray) (p : Nat) (hs : s.size ≤ 140737488351232) (hp : p < s.size) (w : World) : ∃ cap C fr, (convert 9 82 (.string (s.extract 0 (p + 1)))).run Try.prog w = .ok (.slice (some ⟨w.heap.size, 0, none⟩) (p + 1) cap) (w.drew.alloc (.cells C 5 fr)) ∧
    p + 1 ≤ C.size ∧ p + 1 ≤ cap ∧ cap ≤ maxLen ∧ C.size < fr.1 + 1 ∧ fr.1 ≤ fr.2 ∧ ∀ j, j < p + 1 → C[j]? = some (.int .u8 ((bsOf s).getD j 0 : Nat)) := by
  have h := run_bytes_of_string (P := Try.prog) w 9 82 5 (s.extract 0 (p + 1)) Try.underlying9 Try.underlying82 Try.underlying5
  have hz : (s.extract 0 (p + 1)).size = p + 1 := by simp [ByteArray.size_extract]; omega
  rw [hz] at h
  have hC : ∀ c, p + 1 ≤ (bytesRow (s.extract 0 (p + 1)) c).size := fun c => by
    have : (s.extract 0 (p + 1)).data.size = p + 1 := hz
    simp only [bytesRow, Array.size_append, Array.size_map, this]; omega
  refine ⟨_, _, _, h, hC _, ?_, grownCap_le_maxLen _ _ _ _ (by unfold maxLen; omega), by simp, by simp, fun j hj => ?_⟩
  · exact grownCap_ge _ _ _ _
  · unfold bytesRow
    have hz' : (s.extract 0 (p + 1)).data.size = p + 1 := hz
    rw [Array.getElem?_append_left (by simp only [Array.size_map, hz']; exact hj), Array.getElem?_map, Array.getElem?_eq_getElem (by rw [hz']; exact hj)]
    have := bs_at (s.extract 0 (p + 1)) j (by rw [hz]; exact hj)
    rw [bs_extract] at this
    have e : ((bsOf s).take (p + 1)).getD j 0 = (bsOf s).getD j 0 := by
      rw [List.getD_eq_getElem?_getD, List.getD_eq_getElem?_getD, List.getElem?_take, if_pos hj]
    rw [e] at this
    rw [← this]; rfl

theorem row_one (w : World) (x : Nat) (z : Int) (hx : x < 256) (hz : z = (x : Int)) : Row (w.alloc (.cells #[.int .u8 z] 5)) (some ⟨w.heap.size, 0, none⟩) 1 [x] := by
  subst hz
  refine ⟨by simp, by omega, by simp, (fun y hy => by simp at hy; omega), .inr ⟨w.heap.size, 0, rfl, by simp, fun i hi => ?_⟩⟩
  have : i = 0 := by simpa using hi
  subst this
  simp
theorem up_at (l : List Nat) (k : Nat) (h : low l = k + 1) : up l = l.take k ++ [l.getD k 0 + 1] := by unfold up; rw [h]; rfl

end Go.Proofs.Ytimpoincnfiibaa

/- Records: what they hold, which are right; what package record's small functions tell. -/
namespace Go.Proofs.Ytimpoincnfiibaa
open Go.RowKit Crcm

/-- A record's parts. -/
structure Rec where
  lsn : Int
  ep : Int
  kind : Int
  page : Int
  other : Int
  req : Int
  key : ByteArray
  val : ByteArray
def pgB (x : Int) : Bool := wthB x 1 4096
def keyB (s : ByteArray) : Bool := ekey s.size == 0
def valB (s : ByteArray) : Bool := evalu s.size == 0
/-- Whether a text is the page of a node whose LSN is 0. -/
def newB (s : ByteArray) : Bool := (decF (bsOf s)).isSome && (((decF (bsOf s)).getD zn).lsn == 0)
def emp (s : ByteArray) : Bool := s.toList.isEmpty
/-- What a record must have by its kind. -/
def suitB (r : Rec) : Bool :=
  if r.kind = 7 then (r.page == 0) && (((r.other == 1 && valB r.val) || (r.other == 2 && emp r.val)) && (wthB r.req 1 1099511627776 && keyB r.key))
  else (r.req == 0) && (
    if r.kind = 1 then (r.page == 0) && ((r.other == 0) && (emp r.key && emp r.val))
    else if r.kind = 2 then pgB r.page && ((r.other == 0) && (keyB r.key && valB r.val))
    else if r.kind = 3 then pgB r.page && ((r.other == 0) && (keyB r.key && emp r.val))
    else if r.kind = 4 then pgB r.page && ((r.other == 0) && (emp r.key && newB r.val))
    else if r.kind = 5 ∨ r.kind = 6 then pgB r.page && (pgB r.other && (keyB r.key && emp r.val))
    else false)
/-- Whether a record is right. -/
def rok (r : Rec) : Bool := wthB r.lsn 1 1099511627776 && (wthB r.ep 0 1099511627776 && suitB r)
def erec (r : Rec) : Int := if rok r = true then 0 else 90
theorem erec_yes {r : Rec} (h : rok r = true) : erec r = 0 := if_pos h
theorem erec_no {r : Rec} (h : rok r = false) : erec r = 90 := if_neg (by rw [h]; simp)
theorem valB_emp {s : ByteArray} (h : emp s = true) : valB s = true := by
  unfold emp at h
  unfold valB evalu
  rw [List.isEmpty_iff, Lib.toList_data] at h
  have : s.size = 0 := by rw [Lib.size_eq, h]; rfl
  rw [this]; rfl

theorem Fr.own {a w : World} (h : Fr (fun _ => False) a w) (j : Nat) (u : Value) : Fr (fun _ => False) a (w.setCell ⟨a.heap.size, j, none⟩ u) := h.setCell (p := ⟨a.heap.size, j, none⟩) (fun hh => absurd hh (Nat.lt_irrefl _)) u
theorem rec_cells {w' : World} {c0 c1 c2 c3 c4 c5 c6 c7 : Value} {b : Nat} {t : TypeId} (h : w'.heap[b]? = some (.cells #[c0, c1, c2, c3, c4, c5, c6, c7] t (0, 0))) :
    (w'.cell? ⟨b, 0, none⟩ = some c0 ∧ w'.cell? ⟨b, 1, none⟩ = some c1 ∧ w'.cell? ⟨b, 2, none⟩ = some c2 ∧ w'.cell? ⟨b, 3, none⟩ = some c3 ∧ w'.cell? ⟨b, 4, none⟩ = some c4 ∧ w'.cell? ⟨b, 5, none⟩ = some c5 ∧ w'.cell? ⟨b, 6, none⟩ = some c6 ∧ w'.cell? ⟨b, 7, none⟩ = some c7) ∧ ∀ j, w'.frozen? ⟨b, j, none⟩ = false := by
  refine ⟨⟨?_, ?_, ?_, ?_, ?_, ?_, ?_, ?_⟩, fun j => ?_⟩
  all_goals simp [World.cell?, World.frozen?, h]
theorem rec_at (w : World) (C : Array Value) (t : TypeId) {w' : World} (f : Fr (fun _ => False) (w.alloc (.cells C t)) w') : w'.heap[w.heap.size]? = some (.cells C t (0, 0)) := by
  rw [f.block w.heap.size (by simp) (fun f => f)]; exact heap_alloc_new w _

/-- What '[]byte(..)' of a text lays. -/
theorem run_bytes (s : ByteArray) (w : World) : ∃ a cap w', (convert 9 82 (.string s)).run Try.prog w = .ok (.slice (some a) s.size cap) w' ∧ (s.size ≤ 140737488351232 → Row w' (some a) cap (bsOf s)) ∧ Fr (fun _ => False) w w' := by
  have h := run_bytes_of_string (P := Try.prog) w 9 82 5 s Try.underlying9 Try.underlying82 Try.underlying5
  refine ⟨_, _, _, h, fun hs => ⟨?_, ?_, ?_, bsOf_octs s, .inr ⟨_, _, rfl, by simp, fun i hi => ?_⟩⟩, ((Fr.refl _ w).drew).alloc _⟩
  · rw [bsOf_length]; exact grownCap_ge _ _ _ _
  · have := grownCap_le_maxLen w s.size 0 5 (by unfold maxLen; omega); unfold maxLen at this; omega
  · rw [bsOf_length]; omega
  · rw [Nat.zero_add]
    rw [bsOf_length] at hi
    exact bytes_cell s _ w.drew 5 _ i hi

set_option maxRecDepth 100000 in
set_option maxHeartbeats 400000 in
theorem rwithin_any (n a b : Int) (w : World) : Calls Try.prog 37 #[.int .i64 n, .int .i64 a, .int .i64 b] w fun e w' => e = .returned (.bool (wthB n a b)) ∧ w' = w := by
  by_cases h1 : a ≤ n
  · by_cases h2 : n ≤ b
    · have e : wthB n a b = true := by unfold wthB; rw [decide_eq_true_eq]; exact ⟨h1, h2⟩
      rw [e]
      go_enter Try.func37, Try.ntmps37
      go_wp2
      go_ret
      exact ⟨rfl, rfl⟩
    · have e : wthB n a b = false := by unfold wthB; rw [decide_eq_false_iff_not]; exact fun h => h2 h.2
      rw [e]
      go_enter Try.func37, Try.ntmps37
      go_wp2
      go_ret
      exact ⟨rfl, rfl⟩
  · have e : wthB n a b = false := by unfold wthB; rw [decide_eq_false_iff_not]; exact fun h => h1 h.1
    rw [e]
    go_enter Try.func37, Try.ntmps37
    go_wp2
    go_ret
    exact ⟨rfl, rfl⟩
set_option maxRecDepth 100000 in
set_option maxHeartbeats 400000 in
theorem isPage_any (n : Int) (w : World) : Calls Try.prog 44 #[.int .i64 n] w fun e w' => e = .returned (.bool (pgB n)) ∧ w' = w := by
  go_enter Try.func44, Try.ntmps44
  go_wp2_with (go_at_call 37; refine (rwithin_any _ _ _ _).mono ?_; rintro e w' ⟨rfl, rfl⟩)
  go_ret
  exact ⟨rfl, rfl⟩
set_option maxRecDepth 100000 in
set_option maxHeartbeats 400000 in
theorem isBare_any (lsn ep kind page other req : Int) (key val : ByteArray) (w : World) : Calls Try.prog 46 #[.agg #[.int .i64 lsn, .int .i64 ep, .int .i64 kind, .int .i64 page, .int .i64 other, .int .i64 req, .string key, .string val]] w fun e w' => e = .returned (.bool (page == 0 && (other == 0 && (req == 0 && (emp key && emp val))))) ∧ Fr (fun _ => False) w w' := by
  go_enter Try.func46, Try.ntmps46
  go_wp2
  all_goals go_ret
  all_goals exact ⟨ret_bool (by simp_all [emp]), Fr.box w _⟩
set_option maxRecDepth 100000 in
set_option maxHeartbeats 400000 in
theorem isEntry_any (lsn ep kind page other req : Int) (key val : ByteArray) (w : World) : Calls Try.prog 45 #[.agg #[.int .i64 lsn, .int .i64 ep, .int .i64 kind, .int .i64 page, .int .i64 other, .int .i64 req, .string key, .string val]] w fun e w' => e = .returned (.bool (keyB key && valB val)) ∧ w' = w.alloc (.cells #[.int .i64 lsn, .int .i64 ep, .int .i64 kind, .int .i64 page, .int .i64 other, .int .i64 req, .string key, .string val] 47) := by
  have H1 : Hid (keyB key = (((ekey key.size : Nat) : Int) == 0)) := by show _ = _; unfold keyB; rw [Bool.eq_iff_iff]; simp
  have H2 : Hid (valB val = (((evalu val.size : Nat) : Int) == 0)) := by show _ = _; unfold valB; rw [Bool.eq_iff_iff]; simp
  rw [H1.out, H2.out]
  have h1 := kcheck_any key
  have h2 := kvalue_any val
  generalize ((ekey key.size : Nat) : Int) = x at *
  generalize ((evalu val.size : Nat) : Int) = y at *
  by_cases hx : x = 0
  · subst hx
    go_enter Try.func45, Try.ntmps45
    go_wp2_with (first | (go_at_call 52; refine (h1 _).mono ?_; rintro e w' ⟨rfl, rfl⟩) | (go_at_call 53; refine (h2 _).mono ?_; rintro e w' ⟨rfl, rfl⟩))
    go_ret
    exact ⟨rfl, rfl⟩
  · have hx : (x == 0) = false := by simpa using hx
    rw [hx]
    go_enter Try.func45, Try.ntmps45
    go_wp2_with (first | (go_at_call 52; refine (h1 _).mono ?_; rintro e w' ⟨rfl, rfl⟩) | (go_at_call 53; refine (h2 _).mono ?_; rintro e w' ⟨rfl, rfl⟩))
    go_ret
    exact ⟨rfl, rfl⟩
set_option maxRecDepth 100000 in
set_option maxHeartbeats 400000 in
theorem isNewPage_any (s : ByteArray) (w : World) : Calls Try.prog 47 #[.string s] w fun e w' => e = .returned (.bool (newB s)) ∧ Fr (fun _ => False) w w' := by
  obtain ⟨a, c, w1, hcv, hr, f1⟩ := run_bytes s w
  have hd : Calls Try.prog 54 #[.slice (some a) s.size c] w1 fun e w' => ∃ p3 : Pt, e = .returned (.tuple #[(.agg #[.int .i64 ((decF (bsOf s)).getD zn).lev, .int .i64 ((decF (bsOf s)).getD zn).lsn, .int .i64 ((decF (bsOf s)).getD zn).rgt, .string ((decF (bsOf s)).getD zn).high, .slice p3.k ((decF (bsOf s)).getD zn).keys.length p3.kc, .slice p3.v ((decF (bsOf s)).getD zn).vals.length p3.vc, .slice p3.i ((decF (bsOf s)).getD zn).kids.length p3.ic]), .int .i64 (if (decF (bsOf s)).isSome = true then 0 else 60)]) ∧ Nod w' ((decF (bsOf s)).getD zn) p3 ∧ Fr (fun _ => False) w1 w' := by
    by_cases h : s.size = 256
    · exact decode_all (some a) s.size c (bsOf s) (bsOf_length s).symm w1 (hr (by omega))
    · exact (decode_len (some a) s.size c (bsOf s) (bsOf_length s).symm (by rw [bsOf_length]; exact h) w1).mono fun e w' ⟨p, x, y, z, _⟩ => ⟨p, x, y, z⟩
  have HN : Hid (newB s = ((decF (bsOf s)).isSome && (((decF (bsOf s)).getD zn).lsn == 0))) := rfl
  rw [HN.out]
  generalize (decF (bsOf s)).getD zn = n at *
  generalize (decF (bsOf s)).isSome = b at *
  clear HN hr
  cases b with
  | true =>
    simp only [if_true] at hd
    go_enter Try.func47, Try.ntmps47
    go_wp2_with (go_at_call 54; refine hd.mono ?_; rintro e w2 ⟨p3, rfl, _, f2⟩)
    go_ret
    exact ⟨rfl, (f1.seq' f2).alloc _⟩
  | false =>
    simp only [Bool.false_eq_true, if_false] at hd
    go_enter Try.func47, Try.ntmps47
    go_wp2_with (go_at_call 54; refine hd.mono ?_; rintro e w2 ⟨p3, rfl, _, f2⟩)
    go_ret
    exact ⟨rfl, (f1.seq' f2).alloc _⟩
end Go.Proofs.Ytimpoincnfiibaa

/- Which records record.Check takes. -/
namespace Go.Proofs.Ytimpoincnfiibaa
open Go.RowKit Crcm

set_option maxRecDepth 100000 in
set_option maxHeartbeats 1000000 in
theorem isCommit_any (lsn ep kind page other req : Int) (key val : ByteArray) (w : World) : Calls Try.prog 48 #[.agg #[.int .i64 lsn, .int .i64 ep, .int .i64 kind, .int .i64 page, .int .i64 other, .int .i64 req, .string key, .string val]] w fun e w' => e = .returned (.bool ((page == 0) && (((other == 1 && valB val) || (other == 2 && emp val)) && (wthB req 1 1099511627776 && keyB key)))) ∧ Fr (fun _ => False) w w' := by
  have HV : Hid (emp val = true → valB val = true) := valB_emp
  have HE : Hid (emp val = val.toList.isEmpty) := rfl
  go_enter Try.func48, Try.ntmps48
  go_wp2_with (first | (go_at_call 37; refine (rwithin_any _ _ _ _).mono ?_; rintro e w' ⟨rfl, rfl⟩) | (go_at_call 45; refine (isEntry_any lsn ep kind _ _ req key val _).mono ?_; rintro e w' ⟨rfl, rfl⟩))
  all_goals go_ret
  all_goals refine ⟨ret_bool ?_, by repeat (first | exact Fr.refl _ _ | apply Fr.own | apply Fr.alloc)⟩
  all_goals have hv := HV.out
  all_goals rw [HE.out] at hv ⊢
  all_goals simp_all [Bool.and_comm]

/-- What kinds but ReNew and ReCommit ask for. -/
def plainB (kind page other req : Int) (key val : ByteArray) : Bool :=
  (req == 0) && (
    if kind = 1 then (page == 0) && ((other == 0) && (emp key && emp val))
    else if kind = 2 then pgB page && ((other == 0) && (keyB key && valB val))
    else if kind = 3 then pgB page && ((other == 0) && (keyB key && emp val))
    else if kind = 5 ∨ kind = 6 then pgB page && (pgB other && (keyB key && emp val))
    else false)
set_option maxRecDepth 100000 in
set_option maxHeartbeats 4000000 in
theorem suits_plain (lsn ep kind page other req : Int) (key val : ByteArray) (h4 : kind ≠ 4) (h7 : kind ≠ 7) (w : World) : Calls Try.prog 38 #[.agg #[.int .i64 lsn, .int .i64 ep, .int .i64 kind, .int .i64 page, .int .i64 other, .int .i64 req, .string key, .string val]] w fun e w' => e = .returned (.bool (plainB kind page other req key val)) ∧ Fr (fun _ => False) w w' := by
  have HV : Hid (emp val = true → valB val = true) := valB_emp
  have HE : Hid (emp val = val.toList.isEmpty) := rfl
  have e4 : (kind == 4) = false := by simpa using h4
  have e7 : (kind == 7) = false := by simpa using h7
  clear h4 h7
  go_enter Try.func38, Try.ntmps38
  go_wp2_with (first | (go_at_call 44; refine (isPage_any _ _).mono ?_; rintro e w' ⟨rfl, rfl⟩) | (go_at_call 45; refine (isEntry_any _ _ _ _ _ _ _ _ _).mono ?_; rintro e w' ⟨rfl, rfl⟩) | (go_at_call 46; refine (isBare_any _ _ _ _ _ _ _ _ _).mono ?_; rintro e w9 ⟨rfl, f9⟩))
  all_goals go_ret
  all_goals refine ⟨ret_bool ?_, by first | ((repeat (first | exact Fr.refl _ _ | apply Fr.own | apply Fr.alloc)); done) | (refine Fr.false_trans ?_ f9; repeat (first | exact Fr.refl _ _ | apply Fr.own | apply Fr.alloc))⟩
  all_goals have hv := HV.out
  all_goals rw [HE.out] at hv
  all_goals unfold plainB
  all_goals try rw [HE.out]
  all_goals clear HV HE
  all_goals simp_all [emp, Bool.and_comm, Bool.and_left_comm, Bool.and_assoc]
  all_goals (rename_i hk; rcases hk with hk | hk <;> simp_all)

set_option maxRecDepth 100000 in
set_option maxHeartbeats 1000000 in
theorem suits_commit (lsn ep page other req : Int) (key val : ByteArray) (w : World) : Calls Try.prog 38 #[.agg #[.int .i64 lsn, .int .i64 ep, .int .i64 7, .int .i64 page, .int .i64 other, .int .i64 req, .string key, .string val]] w fun e w' => e = .returned (.bool ((page == 0) && (((other == 1 && valB val) || (other == 2 && emp val)) && (wthB req 1 1099511627776 && keyB key)))) ∧ Fr (fun _ => False) w w' := by
  go_enter Try.func38, Try.ntmps38
  go_wp2_with (go_at_call 48; refine (isCommit_any lsn ep 7 page other req key val _).mono ?_; rintro e w9 ⟨rfl, f9⟩)
  go_ret
  exact ⟨rfl, (Fr.box w _).seq' f9⟩
set_option maxRecDepth 100000 in
set_option maxHeartbeats 1000000 in
theorem suits_new (lsn ep page other req : Int) (key val : ByteArray) (w : World) : Calls Try.prog 38 #[.agg #[.int .i64 lsn, .int .i64 ep, .int .i64 4, .int .i64 page, .int .i64 other, .int .i64 req, .string key, .string val]] w fun e w' => e = .returned (.bool ((req == 0) && (pgB page && ((other == 0) && (emp key && newB val))))) ∧ Fr (fun _ => False) w w' := by
  go_enter Try.func38, Try.ntmps38
  go_wp2_with (first | (go_at_call 44; refine (isPage_any _ _).mono ?_; rintro e w' ⟨rfl, rfl⟩) | (go_at_call 47; refine (isNewPage_any val _).mono ?_; rintro e w2 ⟨rfl, f2⟩; have hb := rec_at w _ _ f2; obtain ⟨⟨q0, q1, q2, q3, q4, q5, q6, q7⟩, qz⟩ := rec_cells hb; have z3 := qz 3; have z7 := qz 7; clear qz hb) | (go_at_call 46; refine (isBare_any _ _ _ _ _ _ _ _ _).mono ?_; rintro e w9 ⟨rfl, f9⟩))
  all_goals go_ret
  all_goals refine ⟨ret_bool ?_, by first | exact Fr.box w _ | exact (Fr.box w _).seq' f2 | (refine Fr.false_trans ?_ f9; exact ((((Fr.box w _).seq' f2).own _ _).own _ _))⟩
  all_goals simp_all [emp, Bool.and_comm, Bool.and_left_comm]

theorem ksuits_any (r : Rec) (w : World) : Calls Try.prog 38 #[(.agg #[.int .i64 r.lsn, .int .i64 r.ep, .int .i64 r.kind, .int .i64 r.page, .int .i64 r.other, .int .i64 r.req, .string r.key, .string r.val])] w fun e w' => e = .returned (.bool (suitB r)) ∧ Fr (fun _ => False) w w' := by
  obtain ⟨lsn, ep, kind, page, other, req, key, val⟩ := r
  unfold suitB
  dsimp only
  by_cases h7 : kind = 7
  · subst h7
    rw [if_pos rfl]
    exact suits_commit lsn ep page other req key val w
  · rw [if_neg h7]
    by_cases h4 : kind = 4
    · subst h4
      exact suits_new lsn ep page other req key val w
    · rw [if_neg h4]
      exact suits_plain lsn ep kind page other req key val h4 h7 w

set_option maxRecDepth 100000 in
set_option maxHeartbeats 1000000 in
theorem rec_check (r : Rec) (w : World) : Calls Try.prog 26 #[(.agg #[.int .i64 r.lsn, .int .i64 r.ep, .int .i64 r.kind, .int .i64 r.page, .int .i64 r.other, .int .i64 r.req, .string r.key, .string r.val])] w fun e w' => e = .returned (.int .i64 (erec r)) ∧ Fr (fun _ => False) w w' := by
  have hsu := ksuits_any r
  have HR : Hid (rok r = (wthB r.lsn 1 1099511627776 && (wthB r.ep 0 1099511627776 && suitB r))) := rfl
  have HY : Hid (rok r = true → erec r = 0) := erec_yes
  have HN : Hid (rok r = false → erec r = 90) := erec_no
  generalize suitB r = b at *
  go_enter Try.func26, Try.ntmps26
  go_wp2_with (first | (go_at_call 37; refine (rwithin_any _ _ _ _).mono ?_; rintro e w' ⟨rfl, rfl⟩) | (go_at_call 38; refine (hsu _).mono ?_; rintro e w9 ⟨rfl, f9⟩))
  all_goals go_ret
  all_goals refine ⟨ret_int ?_, by first | exact Fr.box w _ | exact (Fr.box w _).seq' f9⟩
  all_goals symm
  all_goals have hr := HR.out
  all_goals first | (refine HN.out ?_; simp_all; done) | (refine HY.out ?_; simp_all; done)
end Go.Proofs.Ytimpoincnfiibaa
