
/- RcBase, RcArg, RcList. -/
import Derived.Test.YtcmkpmilnplhmaaWTC
import Derived.Test.YtcmkpmilnplhmaaWTD
import Derived.Test.YtcmkpmilnplhmaaWT1
import Derived.Test.YtcmkpmilnplhmaaWTA
import Derived.Deep.Strs
/- Records: what they hold, which are right; what package record's small functions tell. -/
namespace Go.Proofs.Ytcmkpmilnplhmaa
open Go.RowKit Crcm

/-- A record's parts. -/
structure Rec where
  lsn : Int
  ep : Int
  kind : Int
  page : Int
  other : Int
  req : Int
  key : ByteArray
  val : ByteArray
def pgB (x : Int) : Bool := wthB x 1 4096
def keyB (s : ByteArray) : Bool := ekey s.size == 0
def valB (s : ByteArray) : Bool := evalu s.size == 0
/-- Whether a text is the page of a node whose LSN is 0. -/
def newB (s : ByteArray) : Bool := (decF (bsOf s)).isSome && (((decF (bsOf s)).getD zn).lsn == 0)
def emp (s : ByteArray) : Bool := s.toList.isEmpty
/-- What a record must have by its kind. -/
def suitB (r : Rec) : Bool :=
  if r.kind = 7 then (r.page == 0) && (((r.other == 1 && valB r.val) || (r.other == 2 && emp r.val)) && (wthB r.req 1 1099511627776 && keyB r.key))
  else (r.req == 0) && (
    if r.kind = 1 then (r.page == 0) && ((r.other == 0) && (emp r.key && emp r.val))
    else if r.kind = 2 then pgB r.page && ((r.other == 0) && (keyB r.key && valB r.val))
    else if r.kind = 3 then pgB r.page && ((r.other == 0) && (keyB r.key && emp r.val))
    else if r.kind = 4 then pgB r.page && ((r.other == 0) && (emp r.key && newB r.val))
    else if r.kind = 5 ∨ r.kind = 6 then pgB r.page && (pgB r.other && (keyB r.key && emp r.val))
    else false)
/-- Whether a record is right. -/
def rok (r : Rec) : Bool := wthB r.lsn 1 1099511627776 && (wthB r.ep 0 1099511627776 && suitB r)
def erec (r : Rec) : Int := if rok r = true then 0 else 90
theorem erec_yes {r : Rec} (h : rok r = true) : erec r = 0 := if_pos h
theorem erec_no {r : Rec} (h : rok r = false) : erec r = 90 := if_neg (by rw [h]; simp)
theorem valB_emp {s : ByteArray} (h : emp s = true) : valB s = true := by
  unfold emp at h
  unfold valB evalu
  rw [List.isEmpty_iff, Lib.toList_data] at h
  have : s.size = 0 := by rw [Lib.size_eq, h]; rfl
  rw [this]; rfl

theorem Fr.own {a w : World} (h : Fr (fun _ => False) a w) (j : Nat) (u : Value) : Fr (fun _ => False) a (w.setCell ⟨a.heap.size, j, none⟩ u) := h.setCell (p := ⟨a.heap.size, j, none⟩) (fun hh => absurd hh (Nat.lt_irrefl _)) u
theorem rec_cells {w' : World} {c0 c1 c2 c3 c4 c5 c6 c7 : Value} {b : Nat} {t : TypeId} (h : w'.heap[b]? = some (.cells #[c0, c1, c2, c3, c4, c5, c6, c7] t (0, 0))) :
    (w'.cell? ⟨b, 0, none⟩ = some c0 ∧ w'.cell? ⟨b, 1, none⟩ = some c1 ∧ w'.cell? ⟨b, 2, none⟩ = some c2 ∧ w'.cell? ⟨b, 3, none⟩ = some c3 ∧ w'.cell? ⟨b, 4, none⟩ = some c4 ∧ w'.cell? ⟨b, 5, none⟩ = some c5 ∧ w'.cell? ⟨b, 6, none⟩ = some c6 ∧ w'.cell? ⟨b, 7, none⟩ = some c7) ∧ ∀ j, w'.frozen? ⟨b, j, none⟩ = false := by
  refine ⟨⟨?_, ?_, ?_, ?_, ?_, ?_, ?_, ?_⟩, fun j => ?_⟩
  all_goals simp [World.cell?, World.frozen?, h]
theorem rec_at (w : World) (C : Array Value) (t : TypeId) {w' : World} (f : Fr (fun _ => False) (w.alloc (.cells C t)) w') : w'.heap[w.heap.size]? = some (.cells C t (0, 0)) := by
  rw [f.block w.heap.size (by simp) (fun f => f)]; exact heap_alloc_new w _

/-- What '[]byte(..)' of a text lays. -/
theorem run_bytes (s : ByteArray) (w : World) : ∃ a cap w', (convert 9 23 (.string s)).run Try.prog w = .ok (.slice (some a) s.size cap) w' ∧ (s.size ≤ 140737488351232 → Row w' (some a) cap (bsOf s)) ∧ Fr (fun _ => False) w w' := by
  have h := run_bytes_of_string (P := Try.prog) w 9 23 5 s Try.underlying9 Try.underlying23 Try.underlying5
  refine ⟨_, _, _, h, fun hs => ⟨?_, ?_, ?_, bsOf_octs s, .inr ⟨_, _, rfl, by simp, fun i hi => ?_⟩⟩, ((Fr.refl _ w).drew).alloc _⟩
  · rw [bsOf_length]; exact grownCap_ge _ _ _ _
  · have := grownCap_le_maxLen w s.size 0 5 (by unfold maxLen; omega); unfold maxLen at this; omega
  · rw [bsOf_length]; omega
  · rw [Nat.zero_add]
    rw [bsOf_length] at hi
    exact bytes_cell s _ w.drew 5 _ i hi

set_option maxRecDepth 100000 in
set_option maxHeartbeats 400000 in
theorem rwithin_any (n a b : Int) (w : World) : Calls Try.prog 23 #[.int .i64 n, .int .i64 a, .int .i64 b] w fun e w' => e = .returned (.bool (wthB n a b)) ∧ w' = w := by
  by_cases h1 : a ≤ n
  · by_cases h2 : n ≤ b
    · have e : wthB n a b = true := by unfold wthB; rw [decide_eq_true_eq]; exact ⟨h1, h2⟩
      rw [e]
      go_enter Try.func23, Try.ntmps23
      go_wp2
      go_ret
      exact ⟨rfl, rfl⟩
    · have e : wthB n a b = false := by unfold wthB; rw [decide_eq_false_iff_not]; exact fun h => h2 h.2
      rw [e]
      go_enter Try.func23, Try.ntmps23
      go_wp2
      go_ret
      exact ⟨rfl, rfl⟩
  · have e : wthB n a b = false := by unfold wthB; rw [decide_eq_false_iff_not]; exact fun h => h1 h.1
    rw [e]
    go_enter Try.func23, Try.ntmps23
    go_wp2
    go_ret
    exact ⟨rfl, rfl⟩
set_option maxRecDepth 100000 in
set_option maxHeartbeats 400000 in
theorem isPage_any (n : Int) (w : World) : Calls Try.prog 33 #[.int .i64 n] w fun e w' => e = .returned (.bool (pgB n)) ∧ w' = w := by
  go_enter Try.func33, Try.ntmps33
  go_wp2_with (go_at_call 23; refine (rwithin_any _ _ _ _).mono ?_; rintro e w' ⟨rfl, rfl⟩)
  go_ret
  exact ⟨rfl, rfl⟩
set_option maxRecDepth 100000 in
set_option maxHeartbeats 400000 in
theorem isBare_any (lsn ep kind page other req : Int) (key val : ByteArray) (w : World) : Calls Try.prog 35 #[.agg #[.int .i64 lsn, .int .i64 ep, .int .i64 kind, .int .i64 page, .int .i64 other, .int .i64 req, .string key, .string val]] w fun e w' => e = .returned (.bool (page == 0 && (other == 0 && (req == 0 && (emp key && emp val))))) ∧ Fr (fun _ => False) w w' := by
  go_enter Try.func35, Try.ntmps35
  go_wp2
  all_goals go_ret
  all_goals exact ⟨ret_bool (by simp_all [emp]), Fr.box w _⟩
set_option maxRecDepth 100000 in
set_option maxHeartbeats 400000 in
theorem isEntry_any (lsn ep kind page other req : Int) (key val : ByteArray) (w : World) : Calls Try.prog 34 #[.agg #[.int .i64 lsn, .int .i64 ep, .int .i64 kind, .int .i64 page, .int .i64 other, .int .i64 req, .string key, .string val]] w fun e w' => e = .returned (.bool (keyB key && valB val)) ∧ w' = w.alloc (.cells #[.int .i64 lsn, .int .i64 ep, .int .i64 kind, .int .i64 page, .int .i64 other, .int .i64 req, .string key, .string val] 28) := by
  have H1 : Hid (keyB key = (((ekey key.size : Nat) : Int) == 0)) := by show _ = _; unfold keyB; rw [Bool.eq_iff_iff]; simp
  have H2 : Hid (valB val = (((evalu val.size : Nat) : Int) == 0)) := by show _ = _; unfold valB; rw [Bool.eq_iff_iff]; simp
  rw [H1.out, H2.out]
  have h1 := kcheck_any key
  have h2 := kvalue_any val
  generalize ((ekey key.size : Nat) : Int) = x at *
  generalize ((evalu val.size : Nat) : Int) = y at *
  by_cases hx : x = 0
  · subst hx
    go_enter Try.func34, Try.ntmps34
    go_wp2_with (first | (go_at_call 45; refine (h1 _).mono ?_; rintro e w' ⟨rfl, rfl⟩) | (go_at_call 46; refine (h2 _).mono ?_; rintro e w' ⟨rfl, rfl⟩))
    go_ret
    exact ⟨rfl, rfl⟩
  · have hx : (x == 0) = false := by simpa using hx
    rw [hx]
    go_enter Try.func34, Try.ntmps34
    go_wp2_with (first | (go_at_call 45; refine (h1 _).mono ?_; rintro e w' ⟨rfl, rfl⟩) | (go_at_call 46; refine (h2 _).mono ?_; rintro e w' ⟨rfl, rfl⟩))
    go_ret
    exact ⟨rfl, rfl⟩
set_option maxRecDepth 100000 in
set_option maxHeartbeats 400000 in
theorem isNewPage_any (s : ByteArray) (w : World) : Calls Try.prog 36 #[.string s] w fun e w' => e = .returned (.bool (newB s)) ∧ Fr (fun _ => False) w w' := by
  obtain ⟨a, c, w1, hcv, hr, f1⟩ := run_bytes s w
  have hd : Calls Try.prog 47 #[.slice (some a) s.size c] w1 fun e w' => ∃ p3 : Pt, e = .returned (.tuple #[(.agg #[.int .i64 ((decF (bsOf s)).getD zn).lev, .int .i64 ((decF (bsOf s)).getD zn).lsn, .int .i64 ((decF (bsOf s)).getD zn).rgt, .string ((decF (bsOf s)).getD zn).high, .slice p3.k ((decF (bsOf s)).getD zn).keys.length p3.kc, .slice p3.v ((decF (bsOf s)).getD zn).vals.length p3.vc, .slice p3.i ((decF (bsOf s)).getD zn).kids.length p3.ic]), .int .i64 (if (decF (bsOf s)).isSome = true then 0 else 60)]) ∧ Nod w' ((decF (bsOf s)).getD zn) p3 ∧ Fr (fun _ => False) w1 w' := by
    by_cases h : s.size = 256
    · exact decode_all (some a) s.size c (bsOf s) (bsOf_length s).symm w1 (hr (by omega))
    · exact (decode_len (some a) s.size c (bsOf s) (bsOf_length s).symm (by rw [bsOf_length]; exact h) w1).mono fun e w' ⟨p, x, y, z, _⟩ => ⟨p, x, y, z⟩
  have HN : Hid (newB s = ((decF (bsOf s)).isSome && (((decF (bsOf s)).getD zn).lsn == 0))) := rfl
  rw [HN.out]
  generalize (decF (bsOf s)).getD zn = n at *
  generalize (decF (bsOf s)).isSome = b at *
  clear HN hr
  cases b with
  | true =>
    simp only [if_true] at hd
    go_enter Try.func36, Try.ntmps36
    go_wp2_with (go_at_call 47; refine hd.mono ?_; rintro e w2 ⟨p3, rfl, _, f2⟩)
    go_ret
    exact ⟨rfl, (f1.seq' f2).alloc _⟩
  | false =>
    simp only [Bool.false_eq_true, if_false] at hd
    go_enter Try.func36, Try.ntmps36
    go_wp2_with (go_at_call 47; refine hd.mono ?_; rintro e w2 ⟨p3, rfl, _, f2⟩)
    go_ret
    exact ⟨rfl, (f1.seq' f2).alloc _⟩
end Go.Proofs.Ytcmkpmilnplhmaa

/- A record that came in. -/
namespace Go.Proofs.Ytcmkpmilnplhmaa
open Go.ChangeShapes Go.WideShapes Go.ChangeAt Go.RowKit

theorem rcellsI : Try.prog.cellsOf 3 = 1 := by kernel_rfl
theorem rcellsS : Try.prog.cellsOf 9 = 1 := by kernel_rfl
theorem rcellsR : Try.prog.cellsOf 28 = 8 := by kernel_rfl
theorem array8 {α : Type} {cs : Array α} (h : cs.size = 8) : ∃ c0 c1 c2 c3 c4 c5 c6 c7, cs = #[c0, c1, c2, c3, c4, c5, c6, c7] := by
  obtain ⟨l⟩ := cs
  match l, h with
  | [c0, c1, c2, c3, c4, c5, c6, c7], _ => exact ⟨c0, c1, c2, c3, c4, c5, c6, c7, rfl⟩
section
variable {H : Type} {enc : TypeId × Value → H} {w : World} {base : Nat} {spare : Nat → Bool} {held : Bool}
set_option maxRecDepth 100000 in
theorem rec_open {r : Reach} {b0 : Nat} {v : Value} {d : DataW H} {pl : List MemPlace} (hv : Value.okWide Try.prog w r b0 28 v) (h : DataW.Trod enc Try.prog w base spare held 28 v d pl) (hz : ∀ z ∈ d.weights Try.prog 28, z ≤ reachBytes) :
    ∃ (r : Rec), v = (.agg #[.int .i64 r.lsn, .int .i64 r.ep, .int .i64 r.kind, .int .i64 r.page, .int .i64 r.other, .int .i64 r.req, .string r.key, .string r.val]) ∧ r.key.size ≤ 140737488351232 ∧ r.val.size ≤ 140737488351232 := by
  obtain ⟨cs, rfl, hsz⟩ := okWide_struct Try.underlying28 hv
  obtain ⟨c0, c1, c2, c3, c4, c5, c6, c7, rfl⟩ := array8 (hsz.trans rcellsR)
  obtain ⟨fuel, hf⟩ := h
  obtain ⟨xs, m, _, hx, hl, hlen, hfs⟩ := DataW.trod_struct Try.underlying28 hf
  match xs, hlen with
  | [y0, y1, y2, y3, y4, y5, y6, y7], _ =>
    have t0 := hfs 0 _ rfl
    have t1 := hfs 1 _ rfl
    have t2 := hfs 2 _ rfl
    have t3 := hfs 3 _ rfl
    have t4 := hfs 4 _ rfl
    have t5 := hfs 5 _ rfl
    have t6 := hfs 6 _ rfl
    have t7 := hfs 7 _ rfl
    simp [Value.cells, rcellsI, rcellsS] at t0 t1 t2 t3 t4 t5 t6 t7
    have hd : d = .agg [y0.1, y1.1, y2.1, y3.1, y4.1, y5.1, y6.1, y7.1] := by simpa using congrArg Prod.fst hx
    rw [hd] at hz
    simp only [DataW.weights, Try.underlying28] at hz
    have z6 : ∀ z ∈ y6.1.weights Try.prog 9, z ≤ reachBytes := fun z h => hz z (DataW.weights_mem_each (j := 6) rfl rfl z h)
    have z7 : ∀ z ∈ y7.1.weights Try.prog 9, z ≤ reachBytes := fun z h => hz z (DataW.weights_mem_each (j := 7) rfl rfl z h)
    obtain ⟨b0, e0, _, _⟩ := DataW.trod_int Try.underlying3 t0
    obtain ⟨b1, e1, _, _⟩ := DataW.trod_int Try.underlying3 t1
    obtain ⟨b2, e2, _, _⟩ := DataW.trod_int Try.underlying3 t2
    obtain ⟨b3, e3, _, _⟩ := DataW.trod_int Try.underlying3 t3
    obtain ⟨b4, e4, _, _⟩ := DataW.trod_int Try.underlying3 t4
    obtain ⟨b5, e5, _, _⟩ := DataW.trod_int Try.underlying3 t5
    obtain ⟨b6, e6, e6', _⟩ := DataW.trod_string Try.underlying9 t6
    obtain ⟨b7, e7, e7', _⟩ := DataW.trod_string Try.underlying9 t7
    simp only [List.cons.injEq, and_true] at e0 e1 e2 e3 e4 e5 e6 e7
    subst e0 e1 e2 e3 e4 e5 e6 e7
    rw [e6'] at z6
    rw [e7'] at z7
    have w6 := z6 b6.data.toList.length (by simp [DataW.weights])
    have w7 := z7 b7.data.toList.length (by simp [DataW.weights])
    rw [← Lib.size_eq] at w6 w7
    exact ⟨⟨b0, b1, b2, b3, b4, b5, b6, b7⟩, rfl, by simpa [reachBytes] using w6, by simpa [reachBytes] using w7⟩
end
end Go.Proofs.Ytcmkpmilnplhmaa

/- Lists of records in memory; a slice of records that came in. -/
namespace Go.Proofs.Ytcmkpmilnplhmaa
open Go.ChangeShapes Go.WideShapes Go.ChangeAt Go.RowKit Go.Deep

/-- A record's cells. -/
def recC (r : Rec) : List Value := [.int .i64 r.lsn, .int .i64 r.ep, .int .i64 r.kind, .int .i64 r.page, .int .i64 r.other, .int .i64 r.req, .string r.key, .string r.val]
theorem recC_length (r : Rec) : (recC r).length = 8 := rfl
theorem recC_one (r : Rec) : ∀ u ∈ recC r, u.oneCell' = true := by
  intro u hu
  simp only [recC, List.mem_cons, List.not_mem_nil, or_false] at hu
  rcases hu with h | h | h | h | h | h | h | h <;> (subst h; rfl)
theorem rec_range {w : World} {b o : Nat} {r : Rec} (h : w.rangeAt b o (recC r)) : w.cell? ⟨b, o, none⟩ = some (.int .i64 r.lsn) ∧ w.cell? ⟨b, o + 1, none⟩ = some (.int .i64 r.ep) ∧ w.cell? ⟨b, o + 2, none⟩ = some (.int .i64 r.kind) ∧ w.cell? ⟨b, o + 3, none⟩ = some (.int .i64 r.page) ∧ w.cell? ⟨b, o + 4, none⟩ = some (.int .i64 r.other) ∧ w.cell? ⟨b, o + 5, none⟩ = some (.int .i64 r.req) ∧ w.cell? ⟨b, o + 6, none⟩ = some (.string r.key) ∧ w.cell? ⟨b, o + 7, none⟩ = some (.string r.val) :=
  ⟨h 0 _ rfl, h 1 _ rfl, h 2 _ rfl, h 3 _ rfl, h 4 _ rfl, h 5 _ rfl, h 6 _ rfl, h 7 _ rfl⟩
/-- A slice of records as a walk sees it. -/
structure Recs (w : World) (a : Option Addr) (cap : Nat) (ls : List Rec) : Prop where
  le : ls.length ≤ cap
  max : cap ≤ 9223372036854775807
  at_ : ls = [] ∨ ∃ b off, a = some ⟨b, off, none⟩ ∧ b < w.heap.size ∧ ∀ i r, ls[i]? = some r → w.rangeAt b (off + i * 8) (recC r)
theorem Recs.same {w w' : World} {a : Option Addr} {cap : Nat} {ls : List Rec} (h : Recs w a cap ls) (f : Fr (fun _ => False) w w') : Recs w' a cap ls := by
  refine ⟨h.le, h.max, ?_⟩
  rcases h.at_ with h0 | ⟨b, off, rfl, hb, hc⟩
  · exact .inl h0
  · exact .inr ⟨b, off, rfl, Nat.lt_of_lt_of_le hb f.size, fun i r hr => range_fr (hc i r hr) f (fun f => f)⟩
theorem Recs.some {w : World} {a : Option Addr} {cap : Nat} {ls : List Rec} (h : Recs w a cap ls) (hn : 0 < ls.length) : ∃ b off, a = some ⟨b, off, none⟩ ∧ b < w.heap.size ∧ ∀ i r, ls[i]? = some r → w.rangeAt b (off + i * 8) (recC r) := by
  rcases h.at_ with h0 | h
  · rw [h0] at hn; simp at hn
  · exact h

def rec0 : Rec := ⟨0, 0, 0, 0, 0, 0, ⟨#[]⟩, ⟨#[]⟩⟩
section
variable {H : Type} {enc : TypeId × Value → H} {w : World}
set_option maxRecDepth 100000 in
/-- A record's eight cells that came in. -/
theorem rec_in {fuel : Nat} {cs : List Value} {x : DataW H × List MemPlace} (hlen : cs.length = 8) (h : DataW.trod enc Try.prog w 0 (fun _ => true) true fuel 28 cs = some x) : ∃ r : Rec, cs = recC r := by
  obtain ⟨xs, n', _, _, _, hxl, hfl⟩ := DataW.trod_struct Try.underlying28 h
  have t0 := hfl 0 _ rfl
  have t1 := hfl 1 _ rfl
  have t2 := hfl 2 _ rfl
  have t3 := hfl 3 _ rfl
  have t4 := hfl 4 _ rfl
  have t5 := hfl 5 _ rfl
  have t6 := hfl 6 _ rfl
  have t7 := hfl 7 _ rfl
  match xs, hxl with
  | [y0, y1, y2, y3, y4, y5, y6, y7], _ =>
  match cs, hlen with
  | [c0, c1, c2, c3, c4, c5, c6, c7], _ =>
    simp [rcellsI, rcellsS] at t0 t1 t2 t3 t4 t5 t6 t7
    obtain ⟨b0, e0, _, _⟩ := DataW.trod_int Try.underlying3 t0
    obtain ⟨b1, e1, _, _⟩ := DataW.trod_int Try.underlying3 t1
    obtain ⟨b2, e2, _, _⟩ := DataW.trod_int Try.underlying3 t2
    obtain ⟨b3, e3, _, _⟩ := DataW.trod_int Try.underlying3 t3
    obtain ⟨b4, e4, _, _⟩ := DataW.trod_int Try.underlying3 t4
    obtain ⟨b5, e5, _, _⟩ := DataW.trod_int Try.underlying3 t5
    obtain ⟨b6, e6, _, _⟩ := DataW.trod_string Try.underlying9 t6
    obtain ⟨b7, e7, _, _⟩ := DataW.trod_string Try.underlying9 t7
    simp only [List.cons.injEq, and_true] at e0 e1 e2 e3 e4 e5 e6 e7
    subst e0 e1 e2 e3 e4 e5 e6 e7
    exact ⟨⟨b0, b1, b2, b3, b4, b5, b6, b7⟩, rfl⟩
set_option maxRecDepth 100000 in
theorem recs_open {fuel len cap : Nat} {a : Option Addr} {d : DataW H} {p : List MemPlace} 
    (h : DataW.trod enc Try.prog w 0 (fun _ => true) true fuel 22 [.slice a len cap] = some (d, p)) :
    ∃ ls : List Rec, len = ls.length ∧ Recs w a cap ls ∧ (d = .nil ∧ ls = [] ∨ ∃ elems spare, d = .slice elems spare ∧ elems.length = ls.length) := by
  rcases open_slice Try.underlying22 h with ⟨hcs, hx⟩ | ⟨x, l, c, m, n, D, Pl, hcs, _, hl, hm, hmm, hx, heach⟩
  · simp at hcs
    obtain ⟨rfl, rfl, rfl⟩ := hcs
    simp only [Prod.mk.injEq] at hx
    exact ⟨[], rfl, ⟨Nat.le_refl _, by omega, .inl rfl⟩, .inl ⟨hx.1, rfl⟩⟩
  · simp at hcs
    obtain ⟨rfl, rfl, rfl⟩ := hcs
    simp only [if_true] at hmm
    subst hmm
    rw [rcellsR] at heach
    have each : ∀ i, i < m → ∃ r : Rec, ∀ j v, (recC r)[j]? = some v → w.cell? (x.add (i * 8 + j)) = some v := by
      intro i hi
      obtain ⟨cs', hc, ht'⟩ := heach i hi
      obtain ⟨_, hlen, hcell⟩ := World.cells?_some hc
      obtain ⟨r, hr⟩ := rec_in hlen ht'
      refine ⟨r, fun j v hv => ?_⟩
      have hj : j < 8 := by have := (List.getElem?_eq_some_iff.1 hv).1; rwa [recC_length] at this
      have z := hcell j (by omega)
      rw [add_add] at z
      rw [z, hr]
      exact hv
    have inh : Inhabited Rec := ⟨rec0⟩
    obtain ⟨f, hf⟩ := choose_lt (α := Rec) each
    have hget : ∀ i s, ((List.range len).map f)[i]? = some s → i < len ∧ s = f i := by
      intro i s hs
      have hi : i < len := by have := (List.getElem?_eq_some_iff.1 hs).1; simpa using this
      refine ⟨hi, ?_⟩
      simp [hi] at hs
      exact hs.symm
    refine ⟨(List.range len).map f, by simp, ⟨by simpa using hl, by unfold maxLen at hm; omega, ?_⟩, .inr ?_⟩
    · by_cases h0 : len = 0
      · exact .inl (by simp [h0])
      · obtain ⟨b, off, spot⟩ := x
        have hc := hf 0 (by omega) 0 _ rfl
        have hspot : spot = none := by simpa [Addr.add] using World.cell?_spot hc
        subst hspot
        refine .inr ⟨b, off, rfl, World.block_lt_of_cell? w ⟨b, off + (0 * 8 + 0), none⟩ (by rw [Addr.add_lit] at hc; exact hc), fun i s hs => ?_⟩
        obtain ⟨hi, rfl⟩ := hget i s hs
        intro j v hv
        have := hf i (by omega) j v hv
        rw [Addr.add_lit, ← Nat.add_assoc] at this
        exact this
    · simp only [Prod.mk.injEq] at hx
      exact ⟨_, _, hx.1, by simp⟩
end
end Go.Proofs.Ytcmkpmilnplhmaa
