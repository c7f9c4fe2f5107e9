
/- What a sender does. -/
import Derived.Test.YtimpoincnfiibaaShLg
import Derived.Deep.QuietTactic
import Derived.BigQuiet
import Derived.Deep.RegionHeld3
namespace Go.Proofs.Ytimpoincnfiibaa
open Go.RowKit Crcm

theorem recs_frS {S : Nat → Prop} {w w' : World} {a : Option Addr} {cap : Nat} {ls : List Rec} (h : Recs w a cap ls) (f : Fr S w w') (hn : ∀ k b o, a = some ⟨b, o, none⟩ → ls ≠ [] → S k → k ≠ b) : Recs w' a cap ls := by
  refine ⟨h.le, h.max, ?_⟩
  rcases h.at_ with h0 | ⟨b, off, rfl, hb, hc⟩
  · exact .inl h0
  · by_cases h0 : ls = []
    · exact .inl h0
    · exact .inr ⟨b, off, rfl, Nat.lt_of_lt_of_le hb f.size, fun i r hr => range_fr (hc i r hr) f (fun e => hn b b off rfl h0 e rfl)⟩
theorem snew_yes (x : Int) (h1 : 1 ≤ x) (h2 : x ≤ 1099511627776) (w : World) : Calls Try.prog 8 #[.int .i64 x] w fun e w' => e = .returned (.tuple #[.pointer (some ⟨w.heap.size, 0, none⟩), .int .i64 0]) ∧ Two w' w.heap.size 57 (.int .i64 x) (.int .i64 0) ∧ Fr (fun _ => False) w w' := by
  have d1 : decide (x < 1) = false := decide_eq_false (by omega)
  have d2 : decide (1099511627776 < x) = false := decide_eq_false (by omega)
  go_enter Try.func8, Try.ntmps8
  go_wp2
  go_ret2
  exact ⟨rfl, Two.new _ _ _ _, Fr.box _ _⟩
theorem snew_no (x : Int) (h : ¬ (1 ≤ x ∧ x ≤ 1099511627776)) (w : World) : Calls Try.prog 8 #[.int .i64 x] w fun e w' => e = .returned (.tuple #[.pointer none, .int .i64 1]) ∧ w = w' := by
  have hd : decide (x < 1) = true ∨ (decide (x < 1) = false ∧ decide (1099511627776 < x) = true) := by
    by_cases h0 : x < 1
    · exact .inl (decide_eq_true h0)
    · exact .inr ⟨decide_eq_false h0, decide_eq_true (by omega)⟩
  clear h
  rcases hd with d1 | ⟨d1, d2⟩
  all_goals
    go_enter Try.func8, Try.ntmps8
    go_wp2
    go_ret2
    exact ⟨rfl, rfl⟩
theorem at_nil (w : World) : Calls Try.prog 13 #[.pointer none] w fun e w' => e = .returned (.tuple #[.int .i64 0, .int .i64 0]) ∧ w = w' := by
  go_enter Try.func13, Try.ntmps13
  go_wp2
  go_ret2
  exact ⟨rfl, rfl⟩
theorem at_some (sb : Nat) (x m : Int) (w : World) (h : Two w sb 57 (.int .i64 x) (.int .i64 m)) : Calls Try.prog 13 #[.pointer (some ⟨sb, 0, none⟩)] w fun e w' => e = .returned (.tuple #[.int .i64 x, .int .i64 m]) ∧ Fr (fun _ => False) w w' := by
  obtain ⟨x0, x1, _⟩ := h.cells
  clear h
  go_enter Try.func13, Try.ntmps13
  go_wp2_with fail
  go_quiet (fail)
  go_wp2
  go_ret2
  exact ⟨rfl, Fr.drewN (Fr.refl _ _) _⟩
theorem acked_nil (x : Int) (w : World) : Calls Try.prog 11 #[.pointer none, .int .i64 x] w fun e w' => e = .returned (.bool false) ∧ w = w' := by
  go_enter Try.func11, Try.ntmps11
  go_wp2
  go_ret
  exact ⟨rfl, rfl⟩
theorem refused_nil (x : Int) (w : World) : Calls Try.prog 12 #[.pointer none, .int .i64 x] w fun e w' => e = .returned (.bool false) ∧ Fr (fun _ => False) w w' := by
  go_enter Try.func12, Try.ntmps12
  go_wp2_with fail
  go_quiet (fail)
  go_wp2
  go_ret
  exact ⟨rfl, Fr.drewN (Fr.refl _ _) _⟩
/-- What a sender becomes. -/
def ackB (m x : Int) : Bool := decide (m < x) && decide (x < 1099511627776)
def StOut (w : World) (sb : Nat) (t : TypeId) (b : Bool) (x m : Int) (e : Ending) (w' : World) : Prop := e = .returned (.bool b) ∧ Two w' sb t (.int .i64 x) (.int .i64 m) ∧ Fr (fun k => k = sb) w w'
set_option maxRecDepth 100000 in
set_option maxHeartbeats 1000000 in
theorem acked_any (sb : Nat) (n m x : Int) (hm : 0 ≤ m) (w : World) (h : Two w sb 57 (.int .i64 n) (.int .i64 m)) : Calls Try.prog 11 #[.pointer (some ⟨sb, 0, none⟩), .int .i64 x] w (StOut w sb 57 (ackB m x) (if ackB m x then x + 1 else n) (if ackB m x then x else m)) := by
  obtain ⟨x0, x1, z0, z1⟩ := h.cells
  by_cases h1 : m < x
  · have d1 : decide (x ≤ m) = false := decide_eq_false (by omega)
    by_cases h2 : x < 1099511627776
    · have d2 : decide (1099511627776 ≤ x) = false := decide_eq_false (by omega)
      have hb : ackB m x = true := by unfold ackB; rw [decide_eq_true h1, decide_eq_true h2]; rfl
      rw [hb]
      obtain ⟨t1, f1⟩ := h.fin (.int .i64 (x + 1)) (.int .i64 x)
      have H : Hid (Two ((w.setCell ⟨sb, 0, none⟩ (.int .i64 (x + 1))).setCell ⟨sb, 1, none⟩ (.int .i64 x)) sb 57 (.int .i64 (x + 1)) (.int .i64 x) ∧ Fr (fun k => k = sb) w ((w.setCell ⟨sb, 0, none⟩ (.int .i64 (x + 1))).setCell ⟨sb, 1, none⟩ (.int .i64 x))) := ⟨t1, f1⟩
      have hw1 : IntKind.i64.wrap (x + 1) = x + 1 := by simp [IntKind.wrap, IntKind.bits, IntKind.signed]; omega
      clear h hb t1 f1
      go_enter Try.func11, Try.ntmps11
      go_wp2
      go_ret
      exact ⟨rfl, H.out.1, H.out.2⟩
    · have d2 : decide (1099511627776 ≤ x) = true := decide_eq_true (by omega)
      have hb : ackB m x = false := by unfold ackB; rw [decide_eq_false h2, Bool.and_false]
      rw [hb]
      have H : Hid (Two w sb 57 (.int .i64 n) (.int .i64 m)) := h
      clear h hb
      go_enter Try.func11, Try.ntmps11
      go_wp2
      go_ret
      exact ⟨rfl, H.out, Fr.refl _ _⟩
  · have d1 : decide (x ≤ m) = true := decide_eq_true (by omega)
    have hb : ackB m x = false := by unfold ackB; rw [decide_eq_false h1]; rfl
    rw [hb]
    have H : Hid (Two w sb 57 (.int .i64 n) (.int .i64 m)) := h
    clear h hb
    go_enter Try.func11, Try.ntmps11
    go_wp2
    go_ret
    exact ⟨rfl, H.out, Fr.refl _ _⟩
/-- Where a sender goes back to. -/
def refB (n m : Int) : Bool := decide (m + 1 < n)
def refN (n m x : Int) : Int := if m < x ∧ x < n - 1 then x + 1 else m + 1
set_option maxRecDepth 100000 in
set_option maxHeartbeats 1000000 in
theorem refused_any (sb : Nat) (n m x : Int) (hm : 0 ≤ m) (hn : m < n) (hn1 : n ≤ 1099511627776) (w : World) (h : Two w sb 57 (.int .i64 n) (.int .i64 m)) : Calls Try.prog 12 #[.pointer (some ⟨sb, 0, none⟩), .int .i64 x] w (StOut w sb 57 (refB n m) (if refB n m then refN n m x else n) m) := by
  have hw1 : IntKind.i64.wrap (m + 1) = m + 1 := by simp [IntKind.wrap, IntKind.bits, IntKind.signed]; omega
  have hw2 : IntKind.i64.wrap (n - 1) = n - 1 := by simp [IntKind.wrap, IntKind.bits, IntKind.signed]; omega
  obtain ⟨x0, x1, z0, z1⟩ := h.cells
  by_cases h1 : m + 1 < n
  · have d1 : decide (n ≤ m + 1) = false := decide_eq_false (by omega)
    have hb : refB n m = true := decide_eq_true h1
    rw [hb]
    have HS : Hid (∀ v nq, Two ((w.drewN nq).setCell ⟨sb, 0, none⟩ (.int .i64 v)) sb 57 (.int .i64 v) (.int .i64 m) ∧ Fr (fun k => k = sb) w ((w.drewN nq).setCell ⟨sb, 0, none⟩ (.int .i64 v))) := fun v nq => ⟨(h.fr (Fr.drewN (Fr.refl (fun _ => False) w) nq) (fun f => f)).set0 _, (Fr.drewN (Fr.refl (fun k => k = sb) w) nq).setCell (p := ⟨sb, 0, none⟩) (fun _ => rfl) _⟩
    clear h hb
    by_cases h2 : m < x
    · have d2 : decide (x ≤ m) = false := decide_eq_false (by omega)
      by_cases h3 : x < n - 1
      · have d3 : decide (n - 1 ≤ x) = false := decide_eq_false (by omega)
        have hw3 : IntKind.i64.wrap (x + 1) = x + 1 := by simp [IntKind.wrap, IntKind.bits, IntKind.signed]; omega
        have hr : refN n m x = x + 1 := if_pos ⟨h2, h3⟩
        rw [hr]
        clear hr
        go_enter Try.func12, Try.ntmps12
        go_wp2_with fail
        go_quiet (fail)
        go_wp2
        go_ret
        exact ⟨rfl, HS.out _ _⟩
      · have d3 : decide (n - 1 ≤ x) = true := decide_eq_true (by omega)
        have hr : refN n m x = m + 1 := if_neg (fun h => h3 h.2)
        rw [hr]
        clear hr
        go_enter Try.func12, Try.ntmps12
        go_wp2_with fail
        go_quiet (fail)
        go_wp2
        go_ret
        exact ⟨rfl, HS.out _ _⟩
    · have d2 : decide (x ≤ m) = true := decide_eq_true (by omega)
      have hr : refN n m x = m + 1 := if_neg (fun h => h2 h.1)
      rw [hr]
      clear hr
      go_enter Try.func12, Try.ntmps12
      go_wp2_with fail
      go_quiet (fail)
      go_wp2
      go_ret
      exact ⟨rfl, HS.out _ _⟩
  · have d1 : decide (n ≤ m + 1) = true := decide_eq_true (by omega)
    have hb : refB n m = false := decide_eq_false h1
    rw [hb]
    have HS : Hid (∀ nq, Two (w.drewN nq) sb 57 (.int .i64 n) (.int .i64 m) ∧ Fr (fun k => k = sb) w (w.drewN nq)) := fun nq => ⟨h.fr (Fr.drewN (Fr.refl (fun _ => False) w) nq) (fun f => f), Fr.drewN (Fr.refl _ w) nq⟩
    clear h hb
    go_enter Try.func12, Try.ntmps12
    go_wp2_with fail
    go_quiet (fail)
    go_wp2
    go_ret
    exact ⟨rfl, HS.out _⟩
theorem send_nil (l : Option Addr) (x : Int) (w : World) : Calls Try.prog 9 #[.pointer none, .pointer l, .int .i64 x] w fun e w' => e = .returned (.tuple #[.agg #[.int .i64 0, .int .i64 0], .slice none 0 0]) ∧ Fr (fun _ => False) w w' := by
  have T := Two.new w 36 (.int .i64 0) (.int .i64 0)
  obtain ⟨y0, y1, _⟩ := T.cells
  go_enter Try.func9, Try.ntmps9
  go_wp2
  refine bodyPost_ret (v := .tuple #[.agg #[.int .i64 0, .int .i64 0], .slice none 0 0]) (by simp [results, Try.results9, go_sem, y0, y1]) rfl ?_
  exact ⟨rfl, Fr.box _ _⟩
/-- What is sent. -/
def SdOut (w : World) (ls : List Rec) (n most : Int) (e : Ending) (w' : World) : Prop := ∃ a c, e = .returned (.tuple #[.agg #[.int .i64 (gtR ls (n - 1)).ep, .int .i64 (gtR ls (n - 1)).lsn], .slice a (frF ls n most).length c]) ∧ Recs w' a c (frF ls n most) ∧ Nwr w a (frF ls n most) ∧ Fr (fun _ => False) w w'
set_option maxRecDepth 100000 in
set_option maxHeartbeats 2000000 in
theorem send_any (sb : Nat) (n m most : Int) (hn : 1 ≤ n) (hn1 : n ≤ 1099511627776) (lb : Nat) (rv : Value) (ls : List Rec) (fl : Int) (w : World) (h : Two w sb 57 (.int .i64 n) (.int .i64 m)) (hl : Lg w lb rv ls fl) (hm : ls.length ≤ 65536) : Calls Try.prog 9 #[.pointer (some ⟨sb, 0, none⟩), .pointer (some ⟨lb, 0, none⟩), .int .i64 most] w (SdOut w ls n most) := by
  have hw2 : IntKind.i64.wrap (n - 1) = n - 1 := by simp [IntKind.wrap, IntKind.bits, IntKind.signed]; omega
  have f0 := Fr.box w (.cells #[.int .i64 0, .int .i64 0] 36)
  have HG : Hid (∀ W, Fr (fun _ => False) w W → Calls Try.prog 18 #[.pointer (some ⟨lb, 0, none⟩), .int .i64 (n - 1)] W fun e w' => e = .returned (.tuple #[(.agg #[.int .i64 (gtR ls (n - 1)).lsn, .int .i64 (gtR ls (n - 1)).ep, .int .i64 (gtR ls (n - 1)).kind, .int .i64 (gtR ls (n - 1)).page, .int .i64 (gtR ls (n - 1)).other, .int .i64 (gtR ls (n - 1)).req, .string (gtR ls (n - 1)).key, .string (gtR ls (n - 1)).val]), .int .i64 (gtE ls (n - 1))]) ∧ Fr (fun _ => False) W w') := fun W f => get_lg (n - 1) lb rv ls fl W (hl.same f) hm
  have HFM : Hid (∀ W, Fr (fun _ => False) w W → Calls Try.prog 21 #[.pointer (some ⟨lb, 0, none⟩), .int .i64 n, .int .i64 most] W fun e w' => ∃ a c, e = .returned (.slice a (frF ls n most).length c) ∧ Recs w' a c (frF ls n most) ∧ Nwr W a (frF ls n most) ∧ Fr (fun _ => False) W w') := fun W f => from_lg n most (by omega) lb rv ls fl W (hl.same f) hm
  have HMK : Hid (∀ W, Calls Try.prog 20 #[(.agg #[.int .i64 (gtR ls (n - 1)).lsn, .int .i64 (gtR ls (n - 1)).ep, .int .i64 (gtR ls (n - 1)).kind, .int .i64 (gtR ls (n - 1)).page, .int .i64 (gtR ls (n - 1)).other, .int .i64 (gtR ls (n - 1)).req, .string (gtR ls (n - 1)).key, .string (gtR ls (n - 1)).val])] W fun e w' => e = .returned (.agg #[.int .i64 (gtR ls (n - 1)).ep, .int .i64 (gtR ls (n - 1)).lsn]) ∧ Fr (fun _ => False) W w') := markOf_any _
  have HT : Hid (∀ W, Fr (fun _ => False) w W → Two W sb 57 (.int .i64 n) (.int .i64 m)) := fun W f => h.fr f (fun f => f)
  have HSB : Hid (sb < w.heap.size) := h.lt
  have HO : Hid (∀ e w', SdOut w ls n most e w' ↔ ∃ a c, e = .returned (.tuple #[.agg #[.int .i64 (gtR ls (n - 1)).ep, .int .i64 (gtR ls (n - 1)).lsn], .slice a (frF ls n most).length c]) ∧ Recs w' a c (frF ls n most) ∧ Nwr w a (frF ls n most) ∧ Fr (fun _ => False) w w') := fun _ _ => Iff.rfl
  generalize SdOut w ls n most = OUT at *
  generalize gtR ls (n - 1) = r at *
  generalize gtE ls (n - 1) = E at *
  generalize frF ls n most = L at *
  obtain ⟨y0, y1, _⟩ := (HT.out _ f0).cells
  have HR : Hid (∀ W, Fr (fun _ => False) (w.alloc (.cells #[.int .i64 0, .int .i64 0] 36)) W → Two W w.heap.size 36 (.int .i64 0) (.int .i64 0)) := fun W f => (Two.new w _ _ _).fr f (fun f => f)
  clear h hl hm
  go_enter Try.func9, Try.ntmps9
  go_wp2_with fail
  generalize w.alloc (.cells #[.int .i64 0, .int .i64 0] 36) = V at *
  refine (HG.out _ f0).mono ?_
  rintro e w1 ⟨rfl, g1⟩
  have fb := Fr.box w1 (.cells #[.int .i64 r.lsn, .int .i64 r.ep, .int .i64 r.kind, .int .i64 r.page, .int .i64 r.other, .int .i64 r.req, .string r.key, .string r.val] 47)
  have G1 := g1.seq' fb
  have HB : Hid (∀ W, Fr (fun _ => False) (w1.alloc (.cells #[.int .i64 r.lsn, .int .i64 r.ep, .int .i64 r.kind, .int .i64 r.page, .int .i64 r.other, .int .i64 r.req, .string r.key, .string r.val] 47)) W → W.heap[w1.heap.size]? = some (.cells #[.int .i64 r.lsn, .int .i64 r.ep, .int .i64 r.kind, .int .i64 r.page, .int .i64 r.other, .int .i64 r.req, .string r.key, .string r.val] 47 (0, 0))) := fun W f => rec_at w1 _ _ f
  clear y0 y1
  go_wp2_with fail
  have HSZ : Hid (w.heap.size < w1.heap.size) := by have := ((HR.out _ (Fr.refl _ _)).lt); have := g1.size; show _ < _; omega
  generalize w1.alloc (.cells #[.int .i64 r.lsn, .int .i64 r.ep, .int .i64 r.kind, .int .i64 r.page, .int .i64 r.other, .int .i64 r.req, .string r.key, .string r.val] 47) = W1 at *
  have GD := G1.drew
  have fD : Fr (fun _ => False) W1 W1.drew := Fr.drew (Fr.refl _ _)
  have HQ : Hid (∀ W, Fr (fun _ => False) W1 W → W.cell? ⟨sb, 0, none⟩ = some (.int .i64 n) ∧ W.cell? ⟨w1.heap.size, 0, none⟩ = some (.int .i64 r.lsn) ∧ W.cell? ⟨w1.heap.size, 1, none⟩ = some (.int .i64 r.ep) ∧ W.cell? ⟨w1.heap.size, 2, none⟩ = some (.int .i64 r.kind) ∧ W.cell? ⟨w1.heap.size, 3, none⟩ = some (.int .i64 r.page) ∧ W.cell? ⟨w1.heap.size, 4, none⟩ = some (.int .i64 r.other) ∧ W.cell? ⟨w1.heap.size, 5, none⟩ = some (.int .i64 r.req) ∧ W.cell? ⟨w1.heap.size, 6, none⟩ = some (.string r.key) ∧ W.cell? ⟨w1.heap.size, 7, none⟩ = some (.string r.val)) := fun W f => ⟨(HT.out _ (f0.seq' (G1.seq' f))).cells.1, (rec_cells (HB.out _ f)).1⟩
  have HQ4 : Hid (∀ W X, Fr (fun _ => False) W1 W → Fr (fun k => k = w.heap.size) W X → X.cell? ⟨sb, 0, none⟩ = some (.int .i64 n) ∧ X.cell? ⟨w1.heap.size, 0, none⟩ = some (.int .i64 r.lsn) ∧ X.cell? ⟨w1.heap.size, 1, none⟩ = some (.int .i64 r.ep) ∧ X.cell? ⟨w1.heap.size, 2, none⟩ = some (.int .i64 r.kind) ∧ X.cell? ⟨w1.heap.size, 3, none⟩ = some (.int .i64 r.page) ∧ X.cell? ⟨w1.heap.size, 4, none⟩ = some (.int .i64 r.other) ∧ X.cell? ⟨w1.heap.size, 5, none⟩ = some (.int .i64 r.req) ∧ X.cell? ⟨w1.heap.size, 6, none⟩ = some (.string r.key) ∧ X.cell? ⟨w1.heap.size, 7, none⟩ = some (.string r.val)) := fun W X f fs => by
    have hb := HB.out _ f
    have hb' := (fs.block w1.heap.size (Array.getElem?_eq_some_iff.1 hb).1 (by have := HSZ.out; omega)).trans hb
    exact ⟨((HT.out _ (f0.seq' (G1.seq' f))).fr fs (by have := HSB.out; omega)).cells.1, (rec_cells hb').1⟩
  have q1 := HQ.out _ fD
  have r1 := HMK.out W1.drew
  go_region_held3 (fun W => W.cell? ⟨sb, 0, none⟩ = some (.int .i64 n) ∧ W.cell? ⟨w1.heap.size, 0, none⟩ = some (.int .i64 r.lsn) ∧ W.cell? ⟨w1.heap.size, 1, none⟩ = some (.int .i64 r.ep) ∧ W.cell? ⟨w1.heap.size, 2, none⟩ = some (.int .i64 r.kind) ∧ W.cell? ⟨w1.heap.size, 3, none⟩ = some (.int .i64 r.page) ∧ W.cell? ⟨w1.heap.size, 4, none⟩ = some (.int .i64 r.other) ∧ W.cell? ⟨w1.heap.size, 5, none⟩ = some (.int .i64 r.req) ∧ W.cell? ⟨w1.heap.size, 6, none⟩ = some (.string r.key) ∧ W.cell? ⟨w1.heap.size, 7, none⟩ = some (.string r.val))
    (first | with_reducible exact q1 | with_reducible exact q2 | with_reducible exact q3 | with_reducible exact q4 | fail)
    (first
      | (go_at_call 20; refine r1.mono ?_; rintro e w2 ⟨rfl, g2⟩; clear r1; have G2 := fD.seq' g2; have q2 := HQ.out _ G2; have r2 := HFM.out _ (f0.seq' (G1.seq' G2)))
      | (go_at_call 21; refine r2.mono ?_; rintro e w3 ⟨af, cf, rfl, rc, nw, g3⟩; clear r2; have G3 := G2.seq' g3; have q3 := HQ.out _ G3; have R3 := HR.out _ (G1.seq' G3); obtain ⟨z0, z1, z2, z3⟩ := R3.cells; have q4 := HQ4.out _ _ G3 (R3.fin (.int .i64 r.ep) (.int .i64 r.lsn)).2))
  obtain ⟨t1, f4⟩ := R3.fin (.int .i64 r.ep) (.int .i64 r.lsn)
  obtain ⟨s0, s1, _⟩ := t1.cells
  have HEND : Hid (OUT (.returned (.tuple #[.agg #[.int .i64 r.ep, .int .i64 r.lsn], .slice af L.length cf])) ((w3.setCell ⟨w.heap.size, 0, none⟩ (.int .i64 r.ep)).setCell ⟨w.heap.size, 1, none⟩ (.int .i64 r.lsn))) := by
    rw [HO.out]
    have z9 := (G1.seq' G2).size
    have z8 := (HR.out _ (Fr.refl _ _)).lt
    refine ⟨af, cf, rfl, ?_, (fun b o ha hne => by have := nw b o ha hne; omega), (f0.seq' (G1.seq' G3)).trans f4 (fun i hi e => by omega)⟩
    exact recs_frS rc f4 (fun k b o ha hne e => by have := nw b o ha hne; omega)
  clear q1 q2 q3 q4 t1 f4 R3 G3 G2 z0 z1 z2 z3 g2 g3 rc
  go_wp2
  refine bodyPost_ret (v := .tuple #[.agg #[.int .i64 r.ep, .int .i64 r.lsn], .slice af L.length cf]) (by simp [results, Try.results9, go_sem, s0, s1]) rfl ?_
  exact HEND.out
end Go.Proofs.Ytimpoincnfiibaa
