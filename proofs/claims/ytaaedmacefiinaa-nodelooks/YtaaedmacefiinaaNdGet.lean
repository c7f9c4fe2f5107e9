
/- What Get and Kid tell, and what the document's own tell. -/
import Derived.Test.YtaaedmacefiinaaNdSort
namespace Go.Proofs.Ytaaedmacefiinaa
open Go.RowKit

/-- What Get tells. -/
def getV (n : Nd) (k : ByteArray) : ByteArray := if askE n k 0 0 1 = 0 then (if (plc (bsOf k) n.keys).2 = true then n.vals.getD (plc (bsOf k) n.keys).1 ByteArray.empty else ⟨#[]⟩) else ⟨#[]⟩
def getB (n : Nd) (k : ByteArray) : Bool := if askE n k 0 0 1 = 0 then (plc (bsOf k) n.keys).2 else false
/-- What Kid tells. -/
def kidV (n : Nd) (k : ByteArray) : Int := if askE n k 0 0 2 = 0 then n.kids.getD (kidF k n.keys) 0 else 0
theorem ask1_leaf {n : Nd} {k : ByteArray} {ev en : Int} (h : askE n k ev en 1 = 0) : n.lev = 0 := by
  have := (ask_ok h).2.2.2.2.1
  rcases Decidable.em (n.lev = 0) with e | e
  · exact e
  · exact absurd (.inl ⟨rfl, e⟩) this
theorem ask2_inner {n : Nd} {k : ByteArray} {ev en : Int} (h : askE n k ev en 2 = 0) : n.lev ≠ 0 := fun e => (ask_ok h).2.2.2.2.1 (.inr ⟨rfl, e⟩)
theorem ret3 {a b : ByteArray} {x y : Bool} {e f : Int} (h : a = b) (k : x = y) (g : e = f) : Ending.returned (.tuple #[.string a, .bool x, .int .i64 e]) = .returned (.tuple #[.string b, .bool y, .int .i64 f]) := by rw [h, k, g]
theorem ret_ii {a b : Int} {x y : Int} (h : a = b) (k : x = y) : Ending.returned (.tuple #[.int .i64 a, .int .i64 x]) = .returned (.tuple #[.int .i64 b, .int .i64 y]) := by rw [h, k]
theorem high_le {w : World} {n : Nd} {p : Pt} (h : Nod w n p) : n.high.size ≤ maxLen := Nat.le_trans h.high (by decide)

set_option maxRecDepth 100000 in
set_option maxHeartbeats 2000000 in
theorem get_any (n : Nd) (p : Pt) (k : ByteArray) (hk : k.size ≤ maxLen) (w : World) (h : Nod w n p) : Calls Try.prog 18 #[(.agg #[.int .i64 n.lev, .int .i64 n.lsn, .int .i64 n.rgt, .string n.high, .slice p.k n.keys.length p.kc, .slice p.v n.vals.length p.vc, .slice p.i n.kids.length p.ic]), .string k] w fun e w' => e = .returned (.tuple #[.string (getV n k), .bool (getB n k), .int .i64 (askE n k 0 0 1)]) ∧ Fr (fun _ => False) w w' := by
  have f0 := Fr.box w (.cells #[.int .i64 n.lev, .int .i64 n.lsn, .int .i64 n.rgt, .string n.high, .slice p.k n.keys.length p.kc, .slice p.v n.vals.length p.vc, .slice p.i n.kids.length p.ic] 25)
  have HB : Hid (∀ W, Fr (fun _ => False) (w.alloc (.cells #[.int .i64 n.lev, .int .i64 n.lsn, .int .i64 n.rgt, .string n.high, .slice p.k n.keys.length p.kc, .slice p.v n.vals.length p.vc, .slice p.i n.kids.length p.ic] 25)) W → W.cell? ⟨w.heap.size, 0, none⟩ = some (.int .i64 n.lev) ∧ W.cell? ⟨w.heap.size, 1, none⟩ = some (.int .i64 n.lsn) ∧ W.cell? ⟨w.heap.size, 2, none⟩ = some (.int .i64 n.rgt) ∧ W.cell? ⟨w.heap.size, 3, none⟩ = some (.string n.high) ∧ W.cell? ⟨w.heap.size, 4, none⟩ = some (.slice p.k n.keys.length p.kc) ∧ W.cell? ⟨w.heap.size, 5, none⟩ = some (.slice p.v n.vals.length p.vc) ∧ W.cell? ⟨w.heap.size, 6, none⟩ = some (.slice p.i n.kids.length p.ic)) := fun W f => box_cells (box_at w n p 25 f)
  have hh := high_le h
  have fr0 := (Fr.refl (fun _ => False) (w.alloc (.cells #[.int .i64 n.lev, .int .i64 n.lsn, .int .i64 n.rgt, .string n.high, .slice p.k n.keys.length p.kc, .slice p.v n.vals.length p.vc, .slice p.i n.kids.length p.ic] 25))).drew
  have q0 := HB.out _ fr0
  have hN := h.same (f0.seq' fr0)
  have HA : Hid (firstE [rgE n, ekey k.size, suE n k 1] = askE n k 0 0 1) := ask_3 n k 1
  have HOK : Hid (askE n k 0 0 1 = 0 → Rt n ∧ n.lev = 0) := fun h => ⟨(ask_ok h).1, ask1_leaf h⟩
  have HV : Hid (getV n k = if askE n k 0 0 1 = 0 then (if (plc (bsOf k) n.keys).2 = true then n.vals.getD (plc (bsOf k) n.keys).1 ByteArray.empty else ⟨#[]⟩) else ⟨#[]⟩) := rfl
  have HG : Hid (getB n k = if askE n k 0 0 1 = 0 then (plc (bsOf k) n.keys).2 else false) := rfl
  generalize askE n k 0 0 1 = ae at *
  generalize getV n k = gv at *
  generalize getB n k = gb at *
  go_enter Try.func18, Try.ntmps18
  go_wp2_with fail
  go_region_held3 (fun W => W.cell? ⟨w.heap.size, 0, none⟩ = some (.int .i64 n.lev) ∧ W.cell? ⟨w.heap.size, 1, none⟩ = some (.int .i64 n.lsn) ∧ W.cell? ⟨w.heap.size, 2, none⟩ = some (.int .i64 n.rgt) ∧ W.cell? ⟨w.heap.size, 3, none⟩ = some (.string n.high) ∧ W.cell? ⟨w.heap.size, 4, none⟩ = some (.slice p.k n.keys.length p.kc) ∧ W.cell? ⟨w.heap.size, 5, none⟩ = some (.slice p.v n.vals.length p.vc) ∧ W.cell? ⟨w.heap.size, 6, none⟩ = some (.slice p.i n.kids.length p.ic))
    (first | with_reducible exact q0 | with_reducible exact q1 | with_reducible exact q3 | with_reducible exact q4)
    (first
      | (go_at_call 56; refine (checkNode_any n p _ hN).mono ?_; rintro e w1 ⟨rfl, m1⟩; have fr1 := fr0.seq' m1; have q1 := HB.out _ fr1)
      | (go_at_call 57; refine (kcheck_any k _).mono ?_; rintro e w2 ⟨rfl, rfl⟩)
      | (go_at_call 58; refine (suits_any n p k 1 (by omega) hh hk _).mono ?_; rintro e w3 ⟨rfl, m3⟩; have fr3 := fr1.seq' m3; have q3 := HB.out _ fr3; have fr4 := fr3.alloc (.cells #[.int .i64 (rgE n), .int .i64 (ekey k.size : Nat), .int .i64 (suE n k 1)] 27); have q4 := HB.out _ fr4)
      | (go_at_call 55; refine (first3 (rgE n) (ekey k.size : Nat) (suE n k 1) w3).mono ?_; rw [HA.out]; rintro e w5 ⟨rfl, rfl⟩))
  have F4 := f0.seq' fr4
  have hN4 := h.same F4
  obtain ⟨c0, c1, c2, c3, c4, c5, c6⟩ := q4
  clear q0 q1 q3
  by_cases hae : ae = 0
  · subst hae
    obtain ⟨hr, hlev⟩ := HOK.out rfl
    have hpl := plc_pl (k := bsOf k) hr.srt
    have hpc := place_any p.k n.keys.length p.kc n.keys rfl k hk _ hN4.keys
    have HVL : Hid (n.vals.length = n.keys.length) := (hr.leaf hlev).1
    rw [if_pos rfl] at HV HG
    obtain ⟨pi, pf, hpe⟩ : ∃ pi pf, plc (bsOf k) n.keys = (pi, pf) := ⟨_, _, rfl⟩
    rw [hpe] at hpl hpc HV HG
    simp only at hpl hpc HV HG
    clear hpe hr hlev HOK HA
    cases pf
    · rw [if_neg (by simp)] at HV
      go_wp2_with fail
      refine hpc.mono ?_
      rintro e w6 ⟨rfl, f6⟩
      go_wp2
      go_ret3
      exact ⟨ret3 HV.out.symm HG.out.symm rfl, F4.seq' f6⟩
    · rw [if_pos rfl] at HV
      have hpi := (hpl.eq rfl).1
      have hvi : pi < n.vals.length := by have := HVL.out; omega
      obtain ⟨bv, ov, ev, hbv, hcv⟩ := strs_some hN4.vals hvi
      have hvc := hcv pi hvi
      obtain ⟨x, hx⟩ : ∃ x, x = n.vals.getD pi ByteArray.empty := ⟨_, rfl⟩
      rw [← hx] at hvc HV
      have hvii : (pi : Int) < (n.vals.length : Int) := by omega
      clear hx hcv hpl
      go_wp2_with fail
      refine hpc.mono ?_
      rintro e w6 ⟨rfl, f6⟩
      obtain ⟨d0, d1, d2, d3, d4, d5, d6⟩ := HB.out _ (fr4.seq' f6)
      rw [ev] at d5
      have hvc6 := (f6.cell (p := ⟨bv, ov + pi, none⟩) hbv (fun f => f)).trans hvc
      go_wp2
      go_ret3
      exact ⟨ret3 HV.out.symm HG.out.symm rfl, F4.seq' f6⟩
  · have hne : (ae != 0) = true := by simpa using hae
    rw [if_neg hae] at HV HG
    clear hae
    go_wp2
    go_ret3
    exact ⟨ret3 HV.out.symm HG.out.symm rfl, F4⟩
set_option maxRecDepth 100000 in
set_option maxHeartbeats 2000000 in
theorem kid_any (n : Nd) (p : Pt) (k : ByteArray) (hk : k.size ≤ maxLen) (w : World) (h : Nod w n p) : Calls Try.prog 20 #[(.agg #[.int .i64 n.lev, .int .i64 n.lsn, .int .i64 n.rgt, .string n.high, .slice p.k n.keys.length p.kc, .slice p.v n.vals.length p.vc, .slice p.i n.kids.length p.ic]), .string k] w fun e w' => e = .returned (.tuple #[.int .i64 (kidV n k), .int .i64 (askE n k 0 0 2)]) ∧ Fr (fun _ => False) w w' := by
  have f0 := Fr.box w (.cells #[.int .i64 n.lev, .int .i64 n.lsn, .int .i64 n.rgt, .string n.high, .slice p.k n.keys.length p.kc, .slice p.v n.vals.length p.vc, .slice p.i n.kids.length p.ic] 25)
  have HB : Hid (∀ W, Fr (fun _ => False) (w.alloc (.cells #[.int .i64 n.lev, .int .i64 n.lsn, .int .i64 n.rgt, .string n.high, .slice p.k n.keys.length p.kc, .slice p.v n.vals.length p.vc, .slice p.i n.kids.length p.ic] 25)) W → W.cell? ⟨w.heap.size, 0, none⟩ = some (.int .i64 n.lev) ∧ W.cell? ⟨w.heap.size, 1, none⟩ = some (.int .i64 n.lsn) ∧ W.cell? ⟨w.heap.size, 2, none⟩ = some (.int .i64 n.rgt) ∧ W.cell? ⟨w.heap.size, 3, none⟩ = some (.string n.high) ∧ W.cell? ⟨w.heap.size, 4, none⟩ = some (.slice p.k n.keys.length p.kc) ∧ W.cell? ⟨w.heap.size, 5, none⟩ = some (.slice p.v n.vals.length p.vc) ∧ W.cell? ⟨w.heap.size, 6, none⟩ = some (.slice p.i n.kids.length p.ic)) := fun W f => box_cells (box_at w n p 25 f)
  have hh := high_le h
  have fr0 := (Fr.refl (fun _ => False) (w.alloc (.cells #[.int .i64 n.lev, .int .i64 n.lsn, .int .i64 n.rgt, .string n.high, .slice p.k n.keys.length p.kc, .slice p.v n.vals.length p.vc, .slice p.i n.kids.length p.ic] 25))).drew
  have q0 := HB.out _ fr0
  have hN := h.same (f0.seq' fr0)
  have HA : Hid (firstE [rgE n, ekey k.size, suE n k 2] = askE n k 0 0 2) := ask_3 n k 2
  have HOK : Hid (askE n k 0 0 2 = 0 → Rt n ∧ n.lev ≠ 0) := fun h => ⟨(ask_ok h).1, ask2_inner h⟩
  have HV : Hid (kidV n k = if askE n k 0 0 2 = 0 then n.kids.getD (kidF k n.keys) 0 else 0) := rfl
  generalize askE n k 0 0 2 = ae at *
  generalize kidV n k = gv at *
  go_enter Try.func20, Try.ntmps20
  go_wp2_with fail
  go_region_held3 (fun W => W.cell? ⟨w.heap.size, 0, none⟩ = some (.int .i64 n.lev) ∧ W.cell? ⟨w.heap.size, 1, none⟩ = some (.int .i64 n.lsn) ∧ W.cell? ⟨w.heap.size, 2, none⟩ = some (.int .i64 n.rgt) ∧ W.cell? ⟨w.heap.size, 3, none⟩ = some (.string n.high) ∧ W.cell? ⟨w.heap.size, 4, none⟩ = some (.slice p.k n.keys.length p.kc) ∧ W.cell? ⟨w.heap.size, 5, none⟩ = some (.slice p.v n.vals.length p.vc) ∧ W.cell? ⟨w.heap.size, 6, none⟩ = some (.slice p.i n.kids.length p.ic))
    (first | with_reducible exact q0 | with_reducible exact q1 | with_reducible exact q3 | with_reducible exact q4)
    (first
      | (go_at_call 56; refine (checkNode_any n p _ hN).mono ?_; rintro e w1 ⟨rfl, m1⟩; have fr1 := fr0.seq' m1; have q1 := HB.out _ fr1)
      | (go_at_call 57; refine (kcheck_any k _).mono ?_; rintro e w2 ⟨rfl, rfl⟩)
      | (go_at_call 58; refine (suits_any n p k 2 (by omega) hh hk _).mono ?_; rintro e w3 ⟨rfl, m3⟩; have fr3 := fr1.seq' m3; have q3 := HB.out _ fr3; have fr4 := fr3.alloc (.cells #[.int .i64 (rgE n), .int .i64 (ekey k.size : Nat), .int .i64 (suE n k 2)] 27); have q4 := HB.out _ fr4)
      | (go_at_call 55; refine (first3 (rgE n) (ekey k.size : Nat) (suE n k 2) w3).mono ?_; rw [HA.out]; rintro e w5 ⟨rfl, rfl⟩))
  have F4 := f0.seq' fr4
  have hN4 := h.same F4
  obtain ⟨c0, c1, c2, c3, c4, c5, c6⟩ := q4
  clear q0 q1 q3
  by_cases hae : ae = 0
  · subst hae
    obtain ⟨hr, hlev⟩ := HOK.out rfl
    have hpc := place_any p.k n.keys.length p.kc n.keys rfl k hk _ hN4.keys
    have HIL : Hid (n.kids.length = n.keys.length + 1) := (hr.inner hlev).1
    have HKL := kid_le (k := k) hr.srt
    rw [if_pos rfl] at HV
    unfold kidF at HKL HV
    obtain ⟨pi, pf, hpe⟩ : ∃ pi pf, plc (bsOf k) n.keys = (pi, pf) := ⟨_, _, rfl⟩
    rw [hpe] at hpc HV HKL
    simp only at hpc HV HKL
    clear hpe hr hlev HOK HA
    cases pf
    · rw [if_neg (by simp), Nat.add_zero] at HV HKL
      have hvi : pi < n.kids.length := by have := HIL.out; omega
      obtain ⟨bv, ov, ev, hbv, hcv⟩ := ints_some hN4.kids hvi
      have hvc := hcv pi hvi
      obtain ⟨x, hx⟩ : ∃ x, x = n.kids.getD pi 0 := ⟨_, rfl⟩
      rw [← hx] at hvc HV
      have hvii : (pi : Int) < (n.kids.length : Int) := by omega
      clear hx hcv
      go_wp2_with fail
      refine hpc.mono ?_
      rintro e w6 ⟨rfl, f6⟩
      obtain ⟨d0, d1, d2, d3, d4, d5, d6⟩ := HB.out _ (fr4.seq' f6)
      rw [ev] at d6
      have hvc6 := (f6.cell (p := ⟨bv, ov + pi, none⟩) hbv (fun f => f)).trans hvc
      go_wp2
      go_ret2
      exact ⟨ret_ii HV.out.symm rfl, F4.seq' f6⟩
    · rw [if_pos rfl] at HV HKL
      have hvi : pi + 1 < n.kids.length := by have := HIL.out; omega
      obtain ⟨bv, ov, ev, hbv, hcv⟩ := ints_some hN4.kids hvi
      have hvc := hcv (pi + 1) hvi
      obtain ⟨x, hx⟩ : ∃ x, x = n.kids.getD (pi + 1) 0 := ⟨_, rfl⟩
      rw [← hx] at hvc HV
      have hvii : (pi : Int) + 1 < (n.kids.length : Int) := by omega
      have hks := hN4.ilen
      clear hx hcv
      go_wp2_with fail
      refine hpc.mono ?_
      rintro e w6 ⟨rfl, f6⟩
      obtain ⟨d0, d1, d2, d3, d4, d5, d6⟩ := HB.out _ (fr4.seq' f6)
      rw [ev] at d6
      have hvc6 := (f6.cell (p := ⟨bv, ov + (pi + 1), none⟩) hbv (fun f => f)).trans hvc
      go_wp2
      go_ret2
      exact ⟨ret_ii HV.out.symm rfl, F4.seq' f6⟩
  · have hne : (ae != 0) = true := by simpa using hae
    rw [if_neg hae] at HV
    clear hae
    go_wp2
    go_ret2
    exact ⟨ret_ii HV.out.symm rfl, F4⟩
set_option maxRecDepth 100000 in
set_option maxHeartbeats 2000000 in
theorem rget_any (n : Nd) (p : Pt) (k : ByteArray) (hk : k.size ≤ maxLen) (w : World) (h : Nod w n p) : Calls Try.prog 19 #[(.agg #[.int .i64 n.lev, .int .i64 n.lsn, .int .i64 n.rgt, .string n.high, .slice p.k n.keys.length p.kc, .slice p.v n.vals.length p.vc, .slice p.i n.kids.length p.ic]), .string k] w fun e w' => e = .returned (.tuple #[.string (getV n k), .bool (getB n k), .int .i64 (askE n k 0 0 1)]) ∧ Fr (fun _ => False) w w' := by
  have f0 := Fr.box w (.cells #[.int .i64 n.lev, .int .i64 n.lsn, .int .i64 n.rgt, .string n.high, .slice p.k n.keys.length p.kc, .slice p.v n.vals.length p.vc, .slice p.i n.kids.length p.ic] 25)
  have HB : Hid (∀ W, Fr (fun _ => False) (w.alloc (.cells #[.int .i64 n.lev, .int .i64 n.lsn, .int .i64 n.rgt, .string n.high, .slice p.k n.keys.length p.kc, .slice p.v n.vals.length p.vc, .slice p.i n.kids.length p.ic] 25)) W → W.cell? ⟨w.heap.size, 0, none⟩ = some (.int .i64 n.lev) ∧ W.cell? ⟨w.heap.size, 1, none⟩ = some (.int .i64 n.lsn) ∧ W.cell? ⟨w.heap.size, 2, none⟩ = some (.int .i64 n.rgt) ∧ W.cell? ⟨w.heap.size, 3, none⟩ = some (.string n.high) ∧ W.cell? ⟨w.heap.size, 4, none⟩ = some (.slice p.k n.keys.length p.kc) ∧ W.cell? ⟨w.heap.size, 5, none⟩ = some (.slice p.v n.vals.length p.vc) ∧ W.cell? ⟨w.heap.size, 6, none⟩ = some (.slice p.i n.kids.length p.ic)) := fun W f => box_cells (box_at w n p 25 f)
  have hh := high_le h
  have ha := asked_any n p k ⟨#[]⟩ 1 0 1 (by omega) hh hk _ (h.same f0)
  rw [show ((evalu (ByteArray.mk #[]).size : Nat) : Int) = 0 from rfl, show nuE 1 = 0 from rfl] at ha
  have HOK : Hid (askE n k 0 0 1 = 0 → Rt n ∧ n.lev = 0) := fun h => ⟨(ask_ok h).1, ask1_leaf h⟩
  have HV : Hid (getV n k = if askE n k 0 0 1 = 0 then (if (plc (bsOf k) n.keys).2 = true then n.vals.getD (plc (bsOf k) n.keys).1 ByteArray.empty else ⟨#[]⟩) else ⟨#[]⟩) := rfl
  have HG : Hid (getB n k = if askE n k 0 0 1 = 0 then (plc (bsOf k) n.keys).2 else false) := rfl
  generalize askE n k 0 0 1 = ae at *
  generalize getV n k = gv at *
  generalize getB n k = gb at *
  go_enter Try.func19, Try.ntmps19
  go_wp2_with fail
  refine ha.mono ?_
  rintro e w1 ⟨rfl, f1⟩
  clear ha
  have F1 := f0.seq' f1
  have hN1 := h.same F1
  obtain ⟨c0, c1, c2, c3, c4, c5, c6⟩ := HB.out _ f1
  by_cases hae : ae = 0
  · subst hae
    obtain ⟨hr, hlev⟩ := HOK.out rfl
    have HS : Hid (srt n.keys) := hr.srt
    have HVL : Hid (n.vals.length = n.keys.length) := (hr.leaf hlev).1
    have hkl := hN1.keys.le
    have hkm := hN1.keys.max
    rw [if_pos rfl] at HV HG
    clear hr hlev HOK
    go_wp2
    go_loopw [19] (fun i wr => ∃ j : Nat, j ≤ n.keys.length ∧ i = .int .i64 j ∧ Hid (∀ x, x < j → bsOf (n.keys.getD x ByteArray.empty) ≠ bsOf k) ∧ wr = w1) (fun i _ => n.keys.length - (intOf i).toNat)
    case atStart => exact ⟨0, by omega, rfl, (fun x hx => by omega), rfl⟩
    case round =>
      obtain ⟨j, hj, rfl, HE, rfl⟩ := hrel
      by_cases hlt : j < n.keys.length
      · obtain ⟨bk, ok, ek, hbk, hck⟩ := strs_some hN1.keys hlt
        have hkc := hck j hlt
        have hvi : j < n.vals.length := by have := HVL.out; omega
        obtain ⟨bv, ov, ev, hbv, hcv⟩ := strs_some hN1.vals hvi
        have hvc := hcv j hvi
        have hji : (j : Int) < (n.keys.length : Int) := by omega
        have hjv : (j : Int) < (n.vals.length : Int) := by omega
        rw [ev] at c5
        have HSB := str_beq (n.keys.getD j ByteArray.empty) k
        by_cases hke : bsOf (n.keys.getD j ByteArray.empty) = bsOf k
        · have hpa := plc_at HS.out j hlt hke
          rw [hpa, if_pos rfl] at HV
          rw [hpa] at HG
          rw [decide_eq_true hke] at HSB
          obtain ⟨x, hx⟩ : ∃ x, x = n.vals.getD j ByteArray.empty := ⟨_, rfl⟩
          obtain ⟨y, hy⟩ : ∃ y, y = n.keys.getD j ByteArray.empty := ⟨_, rfl⟩
          simp only at HV HG
          rw [← hx] at hvc HV
          rw [← hy] at hkc HSB
          clear hx hy hck hcv hpa hke HE
          rw [ek]
          go_wp2
          go_ret3
          exact ⟨ret3 HV.out.symm HG.out.symm rfl, F1⟩
        · rw [decide_eq_false hke] at HSB
          have HKE : Hid (bsOf (n.keys.getD j ByteArray.empty) ≠ bsOf k) := hke
          obtain ⟨y, hy⟩ : ∃ y, y = n.keys.getD j ByteArray.empty := ⟨_, rfl⟩
          rw [← hy] at hkc HSB
          clear hy hck hcv hke
          rw [ek]
          go_wp2
          go_roundw
          case rel =>
            refine ⟨j + 1, by omega, by go_num, fun x hx => ?_, trivial⟩
            rcases Nat.lt_or_ge x j with h2 | h2
            · exact HE.out x h2
            · rw [show x = j by omega]; exact HKE.out
          case measure => simp [intOf]; omega
      · have e : j = n.keys.length := by omega
        have hno := plc_none HS.out (fun x hx => HE.out x (by omega))
        rw [hno] at HV HG
        rw [if_neg (by simp)] at HV
        clear hno
        subst e
        go_wp2
        go_ret3
        exact ⟨ret3 HV.out.symm HG.out.symm rfl, F1⟩
  · have hne : (ae != 0) = true := by simpa using hae
    rw [if_neg hae] at HV HG
    clear hae
    go_wp2
    go_ret3
    exact ⟨ret3 HV.out.symm HG.out.symm rfl, F1⟩
set_option maxRecDepth 100000 in
set_option maxHeartbeats 2000000 in
theorem rkid_any (n : Nd) (p : Pt) (k : ByteArray) (hk : k.size ≤ maxLen) (w : World) (h : Nod w n p) : Calls Try.prog 21 #[(.agg #[.int .i64 n.lev, .int .i64 n.lsn, .int .i64 n.rgt, .string n.high, .slice p.k n.keys.length p.kc, .slice p.v n.vals.length p.vc, .slice p.i n.kids.length p.ic]), .string k] w fun e w' => e = .returned (.tuple #[.int .i64 (kidV n k), .int .i64 (askE n k 0 0 2)]) ∧ Fr (fun _ => False) w w' := by
  have f0 := Fr.box w (.cells #[.int .i64 n.lev, .int .i64 n.lsn, .int .i64 n.rgt, .string n.high, .slice p.k n.keys.length p.kc, .slice p.v n.vals.length p.vc, .slice p.i n.kids.length p.ic] 25)
  have HB : Hid (∀ W, Fr (fun _ => False) (w.alloc (.cells #[.int .i64 n.lev, .int .i64 n.lsn, .int .i64 n.rgt, .string n.high, .slice p.k n.keys.length p.kc, .slice p.v n.vals.length p.vc, .slice p.i n.kids.length p.ic] 25)) W → W.cell? ⟨w.heap.size, 0, none⟩ = some (.int .i64 n.lev) ∧ W.cell? ⟨w.heap.size, 1, none⟩ = some (.int .i64 n.lsn) ∧ W.cell? ⟨w.heap.size, 2, none⟩ = some (.int .i64 n.rgt) ∧ W.cell? ⟨w.heap.size, 3, none⟩ = some (.string n.high) ∧ W.cell? ⟨w.heap.size, 4, none⟩ = some (.slice p.k n.keys.length p.kc) ∧ W.cell? ⟨w.heap.size, 5, none⟩ = some (.slice p.v n.vals.length p.vc) ∧ W.cell? ⟨w.heap.size, 6, none⟩ = some (.slice p.i n.kids.length p.ic)) := fun W f => box_cells (box_at w n p 25 f)
  have hh := high_le h
  have ha := asked_any n p k ⟨#[]⟩ 1 1 2 (by omega) hh hk _ (h.same f0)
  rw [show ((evalu (ByteArray.mk #[]).size : Nat) : Int) = 0 from rfl, show nuE 1 = 0 from rfl] at ha
  have HOK : Hid (askE n k 0 0 2 = 0 → Rt n ∧ n.lev ≠ 0) := fun h => ⟨(ask_ok h).1, ask2_inner h⟩
  have HV : Hid (kidV n k = if askE n k 0 0 2 = 0 then n.kids.getD (kidF k n.keys) 0 else 0) := rfl
  generalize askE n k 0 0 2 = ae at *
  generalize kidV n k = gv at *
  go_enter Try.func21, Try.ntmps21
  go_wp2_with fail
  refine ha.mono ?_
  rintro e w1 ⟨rfl, f1⟩
  clear ha
  have F1 := f0.seq' f1
  have hN1 := h.same F1
  obtain ⟨c0, c1, c2, c3, c4, c5, c6⟩ := HB.out _ f1
  by_cases hae : ae = 0
  · subst hae
    obtain ⟨hr, hlev⟩ := HOK.out rfl
    have HS : Hid (srt n.keys) := hr.srt
    have HIL : Hid (n.kids.length = n.keys.length + 1) := (hr.inner hlev).1
    have HKL := kid_le (k := k) hr.srt
    have HKI : Hid (∀ j, j < n.keys.length → (cpl (bsOf (n.keys.getD j ByteArray.empty)) (bsOf k) ≤ 0 ↔ j < kidF k n.keys)) := fun j hj => kid_iff hr.srt j hj
    have HTX : Hid (∀ s ∈ n.keys, s.size ≤ maxLen) := h.keys.text
    have hkl := hN1.keys.le
    have hkm := hN1.keys.max
    have hks := hN1.ilen
    rw [if_pos rfl] at HV
    obtain ⟨q, hq⟩ : ∃ q, q = kidF k n.keys := ⟨_, rfl⟩
    rw [← hq] at HV HKL HKI
    clear hr hlev HOK hq
    clear c0 c1 c2 c3 c5
    go_wp2
    go_loopw [7, 19] (fun u i wr => ∃ j : Nat, j ≤ n.keys.length ∧ i = .int .i64 j ∧ u = .int .i64 (min j q : Nat) ∧ Fr (fun _ => False) w1 wr) (fun _ i _ => n.keys.length - (intOf i).toNat)
    case atStart => exact ⟨0, by omega, rfl, by simp, Fr.refl _ _⟩
    case round =>
      obtain ⟨j, hj, rfl, rfl, hf⟩ := hrel
      have hml : min j q ≤ 140737488351232 := by have := HIL.out; omega
      by_cases hlt : j < n.keys.length
      · have hNw := hN1.same hf
        obtain ⟨bk, ok, ek, hbk, hck⟩ := strs_some hNw.keys hlt
        have hkc := hck j hlt
        have hji : (j : Int) < (n.keys.length : Int) := by omega
        have hki := HKI.out j hlt
        have hcm := fun W => rcompare_any (n.keys.getD j ByteArray.empty) k (HTX.out _ (strs_get hlt)) hk W
        obtain ⟨y, hy⟩ : ∃ y, y = n.keys.getD j ByteArray.empty := ⟨_, rfl⟩
        rw [← hy] at hkc hki hcm
        generalize cpl (bsOf y) (bsOf k) = cc at *
        clear hy hck
        rw [ek]
        by_cases hc0 : cc ≤ 0
        · have HJ : Hid (j < q) := hki.1 hc0
          clear hki
          go_wp2_with fail
          refine (hcm _).mono ?_
          rintro e w2 ⟨rfl, f2⟩
          go_wp2
          go_roundw
          case rel => exact ⟨j + 1, by omega, by go_num, val_int (by have := HJ.out; omega), hf.seq' f2⟩
          case measure => simp [intOf]; omega
        · have hc1 : 0 < cc := by omega
          have HJ : Hid (q ≤ j) := by
            show q ≤ j
            rcases Nat.lt_or_ge j q with h3 | h3
            · exact absurd (hki.2 h3) hc0
            · exact h3
          clear hki hc0
          go_wp2_with fail
          refine (hcm _).mono ?_
          rintro e w2 ⟨rfl, f2⟩
          go_wp2
          go_roundw
          case rel => exact ⟨j + 1, by omega, by go_num, val_int (by have := HJ.out; omega), hf.seq' f2⟩
          case measure => simp [intOf]; omega
      · have e : j = n.keys.length := by omega
        have hmq : min j q = q := by omega
        rw [hmq]
        have hvi : q < n.kids.length := by have := HIL.out; omega
        obtain ⟨bv, ov, ev, hbv, hcv⟩ := ints_some (hN1.same hf).kids hvi
        have hvc := hcv q hvi
        have hqi : (q : Int) < (n.kids.length : Int) := by omega
        obtain ⟨d0, d1, d2, d3, d4, d5, d6⟩ := HB.out _ (f1.seq' hf)
        rw [ev] at d6
        obtain ⟨x, hx⟩ : ∃ x, x = n.kids.getD q 0 := ⟨_, rfl⟩
        rw [← hx] at hvc HV
        clear hx hcv hmq hml c4 c6
        subst e
        go_wp2
        go_ret2
        exact ⟨ret_ii HV.out.symm rfl, F1.seq' hf⟩
  · have hne : (ae != 0) = true := by simpa using hae
    rw [if_neg hae] at HV
    clear hae
    go_wp2
    go_ret2
    exact ⟨ret_ii HV.out.symm rfl, F1⟩
end Go.Proofs.Ytaaedmacefiinaa
