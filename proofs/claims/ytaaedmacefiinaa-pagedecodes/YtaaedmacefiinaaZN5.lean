
/- NdGet, PgEnc2, Has, PgArr, PgEnc3, Read4, PgRd. -/
import Derived.Test.YtaaedmacefiinaaZN4
import Derived.Deep.AppendSrc
import Derived.Deep.MidRow
/- What Get and Kid tell, and what the document's own tell. -/
namespace Go.Proofs.Ytaaedmacefiinaa
open Go.RowKit

/-- What Get tells. -/
def getV (n : Nd) (k : ByteArray) : ByteArray := if askE n k 0 0 1 = 0 then (if (plc (bsOf k) n.keys).2 = true then n.vals.getD (plc (bsOf k) n.keys).1 ByteArray.empty else ⟨#[]⟩) else ⟨#[]⟩
def getB (n : Nd) (k : ByteArray) : Bool := if askE n k 0 0 1 = 0 then (plc (bsOf k) n.keys).2 else false
/-- What Kid tells. -/
def kidV (n : Nd) (k : ByteArray) : Int := if askE n k 0 0 2 = 0 then n.kids.getD (kidF k n.keys) 0 else 0
theorem ask1_leaf {n : Nd} {k : ByteArray} {ev en : Int} (h : askE n k ev en 1 = 0) : n.lev = 0 := by
  have := (ask_ok h).2.2.2.2.1
  rcases Decidable.em (n.lev = 0) with e | e
  · exact e
  · exact absurd (.inl ⟨rfl, e⟩) this
theorem ask2_inner {n : Nd} {k : ByteArray} {ev en : Int} (h : askE n k ev en 2 = 0) : n.lev ≠ 0 := fun e => (ask_ok h).2.2.2.2.1 (.inr ⟨rfl, e⟩)
theorem ret3 {a b : ByteArray} {x y : Bool} {e f : Int} (h : a = b) (k : x = y) (g : e = f) : Ending.returned (.tuple #[.string a, .bool x, .int .i64 e]) = .returned (.tuple #[.string b, .bool y, .int .i64 f]) := by rw [h, k, g]
theorem ret_ii {a b : Int} {x y : Int} (h : a = b) (k : x = y) : Ending.returned (.tuple #[.int .i64 a, .int .i64 x]) = .returned (.tuple #[.int .i64 b, .int .i64 y]) := by rw [h, k]
theorem high_le {w : World} {n : Nd} {p : Pt} (h : Nod w n p) : n.high.size ≤ maxLen := Nat.le_trans h.high (by decide)

set_option maxRecDepth 100000 in
set_option maxHeartbeats 2000000 in
theorem get_any (n : Nd) (p : Pt) (k : ByteArray) (hk : k.size ≤ maxLen) (w : World) (h : Nod w n p) : Calls Try.prog 18 #[(.agg #[.int .i64 n.lev, .int .i64 n.lsn, .int .i64 n.rgt, .string n.high, .slice p.k n.keys.length p.kc, .slice p.v n.vals.length p.vc, .slice p.i n.kids.length p.ic]), .string k] w fun e w' => e = .returned (.tuple #[.string (getV n k), .bool (getB n k), .int .i64 (askE n k 0 0 1)]) ∧ Fr (fun _ => False) w w' := by
  have f0 := Fr.box w (.cells #[.int .i64 n.lev, .int .i64 n.lsn, .int .i64 n.rgt, .string n.high, .slice p.k n.keys.length p.kc, .slice p.v n.vals.length p.vc, .slice p.i n.kids.length p.ic] 25)
  have HB : Hid (∀ W, Fr (fun _ => False) (w.alloc (.cells #[.int .i64 n.lev, .int .i64 n.lsn, .int .i64 n.rgt, .string n.high, .slice p.k n.keys.length p.kc, .slice p.v n.vals.length p.vc, .slice p.i n.kids.length p.ic] 25)) W → W.cell? ⟨w.heap.size, 0, none⟩ = some (.int .i64 n.lev) ∧ W.cell? ⟨w.heap.size, 1, none⟩ = some (.int .i64 n.lsn) ∧ W.cell? ⟨w.heap.size, 2, none⟩ = some (.int .i64 n.rgt) ∧ W.cell? ⟨w.heap.size, 3, none⟩ = some (.string n.high) ∧ W.cell? ⟨w.heap.size, 4, none⟩ = some (.slice p.k n.keys.length p.kc) ∧ W.cell? ⟨w.heap.size, 5, none⟩ = some (.slice p.v n.vals.length p.vc) ∧ W.cell? ⟨w.heap.size, 6, none⟩ = some (.slice p.i n.kids.length p.ic)) := fun W f => box_cells (box_at w n p 25 f)
  have hh := high_le h
  have fr0 := (Fr.refl (fun _ => False) (w.alloc (.cells #[.int .i64 n.lev, .int .i64 n.lsn, .int .i64 n.rgt, .string n.high, .slice p.k n.keys.length p.kc, .slice p.v n.vals.length p.vc, .slice p.i n.kids.length p.ic] 25))).drew
  have q0 := HB.out _ fr0
  have hN := h.same (f0.seq' fr0)
  have HA : Hid (firstE [rgE n, ekey k.size, suE n k 1] = askE n k 0 0 1) := ask_3 n k 1
  have HOK : Hid (askE n k 0 0 1 = 0 → Rt n ∧ n.lev = 0) := fun h => ⟨(ask_ok h).1, ask1_leaf h⟩
  have HV : Hid (getV n k = if askE n k 0 0 1 = 0 then (if (plc (bsOf k) n.keys).2 = true then n.vals.getD (plc (bsOf k) n.keys).1 ByteArray.empty else ⟨#[]⟩) else ⟨#[]⟩) := rfl
  have HG : Hid (getB n k = if askE n k 0 0 1 = 0 then (plc (bsOf k) n.keys).2 else false) := rfl
  generalize askE n k 0 0 1 = ae at *
  generalize getV n k = gv at *
  generalize getB n k = gb at *
  go_enter Try.func18, Try.ntmps18
  go_wp2_with fail
  go_region_held3 (fun W => W.cell? ⟨w.heap.size, 0, none⟩ = some (.int .i64 n.lev) ∧ W.cell? ⟨w.heap.size, 1, none⟩ = some (.int .i64 n.lsn) ∧ W.cell? ⟨w.heap.size, 2, none⟩ = some (.int .i64 n.rgt) ∧ W.cell? ⟨w.heap.size, 3, none⟩ = some (.string n.high) ∧ W.cell? ⟨w.heap.size, 4, none⟩ = some (.slice p.k n.keys.length p.kc) ∧ W.cell? ⟨w.heap.size, 5, none⟩ = some (.slice p.v n.vals.length p.vc) ∧ W.cell? ⟨w.heap.size, 6, none⟩ = some (.slice p.i n.kids.length p.ic))
    (first | with_reducible exact q0 | with_reducible exact q1 | with_reducible exact q3 | with_reducible exact q4)
    (first
      | (go_at_call 56; refine (checkNode_any n p _ hN).mono ?_; rintro e w1 ⟨rfl, m1⟩; have fr1 := fr0.seq' m1; have q1 := HB.out _ fr1)
      | (go_at_call 57; refine (kcheck_any k _).mono ?_; rintro e w2 ⟨rfl, rfl⟩)
      | (go_at_call 58; refine (suits_any n p k 1 (by omega) hh hk _).mono ?_; rintro e w3 ⟨rfl, m3⟩; have fr3 := fr1.seq' m3; have q3 := HB.out _ fr3; have fr4 := fr3.alloc (.cells #[.int .i64 (rgE n), .int .i64 (ekey k.size : Nat), .int .i64 (suE n k 1)] 27); have q4 := HB.out _ fr4)
      | (go_at_call 55; refine (first3 (rgE n) (ekey k.size : Nat) (suE n k 1) w3).mono ?_; rw [HA.out]; rintro e w5 ⟨rfl, rfl⟩))
  have F4 := f0.seq' fr4
  have hN4 := h.same F4
  obtain ⟨c0, c1, c2, c3, c4, c5, c6⟩ := q4
  clear q0 q1 q3
  by_cases hae : ae = 0
  · subst hae
    obtain ⟨hr, hlev⟩ := HOK.out rfl
    have hpl := plc_pl (k := bsOf k) hr.srt
    have hpc := place_any p.k n.keys.length p.kc n.keys rfl k hk _ hN4.keys
    have HVL : Hid (n.vals.length = n.keys.length) := (hr.leaf hlev).1
    rw [if_pos rfl] at HV HG
    obtain ⟨pi, pf, hpe⟩ : ∃ pi pf, plc (bsOf k) n.keys = (pi, pf) := ⟨_, _, rfl⟩
    rw [hpe] at hpl hpc HV HG
    simp only at hpl hpc HV HG
    clear hpe hr hlev HOK HA
    cases pf
    · rw [if_neg (by simp)] at HV
      go_wp2_with fail
      refine hpc.mono ?_
      rintro e w6 ⟨rfl, f6⟩
      go_wp2
      go_ret3
      exact ⟨ret3 HV.out.symm HG.out.symm rfl, F4.seq' f6⟩
    · rw [if_pos rfl] at HV
      have hpi := (hpl.eq rfl).1
      have hvi : pi < n.vals.length := by have := HVL.out; omega
      obtain ⟨bv, ov, ev, hbv, hcv⟩ := strs_some hN4.vals hvi
      have hvc := hcv pi hvi
      obtain ⟨x, hx⟩ : ∃ x, x = n.vals.getD pi ByteArray.empty := ⟨_, rfl⟩
      rw [← hx] at hvc HV
      have hvii : (pi : Int) < (n.vals.length : Int) := by omega
      clear hx hcv hpl
      go_wp2_with fail
      refine hpc.mono ?_
      rintro e w6 ⟨rfl, f6⟩
      obtain ⟨d0, d1, d2, d3, d4, d5, d6⟩ := HB.out _ (fr4.seq' f6)
      rw [ev] at d5
      have hvc6 := (f6.cell (p := ⟨bv, ov + pi, none⟩) hbv (fun f => f)).trans hvc
      go_wp2
      go_ret3
      exact ⟨ret3 HV.out.symm HG.out.symm rfl, F4.seq' f6⟩
  · have hne : (ae != 0) = true := by simpa using hae
    rw [if_neg hae] at HV HG
    clear hae
    go_wp2
    go_ret3
    exact ⟨ret3 HV.out.symm HG.out.symm rfl, F4⟩
set_option maxRecDepth 100000 in
set_option maxHeartbeats 2000000 in
theorem kid_any (n : Nd) (p : Pt) (k : ByteArray) (hk : k.size ≤ maxLen) (w : World) (h : Nod w n p) : Calls Try.prog 20 #[(.agg #[.int .i64 n.lev, .int .i64 n.lsn, .int .i64 n.rgt, .string n.high, .slice p.k n.keys.length p.kc, .slice p.v n.vals.length p.vc, .slice p.i n.kids.length p.ic]), .string k] w fun e w' => e = .returned (.tuple #[.int .i64 (kidV n k), .int .i64 (askE n k 0 0 2)]) ∧ Fr (fun _ => False) w w' := by
  have f0 := Fr.box w (.cells #[.int .i64 n.lev, .int .i64 n.lsn, .int .i64 n.rgt, .string n.high, .slice p.k n.keys.length p.kc, .slice p.v n.vals.length p.vc, .slice p.i n.kids.length p.ic] 25)
  have HB : Hid (∀ W, Fr (fun _ => False) (w.alloc (.cells #[.int .i64 n.lev, .int .i64 n.lsn, .int .i64 n.rgt, .string n.high, .slice p.k n.keys.length p.kc, .slice p.v n.vals.length p.vc, .slice p.i n.kids.length p.ic] 25)) W → W.cell? ⟨w.heap.size, 0, none⟩ = some (.int .i64 n.lev) ∧ W.cell? ⟨w.heap.size, 1, none⟩ = some (.int .i64 n.lsn) ∧ W.cell? ⟨w.heap.size, 2, none⟩ = some (.int .i64 n.rgt) ∧ W.cell? ⟨w.heap.size, 3, none⟩ = some (.string n.high) ∧ W.cell? ⟨w.heap.size, 4, none⟩ = some (.slice p.k n.keys.length p.kc) ∧ W.cell? ⟨w.heap.size, 5, none⟩ = some (.slice p.v n.vals.length p.vc) ∧ W.cell? ⟨w.heap.size, 6, none⟩ = some (.slice p.i n.kids.length p.ic)) := fun W f => box_cells (box_at w n p 25 f)
  have hh := high_le h
  have fr0 := (Fr.refl (fun _ => False) (w.alloc (.cells #[.int .i64 n.lev, .int .i64 n.lsn, .int .i64 n.rgt, .string n.high, .slice p.k n.keys.length p.kc, .slice p.v n.vals.length p.vc, .slice p.i n.kids.length p.ic] 25))).drew
  have q0 := HB.out _ fr0
  have hN := h.same (f0.seq' fr0)
  have HA : Hid (firstE [rgE n, ekey k.size, suE n k 2] = askE n k 0 0 2) := ask_3 n k 2
  have HOK : Hid (askE n k 0 0 2 = 0 → Rt n ∧ n.lev ≠ 0) := fun h => ⟨(ask_ok h).1, ask2_inner h⟩
  have HV : Hid (kidV n k = if askE n k 0 0 2 = 0 then n.kids.getD (kidF k n.keys) 0 else 0) := rfl
  generalize askE n k 0 0 2 = ae at *
  generalize kidV n k = gv at *
  go_enter Try.func20, Try.ntmps20
  go_wp2_with fail
  go_region_held3 (fun W => W.cell? ⟨w.heap.size, 0, none⟩ = some (.int .i64 n.lev) ∧ W.cell? ⟨w.heap.size, 1, none⟩ = some (.int .i64 n.lsn) ∧ W.cell? ⟨w.heap.size, 2, none⟩ = some (.int .i64 n.rgt) ∧ W.cell? ⟨w.heap.size, 3, none⟩ = some (.string n.high) ∧ W.cell? ⟨w.heap.size, 4, none⟩ = some (.slice p.k n.keys.length p.kc) ∧ W.cell? ⟨w.heap.size, 5, none⟩ = some (.slice p.v n.vals.length p.vc) ∧ W.cell? ⟨w.heap.size, 6, none⟩ = some (.slice p.i n.kids.length p.ic))
    (first | with_reducible exact q0 | with_reducible exact q1 | with_reducible exact q3 | with_reducible exact q4)
    (first
      | (go_at_call 56; refine (checkNode_any n p _ hN).mono ?_; rintro e w1 ⟨rfl, m1⟩; have fr1 := fr0.seq' m1; have q1 := HB.out _ fr1)
      | (go_at_call 57; refine (kcheck_any k _).mono ?_; rintro e w2 ⟨rfl, rfl⟩)
      | (go_at_call 58; refine (suits_any n p k 2 (by omega) hh hk _).mono ?_; rintro e w3 ⟨rfl, m3⟩; have fr3 := fr1.seq' m3; have q3 := HB.out _ fr3; have fr4 := fr3.alloc (.cells #[.int .i64 (rgE n), .int .i64 (ekey k.size : Nat), .int .i64 (suE n k 2)] 27); have q4 := HB.out _ fr4)
      | (go_at_call 55; refine (first3 (rgE n) (ekey k.size : Nat) (suE n k 2) w3).mono ?_; rw [HA.out]; rintro e w5 ⟨rfl, rfl⟩))
  have F4 := f0.seq' fr4
  have hN4 := h.same F4
  obtain ⟨c0, c1, c2, c3, c4, c5, c6⟩ := q4
  clear q0 q1 q3
  by_cases hae : ae = 0
  · subst hae
    obtain ⟨hr, hlev⟩ := HOK.out rfl
    have hpc := place_any p.k n.keys.length p.kc n.keys rfl k hk _ hN4.keys
    have HIL : Hid (n.kids.length = n.keys.length + 1) := (hr.inner hlev).1
    have HKL := kid_le (k := k) hr.srt
    rw [if_pos rfl] at HV
    unfold kidF at HKL HV
    obtain ⟨pi, pf, hpe⟩ : ∃ pi pf, plc (bsOf k) n.keys = (pi, pf) := ⟨_, _, rfl⟩
    rw [hpe] at hpc HV HKL
    simp only at hpc HV HKL
    clear hpe hr hlev HOK HA
    cases pf
    · rw [if_neg (by simp), Nat.add_zero] at HV HKL
      have hvi : pi < n.kids.length := by have := HIL.out; omega
      obtain ⟨bv, ov, ev, hbv, hcv⟩ := ints_some hN4.kids hvi
      have hvc := hcv pi hvi
      obtain ⟨x, hx⟩ : ∃ x, x = n.kids.getD pi 0 := ⟨_, rfl⟩
      rw [← hx] at hvc HV
      have hvii : (pi : Int) < (n.kids.length : Int) := by omega
      clear hx hcv
      go_wp2_with fail
      refine hpc.mono ?_
      rintro e w6 ⟨rfl, f6⟩
      obtain ⟨d0, d1, d2, d3, d4, d5, d6⟩ := HB.out _ (fr4.seq' f6)
      rw [ev] at d6
      have hvc6 := (f6.cell (p := ⟨bv, ov + pi, none⟩) hbv (fun f => f)).trans hvc
      go_wp2
      go_ret2
      exact ⟨ret_ii HV.out.symm rfl, F4.seq' f6⟩
    · rw [if_pos rfl] at HV HKL
      have hvi : pi + 1 < n.kids.length := by have := HIL.out; omega
      obtain ⟨bv, ov, ev, hbv, hcv⟩ := ints_some hN4.kids hvi
      have hvc := hcv (pi + 1) hvi
      obtain ⟨x, hx⟩ : ∃ x, x = n.kids.getD (pi + 1) 0 := ⟨_, rfl⟩
      rw [← hx] at hvc HV
      have hvii : (pi : Int) + 1 < (n.kids.length : Int) := by omega
      have hks := hN4.ilen
      clear hx hcv
      go_wp2_with fail
      refine hpc.mono ?_
      rintro e w6 ⟨rfl, f6⟩
      obtain ⟨d0, d1, d2, d3, d4, d5, d6⟩ := HB.out _ (fr4.seq' f6)
      rw [ev] at d6
      have hvc6 := (f6.cell (p := ⟨bv, ov + (pi + 1), none⟩) hbv (fun f => f)).trans hvc
      go_wp2
      go_ret2
      exact ⟨ret_ii HV.out.symm rfl, F4.seq' f6⟩
  · have hne : (ae != 0) = true := by simpa using hae
    rw [if_neg hae] at HV
    clear hae
    go_wp2
    go_ret2
    exact ⟨ret_ii HV.out.symm rfl, F4⟩
set_option maxRecDepth 100000 in
set_option maxHeartbeats 2000000 in
theorem rget_any (n : Nd) (p : Pt) (k : ByteArray) (hk : k.size ≤ maxLen) (w : World) (h : Nod w n p) : Calls Try.prog 19 #[(.agg #[.int .i64 n.lev, .int .i64 n.lsn, .int .i64 n.rgt, .string n.high, .slice p.k n.keys.length p.kc, .slice p.v n.vals.length p.vc, .slice p.i n.kids.length p.ic]), .string k] w fun e w' => e = .returned (.tuple #[.string (getV n k), .bool (getB n k), .int .i64 (askE n k 0 0 1)]) ∧ Fr (fun _ => False) w w' := by
  have f0 := Fr.box w (.cells #[.int .i64 n.lev, .int .i64 n.lsn, .int .i64 n.rgt, .string n.high, .slice p.k n.keys.length p.kc, .slice p.v n.vals.length p.vc, .slice p.i n.kids.length p.ic] 25)
  have HB : Hid (∀ W, Fr (fun _ => False) (w.alloc (.cells #[.int .i64 n.lev, .int .i64 n.lsn, .int .i64 n.rgt, .string n.high, .slice p.k n.keys.length p.kc, .slice p.v n.vals.length p.vc, .slice p.i n.kids.length p.ic] 25)) W → W.cell? ⟨w.heap.size, 0, none⟩ = some (.int .i64 n.lev) ∧ W.cell? ⟨w.heap.size, 1, none⟩ = some (.int .i64 n.lsn) ∧ W.cell? ⟨w.heap.size, 2, none⟩ = some (.int .i64 n.rgt) ∧ W.cell? ⟨w.heap.size, 3, none⟩ = some (.string n.high) ∧ W.cell? ⟨w.heap.size, 4, none⟩ = some (.slice p.k n.keys.length p.kc) ∧ W.cell? ⟨w.heap.size, 5, none⟩ = some (.slice p.v n.vals.length p.vc) ∧ W.cell? ⟨w.heap.size, 6, none⟩ = some (.slice p.i n.kids.length p.ic)) := fun W f => box_cells (box_at w n p 25 f)
  have hh := high_le h
  have ha := asked_any n p k ⟨#[]⟩ 1 0 1 (by omega) hh hk _ (h.same f0)
  rw [show ((evalu (ByteArray.mk #[]).size : Nat) : Int) = 0 from rfl, show nuE 1 = 0 from rfl] at ha
  have HOK : Hid (askE n k 0 0 1 = 0 → Rt n ∧ n.lev = 0) := fun h => ⟨(ask_ok h).1, ask1_leaf h⟩
  have HV : Hid (getV n k = if askE n k 0 0 1 = 0 then (if (plc (bsOf k) n.keys).2 = true then n.vals.getD (plc (bsOf k) n.keys).1 ByteArray.empty else ⟨#[]⟩) else ⟨#[]⟩) := rfl
  have HG : Hid (getB n k = if askE n k 0 0 1 = 0 then (plc (bsOf k) n.keys).2 else false) := rfl
  generalize askE n k 0 0 1 = ae at *
  generalize getV n k = gv at *
  generalize getB n k = gb at *
  go_enter Try.func19, Try.ntmps19
  go_wp2_with fail
  refine ha.mono ?_
  rintro e w1 ⟨rfl, f1⟩
  clear ha
  have F1 := f0.seq' f1
  have hN1 := h.same F1
  obtain ⟨c0, c1, c2, c3, c4, c5, c6⟩ := HB.out _ f1
  by_cases hae : ae = 0
  · subst hae
    obtain ⟨hr, hlev⟩ := HOK.out rfl
    have HS : Hid (srt n.keys) := hr.srt
    have HVL : Hid (n.vals.length = n.keys.length) := (hr.leaf hlev).1
    have hkl := hN1.keys.le
    have hkm := hN1.keys.max
    rw [if_pos rfl] at HV HG
    clear hr hlev HOK
    go_wp2
    go_loopw [19] (fun i wr => ∃ j : Nat, j ≤ n.keys.length ∧ i = .int .i64 j ∧ Hid (∀ x, x < j → bsOf (n.keys.getD x ByteArray.empty) ≠ bsOf k) ∧ wr = w1) (fun i _ => n.keys.length - (intOf i).toNat)
    case atStart => exact ⟨0, by omega, rfl, (fun x hx => by omega), rfl⟩
    case round =>
      obtain ⟨j, hj, rfl, HE, rfl⟩ := hrel
      by_cases hlt : j < n.keys.length
      · obtain ⟨bk, ok, ek, hbk, hck⟩ := strs_some hN1.keys hlt
        have hkc := hck j hlt
        have hvi : j < n.vals.length := by have := HVL.out; omega
        obtain ⟨bv, ov, ev, hbv, hcv⟩ := strs_some hN1.vals hvi
        have hvc := hcv j hvi
        have hji : (j : Int) < (n.keys.length : Int) := by omega
        have hjv : (j : Int) < (n.vals.length : Int) := by omega
        rw [ev] at c5
        have HSB := str_beq (n.keys.getD j ByteArray.empty) k
        by_cases hke : bsOf (n.keys.getD j ByteArray.empty) = bsOf k
        · have hpa := plc_at HS.out j hlt hke
          rw [hpa, if_pos rfl] at HV
          rw [hpa] at HG
          rw [decide_eq_true hke] at HSB
          obtain ⟨x, hx⟩ : ∃ x, x = n.vals.getD j ByteArray.empty := ⟨_, rfl⟩
          obtain ⟨y, hy⟩ : ∃ y, y = n.keys.getD j ByteArray.empty := ⟨_, rfl⟩
          simp only at HV HG
          rw [← hx] at hvc HV
          rw [← hy] at hkc HSB
          clear hx hy hck hcv hpa hke HE
          rw [ek]
          go_wp2
          go_ret3
          exact ⟨ret3 HV.out.symm HG.out.symm rfl, F1⟩
        · rw [decide_eq_false hke] at HSB
          have HKE : Hid (bsOf (n.keys.getD j ByteArray.empty) ≠ bsOf k) := hke
          obtain ⟨y, hy⟩ : ∃ y, y = n.keys.getD j ByteArray.empty := ⟨_, rfl⟩
          rw [← hy] at hkc HSB
          clear hy hck hcv hke
          rw [ek]
          go_wp2
          go_roundw
          case rel =>
            refine ⟨j + 1, by omega, by go_num, fun x hx => ?_, trivial⟩
            rcases Nat.lt_or_ge x j with h2 | h2
            · exact HE.out x h2
            · rw [show x = j by omega]; exact HKE.out
          case measure => simp [intOf]; omega
      · have e : j = n.keys.length := by omega
        have hno := plc_none HS.out (fun x hx => HE.out x (by omega))
        rw [hno] at HV HG
        rw [if_neg (by simp)] at HV
        clear hno
        subst e
        go_wp2
        go_ret3
        exact ⟨ret3 HV.out.symm HG.out.symm rfl, F1⟩
  · have hne : (ae != 0) = true := by simpa using hae
    rw [if_neg hae] at HV HG
    clear hae
    go_wp2
    go_ret3
    exact ⟨ret3 HV.out.symm HG.out.symm rfl, F1⟩
set_option maxRecDepth 100000 in
set_option maxHeartbeats 2000000 in
theorem rkid_any (n : Nd) (p : Pt) (k : ByteArray) (hk : k.size ≤ maxLen) (w : World) (h : Nod w n p) : Calls Try.prog 21 #[(.agg #[.int .i64 n.lev, .int .i64 n.lsn, .int .i64 n.rgt, .string n.high, .slice p.k n.keys.length p.kc, .slice p.v n.vals.length p.vc, .slice p.i n.kids.length p.ic]), .string k] w fun e w' => e = .returned (.tuple #[.int .i64 (kidV n k), .int .i64 (askE n k 0 0 2)]) ∧ Fr (fun _ => False) w w' := by
  have f0 := Fr.box w (.cells #[.int .i64 n.lev, .int .i64 n.lsn, .int .i64 n.rgt, .string n.high, .slice p.k n.keys.length p.kc, .slice p.v n.vals.length p.vc, .slice p.i n.kids.length p.ic] 25)
  have HB : Hid (∀ W, Fr (fun _ => False) (w.alloc (.cells #[.int .i64 n.lev, .int .i64 n.lsn, .int .i64 n.rgt, .string n.high, .slice p.k n.keys.length p.kc, .slice p.v n.vals.length p.vc, .slice p.i n.kids.length p.ic] 25)) W → W.cell? ⟨w.heap.size, 0, none⟩ = some (.int .i64 n.lev) ∧ W.cell? ⟨w.heap.size, 1, none⟩ = some (.int .i64 n.lsn) ∧ W.cell? ⟨w.heap.size, 2, none⟩ = some (.int .i64 n.rgt) ∧ W.cell? ⟨w.heap.size, 3, none⟩ = some (.string n.high) ∧ W.cell? ⟨w.heap.size, 4, none⟩ = some (.slice p.k n.keys.length p.kc) ∧ W.cell? ⟨w.heap.size, 5, none⟩ = some (.slice p.v n.vals.length p.vc) ∧ W.cell? ⟨w.heap.size, 6, none⟩ = some (.slice p.i n.kids.length p.ic)) := fun W f => box_cells (box_at w n p 25 f)
  have hh := high_le h
  have ha := asked_any n p k ⟨#[]⟩ 1 1 2 (by omega) hh hk _ (h.same f0)
  rw [show ((evalu (ByteArray.mk #[]).size : Nat) : Int) = 0 from rfl, show nuE 1 = 0 from rfl] at ha
  have HOK : Hid (askE n k 0 0 2 = 0 → Rt n ∧ n.lev ≠ 0) := fun h => ⟨(ask_ok h).1, ask2_inner h⟩
  have HV : Hid (kidV n k = if askE n k 0 0 2 = 0 then n.kids.getD (kidF k n.keys) 0 else 0) := rfl
  generalize askE n k 0 0 2 = ae at *
  generalize kidV n k = gv at *
  go_enter Try.func21, Try.ntmps21
  go_wp2_with fail
  refine ha.mono ?_
  rintro e w1 ⟨rfl, f1⟩
  clear ha
  have F1 := f0.seq' f1
  have hN1 := h.same F1
  obtain ⟨c0, c1, c2, c3, c4, c5, c6⟩ := HB.out _ f1
  by_cases hae : ae = 0
  · subst hae
    obtain ⟨hr, hlev⟩ := HOK.out rfl
    have HS : Hid (srt n.keys) := hr.srt
    have HIL : Hid (n.kids.length = n.keys.length + 1) := (hr.inner hlev).1
    have HKL := kid_le (k := k) hr.srt
    have HKI : Hid (∀ j, j < n.keys.length → (cpl (bsOf (n.keys.getD j ByteArray.empty)) (bsOf k) ≤ 0 ↔ j < kidF k n.keys)) := fun j hj => kid_iff hr.srt j hj
    have HTX : Hid (∀ s ∈ n.keys, s.size ≤ maxLen) := h.keys.text
    have hkl := hN1.keys.le
    have hkm := hN1.keys.max
    have hks := hN1.ilen
    rw [if_pos rfl] at HV
    obtain ⟨q, hq⟩ : ∃ q, q = kidF k n.keys := ⟨_, rfl⟩
    rw [← hq] at HV HKL HKI
    clear hr hlev HOK hq
    clear c0 c1 c2 c3 c5
    go_wp2
    go_loopw [7, 19] (fun u i wr => ∃ j : Nat, j ≤ n.keys.length ∧ i = .int .i64 j ∧ u = .int .i64 (min j q : Nat) ∧ Fr (fun _ => False) w1 wr) (fun _ i _ => n.keys.length - (intOf i).toNat)
    case atStart => exact ⟨0, by omega, rfl, by simp, Fr.refl _ _⟩
    case round =>
      obtain ⟨j, hj, rfl, rfl, hf⟩ := hrel
      have hml : min j q ≤ 140737488351232 := by have := HIL.out; omega
      by_cases hlt : j < n.keys.length
      · have hNw := hN1.same hf
        obtain ⟨bk, ok, ek, hbk, hck⟩ := strs_some hNw.keys hlt
        have hkc := hck j hlt
        have hji : (j : Int) < (n.keys.length : Int) := by omega
        have hki := HKI.out j hlt
        have hcm := fun W => rcompare_any (n.keys.getD j ByteArray.empty) k (HTX.out _ (strs_get hlt)) hk W
        obtain ⟨y, hy⟩ : ∃ y, y = n.keys.getD j ByteArray.empty := ⟨_, rfl⟩
        rw [← hy] at hkc hki hcm
        generalize cpl (bsOf y) (bsOf k) = cc at *
        clear hy hck
        rw [ek]
        by_cases hc0 : cc ≤ 0
        · have HJ : Hid (j < q) := hki.1 hc0
          clear hki
          go_wp2_with fail
          refine (hcm _).mono ?_
          rintro e w2 ⟨rfl, f2⟩
          go_wp2
          go_roundw
          case rel => exact ⟨j + 1, by omega, by go_num, val_int (by have := HJ.out; omega), hf.seq' f2⟩
          case measure => simp [intOf]; omega
        · have hc1 : 0 < cc := by omega
          have HJ : Hid (q ≤ j) := by
            show q ≤ j
            rcases Nat.lt_or_ge j q with h3 | h3
            · exact absurd (hki.2 h3) hc0
            · exact h3
          clear hki hc0
          go_wp2_with fail
          refine (hcm _).mono ?_
          rintro e w2 ⟨rfl, f2⟩
          go_wp2
          go_roundw
          case rel => exact ⟨j + 1, by omega, by go_num, val_int (by have := HJ.out; omega), hf.seq' f2⟩
          case measure => simp [intOf]; omega
      · have e : j = n.keys.length := by omega
        have hmq : min j q = q := by omega
        rw [hmq]
        have hvi : q < n.kids.length := by have := HIL.out; omega
        obtain ⟨bv, ov, ev, hbv, hcv⟩ := ints_some (hN1.same hf).kids hvi
        have hvc := hcv q hvi
        have hqi : (q : Int) < (n.kids.length : Int) := by omega
        obtain ⟨d0, d1, d2, d3, d4, d5, d6⟩ := HB.out _ (f1.seq' hf)
        rw [ev] at d6
        obtain ⟨x, hx⟩ : ∃ x, x = n.kids.getD q 0 := ⟨_, rfl⟩
        rw [← hx] at hvc HV
        clear hx hcv hmq hml c4 c6
        subst e
        go_wp2
        go_ret2
        exact ⟨ret_ii HV.out.symm rfl, F1.seq' hf⟩
  · have hne : (ae != 0) = true := by simpa using hae
    rw [if_neg hae] at HV
    clear hae
    go_wp2
    go_ret2
    exact ⟨ret_ii HV.out.symm rfl, F1⟩
end Go.Proofs.Ytaaedmacefiinaa

/- What page.bytesOf and page.sumOf make. -/
namespace Go.Proofs.Ytaaedmacefiinaa
open Go.RowKit Crcm

theorem Made.of {a b c : World} {v : Value} {l : List Nat} (f : Fr (fun _ => False) a b) (m : Made b c v l) : Made a c v l := by
  refine ⟨⟨m.own.1, ?_⟩, f.seq' m.fr⟩
  rcases m.own.2 with h | ⟨g, cap, cur, hv, hg, r⟩
  · exact .inl h
  · exact .inr ⟨g, cap, cur, hv, Nat.le_trans f.size hg, r⟩
theorem fit1 {x : Int} (h0 : 0 ≤ x) (h1 : x ≤ 20) : fit x ((1 : Nat) : Int) := ⟨h0, .inl ⟨rfl, by omega⟩⟩
theorem fit2 {x : Int} (h0 : 0 ≤ x) (h1 : x ≤ 252) : fit x ((2 : Nat) : Int) := ⟨h0, .inr (.inl ⟨rfl, by omega⟩)⟩
theorem fit4' {x : Int} (h0 : 0 ≤ x) (h1 : x ≤ 4096) : fit x ((4 : Nat) : Int) := ⟨h0, .inr (.inr (.inl ⟨rfl, by omega⟩))⟩
theorem fit8 {x : Int} (h0 : 0 ≤ x) : fit x ((8 : Nat) : Int) := ⟨h0, .inr (.inr (.inr rfl))⟩
theorem keys_small {n : Nd} (h : Rt n) : n.keys.length ≤ 252 := by
  have a := nb_length h
  have b := h.size
  have c : n.keys.length ≤ tsz n.keys := by
    generalize n.keys = l
    induction l with
    | nil => simp
    | cons x r ih =>
      have e2 : tsz (x :: r) = (x.size + 2) + tsz r := by simp [tsz]
      rw [e2, List.length_cons]; omega
  unfold sizeN at b; omega

set_option maxRecDepth 100000 in
set_option maxHeartbeats 2000000 in
theorem bytesOf_any0 (n : Nd) (pk : Option Addr) (pkc : Nat) (pv : Option Addr) (pvc : Nat) (pi : Option Addr) (pic : Nat) (w : World) (h : Nod w n ⟨pk, pkc, pv, pvc, pi, pic⟩) (hr : Rt n) :
    Calls Try.prog 40 #[(.agg #[.int .i64 n.lev, .int .i64 n.lsn, .int .i64 n.rgt, .string n.high, .slice pk n.keys.length pkc, .slice pv n.vals.length pvc, .slice pi n.kids.length pic])] w fun e w' => ∃ v', e = .returned v' ∧ Made w w' v' (nb n) := by
  obtain ⟨W0, hW0⟩ : ∃ W0, W0 = w.alloc (.cells #[.int .i64 n.lev, .int .i64 n.lsn, .int .i64 n.rgt, .string n.high, .slice pk n.keys.length pkc, .slice pv n.vals.length pvc, .slice pi n.kids.length pic] 25) := ⟨_, rfl⟩
  have f0 : Fr (fun _ => False) w W0 := by rw [hW0]; exact Fr.box w _
  have hz0 : W0.heap.size = w.heap.size + 1 := by rw [hW0]; simp
  have HB : Hid (∀ w', Fr (fun _ => False) W0 w' → w'.cell? ⟨w.heap.size, 0, none⟩ = some (.int .i64 n.lev) ∧ w'.cell? ⟨w.heap.size, 1, none⟩ = some (.int .i64 n.lsn) ∧ w'.cell? ⟨w.heap.size, 2, none⟩ = some (.int .i64 n.rgt) ∧ w'.cell? ⟨w.heap.size, 3, none⟩ = some (.string n.high) ∧
    w'.cell? ⟨w.heap.size, 4, none⟩ = some (.slice pk n.keys.length pkc) ∧ w'.cell? ⟨w.heap.size, 5, none⟩ = some (.slice pv n.vals.length pvc) ∧ w'.cell? ⟨w.heap.size, 6, none⟩ = some (.slice pi n.kids.length pic)) := fun w' f => by
      rw [hW0] at f
      exact box_cells (p := ⟨pk, pkc, pv, pvc, pi, pic⟩) (box_at w n ⟨pk, pkc, pv, pvc, pi, pic⟩ 25 f)
  have hW := h.same f0
  have HR : Hid (Rt n) := hr
  have hks := keys_small hr
  have hkc := h.keys.le
  have hkm := h.keys.max
  have hvc := h.vals.le
  have hvm := h.vals.max
  have hic := h.kids.le
  have him := h.kids.max
  simp only at hkc hkm hvc hvm hic him
  have hl0 := hr.lev0
  have hh16 := hr.high
  clear hr
  go_enter Try.func40, Try.ntmps40
  go_wp2_with fail
  rw [← hW0]
  refine (new_st W0).mono ?_
  rw [hz0]
  have HZ : Hid (W0.heap.size = w.heap.size + 1) := hz0
  clear hz0 hW0
  rintro e w1 ⟨rfl, s1⟩
  obtain ⟨c0, c1, c2, c3, c4, c5, c6⟩ := HB.out w1 s1.fr
  go_wp2_with fail
  refine (wnum_st W0 w1 _ HZ.out [] n.lev 1 (fit1 HR.out.lev0 HR.out.lev1) (by simp) s1).mono ?_
  rintro e w2 ⟨rfl, s2⟩
  clear c0 c1 c2 c3 c4 c5 c6 s1
  obtain ⟨c0, c1, c2, c3, c4, c5, c6⟩ := HB.out w2 s2.fr
  go_wp2_with fail
  refine (wnum_st W0 w2 _ HZ.out _ n.lsn 8 (fit8 HR.out.lsn0) (by simp [le_length]) s2).mono ?_
  rintro e w3 ⟨rfl, s3⟩
  clear c0 c1 c2 c3 c4 c5 c6 s2
  obtain ⟨c0, c1, c2, c3, c4, c5, c6⟩ := HB.out w3 s3.fr
  go_wp2_with fail
  refine (wnum_st W0 w3 _ HZ.out _ n.rgt 4 (fit4' HR.out.rgt0 HR.out.rgt1) (by simp [le_length]) s3).mono ?_
  rintro e w4 ⟨rfl, s4⟩
  clear c0 c1 c2 c3 c4 c5 c6 s3
  obtain ⟨c0, c1, c2, c3, c4, c5, c6⟩ := HB.out w4 s4.fr
  go_wp2_with fail
  refine (wnum_st W0 w4 _ HZ.out _ (n.keys.length : Int) 2 (fit2 (by omega) (by omega)) (by simp [le_length]) s4).mono ?_
  rintro e w5 ⟨rfl, s5⟩
  clear c0 c1 c2 c3 c4 c5 c6 s4
  obtain ⟨c0, c1, c2, c3, c4, c5, c6⟩ := HB.out w5 s5.fr
  go_wp2_with fail
  refine (wtext_st W0 w5 _ HZ.out _ n.high (by omega) (by simp [le_length]) s5).mono ?_
  rintro e w6 ⟨rfl, s6⟩
  clear c0 c1 c2 c3 c4 c5 c6 s5
  obtain ⟨c0, c1, c2, c3, c4, c5, c6⟩ := HB.out w6 s6.fr
  have s7 := s6.same (Fr.box w6 (.cells #[.int .i64 n.lev, .int .i64 n.lsn, .int .i64 n.rgt, .string n.high, .slice pk n.keys.length pkc, .slice pv n.vals.length pvc, .slice pi n.kids.length pic] 25))
  rw [List.nil_append, Int.toNat_natCast] at s7
  clear s6
  by_cases l0 : n.lev = 0
  · have e0 : (n.lev == 0) = true := by simp [l0]
    have HH : Hid (hd n = le 1 n.lev.toNat ++ le 8 n.lsn.toNat ++ le 4 n.rgt.toNat ++ le 2 n.keys.length ++ txt n.high) := by show hd n = _; unfold hd; rw [if_pos l0, List.append_nil]
    rw [← HH.out] at s7
    have HN : Hid (n.vals.length = n.keys.length) := (HR.out.leaf l0).1
    have HV : Hid (∀ i, i < n.vals.length → (n.vals.getD i ByteArray.empty).size ≤ 32) := (HR.out.leaf l0).2.2
    have HEN : Hid (∀ k, ens n (k + 1) = ens n k ++ (txt (n.keys.getD k ByteArray.empty) ++ txt (n.vals.getD k ByteArray.empty))) := fun k => by
      show ens n k ++ en n k = _
      unfold en; rw [if_pos l0]
    clear l0
    go_wp2_with fail
    refine (isLeaf_any n ⟨pk, pkc, pv, pvc, pi, pic⟩ _).mono ?_
    rintro e w7 ⟨rfl, rfl⟩
    obtain ⟨d0, d1, d2, d3, d4, d5, d6⟩ := HB.out _ s7.fr
    go_wp2
    go_loopw [40] (fun i wr => ∃ k : Nat, k ≤ n.keys.length ∧ i = .int .i64 k ∧ Wst W0 wr (hd n ++ ens n k)) (fun i _ => n.keys.length - (intOf i).toNat)
    case atStart => exact ⟨0, by omega, rfl, by simpa [ens] using s7⟩
    case round =>
      clear c0 c1 c2 c3 c4 c5 c6 d0 d1 d2 d3 d4 d5 d6 s7
      obtain ⟨k, hkk, rfl, st⟩ := hrel
      by_cases hlt : k < n.keys.length
      · obtain ⟨b, off, ee, hb, hc⟩ := strs_some (hW.keys.same st.fr) hlt
        have hcell := hc k hlt
        have hsz := (HR.out.keys k hlt).1.2
        have hlv : k < n.vals.length := by rw [HN.out]; exact hlt
        have hsv := HV.out k hlv
        have HE := HEN.out k
        obtain ⟨s, hs⟩ : ∃ s, s = n.keys.getD k ByteArray.empty := ⟨_, rfl⟩
        obtain ⟨t, ht⟩ : ∃ s, s = n.vals.getD k ByteArray.empty := ⟨_, rfl⟩
        rw [← hs] at hcell hsz HE
        rw [← ht] at hsv HE
        have HT : Hid (t = n.vals.getD k ByteArray.empty) := ht
        have HE' : Hid (ens n (k + 1) = ens n k ++ (txt s ++ txt t)) := HE
        have pl := part_length HR.out k hkk
        clear hs hc HE ht
        subst ee
        go_wp2_with fail
        refine (wtext_st W0 _ _ HZ.out _ s (by omega) (by omega) st).mono ?_
        rintro e w8 ⟨rfl, s8⟩
        obtain ⟨c0, c1, c2, c3, c4, c5, c6⟩ := HB.out _ s8.fr
        have s9 := s8.same (Fr.box w8 (.cells #[.int .i64 n.lev, .int .i64 n.lsn, .int .i64 n.rgt, .string n.high, .slice (some ⟨b, off, none⟩) n.keys.length pkc, .slice pv n.vals.length pvc, .slice pi n.kids.length pic] 25))
        go_wp2_with fail
        refine (isLeaf_any n ⟨some ⟨b, off, none⟩, pkc, pv, pvc, pi, pic⟩ _).mono ?_
        rintro e w9 ⟨rfl, rfl⟩
        obtain ⟨d0, d1, d2, d3, d4, d5, d6⟩ := HB.out _ s9.fr
        obtain ⟨b2, off2, ee, hb2, hc2⟩ := strs_some (hW.vals.same s9.fr) hlv
        have hcell2 := hc2 k hlv
        rw [← HT.out] at hcell2
        clear hc2
        subst ee
        go_wp2_with fail
        refine (wtext_st W0 _ _ HZ.out _ t (by omega) (by rw [List.length_append, txt_length]; omega) s9).mono ?_
        rintro e w10 ⟨rfl, s10⟩
        go_wp2
        go_roundw
        case rel => exact ⟨k + 1, by omega, by go_num, by rw [HE'.out]; simpa [List.append_assoc] using s10⟩
        case measure => simp [intOf]; omega
      · have e : k = n.keys.length := by omega
        subst e
        have pl := part_length HR.out n.keys.length (Nat.le_refl _)
        go_wp2_with fail
        refine (wbytes_st W0 _ _ HZ.out _ (octs_app (hd_octs n) (ens_octs n _)) (by omega) st).mono ?_
        rintro e w8 ⟨v8, rfl, m8⟩
        go_wp2
        go_ret
        exact ⟨v8, rfl, Made.of (f0.seq' st.fr) m8⟩
  · have e0 : (n.lev == 0) = false := by simpa using l0
    have HH : Hid (hd n = (le 1 n.lev.toNat ++ le 8 n.lsn.toNat ++ le 4 n.rgt.toNat ++ le 2 n.keys.length ++ txt n.high) ++ le 4 (n.kids.getD 0 0).toNat) := by show hd n = _; unfold hd; rw [if_neg l0]
    have HN : Hid (n.kids.length = n.keys.length + 1) := (HR.out.inner l0).1
    have HV : Hid (∀ i, i < n.kids.length → 1 ≤ n.kids.getD i 0 ∧ n.kids.getD i 0 ≤ 4096) := (HR.out.inner l0).2.2
    have HEN : Hid (∀ k, ens n (k + 1) = ens n k ++ (txt (n.keys.getD k ByteArray.empty) ++ le 4 (n.kids.getD (k + 1) 0).toNat)) := fun k => by
      show ens n k ++ en n k = _
      unfold en; rw [if_neg l0]
    have hlz : 0 < n.kids.length := by rw [HN.out]; omega
    clear l0
    go_wp2_with fail
    refine (isLeaf_any n ⟨pk, pkc, pv, pvc, pi, pic⟩ _).mono ?_
    rintro e w7 ⟨rfl, rfl⟩
    obtain ⟨d0, d1, d2, d3, d4, d5, d6⟩ := HB.out _ s7.fr
    obtain ⟨b3, off3, ee, hb3, hc3⟩ := ints_some (hW.kids.same s7.fr) hlz
    have hcell3 := hc3 0 hlz
    rw [Nat.add_zero] at hcell3
    have hr0 := HV.out 0 hlz
    obtain ⟨z0, hz0⟩ : ∃ z, z = n.kids.getD 0 0 := ⟨_, rfl⟩
    rw [← hz0] at hcell3 hr0
    have HZ0 : Hid (z0 = n.kids.getD 0 0) := hz0
    clear hc3 hz0
    subst ee
    go_wp2_with fail
    refine (wnum_st W0 _ _ HZ.out _ z0 4 (fit4' (by omega) hr0.2) (by simp [le_length, txt_length]; omega) s7).mono ?_
    rintro e w8 ⟨rfl, s8⟩
    rw [HZ0.out, ← HH.out] at s8
    clear c0 c1 c2 c3 c4 c5 c6 d0 d1 d2 d3 d4 d5 d6 hcell3
    obtain ⟨c0, c1, c2, c3, c4, c5, c6⟩ := HB.out w8 s8.fr
    go_wp2
    go_loopw [40] (fun i wr => ∃ k : Nat, k ≤ n.keys.length ∧ i = .int .i64 k ∧ Wst W0 wr (hd n ++ ens n k)) (fun i _ => n.keys.length - (intOf i).toNat)
    case atStart => exact ⟨0, by omega, rfl, by simpa [ens] using s8⟩
    case round =>
      clear c0 c1 c2 c3 c4 c5 c6 s8
      obtain ⟨k, hkk, rfl, st⟩ := hrel
      by_cases hlt : k < n.keys.length
      · obtain ⟨b, off, ee, hb, hc⟩ := strs_some (hW.keys.same st.fr) hlt
        have hcell := hc k hlt
        have hsz := (HR.out.keys k hlt).1.2
        have hlv : k + 1 < n.kids.length := by rw [HN.out]; omega
        have hsv := HV.out (k + 1) hlv
        have HE := HEN.out k
        obtain ⟨s, hs⟩ : ∃ s, s = n.keys.getD k ByteArray.empty := ⟨_, rfl⟩
        obtain ⟨t, ht⟩ : ∃ s, s = n.kids.getD (k + 1) 0 := ⟨_, rfl⟩
        rw [← hs] at hcell hsz HE
        rw [← ht] at hsv HE
        have HT : Hid (t = n.kids.getD (k + 1) 0) := ht
        have HE' : Hid (ens n (k + 1) = ens n k ++ (txt s ++ le 4 t.toNat)) := HE
        have pl := part_length HR.out k hkk
        clear hs hc HE ht
        subst ee
        go_wp2_with fail
        refine (wtext_st W0 _ _ HZ.out _ s (by omega) (by omega) st).mono ?_
        rintro e w9 ⟨rfl, s9⟩
        obtain ⟨c0, c1, c2, c3, c4, c5, c6⟩ := HB.out _ s9.fr
        have s10 := s9.same (Fr.box w9 (.cells #[.int .i64 n.lev, .int .i64 n.lsn, .int .i64 n.rgt, .string n.high, .slice (some ⟨b, off, none⟩) n.keys.length pkc, .slice pv n.vals.length pvc, .slice (some ⟨b3, off3, none⟩) n.kids.length pic] 25))
        go_wp2_with fail
        refine (isLeaf_any n ⟨some ⟨b, off, none⟩, pkc, pv, pvc, some ⟨b3, off3, none⟩, pic⟩ _).mono ?_
        rintro e w10 ⟨rfl, rfl⟩
        obtain ⟨d0, d1, d2, d3, d4, d5, d6⟩ := HB.out _ s10.fr
        have hcell2 : (w9.alloc (.cells #[.int .i64 n.lev, .int .i64 n.lsn, .int .i64 n.rgt, .string n.high, .slice (some ⟨b, off, none⟩) n.keys.length pkc, .slice pv n.vals.length pvc, .slice (some ⟨b3, off3, none⟩) n.kids.length pic] 25)).cell? ⟨b3, off3 + (k + 1), none⟩ = some (.int .i64 t) := by
          obtain ⟨b4, off4, e4, _, hc4⟩ := ints_some (hW.kids.same s10.fr) hlv
          simp only [Option.some.injEq, Addr.mk.injEq, and_true] at e4
          have q := hc4 (k + 1) hlv
          rw [← e4.1, ← e4.2, ← HT.out] at q; exact q
        go_wp2_with fail
        refine (wnum_st W0 _ _ HZ.out _ t 4 (fit4' (by omega) hsv.2) (by rw [List.length_append, txt_length]; omega) s10).mono ?_
        rintro e w11 ⟨rfl, s11⟩
        go_wp2
        go_roundw
        case rel => exact ⟨k + 1, by omega, by go_num, by rw [HE'.out]; simpa [List.append_assoc] using s11⟩
        case measure => simp [intOf]; omega
      · have e : k = n.keys.length := by omega
        subst e
        have pl := part_length HR.out n.keys.length (Nat.le_refl _)
        go_wp2_with fail
        refine (wbytes_st W0 _ _ HZ.out _ (octs_app (hd_octs n) (ens_octs n _)) (by omega) st).mono ?_
        rintro e w8 ⟨v8, rfl, m8⟩
        go_wp2
        go_ret
        exact ⟨v8, rfl, Made.of (f0.seq' st.fr) m8⟩
theorem bytesOf_any (n : Nd) (p : Pt) (w : World) (h : Nod w n p) (hr : Rt n) : Calls Try.prog 40 #[(.agg #[.int .i64 n.lev, .int .i64 n.lsn, .int .i64 n.rgt, .string n.high, .slice p.k n.keys.length p.kc, .slice p.v n.vals.length p.vc, .slice p.i n.kids.length p.ic])] w fun e w' => ∃ v', e = .returned v' ∧ Made w w' v' (nb n) :=
  bytesOf_any0 n p.k p.kc p.v p.vc p.i p.ic w h hr

set_option maxRecDepth 100000 in
set_option maxHeartbeats 1000000 in
theorem sumOf_any (a : Option Addr) (m cap : Nat) (l : List Nat) (hn : m = l.length) (w : World) (hr : Row w a cap l) : Calls Try.prog 41 #[.slice a m cap] w fun e w' => ∃ v', e = .returned v' ∧ Made w w' v' (le 4 (crc l)) := by
  subst hn
  have hcl := crc_lt hr.byte
  go_enter Try.func41, Try.ntmps41
  go_wp2_with fail
  refine (new_st w).mono ?_
  rintro e w1 ⟨rfl, s1⟩
  go_wp2_with fail
  refine (sum_any a _ cap l rfl _ (hr.same s1.fr)).mono ?_
  rintro e w2 ⟨rfl, rfl⟩
  go_wp2_with fail
  refine (wnum_st w _ _ rfl [] (crc l : Nat) 4 (fit4 _ hcl) (by simp) s1).mono ?_
  rw [List.nil_append, Int.toNat_natCast]
  rintro e w3 ⟨rfl, s3⟩
  go_wp2_with fail
  refine (wbytes_st w _ _ rfl _ (le_octs' _ _) (by simp [le_length]) s3).mono ?_
  rintro e w4 ⟨v4, rfl, m4⟩
  go_wp2
  go_ret
  exact ⟨v4, rfl, Made.of s3.fr m4⟩
end Go.Proofs.Ytaaedmacefiinaa

/- Slices whose room may be cut short: what lies in them, and what an append makes of them. -/
namespace Go.Proofs.Ytaaedmacefiinaa
open Go.RowKit

theorem Fr.setCells {S : Nat → Prop} {a : World} {b : Nat} (hb : b < a.heap.size → S b) : ∀ (vs : List Value) (o : Nat) {w : World}, Fr S a w → Fr S a (w.setCells b o vs)
  | [], _, _, h => h
  | v :: r, o, _, h => by rw [World.setCells]; exact Fr.setCells hb r (o + 1) (h.setCell (p := ⟨b, o, none⟩) hb v)

theorem range_fr {S : Nat → Prop} {w w' : World} {b o : Nat} {xs : List Value} (h : w.rangeAt b o xs) (f : Fr S w w') (hn : ¬ S b) : w'.rangeAt b o xs := fun j v hv => by
  have h1 := h j v hv
  rw [f.cell (p := ⟨b, o + j, none⟩) (World.block_lt_of_cell? w _ h1) hn]; exact h1
theorem there_fr {S : Nat → Prop} {w w' : World} {b o n : Nat} (h : w.there b o n) (f : Fr S w w') (hn : ¬ S b) : w'.there b o n := fun j hj => by
  obtain ⟨h1, h2⟩ := h j hj
  obtain ⟨u, hu⟩ := Option.isSome_iff_exists.1 h1
  have hb := f.block b (World.block_lt_of_cell? w _ hu) hn
  exact ⟨by rw [World.cell?_of_block (a := ⟨b, o + j, none⟩) hb]; exact h1, by rw [World.frozen?_of_block (a := ⟨b, o + j, none⟩) hb]; exact h2⟩
theorem range_part {w : World} {b o : Nat} {xs ys : List Value} (k : Nat) (h : w.rangeAt b o xs) (hy : ∀ j v, ys[j]? = some v → xs[k + j]? = some v) : w.rangeAt b (o + k) ys := fun j v hv => by
  rw [Nat.add_assoc]; exact h (k + j) v (hy j v hv)
theorem range_join {w : World} {b o : Nat} {xs ys : List Value} (h : w.rangeAt b o xs) (k : w.rangeAt b (o + xs.length) ys) : w.rangeAt b o (xs ++ ys) := fun j v hv => by
  rcases Nat.lt_or_ge j xs.length with hj | hj
  · rw [List.getElem?_append_left hj] at hv; exact h j v hv
  · rw [List.getElem?_append_right hj] at hv
    have := k (j - xs.length) v hv
    rwa [show o + xs.length + (j - xs.length) = o + j by omega] at this
theorem range_block {w : World} {b : Nat} {C : Array Value} {t : TypeId} {fr : Nat × Nat} (hb : w.heap[b]? = some (.cells C t fr)) {o : Nat} {xs : List Value} (hx : ∀ j v, xs[j]? = some v → C[o + j]? = some v) : w.rangeAt b o xs := fun j v hv => by
  rw [cell_of_row w b (o + j) C t fr hb]; exact hx j v hv
theorem there_block {w : World} {b : Nat} {C : Array Value} {t : TypeId} (hb : w.heap[b]? = some (.cells C t (0, 0))) {o n : Nat} (hn : o + n ≤ C.size) : w.there b o n := fun j hj => by
  refine ⟨?_, ?_⟩
  · rw [cell_of_row w b (o + j) C t _ hb, Array.getElem?_eq_getElem (by omega)]; rfl
  · simp [World.frozen?, hb]

/-- v is a slice of n elements, of size cells each, that holds xs. -/
def Has (w : World) (size : Nat) (v : Value) (n : Nat) (xs : List Value) : Prop :=
  xs.length = n * size ∧
  ((v = .slice none 0 0 ∧ n = 0) ∨
   ∃ g cap, v = .slice (some ⟨g, 0, none⟩) n cap ∧ g < w.heap.size ∧ n ≤ cap ∧ cap ≤ maxLen ∧ w.there g 0 (cap * size) ∧ w.rangeAt g 0 xs)

theorem Has.nil (w : World) (size : Nat) : Has w size (.slice none 0 0) 0 [] := ⟨by simp, .inl ⟨rfl, rfl⟩⟩
theorem Has.lt {w : World} {size : Nat} {v : Value} {n : Nat} {xs : List Value} (h : Has w size v n xs) {k : Nat} (hk : v.ownBlock = some k) : k < w.heap.size := by
  rcases h.2 with ⟨rfl, _⟩ | ⟨g, cap, rfl, hg, _⟩
  · cases hk
  · simp [Value.ownBlock] at hk; omega
theorem Has.slice {w : World} {size : Nat} {v : Value} {n : Nat} {xs : List Value} (h : Has w size v n xs) : ∃ a c, v = .slice a n c ∧ n ≤ c ∧ c ≤ maxLen := by
  rcases h.2 with ⟨rfl, rfl⟩ | ⟨g, cap, rfl, _, h1, h2, _⟩
  · exact ⟨none, 0, rfl, Nat.le_refl _, by unfold maxLen; omega⟩
  · exact ⟨_, cap, rfl, h1, h2⟩
theorem Has.form {w : World} {size : Nat} {v : Value} {n : Nat} {xs : List Value} (h : Has w size v n xs) (hn : 0 < n) : ∃ g cap, v = .slice (some ⟨g, 0, none⟩) n cap ∧ g < w.heap.size ∧ n ≤ cap ∧ cap ≤ maxLen ∧ w.there g 0 (cap * size) ∧ w.rangeAt g 0 xs := by
  rcases h.2 with ⟨_, h0⟩ | h
  · omega
  · exact h
theorem Has.fr {S : Nat → Prop} {w w' : World} {size : Nat} {v : Value} {n : Nat} {xs : List Value} (h : Has w size v n xs) (f : Fr S w w') (hn : ∀ k, v.ownBlock = some k → ¬ S k) : Has w' size v n xs := by
  refine ⟨h.1, ?_⟩
  rcases h.2 with h2 | ⟨g, cap, rfl, hg, h1, h2, h3, h4⟩
  · exact .inl h2
  · exact .inr ⟨g, cap, rfl, Nat.lt_of_lt_of_le hg f.size, h1, h2, there_fr h3 f (hn g rfl), range_fr h4 f (hn g rfl)⟩
/-- One of its elements is stored anew. -/
theorem Has.set {w : World} {size : Nat} {g n cap : Nat} {xs : List Value} (h : Has w size (.slice (some ⟨g, 0, none⟩) n cap) n xs) (k : Nat) (ys : List Value) (hy : k + ys.length ≤ xs.length) :
    Has (w.setCells g k ys) size (.slice (some ⟨g, 0, none⟩) n cap) n (xs.take k ++ ys ++ xs.drop (k + ys.length)) := by
  refine ⟨by rw [← h.1]; simp; omega, ?_⟩
  rcases h.2 with ⟨h2, _⟩ | ⟨g', cap', hv, hg, h1, h2, h3, h4⟩
  · cases h2
  · simp only [Value.slice.injEq, Option.some.injEq, Addr.mk.injEq, and_true, true_and] at hv
    obtain ⟨rfl, rfl⟩ := hv
    refine .inr ⟨g, cap, rfl, ?_, h1, h2, World.there_setCells h3 _ _ _, ?_⟩
    · have := (Fr.setCells (S := fun _ => True) (a := w) (b := g) (fun _ => trivial) ys k (Fr.refl _ w)).size
      omega
    · have ht : w.there g k ys.length := fun j hj => by
        have := h3 (k + j) (by have := h.1; have := Nat.mul_le_mul_right size h1; omega)
        simpa using this
      have hs := World.rangeAt_setCells_same w g k ys ht
      have ha : (w.setCells g k ys).rangeAt g 0 (xs.take k) := World.rangeAt_setCells_apart (fun j v hv => h4 j v (by
        rw [List.getElem?_take] at hv; split at hv
        · exact hv
        · cases hv)) g k ys (.inr (.inl (by simp; omega)))
      have hb : (w.setCells g k ys).rangeAt g (k + ys.length) (xs.drop (k + ys.length)) := World.rangeAt_setCells_apart (by
        have := range_part (ys := xs.drop (k + ys.length)) (k + ys.length) h4 (fun j v hv => by rwa [List.getElem?_drop] at hv)
        rwa [Nat.zero_add] at this) g k ys (.inr (.inr (by omega)))
      have hl : (xs.take k).length = k := by simp; omega
      exact range_join (range_join ha (by rw [hl]; simpa using hs)) (by simp only [List.length_append, hl]; simpa using hb)

section
variable {P : Program} (w : World)

/-- Where cells come from: nothing, or they lie in memory. -/
def From (w : World) (a : Option Addr) (news : List Value) : Prop := news = [] ∨ ∃ b off, a = some ⟨b, off, none⟩ ∧ w.rangeAt b off news

theorem From.src {w : World} {a : Option Addr} {news : List Value} {size m c : Nat} {tx e' : TypeId} (hx : P.underlying tx = some (.slice e')) (h : From w a news) (hl : news.length = m * size) (hsz : 0 < size) (h1 : ∀ u ∈ news, u.oneCell' = true) (hc : m = 0 → a = none → True) :
    Src P size tx (.slice a m c) m news w := by
  have two : ∀ w' : World, (∀ x, w'.cell? x = w.cell? x) → (Builtin.firstCells size m (.slice a m c)).run P w' = .ok news.toArray w' := by
    intro w' hw
    rcases h with rfl | ⟨b, off, rfl, hr⟩
    · have hm : m = 0 := by
        rcases Nat.eq_zero_or_pos m with h | h
        · exact h
        · have := Nat.mul_pos h hsz; simp at hl; omega
      subst hm
      cases a with
      | none => exact run_firstCells_none w' size 0 0 c
      | some x => exact run_firstCells_some (P := P) w' size 0 x 0 c [] (by simp) (fun j u hu => by simp at hu)
    · exact run_firstCells_some (P := P) w' size m ⟨b, off, none⟩ m c news hl (fun j u hu => by rw [Addr.add_lit, hw]; exact hr j u hu)
  exact ⟨.inl ⟨e', hx⟩, fun _ => rfl, two w (fun _ => rfl), two w.drew (fun x => by simp), by omega, h1⟩

/-- What an append makes of such a slice. -/
theorem run_append_has (t tx ty e e' : TypeId) (i : TypeInfo) (z : Value) (size bytes : Nat) (ht : P.underlying t = some (.slice e)) (hx : P.underlying tx = some (.slice e')) (hi : P.info? e = some i) (hz : i.zero = some z)
    (hsize : i.size = size) (hby : i.bytes = bytes) (hzs : z.cells.size = size) (hsz : 0 < size)
    (v : Value) (n : Nat) (xs : List Value) (hown : Has w size v n xs)
    (a : Option Addr) (m c : Nat) (news : List Value) (hl : news.length = m * size) (hnews : From w a news) (h1 : ∀ u ∈ news, u.oneCell' = true)
    (h63 : n + m ≤ maxLen) (hbytes : (n + m) * bytes ≤ 140737488355328) :
    ∃ v' w', (Builtin.append_ #[t, tx] ty #[v, .slice a m c]).run P w = .ok v' w' ∧ Has w' size v' (n + m) (xs ++ news) ∧ Fr (fun k => v.ownBlock = some k ∧ 0 < m) w w' ∧
      (v'.ownBlock = v.ownBlock ∨ v'.ownBlock = some w.heap.size) := by
  subst hsize
  subst hby
  have hsmall : n + m ≤ 9223372036854775807 := by simp only [maxLen] at h63; omega
  have hlen : (xs ++ news).length = (n + m) * i.size := by rw [List.length_append, hown.1, hl, Nat.add_mul]
  have hsrc := From.src (P := P) (c := c) hx hnews hl hsz h1 (fun _ _ => trivial)
  have grown : ∀ (old : Nat), old < n + m →
      Has (w.drew.alloc (.cells ((xs ++ news).toArray ++ Builtin.zeroCells z.cells (grownCap w (n + m) old e - (n + m))) e)) i.size (.slice (some ⟨w.heap.size, 0, none⟩) (n + m) (grownCap w (n + m) old e)) (n + m) (xs ++ news) ∧
      ∀ S, Fr S w (w.drew.alloc (.cells ((xs ++ news).toArray ++ Builtin.zeroCells z.cells (grownCap w (n + m) old e - (n + m))) e)) := by
    intro old ho
    have hge := grownCap_ge w (n + m) old e
    have hcm : grownCap w (n + m) old e ≤ maxLen := grownCap_le_maxLen w (n + m) old e h63
    have hb := heap_alloc_new w.drew (.cells ((xs ++ news).toArray ++ Builtin.zeroCells z.cells (grownCap w (n + m) old e - (n + m))) e)
    refine ⟨⟨hlen, .inr ⟨w.heap.size, _, rfl, by simp, hge, hcm, there_block hb ?_, range_block hb ?_⟩⟩, fun S => ((Fr.refl S w).drew).alloc _⟩
    · simp only [Array.size_append, List.size_toArray, hlen, size_zeroCells, hzs, ← Nat.add_mul, Nat.zero_add]
      exact Nat.mul_le_mul_right _ (by omega)
    · intro j u hu
      have hj : j < (xs ++ news).length := (List.getElem?_eq_some_iff.1 hu).1
      rw [Nat.zero_add, Array.getElem?_append_left (by simpa using hj)]
      simpa using hu
  rcases hown.2 with ⟨rfl, rfl⟩ | ⟨g, cap, rfl, hg, hnc, hcm, hth, hra⟩
  · have hxs : xs = [] := List.eq_nil_of_length_eq_zero (by simpa using hown.1)
    subst hxs
    by_cases hm : m = 0
    · subst hm
      have hn : news = [] := List.eq_nil_of_length_eq_zero (by simpa using hl)
      subst hn
      refine ⟨.slice none 0 0, w, ?_, Has.nil w i.size, Fr.refl _ _, Or.inl rfl⟩
      simp [Builtin.append_, run_underlying ht, run_underlying hx, sizeOf, typeInfo, hi, Builtin.lenOf, hsrc.cells]
    · have hr := run_append_grow_src (P := P) w t tx ty e i z ht hi hz none 0 0 [] (by simpa using run_firstCells_none w.drew i.size 0 0 0) (.slice a m c) m news hsrc (by omega) (by omega) (by
        have hb := hbytes; simp only [Nat.zero_add] at hb ⊢; rw [nextslicecap_zero (by omega)]; omega)
      have hgr := grown 0 (by omega)
      exact ⟨_, _, hr, hgr.1, hgr.2 _, Or.inr rfl⟩
  · by_cases hroom : n + m ≤ cap
    · have hfit : n * i.size + news.length ≤ cap * i.size := by rw [hl, ← Nat.add_mul]; exact Nat.mul_le_mul_right _ hroom
      have hth2 : w.there g (n * i.size) news.length := fun j hj => by
        have := hth (n * i.size + j) (by omega)
        simpa using this
      have hr := run_append_room_src (P := P) w t tx ty e i ht hi g 0 n cap (.slice a m c) m news hsrc hroom (fun j hj => by simpa using (hth2 j hj).1) (fun j hj => by simpa using (hth2 j hj).2)
      rw [Nat.zero_add] at hr
      have hfr : Fr (fun k => (Value.slice (some ⟨g, 0, none⟩) n cap).ownBlock = some k ∧ 0 < m) w (w.setCells g (n * i.size) news) := by
        by_cases hm : m = 0
        · subst hm
          have hn : news = [] := List.eq_nil_of_length_eq_zero (by simpa using hl)
          subst hn
          exact Fr.refl _ _
        · exact Fr.setCells (fun _ => ⟨rfl, by omega⟩) news _ (Fr.refl _ w)
      refine ⟨_, _, hr, ⟨hlen, .inr ⟨g, cap, rfl, Nat.lt_of_lt_of_le hg hfr.size, hroom, hcm, World.there_setCells hth _ _ _, range_join ?_ ?_⟩⟩, hfr, Or.inl rfl⟩
      · exact World.rangeAt_setCells_apart hra _ _ _ (.inr (.inl (by rw [hown.1]; omega)))
      · have := World.rangeAt_setCells_same w g (n * i.size) news hth2
        rwa [hown.1, Nat.zero_add]
    · have hold : (Builtin.firstCells i.size n (.slice (some ⟨g, 0, none⟩) n cap)).run P w.drew = .ok xs.toArray w.drew :=
        run_firstCells_some (P := P) w.drew i.size n ⟨g, 0, none⟩ n cap xs hown.1 (fun j u hu => by rw [Addr.add_lit]; simpa using hra j u hu)
      have hr := run_append_grow_src (P := P) w t tx ty e i z ht hi hz (some ⟨g, 0, none⟩) n cap xs hold (.slice a m c) m news hsrc (by omega) (by omega) (growslice_fits (by omega) hbytes)
      have hgr := grown cap (by omega)
      exact ⟨_, _, hr, hgr.1, hgr.2 _, Or.inr rfl⟩

theorem wp_append_has {o : Oper} {ac : Act} {K : Act → World → Prop} {Q : Exit → Act → World → Prop} (s x : Operand) (t tx e e' : TypeId)
    (ho : o.op = .call { callee := .builtin .append, args := #[s, x], argTypes := #[t, tx] }) (i : TypeInfo) (z : Value) (size bytes : Nat) (ht : P.underlying t = some (.slice e)) (hx : P.underlying tx = some (.slice e')) (hi : P.info? e = some i) (hz : i.zero = some z)
    (hsize : i.size = size) (hby : i.bytes = bytes) (hzs : z.cells.size = size) (hsz : 0 < size)
    (v : Value) (n : Nat) (xs : List Value) (hse : ac.eval s = v) (hown : Has w size v n xs)
    (a : Option Addr) (m c : Nat) (news : List Value) (hxe : ac.eval x = .slice a m c) (hl : news.length = m * size) (hnews : From w a news) (h1 : ∀ u ∈ news, u.oneCell' = true)
    (h63 : n + m ≤ maxLen) (hbytes : (n + m) * bytes ≤ 140737488355328)
    (h : ∀ a' c' w', Has w' size (.slice a' (n + m) c') (n + m) (xs ++ news) → Fr (fun k => v.ownBlock = some k ∧ 0 < m) w w' → ((Value.slice a' (n + m) c').ownBlock = v.ownBlock ∨ (Value.slice a' (n + m) c').ownBlock = some w.heap.size) → K (ac.put o.dst (.slice a' (n + m) c')) w') : o.wp P ac w K Q := by
  obtain ⟨v', w', hrun, h2, h3, h4⟩ := run_append_has (P := P) w t tx o.type e e' i z size bytes ht hx hi hz hsize hby hzs hsz v n xs hown a m c news hl hnews h1 h63 hbytes
  unfold Oper.wp execOp
  simp only [ho, resolve, invoke, builtin, Sem.run_bind, Sem.run_pure, Result.andThen_ok, List.map_toArray, List.map_cons, List.map_nil, hse, hxe, hrun]
  obtain ⟨a', c', rfl, _⟩ := h2.slice
  exact h a' c' w' h2 h3 h4

theorem wpList_append_has {ops : Array Oper} {rest : List Oper} {o : Oper} {ac : Act} {Q : Exit → Act → World → Prop} (hgd : o.guard = none) (s x : Operand) (t tx e e' : TypeId)
    (ho : o.op = .call { callee := .builtin .append, args := #[s, x], argTypes := #[t, tx] }) (i : TypeInfo) (z : Value) (size bytes : Nat) (ht : P.underlying t = some (.slice e)) (hx : P.underlying tx = some (.slice e')) (hi : P.info? e = some i) (hz : i.zero = some z)
    (hsize : i.size = size) (hby : i.bytes = bytes) (hzs : z.cells.size = size) (hsz : 0 < size)
    (v : Value) (n : Nat) (xs : List Value) (hse : ac.eval s = v) (hown : Has w size v n xs)
    (a : Option Addr) (m c : Nat) (news : List Value) (hxe : ac.eval x = .slice a m c) (hl : news.length = m * size) (hnews : From w a news) (h1 : ∀ u ∈ news, u.oneCell' = true)
    (h63 : n + m ≤ maxLen) (hbytes : (n + m) * bytes ≤ 140737488355328)
    (h : ∀ a' c' w', Has w' size (.slice a' (n + m) c') (n + m) (xs ++ news) → Fr (fun k => v.ownBlock = some k ∧ 0 < m) w w' → ((Value.slice a' (n + m) c').ownBlock = v.ownBlock ∨ (Value.slice a' (n + m) c').ownBlock = some w.heap.size) → wpList P ops Q rest (ac.put o.dst (.slice a' (n + m) c')) w') : wpList P ops Q (o :: rest) ac w :=
  wpList_plain hgd fun _ hK => wp_append_has w s x t tx e e' ho i z size bytes ht hx hi hz hsize hby hzs hsz v n xs hse hown a m c news hxe hl hnews h1 h63 hbytes fun a' c' w' h2 h3 h4 => hK _ _ (h a' c' w' h2 h3 h4)

theorem step_append_has {ops : Array Oper} {o : Oper} {ac : Act} {K : Act → World → Prop} {Q : Exit → Act → World → Prop} {E : Prop} (hgd : o.guard = none) (s x : Operand) (t tx e e' : TypeId)
    (ho : o.op = .call { callee := .builtin .append, args := #[s, x], argTypes := #[t, tx] }) (i : TypeInfo) (z : Value) (size bytes : Nat) (ht : P.underlying t = some (.slice e)) (hx : P.underlying tx = some (.slice e')) (hi : P.info? e = some i) (hz : i.zero = some z)
    (hsize : i.size = size) (hby : i.bytes = bytes) (hzs : z.cells.size = size) (hsz : 0 < size)
    (v : Value) (n : Nat) (xs : List Value) (hse : ac.eval s = v) (hown : Has w size v n xs)
    (a : Option Addr) (m c : Nat) (news : List Value) (hxe : ac.eval x = .slice a m c) (hl : news.length = m * size) (hnews : From w a news) (h1 : ∀ u ∈ news, u.oneCell' = true)
    (h63 : n + m ≤ maxLen) (hbytes : (n + m) * bytes ≤ 140737488355328)
    (h : ∀ a' c' w', Has w' size (.slice a' (n + m) c') (n + m) (xs ++ news) → Fr (fun k => v.ownBlock = some k ∧ 0 < m) w w' → ((Value.slice a' (n + m) c').ownBlock = v.ownBlock ∨ (Value.slice a' (n + m) c').ownBlock = some w.heap.size) → K (ac.put o.dst (.slice a' (n + m) c')) w') :
    if Region.wanted o (yielded ops ac.tmps) = true then Oper.wp P o ac w K Q else E := by
  have hw : Region.wanted o (yielded ops ac.tmps) = true := by simp [Region.wanted, hgd]
  rw [if_pos hw]
  exact wp_append_has w s x t tx e e' ho i z size bytes ht hx hi hz hsize hby hzs hsz v n xs hse hown a m c news hxe hl hnews h1 h63 hbytes h
end

/-- Lists of elements, laid cell by cell. -/
theorem flat_length {α : Type} {f : α → List Value} {size : Nat} (hf : ∀ x, (f x).length = size) (l : List α) : (l.flatMap f).length = l.length * size := by
  induction l with
  | nil => simp
  | cons x l ih => rw [List.flatMap_cons, List.length_append, hf, ih, List.length_cons, Nat.add_mul]; omega
theorem flat_drop {α : Type} {f : α → List Value} {size : Nat} (hf : ∀ x, (f x).length = size) (l : List α) (i : Nat) : (l.flatMap f).drop (i * size) = (l.drop i).flatMap f := by
  induction l generalizing i with
  | nil => simp
  | cons x l ih =>
    cases i with
    | zero => simp
    | succ i =>
      rw [List.flatMap_cons, List.drop_succ_cons, ← ih i, List.drop_append, hf, List.drop_of_length_le (by rw [hf, Nat.add_mul]; omega), List.nil_append]
      congr 1
      rw [Nat.add_mul]; omega
theorem flat_take {α : Type} {f : α → List Value} {size : Nat} (hf : ∀ x, (f x).length = size) (l : List α) (i : Nat) : (l.flatMap f).take (i * size) = (l.take i).flatMap f := by
  induction l generalizing i with
  | nil => simp
  | cons x l ih =>
    cases i with
    | zero => simp
    | succ i =>
      rw [List.flatMap_cons, List.take_succ_cons, List.flatMap_cons, ← ih i, List.take_append, hf, List.take_of_length_le (by rw [hf, Nat.add_mul]; omega)]
      congr 2
      rw [Nat.add_mul]; omega
theorem flat_get {α : Type} {f : α → List Value} {size : Nat} (hf : ∀ x, (f x).length = size) (l : List α) (i : Nat) (x : α) (h : l[i]? = some x) (j : Nat) (hj : j < size) : (l.flatMap f)[i * size + j]? = (f x)[j]? := by
  rw [← List.getElem?_drop, flat_drop hf]
  obtain ⟨hi, rfl⟩ := List.getElem?_eq_some_iff.1 h
  rw [List.drop_eq_getElem_cons hi, List.flatMap_cons, List.getElem?_append_left (by rw [hf]; exact hj)]
/-- An element of such a slice. -/
theorem Has.elem {α : Type} {f : α → List Value} {w : World} {size g n cap : Nat} {l : List α} (h : Has w size (.slice (some ⟨g, 0, none⟩) n cap) n (l.flatMap f)) (hf : ∀ x, (f x).length = size) {i : Nat} {x : α} (hx : l[i]? = some x) : w.rangeAt g (i * size) (f x) := by
  rcases h.2 with ⟨h2, _⟩ | ⟨g', cap', hv, hg, h1, h2, h3, h4⟩
  · cases h2
  · simp only [Value.slice.injEq, Option.some.injEq, Addr.mk.injEq, and_true, true_and] at hv
    obtain ⟨rfl, rfl⟩ := hv
    intro j v hj
    have hlt : j < size := by have := (List.getElem?_eq_some_iff.1 hj).1; rwa [hf] at this
    have := h4 (i * size + j) v (by rw [flat_get hf l i x hx j hlt]; exact hj)
    rwa [Nat.zero_add] at this
/-- One element is stored anew. -/
theorem Has.put {α : Type} {f : α → List Value} {w : World} {size g n cap : Nat} {l : List α} (h : Has w size (.slice (some ⟨g, 0, none⟩) n cap) n (l.flatMap f)) (hf : ∀ x, (f x).length = size) {i : Nat} (hi : i < l.length) (y : α) :
    Has (w.setCells g (i * size) (f y)) size (.slice (some ⟨g, 0, none⟩) n cap) n ((l.set i y).flatMap f) := by
  have hle : (i + 1) * size ≤ l.length * size := Nat.mul_le_mul_right _ hi
  rw [Nat.add_mul] at hle
  have := h.set (i * size) (f y) (by rw [hf, flat_length hf]; omega)
  rw [hf, flat_take hf, show i * size + size = (i + 1) * size by rw [Nat.add_mul]; omega, flat_drop hf] at this
  rw [List.set_eq_take_append_cons_drop, if_pos hi, List.flatMap_append, List.flatMap_cons]
  simpa [List.append_assoc] using this
end Go.Proofs.Ytaaedmacefiinaa

/- An array that a call makes: how it is laid, and what is copied into it. -/
namespace Go.Proofs.Ytaaedmacefiinaa
open Go.RowKit Crcm

section
variable {P : Program}
theorem step_of {ops : Array Oper} {o : Oper} {ac : Act} {w : World} {K : Act → World → Prop} {Q : Exit → Act → World → Prop} {E : Prop} (hgd : o.guard = none) (h : Oper.wp P o ac w K Q) : if Region.wanted o (yielded ops ac.tmps) = true then Oper.wp P o ac w K Q else E := by
  have hw : Region.wanted o (yielded ops ac.tmps) = true := by simp [Region.wanted, hgd]
  rw [if_pos hw]
  exact h
theorem wp_alloc {o : Oper} {a : Act} {w : World} {K : Act → World → Prop} {Q : Exit → Act → World → Prop} (t : TypeId) (ho : o.op = .alloc t) (i : TypeInfo) (z : Value) (hi : P.info? t = some i) (hz : i.zero = some z)
    (h : K (a.put o.dst (.pointer (some ⟨w.heap.size, 0, none⟩))) (w.alloc (.cells z.cells t))) : o.wp P a w K Q := by
  have hzz : (zeroValue t).run P w = .ok z w := by simp [zeroValue, typeInfo, hi, hz]
  have hrun : (Instr.alloc t true (Value.tuple #[])).run P w = .ok (.pointer (some ⟨w.heap.size, 0, none⟩)) (w.alloc (.cells z.cells t)) := by
    simp [Instr.alloc, hzz, newVar, newRow]
  unfold Oper.wp execOp
  simp only [ho, Sem.run_bind, hrun, Result.andThen_ok]
  exact h
theorem wpList_alloc {ops : Array Oper} {rest : List Oper} {o : Oper} {a : Act} {w : World} {Q : Exit → Act → World → Prop} (hgd : o.guard = none) (t : TypeId) (ho : o.op = .alloc t) (i : TypeInfo) (z : Value) (hi : P.info? t = some i) (hz : i.zero = some z)
    (h : wpList P ops Q rest (a.put o.dst (.pointer (some ⟨w.heap.size, 0, none⟩))) (w.alloc (.cells z.cells t))) : wpList P ops Q (o :: rest) a w :=
  wpList_plain hgd fun _ hK => wp_alloc t ho i z hi hz (hK _ _ h)
theorem run_copy_arr (w : World) (ty dT sT : TypeId) (hu : P.underlying dT = some (.slice 5)) (hs : (P.info? 5).map (·.size) = some 1) (b off dLen dCap : Nat) (ad : Option Addr) (n cap : Nat) (l : List Nat) (hn : n = l.length) (hle : l.length ≤ dLen) (hr : Row w ad cap l) (ht : w.there b off l.length) :
    (Builtin.copy_ #[dT, sT] ty #[.slice (some ⟨b, off, none⟩) dLen dCap, .slice ad n cap]).run P w = .ok (goInt l.length) (w.setCells b off (cellsOf l)) := by
  subst hn
  rcases hr.at_ with h0 | ⟨b', off', rfl, _, hc⟩
  · subst h0
    exact run_copy_none w dT sT _ 5 _ _ dLen dCap 0 cap hu hs (by simp)
  · have := run_copy_cells (P := P) w dT sT ty 5 b off dLen dCap ⟨b', off', none⟩ l.length cap (cellsOf l) hu hs (by rw [cellsOf_length]; exact (Nat.min_eq_left hle).symm) (fun j v hv => by
      rw [Addr.add_lit]
      have hj : j < l.length := by have := (List.getElem?_eq_some_iff.1 hv).1; rwa [cellsOf_length] at this
      rw [cellsOf_get l j hj] at hv
      rw [hc j hj]; exact hv) (fun j hj => (ht j (by rwa [cellsOf_length] at hj)).1) (fun j hj => (ht j (by rwa [cellsOf_length] at hj)).2) (cellsOf_oneCell l)
    rwa [cellsOf_length] at this
end

def z256 : List Nat := List.replicate 256 0
theorem z256_length : z256.length = 256 := List.length_replicate
theorem z256_drop (k : Nat) : z256.drop k = List.replicate (256 - k) 0 := List.drop_replicate
theorem z256_octs : octs z256 := fun x hx => by have := (List.mem_replicate.1 hx).2; omega
theorem infoLay : (Try.prog.info? 69).map (fun i => (i.zero, i.size, i.bytes)) = some (some (.agg (cellsOf z256).toArray), 256, 256) := by kernel_rfl

/-- A slice over a whole array of so many bytes. -/
abbrev Arr (w : World) (g : Nat) (l : List Nat) : Prop := Has w 1 (.slice (some ⟨g, 0, none⟩) 256 256) 256 (cellsOf l)
theorem Arr.new (w : World) (t : TypeId) (l : List Nat) (hl : l.length = 256) : Arr (w.alloc (.cells (cellsOf l).toArray t)) w.heap.size l := by
  refine ⟨by rw [cellsOf_length, hl], .inr ⟨w.heap.size, 256, rfl, by simp, Nat.le_refl _, by unfold maxLen; omega, ?_, ?_⟩⟩
  · exact there_block (heap_alloc_new w _) (by simp [cellsOf_length, hl])
  · exact range_block (heap_alloc_new w _) (fun j v hv => by rw [Nat.zero_add]; simpa using hv)
theorem Arr.length {w : World} {g : Nat} {l : List Nat} (h : Arr w g l) : l.length = 256 := by have := h.1; rw [cellsOf_length] at this; omega
theorem Arr.there {w : World} {g : Nat} {l : List Nat} (h : Arr w g l) : w.there g 0 256 := by
  rcases h.2 with ⟨e, _⟩ | ⟨g', cap, e, _, _, _, ht, _⟩
  · cases e
  · simp only [Value.slice.injEq, Option.some.injEq, Addr.mk.injEq, and_true, true_and] at e
    obtain ⟨rfl, rfl⟩ := e
    simpa using ht
theorem Arr.lt {w : World} {g : Nat} {l : List Nat} (h : Arr w g l) : g < w.heap.size := Has.lt h rfl
theorem Arr.range {w : World} {g : Nat} {l : List Nat} (h : Arr w g l) : w.rangeAt g 0 (cellsOf l) := by
  rcases h.2 with ⟨e, _⟩ | ⟨g', cap, e, _, _, _, _, hr⟩
  · cases e
  · simp only [Value.slice.injEq, Option.some.injEq, Addr.mk.injEq, and_true, true_and] at e
    obtain ⟨rfl, rfl⟩ := e
    exact hr
theorem Arr.row {w : World} {g : Nat} {l : List Nat} (h : Arr w g l) (ho : octs l) (k : Nat) (hk : k ≤ 256) (cap : Nat) (hc : k ≤ cap) (hc2 : cap ≤ 256) : Row w (some ⟨g, 0, none⟩) cap (l.take k) := by
  have hl := h.length
  refine ⟨by simp; omega, by omega, by simp; omega, octs_take ho k, .inr ⟨g, 0, rfl, h.lt, fun i hi => ?_⟩⟩
  rw [List.length_take] at hi
  have := h.range i (.int .u8 ((l.getD i 0 : Nat) : Int)) (cellsOf_get l i (by omega))
  rw [this, List.getD_eq_getElem?_getD, List.getD_eq_getElem?_getD, List.getElem?_take, if_pos (by omega)]
theorem Arr.set {w : World} {g : Nat} {l : List Nat} (h : Arr w g l) (k : Nat) (m : List Nat) (hm : k + m.length ≤ 256) : Arr (w.setCells g k (cellsOf m)) g (l.take k ++ m ++ l.drop (k + m.length)) := by
  have hl := h.length
  have := Has.set h k (cellsOf m) (by rw [cellsOf_length, cellsOf_length, hl]; exact hm)
  rw [cellsOf_length] at this
  unfold Arr
  rw [cellsOf_append, cellsOf_append]
  simpa [cellsOf, List.map_take, List.map_drop] using this
end Go.Proofs.Ytaaedmacefiinaa

/- What page.Encode makes. -/
namespace Go.Proofs.Ytaaedmacefiinaa
open Go.RowKit Crcm

theorem pad_is (l : List Nat) (h : l.length ≤ 252) : (z256.take 0 ++ l ++ z256.drop (0 + l.length)).take 252 = pad l := by
  rw [z256_drop, List.take_zero, List.nil_append, pad, List.take_append, List.take_of_length_le h, List.take_replicate]
  congr 2; omega
theorem pg_is (l : List Nat) (h : l.length ≤ 252) (t : List Nat) (ht : t.length = 4) : (z256.take 0 ++ l ++ z256.drop (0 + l.length)).take 252 ++ t ++ (z256.take 0 ++ l ++ z256.drop (0 + l.length)).drop (252 + t.length) = pad l ++ t := by
  rw [pad_is l h]
  have : ((z256.take 0 ++ l ++ z256.drop (0 + l.length)).drop (252 + t.length)) = [] := List.drop_eq_nil_of_le (by rw [z256_drop]; simp; omega)
  rw [this, List.append_nil]

theorem Fr.set_new {W0 W : World} (f : Fr (fun _ => False) W0 W) {g : Nat} (hg : W0.heap.size ≤ g) (vs : List Value) (o : Nat) : Fr (fun _ => False) W0 (W.setCells g o vs) :=
  Fr.setCells (S := fun _ => False) (b := g) (fun hh => absurd hh (by omega)) vs o f
theorem Arr.some {w : World} {g : Nat} {l : List Nat} (h : Arr w g l) (k n : Nat) (hn : k + n ≤ 256) : w.there g k n := fun j hj => by
  have := h.there (k + j) (by omega)
  simpa using this

set_option maxRecDepth 100000 in
set_option maxHeartbeats 400000 in
theorem encode_no (n : Nd) (p : Pt) (w : World) (h : Nod w n p) (hr : rightB n = false) : Calls Try.prog 12 #[(.agg #[.int .i64 n.lev, .int .i64 n.lsn, .int .i64 n.rgt, .string n.high, .slice p.k n.keys.length p.kc, .slice p.v n.vals.length p.vc, .slice p.i n.kids.length p.ic])] w fun e w' => e = .returned (.tuple #[.slice none 0 0, .int .i64 60]) ∧ Fr (fun _ => False) w w' := by
  have f0 := Fr.box w (.cells #[.int .i64 n.lev, .int .i64 n.lsn, .int .i64 n.rgt, .string n.high, .slice p.k n.keys.length p.kc, .slice p.v n.vals.length p.vc, .slice p.i n.kids.length p.ic] 25)
  have HE : Hid (epage n = 60) := epage_no hr
  clear hr
  go_enter Try.func12, Try.ntmps12
  go_wp2_with fail
  refine (check_any n p _ (h.same f0)).mono ?_
  rw [HE.out]
  rintro e w1 ⟨rfl, f1⟩
  go_wp2
  go_ret2
  exact ⟨rfl, f0.seq' f1⟩

set_option maxRecDepth 100000 in
set_option maxHeartbeats 1000000 in
theorem encode_yes (n : Nd) (p : Pt) (w : World) (h : Nod w n p) (hr : Rt n) : Calls Try.prog 12 #[(.agg #[.int .i64 n.lev, .int .i64 n.lsn, .int .i64 n.rgt, .string n.high, .slice p.k n.keys.length p.kc, .slice p.v n.vals.length p.vc, .slice p.i n.kids.length p.ic])] w fun e w' => ∃ g, e = .returned (.tuple #[.slice (some ⟨g, 0, none⟩) 256 256, .int .i64 0]) ∧ Arr w' g (pg n) ∧ w.heap.size ≤ g ∧ Fr (fun _ => False) w w' := by
  obtain ⟨i1, hi1, hz1, hs1, hb1⟩ := info_parts infoLay
  obtain ⟨i0, hi, hz0, hsz, hz2⟩ := info_parts info8
  have h8 : (Try.prog.info? 5).map (·.size) = some 1 := by rw [hi]; simp [hsz]
  have H8 : Hid ((Try.prog.info? 5).map (·.size) = some 1) := h8
  have f0 := Fr.box w (.cells #[.int .i64 n.lev, .int .i64 n.lsn, .int .i64 n.rgt, .string n.high, .slice p.k n.keys.length p.kc, .slice p.v n.vals.length p.vc, .slice p.i n.kids.length p.ic] 25)
  have HE : Hid (epage n = 0) := epage_yes ((right_iff n).2 hr)
  have HL : Hid ((nb n).length ≤ 252) := by show _ ≤ _; have := nb_length hr; have := hr.size; omega
  have HR : Hid (Rt n) := hr
  clear hr h8 hi hz0 hsz hz2
  go_enter Try.func12, Try.ntmps12
  go_wp2_with fail
  refine (check_any n p _ (h.same f0)).mono ?_
  rw [HE.out]
  rintro e w1 ⟨rfl, f1⟩
  go_wp2_with (refine wpList_alloc rfl 69 rfl i1 (.agg (cellsOf z256).toArray) hi1 hz1 ?_)
  have ez : (Value.agg (cellsOf z256).toArray).cells = (cellsOf z256).toArray := rfl
  rw [ez]
  obtain ⟨W2, hW2⟩ : ∃ W2, W2 = w1.alloc (.cells (cellsOf z256).toArray 69) := ⟨_, rfl⟩
  obtain ⟨g, hg⟩ : ∃ g, g = w1.heap.size := ⟨_, rfl⟩
  have hA : Arr W2 g z256 := by rw [hW2, hg]; exact Arr.new w1 _ z256 z256_length
  have f12 : Fr (fun _ => False) w1 W2 := by rw [hW2]; exact Fr.box w1 _
  have f2 := f1.seq' f12
  have hg0 : w.heap.size + 1 ≤ g := by rw [hg]; have := f1.size; simpa using this
  rw [← hW2, ← hg]
  clear ez hW2 hg hi1 hz1 hs1 hb1
  have HB : Hid (∀ W, Fr (fun _ => False) (w.alloc (.cells #[.int .i64 n.lev, .int .i64 n.lsn, .int .i64 n.rgt, .string n.high, .slice p.k n.keys.length p.kc, .slice p.v n.vals.length p.vc, .slice p.i n.kids.length p.ic] 25)) W → W.cell? ⟨w.heap.size, 0, none⟩ = some (.int .i64 n.lev) ∧ W.cell? ⟨w.heap.size, 1, none⟩ = some (.int .i64 n.lsn) ∧ W.cell? ⟨w.heap.size, 2, none⟩ = some (.int .i64 n.rgt) ∧ W.cell? ⟨w.heap.size, 3, none⟩ = some (.string n.high) ∧
    W.cell? ⟨w.heap.size, 4, none⟩ = some (.slice p.k n.keys.length p.kc) ∧ W.cell? ⟨w.heap.size, 5, none⟩ = some (.slice p.v n.vals.length p.vc) ∧ W.cell? ⟨w.heap.size, 6, none⟩ = some (.slice p.i n.kids.length p.ic)) := fun W f => box_cells (box_at w n p 25 f)
  have fr0 := f2.drew
  have HL2 : Hid ((nb n).length ≤ 140737488355328) := by show _ ≤ _; have := HL.out; omega
  have HL3 : Hid (0 + (nb n).length ≤ 256) := by show _ ≤ _; have := HL.out; omega
  have hg1 : (w.alloc (.cells #[.int .i64 n.lev, .int .i64 n.lsn, .int .i64 n.rgt, .string n.high, .slice p.k n.keys.length p.kc, .slice p.v n.vals.length p.vc, .slice p.i n.kids.length p.ic] 25)).heap.size ≤ g := by simpa using hg0
  have q0 := HB.out _ fr0
  have hN := h.same (f0.seq' fr0)
  have hA0 : Arr W2.drew g z256 := Has.fr hA (Fr.refl (fun _ => False) W2).drew (fun _ _ f => f)
  go_wp2_with fail
  go_region_held3 (fun W => W.cell? ⟨w.heap.size, 0, none⟩ = some (.int .i64 n.lev) ∧ W.cell? ⟨w.heap.size, 1, none⟩ = some (.int .i64 n.lsn) ∧ W.cell? ⟨w.heap.size, 2, none⟩ = some (.int .i64 n.rgt) ∧ W.cell? ⟨w.heap.size, 3, none⟩ = some (.string n.high) ∧ W.cell? ⟨w.heap.size, 4, none⟩ = some (.slice p.k n.keys.length p.kc) ∧ W.cell? ⟨w.heap.size, 5, none⟩ = some (.slice p.v n.vals.length p.vc) ∧ W.cell? ⟨w.heap.size, 6, none⟩ = some (.slice p.i n.kids.length p.ic))
    (first | with_reducible exact q0 | with_reducible exact q1 | with_reducible exact q2)
    ((go_at_call 40; refine (bytesOf_any n p _ hN HR.out).mono ?_; rintro e w5 ⟨v5, rfl, m5⟩; obtain ⟨a5, c5, rfl, hr5⟩ := m5.own.row (nb_octs n) HL2.out; have q1 := HB.out _ (fr0.seq' m5.fr); have hA5 : Arr w5 g z256 := Has.fr hA0 m5.fr (fun _ _ f => f); have hth := hA5.some 0 (nb n).length HL3.out; have q2 := HB.out _ ((fr0.seq' m5.fr).set_new hg1 (cellsOf (nb n)) 0); have hcp := run_copy_arr (P := Try.prog) w5 3 26 26 Try.underlying26 H8.out g 0 252 256 a5 (nb n).length c5 (nb n) rfl HL.out hr5 hth))
  obtain ⟨L6, hL6⟩ : ∃ L, L = z256.take 0 ++ nb n ++ z256.drop (0 + (nb n).length) := ⟨_, rfl⟩
  obtain ⟨W6, hW6⟩ : ∃ W, W = w5.setCells g 0 (cellsOf (nb n)) := ⟨_, rfl⟩
  have HO : Hid (octs L6) := by
    show octs L6
    rw [hL6]; exact octs_app (octs_app (octs_take z256_octs 0) (nb_octs n)) (fun x hx => z256_octs x (List.mem_of_mem_drop hx))
  have hA6 : Arr W6 g L6 := by rw [hW6, hL6]; exact hA5.set 0 (nb n) HL3.out
  have f6 : Fr (fun _ => False) (w.alloc (.cells #[.int .i64 n.lev, .int .i64 n.lsn, .int .i64 n.rgt, .string n.high, .slice p.k n.keys.length p.kc, .slice p.v n.vals.length p.vc, .slice p.i n.kids.length p.ic] 25)) W6 := by rw [hW6]; exact (fr0.seq' m5.fr).set_new hg1 (cellsOf (nb n)) 0
  have HP : Hid (L6.take 252 = pad (nb n)) := by show _ = _; rw [hL6]; exact pad_is (nb n) HL.out
  have HQ : Hid (∀ t : List Nat, t.length = 4 → L6.take 252 ++ t ++ L6.drop (252 + t.length) = pad (nb n) ++ t) := fun t ht => by rw [hL6]; exact pg_is (nb n) HL.out t ht
  rw [← hW6]
  clear hW6 hL6 hcp hth q2 q1 hA5 hr5 m5 q0 hN hA0
  have hA7 : Arr W6.drew g L6 := Has.fr hA6 (Fr.refl (fun _ => False) W6).drew (fun _ _ f => f)
  have hro : Row W6.drew (some ⟨g, 0, none⟩) 256 (L6.take 252) := by
    exact hA7.row HO.out 252 (by omega) 256 (by omega) (by omega)
  have hpl : (pad (nb n)).length = 252 := pad_length HL.out
  rw [HP.out] at hro
  have HPL : Hid ((pad (nb n)).length = 252) := hpl
  have h4 := le_length 4 (crc (pad (nb n)))
  have H4 : Hid ((le 4 (crc (pad (nb n)))).length = 4) := h4
  have H4s : Hid ((le 4 (crc (pad (nb n)))).length ≤ 140737488355328) := by show _ ≤ _; omega
  have H4t : Hid ((le 4 (crc (pad (nb n)))).length ≤ 4) := by show _ ≤ _; omega
  have H4u : Hid (252 + (le 4 (crc (pad (nb n)))).length ≤ 256) := by show _ ≤ _; omega
  clear hpl h4
  obtain ⟨t4, ht4⟩ : ∃ t, t = le 4 (crc (pad (nb n))) := ⟨_, rfl⟩
  rw [← ht4] at H4 H4s H4t H4u
  have HT4 : Hid (t4 = le 4 (crc (pad (nb n)))) := ht4
  clear ht4
  go_wp2_with fail
  go_region_held3 (fun _ => True)
    (trivial)
    ((go_at_call 41; refine (sumOf_any _ _ _ (pad (nb n)) HPL.out.symm _ hro).mono ?_; rw [← HT4.out]; rintro e w8 ⟨v8, rfl, m8⟩; obtain ⟨a8, c8, hv8, hr8⟩ := m8.own.row (HT4.out ▸ le_octs' _ _) H4s.out; rw [H4.out] at hv8; subst hv8; have hA8 : Arr w8 g L6 := Has.fr hA7 m8.fr (fun _ _ f => f); have hth := hA8.some 252 t4.length H4u.out; have hcp := run_copy_arr (P := Try.prog) w8 3 26 26 Try.underlying26 H8.out g 252 4 4 a8 4 c8 t4 H4.out.symm H4t.out hr8 hth))
  have hA9 := hA8.set 252 t4 H4u.out
  rw [HQ.out t4 H4.out, HT4.out] at hA9
  have f9 := (f6.drew.seq' m8.fr).set_new hg1 (cellsOf t4) 252
  obtain ⟨W9, hW9⟩ : ∃ W, W = w8.setCells g 252 (cellsOf t4) := ⟨_, rfl⟩
  rw [← hW9] at f9 ⊢
  rw [← HT4.out, ← hW9] at hA9
  clear hW9 hcp hth hA8 hr8 m8
  go_wp2
  go_ret2
  exact ⟨g, rfl, by unfold pg; rw [← HT4.out]; exact hA9, by omega, f0.seq' f9⟩
end Go.Proofs.Ytaaedmacefiinaa

/- What the reader's calls tell, each in one form: by a plain function of what is left and the reader's error. -/
namespace Go.Proofs.Ytaaedmacefiinaa
open Go.RowKit

/-- A reader's state: what is left, and its error. -/
abbrev RS : Type := List Nat × Int
def sizedP (s : Int) : Prop := s = 1 ∨ s = 2 ∨ s = 4 ∨ s = 8
/-- Num: the number, what is told, the state behind. -/
def numS (st : RS) (size : Int) : Int × Int × RS :=
  if ¬ (size = 1 ∨ size = 2 ∨ size = 4 ∨ size = 8) then (0, 1, st)
  else if ¬ st.2 = 0 then (0, st.2, st)
  else if (st.1.length : Int) < size then (0, 10, (st.1, 10))
  else if 9223372036854775808 ≤ val (st.1.take size.toNat) then (0, 1, (st.1, 1))
  else ((val (st.1.take size.toNat) : Int), 0, (st.1.drop size.toNat, 0))
/-- Text: the text's bytes, what is told, the state behind. -/
def textS (st : RS) (most : Int) : List Nat × Int × RS :=
  if most < 0 then ([], 1, st)
  else if ¬ st.2 = 0 then ([], st.2, st)
  else if st.1.length < 2 then ([], 10, (st.1, 10))
  else if st.1.length < 2 + val (st.1.take 2) then ([], 10, (st.1, 10))
  else if most < val (st.1.take 2) then ([], 2, (st.1, 2))
  else ((st.1.drop 2).take (val (st.1.take 2)), 0, (st.1.drop (2 + val (st.1.take 2)), 0))

/-- Where a reader's bytes lie behind a call: where they lay, or nowhere. -/
def Near (a a' : Option Addr) : Prop := ∀ b off sp, a' = some ⟨b, off, sp⟩ → ∃ o s, a = some ⟨b, o, s⟩
theorem Near.refl (a : Option Addr) : Near a a := fun _ off sp e => ⟨off, sp, e⟩

theorem rnum_all (size : Int) (rb : Nat) (a : Option Addr) (cap : Nat) (st : RS) (w : World) (h : Rd w rb a cap st.1 st.2) :
    Calls Try.prog 93 #[.pointer (some ⟨rb, 0, none⟩), .int .i64 size] w fun e w' => e = .returned (.tuple #[.int .i64 (numS st size).1, .int .i64 (numS st size).2.1]) ∧
      ∃ a' c', Rd w' rb a' c' (numS st size).2.2.1 (numS st size).2.2.2 ∧ Fr (fun k => k = rb) w w' ∧ Near a a' := by
  obtain ⟨l, err⟩ := st
  by_cases hs : size = 1 ∨ size = 2 ∨ size = 4 ∨ size = 8
  · obtain ⟨sz, rfl⟩ := Int.eq_ofNat_of_zero_le (a := size) (by omega)
    by_cases he : err = 0
    · subst he
      by_cases hlt : l.length < sz
      · have e : numS (l, 0) sz = (0, 10, (l, 10)) := by unfold numS; rw [if_neg (not_not_intro hs), if_neg (by simp), if_pos (by simpa using hlt)]
        rw [e]
        refine (rnum_cut sz hs rb a cap l hlt w h).mono ?_
        rintro e w' ⟨rfl, hrd, hf⟩
        exact ⟨rfl, a, cap, hrd, hf, Near.refl a⟩
      · by_cases hv : 9223372036854775808 ≤ val (l.take sz)
        · have e : numS (l, 0) sz = (0, 1, (l, 1)) := by unfold numS; rw [if_neg (not_not_intro hs), if_neg (by simp), if_neg (by simpa using hlt), if_pos (by simpa using hv)]
          rw [e]
          refine (rnum_big sz hs rb a cap l (by omega) hv w h).mono ?_
          rintro e w' ⟨rfl, hrd, hf⟩
          exact ⟨rfl, a, cap, hrd, hf, Near.refl a⟩
        · have e : numS (l, 0) sz = ((val (l.take sz) : Int), 0, (l.drop sz, 0)) := by unfold numS; rw [if_neg (not_not_intro hs), if_neg (by simp), if_neg (by simpa using hlt), if_neg (by simpa using hv)]; rfl
          rw [e]
          refine (rnum_ok sz hs rb a cap l (by omega) (by omega) w h).mono ?_
          rintro e w' ⟨rfl, a', c', hrd, hf, hn⟩
          exact ⟨rfl, a', c', hrd, hf, hn⟩
    · have e : numS (l, err) sz = (0, err, (l, err)) := by unfold numS; rw [if_neg (not_not_intro hs), if_pos (by simpa using he)]
      rw [e]
      refine (rnum_stop sz hs rb a cap l err he w h).mono ?_
      rintro e w' ⟨rfl, rfl⟩
      exact ⟨rfl, a, cap, h, Fr.refl _ _, Near.refl a⟩
  · have e : numS (l, err) size = (0, 1, (l, err)) := by unfold numS; rw [if_pos hs]
    rw [e]
    refine (rnum_arg (some ⟨rb, 0, none⟩) size (fun e => hs (.inl e)) (fun e => hs (.inr (.inl e))) (fun e => hs (.inr (.inr (.inl e)))) (fun e => hs (.inr (.inr (.inr e)))) w).mono ?_
    rintro e w' ⟨rfl, rfl⟩
    exact ⟨rfl, a, cap, h, Fr.refl _ _, Near.refl a⟩

theorem rtext_all (most : Int) (rb : Nat) (a : Option Addr) (cap : Nat) (st : RS) (w : World) (h : Rd w rb a cap st.1 st.2) :
    Calls Try.prog 118 #[.pointer (some ⟨rb, 0, none⟩), .int .i64 most] w fun e w' => e = .returned (.tuple #[.string (strOf (textS st most).1), .int .i64 (textS st most).2.1]) ∧
      ∃ a' c', Rd w' rb a' c' (textS st most).2.2.1 (textS st most).2.2.2 ∧ Fr (fun k => k = rb) w w' ∧ Near a a' := by
  obtain ⟨l, err⟩ := st
  by_cases hm : most < 0
  · have e : textS (l, err) most = ([], 1, (l, err)) := by unfold textS; rw [if_pos hm]
    rw [e]
    refine (rtext_arg (some ⟨rb, 0, none⟩) most hm w).mono ?_
    rintro e w' ⟨rfl, rfl⟩
    exact ⟨rfl, a, cap, h, Fr.refl _ _, Near.refl a⟩
  · by_cases he : err = 0
    · subst he
      by_cases h2 : l.length < 2
      · have e : textS (l, 0) most = ([], 10, (l, 10)) := by unfold textS; rw [if_neg hm, if_neg (by simp), if_pos h2]
        rw [e]
        refine (rtext_cut0 most hm rb a cap l h2 w h).mono ?_
        rintro e w' ⟨rfl, hrd, hf⟩
        exact ⟨rfl, a, cap, hrd, hf, Near.refl a⟩
      · by_cases hv : l.length < 2 + val (l.take 2)
        · have e : textS (l, 0) most = ([], 10, (l, 10)) := by unfold textS; rw [if_neg hm, if_neg (by simp), if_neg h2, if_pos hv]
          rw [e]
          refine (rtext_bad most hm rb a cap l (by omega) 10 (.inl ⟨hv, rfl⟩) w h).mono ?_
          rintro e w' ⟨rfl, hrd, hf⟩
          exact ⟨rfl, a, cap, hrd, hf, Near.refl a⟩
        · by_cases hlong : most < val (l.take 2)
          · have e : textS (l, 0) most = ([], 2, (l, 2)) := by unfold textS; rw [if_neg hm, if_neg (by simp), if_neg h2, if_neg hv, if_pos hlong]
            rw [e]
            refine (rtext_bad most hm rb a cap l (by omega) 2 (.inr ⟨by omega, hlong, rfl⟩) w h).mono ?_
            rintro e w' ⟨rfl, hrd, hf⟩
            exact ⟨rfl, a, cap, hrd, hf, Near.refl a⟩
          · have e : textS (l, 0) most = ((l.drop 2).take (val (l.take 2)), 0, (l.drop (2 + val (l.take 2)), 0)) := by unfold textS; rw [if_neg hm, if_neg (by simp), if_neg h2, if_neg hv, if_neg hlong]
            rw [e]
            refine (rtext_ok most hm rb a cap l (by omega) (by omega) w h).mono ?_
            rintro e w' ⟨rfl, a', c', hrd, hf, hn⟩
            exact ⟨rfl, a', c', hrd, hf, hn⟩
    · have e : textS (l, err) most = ([], err, (l, err)) := by unfold textS; rw [if_neg hm, if_pos (by simpa using he)]
      rw [e]
      refine (rtext_stop most hm rb a cap l err he w h).mono ?_
      rintro e w' ⟨rfl, rfl⟩
      exact ⟨rfl, a, cap, h, Fr.refl _ _, Near.refl a⟩
end Go.Proofs.Ytaaedmacefiinaa

/- What page's reader tells: num and text, by plain functions of what is left, the error, and whether one failed. -/
namespace Go.Proofs.Ytaaedmacefiinaa
open Go.RowKit Crcm

/-- A reader's state: what is left, its error, and whether something could not be read. -/
abbrev RF : Type := RS × Bool
def numF (s : RF) (size : Int) : Int × RF := ((numS s.1 size).1, ((numS s.1 size).2.2, s.2 || decide ((numS s.1 size).2.1 ≠ 0)))
def textF (s : RF) (most : Int) : ByteArray × RF := (strOf (textS s.1 most).1, ((textS s.1 most).2.2, s.2 || decide ((textS s.1 most).2.1 ≠ 0)))

/-- Page's reader at block qb over wire's at block rb. -/
structure Rr (w : World) (qb rb : Nat) (a : Option Addr) (cap : Nat) (s : RF) : Prop where
  box : w.heap[qb]? = some (.cells #[.pointer (some ⟨rb, 0, none⟩), .bool s.2] 80 (0, 0))
  rd : Rd w rb a cap s.1.1 s.1.2
  ne : qb ≠ rb
  far : ∀ b off sp, a = some ⟨b, off, sp⟩ → b ≠ qb
def rrS (qb rb : Nat) : Nat → Prop := fun k => k = qb ∨ k = rb
theorem Rr.fr {S : Nat → Prop} {w w' : World} {qb rb : Nat} {a : Option Addr} {cap : Nat} {s : RF} (h : Rr w qb rb a cap s) (f : Fr S w w') (h1 : ¬ S qb) (h2 : ¬ S rb) (h3 : ∀ b off sp, a = some ⟨b, off, sp⟩ → ¬ S b) : Rr w' qb rb a cap s :=
  ⟨by rw [f.block qb (lt_of_block h.box) h1]; exact h.box, ⟨by rw [f.block rb (lt_of_block h.rd.box) h2]; exact h.rd.box, h.rd.row.fr f h3, h.rd.far⟩, h.ne, h.far⟩
theorem Rr.same {w w' : World} {qb rb : Nat} {a : Option Addr} {cap : Nat} {s : RF} (h : Rr w qb rb a cap s) (f : Fr (fun _ => False) w w') : Rr w' qb rb a cap s := h.fr f (fun f => f) (fun f => f) (fun _ _ _ _ f => f)

theorem or_ne {e : Int} : (e != 0) = decide (e ≠ 0) := by
  rw [Bool.eq_iff_iff]; simp
set_option maxRecDepth 100000 in
set_option maxHeartbeats 1000000 in
theorem pnum_any (size : Int) (qb rb : Nat) (a : Option Addr) (cap : Nat) (s : RF) (w : World) (h : Rr w qb rb a cap s) :
    Calls Try.prog 94 #[.pointer (some ⟨qb, 0, none⟩), .int .i64 size] w fun e w' => e = .returned (.int .i64 (numF s size).1) ∧
      ∃ a' c', Rr w' qb rb a' c' (numF s size).2 ∧ Fr (rrS qb rb) w w' ∧ Near a a' := by
  obtain ⟨h0, h1, g0, g1⟩ := cell_of_two h.box
  have HN := rnum_all size rb a cap s.1 w h.rd
  obtain ⟨st, fl⟩ := s
  simp only at h0 h1 HN
  have HF : Hid (numF (st, fl) size = ((numS st size).1, ((numS st size).2.2, fl || decide ((numS st size).2.1 ≠ 0)))) := rfl
  rw [HF.out]
  obtain ⟨x, hx⟩ : ∃ x, x = (numS st size).1 := ⟨_, rfl⟩
  obtain ⟨er, her⟩ : ∃ x, x = (numS st size).2.1 := ⟨_, rfl⟩
  obtain ⟨st', hst⟩ : ∃ x, x = (numS st size).2.2 := ⟨_, rfl⟩
  rw [← hx, ← her, ← hst] at HN ⊢
  clear hx her hst HF
  have hq := lt_of_block h.box
  cases fl with
  | true =>
    go_enter Try.func94, Try.ntmps94
    go_wp2_with fail
    refine HN.mono ?_
    rintro e w1 ⟨rfl, a1, c1, r1, f1, n1⟩
    have hb1 : w1.heap[qb]? = some (.cells #[.pointer (some ⟨rb, 0, none⟩), .bool true] 80 (0, 0)) := by rw [f1.block qb hq h.ne]; exact h.box
    obtain ⟨k0, k1, k2, k3⟩ := cell_of_two hb1
    have f2 : Fr (fun k => k = qb) w1 (w1.setCell ⟨qb, 1, none⟩ (.bool true)) := (Fr.refl (fun k => k = qb) w1).setCell (p := ⟨qb, 1, none⟩) (fun _ => rfl) _
    go_wp2
    go_ret
    refine ⟨rfl, a1, c1, ⟨two_setCell1 hb1, ⟨by rw [f2.block rb (lt_of_block r1.box) (fun e => h.ne e.symm)]; exact r1.box, r1.row.fr f2 (fun b off sp e => by obtain ⟨o, t, e2⟩ := n1 b off sp e; exact h.far b o t e2), r1.far⟩, h.ne, fun b off sp e => by obtain ⟨o, t, e2⟩ := n1 b off sp e; exact h.far b o t e2⟩, (f1.mono (fun i _ e => .inr e)).trans f2 (fun i _ e => .inl e), n1⟩
  | false =>
    go_enter Try.func94, Try.ntmps94
    go_wp2_with fail
    refine HN.mono ?_
    rintro e w1 ⟨rfl, a1, c1, r1, f1, n1⟩
    have hb1 : w1.heap[qb]? = some (.cells #[.pointer (some ⟨rb, 0, none⟩), .bool false] 80 (0, 0)) := by rw [f1.block qb hq h.ne]; exact h.box
    obtain ⟨k0, k1, k2, k3⟩ := cell_of_two hb1
    have f2 : Fr (fun k => k = qb) w1 (w1.setCell ⟨qb, 1, none⟩ (.bool (decide (er ≠ 0)))) := (Fr.refl (fun k => k = qb) w1).setCell (p := ⟨qb, 1, none⟩) (fun _ => rfl) _
    have OE : Hid ((er != 0) = decide (er ≠ 0)) := or_ne
    go_wp2
    rw [OE.out]
    go_ret
    refine ⟨rfl, a1, c1, ⟨by rw [Bool.false_or]; exact two_setCell1 hb1, ⟨by rw [f2.block rb (lt_of_block r1.box) (fun e => h.ne e.symm)]; exact r1.box, r1.row.fr f2 (fun b off sp e => by obtain ⟨o, t, e2⟩ := n1 b off sp e; exact h.far b o t e2), r1.far⟩, h.ne, fun b off sp e => by obtain ⟨o, t, e2⟩ := n1 b off sp e; exact h.far b o t e2⟩, (f1.mono (fun i _ e => .inr e)).trans f2 (fun i _ e => .inl e), n1⟩
set_option maxRecDepth 100000 in
set_option maxHeartbeats 1000000 in
theorem ptext_any (most : Int) (qb rb : Nat) (a : Option Addr) (cap : Nat) (s : RF) (w : World) (h : Rr w qb rb a cap s) :
    Calls Try.prog 95 #[.pointer (some ⟨qb, 0, none⟩), .int .i64 most] w fun e w' => e = .returned (.string (textF s most).1) ∧
      ∃ a' c', Rr w' qb rb a' c' (textF s most).2 ∧ Fr (rrS qb rb) w w' ∧ Near a a' := by
  obtain ⟨h0, h1, g0, g1⟩ := cell_of_two h.box
  have HN := rtext_all most rb a cap s.1 w h.rd
  obtain ⟨st, fl⟩ := s
  simp only at h0 h1 HN
  have HF : Hid (textF (st, fl) most = (strOf (textS st most).1, ((textS st most).2.2, fl || decide ((textS st most).2.1 ≠ 0)))) := rfl
  rw [HF.out]
  obtain ⟨x, hx⟩ : ∃ x, x = strOf (textS st most).1 := ⟨_, rfl⟩
  obtain ⟨er, her⟩ : ∃ x, x = (textS st most).2.1 := ⟨_, rfl⟩
  obtain ⟨st', hst⟩ : ∃ x, x = (textS st most).2.2 := ⟨_, rfl⟩
  rw [← hx, ← her, ← hst] at HN ⊢
  clear hx her hst HF
  have hq := lt_of_block h.box
  cases fl with
  | true =>
    go_enter Try.func95, Try.ntmps95
    go_wp2_with fail
    refine HN.mono ?_
    rintro e w1 ⟨rfl, a1, c1, r1, f1, n1⟩
    have hb1 : w1.heap[qb]? = some (.cells #[.pointer (some ⟨rb, 0, none⟩), .bool true] 80 (0, 0)) := by rw [f1.block qb hq h.ne]; exact h.box
    obtain ⟨k0, k1, k2, k3⟩ := cell_of_two hb1
    have f2 : Fr (fun k => k = qb) w1 (w1.setCell ⟨qb, 1, none⟩ (.bool true)) := (Fr.refl (fun k => k = qb) w1).setCell (p := ⟨qb, 1, none⟩) (fun _ => rfl) _
    go_wp2
    go_ret
    refine ⟨rfl, a1, c1, ⟨two_setCell1 hb1, ⟨by rw [f2.block rb (lt_of_block r1.box) (fun e => h.ne e.symm)]; exact r1.box, r1.row.fr f2 (fun b off sp e => by obtain ⟨o, t, e2⟩ := n1 b off sp e; exact h.far b o t e2), r1.far⟩, h.ne, fun b off sp e => by obtain ⟨o, t, e2⟩ := n1 b off sp e; exact h.far b o t e2⟩, (f1.mono (fun i _ e => .inr e)).trans f2 (fun i _ e => .inl e), n1⟩
  | false =>
    go_enter Try.func95, Try.ntmps95
    go_wp2_with fail
    refine HN.mono ?_
    rintro e w1 ⟨rfl, a1, c1, r1, f1, n1⟩
    have hb1 : w1.heap[qb]? = some (.cells #[.pointer (some ⟨rb, 0, none⟩), .bool false] 80 (0, 0)) := by rw [f1.block qb hq h.ne]; exact h.box
    obtain ⟨k0, k1, k2, k3⟩ := cell_of_two hb1
    have f2 : Fr (fun k => k = qb) w1 (w1.setCell ⟨qb, 1, none⟩ (.bool (decide (er ≠ 0)))) := (Fr.refl (fun k => k = qb) w1).setCell (p := ⟨qb, 1, none⟩) (fun _ => rfl) _
    have OE : Hid ((er != 0) = decide (er ≠ 0)) := or_ne
    go_wp2
    rw [OE.out]
    go_ret
    refine ⟨rfl, a1, c1, ⟨by rw [Bool.false_or]; exact two_setCell1 hb1, ⟨by rw [f2.block rb (lt_of_block r1.box) (fun e => h.ne e.symm)]; exact r1.box, r1.row.fr f2 (fun b off sp e => by obtain ⟨o, t, e2⟩ := n1 b off sp e; exact h.far b o t e2), r1.far⟩, h.ne, fun b off sp e => by obtain ⟨o, t, e2⟩ := n1 b off sp e; exact h.far b o t e2⟩, (f1.mono (fun i _ e => .inr e)).trans f2 (fun i _ e => .inl e), n1⟩
end Go.Proofs.Ytaaedmacefiinaa
