
/- What Encode makes of any checkpoint, in one form. -/
import Derived.Test.YtjhbhjakbcplgaaPtSpk
namespace Go.Proofs.Ytjhbhjakbcplgaa
open Go.RowKit Crcm

def encP (p : Pn) : List Nat × Int := if ptB p = true then (pf p, 0) else ([], 1)
theorem encP_octs (p : Pn) : octs (encP p).1 := by
  unfold encP; split
  · exact pf_octs p
  · intro x hx; cases hx
theorem encP_len (p : Pn) : (encP p).1.length ≤ 28 := by
  unfold encP; split
  · rw [pf_length]; omega
  · simp
theorem encode_all (p : Pn) (w : World) : Calls Try.prog 10 #[.agg #[.int .i64 p.num, .int .i64 p.lsn, .int .i64 p.redo]] w fun e w' => ∃ a c, e = .returned (.tuple #[.slice a (encP p).1.length c, .int .i64 (encP p).2]) ∧ Row w' a c (encP p).1 ∧ Fr (fun _ => False) w w' := by
  by_cases h : ptB p = true
  · refine (encode_pyes p h w).mono ?_
    rintro e w' ⟨v, rfl, m⟩
    have he : encP p = (pf p, 0) := if_pos h
    rw [he]
    obtain ⟨a, c, rfl, hr⟩ := m.own.row (pf_octs p) (by rw [pf_length]; omega)
    exact ⟨a, c, rfl, hr, m.fr⟩
  · refine (encode_pno p (by simpa using h) w).mono ?_
    rintro e w' ⟨rfl, f⟩
    have he : encP p = ([], 1) := if_neg h
    rw [he]
    exact ⟨none, 0, rfl, row_empty _ _, f⟩
theorem rencode_all (p : Pn) (hp : p.redo < 9223372036854775808) (w : World) : Calls Try.prog 11 #[.agg #[.int .i64 p.num, .int .i64 p.lsn, .int .i64 p.redo]] w fun e w' => ∃ a c, e = .returned (.tuple #[.slice a (encP p).1.length c, .int .i64 (encP p).2]) ∧ Row w' a c (encP p).1 ∧ Fr (fun _ => False) w w' := by
  by_cases h : ptB p = true
  · refine (rencode_pyes p h w).mono ?_
    rintro e w' ⟨v, rfl, m⟩
    have he : encP p = (pf p, 0) := if_pos h
    rw [he]
    obtain ⟨a, c, rfl, hr⟩ := m.own.row (pf_octs p) (by rw [pf_length]; omega)
    exact ⟨a, c, rfl, hr, m.fr⟩
  · refine (rencode_pno p hp (by simpa using h) w).mono ?_
    rintro e w' ⟨rfl, f⟩
    have he : encP p = ([], 1) := if_neg h
    rw [he]
    exact ⟨none, 0, rfl, row_empty _ _, f⟩
/-- A checkpoint that was put into a new block. -/
theorem put3 (w : World) (t : TypeId) (x y z : Int) : ∃ b W, w.alloc (.cells #[.int .i64 x, .int .i64 y, .int .i64 z] t) = W ∧ w.heap.size = b ∧ Tri W b t x y z ∧ Fr (fun _ => False) w W :=
  ⟨_, _, rfl, rfl, heap_alloc_new w _, Fr.box w _⟩
theorem dec_self (p : Pn) : eqP p p = true := (eqP_iff p p).2 rfl
end Go.Proofs.Ytjhbhjakbcplgaa
