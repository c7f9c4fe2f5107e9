
/- What the document's own Encode is made of. -/
import Derived.Test.YtaaedmacefiinaaPgRef3
import Derived.Test.YtaaedmacefiinaaPgEnc2
namespace Go.Proofs.Ytaaedmacefiinaa
open Go.RowKit Crcm

theorem rnum_i (x : Int) (size : Nat) (h0 : 0 ≤ x) (h1 : x < 9223372036854775808) (hs : size ≤ 8) (w : World) :
    Calls Try.prog 42 #[.int .i64 x, .int .i64 size] w fun e w' => ∃ a c, e = .returned (.slice a size c) ∧ Row w' a c (le size x.toNat) ∧ Fr (fun _ => False) w w' := by
  obtain ⟨m, rfl⟩ := Int.eq_ofNat_of_zero_le h0
  refine (refNum_any m size (by omega) hs w).mono ?_
  rintro e w' ⟨v, rfl, m1⟩
  obtain ⟨a, c, rfl, hr⟩ := m1.own.row (le_octs' _ _) (by rw [le_length]; omega)
  exact ⟨a, c, by rw [le_length], hr, m1.fr⟩
theorem rtext_i (s : ByteArray) (hs : s.size ≤ 65535) (w : World) :
    Calls Try.prog 43 #[.string s] w fun e w' => ∃ a c, e = .returned (.slice a (s.size + 2) c) ∧ Row w' a c (txt s) ∧ Fr (fun _ => False) w w' := by
  refine (refText_any s hs w).mono ?_
  rintro e w' ⟨v, rfl, m1⟩
  obtain ⟨a, c, rfl, hr⟩ := m1.own.row (txt_octs s) (by have := txt_length s; unfold txt at this; omega)
  have := txt_length s
  unfold txt at this
  exact ⟨a, c, by rw [this], hr, m1.fr⟩
/-- A row of the call's own over W0. -/
def Ast (W0 w : World) (v : Value) (l : List Nat) : Prop := Mine w W0.heap.size v l ∧ Fr (fun _ => False) W0 w
theorem Ast.go {W0 w w' : World} {v : Value} {l : List Nat} (h : Ast W0 w v l) (f : Fr (fun _ => False) w w') : Ast W0 w' v l := ⟨h.1.fr f (fun _ _ f => f), h.2.seq' f⟩
theorem Ast.grow {W0 w w' : World} {v : Value} {l : List Nat} {a : Option Addr} {k c : Nat} {m : List Nat} (h : Ast W0 w v l) (o : Mine w' W0.heap.size (.slice a k c) m) (g : w.grownBy w' v.ownBlock) : Ast W0 w' (.slice a k c) m :=
  ⟨o, h.2.fresh g (fun k e => (h.1.lt k e).1)⟩

set_option maxRecDepth 100000 in
set_option maxHeartbeats 400000 in
theorem rencode_no (n : Nd) (p : Pt) (w : World) (h : Nod w n p) (hr : rightB n = false) : Calls Try.prog 13 #[(.agg #[.int .i64 n.lev, .int .i64 n.lsn, .int .i64 n.rgt, .string n.high, .slice p.k n.keys.length p.kc, .slice p.v n.vals.length p.vc, .slice p.i n.kids.length p.ic])] w fun e w' => e = .returned (.tuple #[.slice none 0 0, .int .i64 60]) ∧ Fr (fun _ => False) w w' := by
  have f0 := Fr.box w (.cells #[.int .i64 n.lev, .int .i64 n.lsn, .int .i64 n.rgt, .string n.high, .slice p.k n.keys.length p.kc, .slice p.v n.vals.length p.vc, .slice p.i n.kids.length p.ic] 25)
  have HR : Hid (rightB n = false) := hr
  clear hr
  go_enter Try.func13, Try.ntmps13
  go_wp2_with fail
  refine (rright_any n p _ (h.same f0)).mono ?_
  rw [HR.out]
  rintro e w1 ⟨rfl, f1⟩
  go_wp2
  go_ret2
  exact ⟨rfl, f0.seq' f1⟩
end Go.Proofs.Ytaaedmacefiinaa
