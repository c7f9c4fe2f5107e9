
/- A promise's bytes; what Encode makes, in the program and in the document. -/
import Derived.Test.YtbfkacahaocpfaaVtBase
import Derived.Test.YtbfkacahaocpfaaOpenAll
import Derived.Test.YtbfkacahaocpfaaRefRd2
namespace Go.Proofs.Ytbfkacahaocpfaa
open Go.RowKit Crcm

theorem Made.of {a b c : World} {v : Value} {l : List Nat} (f : Fr (fun _ => False) a b) (m : Made b c v l) : Made a c v l := by
  refine ⟨⟨m.own.1, ?_⟩, f.seq' m.fr⟩
  rcases m.own.2 with h | ⟨g, cap, cur, hv, hg, r⟩
  · exact .inl h
  · exact .inr ⟨g, cap, cur, hv, Nat.le_trans f.size hg, r⟩
theorem fit8 {x : Int} (h0 : 0 ≤ x) : fit x ((8 : Nat) : Int) := ⟨h0, .inr (.inr (.inr rfl))⟩
theorem row_one (w : World) (x : Nat) (z : Int) (hx : x < 256) (hz : z = (x : Int)) : Row (w.alloc (.cells #[.int .u8 z] 5)) (some ⟨w.heap.size, 0, none⟩) 1 [x] := by
  subst hz
  refine ⟨by simp, by omega, by simp, (fun y hy => by simp at hy; omega), .inr ⟨w.heap.size, 0, rfl, by simp, fun i hi => ?_⟩⟩
  have : i = 0 := by simpa using hi
  subst this
  simp
theorem octs_nil : octs [] := fun x hx => by cases hx
theorem le_octs' (k n : Nat) : octs (le k n) := by
  induction k with
  | zero => exact octs_nil
  | succ k ih => exact octs_app ih (fun x hx => by simp at hx; omega)
/-- A writer that is the first block behind W0, and holds l. -/
def Wst (W0 w : World) (l : List Nat) : Prop := ∃ v, Wr w (W0.heap.size + 1) W0.heap.size v l ∧ Fr (fun _ => False) W0 w
theorem Wst.fr {W0 w : World} {l : List Nat} (h : Wst W0 w l) : Fr (fun _ => False) W0 w := by obtain ⟨v, _, f⟩ := h; exact f
theorem Wst.same {W0 w w' : World} {l : List Nat} (h : Wst W0 w l) (f : Fr (fun _ => False) w w') : Wst W0 w' l := by
  obtain ⟨v, hw, hf⟩ := h
  exact ⟨v, hw.fr f (fun f => f) (fun _ _ f => f), hf.seq' f⟩
theorem new_st (W0 : World) : Calls Try.prog 29 #[] W0 fun e w' => e = .returned (.pointer (some ⟨W0.heap.size, 0, none⟩)) ∧ Wst W0 w' [] := by
  refine (new_any W0).mono ?_
  rintro e w' ⟨rfl, rfl⟩
  exact ⟨rfl, _, Wr.new W0, (Fr.refl _ _).alloc _⟩
theorem wnum_st (W0 w : World) (b : Nat) (hb : W0.heap.size = b) (l : List Nat) (x : Int) (size : Nat) (hfit : fit x size) (hl : l.length ≤ 100000) (h : Wst W0 w l) :
    Calls Try.prog 30 #[.pointer (some ⟨b, 0, none⟩), .int .i64 x, .int .i64 size] w fun e w' => e = .returned (.int .i64 0) ∧ Wst W0 w' (l ++ le size x.toNat) := by
  subst hb
  obtain ⟨v, hw, hf⟩ := h
  obtain ⟨m, rfl⟩ := Int.eq_ofNat_of_zero_le hfit.1
  have hlt := lt_of_block hw.box
  refine (wnum_yes m size hfit _ _ v l w hw (by omega) (by omega)).mono ?_
  rintro e w' ⟨rfl, v', hw', hf', _⟩
  exact ⟨rfl, v', hw', hf.above hf' (fun i hi => hw.ge hi)⟩
theorem wbytes_st (W0 w : World) (b : Nat) (hb : W0.heap.size = b) (l : List Nat) (ho : octs l) (hl : l.length ≤ 100000) (h : Wst W0 w l) :
    Calls Try.prog 32 #[.pointer (some ⟨b, 0, none⟩)] w fun e w' => ∃ v', e = .returned v' ∧ Made w w' v' l := by
  subst hb
  obtain ⟨v, hw, hf⟩ := h
  exact bytes_any _ _ v l ho (by omega) w hw
theorem rnum_i (x : Int) (size : Nat) (h0 : 0 ≤ x) (h1 : x < 9223372036854775808) (hs : size ≤ 8) (w : World) :
    Calls Try.prog 33 #[.int .i64 x, .int .i64 size] w fun e w' => ∃ a c, e = .returned (.slice a size c) ∧ Row w' a c (le size x.toNat) ∧ Fr (fun _ => False) w w' := by
  obtain ⟨m, rfl⟩ := Int.eq_ofNat_of_zero_le h0
  refine (refNum_any m size (by omega) hs w).mono ?_
  rintro e w' ⟨v, rfl, m1⟩
  obtain ⟨a, c, rfl, hr⟩ := m1.own.row (le_octs' _ _) (by rw [le_length]; omega)
  exact ⟨a, c, by rw [le_length], hr, m1.fr⟩
/-- A row of the call's own over W0. -/
def Ast (W0 w : World) (v : Value) (l : List Nat) : Prop := Mine w W0.heap.size v l ∧ Fr (fun _ => False) W0 w
theorem Ast.go {W0 w w' : World} {v : Value} {l : List Nat} (h : Ast W0 w v l) (f : Fr (fun _ => False) w w') : Ast W0 w' v l := ⟨h.1.fr f (fun _ _ f => f), h.2.seq' f⟩
theorem Ast.grow {W0 w w' : World} {v : Value} {l : List Nat} {a : Option Addr} {k c : Nat} {m : List Nat} (h : Ast W0 w v l) (o : Mine w' W0.heap.size (.slice a k c) m) (g : w.grownBy w' v.ownBlock) : Ast W0 w' (.slice a k c) m :=
  ⟨o, h.2.fresh g (fun k e => (h.1.lt k e).1)⟩



/-- A promise's numbers as bytes. -/
def prB (e f : Int) : List Nat := le 8 e.toNat ++ le 1 (f + 1).toNat
/-- A promise's bytes. -/
def prF (e f : Int) : List Nat := prB e f ++ le4 (crc (prB e f))
theorem prB_length (e f : Int) : (prB e f).length = 9 := by unfold prB; simp only [List.length_append, le_length]
theorem prB_octs (e f : Int) : octs (prB e f) := octs_app (le_octs' _ _) (le_octs' _ _)
theorem prF_length (e f : Int) : (prF e f).length = 13 := by unfold prF; rw [List.length_append, prB_length]; rfl
theorem prF_octs (e f : Int) : octs (prF e f) := octs_app (prB_octs e f) (le4_octs _)
theorem rgt_iff {e f : Int} (h : rgtB e f = true) : 0 ≤ e ∧ e ≤ 1099511627776 ∧ -1 ≤ f ∧ f ≤ 6 := by
  simp [rgtB, epB, nodB] at h
  omega
theorem fit1 {x : Int} (h0 : 0 ≤ x) (h1 : x < 256) : fit x ((1 : Nat) : Int) := ⟨h0, .inl ⟨rfl, h1⟩⟩

set_option maxRecDepth 100000 in
set_option maxHeartbeats 1000000 in
theorem encode_vno (e f : Int) (hp : rgtB e f = false) (w : World) : Calls Try.prog 8 #[.agg #[.int .i64 e, .int .i64 f]] w fun r w' => r = .returned (.tuple #[.slice none 0 0, .int .i64 1]) ∧ Fr (fun _ => False) w w' := by
  have HR : Hid (∀ W, Calls Try.prog 28 #[.agg #[.int .i64 e, .int .i64 f]] W fun r w' => r = .returned (.bool false) ∧ Fr (fun _ => False) W w') := fun W => by
    have := isRight_any e f W
    rw [hp] at this; exact this
  have F0 := Fr.box w (.cells #[.int .i64 e, .int .i64 f] 23)
  obtain ⟨x0, x1, _⟩ := (Two.new w 23 (.int .i64 e) (.int .i64 f)).cells
  clear hp
  go_enter Try.func8, Try.ntmps8
  go_wp2_with fail
  refine (HR.out _).mono ?_
  rintro r w1 ⟨rfl, f1⟩
  go_wp2
  go_ret2
  exact ⟨rfl, F0.seq' f1⟩
set_option maxRecDepth 100000 in
set_option maxHeartbeats 2000000 in
theorem encode_vyes (e f : Int) (hp : rgtB e f = true) (w : World) : Calls Try.prog 8 #[.agg #[.int .i64 e, .int .i64 f]] w fun r w' => ∃ v', r = .returned (.tuple #[v', .int .i64 0]) ∧ Made w w' v' (prF e f) := by
  have HR : Hid (∀ W, Calls Try.prog 28 #[.agg #[.int .i64 e, .int .i64 f]] W fun r w' => r = .returned (.bool true) ∧ Fr (fun _ => False) W w') := fun W => by
    have := isRight_any e f W
    rw [hp] at this; exact this
  obtain ⟨h0, h1, h2, h3⟩ := rgt_iff hp
  have F0 := Fr.box w (.cells #[.int .i64 e, .int .i64 f] 23)
  have T := Two.new w 23 (.int .i64 e) (.int .i64 f)
  obtain ⟨x0, x1, _⟩ := T.cells
  have HT : Hid (Two (w.alloc (.cells #[.int .i64 e, .int .i64 f] 23)) w.heap.size 23 (.int .i64 e) (.int .i64 f)) := T
  have HS : Hid (prB e f = le 8 e.toNat ++ le 1 (f + 1).toNat) := rfl
  clear hp T
  go_enter Try.func8, Try.ntmps8
  go_wp2_with fail
  refine (HR.out _).mono ?_
  rintro r w0 ⟨rfl, f1⟩
  have HT0 := HT.out.fr f1 (fun f => f)
  have F1 := F0.seq' f1
  obtain ⟨z, hz⟩ : ∃ z, w0.heap.size = z := ⟨_, rfl⟩
  have HZ : Hid (w0.heap.size = z) := hz
  clear x0 x1 f1 F0 hz HT
  go_wp2_with fail
  refine (new_st w0).mono ?_
  rw [HZ.out]
  rintro r w1 ⟨rfl, s1⟩
  obtain ⟨c0, c1, _⟩ := (HT0.fr s1.fr (fun f => f)).cells
  go_wp2_with fail
  refine (wnum_st w0 _ _ HZ.out _ e 8 ⟨h0, .inr (.inr (.inr rfl))⟩ (by simp) s1).mono ?_
  rintro r w2 ⟨rfl, s2⟩
  clear c0 c1
  obtain ⟨c0, c1, _⟩ := (HT0.fr s2.fr (fun f => f)).cells
  go_wp2_with fail
  refine (wnum_st w0 _ _ HZ.out _ (f + 1) 1 (fit1 (by omega) (by omega)) (by simp [le_length]) s2).mono ?_
  rintro r w3 ⟨rfl, s4⟩
  clear c0 c1
  rw [List.nil_append, ← HS.out] at s4
  go_wp2_with fail
  refine (wbytes_st w0 _ _ HZ.out _ (prB_octs e f) (by rw [prB_length]; omega) s4).mono ?_
  rintro r w5 ⟨v5, rfl, m5⟩
  obtain ⟨a5, k5, rfl, r5⟩ := m5.own.row (prB_octs e f) (by rw [prB_length]; omega)
  go_wp2_with fail
  refine (seal_any a5 _ k5 (prB e f) rfl (by rw [prB_length]; omega) _ r5).mono ?_
  rintro r w6 ⟨v6, rfl, m6⟩
  go_wp2
  go_ret2
  exact ⟨v6, rfl, Made.of ((F1.seq' s4.fr).seq' m5.fr) m6⟩
end Go.Proofs.Ytbfkacahaocpfaa
