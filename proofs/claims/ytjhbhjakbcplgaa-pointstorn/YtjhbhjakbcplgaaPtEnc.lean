
/- A checkpoint's bytes; what Encode makes, in the program and in the document. -/
import Derived.Test.YtjhbhjakbcplgaaPtBase
namespace Go.Proofs.Ytjhbhjakbcplgaa
open Go.RowKit Crcm

theorem octs_nil : octs [] := fun x hx => by cases hx
theorem le_octs' (k n : Nat) : octs (le k n) := by
  induction k with
  | zero => exact octs_nil
  | succ k ih => exact octs_app ih (fun x hx => by simp at hx; omega)
/-- A writer that is the first block behind W0, and holds l. -/
def Wst (W0 w : World) (l : List Nat) : Prop := ∃ v, Wr w (W0.heap.size + 1) W0.heap.size v l ∧ Fr (fun _ => False) W0 w
theorem Wst.fr {W0 w : World} {l : List Nat} (h : Wst W0 w l) : Fr (fun _ => False) W0 w := by obtain ⟨v, _, f⟩ := h; exact f
theorem Wst.same {W0 w w' : World} {l : List Nat} (h : Wst W0 w l) (f : Fr (fun _ => False) w w') : Wst W0 w' l := by
  obtain ⟨v, hw, hf⟩ := h
  exact ⟨v, hw.fr f (fun f => f) (fun _ _ f => f), hf.seq' f⟩
theorem new_st (W0 : World) : Calls Try.prog 22 #[] W0 fun e w' => e = .returned (.pointer (some ⟨W0.heap.size, 0, none⟩)) ∧ Wst W0 w' [] := by
  refine (new_any W0).mono ?_
  rintro e w' ⟨rfl, rfl⟩
  exact ⟨rfl, _, Wr.new W0, (Fr.refl _ _).alloc _⟩
theorem wnum_st (W0 w : World) (b : Nat) (hb : W0.heap.size = b) (l : List Nat) (x : Int) (size : Nat) (hfit : fit x size) (hl : l.length ≤ 100000) (h : Wst W0 w l) :
    Calls Try.prog 23 #[.pointer (some ⟨b, 0, none⟩), .int .i64 x, .int .i64 size] w fun e w' => e = .returned (.int .i64 0) ∧ Wst W0 w' (l ++ le size x.toNat) := by
  subst hb
  obtain ⟨v, hw, hf⟩ := h
  obtain ⟨m, rfl⟩ := Int.eq_ofNat_of_zero_le hfit.1
  have hlt := lt_of_block hw.box
  refine (wnum_yes m size hfit _ _ v l w hw (by omega) (by omega)).mono ?_
  rintro e w' ⟨rfl, v', hw', hf', _⟩
  exact ⟨rfl, v', hw', hf.above hf' (fun i hi => hw.ge hi)⟩
theorem wbytes_st (W0 w : World) (b : Nat) (hb : W0.heap.size = b) (l : List Nat) (ho : octs l) (hl : l.length ≤ 100000) (h : Wst W0 w l) :
    Calls Try.prog 25 #[.pointer (some ⟨b, 0, none⟩)] w fun e w' => ∃ v', e = .returned v' ∧ Made w w' v' l := by
  subst hb
  obtain ⟨v, hw, hf⟩ := h
  exact bytes_any _ _ v l ho (by omega) w hw
theorem rnum_i (x : Int) (size : Nat) (h0 : 0 ≤ x) (h1 : x < 9223372036854775808) (hs : size ≤ 8) (w : World) :
    Calls Try.prog 27 #[.int .i64 x, .int .i64 size] w fun e w' => ∃ a c, e = .returned (.slice a size c) ∧ Row w' a c (le size x.toNat) ∧ Fr (fun _ => False) w w' := by
  obtain ⟨m, rfl⟩ := Int.eq_ofNat_of_zero_le h0
  refine (refNum_any m size (by omega) hs w).mono ?_
  rintro e w' ⟨v, rfl, m1⟩
  obtain ⟨a, c, rfl, hr⟩ := m1.own.row (le_octs' _ _) (by rw [le_length]; omega)
  exact ⟨a, c, by rw [le_length], hr, m1.fr⟩
/-- A row of the call's own over W0. -/
def Ast (W0 w : World) (v : Value) (l : List Nat) : Prop := Mine w W0.heap.size v l ∧ Fr (fun _ => False) W0 w
theorem Ast.go {W0 w w' : World} {v : Value} {l : List Nat} (h : Ast W0 w v l) (f : Fr (fun _ => False) w w') : Ast W0 w' v l := ⟨h.1.fr f (fun _ _ f => f), h.2.seq' f⟩
theorem Ast.grow {W0 w w' : World} {v : Value} {l : List Nat} {a : Option Addr} {k c : Nat} {m : List Nat} (h : Ast W0 w v l) (o : Mine w' W0.heap.size (.slice a k c) m) (g : w.grownBy w' v.ownBlock) : Ast W0 w' (.slice a k c) m :=
  ⟨o, h.2.fresh g (fun k e => (h.1.lt k e).1)⟩


/-- A checkpoint's numbers as bytes. -/
def pb (p : Pn) : List Nat := le 8 p.num.toNat ++ le 8 p.lsn.toNat ++ le 8 p.redo.toNat
/-- A checkpoint's bytes. -/
def pf (p : Pn) : List Nat := pb p ++ le4 (crc (pb p))
theorem pb_length (p : Pn) : (pb p).length = 24 := by unfold pb; simp only [List.length_append, le_length]
theorem pb_octs (p : Pn) : octs (pb p) := octs_app (octs_app (le_octs' _ _) (le_octs' _ _)) (le_octs' _ _)
theorem pf_length (p : Pn) : (pf p).length = 28 := by unfold pf; rw [List.length_append, pb_length]; rfl
theorem pf_octs (p : Pn) : octs (pf p) := octs_app (pb_octs p) (le4_octs _)

set_option maxRecDepth 100000 in
set_option maxHeartbeats 1000000 in
theorem encode_pno (p : Pn) (hp : ptB p = false) (w : World) : Calls Try.prog 10 #[.agg #[.int .i64 p.num, .int .i64 p.lsn, .int .i64 p.redo]] w fun e w' => e = .returned (.tuple #[.slice none 0 0, .int .i64 1]) ∧ Fr (fun _ => False) w w' := by
  have HP : Hid (ptB p = false) := hp
  clear hp
  go_enter Try.func10, Try.ntmps10
  go_wp2_with fail
  refine (isRight_any p _).mono ?_
  rw [HP.out]
  rintro e w1 ⟨rfl, rfl⟩
  go_wp2
  go_ret2
  exact ⟨rfl, (Fr.box w _).alloc _⟩

set_option maxRecDepth 100000 in
set_option maxHeartbeats 2000000 in
theorem encode_pyes (p : Pn) (hp : ptB p = true) (w : World) : Calls Try.prog 10 #[.agg #[.int .i64 p.num, .int .i64 p.lsn, .int .i64 p.redo]] w fun e w' => ∃ v', e = .returned (.tuple #[v', .int .i64 0]) ∧ Made w w' v' (pf p) := by
  have HG : Hid (Pr p) := (ptB_iff p).1 hp
  have HP : Hid (ptB p = true) := hp
  clear hp
  obtain ⟨W0, hW0⟩ : ∃ W0, W0 = (w.alloc (.cells #[.int .i64 p.num, .int .i64 p.lsn, .int .i64 p.redo] 34)).alloc (.cells #[.int .i64 p.num, .int .i64 p.lsn, .int .i64 p.redo] 34) := ⟨_, rfl⟩
  have f0 : Fr (fun _ => False) w W0 := by rw [hW0]; exact (Fr.box w _).alloc _
  have HB : Hid (∀ W, Fr (fun _ => False) W0 W → W.cell? ⟨w.heap.size, 0, none⟩ = some (.int .i64 p.num) ∧ W.cell? ⟨w.heap.size, 1, none⟩ = some (.int .i64 p.lsn) ∧ W.cell? ⟨w.heap.size, 2, none⟩ = some (.int .i64 p.redo)) := fun W f => by rw [hW0] at f; exact three_cells (box_at w _ _ ((Fr.box _ _).seq' f))
  have HW : Hid ((w.alloc (.cells #[.int .i64 p.num, .int .i64 p.lsn, .int .i64 p.redo] 34)).alloc (.cells #[.int .i64 p.num, .int .i64 p.lsn, .int .i64 p.redo] 34) = W0) := hW0.symm
  obtain ⟨z, hz⟩ : ∃ z, W0.heap.size = z := ⟨_, rfl⟩
  have HZ : Hid (W0.heap.size = z) := hz
  have HS : Hid (pb p = le 8 p.num.toNat ++ le 8 p.lsn.toNat ++ le 8 p.redo.toNat) := rfl
  clear hW0 hz
  go_enter Try.func10, Try.ntmps10
  go_wp2_with fail
  refine (isRight_any p _).mono ?_
  rw [HP.out, HW.out]
  rintro e w0 ⟨rfl, rfl⟩
  go_wp2_with fail
  refine (new_st w0).mono ?_
  rw [HZ.out]
  rintro e w1 ⟨rfl, s1⟩
  obtain ⟨c0, c1, c2⟩ := HB.out _ s1.fr
  go_wp2_with fail
  refine (wnum_st w0 _ _ HZ.out _ p.num 8 (fit8 (by have := HG.out.num0; omega)) (by simp) s1).mono ?_
  rintro e w2 ⟨rfl, s2⟩
  clear c0 c1 c2
  obtain ⟨c0, c1, c2⟩ := HB.out _ s2.fr
  go_wp2_with fail
  refine (wnum_st w0 _ _ HZ.out _ p.lsn 8 (fit8 HG.out.lsn0) (by simp [le_length]) s2).mono ?_
  rintro e w3 ⟨rfl, s3⟩
  clear c0 c1 c2
  obtain ⟨c0, c1, c2⟩ := HB.out _ s3.fr
  go_wp2_with fail
  refine (wnum_st w0 _ _ HZ.out _ p.redo 8 (fit8 (by have := HG.out.redo0; omega)) (by simp [le_length]) s3).mono ?_
  rintro e w4 ⟨rfl, s4⟩
  clear c0 c1 c2
  rw [List.nil_append, ← HS.out] at s4
  go_wp2_with fail
  refine (wbytes_st w0 _ _ HZ.out _ (pb_octs p) (by rw [pb_length]; omega) s4).mono ?_
  rintro e w5 ⟨v5, rfl, m5⟩
  obtain ⟨a5, k5, rfl, r5⟩ := m5.own.row (pb_octs p) (by rw [pb_length]; omega)
  go_wp2_with fail
  refine (seal_any a5 _ k5 (pb p) rfl (by rw [pb_length]; omega) _ r5).mono ?_
  rintro e w6 ⟨v6, rfl, m6⟩
  go_wp2
  go_ret2
  exact ⟨v6, rfl, Made.of ((f0.seq' s4.fr).seq' m5.fr) m6⟩

set_option maxRecDepth 100000 in
set_option maxHeartbeats 1000000 in
theorem rencode_pno (p : Pn) (hr : p.redo < 9223372036854775808) (hp : ptB p = false) (w : World) : Calls Try.prog 11 #[.agg #[.int .i64 p.num, .int .i64 p.lsn, .int .i64 p.redo]] w fun e w' => e = .returned (.tuple #[.slice none 0 0, .int .i64 1]) ∧ Fr (fun _ => False) w w' := by
  have HP : Hid (ptB p = false) := hp
  clear hp
  have hrt := fun W => rRight_any p hr W
  clear hr
  go_enter Try.func11, Try.ntmps11
  go_wp2_with fail
  refine (hrt _).mono ?_
  rw [HP.out]
  rintro e w1 ⟨rfl, rfl⟩
  go_wp2
  go_ret2
  exact ⟨rfl, (Fr.box w _).alloc _⟩

set_option maxRecDepth 100000 in
set_option maxHeartbeats 4000000 in
theorem rencode_pyes (p : Pn) (hp : ptB p = true) (w : World) : Calls Try.prog 11 #[.agg #[.int .i64 p.num, .int .i64 p.lsn, .int .i64 p.redo]] w fun e w' => ∃ v', e = .returned (.tuple #[v', .int .i64 0]) ∧ Made w w' v' (pf p) := by
  obtain ⟨i0, hi, hz0, hz1, hz2⟩ := info_parts info8
  have HG : Hid (Pr p) := (ptB_iff p).1 hp
  have hrt := fun W => rRight_any p (by have := HG.out.redo1; have := HG.out.lsn1; omega) W
  rw [hp] at hrt
  clear hp
  obtain ⟨W0, hW0⟩ : ∃ W0, W0 = (w.alloc (.cells #[.int .i64 p.num, .int .i64 p.lsn, .int .i64 p.redo] 40)).alloc (.cells #[.int .i64 p.num, .int .i64 p.lsn, .int .i64 p.redo] 40) := ⟨_, rfl⟩
  have f0 : Fr (fun _ => False) w W0 := by rw [hW0]; exact (Fr.box w _).alloc _
  have HB : Hid (∀ W, Fr (fun _ => False) W0 W → W.cell? ⟨w.heap.size, 0, none⟩ = some (.int .i64 p.num) ∧ W.cell? ⟨w.heap.size, 1, none⟩ = some (.int .i64 p.lsn) ∧ W.cell? ⟨w.heap.size, 2, none⟩ = some (.int .i64 p.redo)) := fun W f => by rw [hW0] at f; exact three_cells (box_at w _ _ ((Fr.box _ _).seq' f))
  have HW : Hid ((w.alloc (.cells #[.int .i64 p.num, .int .i64 p.lsn, .int .i64 p.redo] 40)).alloc (.cells #[.int .i64 p.num, .int .i64 p.lsn, .int .i64 p.redo] 40) = W0) := hW0.symm
  have HS : Hid (pb p = le 8 p.num.toNat ++ le 8 p.lsn.toNat ++ le 8 p.redo.toNat) := rfl
  clear hW0
  go_enter Try.func11, Try.ntmps11
  go_wp2_with fail
  refine (hrt _).mono ?_
  clear hrt
  rw [HW.out]
  rintro e w1 ⟨rfl, rfl⟩
  have s1 : Ast w1 w1 (.slice none 0 0) [] := ⟨World.ownsRow_nil _ _ _ _, Fr.refl _ _⟩
  have B1 : Hid (([] : List Nat).length = 0) := rfl
  obtain ⟨c0, c1, c2⟩ := HB.out _ s1.2
  go_wp2_with fail
  refine (rnum_i p.num 8 (by have := HG.out.num0; omega) (by have := HG.out.num1; have := HG.out.lsn1; omega) (by omega) _).mono ?_
  rintro e w0a ⟨x0, y0, rfl, r0, g0⟩
  clear c0 c1 c2
  have t0 := s1.go g0
  have HL0 : Hid ((le 8 p.num.toNat).length = 8) := le_length _ _
  go_wp2_with (at_builtin; refine wpList_append_row _ rfl (.tmp 8) (.tmp 11) 35 35 5 rfl i0 Try.underlying35 Try.underlying35 hi hz0 hz1 hz2 w1.heap.size (.slice none 0 0) ([] : List Nat) rfl t0.1 x0 (8) y0 (le 8 p.num.toNat) HL0.out.symm rfl r0 ?hb ?hs ?_)
  case hb => have := HL0.out; have := B1.out; omega
  case hs => exact t0.2.size
  intro b0 d0 w2 own0 grow0 _
  have s2 := t0.grow own0 grow0
  obtain ⟨L1, hE1⟩ : ∃ L, L = le 8 p.num.toNat := ⟨_, rfl⟩
  have HE1 : Hid (L1 = le 8 p.num.toNat) := hE1
  have B2 : Hid (L1.length = 8) := by show _ = _; rw [hE1, HL0.out]
  rw [← hE1] at s2
  try simp only [List.length_nil, Nat.zero_add]
  try simp only [List.length_nil, Nat.zero_add] at s2
  rw [← hE1]
  clear hE1 own0 grow0 r0 g0 t0 s1
  obtain ⟨c0, c1, c2⟩ := HB.out _ s2.2
  go_wp2_with fail
  refine (rnum_i p.lsn 8 (by have := HG.out.lsn0; omega) (by have := HG.out.lsn1; have := HG.out.lsn1; omega) (by omega) _).mono ?_
  rintro e w1a ⟨x1, y1, rfl, r1, g1⟩
  clear c0 c1 c2
  have t1 := s2.go g1
  have HL1 : Hid ((le 8 p.lsn.toNat).length = 8) := le_length _ _
  go_wp2_with (at_builtin; refine wpList_append_row _ rfl (.tmp 13) (.tmp 16) 35 35 5 rfl i0 Try.underlying35 Try.underlying35 hi hz0 hz1 hz2 w1.heap.size (.slice b0 L1.length d0) L1 rfl t1.1 x1 (8) y1 (le 8 p.lsn.toNat) HL1.out.symm rfl r1 ?hb ?hs ?_)
  case hb => have := HL1.out; have := B2.out; omega
  case hs => exact t1.2.size
  intro b1 d1 w3 own1 grow1 _
  have s3 := t1.grow own1 grow1
  obtain ⟨L2, hE2⟩ : ∃ L, L = L1 ++ (le 8 p.lsn.toNat) := ⟨_, rfl⟩
  have HE2 : Hid (L2 = L1 ++ (le 8 p.lsn.toNat)) := hE2
  have B3 : Hid (L2.length = 16) := by show _ = _; rw [hE2, List.length_append, HL1.out, B2.out]
  have hll2 : L1.length + (le 8 p.lsn.toNat).length = L2.length := by rw [hE2, List.length_append]
  rw [← hE2, hll2] at s3
  rw [hll2]
  clear hE2 hll2 own1 grow1 r1 g1 t1 s2
  obtain ⟨c0, c1, c2⟩ := HB.out _ s3.2
  go_wp2_with fail
  refine (rnum_i p.redo 8 (by have := HG.out.redo0; omega) (by have := HG.out.redo1; have := HG.out.lsn1; omega) (by omega) _).mono ?_
  rintro e w2a ⟨x2, y2, rfl, r2, g2⟩
  clear c0 c1 c2
  have t2 := s3.go g2
  have HL2 : Hid ((le 8 p.redo.toNat).length = 8) := le_length _ _
  go_wp2_with (at_builtin; refine wpList_append_row _ rfl (.tmp 18) (.tmp 21) 35 35 5 rfl i0 Try.underlying35 Try.underlying35 hi hz0 hz1 hz2 w1.heap.size (.slice b1 L2.length d1) L2 rfl t2.1 x2 (8) y2 (le 8 p.redo.toNat) HL2.out.symm rfl r2 ?hb ?hs ?_)
  case hb => have := HL2.out; have := B3.out; omega
  case hs => exact t2.2.size
  intro b2 d2 w4 own2 grow2 _
  have s4 := t2.grow own2 grow2
  obtain ⟨L3, hE3⟩ : ∃ L, L = L2 ++ (le 8 p.redo.toNat) := ⟨_, rfl⟩
  have HE3 : Hid (L3 = L2 ++ (le 8 p.redo.toNat)) := hE3
  have B4 : Hid (L3.length = 24) := by show _ = _; rw [hE3, List.length_append, HL2.out, B3.out]
  have hll3 : L2.length + (le 8 p.redo.toNat).length = L3.length := by rw [hE3, List.length_append]
  rw [← hE3, hll3] at s4
  rw [hll3]
  clear hE3 hll3 own2 grow2 r2 g2 t2 s3
  have hL : L3 = pb p := by rw [HE3.out, HE2.out, HE1.out, HS.out]
  rw [hL] at s4 ⊢
  clear hL
  obtain ⟨a9, k9, he9, r9⟩ := s4.1.row (pb_octs p) (by rw [pb_length]; omega)
  simp only [Value.slice.injEq, true_and] at he9
  obtain ⟨rfl, rfl⟩ := he9
  go_wp2_with fail
  refine (refSeal_any _ _ _ (pb p) rfl (by rw [pb_length]; omega) _ r9).mono ?_
  rintro e w11 ⟨v11, rfl, m11⟩
  go_wp2
  go_ret2
  exact ⟨v11, rfl, Made.of (f0.seq' s4.2) m11⟩
end Go.Proofs.Ytjhbhjakbcplgaa
