
/- What page.Encode makes. -/
import Derived.Test.YtaaedmacefiinaaPgArr
namespace Go.Proofs.Ytaaedmacefiinaa
open Go.RowKit Crcm

theorem pad_is (l : List Nat) (h : l.length ≤ 252) : (z256.take 0 ++ l ++ z256.drop (0 + l.length)).take 252 = pad l := by
  rw [z256_drop, List.take_zero, List.nil_append, pad, List.take_append, List.take_of_length_le h, List.take_replicate]
  congr 2; omega
theorem pg_is (l : List Nat) (h : l.length ≤ 252) (t : List Nat) (ht : t.length = 4) : (z256.take 0 ++ l ++ z256.drop (0 + l.length)).take 252 ++ t ++ (z256.take 0 ++ l ++ z256.drop (0 + l.length)).drop (252 + t.length) = pad l ++ t := by
  rw [pad_is l h]
  have : ((z256.take 0 ++ l ++ z256.drop (0 + l.length)).drop (252 + t.length)) = [] := List.drop_eq_nil_of_le (by rw [z256_drop]; simp; omega)
  rw [this, List.append_nil]

theorem Fr.set_new {W0 W : World} (f : Fr (fun _ => False) W0 W) {g : Nat} (hg : W0.heap.size ≤ g) (vs : List Value) (o : Nat) : Fr (fun _ => False) W0 (W.setCells g o vs) :=
  Fr.setCells (S := fun _ => False) (b := g) (fun hh => absurd hh (by omega)) vs o f
theorem Arr.some {w : World} {g : Nat} {l : List Nat} (h : Arr w g l) (k n : Nat) (hn : k + n ≤ 256) : w.there g k n := fun j hj => by
  have := h.there (k + j) (by omega)
  simpa using this

set_option maxRecDepth 100000 in
set_option maxHeartbeats 400000 in
theorem encode_no (n : Nd) (p : Pt) (w : World) (h : Nod w n p) (hr : rightB n = false) : Calls Try.prog 12 #[(.agg #[.int .i64 n.lev, .int .i64 n.lsn, .int .i64 n.rgt, .string n.high, .slice p.k n.keys.length p.kc, .slice p.v n.vals.length p.vc, .slice p.i n.kids.length p.ic])] w fun e w' => e = .returned (.tuple #[.slice none 0 0, .int .i64 60]) ∧ Fr (fun _ => False) w w' := by
  have f0 := Fr.box w (.cells #[.int .i64 n.lev, .int .i64 n.lsn, .int .i64 n.rgt, .string n.high, .slice p.k n.keys.length p.kc, .slice p.v n.vals.length p.vc, .slice p.i n.kids.length p.ic] 25)
  have HE : Hid (epage n = 60) := epage_no hr
  clear hr
  go_enter Try.func12, Try.ntmps12
  go_wp2_with fail
  refine (check_any n p _ (h.same f0)).mono ?_
  rw [HE.out]
  rintro e w1 ⟨rfl, f1⟩
  go_wp2
  go_ret2
  exact ⟨rfl, f0.seq' f1⟩

set_option maxRecDepth 100000 in
set_option maxHeartbeats 1000000 in
theorem encode_yes (n : Nd) (p : Pt) (w : World) (h : Nod w n p) (hr : Rt n) : Calls Try.prog 12 #[(.agg #[.int .i64 n.lev, .int .i64 n.lsn, .int .i64 n.rgt, .string n.high, .slice p.k n.keys.length p.kc, .slice p.v n.vals.length p.vc, .slice p.i n.kids.length p.ic])] w fun e w' => ∃ g, e = .returned (.tuple #[.slice (some ⟨g, 0, none⟩) 256 256, .int .i64 0]) ∧ Arr w' g (pg n) ∧ w.heap.size ≤ g ∧ Fr (fun _ => False) w w' := by
  obtain ⟨i1, hi1, hz1, hs1, hb1⟩ := info_parts infoLay
  obtain ⟨i0, hi, hz0, hsz, hz2⟩ := info_parts info8
  have h8 : (Try.prog.info? 5).map (·.size) = some 1 := by rw [hi]; simp [hsz]
  have H8 : Hid ((Try.prog.info? 5).map (·.size) = some 1) := h8
  have f0 := Fr.box w (.cells #[.int .i64 n.lev, .int .i64 n.lsn, .int .i64 n.rgt, .string n.high, .slice p.k n.keys.length p.kc, .slice p.v n.vals.length p.vc, .slice p.i n.kids.length p.ic] 25)
  have HE : Hid (epage n = 0) := epage_yes ((right_iff n).2 hr)
  have HL : Hid ((nb n).length ≤ 252) := by show _ ≤ _; have := nb_length hr; have := hr.size; omega
  have HR : Hid (Rt n) := hr
  clear hr h8 hi hz0 hsz hz2
  go_enter Try.func12, Try.ntmps12
  go_wp2_with fail
  refine (check_any n p _ (h.same f0)).mono ?_
  rw [HE.out]
  rintro e w1 ⟨rfl, f1⟩
  go_wp2_with (refine wpList_alloc rfl 69 rfl i1 (.agg (cellsOf z256).toArray) hi1 hz1 ?_)
  have ez : (Value.agg (cellsOf z256).toArray).cells = (cellsOf z256).toArray := rfl
  rw [ez]
  obtain ⟨W2, hW2⟩ : ∃ W2, W2 = w1.alloc (.cells (cellsOf z256).toArray 69) := ⟨_, rfl⟩
  obtain ⟨g, hg⟩ : ∃ g, g = w1.heap.size := ⟨_, rfl⟩
  have hA : Arr W2 g z256 := by rw [hW2, hg]; exact Arr.new w1 _ z256 z256_length
  have f12 : Fr (fun _ => False) w1 W2 := by rw [hW2]; exact Fr.box w1 _
  have f2 := f1.seq' f12
  have hg0 : w.heap.size + 1 ≤ g := by rw [hg]; have := f1.size; simpa using this
  rw [← hW2, ← hg]
  clear ez hW2 hg hi1 hz1 hs1 hb1
  have HB : Hid (∀ W, Fr (fun _ => False) (w.alloc (.cells #[.int .i64 n.lev, .int .i64 n.lsn, .int .i64 n.rgt, .string n.high, .slice p.k n.keys.length p.kc, .slice p.v n.vals.length p.vc, .slice p.i n.kids.length p.ic] 25)) W → W.cell? ⟨w.heap.size, 0, none⟩ = some (.int .i64 n.lev) ∧ W.cell? ⟨w.heap.size, 1, none⟩ = some (.int .i64 n.lsn) ∧ W.cell? ⟨w.heap.size, 2, none⟩ = some (.int .i64 n.rgt) ∧ W.cell? ⟨w.heap.size, 3, none⟩ = some (.string n.high) ∧
    W.cell? ⟨w.heap.size, 4, none⟩ = some (.slice p.k n.keys.length p.kc) ∧ W.cell? ⟨w.heap.size, 5, none⟩ = some (.slice p.v n.vals.length p.vc) ∧ W.cell? ⟨w.heap.size, 6, none⟩ = some (.slice p.i n.kids.length p.ic)) := fun W f => box_cells (box_at w n p 25 f)
  have fr0 := f2.drew
  have HL2 : Hid ((nb n).length ≤ 140737488355328) := by show _ ≤ _; have := HL.out; omega
  have HL3 : Hid (0 + (nb n).length ≤ 256) := by show _ ≤ _; have := HL.out; omega
  have hg1 : (w.alloc (.cells #[.int .i64 n.lev, .int .i64 n.lsn, .int .i64 n.rgt, .string n.high, .slice p.k n.keys.length p.kc, .slice p.v n.vals.length p.vc, .slice p.i n.kids.length p.ic] 25)).heap.size ≤ g := by simpa using hg0
  have q0 := HB.out _ fr0
  have hN := h.same (f0.seq' fr0)
  have hA0 : Arr W2.drew g z256 := Has.fr hA (Fr.refl (fun _ => False) W2).drew (fun _ _ f => f)
  go_wp2_with fail
  go_region_held3 (fun W => W.cell? ⟨w.heap.size, 0, none⟩ = some (.int .i64 n.lev) ∧ W.cell? ⟨w.heap.size, 1, none⟩ = some (.int .i64 n.lsn) ∧ W.cell? ⟨w.heap.size, 2, none⟩ = some (.int .i64 n.rgt) ∧ W.cell? ⟨w.heap.size, 3, none⟩ = some (.string n.high) ∧ W.cell? ⟨w.heap.size, 4, none⟩ = some (.slice p.k n.keys.length p.kc) ∧ W.cell? ⟨w.heap.size, 5, none⟩ = some (.slice p.v n.vals.length p.vc) ∧ W.cell? ⟨w.heap.size, 6, none⟩ = some (.slice p.i n.kids.length p.ic))
    (first | with_reducible exact q0 | with_reducible exact q1 | with_reducible exact q2)
    ((go_at_call 40; refine (bytesOf_any n p _ hN HR.out).mono ?_; rintro e w5 ⟨v5, rfl, m5⟩; obtain ⟨a5, c5, rfl, hr5⟩ := m5.own.row (nb_octs n) HL2.out; have q1 := HB.out _ (fr0.seq' m5.fr); have hA5 : Arr w5 g z256 := Has.fr hA0 m5.fr (fun _ _ f => f); have hth := hA5.some 0 (nb n).length HL3.out; have q2 := HB.out _ ((fr0.seq' m5.fr).set_new hg1 (cellsOf (nb n)) 0); have hcp := run_copy_arr (P := Try.prog) w5 3 26 26 Try.underlying26 H8.out g 0 252 256 a5 (nb n).length c5 (nb n) rfl HL.out hr5 hth))
  obtain ⟨L6, hL6⟩ : ∃ L, L = z256.take 0 ++ nb n ++ z256.drop (0 + (nb n).length) := ⟨_, rfl⟩
  obtain ⟨W6, hW6⟩ : ∃ W, W = w5.setCells g 0 (cellsOf (nb n)) := ⟨_, rfl⟩
  have HO : Hid (octs L6) := by
    show octs L6
    rw [hL6]; exact octs_app (octs_app (octs_take z256_octs 0) (nb_octs n)) (fun x hx => z256_octs x (List.mem_of_mem_drop hx))
  have hA6 : Arr W6 g L6 := by rw [hW6, hL6]; exact hA5.set 0 (nb n) HL3.out
  have f6 : Fr (fun _ => False) (w.alloc (.cells #[.int .i64 n.lev, .int .i64 n.lsn, .int .i64 n.rgt, .string n.high, .slice p.k n.keys.length p.kc, .slice p.v n.vals.length p.vc, .slice p.i n.kids.length p.ic] 25)) W6 := by rw [hW6]; exact (fr0.seq' m5.fr).set_new hg1 (cellsOf (nb n)) 0
  have HP : Hid (L6.take 252 = pad (nb n)) := by show _ = _; rw [hL6]; exact pad_is (nb n) HL.out
  have HQ : Hid (∀ t : List Nat, t.length = 4 → L6.take 252 ++ t ++ L6.drop (252 + t.length) = pad (nb n) ++ t) := fun t ht => by rw [hL6]; exact pg_is (nb n) HL.out t ht
  rw [← hW6]
  clear hW6 hL6 hcp hth q2 q1 hA5 hr5 m5 q0 hN hA0
  have hA7 : Arr W6.drew g L6 := Has.fr hA6 (Fr.refl (fun _ => False) W6).drew (fun _ _ f => f)
  have hro : Row W6.drew (some ⟨g, 0, none⟩) 256 (L6.take 252) := by
    exact hA7.row HO.out 252 (by omega) 256 (by omega) (by omega)
  have hpl : (pad (nb n)).length = 252 := pad_length HL.out
  rw [HP.out] at hro
  have HPL : Hid ((pad (nb n)).length = 252) := hpl
  have h4 := le_length 4 (crc (pad (nb n)))
  have H4 : Hid ((le 4 (crc (pad (nb n)))).length = 4) := h4
  have H4s : Hid ((le 4 (crc (pad (nb n)))).length ≤ 140737488355328) := by show _ ≤ _; omega
  have H4t : Hid ((le 4 (crc (pad (nb n)))).length ≤ 4) := by show _ ≤ _; omega
  have H4u : Hid (252 + (le 4 (crc (pad (nb n)))).length ≤ 256) := by show _ ≤ _; omega
  clear hpl h4
  obtain ⟨t4, ht4⟩ : ∃ t, t = le 4 (crc (pad (nb n))) := ⟨_, rfl⟩
  rw [← ht4] at H4 H4s H4t H4u
  have HT4 : Hid (t4 = le 4 (crc (pad (nb n)))) := ht4
  clear ht4
  go_wp2_with fail
  go_region_held3 (fun _ => True)
    (trivial)
    ((go_at_call 41; refine (sumOf_any _ _ _ (pad (nb n)) HPL.out.symm _ hro).mono ?_; rw [← HT4.out]; rintro e w8 ⟨v8, rfl, m8⟩; obtain ⟨a8, c8, hv8, hr8⟩ := m8.own.row (HT4.out ▸ le_octs' _ _) H4s.out; rw [H4.out] at hv8; subst hv8; have hA8 : Arr w8 g L6 := Has.fr hA7 m8.fr (fun _ _ f => f); have hth := hA8.some 252 t4.length H4u.out; have hcp := run_copy_arr (P := Try.prog) w8 3 26 26 Try.underlying26 H8.out g 252 4 4 a8 4 c8 t4 H4.out.symm H4t.out hr8 hth))
  have hA9 := hA8.set 252 t4 H4u.out
  rw [HQ.out t4 H4.out, HT4.out] at hA9
  have f9 := (f6.drew.seq' m8.fr).set_new hg1 (cellsOf t4) 252
  obtain ⟨W9, hW9⟩ : ∃ W, W = w8.setCells g 252 (cellsOf t4) := ⟨_, rfl⟩
  rw [← hW9] at f9 ⊢
  rw [← HT4.out, ← hW9] at hA9
  clear hW9 hcp hth hA8 hr8 m8
  go_wp2
  go_ret2
  exact ⟨g, rfl, by unfold pg; rw [← HT4.out]; exact hA9, by omega, f0.seq' f9⟩
end Go.Proofs.Ytaaedmacefiinaa
