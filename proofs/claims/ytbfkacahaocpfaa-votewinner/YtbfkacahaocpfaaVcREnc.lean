
/- What the document's Encode makes. -/
import Derived.Test.YtbfkacahaocpfaaVcEnc
import Derived.Test.YtbfkacahaocpfaaVtRef
namespace Go.Proofs.Ytbfkacahaocpfaa
open Go.RowKit Crcm

set_option maxRecDepth 100000 in
set_option maxHeartbeats 1000000 in
theorem rencode_vno (e f : Int) (hp : rgtB e f = false) (w : World) : Calls Try.prog 9 #[.agg #[.int .i64 e, .int .i64 f]] w fun r w' => r = .returned (.tuple #[.slice none 0 0, .int .i64 1]) ∧ Fr (fun _ => False) w w' := by
  have HR : Hid (∀ W, Calls Try.prog 16 #[.agg #[.int .i64 e, .int .i64 f]] W fun r w' => r = .returned (.bool false) ∧ Fr (fun _ => False) W w') := fun W => by
    have := right_any e f W
    rw [hp] at this; exact this
  have F0 := Fr.box w (.cells #[.int .i64 e, .int .i64 f] 33)
  obtain ⟨x0, x1, _⟩ := (Two.new w 33 (.int .i64 e) (.int .i64 f)).cells
  clear hp
  go_enter Try.func9, Try.ntmps9
  go_wp2_with fail
  refine (HR.out _).mono ?_
  rintro r w1 ⟨rfl, f1⟩
  go_wp2
  go_ret2
  exact ⟨rfl, F0.seq' f1⟩
theorem le_one (n : Nat) (h : n < 256) : le 1 n = [n] := by
  unfold le
  simp [le]
  omega
set_option maxRecDepth 100000 in
set_option maxHeartbeats 4000000 in
theorem rencode_vyes (e f : Int) (hp : rgtB e f = true) (w : World) : Calls Try.prog 9 #[.agg #[.int .i64 e, .int .i64 f]] w fun r w' => ∃ v', r = .returned (.tuple #[v', .int .i64 0]) ∧ Made w w' v' (prF e f) := by
  obtain ⟨i0, hi, hz0, hz1, hz2⟩ := info_parts info8
  have HR : Hid (∀ W, Calls Try.prog 16 #[.agg #[.int .i64 e, .int .i64 f]] W fun r w' => r = .returned (.bool true) ∧ Fr (fun _ => False) W w') := fun W => by
    have := right_any e f W
    rw [hp] at this; exact this
  obtain ⟨h0, h1, h2, h3⟩ := rgt_iff hp
  have F0 := Fr.box w (.cells #[.int .i64 e, .int .i64 f] 33)
  have T := Two.new w 33 (.int .i64 e) (.int .i64 f)
  obtain ⟨x0, x1, _⟩ := T.cells
  have HT : Hid (Two (w.alloc (.cells #[.int .i64 e, .int .i64 f] 33)) w.heap.size 33 (.int .i64 e) (.int .i64 f)) := T
  obtain ⟨g, hg⟩ : ∃ g : Nat, (g : Int) = f + 1 := ⟨(f + 1).toNat, by omega⟩
  have hgl : g < 256 := by omega
  have HS : Hid (prB e f = le 8 e.toNat ++ [g]) := by show _ = _; unfold prB; rw [← hg, Int.toNat_natCast, le_one g hgl]
  clear hp T
  go_enter Try.func9, Try.ntmps9
  go_wp2_with fail
  refine (HR.out _).mono ?_
  rintro r w1 ⟨rfl, f1⟩
  have HT0 := HT.out.fr f1 (fun f => f)
  have F1 := F0.seq' f1
  clear x0 x1 f1 F0 HT
  have s1 : Ast w1 w1 (.slice none 0 0) [] := ⟨World.ownsRow_nil _ _ _ _, Fr.refl _ _⟩
  obtain ⟨c0, c1, _⟩ := (HT0.fr s1.2 (fun f => f)).cells
  go_wp2_with fail
  refine (rnum_i e 8 h0 (by omega) (by omega) _).mono ?_
  rintro r w0a ⟨x0, y0, rfl, r0, g0⟩
  clear c0 c1
  have t0 := s1.go g0
  have HL0 : Hid ((le 8 e.toNat).length = 8) := le_length _ _
  go_wp2_with (at_builtin; refine wpList_append_row _ rfl (.tmp 8) (.tmp 11) 24 24 5 rfl i0 Try.underlying24 Try.underlying24 hi hz0 hz1 hz2 w1.heap.size (.slice none 0 0) ([] : List Nat) rfl t0.1 x0 (8) y0 (le 8 e.toNat) HL0.out.symm rfl r0 ?hb ?hs ?_)
  case hb => have := HL0.out; simp; omega
  case hs => exact t0.2.size
  intro b0 d0 w2 own0 grow0 _
  have s2 := t0.grow own0 grow0
  obtain ⟨L1, hE1⟩ : ∃ L, L = le 8 e.toNat := ⟨_, rfl⟩
  have HE1 : Hid (L1 = le 8 e.toNat) := hE1
  have B2 : Hid (L1.length = 8) := by show _ = _; rw [hE1, HL0.out]
  rw [← hE1] at s2
  try simp only [List.length_nil, Nat.zero_add]
  try simp only [List.length_nil, Nat.zero_add] at s2
  rw [← hE1]
  clear hE1 own0 grow0 r0 g0 t0 s1
  obtain ⟨c0, c1, _⟩ := (HT0.fr s2.2 (fun f => f)).cells
  have r2 := row_one w2 g (f + 1) hgl hg.symm
  have f2 := Fr.box w2 (.cells #[.int .u8 (f + 1)] 5)
  have t1 := s2.go f2
  go_wp2_with (at_builtin; refine wpList_append_row _ rfl (.tmp 13) (.tmp 18) 24 24 5 rfl i0 Try.underlying24 Try.underlying24 hi hz0 hz1 hz2 w1.heap.size (.slice b0 L1.length d0) L1 rfl t1.1 (some ⟨w2.heap.size, 0, none⟩) 1 1 [g] rfl rfl r2 ?hb ?hs ?_)
  case hb => have := B2.out; simp; omega
  case hs => exact t1.2.size
  intro b1 d1 w3 own1 grow1 _
  have s3 := t1.grow own1 grow1
  obtain ⟨L2, hE2⟩ : ∃ L, L = L1 ++ [g] := ⟨_, rfl⟩
  have hll2 : L1.length + 1 = L2.length := by rw [hE2]; simp
  have hL : L2 = prB e f := by rw [hE2, HE1.out, HS.out]
  rw [← hE2, hll2] at s3
  rw [hll2]
  rw [hL] at s3 ⊢
  clear hL hE2 hll2 own1 grow1 t1 s2
  obtain ⟨a9, k9, he9, r9⟩ := s3.1.row (prB_octs e f) (by rw [prB_length]; omega)
  simp only [Value.slice.injEq, true_and] at he9
  obtain ⟨rfl, rfl⟩ := he9
  go_wp2_with fail
  refine (refSeal_any _ _ _ (prB e f) rfl (by rw [prB_length]; omega) _ r9).mono ?_
  rintro r w11 ⟨v11, rfl, m11⟩
  go_wp2
  go_ret2
  exact ⟨v11, rfl, Made.of (F1.seq' s3.2) m11⟩
end Go.Proofs.Ytbfkacahaocpfaa
