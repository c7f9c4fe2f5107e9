
/- What page's reader tells: num and text, by plain functions of what is left, the error, and whether one failed. -/
import Derived.Test.YtaaedmacefiinaaPgEnc3
import Derived.Test.YtaaedmacefiinaaRead4
namespace Go.Proofs.Ytaaedmacefiinaa
open Go.RowKit Crcm

/-- A reader's state: what is left, its error, and whether something could not be read. -/
abbrev RF : Type := RS × Bool
def numF (s : RF) (size : Int) : Int × RF := ((numS s.1 size).1, ((numS s.1 size).2.2, s.2 || decide ((numS s.1 size).2.1 ≠ 0)))
def textF (s : RF) (most : Int) : ByteArray × RF := (strOf (textS s.1 most).1, ((textS s.1 most).2.2, s.2 || decide ((textS s.1 most).2.1 ≠ 0)))

/-- Page's reader at block qb over wire's at block rb. -/
structure Rr (w : World) (qb rb : Nat) (a : Option Addr) (cap : Nat) (s : RF) : Prop where
  box : w.heap[qb]? = some (.cells #[.pointer (some ⟨rb, 0, none⟩), .bool s.2] 80 (0, 0))
  rd : Rd w rb a cap s.1.1 s.1.2
  ne : qb ≠ rb
  far : ∀ b off sp, a = some ⟨b, off, sp⟩ → b ≠ qb
def rrS (qb rb : Nat) : Nat → Prop := fun k => k = qb ∨ k = rb
theorem Rr.fr {S : Nat → Prop} {w w' : World} {qb rb : Nat} {a : Option Addr} {cap : Nat} {s : RF} (h : Rr w qb rb a cap s) (f : Fr S w w') (h1 : ¬ S qb) (h2 : ¬ S rb) (h3 : ∀ b off sp, a = some ⟨b, off, sp⟩ → ¬ S b) : Rr w' qb rb a cap s :=
  ⟨by rw [f.block qb (lt_of_block h.box) h1]; exact h.box, ⟨by rw [f.block rb (lt_of_block h.rd.box) h2]; exact h.rd.box, h.rd.row.fr f h3, h.rd.far⟩, h.ne, h.far⟩
theorem Rr.same {w w' : World} {qb rb : Nat} {a : Option Addr} {cap : Nat} {s : RF} (h : Rr w qb rb a cap s) (f : Fr (fun _ => False) w w') : Rr w' qb rb a cap s := h.fr f (fun f => f) (fun f => f) (fun _ _ _ _ f => f)

theorem or_ne {e : Int} : (e != 0) = decide (e ≠ 0) := by
  rw [Bool.eq_iff_iff]; simp
set_option maxRecDepth 100000 in
set_option maxHeartbeats 1000000 in
theorem pnum_any (size : Int) (qb rb : Nat) (a : Option Addr) (cap : Nat) (s : RF) (w : World) (h : Rr w qb rb a cap s) :
    Calls Try.prog 94 #[.pointer (some ⟨qb, 0, none⟩), .int .i64 size] w fun e w' => e = .returned (.int .i64 (numF s size).1) ∧
      ∃ a' c', Rr w' qb rb a' c' (numF s size).2 ∧ Fr (rrS qb rb) w w' ∧ Near a a' := by
  obtain ⟨h0, h1, g0, g1⟩ := cell_of_two h.box
  have HN := rnum_all size rb a cap s.1 w h.rd
  obtain ⟨st, fl⟩ := s
  simp only at h0 h1 HN
  have HF : Hid (numF (st, fl) size = ((numS st size).1, ((numS st size).2.2, fl || decide ((numS st size).2.1 ≠ 0)))) := rfl
  rw [HF.out]
  obtain ⟨x, hx⟩ : ∃ x, x = (numS st size).1 := ⟨_, rfl⟩
  obtain ⟨er, her⟩ : ∃ x, x = (numS st size).2.1 := ⟨_, rfl⟩
  obtain ⟨st', hst⟩ : ∃ x, x = (numS st size).2.2 := ⟨_, rfl⟩
  rw [← hx, ← her, ← hst] at HN ⊢
  clear hx her hst HF
  have hq := lt_of_block h.box
  cases fl with
  | true =>
    go_enter Try.func94, Try.ntmps94
    go_wp2_with fail
    refine HN.mono ?_
    rintro e w1 ⟨rfl, a1, c1, r1, f1, n1⟩
    have hb1 : w1.heap[qb]? = some (.cells #[.pointer (some ⟨rb, 0, none⟩), .bool true] 80 (0, 0)) := by rw [f1.block qb hq h.ne]; exact h.box
    obtain ⟨k0, k1, k2, k3⟩ := cell_of_two hb1
    have f2 : Fr (fun k => k = qb) w1 (w1.setCell ⟨qb, 1, none⟩ (.bool true)) := (Fr.refl (fun k => k = qb) w1).setCell (p := ⟨qb, 1, none⟩) (fun _ => rfl) _
    go_wp2
    go_ret
    refine ⟨rfl, a1, c1, ⟨two_setCell1 hb1, ⟨by rw [f2.block rb (lt_of_block r1.box) (fun e => h.ne e.symm)]; exact r1.box, r1.row.fr f2 (fun b off sp e => by obtain ⟨o, t, e2⟩ := n1 b off sp e; exact h.far b o t e2), r1.far⟩, h.ne, fun b off sp e => by obtain ⟨o, t, e2⟩ := n1 b off sp e; exact h.far b o t e2⟩, (f1.mono (fun i _ e => .inr e)).trans f2 (fun i _ e => .inl e), n1⟩
  | false =>
    go_enter Try.func94, Try.ntmps94
    go_wp2_with fail
    refine HN.mono ?_
    rintro e w1 ⟨rfl, a1, c1, r1, f1, n1⟩
    have hb1 : w1.heap[qb]? = some (.cells #[.pointer (some ⟨rb, 0, none⟩), .bool false] 80 (0, 0)) := by rw [f1.block qb hq h.ne]; exact h.box
    obtain ⟨k0, k1, k2, k3⟩ := cell_of_two hb1
    have f2 : Fr (fun k => k = qb) w1 (w1.setCell ⟨qb, 1, none⟩ (.bool (decide (er ≠ 0)))) := (Fr.refl (fun k => k = qb) w1).setCell (p := ⟨qb, 1, none⟩) (fun _ => rfl) _
    have OE : Hid ((er != 0) = decide (er ≠ 0)) := or_ne
    go_wp2
    rw [OE.out]
    go_ret
    refine ⟨rfl, a1, c1, ⟨by rw [Bool.false_or]; exact two_setCell1 hb1, ⟨by rw [f2.block rb (lt_of_block r1.box) (fun e => h.ne e.symm)]; exact r1.box, r1.row.fr f2 (fun b off sp e => by obtain ⟨o, t, e2⟩ := n1 b off sp e; exact h.far b o t e2), r1.far⟩, h.ne, fun b off sp e => by obtain ⟨o, t, e2⟩ := n1 b off sp e; exact h.far b o t e2⟩, (f1.mono (fun i _ e => .inr e)).trans f2 (fun i _ e => .inl e), n1⟩
set_option maxRecDepth 100000 in
set_option maxHeartbeats 1000000 in
theorem ptext_any (most : Int) (qb rb : Nat) (a : Option Addr) (cap : Nat) (s : RF) (w : World) (h : Rr w qb rb a cap s) :
    Calls Try.prog 95 #[.pointer (some ⟨qb, 0, none⟩), .int .i64 most] w fun e w' => e = .returned (.string (textF s most).1) ∧
      ∃ a' c', Rr w' qb rb a' c' (textF s most).2 ∧ Fr (rrS qb rb) w w' ∧ Near a a' := by
  obtain ⟨h0, h1, g0, g1⟩ := cell_of_two h.box
  have HN := rtext_all most rb a cap s.1 w h.rd
  obtain ⟨st, fl⟩ := s
  simp only at h0 h1 HN
  have HF : Hid (textF (st, fl) most = (strOf (textS st most).1, ((textS st most).2.2, fl || decide ((textS st most).2.1 ≠ 0)))) := rfl
  rw [HF.out]
  obtain ⟨x, hx⟩ : ∃ x, x = strOf (textS st most).1 := ⟨_, rfl⟩
  obtain ⟨er, her⟩ : ∃ x, x = (textS st most).2.1 := ⟨_, rfl⟩
  obtain ⟨st', hst⟩ : ∃ x, x = (textS st most).2.2 := ⟨_, rfl⟩
  rw [← hx, ← her, ← hst] at HN ⊢
  clear hx her hst HF
  have hq := lt_of_block h.box
  cases fl with
  | true =>
    go_enter Try.func95, Try.ntmps95
    go_wp2_with fail
    refine HN.mono ?_
    rintro e w1 ⟨rfl, a1, c1, r1, f1, n1⟩
    have hb1 : w1.heap[qb]? = some (.cells #[.pointer (some ⟨rb, 0, none⟩), .bool true] 80 (0, 0)) := by rw [f1.block qb hq h.ne]; exact h.box
    obtain ⟨k0, k1, k2, k3⟩ := cell_of_two hb1
    have f2 : Fr (fun k => k = qb) w1 (w1.setCell ⟨qb, 1, none⟩ (.bool true)) := (Fr.refl (fun k => k = qb) w1).setCell (p := ⟨qb, 1, none⟩) (fun _ => rfl) _
    go_wp2
    go_ret
    refine ⟨rfl, a1, c1, ⟨two_setCell1 hb1, ⟨by rw [f2.block rb (lt_of_block r1.box) (fun e => h.ne e.symm)]; exact r1.box, r1.row.fr f2 (fun b off sp e => by obtain ⟨o, t, e2⟩ := n1 b off sp e; exact h.far b o t e2), r1.far⟩, h.ne, fun b off sp e => by obtain ⟨o, t, e2⟩ := n1 b off sp e; exact h.far b o t e2⟩, (f1.mono (fun i _ e => .inr e)).trans f2 (fun i _ e => .inl e), n1⟩
  | false =>
    go_enter Try.func95, Try.ntmps95
    go_wp2_with fail
    refine HN.mono ?_
    rintro e w1 ⟨rfl, a1, c1, r1, f1, n1⟩
    have hb1 : w1.heap[qb]? = some (.cells #[.pointer (some ⟨rb, 0, none⟩), .bool false] 80 (0, 0)) := by rw [f1.block qb hq h.ne]; exact h.box
    obtain ⟨k0, k1, k2, k3⟩ := cell_of_two hb1
    have f2 : Fr (fun k => k = qb) w1 (w1.setCell ⟨qb, 1, none⟩ (.bool (decide (er ≠ 0)))) := (Fr.refl (fun k => k = qb) w1).setCell (p := ⟨qb, 1, none⟩) (fun _ => rfl) _
    have OE : Hid ((er != 0) = decide (er ≠ 0)) := or_ne
    go_wp2
    rw [OE.out]
    go_ret
    refine ⟨rfl, a1, c1, ⟨by rw [Bool.false_or]; exact two_setCell1 hb1, ⟨by rw [f2.block rb (lt_of_block r1.box) (fun e => h.ne e.symm)]; exact r1.box, r1.row.fr f2 (fun b off sp e => by obtain ⟨o, t, e2⟩ := n1 b off sp e; exact h.far b o t e2), r1.far⟩, h.ne, fun b off sp e => by obtain ⟨o, t, e2⟩ := n1 b off sp e; exact h.far b o t e2⟩, (f1.mono (fun i _ e => .inr e)).trans f2 (fun i _ e => .inl e), n1⟩
end Go.Proofs.Ytaaedmacefiinaa
