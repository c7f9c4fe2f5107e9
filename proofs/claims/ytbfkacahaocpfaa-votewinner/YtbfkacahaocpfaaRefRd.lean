
/- What the document's own reader does: Num. -/
import Derived.Test.YtbfkacahaocpfaaRead4
import Derived.Test.YtbfkacahaocpfaaNilRef
namespace Go.Proofs.Ytbfkacahaocpfaa
open Go.RowKit

theorem val_split (l : List Nat) (j : Nat) (h : j ≤ l.length) : val l = val (l.take j) + 256 ^ j * val (l.drop j) := by
  induction j generalizing l with
  | zero => simp [val]
  | succ j ih =>
    cases l with
    | nil => simp at h
    | cons x l =>
      have := ih l (by simpa using h)
      simp only [List.take_succ_cons, List.drop_succ_cons, val, this, Nat.pow_succ]
      rw [Nat.mul_add, ← Nat.mul_assoc, Nat.mul_comm 256 (256 ^ j), Nat.add_assoc]
theorem val_drop (l : List Nat) (j : Nat) (h : j < l.length) : val (l.drop j) = l.getD j 0 + 256 * val (l.drop (j + 1)) := by
  rw [List.drop_eq_getElem_cons h]
  simp only [val]
  rw [List.getD_eq_getElem?_getD, List.getElem?_eq_getElem h]; rfl
theorem val_drop_le (l : List Nat) (j : Nat) (h : j ≤ l.length) : val (l.drop j) ≤ val l := by
  have h1 := val_split l j h
  have h2 : 1 ≤ 256 ^ j := Nat.pow_pos (by omega)
  have h3 : val (l.drop j) ≤ 256 ^ j * val (l.drop j) := Nat.le_mul_of_pos_left _ (by omega)
  omega

/-- The document's reader at block rb: what is left is l. -/
structure Rf (w : World) (rb : Nat) (a : Option Addr) (cap : Nat) (l : List Nat) (err : Int) : Prop where
  box : w.heap[rb]? = some (.cells #[.slice a l.length cap, .int .i64 err] 86 (0, 0))
  row : Row w a cap l
  far : l = [] ∨ ∀ b off sp, a = some ⟨b, off, sp⟩ → b ≠ rb
theorem Row.fr0 {S : Nat → Prop} {w w' : World} {a : Option Addr} {cap : Nat} {l : List Nat} (h : Row w a cap l) (f : Fr S w w') (hn : l = [] ∨ ∀ b off sp, a = some ⟨b, off, sp⟩ → ¬ S b) : Row w' a cap l := by
  rcases hn with e | e
  · exact ⟨h.le, h.max, h.small, h.byte, .inl e⟩
  · exact h.fr f e

theorem Rf.advance {w : World} {rb b off cap : Nat} {l : List Nat} (h : Rf w rb (some ⟨b, off, none⟩) cap l 0) (hb : b < w.heap.size) (hc : ∀ i, i < l.length → w.cell? ⟨b, off + i, none⟩ = some (.int .u8 ((l.getD i 0 : Nat) : Int))) (k : Nat) (hk : k ≤ l.length) (off2 : Nat) (ho : cap = k ∨ off2 = off + k) :
    ∃ a' c', Rf (w.setCell ⟨rb, 0, none⟩ (.slice (some ⟨b, off2, none⟩) (l.length - k) (cap - k))) rb a' c' (l.drop k) 0 ∧ Fr (fun k => k = rb) w (w.setCell ⟨rb, 0, none⟩ (.slice (some ⟨b, off2, none⟩) (l.length - k) (cap - k))) ∧ Near (some ⟨b, off, none⟩) a' := by
  have hf : Fr (fun k => k = rb) w (w.setCell ⟨rb, 0, none⟩ (.slice (some ⟨b, off2, none⟩) (l.length - k) (cap - k))) := (Fr.refl (fun k => k = rb) w).setCell (p := ⟨rb, 0, none⟩) (fun _ => rfl) _
  have hfar : l.drop k = [] ∨ ∀ b' off' sp, (some ⟨b, off2, none⟩ : Option Addr) = some ⟨b', off', sp⟩ → b' ≠ rb := by
    rcases h.far with e | e
    · exact .inl (by rw [e]; simp)
    · exact .inr (fun b' o s e' => by simp at e'; rw [← e'.1]; exact e b off none rfl)
  refine ⟨some ⟨b, off2, none⟩, cap - k, ⟨?_, ?_, hfar⟩, hf, ?_⟩
  · rw [two_setCell0 h.box, List.length_drop]
  · exact (h.row.drop k hk off2 ho (.inr ⟨hb, hc⟩)).fr0 hf hfar
  · intro b' o s e; simp at e; exact ⟨off, none, by rw [e.1]⟩
theorem Rf.fail {w : World} {rb cap : Nat} {a : Option Addr} {l : List Nat} {err : Int} (h : Rf w rb a cap l err) (err' : Int) :
    Rf (w.setCell ⟨rb, 1, none⟩ (.int .i64 err')) rb a cap l err' ∧ Fr (fun k => k = rb) w (w.setCell ⟨rb, 1, none⟩ (.int .i64 err')) := by
  have hf : Fr (fun k => k = rb) w (w.setCell ⟨rb, 1, none⟩ (.int .i64 err')) := (Fr.refl (fun k => k = rb) w).setCell (p := ⟨rb, 1, none⟩) (fun _ => rfl) _
  exact ⟨⟨two_setCell1 h.box, h.row.fr0 hf h.far, h.far⟩, hf⟩
theorem Rf.drew {w : World} {rb cap : Nat} {a : Option Addr} {l : List Nat} {err : Int} (h : Rf w rb a cap l err) : Rf w.drew rb a cap l err :=
  ⟨h.box, h.row.same (Fr.refl (fun _ => False) w).drew, h.far⟩

set_option maxRecDepth 100000 in
set_option maxHeartbeats 400000 in
theorem fnum_arg (p : Option Addr) (size : Int) (hs : sizedB size = false) (w : World) :
    Calls Try.prog 38 #[.pointer p, .int .i64 size] w fun e w' => e = .returned (.tuple #[.int .i64 0, .int .i64 1]) ∧ w' = w := by
  have HS : Hid (sizedB size = false) := hs
  clear hs
  go_enter Try.func38, Try.ntmps38
  go_wp2_with (go_at_call 51; refine (refSized_any _ _).mono ?_; rw [HS.out]; rintro e w' ⟨rfl, rfl⟩)
  go_ret2
  exact ⟨rfl, rfl⟩
set_option maxRecDepth 100000 in
set_option maxHeartbeats 400000 in
theorem fnum_stop (size : Int) (hs : sizedB size = true) (rb : Nat) (a : Option Addr) (cap : Nat) (l : List Nat) (err : Int) (herr : ¬ err = 0) (w : World) (h : Rf w rb a cap l err) :
    Calls Try.prog 38 #[.pointer (some ⟨rb, 0, none⟩), .int .i64 size] w fun e w' => e = .returned (.tuple #[.int .i64 0, .int .i64 err]) ∧ w' = w.drew := by
  obtain ⟨h0, h1, f0, f1⟩ := cell_of_two h.box
  have HS : Hid (sizedB size = true) := hs
  have hne : (err != 0) = true := by simpa using herr
  clear hs
  go_enter Try.func38, Try.ntmps38
  go_wp2_with (go_at_call 51; refine (refSized_any _ _).mono ?_; rw [HS.out]; rintro e w' ⟨rfl, rfl⟩)
  go_region
  all_goals
    go_wp2
    go_ret2
    exact ⟨rfl, rfl⟩
set_option maxRecDepth 100000 in
set_option maxHeartbeats 400000 in
theorem fnum_cut (size : Int) (hs : sizedB size = true) (rb : Nat) (a : Option Addr) (cap : Nat) (l : List Nat) (hlen : (l.length : Int) < size) (w : World) (h : Rf w rb a cap l 0) :
    Calls Try.prog 38 #[.pointer (some ⟨rb, 0, none⟩), .int .i64 size] w fun e w' => e = .returned (.tuple #[.int .i64 0, .int .i64 10]) ∧ w' = (w.setCell ⟨rb, 1, none⟩ (.int .i64 10)).drew := by
  obtain ⟨h0, h1, f0, f1⟩ := cell_of_two h.box
  have HS : Hid (sizedB size = true) := hs
  clear hs
  go_enter Try.func38, Try.ntmps38
  go_wp2_with (go_at_call 51; refine (refSized_any _ _).mono ?_; rw [HS.out]; rintro e w' ⟨rfl, rfl⟩)
  go_region
  all_goals
    go_wp2
    go_ret2
    exact ⟨rfl, rfl⟩
end Go.Proofs.Ytbfkacahaocpfaa
