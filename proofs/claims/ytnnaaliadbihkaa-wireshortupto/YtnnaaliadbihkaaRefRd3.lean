/- What the document's own reader does: Text. -/
import Derived.Test.YtnnaaliadbihkaaRefRd2
import Derived.Deep.QuietTactic
import Derived.BigQuiet
namespace Go.Proofs.Ytnnaaliadbihkaa
open Go.RowKit

set_option maxHeartbeats 400000 in
theorem ftext_arg (p : Option Addr) (most : Int) (hm : most < 0) (w : World) :
    Calls Try.prog 19 #[.pointer p, .int .i64 most] w fun e w' => e = .returned (.tuple #[.string ⟨#[]⟩, .int .i64 1]) ∧ w' = w := by
  go_enter Try.func19, Try.ntmps19
  go_wp2
  go_ret2
  exact ⟨rfl, rfl⟩
set_option maxHeartbeats 400000 in
theorem ftext_stop (most : Int) (hm : ¬ most < 0) (rb : Nat) (a : Option Addr) (cap : Nat) (l : List Nat) (err : Int) (herr : ¬ err = 0) (w : World) (h : Rf w rb a cap l err) :
    Calls Try.prog 19 #[.pointer (some ⟨rb, 0, none⟩), .int .i64 most] w fun e w' => e = .returned (.tuple #[.string ⟨#[]⟩, .int .i64 err]) ∧ w' = w.drew := by
  obtain ⟨h0, h1, f0, f1⟩ := cell_of_two h.box
  have hne : (err != 0) = true := by simpa using herr
  go_enter Try.func19, Try.ntmps19
  go_wp2
  go_region
  all_goals
    go_wp2
    go_ret2
    exact ⟨rfl, rfl⟩
set_option maxHeartbeats 400000 in
theorem ftext_cut0 (most : Int) (hm : ¬ most < 0) (rb : Nat) (a : Option Addr) (cap : Nat) (l : List Nat) (hlen : (l.length : Int) < 2) (w : World) (h : Rf w rb a cap l 0) :
    Calls Try.prog 19 #[.pointer (some ⟨rb, 0, none⟩), .int .i64 most] w fun e w' => e = .returned (.tuple #[.string ⟨#[]⟩, .int .i64 10]) ∧ w' = (w.setCell ⟨rb, 1, none⟩ (.int .i64 10)).drew := by
  obtain ⟨h0, h1, f0, f1⟩ := cell_of_two h.box
  go_enter Try.func19, Try.ntmps19
  go_wp2
  go_region
  all_goals
    go_wp2
    go_ret2
    exact ⟨rfl, rfl⟩

theorem val2 {l : List Nat} (h : 2 ≤ l.length) : val (l.take 2) = l.getD 0 0 + 256 * l.getD 1 0 := by
  match l, h with
  | x :: y :: r, _ => simp [val]

set_option maxHeartbeats 1000000 in
theorem ftext_bad (most : Int) (hm : ¬ most < 0) (rb b off cap : Nat) (l : List Nat) (hlen : 2 ≤ l.length) (err : Int) (hbad : (l.length < 2 + val (l.take 2) ∧ err = 10) ∨ (2 + val (l.take 2) ≤ l.length ∧ most < val (l.take 2) ∧ err = 2)) (w : World) (h : Rf w rb (some ⟨b, off, none⟩) cap l 0) (hc : ∀ i, i < l.length → w.cell? ⟨b, off + i, none⟩ = some (.int .u8 ((l.getD i 0 : Nat) : Int))) :
    Calls Try.prog 19 #[.pointer (some ⟨rb, 0, none⟩), .int .i64 most] w fun e w' => e = .returned (.tuple #[.string ⟨#[]⟩, .int .i64 err]) ∧ ∃ n m, w' = ((w.drewN n).setCell ⟨rb, 1, none⟩ (.int .i64 err)).drewN m := by
  obtain ⟨h0, h1, f0, f1⟩ := cell_of_two h.box
  have hmx := h.row.max
  have hle := h.row.le
  have c0 := hc 0 (by omega)
  have c1 := hc 1 (by omega)
  have x0 := octs_getD h.row.byte 0
  have x1 := octs_getD h.row.byte 1
  rw [val2 hlen] at hbad
  obtain ⟨x, hx⟩ : ∃ x, x = l.getD 0 0 := ⟨_, rfl⟩
  obtain ⟨y, hy⟩ : ∃ x, x = l.getD 1 0 := ⟨_, rfl⟩
  rw [← hx] at c0 x0 hbad
  rw [← hy] at c1 x1 hbad
  rw [Nat.add_zero] at c0
  clear hx hy hc
  have i1 : ¬ (l.length : Int) < 2 := by omega
  have i2 : (0 : Int) < (l.length : Int) := by omega
  have i3 : (1 : Int) < (l.length : Int) := by omega
  rcases hbad with ⟨hb, rfl⟩ | ⟨hb, hb2, rfl⟩
  · have i4 : (l.length : Int) < 2 + ((x : Int) + 256 * (y : Int)) := by omega
    go_enter Try.func19, Try.ntmps19
    go_wp2
    go_quiet (fail)
    go_wp2
    go_quiet (fail)
    go_wp2
    go_ret2
    exact ⟨rfl, _, _, rfl⟩
  · have i4 : ¬ (l.length : Int) < 2 + ((x : Int) + 256 * (y : Int)) := by omega
    have i5 : most < (x : Int) + 256 * (y : Int) := by omega
    go_enter Try.func19, Try.ntmps19
    go_wp2
    go_quiet (fail)
    go_wp2
    go_quiet (fail)
    go_wp2
    go_ret2
    exact ⟨rfl, _, _, rfl⟩

theorem Fr.drewN {S : Nat → Prop} {a w : World} (h : Fr S a w) (n : Nat) : Fr S a (w.drewN n) := ⟨h.os, h.tape, h.output, h.size, h.block⟩

set_option maxHeartbeats 1000000 in
theorem ftext_ok (most : Int) (hm : ¬ most < 0) (rb b off cap : Nat) (l : List Nat) (hlen : 2 + val (l.take 2) ≤ l.length) (h2 : 2 ≤ l.length) (hmost : (val (l.take 2) : Int) ≤ most) (w : World) (h : Rf w rb (some ⟨b, off, none⟩) cap l 0) (hb : b < w.heap.size) (hc : ∀ i, i < l.length → w.cell? ⟨b, off + i, none⟩ = some (.int .u8 ((l.getD i 0 : Nat) : Int))) :
    Calls Try.prog 19 #[.pointer (some ⟨rb, 0, none⟩), .int .i64 most] w fun e w' => e = .returned (.tuple #[.string (strOf ((l.drop 2).take (val (l.take 2)))), .int .i64 0]) ∧
      ∃ a' c', Rf w' rb a' c' (l.drop (2 + val (l.take 2))) 0 ∧ Fr (fun k => k = rb) w w' ∧ Near (some ⟨b, off, none⟩) a' := by
  obtain ⟨h0, h1, f0, f1⟩ := cell_of_two h.box
  have hmx := h.row.max
  have hle := h.row.le
  have c0 := hc 0 (by omega)
  have c1 := hc 1 (by omega)
  have x0 := octs_getD h.row.byte 0
  have x1 := octs_getD h.row.byte 1
  have hv2 := val2 h2
  obtain ⟨x, hx⟩ : ∃ x, x = l.getD 0 0 := ⟨_, rfl⟩
  obtain ⟨y, hy⟩ : ∃ x, x = l.getD 1 0 := ⟨_, rfl⟩
  rw [← hx] at c0 x0 hv2
  rw [← hy] at c1 x1 hv2
  rw [Nat.add_zero] at c0
  rw [hv2] at hlen hmost ⊢
  clear hx hy hv2
  have i1 : ¬ (l.length : Int) < 2 := by omega
  have i2 : (0 : Int) < (l.length : Int) := by omega
  have i3 : (1 : Int) < (l.length : Int) := by omega
  have i4 : ¬ (l.length : Int) < 2 + ((x : Int) + 256 * (y : Int)) := by omega
  have i5 : ¬ most < (x : Int) + 256 * (y : Int) := by omega
  have i6 : (2 : Int) + ((x : Int) + 256 * (y : Int)) ≤ (cap : Int) := by omega
  have fq : ∀ n, Fr (fun _ => False) w (w.drewN n) := fun n => (Fr.refl (fun _ => False) w).drewN n
  have hq : ∀ n, Rf (w.drewN n) rb (some ⟨b, off, none⟩) cap l 0 := fun n => ⟨h.box, h.row.same (fq n), h.far⟩
  have hcq : ∀ n i, i < l.length → (w.drewN n).cell? ⟨b, off + i, none⟩ = some (.int .u8 ((l.getD i 0 : Nat) : Int)) := fun n i hi => hc i hi
  have HQ : Hid (∀ n, Rf (w.drewN n) rb (some ⟨b, off, none⟩) cap l 0) := hq
  have HCQ : Hid (∀ n i, i < l.length → (w.drewN n).cell? ⟨b, off + i, none⟩ = some (.int .u8 ((l.getD i 0 : Nat) : Int))) := hcq
  have hvt : x + 256 * y = ((l.drop 2).take (x + 256 * y)).length := by simp; omega
  clear hc hq hcq
  by_cases k2 : cap = 2
  · have hx0 : x = 0 := by omega
    have hy0 : y = 0 := by omega
    subst hx0 hy0
    subst k2
    have el : l.length - 2 = 0 := by omega
    have hcv := fun n => run_str (P := Try.prog) (src := 25) (dst := 9) Try.underlying25 Try.underlying5 Try.underlying9 (row_none (w.drewN n) (some ⟨b, off, none⟩)) 0 rfl
    clear hvt fq
    go_enter Try.func19, Try.ntmps19
    go_wp2
    go_quiet (fail)
    have hadv := (HQ.out nq).advance hb (HCQ.out nq) 2 (by omega) off (.inl rfl)
    rw [el, Nat.sub_self] at hadv
    clear el
    obtain ⟨a', c', q1, q2, q3⟩ := hadv
    have q4 := ((Fr.refl (fun k => k = rb) w).drewN nq).trans q2 (fun _ _ e => e)
    go_wp2
    go_ret2
    first | exact ⟨rfl, a', c', q1, q4, q3⟩ | exact ⟨rfl, a', ⟨c', q1⟩, q4, q3⟩
  · have hrow2 : Row w (some ⟨b, off + 2, none⟩) (cap - 2) (l.drop 2) := h.row.drop 2 (by omega) (off + 2) (.inr rfl) (.inr ⟨hb, fun i hi => HCQ.out 0 i hi⟩)
    have hcv := fun n => run_str (P := Try.prog) (src := 25) (dst := 9) Try.underlying25 Try.underlying5 Try.underlying9 ((hrow2.take (x + 256 * y)).same (fq n)) (x + 256 * y) hvt
    clear hvt fq
    by_cases kv : cap = 2 + (x + 256 * y)
    · subst kv
      have ec : 2 + (x + 256 * y) - 2 = x + 256 * y := by omega
      rw [ec] at hcv
      have el : l.length - (2 + (x + 256 * y)) = 0 := by omega
      go_enter Try.func19, Try.ntmps19
      go_wp2
      go_quiet (fail)
      have hadv := (HQ.out nq).advance hb (HCQ.out nq) (2 + (x + 256 * y)) (by omega) off (.inl rfl)
      rw [el, Nat.sub_self] at hadv
      clear el
      obtain ⟨a', c', q1, q2, q3⟩ := hadv
      have q4 := ((Fr.refl (fun k => k = rb) w).drewN nq).trans q2 (fun _ _ e => e)
      go_wp2
      go_ret2
      first | exact ⟨rfl, a', c', q1, q4, q3⟩ | exact ⟨rfl, a', ⟨c', q1⟩, q4, q3⟩
    · go_enter Try.func19, Try.ntmps19
      go_wp2
      go_quiet (fail)
      have hadv := (HQ.out nq).advance hb (HCQ.out nq) (2 + (x + 256 * y)) (by omega) (off + (2 + (x + 256 * y))) (.inr rfl)
      obtain ⟨a', c', q1, q2, q3⟩ := hadv
      have q4 := ((Fr.refl (fun k => k = rb) w).drewN nq).trans q2 (fun _ _ e => e)
      go_wp2
      go_ret2
      first | exact ⟨rfl, a', c', q1, q4, q3⟩ | exact ⟨rfl, a', ⟨c', q1⟩, q4, q3⟩

theorem ftext_all (most : Int) (rb : Nat) (a : Option Addr) (cap : Nat) (st : RS) (w : World) (h : Rf w rb a cap st.1 st.2) :
    Calls Try.prog 19 #[.pointer (some ⟨rb, 0, none⟩), .int .i64 most] w fun e w' => e = .returned (.tuple #[.string (strOf (textS st most).1), .int .i64 (textS st most).2.1]) ∧
      ∃ a' c', Rf w' rb a' c' (textS st most).2.2.1 (textS st most).2.2.2 ∧ Fr (fun k => k = rb) w w' ∧ Near a a' := by
  obtain ⟨l, err⟩ := st
  by_cases hm : most < 0
  · have e : textS (l, err) most = ([], 1, (l, err)) := by unfold textS; rw [if_pos hm]
    rw [e]
    refine (ftext_arg (some ⟨rb, 0, none⟩) most hm w).mono ?_
    rintro e w' ⟨rfl, rfl⟩
    exact ⟨rfl, a, cap, h, Fr.refl _ _, Near.refl a⟩
  · by_cases he : err = 0
    · subst he
      by_cases h2 : l.length < 2
      · have e : textS (l, 0) most = ([], 10, (l, 10)) := by unfold textS; rw [if_neg hm, if_neg (by simp), if_pos h2]
        rw [e]
        refine (ftext_cut0 most hm rb a cap l (by omega) w h).mono ?_
        rintro e w' ⟨rfl, rfl⟩
        exact ⟨rfl, a, cap, (h.fail 10).1.drew, (h.fail 10).2.drew, Near.refl a⟩
      · obtain ⟨b, off, rfl, hb, hc⟩ : ∃ b off, a = some ⟨b, off, none⟩ ∧ b < w.heap.size ∧ ∀ i, i < l.length → w.cell? ⟨b, off + i, none⟩ = some (.int .u8 ((l.getD i 0 : Nat) : Int)) := by
          rcases h.row.at_ with e | e
          · have e' : l = [] := e
            rw [e'] at h2; simp at h2
          · exact e
        have fin : ∀ (err' : Int) (n m : Nat), Rf (((w.drewN n).setCell ⟨rb, 1, none⟩ (.int .i64 err')).drewN m) rb (some ⟨b, off, none⟩) cap l err' ∧ Fr (fun k => k = rb) w (((w.drewN n).setCell ⟨rb, 1, none⟩ (.int .i64 err')).drewN m) := fun err' n m => by
          have hq : Rf (w.drewN n) rb (some ⟨b, off, none⟩) cap l 0 := ⟨h.box, h.row.same ((Fr.refl (fun _ => False) w).drewN n), h.far⟩
          obtain ⟨r1, r2⟩ := hq.fail err'
          exact ⟨⟨r1.box, r1.row.same ((Fr.refl (fun _ => False) _).drewN m), r1.far⟩, (((Fr.refl (fun k => k = rb) w).drewN n).trans r2 (fun _ _ e => e)).drewN m⟩
        by_cases hv : l.length < 2 + val (l.take 2)
        · have e : textS (l, 0) most = ([], 10, (l, 10)) := by unfold textS; rw [if_neg hm, if_neg (by simp), if_neg h2, if_pos hv]
          rw [e]
          refine (ftext_bad most hm rb b off cap l (by omega) 10 (.inl ⟨hv, rfl⟩) w h hc).mono ?_
          rintro e w' ⟨rfl, n, m, rfl⟩
          exact ⟨rfl, _, cap, (fin 10 n m).1, (fin 10 n m).2, Near.refl _⟩
        · by_cases hlong : most < val (l.take 2)
          · have e : textS (l, 0) most = ([], 2, (l, 2)) := by unfold textS; rw [if_neg hm, if_neg (by simp), if_neg h2, if_neg hv, if_pos hlong]
            rw [e]
            refine (ftext_bad most hm rb b off cap l (by omega) 2 (.inr ⟨by omega, hlong, rfl⟩) w h hc).mono ?_
            rintro e w' ⟨rfl, n, m, rfl⟩
            exact ⟨rfl, _, cap, (fin 2 n m).1, (fin 2 n m).2, Near.refl _⟩
          · have e : textS (l, 0) most = ((l.drop 2).take (val (l.take 2)), 0, (l.drop (2 + val (l.take 2)), 0)) := by unfold textS; rw [if_neg hm, if_neg (by simp), if_neg h2, if_neg hv, if_neg hlong]
            rw [e]
            refine (ftext_ok most hm rb b off cap l (by omega) (by omega) (by omega) w h hb hc).mono ?_
            rintro e w' ⟨rfl, a', c', hrd, hf, hn⟩
            exact ⟨rfl, a', c', hrd, hf, hn⟩
    · have e : textS (l, err) most = ([], err, (l, err)) := by unfold textS; rw [if_neg hm, if_pos (by simpa using he)]
      rw [e]
      refine (ftext_stop most hm rb a cap l err he w h).mono ?_
      rintro e w' ⟨rfl, rfl⟩
      exact ⟨rfl, a, cap, h.drew, (Fr.refl _ _).drew, Near.refl a⟩
end Go.Proofs.Ytnnaaliadbihkaa
