
/- RefRd3, PgRef2, PgRef3, KPlc, NdBase. -/
import Derived.Test.YtnoadmkkkeianaaGreatYB9
import Derived.Deep.QuietTactic
import Derived.BigQuiet
import Derived.Test.YtnoadmkkkeianaaGreatYB2
import Derived.Test.YtnoadmkkkeianaaGreatYB8
import Derived.Test.YtnoadmkkkeianaaGreatYB1
import Derived.Test.YtnoadmkkkeianaaGreatYB4
/- What the document's own reader does: Text. -/
namespace Go.Proofs.YtnoadmkkkeianaaGreat
open Go.RowKit

set_option maxRecDepth 100000 in
set_option maxHeartbeats 400000 in
theorem ftext_arg (p : Option Addr) (most : Int) (hm : most < 0) (w : World) :
    Calls Tryz.prog 60 #[.pointer p, .int .i64 most] w fun e w' => e = .returned (.tuple #[.string ⟨#[]⟩, .int .i64 1]) ∧ w' = w := by
  go_enter Tryz.func60, Tryz.ntmps60
  go_wp2
  go_ret2
  exact ⟨rfl, rfl⟩
set_option maxRecDepth 100000 in
set_option maxHeartbeats 400000 in
theorem ftext_stop (most : Int) (hm : ¬ most < 0) (rb : Nat) (a : Option Addr) (cap : Nat) (l : List Nat) (err : Int) (herr : ¬ err = 0) (w : World) (h : Rf w rb a cap l err) :
    Calls Tryz.prog 60 #[.pointer (some ⟨rb, 0, none⟩), .int .i64 most] w fun e w' => e = .returned (.tuple #[.string ⟨#[]⟩, .int .i64 err]) ∧ w' = w.drew := by
  obtain ⟨h0, h1, f0, f1⟩ := cell_of_two h.box
  have hne : (err != 0) = true := by simpa using herr
  go_enter Tryz.func60, Tryz.ntmps60
  go_wp2
  go_region
  all_goals
    go_wp2
    go_ret2
    exact ⟨rfl, rfl⟩
set_option maxRecDepth 100000 in
set_option maxHeartbeats 400000 in
theorem ftext_cut0 (most : Int) (hm : ¬ most < 0) (rb : Nat) (a : Option Addr) (cap : Nat) (l : List Nat) (hlen : (l.length : Int) < 2) (w : World) (h : Rf w rb a cap l 0) :
    Calls Tryz.prog 60 #[.pointer (some ⟨rb, 0, none⟩), .int .i64 most] w fun e w' => e = .returned (.tuple #[.string ⟨#[]⟩, .int .i64 10]) ∧ w' = (w.setCell ⟨rb, 1, none⟩ (.int .i64 10)).drew := by
  obtain ⟨h0, h1, f0, f1⟩ := cell_of_two h.box
  go_enter Tryz.func60, Tryz.ntmps60
  go_wp2
  go_region
  all_goals
    go_wp2
    go_ret2
    exact ⟨rfl, rfl⟩

theorem val2 {l : List Nat} (h : 2 ≤ l.length) : val (l.take 2) = l.getD 0 0 + 256 * l.getD 1 0 := by
  match l, h with
  | x :: y :: r, _ => simp [val]

set_option maxRecDepth 100000 in
set_option maxHeartbeats 1000000 in
theorem ftext_bad (most : Int) (hm : ¬ most < 0) (rb b off cap : Nat) (l : List Nat) (hlen : 2 ≤ l.length) (err : Int) (hbad : (l.length < 2 + val (l.take 2) ∧ err = 10) ∨ (2 + val (l.take 2) ≤ l.length ∧ most < val (l.take 2) ∧ err = 2)) (w : World) (h : Rf w rb (some ⟨b, off, none⟩) cap l 0) (hc : ∀ i, i < l.length → w.cell? ⟨b, off + i, none⟩ = some (.int .u8 ((l.getD i 0 : Nat) : Int))) :
    Calls Tryz.prog 60 #[.pointer (some ⟨rb, 0, none⟩), .int .i64 most] w fun e w' => e = .returned (.tuple #[.string ⟨#[]⟩, .int .i64 err]) ∧ ∃ n m, w' = ((w.drewN n).setCell ⟨rb, 1, none⟩ (.int .i64 err)).drewN m := by
  obtain ⟨h0, h1, f0, f1⟩ := cell_of_two h.box
  have hmx := h.row.max
  have hle := h.row.le
  have c0 := hc 0 (by omega)
  have c1 := hc 1 (by omega)
  have x0 := octs_getD h.row.byte 0
  have x1 := octs_getD h.row.byte 1
  rw [val2 hlen] at hbad
  obtain ⟨x, hx⟩ : ∃ x, x = l.getD 0 0 := ⟨_, rfl⟩
  obtain ⟨y, hy⟩ : ∃ x, x = l.getD 1 0 := ⟨_, rfl⟩
  rw [← hx] at c0 x0 hbad
  rw [← hy] at c1 x1 hbad
  rw [Nat.add_zero] at c0
  clear hx hy hc
  have i1 : ¬ (l.length : Int) < 2 := by omega
  have i2 : (0 : Int) < (l.length : Int) := by omega
  have i3 : (1 : Int) < (l.length : Int) := by omega
  rcases hbad with ⟨hb, rfl⟩ | ⟨hb, hb2, rfl⟩
  · have i4 : (l.length : Int) < 2 + ((x : Int) + 256 * (y : Int)) := by omega
    go_enter Tryz.func60, Tryz.ntmps60
    go_wp2
    go_quiet (fail)
    go_wp2
    go_quiet (fail)
    go_wp2
    go_ret2
    exact ⟨rfl, _, _, rfl⟩
  · have i4 : ¬ (l.length : Int) < 2 + ((x : Int) + 256 * (y : Int)) := by omega
    have i5 : most < (x : Int) + 256 * (y : Int) := by omega
    go_enter Tryz.func60, Tryz.ntmps60
    go_wp2
    go_quiet (fail)
    go_wp2
    go_quiet (fail)
    go_wp2
    go_ret2
    exact ⟨rfl, _, _, rfl⟩



set_option maxRecDepth 100000 in
set_option maxHeartbeats 1000000 in
theorem ftext_ok (most : Int) (hm : ¬ most < 0) (rb b off cap : Nat) (l : List Nat) (hlen : 2 + val (l.take 2) ≤ l.length) (h2 : 2 ≤ l.length) (hmost : (val (l.take 2) : Int) ≤ most) (w : World) (h : Rf w rb (some ⟨b, off, none⟩) cap l 0) (hb : b < w.heap.size) (hc : ∀ i, i < l.length → w.cell? ⟨b, off + i, none⟩ = some (.int .u8 ((l.getD i 0 : Nat) : Int))) :
    Calls Tryz.prog 60 #[.pointer (some ⟨rb, 0, none⟩), .int .i64 most] w fun e w' => e = .returned (.tuple #[.string (strOf ((l.drop 2).take (val (l.take 2)))), .int .i64 0]) ∧
      ∃ a' c', Rf w' rb a' c' (l.drop (2 + val (l.take 2))) 0 ∧ Fr (fun k => k = rb) w w' ∧ Near (some ⟨b, off, none⟩) a' := by
  obtain ⟨h0, h1, f0, f1⟩ := cell_of_two h.box
  have hmx := h.row.max
  have hle := h.row.le
  have c0 := hc 0 (by omega)
  have c1 := hc 1 (by omega)
  have x0 := octs_getD h.row.byte 0
  have x1 := octs_getD h.row.byte 1
  have hv2 := val2 h2
  obtain ⟨x, hx⟩ : ∃ x, x = l.getD 0 0 := ⟨_, rfl⟩
  obtain ⟨y, hy⟩ : ∃ x, x = l.getD 1 0 := ⟨_, rfl⟩
  rw [← hx] at c0 x0 hv2
  rw [← hy] at c1 x1 hv2
  rw [Nat.add_zero] at c0
  rw [hv2] at hlen hmost ⊢
  clear hx hy hv2
  have i1 : ¬ (l.length : Int) < 2 := by omega
  have i2 : (0 : Int) < (l.length : Int) := by omega
  have i3 : (1 : Int) < (l.length : Int) := by omega
  have i4 : ¬ (l.length : Int) < 2 + ((x : Int) + 256 * (y : Int)) := by omega
  have i5 : ¬ most < (x : Int) + 256 * (y : Int) := by omega
  have i6 : (2 : Int) + ((x : Int) + 256 * (y : Int)) ≤ (cap : Int) := by omega
  have fq : ∀ n, Fr (fun _ => False) w (w.drewN n) := fun n => (Fr.refl (fun _ => False) w).drewN n
  have hq : ∀ n, Rf (w.drewN n) rb (some ⟨b, off, none⟩) cap l 0 := fun n => ⟨h.box, h.row.same (fq n), h.far⟩
  have hcq : ∀ n i, i < l.length → (w.drewN n).cell? ⟨b, off + i, none⟩ = some (.int .u8 ((l.getD i 0 : Nat) : Int)) := fun n i hi => hc i hi
  have HQ : Hid (∀ n, Rf (w.drewN n) rb (some ⟨b, off, none⟩) cap l 0) := hq
  have HCQ : Hid (∀ n i, i < l.length → (w.drewN n).cell? ⟨b, off + i, none⟩ = some (.int .u8 ((l.getD i 0 : Nat) : Int))) := hcq
  have hvt : x + 256 * y = ((l.drop 2).take (x + 256 * y)).length := by simp; omega
  clear hc hq hcq
  by_cases k2 : cap = 2
  · have hx0 : x = 0 := by omega
    have hy0 : y = 0 := by omega
    subst hx0 hy0
    subst k2
    have el : l.length - 2 = 0 := by omega
    have hcv := fun n => run_str (P := Tryz.prog) (src := 41) (dst := 9) Tryz.underlying41 Tryz.underlying5 Tryz.underlying9 (row_none (w.drewN n) (some ⟨b, off, none⟩)) 0 rfl
    clear hvt fq
    go_enter Tryz.func60, Tryz.ntmps60
    go_wp2
    go_quiet (fail)
    have hadv := (HQ.out nq).advance hb (HCQ.out nq) 2 (by omega) off (.inl rfl)
    rw [el, Nat.sub_self] at hadv
    clear el
    obtain ⟨a', c', q1, q2, q3⟩ := hadv
    have q4 := ((Fr.refl (fun k => k = rb) w).drewN nq).trans q2 (fun _ _ e => e)
    go_wp2
    go_ret2
    first | exact ⟨rfl, a', c', q1, q4, q3⟩ | exact ⟨rfl, a', ⟨c', q1⟩, q4, q3⟩
  · have hrow2 : Row w (some ⟨b, off + 2, none⟩) (cap - 2) (l.drop 2) := h.row.drop 2 (by omega) (off + 2) (.inr rfl) (.inr ⟨hb, fun i hi => HCQ.out 0 i hi⟩)
    have hcv := fun n => run_str (P := Tryz.prog) (src := 41) (dst := 9) Tryz.underlying41 Tryz.underlying5 Tryz.underlying9 ((hrow2.take (x + 256 * y)).same (fq n)) (x + 256 * y) hvt
    clear hvt fq
    by_cases kv : cap = 2 + (x + 256 * y)
    · subst kv
      have ec : 2 + (x + 256 * y) - 2 = x + 256 * y := by omega
      rw [ec] at hcv
      have el : l.length - (2 + (x + 256 * y)) = 0 := by omega
      go_enter Tryz.func60, Tryz.ntmps60
      go_wp2
      go_quiet (fail)
      have hadv := (HQ.out nq).advance hb (HCQ.out nq) (2 + (x + 256 * y)) (by omega) off (.inl rfl)
      rw [el, Nat.sub_self] at hadv
      clear el
      obtain ⟨a', c', q1, q2, q3⟩ := hadv
      have q4 := ((Fr.refl (fun k => k = rb) w).drewN nq).trans q2 (fun _ _ e => e)
      go_wp2
      go_ret2
      first | exact ⟨rfl, a', c', q1, q4, q3⟩ | exact ⟨rfl, a', ⟨c', q1⟩, q4, q3⟩
    · go_enter Tryz.func60, Tryz.ntmps60
      go_wp2
      go_quiet (fail)
      have hadv := (HQ.out nq).advance hb (HCQ.out nq) (2 + (x + 256 * y)) (by omega) (off + (2 + (x + 256 * y))) (.inr rfl)
      obtain ⟨a', c', q1, q2, q3⟩ := hadv
      have q4 := ((Fr.refl (fun k => k = rb) w).drewN nq).trans q2 (fun _ _ e => e)
      go_wp2
      go_ret2
      first | exact ⟨rfl, a', c', q1, q4, q3⟩ | exact ⟨rfl, a', ⟨c', q1⟩, q4, q3⟩

theorem ftext_all (most : Int) (rb : Nat) (a : Option Addr) (cap : Nat) (st : RS) (w : World) (h : Rf w rb a cap st.1 st.2) :
    Calls Tryz.prog 60 #[.pointer (some ⟨rb, 0, none⟩), .int .i64 most] w fun e w' => e = .returned (.tuple #[.string (strOf (textS st most).1), .int .i64 (textS st most).2.1]) ∧
      ∃ a' c', Rf w' rb a' c' (textS st most).2.2.1 (textS st most).2.2.2 ∧ Fr (fun k => k = rb) w w' ∧ Near a a' := by
  obtain ⟨l, err⟩ := st
  by_cases hm : most < 0
  · have e : textS (l, err) most = ([], 1, (l, err)) := by unfold textS; rw [if_pos hm]
    rw [e]
    refine (ftext_arg (some ⟨rb, 0, none⟩) most hm w).mono ?_
    rintro e w' ⟨rfl, rfl⟩
    exact ⟨rfl, a, cap, h, Fr.refl _ _, Near.refl a⟩
  · by_cases he : err = 0
    · subst he
      by_cases h2 : l.length < 2
      · have e : textS (l, 0) most = ([], 10, (l, 10)) := by unfold textS; rw [if_neg hm, if_neg (by simp), if_pos h2]
        rw [e]
        refine (ftext_cut0 most hm rb a cap l (by omega) w h).mono ?_
        rintro e w' ⟨rfl, rfl⟩
        exact ⟨rfl, a, cap, (h.fail 10).1.drew, (h.fail 10).2.drew, Near.refl a⟩
      · obtain ⟨b, off, rfl, hb, hc⟩ : ∃ b off, a = some ⟨b, off, none⟩ ∧ b < w.heap.size ∧ ∀ i, i < l.length → w.cell? ⟨b, off + i, none⟩ = some (.int .u8 ((l.getD i 0 : Nat) : Int)) := by
          rcases h.row.at_ with e | e
          · have e' : l = [] := e
            rw [e'] at h2; simp at h2
          · exact e
        have fin : ∀ (err' : Int) (n m : Nat), Rf (((w.drewN n).setCell ⟨rb, 1, none⟩ (.int .i64 err')).drewN m) rb (some ⟨b, off, none⟩) cap l err' ∧ Fr (fun k => k = rb) w (((w.drewN n).setCell ⟨rb, 1, none⟩ (.int .i64 err')).drewN m) := fun err' n m => by
          have hq : Rf (w.drewN n) rb (some ⟨b, off, none⟩) cap l 0 := ⟨h.box, h.row.same ((Fr.refl (fun _ => False) w).drewN n), h.far⟩
          obtain ⟨r1, r2⟩ := hq.fail err'
          exact ⟨⟨r1.box, r1.row.same ((Fr.refl (fun _ => False) _).drewN m), r1.far⟩, (((Fr.refl (fun k => k = rb) w).drewN n).trans r2 (fun _ _ e => e)).drewN m⟩
        by_cases hv : l.length < 2 + val (l.take 2)
        · have e : textS (l, 0) most = ([], 10, (l, 10)) := by unfold textS; rw [if_neg hm, if_neg (by simp), if_neg h2, if_pos hv]
          rw [e]
          refine (ftext_bad most hm rb b off cap l (by omega) 10 (.inl ⟨hv, rfl⟩) w h hc).mono ?_
          rintro e w' ⟨rfl, n, m, rfl⟩
          exact ⟨rfl, _, cap, (fin 10 n m).1, (fin 10 n m).2, Near.refl _⟩
        · by_cases hlong : most < val (l.take 2)
          · have e : textS (l, 0) most = ([], 2, (l, 2)) := by unfold textS; rw [if_neg hm, if_neg (by simp), if_neg h2, if_neg hv, if_pos hlong]
            rw [e]
            refine (ftext_bad most hm rb b off cap l (by omega) 2 (.inr ⟨by omega, hlong, rfl⟩) w h hc).mono ?_
            rintro e w' ⟨rfl, n, m, rfl⟩
            exact ⟨rfl, _, cap, (fin 2 n m).1, (fin 2 n m).2, Near.refl _⟩
          · have e : textS (l, 0) most = ((l.drop 2).take (val (l.take 2)), 0, (l.drop (2 + val (l.take 2)), 0)) := by unfold textS; rw [if_neg hm, if_neg (by simp), if_neg h2, if_neg hv, if_neg hlong]
            rw [e]
            refine (ftext_ok most hm rb b off cap l (by omega) (by omega) (by omega) w h hb hc).mono ?_
            rintro e w' ⟨rfl, a', c', hrd, hf, hn⟩
            exact ⟨rfl, a', c', hrd, hf, hn⟩
    · have e : textS (l, err) most = ([], err, (l, err)) := by unfold textS; rw [if_neg hm, if_pos (by simpa using he)]
      rw [e]
      refine (ftext_stop most hm rb a cap l err he w h).mono ?_
      rintro e w' ⟨rfl, rfl⟩
      exact ⟨rfl, a, cap, h.drew, (Fr.refl _ _).drew, Near.refl a⟩
end Go.Proofs.YtnoadmkkkeianaaGreat

/- What the document's own Right and Check tell. -/
namespace Go.Proofs.YtnoadmkkkeianaaGreat
open Go.RowKit

set_option maxRecDepth 100000 in
set_option maxHeartbeats 400000 in
theorem rright_a (n : Nd) (pk : Option Addr) (pkc : Nat) (pv : Option Addr) (pvc : Nat) (pi : Option Addr) (pic : Nat) (w : World) (h : n.lev < 0)  :
    Calls Tryz.prog 80 #[(.agg #[.int .i64 n.lev, .int .i64 n.lsn, .int .i64 n.rgt, .string n.high, .slice pk n.keys.length pkc, .slice pv n.vals.length pvc, .slice pi n.kids.length pic])] w fun e w' => e = .returned (.bool false) ∧ Fr (fun _ => False) w w' := by
  have f0 := Fr.box w (.cells #[.int .i64 n.lev, .int .i64 n.lsn, .int .i64 n.rgt, .string n.high, .slice pk n.keys.length pkc, .slice pv n.vals.length pvc, .slice pi n.kids.length pic] 84)
  go_enter Tryz.func80, Tryz.ntmps80
  go_wp2
  go_ret
  exact ⟨rfl, f0⟩
set_option maxRecDepth 100000 in
set_option maxHeartbeats 400000 in
theorem rright_b (n : Nd) (pk : Option Addr) (pkc : Nat) (pv : Option Addr) (pvc : Nat) (pi : Option Addr) (pic : Nat) (w : World) (h : 20 < n.lev) (h0 : ¬ n.lev < 0) :
    Calls Tryz.prog 80 #[(.agg #[.int .i64 n.lev, .int .i64 n.lsn, .int .i64 n.rgt, .string n.high, .slice pk n.keys.length pkc, .slice pv n.vals.length pvc, .slice pi n.kids.length pic])] w fun e w' => e = .returned (.bool false) ∧ Fr (fun _ => False) w w' := by
  have f0 := Fr.box w (.cells #[.int .i64 n.lev, .int .i64 n.lsn, .int .i64 n.rgt, .string n.high, .slice pk n.keys.length pkc, .slice pv n.vals.length pvc, .slice pi n.kids.length pic] 84)
  go_enter Tryz.func80, Tryz.ntmps80
  go_wp2
  go_ret
  exact ⟨rfl, f0⟩
set_option maxRecDepth 100000 in
set_option maxHeartbeats 400000 in
theorem rright_c (n : Nd) (pk : Option Addr) (pkc : Nat) (pv : Option Addr) (pvc : Nat) (pi : Option Addr) (pic : Nat) (w : World) (h : n.lsn < 0) (h0 : ¬ n.lev < 0) (h1 : ¬ 20 < n.lev) :
    Calls Tryz.prog 80 #[(.agg #[.int .i64 n.lev, .int .i64 n.lsn, .int .i64 n.rgt, .string n.high, .slice pk n.keys.length pkc, .slice pv n.vals.length pvc, .slice pi n.kids.length pic])] w fun e w' => e = .returned (.bool false) ∧ Fr (fun _ => False) w w' := by
  have f0 := Fr.box w (.cells #[.int .i64 n.lev, .int .i64 n.lsn, .int .i64 n.rgt, .string n.high, .slice pk n.keys.length pkc, .slice pv n.vals.length pvc, .slice pi n.kids.length pic] 84)
  go_enter Tryz.func80, Tryz.ntmps80
  go_wp2
  go_ret
  exact ⟨rfl, f0⟩
set_option maxRecDepth 100000 in
set_option maxHeartbeats 400000 in
theorem rright_d (n : Nd) (pk : Option Addr) (pkc : Nat) (pv : Option Addr) (pvc : Nat) (pi : Option Addr) (pic : Nat) (w : World) (h : 1099511627776 < n.lsn) (h0 : ¬ n.lev < 0) (h1 : ¬ 20 < n.lev) (h2 : ¬ n.lsn < 0) :
    Calls Tryz.prog 80 #[(.agg #[.int .i64 n.lev, .int .i64 n.lsn, .int .i64 n.rgt, .string n.high, .slice pk n.keys.length pkc, .slice pv n.vals.length pvc, .slice pi n.kids.length pic])] w fun e w' => e = .returned (.bool false) ∧ Fr (fun _ => False) w w' := by
  have f0 := Fr.box w (.cells #[.int .i64 n.lev, .int .i64 n.lsn, .int .i64 n.rgt, .string n.high, .slice pk n.keys.length pkc, .slice pv n.vals.length pvc, .slice pi n.kids.length pic] 84)
  go_enter Tryz.func80, Tryz.ntmps80
  go_wp2
  go_ret
  exact ⟨rfl, f0⟩
set_option maxRecDepth 100000 in
set_option maxHeartbeats 400000 in
theorem rright_e (n : Nd) (pk : Option Addr) (pkc : Nat) (pv : Option Addr) (pvc : Nat) (pi : Option Addr) (pic : Nat) (w : World) (h : n.rgt < 0) (h0 : ¬ n.lev < 0) (h1 : ¬ 20 < n.lev) (h2 : ¬ n.lsn < 0) (h3 : ¬ 1099511627776 < n.lsn) :
    Calls Tryz.prog 80 #[(.agg #[.int .i64 n.lev, .int .i64 n.lsn, .int .i64 n.rgt, .string n.high, .slice pk n.keys.length pkc, .slice pv n.vals.length pvc, .slice pi n.kids.length pic])] w fun e w' => e = .returned (.bool false) ∧ Fr (fun _ => False) w w' := by
  have f0 := Fr.box w (.cells #[.int .i64 n.lev, .int .i64 n.lsn, .int .i64 n.rgt, .string n.high, .slice pk n.keys.length pkc, .slice pv n.vals.length pvc, .slice pi n.kids.length pic] 84)
  go_enter Tryz.func80, Tryz.ntmps80
  go_wp2
  go_ret
  exact ⟨rfl, f0⟩
set_option maxRecDepth 100000 in
set_option maxHeartbeats 400000 in
theorem rright_f (n : Nd) (pk : Option Addr) (pkc : Nat) (pv : Option Addr) (pvc : Nat) (pi : Option Addr) (pic : Nat) (w : World) (h : 4096 < n.rgt) (h0 : ¬ n.lev < 0) (h1 : ¬ 20 < n.lev) (h2 : ¬ n.lsn < 0) (h3 : ¬ 1099511627776 < n.lsn) (h4 : ¬ n.rgt < 0) :
    Calls Tryz.prog 80 #[(.agg #[.int .i64 n.lev, .int .i64 n.lsn, .int .i64 n.rgt, .string n.high, .slice pk n.keys.length pkc, .slice pv n.vals.length pvc, .slice pi n.kids.length pic])] w fun e w' => e = .returned (.bool false) ∧ Fr (fun _ => False) w w' := by
  have f0 := Fr.box w (.cells #[.int .i64 n.lev, .int .i64 n.lsn, .int .i64 n.rgt, .string n.high, .slice pk n.keys.length pkc, .slice pv n.vals.length pvc, .slice pi n.kids.length pic] 84)
  go_enter Tryz.func80, Tryz.ntmps80
  go_wp2
  go_ret
  exact ⟨rfl, f0⟩
set_option maxRecDepth 100000 in
set_option maxHeartbeats 400000 in
theorem rright_g (n : Nd) (pk : Option Addr) (pkc : Nat) (pv : Option Addr) (pvc : Nat) (pi : Option Addr) (pic : Nat) (w : World) (h0 : ¬ n.lev < 0) (h1 : ¬ 20 < n.lev) (h2 : ¬ n.lsn < 0) (h3 : ¬ 1099511627776 < n.lsn) (h4 : ¬ n.rgt < 0) (h5 : ¬ 4096 < n.rgt) (h : 16 < n.high.size) :
    Calls Tryz.prog 80 #[(.agg #[.int .i64 n.lev, .int .i64 n.lsn, .int .i64 n.rgt, .string n.high, .slice pk n.keys.length pkc, .slice pv n.vals.length pvc, .slice pi n.kids.length pic])] w fun e w' => e = .returned (.bool false) ∧ Fr (fun _ => False) w w' := by
  have f0 := Fr.box w (.cells #[.int .i64 n.lev, .int .i64 n.lsn, .int .i64 n.rgt, .string n.high, .slice pk n.keys.length pkc, .slice pv n.vals.length pvc, .slice pi n.kids.length pic] 84)
  have he := bs_not_nil (s := n.high) (by omega)
  have e1 : ekey n.high.size = 50 := ekey_no (.inr h)
  clear h
  go_enter Tryz.func80, Tryz.ntmps80
  go_wp2_with fail
  refine (rcheck_any _ _).mono ?_
  rw [e1]
  rintro e w1 ⟨rfl, rfl⟩
  go_wp2
  go_ret
  exact ⟨rfl, f0⟩
/-- What stands behind the keys is decided by the entries and the size. -/
theorem right_rest {n : Nd} (h1 : headB n = true) (h2 : keysB n = true) : rightB n = (entB n && decide (sizeN n ≤ 256)) := by
  unfold rightB; rw [h1, h2]; simp
theorem right_keys {n : Nd} (h2 : keysB n = false) : rightB n = false := by
  unfold rightB; rw [h2]; simp
theorem right_ent {n : Nd} (h2 : entB n = false) : rightB n = false := by
  unfold rightB; rw [h2]; simp
theorem right_all {n : Nd} (h1 : headB n = true) (h2 : keysB n = true) (h3 : entB n = true) : rightB n = decide (sizeN n ≤ 256) := by
  rw [right_rest h1 h2, h3]; simp
theorem right_is {w : World} {n : Nd} {p : Pt} (h : Nod w n p) (h1 : headB n = true) (h2 : keysB n = true) (h3 : entB n = true) : rightB n = decide (wrap64 ((sizeN n : Nat) : Int) ≤ 256) := by
  rw [right_all h1 h2 h3, wrap_id (small_size h h1 h2 h3), Bool.eq_iff_iff]; simp; omega

set_option maxRecDepth 100000 in
set_option maxHeartbeats 4000000 in
theorem rright_h (n : Nd) (pk : Option Addr) (pkc : Nat) (pv : Option Addr) (pvc : Nat) (pi : Option Addr) (pic : Nat) (w : World) (h0 : ¬ n.lev < 0) (h1 : ¬ 20 < n.lev) (h2 : ¬ n.lsn < 0) (h3 : ¬ 1099511627776 < n.lsn) (h4 : ¬ n.rgt < 0) (h5 : ¬ 4096 < n.rgt) (h : Nod w n ⟨pk, pkc, pv, pvc, pi, pic⟩) (h0 : n.high.size = 0) (H0 : headB n = true) :
    Calls Tryz.prog 80 #[(.agg #[.int .i64 n.lev, .int .i64 n.lsn, .int .i64 n.rgt, .string n.high, .slice pk n.keys.length pkc, .slice pv n.vals.length pvc, .slice pi n.kids.length pic])] w fun e w' => e = .returned (.bool (rightB n)) ∧ Fr (fun _ => False) w w' := by
  have HH0 : Hid (headB n = true) := H0
  clear H0
  have f0 := Fr.box w (.cells #[.int .i64 n.lev, .int .i64 n.lsn, .int .i64 n.rgt, .string n.high, .slice pk n.keys.length pkc, .slice pv n.vals.length pvc, .slice pi n.kids.length pic] 84)
  have hkl := h.klen
  have hvl := h.vlen
  have hil := h.ilen
  have hhi : n.high.size ≤ maxLen := by have := h.high; unfold maxLen; omega
  have hk := (h.same f0).keys
  have hv := (h.same f0).vals
  have hi := (h.same f0).kids
  have hkc := hk.le
  have hkm := hk.max
  have hvc := hv.le
  have hvm := hv.max
  have hic := hi.le
  have him := hi.max
  simp only at hkc hkm hvc hvm hic him
  have HT : Hid (∀ s ∈ n.keys, s.size ≤ maxLen) := h.keys.text
  have he := bs_nil (s := n.high) h0
  have HH : Hid (n.high.size = 0) := h0
  clear h0
  go_enter Tryz.func80, Tryz.ntmps80
  go_wp2
  go_loopw [51] (fun i wr => ∃ k : Nat, k ≤ n.keys.length ∧ i = .int .i64 k ∧ Hid (∀ x, x < k → kok n.high n.keys x) ∧ Fr (fun _ => False) (w.alloc (.cells #[.int .i64 n.lev, .int .i64 n.lsn, .int .i64 n.rgt, .string n.high, .slice pk n.keys.length pkc, .slice pv n.vals.length pvc, .slice pi n.kids.length pic] 84)) wr) (fun i _ => n.keys.length - (intOf i).toNat)
  case atStart => exact ⟨0, by omega, rfl, (fun x hx => by omega), Fr.refl _ _⟩
  case round =>
    obtain ⟨k, hkk, rfl, HE, hf⟩ := hrel
    obtain ⟨c0, c1, c2, c3, c4, c5, c6⟩ := box_cells (p := ⟨pk, pkc, pv, pvc, pi, pic⟩) (box_at w n ⟨pk, pkc, pv, pvc, pi, pic⟩ 84 hf)
    simp only at c4 c5 c6
    by_cases hlt : k < n.keys.length
    · have hr := hk.same hf
      obtain ⟨b, off, ee, hb, hc⟩ := strs_some hr hlt
      have hcell := hc k hlt
      have hsz := HT.out _ (strs_get hlt)
      obtain ⟨s, hs⟩ : ∃ s, s = n.keys.getD k ByteArray.empty := ⟨_, rfl⟩
      rw [← hs] at hcell hsz
      have HS : Hid (s = n.keys.getD k ByteArray.empty) := hs
      have HNO : Hid (¬ kok n.high n.keys k → rightB n = false) := fun h => right_keys (keysB_no k hlt h)
      have hcell2 : 0 < k → wr.cell? ⟨b, off + (k - 1), none⟩ = some (.string (n.keys.getD (k - 1) ByteArray.empty)) := fun _ => hc (k - 1) (by omega)
      have hsz2 : 0 < k → (n.keys.getD (k - 1) ByteArray.empty).size ≤ maxLen := fun _ => HT.out _ (strs_get (by omega))
      obtain ⟨t, ht⟩ : ∃ s, s = n.keys.getD (k - 1) ByteArray.empty := ⟨_, rfl⟩
      rw [← ht] at hcell2 hsz2
      have HTT : Hid (t = n.keys.getD (k - 1) ByteArray.empty) := ht
      clear hs ht hc hr
      subst ee
      by_cases h1 : 1 ≤ s.size ∧ s.size ≤ 16
      · have H1 : Hid (1 ≤ s.size ∧ s.size ≤ 16) := h1
        have e1 : ekey s.size = 0 := ekey_ok (by omega) (by omega)
        clear h1
        go_wp2_with fail
        refine (rcheck_any _ _).mono ?_
        rw [e1]
        rintro e w1 ⟨rfl, rfl⟩
        by_cases k0 : 0 < k
        · have k0' : (0 : Int) < (k : Int) := by omega
          have hc3 := hcell2 k0
          have hs3 := hsz2 k0
          go_wp2_with fail
          refine (rcompare_any t s hs3 hsz _).mono ?_
          rintro e w3 ⟨rfl, f3⟩
          by_cases g1 : 0 ≤ cpl (bsOf t) (bsOf s)
          · go_wp2
            go_ret
            exact ⟨ret_bool (HNO.out (fun h => by have := h.2.1 (by omega); rw [← HS.out, ← HTT.out] at this; omega)).symm, (f0.seq' hf).seq' f3⟩
          · have G1 : Hid (¬ 0 ≤ cpl (bsOf t) (bsOf s)) := g1
            go_wp2
            go_roundw
            case rel =>
              refine ⟨k + 1, by omega, by go_num, fun x hx => ?_, hf.seq' f3⟩
              rcases Nat.lt_or_ge x k with h | h
              · exact HE.out x h
              · have e : x = k := by omega
                rw [e]
                exact ⟨by rw [← HS.out]; exact H1.out, (fun h => by rw [← HS.out, ← HTT.out]; have := G1.out; omega), (fun h => absurd HH.out h)⟩
            case measure => simp [intOf]; omega
        · have k0' : ¬ (0 : Int) < (k : Int) := by omega
          have K0 : Hid (¬ 0 < k) := k0
          go_wp2
          go_roundw
          case rel =>
            refine ⟨k + 1, by omega, by go_num, fun x hx => ?_, hf⟩
            rcases Nat.lt_or_ge x k with h | h
            · exact HE.out x h
            · have e : x = k := by omega
              rw [e]
              exact ⟨by rw [← HS.out]; exact H1.out, (fun h => absurd h K0.out), (fun h => absurd HH.out h)⟩
          case measure => simp [intOf]; omega
      · have H1 : Hid (¬ (1 ≤ s.size ∧ s.size ≤ 16)) := h1
        have e1 : ekey s.size = 50 := ekey_no (by omega)
        clear h1
        go_wp2_with fail
        refine (rcheck_any _ _).mono ?_
        rw [e1]
        rintro e w1 ⟨rfl, rfl⟩
        go_wp2
        go_ret
        exact ⟨ret_bool (HNO.out (fun h => H1.out (by rw [HS.out]; exact h.1))).symm, f0.seq' hf⟩
    · have HK : Hid (keysB n = true) := keysB_yes (fun x hx => HE.out x (by omega))
      clear HE
      by_cases l0 : n.lev = 0
      · have e0 : (n.lev == 0) = true := by simp [l0]
        have HB : Hid (entB n = ((n.vals.length == n.keys.length) && ((n.kids.length == 0) && valsB n.vals))) := by show entB n = _; unfold entB; rw [if_pos l0]
        clear l0
        by_cases a1 : n.vals.length = n.keys.length
        · have a1' : ((n.vals.length : Int) != (n.keys.length : Int)) = false := by simp [a1]
          by_cases a2 : n.kids.length = 0
          · have a2' : ¬ (0 : Int) < (n.kids.length : Int) := by omega
            have HB2 : Hid (entB n = valsB n.vals) := by show _ = _; rw [HB.out]; simp [a1, a2]
            clear a1 a2
            go_wp2
            go_loop [104] (fun i => ∃ j : Nat, j ≤ n.vals.length ∧ i = .int .i64 j ∧ Hid (∀ x, x < j → (n.vals.getD x ByteArray.empty).size ≤ 32)) (fun i => n.vals.length - (intOf i).toNat)
            case atStart => exact ⟨0, by omega, rfl, fun x hx => by omega⟩
            case round =>
              obtain ⟨j, hjj, rfl, HV⟩ := hrel
              by_cases hlj : j < n.vals.length
              · obtain ⟨b, off, ee, hb, hc⟩ := strs_some (hv.same hf) hlj
                have hcell := hc j hlj
                obtain ⟨s, hs⟩ : ∃ s, s = n.vals.getD j ByteArray.empty := ⟨_, rfl⟩
                rw [← hs] at hcell
                have HS : Hid (s = n.vals.getD j ByteArray.empty) := hs
                clear hs hc
                subst ee
                by_cases h1 : s.size ≤ 32
                · have e1 : evalu s.size = 0 := if_neg (by omega)
                  go_wp2_with fail
                  refine (rvalue_any _ _).mono ?_
                  rw [e1]
                  rintro e w1 ⟨rfl, rfl⟩
                  go_wp2
                  go_round
                  case rel =>
                    refine ⟨j + 1, by omega, by go_num, fun x hx => ?_⟩
                    rcases Nat.lt_or_ge x j with h | h
                    · exact HV.out x h
                    · have e : x = j := by omega
                      rw [e, ← HS.out]; omega
                  case measure => simp [intOf]; omega
                · have e1 : evalu s.size = 51 := if_pos (by omega)
                  have HN : Hid (rightB n = false) := right_ent (by rw [HB2.out]; exact valsB_no j hlj (by rw [← HS.out]; exact h1))
                  go_wp2_with fail
                  refine (rvalue_any _ _).mono ?_
                  rw [e1]
                  rintro e w1 ⟨rfl, rfl⟩
                  go_wp2
                  go_ret
                  exact ⟨ret_bool HN.out.symm, f0.seq' hf⟩
              · have HN : Hid (rightB n = decide (wrap64 ((sizeN n : Nat) : Int) ≤ 256)) := right_is h HH0.out HK.out (by rw [HB2.out]; exact valsB_yes (fun x hx => HV.out x (by omega)))
                go_wp2_with fail
                refine (rsize_any0 n pk pkc pv pvc pi pic _ (h.same (f0.seq' hf))).mono ?_
                rintro e w5 ⟨rfl, f5⟩
                go_wp2
                go_ret
                exact ⟨ret_bool HN.out.symm, (f0.seq' hf).seq' f5⟩
          · have a2' : (0 : Int) < (n.kids.length : Int) := by omega
            have HN : Hid (rightB n = false) := right_ent (by rw [HB.out]; simp [a2])
            clear a1 a2
            go_wp2
            go_ret
            exact ⟨ret_bool HN.out.symm, f0.seq' hf⟩
        · have a1' : ((n.vals.length : Int) != (n.keys.length : Int)) = true := by rw [bne_iff_ne]; omega
          have HN : Hid (rightB n = false) := right_ent (by rw [HB.out]; simp [a1])
          clear a1
          go_wp2
          go_ret
          exact ⟨ret_bool HN.out.symm, f0.seq' hf⟩
      · have e0 : (n.lev == 0) = false := by simpa using l0
        have HB : Hid (entB n = ((n.kids.length == n.keys.length + 1) && ((n.vals.length == 0) && kidsB n.kids))) := by show entB n = _; unfold entB; rw [if_neg l0]
        clear l0
        by_cases a1 : n.kids.length = n.keys.length + 1
        · have a1' : ((n.kids.length : Int) != (n.keys.length : Int) + 1) = false := by simp [a1]
          by_cases a2 : n.vals.length = 0
          · have a2' : ¬ (0 : Int) < (n.vals.length : Int) := by omega
            have HB2 : Hid (entB n = kidsB n.kids) := by show _ = _; rw [HB.out]; simp [a1, a2]
            clear a1 a2
            go_wp2
            go_loop [129] (fun i => ∃ j : Nat, j ≤ n.kids.length ∧ i = .int .i64 j ∧ Hid (∀ x, x < j → wthB (n.kids.getD x 0) 1 4096 = true)) (fun i => n.kids.length - (intOf i).toNat)
            case atStart => exact ⟨0, by omega, rfl, fun x hx => by omega⟩
            case round =>
              obtain ⟨j, hjj, rfl, HV⟩ := hrel
              by_cases hlj : j < n.kids.length
              · obtain ⟨b, off, ee, hb, hc⟩ := ints_some (hi.same hf) hlj
                have hcell := hc j hlj
                obtain ⟨s, hs⟩ : ∃ s, s = n.kids.getD j 0 := ⟨_, rfl⟩
                rw [← hs] at hcell
                have HS : Hid (s = n.kids.getD j 0) := hs
                have HNO : Hid (wthB s 1 4096 = false → rightB n = false) := fun h => right_ent (by rw [HB2.out]; exact kidsB_no j hlj (by rw [← hs, h]; simp))
                clear hs hc
                subst ee
                by_cases s1 : s < 1
                · go_wp2
                  go_ret
                  exact ⟨ret_bool (HNO.out (by simp [wthB]; omega)).symm, f0.seq' hf⟩
                · by_cases s2 : 4096 < s
                  · go_wp2
                    go_ret
                    exact ⟨ret_bool (HNO.out (by simp [wthB]; omega)).symm, f0.seq' hf⟩
                  · have S1 : Hid (wthB s 1 4096 = true) := by show wthB s 1 4096 = true; simp [wthB]; omega
                    go_wp2
                    go_round
                    case rel =>
                      refine ⟨j + 1, by omega, by go_num, fun x hx => ?_⟩
                      rcases Nat.lt_or_ge x j with h | h
                      · exact HV.out x h
                      · have e : x = j := by omega
                        rw [e, ← HS.out]; exact S1.out
                    case measure => simp [intOf]; omega
              · have HN : Hid (rightB n = decide (wrap64 ((sizeN n : Nat) : Int) ≤ 256)) := right_is h HH0.out HK.out (by rw [HB2.out]; exact kidsB_yes (fun x hx => HV.out x (by omega)))
                go_wp2_with fail
                refine (rsize_any0 n pk pkc pv pvc pi pic _ (h.same (f0.seq' hf))).mono ?_
                rintro e w5 ⟨rfl, f5⟩
                go_wp2
                go_ret
                exact ⟨ret_bool HN.out.symm, (f0.seq' hf).seq' f5⟩
          · have a2' : (0 : Int) < (n.vals.length : Int) := by omega
            have HN : Hid (rightB n = false) := right_ent (by rw [HB.out]; simp [a2])
            clear a1 a2
            go_wp2
            go_ret
            exact ⟨ret_bool HN.out.symm, f0.seq' hf⟩
        · have a1' : ((n.kids.length : Int) != (n.keys.length : Int) + 1) = true := by rw [bne_iff_ne]; omega
          have HN : Hid (rightB n = false) := right_ent (by rw [HB.out]; simp [a1])
          clear a1
          go_wp2
          go_ret
          exact ⟨ret_bool HN.out.symm, f0.seq' hf⟩
end Go.Proofs.YtnoadmkkkeianaaGreat

/- What the document's own Right and Check tell, of a node with a bound. -/
namespace Go.Proofs.YtnoadmkkkeianaaGreat
open Go.RowKit

set_option maxRecDepth 100000 in
set_option maxHeartbeats 4000000 in
theorem rright_i (n : Nd) (pk : Option Addr) (pkc : Nat) (pv : Option Addr) (pvc : Nat) (pi : Option Addr) (pic : Nat) (w : World) (h0 : ¬ n.lev < 0) (h1 : ¬ 20 < n.lev) (h2 : ¬ n.lsn < 0) (h3 : ¬ 1099511627776 < n.lsn) (h4 : ¬ n.rgt < 0) (h5 : ¬ 4096 < n.rgt) (h : Nod w n ⟨pk, pkc, pv, pvc, pi, pic⟩) (h0 : n.high.size ≠ 0) (h16 : n.high.size ≤ 16) (H0 : headB n = true) :
    Calls Tryz.prog 80 #[(.agg #[.int .i64 n.lev, .int .i64 n.lsn, .int .i64 n.rgt, .string n.high, .slice pk n.keys.length pkc, .slice pv n.vals.length pvc, .slice pi n.kids.length pic])] w fun e w' => e = .returned (.bool (rightB n)) ∧ Fr (fun _ => False) w w' := by
  have HH0 : Hid (headB n = true) := H0
  clear H0
  have f0 := Fr.box w (.cells #[.int .i64 n.lev, .int .i64 n.lsn, .int .i64 n.rgt, .string n.high, .slice pk n.keys.length pkc, .slice pv n.vals.length pvc, .slice pi n.kids.length pic] 84)
  have hkl := h.klen
  have hvl := h.vlen
  have hil := h.ilen
  have hhi : n.high.size ≤ maxLen := by have := h.high; unfold maxLen; omega
  have hk := (h.same f0).keys
  have hv := (h.same f0).vals
  have hi := (h.same f0).kids
  have hkc := hk.le
  have hkm := hk.max
  have hvc := hv.le
  have hvm := hv.max
  have hic := hi.le
  have him := hi.max
  simp only at hkc hkm hvc hvm hic him
  have HT : Hid (∀ s ∈ n.keys, s.size ≤ maxLen) := h.keys.text
  have he := bs_not_nil (s := n.high) h0
  have HH : Hid (n.high.size ≠ 0) := h0
  have e1 : ekey n.high.size = 0 := ekey_ok h0 h16
  clear h0
  go_enter Tryz.func80, Tryz.ntmps80
  go_wp2_with fail
  refine (rcheck_any _ _).mono ?_
  rw [e1]
  rintro e w1 ⟨rfl, rfl⟩
  go_wp2
  go_loopw [51] (fun i wr => ∃ k : Nat, k ≤ n.keys.length ∧ i = .int .i64 k ∧ Hid (∀ x, x < k → kok n.high n.keys x) ∧ Fr (fun _ => False) (w.alloc (.cells #[.int .i64 n.lev, .int .i64 n.lsn, .int .i64 n.rgt, .string n.high, .slice pk n.keys.length pkc, .slice pv n.vals.length pvc, .slice pi n.kids.length pic] 84)) wr) (fun i _ => n.keys.length - (intOf i).toNat)
  case atStart => exact ⟨0, by omega, rfl, (fun x hx => by omega), Fr.refl _ _⟩
  case round =>
    obtain ⟨k, hkk, rfl, HE, hf⟩ := hrel
    obtain ⟨c0, c1, c2, c3, c4, c5, c6⟩ := box_cells (p := ⟨pk, pkc, pv, pvc, pi, pic⟩) (box_at w n ⟨pk, pkc, pv, pvc, pi, pic⟩ 84 hf)
    simp only at c4 c5 c6
    by_cases hlt : k < n.keys.length
    · have hr := hk.same hf
      obtain ⟨b, off, ee, hb, hc⟩ := strs_some hr hlt
      have hcell := hc k hlt
      have hsz := HT.out _ (strs_get hlt)
      obtain ⟨s, hs⟩ : ∃ s, s = n.keys.getD k ByteArray.empty := ⟨_, rfl⟩
      rw [← hs] at hcell hsz
      have HS : Hid (s = n.keys.getD k ByteArray.empty) := hs
      have HNO : Hid (¬ kok n.high n.keys k → rightB n = false) := fun h => right_keys (keysB_no k hlt h)
      have hcell2 : 0 < k → wr.cell? ⟨b, off + (k - 1), none⟩ = some (.string (n.keys.getD (k - 1) ByteArray.empty)) := fun _ => hc (k - 1) (by omega)
      have hsz2 : 0 < k → (n.keys.getD (k - 1) ByteArray.empty).size ≤ maxLen := fun _ => HT.out _ (strs_get (by omega))
      obtain ⟨t, ht⟩ : ∃ s, s = n.keys.getD (k - 1) ByteArray.empty := ⟨_, rfl⟩
      rw [← ht] at hcell2 hsz2
      have HTT : Hid (t = n.keys.getD (k - 1) ByteArray.empty) := ht
      clear hs ht hc hr
      subst ee
      by_cases h1 : 1 ≤ s.size ∧ s.size ≤ 16
      · have H1 : Hid (1 ≤ s.size ∧ s.size ≤ 16) := h1
        have e1 : ekey s.size = 0 := ekey_ok (by omega) (by omega)
        clear h1
        go_wp2_with fail
        refine (rcheck_any _ _).mono ?_
        rw [e1]
        rintro e w1 ⟨rfl, rfl⟩
        go_wp2_with fail
        refine (rcompare_any s n.high hsz hhi _).mono ?_
        rintro e w2 ⟨rfl, f2⟩
        have c4' := (f2.cell (p := ⟨w.heap.size, 4, none⟩) (by have := hf.size; simp at this; show w.heap.size < _; omega) (fun f => f)).trans c4
        have hcell3 := fun q => (f2.cell (p := ⟨b, off + (k - 1), none⟩) hb (fun f => f)).trans (hcell2 q)
        by_cases g0 : 0 ≤ cpl (bsOf s) (bsOf n.high)
        · go_wp2
          go_ret
          exact ⟨ret_bool (HNO.out (fun h => by have := h.2.2 HH.out; rw [← HS.out] at this; omega)).symm, (f0.seq' hf).seq' f2⟩
        · have G0 : Hid (¬ 0 ≤ cpl (bsOf s) (bsOf n.high)) := g0
          by_cases k0 : 0 < k
          · have k0' : (0 : Int) < (k : Int) := by omega
            have hc3 := hcell3 k0
            have hs3 := hsz2 k0
            go_wp2_with fail
            refine (rcompare_any t s hs3 hsz _).mono ?_
            rintro e w3 ⟨rfl, f3⟩
            by_cases g1 : 0 ≤ cpl (bsOf t) (bsOf s)
            · go_wp2
              go_ret
              exact ⟨ret_bool (HNO.out (fun h => by have := h.2.1 (by omega); rw [← HS.out, ← HTT.out] at this; omega)).symm, ((f0.seq' hf).seq' f2).seq' f3⟩
            · have G1 : Hid (¬ 0 ≤ cpl (bsOf t) (bsOf s)) := g1
              go_wp2
              go_roundw
              case rel =>
                refine ⟨k + 1, by omega, by go_num, fun x hx => ?_, (hf.seq' f2).seq' f3⟩
                rcases Nat.lt_or_ge x k with h | h
                · exact HE.out x h
                · have e : x = k := by omega
                  rw [e]
                  exact ⟨by rw [← HS.out]; exact H1.out, (fun h => by rw [← HS.out, ← HTT.out]; have := G1.out; omega), (fun h => by rw [← HS.out]; have := G0.out; omega)⟩
              case measure => simp [intOf]; omega
          · have k0' : ¬ (0 : Int) < (k : Int) := by omega
            have K0 : Hid (¬ 0 < k) := k0
            go_wp2
            go_roundw
            case rel =>
              refine ⟨k + 1, by omega, by go_num, fun x hx => ?_, (hf.seq' f2)⟩
              rcases Nat.lt_or_ge x k with h | h
              · exact HE.out x h
              · have e : x = k := by omega
                rw [e]
                exact ⟨by rw [← HS.out]; exact H1.out, (fun h => absurd h K0.out), (fun h => by rw [← HS.out]; have := G0.out; omega)⟩
            case measure => simp [intOf]; omega
      · have H1 : Hid (¬ (1 ≤ s.size ∧ s.size ≤ 16)) := h1
        have e1 : ekey s.size = 50 := ekey_no (by omega)
        clear h1
        go_wp2_with fail
        refine (rcheck_any _ _).mono ?_
        rw [e1]
        rintro e w1 ⟨rfl, rfl⟩
        go_wp2
        go_ret
        exact ⟨ret_bool (HNO.out (fun h => H1.out (by rw [HS.out]; exact h.1))).symm, f0.seq' hf⟩
    · have HK : Hid (keysB n = true) := keysB_yes (fun x hx => HE.out x (by omega))
      clear HE
      by_cases l0 : n.lev = 0
      · have e0 : (n.lev == 0) = true := by simp [l0]
        have HB : Hid (entB n = ((n.vals.length == n.keys.length) && ((n.kids.length == 0) && valsB n.vals))) := by show entB n = _; unfold entB; rw [if_pos l0]
        clear l0
        by_cases a1 : n.vals.length = n.keys.length
        · have a1' : ((n.vals.length : Int) != (n.keys.length : Int)) = false := by simp [a1]
          by_cases a2 : n.kids.length = 0
          · have a2' : ¬ (0 : Int) < (n.kids.length : Int) := by omega
            have HB2 : Hid (entB n = valsB n.vals) := by show _ = _; rw [HB.out]; simp [a1, a2]
            clear a1 a2
            go_wp2
            go_loop [104] (fun i => ∃ j : Nat, j ≤ n.vals.length ∧ i = .int .i64 j ∧ Hid (∀ x, x < j → (n.vals.getD x ByteArray.empty).size ≤ 32)) (fun i => n.vals.length - (intOf i).toNat)
            case atStart => exact ⟨0, by omega, rfl, fun x hx => by omega⟩
            case round =>
              obtain ⟨j, hjj, rfl, HV⟩ := hrel
              by_cases hlj : j < n.vals.length
              · obtain ⟨b, off, ee, hb, hc⟩ := strs_some (hv.same hf) hlj
                have hcell := hc j hlj
                obtain ⟨s, hs⟩ : ∃ s, s = n.vals.getD j ByteArray.empty := ⟨_, rfl⟩
                rw [← hs] at hcell
                have HS : Hid (s = n.vals.getD j ByteArray.empty) := hs
                clear hs hc
                subst ee
                by_cases h1 : s.size ≤ 32
                · have e1 : evalu s.size = 0 := if_neg (by omega)
                  go_wp2_with fail
                  refine (rvalue_any _ _).mono ?_
                  rw [e1]
                  rintro e w1 ⟨rfl, rfl⟩
                  go_wp2
                  go_round
                  case rel =>
                    refine ⟨j + 1, by omega, by go_num, fun x hx => ?_⟩
                    rcases Nat.lt_or_ge x j with h | h
                    · exact HV.out x h
                    · have e : x = j := by omega
                      rw [e, ← HS.out]; omega
                  case measure => simp [intOf]; omega
                · have e1 : evalu s.size = 51 := if_pos (by omega)
                  have HN : Hid (rightB n = false) := right_ent (by rw [HB2.out]; exact valsB_no j hlj (by rw [← HS.out]; exact h1))
                  go_wp2_with fail
                  refine (rvalue_any _ _).mono ?_
                  rw [e1]
                  rintro e w1 ⟨rfl, rfl⟩
                  go_wp2
                  go_ret
                  exact ⟨ret_bool HN.out.symm, f0.seq' hf⟩
              · have HN : Hid (rightB n = decide (wrap64 ((sizeN n : Nat) : Int) ≤ 256)) := right_is h HH0.out HK.out (by rw [HB2.out]; exact valsB_yes (fun x hx => HV.out x (by omega)))
                go_wp2_with fail
                refine (rsize_any0 n pk pkc pv pvc pi pic _ (h.same (f0.seq' hf))).mono ?_
                rintro e w5 ⟨rfl, f5⟩
                go_wp2
                go_ret
                exact ⟨ret_bool HN.out.symm, (f0.seq' hf).seq' f5⟩
          · have a2' : (0 : Int) < (n.kids.length : Int) := by omega
            have HN : Hid (rightB n = false) := right_ent (by rw [HB.out]; simp [a2])
            clear a1 a2
            go_wp2
            go_ret
            exact ⟨ret_bool HN.out.symm, f0.seq' hf⟩
        · have a1' : ((n.vals.length : Int) != (n.keys.length : Int)) = true := by rw [bne_iff_ne]; omega
          have HN : Hid (rightB n = false) := right_ent (by rw [HB.out]; simp [a1])
          clear a1
          go_wp2
          go_ret
          exact ⟨ret_bool HN.out.symm, f0.seq' hf⟩
      · have e0 : (n.lev == 0) = false := by simpa using l0
        have HB : Hid (entB n = ((n.kids.length == n.keys.length + 1) && ((n.vals.length == 0) && kidsB n.kids))) := by show entB n = _; unfold entB; rw [if_neg l0]
        clear l0
        by_cases a1 : n.kids.length = n.keys.length + 1
        · have a1' : ((n.kids.length : Int) != (n.keys.length : Int) + 1) = false := by simp [a1]
          by_cases a2 : n.vals.length = 0
          · have a2' : ¬ (0 : Int) < (n.vals.length : Int) := by omega
            have HB2 : Hid (entB n = kidsB n.kids) := by show _ = _; rw [HB.out]; simp [a1, a2]
            clear a1 a2
            go_wp2
            go_loop [129] (fun i => ∃ j : Nat, j ≤ n.kids.length ∧ i = .int .i64 j ∧ Hid (∀ x, x < j → wthB (n.kids.getD x 0) 1 4096 = true)) (fun i => n.kids.length - (intOf i).toNat)
            case atStart => exact ⟨0, by omega, rfl, fun x hx => by omega⟩
            case round =>
              obtain ⟨j, hjj, rfl, HV⟩ := hrel
              by_cases hlj : j < n.kids.length
              · obtain ⟨b, off, ee, hb, hc⟩ := ints_some (hi.same hf) hlj
                have hcell := hc j hlj
                obtain ⟨s, hs⟩ : ∃ s, s = n.kids.getD j 0 := ⟨_, rfl⟩
                rw [← hs] at hcell
                have HS : Hid (s = n.kids.getD j 0) := hs
                have HNO : Hid (wthB s 1 4096 = false → rightB n = false) := fun h => right_ent (by rw [HB2.out]; exact kidsB_no j hlj (by rw [← hs, h]; simp))
                clear hs hc
                subst ee
                by_cases s1 : s < 1
                · go_wp2
                  go_ret
                  exact ⟨ret_bool (HNO.out (by simp [wthB]; omega)).symm, f0.seq' hf⟩
                · by_cases s2 : 4096 < s
                  · go_wp2
                    go_ret
                    exact ⟨ret_bool (HNO.out (by simp [wthB]; omega)).symm, f0.seq' hf⟩
                  · have S1 : Hid (wthB s 1 4096 = true) := by show wthB s 1 4096 = true; simp [wthB]; omega
                    go_wp2
                    go_round
                    case rel =>
                      refine ⟨j + 1, by omega, by go_num, fun x hx => ?_⟩
                      rcases Nat.lt_or_ge x j with h | h
                      · exact HV.out x h
                      · have e : x = j := by omega
                        rw [e, ← HS.out]; exact S1.out
                    case measure => simp [intOf]; omega
              · have HN : Hid (rightB n = decide (wrap64 ((sizeN n : Nat) : Int) ≤ 256)) := right_is h HH0.out HK.out (by rw [HB2.out]; exact kidsB_yes (fun x hx => HV.out x (by omega)))
                go_wp2_with fail
                refine (rsize_any0 n pk pkc pv pvc pi pic _ (h.same (f0.seq' hf))).mono ?_
                rintro e w5 ⟨rfl, f5⟩
                go_wp2
                go_ret
                exact ⟨ret_bool HN.out.symm, (f0.seq' hf).seq' f5⟩
          · have a2' : (0 : Int) < (n.vals.length : Int) := by omega
            have HN : Hid (rightB n = false) := right_ent (by rw [HB.out]; simp [a2])
            clear a1 a2
            go_wp2
            go_ret
            exact ⟨ret_bool HN.out.symm, f0.seq' hf⟩
        · have a1' : ((n.kids.length : Int) != (n.keys.length : Int) + 1) = true := by rw [bne_iff_ne]; omega
          have HN : Hid (rightB n = false) := right_ent (by rw [HB.out]; simp [a1])
          clear a1
          go_wp2
          go_ret
          exact ⟨ret_bool HN.out.symm, f0.seq' hf⟩

theorem rright_any (n : Nd) (p : Pt) (w : World) (h : Nod w n p) : Calls Tryz.prog 80 #[(.agg #[.int .i64 n.lev, .int .i64 n.lsn, .int .i64 n.rgt, .string n.high, .slice p.k n.keys.length p.kc, .slice p.v n.vals.length p.vc, .slice p.i n.kids.length p.ic])] w fun e w' => e = .returned (.bool (rightB n)) ∧ Fr (fun _ => False) w w' := by
  have nh : headB n = false → rightB n = false := fun e => by unfold rightB; rw [e]; rfl
  by_cases a0 : n.lev < 0
  · rw [nh (by simp [headB, wthB]; omega)]; exact rright_a n p.k p.kc p.v p.vc p.i p.ic w a0
  by_cases a1 : 20 < n.lev
  · rw [nh (by simp [headB, wthB]; omega)]; exact rright_b n p.k p.kc p.v p.vc p.i p.ic w a1 a0
  by_cases a2 : n.lsn < 0
  · rw [nh (by simp [headB, wthB]; omega)]; exact rright_c n p.k p.kc p.v p.vc p.i p.ic w a2 a0 a1
  by_cases a3 : 1099511627776 < n.lsn
  · rw [nh (by simp [headB, wthB]; omega)]; exact rright_d n p.k p.kc p.v p.vc p.i p.ic w a3 a0 a1 a2
  by_cases a4 : n.rgt < 0
  · rw [nh (by simp [headB, wthB]; omega)]; exact rright_e n p.k p.kc p.v p.vc p.i p.ic w a4 a0 a1 a2 a3
  by_cases a5 : 4096 < n.rgt
  · rw [nh (by simp [headB, wthB]; omega)]; exact rright_f n p.k p.kc p.v p.vc p.i p.ic w a5 a0 a1 a2 a3 a4
  by_cases a6 : 16 < n.high.size
  · rw [nh (by simp [headB, wthB]; omega)]; exact rright_g n p.k p.kc p.v p.vc p.i p.ic w a0 a1 a2 a3 a4 a5 a6
  have hh : headB n = true := by simp [headB, wthB]; omega
  by_cases a7 : n.high.size = 0
  · exact rright_h n p.k p.kc p.v p.vc p.i p.ic w a0 a1 a2 a3 a4 a5 h a7 hh
  · exact rright_i n p.k p.kc p.v p.vc p.i p.ic w a0 a1 a2 a3 a4 a5 h a7 (by omega) hh

end Go.Proofs.YtnoadmkkkeianaaGreat

/- What key.Place tells, and what the document's own Place tells; that key speaks. -/
namespace Go.Proofs.YtnoadmkkkeianaaGreat
open Go.RowKit

/-- Where a text stands in a list. -/
def plc (k : List Nat) : List ByteArray → Nat × Bool
  | [] => (0, false)
  | x :: r => if 0 ≤ cpl (bsOf x) k then (0, decide (bsOf x = k)) else ((plc k r).1 + 1, (plc k r).2)
theorem plc_hit (k : List Nat) (l : List ByteArray) (i : Nat) (hi : i < l.length) (he : ∀ j, j < i → cpl (bsOf (l.getD j ByteArray.empty)) k < 0) (h : 0 ≤ cpl (bsOf (l.getD i ByteArray.empty)) k) : plc k l = (i, decide (bsOf (l.getD i ByteArray.empty) = k)) := by
  induction l generalizing i with
  | nil => simp at hi
  | cons x r ih => cases i with
    | zero => simp at h; simp [plc, h]
    | succ i =>
      have h0 := he 0 (by omega)
      simp at h0
      have := ih i (by simpa using hi) (fun j hj => by have := he (j + 1) (by omega); simpa using this) (by simpa using h)
      simp only [plc]
      rw [if_neg (by omega), this]
      simp
theorem plc_miss (k : List Nat) (l : List ByteArray) (he : ∀ j, j < l.length → cpl (bsOf (l.getD j ByteArray.empty)) k < 0) : plc k l = (l.length, false) := by
  induction l with
  | nil => rfl
  | cons x r ih =>
    have h0 := he 0 (by simp)
    simp at h0
    simp only [plc]
    rw [if_neg (by omega), ih (fun j hj => by have := he (j + 1) (by simpa using hj); simpa using this)]
    simp
theorem ret_ib {a b : Int} {x y : Bool} (h : a = b) (k : x = y) : Ending.returned (.tuple #[.int .i64 a, .bool x]) = .returned (.tuple #[.int .i64 b, .bool y]) := by rw [h, k]
theorem cpl_beq (a b : List Nat) : (cpl a b == 0) = decide (a = b) := by
  have := cpl_eq a b
  rw [Bool.eq_iff_iff]; simp [this]
theorem str_beq (a b : ByteArray) : (a.toList == b.toList) = decide (bsOf a = bsOf b) := by
  rw [Bool.eq_iff_iff]
  simp only [beq_iff_eq, decide_eq_true_eq]
  rw [Lib.toList_data, Lib.toList_data]
  constructor
  · intro h; unfold bsOf; rw [h]
  · intro h; rw [bs_inj h]

end Go.Proofs.YtnoadmkkkeianaaGreat

/- What is asked of a node and a key ahead of each call; what the small functions of layer 7 answer. -/
namespace Go.Proofs.YtnoadmkkkeianaaGreat
open Go.RowKit

/-- Whether a key belongs further right. -/
def fthB (n : Nd) (k : ByteArray) : Bool := decide (n.high.size ≠ 0) && decide (cpl (bsOf n.high) (bsOf k) ≤ 0)
/-- The errors. -/
def rgE (n : Nd) : Int := if rightB n = true then 0 else 70
def nuE (x : Int) : Int := if 1 ≤ x ∧ x ≤ 4096 then 0 else 1
def suE (n : Nd) (k : ByteArray) (want : Int) : Int := if (want = 1 ∧ n.lev ≠ 0) ∨ (want = 2 ∧ n.lev = 0) then 7 else if fthB n k = true then 71 else 0
def firstE : List Int → Int
  | [] => 0
  | x :: r => if x = 0 then firstE r else x
theorem firstE_zero (r : List Int) : firstE (0 :: r) = firstE r := by simp [firstE]
theorem firstE_skip (a : Int) (r s : List Int) (h : firstE r = firstE s) : firstE (a :: r) = firstE (a :: s) := by simp only [firstE]; rw [h]
/-- The error of a call. -/
def askE (n : Nd) (k : ByteArray) (ev en want : Int) : Int := firstE [rgE n, ekey k.size, ev, en, suE n k want]
theorem ask_3 (n : Nd) (k : ByteArray) (want : Int) : firstE [rgE n, ekey k.size, suE n k want] = askE n k 0 0 want := by
  unfold askE
  refine firstE_skip _ _ _ (firstE_skip _ _ _ ?_)
  rw [firstE_zero, firstE_zero]
theorem ask_v (n : Nd) (k : ByteArray) (ev want : Int) : firstE [rgE n, ekey k.size, ev, suE n k want] = askE n k ev 0 want := by
  unfold askE
  refine firstE_skip _ _ _ (firstE_skip _ _ _ (firstE_skip _ _ _ ?_))
  rw [firstE_zero]
theorem ask_n (n : Nd) (k : ByteArray) (en want : Int) : firstE [rgE n, ekey k.size, en, suE n k want] = askE n k 0 en want := by
  unfold askE
  refine firstE_skip _ _ _ (firstE_skip _ _ _ ?_)
  rw [firstE_zero]
/-- What stands behind a call that is right. -/
theorem ask_ok {n : Nd} {k : ByteArray} {ev en want : Int} (h : askE n k ev en want = 0) : Rt n ∧ (k.size ≠ 0 ∧ k.size ≤ 16) ∧ ev = 0 ∧ en = 0 ∧ ¬ ((want = 1 ∧ n.lev ≠ 0) ∨ (want = 2 ∧ n.lev = 0)) ∧ fthB n k = false := by
  unfold askE at h
  simp only [firstE] at h
  have h1 : rgE n = 0 := by
    by_cases e : rgE n = 0
    · exact e
    · rw [if_neg e] at h; exact h
  rw [if_pos h1] at h
  have h2 : (ekey k.size : Int) = 0 := by
    by_cases e : (ekey k.size : Int) = 0
    · exact e
    · rw [if_neg e] at h; exact h
  rw [if_pos h2] at h
  have h3 : ev = 0 := by
    by_cases e : ev = 0
    · exact e
    · rw [if_neg e] at h; exact h
  rw [if_pos h3] at h
  have h4 : en = 0 := by
    by_cases e : en = 0
    · exact e
    · rw [if_neg e] at h; exact h
  rw [if_pos h4] at h
  have h5 : suE n k want = 0 := by
    by_cases e : suE n k want = 0
    · exact e
    · rw [if_neg e] at h; exact h
  refine ⟨?_, ?_, h3, h4, ?_, ?_⟩
  · unfold rgE at h1
    refine (right_iff n).1 ?_
    by_cases e : rightB n = true
    · exact e
    · rw [if_neg e] at h1; omega
  · unfold ekey at h2
    by_cases e : k.size = 0 ∨ 16 < k.size
    · rw [if_pos e] at h2; omega
    · omega
  · intro e
    unfold suE at h5
    rw [if_pos e] at h5; omega
  · unfold suE at h5
    by_cases e : (want = 1 ∧ n.lev ≠ 0) ∨ (want = 2 ∧ n.lev = 0)
    · rw [if_pos e] at h5; omega
    · rw [if_neg e] at h5
      cases hf : fthB n k
      · rfl
      · rw [hf, if_pos rfl] at h5; omega

end Go.Proofs.YtnoadmkkkeianaaGreat
