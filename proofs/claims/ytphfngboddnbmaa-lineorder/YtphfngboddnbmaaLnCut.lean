
/- Marks that are copied; a timeline that is cut. -/
import Derived.Test.YtphfngboddnbmaaLnRFk
namespace Go.Proofs.Ytphfngboddnbmaa
open Go.RowKit
open Go.Proofs.Ytphfngboddnbmaa.Ln

theorem has_emptyM (w : World) (size : Nat) (e : TypeId) : Has (w.alloc (.cells #[] e)) size (.slice (some ⟨w.heap.size, 0, none⟩) 0 0) 0 [] :=
  ⟨by simp, .inr ⟨_, _, rfl, by simp, Nat.le_refl _, by decide, (fun j hj => by omega), (fun j v hv => by cases hv)⟩⟩
theorem Two.keep {w : World} {b b' : Nat} {t : TypeId} {x y : Value} (h : Two w b t x y) (hne : b ≠ b') (u v : Value) : Two ((w.setCell ⟨b', 0, none⟩ u).setCell ⟨b', 1, none⟩ v) b t x y :=
  h.fr (((Fr.refl (fun i => i = b') w).setCell (p := ⟨b', 0, none⟩) (fun _ => rfl) u).setCell (p := ⟨b', 1, none⟩) (fun _ => rfl) v) hne
theorem Two.fst {w : World} {b : Nat} {t : TypeId} {x y : Value} (h : Two w b t x y) : w.cell? ⟨b, 0, none⟩ = some x ∧ w.cell? ⟨b, 1, none⟩ = some y := ⟨h.cells.1, h.cells.2.1⟩
/-- Marks that a call made. -/
def MkOut (w : World) (ms : List Mk) (e : Ending) (w' : World) : Prop := ∃ a c, e = .returned (.slice a ms.length c) ∧ Has w' 2 (.slice a ms.length c) ms.length (ms.flatMap mkC) ∧ Fr (fun _ => False) w w' ∧ ∀ k, (Value.slice a ms.length c).ownBlock = some k → w.heap.size ≤ k
set_option maxRecDepth 100000 in
set_option maxHeartbeats 1000000 in
theorem cloneM (a : Option Addr) (n c : Nat) (ms : List Mk) (w : World) (h : Mks w a c ms) (hn : n = ms.length) (hs : ms.length ≤ 1099511627776) : Calls Try.prog 31 #[.slice a n c] w fun e w' => MkOut w ms e w' := by
  obtain ⟨i0, hi, hz0, hz1, hz2⟩ := info_parts infoMark
  have hq := fun W => Lib.run_eql_slice_nil (P := Try.prog) W 22 53 a n c 0 0 Try.underlying22
  have hsl : (ms.flatMap mkC).length = ms.length * 2 := mkCs_len ms
  cases a with
  | none =>
    have hl : ms = [] := by
      rcases h.at_ with h | ⟨_, _, h, _⟩
      · exact h
      · cases h
    subst hl
    obtain rfl : n = 0 := by simpa using hn
    clear hn hsl hs h
    go_enter Try.func31, Try.ntmps31
    go_wp2
    go_ret
    exact ⟨none, 0, rfl, Has.nil _ _, Fr.refl _ _, fun k hk => by cases hk⟩
  | some x =>
    have HE : Hid (Has (w.alloc (.cells #[] 53)) 2 (.slice (some ⟨w.heap.size, 0, none⟩) 0 0) 0 []) := has_emptyM w 2 _
    have f1 : Fr (fun _ => False) w (w.alloc (.cells #[] 53)) := (Fr.refl _ _).alloc _
    have hr1 := (h.same f1).from
    have HN : Hid (n = ms.length) := hn
    have HSL : Hid ((ms.flatMap mkC).length = ms.length * 2) := hsl
    have hs' : n ≤ 1099511627776 := by omega
    clear hn hs hsl h
    go_enter Try.func31, Try.ntmps31
    go_wp2_with (at_builtin; refine wpList_append_has _ rfl _ _ 22 22 53 53 rfl i0 _ 2 16 Try.underlying22 Try.underlying22 hi hz0 hz1 hz2 rfl (by omega) (.slice (some ⟨w.heap.size, 0, none⟩) 0 0) 0 [] rfl HE.out (some x) n c (ms.flatMap mkC) rfl (by rw [HSL.out, HN.out]) hr1 (mkCs_one ms) (by unfold maxLen; omega) (by omega) ?_; intro am cm w2 hown hfr hat)
    go_ret
    rw [Nat.zero_add, List.nil_append] at hown
    rw [Nat.zero_add] at hat
    rw [HN.out] at hown hat
    have F : Fr (fun _ => False) w w2 := f1.trans hfr (by
      rintro i hi ⟨e, _⟩
      simp [Value.ownBlock] at e
      omega)
    have hnew : ∀ k, (Value.slice am ms.length cm).ownBlock = some k → w.heap.size ≤ k := fun k hk => by
      rw [hk] at hat
      rcases hat with e | e <;> simp [Value.ownBlock] at e <;> omega
    exact ⟨am, cm, by rw [← HN.out]; rfl, hown, F, hnew⟩
/-- A timeline that a call made. -/
def LnOut (w : World) (ms : List Mk) (last E : Int) (e : Ending) (w' : World) : Prop := ∃ a c, e = .returned (.tuple #[.agg #[.slice a ms.length c, .int .i64 last], .int .i64 E]) ∧ Mks w' a c ms ∧ Fr (fun _ => False) w w'
def cutM (ms : List Mk) (last x : Int) : List Mk := if linB ms last then (if 0 ≤ x ∧ x ≤ last then ms.filter (fun m => decide (m.2 ≤ x)) else []) else []
def cutL (ms : List Mk) (last x : Int) : Int := if linB ms last then (if 0 ≤ x ∧ x ≤ last then x else 0) else 0
theorem cut_no {ms : List Mk} {last x : Int} (h : linB ms last = false) : cutM ms last x = [] ∧ cutL ms last x = 0 := by unfold cutM cutL; rw [h]; exact ⟨rfl, rfl⟩
theorem cut_out {ms : List Mk} {last x : Int} (h : linB ms last = true) (hx : ¬ (0 ≤ x ∧ x ≤ last)) : cutM ms last x = [] ∧ cutL ms last x = 0 := by unfold cutM cutL; rw [h, if_neg hx, if_neg hx]; exact ⟨rfl, rfl⟩
theorem cut_in {ms : List Mk} {last x : Int} (h : linB ms last = true) (hx : 0 ≤ x ∧ x ≤ last) : cutM ms last x = ms.filter (fun m => decide (m.2 ≤ x)) ∧ cutL ms last x = x := by unfold cutM cutL; rw [h, if_pos hx, if_pos hx]; exact ⟨rfl, rfl⟩
theorem Mks.take {w : World} {a : Option Addr} {c : Nat} {ms : List Mk} (h : Mks w a c ms) (k : Nat) : Mks w a c (ms.take k) := by
  refine ⟨Nat.le_trans (by rw [List.length_take]; omega) h.le, h.max, ?_⟩
  rcases h.at_ with h0 | ⟨b, off, rfl, hb, hc⟩
  · exact .inl (by rw [h0]; simp)
  · exact .inr ⟨b, off, rfl, hb, fun i m hm => hc i m (by
      rw [List.getElem?_take] at hm
      split at hm
      · exact hm
      · cases hm)⟩
set_option maxRecDepth 100000 in
set_option maxHeartbeats 4000000 in
theorem cut_any (a : Option Addr) (n c : Nat) (ms : List Mk) (last x : Int) (hn : n = ms.length) (w : World) (h : Mks w a c ms) : Calls Try.prog 17 #[.agg #[.slice a n c, .int .i64 last], .int .i64 x] w fun e w' => LnOut w (cutM ms last x) (cutL ms last x) (rcE ms last x) e w' := by
  subst hn
  obtain ⟨W0, hW0⟩ : ∃ W, W = (w.alloc (.cells #[.slice a ms.length c, .int .i64 last] 24)).alloc (.cells #[.slice none 0 0, .int .i64 0] 24) := ⟨_, rfl⟩
  obtain ⟨T1, T2, F1⟩ := two_boxes w 24 (.slice a ms.length c) (.int .i64 last) (.slice none 0 0) (.int .i64 0)
  have hrc := reaches_any a ms.length c ms last x rfl _ (h.same F1)
  obtain ⟨x0, x1, _⟩ := T1.cells
  obtain ⟨y0, y1, g0, g1⟩ := T2.cells
  have no : ∀ E, rcE ms last x = E → cutM ms last x = [] ∧ cutL ms last x = 0 → (E != 0) = true → Calls Try.prog 17 #[.agg #[.slice a ms.length c, .int .i64 last], .int .i64 x] w fun e w' => LnOut w (cutM ms last x) (cutL ms last x) (rcE ms last x) e w' := by
    intro E hE hA hb
    rw [hE] at hrc ⊢
    rw [hA.1, hA.2]
    clear hE hA h
    go_enter Try.func17, Try.ntmps17
    go_wp2_with fail
    refine hrc.mono ?_
    rintro e w1 ⟨rfl, f1⟩
    obtain ⟨t1, f2⟩ := (T2.fr f1 (fun f => f)).fin (.slice none 0 0) (.int .i64 0)
    obtain ⟨z0, z1, z2, z3⟩ := (T2.fr f1 (fun f => f)).cells
    obtain ⟨s0, s1, _⟩ := t1.cells
    go_wp2
    refine bodyPost_ret (v := .tuple #[.agg #[.slice none 0 0, .int .i64 0], .int .i64 E]) (by simp [results, Try.results17, go_sem, s0, s1]) rfl ?_
    exact ⟨none, 0, rfl, Mks.nil _ _, (F1.seq' f1).trans f2 (fun i hi e => by omega)⟩
  cases cl : linB ms last
  · exact no 4 (rcE_no cl).1 (cut_no cl) rfl
  · by_cases hx : 0 ≤ x ∧ x ≤ last
    · have R := linB_right cl
      obtain ⟨u, hu⟩ : ∃ u, u = upN ms (x + 1) := ⟨_, rfl⟩
      have hule : u ≤ ms.length := by rw [hu]; exact upN_le ms (x + 1)
      have hup := fun W (f : Fr (fun _ => False) w W) => upTo_any a ms.length c ms last x rfl R hx.1 (by have := R.last1; omega) W (h.same f)
      rw [← hu] at hup
      have hcu : cutM ms last x = ms.take u := by rw [(cut_in cl hx).1, hu, take_upN R.up]
      have hlen : (ms.take u).length = u := by rw [List.length_take]; omega
      have hll := right_len R
      have hcl : Hid (∀ W, Fr (fun _ => False) w W → Calls Try.prog 31 #[.slice a u c] W fun e w' => MkOut W (ms.take u) e w') := fun W f => cloneM a u c (ms.take u) W ((h.same f).take u) hlen.symm (by omega)
      rw [(rcE_in cl hx).1] at hrc ⊢
      rw [hcu, (cut_in cl hx).2]
      have hcm := h.le
      have hcx := h.max
      have hu1 : (u : Int) ≤ (c : Int) := by omega
      have HLEN : Hid ((ms.take u).length = u) := hlen
      obtain ⟨tk, htk⟩ : ∃ t, t = ms.take u := ⟨_, rfl⟩
      rw [← htk] at hcl HLEN ⊢
      clear no cl hx h hcu hu htk hlen R hule hll
      generalize ms.length = n at *
      have HT1 : Hid (∀ W, Fr (fun _ => False) ((w.alloc (.cells #[.slice a n c, .int .i64 last] 24)).alloc (.cells #[.slice none 0 0, .int .i64 0] 24)) W → Two W w.heap.size 24 (.slice a n c) (.int .i64 last)) := fun W f => T1.fr f (fun f => f)
      have HT2 : Hid (∀ W, Fr (fun _ => False) ((w.alloc (.cells #[.slice a n c, .int .i64 last] 24)).alloc (.cells #[.slice none 0 0, .int .i64 0] 24)) W → Two W (w.heap.size + 1) 24 (.slice none 0 0) (.int .i64 0)) := fun W f => T2.fr f (fun f => f)
      go_enter Try.func17, Try.ntmps17
      go_wp2_with fail
      generalize ((w.alloc (.cells #[.slice a n c, .int .i64 last] 24)).alloc (.cells #[.slice none 0 0, .int .i64 0] 24)) = V at *
      refine hrc.mono ?_
      rintro e w1 ⟨rfl, f1⟩
      clear hrc x0 x1 y0 y1 g0 g1 T1 T2
      go_wp2_with fail
      have G1 : Fr (fun _ => False) V w1.drew := f1.drew
      have q1 : w1.drew.cell? ⟨w.heap.size, 0, none⟩ = some (.slice a n c) ∧ w1.drew.cell? ⟨w.heap.size, 1, none⟩ = some (.int .i64 last) := ⟨(HT1.out _ G1).cells.1, (HT1.out _ G1).cells.2.1⟩
      have r1 := hup _ (F1.seq' G1)
      go_region_held3 (fun W => W.cell? ⟨w.heap.size, 0, none⟩ = some (.slice a n c) ∧ W.cell? ⟨w.heap.size, 1, none⟩ = some (.int .i64 last))
        (first | with_reducible exact q1 | with_reducible exact q2 | with_reducible exact q3 | with_reducible exact q4 | fail)
        (first
          | (go_at_call 32; refine r1.mono ?_; rintro e w2 ⟨rfl, f2⟩; clear r1; have G2 := G1.seq' f2; have q2 := (HT1.out _ G2).fst; have r2 := hcl.out _ (F1.seq' G2))
          | (go_at_call 31; refine r2.mono ?_; rintro e w3 ⟨am, cm, rfl, hown, f3, hnew⟩; clear r2; have G3 := G2.seq' f3; have q3 := (HT1.out _ G3).fst; obtain ⟨z0, z1, z2, z3⟩ := (HT2.out _ G3).cells; have q4 := ((HT1.out _ G3).keep (b' := w.heap.size + 1) (by omega) (.slice am tk.length cm) (.int .i64 x)).fst))
      obtain ⟨t1, f4⟩ := (HT2.out _ G3).fin (.slice am tk.length cm) (.int .i64 x)
      obtain ⟨s0, s1, _⟩ := t1.cells
      have HFE : Hid (Fr (fun _ => False) w ((w3.setCell ⟨w.heap.size + 1, 0, none⟩ (.slice am tk.length cm)).setCell ⟨w.heap.size + 1, 1, none⟩ (.int .i64 x))) := (F1.seq' G3).trans f4 (fun i hi e => by omega)
      have HME : Hid (Mks ((w3.setCell ⟨w.heap.size + 1, 0, none⟩ (.slice am tk.length cm)).setCell ⟨w.heap.size + 1, 1, none⟩ (.int .i64 x)) am cm tk) := (hown.fr f4 (fun k hk e => by have := hnew k hk; have := (HT2.out _ G2).lt; omega)).mks rfl
      clear q1 q2 q3 q4 hown hnew f1 f2 f3 f4 G1 G2 G3 t1 z0 z1 z2 z3
      go_wp2
      refine bodyPost_ret (v := .tuple #[.agg #[.slice am tk.length cm, .int .i64 x], .int .i64 0]) (by simp [results, Try.results17, go_sem, s0, s1]) rfl ?_
      exact ⟨am, cm, rfl, HME.out, HFE.out⟩
    · exact no 6 (rcE_out cl hx).1 (cut_out cl hx) rfl
end Go.Proofs.Ytphfngboddnbmaa
