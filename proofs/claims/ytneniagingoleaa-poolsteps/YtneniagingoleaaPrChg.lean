
/- What the document's own pool does: Unpin, Soil, Clean, Oldest, New. -/
import Derived.Test.YtneniagingoleaaPrBase
namespace Go.Proofs.Ytneniagingoleaa
open Go.RowKit

theorem flat_set1 {α : Type} {c : α → List Value} {s : Nat} (hc : ∀ x, (c x).length = s) : ∀ (L : List α) (i j : Nat) (f f' : α) (v : Value), L[i]? = some f → j < s → c f' = (c f).set j v →
    (L.flatMap c).take (i * s + j) ++ [v] ++ (L.flatMap c).drop (i * s + j + 1) = (L.set i f').flatMap c
  | [], i, j, f, f', v, h, _, _ => by simp at h
  | g :: l, 0, j, f, f', v, h, hj, hf => by
    simp at h
    subst h
    have hl := hc g
    simp only [Nat.zero_mul, Nat.zero_add, List.flatMap_cons, List.set_cons_zero]
    rw [List.take_append_of_le_length (by omega), List.drop_append_of_le_length (by omega), hf, List.set_eq_take_append_cons_drop, if_pos (by omega)]
    simp
  | g :: l, i + 1, j, f, f', v, h, hj, hf => by
    have ih := flat_set1 hc l i j f f' v (by simpa using h) hj hf
    have hl := hc g
    have e : (i + 1) * s + j = (c g).length + (i * s + j) := by rw [Nat.add_mul, hl]; omega
    simp only [List.flatMap_cons, List.set_cons_succ]
    rw [e, List.take_length_add_append, Nat.add_assoc, List.drop_length_add_append, ← ih]
    simp [List.append_assoc]
theorem Rp.put1 {w : World} {pb : Nat} {fr fl : Int} {g n cap : Nat} {L : List Fm} {i j : Nat} {f f' : Fm} {v : Value} (h : Rp w pb fr fl (.slice (some ⟨g, 0, none⟩) n cap) L) (hn : n = L.length) (hi : L[i]? = some f) (hj : j < 5) (hf : fmC f' = (fmC f).set j v) :
    Rp (w.setCell ⟨g, i * 5 + j, none⟩ v) pb fr fl (.slice (some ⟨g, 0, none⟩) n cap) (L.set i f') ∧ Fr (fun k => k = g) w (w.setCell ⟨g, i * 5 + j, none⟩ v) := by
  subst hn
  have fs : Fr (fun k => k = g) w (w.setCell ⟨g, i * 5 + j, none⟩ v) := (Fr.refl (fun k => k = g) w).setCell (p := ⟨g, i * 5 + j, none⟩) (fun _ => rfl) _
  have hil := (List.getElem?_eq_some_iff.1 hi).1
  have hs := h.has.set (i * 5 + j) [v] (by rw [h.has.1]; simp; omega)
  rw [show (i * 5 + j + [v].length) = i * 5 + j + 1 from rfl, flat_set1 fmC_length L i j f f' v hi hj hf] at hs
  refine ⟨⟨?_, ?_, h.own, by rw [List.length_set]; exact h.few⟩, fs⟩
  · rw [fs.block pb (lt_of_block h.box) (fun e => h.own g rfl e.symm)]; exact h.box
  · rw [List.length_set]; exact hs
/-- The cell of an element may be stored. -/
theorem Rp.free {w : World} {pb : Nat} {fr fl : Int} {g n cap : Nat} {L : List Fm} {i : Nat} {f : Fm} (h : Rp w pb fr fl (.slice (some ⟨g, 0, none⟩) n cap) L) (hn : n = L.length) (hi : L[i]? = some f) (j : Nat) (hj : j < 5) : w.frozen? ⟨g, i * 5 + j, none⟩ = false := by
  subst hn
  have hil := (List.getElem?_eq_some_iff.1 hi).1
  obtain ⟨g2, c2, e, _, h1, _, h3, _⟩ := h.has.form (by omega)
  simp only [Value.slice.injEq, Option.some.injEq, Addr.mk.injEq, and_true, true_and] at e
  obtain ⟨rfl, rfl⟩ := e
  have := (h3 (i * 5 + j) (by have := Nat.mul_le_mul_right 5 h1; omega)).2
  rwa [Nat.zero_add] at this
theorem Rp.elem {w : World} {pb : Nat} {fr fl : Int} {g n cap : Nat} {L : List Fm} {i : Nat} {f : Fm} (h : Rp w pb fr fl (.slice (some ⟨g, 0, none⟩) n cap) L) (hn : n = L.length) (hi : L[i]? = some f) : w.rangeAt g (i * 5) (fmC f) := by
  subst hn
  exact h.has.elem fmC_length hi
def rpE (L : List Fm) (x : Int) : Int := match L[fI L x]? with | none => 6 | some f => if f.pins = 0 then 7 else 0
def unL (L : List Fm) (x : Int) : List Fm := match L[fI L x]? with | none => L | some f => if f.pins = 0 then L else L.set (fI L x) { f with pins := dn f.pins }
section
variable (pb : Nat) (fr fl : Int) (rv : Value) (L : List Fm) (w : World)
set_option maxRecDepth 100000 in
set_option maxHeartbeats 1000000 in
theorem runpin_rp (x : Int) (h : Rp w pb fr fl rv L) : Calls Try.prog 25 #[.pointer (some ⟨pb, 0, none⟩), .int .i64 x] w fun e w' => e = .returned (.int .i64 (rpE L x)) ∧ Rp w' pb fr fl rv (unL L x) ∧ Fr (rpS pb rv) w w' := by
  have HP : Hid (∀ W, Fr (fun _ => False) w W → Rp W pb fr fl rv L) := fun W f => h.same f
  have hfd := rfind_rp pb fr fl rv L w x h
  have hfew := h.few
  unfold rpE unL
  cases hf : L[fI L x]? with
  | none =>
    have hge : ¬ fI L x < L.length := by rw [List.getElem?_eq_none_iff] at hf; omega
    have e : fnI L x = -1 := if_neg hge
    rw [e] at hfd
    clear e hge hf h
    dsimp only
    go_enter Try.func25, Try.ntmps25
    go_wp2_with fail
    refine hfd.mono ?_
    rintro e w1 ⟨rfl, f1⟩
    go_wp2
    go_ret
    exact ⟨rfl, HP.out _ f1, f1.mono (fun _ _ f => f.elim)⟩
  | some f =>
    have hlt := (List.getElem?_eq_some_iff.1 hf).1
    have e : fnI L x = (fI L x : Int) := if_pos hlt
    rw [e] at hfd
    clear e h
    dsimp only
    generalize fI L x = i at *
    have d1 : decide ((i : Int) < 0) = false := decide_eq_false (by omega)
    have hii : (i : Int) < (L.length : Int) := by omega
    have HF : Hid (L[i]? = some f) := hf
    clear hf
    obtain ⟨pg, pi, ls, fi, di⟩ := f
    dsimp only
    by_cases hp : pi = 0
    · subst hp
      rw [if_pos rfl, if_pos rfl]
      go_enter Try.func25, Try.ntmps25
      go_wp2_with fail
      refine hfd.mono ?_
      rintro e w1 ⟨rfl, f1⟩
      have hP := HP.out _ f1
      obtain ⟨⟨h0, h1, h2⟩, _⟩ := rp_cells hP.box
      obtain ⟨g, cap, rfl, hg, hlc, hcm, _, _⟩ := hP.has.form (by omega)
      obtain ⟨q0, q1, q2, q3, q4⟩ := fm_range (hP.has.elem fmC_length HF.out)
      dsimp only at q0 q1 q2 q3 q4
      clear hP hfd
      go_wp2
      go_ret
      exact ⟨rfl, HP.out _ f1, f1.mono (fun _ _ f => f.elim)⟩
    · rw [if_neg hp, if_neg hp]
      have hpb : (pi == 0) = false := by simpa using hp
      obtain ⟨q, hq⟩ : ∃ q, q = dn pi := ⟨_, rfl⟩
      have e1 : IntKind.i64.wrap (pi - 1) = q := hq.symm
      have HQ : Hid (dn pi = q) := hq.symm
      rw [HQ.out]
      clear hp hq
      go_enter Try.func25, Try.ntmps25
      go_wp2_with fail
      refine hfd.mono ?_
      rintro e w1 ⟨rfl, f1⟩
      have hP0 := HP.out _ f1
      have hP := HP.out _ f1.drew
      obtain ⟨g, cap, rfl, hg, hlc, hcm, _, _⟩ := hP.has.form (by omega)
      obtain ⟨⟨h0, h1, h2⟩, _⟩ := rp_cells hP0.box
      obtain ⟨q0, q1, q2, q3, q4⟩ := fm_range (hP0.has.elem fmC_length HF.out)
      obtain ⟨⟨k0, k1, k2⟩, _⟩ := rp_cells hP.box
      obtain ⟨r0, r1, r2, r3, r4⟩ := fm_range (hP.has.elem fmC_length HF.out)
      obtain ⟨hN, fN⟩ := hP.put1 (f' := ⟨pg, q, ls, fi, di⟩) (v := .int .i64 q) rfl HF.out (j := 1) (by omega) rfl
      have hz := hP.free rfl HF.out 1 (by omega)
      have fF : Fr (rpS pb (.slice (some ⟨g, 0, none⟩) L.length cap)) w (w1.drew.setCell ⟨g, i * 5 + 1, none⟩ (.int .i64 q)) := (f1.drew.mono (fun _ _ f => f.elim)).trans fN (fun _ _ e => .inr (by rw [e]; rfl))
      dsimp only at q0 q1 q2 q3 q4 r0 r1 r2 r3 r4
      clear hP hP0 hfd
      go_wp2_with fail
      go_region_law (fail)
      all_goals
        go_wp2
        go_ret
        exact ⟨rfl, hN, fF⟩
end
end Go.Proofs.Ytneniagingoleaa
