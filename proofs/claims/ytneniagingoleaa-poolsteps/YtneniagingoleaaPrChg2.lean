
/- What the document's own pool does: Soil and Clean. -/
import Derived.Test.YtneniagingoleaaPrChg
namespace Go.Proofs.Ytneniagingoleaa
open Go.RowKit

def soE (L : List Fm) (x l : Int) : Int := if 1 ≤ l ∧ l ≤ 1099511627776 then rpE L x else 1
def soF (f : Fm) (l : Int) : Fm := ⟨f.page, f.pins, if f.lsn < l then l else f.lsn, if f.dirty = true then f.first else l, true⟩
def soL (L : List Fm) (x l : Int) : List Fm := if 1 ≤ l ∧ l ≤ 1099511627776 then (match L[fI L x]? with | none => L | some f => if f.pins = 0 then L else L.set (fI L x) (soF f l)) else L
theorem set_get {α : Type} {L : List α} {i : Nat} {f : α} (f' : α) (h : L[i]? = some f) : (L.set i f')[i]? = some f' := by
  have := (List.getElem?_eq_some_iff.1 h).1
  simp [this]
section
variable (pb : Nat) (fr fl : Int) (rv : Value) (L : List Fm) (w : World)
set_option maxRecDepth 100000 in
set_option maxHeartbeats 2000000 in
theorem rsoil_rp (x l : Int) (h : Rp w pb fr fl rv L) : Calls Try.prog 26 #[.pointer (some ⟨pb, 0, none⟩), .int .i64 x, .int .i64 l] w fun e w' => e = .returned (.int .i64 (soE L x l)) ∧ Rp w' pb fr fl rv (soL L x l) ∧ Fr (rpS pb rv) w w' := by
  have HP : Hid (∀ W, Fr (fun _ => False) w W → Rp W pb fr fl rv L) := fun W f => h.same f
  have hfd := rfind_rp pb fr fl rv L w x h
  have hfew := h.few
  unfold soE soL rpE
  by_cases hl : 1 ≤ l ∧ l ≤ 1099511627776
  · rw [if_pos hl, if_pos hl]
    have d1 : decide (l < 1) = false := decide_eq_false (by omega)
    have d2 : decide (1099511627776 < l) = false := decide_eq_false (by omega)
    clear hl
    cases hf : L[fI L x]? with
    | none =>
      have hge : ¬ fI L x < L.length := by rw [List.getElem?_eq_none_iff] at hf; omega
      have e : fnI L x = -1 := if_neg hge
      rw [e] at hfd
      clear e hge hf h
      dsimp only
      go_enter Try.func26, Try.ntmps26
      go_wp2_with fail
      refine hfd.mono ?_
      rintro e w1 ⟨rfl, f1⟩
      go_wp2
      go_ret
      exact ⟨rfl, HP.out _ f1, f1.mono (fun _ _ f => f.elim)⟩
    | some f =>
      have hlt := (List.getElem?_eq_some_iff.1 hf).1
      have e : fnI L x = (fI L x : Int) := if_pos hlt
      rw [e] at hfd
      clear e h
      dsimp only
      generalize fI L x = i at *
      have d3 : decide ((i : Int) < 0) = false := decide_eq_false (by omega)
      have hii : (i : Int) < (L.length : Int) := by omega
      have HF : Hid (L[i]? = some f) := hf
      clear hf
      obtain ⟨pg, pi, ls, fi, di⟩ := f
      dsimp only
      by_cases hp : pi = 0
      · subst hp
        rw [if_pos rfl, if_pos rfl]
        go_enter Try.func26, Try.ntmps26
        go_wp2_with fail
        refine hfd.mono ?_
        rintro e w1 ⟨rfl, f1⟩
        have hP := HP.out _ f1
        obtain ⟨⟨h0, h1, h2⟩, _⟩ := rp_cells hP.box
        obtain ⟨g, cap, rfl, hg, hlc, hcm, _, _⟩ := hP.has.form (by omega)
        obtain ⟨q0, q1, q2, q3, q4⟩ := fm_range (hP.elem rfl HF.out)
        dsimp only at q0 q1 q2 q3 q4
        clear hP hfd
        go_wp2
        go_ret
        exact ⟨rfl, HP.out _ f1, f1.mono (fun _ _ f => f.elim)⟩
      · rw [if_neg hp, if_neg hp]
        have hpb : (pi == 0) = false := by simpa using hp
        clear hp
        by_cases hgt : ls < l
        · have d4 : decide (ls < l) = true := decide_eq_true hgt
          cases di
          · have HL : Hid (soF ⟨pg, pi, ls, fi, false⟩ l = ⟨pg, pi, l, l, true⟩) := by show _ = _; unfold soF; simp [hgt]
            rw [HL.out]
            clear hgt
            go_enter Try.func26, Try.ntmps26
            go_wp2_with fail
            refine hfd.mono ?_
            rintro e w1 ⟨rfl, f1⟩
            have hP := HP.out _ f1
            obtain ⟨g, cap, rfl, hg, hlc, hcm, _, _⟩ := hP.has.form (by omega)
            obtain ⟨⟨h0, h1, h2⟩, _⟩ := rp_cells hP.box
            obtain ⟨q0, q1, q2, q3, q4⟩ := fm_range (hP.elem rfl HF.out)
            dsimp only at q0 q1 q2 q3 q4
            have F : Fr (rpS pb (.slice (some ⟨g, 0, none⟩) L.length cap)) w w1 := f1.mono (fun _ _ f => f.elim)
            clear hfd
            obtain ⟨hN0, fN0⟩ := hP.put1 (f' := ⟨pg, pi, ls, l, false⟩) (v := .int .i64 l) (by simp) HF.out (j := 3) (by omega) rfl
            have hz0 := hP.free (by simp) HF.out 3 (by omega)
            have F0 := F.trans fN0 (S := rpS pb (.slice (some ⟨g, 0, none⟩) L.length cap)) (fun _ _ e => .inr (by rw [e]; rfl))
            obtain ⟨W0, hW0⟩ : ∃ W, W = w1.setCell ⟨g, i * 5 + 3, none⟩ (.int .i64 l) := ⟨_, rfl⟩
            have HW0 : Hid (w1.setCell ⟨g, i * 5 + 3, none⟩ (.int .i64 l) = W0) := hW0.symm
            rw [← hW0] at hN0 F0
            clear hW0 fN0
            go_upto_region 10 with fail
            rw [HW0.out]
            clear q0 q1 q2 q3 q4 h0 h1 h2
            have hF0 := set_get ⟨pg, pi, ls, l, false⟩ HF.out
            obtain ⟨⟨h0, h1, h2⟩, _⟩ := rp_cells hN0.box
            obtain ⟨q0, q1, q2, q3, q4⟩ := fm_range (hN0.elem (by simp) hF0)
            dsimp only at q0 q1 q2 q3 q4
            obtain ⟨hN1, fN1⟩ := hN0.put1 (f' := ⟨pg, pi, ls, l, true⟩) (v := .bool true) (by simp) hF0 (j := 4) (by omega) rfl
            have hz1 := hN0.free (by simp) hF0 4 (by omega)
            rw [List.set_set] at hN1
            have F1 := F0.trans fN1 (S := rpS pb (.slice (some ⟨g, 0, none⟩) L.length cap)) (fun _ _ e => .inr (by rw [e]; rfl))
            obtain ⟨W1, hW1⟩ : ∃ W, W = W0.setCell ⟨g, i * 5 + 4, none⟩ (.bool true) := ⟨_, rfl⟩
            have HW1 : Hid (W0.setCell ⟨g, i * 5 + 4, none⟩ (.bool true) = W1) := hW1.symm
            rw [← hW1] at hN1 F1
            clear hW1 fN1
            go_upto_region 11 with fail
            rw [HW1.out]
            clear q0 q1 q2 q3 q4 h0 h1 h2
            have hF1 := set_get ⟨pg, pi, ls, l, true⟩ HF.out
            obtain ⟨⟨h0, h1, h2⟩, _⟩ := rp_cells hN1.box
            obtain ⟨q0, q1, q2, q3, q4⟩ := fm_range (hN1.elem (by simp) hF1)
            dsimp only at q0 q1 q2 q3 q4
            obtain ⟨hN2, fN2⟩ := hN1.put1 (f' := ⟨pg, pi, l, l, true⟩) (v := .int .i64 l) (by simp) hF1 (j := 2) (by omega) rfl
            have hz2 := hN1.free (by simp) hF1 2 (by omega)
            rw [List.set_set] at hN2
            have F2 := F1.trans fN2 (S := rpS pb (.slice (some ⟨g, 0, none⟩) L.length cap)) (fun _ _ e => .inr (by rw [e]; rfl))
            obtain ⟨W2, hW2⟩ : ∃ W, W = W1.setCell ⟨g, i * 5 + 2, none⟩ (.int .i64 l) := ⟨_, rfl⟩
            have HW2 : Hid (W1.setCell ⟨g, i * 5 + 2, none⟩ (.int .i64 l) = W2) := hW2.symm
            rw [← hW2] at hN2 F2
            clear hW2 fN2
            go_upto_region 13 with fail
            rw [HW2.out]
            clear q0 q1 q2 q3 q4 h0 h1 h2
            have hF2 := set_get ⟨pg, pi, l, l, true⟩ HF.out
            obtain ⟨⟨h0, h1, h2⟩, _⟩ := rp_cells hN2.box
            obtain ⟨q0, q1, q2, q3, q4⟩ := fm_range (hN2.elem (by simp) hF2)
            dsimp only at q0 q1 q2 q3 q4
            go_wp2
            go_ret
            exact ⟨rfl, hN2, F2⟩
          · have HL : Hid (soF ⟨pg, pi, ls, fi, true⟩ l = ⟨pg, pi, l, fi, true⟩) := by show _ = _; unfold soF; simp [hgt]
            rw [HL.out]
            clear hgt
            go_enter Try.func26, Try.ntmps26
            go_wp2_with fail
            refine hfd.mono ?_
            rintro e w1 ⟨rfl, f1⟩
            have hP := HP.out _ f1
            obtain ⟨g, cap, rfl, hg, hlc, hcm, _, _⟩ := hP.has.form (by omega)
            obtain ⟨⟨h0, h1, h2⟩, _⟩ := rp_cells hP.box
            obtain ⟨q0, q1, q2, q3, q4⟩ := fm_range (hP.elem rfl HF.out)
            dsimp only at q0 q1 q2 q3 q4
            have F : Fr (rpS pb (.slice (some ⟨g, 0, none⟩) L.length cap)) w w1 := f1.mono (fun _ _ f => f.elim)
            clear hfd
            obtain ⟨hN0, fN0⟩ := hP.put1 (f' := ⟨pg, pi, ls, fi, true⟩) (v := .bool true) (by simp) HF.out (j := 4) (by omega) rfl
            have hz0 := hP.free (by simp) HF.out 4 (by omega)
            have F0 := F.trans fN0 (S := rpS pb (.slice (some ⟨g, 0, none⟩) L.length cap)) (fun _ _ e => .inr (by rw [e]; rfl))
            obtain ⟨W0, hW0⟩ : ∃ W, W = w1.setCell ⟨g, i * 5 + 4, none⟩ (.bool true) := ⟨_, rfl⟩
            have HW0 : Hid (w1.setCell ⟨g, i * 5 + 4, none⟩ (.bool true) = W0) := hW0.symm
            rw [← hW0] at hN0 F0
            clear hW0 fN0
            go_upto_region 11 with fail
            rw [HW0.out]
            clear q0 q1 q2 q3 q4 h0 h1 h2
            have hF0 := set_get ⟨pg, pi, ls, fi, true⟩ HF.out
            obtain ⟨⟨h0, h1, h2⟩, _⟩ := rp_cells hN0.box
            obtain ⟨q0, q1, q2, q3, q4⟩ := fm_range (hN0.elem (by simp) hF0)
            dsimp only at q0 q1 q2 q3 q4
            obtain ⟨hN1, fN1⟩ := hN0.put1 (f' := ⟨pg, pi, l, fi, true⟩) (v := .int .i64 l) (by simp) hF0 (j := 2) (by omega) rfl
            have hz1 := hN0.free (by simp) hF0 2 (by omega)
            rw [List.set_set] at hN1
            have F1 := F0.trans fN1 (S := rpS pb (.slice (some ⟨g, 0, none⟩) L.length cap)) (fun _ _ e => .inr (by rw [e]; rfl))
            obtain ⟨W1, hW1⟩ : ∃ W, W = W0.setCell ⟨g, i * 5 + 2, none⟩ (.int .i64 l) := ⟨_, rfl⟩
            have HW1 : Hid (W0.setCell ⟨g, i * 5 + 2, none⟩ (.int .i64 l) = W1) := hW1.symm
            rw [← hW1] at hN1 F1
            clear hW1 fN1
            go_upto_region 13 with fail
            rw [HW1.out]
            clear q0 q1 q2 q3 q4 h0 h1 h2
            have hF1 := set_get ⟨pg, pi, l, fi, true⟩ HF.out
            obtain ⟨⟨h0, h1, h2⟩, _⟩ := rp_cells hN1.box
            obtain ⟨q0, q1, q2, q3, q4⟩ := fm_range (hN1.elem (by simp) hF1)
            dsimp only at q0 q1 q2 q3 q4
            go_wp2
            go_ret
            exact ⟨rfl, hN1, F1⟩
        · have d4 : decide (ls < l) = false := decide_eq_false hgt
          cases di
          · have HL : Hid (soF ⟨pg, pi, ls, fi, false⟩ l = ⟨pg, pi, ls, l, true⟩) := by show _ = _; unfold soF; simp [hgt]
            rw [HL.out]
            clear hgt
            go_enter Try.func26, Try.ntmps26
            go_wp2_with fail
            refine hfd.mono ?_
            rintro e w1 ⟨rfl, f1⟩
            have hP := HP.out _ f1
            obtain ⟨g, cap, rfl, hg, hlc, hcm, _, _⟩ := hP.has.form (by omega)
            obtain ⟨⟨h0, h1, h2⟩, _⟩ := rp_cells hP.box
            obtain ⟨q0, q1, q2, q3, q4⟩ := fm_range (hP.elem rfl HF.out)
            dsimp only at q0 q1 q2 q3 q4
            have F : Fr (rpS pb (.slice (some ⟨g, 0, none⟩) L.length cap)) w w1 := f1.mono (fun _ _ f => f.elim)
            clear hfd
            obtain ⟨hN0, fN0⟩ := hP.put1 (f' := ⟨pg, pi, ls, l, false⟩) (v := .int .i64 l) (by simp) HF.out (j := 3) (by omega) rfl
            have hz0 := hP.free (by simp) HF.out 3 (by omega)
            have F0 := F.trans fN0 (S := rpS pb (.slice (some ⟨g, 0, none⟩) L.length cap)) (fun _ _ e => .inr (by rw [e]; rfl))
            obtain ⟨W0, hW0⟩ : ∃ W, W = w1.setCell ⟨g, i * 5 + 3, none⟩ (.int .i64 l) := ⟨_, rfl⟩
            have HW0 : Hid (w1.setCell ⟨g, i * 5 + 3, none⟩ (.int .i64 l) = W0) := hW0.symm
            rw [← hW0] at hN0 F0
            clear hW0 fN0
            go_upto_region 10 with fail
            rw [HW0.out]
            clear q0 q1 q2 q3 q4 h0 h1 h2
            have hF0 := set_get ⟨pg, pi, ls, l, false⟩ HF.out
            obtain ⟨⟨h0, h1, h2⟩, _⟩ := rp_cells hN0.box
            obtain ⟨q0, q1, q2, q3, q4⟩ := fm_range (hN0.elem (by simp) hF0)
            dsimp only at q0 q1 q2 q3 q4
            obtain ⟨hN1, fN1⟩ := hN0.put1 (f' := ⟨pg, pi, ls, l, true⟩) (v := .bool true) (by simp) hF0 (j := 4) (by omega) rfl
            have hz1 := hN0.free (by simp) hF0 4 (by omega)
            rw [List.set_set] at hN1
            have F1 := F0.trans fN1 (S := rpS pb (.slice (some ⟨g, 0, none⟩) L.length cap)) (fun _ _ e => .inr (by rw [e]; rfl))
            obtain ⟨W1, hW1⟩ : ∃ W, W = W0.setCell ⟨g, i * 5 + 4, none⟩ (.bool true) := ⟨_, rfl⟩
            have HW1 : Hid (W0.setCell ⟨g, i * 5 + 4, none⟩ (.bool true) = W1) := hW1.symm
            rw [← hW1] at hN1 F1
            clear hW1 fN1
            go_upto_region 11 with fail
            rw [HW1.out]
            clear q0 q1 q2 q3 q4 h0 h1 h2
            have hF1 := set_get ⟨pg, pi, ls, l, true⟩ HF.out
            obtain ⟨⟨h0, h1, h2⟩, _⟩ := rp_cells hN1.box
            obtain ⟨q0, q1, q2, q3, q4⟩ := fm_range (hN1.elem (by simp) hF1)
            dsimp only at q0 q1 q2 q3 q4
            go_wp2
            go_ret
            exact ⟨rfl, hN1, F1⟩
          · have HL : Hid (soF ⟨pg, pi, ls, fi, true⟩ l = ⟨pg, pi, ls, fi, true⟩) := by show _ = _; unfold soF; simp [hgt]
            rw [HL.out]
            clear hgt
            go_enter Try.func26, Try.ntmps26
            go_wp2_with fail
            refine hfd.mono ?_
            rintro e w1 ⟨rfl, f1⟩
            have hP := HP.out _ f1
            obtain ⟨g, cap, rfl, hg, hlc, hcm, _, _⟩ := hP.has.form (by omega)
            obtain ⟨⟨h0, h1, h2⟩, _⟩ := rp_cells hP.box
            obtain ⟨q0, q1, q2, q3, q4⟩ := fm_range (hP.elem rfl HF.out)
            dsimp only at q0 q1 q2 q3 q4
            have F : Fr (rpS pb (.slice (some ⟨g, 0, none⟩) L.length cap)) w w1 := f1.mono (fun _ _ f => f.elim)
            clear hfd
            obtain ⟨hN0, fN0⟩ := hP.put1 (f' := ⟨pg, pi, ls, fi, true⟩) (v := .bool true) (by simp) HF.out (j := 4) (by omega) rfl
            have hz0 := hP.free (by simp) HF.out 4 (by omega)
            have F0 := F.trans fN0 (S := rpS pb (.slice (some ⟨g, 0, none⟩) L.length cap)) (fun _ _ e => .inr (by rw [e]; rfl))
            obtain ⟨W0, hW0⟩ : ∃ W, W = w1.setCell ⟨g, i * 5 + 4, none⟩ (.bool true) := ⟨_, rfl⟩
            have HW0 : Hid (w1.setCell ⟨g, i * 5 + 4, none⟩ (.bool true) = W0) := hW0.symm
            rw [← hW0] at hN0 F0
            clear hW0 fN0
            go_upto_region 11 with fail
            rw [HW0.out]
            clear q0 q1 q2 q3 q4 h0 h1 h2
            have hF0 := set_get ⟨pg, pi, ls, fi, true⟩ HF.out
            obtain ⟨⟨h0, h1, h2⟩, _⟩ := rp_cells hN0.box
            obtain ⟨q0, q1, q2, q3, q4⟩ := fm_range (hN0.elem (by simp) hF0)
            dsimp only at q0 q1 q2 q3 q4
            go_wp2
            go_ret
            exact ⟨rfl, hN0, F0⟩
  · rw [if_neg hl, if_neg hl]
    by_cases hn : l < 1
    · have d1 : decide (l < 1) = true := decide_eq_true hn
      clear hl hn
      go_enter Try.func26, Try.ntmps26
      go_wp2
      go_ret
      exact ⟨rfl, h, Fr.refl _ _⟩
    · have d1 : decide (l < 1) = false := decide_eq_false hn
      have d2 : decide (1099511627776 < l) = true := decide_eq_true (by omega)
      clear hl hn
      go_enter Try.func26, Try.ntmps26
      go_wp2
      go_ret
      exact ⟨rfl, h, Fr.refl _ _⟩
def rcE (L : List Fm) (x : Int) : Int := match L[fI L x]? with | none => 6 | some f => if f.dirty = true then 0 else 7
def rcV (L : List Fm) (x fl : Int) : Int := match L[fI L x]? with | none => 0 | some f => if f.dirty = true then needV fl f.lsn else 0
def rcF (L : List Fm) (x fl : Int) : Int := match L[fI L x]? with | none => fl | some f => if f.dirty = true then flF fl f.lsn else fl
def rcL (L : List Fm) (x : Int) : List Fm := match L[fI L x]? with | none => L | some f => if f.dirty = true then L.set (fI L x) { f with dirty := false } else L
set_option maxRecDepth 100000 in
set_option maxHeartbeats 2000000 in
theorem rclean_rp (x : Int) (h : Rp w pb fr fl rv L) : Calls Try.prog 27 #[.pointer (some ⟨pb, 0, none⟩), .int .i64 x] w fun e w' => e = .returned (.tuple #[.int .i64 (rcV L x fl), .int .i64 (rcE L x)]) ∧ Rp w' pb fr (rcF L x fl) rv (rcL L x) ∧ Fr (rpS pb rv) w w' := by
  have HP : Hid (∀ W, Fr (fun _ => False) w W → Rp W pb fr fl rv L) := fun W f => h.same f
  have hfd := rfind_rp pb fr fl rv L w x h
  have hfew := h.few
  unfold rcE rcV rcF rcL
  cases hf : L[fI L x]? with
  | none =>
    have hge : ¬ fI L x < L.length := by rw [List.getElem?_eq_none_iff] at hf; omega
    have e : fnI L x = -1 := if_neg hge
    rw [e] at hfd
    clear e hge hf h
    dsimp only
    go_enter Try.func27, Try.ntmps27
    go_wp2_with fail
    refine hfd.mono ?_
    rintro e w1 ⟨rfl, f1⟩
    go_wp2
    go_ret2
    exact ⟨rfl, HP.out _ f1, f1.mono (fun _ _ f => f.elim)⟩
  | some f =>
    have hlt := (List.getElem?_eq_some_iff.1 hf).1
    have e : fnI L x = (fI L x : Int) := if_pos hlt
    rw [e] at hfd
    clear e h
    dsimp only
    generalize fI L x = i at *
    have d3 : decide ((i : Int) < 0) = false := decide_eq_false (by omega)
    have hii : (i : Int) < (L.length : Int) := by omega
    have HF : Hid (L[i]? = some f) := hf
    clear hf
    obtain ⟨pg, pi, ls, fi, di⟩ := f
    dsimp only
    cases di
    · rw [if_neg (by simp), if_neg (by simp), if_neg (by simp), if_neg (by simp)]
      go_enter Try.func27, Try.ntmps27
      go_wp2_with fail
      refine hfd.mono ?_
      rintro e w1 ⟨rfl, f1⟩
      have hP := HP.out _ f1
      obtain ⟨⟨h0, h1, h2⟩, _⟩ := rp_cells hP.box
      obtain ⟨g, cap, rfl, hg, hlc, hcm, _, _⟩ := hP.has.form (by omega)
      obtain ⟨q0, q1, q2, q3, q4⟩ := fm_range (hP.elem rfl HF.out)
      dsimp only at q0 q1 q2 q3 q4
      clear hP hfd
      go_wp2
      go_ret2
      exact ⟨rfl, HP.out _ f1, f1.mono (fun _ _ f => f.elim)⟩
    · rw [if_pos rfl, if_pos rfl, if_pos rfl, if_pos rfl]
      go_enter Try.func27, Try.ntmps27
      go_wp2_with fail
      refine hfd.mono ?_
      rintro e w1 ⟨rfl, f1⟩
      have hP := HP.out _ f1
      obtain ⟨g, cap, rfl, hg, hlc, hcm, _, _⟩ := hP.has.form (by omega)
      obtain ⟨⟨h0, h1, h2⟩, _⟩ := rp_cells hP.box
      obtain ⟨q0, q1, q2, q3, q4⟩ := fm_range (hP.elem rfl HF.out)
      obtain ⟨hN, fN⟩ := hP.put1 (f' := ⟨pg, pi, ls, fi, false⟩) (v := .bool false) rfl HF.out (j := 4) (by omega) rfl
      have hz := hP.free rfl HF.out 4 (by omega)
      obtain ⟨⟨k0, k1, k2⟩, _⟩ := rp_cells hN.box
      obtain ⟨r0, r1, r2, r3, r4⟩ := fm_range (hN.elem (by simp) (set_get ⟨pg, pi, ls, fi, false⟩ HF.out))
      have fF : Fr (rpS pb (.slice (some ⟨g, 0, none⟩) L.length cap)) w (w1.setCell ⟨g, i * 5 + 4, none⟩ (.bool false)) := (f1.mono (fun _ _ f => f.elim)).trans fN (fun _ _ e => .inr (by rw [e]; rfl))
      dsimp only at q0 q1 q2 q3 q4 r0 r1 r2 r3 r4
      clear hP hfd
      obtain ⟨W1, hW1⟩ : ∃ W, W = w1.setCell ⟨g, i * 5 + 4, none⟩ (.bool false) := ⟨_, rfl⟩
      have HW : Hid (w1.setCell ⟨g, i * 5 + 4, none⟩ (.bool false) = W1) := hW1.symm
      rw [← hW1] at hN fF k0 k1 k2 r0 r1 r2 r3 r4
      clear hW1 fN
      go_upto_region 7 with fail
      rw [HW.out]
      clear q0 q1 q2 q3 q4 h0 h1 h2 hz
      go_wp2_with fail
      refine (rneed_rp pb fr fl _ _ _ ls hN).mono ?_
      rintro e w2 ⟨rfl, hN2, f2⟩
      go_wp2
      go_ret2
      exact ⟨rfl, hN2, fF.trans f2 (fun _ _ e => .inl e)⟩
end
end Go.Proofs.Ytneniagingoleaa
