
/- What is known of each page's last change; the log comes first. -/
import Derived.Test.YtlcdkgbjlkoahaaPlSpeak
import Derived.Test.YtlcdkgbjlkoahaaPlArg
namespace Go.Proofs.Ytlcdkgbjlkoahaa
open Go.RowKit

set_option maxRecDepth 100000 in
theorem zero41 : Try.zeroCells41 = Array.replicate 4097 (.int .i64 0) := by kernel_rfl
/-- An array of 4097 numbers at block b. -/
def Ar (w : World) (b : Nat) (f : Nat → Int) : Prop := b < w.heap.size ∧ ∀ i, i < 4097 → w.cell? ⟨b, i, none⟩ = some (.int .i64 (f i)) ∧ w.frozen? ⟨b, i, none⟩ = false
def upf (f : Nat → Int) (i : Nat) (v : Int) : Nat → Int := fun j => if j = i then v else f j
theorem Ar.new (w : World) : Ar (w.alloc (.cells Try.zeroCells41 41)) w.heap.size (fun _ => 0) := by
  refine ⟨by simp, fun i hi => ?_⟩
  have h := heap_alloc_new w (.cells Try.zeroCells41 41)
  rw [zero41] at h ⊢
  refine ⟨?_, ?_⟩
  · unfold World.cell?
    rw [h]
    simp [hi]
  · unfold World.frozen?
    rw [h]
    simp
theorem Ar.fr {S : Nat → Prop} {w w' : World} {b : Nat} {f : Nat → Int} (h : Ar w b f) (g : Fr S w w') (hn : ¬ S b) : Ar w' b f := by
  refine ⟨Nat.lt_of_lt_of_le h.1 g.size, fun i hi => ?_⟩
  have e := g.block b h.1 hn
  have k := h.2 i hi
  constructor
  · rw [← k.1]; exact World.cell?_of_block e
  · rw [← k.2]; simp only [World.frozen?, e]
theorem Ar.same {w w' : World} {b : Nat} {f : Nat → Int} (h : Ar w b f) (g : Fr (fun _ => False) w w') : Ar w' b f := h.fr g (fun f => f)
theorem Ar.set {w : World} {b : Nat} {f : Nat → Int} (h : Ar w b f) (i : Nat) (v : Int) : Ar (w.setCell ⟨b, i, none⟩ (.int .i64 v)) b (upf f i v) := by
  refine ⟨by simpa using h.1, fun j hj => ?_⟩
  have k := h.2 j hj
  refine ⟨?_, by rw [World.frozen?_setCell]; exact k.2⟩
  by_cases e : j = i
  · subst e
    unfold upf
    rw [if_pos rfl]
    exact World.cell?_setCell_same w _ _ k.1
  · unfold upf
    rw [if_neg e]
    refine (World.cell?_setCell_other w _ _ _ (fun he => e ?_)).trans k.1
    simpa using (congrArg Addr.off he).symm
theorem o_facts {o : Nat} (h1 : 1 ≤ o) (h2 : o ≤ 4096) : ((0 : Int) ≤ (o : Int) ∧ (o : Int) < 4097 ∧ wrap64 (o : Int) = (o : Int) ∧ IntKind.i64.wrap (o : Int) = (o : Int)) ∧ (decide ((o : Int) < 0) = false ∧ decide ((4096 : Int) < (o : Int)) = false ∧ decide ((0 : Int) < (o : Int)) = true ∧ decide (0 < o) = true) ∧ o < 4097 := by
  refine ⟨⟨by omega, by omega, by unfold wrap64; omega, by simp [IntKind.wrap, IntKind.bits, IntKind.signed]; omega⟩, ⟨decide_eq_false (by omega), decide_eq_false (by omega), decide_eq_true (by omega), decide_eq_true (by omega)⟩, by omega⟩
theorem out_tail {w W : World} {pb lb mb n o : Nat} {k us fl : Int} {M : Pmap} {f : Nat → Int} (hA : Ar W lb f) (hP : Pl W pb k mb n us fl M) (F : Fr (fun _ => False) w W) (hl : w.heap.size ≤ lb) (h1 : pb < lb) (h2 : mb < lb) (v : Int) :
    Ar (W.setCell ⟨lb, o, none⟩ (.int .i64 v)) lb (upf f o v) ∧ Pl (W.setCell ⟨lb, o, none⟩ (.int .i64 v)) pb k mb n us fl M ∧ Fr (fun _ => False) w (W.setCell ⟨lb, o, none⟩ (.int .i64 v)) := by
  have fs : Fr (fun k => k = lb) W (W.setCell ⟨lb, o, none⟩ (.int .i64 v)) := (Fr.refl (fun k => k = lb) W).setCell (p := ⟨lb, o, none⟩) (fun _ => rfl) _
  exact ⟨hA.set o v, hP.fr fs (by omega) (by omega), F.trans fs (S := fun _ => False) (fun i hi e => by omega)⟩
theorem need_case {fl need fl2 fo : Int} (h : (if fl < need then need else fl) = fl2) (h0 : 0 ≤ fl) (hf : fo ≤ fl2) : (fl < need ∧ need = fl2 ∧ ¬ need < fo ∧ 0 ≤ need) ∨ (¬ fl < need ∧ fl = fl2 ∧ ¬ fl < fo) := by
  by_cases e : fl < need
  · rw [if_pos e] at h; exact .inl ⟨e, h, by omega, by omega⟩
  · rw [if_neg e] at h; exact .inr ⟨e, h, by omega⟩
/-- Each change that was not written is one of a dirty page, whose LSN is not less. -/
def LogI (M : Pmap) (f : Nat → Int) : Prop := ∀ o : Nat, f o ≠ 0 → ∃ g, M (o : Int) = some g ∧ g.since ≠ 0 ∧ f o ≤ g.lsn
theorem logI_start : LogI (fun _ => none) (fun _ => 0) := fun _ h => absurd rfl h
theorem logI_del {M : Pmap} {f : Nat → Int} {r : Nat} (h : LogI M f) : LogI (upd M r none) (upf f r 0) := fun o ho => by
  unfold upf at ho ⊢
  by_cases e : o = r
  · rw [if_pos e] at ho; exact absurd rfl ho
  · rw [if_neg e] at ho ⊢
    rw [upd_other _ (by omega)]
    exact h o ho
theorem logI_clean {M : Pmap} {f : Nat → Int} {r : Nat} (h : LogI M f) (v : Option Hd) : LogI (upd M r v) (upf f r 0) := fun o ho => by
  unfold upf at ho ⊢
  by_cases e : o = r
  · rw [if_pos e] at ho; exact absurd rfl ho
  · rw [if_neg e] at ho ⊢
    rw [upd_other _ (by omega)]
    exact h o ho
theorem logI_put {M : Pmap} {f : Nat → Int} {x : Int} {g g2 : Hd} (h : LogI M f) (hx : M x = some g) (hs : g.since ≠ 0 → g2.since ≠ 0) (hl : g.lsn ≤ g2.lsn) : LogI (upd M x (some g2)) f := fun o ho => by
  obtain ⟨k, h1, h2, h3⟩ := h o ho
  by_cases e : (o : Int) = x
  · rw [e] at h1 ⊢
    rw [hx] at h1
    cases h1
    exact ⟨g2, upd_same _ _ _, hs h2, by omega⟩
  · rw [upd_other _ e]
    exact ⟨k, h1, h2, h3⟩
theorem logI_new {M : Pmap} {f : Nat → Int} {x : Int} {g2 : Hd} (h : LogI M f) (hx : M x = none) : LogI (upd M x (some g2)) f := fun o ho => by
  obtain ⟨k, h1, h2, h3⟩ := h o ho
  by_cases e : (o : Int) = x
  · rw [e] at h1; rw [hx] at h1; cases h1
  · rw [upd_other _ e]
    exact ⟨k, h1, h2, h3⟩
theorem logI_clear {M : Pmap} {f : Nat → Int} {r : Nat} {g : Hd} (h : LogI M f) (hr : M (r : Int) = some g) (hs : g.since = 0) : LogI (upd M r none) f := fun o ho => by
  obtain ⟨k, h1, h2, h3⟩ := h o ho
  by_cases e : o = r
  · subst e; rw [hr] at h1; cases h1; exact absurd hs h2
  · rw [upd_other _ (by omega)]
    exact ⟨k, h1, h2, h3⟩
theorem flF_le (fl l : Int) : fl ≤ flF fl l ∧ l ≤ flF fl l := by unfold flF; split <;> omega
theorem flF_need {fl l : Int} (h : 0 ≤ fl) : (if fl < needV fl l then needV fl l else fl) = flF fl l := by
  unfold needV flF
  by_cases e : l ≤ fl
  · rw [if_pos e, if_pos e, if_neg (by omega)]
  · rw [if_neg e, if_neg e, if_pos (by omega)]
theorem log_le {M : Pmap} {f : Nat → Int} {r : Nat} {g : Hd} {fl : Int} (h : LogI M f) (hr : M (r : Int) = some g) (h0 : 0 ≤ fl) : f r ≤ flF fl g.lsn := by
  have := flF_le fl g.lsn
  by_cases e : f r = 0
  · omega
  · obtain ⟨k, h1, _, h3⟩ := h r e
    rw [hr] at h1; cases h1; omega
/-- What Get means for the law. -/
theorem get_log {M : Pmap} {n : Nat} {fr us fl x : Int} {hit wr : Bool} {out need er : Int} {M' : Pmap} {n' : Nat} {us' fl' : Int} {f : Nat → Int} (h : GetO M n fr us fl x hit wr out need er M' n' us' fl') (hi : LogI M f) (h0 : 0 ≤ fl) (hn : (n : Int) ≤ fr) (hf : 1 ≤ fr) (hk : ∀ x g, M x = some g → 1 ≤ x ∧ x ≤ 4096) :
    (er = 0 ∧ wr = true ∧ ∃ o : Nat, out = o ∧ 1 ≤ o ∧ o ≤ 4096 ∧ f o ≤ fl' ∧ 0 ≤ fl' ∧ (if fl < need then need else fl) = fl' ∧ LogI M' (upf f o 0) ∧ (n' : Int) ≤ fr) ∨ ((er ≠ 0 ∨ wr = false) ∧ fl' = fl ∧ LogI M' f ∧ (n' : Int) ≤ fr) := by
  rcases h with h | h | h | h | h
  · obtain ⟨_, _, rfl, _, _, _, rfl, rfl, _, rfl⟩ := h
    exact .inr ⟨.inr rfl, rfl, hi, hn⟩
  · obtain ⟨_, g, hg, _, rfl, _, _, _, rfl, rfl, _, rfl⟩ := h
    exact .inr ⟨.inr rfl, rfl, logI_put hi hg (fun h => h) (Int.le_refl _), hn⟩
  · obtain ⟨_, hg, _, _, rfl, _, _, _, rfl, rfl, _, rfl⟩ := h
    exact .inr ⟨.inr rfl, rfl, logI_new hi hg, by omega⟩
  · obtain ⟨_, _, _, _, _, rfl, _, _, _, rfl, rfl, _, rfl⟩ := h
    exact .inr ⟨.inr rfl, rfl, hi, hn⟩
  · obtain ⟨_, hx, _, r, g, hr, _, _, _, rfl, rfl, rfl, rfl, rfl, rfl, _, rfl⟩ := h
    have hkr := hk _ _ hr
    obtain ⟨o, rfl⟩ : ∃ o : Nat, out = o := ⟨out.toNat, by omega⟩
    have hxo : x ≠ (o : Int) := fun e => by rw [e] at hx; rw [hx] at hr; cases hr
    have hxu : (upd M (o : Int) none) x = none := by rw [upd_other _ hxo]; exact hx
    by_cases hs : g.since = 0
    · refine .inr ⟨.inr (by simp [hs]), if_pos hs, logI_new (logI_clear hi hr hs) hxu, by omega⟩
    · refine .inl ⟨rfl, by simp [hs], o, rfl, by omega, by omega, ?_, ?_, ?_, logI_new (logI_del hi) hxu, by omega⟩
      · unfold lgF; rw [if_neg hs]; exact log_le hi hr h0
      · unfold lgF; rw [if_neg hs]; have := flF_le fl g.lsn; omega
      · unfold lgN lgF; rw [if_neg hs, if_neg hs]; exact flF_need h0
theorem clean_log {M : Pmap} {x fl : Int} {f : Nat → Int} (hi : LogI M f) (h0 : 0 ≤ fl) (hk : ∀ x g, M x = some g → 1 ≤ x ∧ x ≤ 4096) :
    (clE M x = 0 ∧ ∃ o : Nat, x = o ∧ 1 ≤ o ∧ o ≤ 4096 ∧ f o ≤ clF M x fl ∧ 0 ≤ clF M x fl ∧ (if fl < clN M x fl then clN M x fl else fl) = clF M x fl ∧ LogI (clM M x) (upf f o 0)) ∨ (clE M x ≠ 0 ∧ clF M x fl = fl ∧ LogI (clM M x) f) := by
  cases hm : M x with
  | none =>
    have e1 : clE M x = 6 := by unfold clE; rw [hm]
    have e3 : clF M x fl = fl := by unfold clF; rw [hm]
    have e4 : clM M x = M := by unfold clM; rw [hm]
    rw [e1, e3, e4]
    exact .inr ⟨by decide, rfl, hi⟩
  | some g =>
    by_cases hs : g.since = 0
    · have e1 : clE M x = 7 := by unfold clE; rw [hm]; exact if_pos hs
      have e3 : clF M x fl = fl := by unfold clF; rw [hm]; exact if_pos hs
      have e4 : clM M x = M := by unfold clM; rw [hm]; exact if_pos hs
      rw [e1, e3, e4]
      exact .inr ⟨by decide, rfl, hi⟩
    · have e1 : clE M x = 0 := by unfold clE; rw [hm]; exact if_neg hs
      have e2 : clN M x fl = needV fl g.lsn := by unfold clN; rw [hm]; exact if_neg hs
      have e3 : clF M x fl = flF fl g.lsn := by unfold clF; rw [hm]; exact if_neg hs
      have e4 : clM M x = upd M x (some ⟨g.pins, g.lsn, 0, g.used⟩) := by unfold clM; rw [hm]; exact if_neg hs
      have e5 := flF_need (fl := fl) (l := g.lsn) h0
      rw [← e2] at e5
      rw [e1, e3, e4]
      have hkr := hk _ _ hm
      obtain ⟨o, rfl⟩ : ∃ o : Nat, x = o := ⟨x.toNat, by omega⟩
      refine .inl ⟨rfl, o, rfl, by omega, by omega, log_le hi hm h0, ?_, e5, logI_clean hi _⟩
      have := flF_le fl g.lsn; omega
theorem unpin_log {M : Pmap} {x : Int} {f : Nat → Int} (hi : LogI M f) : LogI (unM M x) f := by
  unfold unM
  split
  · rename_i h
    obtain ⟨g, hm, hg, _⟩ := pin_ok h
    rw [hg]
    exact logI_put hi hm (fun h => h) (Int.le_refl _)
  · exact hi
theorem dirty_log {M : Pmap} {x l : Int} {f : Nat → Int} (hi : LogI M f) (hk : ∀ x g, M x = some g → 1 ≤ x ∧ x ≤ 4096) :
    (diE M x l = 0 ∧ ∃ o : Nat, x = o ∧ 1 ≤ o ∧ o ≤ 4096 ∧ LogI (diM M x l) f ∧ LogI (diM M x l) (upf f o l)) ∨ ((diE M x l = 1 ∨ diE M x l = 6 ∨ diE M x l = 7) ∧ LogI (diM M x l) f) := by
  by_cases h : diE M x l = 0
  · have hl : 1 ≤ l ∧ l ≤ 1099511627776 := by
      unfold diE at h
      split at h
      · assumption
      · exact absurd h (by decide)
    have hp : pinE M x = 0 := by unfold diE at h; rw [if_pos hl] at h; exact h
    obtain ⟨g, hm, hg, _⟩ := pin_ok hp
    have hkr := hk _ _ hm
    obtain ⟨o, rfl⟩ : ∃ o : Nat, x = o := ⟨x.toNat, by omega⟩
    have e : diM M (o : Int) l = upd M (o : Int) (some (diH g l)) := by unfold diM; rw [if_pos h, hg]
    have hs2 : (diH g l).since ≠ 0 := by unfold diH; dsimp only; split <;> omega
    have hi2 : LogI (upd M (o : Int) (some (diH g l))) f := logI_put hi hm (fun _ => hs2) (by unfold diH; dsimp only; omega)
    refine .inl ⟨h, o, rfl, by omega, by omega, by rw [e]; exact hi2, ?_⟩
    rw [e]
    intro q hq
    unfold upf at hq ⊢
    by_cases eq : q = o
    · subst eq
      rw [if_pos rfl]
      exact ⟨_, upd_same _ _ _, hs2, by unfold diH; dsimp only; omega⟩
    · rw [if_neg eq] at hq ⊢
      exact hi2 q hq
  · refine .inr ⟨?_, ?_⟩
    · unfold diE pinE at h ⊢
      split at h
      · rename_i hl
        rw [if_pos hl]
        cases hm : M x with
        | none => exact .inr (.inl rfl)
        | some g =>
          rw [hm] at h
          dsimp only at h ⊢
          by_cases hp : g.pins = 0
          · exact .inr (.inr (if_pos hp))
          · exact absurd (if_neg hp) h
      · rename_i hl
        exact .inl (if_neg hl)
    unfold diM
    rw [if_neg h]
    exact hi
end Go.Proofs.Ytlcdkgbjlkoahaa
