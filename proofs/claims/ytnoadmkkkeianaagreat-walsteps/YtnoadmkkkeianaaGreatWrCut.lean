
/- A log is cut, whatever is flushed. -/
import Derived.Test.YtnoadmkkkeianaaGreatWlCut
namespace Go.Proofs.YtnoadmkkkeianaaGreat
open Go.RowKit Crcm

set_option maxRecDepth 100000 in
set_option maxHeartbeats 2000000 in
theorem cut_yesF (n : Nat) (lb : Nat) (rv : Value) (ls : List Rec) (fl : Int) (w : World) (h : Lg w lb rv ls fl) (hm : ls.length ≤ 65536) (hn : n ≤ ls.length) (mf : Int) (hmf : min fl (n : Int) = mf) :
    Calls Tryz.prog 8 #[.pointer (some ⟨lb, 0, none⟩), .int .i64 (n : Int)] w fun e w' => e = .returned (.int .i64 0) ∧
      ∃ rv', Lg w' lb rv' (ls.take n) mf ∧ Fr (lgS lb rv) w w' ∧ (rv'.ownBlock = rv.ownBlock ∨ ∃ g, rv'.ownBlock = some g ∧ w.heap.size ≤ g) := by
  have hrc := reaches_lg n lb rv ls fl w h hm
  rw [decide_eq_true (by omega)] at hrc
  obtain ⟨a, c, rfl, _, _⟩ := h.has.slice
  have FD : Fr (fun _ => False) w w.drew := Fr.drew (Fr.refl _ _)
  obtain ⟨k0, k1, z0, z1⟩ := cell_of_two (h.same FD).box
  have hde := delete_any _ n ls.length ls rfl hn hm w.drew (h.has.fr FD (fun _ _ f => f))
  have HTL : Hid ((ls.take n).length = n) := by show _ = _; rw [List.length_take]; omega
  have HHB : Hid (∀ w5 rv' , Has w5 8 rv' n ((ls.take n).flatMap recC) → rv'.ownBlock = (Value.slice a ls.length c).ownBlock → Fr (fun k => (Value.slice a ls.length c).ownBlock = some k ∧ 0 < 1) w.drew w5 → w5.heap[lb]? = some (.cells #[.slice a ls.length c, .int .i64 fl] 53 (0, 0)) ∧ Lg (w5.setCell ⟨lb, 0, none⟩ rv') lb rv' (ls.take n) fl ∧ Fr (lgS lb (.slice a ls.length c)) w (w5.setCell ⟨lb, 0, none⟩ rv')) := fun w5 rv' hh ho f => by
    have hb := (h.same FD).box
    have hp := h.push FD f (ls' := ls.take n) (by rw [HTL.out]; exact hh) (.inl ho)
    exact ⟨by rw [f.block lb (lt_of_block hb) (fun e => by have := h.own lb e.1; omega)]; exact hb, hp.1, hp.2.1⟩
  have h00 : ¬ ((n : Int) < 0) := by omega
  clear hm hn h
  go_enter Tryz.func8, Tryz.ntmps8
  go_wp2_with (go_at_call 25; refine hrc.mono ?_; rintro e w' ⟨rfl, rfl⟩)
  clear hrc
  go_region_law
    ((refine step_of (by rfl) ?_; go_simp; go_at_call 26; refine hde.mono ?_; rintro e w5 ⟨rv', rfl, hown, hob, hfr⟩; obtain ⟨a', c', rfl, _, _⟩ := hown.slice; obtain ⟨hb5, hlg, hff⟩ := HHB.out _ _ hown hob hfr; obtain ⟨k5, k6, z5, z6⟩ := cell_of_two hb5))
  all_goals
    obtain ⟨W6, hW6⟩ : ∃ W, W = w5.setCell ⟨lb, 0, none⟩ (.slice a' n c') := ⟨_, rfl⟩
    rw [← hW6] at hlg hff ⊢
    clear hb5 k5 k6 z5 z6 hW6 hown hfr
    obtain ⟨j0, j1, y0, y1⟩ := cell_of_two hlg.box
    obtain ⟨l7, f7⟩ := hlg.flush mf
    clear hlg
    go_wp2
    all_goals
      go_ret
      exact ⟨rfl, _, l7, hff.trans f7 (fun i _ e => .inl e), .inl hob⟩
end Go.Proofs.YtnoadmkkkeianaaGreat
