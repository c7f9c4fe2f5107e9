
/- Rows of numbers that are alike. -/
import Derived.Test.YtneniagingoleaaPrMore
import Derived.Test.YtneniagingoleaaPlPins
namespace Go.Proofs.Ytneniagingoleaa
open Go.RowKit

theorem has_ir {w : World} {v : Value} {ts : List Int} (h : Has w 1 v ts.length (intC ts)) : ∃ a c, v = .slice a ts.length c ∧ Ir w 0 a c ts := by
  obtain ⟨a, c, rfl, h1, h2⟩ := h.slice
  refine ⟨a, c, rfl, h1, by unfold maxLen at h2; omega, ?_⟩
  rcases Nat.eq_zero_or_pos ts.length with h0 | h0
  · exact .inl (List.eq_nil_of_length_eq_zero h0)
  · obtain ⟨g, cap, e, hg, _, _, _, hr⟩ := h.form h0
    simp only [Value.slice.injEq, true_and] at e
    obtain ⟨rfl, rfl⟩ := e
    refine .inr ⟨g, rfl, Nat.zero_le _, hg, fun i x hx => ?_⟩
    have := hr i (.int .i64 x) (by unfold intC; rw [List.getElem?_map, hx]; rfl)
    rwa [Nat.zero_add] at this
set_option maxRecDepth 100000 in
set_option maxHeartbeats 1000000 in
theorem plain_ints (a1 a2 : Option Addr) (c1 c2 B1 B2 : Nat) (l : List Int) (w : World) (r1 : Ir w B1 a1 c1 l) (r2 : Ir w B2 a2 c2 l) :
    Calls Try.prog 13 #[.slice a1 l.length c1, .slice a2 l.length c2] w fun e w' => e = .returned (.bool true) ∧ Fr (fun _ => False) w w' := by
  have l1 := r1.le
  have m1 := r1.max
  have l2 := r2.le
  have m2 := r2.max
  have H1 : Hid (∀ W, Fr (fun _ => False) w W → Ir W B1 a1 c1 l) := fun W f => r1.fr f (fun _ _ _ f => f)
  have H2 : Hid (∀ W, Fr (fun _ => False) w W → Ir W B2 a2 c2 l) := fun W f => r2.fr f (fun _ _ _ f => f)
  clear r1 r2
  go_enter Try.func13, Try.ntmps13
  go_wp2
  go_loopw [13] (fun i wr => ∃ k : Nat, k ≤ l.length ∧ i = .int .i64 k ∧ Fr (fun _ => False) w wr) (fun i _ => l.length - (intOf i).toNat)
  case atStart => exact ⟨0, by omega, rfl, Fr.refl _ _⟩
  case round =>
    obtain ⟨k, hk, rfl, hf⟩ := hrel
    by_cases hlt : k < l.length
    · obtain ⟨b1, rfl, _, hb1, hc1⟩ := (H1.out _ hf).some (by omega)
      obtain ⟨b2, rfl, _, hb2, hc2⟩ := (H2.out _ hf).some (by omega)
      obtain ⟨s, hs⟩ : ∃ s, l[k]? = some s := ⟨_, List.getElem?_eq_getElem hlt⟩
      have k1 := hc1 k s hs
      have k2 := hc2 k s hs
      clear hs hc1 hc2
      have i1 : (k : Int) < (l.length : Int) := by omega
      go_wp2
      go_quiet (fail)
      go_wp2
      go_roundw
      case rel => exact ⟨k + 1, by omega, by go_num, hf.drewN _⟩
      case measure => simp [intOf]; omega
    · go_wp2
      go_ret
      exact ⟨rfl, hf⟩
end Go.Proofs.Ytneniagingoleaa
