
/- Two rows of numbers that are the same. -/
import Derived.Test.YtfmjefmocenkbaaQuKit
import Derived.Deep.QuietTactic
import Derived.BigQuiet
namespace Go.Proofs.Ytfmjefmocenkbaa
open Go.RowKit

set_option maxRecDepth 100000 in
set_option maxHeartbeats 1000000 in
theorem plain_is (a1 a2 : Option Addr) (c1 c2 : Nat) (l : List Int) (w : World) (r1 : Is w a1 c1 l) (r2 : Is w a2 c2 l) :
    Calls Try.prog 11 #[.slice a1 l.length c1, .slice a2 l.length c2] w fun e w' => e = .returned (.bool true) ∧ Fr (fun _ => False) w w' := by
  have l1 := r1.le
  have m1 := r1.max
  have l2 := r2.le
  have m2 := r2.max
  have H1 : Hid (∀ W, Fr (fun _ => False) w W → Is W a1 c1 l) := fun W f => r1.same f
  have H2 : Hid (∀ W, Fr (fun _ => False) w W → Is W a2 c2 l) := fun W f => r2.same f
  clear r1 r2
  go_enter Try.func11, Try.ntmps11
  go_wp2
  go_loopw [13] (fun i wr => ∃ k : Nat, k ≤ l.length ∧ i = .int .i64 k ∧ Fr (fun _ => False) w wr) (fun i _ => l.length - (intOf i).toNat)
  case atStart => exact ⟨0, by omega, rfl, Fr.refl _ _⟩
  case round =>
    obtain ⟨k, hk, rfl, hf⟩ := hrel
    by_cases hlt : k < l.length
    · obtain ⟨b1, o1, rfl, hb1, hc1⟩ := (H1.out _ hf).some (by omega)
      obtain ⟨b2, o2, rfl, hb2, hc2⟩ := (H2.out _ hf).some (by omega)
      obtain ⟨s, hs⟩ : ∃ s, l[k]? = some s := ⟨_, List.getElem?_eq_getElem hlt⟩
      have k1 := hc1 k s hs
      have k2 := hc2 k s hs
      clear hs hc1 hc2
      have i1 : (k : Int) < (l.length : Int) := by omega
      go_wp2
      go_quiet (fail)
      go_wp2
      go_roundw
      case rel => exact ⟨k + 1, by omega, by go_num, hf.drewN _⟩
      case measure => simp [intOf]; omega
    · go_wp2
      go_ret
      exact ⟨rfl, hf⟩

end Go.Proofs.Ytfmjefmocenkbaa
