
/- What the document's own Seal and Open do. -/
import Derived.Test.YtaaedmacefiinaaSpeak
namespace Go.Proofs.Ytaaedmacefiinaa
open Go.RowKit Crcm

set_option maxRecDepth 100000 in
set_option maxHeartbeats 1000000 in
theorem refSeal_any (a : Option Addr) (n cap : Nat) (l : List Nat) (hn : n = l.length) (hsm : l.length + 4 ≤ 140737488355328) (w : World) (hr : Row w a cap l) :
    Calls Try.prog 44 #[.slice a n cap] w fun e w' => ∃ v', e = .returned v' ∧ Made w w' v' (l ++ le4 (crc l)) := by
  obtain ⟨i0, hi, hz0, hz1, hz2⟩ := info_parts info8
  subst hn
  have hcl := crc_lt hr.byte
  go_enter Try.func44, Try.ntmps44
  go_wp2_with (at_builtin; refine wpList_append_row _ rfl _ _ 26 26 5 rfl i0 Try.underlying26 Try.underlying26 hi hz0 hz1 hz2 w.heap.size (.slice none 0 0) [] rfl (World.ownsRow_nil _ _ _ _) a l.length cap l rfl rfl hr (by simp; omega) (Nat.le_refl _) ?_; intro a1 c1 w1 hown1 hgrow1 hat1)
  have hm1 : Mine w1 w.heap.size (.slice a1 l.length c1) l := by simpa using hown1
  have f1 : Fr (fun _ => False) w w1 := Fr.ofGrown hgrow1
  clear hown1 hat1
  refine (refSum_any a l.length cap l rfl _ (hr.same f1)).mono ?_
  rintro e w2 ⟨rfl, rfl⟩
  obtain ⟨cv, hcv⟩ : ∃ cv, cv = crc l := ⟨_, rfl⟩
  rw [← hcv] at hcl ⊢
  have HC : Hid (crc l = cv) := hcv.symm
  clear hcv
  go_wp2_with fail
  refine (refNum_any cv 4 (by omega) (by omega) _).mono ?_
  rintro e w3 ⟨v3, rfl, m3⟩
  obtain ⟨a3, c3, hv3, hr3⟩ := m3.own.row (le_octs 4 cv) (by simp [le_length])
  rw [le_length] at hv3
  rw [hv3]
  have hm3 : Mine w3 w.heap.size (.slice a1 l.length c1) l := hm1.fr m3.fr (fun _ _ f => f)
  have f3 : Fr (fun _ => False) w w3 := f1.false_trans m3.fr
  have hs3 := f3.size
  have hl4 := le_length 4 cv
  clear hv3 m3 hm1 hgrow1
  go_wp2_with (at_builtin; refine wpList_append_row _ rfl _ _ 26 26 5 rfl i0 Try.underlying26 Try.underlying26 hi hz0 hz1 hz2 w.heap.size (.slice a1 l.length c1) l rfl hm3 a3 4 c3 (le 4 cv) hl4.symm rfl hr3 (by omega) hs3 ?_; intro a6 c6 w6 hown6 hgrow6 hat6)
  go_ret
  refine ⟨_, rfl, ?_, f3.fresh hgrow6 (fun k e => (hm3.lt k e).1)⟩
  rw [HC.out, ← le_le4]
  rw [hl4] at hown6
  exact hown6

theorem Row.drew {w : World} {a : Option Addr} {cap : Nat} {l : List Nat} (h : Row w a cap l) : Row w.drew a cap l := h.same (Fr.refl (fun _ => False) w).drew

end Go.Proofs.Ytaaedmacefiinaa
