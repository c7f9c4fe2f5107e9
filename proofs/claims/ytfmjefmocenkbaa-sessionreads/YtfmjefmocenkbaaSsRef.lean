
/- The document's session. -/
import Derived.Test.YtfmjefmocenkbaaSsSes
namespace Go.Proofs.Ytfmjefmocenkbaa
open Go.RowKit

theorem nd_facts {i : Int} (h : ndB i = true) : decide (i < 0) = false ∧ decide (6 < i) = false := by
  simp [ndB, inB] at h
  constructor <;> simp <;> omega
theorem pt_facts {i : Int} (h : ptB i = true) : decide (i < 0) = false ∧ decide (1099511627776 < i) = false := by
  simp [ptB, inB] at h
  constructor <;> simp <;> omega
set_option maxRecDepth 100000 in
set_option maxHeartbeats 4000000 in
theorem ragain_any {b : Nat} {fs : List Int} (i : Int) (w : World) (h : Nums w b 48 fs) (hl : fs.length = 7) : Calls Try.prog 22 #[.pointer (some ⟨b, 0, none⟩), .int .i64 i] w fun e w' => e = .returned (.int .i64 (if ndB i = true then 0 else 1)) ∧ NuTo w b 48 (agF fs i) w' := by
  have HN : Hid (Nums w b 48 fs) := h
  cases e1 : ndB i with
  | false =>
    rw [if_neg (by simp), show agF fs i = fs by simp [agF, e1]]
    have hn : i < 0 ∨ 6 < i := by simp [ndB, inB] at e1; omega
    clear e1
    by_cases g : i < 0
    · clear hn
      go_enter Try.func22, Try.ntmps22
      go_wp2
      go_ret
      exact ⟨rfl, HN.out, Fr.refl _ _⟩
    · have g1 : decide (i < 0) = false := by simpa using g
      have g2 : 6 < i := by omega
      clear hn
      go_enter Try.func22, Try.ntmps22
      go_wp2
      go_ret
      exact ⟨rfl, HN.out, Fr.refl _ _⟩
  | true =>
    rw [if_pos rfl, show agF fs i = fs.set i.toNat 0 by simp [agF, e1]]
    obtain ⟨k, rfl, hk⟩ := ndB_nat e1
    obtain ⟨g1, g2⟩ := nd_facts e1
    obtain ⟨x, hx⟩ : ∃ x, fs[k]? = some x := ⟨_, List.getElem?_eq_getElem (by omega)⟩
    obtain ⟨c0, c1⟩ := h.at_ hx
    have HK : Hid (NuTo w b 48 (fs.set k 0) (w.setCell ⟨b, k, none⟩ (.int .i64 0))) := h.set k 0
    rw [Int.toNat_natCast]
    have g3 : decide (6 < k) = false := by simp; omega
    clear h hl hx e1
    go_enter Try.func22, Try.ntmps22
    go_wp2
    go_ret
    exact ⟨rfl, HK.out⟩
set_option maxRecDepth 100000 in
set_option maxHeartbeats 4000000 in
theorem rread_any {b : Nat} {fs : List Int} (i p : Int) (w : World) (h : Nums w b 48 fs) (hl : fs.length = 7) : Calls Try.prog 24 #[.pointer (some ⟨b, 0, none⟩), .int .i64 i, .int .i64 p] w fun e w' => e = .returned (.tuple #[.bool (rdB fs i p), .int .i64 (rdE i p)]) ∧ NuTo w b 48 (rdF fs i p) w' := by
  have HN : Hid (Nums w b 48 fs) := h
  cases e1 : ndB i with
  | false =>
    have e3 : rdB fs i p = false := by simp [rdB, e1]
    rw [show rdE i p = 1 by simp [rdE, e1], e3, show rdF fs i p = fs by simp [rdF, e3]]
    have hn : i < 0 ∨ 6 < i := by simp [ndB, inB] at e1; omega
    clear e1 e3
    by_cases g : i < 0
    · clear hn
      go_enter Try.func24, Try.ntmps24
      go_wp2
      go_ret2
      exact ⟨rfl, HN.out, Fr.refl _ _⟩
    · have g1 : decide (i < 0) = false := by simpa using g
      have g2 : 6 < i := by omega
      clear hn
      go_enter Try.func24, Try.ntmps24
      go_wp2
      go_ret2
      exact ⟨rfl, HN.out, Fr.refl _ _⟩
  | true =>
    obtain ⟨k, rfl, hk⟩ := ndB_nat e1
    obtain ⟨g1, g2⟩ := nd_facts e1
    have g3 : decide (6 < k) = false := by simp; omega
    cases e2 : ptB p with
    | false =>
      have e3 : rdB fs k p = false := by simp [rdB, e2]
      rw [show rdE k p = 1 by simp [rdE, e2], e3, show rdF fs k p = fs by simp [rdF, e3]]
      have hn : p < 0 ∨ 1099511627776 < p := by simp [ptB, inB] at e2; omega
      clear e1 e2 e3
      by_cases g : p < 0
      · clear hn
        go_enter Try.func24, Try.ntmps24
        go_wp2
        go_ret2
        exact ⟨rfl, HN.out, Fr.refl _ _⟩
      · have g4 : decide (p < 0) = false := by simpa using g
        have g5 : 1099511627776 < p := by omega
        clear hn
        go_enter Try.func24, Try.ntmps24
        go_wp2
        go_ret2
        exact ⟨rfl, HN.out, Fr.refl _ _⟩
    | true =>
      obtain ⟨g4, g5⟩ := pt_facts e2
      rw [show rdE k p = 0 by simp [rdE, e1, e2]]
      have e4 : rdB fs k p = !decide (p < flN fs k) := by simp [rdB, e1, e2]
      obtain ⟨x, hx⟩ : ∃ x, fs[k]? = some x := ⟨_, List.getElem?_eq_getElem (by omega)⟩
      rw [show flN fs k = x by simp [flN, hx]] at e4
      obtain ⟨c0, c1⟩ := h.at_ hx
      have HK : Hid (NuTo w b 48 (fs.set k p) (w.setCell ⟨b, k, none⟩ (.int .i64 p))) := h.set k p
      by_cases hlt : p < x
      · have e3 : rdB fs k p = false := by rw [e4]; simp [hlt]
        rw [e3, show rdF fs k p = fs by simp [rdF, e3]]
        clear e1 e2 e3 e4 h hl hx
        go_enter Try.func24, Try.ntmps24
        go_wp2
        go_ret2
        exact ⟨rfl, HN.out, Fr.refl _ _⟩
      · have e3 : rdB fs k p = true := by rw [e4]; simp; omega
        have hd : decide (p < x) = false := by simpa using hlt
        rw [e3, show rdF fs k p = fs.set k p by simp [rdF, e3]]
        clear e1 e2 e3 e4 h hl hx
        go_enter Try.func24, Try.ntmps24
        go_wp2
        go_ret2
        exact ⟨rfl, HK.out⟩
end Go.Proofs.Ytfmjefmocenkbaa
