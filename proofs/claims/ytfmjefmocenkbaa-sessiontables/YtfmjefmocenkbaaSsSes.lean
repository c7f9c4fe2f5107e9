
/- Sessions. -/
import Derived.Test.YtfmjefmocenkbaaSsSet
namespace Go.Proofs.Ytfmjefmocenkbaa
open Go.RowKit

def ndB (i : Int) : Bool := inB i 0 6
def ptB (p : Int) : Bool := inB p 0 1099511627776
def flN (fs : List Int) (i : Int) : Int := fs.getD i.toNat 0
def rdE (i p : Int) : Int := if (ndB i && ptB p) = true then 0 else 1
def rdB (fs : List Int) (i p : Int) : Bool := ndB i && ptB p && !decide (p < flN fs i)
def rdF (fs : List Int) (i p : Int) : List Int := if rdB fs i p = true then fs.set i.toNat p else fs
def agF (fs : List Int) (i : Int) : List Int := if ndB i = true then fs.set i.toNat 0 else fs
theorem rdF_len (fs : List Int) (i p : Int) : (rdF fs i p).length = fs.length := by unfold rdF; split <;> simp
theorem agF_len (fs : List Int) (i : Int) : (agF fs i).length = fs.length := by unfold agF; split <;> simp
theorem ndB_nat {i : Int} (h : ndB i = true) : ∃ k : Nat, i = k ∧ k < 7 := by
  simp [ndB, inB] at h
  exact ⟨i.toNat, by omega, by omega⟩
theorem isNode_any (i : Int) (w : World) : Calls Try.prog 28 #[.int .i64 i] w fun e w' => e = .returned (.bool (ndB i)) ∧ w = w' := by
  have h := within_any i 0 6 w
  rw [show inB i 0 6 = ndB i from rfl] at h
  go_enter Try.func28, Try.ntmps28
  go_wp2_with (go_at_call 26; refine h.mono ?_; rintro e w' ⟨rfl, rfl⟩)
  go_ret
  exact ⟨rfl, rfl⟩
theorem begin_any (w : World) : Calls Try.prog 20 #[] w fun e w' => ∃ b, e = .returned (.pointer (some ⟨b, 0, none⟩)) ∧ b = w.heap.size ∧ Nums w' b 69 [0, 0, 0, 0, 0, 0, 0] ∧ Fr (fun _ => False) w w' := by
  go_enter Try.func20, Try.ntmps20
  go_wp2
  go_ret
  exact ⟨_, rfl, rfl, heap_alloc_new w _, Fr.box _ _⟩
set_option maxRecDepth 100000 in
set_option maxHeartbeats 2000000 in
theorem floor_any {b : Nat} {fs : List Int} (i : Int) (w : World) (h : Nums w b 69 fs) (hl : fs.length = 7) : Calls Try.prog 25 #[.pointer (some ⟨b, 0, none⟩), .int .i64 i] w fun e w' => e = .returned (.int .i64 (if ndB i = true then flN fs i else 0)) ∧ w = w' := by
  have hn := isNode_any i w
  cases e1 : ndB i with
  | false =>
    rw [e1] at hn
    rw [if_neg (by simp)]
    go_enter Try.func25, Try.ntmps25
    go_wp2_with (go_at_call 28; refine hn.mono ?_; rintro e w' ⟨rfl, rfl⟩)
    go_ret
    exact ⟨rfl, rfl⟩
  | true =>
    rw [e1] at hn
    rw [if_pos rfl]
    obtain ⟨k, rfl, hk⟩ := ndB_nat e1
    obtain ⟨x, hx⟩ : ∃ x, fs[k]? = some x := ⟨_, List.getElem?_eq_getElem (by omega)⟩
    rw [show flN fs k = x by simp [flN, hx]]
    obtain ⟨c0, _⟩ := h.at_ hx
    clear h hl hx e1
    go_enter Try.func25, Try.ntmps25
    go_wp2_with (go_at_call 28; refine hn.mono ?_; rintro e w' ⟨rfl, rfl⟩)
    go_ret
    exact ⟨rfl, rfl⟩
theorem floor_nil (i : Int) (w : World) : Calls Try.prog 25 #[.pointer none, .int .i64 i] w fun e w' => e = .returned (.int .i64 0) ∧ w = w' := by
  go_enter Try.func25, Try.ntmps25
  go_wp2
  go_ret
  exact ⟨rfl, rfl⟩
def NuTo (w : World) (b : Nat) (t : TypeId) (fs : List Int) (w' : World) : Prop := Nums w' b t fs ∧ Fr (fun i => i = b) w w'
set_option maxRecDepth 100000 in
set_option maxHeartbeats 2000000 in
theorem again_any {b : Nat} {fs : List Int} (i : Int) (w : World) (h : Nums w b 69 fs) (hl : fs.length = 7) : Calls Try.prog 21 #[.pointer (some ⟨b, 0, none⟩), .int .i64 i] w fun e w' => e = .returned (.int .i64 (if ndB i = true then 0 else 1)) ∧ NuTo w b 69 (agF fs i) w' := by
  have hn := isNode_any i w
  have HN : Hid (Nums w b 69 fs) := h
  cases e1 : ndB i with
  | false =>
    rw [e1] at hn
    rw [if_neg (by simp), show agF fs i = fs by simp [agF, e1]]
    go_enter Try.func21, Try.ntmps21
    go_wp2_with (go_at_call 28; refine hn.mono ?_; rintro e w' ⟨rfl, rfl⟩)
    go_ret
    exact ⟨rfl, HN.out, Fr.refl _ _⟩
  | true =>
    rw [e1] at hn
    rw [if_pos rfl, show agF fs i = fs.set i.toNat 0 by simp [agF, e1]]
    obtain ⟨k, rfl, hk⟩ := ndB_nat e1
    obtain ⟨x, hx⟩ : ∃ x, fs[k]? = some x := ⟨_, List.getElem?_eq_getElem (by omega)⟩
    obtain ⟨c0, c1⟩ := h.at_ hx
    have HK : Hid (NuTo w b 69 (fs.set k 0) (w.setCell ⟨b, k, none⟩ (.int .i64 0))) := h.set k 0
    rw [Int.toNat_natCast]
    clear h hl hx e1
    go_enter Try.func21, Try.ntmps21
    go_wp2_with (go_at_call 28; refine hn.mono ?_; rintro e w' ⟨rfl, rfl⟩)
    go_ret
    exact ⟨rfl, HK.out⟩
theorem again_nil (i : Int) (w : World) : Calls Try.prog 21 #[.pointer none, .int .i64 i] w fun e w' => e = .returned (.int .i64 (if ndB i = true then 7 else 1)) ∧ w = w' := by
  have hn := isNode_any i w
  cases e1 : ndB i with
  | false =>
    rw [e1] at hn
    rw [if_neg (by simp)]
    clear e1
    go_enter Try.func21, Try.ntmps21
    go_wp2_with (go_at_call 28; refine hn.mono ?_; rintro e w' ⟨rfl, rfl⟩)
    go_ret
    exact ⟨rfl, rfl⟩
  | true =>
    rw [e1] at hn
    rw [if_pos rfl]
    clear e1
    go_enter Try.func21, Try.ntmps21
    go_wp2_with (go_at_call 28; refine hn.mono ?_; rintro e w' ⟨rfl, rfl⟩)
    go_ret
    exact ⟨rfl, rfl⟩
set_option maxRecDepth 100000 in
set_option maxHeartbeats 2000000 in
theorem read_nil (i p : Int) (w : World) : Calls Try.prog 23 #[.pointer none, .int .i64 i, .int .i64 p] w fun e w' => e = .returned (.tuple #[.bool false, .int .i64 (rdE i p)]) ∧ w = w' := by
  have hn := isNode_any i w
  have hp := within_any p 0 1099511627776 w
  rw [show inB p 0 1099511627776 = ptB p from rfl] at hp
  cases e1 : ndB i with
  | false =>
    rw [e1] at hn
    rw [show rdE i p = 1 by simp [rdE, e1]]
    clear e1
    go_enter Try.func23, Try.ntmps23
    go_wp2_with (go_at_call 28; refine hn.mono ?_; rintro e w' ⟨rfl, rfl⟩)
    go_ret2
    exact ⟨rfl, rfl⟩
  | true =>
    rw [e1] at hn
    cases e2 : ptB p with
    | false =>
      rw [e2] at hp
      rw [show rdE i p = 1 by simp [rdE, e2]]
      clear e1 e2
      go_enter Try.func23, Try.ntmps23
      go_wp2_with (first | (go_at_call 28; refine hn.mono ?_; rintro e w' ⟨rfl, rfl⟩) | (go_at_call 26; refine hp.mono ?_; rintro e w' ⟨rfl, rfl⟩))
      go_ret2
      exact ⟨rfl, rfl⟩
    | true =>
      rw [e2] at hp
      rw [show rdE i p = 0 by simp [rdE, e1, e2]]
      clear e1 e2
      go_enter Try.func23, Try.ntmps23
      go_wp2_with (first | (go_at_call 28; refine hn.mono ?_; rintro e w' ⟨rfl, rfl⟩) | (go_at_call 26; refine hp.mono ?_; rintro e w' ⟨rfl, rfl⟩))
      go_ret2
      exact ⟨rfl, rfl⟩
set_option maxRecDepth 100000 in
set_option maxHeartbeats 2000000 in
theorem read_any {b : Nat} {fs : List Int} (i p : Int) (w : World) (h : Nums w b 69 fs) (hl : fs.length = 7) : Calls Try.prog 23 #[.pointer (some ⟨b, 0, none⟩), .int .i64 i, .int .i64 p] w fun e w' => e = .returned (.tuple #[.bool (rdB fs i p), .int .i64 (rdE i p)]) ∧ NuTo w b 69 (rdF fs i p) w' := by
  have hn := isNode_any i w
  have hp := within_any p 0 1099511627776 w
  rw [show inB p 0 1099511627776 = ptB p from rfl] at hp
  have HN : Hid (Nums w b 69 fs) := h
  cases e1 : ndB i with
  | false =>
    rw [e1] at hn
    have e3 : rdB fs i p = false := by simp [rdB, e1]
    rw [show rdE i p = 1 by simp [rdE, e1], e3, show rdF fs i p = fs by simp [rdF, e3]]
    clear e1 e3
    go_enter Try.func23, Try.ntmps23
    go_wp2_with (go_at_call 28; refine hn.mono ?_; rintro e w' ⟨rfl, rfl⟩)
    go_ret2
    exact ⟨rfl, HN.out, Fr.refl _ _⟩
  | true =>
    rw [e1] at hn
    cases e2 : ptB p with
    | false =>
      rw [e2] at hp
      have e3 : rdB fs i p = false := by simp [rdB, e2]
      rw [show rdE i p = 1 by simp [rdE, e2], e3, show rdF fs i p = fs by simp [rdF, e3]]
      clear e1 e2 e3
      go_enter Try.func23, Try.ntmps23
      go_wp2_with (first | (go_at_call 28; refine hn.mono ?_; rintro e w' ⟨rfl, rfl⟩) | (go_at_call 26; refine hp.mono ?_; rintro e w' ⟨rfl, rfl⟩))
      go_ret2
      exact ⟨rfl, HN.out, Fr.refl _ _⟩
    | true =>
      rw [e2] at hp
      rw [show rdE i p = 0 by simp [rdE, e1, e2]]
      have e4 : rdB fs i p = !decide (p < flN fs i) := by simp [rdB, e1, e2]
      obtain ⟨k, rfl, hk⟩ := ndB_nat e1
      obtain ⟨x, hx⟩ : ∃ x, fs[k]? = some x := ⟨_, List.getElem?_eq_getElem (by omega)⟩
      rw [show flN fs k = x by simp [flN, hx]] at e4
      obtain ⟨c0, c1⟩ := h.at_ hx
      have HK : Hid (NuTo w b 69 (fs.set k p) (w.setCell ⟨b, k, none⟩ (.int .i64 p))) := h.set k p
      by_cases hlt : p < x
      · have e3 : rdB fs k p = false := by rw [e4]; simp [hlt]
        rw [e3, show rdF fs k p = fs by simp [rdF, e3]]
        clear e1 e2 e3 e4 h hl hx
        go_enter Try.func23, Try.ntmps23
        go_wp2_with (first | (go_at_call 28; refine hn.mono ?_; rintro e w' ⟨rfl, rfl⟩) | (go_at_call 26; refine hp.mono ?_; rintro e w' ⟨rfl, rfl⟩))
        go_ret2
        exact ⟨rfl, HN.out, Fr.refl _ _⟩
      · have e3 : rdB fs k p = true := by rw [e4]; simp; omega
        have hd : decide (p < x) = false := by simpa using hlt
        rw [e3, show rdF fs k p = fs.set k p by simp [rdF, e3]]
        clear e1 e2 e3 e4 h hl hx
        go_enter Try.func23, Try.ntmps23
        go_wp2_with (first | (go_at_call 28; refine hn.mono ?_; rintro e w' ⟨rfl, rfl⟩) | (go_at_call 26; refine hp.mono ?_; rintro e w' ⟨rfl, rfl⟩))
        go_ret2
        exact ⟨rfl, HK.out⟩
end Go.Proofs.Ytfmjefmocenkbaa
