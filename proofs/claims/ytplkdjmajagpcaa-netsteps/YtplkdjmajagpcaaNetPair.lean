/- A net beside the document's net. -/
import Derived.Test.YtplkdjmajagpcaaRefNet2
namespace Go.Proofs.Ytplkdjmajagpcaa
open Go.RowKit

structure Pr (w0 w : World) (nb : Nat) (nodes : Int) (nv : Value) (ms : List Msg) (rb : Nat) (rv : Value) (R : List Say) : Prop where
  net : NetA w0 w nb nodes nv ms
  ref : RN w rb nodes rv R
  low : ∀ k, rnS rb rv k → w0.heap.size ≤ k
  apart : ∀ k, rnS rb rv k → ¬ netS nb nv k
  off : ∀ m ∈ ms, ∀ b o, m.a = some ⟨b, o, none⟩ → m.l ≠ [] → ¬ rnS rb rv b
section
variable {w0 w w' : World} {nb : Nat} {nodes : Int} {nv nv' : Value} {ms ms' : List Msg} {rb : Nat} {rv rv' : Value} {R R' : List Say}
theorem Pr.same (h : Pr w0 w nb nodes nv ms rb rv R) (f : Fr (fun _ => False) w w') : Pr w0 w' nb nodes nv ms rb rv R := ⟨h.net.same f, h.ref.same f, h.low, h.apart, h.off⟩
theorem Pr.goN (h : Pr w0 w nb nodes nv ms rb rv R) (k : Net w' nb nodes nv' ms') (f : Fr (netS nb nv) w w') (o : nv'.ownBlock = nv.ownBlock ∨ ∃ g, nv'.ownBlock = some g ∧ w.heap.size ≤ g)
    (hnew : ∀ m ∈ ms', m ∈ ms ∨ ∀ b off, m.a = some ⟨b, off, none⟩ → w.heap.size ≤ b) : Pr w0 w' nb nodes nv' ms' rb rv R := by
  refine ⟨h.net.step k f o, h.ref.framed f h.apart, h.low, fun j hj e => ?_, fun m hm b off ha hl e => ?_⟩
  · rcases netS_step o e with e2 | e2
    · exact h.apart j hj e2
    · have := h.ref.lt hj; omega
  · rcases hnew m hm with h1 | h1
    · exact h.off m h1 b off ha hl e
    · have := h1 b off ha; have := h.ref.lt e; omega
theorem Pr.goR (h : Pr w0 w nb nodes nv ms rb rv R) (k : RN w' rb nodes rv' R') (f : Fr (rnS rb rv) w w') (o : ∀ k, rnS rb rv' k → rnS rb rv k ∨ w.heap.size ≤ k) : Pr w0 w' nb nodes nv ms rb rv' R' := by
  refine ⟨⟨h.net.net.framed f (fun j hj e => h.apart j e hj) h.off, h.net.low, h.net.fr.above f h.low⟩, k, fun j hj => ?_, fun j hj e => ?_, fun m hm b off ha hl e => ?_⟩
  · rcases o j hj with e | e
    · exact h.low j e
    · have := h.net.fr.size; omega
  · rcases o j hj with e2 | e2
    · exact h.apart j e2 e
    · have := h.net.net.lt e; omega
  · rcases o b e with e2 | e2
    · exact h.off m hm b off ha hl e2
    · have := (h.net.net.bytes m hm).1.lt ha hl; omega
/-- A block that is neither net's. -/
def Oth (nb : Nat) (nv : Value) (rb : Nat) (rv : Value) (b : Nat) : Prop := ¬ netS nb nv b ∧ ¬ rnS rb rv b
theorem Oth.goN {b : Nat} (h : Oth nb nv rb rv b) (hb : b < w.heap.size) (o : nv'.ownBlock = nv.ownBlock ∨ ∃ g, nv'.ownBlock = some g ∧ w.heap.size ≤ g) : Oth nb nv' rb rv b := ⟨fun e => by
    rcases netS_step o e with e2 | e2
    · exact h.1 e2
    · omega, h.2⟩
theorem Oth.goR {b : Nat} (h : Oth nb nv rb rv b) (hb : b < w.heap.size) (o : ∀ k, rnS rb rv' k → rnS rb rv k ∨ w.heap.size ≤ k) : Oth nb nv rb rv' b := ⟨h.1, fun e => by
    rcases o b e with e2 | e2
    · exact h.2 e2
    · omega⟩
end

def sendR (nodes : Int) (R : List Say) (f t : Int) (l : List Nat) : Int × List Say :=
  if (f < 0 ∨ nodes ≤ f) ∨ (t < 0 ∨ nodes ≤ t) then (1, R) else if 65535 < l.length then (2, R) else if R.length = 1024 then (5, R) else (0, R ++ [(f, t, l)])
section
variable (nb : Nat) (nodes : Int) (nv : Value) (ms : List Msg) (rb : Nat) (rv : Value) (R : List Say) (w : World)
/-- What a send does, whatever is handed to it. -/
theorem send_all (h : Net w nb nodes nv ms) (hR : R = ms.map Msg.cont) (f t : Int) (a : Option Addr) (c : Nat) (l : List Nat) (hr : l.length ≤ 65535 → Row w a c l) : Calls Try.prog 29 #[.pointer (some ⟨nb, 0, none⟩), .int .i64 f, .int .i64 t, .slice a l.length c] w fun e w' => e = .returned (.int .i64 (sendR nodes R f t l).1) ∧
    ∃ nv' ms', Net w' nb nodes nv' ms' ∧ ms'.map Msg.cont = (sendR nodes R f t l).2 ∧ Fr (netS nb nv) w w' ∧ (nv'.ownBlock = nv.ownBlock ∨ ∃ g, nv'.ownBlock = some g ∧ w.heap.size ≤ g) ∧ (∀ m ∈ ms', m ∈ ms ∨ ∀ b off, m.a = some ⟨b, off, none⟩ → w.heap.size ≤ b) ∧ ms'.length ≤ ms.length + 1 := by
  have hl : R.length = ms.length := by rw [hR, List.length_map]
  unfold sendR
  by_cases h1 : (f < 0 ∨ nodes ≤ f) ∨ (t < 0 ∨ nodes ≤ t)
  · rw [if_pos h1]
    refine (send_arg nb nodes nv ms w h f t _ h1).mono ?_
    rintro e w' ⟨rfl, rfl⟩
    exact ⟨rfl, nv, ms, h, hR.symm, Fr.refl _ _, .inl rfl, fun m hm => .inl hm, by omega⟩
  · rw [if_neg h1]
    by_cases h2 : 65535 < l.length
    · rw [if_pos h2]
      refine (send_long nb nodes nv ms w h f t (by omega) (by omega) (by omega) (by omega) a l.length c h2).mono ?_
      rintro e w' ⟨rfl, rfl⟩
      exact ⟨rfl, nv, ms, h, hR.symm, Fr.refl _ _, .inl rfl, fun m hm => .inl hm, by omega⟩
    · rw [if_neg h2]
      by_cases h3 : R.length = 1024
      · rw [if_pos h3]
        refine (send_full nb nodes nv ms w h f t (by omega) (by omega) (by omega) (by omega) a c l (hr (by omega)) (by omega) (by omega)).mono ?_
        rintro e w' ⟨rfl, f1⟩
        exact ⟨rfl, nv, ms, h.same f1, hR.symm, f1.any, .inl rfl, fun m hm => .inl hm, by omega⟩
      · rw [if_neg h3]
        refine (send_ok nb nodes nv ms w h f t (by omega) (by omega) (by omega) (by omega) a c l (hr (by omega)) (by omega) (by have := h.len; omega)).mono ?_
        rintro e w' ⟨rfl, nv', a', c', k, f1, o, r⟩
        refine ⟨rfl, nv', _, k, by rw [List.map_append, hR]; rfl, f1, o, fun m hm => ?_, by simp⟩
        rcases List.mem_append.1 hm with h4 | h4
        · exact .inl h4
        · obtain rfl := List.mem_singleton.1 h4
          exact .inr r
theorem rsend_all (h : RN w rb nodes rv R) (f t : Int) (a : Option Addr) (c : Nat) (l : List Nat) (hr : l.length ≤ 65535 → Row w a c l) : Calls Try.prog 30 #[.pointer (some ⟨rb, 0, none⟩), .int .i64 f, .int .i64 t, .slice a l.length c] w fun e w' => e = .returned (.int .i64 (sendR nodes R f t l).1) ∧
    ∃ rv', RN w' rb nodes rv' (sendR nodes R f t l).2 ∧ Fr (rnS rb rv) w w' ∧ (∀ k, rnS rb rv' k → rnS rb rv k ∨ w.heap.size ≤ k) := by
  unfold sendR
  by_cases h1 : (f < 0 ∨ nodes ≤ f) ∨ (t < 0 ∨ nodes ≤ t)
  · rw [if_pos h1]
    refine (rsend_arg rb nodes rv R w h f t _ h1).mono ?_
    rintro e w' ⟨rfl, rfl⟩
    exact ⟨rfl, rv, h, Fr.refl _ _, fun _ hk => .inl hk⟩
  · rw [if_neg h1]
    by_cases h2 : 65535 < l.length
    · rw [if_pos h2]
      refine (rsend_long rb nodes rv R w h f t (by omega) (by omega) (by omega) (by omega) a l.length c h2).mono ?_
      rintro e w' ⟨rfl, rfl⟩
      exact ⟨rfl, rv, h, Fr.refl _ _, fun _ hk => .inl hk⟩
    · rw [if_neg h2]
      by_cases h3 : R.length = 1024
      · rw [if_pos h3]
        refine (rsend_full rb nodes rv R w h f t (by omega) (by omega) (by omega) (by omega) a l.length c (by omega) h3).mono ?_
        rintro e w' ⟨rfl, rfl⟩
        exact ⟨rfl, rv, h, Fr.refl _ _, fun _ hk => .inl hk⟩
      · rw [if_neg h3]
        refine (rsend_ok rb nodes rv R w h f t (by omega) (by omega) (by omega) (by omega) a c l (hr (by omega)) (by omega) (by have := h.len; omega)).mono ?_
        rintro e w' ⟨rfl, hq⟩
        exact ⟨rfl, hq⟩
end
end Go.Proofs.Ytplkdjmajagpcaa
