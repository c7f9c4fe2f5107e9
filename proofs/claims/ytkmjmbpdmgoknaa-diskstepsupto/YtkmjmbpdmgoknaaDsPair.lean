
/- A disk beside the document's disk. -/
import Derived.Test.YtkmjmbpdmgoknaaDsW
import Derived.Test.YtkmjmbpdmgoknaaDsC
namespace Go.Proofs.Ytkmjmbpdmgoknaa
open Go.RowKit

section
variable (rb : Nat) (lv qv : Value) (A : List (Option Nat × Sec)) (B : List (Nat × Nat × Sec)) (w : World)
theorem dswrite_all (h : Rk w rb lv qv A B) (i : Int) (a : Option Addr) (c : Nat) (l : List Nat) (hr : l.length ≤ 65535 → Row w a c l) (hB : B.length ≤ 10000000) : Calls Try.prog 8 #[.pointer (some ⟨rb, 0, none⟩), .int .i64 i, .slice a l.length c] w fun e w' => e = .returned (.int .i64 (wrS (As A) (Bs B) i l).1) ∧
    ∃ qv' B', Rk w' rb lv qv' A B' ∧ Bs B' = (wrS (As A) (Bs B) i l).2 ∧ Fr (rkS rb lv qv) w w' ∧ (∀ k, rkS rb lv qv' k → rkS rb lv qv k ∨ w.heap.size ≤ k) ∧ (∀ k, secS A B' k → secS A B k ∨ w.heap.size ≤ k) := by
  unfold wrS
  rw [As_length]
  by_cases h1 : i < 0 ∨ (A.length : Int) ≤ i
  · rw [if_pos h1]
    refine (dswrite_none rb lv qv A B w h i h1 _).mono ?_
    rintro e w' ⟨rfl, rfl⟩
    exact ⟨rfl, qv, B, h, rfl, Fr.refl _ _, fun _ hk => .inl hk, fun _ hk => .inl hk⟩
  · rw [if_neg h1]
    obtain ⟨n, rfl⟩ : ∃ n : Nat, i = n := ⟨i.toNat, by omega⟩
    have hn : n < A.length := by omega
    by_cases h2 : 256 < l.length
    · rw [if_pos h2]
      refine (dswrite_long rb lv qv A B w h n hn a l.length c h2).mono ?_
      rintro e w' ⟨rfl, rfl⟩
      exact ⟨rfl, qv, B, h, rfl, Fr.refl _ _, fun _ hk => .inl hk, fun _ hk => .inl hk⟩
    · rw [if_neg h2]
      refine (dswrite_ok rb lv qv A B w h n hn a c l (hr (by omega)) (by omega) hB).mono ?_
      rintro e w' ⟨rfl, qv', d, f, o⟩
      refine ⟨rfl, qv', _, d, by rw [Bs, List.map_append, Int.toNat_natCast]; rfl, f, o, fun k hk => ?_⟩
      rcases hk with e | ⟨q, hq, rfl⟩
      · exact .inl (.inl e)
      · rcases List.mem_append.1 hq with h4 | h4
        · exact .inl (.inr ⟨q, h4, rfl⟩)
        · obtain rfl := List.mem_singleton.1 h4
          exact .inr (Nat.le_refl _)
theorem dscrash_all (h : Rk w rb lv qv A B) (keep torn : Int) : Calls Try.prog 10 #[.pointer (some ⟨rb, 0, none⟩), .int .i64 keep, .int .i64 torn] w fun e w' => e = .returned (.int .i64 (crS (As A) (Bs B) keep torn).1) ∧
    ∃ qv' A' B', Rk w' rb lv qv' A' B' ∧ As A' = (crS (As A) (Bs B) keep torn).2.1 ∧ Bs B' = (crS (As A) (Bs B) keep torn).2.2 ∧ Fr (rkS rb lv qv) w w' ∧ (∀ k, rkS rb lv qv' k → rkS rb lv qv k ∨ w.heap.size ≤ k) ∧ (∀ k, secS A' B' k → secS A B k ∨ w.heap.size ≤ k) := by
  unfold crS
  rw [Bs_length]
  by_cases h1 : keep < 0 ∨ (B.length : Int) < keep ∨ torn < 0 ∨ 256 < torn
  · rw [if_pos h1]
    refine (dscrash_no rb lv qv A B w h keep torn h1).mono ?_
    rintro e w' ⟨rfl, rfl⟩
    exact ⟨rfl, qv, A, B, h, rfl, rfl, Fr.refl _ _, fun _ hk => .inl hk, fun _ hk => .inl hk⟩
  · rw [if_neg h1]
    obtain ⟨k, rfl⟩ : ∃ k : Nat, keep = k := ⟨keep.toNat, by omega⟩
    obtain ⟨t, rfl⟩ : ∃ t : Nat, torn = t := ⟨torn.toNat, by omega⟩
    refine (dscrash_ok rb lv qv A B w h k t (by omega) (by omega)).mono ?_
    rintro e w' ⟨rfl, A', d, ea, f, s⟩
    refine ⟨rfl, _, A', [], d, by rw [Int.toNat_natCast, Int.toNat_natCast]; exact ea, rfl, f, fun k hk => ?_, s⟩
    rcases hk with e | e | e
    · exact .inl (.inl e)
    · exact .inl (.inr (.inl e))
    · cases e
end
structure Both (w0 w : World) (db : Nat) (lv wv : Value) (L : List Sec) (Q : List (Nat × Sec)) (rb : Nat) (lx qx : Value) (A : List (Option Nat × Sec)) (B : List (Nat × Nat × Sec)) : Prop where
  d : DkA w0 w db lv wv L Q
  r : Rk w rb lx qx A B
  low : ∀ k, rkS rb lx qx k → w0.heap.size ≤ k
  apart : ∀ k, dkS db lv wv k → ¬ rkS rb lx qx k
  off : ∀ k, dkS db lv wv k → ¬ secS A B k
section
variable {w0 w w' : World} {db : Nat} {lv wv wv' : Value} {L L' : List Sec} {Q Q' : List (Nat × Sec)} {rb : Nat} {lx qx qx' : Value} {A A' : List (Option Nat × Sec)} {B B' : List (Nat × Nat × Sec)}
theorem Both.same (h : Both w0 w db lv wv L Q rb lx qx A B) (f : Fr (fun _ => False) w w') : Both w0 w' db lv wv L Q rb lx qx A B := ⟨h.d.same f, h.r.same f, h.low, h.apart, h.off⟩
theorem Both.goD (h : Both w0 w db lv wv L Q rb lx qx A B) (n : Dk w' db lv wv' L' Q') (f : Fr (dkS db lv wv) w w') (o : Ow w db lv wv wv') : Both w0 w' db lv wv' L' Q' rb lx qx A B := by
  refine ⟨h.d.go n f o, h.r.framed f (fun k hk e => h.apart k e hk) (fun k hk e => h.off k e hk), h.low, fun k hk e => ?_, fun k hk e => ?_⟩
  · rcases o k hk with e2 | e2
    · exact h.apart k e2 e
    · have := h.r.lt e; omega
  · rcases o k hk with e2 | e2
    · exact h.off k e2 e
    · have := h.r.sec_lt e; omega
theorem Both.goR (h : Both w0 w db lv wv L Q rb lx qx A B) (n : Rk w' rb lx qx' A' B') (f : Fr (rkS rb lx qx) w w') (o : ∀ k, rkS rb lx qx' k → rkS rb lx qx k ∨ w.heap.size ≤ k) (s : ∀ k, secS A' B' k → secS A B k ∨ w.heap.size ≤ k) : Both w0 w' db lv wv L Q rb lx qx' A' B' := by
  refine ⟨⟨h.d.dk.framed f (fun k hk => h.apart k hk), h.d.low, h.d.fr.above f h.low⟩, n, fun k hk => ?_, fun k hk e => ?_, fun k hk e => ?_⟩
  · rcases o k hk with e | e
    · exact h.low k e
    · have := h.d.fr.size; omega
  · rcases o k e with e2 | e2
    · exact h.apart k hk e2
    · have := h.d.dk.lt hk; omega
  · rcases s k e with e2 | e2
    · exact h.off k hk e2
    · have := h.d.dk.lt hk; omega
end
end Go.Proofs.Ytkmjmbpdmgoknaa
