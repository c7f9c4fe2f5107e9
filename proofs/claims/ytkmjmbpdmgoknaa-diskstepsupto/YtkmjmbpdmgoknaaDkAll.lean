
/- What a disk's calls do, whatever they are handed. -/
import Derived.Test.YtkmjmbpdmgoknaaDkSpeak
namespace Go.Proofs.Ytkmjmbpdmgoknaa
open Go.RowKit

/-- The blocks of a disk behind a call are those ahead of it, and new ones. -/
def Ow (w : World) (db : Nat) (lv wv wv' : Value) : Prop := ∀ k, dkS db lv wv' k → dkS db lv wv k ∨ w.heap.size ≤ k
theorem Ow.refl (w : World) (db : Nat) (lv wv : Value) : Ow w db lv wv wv := fun _ h => .inl h
theorem Ow.empty (w : World) (db : Nat) (lv wv : Value) : Ow w db lv wv (.slice none 0 0) := fun k hk => by
  rcases hk with e | e | e
  · exact .inl (.inl e)
  · exact .inl (.inr (.inl e))
  · cases e
theorem DkA.go {w0 W w' : World} {db : Nat} {lv wv wv' : Value} {L L' : List Sec} {Q Q' : List (Nat × Sec)} (h : DkA w0 W db lv wv L Q) (n : Dk w' db lv wv' L' Q') (f : Fr (dkS db lv wv) W w') (o : Ow W db lv wv wv') : DkA w0 w' db lv wv' L' Q' :=
  ⟨n, (fun k hk => by
    rcases o k hk with e | e
    · exact h.low k e
    · have := h.fr.size; omega), h.fr.above f h.low⟩
/-- A row of bytes that a disk does not write. -/
structure Off (w : World) (db : Nat) (lv wv : Value) (a : Option Addr) (c : Nat) (l : List Nat) : Prop where
  row : Row w a c l
  far : ∀ b off, a = some ⟨b, off, none⟩ → l ≠ [] → ¬ dkS db lv wv b
theorem Off.go {w w' : World} {db : Nat} {lv wv wv' : Value} {a : Option Addr} {c : Nat} {l : List Nat} (h : Off w db lv wv a c l) (f : Fr (dkS db lv wv) w w') (o : Ow w db lv wv wv') : Off w' db lv wv' a c l :=
  ⟨h.row.fr f h.far, fun b off ha hl hk => by
    rcases o b hk with e | e
    · exact h.far b off ha hl e
    · have := h.row.lt ha hl; omega⟩
theorem Off.same {w w' : World} {db : Nat} {lv wv : Value} {a : Option Addr} {c : Nat} {l : List Nat} (h : Off w db lv wv a c l) (f : Fr (fun _ => False) w w') : Off w' db lv wv a c l := ⟨h.row.same f, h.far⟩

def padS (l : List Nat) : Sec := if h : l.length ≤ 256 ∧ ∀ x ∈ l, x < 256 then padSec l h.1 h.2 else zeroSec
def wrS (L : List Sec) (Q : List (Nat × Sec)) (i : Int) (l : List Nat) : Int × List (Nat × Sec) :=
  if i < 0 ∨ (L.length : Int) ≤ i then (6, Q) else if 256 < l.length then (2, Q) else (0, Q ++ [(i.toNat, padS l)])
def crS (L : List Sec) (Q : List (Nat × Sec)) (keep torn : Int) : Int × List Sec × List (Nat × Sec) :=
  if keep < 0 ∨ (Q.length : Int) < keep ∨ torn < 0 ∨ 256 < torn then (1, L, Q) else (0, crashed L Q keep.toNat torn.toNat, [])

section
variable (db : Nat) (lv wv : Value) (L : List Sec) (Q : List (Nat × Sec)) (w : World)
theorem write_all (h : Dk w db lv wv L Q) (i : Int) (a : Option Addr) (c : Nat) (l : List Nat) (hr : l.length ≤ 65535 → Row w a c l) (hQ : Q.length ≤ 10000000) : Calls Try.prog 7 #[.pointer (some ⟨db, 0, none⟩), .int .i64 i, .slice a l.length c] w fun e w' => e = .returned (.int .i64 (wrS L Q i l).1) ∧
    ∃ wv', Dk w' db lv wv' L (wrS L Q i l).2 ∧ Fr (dkS db lv wv) w w' ∧ Ow w db lv wv wv' := by
  unfold wrS
  by_cases h1 : i < 0 ∨ (L.length : Int) ≤ i
  · rw [if_pos h1]
    refine (write_none db lv wv L Q w h i h1 _).mono ?_
    rintro e w' ⟨rfl, rfl⟩
    exact ⟨rfl, wv, h, Fr.refl _ _, Ow.refl _ _ _ _⟩
  · rw [if_neg h1]
    obtain ⟨n, rfl⟩ : ∃ n : Nat, i = n := ⟨i.toNat, by omega⟩
    have hn : n < L.length := by omega
    by_cases h2 : 256 < l.length
    · rw [if_pos h2]
      refine (write_long db lv wv L Q w h n hn a l.length c h2).mono ?_
      rintro e w' ⟨rfl, rfl⟩
      exact ⟨rfl, wv, h, Fr.refl _ _, Ow.refl _ _ _ _⟩
    · rw [if_neg h2]
      have hr' := hr (by omega)
      refine (write_ok db lv wv L Q w h n hn a c l hr' (by omega) hQ).mono ?_
      rintro e w' ⟨rfl, wv', d, f, o⟩
      have hp : padS l = padSec l (by omega) hr'.byte := by unfold padS; rw [dif_pos ⟨by omega, hr'.byte⟩]
      refine ⟨rfl, wv', ?_, f, fun k hk => dkS_step o hk⟩
      rw [hp, Int.toNat_natCast]; exact d
theorem crash_all (h : Dk w db lv wv L Q) (keep torn : Int) : Calls Try.prog 11 #[.pointer (some ⟨db, 0, none⟩), .int .i64 keep, .int .i64 torn] w fun e w' => e = .returned (.int .i64 (crS L Q keep torn).1) ∧
    ∃ wv', Dk w' db lv wv' (crS L Q keep torn).2.1 (crS L Q keep torn).2.2 ∧ Fr (dkS db lv wv) w w' ∧ Ow w db lv wv wv' := by
  unfold crS
  by_cases h1 : keep < 0 ∨ (Q.length : Int) < keep ∨ torn < 0 ∨ 256 < torn
  · rw [if_pos h1]
    refine (crash_no w _ Q.length (waits_any db lv wv L Q w h) keep torn h1).mono ?_
    rintro e w' ⟨rfl, rfl⟩
    exact ⟨rfl, wv, h, Fr.refl _ _, Ow.refl _ _ _ _⟩
  · rw [if_neg h1]
    obtain ⟨k, rfl⟩ : ∃ k : Nat, keep = k := ⟨keep.toNat, by omega⟩
    obtain ⟨t, rfl⟩ : ∃ t : Nat, torn = t := ⟨torn.toNat, by omega⟩
    refine (crash_ok db lv wv L Q w h k t (by omega) (by omega)).mono ?_
    rintro e w' ⟨rfl, d, f⟩
    refine ⟨rfl, _, ?_, f, Ow.empty _ _ _ _⟩
    rw [Int.toNat_natCast, Int.toNat_natCast]; exact d
theorem sync_all (h : Dk w db lv wv L Q) : Calls Try.prog 9 #[.pointer (some ⟨db, 0, none⟩)] w fun e w' => e = .returned (.tuple #[]) ∧
    ∃ wv', Dk w' db lv wv' (doAll L Q) [] ∧ Fr (dkS db lv wv) w w' ∧ Ow w db lv wv wv' := by
  refine (sync_any db lv wv L Q w h).mono ?_
  rintro e w' ⟨rfl, d, f⟩
  exact ⟨rfl, _, d, f, Ow.empty _ _ _ _⟩
end
end Go.Proofs.Ytkmjmbpdmgoknaa
