
/- What crc.Open and the document's Open tell, in one form: the same bytes and the same error. -/
import Derived.Test.YtbfkacahaocpfaaRefSeal
namespace Go.Proofs.Ytbfkacahaocpfaa
open Go.RowKit Crcm

/-- What is opened, and the error. -/
def opened (l : List Nat) : List Nat × Nat :=
  if l.length < 4 then ([], 10) else if val (l.drop (l.length - 4)) = crc (l.take (l.length - 4)) then (l.take (l.length - 4), 0) else ([], 20)

theorem row_empty (w : World) (a : Option Addr) : Row w a 0 [] := ⟨Nat.le_refl _, by omega, by simp, (fun x hx => by cases hx), .inl rfl⟩

theorem open_all (a : Option Addr) (n cap : Nat) (l : List Nat) (hn : n = l.length) (w : World) (hr : Row w a cap l) :
    Calls Try.prog 35 #[.slice a n cap] w fun e w' => ∃ ax cx, e = .returned (.tuple #[.slice ax (opened l).1.length cx, .int .i64 (((opened l).2 : Nat) : Int)]) ∧ Row w' ax cx (opened l).1 ∧ Fr (fun _ => False) w w' := by
  by_cases h4 : l.length < 4
  · refine (open_cut a n cap (by omega) w).mono ?_
    rintro e w' ⟨rfl, rfl⟩
    have ho : opened l = ([], 10) := by simp [opened, h4]
    rw [ho]
    exact ⟨none, 0, rfl, row_empty _ _, Fr.refl _ _⟩
  · by_cases hg : val (l.drop (l.length - 4)) = crc (l.take (l.length - 4))
    · refine (open_ok a n (l.length - 4) cap l hn (by omega) w hr hg).mono ?_
      rintro e w' ⟨v', rfl, hm⟩
      have ho : opened l = (l.take (l.length - 4), 0) := by simp [opened, h4, hg]
      rw [ho]
      obtain ⟨ax, cx, rfl, hrow⟩ := hm.own.row (octs_take hr.byte _) (by have := hr.small; simp; omega)
      exact ⟨ax, cx, rfl, hrow, hm.fr⟩
    · refine (open_bad a n (l.length - 4) cap l hn (by omega) w hr hg).mono ?_
      rintro e w' ⟨rfl, hf⟩
      have ho : opened l = ([], 20) := by simp [opened, h4, hg]
      rw [ho]
      exact ⟨none, 0, rfl, row_empty _ _, hf⟩

theorem le4_iff {t : List Nat} {c : Nat} (ht : octs t) (h4 : t.length = 4) (hc : c < 4294967296) : le 4 c = t ↔ val t = c := by
  rw [le_le4]
  constructor
  · intro h; rw [← h]; exact val_le4 c hc
  · intro h; rw [← h]; exact (le4_val t ht h4).1

theorem refOpen_all (a : Option Addr) (n cap : Nat) (l : List Nat) (hn : n = l.length) (w : World) (hr : Row w a cap l) :
    Calls Try.prog 37 #[.slice a n cap] w fun e w' => ∃ ax cx, e = .returned (.tuple #[.slice ax (opened l).1.length cx, .int .i64 (((opened l).2 : Nat) : Int)]) ∧ Row w' ax cx (opened l).1 ∧ Fr (fun _ => False) w w' := by
  by_cases h4 : l.length < 4
  · refine (refOpen_cut a n cap (by omega) w).mono ?_
    rintro e w' ⟨rfl, rfl⟩
    have ho : opened l = ([], 10) := by simp [opened, h4]
    rw [ho]
    exact ⟨none, 0, rfl, row_empty _ _, Fr.refl _ _⟩
  · have hiff := le4_iff (t := l.drop (l.length - 4)) (c := crc (l.take (l.length - 4))) (fun x hx => hr.byte x (List.mem_of_mem_drop hx)) (by simp; omega) (crc_lt (octs_take hr.byte _))
    refine (refOpen_any a n (l.length - 4) cap l hn (by omega) w hr).mono ?_
    rintro e w' ⟨h, hf⟩
    rcases h with ⟨h1, b, off, rfl, rfl⟩ | ⟨h1, rfl⟩
    · have ho : opened l = (l.take (l.length - 4), 0) := by simp [opened, h4, hiff.mp h1]
      rw [ho]
      have hlen : (l.take (l.length - 4)).length = l.length - 4 := by simp
      exact ⟨_, cap, by rw [hlen]; rfl, (hr.take _).same hf, hf⟩
    · have h2 : ¬ val (l.drop (l.length - 4)) = crc (l.take (l.length - 4)) := fun h => h1 (hiff.mpr h)
      have ho : opened l = ([], 20) := by simp [opened, h4, h2]
      rw [ho]
      exact ⟨none, 0, rfl, row_empty _ _, hf⟩
end Go.Proofs.Ytbfkacahaocpfaa
