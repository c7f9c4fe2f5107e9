
/- Both logs side by side, and what their calls do to them. -/
import Derived.Test.YtnoadmkkkeianaaGreatWrSame
import Derived.Test.YtnoadmkkkeianaaGreatWrCut
import Derived.Test.YtnoadmkkkeianaaGreatYW2
namespace Go.Proofs.YtnoadmkkkeianaaGreat
open Go.RowKit Crcm

/-- A new slice lies where the old one lay, or in new memory. -/
def OwnN (w : World) (rv rv' : Value) : Prop := ∀ g, rv'.ownBlock = some g → rv.ownBlock = some g ∨ w.heap.size ≤ g
theorem ownN_of {w : World} {rv rv' : Value} (h : rv'.ownBlock = rv.ownBlock ∨ ∃ g, rv'.ownBlock = some g ∧ w.heap.size ≤ g) : OwnN w rv rv' := fun g e => by
  rcases h with h | ⟨g', h, h2⟩
  · exact .inl (h ▸ e)
  · rw [h] at e; simp only [Option.some.injEq] at e; exact .inr (by omega)
theorem ownN_refl (w : World) (rv : Value) : OwnN w rv rv := fun _ e => .inl e
structure Sep (lb rb : Nat) (rv rx : Value) : Prop where
  ne : lb ≠ rb
  a : ∀ g, rv.ownBlock = some g → g ≠ rb
  b : ∀ g, rx.ownBlock = some g → g ≠ lb
  c : ∀ g, rv.ownBlock = some g → rx.ownBlock ≠ some g
structure Off (sb lb rb : Nat) (rv rx : Value) : Prop where
  l : sb ≠ lb
  r : sb ≠ rb
  v : ∀ g, rv.ownBlock = some g → g ≠ sb
  x : ∀ g, rx.ownBlock = some g → g ≠ sb
theorem two1 {w w' : World} {lb rb sb : Nat} {rv rv' rx : Value} {ls : List Rec} {fl : Int} {B : Obj} (k : Rlg w rb rx ls fl) (s : Sep lb rb rv rx) (o : Off sb lb rb rv rx) (hb : w.heap[sb]? = some B) (f : Fr (lgS lb rv) w w') (n : OwnN w rv rv') :
    Rlg w' rb rx ls fl ∧ Sep lb rb rv' rx ∧ Off sb lb rb rv' rx ∧ w'.heap[sb]? = some B := by
  have h1 := lt_of_block k.box
  have h2 := lt_of_block hb
  refine ⟨k.fr f (fun e => e.elim (fun e => s.ne e.symm) (fun e => s.a _ e rfl)) (fun g e e2 => e2.elim (fun e2 => s.b g e e2) (fun e2 => s.c g e2 e)), ⟨s.ne, fun g e => ?_, s.b, fun g e e2 => ?_⟩, ⟨o.l, o.r, fun g e => ?_, o.x⟩, ?_⟩
  · rcases n g e with h | h
    · exact s.a g h
    · omega
  · rcases n g e with h | h
    · exact s.c g h e2
    · have := k.has.lt e2; omega
  · rcases n g e with h | h
    · exact o.v g h
    · omega
  · rw [f.block sb h2 (fun e => e.elim o.l (fun e => o.v _ e rfl))]; exact hb
theorem two2 {w w' : World} {lb rb sb : Nat} {rv rx rx' : Value} {ls : List Rec} {fl : Int} {B : Obj} (k : Lg w lb rv ls fl) (s : Sep lb rb rv rx) (o : Off sb lb rb rv rx) (hb : w.heap[sb]? = some B) (f : Fr (lgS rb rx) w w') (n : OwnN w rx rx') :
    Lg w' lb rv ls fl ∧ Sep lb rb rv rx' ∧ Off sb lb rb rv rx' ∧ w'.heap[sb]? = some B := by
  have h1 := lt_of_block k.box
  have h2 := lt_of_block hb
  refine ⟨k.fr f (fun e => e.elim s.ne (fun e => s.b _ e rfl)) (fun g e e2 => e2.elim (fun e2 => s.a g e e2) (fun e2 => s.c g e e2)), ⟨s.ne, s.a, fun g e => ?_, fun g e e2 => ?_⟩, ⟨o.l, o.r, o.v, fun g e => ?_⟩, ?_⟩
  · rcases n g e with h | h
    · exact s.b g h
    · omega
  · rcases n g e2 with h | h
    · exact s.c g e h
    · have := k.has.lt e; omega
  · rcases n g e with h | h
    · exact o.x g h
    · omega
  · rw [f.block sb h2 (fun e => e.elim o.r (fun e => o.x _ e rfl))]; exact hb
theorem fr_lg {w0 w w' : World} {lb : Nat} {rv : Value} {ls : List Rec} {fl : Int} (F : Fr (fun _ => False) w0 w) (h : Lg w lb rv ls fl) (hl : w0.heap.size ≤ lb) (f : Fr (lgS lb rv) w w') : Fr (fun _ => False) w0 w' :=
  F.trans f (fun i hi e => e.elim (fun e => by omega) (fun e => by have := h.own i e; omega))
theorem fr_rlg {w0 w w' : World} {lb : Nat} {rv : Value} {ls : List Rec} {fl : Int} (F : Fr (fun _ => False) w0 w) (h : Rlg w lb rv ls fl) (hl : w0.heap.size ≤ lb) (f : Fr (lgS lb rv) w w') : Fr (fun _ => False) w0 w' :=
  F.trans f (fun i hi e => e.elim (fun e => by omega) (fun e => by have := h.own i e; omega))

theorem app1 (r : Rec) (lb : Nat) (rv : Value) (ls : List Rec) (fl : Int) (w : World) (h : Lg w lb rv ls fl) (hw : Wl ls) :
    Calls Tryz.prog 6 #[.pointer (some ⟨lb, 0, none⟩), (.agg #[.int .i64 r.lsn, .int .i64 r.ep, .int .i64 r.kind, .int .i64 r.page, .int .i64 r.other, .int .i64 r.req, .string r.key, .string r.val])] w fun e w' => e = .returned (.tuple #[.int .i64 (apN ls r), .int .i64 (apE ls r)]) ∧ ∃ rv', Lg w' lb rv' (apL ls r) fl ∧ Fr (lgS lb rv) w w' ∧ OwnN w rv rv' := by
  refine (append_lg r lb rv ls fl w h hw).mono ?_
  rintro e w' ⟨rfl, rv', h1, h2, h3⟩
  exact ⟨rfl, rv', h1, h2, ownN_of h3⟩
theorem app2 (r : Rec) (lb : Nat) (rv : Value) (ls : List Rec) (fl : Int) (w : World) (h : Rlg w lb rv ls fl) (hw : Wl ls) :
    Calls Tryz.prog 7 #[.pointer (some ⟨lb, 0, none⟩), (.agg #[.int .i64 r.lsn, .int .i64 r.ep, .int .i64 r.kind, .int .i64 r.page, .int .i64 r.other, .int .i64 r.req, .string r.key, .string r.val])] w fun e w' => e = .returned (.tuple #[.int .i64 (apN ls r), .int .i64 (apE ls r)]) ∧ ∃ rv', Rlg w' lb rv' (apL ls r) fl ∧ Fr (lgS lb rv) w w' ∧ OwnN w rv rv' := by
  refine (rappend_lg r lb rv ls fl w h hw).mono ?_
  rintro e w' ⟨rfl, rv', h1, h2, h3⟩
  exact ⟨rfl, rv', h1, h2, ownN_of h3⟩
theorem cut1 (n : Int) (lb : Nat) (rv : Value) (ls : List Rec) (fl : Int) (w : World) (h : Lg w lb rv ls fl) (hw : Wl ls) :
    Calls Tryz.prog 8 #[.pointer (some ⟨lb, 0, none⟩), .int .i64 n] w fun e w' => e = .returned (.int .i64 (fuE ls n)) ∧ ∃ rv', Lg w' lb rv' (cuL ls n) (cuF ls fl n) ∧ Fr (lgS lb rv) w w' ∧ OwnN w rv rv' := by
  by_cases hn : 0 ≤ n ∧ n ≤ ls.length
  · obtain ⟨m, rfl⟩ : ∃ m : Nat, n = m := ⟨n.toNat, by omega⟩
    have e1 : fuE ls (m : Int) = 0 := if_pos hn
    have e2 : cuL ls (m : Int) = ls.take m := if_pos hn
    have e3 : cuF ls fl (m : Int) = min fl m := if_pos hn
    rw [e1, e2, e3]
    refine (cut_yesF m lb rv ls fl w h hw.big (by omega) _ rfl).mono ?_
    rintro e w' ⟨rfl, rv', h1, h2, h3⟩
    exact ⟨rfl, rv', h1, h2, ownN_of h3⟩
  · have e1 : fuE ls n = 1 := if_neg hn
    have e2 : cuL ls n = ls := if_neg hn
    have e3 : cuF ls fl n = fl := if_neg hn
    rw [e1, e2, e3]
    refine (cut_no n lb rv ls fl w h hw.big hn).mono ?_
    rintro e w' ⟨rfl, rfl⟩
    exact ⟨rfl, rv, h, Fr.refl _ _, ownN_refl _ _⟩
theorem cut2 (n : Int) (lb : Nat) (rv : Value) (ls : List Rec) (fl : Int) (w : World) (h : Rlg w lb rv ls fl) (hw : Wl ls) :
    Calls Tryz.prog 9 #[.pointer (some ⟨lb, 0, none⟩), .int .i64 n] w fun e w' => e = .returned (.int .i64 (fuE ls n)) ∧ ∃ rv', Rlg w' lb rv' (cuL ls n) (cuF ls fl n) ∧ Fr (lgS lb rv) w w' ∧ OwnN w rv rv' := by
  by_cases hn : 0 ≤ n ∧ n ≤ ls.length
  · obtain ⟨m, rfl⟩ : ∃ m : Nat, n = m := ⟨n.toNat, by omega⟩
    have e1 : fuE ls (m : Int) = 0 := if_pos hn
    have e2 : cuL ls (m : Int) = ls.take m := if_pos hn
    have e3 : cuF ls fl (m : Int) = min fl m := if_pos hn
    rw [e1, e2, e3]
    refine (rcut_yes m lb rv ls fl w h hw (by omega) _ rfl).mono ?_
    rintro e w' ⟨rfl, rv', h1, h2, h3⟩
    exact ⟨rfl, rv', h1, h2.mono (fun _ _ e => .inl e), fun g e => .inr (h3 g e)⟩
  · have e1 : fuE ls n = 1 := if_neg hn
    have e2 : cuL ls n = ls := if_neg hn
    have e3 : cuF ls fl n = fl := if_neg hn
    rw [e1, e2, e3]
    refine (rcut_no n lb rv ls fl w h hn).mono ?_
    rintro e w' ⟨rfl, rfl⟩
    exact ⟨rfl, rv, h, Fr.refl _ _, ownN_refl _ _⟩
theorem flu1 (n : Int) (lb : Nat) (rv : Value) (ls : List Rec) (fl : Int) (w : World) (h : Lg w lb rv ls fl) (hw : Wl ls) :
    Calls Tryz.prog 10 #[.pointer (some ⟨lb, 0, none⟩), .int .i64 n] w fun e w' => e = .returned (.int .i64 (fuE ls n)) ∧ ∃ rv', Lg w' lb rv' ls (fuF ls fl n) ∧ Fr (lgS lb rv) w w' ∧ OwnN w rv rv' := by
  refine (flush_lg n lb rv ls fl w h hw.big).mono ?_
  rintro e w' ⟨rfl, h1, h2⟩
  exact ⟨rfl, rv, h1, h2.mono (fun _ _ e => .inl e), ownN_refl _ _⟩
theorem flu2 (n : Int) (lb : Nat) (rv : Value) (ls : List Rec) (fl : Int) (w : World) (h : Rlg w lb rv ls fl) :
    Calls Tryz.prog 11 #[.pointer (some ⟨lb, 0, none⟩), .int .i64 n] w fun e w' => e = .returned (.int .i64 (fuE ls n)) ∧ ∃ rv', Rlg w' lb rv' ls (fuF ls fl n) ∧ Fr (lgS lb rv) w w' ∧ OwnN w rv rv' := by
  refine (rflush_lg n lb rv ls fl w h).mono ?_
  rintro e w' ⟨rfl, h1, h2⟩
  exact ⟨rfl, rv, h1, h2.mono (fun _ _ e => .inl e), ownN_refl _ _⟩
end Go.Proofs.YtnoadmkkkeianaaGreat
