
/- What the slots are behind each checkpoint that was written, whole or torn. -/
import Derived.Test.YtjhbhjakbcplgaaPtLaw
namespace Go.Proofs.Ytjhbhjakbcplgaa
open Go.RowKit Crcm

structure Inv (s0 s1 : List Nat) (was : Pn) (A ce : Int) : Prop where
  ch : chs s0 s1 = (was, A, ce)
  l0 : s0.length = 0 ∨ s0.length = 28
  l1 : s1.length = 0 ∨ s1.length = 28
  no : ce = 0 ∨ (ce = 6 ∧ was = ⟨0, 0, 0⟩ ∧ A = 0 ∧ s0 = [] ∧ s1 = [])
theorem Inv.start : Inv [] [] ⟨0, 0, 0⟩ 0 6 := ⟨by rw [chs_eq, dec0]; rfl, .inl rfl, .inl rfl, .inr ⟨rfl, rfl, rfl, rfl, rfl⟩⟩
/-- The slot that is written next. -/
def slotOf (A ce : Int) : Int := if ce = 0 then 1 - A else 0
theorem Inv.range {s0 s1 : List Nat} {was : Pn} {A ce : Int} (h : Inv s0 s1 was A ce) :
    (ce = 0 ∧ 1 ≤ was.num ∧ was.num ≤ 1099511627776 ∧ (A = 0 ∧ decP s0 = (was, 0) ∨ A = 1 ∧ decP s1 = (was, 0))) ∨ (ce = 6 ∧ was = ⟨0, 0, 0⟩ ∧ A = 0 ∧ s0 = [] ∧ s1 = []) := by
  have hr := chs_range s0 s1
  rw [h.ch] at hr
  simp only at hr
  rcases h.no with h0 | h6
  · rcases hr with ⟨a, b, c, _, d⟩ | ⟨a, _⟩
    · exact .inl ⟨a, b, c, d⟩
    · rw [h0] at a; exact absurd a (by decide)
  · exact .inr h6
theorem Inv.num {s0 s1 : List Nat} {was : Pn} {A ce : Int} (h : Inv s0 s1 was A ce) : 0 ≤ was.num ∧ was.num ≤ 1099511627776 := by
  rcases h.range with ⟨_, a, b, _⟩ | ⟨_, rfl, _⟩
  · omega
  · exact ⟨Int.le_refl _, by decide⟩
theorem Inv.slot {s0 s1 : List Nat} {was : Pn} {A ce : Int} (h : Inv s0 s1 was A ce) : slotOf A ce = 0 ∨ slotOf A ce = 1 := by
  unfold slotOf
  rcases h.range with ⟨rfl, _, _, ⟨rfl, _⟩ | ⟨rfl, _⟩⟩ | ⟨rfl, _, rfl, _⟩
  · exact .inr rfl
  · exact .inl rfl
  · exact .inl rfl
theorem Inv.next {s0 s1 : List Nat} {was : Pn} {A ce : Int} (h : Inv s0 s1 was A ce) (p : Pn) : nxt s0 s1 p = nxE ⟨was.num + 1, p.lsn, p.redo⟩ (slotOf A ce) := by
  unfold nxt; rw [h.ch]; rfl
theorem rchs_left {p : Pn} {f : Pn × Int} (h : f.2 ≠ 0 ∨ f.1.num ≤ p.num) : rchs (p, 0) f = (p, 0, 0) := by
  unfold rchs; rw [if_neg (by simp), if_pos ⟨rfl, h⟩]
theorem rchs_right {p q : Pn} (h : p.num < q.num) : rchs (p, 0) (q, 0) = (q, 1, 0) := by
  unfold rchs; rw [if_neg (by simp), if_neg (by simp; omega)]
theorem rchs_err {q : Pn} {d : Pn × Int} (h : d.2 ≠ 0) : rchs d (q, 0) = (q, 1, 0) := by
  unfold rchs; rw [if_neg (by simp), if_neg (fun k => h k.1)]
theorem rchs_none {d f : Pn × Int} (h : d.2 ≠ 0) (k : f.2 ≠ 0) : rchs d f = (⟨0, 0, 0⟩, 0, 6) := by
  unfold rchs; rw [if_pos ⟨h, k⟩]
theorem dec_pf {q : Pn} (hq : ptB q = true) : decP (pf q) = (q, 0) := by have := decP_pf q hq []; rwa [List.append_nil] at this
/-- Behind a checkpoint that was written whole to slot 0. -/
theorem Inv.full0 {s0 s1 : List Nat} {was : Pn} {A ce : Int} (h : Inv s0 s1 was A ce) (hs : slotOf A ce = 0) {q : Pn} (hq : ptB q = true) (hn : q.num = was.num + 1) : Inv (pf q) s1 q 0 0 := by
  refine ⟨?_, .inr (pf_length q), h.l1, .inl rfl⟩
  rw [chs_eq, dec_pf hq]
  apply rchs_left
  rcases h.range with ⟨rfl, _, _, ⟨rfl, _⟩ | ⟨rfl, hd⟩⟩ | ⟨rfl, _, rfl, _, rfl⟩
  · exact absurd hs (by decide)
  · rw [hd]; right; simp only; omega
  · left; rw [dec0]; decide
theorem Inv.full1 {s0 s1 : List Nat} {was : Pn} {A ce : Int} (h : Inv s0 s1 was A ce) (hs : slotOf A ce = 1) {q : Pn} (hq : ptB q = true) (hn : q.num = was.num + 1) : Inv s0 (pf q) q 1 0 := by
  refine ⟨?_, h.l0, .inr (pf_length q), .inl rfl⟩
  rw [chs_eq, dec_pf hq]
  rcases h.range with ⟨rfl, _, _, ⟨rfl, hd⟩ | ⟨rfl, _⟩⟩ | ⟨rfl, _, rfl, _⟩
  · rw [hd]; exact rchs_right (by omega)
  · exact absurd hs (by decide)
  · exact absurd hs (by decide)
/-- What Choose tells of slots of which one is torn. -/
def TornOk (was q : Pn) (c : Pn × Int × Int) : Prop := (was.num = 0 ∧ c.2.2 ≠ 0) ∨ (was.num ≠ 0 ∧ c.2.2 = 0 ∧ (c.1 = was ∨ c.1 = q))
theorem Inv.torn0 {s0 s1 : List Nat} {was : Pn} {A ce : Int} (h : Inv s0 s1 was A ce) (hs : slotOf A ce = 0) {q : Pn} (hn : q.num = was.num + 1) {T : List Nat} (hT : s0 = [] → T.length < 28) (hd : (decP T).2 ≠ 0 ∨ (decP T).1 = q ∨ (decP T).1 = was) : TornOk was q (chs T s1) := by
  rw [chs_eq]
  rcases h.range with ⟨rfl, h1, _, ⟨rfl, _⟩ | ⟨rfl, hw⟩⟩ | ⟨rfl, rfl, rfl, rfl, rfl⟩
  · exact absurd hs (by decide)
  · rw [hw]
    right
    refine ⟨by omega, ?_⟩
    by_cases he : (decP T).2 = 0
    · have e : decP T = ((decP T).1, 0) := by rw [← he]
      rcases hd with hd | hd | hd
      · exact absurd he hd
      · rw [e, hd, rchs_left (.inr (by simp only; omega))]; exact ⟨rfl, .inr rfl⟩
      · rw [e, hd, rchs_left (.inr (by simp only; omega))]; exact ⟨rfl, .inl rfl⟩
    · rw [rchs_err he]; exact ⟨rfl, .inl rfl⟩
  · left
    rw [decP_short (hT rfl), dec0]
    exact ⟨rfl, by decide⟩
theorem Inv.torn1 {s0 s1 : List Nat} {was : Pn} {A ce : Int} (h : Inv s0 s1 was A ce) (hs : slotOf A ce = 1) {q : Pn} (hn : q.num = was.num + 1) {T : List Nat} (hd : (decP T).2 ≠ 0 ∨ (decP T).1 = q ∨ (decP T).1 = was) : TornOk was q (chs s0 T) := by
  rw [chs_eq]
  rcases h.range with ⟨rfl, h1, _, ⟨rfl, hw⟩ | ⟨rfl, _⟩⟩ | ⟨rfl, _, rfl, _⟩
  · rw [hw]
    right
    refine ⟨by omega, ?_⟩
    by_cases he : (decP T).2 = 0
    · have e : decP T = ((decP T).1, 0) := by rw [← he]
      rcases hd with hd | hd | hd
      · exact absurd he hd
      · rw [e, hd, rchs_right (by omega)]; exact ⟨rfl, .inr rfl⟩
      · rw [e, hd, rchs_left (.inr (by simp only; omega))]; exact ⟨rfl, .inl rfl⟩
    · rw [rchs_left (.inl he)]; exact ⟨rfl, .inl rfl⟩
  · exact absurd hs (by decide)
  · exact absurd hs (by decide)
/-- A slice in a slot: its row, and that it lies no earlier than B. -/
def Sl2 (w : World) (B : Nat) (v : Value) (s : List Nat) : Prop := ∃ a c, v = .slice a s.length c ∧ Row w a c s ∧ ∀ b o sp, a = some ⟨b, o, sp⟩ → B ≤ b
theorem Sl2.fr {S : Nat → Prop} {w w' : World} {B : Nat} {v : Value} {s : List Nat} (h : Sl2 w B v s) (f : Fr S w w') (hS : ∀ k, B ≤ k → ¬ S k) : Sl2 w' B v s := by
  obtain ⟨a, c, rfl, hr, hb⟩ := h
  exact ⟨a, c, rfl, hr.fr f (fun b o sp e => hS b (hb b o sp e)), hb⟩
theorem Sl2.nil (w : World) (B : Nat) : Sl2 w B (.slice none 0 0) [] := ⟨none, 0, rfl, row_empty _ _, fun _ _ _ e => by cases e⟩
theorem Sl2.of {w : World} {B C : Nat} {v : Value} {s : List Nat} (h : Mine w C v s) (hBC : B ≤ C) (ho : octs s) (hl : s.length ≤ 28) : Sl2 w B v s := by
  obtain ⟨a, c, rfl, hr⟩ := h.row ho (by omega)
  refine ⟨a, c, rfl, hr, fun b o sp e => ?_⟩
  subst e
  have := (h.lt b rfl).1
  omega
theorem TornOk.zero {was q : Pn} {c : Pn × Int × Int} (h : TornOk was q c) (h0 : was.num = 0) : c.2.2 ≠ 0 := by
  rcases h with h | h
  · exact h.2
  · exact absurd h0 h.1
theorem TornOk.some {was q : Pn} {c : Pn × Int × Int} (h : TornOk was q c) (h0 : was.num ≠ 0) : c.2.2 = 0 ∧ (c.1 = was ∨ c.1 = q) := by
  rcases h with h | h
  · exact absurd h.1 h0
  · exact h.2
end Go.Proofs.Ytjhbhjakbcplgaa
namespace Go.Proofs.Ytjhbhjakbcplgaa
open Go.RowKit Crcm
/-- Which slot is written: its old bytes are sX, its new ones T. -/
def At (at_ : Nat) (s0 s1 sX T t0 t1 : List Nat) : Prop := (at_ = 0 ∧ sX = s0 ∧ t0 = T ∧ t1 = s1) ∨ (at_ = 1 ∧ sX = s1 ∧ t0 = s0 ∧ t1 = T)
theorem Inv.full {s0 s1 : List Nat} {was : Pn} {A ce : Int} (h : Inv s0 s1 was A ce) {at_ : Nat} (hs : slotOf A ce = at_) {q : Pn} (hq : ptB q = true) (hn : q.num = was.num + 1) {sX t0 t1 : List Nat} (ha : At at_ s0 s1 sX (pf q) t0 t1) : Inv t0 t1 q at_ 0 := by
  rcases ha with ⟨rfl, _, rfl, rfl⟩ | ⟨rfl, _, rfl, rfl⟩
  · exact h.full0 hs hq hn
  · exact h.full1 hs hq hn
theorem Inv.torn {s0 s1 : List Nat} {was : Pn} {A ce : Int} (h : Inv s0 s1 was A ce) {at_ : Nat} (hs : slotOf A ce = at_) {q : Pn} (hn : q.num = was.num + 1) {sX T t0 t1 : List Nat} (ha : At at_ s0 s1 sX T t0 t1) (hT : sX = [] → T.length < 28) (hd : (decP T).2 ≠ 0 ∨ (decP T).1 = q ∨ (decP T).1 = was) : TornOk was q (chs t0 t1) := by
  rcases ha with ⟨rfl, rfl, rfl, rfl⟩ | ⟨rfl, rfl, rfl, rfl⟩
  · exact h.torn0 hs hn hT hd
  · exact h.torn1 hs hn hd
/-- The two slots in memory. -/
def Box2 (w : World) (S : Nat) (s0 s1 : List Nat) : Prop := ∃ v0 v1, w.heap[S]? = some (.cells #[v0, v1] 58 (0, 0)) ∧ Sl2 w (S + 2) v0 s0 ∧ Sl2 w (S + 2) v1 s1
theorem Box2.fr {F : Nat → Prop} {w w' : World} {S : Nat} {s0 s1 : List Nat} (h : Box2 w S s0 s1) (f : Fr F w w') (h1 : ¬ F S) (h2 : ∀ k, S + 2 ≤ k → ¬ F k) : Box2 w' S s0 s1 := by
  obtain ⟨v0, v1, hb, g0, g1⟩ := h
  exact ⟨v0, v1, (f.block S (lt_of_block hb) h1).trans hb, g0.fr f h2, g1.fr f h2⟩
theorem Box2.put {w : World} {S : Nat} {s0 s1 sX : List Nat} (h : Box2 w S s0 s1) {at_ : Nat} (ha : (at_ = 0 ∧ sX = s0) ∨ (at_ = 1 ∧ sX = s1)) {v : Value} {T : List Nat} (hv : Sl2 w (S + 2) v T) : ∃ t0 t1, At at_ s0 s1 sX T t0 t1 ∧ Box2 (w.setCell ⟨S, at_, none⟩ v) S t0 t1 := by
  obtain ⟨v0, v1, hb, g0, g1⟩ := h
  have f : Fr (fun i => i = S) w (w.setCell ⟨S, at_, none⟩ v) := Fr.set _ _ _
  rcases ha with ⟨rfl, rfl⟩ | ⟨rfl, rfl⟩
  · exact ⟨T, s1, .inl ⟨rfl, rfl, rfl, rfl⟩, v, v1, two_setCell0 hb, hv.fr f (fun k hk e => by omega), g1.fr f (fun k hk e => by omega)⟩
  · exact ⟨s0, T, .inr ⟨rfl, rfl, rfl, rfl⟩, v0, v, two_setCell1 hb, g0.fr f (fun k hk e => by omega), hv.fr f (fun k hk e => by omega)⟩
/-- One slot in memory. -/
theorem Box2.pick {w : World} {S : Nat} {s0 s1 : List Nat} {A ce : Int} {was : Pn} (h : Box2 w S s0 s1) (hi : Inv s0 s1 was A ce) : ∃ (at_ : Nat) (sX : List Nat) (aX : Option Addr) (cX : Nat), at_ < 2 ∧ slotOf A ce = (at_ : Int) ∧ ((at_ = 0 ∧ sX = s0) ∨ (at_ = 1 ∧ sX = s1)) ∧ (sX.length = 0 ∨ sX.length = 28) ∧ w.cell? ⟨S, at_, none⟩ = some (.slice aX sX.length cX) ∧ w.frozen? ⟨S, at_, none⟩ = false ∧ Row w aX cX sX := by
  obtain ⟨v0, v1, hb, ⟨a0, c0, rfl, r0, _⟩, ⟨a1, c1, rfl, r1, _⟩⟩ := h
  obtain ⟨x0, x1, f0, f1⟩ := cell_of_two hb
  rcases hi.slot with hs | hs
  · exact ⟨0, s0, a0, c0, by omega, hs, .inl ⟨rfl, rfl⟩, hi.l0, x0, f0, r0⟩
  · exact ⟨1, s1, a1, c1, by omega, hs, .inr ⟨rfl, rfl⟩, hi.l1, x1, f1, r1⟩
end Go.Proofs.Ytjhbhjakbcplgaa
