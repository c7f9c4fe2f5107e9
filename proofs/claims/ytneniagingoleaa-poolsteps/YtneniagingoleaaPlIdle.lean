
/- The page without pins that was used the longest time ago. -/
import Derived.Test.YtneniagingoleaaPlChg
namespace Go.Proofs.Ytneniagingoleaa
open Go.RowKit

section
variable {ops : Array Oper} {rest : List Oper} {o : Oper} {a : Act} {Q : Exit → Act → World → Prop}
/-- One entry more of a range over the pages. -/
theorem wpList_next_held (w : World) (hg : o.guard = none) (it : Operand) (hop : o.op = Op.next it false) (b r n : Nat) (D : DataW Unit) (M : Pmap) (left : Lit → Bool) (cnt : Nat) (hl : Like D M)
    (hit : a.eval it = .pointer (some ⟨r, 0, none⟩)) (h : w.ranges Try.prog 3 heldR b r n D left cnt)
    (hDone : (∀ kl, left kl = false) → wpList Try.prog ops Q rest (a.put o.dst (.tuple #[.bool false])) w)
    (hMore : ∀ (x p l s u : Int) (w' : World) (cnt' : Nat), M x = some ⟨p, l, s, u⟩ → wfK x → w'.ranges Try.prog 3 heldR b r n D (fun z => left z && !z.sameKey (.int .i64 x)) cnt' → cnt' < cnt → Fr (fun k => k = r) w w' → w'.heap.size = w.heap.size →
      (Instr.entry (.pointer (some ⟨r, 0, none⟩))).run Try.prog w' = .ok (.tuple #[.int .i64 x, .agg #[.int .i64 p, .int .i64 l, .int .i64 s, .int .i64 u]]) w' → wpList Try.prog ops Q rest (a.put o.dst (.tuple #[.bool true, .int .i64 x, .agg #[.int .i64 p, .int .i64 l, .int .i64 s, .int .i64 u]])) w') :
    wpList Try.prog ops Q (o :: rest) a w := by
  refine wpList_next_ranges w hg it hop 3 keyed3 heldR (fun x : Int => Value.int .i64 x) (fun g : Hd => Value.agg #[.int .i64 g.pins, .int .i64 g.lsn, .int .i64 g.since, .int .i64 g.used]) (fun key kl hkey => ?_) (fun v y hv => ?_) b r n D left cnt hit h (fun _ h2 => hDone h2) ?_
  · obtain ⟨x, rfl, _⟩ := Maps.keyOf_int_inv Try.underlying3 hkey
    exact ⟨x, rfl⟩
  · obtain ⟨g, rfl, _⟩ := heldR_inv hv
    exact ⟨g, rfl⟩
  · intro x g kl y w' cnt' hkey hlk hv hat hrg hlt hgr hsz hen
    obtain ⟨x', ex, rfl, hwx⟩ := Maps.keyOf_int_inv Try.underlying3 hkey
    simp only [Value.int.injEq, true_and] at ex
    subst ex
    rw [heldR_mk] at hv
    simp only [Option.some.injEq] at hv
    subst hv
    have hhas := Maps.has_true_of_atKey hat
    rw [hl.has x hwx] at hhas
    obtain ⟨g2, hg2⟩ := Option.isSome_iff_exists.1 hhas
    have hgg := hdD_inj ((hat (hdD h0)).symm.trans (hl.at_ x g2 hwx hg2 (hdD h0)))
    subst hgg
    exact hMore x g.pins g.lsn g.since g.used w' cnt' hg2 hwx hrg hlt ((Fr.refl _ w).grown hgr (fun k e _ => by simp only [Option.some.injEq] at e; exact e.symm)) hsz hen
end
theorem run_used (p l s u : Int) (W : World) : (Instr.field 66 (.agg #[.int .i64 p, .int .i64 l, .int .i64 s, .int .i64 u]) 3).run Try.prog W = .ok (.int .i64 u) W := by kernel_rfl
theorem run_pins (p l s u : Int) (W : World) : (Instr.field 66 (.agg #[.int .i64 p, .int .i64 l, .int .i64 s, .int .i64 u]) 0).run Try.prog W = .ok (.int .i64 p) W := by kernel_rfl
/-- The best page among those that were seen. -/
def Best (M : Pmap) (left : Lit → Bool) (r : Int) : Prop :=
  (r = 0 ∧ ∀ x g, M x = some g → left (.int .i64 x) = false → g.pins ≠ 0) ∨ ∃ g, M r = some g ∧ g.pins = 0 ∧ ∀ y k, M y = some k → left (.int .i64 y) = false → k.pins = 0 → g.used ≤ k.used
def Idle (M : Pmap) (r : Int) : Prop := (r = 0 ∧ ∀ x g, M x = some g → g.pins ≠ 0) ∨ ∃ g, M r = some g ∧ g.pins = 0 ∧ ∀ y k, M y = some k → k.pins = 0 → g.used ≤ k.used
theorem best_start {D : DataW Unit} {M : Pmap} (hl : Like D M) (hk : ∀ x g, M x = some g → wfK x) : Best M (Maps.has D) 0 := by
  refine .inl ⟨rfl, fun x g hm hf => ?_⟩
  rw [hl.has x (hk x g hm), hm] at hf
  cases hf
theorem best_end {M : Pmap} {left : Lit → Bool} {r : Int} (h : Best M left r) (hl : ∀ kl, left kl = false) : Idle M r := by
  rcases h with ⟨h1, h2⟩ | ⟨g, h1, h2, h3⟩
  · exact .inl ⟨h1, fun x g hm => h2 x g hm (hl _)⟩
  · exact .inr ⟨g, h1, h2, fun y k hm => h3 y k hm (hl _)⟩
theorem strike_false {left : Lit → Bool} {x y : Int} (h : (left (.int .i64 y) && !(Lit.int .i64 y).sameKey (.int .i64 x)) = false) : y = x ∨ left (.int .i64 y) = false := by
  by_cases e : y = x
  · exact .inl e
  · right
    rw [Maps.sameKey_ne (int_lit_ne e)] at h
    simpa using h
theorem best_skip {M : Pmap} {left : Lit → Bool} {r x : Int} {g : Hd} (h : Best M left r) (hx : M x = some g) (hp : g.pins ≠ 0) : Best M (fun z => left z && !z.sameKey (.int .i64 x)) r := by
  rcases h with ⟨h1, h2⟩ | ⟨g1, h1, h2, h3⟩
  · refine .inl ⟨h1, fun y k hm hf => ?_⟩
    rcases strike_false hf with e | e
    · subst e; rw [hx] at hm; cases hm; exact hp
    · exact h2 y k hm e
  · refine .inr ⟨g1, h1, h2, fun y k hm hf hk => ?_⟩
    rcases strike_false hf with e | e
    · subst e; rw [hx] at hm; cases hm; exact absurd hk hp
    · exact h3 y k hm e hk
theorem best_keep {M : Pmap} {left : Lit → Bool} {r x : Int} {g g1 : Hd} (h : Best M left r) (hx : M x = some g) (hr : M r = some g1) (hr0 : r ≠ 0) (hu : ¬ g.used < g1.used) : Best M (fun z => left z && !z.sameKey (.int .i64 x)) r := by
  rcases h with ⟨h1, _⟩ | ⟨g2, h1, h2, h3⟩
  · exact absurd h1 hr0
  · rw [hr] at h1
    cases h1
    refine .inr ⟨g1, hr, h2, fun y k hm hf hk => ?_⟩
    rcases strike_false hf with e | e
    · subst e; rw [hx] at hm; cases hm; omega
    · exact h3 y k hm e hk
theorem best_new {M : Pmap} {left : Lit → Bool} {r x : Int} {g : Hd} (h : Best M left r) (hx : M x = some g) (hp : g.pins = 0) (hu : r = 0 ∨ ∃ g1, M r = some g1 ∧ g.used < g1.used) (hz : M 0 = none) : Best M (fun z => left z && !z.sameKey (.int .i64 x)) x := by
  refine .inr ⟨g, hx, hp, fun y k hm hf hk => ?_⟩
  rcases strike_false hf with e | e
  · subst e; rw [hx] at hm; cases hm; omega
  · rcases h with ⟨h1, h2⟩ | ⟨g2, h1, h2, h3⟩
    · exact absurd hk (h2 y k hm e)
    · have := h3 y k hm e hk
      rcases hu with hu | ⟨g1, hg1, hu⟩
      · subst hu; rw [hz] at h1; cases h1
      · rw [h1] at hg1; cases hg1; omega
section
variable (pb : Nat) (fr : Int) (mb n : Nat) (us fl : Int) (M : Pmap) (w : World)
set_option maxRecDepth 100000 in
set_option maxHeartbeats 2000000 in
theorem idle_pl (h : Pl w pb fr mb n us fl M) : Calls Try.prog 37 #[.pointer (some ⟨pb, 0, none⟩)] w fun e w' => ∃ r : Int, e = .returned (.int .i64 r) ∧ Idle M r ∧ Fr (fun _ => False) w w' := by
  have hal := all_pl pb fr mb n us fl M w h
  have HPM : Hid (∀ W, Fr (fun _ => False) w W → Pm W mb n M) := fun W f => h.map.same f
  obtain ⟨D, hown, hsz, hl⟩ := h.map
  have HKW : Hid (∀ x g, M x = some g → wfK x) := fun x g hm => wfK_of (by have := hl.key x g hm; omega)
  have HZ : Hid (M 0 = none) := by
    show _ = _
    cases hm : M 0 with
    | none => rfl
    | some g => have := hl.key 0 g hm; omega
  have HL : Hid (Like D M) := hl
  have HBS : Hid (Best M (Maps.has D) 0) := best_start hl HKW.out
  obtain ⟨rr, hrr⟩ : ∃ rr, rr = w.heap.size := ⟨_, rfl⟩
  have HRR : Hid (rr = w.heap.size) := hrr
  have hmlt : mb < rr := by rw [hrr]; exact hown.lt
  clear hl hsz h hrr
  go_enter Try.func37, Try.ntmps37
  go_wp2_with (first
    | (go_at_call 29; refine hal.mono ?_; rintro e w' ⟨rfl, hw⟩; have hw2 := hw.symm; clear hw; subst hw2)
    | (at_range; refine wpList_range_own _ rfl _ 52 rfl 3 66 keyed3 Try.underlying52 heldR mb n D rfl hown ?_; intro w0 hrg0 hg0 hs0)
    | go_in)
  go_frame
  rw [← HRR.out] at hrg0 ⊢
  have F0 : Fr (fun _ => False) w w0 := (Fr.refl _ w).grown hg0 (fun k e _ => by cases e)
  clear hal hown hg0 hs0
  go_loopw [3] (fun t wr => ∃ (left : Lit → Bool) (cnt : Nat) (r : Int), wr.ranges Try.prog 3 heldR mb rr n D left cnt ∧ t = .int .i64 r ∧ Hid (Best M left r) ∧ Fr (fun _ => False) w wr)
    (fun _ wr => wr.rangeLeft mb rr)
  case atStart => exact ⟨_, _, 0, hrg0, rfl, HBS, F0⟩
  case round =>
    obtain ⟨left, cnt, r, hrg, rfl, HB, F⟩ := hrel
    clear hrg0 F0
    go_wp2_with (first
      | (at_next; refine wpList_next_held _ rfl _ rfl mb rr n D M left cnt HL.out rfl hrg ?_ ?_)
      | go_in)
    · intro hl0
      go_wp2
      go_ret
      exact ⟨r, rfl, best_end HB.out hl0, F⟩
    · intro x p l s u w1 cnt1 hx hwx hrg1 hlt hfr hsz1 hen
      have F1 : Fr (fun _ => False) w w1 := F.trans hfr (fun i hi e => by have := HRR.out; omega)
      have Fb := F1.alloc (.cells #[.int .i64 p, .int .i64 l, .int .i64 s, .int .i64 u] 66)
      have hrg2 := hrg1.alloc (.cells #[.int .i64 p, .int .i64 l, .int .i64 s, .int .i64 u] 66)
      have HX : Hid (M x = some ⟨p, l, s, u⟩) := hx
      have hmea : (w1.alloc (.cells #[.int .i64 p, .int .i64 l, .int .i64 s, .int .i64 u] 66)).rangeLeft mb rr < wr.rangeLeft mb rr := by rw [hrg2.left_eq, hrg.left_eq]; exact hlt
      have HMEA : Hid ((w1.alloc (.cells #[.int .i64 p, .int .i64 l, .int .i64 s, .int .i64 u] 66)).rangeLeft mb rr < wr.rangeLeft mb rr) := hmea
      have HRG2 : Hid ((w1.alloc (.cells #[.int .i64 p, .int .i64 l, .int .i64 s, .int .i64 u] 66)).ranges Try.prog 3 heldR mb rr n D (fun z => left z && !z.sameKey (.int .i64 x)) cnt1) := hrg2
      clear hx hwx hrg1 hrg2 hmea
      by_cases hp : p = 0
      · subst hp
        by_cases hr0 : r = 0
        · subst hr0
          have HN := best_new HB.out HX.out rfl (.inl rfl) HZ.out
          have HNH : Hid (Best M (fun z => left z && !z.sameKey (.int .i64 x)) x) := HN
          clear HN
          go_wp2
          go_roundw
          case rel => exact ⟨_, cnt1, x, HRG2.out, rfl, HNH, Fb⟩
          case measure => exact HMEA.out
        · have hrb : (r == 0) = false := by rw [beq_eq_false_iff_ne]; exact hr0
          obtain ⟨g1, hg1⟩ : ∃ g1, M r = some g1 := by
            rcases HB.out with ⟨h1, _⟩ | ⟨g, h1, _⟩
            · exact absurd h1 hr0
            · exact ⟨g, h1⟩
          have hlk := (HPM.out _ Fb).look1 (HKW.out r g1 hg1)
          rw [hg1] at hlk
          obtain ⟨p1, l1, s1, u1⟩ := g1
          dsimp only [Option.getD] at hlk
          have HG1 : Hid (M r = some ⟨p1, l1, s1, u1⟩) := hg1
          have HR0 : Hid (r ≠ 0) := hr0
          have hfd := fun W => run_used p1 l1 s1 u1 W
          clear hg1 hr0
          by_cases hu : u < u1
          · have HNH : Hid (Best M (fun z => left z && !z.sameKey (.int .i64 x)) x) := best_new HB.out HX.out rfl (.inr ⟨_, HG1.out, hu⟩) HZ.out
            have hud : decide (u < u1) = true := decide_eq_true hu
            go_wp2
            go_roundw
            case rel => exact ⟨_, cnt1, x, HRG2.out, rfl, HNH, Fb⟩
            case measure => exact HMEA.out
          · have HNH : Hid (Best M (fun z => left z && !z.sameKey (.int .i64 x)) r) := best_keep HB.out HX.out HG1.out HR0.out hu
            have hud : decide (u < u1) = false := decide_eq_false hu
            go_wp2
            go_roundw
            case rel => exact ⟨_, cnt1, r, HRG2.out, rfl, HNH, Fb⟩
            case measure => exact HMEA.out
      · have hpb : (p == 0) = false := by rw [beq_eq_false_iff_ne]; exact hp
        have HNH : Hid (Best M (fun z => left z && !z.sameKey (.int .i64 x)) r) := best_skip HB.out HX.out hp
        clear hp
        go_wp2
        go_roundw
        case rel => exact ⟨_, cnt1, r, HRG2.out, rfl, HNH, Fb⟩
        case measure => exact HMEA.out
end
end Go.Proofs.Ytneniagingoleaa
