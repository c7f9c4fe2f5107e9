
/- Oldest, of the document's own pool and of the program's; New. -/
import Derived.Test.YtneniagingoleaaPrMore
namespace Go.Proofs.Ytneniagingoleaa
open Go.RowKit

/-- One page more. -/
def oldS (s : Int × Bool) (f : Fm) : Int × Bool := if f.dirty = true ∧ (s.2 = false ∨ f.first < s.1) then (f.first, true) else s
def oldF (L : List Fm) : Int × Bool := L.foldl oldS (0, false)
theorem oldF_next {L : List Fm} {k : Nat} {f : Fm} (h : L[k]? = some f) : oldF (L.take (k + 1)) = oldS (oldF (L.take k)) f := by
  unfold oldF
  rw [take_next h, List.foldl_append]
  rfl
/-- What Oldest tells. -/
def OldR (L : List Fm) (s : Int × Bool) : Prop := (s = (0, false) ∧ ∀ f ∈ L, f.dirty = false) ∨ (s.2 = true ∧ (∃ f ∈ L, f.dirty = true ∧ f.first = s.1) ∧ ∀ f ∈ L, f.dirty = true → s.1 ≤ f.first)
theorem oldS_step {L : List Fm} {s : Int × Bool} (h : OldR L s) (f : Fm) : OldR (L ++ [f]) (oldS s f) := by
  unfold oldS
  by_cases hd : f.dirty = true
  · by_cases hc : s.2 = false ∨ f.first < s.1
    · rw [if_pos ⟨hd, hc⟩]
      refine .inr ⟨rfl, ⟨f, by simp, hd, rfl⟩, fun g hg hgd => ?_⟩
      rw [List.mem_append, List.mem_singleton] at hg
      rcases hg with hg | rfl
      · rcases h with ⟨h1, h2⟩ | ⟨h1, h2, h3⟩
        · rw [h2 g hg] at hgd; cases hgd
        · rcases hc with hc | hc
          · rw [hc] at h1; cases h1
          · have := h3 g hg hgd; dsimp only; omega
      · exact Int.le_refl _
    · rw [if_neg (fun e => hc e.2)]
      rcases h with ⟨h1, h2⟩ | ⟨h1, ⟨g, hg, hg1, hg2⟩, h3⟩
      · rw [h1] at hc; exact absurd (.inl rfl) hc
      · refine .inr ⟨h1, ⟨g, by simp [hg], hg1, hg2⟩, fun k hk hkd => ?_⟩
        rw [List.mem_append, List.mem_singleton] at hk
        rcases hk with hk | rfl
        · exact h3 k hk hkd
        · have : ¬ k.first < s.1 := fun e => hc (.inr e)
          omega
  · rw [if_neg (fun e => hd e.1)]
    rcases h with ⟨h1, h2⟩ | ⟨h1, ⟨g, hg, hg1, hg2⟩, h3⟩
    · refine .inl ⟨h1, fun k hk => ?_⟩
      rw [List.mem_append, List.mem_singleton] at hk
      rcases hk with hk | rfl
      · exact h2 k hk
      · simpa using hd
    · refine .inr ⟨h1, ⟨g, by simp [hg], hg1, hg2⟩, fun k hk hkd => ?_⟩
      rw [List.mem_append, List.mem_singleton] at hk
      rcases hk with hk | rfl
      · exact h3 k hk hkd
      · exact absurd hkd hd
theorem oldF_all (L : List Fm) : OldR L (oldF L) := by
  suffices h : ∀ (M : List Fm) (L : List Fm) (s : Int × Bool), OldR L s → OldR (L ++ M) (M.foldl oldS s) by
    have := h L [] (0, false) (.inl ⟨rfl, by simp⟩)
    simpa [oldF] using this
  intro M
  induction M with
  | nil => intro L s h; simpa using h
  | cons f M ih =>
    intro L s h
    have := ih (L ++ [f]) (oldS s f) (oldS_step h f)
    simpa [List.append_assoc] using this
set_option maxRecDepth 100000 in
set_option maxHeartbeats 2000000 in
theorem roldest_rp (pb : Nat) (fr fl : Int) (rv : Value) (L : List Fm) (w : World) (h : Rp w pb fr fl rv L) : Calls Try.prog 12 #[.pointer (some ⟨pb, 0, none⟩)] w fun e w' => e = .returned (.tuple #[.int .i64 (oldF L).1, .bool (oldF L).2]) ∧ Fr (fun _ => False) w w' := by
  have HH : Hid (∀ W, Fr (fun _ => False) w W → Has W 5 rv L.length (L.flatMap fmC)) := fun W f => h.has.fr f (fun _ _ f => f)
  obtain ⟨⟨h0, h1, h2⟩, _⟩ := rp_cells h.box
  have hfew := h.few
  obtain ⟨ar, cr, rfl, hlc, hcr⟩ := h.has.slice
  have hcr' : cr ≤ 9223372036854775807 := by unfold maxLen at hcr; exact hcr
  clear hcr h
  go_enter Try.func12, Try.ntmps12
  go_wp2
  clear h0 h1 h2
  go_loopw [13, 4, 5] (fun i t u wr => ∃ (k : Nat) (a : Int) (b : Bool), k ≤ L.length ∧ i = .int .i64 k ∧ t = .int .i64 a ∧ u = .bool b ∧ Hid (oldF (L.take k) = (a, b)) ∧ Fr (fun _ => False) w wr) (fun i _ _ _ => L.length - (intOf i).toNat)
  case atStart => exact ⟨0, 0, false, by omega, rfl, rfl, rfl, by show _ = _; simp [oldF], Fr.refl _ _⟩
  case round =>
    obtain ⟨k, a, b, hk, rfl, rfl, rfl, HM, F⟩ := hrel
    by_cases hlt : k < L.length
    · obtain ⟨f, hf⟩ : ∃ f, L[k]? = some f := ⟨_, List.getElem?_eq_getElem hlt⟩
      have hhk := HH.out _ F
      obtain ⟨g, cap, hv, _⟩ := hhk.form (by omega)
      simp only [Value.slice.injEq, true_and] at hv
      obtain ⟨rfl, rfl⟩ := hv
      obtain ⟨q0, q1, q2, q3, q4⟩ := fm_range (hhk.elem fmC_length hf)
      have HS : Hid (oldF (L.take (k + 1)) = oldS (a, b) f) := by show _ = _; rw [oldF_next hf, HM.out]
      have hki : (k : Int) < (L.length : Int) := by omega
      obtain ⟨pg, pi, ls, fi, di⟩ := f
      dsimp only at q0 q1 q2 q3 q4
      have FB := F.alloc (.cells #[.int .i64 pg, .int .i64 pi, .int .i64 ls, .int .i64 fi, .bool di] 68)
      clear hf hhk
      cases di
      · have HS2 : Hid (oldF (L.take (k + 1)) = (a, b)) := by show _ = _; rw [HS.out]; unfold oldS; rw [if_neg (fun e => by cases e.1)]
        go_wp2
        go_roundw
        case rel => exact ⟨k + 1, a, b, by omega, by go_num, rfl, rfl, HS2, FB⟩
        case measure => simp [intOf]; omega
      · cases b
        · have HS2 : Hid (oldF (L.take (k + 1)) = (fi, true)) := by show _ = _; rw [HS.out]; unfold oldS; rw [if_pos ⟨rfl, .inl rfl⟩]
          go_wp2
          go_roundw
          case rel => exact ⟨k + 1, fi, true, by omega, by go_num, rfl, rfl, HS2, FB⟩
          case measure => simp [intOf]; omega
        · by_cases hl : fi < a
          · have HS2 : Hid (oldF (L.take (k + 1)) = (fi, true)) := by show _ = _; rw [HS.out]; unfold oldS; rw [if_pos ⟨rfl, .inr hl⟩]
            have hd : decide (fi < a) = true := decide_eq_true hl
            clear hl
            go_wp2
            go_roundw
            case rel => exact ⟨k + 1, fi, true, by omega, by go_num, rfl, rfl, HS2, FB⟩
            case measure => simp [intOf]; omega
          · have HS2 : Hid (oldF (L.take (k + 1)) = (a, true)) := by show _ = _; rw [HS.out]; unfold oldS; rw [if_neg (fun e => e.2.elim (fun h => by cases h) hl)]
            have hd : decide (fi < a) = false := decide_eq_false hl
            clear hl
            go_wp2
            go_roundw
            case rel => exact ⟨k + 1, a, true, by omega, by go_num, rfl, rfl, HS2, FB⟩
            case measure => simp [intOf]; omega
    · have hkl : L.take k = L := List.take_of_length_le (by omega)
      have HMM : Hid (oldF L = (a, b)) := by show _ = _; rw [← HM.out, hkl]
      clear hkl
      go_wp2
      go_ret2
      rw [HMM.out]
      exact ⟨rfl, F⟩
/-- The oldest among those that were seen. -/
def OldB (M : Pmap) (left : Lit → Bool) (r : Int) : Prop :=
  (r = 0 ∧ ∀ x g, M x = some g → left (.int .i64 x) = false → g.since = 0) ∨ (r ≠ 0 ∧ (∃ x g, M x = some g ∧ g.since = r) ∧ ∀ y k, M y = some k → left (.int .i64 y) = false → k.since ≠ 0 → r ≤ k.since)
def OldM (M : Pmap) (r : Int) : Prop := (r = 0 ∧ ∀ x g, M x = some g → g.since = 0) ∨ (r ≠ 0 ∧ (∃ x g, M x = some g ∧ g.since = r) ∧ ∀ y k, M y = some k → k.since ≠ 0 → r ≤ k.since)
theorem old_start {D : DataW Unit} {M : Pmap} (hl : Like D M) (hk : ∀ x g, M x = some g → wfK x) : OldB M (Maps.has D) 0 := by
  refine .inl ⟨rfl, fun x g hm hf => ?_⟩
  rw [hl.has x (hk x g hm), hm] at hf
  cases hf
theorem old_end {M : Pmap} {left : Lit → Bool} {r : Int} (h : OldB M left r) (hl : ∀ kl, left kl = false) : OldM M r := by
  rcases h with ⟨h1, h2⟩ | ⟨h1, h2, h3⟩
  · exact .inl ⟨h1, fun x g hm => h2 x g hm (hl _)⟩
  · exact .inr ⟨h1, h2, fun y k hm => h3 y k hm (hl _)⟩
theorem old_keep {M : Pmap} {left : Lit → Bool} {r x : Int} {g : Hd} (h : OldB M left r) (hx : M x = some g) (hs : g.since = 0 ∨ (r ≠ 0 ∧ ¬ g.since < r)) : OldB M (fun z => left z && !z.sameKey (.int .i64 x)) r := by
  rcases h with ⟨h1, h2⟩ | ⟨h1, h2, h3⟩
  · refine .inl ⟨h1, fun y k hm hf => ?_⟩
    rcases strike_false hf with e | e
    · subst e; rw [hx] at hm; cases hm
      rcases hs with hs | hs
      · exact hs
      · exact absurd h1 hs.1
    · exact h2 y k hm e
  · refine .inr ⟨h1, h2, fun y k hm hf hk => ?_⟩
    rcases strike_false hf with e | e
    · subst e; rw [hx] at hm; cases hm
      rcases hs with hs | hs
      · exact absurd hs hk
      · omega
    · exact h3 y k hm e hk
theorem old_new {M : Pmap} {left : Lit → Bool} {r x : Int} {g : Hd} (h : OldB M left r) (hx : M x = some g) (h0 : g.since ≠ 0) (hs : r = 0 ∨ g.since < r) : OldB M (fun z => left z && !z.sameKey (.int .i64 x)) g.since := by
  refine .inr ⟨h0, ⟨x, g, hx, rfl⟩, fun y k hm hf hk => ?_⟩
  rcases strike_false hf with e | e
  · subst e; rw [hx] at hm; cases hm; exact Int.le_refl _
  · rcases h with ⟨h1, h2⟩ | ⟨h1, h2, h3⟩
    · exact absurd (h2 y k hm e) hk
    · have := h3 y k hm e hk
      rcases hs with hs | hs
      · exact absurd hs h1
      · omega
theorem ranges_fr {w w' : World} {b r n cnt : Nat} {D : DataW Unit} {left : Lit → Bool} (h : w.ranges Try.prog 3 heldR b r n D left cnt) (f : Fr (fun _ => False) w w') : w'.ranges Try.prog 3 heldR b r n D left cnt := by
  obtain ⟨es, clock, since, seen, c0, h1, h2, h3, h4, h5, h6⟩ := h
  exact ⟨es, clock, since, seen, c0, f.keep h1 (fun f => f), h2, h3, h4, f.keep h5 (fun f => f), h6⟩
section
variable (pb : Nat) (fr : Int) (mb n : Nat) (us fl : Int) (M : Pmap) (w : World)
set_option maxRecDepth 100000 in
set_option maxHeartbeats 2000000 in
theorem oldest_pl (h : Pl w pb fr mb n us fl M) : Calls Try.prog 11 #[.pointer (some ⟨pb, 0, none⟩)] w fun e w' => ∃ r : Int, e = .returned (.tuple #[.int .i64 r, .bool (r != 0)]) ∧ OldM M r ∧ Fr (fun _ => False) w w' := by
  have hal := all_pl pb fr mb n us fl M w h
  have HPM : Hid (∀ W, Fr (fun _ => False) w W → Pm W mb n M) := fun W f => h.map.same f
  obtain ⟨D, hown, hsz, hl⟩ := h.map
  have HKW : Hid (∀ x g, M x = some g → wfK x) := fun x g hm => wfK_of (by have := hl.key x g hm; omega)
  have HL : Hid (Like D M) := hl
  have HBS : Hid (OldB M (Maps.has D) 0) := old_start hl HKW.out
  obtain ⟨rr, hrr⟩ : ∃ rr, rr = w.heap.size := ⟨_, rfl⟩
  have HRR : Hid (rr = w.heap.size) := hrr
  have hmlt : mb < rr := by rw [hrr]; exact hown.lt
  clear hl hsz h hrr
  go_enter Try.func11, Try.ntmps11
  go_wp2_with (first
    | (go_at_call 29; refine hal.mono ?_; rintro e w' ⟨rfl, hw⟩; have hw2 := hw.symm; clear hw; subst hw2)
    | (at_range; refine wpList_range_own _ rfl _ 52 rfl 3 66 keyed3 Try.underlying52 heldR mb n D rfl hown ?_; intro w0 hrg0 hg0 hs0)
    | go_in)
  go_frame
  rw [← HRR.out] at hrg0 ⊢
  have F0 : Fr (fun _ => False) w w0 := (Fr.refl _ w).grown hg0 (fun k e _ => by cases e)
  clear hal hown hg0 hs0
  go_loopw [4] (fun t wr => ∃ (left : Lit → Bool) (cnt : Nat) (r : Int), wr.ranges Try.prog 3 heldR mb rr n D left cnt ∧ t = .int .i64 r ∧ Hid (OldB M left r) ∧ Fr (fun _ => False) w wr)
    (fun _ wr => wr.rangeLeft mb rr)
  case atStart => exact ⟨_, _, 0, hrg0, rfl, HBS, F0⟩
  case round =>
    obtain ⟨left, cnt, r, hrg, rfl, HB, F⟩ := hrel
    clear hrg0 F0
    go_wp2_with (first
      | (at_next; refine wpList_next_held _ rfl _ rfl mb rr n D M left cnt HL.out rfl hrg ?_ ?_)
      | go_in)
    · intro hl0
      go_wp2
      go_ret2
      exact ⟨r, rfl, old_end HB.out hl0, F⟩
    · intro x p l s u w1 cnt1 hx hwx hrg1 hlt hfr hsz1 hen
      have F1 : Fr (fun _ => False) w w1 := F.trans hfr (fun i hi e => by have := HRR.out; omega)
      have Fb := F1.alloc (.cells #[.int .i64 p, .int .i64 l, .int .i64 s, .int .i64 u] 66)
      have hrg2 := hrg1.alloc (.cells #[.int .i64 p, .int .i64 l, .int .i64 s, .int .i64 u] 66)
      have HX : Hid (M x = some ⟨p, l, s, u⟩) := hx
      have hdi := fun W => isDirty_any ⟨p, l, s, u⟩ W
      dsimp only at hdi
      obtain ⟨wb, hwb⟩ : ∃ W, W = w1.alloc (.cells #[.int .i64 p, .int .i64 l, .int .i64 s, .int .i64 u] 66) := ⟨_, rfl⟩
      have hbx : wb.heap[w1.heap.size]? = some (.cells #[.int .i64 p, .int .i64 l, .int .i64 s, .int .i64 u] 66 (0, 0)) := by rw [hwb]; exact heap_alloc_new w1 _
      have HWB : Hid (w1.alloc (.cells #[.int .i64 p, .int .i64 l, .int .i64 s, .int .i64 u] 66) = wb) := hwb.symm
      rw [← hwb] at Fb hrg2
      have HRG2 : Hid (∀ W, Fr (fun _ => False) wb W → W.ranges Try.prog 3 heldR mb rr n D (fun z => left z && !z.sameKey (.int .i64 x)) cnt1) := fun W f => ranges_fr hrg2 f
      have HMEA : Hid (∀ W, Fr (fun _ => False) wb W → W.rangeLeft mb rr < wr.rangeLeft mb rr) := fun W f => by rw [(HRG2.out W f).left_eq, hrg.left_eq]; exact hlt
      have HF : Hid (∀ W, Fr (fun _ => False) wb W → Fr (fun _ => False) w W) := fun W f => Fb.seq' f
      have HBX : Hid (∀ W, Fr (fun _ => False) wb W → W.heap[w1.heap.size]? = some (.cells #[.int .i64 p, .int .i64 l, .int .i64 s, .int .i64 u] 66 (0, 0))) := fun W f => f.keep hbx (fun f => f)
      have hfb := Fr.refl (fun _ => False) wb
      rw [hwb] at hfb
      have hdr : Hid (∀ W, Fr (fun _ => False) (w1.alloc (.cells #[.int .i64 p, .int .i64 l, .int .i64 s, .int .i64 u] 66)) W → Fr (fun _ => False) wb W) := fun W f => by rw [hwb]; exact f
      clear hx hwx hrg1 hrg2 hwb hbx hfb Fb hsz1
      by_cases hs : s = 0
      · subst hs
        have HNH : Hid (OldB M (fun z => left z && !z.sameKey (.int .i64 x)) r) := old_keep HB.out HX.out (.inl rfl)
        go_wp2_with fail
        refine (hdi _).mono ?_
        clear hdi
        rintro e w2 ⟨rfl, f2⟩
        have f3 := hdr.out _ f2
        go_wp2
        go_roundw
        case rel => exact ⟨_, cnt1, r, HRG2.out _ f3, rfl, HNH, HF.out _ f3⟩
        case measure => exact HMEA.out _ f3
      · have hsb : (s != 0) = true := by simpa using hs
        rw [hsb] at hdi
        by_cases hr0 : r = 0
        · have HNH : Hid (OldB M (fun z => left z && !z.sameKey (.int .i64 x)) s) := old_new HB.out HX.out hs (.inl hr0)
          have hrb : (r == 0) = true := by simpa using hr0
          clear hs hr0
          go_wp2_with fail
          refine (hdi _).mono ?_
          clear hdi
          rintro e w2 ⟨rfl, f2⟩
          have f3 := hdr.out _ f2
          obtain ⟨⟨c0, c1, c2, c3⟩, _⟩ := four_cells (HBX.out _ f3)
          go_wp2
          go_roundw
          case rel => exact ⟨_, cnt1, s, HRG2.out _ f3, rfl, HNH, HF.out _ f3⟩
          case measure => exact HMEA.out _ f3
        · have hrb : (r == 0) = false := by simpa using hr0
          by_cases hl : s < r
          · have HNH : Hid (OldB M (fun z => left z && !z.sameKey (.int .i64 x)) s) := old_new HB.out HX.out hs (.inr hl)
            have hd : decide (s < r) = true := decide_eq_true hl
            clear hs hr0 hl
            go_wp2_with fail
            refine (hdi _).mono ?_
            clear hdi
            rintro e w2 ⟨rfl, f2⟩
            have f3 := hdr.out _ f2
            obtain ⟨⟨c0, c1, c2, c3⟩, _⟩ := four_cells (HBX.out _ f3)
            go_wp2
            go_roundw
            case rel => exact ⟨_, cnt1, s, HRG2.out _ f3, rfl, HNH, HF.out _ f3⟩
            case measure => exact HMEA.out _ f3
          · have HNH : Hid (OldB M (fun z => left z && !z.sameKey (.int .i64 x)) r) := old_keep HB.out HX.out (.inr ⟨hr0, hl⟩)
            have hd : decide (s < r) = false := decide_eq_false hl
            clear hs hr0 hl
            go_wp2_with fail
            refine (hdi _).mono ?_
            clear hdi
            rintro e w2 ⟨rfl, f2⟩
            have f3 := hdr.out _ f2
            obtain ⟨⟨c0, c1, c2, c3⟩, _⟩ := four_cells (HBX.out _ f3)
            go_wp2
            go_roundw
            case rel => exact ⟨_, cnt1, r, HRG2.out _ f3, rfl, HNH, HF.out _ f3⟩
            case measure => exact HMEA.out _ f3
theorem rnew_no (k : Int) (hk : ¬ (1 ≤ k ∧ k ≤ 64)) : Calls Try.prog 8 #[.int .i64 k] w fun e w' => e = .returned (.tuple #[.pointer none, .int .i64 1]) ∧ w = w' := by
  by_cases h1 : k < 1
  · have d1 : decide (k < 1) = true := decide_eq_true h1
    clear hk h1
    go_enter Try.func8, Try.ntmps8
    go_wp2
    go_ret2
    exact ⟨rfl, rfl⟩
  · have d1 : decide (k < 1) = false := decide_eq_false h1
    have d2 : decide (64 < k) = true := decide_eq_true (by omega)
    clear hk h1
    go_enter Try.func8, Try.ntmps8
    go_wp2
    go_ret2
    exact ⟨rfl, rfl⟩
theorem rnew_yes (k : Int) (hk : 1 ≤ k ∧ k ≤ 64) : Calls Try.prog 8 #[.int .i64 k] w fun e w' => e = .returned (.tuple #[.pointer (some ⟨w.heap.size, 0, none⟩), .int .i64 0]) ∧ Rp w' w.heap.size k 0 (.slice none 0 0) [] ∧ Fr (fun _ => False) w w' := by
  have d1 : decide (k < 1) = false := decide_eq_false (by omega)
  have d2 : decide (64 < k) = false := decide_eq_false (by omega)
  have hb := heap_alloc_new w (.cells #[.int .i64 k, .int .i64 0, .slice none 0 0] 57)
  have f := Fr.box w (.cells #[.int .i64 k, .int .i64 0, .slice none 0 0] 57)
  clear hk
  go_enter Try.func8, Try.ntmps8
  go_wp2
  go_ret2
  exact ⟨rfl, ⟨hb, Has.nil _ _, (fun g e => by cases e), by simp⟩, f⟩
end
end Go.Proofs.Ytneniagingoleaa
