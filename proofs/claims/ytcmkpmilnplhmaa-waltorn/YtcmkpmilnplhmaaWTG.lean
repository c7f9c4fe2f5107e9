
/- WlBase, WlApp, WlBytes. -/
import Derived.Test.YtcmkpmilnplhmaaWTE
import Derived.Test.YtcmkpmilnplhmaaRcDec2
/- A log in memory; what package wal's small functions tell. -/
namespace Go.Proofs.Ytcmkpmilnplhmaa
open Go.RowKit Crcm

/-- Records that follow one another. -/
structure Wl (ls : List Rec) : Prop where
  big : ls.length ≤ 65536
  each : ∀ (i : Nat) (r : Rec), ls[i]? = some r → rok r = true ∧ r.lsn = (i : Int) + 1
  up : ∀ (i : Nat) (r s : Rec), ls[i]? = some r → ls[i + 1]? = some s → r.ep ≤ s.ep
/-- A log at block lb whose records lie in rv. -/
structure Lg (w : World) (lb : Nat) (rv : Value) (ls : List Rec) (fl : Int) : Prop where
  box : w.heap[lb]? = some (.cells #[rv, .int .i64 fl] 43 (0, 0))
  has : Has w 8 rv ls.length (ls.flatMap recC)
  own : ∀ g, rv.ownBlock = some g → lb < g
def lgS (lb : Nat) (rv : Value) : Nat → Prop := fun k => k = lb ∨ rv.ownBlock = some k
theorem Lg.fr {S : Nat → Prop} {w w' : World} {lb : Nat} {rv : Value} {ls : List Rec} {fl : Int} (h : Lg w lb rv ls fl) (f : Fr S w w') (h1 : ¬ S lb) (h2 : ∀ k, rv.ownBlock = some k → ¬ S k) : Lg w' lb rv ls fl :=
  ⟨by rw [f.block lb (lt_of_block h.box) h1]; exact h.box, h.has.fr f h2, h.own⟩
theorem Lg.same {w w' : World} {lb : Nat} {rv : Value} {ls : List Rec} {fl : Int} (h : Lg w lb rv ls fl) (f : Fr (fun _ => False) w w') : Lg w' lb rv ls fl := h.fr f (fun f => f) (fun _ _ f => f)
/-- The last epoch. -/
def lastE (ls : List Rec) : Int := (ls.getLast?.getD zr).ep
theorem lastE_at {ls : List Rec} {r : Rec} (h : ls[ls.length - 1]? = some r) : lastE ls = r.ep := by
  unfold lastE; rw [List.getLast?_eq_getElem?, h]; rfl
theorem lastE_nil : lastE [] = 0 := rfl

set_option maxRecDepth 100000 in
set_option maxHeartbeats 400000 in
theorem all_lg (lb : Nat) (rv : Value) (ls : List Rec) (fl : Int) (w : World) (h : Lg w lb rv ls fl) : Calls Try.prog 16 #[.pointer (some ⟨lb, 0, none⟩)] w fun e w' => e = .returned rv ∧ w' = w := by
  obtain ⟨h0, h1, f0, f1⟩ := cell_of_two h.box
  go_enter Try.func16, Try.ntmps16
  go_wp2
  go_ret
  exact ⟨rfl, rfl⟩
set_option maxRecDepth 100000 in
set_option maxHeartbeats 400000 in
theorem all_nil (w : World) : Calls Try.prog 16 #[.pointer none] w fun e w' => e = .returned (.slice none 0 0) ∧ w' = w := by
  go_enter Try.func16, Try.ntmps16
  go_wp2
  go_ret
  exact ⟨rfl, rfl⟩
set_option maxRecDepth 100000 in
set_option maxHeartbeats 400000 in
theorem next_lg (lb : Nat) (rv : Value) (ls : List Rec) (fl : Int) (w : World) (h : Lg w lb rv ls fl) (hm : ls.length ≤ 65536) : Calls Try.prog 13 #[.pointer (some ⟨lb, 0, none⟩)] w fun e w' => e = .returned (.int .i64 ((ls.length : Int) + 1)) ∧ w' = w := by
  have hal := all_lg lb rv ls fl w h
  obtain ⟨a, c, rfl, _, _⟩ := h.has.slice
  have e1 : IntKind.i64.wrap ((ls.length : Int) + 1) = (ls.length : Int) + 1 := by simp [IntKind.wrap, IntKind.bits, IntKind.signed]; omega
  go_enter Try.func13, Try.ntmps13
  go_wp2_with (go_at_call 16; refine hal.mono ?_; rintro e w' ⟨rfl, rfl⟩)
  go_ret
  exact ⟨rfl, rfl⟩
set_option maxRecDepth 100000 in
set_option maxHeartbeats 400000 in
theorem next_nil (w : World) : Calls Try.prog 13 #[.pointer none] w fun e w' => e = .returned (.int .i64 1) ∧ w' = w := by
  go_enter Try.func13, Try.ntmps13
  go_wp2_with (go_at_call 16; refine (all_nil _).mono ?_; rintro e w' ⟨rfl, rfl⟩)
  go_ret
  exact ⟨rfl, rfl⟩
set_option maxRecDepth 100000 in
set_option maxHeartbeats 400000 in
theorem last_nil (w : World) : Calls Try.prog 8 #[.pointer none] w fun e w' => e = .returned (.tuple #[.int .i64 0, .int .i64 0]) ∧ w' = w := by
  go_enter Try.func8, Try.ntmps8
  go_wp2
  go_ret2
  exact ⟨rfl, rfl⟩
set_option maxRecDepth 100000 in
set_option maxHeartbeats 1000000 in
theorem last_lg (lb : Nat) (rv : Value) (ls : List Rec) (fl : Int) (w : World) (h : Lg w lb rv ls fl) (hw : Wl ls) : Calls Try.prog 8 #[.pointer (some ⟨lb, 0, none⟩)] w fun e w' => e = .returned (.tuple #[.int .i64 (ls.length : Int), .int .i64 (lastE ls)]) ∧ Fr (fun _ => False) w w' := by
  obtain ⟨h0, h1, f0, f1⟩ := cell_of_two h.box
  have hm := hw.big
  by_cases hn : ls.length = 0
  · have hl : ls = [] := List.length_eq_zero_iff.1 hn
    have hle : lastE ls = 0 := by rw [hl]; rfl
    rw [hle]
    obtain ⟨a, c, rfl, _, _⟩ := h.has.slice
    rw [hn] at h0 ⊢
    clear hl hle hn
    go_enter Try.func8, Try.ntmps8
    go_wp2
    go_ret2
    exact ⟨rfl, Fr.refl _ _⟩
  · obtain ⟨g, cap, rfl, hg, hnc, hcm, _, _⟩ := h.has.form (by omega)
    obtain ⟨r, hr⟩ : ∃ r, ls[ls.length - 1]? = some r := ⟨_, List.getElem?_eq_getElem (by omega)⟩
    obtain ⟨q0, q1, q2, q3, q4, q5, q6, q7⟩ := rec_range (h.has.elem recC_length hr)
    have HE : Hid (lastE ls = r.ep) := lastE_at hr
    have HR : Hid (r.lsn = (ls.length : Int)) := by show _ = _; rw [(hw.each _ _ hr).2]; omega
    rw [HE.out, ← HR.out]
    obtain ⟨n, hn0⟩ : ∃ n, ls.length = n + 1 := ⟨ls.length - 1, by omega⟩
    rw [hn0] at h0 hm hnc q0 q1 q2 q3 q4 q5 q6 q7
    simp only [Nat.add_sub_cancel] at q0 q1 q2 q3 q4 q5 q6 q7
    have hnz : ((n : Int) + 1 == 0) = false := by rw [beq_eq_false_iff_ne]; omega
    have e1 : IntKind.i64.wrap ((n : Int) + 1 - 1) = (n : Int) := by simp [IntKind.wrap, IntKind.bits, IntKind.signed]; omega
    clear hn0 hr hn HE HR h hw
    have HQ : Hid (∀ W, Fr (fun _ => False) w W → W.cell? ⟨lb, 0, none⟩ = some (.slice (some ⟨g, 0, none⟩) (n + 1) cap) ∧ (W.cell? ⟨g, n * 8, none⟩ = some (.int .i64 r.lsn) ∧ W.cell? ⟨g, n * 8 + 1, none⟩ = some (.int .i64 r.ep) ∧ W.cell? ⟨g, n * 8 + 2, none⟩ = some (.int .i64 r.kind) ∧ W.cell? ⟨g, n * 8 + 3, none⟩ = some (.int .i64 r.page) ∧ W.cell? ⟨g, n * 8 + 4, none⟩ = some (.int .i64 r.other) ∧ W.cell? ⟨g, n * 8 + 5, none⟩ = some (.int .i64 r.req) ∧ W.cell? ⟨g, n * 8 + 6, none⟩ = some (.string r.key) ∧ W.cell? ⟨g, n * 8 + 7, none⟩ = some (.string r.val))) := fun W f => by
      have hlb : lb < w.heap.size := World.block_lt_of_cell? w _ h0
      refine ⟨(f.cell (p := ⟨lb, 0, none⟩) hlb (fun f => f)).trans h0, ?_⟩
      exact ⟨(f.cell (p := ⟨g, n * 8, none⟩) hg (fun f => f)).trans q0, (f.cell (p := ⟨g, n * 8 + 1, none⟩) hg (fun f => f)).trans q1, (f.cell (p := ⟨g, n * 8 + 2, none⟩) hg (fun f => f)).trans q2, (f.cell (p := ⟨g, n * 8 + 3, none⟩) hg (fun f => f)).trans q3, (f.cell (p := ⟨g, n * 8 + 4, none⟩) hg (fun f => f)).trans q4, (f.cell (p := ⟨g, n * 8 + 5, none⟩) hg (fun f => f)).trans q5, (f.cell (p := ⟨g, n * 8 + 6, none⟩) hg (fun f => f)).trans q6, (f.cell (p := ⟨g, n * 8 + 7, none⟩) hg (fun f => f)).trans q7⟩
    have i0 : (0 : Int) ≤ (n : Int) := by omega
    have i1 : (n : Int) < (n : Int) + 1 := by omega
    have i2 : wrap64 (n : Int) = (n : Int) := by unfold wrap64; omega
    have i3 : IntKind.i64.wrap (n : Int) = (n : Int) := by simp [IntKind.wrap, IntKind.bits, IntKind.signed]; omega
    have fd := (Fr.refl (fun _ => False) w).drew
    have fa := fd.alloc (.cells #[.int .i64 0, .int .i64 0, .int .i64 0, .int .i64 0, .int .i64 0, .int .i64 0, .string ⟨#[]⟩, .string ⟨#[]⟩] 28)
    have fz := fd.alloc (.cells #[.int .i64 r.lsn, .int .i64 r.ep, .int .i64 r.kind, .int .i64 r.page, .int .i64 r.other, .int .i64 r.req, .string r.key, .string r.val] 28)
    go_enter Try.func8, Try.ntmps8
    go_wp2_with fail
    clear q0 q1 q2 q3 q4 q5 q6 q7 h0
    go_region_held3 (fun W => W.cell? ⟨lb, 0, none⟩ = some (.slice (some ⟨g, 0, none⟩) (n + 1) cap) ∧ (W.cell? ⟨g, n * 8, none⟩ = some (.int .i64 r.lsn) ∧ W.cell? ⟨g, n * 8 + 1, none⟩ = some (.int .i64 r.ep) ∧ W.cell? ⟨g, n * 8 + 2, none⟩ = some (.int .i64 r.kind) ∧ W.cell? ⟨g, n * 8 + 3, none⟩ = some (.int .i64 r.page) ∧ W.cell? ⟨g, n * 8 + 4, none⟩ = some (.int .i64 r.other) ∧ W.cell? ⟨g, n * 8 + 5, none⟩ = some (.int .i64 r.req) ∧ W.cell? ⟨g, n * 8 + 6, none⟩ = some (.string r.key) ∧ W.cell? ⟨g, n * 8 + 7, none⟩ = some (.string r.val)))
      (first | exact HQ.out _ fd | exact HQ.out _ fa | exact HQ.out _ fz)
      (fail)
    go_wp2_with fail
    go_quiet (fail)
    go_wp2
    go_ret2
    exact ⟨rfl, by repeat (first | exact Fr.refl _ _ | apply Fr.drewN | apply Fr.drew | apply Fr.alloc)⟩

/-- Why a right record may not stand behind the others. -/
def refus (ls : List Rec) (ep : Int) : Int := if ep < lastE ls then 100 else if ls.length = 65536 then 5 else 0
set_option maxRecDepth 100000 in
set_option maxHeartbeats 1000000 in
theorem refusal_lg (lb : Nat) (rv : Value) (ls : List Rec) (fl : Int) (r : Rec) (w : World) (h : Lg w lb rv ls fl) (hw : Wl ls) : Calls Try.prog 15 #[.pointer (some ⟨lb, 0, none⟩), (.agg #[.int .i64 r.lsn, .int .i64 r.ep, .int .i64 r.kind, .int .i64 r.page, .int .i64 r.other, .int .i64 r.req, .string r.key, .string r.val])] w fun e w' => e = .returned (.int .i64 (refus ls r.ep)) ∧ Fr (fun _ => False) w w' := by
  have f0 := Fr.box w (.cells #[.int .i64 r.lsn, .int .i64 r.ep, .int .i64 r.kind, .int .i64 r.page, .int .i64 r.other, .int .i64 r.req, .string r.key, .string r.val] 28)
  have hla := last_lg lb rv ls fl _ (h.same f0) hw
  have HB : Hid (∀ W, Fr (fun _ => False) (w.alloc (.cells #[.int .i64 r.lsn, .int .i64 r.ep, .int .i64 r.kind, .int .i64 r.page, .int .i64 r.other, .int .i64 r.req, .string r.key, .string r.val] 28)) W → W.cell? ⟨w.heap.size, 0, none⟩ = some (.int .i64 r.lsn) ∧ W.cell? ⟨w.heap.size, 1, none⟩ = some (.int .i64 r.ep) ∧ W.cell? ⟨w.heap.size, 2, none⟩ = some (.int .i64 r.kind) ∧ W.cell? ⟨w.heap.size, 3, none⟩ = some (.int .i64 r.page) ∧ W.cell? ⟨w.heap.size, 4, none⟩ = some (.int .i64 r.other) ∧ W.cell? ⟨w.heap.size, 5, none⟩ = some (.int .i64 r.req) ∧ W.cell? ⟨w.heap.size, 6, none⟩ = some (.string r.key) ∧ W.cell? ⟨w.heap.size, 7, none⟩ = some (.string r.val)) := fun W f => (rec_cells (rec_at w _ _ f)).1
  have HR : Hid (refus ls r.ep = if r.ep < lastE ls then 100 else if ls.length = 65536 then 5 else 0) := rfl
  generalize lastE ls = le at *
  by_cases h1 : r.ep < le
  · have HV : Hid (refus ls r.ep = 100) := by show _ = _; rw [HR.out, if_pos h1]
    rw [HV.out]
    go_enter Try.func15, Try.ntmps15
    go_wp2_with fail
    refine hla.mono ?_
    rintro e w1 ⟨rfl, f1⟩
    obtain ⟨c0, c1, c2, c3, c4, c5, c6, c7⟩ := HB.out _ f1
    go_wp2
    go_ret
    exact ⟨rfl, f0.seq' f1⟩
  · by_cases h2 : ls.length = 65536
    · have HV : Hid (refus ls r.ep = 5) := by show _ = _; rw [HR.out, if_neg h1, if_pos h2]
      rw [HV.out]
      have h3 : ((ls.length : Int) == 65536) = true := by rw [beq_iff_eq]; omega
      clear h2
      go_enter Try.func15, Try.ntmps15
      go_wp2_with fail
      refine hla.mono ?_
      rintro e w1 ⟨rfl, f1⟩
      obtain ⟨c0, c1, c2, c3, c4, c5, c6, c7⟩ := HB.out _ f1
      go_wp2
      go_ret
      exact ⟨rfl, f0.seq' f1⟩
    · have HV : Hid (refus ls r.ep = 0) := by show _ = _; rw [HR.out, if_neg h1, if_neg h2]
      rw [HV.out]
      have h3 : ((ls.length : Int) == 65536) = false := by rw [beq_eq_false_iff_ne]; omega
      clear h2
      go_enter Try.func15, Try.ntmps15
      go_wp2_with fail
      refine hla.mono ?_
      rintro e w1 ⟨rfl, f1⟩
      obtain ⟨c0, c1, c2, c3, c4, c5, c6, c7⟩ := HB.out _ f1
      go_wp2
      go_ret
      exact ⟨rfl, f0.seq' f1⟩
set_option maxRecDepth 100000 in
set_option maxHeartbeats 1000000 in
theorem refusal_nil (r : Rec) (w : World) : Calls Try.prog 15 #[.pointer none, (.agg #[.int .i64 r.lsn, .int .i64 r.ep, .int .i64 r.kind, .int .i64 r.page, .int .i64 r.other, .int .i64 r.req, .string r.key, .string r.val])] w fun e w' => e = .returned (.int .i64 (if r.ep < 0 then 100 else 5)) ∧ Fr (fun _ => False) w w' := by
  by_cases h1 : r.ep < 0
  · rw [if_pos h1]
    go_enter Try.func15, Try.ntmps15
    go_wp2_with (go_at_call 8; refine (last_nil _).mono ?_; rintro e w1 ⟨rfl, rfl⟩)
    go_ret
    exact ⟨rfl, Fr.box w _⟩
  · rw [if_neg h1]
    go_enter Try.func15, Try.ntmps15
    go_wp2_with (go_at_call 8; refine (last_nil _).mono ?_; rintro e w1 ⟨rfl, rfl⟩)
    go_ret
    exact ⟨rfl, Fr.box w _⟩
set_option maxRecDepth 100000 in
set_option maxHeartbeats 400000 in
theorem wnew_any (w : World) : Calls Try.prog 4 #[] w fun e w' => e = .returned (.pointer (some ⟨w.heap.size, 0, none⟩)) ∧ Lg w' w.heap.size (.slice none 0 0) [] 0 ∧ Fr (fun _ => False) w w' ∧ w'.heap.size = w.heap.size + 1 := by
  go_enter Try.func4, Try.ntmps4
  go_wp2
  go_ret
  exact ⟨rfl, ⟨heap_alloc_new w _, Has.nil _ _, fun g e => by cases e⟩, Fr.box w _, by simp⟩
theorem wl_nil : Wl [] := ⟨by simp, (fun i r h => by simp at h), (fun i r s h => by simp at h)⟩
theorem wl_snoc {ls : List Rec} (h : Wl ls) (r : Rec) (h1 : rok r = true) (h2 : r.lsn = (ls.length : Int) + 1) (h3 : refus ls r.ep = 0) : Wl (ls ++ [r]) := by
  have hne : ¬ r.ep < lastE ls := by
    intro hh; unfold refus at h3; rw [if_pos hh] at h3; exact absurd h3 (by decide)
  have hlt : ls.length ≠ 65536 := by
    intro hh; unfold refus at h3; rw [if_neg hne, if_pos hh] at h3; exact absurd h3 (by decide)
  refine ⟨by have := h.big; simp; omega, fun i x hx => ?_, fun i x y hx hy => ?_⟩
  · rcases Nat.lt_or_ge i ls.length with hi | hi
    · rw [List.getElem?_append_left hi] at hx; exact h.each i x hx
    · rw [List.getElem?_append_right hi] at hx
      have hi0 : i - ls.length = 0 := by
        have := (List.getElem?_eq_some_iff.1 hx).1
        simp at this; omega
      rw [hi0] at hx
      simp at hx
      subst hx
      exact ⟨h1, by rw [h2]; omega⟩
  · have hi1 : i + 1 < (ls ++ [r]).length := (List.getElem?_eq_some_iff.1 hy).1
    rw [List.length_append, List.length_singleton] at hi1
    rw [List.getElem?_append_left (by omega)] at hx
    rcases Nat.lt_or_ge (i + 1) ls.length with hi | hi
    · rw [List.getElem?_append_left hi] at hy; exact h.up i x y hx hy
    · have he : i = ls.length - 1 := by omega
      rw [List.getElem?_append_right hi] at hy
      have hi0 : i + 1 - ls.length = 0 := by omega
      rw [hi0] at hy
      simp at hy
      subst hy
      rw [he] at hx
      rw [lastE_at hx] at hne
      omega
end Go.Proofs.Ytcmkpmilnplhmaa

/- What (*Log).Append does. -/
namespace Go.Proofs.Ytcmkpmilnplhmaa
open Go.RowKit Crcm

theorem infoRec : (Try.prog.info? 28).map (fun i => (i.zero, i.size, i.bytes)) = some (some (.agg #[.int .i64 0, .int .i64 0, .int .i64 0, .int .i64 0, .int .i64 0, .int .i64 0, .string ⟨#[]⟩, .string ⟨#[]⟩]), 8, 80) := by kernel_rfl
/-- The record that would stand behind. -/
def nx (ls : List Rec) (r : Rec) : Rec := ⟨(ls.length : Int) + 1, r.ep, r.kind, r.page, r.other, r.req, r.key, r.val⟩
def apE (ls : List Rec) (r : Rec) : Int := if rok (nx ls r) = true then refus ls r.ep else 90
def apL (ls : List Rec) (r : Rec) : List Rec := if apE ls r = 0 then ls ++ [nx ls r] else ls
def apN (ls : List Rec) (r : Rec) : Int := if apE ls r = 0 then (ls.length : Int) + 1 else 0
theorem wl_ap {ls : List Rec} (h : Wl ls) (r : Rec) : Wl (apL ls r) := by
  unfold apL
  split
  · rename_i h0
    unfold apE at h0
    split at h0
    · rename_i h1; exact wl_snoc h (nx ls r) h1 rfl h0
    · exact absurd h0 (by decide)
  · exact h
theorem Lg.push {w W w1 : World} {lb : Nat} {rv rv' : Value} {ls ls' : List Rec} {fl : Int} (h : Lg w lb rv ls fl) (F : Fr (fun _ => False) w W) (f : Fr (fun k => rv.ownBlock = some k ∧ 0 < 1) W w1) (hh : Has w1 8 rv' ls'.length (ls'.flatMap recC)) (hat : rv'.ownBlock = rv.ownBlock ∨ rv'.ownBlock = some W.heap.size) :
    Lg (w1.setCell ⟨lb, 0, none⟩ rv') lb rv' ls' fl ∧ Fr (lgS lb rv) w (w1.setCell ⟨lb, 0, none⟩ rv') ∧ (rv'.ownBlock = rv.ownBlock ∨ ∃ g, rv'.ownBlock = some g ∧ w.heap.size ≤ g) := by
  have hlt := lt_of_block h.box
  have hs := F.size
  have hb : w1.heap[lb]? = some (.cells #[rv, .int .i64 fl] 43 (0, 0)) := by
    rw [f.block lb (by omega) (fun e => by have := h.own lb e.1; omega), F.block lb hlt (fun f => f)]; exact h.box
  have fs : Fr (fun k => k = lb) w1 (w1.setCell ⟨lb, 0, none⟩ rv') := (Fr.refl (fun k => k = lb) w1).setCell (p := ⟨lb, 0, none⟩) (fun _ => rfl) _
  have own' : ∀ g, rv'.ownBlock = some g → lb < g := fun g e => by
    rcases hat with h1 | h1
    · rw [h1] at e; exact h.own g e
    · rw [h1] at e; simp only [Option.some.injEq] at e; omega
  refine ⟨⟨two_setCell0 hb, hh.fr fs (fun g e e2 => by have := own' g e; omega), own'⟩, ((F.mono (fun _ _ f => f.elim)).trans f (fun i _ e => .inr e.1)).trans fs (fun i _ e => .inl e), ?_⟩
  rcases hat with h1 | h1
  · exact .inl h1
  · exact .inr ⟨_, h1, hs⟩

set_option maxRecDepth 100000 in
set_option maxHeartbeats 2000000 in
theorem append_lg (r : Rec) (lb : Nat) (rv : Value) (ls : List Rec) (fl : Int) (w : World) (h : Lg w lb rv ls fl) (hw : Wl ls) :
    Calls Try.prog 5 #[.pointer (some ⟨lb, 0, none⟩), (.agg #[.int .i64 r.lsn, .int .i64 r.ep, .int .i64 r.kind, .int .i64 r.page, .int .i64 r.other, .int .i64 r.req, .string r.key, .string r.val])] w fun e w' => e = .returned (.tuple #[.int .i64 (apN ls r), .int .i64 (apE ls r)]) ∧
      ∃ rv', Lg w' lb rv' (apL ls r) fl ∧ Fr (lgS lb rv) w w' ∧ (rv'.ownBlock = rv.ownBlock ∨ ∃ g, rv'.ownBlock = some g ∧ w.heap.size ≤ g) := by
  obtain ⟨iR, hiR, hR0, hR1, hR2⟩ := info_parts infoRec
  have f0 := Fr.box w (.cells #[.int .i64 r.lsn, .int .i64 r.ep, .int .i64 r.kind, .int .i64 r.page, .int .i64 r.other, .int .i64 r.req, .string r.key, .string r.val] 28)
  have hb := hw.big
  have hnx := next_lg lb rv ls fl _ (h.same f0) hb
  obtain ⟨rn, hrn⟩ : ∃ rn, rn = nx ls r := ⟨_, rfl⟩
  have HRN : Hid (rn = nx ls r) := hrn
  obtain ⟨W1, hW1⟩ : ∃ W, W = w.alloc (.cells #[.int .i64 ((ls.length : Int) + 1), .int .i64 r.ep, .int .i64 r.kind, .int .i64 r.page, .int .i64 r.other, .int .i64 r.req, .string r.key, .string r.val] 28) := ⟨_, rfl⟩
  have HW1 : Hid (w.alloc (.cells #[.int .i64 ((ls.length : Int) + 1), .int .i64 r.ep, .int .i64 r.kind, .int .i64 r.page, .int .i64 r.other, .int .i64 r.req, .string r.key, .string r.val] 28) = W1) := hW1.symm
  have F1 : Fr (fun _ => False) w W1 := by rw [hW1]; exact Fr.box w _
  have HB : Hid (∀ W, Fr (fun _ => False) W1 W → (W.cell? ⟨w.heap.size, 0, none⟩ = some (.int .i64 rn.lsn) ∧ W.cell? ⟨w.heap.size, 1, none⟩ = some (.int .i64 rn.ep) ∧ W.cell? ⟨w.heap.size, 2, none⟩ = some (.int .i64 rn.kind) ∧ W.cell? ⟨w.heap.size, 3, none⟩ = some (.int .i64 rn.page) ∧ W.cell? ⟨w.heap.size, 4, none⟩ = some (.int .i64 rn.other) ∧ W.cell? ⟨w.heap.size, 5, none⟩ = some (.int .i64 rn.req) ∧ W.cell? ⟨w.heap.size, 6, none⟩ = some (.string rn.key) ∧ W.cell? ⟨w.heap.size, 7, none⟩ = some (.string rn.val))) := fun W f => by
    rw [hW1] at f
    rw [hrn]
    exact (rec_cells (rec_at w _ _ f)).1
  have hck := rec_check rn W1
  have HRV : Hid ((Value.agg #[.int .i64 rn.lsn, .int .i64 rn.ep, .int .i64 rn.kind, .int .i64 rn.page, .int .i64 rn.other, .int .i64 rn.req, .string rn.key, .string rn.val]) = .agg #[.int .i64 ((ls.length : Int) + 1), .int .i64 r.ep, .int .i64 r.kind, .int .i64 r.page, .int .i64 r.other, .int .i64 r.req, .string r.key, .string r.val]) := by show _ = _; rw [hrn]; rfl
  have HEP : Hid (r.ep = rn.ep) := by show _ = _; rw [hrn]; rfl
  have HLS : Hid (rn.lsn = (ls.length : Int) + 1) := by show _ = _; rw [hrn]; rfl
  clear hW1 hrn
  by_cases hok : rok rn = true
  · have HE : Hid (erec rn = 0) := erec_yes hok
    have HAE : Hid (apE ls r = refus ls rn.ep) := by show _ = _; unfold apE; rw [← HRN.out, if_pos hok, ← HEP.out]
    rw [HE.out] at hck
    have hrf := fun W hW => refusal_lg lb rv ls fl rn W hW hw
    by_cases hre : refus ls rn.ep = 0
    · have HZ : Hid (apE ls r = 0) := by show _ = _; rw [HAE.out]; exact hre
      have HN : Hid (apN ls r = rn.lsn) := by show _ = _; unfold apN; rw [if_pos HZ.out, HLS.out]
      have HL : Hid (apL ls r = ls ++ [rn]) := by show _ = _; unfold apL; rw [if_pos HZ.out, HRN.out]
      have hlt : ls.length < 65536 := by
        rcases Nat.lt_or_ge ls.length 65536 with h' | h'
        · exact h'
        · exfalso
          have he : ls.length = 65536 := by omega
          unfold refus at hre
          split at hre
          · exact absurd hre (by decide)
          · first | exact absurd hre (by decide) | (rw [if_pos he] at hre; exact absurd hre (by decide))
      rw [HZ.out, HN.out, HL.out]
      rw [hre] at hrf
      clear hre hok HE HAE HZ HN
      go_enter Try.func5, Try.ntmps5
      go_wp2_with fail
      refine hnx.mono ?_
      rintro e w' ⟨rfl, rfl⟩
      clear hnx
      go_wp2_with fail
      rw [HW1.out, ← HRV.out]
      refine hck.mono ?_
      clear hck
      rintro e w2 ⟨rfl, f2⟩
      obtain ⟨c0, c1, c2, c3, c4, c5, c6, c7⟩ := HB.out _ f2
      go_wp2_with fail
      refine (hrf _ (h.same (F1.seq' f2))).mono ?_
      clear hrf
      rintro e w3 ⟨rfl, f3⟩
      clear c0 c1 c2 c3 c4 c5 c6 c7
      have G3 := f2.seq' f3
      have F3 := F1.seq' G3
      have h3 := h.same F3
      obtain ⟨k0, k1, z0, z1⟩ := cell_of_two h3.box
      obtain ⟨c0, c1, c2, c3, c4, c5, c6, c7⟩ := HB.out _ G3
      obtain ⟨a, c, rfl, _, _⟩ := h.has.slice
      have F4 : Fr (fun _ => False) w ((w3.alloc (.cells #[.int .i64 rn.lsn, .int .i64 rn.ep, .int .i64 rn.kind, .int .i64 rn.page, .int .i64 rn.other, .int .i64 rn.req, .string rn.key, .string rn.val] 28)).drew) := (F3.alloc _).drew
      have G4 : Fr (fun _ => False) W1 ((w3.alloc (.cells #[.int .i64 rn.lsn, .int .i64 rn.ep, .int .i64 rn.kind, .int .i64 rn.page, .int .i64 rn.other, .int .i64 rn.req, .string rn.key, .string rn.val] 28)).drew) := (G3.alloc _).drew
      have h4 := h.same F4
      have hrow := h4.has
      have hbx := h4.box
      have hnews : From ((w3.alloc (.cells #[.int .i64 rn.lsn, .int .i64 rn.ep, .int .i64 rn.kind, .int .i64 rn.page, .int .i64 rn.other, .int .i64 rn.req, .string rn.key, .string rn.val] 28)).drew) (some ⟨w3.heap.size, 0, none⟩) (recC rn) := .inr ⟨_, _, rfl, range_block (w := (w3.alloc _).drew) (heap_alloc_new w3 _) (fun j v hv => by rw [Nat.zero_add]; simpa [recC] using hv)⟩
      have HHB : Hid (∀ w5, Fr (fun k => (Value.slice a ls.length c).ownBlock = some k ∧ 0 < 1) ((w3.alloc (.cells #[.int .i64 rn.lsn, .int .i64 rn.ep, .int .i64 rn.kind, .int .i64 rn.page, .int .i64 rn.other, .int .i64 rn.req, .string rn.key, .string rn.val] 28)).drew) w5 → w5.heap[lb]? = some (.cells #[.slice a ls.length c, .int .i64 fl] 43 (0, 0)) ∧ w5.cell? ⟨w.heap.size, 0, none⟩ = some (.int .i64 rn.lsn) ∧ w5.cell? ⟨w.heap.size, 1, none⟩ = some (.int .i64 rn.ep) ∧ w5.cell? ⟨w.heap.size, 2, none⟩ = some (.int .i64 rn.kind) ∧ w5.cell? ⟨w.heap.size, 3, none⟩ = some (.int .i64 rn.page) ∧ w5.cell? ⟨w.heap.size, 4, none⟩ = some (.int .i64 rn.other) ∧ w5.cell? ⟨w.heap.size, 5, none⟩ = some (.int .i64 rn.req) ∧ w5.cell? ⟨w.heap.size, 6, none⟩ = some (.string rn.key) ∧ w5.cell? ⟨w.heap.size, 7, none⟩ = some (.string rn.val)) := fun w5 f => by
        have hlb := lt_of_block h.box
        refine ⟨by rw [f.block lb (lt_of_block hbx) (fun e => by have := h.own lb e.1; omega)]; exact hbx, ?_⟩
        have hcell := (rec_cells (w' := w5) (b := w.heap.size) (t := 28) (c0 := .int .i64 rn.lsn) (c1 := .int .i64 rn.ep) (c2 := .int .i64 rn.kind) (c3 := .int .i64 rn.page) (c4 := .int .i64 rn.other) (c5 := .int .i64 rn.req) (c6 := .string rn.key) (c7 := .string rn.val) (by
          have hne : ∀ k, (Value.slice a ls.length c).ownBlock = some k → k < w.heap.size := fun k e => h.has.lt e
          have hW : W1.heap[w.heap.size]? = some (.cells #[.int .i64 rn.lsn, .int .i64 rn.ep, .int .i64 rn.kind, .int .i64 rn.page, .int .i64 rn.other, .int .i64 rn.req, .string rn.key, .string rn.val] 28 (0, 0)) := by
            rw [← HW1.out, HRN.out]; exact heap_alloc_new w _
          have hz := lt_of_block hW
          rw [f.block w.heap.size (Nat.lt_of_lt_of_le hz G4.size) (fun e => by have := hne _ e.1; omega), G4.block _ hz (fun f => f)]
          exact hW)).1
        exact hcell
      obtain ⟨y0, y1, y2, y3⟩ := cell_of_two hbx
      obtain ⟨t0, t1, t2, t3, t4, t5, t6, t7⟩ := HB.out _ G4
      go_wp2
      go_region_law
        ((refine step_append_has _ (by rfl) _ _ 22 22 28 28 (by rfl) iR _ 8 80 Try.underlying22 Try.underlying22 hiR hR0 hR1 hR2 rfl (by omega) (.slice a ls.length c) ls.length (ls.flatMap recC) (by rfl) hrow
            (some ⟨w3.heap.size, 0, none⟩) 1 1 (recC rn) (by rfl) (by rfl) hnews (recC_one rn) (by unfold maxLen; omega) (by omega) ?_; intro a' c' w5 hown hfr hat; obtain ⟨hb5, d0, d1, d2, d3, d4, d5, d6, d7⟩ := HHB.out _ hfr; obtain ⟨k5, k6, z5, z6⟩ := cell_of_two hb5))
      all_goals
        have hlb := lt_of_block h.box
        have hn1 : ¬ lb = w.heap.size := by omega
        have hn2 : ¬ w.heap.size = lb := by omega
        have hp := h.push F4 hfr (ls' := ls ++ [rn]) (by rw [List.length_append, List.flatMap_append]; simpa using hown) hat
        go_wp2
        go_ret2
        exact ⟨rfl, _, hp⟩
    · have HN : Hid (apN ls r = 0) := by show _ = _; unfold apN; rw [if_neg (by rw [HAE.out]; exact hre)]
      have HL : Hid (apL ls r = ls) := by show _ = _; unfold apL; rw [if_neg (by rw [HAE.out]; exact hre)]
      rw [HN.out, HL.out, HAE.out]
      have hreb : (refus ls rn.ep != 0) = true := by simpa using hre
      generalize refus ls rn.ep = er at *
      clear hre hok HE HAE HN HL
      go_enter Try.func5, Try.ntmps5
      go_wp2_with fail
      refine hnx.mono ?_
      rintro e w' ⟨rfl, rfl⟩
      clear hnx
      go_wp2_with fail
      rw [HW1.out, ← HRV.out]
      refine hck.mono ?_
      clear hck
      rintro e w2 ⟨rfl, f2⟩
      obtain ⟨c0, c1, c2, c3, c4, c5, c6, c7⟩ := HB.out _ f2
      go_wp2_with fail
      refine (hrf _ (h.same (F1.seq' f2))).mono ?_
      clear hrf
      rintro e w3 ⟨rfl, f3⟩
      clear c0 c1 c2 c3 c4 c5 c6 c7
      have F3 := F1.seq' (f2.seq' f3)
      go_wp2
      go_ret2
      exact ⟨rfl, rv, h.same F3, F3.mono (fun _ _ f => f.elim), .inl rfl⟩
  · have hokf : rok rn = false := by simpa using hok
    have HE : Hid (erec rn = 90) := erec_no hokf
    have HAE : Hid (apE ls r = 90) := by show _ = _; unfold apE; rw [← HRN.out, if_neg hok]
    have HN : Hid (apN ls r = 0) := by show _ = _; unfold apN; rw [HAE.out, if_neg (by decide)]
    have HL : Hid (apL ls r = ls) := by show _ = _; unfold apL; rw [HAE.out, if_neg (by decide)]
    rw [HE.out] at hck
    rw [HN.out, HL.out, HAE.out]
    clear hok hokf HE HAE HN HL
    go_enter Try.func5, Try.ntmps5
    go_wp2_with fail
    refine hnx.mono ?_
    rintro e w' ⟨rfl, rfl⟩
    clear hnx
    go_wp2_with fail
    rw [HW1.out, ← HRV.out]
    refine hck.mono ?_
    clear hck
    rintro e w2 ⟨rfl, f2⟩
    have F3 := F1.seq' f2
    go_wp2
    go_ret2
    exact ⟨rfl, rv, h.same F3, F3.mono (fun _ _ f => f.elim), .inl rfl⟩
end Go.Proofs.Ytcmkpmilnplhmaa

/- What (*Log).Bytes makes. -/
namespace Go.Proofs.Ytcmkpmilnplhmaa
open Go.RowKit Crcm

/-- The frames of records, one behind the other. -/
def lfr (l : List Rec) : List Nat := l.flatMap frm
theorem lfr_snoc (l : List Rec) (r : Rec) : lfr (l ++ [r]) = lfr l ++ frm r := by unfold lfr; simp
theorem lfr_octs (l : List Rec) : octs (lfr l) := fun x hx => by
  unfold lfr at hx
  obtain ⟨r, _, h⟩ := List.mem_flatMap.1 hx
  exact frm_octs r x h
theorem frm_small {r : Rec} (h : rok r = true) : (frm r).length ≤ 400 := by have g := rok_rg h; have := g.key; have := g.val; rw [frm_length]; omega
theorem lfr_len {l : List Rec} (h : ∀ r ∈ l, rok r = true) : (lfr l).length ≤ 400 * l.length := by
  induction l with
  | nil => simp [lfr]
  | cons r l ih =>
    have h1 := frm_small (h r (by simp))
    have h2 := ih (fun r hr => h r (by simp [hr]))
    unfold lfr at *
    rw [List.flatMap_cons, List.length_append, List.length_cons]
    omega
theorem take_one (l : List Rec) (k : Nat) (h : k < l.length) : ∃ r, l[k]? = some r ∧ l.take (k + 1) = l.take k ++ [r] := ⟨l[k], List.getElem?_eq_getElem h, List.take_succ_eq_append_getElem h⟩
theorem lfr_drop (l : List Rec) (k : Nat) (r : Rec) (h : l[k]? = some r) : lfr (l.drop k) = frm r ++ lfr (l.drop (k + 1)) := by
  obtain ⟨hk, rfl⟩ := List.getElem?_eq_some_iff.1 h
  rw [List.drop_eq_getElem_cons hk]; unfold lfr; rw [List.flatMap_cons]
theorem Wl.ok {ls : List Rec} (h : Wl ls) : ∀ r ∈ ls, rok r = true := fun r hr => by
  obtain ⟨i, hi, rfl⟩ := List.getElem_of_mem hr
  exact (h.each i _ (List.getElem?_eq_getElem hi)).1
theorem lfr_wl {ls : List Rec} (h : Wl ls) (k : Nat) : (lfr (ls.take k)).length ≤ 26214400 := by
  have h1 := lfr_len (l := ls.take k) (fun r hr => h.ok r (List.mem_of_mem_take hr))
  have h2 : (ls.take k).length ≤ 65536 := by rw [List.length_take]; have := h.big; omega
  omega

set_option maxRecDepth 100000 in
set_option maxHeartbeats 2000000 in
theorem bytes_lg (lb : Nat) (rv : Value) (ls : List Rec) (fl : Int) (w : World) (h : Lg w lb rv ls fl) (hw : Wl ls) :
    Calls Try.prog 6 #[.pointer (some ⟨lb, 0, none⟩)] w fun e w' => ∃ v', e = .returned v' ∧ Made w w' v' (lfr ls) := by
  obtain ⟨i0, hi, hz0, hz1, hz2⟩ := info_parts info8
  have hb := hw.big
  have HW : Hid (Wl ls) := hw
  have hal := all_lg lb rv ls fl w h
  have HH : Hid (∀ W, Fr (fun _ => False) w W → Has W 8 rv ls.length (ls.flatMap recC)) := fun W f => h.has.fr f (fun _ _ f => f)
  obtain ⟨ar, cr, rfl, _, hcr⟩ := h.has.slice
  have hcr' : cr ≤ 9223372036854775807 := by unfold maxLen at hcr; exact hcr
  clear hcr
  go_enter Try.func6, Try.ntmps6
  go_wp2_with fail
  refine hal.mono ?_
  rintro e w' ⟨rfl, rfl⟩
  clear hal
  go_wp2
  go_loopw [11, 3] (fun i b wr => ∃ (k : Nat) (vb : Value) (B : List Nat), k ≤ ls.length ∧ i = .int .i64 k ∧ b = vb ∧ Hid (B = lfr (ls.take k)) ∧ Mine wr w'.heap.size vb B ∧ Fr (fun _ => False) w' wr) (fun i _ _ => ls.length - (intOf i).toNat)
  case atStart => exact ⟨0, .slice none 0 0, [], by omega, rfl, rfl, rfl, World.ownsRow_nil _ _ _ _, Fr.refl _ _⟩
  case round =>
    obtain ⟨k, vb, B, hk, rfl, rfl, HB, mb, F⟩ := hrel
    by_cases hlt : k < ls.length
    · obtain ⟨r, hr, htk⟩ := take_one ls k hlt
      have HTK : Hid (ls.take (k + 1) = ls.take k ++ [r]) := htk
      have hhk := HH.out _ F
      obtain ⟨g, cap, hv, _⟩ := hhk.form (by omega)
      simp only [Value.slice.injEq, true_and] at hv
      obtain ⟨rfl, rfl⟩ := hv
      obtain ⟨q0, q1, q2, q3, q4, q5, q6, q7⟩ := rec_range (hhk.elem recC_length hr)
      have hok := (HW.out.each k r hr).1
      have HBL : Hid (B.length ≤ 26214400) := by show _ ≤ _; rw [HB.out]; exact lfr_wl HW.out k
      have HBS : Hid (B ++ frm r = lfr (ls.take (k + 1))) := by show _ = _; rw [HTK.out, lfr_snoc, HB.out]
      have hfl := frm_small hok
      have HFO : Hid (octs (frm r)) := frm_octs r
      have fb := Fr.box wr (.cells #[.int .i64 r.lsn, .int .i64 r.ep, .int .i64 r.kind, .int .i64 r.page, .int .i64 r.other, .int .i64 r.req, .string r.key, .string r.val] 28)
      have hen := encode_ryes r hok (wr.alloc (.cells #[.int .i64 r.lsn, .int .i64 r.ep, .int .i64 r.kind, .int .i64 r.page, .int .i64 r.other, .int .i64 r.req, .string r.key, .string r.val] 28))
      obtain ⟨L, hL⟩ : ∃ L, L = frm r := ⟨_, rfl⟩
      rw [← hL] at hen HBS hfl HFO
      clear hL hok hr htk hhk
      go_wp2_with fail
      refine hen.mono ?_
      clear hen
      rintro e w2 ⟨v2, rfl, m2⟩
      obtain ⟨a2, c2, rfl, r2⟩ := m2.own.row HFO.out (by omega)
      have f2 := fb.seq' m2.fr
      have mb2 := mb.fr f2 (fun _ _ f => f)
      have G2 := F.seq' f2
      have hb1 := HBL.out
      clear m2 q0 q1 q2 q3 q4 q5 q6 q7 mb
      go_wp2_with (at_builtin; refine wpList_append_row _ rfl (.tmp 20) (.tmp 21) 23 23 5 rfl i0 Try.underlying23 Try.underlying23 hi hz0 hz1 hz2 w'.heap.size u3 B rfl mb2 a2 L.length c2 L rfl rfl r2 (by omega) G2.size ?_; intro a3 c3 w3 mb3 hgrow3 hat3)
      have F3 := G2.grown hgrow3 (S := fun _ => False) (fun k e hk => by have := (mb2.lt k e).1; omega)
      have hl1 : B.length + L.length = (B ++ L).length := by rw [List.length_append]
      rw [hl1] at mb3 ⊢
      clear hl1 hat3
      go_roundw
      case rel => exact ⟨k + 1, _, B ++ L, by omega, by go_num, rfl, HBS, mb3, F3⟩
      case measure => simp [intOf]; omega
    · have hkl : ls.take k = ls := List.take_of_length_le (by omega)
      have HBB : Hid (B = lfr ls) := by show _ = _; rw [HB.out, hkl]
      clear hkl
      go_wp2
      go_ret
      exact ⟨u3, rfl, by rw [← HBB.out]; exact ⟨mb, F⟩⟩
set_option maxRecDepth 100000 in
set_option maxHeartbeats 400000 in
theorem bytes_wnil (w : World) : Calls Try.prog 6 #[.pointer none] w fun e w' => e = .returned (.slice none 0 0) ∧ w' = w := by
  go_enter Try.func6, Try.ntmps6
  go_wp2_with (go_at_call 16; refine (all_nil _).mono ?_; rintro e w' ⟨rfl, rfl⟩)
  refine wp_loop_rounds 1 ?_
  rw [rounds_succ]
  go_wp2
  go_ret
  exact ⟨rfl, rfl⟩
end Go.Proofs.Ytcmkpmilnplhmaa
