
/- A log in memory; what package wal's small functions tell. -/
import Derived.Test.YtimpoincnfiibaaSB27
import Derived.Test.YtimpoincnfiibaaSB28
namespace Go.Proofs.Ytimpoincnfiibaa
open Go.RowKit Crcm

/-- Records that follow one another. -/
structure Wl (ls : List Rec) : Prop where
  big : ls.length ≤ 65536
  each : ∀ (i : Nat) (r : Rec), ls[i]? = some r → rok r = true ∧ r.lsn = (i : Int) + 1
  up : ∀ (i : Nat) (r s : Rec), ls[i]? = some r → ls[i + 1]? = some s → r.ep ≤ s.ep
/-- A log at block lb whose records lie in rv. -/
structure Lg (w : World) (lb : Nat) (rv : Value) (ls : List Rec) (fl : Int) : Prop where
  box : w.heap[lb]? = some (.cells #[rv, .int .i64 fl] 52 (0, 0))
  has : Has w 8 rv ls.length (ls.flatMap recC)
  own : ∀ g, rv.ownBlock = some g → lb < g
def lgS (lb : Nat) (rv : Value) : Nat → Prop := fun k => k = lb ∨ rv.ownBlock = some k
theorem Lg.fr {S : Nat → Prop} {w w' : World} {lb : Nat} {rv : Value} {ls : List Rec} {fl : Int} (h : Lg w lb rv ls fl) (f : Fr S w w') (h1 : ¬ S lb) (h2 : ∀ k, rv.ownBlock = some k → ¬ S k) : Lg w' lb rv ls fl :=
  ⟨by rw [f.block lb (lt_of_block h.box) h1]; exact h.box, h.has.fr f h2, h.own⟩
theorem Lg.same {w w' : World} {lb : Nat} {rv : Value} {ls : List Rec} {fl : Int} (h : Lg w lb rv ls fl) (f : Fr (fun _ => False) w w') : Lg w' lb rv ls fl := h.fr f (fun f => f) (fun _ _ f => f)
/-- The last epoch. -/
def lastE (ls : List Rec) : Int := (ls.getLast?.getD zr).ep
theorem lastE_at {ls : List Rec} {r : Rec} (h : ls[ls.length - 1]? = some r) : lastE ls = r.ep := by
  unfold lastE; rw [List.getLast?_eq_getElem?, h]; rfl
theorem lastE_nil : lastE [] = 0 := rfl

set_option maxRecDepth 100000 in
set_option maxHeartbeats 400000 in
theorem all_lg (lb : Nat) (rv : Value) (ls : List Rec) (fl : Int) (w : World) (h : Lg w lb rv ls fl) : Calls Try.prog 31 #[.pointer (some ⟨lb, 0, none⟩)] w fun e w' => e = .returned rv ∧ w' = w := by
  obtain ⟨h0, h1, f0, f1⟩ := cell_of_two h.box
  go_enter Try.func31, Try.ntmps31
  go_wp2
  go_ret
  exact ⟨rfl, rfl⟩
set_option maxRecDepth 100000 in
set_option maxHeartbeats 400000 in
theorem all_nil (w : World) : Calls Try.prog 31 #[.pointer none] w fun e w' => e = .returned (.slice none 0 0) ∧ w' = w := by
  go_enter Try.func31, Try.ntmps31
  go_wp2
  go_ret
  exact ⟨rfl, rfl⟩
set_option maxRecDepth 100000 in
set_option maxHeartbeats 400000 in
theorem next_lg (lb : Nat) (rv : Value) (ls : List Rec) (fl : Int) (w : World) (h : Lg w lb rv ls fl) (hm : ls.length ≤ 65536) : Calls Try.prog 25 #[.pointer (some ⟨lb, 0, none⟩)] w fun e w' => e = .returned (.int .i64 ((ls.length : Int) + 1)) ∧ w' = w := by
  have hal := all_lg lb rv ls fl w h
  obtain ⟨a, c, rfl, _, _⟩ := h.has.slice
  have e1 : IntKind.i64.wrap ((ls.length : Int) + 1) = (ls.length : Int) + 1 := by simp [IntKind.wrap, IntKind.bits, IntKind.signed]; omega
  go_enter Try.func25, Try.ntmps25
  go_wp2_with (go_at_call 31; refine hal.mono ?_; rintro e w' ⟨rfl, rfl⟩)
  go_ret
  exact ⟨rfl, rfl⟩
set_option maxRecDepth 100000 in
set_option maxHeartbeats 400000 in
theorem next_nil (w : World) : Calls Try.prog 25 #[.pointer none] w fun e w' => e = .returned (.int .i64 1) ∧ w' = w := by
  go_enter Try.func25, Try.ntmps25
  go_wp2_with (go_at_call 31; refine (all_nil _).mono ?_; rintro e w' ⟨rfl, rfl⟩)
  go_ret
  exact ⟨rfl, rfl⟩
set_option maxRecDepth 100000 in
set_option maxHeartbeats 400000 in
theorem last_nil (w : World) : Calls Try.prog 5 #[.pointer none] w fun e w' => e = .returned (.tuple #[.int .i64 0, .int .i64 0]) ∧ w' = w := by
  go_enter Try.func5, Try.ntmps5
  go_wp2
  go_ret2
  exact ⟨rfl, rfl⟩
set_option maxRecDepth 100000 in
set_option maxHeartbeats 1000000 in
theorem last_lg (lb : Nat) (rv : Value) (ls : List Rec) (fl : Int) (w : World) (h : Lg w lb rv ls fl) (hw : Wl ls) : Calls Try.prog 5 #[.pointer (some ⟨lb, 0, none⟩)] w fun e w' => e = .returned (.tuple #[.int .i64 (ls.length : Int), .int .i64 (lastE ls)]) ∧ Fr (fun _ => False) w w' := by
  obtain ⟨h0, h1, f0, f1⟩ := cell_of_two h.box
  have hm := hw.big
  by_cases hn : ls.length = 0
  · have hl : ls = [] := List.length_eq_zero_iff.1 hn
    have hle : lastE ls = 0 := by rw [hl]; rfl
    rw [hle]
    obtain ⟨a, c, rfl, _, _⟩ := h.has.slice
    rw [hn] at h0 ⊢
    clear hl hle hn
    go_enter Try.func5, Try.ntmps5
    go_wp2
    go_ret2
    exact ⟨rfl, Fr.refl _ _⟩
  · obtain ⟨g, cap, rfl, hg, hnc, hcm, _, _⟩ := h.has.form (by omega)
    obtain ⟨r, hr⟩ : ∃ r, ls[ls.length - 1]? = some r := ⟨_, List.getElem?_eq_getElem (by omega)⟩
    obtain ⟨q0, q1, q2, q3, q4, q5, q6, q7⟩ := rec_range (h.has.elem recC_length hr)
    have HE : Hid (lastE ls = r.ep) := lastE_at hr
    have HR : Hid (r.lsn = (ls.length : Int)) := by show _ = _; rw [(hw.each _ _ hr).2]; omega
    rw [HE.out, ← HR.out]
    obtain ⟨n, hn0⟩ : ∃ n, ls.length = n + 1 := ⟨ls.length - 1, by omega⟩
    rw [hn0] at h0 hm hnc q0 q1 q2 q3 q4 q5 q6 q7
    simp only [Nat.add_sub_cancel] at q0 q1 q2 q3 q4 q5 q6 q7
    have hnz : ((n : Int) + 1 == 0) = false := by rw [beq_eq_false_iff_ne]; omega
    have e1 : IntKind.i64.wrap ((n : Int) + 1 - 1) = (n : Int) := by simp [IntKind.wrap, IntKind.bits, IntKind.signed]; omega
    clear hn0 hr hn HE HR h hw
    have HQ : Hid (∀ W, Fr (fun _ => False) w W → W.cell? ⟨lb, 0, none⟩ = some (.slice (some ⟨g, 0, none⟩) (n + 1) cap) ∧ (W.cell? ⟨g, n * 8, none⟩ = some (.int .i64 r.lsn) ∧ W.cell? ⟨g, n * 8 + 1, none⟩ = some (.int .i64 r.ep) ∧ W.cell? ⟨g, n * 8 + 2, none⟩ = some (.int .i64 r.kind) ∧ W.cell? ⟨g, n * 8 + 3, none⟩ = some (.int .i64 r.page) ∧ W.cell? ⟨g, n * 8 + 4, none⟩ = some (.int .i64 r.other) ∧ W.cell? ⟨g, n * 8 + 5, none⟩ = some (.int .i64 r.req) ∧ W.cell? ⟨g, n * 8 + 6, none⟩ = some (.string r.key) ∧ W.cell? ⟨g, n * 8 + 7, none⟩ = some (.string r.val))) := fun W f => by
      have hlb : lb < w.heap.size := World.block_lt_of_cell? w _ h0
      refine ⟨(f.cell (p := ⟨lb, 0, none⟩) hlb (fun f => f)).trans h0, ?_⟩
      exact ⟨(f.cell (p := ⟨g, n * 8, none⟩) hg (fun f => f)).trans q0, (f.cell (p := ⟨g, n * 8 + 1, none⟩) hg (fun f => f)).trans q1, (f.cell (p := ⟨g, n * 8 + 2, none⟩) hg (fun f => f)).trans q2, (f.cell (p := ⟨g, n * 8 + 3, none⟩) hg (fun f => f)).trans q3, (f.cell (p := ⟨g, n * 8 + 4, none⟩) hg (fun f => f)).trans q4, (f.cell (p := ⟨g, n * 8 + 5, none⟩) hg (fun f => f)).trans q5, (f.cell (p := ⟨g, n * 8 + 6, none⟩) hg (fun f => f)).trans q6, (f.cell (p := ⟨g, n * 8 + 7, none⟩) hg (fun f => f)).trans q7⟩
    have i0 : (0 : Int) ≤ (n : Int) := by omega
    have i1 : (n : Int) < (n : Int) + 1 := by omega
    have i2 : wrap64 (n : Int) = (n : Int) := by unfold wrap64; omega
    have i3 : IntKind.i64.wrap (n : Int) = (n : Int) := by simp [IntKind.wrap, IntKind.bits, IntKind.signed]; omega
    have fd := (Fr.refl (fun _ => False) w).drew
    have fa := fd.alloc (.cells #[.int .i64 0, .int .i64 0, .int .i64 0, .int .i64 0, .int .i64 0, .int .i64 0, .string ⟨#[]⟩, .string ⟨#[]⟩] 47)
    have fz := fd.alloc (.cells #[.int .i64 r.lsn, .int .i64 r.ep, .int .i64 r.kind, .int .i64 r.page, .int .i64 r.other, .int .i64 r.req, .string r.key, .string r.val] 47)
    go_enter Try.func5, Try.ntmps5
    go_wp2_with fail
    clear q0 q1 q2 q3 q4 q5 q6 q7 h0
    go_region_held3 (fun W => W.cell? ⟨lb, 0, none⟩ = some (.slice (some ⟨g, 0, none⟩) (n + 1) cap) ∧ (W.cell? ⟨g, n * 8, none⟩ = some (.int .i64 r.lsn) ∧ W.cell? ⟨g, n * 8 + 1, none⟩ = some (.int .i64 r.ep) ∧ W.cell? ⟨g, n * 8 + 2, none⟩ = some (.int .i64 r.kind) ∧ W.cell? ⟨g, n * 8 + 3, none⟩ = some (.int .i64 r.page) ∧ W.cell? ⟨g, n * 8 + 4, none⟩ = some (.int .i64 r.other) ∧ W.cell? ⟨g, n * 8 + 5, none⟩ = some (.int .i64 r.req) ∧ W.cell? ⟨g, n * 8 + 6, none⟩ = some (.string r.key) ∧ W.cell? ⟨g, n * 8 + 7, none⟩ = some (.string r.val)))
      (first | exact HQ.out _ fd | exact HQ.out _ fa | exact HQ.out _ fz)
      (fail)
    go_wp2_with fail
    go_quiet (fail)
    go_wp2
    go_ret2
    exact ⟨rfl, by repeat (first | exact Fr.refl _ _ | apply Fr.drewN | apply Fr.drew | apply Fr.alloc)⟩

/-- Why a right record may not stand behind the others. -/
def refus (ls : List Rec) (ep : Int) : Int := if ep < lastE ls then 100 else if ls.length = 65536 then 5 else 0
set_option maxRecDepth 100000 in
set_option maxHeartbeats 1000000 in
theorem refusal_lg (lb : Nat) (rv : Value) (ls : List Rec) (fl : Int) (r : Rec) (w : World) (h : Lg w lb rv ls fl) (hw : Wl ls) : Calls Try.prog 27 #[.pointer (some ⟨lb, 0, none⟩), (.agg #[.int .i64 r.lsn, .int .i64 r.ep, .int .i64 r.kind, .int .i64 r.page, .int .i64 r.other, .int .i64 r.req, .string r.key, .string r.val])] w fun e w' => e = .returned (.int .i64 (refus ls r.ep)) ∧ Fr (fun _ => False) w w' := by
  have f0 := Fr.box w (.cells #[.int .i64 r.lsn, .int .i64 r.ep, .int .i64 r.kind, .int .i64 r.page, .int .i64 r.other, .int .i64 r.req, .string r.key, .string r.val] 47)
  have hla := last_lg lb rv ls fl _ (h.same f0) hw
  have HB : Hid (∀ W, Fr (fun _ => False) (w.alloc (.cells #[.int .i64 r.lsn, .int .i64 r.ep, .int .i64 r.kind, .int .i64 r.page, .int .i64 r.other, .int .i64 r.req, .string r.key, .string r.val] 47)) W → W.cell? ⟨w.heap.size, 0, none⟩ = some (.int .i64 r.lsn) ∧ W.cell? ⟨w.heap.size, 1, none⟩ = some (.int .i64 r.ep) ∧ W.cell? ⟨w.heap.size, 2, none⟩ = some (.int .i64 r.kind) ∧ W.cell? ⟨w.heap.size, 3, none⟩ = some (.int .i64 r.page) ∧ W.cell? ⟨w.heap.size, 4, none⟩ = some (.int .i64 r.other) ∧ W.cell? ⟨w.heap.size, 5, none⟩ = some (.int .i64 r.req) ∧ W.cell? ⟨w.heap.size, 6, none⟩ = some (.string r.key) ∧ W.cell? ⟨w.heap.size, 7, none⟩ = some (.string r.val)) := fun W f => (rec_cells (rec_at w _ _ f)).1
  have HR : Hid (refus ls r.ep = if r.ep < lastE ls then 100 else if ls.length = 65536 then 5 else 0) := rfl
  generalize lastE ls = le at *
  by_cases h1 : r.ep < le
  · have HV : Hid (refus ls r.ep = 100) := by show _ = _; rw [HR.out, if_pos h1]
    rw [HV.out]
    go_enter Try.func27, Try.ntmps27
    go_wp2_with fail
    refine hla.mono ?_
    rintro e w1 ⟨rfl, f1⟩
    obtain ⟨c0, c1, c2, c3, c4, c5, c6, c7⟩ := HB.out _ f1
    go_wp2
    go_ret
    exact ⟨rfl, f0.seq' f1⟩
  · by_cases h2 : ls.length = 65536
    · have HV : Hid (refus ls r.ep = 5) := by show _ = _; rw [HR.out, if_neg h1, if_pos h2]
      rw [HV.out]
      have h3 : ((ls.length : Int) == 65536) = true := by rw [beq_iff_eq]; omega
      clear h2
      go_enter Try.func27, Try.ntmps27
      go_wp2_with fail
      refine hla.mono ?_
      rintro e w1 ⟨rfl, f1⟩
      obtain ⟨c0, c1, c2, c3, c4, c5, c6, c7⟩ := HB.out _ f1
      go_wp2
      go_ret
      exact ⟨rfl, f0.seq' f1⟩
    · have HV : Hid (refus ls r.ep = 0) := by show _ = _; rw [HR.out, if_neg h1, if_neg h2]
      rw [HV.out]
      have h3 : ((ls.length : Int) == 65536) = false := by rw [beq_eq_false_iff_ne]; omega
      clear h2
      go_enter Try.func27, Try.ntmps27
      go_wp2_with fail
      refine hla.mono ?_
      rintro e w1 ⟨rfl, f1⟩
      obtain ⟨c0, c1, c2, c3, c4, c5, c6, c7⟩ := HB.out _ f1
      go_wp2
      go_ret
      exact ⟨rfl, f0.seq' f1⟩
set_option maxRecDepth 100000 in
set_option maxHeartbeats 1000000 in
theorem refusal_nil (r : Rec) (w : World) : Calls Try.prog 27 #[.pointer none, (.agg #[.int .i64 r.lsn, .int .i64 r.ep, .int .i64 r.kind, .int .i64 r.page, .int .i64 r.other, .int .i64 r.req, .string r.key, .string r.val])] w fun e w' => e = .returned (.int .i64 (if r.ep < 0 then 100 else 5)) ∧ Fr (fun _ => False) w w' := by
  by_cases h1 : r.ep < 0
  · rw [if_pos h1]
    go_enter Try.func27, Try.ntmps27
    go_wp2_with (go_at_call 5; refine (last_nil _).mono ?_; rintro e w1 ⟨rfl, rfl⟩)
    go_ret
    exact ⟨rfl, Fr.box w _⟩
  · rw [if_neg h1]
    go_enter Try.func27, Try.ntmps27
    go_wp2_with (go_at_call 5; refine (last_nil _).mono ?_; rintro e w1 ⟨rfl, rfl⟩)
    go_ret
    exact ⟨rfl, Fr.box w _⟩
set_option maxRecDepth 100000 in
set_option maxHeartbeats 400000 in
theorem wnew_any (w : World) : Calls Try.prog 15 #[] w fun e w' => e = .returned (.pointer (some ⟨w.heap.size, 0, none⟩)) ∧ Lg w' w.heap.size (.slice none 0 0) [] 0 ∧ Fr (fun _ => False) w w' ∧ w'.heap.size = w.heap.size + 1 := by
  go_enter Try.func15, Try.ntmps15
  go_wp2
  go_ret
  exact ⟨rfl, ⟨heap_alloc_new w _, Has.nil _ _, fun g e => by cases e⟩, Fr.box w _, by simp⟩
theorem wl_nil : Wl [] := ⟨by simp, (fun i r h => by simp at h), (fun i r s h => by simp at h)⟩
theorem wl_snoc {ls : List Rec} (h : Wl ls) (r : Rec) (h1 : rok r = true) (h2 : r.lsn = (ls.length : Int) + 1) (h3 : refus ls r.ep = 0) : Wl (ls ++ [r]) := by
  have hne : ¬ r.ep < lastE ls := by
    intro hh; unfold refus at h3; rw [if_pos hh] at h3; exact absurd h3 (by decide)
  have hlt : ls.length ≠ 65536 := by
    intro hh; unfold refus at h3; rw [if_neg hne, if_pos hh] at h3; exact absurd h3 (by decide)
  refine ⟨by have := h.big; simp; omega, fun i x hx => ?_, fun i x y hx hy => ?_⟩
  · rcases Nat.lt_or_ge i ls.length with hi | hi
    · rw [List.getElem?_append_left hi] at hx; exact h.each i x hx
    · rw [List.getElem?_append_right hi] at hx
      have hi0 : i - ls.length = 0 := by
        have := (List.getElem?_eq_some_iff.1 hx).1
        simp at this; omega
      rw [hi0] at hx
      simp at hx
      subst hx
      exact ⟨h1, by rw [h2]; omega⟩
  · have hi1 : i + 1 < (ls ++ [r]).length := (List.getElem?_eq_some_iff.1 hy).1
    rw [List.length_append, List.length_singleton] at hi1
    rw [List.getElem?_append_left (by omega)] at hx
    rcases Nat.lt_or_ge (i + 1) ls.length with hi | hi
    · rw [List.getElem?_append_left hi] at hy; exact h.up i x y hx hy
    · have he : i = ls.length - 1 := by omega
      rw [List.getElem?_append_right hi] at hy
      have hi0 : i + 1 - ls.length = 0 := by omega
      rw [hi0] at hy
      simp at hy
      subst hy
      rw [he] at hx
      rw [lastE_at hx] at hne
      omega
end Go.Proofs.Ytimpoincnfiibaa
