
/- RfAll, RfMath, RfTl. -/
import Derived.Test.YtihkdffihmhnaaaGreatBB33
import Derived.Test.YtihkdffihmhnaaaGreatBB29
import Derived.Deep.DeepCutAuto
import Derived.Shelf.Slices.Delete
import Derived.Test.YtihkdffihmhnaaaGreatRwPt
/- The log's texts. -/
namespace Go.Proofs.YtihkdffihmhnaaaGreat.Rf
def zr : Rec := ⟨0, 0, 0, 0, 0, 0, ⟨#[]⟩, ⟨#[]⟩⟩
structure Rg (r : Rec) : Prop where
  ep0 : 0 ≤ r.ep
  ep1 : r.ep ≤ 1099511627776
theorem rok_rg {r : Rec} (h : rok r = true) : Rg r := by
  unfold rok at h
  simp only [Bool.and_eq_true, wthB, decide_eq_true_eq] at h
  exact ⟨h.2.1.1, h.2.1.2⟩
theorem take_one (l : List Rec) (k : Nat) (h : k < l.length) : ∃ r, l[k]? = some r ∧ l.take (k + 1) = l.take k ++ [r] := ⟨l[k], List.getElem?_eq_getElem h, List.take_succ_eq_append_getElem h⟩
end Go.Proofs.YtihkdffihmhnaaaGreat.Rf
/- A log in memory; what package wal's small functions tell. -/
namespace Go.Proofs.YtihkdffihmhnaaaGreat.Rf
open Go.RowKit Crcm

/-- Records that follow one another. -/
structure Wl (ls : List Rec) : Prop where
  big : ls.length ≤ 65536
  each : ∀ (i : Nat) (r : Rec), ls[i]? = some r → rok r = true ∧ r.lsn = (i : Int) + 1
  up : ∀ (i : Nat) (r s : Rec), ls[i]? = some r → ls[i + 1]? = some s → r.ep ≤ s.ep
/-- A log at block lb whose records lie in rv. -/
structure Lg (w : World) (lb : Nat) (rv : Value) (ls : List Rec) (fl : Int) : Prop where
  box : w.heap[lb]? = some (.cells #[rv, .int .i64 fl] 131 (0, 0))
  has : Has w 8 rv ls.length (ls.flatMap recC)
  own : ∀ g, rv.ownBlock = some g → lb < g
def lgS (lb : Nat) (rv : Value) : Nat → Prop := fun k => k = lb ∨ rv.ownBlock = some k
theorem Lg.fr {S : Nat → Prop} {w w' : World} {lb : Nat} {rv : Value} {ls : List Rec} {fl : Int} (h : Lg w lb rv ls fl) (f : Fr S w w') (h1 : ¬ S lb) (h2 : ∀ k, rv.ownBlock = some k → ¬ S k) : Lg w' lb rv ls fl :=
  ⟨by rw [f.block lb (lt_of_block h.box) h1]; exact h.box, h.has.fr f h2, h.own⟩
theorem Lg.same {w w' : World} {lb : Nat} {rv : Value} {ls : List Rec} {fl : Int} (h : Lg w lb rv ls fl) (f : Fr (fun _ => False) w w') : Lg w' lb rv ls fl := h.fr f (fun f => f) (fun _ _ f => f)
/-- The last epoch. -/
def lastE (ls : List Rec) : Int := (ls.getLast?.getD zr).ep
theorem lastE_at {ls : List Rec} {r : Rec} (h : ls[ls.length - 1]? = some r) : lastE ls = r.ep := by
  unfold lastE; rw [List.getLast?_eq_getElem?, h]; rfl
theorem lastE_nil : lastE [] = 0 := rfl

set_option maxRecDepth 100000 in
set_option maxHeartbeats 400000 in
theorem all_lg (lb : Nat) (rv : Value) (ls : List Rec) (fl : Int) (w : World) (h : Lg w lb rv ls fl) : Calls Tryz.prog 78 #[.pointer (some ⟨lb, 0, none⟩)] w fun e w' => e = .returned rv ∧ w' = w := by
  obtain ⟨h0, h1, f0, f1⟩ := cell_of_two h.box
  go_enter Tryz.func78, Tryz.ntmps78
  go_wp2
  go_ret
  exact ⟨rfl, rfl⟩
set_option maxRecDepth 100000 in
set_option maxHeartbeats 400000 in
theorem all_nil (w : World) : Calls Tryz.prog 78 #[.pointer none] w fun e w' => e = .returned (.slice none 0 0) ∧ w' = w := by
  go_enter Tryz.func78, Tryz.ntmps78
  go_wp2
  go_ret
  exact ⟨rfl, rfl⟩
set_option maxRecDepth 100000 in
set_option maxHeartbeats 400000 in
theorem next_lg (lb : Nat) (rv : Value) (ls : List Rec) (fl : Int) (w : World) (h : Lg w lb rv ls fl) (hm : ls.length ≤ 65536) : Calls Tryz.prog 73 #[.pointer (some ⟨lb, 0, none⟩)] w fun e w' => e = .returned (.int .i64 ((ls.length : Int) + 1)) ∧ w' = w := by
  have hal := all_lg lb rv ls fl w h
  obtain ⟨a, c, rfl, _, _⟩ := h.has.slice
  have e1 : IntKind.i64.wrap ((ls.length : Int) + 1) = (ls.length : Int) + 1 := by simp [IntKind.wrap, IntKind.bits, IntKind.signed]; omega
  go_enter Tryz.func73, Tryz.ntmps73
  go_wp2_with (go_at_call 78; refine hal.mono ?_; rintro e w' ⟨rfl, rfl⟩)
  go_ret
  exact ⟨rfl, rfl⟩
set_option maxRecDepth 100000 in
set_option maxHeartbeats 400000 in
theorem next_nil (w : World) : Calls Tryz.prog 73 #[.pointer none] w fun e w' => e = .returned (.int .i64 1) ∧ w' = w := by
  go_enter Tryz.func73, Tryz.ntmps73
  go_wp2_with (go_at_call 78; refine (all_nil _).mono ?_; rintro e w' ⟨rfl, rfl⟩)
  go_ret
  exact ⟨rfl, rfl⟩
set_option maxRecDepth 100000 in
set_option maxHeartbeats 400000 in
theorem last_nil (w : World) : Calls Tryz.prog 31 #[.pointer none] w fun e w' => e = .returned (.tuple #[.int .i64 0, .int .i64 0]) ∧ w' = w := by
  go_enter Tryz.func31, Tryz.ntmps31
  go_wp2
  go_ret2
  exact ⟨rfl, rfl⟩
set_option maxRecDepth 100000 in
set_option maxHeartbeats 1000000 in
theorem last_lg (lb : Nat) (rv : Value) (ls : List Rec) (fl : Int) (w : World) (h : Lg w lb rv ls fl) (hw : Wl ls) : Calls Tryz.prog 31 #[.pointer (some ⟨lb, 0, none⟩)] w fun e w' => e = .returned (.tuple #[.int .i64 (ls.length : Int), .int .i64 (lastE ls)]) ∧ Fr (fun _ => False) w w' := by
  obtain ⟨h0, h1, f0, f1⟩ := cell_of_two h.box
  have hm := hw.big
  by_cases hn : ls.length = 0
  · have hl : ls = [] := List.length_eq_zero_iff.1 hn
    have hle : lastE ls = 0 := by rw [hl]; rfl
    rw [hle]
    obtain ⟨a, c, rfl, _, _⟩ := h.has.slice
    rw [hn] at h0 ⊢
    clear hl hle hn
    go_enter Tryz.func31, Tryz.ntmps31
    go_wp2
    go_ret2
    exact ⟨rfl, Fr.refl _ _⟩
  · obtain ⟨g, cap, rfl, hg, hnc, hcm, _, _⟩ := h.has.form (by omega)
    obtain ⟨r, hr⟩ : ∃ r, ls[ls.length - 1]? = some r := ⟨_, List.getElem?_eq_getElem (by omega)⟩
    obtain ⟨q0, q1, q2, q3, q4, q5, q6, q7⟩ := rec_range (h.has.elem recC_length hr)
    have HE : Hid (lastE ls = r.ep) := lastE_at hr
    have HR : Hid (r.lsn = (ls.length : Int)) := by show _ = _; rw [(hw.each _ _ hr).2]; omega
    rw [HE.out, ← HR.out]
    obtain ⟨n, hn0⟩ : ∃ n, ls.length = n + 1 := ⟨ls.length - 1, by omega⟩
    rw [hn0] at h0 hm hnc q0 q1 q2 q3 q4 q5 q6 q7
    simp only [Nat.add_sub_cancel] at q0 q1 q2 q3 q4 q5 q6 q7
    have hnz : ((n : Int) + 1 == 0) = false := by rw [beq_eq_false_iff_ne]; omega
    have e1 : IntKind.i64.wrap ((n : Int) + 1 - 1) = (n : Int) := by simp [IntKind.wrap, IntKind.bits, IntKind.signed]; omega
    clear hn0 hr hn HE HR h hw
    have HQ : Hid (∀ W, Fr (fun _ => False) w W → W.cell? ⟨lb, 0, none⟩ = some (.slice (some ⟨g, 0, none⟩) (n + 1) cap) ∧ (W.cell? ⟨g, n * 8, none⟩ = some (.int .i64 r.lsn) ∧ W.cell? ⟨g, n * 8 + 1, none⟩ = some (.int .i64 r.ep) ∧ W.cell? ⟨g, n * 8 + 2, none⟩ = some (.int .i64 r.kind) ∧ W.cell? ⟨g, n * 8 + 3, none⟩ = some (.int .i64 r.page) ∧ W.cell? ⟨g, n * 8 + 4, none⟩ = some (.int .i64 r.other) ∧ W.cell? ⟨g, n * 8 + 5, none⟩ = some (.int .i64 r.req) ∧ W.cell? ⟨g, n * 8 + 6, none⟩ = some (.string r.key) ∧ W.cell? ⟨g, n * 8 + 7, none⟩ = some (.string r.val))) := fun W f => by
      have hlb : lb < w.heap.size := World.block_lt_of_cell? w _ h0
      refine ⟨(f.cell (p := ⟨lb, 0, none⟩) hlb (fun f => f)).trans h0, ?_⟩
      exact ⟨(f.cell (p := ⟨g, n * 8, none⟩) hg (fun f => f)).trans q0, (f.cell (p := ⟨g, n * 8 + 1, none⟩) hg (fun f => f)).trans q1, (f.cell (p := ⟨g, n * 8 + 2, none⟩) hg (fun f => f)).trans q2, (f.cell (p := ⟨g, n * 8 + 3, none⟩) hg (fun f => f)).trans q3, (f.cell (p := ⟨g, n * 8 + 4, none⟩) hg (fun f => f)).trans q4, (f.cell (p := ⟨g, n * 8 + 5, none⟩) hg (fun f => f)).trans q5, (f.cell (p := ⟨g, n * 8 + 6, none⟩) hg (fun f => f)).trans q6, (f.cell (p := ⟨g, n * 8 + 7, none⟩) hg (fun f => f)).trans q7⟩
    have i0 : (0 : Int) ≤ (n : Int) := by omega
    have i1 : (n : Int) < (n : Int) + 1 := by omega
    have i2 : wrap64 (n : Int) = (n : Int) := by unfold wrap64; omega
    have i3 : IntKind.i64.wrap (n : Int) = (n : Int) := by simp [IntKind.wrap, IntKind.bits, IntKind.signed]; omega
    have fd := (Fr.refl (fun _ => False) w).drew
    have fa := fd.alloc (.cells #[.int .i64 0, .int .i64 0, .int .i64 0, .int .i64 0, .int .i64 0, .int .i64 0, .string ⟨#[]⟩, .string ⟨#[]⟩] 54)
    have fz := fd.alloc (.cells #[.int .i64 r.lsn, .int .i64 r.ep, .int .i64 r.kind, .int .i64 r.page, .int .i64 r.other, .int .i64 r.req, .string r.key, .string r.val] 54)
    go_enter Tryz.func31, Tryz.ntmps31
    go_wp2_with fail
    clear q0 q1 q2 q3 q4 q5 q6 q7 h0
    go_region_held3 (fun W => W.cell? ⟨lb, 0, none⟩ = some (.slice (some ⟨g, 0, none⟩) (n + 1) cap) ∧ (W.cell? ⟨g, n * 8, none⟩ = some (.int .i64 r.lsn) ∧ W.cell? ⟨g, n * 8 + 1, none⟩ = some (.int .i64 r.ep) ∧ W.cell? ⟨g, n * 8 + 2, none⟩ = some (.int .i64 r.kind) ∧ W.cell? ⟨g, n * 8 + 3, none⟩ = some (.int .i64 r.page) ∧ W.cell? ⟨g, n * 8 + 4, none⟩ = some (.int .i64 r.other) ∧ W.cell? ⟨g, n * 8 + 5, none⟩ = some (.int .i64 r.req) ∧ W.cell? ⟨g, n * 8 + 6, none⟩ = some (.string r.key) ∧ W.cell? ⟨g, n * 8 + 7, none⟩ = some (.string r.val)))
      (first | exact HQ.out _ fd | exact HQ.out _ fa | exact HQ.out _ fz)
      (fail)
    go_wp2_with fail
    go_quiet (fail)
    go_wp2
    go_ret2
    exact ⟨rfl, by repeat (first | exact Fr.refl _ _ | apply Fr.drewN | apply Fr.drew | apply Fr.alloc)⟩

/-- Why a right record may not stand behind the others. -/
def refus (ls : List Rec) (ep : Int) : Int := if ep < lastE ls then 100 else if ls.length = 65536 then 5 else 0
set_option maxRecDepth 100000 in
set_option maxHeartbeats 1000000 in
theorem refusal_lg (lb : Nat) (rv : Value) (ls : List Rec) (fl : Int) (r : Rec) (w : World) (h : Lg w lb rv ls fl) (hw : Wl ls) : Calls Tryz.prog 74 #[.pointer (some ⟨lb, 0, none⟩), (.agg #[.int .i64 r.lsn, .int .i64 r.ep, .int .i64 r.kind, .int .i64 r.page, .int .i64 r.other, .int .i64 r.req, .string r.key, .string r.val])] w fun e w' => e = .returned (.int .i64 (refus ls r.ep)) ∧ Fr (fun _ => False) w w' := by
  have f0 := Fr.box w (.cells #[.int .i64 r.lsn, .int .i64 r.ep, .int .i64 r.kind, .int .i64 r.page, .int .i64 r.other, .int .i64 r.req, .string r.key, .string r.val] 54)
  have hla := last_lg lb rv ls fl _ (h.same f0) hw
  have HB : Hid (∀ W, Fr (fun _ => False) (w.alloc (.cells #[.int .i64 r.lsn, .int .i64 r.ep, .int .i64 r.kind, .int .i64 r.page, .int .i64 r.other, .int .i64 r.req, .string r.key, .string r.val] 54)) W → W.cell? ⟨w.heap.size, 0, none⟩ = some (.int .i64 r.lsn) ∧ W.cell? ⟨w.heap.size, 1, none⟩ = some (.int .i64 r.ep) ∧ W.cell? ⟨w.heap.size, 2, none⟩ = some (.int .i64 r.kind) ∧ W.cell? ⟨w.heap.size, 3, none⟩ = some (.int .i64 r.page) ∧ W.cell? ⟨w.heap.size, 4, none⟩ = some (.int .i64 r.other) ∧ W.cell? ⟨w.heap.size, 5, none⟩ = some (.int .i64 r.req) ∧ W.cell? ⟨w.heap.size, 6, none⟩ = some (.string r.key) ∧ W.cell? ⟨w.heap.size, 7, none⟩ = some (.string r.val)) := fun W f => (rec_cells (rec_at w _ _ f)).1
  have HR : Hid (refus ls r.ep = if r.ep < lastE ls then 100 else if ls.length = 65536 then 5 else 0) := rfl
  generalize lastE ls = le at *
  by_cases h1 : r.ep < le
  · have HV : Hid (refus ls r.ep = 100) := by show _ = _; rw [HR.out, if_pos h1]
    rw [HV.out]
    go_enter Tryz.func74, Tryz.ntmps74
    go_wp2_with fail
    refine hla.mono ?_
    rintro e w1 ⟨rfl, f1⟩
    obtain ⟨c0, c1, c2, c3, c4, c5, c6, c7⟩ := HB.out _ f1
    go_wp2
    go_ret
    exact ⟨rfl, f0.seq' f1⟩
  · by_cases h2 : ls.length = 65536
    · have HV : Hid (refus ls r.ep = 5) := by show _ = _; rw [HR.out, if_neg h1, if_pos h2]
      rw [HV.out]
      have h3 : ((ls.length : Int) == 65536) = true := by rw [beq_iff_eq]; omega
      clear h2
      go_enter Tryz.func74, Tryz.ntmps74
      go_wp2_with fail
      refine hla.mono ?_
      rintro e w1 ⟨rfl, f1⟩
      obtain ⟨c0, c1, c2, c3, c4, c5, c6, c7⟩ := HB.out _ f1
      go_wp2
      go_ret
      exact ⟨rfl, f0.seq' f1⟩
    · have HV : Hid (refus ls r.ep = 0) := by show _ = _; rw [HR.out, if_neg h1, if_neg h2]
      rw [HV.out]
      have h3 : ((ls.length : Int) == 65536) = false := by rw [beq_eq_false_iff_ne]; omega
      clear h2
      go_enter Tryz.func74, Tryz.ntmps74
      go_wp2_with fail
      refine hla.mono ?_
      rintro e w1 ⟨rfl, f1⟩
      obtain ⟨c0, c1, c2, c3, c4, c5, c6, c7⟩ := HB.out _ f1
      go_wp2
      go_ret
      exact ⟨rfl, f0.seq' f1⟩
set_option maxRecDepth 100000 in
set_option maxHeartbeats 1000000 in
theorem refusal_nil (r : Rec) (w : World) : Calls Tryz.prog 74 #[.pointer none, (.agg #[.int .i64 r.lsn, .int .i64 r.ep, .int .i64 r.kind, .int .i64 r.page, .int .i64 r.other, .int .i64 r.req, .string r.key, .string r.val])] w fun e w' => e = .returned (.int .i64 (if r.ep < 0 then 100 else 5)) ∧ Fr (fun _ => False) w w' := by
  by_cases h1 : r.ep < 0
  · rw [if_pos h1]
    go_enter Tryz.func74, Tryz.ntmps74
    go_wp2_with (go_at_call 31; refine (last_nil _).mono ?_; rintro e w1 ⟨rfl, rfl⟩)
    go_ret
    exact ⟨rfl, Fr.box w _⟩
  · rw [if_neg h1]
    go_enter Tryz.func74, Tryz.ntmps74
    go_wp2_with (go_at_call 31; refine (last_nil _).mono ?_; rintro e w1 ⟨rfl, rfl⟩)
    go_ret
    exact ⟨rfl, Fr.box w _⟩
set_option maxRecDepth 100000 in
set_option maxHeartbeats 400000 in
theorem wnew_any (w : World) : Calls Tryz.prog 29 #[] w fun e w' => e = .returned (.pointer (some ⟨w.heap.size, 0, none⟩)) ∧ Lg w' w.heap.size (.slice none 0 0) [] 0 ∧ Fr (fun _ => False) w w' ∧ w'.heap.size = w.heap.size + 1 := by
  go_enter Tryz.func29, Tryz.ntmps29
  go_wp2
  go_ret
  exact ⟨rfl, ⟨heap_alloc_new w _, Has.nil _ _, fun g e => by cases e⟩, Fr.box w _, by simp⟩
theorem wl_nil : Wl [] := ⟨by simp, (fun i r h => by simp at h), (fun i r s h => by simp at h)⟩
theorem wl_snoc {ls : List Rec} (h : Wl ls) (r : Rec) (h1 : rok r = true) (h2 : r.lsn = (ls.length : Int) + 1) (h3 : refus ls r.ep = 0) : Wl (ls ++ [r]) := by
  have hne : ¬ r.ep < lastE ls := by
    intro hh; unfold refus at h3; rw [if_pos hh] at h3; exact absurd h3 (by decide)
  have hlt : ls.length ≠ 65536 := by
    intro hh; unfold refus at h3; rw [if_neg hne, if_pos hh] at h3; exact absurd h3 (by decide)
  refine ⟨by have := h.big; simp; omega, fun i x hx => ?_, fun i x y hx hy => ?_⟩
  · rcases Nat.lt_or_ge i ls.length with hi | hi
    · rw [List.getElem?_append_left hi] at hx; exact h.each i x hx
    · rw [List.getElem?_append_right hi] at hx
      have hi0 : i - ls.length = 0 := by
        have := (List.getElem?_eq_some_iff.1 hx).1
        simp at this; omega
      rw [hi0] at hx
      simp at hx
      subst hx
      exact ⟨h1, by rw [h2]; omega⟩
  · have hi1 : i + 1 < (ls ++ [r]).length := (List.getElem?_eq_some_iff.1 hy).1
    rw [List.length_append, List.length_singleton] at hi1
    rw [List.getElem?_append_left (by omega)] at hx
    rcases Nat.lt_or_ge (i + 1) ls.length with hi | hi
    · rw [List.getElem?_append_left hi] at hy; exact h.up i x y hx hy
    · have he : i = ls.length - 1 := by omega
      rw [List.getElem?_append_right hi] at hy
      have hi0 : i + 1 - ls.length = 0 := by omega
      rw [hi0] at hy
      simp at hy
      subst hy
      rw [he] at hx
      rw [lastE_at hx] at hne
      omega
end Go.Proofs.YtihkdffihmhnaaaGreat.Rf

/- What (*Log).Append does. -/
namespace Go.Proofs.YtihkdffihmhnaaaGreat.Rf
open Go.RowKit Crcm

theorem infoRec : (Tryz.prog.info? 54).map (fun i => (i.zero, i.size, i.bytes)) = some (some (.agg #[.int .i64 0, .int .i64 0, .int .i64 0, .int .i64 0, .int .i64 0, .int .i64 0, .string ⟨#[]⟩, .string ⟨#[]⟩]), 8, 80) := by kernel_rfl
/-- The record that would stand behind. -/
def nx (ls : List Rec) (r : Rec) : Rec := ⟨(ls.length : Int) + 1, r.ep, r.kind, r.page, r.other, r.req, r.key, r.val⟩
def apE (ls : List Rec) (r : Rec) : Int := if rok (nx ls r) = true then refus ls r.ep else 90
def apL (ls : List Rec) (r : Rec) : List Rec := if apE ls r = 0 then ls ++ [nx ls r] else ls
def apN (ls : List Rec) (r : Rec) : Int := if apE ls r = 0 then (ls.length : Int) + 1 else 0
theorem wl_ap {ls : List Rec} (h : Wl ls) (r : Rec) : Wl (apL ls r) := by
  unfold apL
  split
  · rename_i h0
    unfold apE at h0
    split at h0
    · rename_i h1; exact wl_snoc h (nx ls r) h1 rfl h0
    · exact absurd h0 (by decide)
  · exact h
theorem Lg.push {w W w1 : World} {lb : Nat} {rv rv' : Value} {ls ls' : List Rec} {fl : Int} (h : Lg w lb rv ls fl) (F : Fr (fun _ => False) w W) (f : Fr (fun k => rv.ownBlock = some k ∧ 0 < 1) W w1) (hh : Has w1 8 rv' ls'.length (ls'.flatMap recC)) (hat : rv'.ownBlock = rv.ownBlock ∨ rv'.ownBlock = some W.heap.size) :
    Lg (w1.setCell ⟨lb, 0, none⟩ rv') lb rv' ls' fl ∧ Fr (lgS lb rv) w (w1.setCell ⟨lb, 0, none⟩ rv') ∧ (rv'.ownBlock = rv.ownBlock ∨ ∃ g, rv'.ownBlock = some g ∧ w.heap.size ≤ g) := by
  have hlt := lt_of_block h.box
  have hs := F.size
  have hb : w1.heap[lb]? = some (.cells #[rv, .int .i64 fl] 131 (0, 0)) := by
    rw [f.block lb (by omega) (fun e => by have := h.own lb e.1; omega), F.block lb hlt (fun f => f)]; exact h.box
  have fs : Fr (fun k => k = lb) w1 (w1.setCell ⟨lb, 0, none⟩ rv') := (Fr.refl (fun k => k = lb) w1).setCell (p := ⟨lb, 0, none⟩) (fun _ => rfl) _
  have own' : ∀ g, rv'.ownBlock = some g → lb < g := fun g e => by
    rcases hat with h1 | h1
    · rw [h1] at e; exact h.own g e
    · rw [h1] at e; simp only [Option.some.injEq] at e; omega
  refine ⟨⟨two_setCell0 hb, hh.fr fs (fun g e e2 => by have := own' g e; omega), own'⟩, ((F.mono (fun _ _ f => f.elim)).trans f (fun i _ e => .inr e.1)).trans fs (fun i _ e => .inl e), ?_⟩
  rcases hat with h1 | h1
  · exact .inl h1
  · exact .inr ⟨_, h1, hs⟩

set_option maxRecDepth 100000 in
set_option maxHeartbeats 2000000 in
theorem append_lg (r : Rec) (lb : Nat) (rv : Value) (ls : List Rec) (fl : Int) (w : World) (h : Lg w lb rv ls fl) (hw : Wl ls) :
    Calls Tryz.prog 30 #[.pointer (some ⟨lb, 0, none⟩), (.agg #[.int .i64 r.lsn, .int .i64 r.ep, .int .i64 r.kind, .int .i64 r.page, .int .i64 r.other, .int .i64 r.req, .string r.key, .string r.val])] w fun e w' => e = .returned (.tuple #[.int .i64 (apN ls r), .int .i64 (apE ls r)]) ∧
      ∃ rv', Lg w' lb rv' (apL ls r) fl ∧ Fr (lgS lb rv) w w' ∧ (rv'.ownBlock = rv.ownBlock ∨ ∃ g, rv'.ownBlock = some g ∧ w.heap.size ≤ g) := by
  obtain ⟨iR, hiR, hR0, hR1, hR2⟩ := info_parts infoRec
  have f0 := Fr.box w (.cells #[.int .i64 r.lsn, .int .i64 r.ep, .int .i64 r.kind, .int .i64 r.page, .int .i64 r.other, .int .i64 r.req, .string r.key, .string r.val] 54)
  have hb := hw.big
  have hnx := next_lg lb rv ls fl _ (h.same f0) hb
  obtain ⟨rn, hrn⟩ : ∃ rn, rn = nx ls r := ⟨_, rfl⟩
  have HRN : Hid (rn = nx ls r) := hrn
  obtain ⟨W1, hW1⟩ : ∃ W, W = w.alloc (.cells #[.int .i64 ((ls.length : Int) + 1), .int .i64 r.ep, .int .i64 r.kind, .int .i64 r.page, .int .i64 r.other, .int .i64 r.req, .string r.key, .string r.val] 54) := ⟨_, rfl⟩
  have HW1 : Hid (w.alloc (.cells #[.int .i64 ((ls.length : Int) + 1), .int .i64 r.ep, .int .i64 r.kind, .int .i64 r.page, .int .i64 r.other, .int .i64 r.req, .string r.key, .string r.val] 54) = W1) := hW1.symm
  have F1 : Fr (fun _ => False) w W1 := by rw [hW1]; exact Fr.box w _
  have HB : Hid (∀ W, Fr (fun _ => False) W1 W → (W.cell? ⟨w.heap.size, 0, none⟩ = some (.int .i64 rn.lsn) ∧ W.cell? ⟨w.heap.size, 1, none⟩ = some (.int .i64 rn.ep) ∧ W.cell? ⟨w.heap.size, 2, none⟩ = some (.int .i64 rn.kind) ∧ W.cell? ⟨w.heap.size, 3, none⟩ = some (.int .i64 rn.page) ∧ W.cell? ⟨w.heap.size, 4, none⟩ = some (.int .i64 rn.other) ∧ W.cell? ⟨w.heap.size, 5, none⟩ = some (.int .i64 rn.req) ∧ W.cell? ⟨w.heap.size, 6, none⟩ = some (.string rn.key) ∧ W.cell? ⟨w.heap.size, 7, none⟩ = some (.string rn.val))) := fun W f => by
    rw [hW1] at f
    rw [hrn]
    exact (rec_cells (rec_at w _ _ f)).1
  have hck := rec_check rn W1
  have HRV : Hid ((Value.agg #[.int .i64 rn.lsn, .int .i64 rn.ep, .int .i64 rn.kind, .int .i64 rn.page, .int .i64 rn.other, .int .i64 rn.req, .string rn.key, .string rn.val]) = .agg #[.int .i64 ((ls.length : Int) + 1), .int .i64 r.ep, .int .i64 r.kind, .int .i64 r.page, .int .i64 r.other, .int .i64 r.req, .string r.key, .string r.val]) := by show _ = _; rw [hrn]; rfl
  have HEP : Hid (r.ep = rn.ep) := by show _ = _; rw [hrn]; rfl
  have HLS : Hid (rn.lsn = (ls.length : Int) + 1) := by show _ = _; rw [hrn]; rfl
  clear hW1 hrn
  by_cases hok : rok rn = true
  · have HE : Hid (erec rn = 0) := erec_yes hok
    have HAE : Hid (apE ls r = refus ls rn.ep) := by show _ = _; unfold apE; rw [← HRN.out, if_pos hok, ← HEP.out]
    rw [HE.out] at hck
    have hrf := fun W hW => refusal_lg lb rv ls fl rn W hW hw
    by_cases hre : refus ls rn.ep = 0
    · have HZ : Hid (apE ls r = 0) := by show _ = _; rw [HAE.out]; exact hre
      have HN : Hid (apN ls r = rn.lsn) := by show _ = _; unfold apN; rw [if_pos HZ.out, HLS.out]
      have HL : Hid (apL ls r = ls ++ [rn]) := by show _ = _; unfold apL; rw [if_pos HZ.out, HRN.out]
      have hlt : ls.length < 65536 := by
        rcases Nat.lt_or_ge ls.length 65536 with h' | h'
        · exact h'
        · exfalso
          have he : ls.length = 65536 := by omega
          unfold refus at hre
          split at hre
          · exact absurd hre (by decide)
          · first | exact absurd hre (by decide) | (rw [if_pos he] at hre; exact absurd hre (by decide))
      rw [HZ.out, HN.out, HL.out]
      rw [hre] at hrf
      clear hre hok HE HAE HZ HN
      go_enter Tryz.func30, Tryz.ntmps30
      go_wp2_with fail
      refine hnx.mono ?_
      rintro e w' ⟨rfl, rfl⟩
      clear hnx
      go_wp2_with fail
      rw [HW1.out, ← HRV.out]
      refine hck.mono ?_
      clear hck
      rintro e w2 ⟨rfl, f2⟩
      obtain ⟨c0, c1, c2, c3, c4, c5, c6, c7⟩ := HB.out _ f2
      go_wp2_with fail
      refine (hrf _ (h.same (F1.seq' f2))).mono ?_
      clear hrf
      rintro e w3 ⟨rfl, f3⟩
      clear c0 c1 c2 c3 c4 c5 c6 c7
      have G3 := f2.seq' f3
      have F3 := F1.seq' G3
      have h3 := h.same F3
      obtain ⟨k0, k1, z0, z1⟩ := cell_of_two h3.box
      obtain ⟨c0, c1, c2, c3, c4, c5, c6, c7⟩ := HB.out _ G3
      obtain ⟨a, c, rfl, _, _⟩ := h.has.slice
      have F4 : Fr (fun _ => False) w ((w3.alloc (.cells #[.int .i64 rn.lsn, .int .i64 rn.ep, .int .i64 rn.kind, .int .i64 rn.page, .int .i64 rn.other, .int .i64 rn.req, .string rn.key, .string rn.val] 54)).drew) := (F3.alloc _).drew
      have G4 : Fr (fun _ => False) W1 ((w3.alloc (.cells #[.int .i64 rn.lsn, .int .i64 rn.ep, .int .i64 rn.kind, .int .i64 rn.page, .int .i64 rn.other, .int .i64 rn.req, .string rn.key, .string rn.val] 54)).drew) := (G3.alloc _).drew
      have h4 := h.same F4
      have hrow := h4.has
      have hbx := h4.box
      have hnews : From ((w3.alloc (.cells #[.int .i64 rn.lsn, .int .i64 rn.ep, .int .i64 rn.kind, .int .i64 rn.page, .int .i64 rn.other, .int .i64 rn.req, .string rn.key, .string rn.val] 54)).drew) (some ⟨w3.heap.size, 0, none⟩) (recC rn) := .inr ⟨_, _, rfl, range_block (w := (w3.alloc _).drew) (heap_alloc_new w3 _) (fun j v hv => by rw [Nat.zero_add]; simpa [recC] using hv)⟩
      have HHB : Hid (∀ w5, Fr (fun k => (Value.slice a ls.length c).ownBlock = some k ∧ 0 < 1) ((w3.alloc (.cells #[.int .i64 rn.lsn, .int .i64 rn.ep, .int .i64 rn.kind, .int .i64 rn.page, .int .i64 rn.other, .int .i64 rn.req, .string rn.key, .string rn.val] 54)).drew) w5 → w5.heap[lb]? = some (.cells #[.slice a ls.length c, .int .i64 fl] 131 (0, 0)) ∧ w5.cell? ⟨w.heap.size, 0, none⟩ = some (.int .i64 rn.lsn) ∧ w5.cell? ⟨w.heap.size, 1, none⟩ = some (.int .i64 rn.ep) ∧ w5.cell? ⟨w.heap.size, 2, none⟩ = some (.int .i64 rn.kind) ∧ w5.cell? ⟨w.heap.size, 3, none⟩ = some (.int .i64 rn.page) ∧ w5.cell? ⟨w.heap.size, 4, none⟩ = some (.int .i64 rn.other) ∧ w5.cell? ⟨w.heap.size, 5, none⟩ = some (.int .i64 rn.req) ∧ w5.cell? ⟨w.heap.size, 6, none⟩ = some (.string rn.key) ∧ w5.cell? ⟨w.heap.size, 7, none⟩ = some (.string rn.val)) := fun w5 f => by
        have hlb := lt_of_block h.box
        refine ⟨by rw [f.block lb (lt_of_block hbx) (fun e => by have := h.own lb e.1; omega)]; exact hbx, ?_⟩
        have hcell := (rec_cells (w' := w5) (b := w.heap.size) (t := 54) (c0 := .int .i64 rn.lsn) (c1 := .int .i64 rn.ep) (c2 := .int .i64 rn.kind) (c3 := .int .i64 rn.page) (c4 := .int .i64 rn.other) (c5 := .int .i64 rn.req) (c6 := .string rn.key) (c7 := .string rn.val) (by
          have hne : ∀ k, (Value.slice a ls.length c).ownBlock = some k → k < w.heap.size := fun k e => h.has.lt e
          have hW : W1.heap[w.heap.size]? = some (.cells #[.int .i64 rn.lsn, .int .i64 rn.ep, .int .i64 rn.kind, .int .i64 rn.page, .int .i64 rn.other, .int .i64 rn.req, .string rn.key, .string rn.val] 54 (0, 0)) := by
            rw [← HW1.out, HRN.out]; exact heap_alloc_new w _
          have hz := lt_of_block hW
          rw [f.block w.heap.size (Nat.lt_of_lt_of_le hz G4.size) (fun e => by have := hne _ e.1; omega), G4.block _ hz (fun f => f)]
          exact hW)).1
        exact hcell
      obtain ⟨y0, y1, y2, y3⟩ := cell_of_two hbx
      obtain ⟨t0, t1, t2, t3, t4, t5, t6, t7⟩ := HB.out _ G4
      go_wp2
      go_region_law
        ((refine step_append_has _ (by rfl) _ _ 45 45 54 54 (by rfl) iR _ 8 80 Tryz.underlying45 Tryz.underlying45 hiR hR0 hR1 hR2 rfl (by omega) (.slice a ls.length c) ls.length (ls.flatMap recC) (by rfl) hrow
            (some ⟨w3.heap.size, 0, none⟩) 1 1 (recC rn) (by rfl) (by rfl) hnews (recC_one rn) (by unfold maxLen; omega) (by omega) ?_; intro a' c' w5 hown hfr hat; obtain ⟨hb5, d0, d1, d2, d3, d4, d5, d6, d7⟩ := HHB.out _ hfr; obtain ⟨k5, k6, z5, z6⟩ := cell_of_two hb5))
      all_goals
        have hlb := lt_of_block h.box
        have hn1 : ¬ lb = w.heap.size := by omega
        have hn2 : ¬ w.heap.size = lb := by omega
        have hp := h.push F4 hfr (ls' := ls ++ [rn]) (by rw [List.length_append, List.flatMap_append]; simpa using hown) hat
        go_wp2
        go_ret2
        exact ⟨rfl, _, hp⟩
    · have HN : Hid (apN ls r = 0) := by show _ = _; unfold apN; rw [if_neg (by rw [HAE.out]; exact hre)]
      have HL : Hid (apL ls r = ls) := by show _ = _; unfold apL; rw [if_neg (by rw [HAE.out]; exact hre)]
      rw [HN.out, HL.out, HAE.out]
      have hreb : (refus ls rn.ep != 0) = true := by simpa using hre
      generalize refus ls rn.ep = er at *
      clear hre hok HE HAE HN HL
      go_enter Tryz.func30, Tryz.ntmps30
      go_wp2_with fail
      refine hnx.mono ?_
      rintro e w' ⟨rfl, rfl⟩
      clear hnx
      go_wp2_with fail
      rw [HW1.out, ← HRV.out]
      refine hck.mono ?_
      clear hck
      rintro e w2 ⟨rfl, f2⟩
      obtain ⟨c0, c1, c2, c3, c4, c5, c6, c7⟩ := HB.out _ f2
      go_wp2_with fail
      refine (hrf _ (h.same (F1.seq' f2))).mono ?_
      clear hrf
      rintro e w3 ⟨rfl, f3⟩
      clear c0 c1 c2 c3 c4 c5 c6 c7
      have F3 := F1.seq' (f2.seq' f3)
      go_wp2
      go_ret2
      exact ⟨rfl, rv, h.same F3, F3.mono (fun _ _ f => f.elim), .inl rfl⟩
  · have hokf : rok rn = false := by simpa using hok
    have HE : Hid (erec rn = 90) := erec_no hokf
    have HAE : Hid (apE ls r = 90) := by show _ = _; unfold apE; rw [← HRN.out, if_neg hok]
    have HN : Hid (apN ls r = 0) := by show _ = _; unfold apN; rw [HAE.out, if_neg (by decide)]
    have HL : Hid (apL ls r = ls) := by show _ = _; unfold apL; rw [HAE.out, if_neg (by decide)]
    rw [HE.out] at hck
    rw [HN.out, HL.out, HAE.out]
    clear hok hokf HE HAE HN HL
    go_enter Tryz.func30, Tryz.ntmps30
    go_wp2_with fail
    refine hnx.mono ?_
    rintro e w' ⟨rfl, rfl⟩
    clear hnx
    go_wp2_with fail
    rw [HW1.out, ← HRV.out]
    refine hck.mono ?_
    clear hck
    rintro e w2 ⟨rfl, f2⟩
    have F3 := F1.seq' f2
    go_wp2
    go_ret2
    exact ⟨rfl, rv, h.same F3, F3.mono (fun _ _ f => f.elim), .inl rfl⟩
end Go.Proofs.YtihkdffihmhnaaaGreat.Rf

/- What (*Log).Marks makes; plain comparisons of marks and of records. -/
namespace Go.Proofs.YtihkdffihmhnaaaGreat.Rf
open Go.RowKit Crcm

theorem infoMark : (Tryz.prog.info? 174).map (fun i => (i.zero, i.size, i.bytes)) = some (some (.agg #[.int .i64 0, .int .i64 0]), 2, 16) := by kernel_rfl
/-- A mark's cells. -/
def mkC (m : Int × Int) : List Value := [.int .i64 m.1, .int .i64 m.2]
theorem mkC_length (m : Int × Int) : (mkC m).length = 2 := rfl
theorem mkC_one (m : Int × Int) : ∀ u ∈ mkC m, u.oneCell' = true := by
  intro u hu
  simp only [mkC, List.mem_cons, List.not_mem_nil, or_false] at hu
  rcases hu with h | h <;> (subst h; rfl)
theorem mk_range {w : World} {b o : Nat} {m : Int × Int} (h : w.rangeAt b o (mkC m)) : w.cell? ⟨b, o, none⟩ = some (.int .i64 m.1) ∧ w.cell? ⟨b, o + 1, none⟩ = some (.int .i64 m.2) := ⟨h 0 _ rfl, h 1 _ rfl⟩
/-- One record more. -/
def mkS (ms : List (Int × Int)) (r : Rec) : List (Int × Int) := if ms = [] ∨ r.ep ≠ (ms.getLast?.getD (0, 0)).1 then ms ++ [(r.ep, r.lsn)] else ms
/-- The epochs, and where each begins. -/
def mks (ls : List Rec) : List (Int × Int) := ls.foldl mkS []
theorem mks_snoc (ls : List Rec) (r : Rec) : mks (ls ++ [r]) = mkS (mks ls) r := by unfold mks; rw [List.foldl_append]; rfl
theorem mks_nil : mks [] = [] := rfl
theorem mkS_ne (ms : List (Int × Int)) (r : Rec) : mkS ms r ≠ [] := by
  unfold mkS
  split
  · simp
  · rename_i h; exact fun e => h (.inl e)
theorem mks_empty {ls : List Rec} : mks ls = [] ↔ ls = [] := by
  constructor
  · intro h
    rcases List.eq_nil_or_concat ls with h0 | ⟨l, r, h0⟩
    · exact h0
    · rw [h0, List.concat_eq_append, mks_snoc] at h
      exact absurd h (mkS_ne _ _)
  · rintro rfl; rfl
theorem mkS_len (ms : List (Int × Int)) (r : Rec) : (mkS ms r).length ≤ ms.length + 1 := by
  unfold mkS; split <;> simp
theorem mks_len (ls : List Rec) : (mks ls).length ≤ ls.length := by
  have key : ∀ (l : List Rec) (ms : List (Int × Int)), (l.foldl mkS ms).length ≤ ms.length + l.length := by
    intro l
    induction l with
    | nil => intro ms; simp
    | cons r l ih => intro ms; rw [List.foldl_cons, List.length_cons]; have := ih (mkS ms r); have := mkS_len ms r; omega
  have := key ls []
  simpa [mks] using this

/-- A slice of marks as a walk sees it. -/
structure Mks (w : World) (a : Option Addr) (cap : Nat) (ms : List (Int × Int)) : Prop where
  le : ms.length ≤ cap
  max : cap ≤ 9223372036854775807
  at_ : ms = [] ∨ ∃ b off, a = some ⟨b, off, none⟩ ∧ b < w.heap.size ∧ ∀ (i : Nat) m, ms[i]? = some m → w.rangeAt b (off + i * 2) (mkC m)
theorem Mks.same {w w' : World} {a : Option Addr} {cap : Nat} {ms : List (Int × Int)} (h : Mks w a cap ms) (f : Fr (fun _ => False) w w') : Mks w' a cap ms := by
  refine ⟨h.le, h.max, ?_⟩
  rcases h.at_ with h0 | ⟨b, off, rfl, hb, hc⟩
  · exact .inl h0
  · exact .inr ⟨b, off, rfl, Nat.lt_of_lt_of_le hb f.size, fun i r hr => range_fr (hc i r hr) f (fun f => f)⟩
theorem Has.mks {w : World} {a : Option Addr} {n c : Nat} {ms : List (Int × Int)} (hn : n = ms.length) (h : Has w 2 (.slice a n c) n (ms.flatMap mkC)) : Mks w a c ms := by
  subst hn
  obtain ⟨a', c', he, h1, h2⟩ := h.slice
  simp only [Value.slice.injEq, true_and] at he
  obtain ⟨rfl, rfl⟩ := he
  refine ⟨h1, by unfold maxLen at h2; exact h2, ?_⟩
  by_cases h0 : ms.length = 0
  · exact .inl (List.length_eq_zero_iff.1 h0)
  · obtain ⟨g, cap, hv, hg, _⟩ := h.form (by omega)
    simp only [Value.slice.injEq, true_and] at hv
    obtain ⟨rfl, rfl⟩ := hv
    refine .inr ⟨g, 0, rfl, hg, fun i m hm => ?_⟩
    rw [Nat.zero_add]
    exact h.elem mkC_length hm
theorem Has.recs {w : World} {a : Option Addr} {n c : Nat} {ls : List Rec} (hn : n = ls.length) (h : Has w 8 (.slice a n c) n (ls.flatMap recC)) : Recs w a c ls := by
  subst hn
  obtain ⟨a', c', he, h1, h2⟩ := h.slice
  simp only [Value.slice.injEq, true_and] at he
  obtain ⟨rfl, rfl⟩ := he
  refine ⟨h1, by unfold maxLen at h2; exact h2, ?_⟩
  by_cases h0 : ls.length = 0
  · exact .inl (List.length_eq_zero_iff.1 h0)
  · obtain ⟨g, cap, hv, hg, _⟩ := h.form (by omega)
    simp only [Value.slice.injEq, true_and] at hv
    obtain ⟨rfl, rfl⟩ := hv
    refine .inr ⟨g, 0, rfl, hg, fun i m hm => ?_⟩
    rw [Nat.zero_add]
    exact h.elem recC_length hm

set_option maxRecDepth 100000 in
set_option maxHeartbeats 2000000 in
theorem plain_recs (a1 a2 : Option Addr) (n1 n2 c1 c2 : Nat) (ms : List Rec) (h1 : n1 = ms.length) (h2 : n2 = ms.length) (w : World) (m1 : Recs w a1 c1 ms) (m2 : Recs w a2 c2 ms) :
    Calls Tryz.prog 34 #[.slice a1 n1 c1, .slice a2 n2 c2] w fun e w' => e = .returned (.bool true) ∧ Fr (fun _ => False) w w' := by
  subst h1
  subst h2
  have hl1 := m1.le
  have hm1 := m1.max
  have hl2 := m2.le
  have hm2 := m2.max
  by_cases h0 : ms.length = 0
  · rw [h0]
    clear h0
    go_enter Tryz.func34, Tryz.ntmps34
    go_wp2
    refine wp_loop_rounds 1 ?_
    rw [rounds_succ]
    go_wp2
    go_ret
    exact ⟨rfl, Fr.refl _ _⟩
  · obtain ⟨b1, o1, rfl, hb1, k1⟩ : ∃ b off, a1 = some ⟨b, off, none⟩ ∧ b < w.heap.size ∧ ∀ (i : Nat) m, ms[i]? = some m → w.rangeAt b (off + i * 8) (recC m) := by
      rcases m1.at_ with e | e
      · rw [e] at h0; simp at h0
      · exact e
    obtain ⟨b2, o2, rfl, hb2, k2⟩ : ∃ b off, a2 = some ⟨b, off, none⟩ ∧ b < w.heap.size ∧ ∀ (i : Nat) m, ms[i]? = some m → w.rangeAt b (off + i * 8) (recC m) := by
      rcases m2.at_ with e | e
      · rw [e] at h0; simp at h0
      · exact e
    have K1 : Hid (∀ (i : Nat) m, ms[i]? = some m → w.rangeAt b1 (o1 + i * 8) (recC m)) := k1
    have K2 : Hid (∀ (i : Nat) m, ms[i]? = some m → w.rangeAt b2 (o2 + i * 8) (recC m)) := k2
    clear k1 k2 m1 m2 h0
    go_enter Tryz.func34, Tryz.ntmps34
    go_wp2
    go_loopw [13] (fun i wr => ∃ k q : Nat, k ≤ ms.length ∧ i = .int .i64 k ∧ wr = w.drewN q) (fun i _ => ms.length - (intOf i).toNat)
    case atStart => exact ⟨0, 0, by omega, rfl, rfl⟩
    case round =>
      obtain ⟨k, q, hk, rfl, rfl⟩ := hrel
      by_cases hlt : k < ms.length
      · obtain ⟨m, hm⟩ : ∃ m, ms[k]? = some m := ⟨_, List.getElem?_eq_getElem hlt⟩
        obtain ⟨x0, x1, x2, x3, x4, x5, x6, x7⟩ := rec_range (K1.out k m hm)
        obtain ⟨y0, y1, y2, y3, y4, y5, y6, y7⟩ := rec_range (K2.out k m hm)
        clear hm
        go_wp2
        go_quiet (fail)
        go_wp2
        exact ⟨⟨k + 1, _, by omega, by go_num, rfl⟩, by simp [intOf]; omega⟩
      · go_wp2
        go_ret
        exact ⟨rfl, Fr.drewN (Fr.refl _ _) _⟩

set_option maxRecDepth 100000 in
set_option maxHeartbeats 400000 in
theorem marks_wnil (w : World) : Calls Tryz.prog 75 #[.pointer none] w fun e w' => e = .returned (.slice none 0 0) ∧ w' = w := by
  go_enter Tryz.func75, Tryz.ntmps75
  go_wp2_with (go_at_call 78; refine (all_nil _).mono ?_; rintro e w' ⟨rfl, rfl⟩)
  refine wp_loop_rounds 1 ?_
  rw [rounds_succ]
  go_wp2
  go_ret
  exact ⟨rfl, rfl⟩
set_option maxRecDepth 100000 in
set_option maxHeartbeats 4000000 in
theorem marks_lg (lb : Nat) (rv : Value) (ls : List Rec) (fl : Int) (w : World) (h : Lg w lb rv ls fl) (hw : Wl ls) :
    Calls Tryz.prog 75 #[.pointer (some ⟨lb, 0, none⟩)] w fun e w' => ∃ a c, e = .returned (.slice a (mks ls).length c) ∧ Mks w' a c (mks ls) ∧ Fr (fun _ => False) w w' := by
  obtain ⟨iM, hiM, hM0, hM1, hM2⟩ := info_parts infoMark
  have M1 : Hid (Tryz.prog.info? 174 = some iM) := hiM
  have M2 : Hid (iM.zero = some (.agg #[.int .i64 0, .int .i64 0])) := hM0
  have M3 : Hid (iM.size = 2) := hM1
  have M4 : Hid (iM.bytes = 16) := hM2
  clear hiM hM0 hM1 hM2
  have hb := hw.big
  have hal := all_lg lb rv ls fl w h
  have HH : Hid (∀ W, Fr (fun _ => False) w W → Has W 8 rv ls.length (ls.flatMap recC)) := fun W f => h.has.fr f (fun _ _ f => f)
  obtain ⟨ar, cr, rfl, _, hcr⟩ := h.has.slice
  have hcr' : cr ≤ 9223372036854775807 := by unfold maxLen at hcr; exact hcr
  clear hcr hw h
  go_enter Tryz.func75, Tryz.ntmps75
  go_wp2_with fail
  refine hal.mono ?_
  rintro e w' ⟨rfl, rfl⟩
  clear hal
  go_wp2
  go_loopw [9, 3] (fun i t wr => ∃ (k : Nat) (vt : Value) (ms : List (Int × Int)), k ≤ ls.length ∧ i = .int .i64 k ∧ t = vt ∧ Hid (ms = mks (ls.take k)) ∧ Has wr 2 vt ms.length (ms.flatMap mkC) ∧ (∀ g, vt.ownBlock = some g → w'.heap.size ≤ g) ∧ Fr (fun _ => False) w' wr) (fun i _ _ => ls.length - (intOf i).toNat)
  case atStart => exact ⟨0, .slice none 0 0, [], by omega, rfl, rfl, rfl, Has.nil _ _, (fun g e => by cases e), Fr.refl _ _⟩
  case round =>
    obtain ⟨k, vt, ms, hk, rfl, rfl, HM, ht, hown, F⟩ := hrel
    by_cases hlt : k < ls.length
    · obtain ⟨r, hr, htk⟩ := take_one ls k hlt
      have HTK : Hid (ls.take (k + 1) = ls.take k ++ [r]) := htk
      have hhk := HH.out _ F
      obtain ⟨g, cap, hv, _⟩ := hhk.form (by omega)
      simp only [Value.slice.injEq, true_and] at hv
      obtain ⟨rfl, rfl⟩ := hv
      obtain ⟨q0, q1, q2, q3, q4, q5, q6, q7⟩ := rec_range (hhk.elem recC_length hr)
      have fb := Fr.box wr (.cells #[.int .i64 r.lsn, .int .i64 r.ep, .int .i64 r.kind, .int .i64 r.page, .int .i64 r.other, .int .i64 r.req, .string r.key, .string r.val] 54)
      have HMS : Hid (mks (ls.take (k + 1)) = mkS ms r) := by show _ = _; rw [HTK.out, mks_snoc, HM.out]
      have HML : Hid (ms.length ≤ 65536) := by show _ ≤ _; rw [HM.out]; have := mks_len (ls.take k); rw [List.length_take] at this; omega
      have HM0 : Hid (ms = [] ↔ k = 0) := by
        show _ ↔ _
        rw [HM.out, mks_empty]
        constructor
        · intro h0
          have : (ls.take k).length = 0 := by rw [h0]; rfl
          rw [List.length_take] at this; omega
        · rintro rfl; rfl
      clear hr htk hhk
      -- the append
      have HAP : Hid (∀ W, Fr (fun _ => False) (wr.alloc (.cells #[.int .i64 r.lsn, .int .i64 r.ep, .int .i64 r.kind, .int .i64 r.page, .int .i64 r.other, .int .i64 r.req, .string r.key, .string r.val] 54)) W → Has W 2 u3 ms.length (ms.flatMap mkC)) := fun W f => (ht.fr fb (fun _ _ f => f)).fr f (fun _ _ f => f)
      have hown' : Hid (∀ g, u3.ownBlock = some g → w'.heap.size ≤ g) := hown
      have FB := F.seq' fb
      have hrel2 : ∀ W (P : Fr (fun _ => False) (wr.alloc (.cells #[.int .i64 r.lsn, .int .i64 r.ep, .int .i64 r.kind, .int .i64 r.page, .int .i64 r.other, .int .i64 r.req, .string r.key, .string r.val] 54)) W) v' w8, Has w8 2 v' (ms ++ [(r.ep, r.lsn)]).length ((ms ++ [(r.ep, r.lsn)]).flatMap mkC) → Fr (fun k => u3.ownBlock = some k ∧ 0 < 1) W w8 → (v'.ownBlock = u3.ownBlock ∨ v'.ownBlock = some W.heap.size) → (∀ g, v'.ownBlock = some g → w'.heap.size ≤ g) ∧ Fr (fun _ => False) w' w8 := fun W P v' w8 hh f hat => by
        have hz := (FB.seq' P).size
        refine ⟨fun g e => ?_, (FB.seq' P).trans f (fun i hi e => by have := hown'.out i e.1; omega)⟩
        rcases hat with h1 | h1
        · rw [h1] at e; exact hown'.out g e
        · rw [h1] at e; simp only [Option.some.injEq] at e; omega
      have HR2 : Hid (∀ W (_P : Fr (fun _ => False) (wr.alloc (.cells #[.int .i64 r.lsn, .int .i64 r.ep, .int .i64 r.kind, .int .i64 r.page, .int .i64 r.other, .int .i64 r.req, .string r.key, .string r.val] 54)) W) v' w8, Has w8 2 v' (ms ++ [(r.ep, r.lsn)]).length ((ms ++ [(r.ep, r.lsn)]).flatMap mkC) → Fr (fun k => u3.ownBlock = some k ∧ 0 < 1) W w8 → (v'.ownBlock = u3.ownBlock ∨ v'.ownBlock = some W.heap.size) → (∀ g, v'.ownBlock = some g → w'.heap.size ≤ g) ∧ Fr (fun _ => False) w' w8) := hrel2
      clear hrel2 hown
      have hml := HML.out
      by_cases h0 : k = 0
      · have HADD : Hid (mkS ms r = ms ++ [(r.ep, r.lsn)]) := if_pos (.inl (HM0.out.2 h0))
        subst h0
        have gd := (Fr.refl (fun _ => False) (wr.alloc (.cells #[.int .i64 r.lsn, .int .i64 r.ep, .int .i64 r.kind, .int .i64 r.page, .int .i64 r.other, .int .i64 r.req, .string r.key, .string r.val] 54))).drew
        obtain ⟨⟨c0, c1, c2, c3, c4, c5, c6, c7⟩, _⟩ := rec_cells (rec_at wr _ _ gd)
        go_wp2_with fail
        go_quiet (fail)
        have PF : Fr (fun _ => False) (wr.alloc (.cells #[.int .i64 r.lsn, .int .i64 r.ep, .int .i64 r.kind, .int .i64 r.page, .int .i64 r.other, .int .i64 r.req, .string r.key, .string r.val] 54)) ((wr.alloc (.cells #[.int .i64 r.lsn, .int .i64 r.ep, .int .i64 r.kind, .int .i64 r.page, .int .i64 r.other, .int .i64 r.req, .string r.key, .string r.val] 54)).drewN nq) := Fr.drewN (Fr.refl _ _) _
        obtain ⟨W5, hW5⟩ : ∃ W, W = (wr.alloc (.cells #[.int .i64 r.lsn, .int .i64 r.ep, .int .i64 r.kind, .int .i64 r.page, .int .i64 r.other, .int .i64 r.req, .string r.key, .string r.val] 54)).drewN nq := ⟨_, rfl⟩
        rw [← hW5] at PF ⊢
        obtain ⟨⟨d0, d1, d2, d3, d4, d5, d6, d7⟩, _⟩ := rec_cells (rec_at wr _ _ PF)
        clear hW5
        have P6 := PF.alloc (.cells #[.int .i64 r.ep, .int .i64 r.lsn] 174)
        have hrow := HAP.out _ P6
        have hnews : From (W5.alloc (.cells #[.int .i64 r.ep, .int .i64 r.lsn] 174)) (some ⟨W5.heap.size, 0, none⟩) (mkC (r.ep, r.lsn)) := .inr ⟨_, _, rfl, range_block (heap_alloc_new W5 _) (fun j v hv => by rw [Nat.zero_add]; simpa [mkC] using hv)⟩
        go_wp2_with (at_builtin; refine wpList_append_has _ rfl (.tmp 28) (.tmp 34) 65 65 174 174 rfl iM (.agg #[.int .i64 0, .int .i64 0]) 2 16 Tryz.underlying65 Tryz.underlying65 M1.out M2.out M3.out M4.out rfl (by omega) u3 ms.length (ms.flatMap mkC) rfl hrow (some ⟨W5.heap.size, 0, none⟩) 1 1 (mkC (r.ep, r.lsn)) rfl rfl hnews (mkC_one _) (by unfold maxLen; omega) (by omega) ?_; intro a4 c4 w8 ht4 f34 hat4)
        have hl2 : ms.length + 1 = (ms ++ [(r.ep, r.lsn)]).length := by rw [List.length_append]; rfl
        have ht5 : Has w8 2 (.slice a4 (ms ++ [(r.ep, r.lsn)]).length c4) (ms ++ [(r.ep, r.lsn)]).length ((ms ++ [(r.ep, r.lsn)]).flatMap mkC) := by
          rw [← hl2, List.flatMap_append]
          simpa using ht4
        rw [hl2] at hat4 ⊢
        obtain ⟨hR1, hR2⟩ := HR2.out _ P6 _ _ ht5 f34 hat4
        clear hl2 ht4 d0 d1 d2 d3 d4 d5 d6 d7
        go_wp2
        go_roundw
        case rel => exact ⟨0 + 1, _, ms ++ [(r.ep, r.lsn)], by omega, by go_num, rfl, by rw [HMS.out, HADD.out]; exact rfl, ht5, hR1, hR2⟩
        case measure => simp [intOf]; omega
      · have hkb : ((k : Int) == 0) = false := by rw [beq_eq_false_iff_ne]; omega
        have hm1 : ms ≠ [] := fun e => h0 (HM0.out.1 e)
        have hm2 : 0 < ms.length := List.length_pos_iff.2 hm1
        obtain ⟨lm, hlm⟩ : ∃ lm, ms[ms.length - 1]? = some lm := ⟨_, List.getElem?_eq_getElem (by omega)⟩
        have hgl : ms.getLast?.getD (0, 0) = lm := by rw [List.getLast?_eq_getElem?, hlm]; rfl
        have gd := (Fr.refl (fun _ => False) (wr.alloc (.cells #[.int .i64 r.lsn, .int .i64 r.ep, .int .i64 r.kind, .int .i64 r.page, .int .i64 r.other, .int .i64 r.req, .string r.key, .string r.val] 54))).drew
        have hhm := HAP.out _ (Fr.refl _ _)
        obtain ⟨gm, cm, hv3, _⟩ := hhm.form hm2
        rw [hv3] at hhm
        obtain ⟨m0, m1⟩ := mk_range (hhm.elem mkC_length hlm)
        obtain ⟨⟨c0, c1, c2, c3, c4, c5, c6, c7⟩, _⟩ := rec_cells (rec_at wr _ _ gd)
        obtain ⟨p, hp⟩ : ∃ p, p + 1 = ms.length := ⟨ms.length - 1, by omega⟩
        have hp2 : ms.length - 1 = p := by omega
        rw [hp2] at m0 m1
        have HP : Hid (p + 1 = ms.length) := hp
        have hp6 : p + 1 ≤ 65536 := by omega
        have j1 : IntKind.i64.wrap (p : Int) = (p : Int) := by simp [IntKind.wrap, IntKind.bits, IntKind.signed]; omega
        have j2 : (0 : Int) ≤ (p : Int) := by omega
        have j3 : (p : Int) < (p : Int) + 1 := by omega
        have j4 : IntKind.i64.wrap ((p : Int) + 1 - 1) = (p : Int) := by simp [IntKind.wrap, IntKind.bits, IntKind.signed]; omega
        rw [← hp] at hv3
        have HV3 : Hid (u3 = .slice (some ⟨gm, 0, none⟩) (p + 1) cm) := hv3
        subst hv3
        clear hhm hlm hp2 hm1 hm2 h0
        by_cases hep : r.ep = lm.1
        · have hepb : (r.ep != lm.1) = false := by simp [hep]
          have HKEEP : Hid (mkS ms r = ms) := by
            show _ = _
            unfold mkS
            rw [hgl, if_neg (fun h => h.elim (fun h => by rw [h] at hp; simp at hp) (fun h => h hep))]
          clear hep hgl hp
          go_wp2_with fail
          go_quiet (fail)
          have PF : Fr (fun _ => False) (wr.alloc (.cells #[.int .i64 r.lsn, .int .i64 r.ep, .int .i64 r.kind, .int .i64 r.page, .int .i64 r.other, .int .i64 r.req, .string r.key, .string r.val] 54)) ((wr.alloc (.cells #[.int .i64 r.lsn, .int .i64 r.ep, .int .i64 r.kind, .int .i64 r.page, .int .i64 r.other, .int .i64 r.req, .string r.key, .string r.val] 54)).drewN nq) := Fr.drewN (Fr.refl _ _) _
          have hrow := HAP.out _ PF
          have FF := FB.seq' PF
          go_wp2
          go_roundw
          case rel => exact ⟨k + 1, _, ms, by omega, by go_num, rfl, by rw [HMS.out, HKEEP.out]; exact rfl, hrow, hown'.out, FF⟩
          case measure => simp [intOf]; omega
        · have hepb : (r.ep != lm.1) = true := by simpa using hep
          have HADD : Hid (mkS ms r = ms ++ [(r.ep, r.lsn)]) := by
            show _ = _
            unfold mkS
            rw [hgl, if_pos (.inr hep)]
          clear hep hgl hp
          go_wp2_with fail
          go_quiet (fail)
          have PF : Fr (fun _ => False) (wr.alloc (.cells #[.int .i64 r.lsn, .int .i64 r.ep, .int .i64 r.kind, .int .i64 r.page, .int .i64 r.other, .int .i64 r.req, .string r.key, .string r.val] 54)) ((wr.alloc (.cells #[.int .i64 r.lsn, .int .i64 r.ep, .int .i64 r.kind, .int .i64 r.page, .int .i64 r.other, .int .i64 r.req, .string r.key, .string r.val] 54)).drewN nq) := Fr.drewN (Fr.refl _ _) _
          obtain ⟨W5, hW5⟩ : ∃ W, W = (wr.alloc (.cells #[.int .i64 r.lsn, .int .i64 r.ep, .int .i64 r.kind, .int .i64 r.page, .int .i64 r.other, .int .i64 r.req, .string r.key, .string r.val] 54)).drewN nq := ⟨_, rfl⟩
          rw [← hW5] at PF ⊢
          obtain ⟨⟨d0, d1, d2, d3, d4, d5, d6, d7⟩, _⟩ := rec_cells (rec_at wr _ _ PF)
          clear hW5
          have P6 := PF.alloc (.cells #[.int .i64 r.ep, .int .i64 r.lsn] 174)
          have hrow := HAP.out _ P6
          have hnews : From (W5.alloc (.cells #[.int .i64 r.ep, .int .i64 r.lsn] 174)) (some ⟨W5.heap.size, 0, none⟩) (mkC (r.ep, r.lsn)) := .inr ⟨_, _, rfl, range_block (heap_alloc_new W5 _) (fun j v hv => by rw [Nat.zero_add]; simpa [mkC] using hv)⟩
          go_wp2_with (at_builtin; refine wpList_append_has _ rfl (.tmp 28) (.tmp 34) 65 65 174 174 rfl iM (.agg #[.int .i64 0, .int .i64 0]) 2 16 Tryz.underlying65 Tryz.underlying65 M1.out M2.out M3.out M4.out rfl (by omega) (.slice (some ⟨gm, 0, none⟩) (p + 1) cm) ms.length (ms.flatMap mkC) rfl hrow (some ⟨W5.heap.size, 0, none⟩) 1 1 (mkC (r.ep, r.lsn)) rfl rfl hnews (mkC_one _) (by unfold maxLen; omega) (by omega) ?_; intro a4 c4 w8 ht4 f34 hat4)
          have hl2 : ms.length + 1 = (ms ++ [(r.ep, r.lsn)]).length := by rw [List.length_append]; rfl
          have ht5 : Has w8 2 (.slice a4 (ms ++ [(r.ep, r.lsn)]).length c4) (ms ++ [(r.ep, r.lsn)]).length ((ms ++ [(r.ep, r.lsn)]).flatMap mkC) := by
            rw [← hl2, List.flatMap_append]
            simpa using ht4
          rw [hl2] at hat4 ⊢
          obtain ⟨hR1, hR2⟩ := HR2.out _ P6 _ _ ht5 f34 hat4
          clear hl2 ht4 d0 d1 d2 d3 d4 d5 d6 d7
          go_wp2
          go_roundw
          case rel => exact ⟨k + 1, _, ms ++ [(r.ep, r.lsn)], by omega, by go_num, rfl, by rw [HMS.out, HADD.out]; exact rfl, ht5, hR1, hR2⟩
          case measure => simp [intOf]; omega
    · have hkl : ls.take k = ls := List.take_of_length_le (by omega)
      have HMM : Hid (ms = mks ls) := by show _ = _; rw [HM.out, hkl]
      obtain ⟨a, c, rfl, _, _⟩ := ht.slice
      have hmk := Has.mks rfl ht
      clear hkl
      go_wp2
      go_ret
      exact ⟨a, c, by rw [← HMM.out]; rfl, by rw [← HMM.out]; exact hmk, F⟩
end Go.Proofs.YtihkdffihmhnaaaGreat.Rf

/- A beginning of a log. -/
namespace Go.Proofs.YtihkdffihmhnaaaGreat.Rf
open Go.RowKit Crcm

theorem Lg.flush {w : World} {lb : Nat} {rv : Value} {ls : List Rec} {fl : Int} (h : Lg w lb rv ls fl) (x : Int) : Lg (w.setCell ⟨lb, 1, none⟩ (.int .i64 x)) lb rv ls x ∧ Fr (fun k => k = lb) w (w.setCell ⟨lb, 1, none⟩ (.int .i64 x)) := by
  have fs : Fr (fun k => k = lb) w (w.setCell ⟨lb, 1, none⟩ (.int .i64 x)) := (Fr.refl (fun k => k = lb) w).setCell (p := ⟨lb, 1, none⟩) (fun _ => rfl) _
  exact ⟨⟨two_setCell1 h.box, h.has.fr fs (fun g e e2 => by have := h.own g e; omega), h.own⟩, fs⟩

theorem zr_agg : Value.agg #[.int .i64 zr.lsn, .int .i64 zr.ep, .int .i64 zr.kind, .int .i64 zr.page, .int .i64 zr.other, .int .i64 zr.req, .string zr.key, .string zr.val] = .agg #[.int .i64 0, .int .i64 0, .int .i64 0, .int .i64 0, .int .i64 0, .int .i64 0, .string ⟨#[]⟩, .string ⟨#[]⟩] := rfl
theorem wl_take {ls : List Rec} (h : Wl ls) (k : Nat) : Wl (ls.take k) := by
  have key : ∀ (i : Nat) (r : Rec), (ls.take k)[i]? = some r → ls[i]? = some r := fun i r hr => by
    rw [List.getElem?_take] at hr
    split at hr
    · exact hr
    · simp at hr
  exact ⟨by rw [List.length_take]; have := h.big; omega, fun i r hr => h.each i r (key i r hr), fun i r s hr hs => h.up i r s (key i r hr) (key _ s hs)⟩
theorem wl_next {ls : List Rec} (h : Wl ls) (k : Nat) (r : Rec) (hr : ls[k]? = some r) : rok r = true ∧ r.lsn = ((ls.take k).length : Int) + 1 ∧ refus (ls.take k) r.ep = 0 := by
  have hk : k < ls.length := (List.getElem?_eq_some_iff.1 hr).1
  have hl : (ls.take k).length = k := by rw [List.length_take]; omega
  have h1 := h.each k r hr
  refine ⟨h1.1, by rw [h1.2, hl], ?_⟩
  unfold refus
  have hb := h.big
  have hle : ¬ r.ep < lastE (ls.take k) := by
    by_cases h0 : k = 0
    · subst h0
      have : lastE (ls.take 0) = 0 := rfl
      rw [this]
      have := (rok_rg h1.1).ep0
      omega
    · obtain ⟨s, hs⟩ : ∃ s, ls[k - 1]? = some s := ⟨_, List.getElem?_eq_getElem (by omega)⟩
      have h2 : (ls.take k)[(ls.take k).length - 1]? = some s := by rw [hl, List.getElem?_take, if_pos (by omega)]; exact hs
      rw [lastE_at h2]
      have := h.up (k - 1) s r hs (by rw [show k - 1 + 1 = k by omega]; exact hr)
      omega
  rw [if_neg hle, if_neg (by omega)]
end Go.Proofs.YtihkdffihmhnaaaGreat.Rf

/- What (*Log).From makes; (*Log).Flushed. -/
namespace Go.Proofs.YtihkdffihmhnaaaGreat.Rf
open Go.RowKit Crcm

set_option maxRecDepth 100000 in
set_option maxHeartbeats 400000 in
theorem reaches_lg (n : Int) (lb : Nat) (rv : Value) (ls : List Rec) (fl : Int) (w : World) (h : Lg w lb rv ls fl) (hm : ls.length ≤ 65536) : Calls Tryz.prog 76 #[.pointer (some ⟨lb, 0, none⟩), .int .i64 n] w fun e w' => e = .returned (.bool (decide (0 ≤ n ∧ n ≤ ls.length))) ∧ w' = w := by
  have hnx := next_lg lb rv ls fl w h hm
  by_cases h0 : 0 ≤ n
  · go_enter Tryz.func76, Tryz.ntmps76
    go_wp2_with (go_at_call 73; refine hnx.mono ?_; rintro e w' ⟨rfl, rfl⟩)
    all_goals go_ret
    all_goals refine ⟨ret_bool ?_, rfl⟩
    all_goals (rw [Bool.eq_iff_iff]; simp; try omega)
  · have hf : decide (0 ≤ n ∧ n ≤ ls.length) = false := decide_eq_false (fun h => h0 h.1)
    rw [hf]
    go_enter Tryz.func76, Tryz.ntmps76
    go_wp2_with (go_at_call 73; refine hnx.mono ?_; rintro e w' ⟨rfl, rfl⟩)
    go_ret
    exact ⟨rfl, rfl⟩

/-- An empty slice that is new. -/
def Nwr (w : World) (a : Option Addr) (R : List Rec) : Prop := ∀ b o, a = some ⟨b, o, none⟩ → R ≠ [] → w.heap.size ≤ b
theorem has_emptyR (w : World) : Has (w.alloc (.cells #[] 54)) 8 (.slice (some ⟨w.heap.size, 0, none⟩) 0 0) 0 [] :=
  ⟨by simp, .inr ⟨w.heap.size, 0, rfl, by simp, Nat.le_refl _, by unfold maxLen; omega, (fun j hj => by simp at hj), (fun j v hv => by simp at hv)⟩⟩
set_option maxRecDepth 100000 in
set_option maxHeartbeats 1000000 in
theorem clone_any (x : Addr) (m c : Nat) (R : List Rec) (hm : m = R.length) (hs : m ≤ 65536) (w : World) (hx : From w (some x) (R.flatMap recC)) :
    Calls Tryz.prog 79 #[.slice (some x) m c] w fun e w' => ∃ a c', e = .returned (.slice a m c') ∧ Recs w' a c' R ∧ Nwr w a R ∧ Fr (fun _ => False) w w' := by
  obtain ⟨iR, hiR, hR0, hR1, hR2⟩ := info_parts infoRec
  have hn := fun W => Lib.run_eql_slice_nil (P := Tryz.prog) W 45 54 (some x) m c 0 0 Tryz.underlying45
  have fb := Fr.box w (.cells #[] 54)
  have hnews : From (w.alloc (.cells #[] 54)) (some x) (R.flatMap recC) := by
    rcases hx with h | ⟨b, off, e, h⟩
    · exact .inl h
    · exact .inr ⟨b, off, e, range_fr h fb (fun f => f)⟩
  have hlen : (R.flatMap recC).length = m * 8 := by rw [flat_length recC_length, hm]
  have hone : ∀ u ∈ R.flatMap recC, u.oneCell' = true := fun u hu => by
    obtain ⟨r, _, h⟩ := List.mem_flatMap.1 hu
    exact recC_one r u h
  have HM : Hid (m = R.length) := hm
  clear hm
  go_enter Tryz.func79, Tryz.ntmps79
  go_wp2_with (at_builtin; refine wpList_append_has _ rfl (.tmp 5) (.tmp 6) 45 45 54 54 rfl iR _ 8 80 Tryz.underlying45 Tryz.underlying45 hiR hR0 hR1 hR2 rfl (by omega) (.slice (some ⟨w.heap.size, 0, none⟩) 0 0) 0 [] rfl (has_emptyR w) (some x) m c (R.flatMap recC) rfl hlen hnews hone (by unfold maxLen; omega) (by omega) ?_; intro a' c' w1 hown hfr hat)
  rw [Nat.zero_add, List.nil_append] at hown
  have hrec := Has.recs HM.out hown
  have F := fb.trans hfr (S := fun _ => False) (fun i hi e => by have := e.1; simp [Value.ownBlock] at this; omega)
  go_ret
  exact ⟨a', c', rfl, hrec, (fun b o e _ => by subst e; rcases hat with h | h <;> simp [Value.ownBlock] at h <;> omega), F⟩
/-- What From tells. -/
def frF (ls : List Rec) (n most : Int) : List Rec := if most < 1 then [] else (ls.drop (max n 1 - 1).toNat).take most.toNat
theorem recs_nil (w : World) (a : Option Addr) (c : Nat) (hc : c ≤ 9223372036854775807) : Recs w a c [] := ⟨by simp, hc, .inl rfl⟩

/-- A walk's part behind the number of those ahead. -/
theorem src_part {w : World} {g cr : Nat} {ls : List Rec} (h : Has w 8 (.slice (some ⟨g, 0, none⟩) ls.length cr) ls.length (ls.flatMap recC)) (ah m : Nat) : From w (some ⟨g, ah * 8, none⟩) (((ls.drop ah).take m).flatMap recC) := by
  refine .inr ⟨g, ah * 8, rfl, ?_⟩
  have hl : w.rangeAt g (ah * 8) ((ls.drop ah).flatMap recC) := by
    rw [← flat_drop recC_length]
    rcases h.2 with ⟨h2, _⟩ | ⟨g', cap', hv, hg, h1, h2, h3, h4⟩
    · cases h2
    · simp only [Value.slice.injEq, Option.some.injEq, Addr.mk.injEq, and_true, true_and] at hv
      obtain ⟨rfl, rfl⟩ := hv
      have := range_part (ys := (ls.flatMap recC).drop (ah * 8)) (ah * 8) h4 (fun j v hv => by rwa [List.getElem?_drop] at hv)
      rwa [Nat.zero_add] at this
  rw [← flat_take recC_length]
  intro j v hv
  rw [List.getElem?_take] at hv
  split at hv
  · exact hl j v hv
  · simp at hv
theorem clone_row (a : Option Addr) (m c : Nat) (w : World) (hm : m = 0) : Calls Tryz.prog 79 #[.slice a m c] w fun e w' => ∃ a' c', e = .returned (.slice a' 0 c') ∧ Recs w' a' c' [] ∧ Nwr w a' [] ∧ Fr (fun _ => False) w w' := by
  subst hm
  cases a with
  | none =>
    have hn := fun W => Lib.run_eql_slice_nil (P := Tryz.prog) W 45 54 none 0 c 0 0 Tryz.underlying45
    go_enter Tryz.func79, Tryz.ntmps79
    go_wp2
    go_ret
    exact ⟨none, 0, rfl, recs_nil _ _ _ (by omega), (fun _ _ _ h => absurd rfl h), Fr.refl _ _⟩
  | some x => exact clone_any x 0 c [] rfl (by omega) w (.inl rfl)

set_option maxRecDepth 100000 in
set_option maxHeartbeats 400000 in
theorem from_lg (n most : Int) (hb : -9223372036854775808 ≤ n ∧ n ≤ 9223372036854775807) (lb : Nat) (rv : Value) (ls : List Rec) (fl : Int) (w : World) (h : Lg w lb rv ls fl) (hm : ls.length ≤ 65536) :
    Calls Tryz.prog 35 #[.pointer (some ⟨lb, 0, none⟩), .int .i64 n, .int .i64 most] w fun e w' => ∃ a c, e = .returned (.slice a (frF ls n most).length c) ∧ Recs w' a c (frF ls n most) ∧ Nwr w a (frF ls n most) ∧ Fr (fun _ => False) w w' := by
  obtain ⟨ah, hah⟩ : ∃ ah : Nat, (ah : Int) = max n 1 - 1 := ⟨(max n 1 - 1).toNat, by omega⟩
  have HAH : Hid ((ah : Int) = max n 1 - 1) := hah
  have hdef : frF ls n most = if most < 1 then [] else (ls.drop ah).take most.toNat := by unfold frF; rw [← hah, Int.toNat_natCast]
  have HDEF : Hid (frF ls n most = if most < 1 then [] else (ls.drop ah).take most.toNat) := hdef
  have hre := reaches_lg (ah : Int) lb rv ls fl w h hm
  have hal := all_lg lb rv ls fl w h
  have HB : Hid (-9223372036854775808 ≤ n ∧ n ≤ 9223372036854775807) := hb
  have HH : Hid (Has w 8 rv ls.length (ls.flatMap recC)) := h.has
  obtain ⟨ar, cr, rfl, hlc, hcm⟩ := h.has.slice
  have hcm' : cr ≤ 9223372036854775807 := by unfold maxLen at hcm; exact hcm
  clear hdef hah hb h hcm
  go_enter Tryz.func35, Tryz.ntmps35
  go_upto_region 1 with fail
  go_cut [7] (fun t wc => t = .int .i64 (ah : Nat) ∧ w = wc)
  case first =>
    by_cases h1 : n ≤ 1
    · have e1 : max n 1 = 1 := by omega
      go_wp2
      all_goals go_meet
      all_goals exact ⟨val_int (by have := HAH.out; omega), rfl⟩
    · have e1 : max n 1 = n := by omega
      have e2 : IntKind.i64.wrap (n - 1) = n - 1 := by have := HB.out; simp [IntKind.wrap, IntKind.bits, IntKind.signed]; omega
      go_wp2
      all_goals go_meet
      all_goals exact ⟨val_int (by have := HAH.out; omega), rfl⟩
  case rest =>
  obtain ⟨rfl, rfl⟩ := hcut
  clear HAH HB
  by_cases h1 : most < 1
  · have HZ : Hid (frF ls n most = []) := by show _ = _; rw [HDEF.out, if_pos h1]
    go_wp2
    go_ret
    rw [HZ.out]
    exact ⟨none, 0, rfl, recs_nil _ _ _ (by omega), (fun _ _ _ h => absurd rfl h), Fr.refl _ _⟩
  · by_cases h2 : ah ≤ ls.length
    · have hd : decide ((0 : Int) ≤ (ah : Int) ∧ (ah : Int) ≤ (ls.length : Int)) = true := decide_eq_true (by omega)
      rw [hd] at hre
      have i1 : (ah : Int) ≤ (ls.length : Int) := by omega
      have i2 : (ls.length : Int) ≤ (cr : Int) := by omega
      have i3 : (ah : Int) ≤ (cr : Int) := by omega
      by_cases hne : cr = ah
      · have e0 : ls.length - ah = 0 := by omega
        have e9 : cr - ah = 0 := by omega
        have HZ : Hid (frF ls n most = []) := by show _ = _; rw [HDEF.out, if_neg h1, List.drop_eq_nil_of_le (by omega), List.take_nil]
        have j2 : min most (0 : Int) = 0 := by omega
        have hcl := clone_row ar 0 0 w rfl
        clear HDEF
        go_wp2_with (first | (go_at_call 76; refine hre.mono ?_; rintro e w' ⟨rfl, rfl⟩) | (go_at_call 78; refine hal.mono ?_; rintro e w' ⟨rfl, rfl⟩))
        refine hcl.mono ?_
        clear hcl
        rintro e w2 ⟨a2, c2, rfl, hr2, n2, f2⟩
        clear e0 e9 j2
        go_wp2
        go_ret
        rw [HZ.out]
        exact ⟨a2, c2, rfl, hr2, n2, f2⟩
      · obtain ⟨g, rfl⟩ : ∃ g, ar = some ⟨g, 0, none⟩ := by
          rcases HH.out.2 with ⟨hv, h0⟩ | ⟨g, cap, hv, _⟩
          · simp only [Value.slice.injEq] at hv; omega
          · simp only [Value.slice.injEq, true_and] at hv; exact ⟨g, hv.1⟩
        by_cases h4 : most ≤ ((ls.length - ah : Nat) : Int)
        · obtain ⟨m, rfl⟩ := Int.eq_ofNat_of_zero_le (a := most) (by omega)
          have hR : frF ls n (m : Int) = (ls.drop ah).take m := by rw [HDEF.out, if_neg h1]; rfl
          have hml : m = ((ls.drop ah).take m).length := by rw [List.length_take, List.length_drop]; omega
          have hcl := fun c => clone_any ⟨g, ah * 8, none⟩ m c _ hml (by omega) w (src_part HH.out ah m)
          have HR : Hid (frF ls n (m : Int) = (ls.drop ah).take m) := hR
          have HML : Hid (m = ((ls.drop ah).take m).length) := hml
          have j2 : min (m : Int) ((ls.length - ah : Nat) : Int) = (m : Int) := by omega
          have j4 : (m : Int) ≤ ((cr - ah : Nat) : Int) := by omega
          clear hR hml HDEF
          go_wp2_with (first | (go_at_call 76; refine hre.mono ?_; rintro e w' ⟨rfl, rfl⟩) | (go_at_call 78; refine hal.mono ?_; rintro e w' ⟨rfl, rfl⟩))
          refine (hcl _).mono ?_
          rintro e w2 ⟨a2, c2, rfl, hr2, n2, f2⟩
          go_wp2
          go_ret
          rw [HR.out]
          exact ⟨a2, c2, by rw [← HML.out]; rfl, hr2, n2, f2⟩
        · have hR : frF ls n most = (ls.drop ah).take (ls.length - ah) := by
            rw [HDEF.out, if_neg h1, List.take_of_length_le (by rw [List.length_drop]; omega), List.take_of_length_le (by rw [List.length_drop]; omega)]
          have hml : ls.length - ah = ((ls.drop ah).take (ls.length - ah)).length := by rw [List.length_take, List.length_drop]; omega
          have HR : Hid (frF ls n most = (ls.drop ah).take (ls.length - ah)) := hR
          have HML : Hid (ls.length - ah = ((ls.drop ah).take (ls.length - ah)).length) := hml
          have HCL : Hid (∀ c, Calls Tryz.prog 79 #[.slice (some ⟨g, ah * 8, none⟩) (ls.length - ah) c] w fun e w' => ∃ a c', e = .returned (.slice a (ls.length - ah) c') ∧ Recs w' a c' ((ls.drop ah).take (ls.length - ah)) ∧ Nwr w a ((ls.drop ah).take (ls.length - ah)) ∧ Fr (fun _ => False) w w') := fun c => clone_any ⟨g, ah * 8, none⟩ (ls.length - ah) c _ hml (by omega) w (src_part HH.out ah (ls.length - ah))
          have j2 : min most ((ls.length - ah : Nat) : Int) = ((ls.length - ah : Nat) : Int) := by omega
          have j4 : ((ls.length - ah : Nat) : Int) ≤ ((cr - ah : Nat) : Int) := by omega
          clear hR hml HDEF
          go_wp2_with (first | (go_at_call 76; refine hre.mono ?_; rintro e w' ⟨rfl, rfl⟩) | (go_at_call 78; refine hal.mono ?_; rintro e w' ⟨rfl, rfl⟩))
          refine (HCL.out _).mono ?_
          rintro e w2 ⟨a2, c2, rfl, hr2, n2, f2⟩
          go_wp2
          go_ret
          rw [HR.out]
          exact ⟨a2, c2, by rw [← HML.out]; rfl, hr2, n2, f2⟩
    · have hd : decide ((0 : Int) ≤ (ah : Int) ∧ (ah : Int) ≤ (ls.length : Int)) = false := decide_eq_false (by omega)
      rw [hd] at hre
      have HZ : Hid (frF ls n most = []) := by show _ = _; rw [HDEF.out, if_neg h1, List.drop_eq_nil_of_le (by omega), List.take_nil]
      go_wp2_with (first | (go_at_call 76; refine hre.mono ?_; rintro e w' ⟨rfl, rfl⟩) | (go_at_call 78; refine hal.mono ?_; rintro e w' ⟨rfl, rfl⟩))
      go_ret
      rw [HZ.out]
      exact ⟨none, 0, rfl, recs_nil _ _ _ (by omega), (fun _ _ _ h => absurd rfl h), Fr.refl _ _⟩
end Go.Proofs.YtihkdffihmhnaaaGreat.Rf

/- A log is cut: slices.Delete of all behind a place, at records. -/
namespace Go.Proofs.YtihkdffihmhnaaaGreat.Rf
open Go.RowKit Crcm

theorem zero_cells (n : Nat) : ∃ Z : List Value, (Builtin.zeroCells #[.int .i64 0, .int .i64 0, .int .i64 0, .int .i64 0, .int .i64 0, .int .i64 0, .string ⟨#[]⟩, .string ⟨#[]⟩] n).toList = Z ∧ Z.length = n * 8 ∧ ∀ v ∈ Z, v.oneCell' = true := by
  refine ⟨_, rfl, by simp [Builtin.zeroCells], fun v hv => ?_⟩
  simp only [Builtin.zeroCells, Array.toList_map, List.mem_map] at hv
  obtain ⟨i, _, rfl⟩ := hv
  have : ∀ k : Fin 8, ((#[.int .i64 0, .int .i64 0, .int .i64 0, .int .i64 0, .int .i64 0, .int .i64 0, .string ⟨#[]⟩, .string ⟨#[]⟩] : Array Value)[k.val]!).oneCell' = true := by decide
  exact this ⟨i % 8, Nat.mod_lt _ (by omega)⟩

theorem clear_recs (w : World) (ty : TypeId) (b o n c : Nat) (hn : 0 < n) (Z : List Value) (hZ : (Builtin.zeroCells #[.int .i64 0, .int .i64 0, .int .i64 0, .int .i64 0, .int .i64 0, .int .i64 0, .string ⟨#[]⟩, .string ⟨#[]⟩] n).toList = Z) (h1 : ∀ v ∈ Z, v.oneCell' = true)
    (hc : ∀ j, j < Z.length → (w.cell? ⟨b, o + j, none⟩).isSome = true) (hf : ∀ j, j < Z.length → w.frozen? ⟨b, o + j, none⟩ = false) :
    (Builtin.clear_ #[45] ty #[.slice (some ⟨b, o, none⟩) n c]).run Tryz.prog w = .ok (.tuple #[]) (w.setCells b o Z) := by
  have hst := run_storeCells_cells (P := Tryz.prog) b o Z 0 w (by simpa using hc) (by simpa using hf) h1
  simp only [Nat.add_zero] at hst
  obtain ⟨m, rfl⟩ : ∃ m, n = m + 1 := ⟨n - 1, by omega⟩
  have hv := fun w => Tryz.zeroValue54 (w := w)
  simp [Builtin.clear_, run_underlying Tryz.underlying45, Value.cells, hv, hZ, hst]

theorem _root_.Go.Proofs.YtihkdffihmhnaaaGreat.Has.shrink {w : World} {size g n cap i : Nat} {xs : List Value} (h : Has w size (.slice (some ⟨g, 0, none⟩) n cap) n xs) (hi : i ≤ n) : Has w size (.slice (some ⟨g, 0, none⟩) i cap) i (xs.take (i * size)) := by
  refine ⟨?_, ?_⟩
  · rw [List.length_take, h.1]
    exact Nat.min_eq_left (Nat.mul_le_mul_right _ hi)
  · rcases h.2 with ⟨h2, _⟩ | ⟨g', cap', hv, hg, h1, h2, h3, h4⟩
    · cases h2
    · simp only [Value.slice.injEq, Option.some.injEq, Addr.mk.injEq, and_true, true_and] at hv
      obtain ⟨rfl, rfl⟩ := hv
      refine .inr ⟨g, cap, rfl, hg, by omega, h2, h3, fun j v hv => ?_⟩
      refine h4 j v ?_
      rw [List.getElem?_take] at hv
      split at hv
      · exact hv
      · cases hv

set_option maxRecDepth 100000 in
set_option maxHeartbeats 1000000 in
theorem delete_recs (g cap i m : Nat) (ls : List Rec) (hm : m = ls.length) (hi : i ≤ m) (hs : m ≤ 65536) (w : World) (h : Has w 8 (.slice (some ⟨g, 0, none⟩) m cap) m (ls.flatMap recC)) :
    Calls Tryz.prog 77 #[.slice (some ⟨g, 0, none⟩) m cap, .int .i64 i, .int .i64 m] w fun e w' => e = .returned (.slice (some ⟨g, 0, none⟩) i cap) ∧ Has w' 8 (.slice (some ⟨g, 0, none⟩) i cap) i ((ls.take i).flatMap recC) ∧ Fr (fun k => k = g) w w' := by
  obtain ⟨iR, hiR, hR0, hR1, hR2⟩ := info_parts infoRec
  obtain ⟨hmc, hcx, hth⟩ : m ≤ cap ∧ cap ≤ maxLen ∧ w.there g 0 (cap * 8) := by
    rcases h.2 with ⟨h2, _⟩ | ⟨g', cap', hv, hg, h1, h2, h3, h4⟩
    · cases h2
    · simp only [Value.slice.injEq, Option.some.injEq, Addr.mk.injEq, and_true, true_and] at hv
      obtain ⟨rfl, rfl⟩ := hv
      exact ⟨h1, h2, h3⟩
  have hcm : cap ≤ 9223372036854775807 := by unfold maxLen at hcx; omega
  by_cases heq : i = m
  · have HT : Hid (ls.take i = ls) := by show _ = _; rw [List.take_of_length_le (by omega)]
    subst heq
    have H : Hid (Has w 8 (.slice (some ⟨g, 0, none⟩) i cap) i (ls.flatMap recC)) := h
    clear h hth hm
    go_enter Tryz.func77, Tryz.ntmps77
    go_wp2
    all_goals (go_ret; exact ⟨rfl, by rw [HT.out]; exact H.out, Fr.refl _ _⟩)
  · have hlt : i < m := by omega
    obtain ⟨Z, hZ, hZl, hZ1⟩ := zero_cells (m - i)
    have hcl : ∀ ty, (Builtin.clear_ #[45] ty #[.slice (some ⟨g, i * 8, none⟩) (m - i) (cap - i)]).run Tryz.prog w.drew = .ok (.tuple #[]) (w.drew.setCells g (i * 8) Z) := fun ty =>
      clear_recs w.drew ty g (i * 8) (m - i) (cap - i) (by omega) Z hZ hZ1 (fun j hj => by have := (hth (i * 8 + j) (by rw [hZl] at hj; omega)).1; rw [Nat.zero_add] at this; exact this) (fun j hj => by have := (hth (i * 8 + j) (by rw [hZl] at hj; omega)).2; rw [Nat.zero_add] at this; exact this)
    have HD : Has w.drew 8 (.slice (some ⟨g, 0, none⟩) m cap) m (ls.flatMap recC) := h.fr (Fr.drew (S := fun _ => False) (Fr.refl _ _)) (fun _ _ f => f)
    have hfl : (ls.flatMap recC).length = m * 8 := by rw [flat_length recC_length, hm]
    have HS := (HD.set (i * 8) Z (by rw [hfl, hZl]; omega)).shrink hi
    have htk : (List.take (i * 8) (ls.flatMap recC) ++ Z ++ List.drop (i * 8 + Z.length) (ls.flatMap recC)).take (i * 8) = (ls.take i).flatMap recC := by
      rw [List.append_assoc, List.take_append_of_le_length (by rw [List.length_take, hfl]; omega), List.take_take, Nat.min_self, flat_take recC_length]
    rw [htk] at HS
    have Fset : Fr (fun k => k = g) w (w.drew.setCells g (i * 8) Z) := Fr.setCells (S := fun k => k = g) (a := w) (b := g) (fun _ => rfl) Z (i * 8) (Fr.drew (Fr.refl _ _))
    have HSH : Hid (Has (w.drew.setCells g (i * 8) Z) 8 (.slice (some ⟨g, 0, none⟩) i cap) i ((ls.take i).flatMap recC)) := HS
    have FSH : Hid (Fr (fun k => k = g) w (w.drew.setCells g (i * 8) Z)) := Fset
    obtain ⟨W2, hW2⟩ : ∃ W, W = w.drew.setCells g (i * 8) Z := ⟨_, rfl⟩
    rw [← hW2] at hcl HSH FSH
    obtain ⟨A, hA⟩ : ∃ A : Addr, (if cap = m then some (⟨g, 0, none⟩ : Addr) else some ⟨g, m * 8, none⟩) = some A := by
      by_cases h : cap = m
      · exact ⟨_, by rw [if_pos h]⟩
      · exact ⟨_, by rw [if_neg h]⟩
    have hic : i ≤ cap := by omega
    have hse : w.drew.setCells g (0 + i * 8) [] = w.drew := rfl
    have HSE : Hid (w.drew.setCells g (0 + i * 8) [] = w.drew) := hse
    have mixed : Tryz.prog.follows Departure.mixedOrders = true := by kernel_rfl
    clear hW2 HS Fset htk hfl HD h hth hZ hZ1 hZl hm hse
    go_enter Tryz.func77, Tryz.ntmps77
    go_wp2_with fail
    go_region_law_o (refine step_append_room rfl (.tmp 22) (.tmp 25) 45 rfl 54 iR 8 Tryz.underlying45 hiR hR1 g 0 i cap (by simp [Act.eval, Act.put]) A 0 (cap - m) [] (by simp [Act.eval, Act.put]) rfl (by simp) (by simp) (by omega) (by simp) ?_; rw [HSE.out])
    go_wp2
    go_ret
    exact ⟨rfl, HSH.out, FSH.out⟩

theorem delete_none (w : World) : Calls Tryz.prog 77 #[.slice none 0 0, .int .i64 0, .int .i64 0] w fun e w' => e = .returned (.slice none 0 0) ∧ w' = w := by
  go_enter Tryz.func77, Tryz.ntmps77
  go_wp2
  go_ret
  exact ⟨rfl, rfl⟩
theorem delete_any (rv : Value) (i m : Nat) (ls : List Rec) (hm : m = ls.length) (hi : i ≤ m) (hs : m ≤ 65536) (w : World) (h : Has w 8 rv m (ls.flatMap recC)) :
    Calls Tryz.prog 77 #[rv, .int .i64 i, .int .i64 m] w fun e w' => ∃ rv', e = .returned rv' ∧ Has w' 8 rv' i ((ls.take i).flatMap recC) ∧ rv'.ownBlock = rv.ownBlock ∧ Fr (fun k => rv.ownBlock = some k ∧ 0 < 1) w w' := by
  rcases h.2 with ⟨h2, h3⟩ | ⟨g', cap', hv, _⟩
  · subst h2
    have h0 : ls = [] := List.eq_nil_of_length_eq_zero (by omega)
    have hi0 : i = 0 := by omega
    subst h0
    subst hi0
    subst h3
    refine (delete_none w).mono ?_
    rintro e w' ⟨rfl, rfl⟩
    exact ⟨_, rfl, by simpa using Has.nil _ _, rfl, Fr.refl _ _⟩
  · subst hv
    refine (delete_recs g' cap' i m ls hm hi hs w h).mono ?_
    rintro e w' ⟨rfl, h1, f1⟩
    exact ⟨_, rfl, h1, rfl, f1.mono (fun k _ e => ⟨by simp [Value.ownBlock, e], by omega⟩)⟩

set_option maxRecDepth 100000 in
set_option maxHeartbeats 1000000 in
theorem cut_no (n : Int) (lb : Nat) (rv : Value) (ls : List Rec) (fl : Int) (w : World) (h : Lg w lb rv ls fl) (hm : ls.length ≤ 65536) (hn : ¬ (0 ≤ n ∧ n ≤ ls.length)) :
    Calls Tryz.prog 33 #[.pointer (some ⟨lb, 0, none⟩), .int .i64 n] w fun e w' => e = .returned (.int .i64 1) ∧ w' = w := by
  have hrc := reaches_lg n lb rv ls fl w h hm
  rw [decide_eq_false hn] at hrc
  clear hn
  go_enter Tryz.func33, Tryz.ntmps33
  go_wp2_with (go_at_call 76; refine hrc.mono ?_; rintro e w' ⟨rfl, rfl⟩)
  go_ret
  exact ⟨rfl, rfl⟩

set_option maxRecDepth 100000 in
set_option maxHeartbeats 2000000 in
theorem cut_yes (n : Nat) (lb : Nat) (rv : Value) (ls : List Rec) (w : World) (h : Lg w lb rv ls 0) (hm : ls.length ≤ 65536) (hn : n ≤ ls.length) :
    Calls Tryz.prog 33 #[.pointer (some ⟨lb, 0, none⟩), .int .i64 (n : Int)] w fun e w' => e = .returned (.int .i64 0) ∧
      ∃ rv', Lg w' lb rv' (ls.take n) 0 ∧ Fr (lgS lb rv) w w' ∧ (rv'.ownBlock = rv.ownBlock ∨ ∃ g, rv'.ownBlock = some g ∧ w.heap.size ≤ g) := by
  have hrc := reaches_lg n lb rv ls 0 w h hm
  rw [decide_eq_true (by omega)] at hrc
  obtain ⟨a, c, rfl, _, _⟩ := h.has.slice
  have FD : Fr (fun _ => False) w w.drew := Fr.drew (Fr.refl _ _)
  obtain ⟨k0, k1, z0, z1⟩ := cell_of_two (h.same FD).box
  have hde := delete_any _ n ls.length ls rfl hn hm w.drew (h.has.fr FD (fun _ _ f => f))
  have HTL : Hid ((ls.take n).length = n) := by show _ = _; rw [List.length_take]; omega
  have HHB : Hid (∀ w5 rv' , Has w5 8 rv' n ((ls.take n).flatMap recC) → rv'.ownBlock = (Value.slice a ls.length c).ownBlock → Fr (fun k => (Value.slice a ls.length c).ownBlock = some k ∧ 0 < 1) w.drew w5 → w5.heap[lb]? = some (.cells #[.slice a ls.length c, .int .i64 0] 131 (0, 0)) ∧ Lg (w5.setCell ⟨lb, 0, none⟩ rv') lb rv' (ls.take n) 0 ∧ Fr (lgS lb (.slice a ls.length c)) w (w5.setCell ⟨lb, 0, none⟩ rv')) := fun w5 rv' hh ho f => by
    have hb := (h.same FD).box
    have hp := h.push FD f (ls' := ls.take n) (by rw [HTL.out]; exact hh) (.inl ho)
    exact ⟨by rw [f.block lb (lt_of_block hb) (fun e => by have := h.own lb e.1; omega)]; exact hb, hp.1, hp.2.1⟩
  have h00 : ¬ ((n : Int) < 0) := by omega
  clear hm hn h
  go_enter Tryz.func33, Tryz.ntmps33
  go_wp2_with (go_at_call 76; refine hrc.mono ?_; rintro e w' ⟨rfl, rfl⟩)
  clear hrc
  go_region_law
    ((refine step_of (by rfl) ?_; go_simp; go_at_call 77; refine hde.mono ?_; rintro e w5 ⟨rv', rfl, hown, hob, hfr⟩; obtain ⟨a', c', rfl, _, _⟩ := hown.slice; obtain ⟨hb5, hlg, hff⟩ := HHB.out _ _ hown hob hfr; obtain ⟨k5, k6, z5, z6⟩ := cell_of_two hb5))
  all_goals
    obtain ⟨W6, hW6⟩ : ∃ W, W = w5.setCell ⟨lb, 0, none⟩ (.slice a' n c') := ⟨_, rfl⟩
    rw [← hW6] at hlg hff ⊢
    clear hb5 k5 k6 z5 z6 hW6 hown hfr
    obtain ⟨j0, j1, y0, y1⟩ := cell_of_two hlg.box
    obtain ⟨l7, f7⟩ := hlg.flush 0
    clear hlg
    go_wp2
    go_ret
    exact ⟨rfl, _, l7, hff.trans f7 (fun i _ e => .inl e), .inl hob⟩
end Go.Proofs.YtihkdffihmhnaaaGreat.Rf


/- Two logs that begin alike: their timelines, and where they part. -/
namespace Go.Proofs.YtihkdffihmhnaaaGreat.Rf
open Go.RowKit
open Go.Proofs.YtihkdffihmhnaaaGreat.Ln (Mk Right Up epF epF_snoc linB linB_iff forkF shN ahF hdF ah_app groF gro_right)

theorem mkS_last (ms : List (Int × Int)) (r : Rec) : ((mkS ms r).getLast?.getD (0, 0)).1 = r.ep := by
  unfold mkS
  split
  · simp
  · rename_i h
    simp only [not_or, Decidable.not_not] at h
    exact h.2.symm
theorem lastE_snoc (l : List Rec) (r : Rec) : lastE (l ++ [r]) = r.ep := by unfold lastE; simp
theorem mks_last {ls : List Rec} (h : ls ≠ []) : ((mks ls).getLast?.getD (0, 0)).1 = lastE ls := by
  rcases List.eq_nil_or_concat ls with h0 | ⟨l, r, rfl⟩
  · exact absurd h0 h
  · rw [List.concat_eq_append, mks_snoc, mkS_last, lastE_snoc]
theorem wl_pre {l : List Rec} {r : Rec} (h : Wl (l ++ [r])) : Wl l ∧ rok r = true ∧ r.lsn = (l.length : Int) + 1 ∧ lastE l ≤ r.ep := by
  have hr := h.each l.length r (by simp)
  refine ⟨⟨by have := h.big; simp at this; omega, fun i x hx => h.each i x (by rw [List.getElem?_append_left (List.getElem?_eq_some_iff.1 hx).1]; exact hx), fun i x y hx hy => h.up i x y (by rw [List.getElem?_append_left (List.getElem?_eq_some_iff.1 hx).1]; exact hx) (by rw [List.getElem?_append_left (List.getElem?_eq_some_iff.1 hy).1]; exact hy)⟩, hr.1, hr.2, ?_⟩
  rcases List.eq_nil_or_concat l with h0 | ⟨k, s, rfl⟩
  · rw [h0]; exact (rok_rg hr.1).ep0
  · rw [List.concat_eq_append] at h ⊢
    rw [lastE_snoc]
    exact h.up k.length s r (by simp) (by simp)
theorem epF_all {ms : List Mk} {last : Int} (h : ∀ m ∈ ms, m.2 ≤ last) : epF ms last = (ms.getLast?.getD (0, 0)).1 := by
  unfold epF
  rw [List.filter_eq_self.2 (fun m hm => by simpa using h m hm)]
  cases ms.getLast? <;> rfl
theorem wl_right : ∀ (n : Nat) (ls : List Rec), ls.length = n → Wl ls → Right (mks ls) ls.length := by
  intro n
  induction n with
  | zero =>
    intro ls hl _
    have : ls = [] := List.eq_nil_of_length_eq_zero hl
    subst this
    exact ⟨by simp, by simp, by simp [mks], List.Pairwise.nil, (fun m l h => by cases h), (fun m h => by cases h)⟩
  | succ n ih =>
    intro ls hl hw
    rcases List.eq_nil_or_concat ls with h0 | ⟨l, r, rfl⟩
    · rw [h0] at hl; cases hl
    · rw [List.concat_eq_append] at hl hw ⊢
      obtain ⟨h1, h2, h3, h4⟩ := wl_pre hw
      have hl' : l.length = n := by simp at hl; exact hl
      have hR := ih l hl' h1
      have hrg := rok_rg h2
      have hg := gro_right (ep := r.ep) (n := 1) hR (by omega) (by have := h1.big; omega) hrg.ep0 hrg.ep1
      have hep : l ≠ [] → epF (mks l) l.length = lastE l := fun hne => by
        rw [epF_all (fun m hm => (hR.each m hm).2.1), mks_last hne]
      have he : mks (l ++ [r]) = groF (mks l) l.length r.ep 1 := by
        rw [mks_snoc]
        unfold mkS groF
        by_cases h0 : l = []
        · subst h0
          rw [if_pos (.inl rfl), if_pos ⟨by omega, .inl rfl⟩, h3]
        · rw [hep h0, mks_last h0]
          by_cases e : r.ep = lastE l
          · rw [if_neg (fun h => by
              rcases h with h | h
              · exact h0 (mks_empty.1 h)
              · exact h e), if_neg (fun h => by
              rcases h.2 with h | h
              · have : l.length = 0 := by omega
                exact h0 (List.eq_nil_of_length_eq_zero this)
              · omega)]
          · rw [if_pos (.inr e), if_pos ⟨by omega, .inr (by omega)⟩, h3]
      rw [he]
      simp only [List.length_append, List.length_cons, List.length_nil]
      exact hg
/-- A log that goes on in one epoch. -/
structure Gx (L ls : List Rec) (ep : Int) : Prop where
  wl : Wl ls
  pre : ls.take L.length = L
  len : L.length ≤ ls.length
  mar : mks ls = if ls.length = L.length then mks L else mks L ++ [(ep, (L.length : Int) + 1)]
theorem Gx.start {L : List Rec} (h : Wl L) (ep : Int) : Gx L L ep := ⟨h, List.take_length, Nat.le_refl _, by rw [if_pos rfl]⟩
theorem Gx.step {L ls : List Rec} {ep : Int} (h : Gx L ls ep) (he : lastE L < ep) {r : Rec} (hr : r.ep = ep) : Gx L (apL ls r) ep := by
  have hw := wl_ap h.wl r
  unfold apL at hw ⊢
  split
  · rename_i h0
    rw [if_pos h0] at hw
    refine ⟨hw, by rw [List.take_append_of_le_length h.len]; exact h.pre, by simp; have := h.len; omega, ?_⟩
    rw [mks_snoc, h.mar]
    have hlen := h.len
    have hgt : ¬ (ls ++ [nx ls r]).length = L.length := by rw [List.length_append, List.length_cons, List.length_nil]; omega
    rw [if_neg hgt]
    by_cases e : ls.length = L.length
    · rw [if_pos e]
      have hLs : ls = L := by have := h.pre; rwa [← e, List.take_length] at this
      unfold mkS
      rw [if_pos ?_]
      · show mks L ++ [(r.ep, (ls.length : Int) + 1)] = _
        rw [hr, e]
      · by_cases hn : L = []
        · left; rw [hn]; rfl
        · right
          rw [mks_last hn]
          show r.ep ≠ lastE L
          omega
    · rw [if_neg e]
      unfold mkS
      rw [if_neg ?_]
      intro h1
      rcases h1 with h1 | h1
      · simp at h1
      · apply h1
        show r.ep = _
        simp [hr]
  · exact h
theorem sh_app (c a b : List Mk) : shN (c ++ a) (c ++ b) = c.length + shN a b := by
  induction c with
  | nil => simp
  | cons m c ih =>
    show (if m = m then shN (c ++ a) (c ++ b) + 1 else 0) = _
    rw [if_pos rfl, ih]
    simp; omega
/-- Where they part. -/
theorem fork_two {L X Y : List Rec} {e f : Int} (hx : Gx L X e) (hy : Gx L Y f) (hne : e ≠ f) : forkF (mks X) (mks Y) X.length Y.length = L.length := by
  have hX : ∃ a', mks X = mks L ++ a' ∧ hdF X.length a' = L.length ∧ (a' = [] ∨ a' = [(e, (L.length : Int) + 1)]) := by
    rw [hx.mar]
    by_cases h : X.length = L.length
    · exact ⟨[], by rw [if_pos h, List.append_nil], by simp [hdF, h], .inl rfl⟩
    · exact ⟨_, if_neg h, by simp [hdF], .inr rfl⟩
  have hY : ∃ b', mks Y = mks L ++ b' ∧ hdF Y.length b' = L.length ∧ (b' = [] ∨ b' = [(f, (L.length : Int) + 1)]) := by
    rw [hy.mar]
    by_cases h : Y.length = L.length
    · exact ⟨[], by rw [if_pos h, List.append_nil], by simp [hdF, h], .inl rfl⟩
    · exact ⟨_, if_neg h, by simp [hdF], .inr rfl⟩
  obtain ⟨a', e1, e2, e3⟩ := hX
  obtain ⟨b', e4, e5, e6⟩ := hY
  have hs : shN a' b' = 0 := by
    rcases e3 with rfl | rfl
    · cases b' <;> rfl
    · rcases e6 with rfl | rfl
      · rfl
      · show (if _ then _ else 0) = 0
        rw [if_neg (fun h => hne (by simpa using congrArg Prod.fst h))]
  unfold forkF
  rw [e1, e4, sh_app, hs, Nat.add_zero, ah_app, ah_app, e2, e5]
  omega
/-- Two logs side by side. -/
structure Tl (w wr : World) (xb yb : Nat) (rx ry : Value) (X Y : List Rec) : Prop where
  lx : Lg wr xb rx X 0
  ly : Lg wr yb ry Y 0
  nx : w.heap.size ≤ xb
  ny : w.heap.size ≤ yb
  ne : xb ≠ yb
  ox : ∀ g, rx.ownBlock = some g → w.heap.size ≤ g ∧ g ≠ yb ∧ ry.ownBlock ≠ some g
  oy : ∀ g, ry.ownBlock = some g → w.heap.size ≤ g ∧ g ≠ xb
  fr : Fr (fun _ => False) w wr
variable {w wr w' : World} {xb yb : Nat} {rx ry rx' ry' : Value} {X Y X' Y' : List Rec}
theorem Lg.bl {w : World} {lb : Nat} {rv : Value} {ls : List Rec} {fl : Int} (h : Lg w lb rv ls fl) : lb < w.heap.size := (Array.getElem?_eq_some_iff.1 h.box).1
theorem Tl.same (h : Tl w wr xb yb rx ry X Y) (f : Fr (fun _ => False) wr w') : Tl w w' xb yb rx ry X Y :=
  ⟨h.lx.fr f (fun f => f) (fun _ _ f => f), h.ly.fr f (fun f => f) (fun _ _ f => f), h.nx, h.ny, h.ne, h.ox, h.oy, h.fr.seq' f⟩
theorem Tl.goX (h : Tl w wr xb yb rx ry X Y) (hl : Lg w' xb rx' X' 0) (f : Fr (lgS xb rx) wr w') (ho : rx'.ownBlock = rx.ownBlock ∨ ∃ g, rx'.ownBlock = some g ∧ wr.heap.size ≤ g) : Tl w w' xb yb rx' ry X' Y := by
  have hyl := h.ly.bl
  refine ⟨hl, h.ly.fr f (fun e => ?_) (fun k hk e => ?_), h.nx, h.ny, h.ne, fun g hg => ?_, h.oy, h.fr.trans f (fun i hi e => ?_)⟩
  · rcases e with e | e
    · exact h.ne e.symm
    · exact (h.ox yb e).2.1 rfl
  · rcases e with e | e
    · exact (h.oy k hk).2 e
    · exact (h.ox k e).2.2 hk
  · rcases ho with e | ⟨g', e, hge⟩
    · rw [e] at hg; exact h.ox g hg
    · rw [e] at hg
      simp only [Option.some.injEq] at hg
      subst hg
      refine ⟨by have := h.fr.size; omega, by omega, fun e2 => ?_⟩
      have := h.ly.has.lt e2
      omega
  · rcases e with e | e
    · have := h.nx; omega
    · have := (h.ox i e).1; omega
theorem Tl.goY (h : Tl w wr xb yb rx ry X Y) (hl : Lg w' yb ry' Y' 0) (f : Fr (lgS yb ry) wr w') (ho : ry'.ownBlock = ry.ownBlock ∨ ∃ g, ry'.ownBlock = some g ∧ wr.heap.size ≤ g) : Tl w w' xb yb rx ry' X Y' := by
  have hxl := h.lx.bl
  refine ⟨h.lx.fr f (fun e => ?_) (fun k hk e => ?_), hl, h.nx, h.ny, h.ne, fun g hg => ⟨(h.ox g hg).1, (h.ox g hg).2.1, fun e2 => ?_⟩, fun g hg => ?_, h.fr.trans f (fun i hi e => ?_)⟩
  · rcases e with e | e
    · exact h.ne e
    · exact (h.oy xb e).2 rfl
  · rcases e with e | e
    · exact (h.ox k hk).2.1 e
    · exact (h.ox k hk).2.2 e
  · rcases ho with e | ⟨g', e, hge⟩
    · rw [e] at e2; exact (h.ox g hg).2.2 e2
    · rw [e] at e2
      simp only [Option.some.injEq] at e2
      have := h.lx.has.lt hg
      omega
  · rcases ho with e | ⟨g', e, hge⟩
    · rw [e] at hg; exact h.oy g hg
    · rw [e] at hg
      simp only [Option.some.injEq] at hg
      subst hg
      exact ⟨by have := h.fr.size; omega, by omega⟩
  · rcases e with e | e
    · have := h.ny; omega
    · have := (h.oy i e).1; omega
end Go.Proofs.YtihkdffihmhnaaaGreat.Rf

/- A log's timeline. -/
namespace Go.Proofs.YtihkdffihmhnaaaGreat.Rf
open Go.RowKit

theorem mks_ln {w : World} {a : Option Addr} {c : Nat} {ms : List (Int × Int)} (h : Mks w a c ms) : Ln.Mks w a c ms := ⟨h.le, h.max, by
  rcases h.at_ with h0 | ⟨b, off, rfl, hb, hc⟩
  · exact .inl h0
  · exact .inr ⟨b, off, rfl, hb, fun i m hm => hc i m hm⟩⟩
set_option maxRecDepth 100000 in
set_option maxHeartbeats 4000000 in
theorem timeline_any (lb : Nat) (rv : Value) (ls : List Rec) (fl : Int) (w : World) (h : Lg w lb rv ls fl) (hw : Wl ls) :
    Calls Tryz.prog 32 #[.pointer (some ⟨lb, 0, none⟩)] w fun e w' => ∃ a c, e = .returned (.agg #[.slice a (mks ls).length c, .int .i64 (ls.length : Int)]) ∧ Ln.Mks w' a c (mks ls) ∧ Fr (fun _ => False) w w' := by
  have F0 := Fr.box w (.cells #[.slice none 0 0, .int .i64 0] 67)
  have HL : Hid (∀ W, Fr (fun _ => False) w W → Lg W lb rv ls fl) := fun W f => h.fr f (fun f => f) (fun _ _ f => f)
  have HF0 : Hid (Fr (fun _ => False) w (w.alloc (.cells #[.slice none 0 0, .int .i64 0] 67))) := F0
  have HT : Hid (∀ W, Fr (fun _ => False) (w.alloc (.cells #[.slice none 0 0, .int .i64 0] 67)) W → Ln.Two W w.heap.size 67 (.slice none 0 0) (.int .i64 0)) := fun W f => (Ln.Two.new w 67 (.slice none 0 0) (.int .i64 0)).fr f (fun f => f)
  have hla := last_lg lb rv ls fl _ (HL.out _ F0) hw
  have HW : Hid (Wl ls) := hw
  obtain ⟨n, hn⟩ : ∃ n, n = ls.length := ⟨_, rfl⟩
  rw [← hn] at hla ⊢
  obtain ⟨M, hM⟩ : ∃ M, M = mks ls := ⟨_, rfl⟩
  rw [← hM]
  have HM : Hid (mks ls = M) := hM.symm
  clear h hw F0 hn hM
  go_enter Tryz.func32, Tryz.ntmps32
  go_wp2_with fail
  refine hla.mono ?_
  rintro e w1 ⟨rfl, f1⟩
  have hmk := marks_lg lb rv ls fl w1 (HL.out _ (HF0.out.seq' f1)) HW.out
  rw [HM.out] at hmk
  have HF1 : Hid (Fr (fun _ => False) (w.alloc (.cells #[.slice none 0 0, .int .i64 0] 67)) w1) := f1
  clear hla f1
  go_wp2_with fail
  refine hmk.mono ?_
  rintro e w2 ⟨a, c, rfl, hm2, f2⟩
  have T2 := HT.out _ (HF1.out.seq' f2)
  obtain ⟨x0, x1, x2, x3⟩ := T2.cells
  obtain ⟨T3, F3⟩ := Ln.Two.fin T2 (.slice a M.length c) (.int .i64 (n : Int))
  obtain ⟨y0, y1, _⟩ := T3.cells
  have hbl : w.heap.size < w2.heap.size := T2.lt
  have HFIN : Hid (Ln.Mks ((w2.setCell ⟨w.heap.size, 0, none⟩ (.slice a M.length c)).setCell ⟨w.heap.size, 1, none⟩ (.int .i64 (n : Int))) a c M ∧ Fr (fun _ => False) w ((w2.setCell ⟨w.heap.size, 0, none⟩ (.slice a M.length c)).setCell ⟨w.heap.size, 1, none⟩ (.int .i64 (n : Int)))) := by
    refine ⟨?_, (HF0.out.seq' (HF1.out.seq' f2)).trans F3 (fun i hi e => by omega)⟩
    have hml := mks_ln hm2
    refine ⟨hml.le, hml.max, ?_⟩
    by_cases hnil : M = []
    · exact .inl hnil
    rcases hml.at_ with h0 | ⟨b, off, rfl, hb, hc⟩
    · exact .inl h0
    · by_cases hbe : b = w.heap.size
      · exfalso
        subst hbe
        cases hM0 : M with
        | nil => exact hnil hM0
        | cons m0 tl =>
          have hr := hc 0 m0 (by rw [hM0]; rfl)
          have h1 := hr 0 _ rfl
          have h2 := hr 1 _ rfl
          have T2' : w2.heap[w.heap.size]? = some (.cells #[.slice none 0 0, .int .i64 0] 67 (0, 0)) := T2
          rw [cell_of_row _ _ _ _ _ _ T2'] at h1 h2
          match off, h1, h2 with
          | 0, h1, _ => simp at h1
          | 1, _, h2 => simp at h2
          | (k + 2), h1, _ => simp at h1
      · exact .inr ⟨b, off, rfl, Nat.lt_of_lt_of_le hb F3.size, fun i m hm => range_fr (hc i m hm) F3 hbe⟩
  clear hmk T2 T3 F3 f2 hm2
  go_wp2
  refine bodyPost_ret (v := .agg #[.slice a M.length c, .int .i64 (n : Int)]) (by simp [results, Tryz.results32, go_sem, y0, y1]) rfl ?_
  exact ⟨a, c, rfl, HFIN.out⟩
end Go.Proofs.YtihkdffihmhnaaaGreat.Rf
