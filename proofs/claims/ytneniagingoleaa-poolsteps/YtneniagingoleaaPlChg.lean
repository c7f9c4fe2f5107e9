
/- What Unpin, Dirty, Clean, Flushed and Pins do. -/
import Derived.Test.YtneniagingoleaaPlOps
import Derived.Deep.DeepCutAuto
namespace Go.Proofs.Ytneniagingoleaa
open Go.RowKit

theorem within_at (x a b : Int) (w : World) : Calls Try.prog 23 #[.int .i64 x, .int .i64 a, .int .i64 b] w fun e w' => e = .returned (.bool (decide (a ≤ x ∧ x ≤ b))) ∧ w = w' := (within_any x a b w).mono (fun _ _ h => ⟨h.1, h.2.symm⟩)
theorem Pm.key {w : World} {b n : Nat} {M : Pmap} (h : Pm w b n M) {x : Int} {g : Hd} (hm : M x = some g) : 1 ≤ x ∧ x ≤ 4096 := by
  obtain ⟨D, _, _, hl⟩ := h
  exact hl.key x g hm
/-- A number one less, or more, as a machine has it. -/
def dn (x : Int) : Int := IntKind.i64.wrap (x - 1)
def up (x : Int) : Int := IntKind.i64.wrap (x + 1)
theorem pin_ok {M : Pmap} {x : Int} (h : pinE M x = 0) : ∃ g, M x = some g ∧ pinH M x = g ∧ g.pins ≠ 0 := by
  unfold pinE at h
  unfold pinH
  cases hm : M x with
  | none => rw [hm] at h; exact absurd h (by decide)
  | some g =>
    rw [hm] at h
    dsimp only at h ⊢
    by_cases hp : g.pins = 0
    · rw [if_pos hp] at h; exact absurd h (by decide)
    · exact ⟨g, rfl, if_neg hp, hp⟩
theorem upd_n {w : World} {b n : Nat} {M M' : Pmap} {x : Int} {g : Hd} (hm : M x = some g) (h : Pm w b (if (M x).isSome = true then n else n + 1) M') : Pm w b n M' := by
  rw [hm] at h; exact h
def unM (M : Pmap) (x : Int) : Pmap := if pinE M x = 0 then upd M x (some { pinH M x with pins := dn (pinH M x).pins }) else M
section
variable (pb : Nat) (fr : Int) (mb n : Nat) (us fl : Int) (M : Pmap) (w : World)
set_option maxRecDepth 100000 in
set_option maxHeartbeats 1000000 in
theorem unpin_pl (x : Int) (hx : wfK x) (hn : n ≤ 1000000) (h : Pl w pb fr mb n us fl M) : Calls Try.prog 19 #[.pointer (some ⟨pb, 0, none⟩), .int .i64 x] w fun e w' => e = .returned (.int .i64 (pinE M x)) ∧ Pl w' pb fr mb n us fl (unM M x) ∧ Fr (fun k => k = mb) w w' := by
  have hpi := pinned_pl pb fr mb n us fl M w x hx h
  by_cases he : pinE M x = 0
  · obtain ⟨g, hm, hg, hp⟩ := pin_ok he
    have HU : Hid (unM M x = upd M x (some ⟨dn g.pins, g.lsn, g.since, g.used⟩)) := by show _ = _; unfold unM; rw [if_pos he, hg]
    have HK := h.map.key hm
    have HN : Hid (∀ (W : World) (M' : Pmap), Pm W mb (if (M x).isSome = true then n else n + 1) M' → Pm W mb n M') := fun W M' h => upd_n hm h
    rw [he, hg] at hpi
    obtain ⟨p, l, s, u⟩ := g
    dsimp only at hpi HU
    have HPL : Hid (∀ W, Fr (fun _ => False) w W → Pl W pb fr mb n us fl M) := fun W f => h.same f
    obtain ⟨q, hq⟩ : ∃ q, q = dn p := ⟨_, rfl⟩
    have e1 : IntKind.i64.wrap (p - 1) = q := hq.symm
    rw [← hq] at HU
    clear hq hm hg hp h
    rw [he]
    clear he
    go_enter Try.func19, Try.ntmps19
    go_wp2_with fail
    refine hpi.mono ?_
    rintro e w1 ⟨rfl, f1⟩
    clear hpi
    have F2 : Fr (fun _ => False) w (w1.alloc (.cells #[.int .i64 q, .int .i64 l, .int .i64 s, .int .i64 u] 66)).drew := (f1.alloc _).drew
    have hP2 := HPL.out _ F2
    obtain ⟨⟨c0, c1, c2, c3⟩, z⟩ := four_cells hP2.box
    obtain ⟨w5, hrun, hpm, hfr⟩ := hP2.map.store hn HK ⟨q, l, s, u⟩
    dsimp only at hrun
    have hfin := hP2.setMap hfr (HN.out _ _ hpm)
    rw [← HU.out] at hfin
    have F5 : Fr (fun k => k = mb) w w5 := (F2.mono (fun _ _ f => f.elim)).trans hfr (fun _ _ e => e)
    clear z hP2 hpm hfr
    go_wp2_with fail
    go_region_law (fail)
    all_goals
      go_wp2
      go_ret
      exact ⟨rfl, hfin, F5⟩
  · have HU : Hid (unM M x = M) := if_neg he
    have heb : (pinE M x != 0) = true := by simpa using he
    rw [HU.out]
    generalize pinE M x = er at *
    generalize pinH M x = g at *
    obtain ⟨p, l, s, u⟩ := g
    clear he
    go_enter Try.func19, Try.ntmps19
    go_wp2_with fail
    refine hpi.mono ?_
    rintro e w1 ⟨rfl, f1⟩
    clear hpi
    have F2 := f1.alloc (.cells #[.int .i64 p, .int .i64 l, .int .i64 s, .int .i64 u] 66)
    go_wp2
    go_ret
    exact ⟨rfl, h.same F2, F2.mono (fun _ _ f => f.elim)⟩

/-- Dirty: why not, and what it makes of a page. -/
def diE (M : Pmap) (x l : Int) : Int := if 1 ≤ l ∧ l ≤ 1099511627776 then pinE M x else 1
def diH (g : Hd) (l : Int) : Hd := ⟨g.pins, max g.lsn l, if g.since = 0 then l else g.since, g.used⟩
def diM (M : Pmap) (x l : Int) : Pmap := if diE M x l = 0 then upd M x (some (diH (pinH M x) l)) else M
set_option maxRecDepth 100000 in
set_option maxHeartbeats 2000000 in
theorem dirty_pl (x l : Int) (hx : wfK x) (hn : n ≤ 1000000) (h : Pl w pb fr mb n us fl M) : Calls Try.prog 20 #[.pointer (some ⟨pb, 0, none⟩), .int .i64 x, .int .i64 l] w fun e w' => e = .returned (.int .i64 (diE M x l)) ∧ Pl w' pb fr mb n us fl (diM M x l) ∧ Fr (fun k => k = mb) w w' := by
  have hwi := within_at l 1 1099511627776 w
  have hpi := pinned_pl pb fr mb n us fl M w x hx h
  by_cases hl : 1 ≤ l ∧ l ≤ 1099511627776
  · rw [decide_eq_true hl] at hwi
    have HD : Hid (diE M x l = pinE M x) := if_pos hl
    clear hl
    by_cases he : pinE M x = 0
    · obtain ⟨g, hm, hg, hp⟩ := pin_ok he
      have HU : Hid (diM M x l = upd M x (some (diH g l))) := by show _ = _; unfold diM; rw [HD.out, if_pos he, hg]
      rw [HD.out, he]
      rw [he, hg] at hpi
      have HK := h.map.key hm
      have HN : Hid (∀ (W : World) (M' : Pmap), Pm W mb (if (M x).isSome = true then n else n + 1) M' → Pm W mb n M') := fun W M' h => upd_n hm h
      have HPL : Hid (∀ W, Fr (fun _ => False) w W → Pl W pb fr mb n us fl M) := fun W f => h.same f
      obtain ⟨p, l0, s, u⟩ := g
      dsimp only at hpi
      have hdi := fun W => isDirty_any ⟨p, l0, s, u⟩ W
      dsimp only at hdi
      obtain ⟨m, hmx⟩ : ∃ m, (if l0 < l then l else l0) = m := ⟨_, rfl⟩
      have HMX : Hid (max l0 l = m) := by show _ = _; rw [← hmx]; split <;> omega
      clear he hm hg hp h
      by_cases hs : s = 0
      · subst hs
        have HU2 : Hid (diM M x l = upd M x (some ⟨p, m, l, u⟩)) := by show _ = _; rw [HU.out]; unfold diH; simp [HMX.out]
        go_enter Try.func20, Try.ntmps20
        go_wp2_with (go_at_call 23; refine hwi.mono ?_; rintro e w' ⟨rfl, rfl⟩)
        refine hpi.mono ?_
        rintro e w1 ⟨rfl, f1⟩
        clear hpi hwi
        have fb := f1.alloc (.cells #[.int .i64 p, .int .i64 l0, .int .i64 0, .int .i64 u] 66)
        go_wp2_with fail
        refine (hdi _).mono ?_
        clear hdi
        rintro e w2 ⟨rfl, f2⟩
        have hbx : w2.heap[w1.heap.size]? = some (.cells #[.int .i64 p, .int .i64 l0, .int .i64 0, .int .i64 u] 66 (0, 0)) := by
          rw [f2.block _ (by simp) (fun f => f)]; exact heap_alloc_new w1 _
        have hnb : w.heap.size ≤ w1.heap.size := f1.size
        have hb1 := four_setCell (j := 2) hbx (.int .i64 l)
        have hb2 := four_setCell (j := 1) hb1 (.int .i64 m)
        have fs1 : Fr (fun _ => False) w (w2.setCell ⟨w1.heap.size, 2, none⟩ (.int .i64 l)) := (fb.seq' f2).setCell (p := ⟨w1.heap.size, 2, none⟩) (fun hh => by dsimp only at hh; omega) _
        have fs2 : Fr (fun _ => False) w ((w2.setCell ⟨w1.heap.size, 2, none⟩ (.int .i64 l)).setCell ⟨w1.heap.size, 1, none⟩ (.int .i64 m)) := fs1.setCell (p := ⟨w1.heap.size, 1, none⟩) (fun hh => by dsimp only at hh; omega) _
        obtain ⟨W4, hW4⟩ : ∃ W, W = (w2.setCell ⟨w1.heap.size, 2, none⟩ (.int .i64 l)).setCell ⟨w1.heap.size, 1, none⟩ (.int .i64 m) := ⟨_, rfl⟩
        have HW4 : Hid ((w2.setCell ⟨w1.heap.size, 2, none⟩ (.int .i64 l)).setCell ⟨w1.heap.size, 1, none⟩ (.int .i64 m) = W4) := hW4.symm
        rw [← hW4] at hb2 fs2
        clear hW4
        have F2 := fs2.drew
        have hP2 := HPL.out _ F2
        obtain ⟨⟨c0, c1, c2, c3⟩, z⟩ := four_cells hP2.box
        obtain ⟨w5, hrun, hpm, hfr⟩ := hP2.map.store hn HK ⟨p, m, l, u⟩
        dsimp only at hrun
        have hfin := hP2.setMap hfr (HN.out _ _ hpm)
        rw [← HU2.out] at hfin
        have F5 : Fr (fun k => k = mb) w w5 := (F2.mono (fun _ _ f => f.elim)).trans hfr (fun _ _ e => e)
        obtain ⟨⟨a0, a1, a2, a3⟩, za⟩ := four_cells hbx
        have za2 := za 2
        obtain ⟨⟨b0, b1, b2, b3⟩, zb⟩ := four_cells (c0 := .int .i64 p) (c1 := .int .i64 l0) (c2 := .int .i64 l) (c3 := .int .i64 u) hb1
        have zb1 := zb 1
        clear z hP2 hpm hfr za zb
        go_upto_region 9 with fail
        rw [HW4.out]
        clear a0 a1 a2 a3 b0 b1 b2 b3 za2 zb1
        have hb2d : W4.drew.heap[w1.heap.size]? = some (.cells #[.int .i64 p, .int .i64 m, .int .i64 l, .int .i64 u] 66 (0, 0)) := hb2
        obtain ⟨⟨d0, d1, d2, d3⟩, zd⟩ := four_cells hb2d
        clear zd
        go_region_law (fail)
        all_goals
          go_wp2
          go_ret
          exact ⟨rfl, hfin, F5⟩
      · have hsb : (s != 0) = true := by simpa using hs
        have HU2 : Hid (diM M x l = upd M x (some ⟨p, m, s, u⟩)) := by show _ = _; rw [HU.out]; unfold diH; simp [HMX.out, hs]
        clear hs
        go_enter Try.func20, Try.ntmps20
        go_wp2_with (go_at_call 23; refine hwi.mono ?_; rintro e w' ⟨rfl, rfl⟩)
        refine hpi.mono ?_
        rintro e w1 ⟨rfl, f1⟩
        clear hpi hwi
        have fb := f1.alloc (.cells #[.int .i64 p, .int .i64 l0, .int .i64 s, .int .i64 u] 66)
        go_wp2_with fail
        refine (hdi _).mono ?_
        clear hdi
        rintro e w2 ⟨rfl, f2⟩
        have hbx : w2.heap[w1.heap.size]? = some (.cells #[.int .i64 p, .int .i64 l0, .int .i64 s, .int .i64 u] 66 (0, 0)) := by
          rw [f2.block _ (by simp) (fun f => f)]; exact heap_alloc_new w1 _
        have hnb : w.heap.size ≤ w1.heap.size := f1.size
        have hb2 := four_setCell (j := 1) hbx (.int .i64 m)
        have fs2 : Fr (fun _ => False) w (w2.setCell ⟨w1.heap.size, 1, none⟩ (.int .i64 m)) := (fb.seq' f2).setCell (p := ⟨w1.heap.size, 1, none⟩) (fun hh => by dsimp only at hh; omega) _
        obtain ⟨W4, hW4⟩ : ∃ W, W = w2.setCell ⟨w1.heap.size, 1, none⟩ (.int .i64 m) := ⟨_, rfl⟩
        have HW4 : Hid (w2.setCell ⟨w1.heap.size, 1, none⟩ (.int .i64 m) = W4) := hW4.symm
        rw [← hW4] at hb2 fs2
        clear hW4
        have F2 := fs2.drew
        have hP2 := HPL.out _ F2
        obtain ⟨⟨c0, c1, c2, c3⟩, z⟩ := four_cells hP2.box
        obtain ⟨w5, hrun, hpm, hfr⟩ := hP2.map.store hn HK ⟨p, m, s, u⟩
        dsimp only at hrun
        have hfin := hP2.setMap hfr (HN.out _ _ hpm)
        rw [← HU2.out] at hfin
        have F5 : Fr (fun k => k = mb) w w5 := (F2.mono (fun _ _ f => f.elim)).trans hfr (fun _ _ e => e)
        obtain ⟨⟨a0, a1, a2, a3⟩, za⟩ := four_cells hbx
        have za1 := za 1
        clear z hP2 hpm hfr za
        go_upto_region 9 with fail
        rw [HW4.out]
        clear a0 a1 a2 a3 za1
        have hb2d : W4.drew.heap[w1.heap.size]? = some (.cells #[.int .i64 p, .int .i64 m, .int .i64 s, .int .i64 u] 66 (0, 0)) := hb2
        obtain ⟨⟨d0, d1, d2, d3⟩, zd⟩ := four_cells hb2d
        clear zd
        go_region_law (fail)
        all_goals
          go_wp2
          go_ret
          exact ⟨rfl, hfin, F5⟩
    · have HU : Hid (diM M x l = M) := by show _ = _; unfold diM; rw [HD.out, if_neg he]
      have heb : (pinE M x != 0) = true := by simpa using he
      rw [HU.out, HD.out]
      generalize pinE M x = er at *
      generalize pinH M x = g at *
      obtain ⟨p, l0, s, u⟩ := g
      clear he
      go_enter Try.func20, Try.ntmps20
      go_wp2_with (go_at_call 23; refine hwi.mono ?_; rintro e w' ⟨rfl, rfl⟩)
      refine hpi.mono ?_
      rintro e w1 ⟨rfl, f1⟩
      clear hpi
      have F2 := f1.alloc (.cells #[.int .i64 p, .int .i64 l0, .int .i64 s, .int .i64 u] 66)
      go_wp2
      go_ret
      exact ⟨rfl, h.same F2, F2.mono (fun _ _ f => f.elim)⟩
  · rw [decide_eq_false hl] at hwi
    have HD : Hid (diE M x l = 1) := if_neg hl
    have HU : Hid (diM M x l = M) := by show _ = _; unfold diM; rw [HD.out, if_neg (by decide)]
    rw [HU.out, HD.out]
    clear hl hpi
    go_enter Try.func20, Try.ntmps20
    go_wp2_with (go_at_call 23; refine hwi.mono ?_; rintro e w' ⟨rfl, rfl⟩)
    go_ret
    exact ⟨rfl, h, Fr.refl _ _⟩
end
end Go.Proofs.Ytneniagingoleaa
