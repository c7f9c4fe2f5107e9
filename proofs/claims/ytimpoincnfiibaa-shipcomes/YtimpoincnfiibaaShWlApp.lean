
/- What (*Log).Append does. -/
import Derived.Test.YtimpoincnfiibaaShWlBase
namespace Go.Proofs.Ytimpoincnfiibaa
open Go.RowKit Crcm

theorem infoRec : (Try.prog.info? 47).map (fun i => (i.zero, i.size, i.bytes)) = some (some (.agg #[.int .i64 0, .int .i64 0, .int .i64 0, .int .i64 0, .int .i64 0, .int .i64 0, .string ⟨#[]⟩, .string ⟨#[]⟩]), 8, 80) := by kernel_rfl
/-- The record that would stand behind. -/
def nx (ls : List Rec) (r : Rec) : Rec := ⟨(ls.length : Int) + 1, r.ep, r.kind, r.page, r.other, r.req, r.key, r.val⟩
def apE (ls : List Rec) (r : Rec) : Int := if rok (nx ls r) = true then refus ls r.ep else 90
def apL (ls : List Rec) (r : Rec) : List Rec := if apE ls r = 0 then ls ++ [nx ls r] else ls
def apN (ls : List Rec) (r : Rec) : Int := if apE ls r = 0 then (ls.length : Int) + 1 else 0
theorem wl_ap {ls : List Rec} (h : Wl ls) (r : Rec) : Wl (apL ls r) := by
  unfold apL
  split
  · rename_i h0
    unfold apE at h0
    split at h0
    · rename_i h1; exact wl_snoc h (nx ls r) h1 rfl h0
    · exact absurd h0 (by decide)
  · exact h
theorem Lg.push {w W w1 : World} {lb : Nat} {rv rv' : Value} {ls ls' : List Rec} {fl : Int} (h : Lg w lb rv ls fl) (F : Fr (fun _ => False) w W) (f : Fr (fun k => rv.ownBlock = some k ∧ 0 < 1) W w1) (hh : Has w1 8 rv' ls'.length (ls'.flatMap recC)) (hat : rv'.ownBlock = rv.ownBlock ∨ rv'.ownBlock = some W.heap.size) :
    Lg (w1.setCell ⟨lb, 0, none⟩ rv') lb rv' ls' fl ∧ Fr (lgS lb rv) w (w1.setCell ⟨lb, 0, none⟩ rv') ∧ (rv'.ownBlock = rv.ownBlock ∨ ∃ g, rv'.ownBlock = some g ∧ w.heap.size ≤ g) := by
  have hlt := lt_of_block h.box
  have hs := F.size
  have hb : w1.heap[lb]? = some (.cells #[rv, .int .i64 fl] 52 (0, 0)) := by
    rw [f.block lb (by omega) (fun e => by have := h.own lb e.1; omega), F.block lb hlt (fun f => f)]; exact h.box
  have fs : Fr (fun k => k = lb) w1 (w1.setCell ⟨lb, 0, none⟩ rv') := (Fr.refl (fun k => k = lb) w1).setCell (p := ⟨lb, 0, none⟩) (fun _ => rfl) _
  have own' : ∀ g, rv'.ownBlock = some g → lb < g := fun g e => by
    rcases hat with h1 | h1
    · rw [h1] at e; exact h.own g e
    · rw [h1] at e; simp only [Option.some.injEq] at e; omega
  refine ⟨⟨two_setCell0 hb, hh.fr fs (fun g e e2 => by have := own' g e; omega), own'⟩, ((F.mono (fun _ _ f => f.elim)).trans f (fun i _ e => .inr e.1)).trans fs (fun i _ e => .inl e), ?_⟩
  rcases hat with h1 | h1
  · exact .inl h1
  · exact .inr ⟨_, h1, hs⟩

set_option maxRecDepth 100000 in
set_option maxHeartbeats 2000000 in
theorem append_lg (r : Rec) (lb : Nat) (rv : Value) (ls : List Rec) (fl : Int) (w : World) (h : Lg w lb rv ls fl) (hw : Wl ls) :
    Calls Try.prog 16 #[.pointer (some ⟨lb, 0, none⟩), (.agg #[.int .i64 r.lsn, .int .i64 r.ep, .int .i64 r.kind, .int .i64 r.page, .int .i64 r.other, .int .i64 r.req, .string r.key, .string r.val])] w fun e w' => e = .returned (.tuple #[.int .i64 (apN ls r), .int .i64 (apE ls r)]) ∧
      ∃ rv', Lg w' lb rv' (apL ls r) fl ∧ Fr (lgS lb rv) w w' ∧ (rv'.ownBlock = rv.ownBlock ∨ ∃ g, rv'.ownBlock = some g ∧ w.heap.size ≤ g) := by
  obtain ⟨iR, hiR, hR0, hR1, hR2⟩ := info_parts infoRec
  have f0 := Fr.box w (.cells #[.int .i64 r.lsn, .int .i64 r.ep, .int .i64 r.kind, .int .i64 r.page, .int .i64 r.other, .int .i64 r.req, .string r.key, .string r.val] 47)
  have hb := hw.big
  have hnx := next_lg lb rv ls fl _ (h.same f0) hb
  obtain ⟨rn, hrn⟩ : ∃ rn, rn = nx ls r := ⟨_, rfl⟩
  have HRN : Hid (rn = nx ls r) := hrn
  obtain ⟨W1, hW1⟩ : ∃ W, W = w.alloc (.cells #[.int .i64 ((ls.length : Int) + 1), .int .i64 r.ep, .int .i64 r.kind, .int .i64 r.page, .int .i64 r.other, .int .i64 r.req, .string r.key, .string r.val] 47) := ⟨_, rfl⟩
  have HW1 : Hid (w.alloc (.cells #[.int .i64 ((ls.length : Int) + 1), .int .i64 r.ep, .int .i64 r.kind, .int .i64 r.page, .int .i64 r.other, .int .i64 r.req, .string r.key, .string r.val] 47) = W1) := hW1.symm
  have F1 : Fr (fun _ => False) w W1 := by rw [hW1]; exact Fr.box w _
  have HB : Hid (∀ W, Fr (fun _ => False) W1 W → (W.cell? ⟨w.heap.size, 0, none⟩ = some (.int .i64 rn.lsn) ∧ W.cell? ⟨w.heap.size, 1, none⟩ = some (.int .i64 rn.ep) ∧ W.cell? ⟨w.heap.size, 2, none⟩ = some (.int .i64 rn.kind) ∧ W.cell? ⟨w.heap.size, 3, none⟩ = some (.int .i64 rn.page) ∧ W.cell? ⟨w.heap.size, 4, none⟩ = some (.int .i64 rn.other) ∧ W.cell? ⟨w.heap.size, 5, none⟩ = some (.int .i64 rn.req) ∧ W.cell? ⟨w.heap.size, 6, none⟩ = some (.string rn.key) ∧ W.cell? ⟨w.heap.size, 7, none⟩ = some (.string rn.val))) := fun W f => by
    rw [hW1] at f
    rw [hrn]
    exact (rec_cells (rec_at w _ _ f)).1
  have hck := rec_check rn W1
  have HRV : Hid ((Value.agg #[.int .i64 rn.lsn, .int .i64 rn.ep, .int .i64 rn.kind, .int .i64 rn.page, .int .i64 rn.other, .int .i64 rn.req, .string rn.key, .string rn.val]) = .agg #[.int .i64 ((ls.length : Int) + 1), .int .i64 r.ep, .int .i64 r.kind, .int .i64 r.page, .int .i64 r.other, .int .i64 r.req, .string r.key, .string r.val]) := by show _ = _; rw [hrn]; rfl
  have HEP : Hid (r.ep = rn.ep) := by show _ = _; rw [hrn]; rfl
  have HLS : Hid (rn.lsn = (ls.length : Int) + 1) := by show _ = _; rw [hrn]; rfl
  clear hW1 hrn
  by_cases hok : rok rn = true
  · have HE : Hid (erec rn = 0) := erec_yes hok
    have HAE : Hid (apE ls r = refus ls rn.ep) := by show _ = _; unfold apE; rw [← HRN.out, if_pos hok, ← HEP.out]
    rw [HE.out] at hck
    have hrf := fun W hW => refusal_lg lb rv ls fl rn W hW hw
    by_cases hre : refus ls rn.ep = 0
    · have HZ : Hid (apE ls r = 0) := by show _ = _; rw [HAE.out]; exact hre
      have HN : Hid (apN ls r = rn.lsn) := by show _ = _; unfold apN; rw [if_pos HZ.out, HLS.out]
      have HL : Hid (apL ls r = ls ++ [rn]) := by show _ = _; unfold apL; rw [if_pos HZ.out, HRN.out]
      have hlt : ls.length < 65536 := by
        rcases Nat.lt_or_ge ls.length 65536 with h' | h'
        · exact h'
        · exfalso
          have he : ls.length = 65536 := by omega
          unfold refus at hre
          split at hre
          · exact absurd hre (by decide)
          · first | exact absurd hre (by decide) | (rw [if_pos he] at hre; exact absurd hre (by decide))
      rw [HZ.out, HN.out, HL.out]
      rw [hre] at hrf
      clear hre hok HE HAE HZ HN
      go_enter Try.func16, Try.ntmps16
      go_wp2_with fail
      refine hnx.mono ?_
      rintro e w' ⟨rfl, rfl⟩
      clear hnx
      go_wp2_with fail
      rw [HW1.out, ← HRV.out]
      refine hck.mono ?_
      clear hck
      rintro e w2 ⟨rfl, f2⟩
      obtain ⟨c0, c1, c2, c3, c4, c5, c6, c7⟩ := HB.out _ f2
      go_wp2_with fail
      refine (hrf _ (h.same (F1.seq' f2))).mono ?_
      clear hrf
      rintro e w3 ⟨rfl, f3⟩
      clear c0 c1 c2 c3 c4 c5 c6 c7
      have G3 := f2.seq' f3
      have F3 := F1.seq' G3
      have h3 := h.same F3
      obtain ⟨k0, k1, z0, z1⟩ := cell_of_two h3.box
      obtain ⟨c0, c1, c2, c3, c4, c5, c6, c7⟩ := HB.out _ G3
      obtain ⟨a, c, rfl, _, _⟩ := h.has.slice
      have F4 : Fr (fun _ => False) w ((w3.alloc (.cells #[.int .i64 rn.lsn, .int .i64 rn.ep, .int .i64 rn.kind, .int .i64 rn.page, .int .i64 rn.other, .int .i64 rn.req, .string rn.key, .string rn.val] 47)).drew) := (F3.alloc _).drew
      have G4 : Fr (fun _ => False) W1 ((w3.alloc (.cells #[.int .i64 rn.lsn, .int .i64 rn.ep, .int .i64 rn.kind, .int .i64 rn.page, .int .i64 rn.other, .int .i64 rn.req, .string rn.key, .string rn.val] 47)).drew) := (G3.alloc _).drew
      have h4 := h.same F4
      have hrow := h4.has
      have hbx := h4.box
      have hnews : From ((w3.alloc (.cells #[.int .i64 rn.lsn, .int .i64 rn.ep, .int .i64 rn.kind, .int .i64 rn.page, .int .i64 rn.other, .int .i64 rn.req, .string rn.key, .string rn.val] 47)).drew) (some ⟨w3.heap.size, 0, none⟩) (recC rn) := .inr ⟨_, _, rfl, range_block (w := (w3.alloc _).drew) (heap_alloc_new w3 _) (fun j v hv => by rw [Nat.zero_add]; simpa [recC] using hv)⟩
      have HHB : Hid (∀ w5, Fr (fun k => (Value.slice a ls.length c).ownBlock = some k ∧ 0 < 1) ((w3.alloc (.cells #[.int .i64 rn.lsn, .int .i64 rn.ep, .int .i64 rn.kind, .int .i64 rn.page, .int .i64 rn.other, .int .i64 rn.req, .string rn.key, .string rn.val] 47)).drew) w5 → w5.heap[lb]? = some (.cells #[.slice a ls.length c, .int .i64 fl] 52 (0, 0)) ∧ w5.cell? ⟨w.heap.size, 0, none⟩ = some (.int .i64 rn.lsn) ∧ w5.cell? ⟨w.heap.size, 1, none⟩ = some (.int .i64 rn.ep) ∧ w5.cell? ⟨w.heap.size, 2, none⟩ = some (.int .i64 rn.kind) ∧ w5.cell? ⟨w.heap.size, 3, none⟩ = some (.int .i64 rn.page) ∧ w5.cell? ⟨w.heap.size, 4, none⟩ = some (.int .i64 rn.other) ∧ w5.cell? ⟨w.heap.size, 5, none⟩ = some (.int .i64 rn.req) ∧ w5.cell? ⟨w.heap.size, 6, none⟩ = some (.string rn.key) ∧ w5.cell? ⟨w.heap.size, 7, none⟩ = some (.string rn.val)) := fun w5 f => by
        have hlb := lt_of_block h.box
        refine ⟨by rw [f.block lb (lt_of_block hbx) (fun e => by have := h.own lb e.1; omega)]; exact hbx, ?_⟩
        have hcell := (rec_cells (w' := w5) (b := w.heap.size) (t := 47) (c0 := .int .i64 rn.lsn) (c1 := .int .i64 rn.ep) (c2 := .int .i64 rn.kind) (c3 := .int .i64 rn.page) (c4 := .int .i64 rn.other) (c5 := .int .i64 rn.req) (c6 := .string rn.key) (c7 := .string rn.val) (by
          have hne : ∀ k, (Value.slice a ls.length c).ownBlock = some k → k < w.heap.size := fun k e => h.has.lt e
          have hW : W1.heap[w.heap.size]? = some (.cells #[.int .i64 rn.lsn, .int .i64 rn.ep, .int .i64 rn.kind, .int .i64 rn.page, .int .i64 rn.other, .int .i64 rn.req, .string rn.key, .string rn.val] 47 (0, 0)) := by
            rw [← HW1.out, HRN.out]; exact heap_alloc_new w _
          have hz := lt_of_block hW
          rw [f.block w.heap.size (Nat.lt_of_lt_of_le hz G4.size) (fun e => by have := hne _ e.1; omega), G4.block _ hz (fun f => f)]
          exact hW)).1
        exact hcell
      obtain ⟨y0, y1, y2, y3⟩ := cell_of_two hbx
      obtain ⟨t0, t1, t2, t3, t4, t5, t6, t7⟩ := HB.out _ G4
      go_wp2
      go_region_law
        ((refine step_append_has _ (by rfl) _ _ 22 22 47 47 (by rfl) iR _ 8 80 Try.underlying22 Try.underlying22 hiR hR0 hR1 hR2 rfl (by omega) (.slice a ls.length c) ls.length (ls.flatMap recC) (by rfl) hrow
            (some ⟨w3.heap.size, 0, none⟩) 1 1 (recC rn) (by rfl) (by rfl) hnews (recC_one rn) (by unfold maxLen; omega) (by omega) ?_; intro a' c' w5 hown hfr hat; obtain ⟨hb5, d0, d1, d2, d3, d4, d5, d6, d7⟩ := HHB.out _ hfr; obtain ⟨k5, k6, z5, z6⟩ := cell_of_two hb5))
      all_goals
        have hlb := lt_of_block h.box
        have hn1 : ¬ lb = w.heap.size := by omega
        have hn2 : ¬ w.heap.size = lb := by omega
        have hp := h.push F4 hfr (ls' := ls ++ [rn]) (by rw [List.length_append, List.flatMap_append]; simpa using hown) hat
        go_wp2
        go_ret2
        exact ⟨rfl, _, hp⟩
    · have HN : Hid (apN ls r = 0) := by show _ = _; unfold apN; rw [if_neg (by rw [HAE.out]; exact hre)]
      have HL : Hid (apL ls r = ls) := by show _ = _; unfold apL; rw [if_neg (by rw [HAE.out]; exact hre)]
      rw [HN.out, HL.out, HAE.out]
      have hreb : (refus ls rn.ep != 0) = true := by simpa using hre
      generalize refus ls rn.ep = er at *
      clear hre hok HE HAE HN HL
      go_enter Try.func16, Try.ntmps16
      go_wp2_with fail
      refine hnx.mono ?_
      rintro e w' ⟨rfl, rfl⟩
      clear hnx
      go_wp2_with fail
      rw [HW1.out, ← HRV.out]
      refine hck.mono ?_
      clear hck
      rintro e w2 ⟨rfl, f2⟩
      obtain ⟨c0, c1, c2, c3, c4, c5, c6, c7⟩ := HB.out _ f2
      go_wp2_with fail
      refine (hrf _ (h.same (F1.seq' f2))).mono ?_
      clear hrf
      rintro e w3 ⟨rfl, f3⟩
      clear c0 c1 c2 c3 c4 c5 c6 c7
      have F3 := F1.seq' (f2.seq' f3)
      go_wp2
      go_ret2
      exact ⟨rfl, rv, h.same F3, F3.mono (fun _ _ f => f.elim), .inl rfl⟩
  · have hokf : rok rn = false := by simpa using hok
    have HE : Hid (erec rn = 90) := erec_no hokf
    have HAE : Hid (apE ls r = 90) := by show _ = _; unfold apE; rw [← HRN.out, if_neg hok]
    have HN : Hid (apN ls r = 0) := by show _ = _; unfold apN; rw [HAE.out, if_neg (by decide)]
    have HL : Hid (apL ls r = ls) := by show _ = _; unfold apL; rw [HAE.out, if_neg (by decide)]
    rw [HE.out] at hck
    rw [HN.out, HL.out, HAE.out]
    clear hok hokf HE HAE HN HL
    go_enter Try.func16, Try.ntmps16
    go_wp2_with fail
    refine hnx.mono ?_
    rintro e w' ⟨rfl, rfl⟩
    clear hnx
    go_wp2_with fail
    rw [HW1.out, ← HRV.out]
    refine hck.mono ?_
    clear hck
    rintro e w2 ⟨rfl, f2⟩
    have F3 := F1.seq' f2
    go_wp2
    go_ret2
    exact ⟨rfl, rv, h.same F3, F3.mono (fun _ _ f => f.elim), .inl rfl⟩
end Go.Proofs.Ytimpoincnfiibaa
