
/- What the document's Append and Flush do. -/
import Derived.Test.YtimpoincnfiibaaShWrMath
import Derived.Test.YtimpoincnfiibaaSB26
namespace Go.Proofs.Ytimpoincnfiibaa
open Go.RowKit Crcm

theorem rec_setCell0 {w : World} {b : Nat} {c0 c1 c2 c3 c4 c5 c6 c7 x : Value} {t : TypeId} (h : w.heap[b]? = some (.cells #[c0, c1, c2, c3, c4, c5, c6, c7] t (0, 0))) : (w.setCell ⟨b, 0, none⟩ x).heap[b]? = some (.cells #[x, c1, c2, c3, c4, c5, c6, c7] t (0, 0)) := by
  have hlt := lt_of_block h
  have h' : w.heap[b] = .cells #[c0, c1, c2, c3, c4, c5, c6, c7] t (0, 0) := by simpa [Array.getElem?_eq_getElem hlt] using h
  show (w.heap.modify b _)[b]? = _
  rw [Array.getElem?_eq_getElem (by simpa using hlt), Array.getElem_modify_self, h']
  rfl

set_option maxRecDepth 100000 in
set_option maxHeartbeats 4000000 in
theorem rappend_lg (r : Rec) (lb : Nat) (rv : Value) (ls : List Rec) (fl : Int) (w : World) (h : Rlg w lb rv ls fl) (hw : Wl ls) :
    Calls Try.prog 17 #[.pointer (some ⟨lb, 0, none⟩), (.agg #[.int .i64 r.lsn, .int .i64 r.ep, .int .i64 r.kind, .int .i64 r.page, .int .i64 r.other, .int .i64 r.req, .string r.key, .string r.val])] w fun e w' => e = .returned (.tuple #[.int .i64 (apN ls r), .int .i64 (apE ls r)]) ∧
      ∃ rv', Rlg w' lb rv' (apL ls r) fl ∧ Fr (lgS lb rv) w w' ∧ (rv'.ownBlock = rv.ownBlock ∨ ∃ g, rv'.ownBlock = some g ∧ w.heap.size ≤ g) := by
  obtain ⟨iR, hiR, hR0, hR1, hR2⟩ := info_parts infoRec
  have hb := hw.big
  have f0 := Fr.box w (.cells #[.int .i64 r.lsn, .int .i64 r.ep, .int .i64 r.kind, .int .i64 r.page, .int .i64 r.other, .int .i64 r.req, .string r.key, .string r.val] 47)
  have hla := rlast_lg lb rv ls fl _ (h.same f0) hb
  have HB0 : Hid (∀ W, Fr (fun _ => False) (w.alloc (.cells #[.int .i64 r.lsn, .int .i64 r.ep, .int .i64 r.kind, .int .i64 r.page, .int .i64 r.other, .int .i64 r.req, .string r.key, .string r.val] 47)) W → W.heap[w.heap.size]? = some (.cells #[.int .i64 r.lsn, .int .i64 r.ep, .int .i64 r.kind, .int .i64 r.page, .int .i64 r.other, .int .i64 r.req, .string r.key, .string r.val] 47 (0, 0))) := fun W f => rec_at w _ _ f
  obtain ⟨rb, hrb⟩ : ∃ rb, rb = w.heap.size := ⟨_, rfl⟩
  have HRB : Hid (rb = w.heap.size) := hrb
  rw [← hrb] at HB0
  obtain ⟨rn, hrn⟩ : ∃ rn, rn = nx ls r := ⟨_, rfl⟩
  have HRN : Hid (rn = nx ls r) := hrn
  have e1 : IntKind.i64.wrap ((ls.length : Int) + 1) = (ls.length : Int) + 1 := by simp [IntKind.wrap, IntKind.bits, IntKind.signed]; omega
  have HSET : Hid (∀ W : World, W.heap[rb]? = some (.cells #[.int .i64 r.lsn, .int .i64 r.ep, .int .i64 r.kind, .int .i64 r.page, .int .i64 r.other, .int .i64 r.req, .string r.key, .string r.val] 47 (0, 0)) → (W.setCell ⟨rb, 0, none⟩ (.int .i64 ((ls.length : Int) + 1))).heap[rb]? = some (.cells #[.int .i64 rn.lsn, .int .i64 rn.ep, .int .i64 rn.kind, .int .i64 rn.page, .int .i64 rn.other, .int .i64 rn.req, .string rn.key, .string rn.val] 47 (0, 0))) := fun W h => by
    rw [hrn]; exact rec_setCell0 h
  have HRV : Hid ((Value.agg #[.int .i64 rn.lsn, .int .i64 rn.ep, .int .i64 rn.kind, .int .i64 rn.page, .int .i64 rn.other, .int .i64 rn.req, .string rn.key, .string rn.val]) = .agg #[.int .i64 ((ls.length : Int) + 1), .int .i64 r.ep, .int .i64 r.kind, .int .i64 r.page, .int .i64 r.other, .int .i64 r.req, .string r.key, .string r.val]) := by show _ = _; rw [hrn]; rfl
  have HEP : Hid (r.ep = rn.ep) := by show _ = _; rw [hrn]; rfl
  have HLS : Hid (rn.lsn = (ls.length : Int) + 1) := by show _ = _; rw [hrn]; rfl
  clear hrn
  have hrt := fun W => right_any rn W
  have hlbw : lb < rb := by rw [hrb]; exact lt_of_block h.box
  have hown : Hid (∀ k, rv.ownBlock = some k → k < rb) := fun k e => by rw [hrb]; exact h.has.lt e
  clear hrb
  have HE : Hid (apE ls r = if rok rn = true then refus ls rn.ep else 90) := by show _ = _; unfold apE; rw [← HRN.out, ← HEP.out]
  have HN : Hid (apN ls r = if apE ls r = 0 then rn.lsn else 0) := by show _ = _; unfold apN; rw [HLS.out]
  have HL : Hid (apL ls r = if apE ls r = 0 then ls ++ [rn] else ls) := by show _ = _; unfold apL; rw [← HRN.out]
  have HRF : Hid (refus ls rn.ep = if rn.ep < lastE ls then 100 else if ls.length = 65536 then 5 else 0) := rfl
  generalize lastE ls = le at *
  go_enter Try.func17, Try.ntmps17
  go_wp2_with fail
  refine hla.mono ?_
  clear hla
  rintro e w1 ⟨rfl, f1⟩
  have hx1 := HB0.out _ f1
  have hx2 := HSET.out _ hx1
  have F1 : Fr (fun _ => False) w w1 := f0.seq' f1
  have F2 : Fr (fun _ => False) w (w1.setCell ⟨rb, 0, none⟩ (.int .i64 ((ls.length : Int) + 1))) := F1.setCell (p := ⟨rb, 0, none⟩) (fun hh => by dsimp only at hh; have := HRB.out; omega) _
  obtain ⟨W2, hW2⟩ : ∃ W, W = w1.setCell ⟨rb, 0, none⟩ (.int .i64 ((ls.length : Int) + 1)) := ⟨_, rfl⟩
  have HW2 : Hid (w1.setCell ⟨rb, 0, none⟩ (.int .i64 ((ls.length : Int) + 1)) = W2) := hW2.symm
  rw [← hW2] at hx2 F2
  clear hW2
  have HX : Hid (∀ W, Fr (fun _ => False) W2 W → W.heap[rb]? = some (.cells #[.int .i64 rn.lsn, .int .i64 rn.ep, .int .i64 rn.kind, .int .i64 rn.page, .int .i64 rn.other, .int .i64 rn.req, .string rn.key, .string rn.val] 47 (0, 0))) := fun W f => by rw [f.block rb (lt_of_block hx2) (fun f => f)]; exact hx2
  obtain ⟨⟨a0, a1, a2, a3, a4, a5, a6, a7⟩, za⟩ := rec_cells hx1
  obtain ⟨⟨b0, b1, b2, b3, b4, b5, b6, b7⟩, zb⟩ := rec_cells hx2
  rw [← HRB.out]
  clear hx1 hx2 f0
  go_upto_region 3 with fail
  rw [HW2.out]
  clear a0 a1 a2 a3 a4 a5 a6 a7 za
  go_wp2_with fail
  refine (hrt _).mono ?_
  clear hrt
  rintro e w3 ⟨rfl, f3⟩
  clear b0 b1 b2 b3 b4 b5 b6 b7 zb
  have hx3 := HX.out _ f3
  have F3 := F2.seq' f3
  obtain ⟨⟨c0, c1, c2, c3, c4, c5, c6, c7⟩, zc⟩ := rec_cells hx3
  by_cases hok : rok rn = true
  · rw [hok]
    rw [if_pos hok] at HE
    by_cases hlt : rn.ep < le
    · rw [if_pos hlt] at HRF
      have HZ : Hid (apE ls r = 100) := by show _ = _; rw [HE.out, HRF.out]
      have HN' : Hid (apN ls r = 0) := by show _ = _; rw [HN.out, HZ.out, if_neg (by decide)]
      have HL' : Hid (apL ls r = ls) := by show _ = _; rw [HL.out, HZ.out, if_neg (by decide)]
      clear hok HE HN HL
      go_wp2
      go_ret2
      rw [HZ.out, HN'.out, HL'.out]
      exact ⟨rfl, rv, h.same F3, F3.mono (fun _ _ f => f.elim), .inl rfl⟩
    · rw [if_neg hlt] at HRF
      by_cases hfu : ls.length = 65536
      · rw [if_pos hfu] at HRF
        have HZ : Hid (apE ls r = 5) := by show _ = _; rw [HE.out, HRF.out]
        have HN' : Hid (apN ls r = 0) := by show _ = _; rw [HN.out, HZ.out, if_neg (by decide)]
        have HL' : Hid (apL ls r = ls) := by show _ = _; rw [HL.out, HZ.out, if_neg (by decide)]
        have hge : (65536 : Int) ≤ (ls.length : Int) := by omega
        clear hok HE HN HL hfu
        go_wp2
        go_ret2
        rw [HZ.out, HN'.out, HL'.out]
        exact ⟨rfl, rv, h.same F3, F3.mono (fun _ _ f => f.elim), .inl rfl⟩
      · rw [if_neg hfu] at HRF
        have HZ : Hid (apE ls r = 0) := by show _ = _; rw [HE.out, HRF.out]
        have HN' : Hid (apN ls r = rn.lsn) := by show _ = _; rw [HN.out, HZ.out, if_pos rfl]
        have HL' : Hid (apL ls r = ls ++ [rn]) := by show _ = _; rw [HL.out, HZ.out, if_pos rfl]
        have hge : decide ((65536 : Int) ≤ (ls.length : Int)) = false := decide_eq_false (by omega)
        have HLT : Hid (ls.length < 65536) := by show _ < _; omega
        clear hok HE HN HL hfu hb
        go_upto_region 9 with fail
        have hls := HLT.out
        clear hx3
        have h3 := h.same F3
        obtain ⟨k0, k1, z0, z1⟩ := cell_of_two h3.box
        obtain ⟨a, c, rfl, _, _⟩ := h.has.slice
        have F4 : Fr (fun _ => False) w ((w3.alloc (.cells #[.int .i64 rn.lsn, .int .i64 rn.ep, .int .i64 rn.kind, .int .i64 rn.page, .int .i64 rn.other, .int .i64 rn.req, .string rn.key, .string rn.val] 47)).drew) := (F3.alloc _).drew
        have G4 : Fr (fun _ => False) W2 ((w3.alloc (.cells #[.int .i64 rn.lsn, .int .i64 rn.ep, .int .i64 rn.kind, .int .i64 rn.page, .int .i64 rn.other, .int .i64 rn.req, .string rn.key, .string rn.val] 47)).drew) := (f3.alloc _).drew
        have h4 := h.same F4
        have hrow := h4.has
        have hbx := h4.box
        have hnews : From ((w3.alloc (.cells #[.int .i64 rn.lsn, .int .i64 rn.ep, .int .i64 rn.kind, .int .i64 rn.page, .int .i64 rn.other, .int .i64 rn.req, .string rn.key, .string rn.val] 47)).drew) (some ⟨w3.heap.size, 0, none⟩) (recC rn) := .inr ⟨_, _, rfl, range_block (w := (w3.alloc _).drew) (heap_alloc_new w3 _) (fun j v hv => by rw [Nat.zero_add]; simpa [recC] using hv)⟩
        have HHB : Hid (∀ w5, Fr (fun k => (Value.slice a ls.length c).ownBlock = some k ∧ 0 < 1) ((w3.alloc (.cells #[.int .i64 rn.lsn, .int .i64 rn.ep, .int .i64 rn.kind, .int .i64 rn.page, .int .i64 rn.other, .int .i64 rn.req, .string rn.key, .string rn.val] 47)).drew) w5 → w5.heap[lb]? = some (.cells #[.slice a ls.length c, .int .i64 fl] 45 (0, 0)) ∧ w5.cell? ⟨rb, 0, none⟩ = some (.int .i64 rn.lsn) ∧ w5.cell? ⟨rb, 1, none⟩ = some (.int .i64 rn.ep) ∧ w5.cell? ⟨rb, 2, none⟩ = some (.int .i64 rn.kind) ∧ w5.cell? ⟨rb, 3, none⟩ = some (.int .i64 rn.page) ∧ w5.cell? ⟨rb, 4, none⟩ = some (.int .i64 rn.other) ∧ w5.cell? ⟨rb, 5, none⟩ = some (.int .i64 rn.req) ∧ w5.cell? ⟨rb, 6, none⟩ = some (.string rn.key) ∧ w5.cell? ⟨rb, 7, none⟩ = some (.string rn.val)) := fun w5 f => by
          refine ⟨by rw [f.block lb (lt_of_block hbx) (fun e => by have := h.own lb e.1; omega)]; exact hbx, ?_⟩
          have hxx := HX.out _ G4
          refine (rec_cells (w' := w5) (t := 47) ?_).1
          rw [f.block rb (lt_of_block hxx) (fun e => by have := hown.out _ e.1; omega)]
          exact hxx
        obtain ⟨y0, y1, y2, y3⟩ := cell_of_two hbx
        obtain ⟨⟨t0, t1, t2, t3, t4, t5, t6, t7⟩, _⟩ := rec_cells (HX.out _ G4)
        go_region_law
          ((refine step_append_has _ (by rfl) _ _ 22 22 47 47 (by rfl) iR _ 8 80 Try.underlying22 Try.underlying22 hiR hR0 hR1 hR2 rfl (by omega) (.slice a ls.length c) ls.length (ls.flatMap recC) (by rfl) hrow
              (some ⟨w3.heap.size, 0, none⟩) 1 1 (recC rn) (by rfl) (by rfl) hnews (recC_one rn) (by unfold maxLen; omega) (by omega) ?_; intro a' c' w5 hown5 hfr hat; obtain ⟨hb5, d0, d1, d2, d3, d4, d5, d6, d7⟩ := HHB.out _ hfr; obtain ⟨k5, k6, z5, z6⟩ := cell_of_two hb5))
        all_goals
          have hn1 : ¬ lb = rb := by omega
          have hn2 : ¬ rb = lb := by omega
          have hp := h.push F4 hfr (ls' := ls ++ [rn]) (by rw [List.length_append, List.flatMap_append]; simpa using hown5) hat
          go_wp2
          go_ret2
          rw [HZ.out, HN'.out, HL'.out]
          exact ⟨rfl, _, hp⟩
  · have hokf : rok rn = false := by simpa using hok
    rw [hokf]
    rw [if_neg hok] at HE
    have HN' : Hid (apN ls r = 0) := by show _ = _; rw [HN.out, HE.out, if_neg (by decide)]
    have HL' : Hid (apL ls r = ls) := by show _ = _; rw [HL.out, HE.out, if_neg (by decide)]
    clear hok hokf HN HL
    go_wp2
    go_ret2
    rw [HE.out, HN'.out, HL'.out]
    exact ⟨rfl, rv, h.same F3, F3.mono (fun _ _ f => f.elim), .inl rfl⟩

/-- Flush and Cut: up to where. -/
def fuE (ls : List Rec) (n : Int) : Int := if 0 ≤ n ∧ n ≤ ls.length then 0 else 1
def fuF (ls : List Rec) (fl n : Int) : Int := if 0 ≤ n ∧ n ≤ ls.length then max fl n else fl
end Go.Proofs.Ytimpoincnfiibaa
