
/- What becomes of a log; which records it has; what taking one record does. -/
import Derived.Test.YtimpoincnfiibaaShFit
import Derived.Test.YtimpoincnfiibaaShWlCut
import Derived.Test.YtimpoincnfiibaaShWrBase
namespace Go.Proofs.Ytimpoincnfiibaa
open Go.RowKit Crcm

/-- A log that becomes another one: only its own blocks, and new ones, are written. -/
def LgTo (w : World) (lb : Nat) (rv : Value) (ls : List Rec) (w' : World) : Prop := ∃ rv', Lg w' lb rv' ls 0 ∧ Fr (lgS lb rv) w w' ∧ (rv'.ownBlock = rv.ownBlock ∨ ∃ g, rv'.ownBlock = some g ∧ w.heap.size ≤ g)
theorem lgS_step {w : World} {lb : Nat} {rv rv' : Value} (h : rv'.ownBlock = rv.ownBlock ∨ ∃ g, rv'.ownBlock = some g ∧ w.heap.size ≤ g) : ∀ i, i < w.heap.size → lgS lb rv' i → lgS lb rv i := by
  rintro i hi (e | e)
  · exact .inl e
  · rcases h with h | ⟨g, h, hg⟩
    · rw [h] at e; exact .inr e
    · rw [h] at e; cases e; omega
theorem own_step {w w' : World} {rv rv1 rv2 : Value} (hz : w.heap.size ≤ w'.heap.size) (h1 : rv1.ownBlock = rv.ownBlock ∨ ∃ g, rv1.ownBlock = some g ∧ w.heap.size ≤ g) (h2 : rv2.ownBlock = rv1.ownBlock ∨ ∃ g, rv2.ownBlock = some g ∧ w'.heap.size ≤ g) : rv2.ownBlock = rv.ownBlock ∨ ∃ g, rv2.ownBlock = some g ∧ w.heap.size ≤ g := by
  rcases h2 with h2 | ⟨g, h2, hg⟩
  · rw [h2]; exact h1
  · exact .inr ⟨g, h2, by omega⟩
theorem LgTo.same {w w1 w2 : World} {lb : Nat} {rv : Value} {ls : List Rec} (h : LgTo w lb rv ls w1) (f : Fr (fun _ => False) w1 w2) : LgTo w lb rv ls w2 := by
  obtain ⟨rv', h1, h2, h3⟩ := h
  exact ⟨rv', h1.same f, h2.trans f (fun _ _ e => e.elim), h3⟩
theorem LgTo.pre {w w1 w2 : World} {lb : Nat} {rv : Value} {ls : List Rec} (f : Fr (fun _ => False) w w1) (h : LgTo w1 lb rv ls w2) : LgTo w lb rv ls w2 := by
  obtain ⟨rv', h1, h2, h3⟩ := h
  exact ⟨rv', h1, (f.mono (fun _ _ e => e.elim)).trans h2 (fun _ _ e => e), own_step f.size (.inl rfl) h3⟩
theorem LgTo.refl {w : World} {lb : Nat} {rv : Value} {ls : List Rec} (h : Lg w lb rv ls 0) : LgTo w lb rv ls w := ⟨rv, h, Fr.refl _ _, .inl rfl⟩

/-- Has a log a record of that Epoch and LSN? -/
def hasB (ls : List Rec) (e l : Int) : Bool := (gtE ls l == 0) && ((gtR ls l).ep == e)
set_option maxRecDepth 100000 in
set_option maxHeartbeats 1000000 in
theorem has_any (e l : Int) (lb : Nat) (rv : Value) (ls : List Rec) (fl : Int) (w : World) (h : Lg w lb rv ls fl) (hm : ls.length ≤ 65536) : Calls Try.prog 33 #[.pointer (some ⟨lb, 0, none⟩), .agg #[.int .i64 e, .int .i64 l]] w fun x w' => x = .returned (.bool (hasB ls e l)) ∧ Fr (fun _ => False) w w' := by
  have f1 := Fr.box w (.cells #[.int .i64 e, .int .i64 l] 36)
  have hg := get_lg l lb rv ls fl _ (h.same f1) hm
  have T := Two.new w 36 (.int .i64 e) (.int .i64 l)
  obtain ⟨x0, x1, _⟩ := T.cells
  have HB : Hid (hasB ls e l = ((gtE ls l == 0) && ((gtR ls l).ep == e))) := rfl
  generalize gtR ls l = r at *
  generalize gtE ls l = E at *
  clear h hm
  obtain ⟨d1, k1⟩ : ∃ b, (E == 0) = b := ⟨_, rfl⟩
  obtain ⟨d2, k2⟩ : ∃ b, (r.ep == e) = b := ⟨_, rfl⟩
  rw [k1, k2] at HB
  go_enter Try.func33, Try.ntmps33
  go_wp2_with fail
  refine hg.mono ?_
  rintro x w1 ⟨rfl, g1⟩
  obtain ⟨y0, y1, _⟩ := (T.fr (g1.seq' (Fr.box w1 (.cells #[.int .i64 r.lsn, .int .i64 r.ep, .int .i64 r.kind, .int .i64 r.page, .int .i64 r.other, .int .i64 r.req, .string r.key, .string r.val] 47))) (fun f => f)).cells
  obtain ⟨⟨c0, c1, c2, c3, c4, c5, c6, c7⟩, _⟩ := rec_cells (heap_alloc_new w1 (.cells #[.int .i64 r.lsn, .int .i64 r.ep, .int .i64 r.kind, .int .i64 r.page, .int .i64 r.other, .int .i64 r.req, .string r.key, .string r.val] 47))
  have F := (f1.seq' g1).seq' (Fr.box w1 (.cells #[.int .i64 r.lsn, .int .i64 r.ep, .int .i64 r.kind, .int .i64 r.page, .int .i64 r.other, .int .i64 r.req, .string r.key, .string r.val] 47))
  cases d1
  · go_wp2
    go_ret
    exact ⟨by rw [HB.out]; rfl, F⟩
  · go_wp2
    go_ret
    exact ⟨by rw [HB.out]; rfl, F⟩
/-- What taking one record does to a log: the log, whether it was cut, why not. -/
def oneL (ls : List Rec) (r : Rec) : List Rec := if hasB ls r.ep r.lsn then ls else if r.lsn ≤ ls.length then apL (ls.take (r.lsn - 1).toNat) r else apL ls r
def oneC (ls : List Rec) (r : Rec) : Bool := if hasB ls r.ep r.lsn then false else decide (r.lsn ≤ ls.length)
def oneE (ls : List Rec) (r : Rec) : Int := if hasB ls r.ep r.lsn then 0 else if r.lsn ≤ ls.length then apE (ls.take (r.lsn - 1).toNat) r else apE ls r
theorem one_wl {ls : List Rec} (h : Wl ls) (r : Rec) : Wl (oneL ls r) := by
  unfold oneL
  split
  · exact h
  · split
    · exact wl_ap (wl_take h _) r
    · exact wl_ap h r
def OneOut (w : World) (lb : Nat) (rv : Value) (ls : List Rec) (r : Rec) (e : Ending) (w' : World) : Prop := e = .returned (.tuple #[.bool (oneC ls r), .int .i64 (oneE ls r)]) ∧ LgTo w lb rv (oneL ls r) w'
set_option maxRecDepth 100000 in
set_option maxHeartbeats 2000000 in
theorem takeOne_any (r : Rec) (hr0 : 1 ≤ r.lsn) (hr1 : r.lsn ≤ 1099511627776) (lb : Nat) (rv : Value) (ls : List Rec) (w : World) (h : Lg w lb rv ls 0) (hw : Wl ls) : Calls Try.prog 24 #[.pointer (some ⟨lb, 0, none⟩), (.agg #[.int .i64 r.lsn, .int .i64 r.ep, .int .i64 r.kind, .int .i64 r.page, .int .i64 r.other, .int .i64 r.req, .string r.key, .string r.val])] w (OneOut w lb rv ls r) := by
  have hm := hw.big
  have f1 := Fr.box w (.cells #[.int .i64 r.lsn, .int .i64 r.ep, .int .i64 r.kind, .int .i64 r.page, .int .i64 r.other, .int .i64 r.req, .string r.key, .string r.val] 47)
  have HB : Hid (∀ W, Fr (fun _ => False) (w.alloc (.cells #[.int .i64 r.lsn, .int .i64 r.ep, .int .i64 r.kind, .int .i64 r.page, .int .i64 r.other, .int .i64 r.req, .string r.key, .string r.val] 47)) W → W.cell? ⟨w.heap.size, 0, none⟩ = some (.int .i64 r.lsn) ∧ W.cell? ⟨w.heap.size, 1, none⟩ = some (.int .i64 r.ep) ∧ W.cell? ⟨w.heap.size, 2, none⟩ = some (.int .i64 r.kind) ∧ W.cell? ⟨w.heap.size, 3, none⟩ = some (.int .i64 r.page) ∧ W.cell? ⟨w.heap.size, 4, none⟩ = some (.int .i64 r.other) ∧ W.cell? ⟨w.heap.size, 5, none⟩ = some (.int .i64 r.req) ∧ W.cell? ⟨w.heap.size, 6, none⟩ = some (.string r.key) ∧ W.cell? ⟨w.heap.size, 7, none⟩ = some (.string r.val)) := fun W f => (rec_cells (rec_at w _ _ f)).1
  have HH : Hid (∀ W, Fr (fun _ => False) w W → Calls Try.prog 33 #[.pointer (some ⟨lb, 0, none⟩), .agg #[.int .i64 r.ep, .int .i64 r.lsn]] W fun x w' => x = .returned (.bool (hasB ls r.ep r.lsn)) ∧ Fr (fun _ => False) W w') := fun W f => has_any r.ep r.lsn lb rv ls 0 W (h.same f) hm
  have HMK : Hid (∀ W, Calls Try.prog 20 #[(.agg #[.int .i64 r.lsn, .int .i64 r.ep, .int .i64 r.kind, .int .i64 r.page, .int .i64 r.other, .int .i64 r.req, .string r.key, .string r.val])] W fun e w' => e = .returned (.agg #[.int .i64 r.ep, .int .i64 r.lsn]) ∧ Fr (fun _ => False) W w') := markOf_any r
  obtain ⟨c0, c1, c2, c3, c4, c5, c6, c7⟩ := HB.out _ (Fr.refl _ _)
  cases hc : hasB ls r.ep r.lsn
  · rw [hc] at HH
    have HL : Hid (∀ W, Fr (fun _ => False) w W → Calls Try.prog 5 #[.pointer (some ⟨lb, 0, none⟩)] W fun e w' => e = .returned (.tuple #[.int .i64 (ls.length : Int), .int .i64 (lastE ls)]) ∧ Fr (fun _ => False) W w') := fun W f => last_lg lb rv ls 0 W (h.same f) hw
    generalize lastE ls = le at *
    by_cases hcut : r.lsn ≤ ls.length
    · have hd : decide (r.lsn ≤ (ls.length : Int)) = true := decide_eq_true hcut
      obtain ⟨m, hm'⟩ : ∃ m : Nat, r.lsn = (m : Int) + 1 := ⟨(r.lsn - 1).toNat, by omega⟩
      have hmle : m ≤ ls.length := by omega
      have hmt : (r.lsn - 1).toNat = m := by omega
      have hw1 : IntKind.i64.wrap (r.lsn - 1) = (m : Int) := by rw [hm']; simp [IntKind.wrap, IntKind.bits, IntKind.signed]; omega
      have HCU : Hid (∀ W, Fr (fun _ => False) w W → Calls Try.prog 36 #[.pointer (some ⟨lb, 0, none⟩), .int .i64 (m : Int)] W fun e w' => e = .returned (.int .i64 0) ∧ LgTo W lb rv (ls.take m) w') := fun W f => (cut_yes m lb rv ls W (h.same f) hm hmle)
      have HAP : Hid (∀ W rv1, Lg W lb rv1 (ls.take m) 0 → Calls Try.prog 16 #[.pointer (some ⟨lb, 0, none⟩), (.agg #[.int .i64 r.lsn, .int .i64 r.ep, .int .i64 r.kind, .int .i64 r.page, .int .i64 r.other, .int .i64 r.req, .string r.key, .string r.val])] W fun e w' => e = .returned (.tuple #[.int .i64 (apN (ls.take m) r), .int .i64 (apE (ls.take m) r)]) ∧ LgTo W lb rv1 (apL (ls.take m) r) w') := fun W rv1 hl => append_lg r lb rv1 (ls.take m) 0 W hl (wl_take hw m)
      have HO : Hid (oneC ls r = true ∧ oneE ls r = apE (ls.take m) r ∧ oneL ls r = apL (ls.take m) r) := by
        refine ⟨?_, ?_, ?_⟩
        · unfold oneC; rw [hc]; exact hd
        · unfold oneE; rw [hc, if_neg (by simp), if_pos hcut, hmt]
        · unfold oneL; rw [hc, if_neg (by simp), if_pos hcut, hmt]
      have HLT : Hid (lb < w.heap.size) := lt_of_block h.box
      have HOW : Hid (∀ g, rv.ownBlock = some g → g < w.heap.size) := fun g e => h.has.lt e
      generalize apN (ls.take m) r = an at *
      generalize apE (ls.take m) r = ae at *
      generalize apL (ls.take m) r = al at *
      clear h hw hm hc hcut hm' hmt hmle
      go_enter Try.func24, Try.ntmps24
      go_wp2_with fail
      refine (HMK.out _).mono ?_
      rintro e w1 ⟨rfl, g1⟩
      go_wp2_with fail
      refine (HH.out _ (f1.seq' g1)).mono ?_
      rintro e w2 ⟨rfl, g2⟩
      have G2 := g1.seq' g2
      go_wp2_with fail
      refine (HL.out _ (f1.seq' G2)).mono ?_
      rintro e w3 ⟨rfl, g3⟩
      have G3 := G2.seq' g3
      clear c0 c1 c2 c3 c4 c5 c6 c7
      obtain ⟨c0, c1, c2, c3, c4, c5, c6, c7⟩ := HB.out _ G3
      go_wp2_with fail
      refine (HCU.out _ (f1.seq' G3)).mono ?_
      rintro e w4 ⟨rfl, rv1, hl1, f4, ho1⟩
      have hbx : w4.heap[w.heap.size]? = some (.cells #[.int .i64 r.lsn, .int .i64 r.ep, .int .i64 r.kind, .int .i64 r.page, .int .i64 r.other, .int .i64 r.req, .string r.key, .string r.val] 47 (0, 0)) := by
        rw [f4.block _ (by have := G3.size; simp at this; omega) (fun e => by
          rcases e with e | e
          · have := HLT.out; omega
          · have := HOW.out _ e; omega)]
        exact rec_at w _ _ G3
      clear c0 c1 c2 c3 c4 c5 c6 c7
      obtain ⟨⟨c0, c1, c2, c3, c4, c5, c6, c7⟩, _⟩ := rec_cells hbx
      go_wp2_with fail
      refine (HAP.out _ _ hl1).mono ?_
      rintro e w5 ⟨rfl, rv2, hl2, f5, ho2⟩
      have F3 := f1.seq' G3
      have HEND : Hid (LgTo w lb rv al w5) := ⟨rv2, hl2, ((F3.mono (fun _ _ e => e.elim)).trans f4 (fun _ _ e => e)).trans f5 (fun i hi e => by
        have hz := F3.size
        exact lgS_step ho1 i (by omega) e), own_step (w' := w3) F3.size (.inl rfl) (own_step f4.size ho1 ho2)⟩
      clear hl1 hl2 f4 f5 ho1 ho2 hbx
      go_wp2
      go_ret2
      refine ⟨?_, ?_⟩
      · rw [HO.out.1, HO.out.2.1]; rfl
      · rw [HO.out.2.2]; exact HEND.out
    · have hd : decide (r.lsn ≤ (ls.length : Int)) = false := decide_eq_false hcut
      have HAP : Hid (∀ W, Fr (fun _ => False) w W → Calls Try.prog 16 #[.pointer (some ⟨lb, 0, none⟩), (.agg #[.int .i64 r.lsn, .int .i64 r.ep, .int .i64 r.kind, .int .i64 r.page, .int .i64 r.other, .int .i64 r.req, .string r.key, .string r.val])] W fun e w' => e = .returned (.tuple #[.int .i64 (apN ls r), .int .i64 (apE ls r)]) ∧ LgTo W lb rv (apL ls r) w') := fun W f => append_lg r lb rv ls 0 W (h.same f) hw
      have HO : Hid (oneC ls r = false ∧ oneE ls r = apE ls r ∧ oneL ls r = apL ls r) := by
        refine ⟨?_, ?_, ?_⟩
        · unfold oneC; rw [hc]; exact hd
        · unfold oneE; rw [hc, if_neg (by simp), if_neg hcut]
        · unfold oneL; rw [hc, if_neg (by simp), if_neg hcut]
      generalize apN ls r = an at *
      generalize apE ls r = ae at *
      generalize apL ls r = al at *
      clear h hw hm hc hcut
      go_enter Try.func24, Try.ntmps24
      go_wp2_with fail
      refine (HMK.out _).mono ?_
      rintro e w1 ⟨rfl, g1⟩
      go_wp2_with fail
      refine (HH.out _ (f1.seq' g1)).mono ?_
      rintro e w2 ⟨rfl, g2⟩
      have G2 := g1.seq' g2
      go_wp2_with fail
      refine (HL.out _ (f1.seq' G2)).mono ?_
      rintro e w3 ⟨rfl, g3⟩
      have G3 := G2.seq' g3
      clear c0 c1 c2 c3 c4 c5 c6 c7
      obtain ⟨c0, c1, c2, c3, c4, c5, c6, c7⟩ := HB.out _ G3
      go_wp2_with fail
      refine (HAP.out _ (f1.seq' G3)).mono ?_
      rintro e w4 ⟨rfl, hto⟩
      have HEND : Hid (LgTo w lb rv al w4) := hto.pre (f1.seq' G3)
      clear hto
      go_wp2
      go_ret2
      refine ⟨?_, ?_⟩
      · rw [HO.out.1, HO.out.2.1]; rfl
      · rw [HO.out.2.2]; exact HEND.out
  · rw [hc] at HH
    have HO : Hid (oneC ls r = false ∧ oneE ls r = 0 ∧ oneL ls r = ls) := by
      refine ⟨?_, ?_, ?_⟩
      · unfold oneC; rw [hc]; rfl
      · unfold oneE; rw [hc]; rfl
      · unfold oneL; rw [hc]; rfl
    have HLG : Hid (Lg w lb rv ls 0) := h
    clear h hw hm hc
    go_enter Try.func24, Try.ntmps24
    go_wp2_with fail
    refine (HMK.out _).mono ?_
    rintro e w1 ⟨rfl, g1⟩
    go_wp2_with fail
    refine (HH.out _ (f1.seq' g1)).mono ?_
    rintro e w2 ⟨rfl, g2⟩
    go_wp2
    go_ret2
    refine ⟨?_, ?_⟩
    · rw [HO.out.1, HO.out.2.1]; rfl
    · rw [HO.out.2.2]; exact (LgTo.refl HLG.out).same ((f1.seq' g1).seq' g2)
end Go.Proofs.Ytimpoincnfiibaa
