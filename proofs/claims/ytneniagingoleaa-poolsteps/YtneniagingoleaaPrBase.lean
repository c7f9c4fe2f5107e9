
/- The document's own pool in memory: its small functions. -/
import Derived.Test.YtneniagingoleaaPlRest
import Derived.Test.YtneniagingoleaaHas
namespace Go.Proofs.Ytneniagingoleaa
open Go.RowKit

/-- A page that is held, as the document has it. -/
structure Fm where
  page : Int
  pins : Int
  lsn : Int
  first : Int
  dirty : Bool
def fmC (f : Fm) : List Value := [.int .i64 f.page, .int .i64 f.pins, .int .i64 f.lsn, .int .i64 f.first, .bool f.dirty]
theorem fmC_length (f : Fm) : (fmC f).length = 5 := rfl
theorem fmC_one (f : Fm) : ∀ u ∈ fmC f, u.oneCell' = true := by
  intro u hu
  simp only [fmC, List.mem_cons, List.not_mem_nil, or_false] at hu
  rcases hu with h | h | h | h | h <;> (subst h; rfl)
theorem fm_range {w : World} {b o : Nat} {f : Fm} (h : w.rangeAt b o (fmC f)) : w.cell? ⟨b, o, none⟩ = some (.int .i64 f.page) ∧ w.cell? ⟨b, o + 1, none⟩ = some (.int .i64 f.pins) ∧ w.cell? ⟨b, o + 2, none⟩ = some (.int .i64 f.lsn) ∧ w.cell? ⟨b, o + 3, none⟩ = some (.int .i64 f.first) ∧ w.cell? ⟨b, o + 4, none⟩ = some (.bool f.dirty) :=
  ⟨h 0 _ rfl, h 1 _ rfl, h 2 _ rfl, h 3 _ rfl, h 4 _ rfl⟩
theorem rp_cells {w : World} {b : Nat} {t : TypeId} {c0 c1 c2 : Value} (h : w.heap[b]? = some (.cells #[c0, c1, c2] t (0, 0))) :
    (w.cell? ⟨b, 0, none⟩ = some c0 ∧ w.cell? ⟨b, 1, none⟩ = some c1 ∧ w.cell? ⟨b, 2, none⟩ = some c2) ∧ ∀ j, w.frozen? ⟨b, j, none⟩ = false := by
  refine ⟨⟨?_, ?_, ?_⟩, fun j => ?_⟩
  all_goals simp [World.cell?, World.frozen?, h]
theorem rp_setCell {w : World} {b : Nat} {t : TypeId} {c0 c1 c2 : Value} {j : Nat} (h : w.heap[b]? = some (.cells #[c0, c1, c2] t (0, 0))) (x : Value) :
    (w.setCell ⟨b, j, none⟩ x).heap[b]? = some (.cells (#[c0, c1, c2].setIfInBounds j x) t (0, 0)) := by
  have hlt := lt_of_block h
  have h' : w.heap[b] = .cells #[c0, c1, c2] t (0, 0) := by simpa [Array.getElem?_eq_getElem hlt] using h
  show (w.heap.modify b _)[b]? = _
  rw [Array.getElem?_eq_getElem (by simpa using hlt), Array.getElem_modify_self, h']
  rfl
/-- The pool at block pb, its pages in the row rv. -/
structure Rp (w : World) (pb : Nat) (fr fl : Int) (rv : Value) (L : List Fm) : Prop where
  box : w.heap[pb]? = some (.cells #[.int .i64 fr, .int .i64 fl, rv] 57 (0, 0))
  has : Has w 5 rv L.length (L.flatMap fmC)
  own : ∀ g, rv.ownBlock = some g → g ≠ pb
  few : L.length ≤ 1000
def rpS (pb : Nat) (rv : Value) : Nat → Prop := fun k => k = pb ∨ rv.ownBlock = some k
theorem Rp.fr {w w' : World} {pb : Nat} {fr fl : Int} {rv : Value} {L : List Fm} {S : Nat → Prop} (h : Rp w pb fr fl rv L) (f : Fr S w w') (h1 : ¬ S pb) (h2 : ∀ k, rv.ownBlock = some k → ¬ S k) : Rp w' pb fr fl rv L :=
  ⟨by rw [f.block pb (lt_of_block h.box) h1]; exact h.box, h.has.fr f h2, h.own, h.few⟩
section
variable {w w' : World} {pb : Nat} {fr fl : Int} {rv : Value} {L : List Fm}
theorem Rp.same (h : Rp w pb fr fl rv L) (f : Fr (fun _ => False) w w') : Rp w' pb fr fl rv L := h.fr f (fun f => f) (fun _ _ f => f)
theorem Rp.setFl (h : Rp w pb fr fl rv L) (x : Int) : Rp (w.setCell ⟨pb, 1, none⟩ (.int .i64 x)) pb fr x rv L ∧ Fr (fun k => k = pb) w (w.setCell ⟨pb, 1, none⟩ (.int .i64 x)) := by
  have fs : Fr (fun k => k = pb) w (w.setCell ⟨pb, 1, none⟩ (.int .i64 x)) := (Fr.refl (fun k => k = pb) w).setCell (p := ⟨pb, 1, none⟩) (fun _ => rfl) _
  exact ⟨⟨rp_setCell (j := 1) h.box _, h.has.fr fs h.own, h.own, h.few⟩, fs⟩
end
/-- Where a page stands; how many there are: nowhere. -/
def fI : List Fm → Int → Nat
  | [], _ => 0
  | f :: l, x => if f.page = x then 0 else fI l x + 1
theorem fI_le (L : List Fm) (x : Int) : fI L x ≤ L.length := by
  induction L with
  | nil => exact Nat.le_refl _
  | cons f l ih => unfold fI; split <;> simp <;> omega
theorem fI_drop {L : List Fm} {x : Int} {j : Nat} {f : Fm} (h : L[j]? = some f) : fI (L.drop j) x = if f.page = x then 0 else fI (L.drop (j + 1)) x + 1 := by
  have hj := (List.getElem?_eq_some_iff.1 h).1
  rw [List.drop_eq_getElem_cons hj, (List.getElem?_eq_some_iff.1 h).2]
  rfl
theorem fI_hit {L : List Fm} {x : Int} {f : Fm} (h : L[fI L x]? = some f) : f.page = x := by
  induction L with
  | nil => simp at h
  | cons g l ih =>
    unfold fI at h
    split at h
    · rename_i e; simp at h; rw [← h]; exact e
    · simp at h; exact ih h
def fnI (L : List Fm) (x : Int) : Int := if fI L x < L.length then (fI L x : Int) else -1
section
variable (pb : Nat) (fr fl : Int) (rv : Value) (L : List Fm) (w : World)
set_option maxRecDepth 100000 in
set_option maxHeartbeats 1000000 in
theorem rfind_rp (x : Int) (h : Rp w pb fr fl rv L) : Calls Try.prog 35 #[.pointer (some ⟨pb, 0, none⟩), .int .i64 x] w fun e w' => e = .returned (.int .i64 (fnI L x)) ∧ Fr (fun _ => False) w w' := by
  have HP : Hid (∀ W, Fr (fun _ => False) w W → Rp W pb fr fl rv L) := fun W f => h.same f
  obtain ⟨⟨h0, h1, h2⟩, _⟩ := rp_cells h.box
  have hfew := h.few
  obtain ⟨a, c, rfl, hlc, hcm⟩ := h.has.slice
  have HF : Hid (fnI L x = if fI L x < L.length then (fI L x : Int) else -1) := rfl
  clear h
  go_enter Try.func35, Try.ntmps35
  go_wp2
  go_loopw [12] (fun i wr => ∃ j : Nat, j ≤ L.length ∧ i = .int .i64 j ∧ Hid (fI (L.drop j) x + j = fI L x) ∧ Fr (fun _ => False) w wr) (fun i _ => L.length - (intOf i).toNat)
  case atStart => exact ⟨0, by omega, rfl, rfl, Fr.refl _ _⟩
  case round =>
    obtain ⟨j, hj, rfl, HE, f1⟩ := hrel
    by_cases hlt : j < L.length
    · have hP := HP.out _ f1
      obtain ⟨g, cap, e1, hg, _, _, _, _⟩ := hP.has.form (by omega)
      simp only [Value.slice.injEq, true_and] at e1
      obtain ⟨rfl, rfl⟩ := e1
      obtain ⟨f, hf⟩ : ∃ f, L[j]? = some f := ⟨_, List.getElem?_eq_getElem hlt⟩
      obtain ⟨q0, q1, q2, q3, q4⟩ := fm_range (hP.has.elem fmC_length hf)
      have HD : Hid (fI (L.drop j) x = if f.page = x then 0 else fI (L.drop (j + 1)) x + 1) := fI_drop hf
      have hji : (j : Int) < (L.length : Int) := by omega
      obtain ⟨pg, pi, ls, fi, di⟩ := f
      dsimp only at q0 q1 q2 q3 q4 HD
      have F2 := f1.alloc (.cells #[.int .i64 pg, .int .i64 pi, .int .i64 ls, .int .i64 fi, .bool di] 68)
      clear hf hP
      by_cases hx : pg = x
      · have hxb : (pg == x) = true := by simpa using hx
        have HR : Hid (fnI L x = (j : Int)) := by
          show _ = _
          have e := HE.out
          rw [HD.out, if_pos hx] at e
          rw [HF.out, ← e, if_pos (by omega)]
          simp
        clear hx
        go_wp2
        go_ret
        exact ⟨ret_int HR.out.symm, F2⟩
      · have hxb : (pg == x) = false := by simpa using hx
        have HN : Hid (fI (L.drop (j + 1)) x + (j + 1) = fI L x) := by
          show _ = _
          have e := HE.out
          rw [HD.out, if_neg hx] at e
          omega
        clear hx
        go_wp2
        go_roundw
        case rel => exact ⟨j + 1, by omega, by go_num, HN, F2⟩
        case measure => simp [intOf]; omega
    · obtain rfl : j = L.length := by omega
      have HR : Hid (fnI L x = -1) := by
        show _ = _
        have e := HE.out
        rw [List.drop_length] at e
        rw [HF.out, if_neg (by rw [← e]; simp [fI])]
      go_wp2
      go_ret
      exact ⟨ret_int HR.out.symm, f1⟩
set_option maxRecDepth 100000 in
set_option maxHeartbeats 400000 in
theorem rneed_rp (l : Int) (h : Rp w pb fr fl rv L) : Calls Try.prog 42 #[.pointer (some ⟨pb, 0, none⟩), .int .i64 l] w fun e w' => e = .returned (.int .i64 (needV fl l)) ∧ Rp w' pb fr (flF fl l) rv L ∧ Fr (fun k => k = pb) w w' := by
  obtain ⟨⟨h0, h1, h2⟩, hz⟩ := rp_cells h.box
  have z1 := hz 1
  clear hz
  unfold needV flF
  by_cases hl : l ≤ fl
  · rw [if_pos hl, if_pos hl]
    go_enter Try.func42, Try.ntmps42
    go_wp2
    go_ret
    exact ⟨rfl, h, Fr.refl _ _⟩
  · rw [if_neg hl, if_neg hl]
    obtain ⟨k1, k2⟩ := h.setFl l
    go_enter Try.func42, Try.ntmps42
    go_wp2
    go_ret
    exact ⟨rfl, k1, k2⟩
set_option maxRecDepth 100000 in
set_option maxHeartbeats 400000 in
theorem rflush_rp (l : Int) (h : Rp w pb fr fl rv L) : Calls Try.prog 28 #[.pointer (some ⟨pb, 0, none⟩), .int .i64 l] w fun e w' => e = .returned (.int .i64 (fdE l)) ∧ Rp w' pb fr (fdF fl l) rv L ∧ Fr (fun k => k = pb) w w' := by
  obtain ⟨⟨h0, h1, h2⟩, hz⟩ := rp_cells h.box
  have z1 := hz 1
  clear hz
  unfold fdE fdF
  by_cases hr : 0 ≤ l ∧ l ≤ 1099511627776
  · rw [if_pos hr, if_pos hr]
    have d1 : decide (l < 0) = false := decide_eq_false (by omega)
    have d2 : decide (1099511627776 < l) = false := decide_eq_false (by omega)
    clear hr
    unfold flF
    by_cases hl : l ≤ fl
    · rw [if_pos hl]
      have d3 : decide (fl < l) = false := decide_eq_false (by omega)
      clear hl
      go_enter Try.func28, Try.ntmps28
      go_wp2
      go_ret
      exact ⟨rfl, h, Fr.refl _ _⟩
    · rw [if_neg hl]
      have d3 : decide (fl < l) = true := decide_eq_true (by omega)
      clear hl
      obtain ⟨k1, k2⟩ := h.setFl l
      go_enter Try.func28, Try.ntmps28
      go_wp2
      go_ret
      exact ⟨rfl, k1, k2⟩
  · rw [if_neg hr, if_neg hr]
    by_cases hn : l < 0
    · have d1 : decide (l < 0) = true := decide_eq_true hn
      clear hr hn
      go_enter Try.func28, Try.ntmps28
      go_wp2
      go_ret
      exact ⟨rfl, h, Fr.refl _ _⟩
    · have d1 : decide (l < 0) = false := decide_eq_false hn
      have d2 : decide (1099511627776 < l) = true := decide_eq_true (by omega)
      clear hr hn
      go_enter Try.func28, Try.ntmps28
      go_wp2
      go_ret
      exact ⟨rfl, h, Fr.refl _ _⟩
set_option maxRecDepth 100000 in
set_option maxHeartbeats 1000000 in
theorem rpins_rp (x : Int) (h : Rp w pb fr fl rv L) : Calls Try.prog 17 #[.pointer (some ⟨pb, 0, none⟩), .int .i64 x] w fun e w' => e = .returned (.int .i64 (match L[fI L x]? with | none => 0 | some f => f.pins)) ∧ Fr (fun _ => False) w w' := by
  have HP : Hid (∀ W, Fr (fun _ => False) w W → Rp W pb fr fl rv L) := fun W f => h.same f
  have hfd := rfind_rp pb fr fl rv L w x h
  have hfew := h.few
  clear h
  cases hf : L[fI L x]? with
  | none =>
    have hge : ¬ fI L x < L.length := by rw [List.getElem?_eq_none_iff] at hf; omega
    have e : fnI L x = -1 := if_neg hge
    rw [e] at hfd
    clear e hge hf
    dsimp only
    go_enter Try.func17, Try.ntmps17
    go_wp2_with fail
    refine hfd.mono ?_
    rintro e w1 ⟨rfl, f1⟩
    go_wp2
    go_ret
    exact ⟨rfl, f1⟩
  | some f =>
    have hlt := (List.getElem?_eq_some_iff.1 hf).1
    have e : fnI L x = (fI L x : Int) := if_pos hlt
    rw [e] at hfd
    clear e
    dsimp only
    generalize fI L x = i at *
    have d1 : decide ((i : Int) < 0) = false := decide_eq_false (by omega)
    have hii : (i : Int) < (L.length : Int) := by omega
    have HF : Hid (L[i]? = some f) := hf
    clear hf
    go_enter Try.func17, Try.ntmps17
    go_wp2_with fail
    refine hfd.mono ?_
    rintro e w1 ⟨rfl, f1⟩
    have hP := HP.out _ f1
    obtain ⟨⟨h0, h1, h2⟩, _⟩ := rp_cells hP.box
    obtain ⟨g, cap, rfl, hg, hlc, hcm, _, _⟩ := hP.has.form (by omega)
    obtain ⟨q0, q1, q2, q3, q4⟩ := fm_range (hP.has.elem fmC_length HF.out)
    clear hP hfd
    go_wp2
    go_ret
    exact ⟨rfl, f1⟩
end
end Go.Proofs.Ytneniagingoleaa
