
/- A log of some records, and the document's. -/
import Derived.Test.YtimpoincnfiibaaShLg
import Derived.Test.YtimpoincnfiibaaShWrApp
namespace Go.Proofs.Ytimpoincnfiibaa
open Go.RowKit Crcm

/-- The log that records make. -/
def bthL (rs : List Rec) : List Rec := rs.foldl apL []
theorem bth_next {rs : List Rec} {k : Nat} {r : Rec} (h : rs[k]? = some r) : bthL (rs.take (k + 1)) = apL (bthL (rs.take k)) r := by
  unfold bthL
  rw [List.take_succ_eq_append_getElem (List.getElem?_eq_some_iff.1 h).1, (List.getElem?_eq_some_iff.1 h).2, List.foldl_append]
  rfl
theorem bth_wl (rs : List Rec) : Wl (bthL rs) := by
  have key : ∀ (rs : List Rec) (l : List Rec), Wl l → Wl (rs.foldl apL l) := by
    intro rs
    induction rs with
    | nil => intro l h; exact h
    | cons r rs ih => intro l h; exact ih _ (wl_ap h r)
  exact key rs [] wl_nil
/-- Two logs side by side, both made since w. -/
structure Bth (w wr : World) (rv rrv : Value) (L : List Rec) : Prop where
  lg : Lg wr w.heap.size rv L 0
  rlg : Rlg wr (w.heap.size + 1) rrv L 0
  o1 : ∀ g, rv.ownBlock = some g → w.heap.size + 1 < g ∧ rrv.ownBlock ≠ some g
  o2 : ∀ g, rrv.ownBlock = some g → w.heap.size + 1 < g
  fr : Fr (fun _ => False) w wr
theorem Bth.same {w wr wr' : World} {rv rrv : Value} {L : List Rec} (h : Bth w wr rv rrv L) (f : Fr (fun _ => False) wr wr') : Bth w wr' rv rrv L := ⟨h.lg.same f, h.rlg.same f, h.o1, h.o2, h.fr.seq' f⟩
/-- The first log has taken a step. -/
structure Mdl (w wr : World) (rv rrv : Value) (L L' : List Rec) : Prop where
  lg : Lg wr w.heap.size rv L' 0
  rlg : Rlg wr (w.heap.size + 1) rrv L 0
  o1 : ∀ g, rv.ownBlock = some g → w.heap.size + 1 < g ∧ rrv.ownBlock ≠ some g
  o2 : ∀ g, rrv.ownBlock = some g → w.heap.size + 1 < g
  fr : Fr (fun _ => False) w wr
theorem Bth.first {w wr w1 : World} {rv rrv : Value} {L L' : List Rec} (h : Bth w wr rv rrv L) (t : LgTo wr w.heap.size rv L' w1) : ∃ rv1, Mdl w w1 rv1 rrv L L' := by
  obtain ⟨rv1, h1, h2, h3⟩ := t
  have z1 := lt_of_block h.rlg.box
  refine ⟨rv1, h1, h.rlg.fr h2 ?_ ?_, fun g e => ?_, h.o2, h.fr.trans h2 ?_⟩
  · rintro (e | e)
    · omega
    · have := (h.o1 _ e).1; omega
  · rintro k hk (e | e)
    · have := h.o2 k hk; omega
    · exact (h.o1 k e).2 hk
  · rcases h3 with h3 | ⟨g', h3, hg⟩
    · exact h.o1 g (by rw [← h3]; exact e)
    · rw [e] at h3; cases h3
      refine ⟨by omega, fun e2 => ?_⟩
      have := h.rlg.has.lt e2; omega
  · rintro i hi (e | e)
    · omega
    · have := (h.o1 i e).1; omega
theorem Mdl.same {w wr wr' : World} {rv rrv : Value} {L L' : List Rec} (h : Mdl w wr rv rrv L L') (f : Fr (fun _ => False) wr wr') : Mdl w wr' rv rrv L L' := ⟨h.lg.same f, h.rlg.same f, h.o1, h.o2, h.fr.seq' f⟩
/-- What becomes of the document's log. -/
def Ow (w : World) (rv rv' : Value) : Prop := ∀ g, rv'.ownBlock = some g → rv.ownBlock = some g ∨ w.heap.size ≤ g
def RgTo (w : World) (lb : Nat) (rv : Value) (ls : List Rec) (w' : World) : Prop := ∃ rv', Rlg w' lb rv' ls 0 ∧ Fr (lgS lb rv) w w' ∧ Ow w rv rv'
theorem ow_of {w : World} {rv rv' : Value} (h : rv'.ownBlock = rv.ownBlock ∨ ∃ g, rv'.ownBlock = some g ∧ w.heap.size ≤ g) : Ow w rv rv' := fun g e => by
  rcases h with h | ⟨g', h, hg⟩
  · exact .inl (by rw [← h]; exact e)
  · rw [e] at h; cases h; exact .inr hg
theorem rg_of {w : World} {lb : Nat} {rv : Value} {ls : List Rec} {w' : World} (h : ∃ rv', Rlg w' lb rv' ls 0 ∧ Fr (lgS lb rv) w w' ∧ (rv'.ownBlock = rv.ownBlock ∨ ∃ g, rv'.ownBlock = some g ∧ w.heap.size ≤ g)) : RgTo w lb rv ls w' := by
  obtain ⟨rv', h1, h2, h3⟩ := h
  exact ⟨rv', h1, h2, ow_of h3⟩
theorem Mdl.second {w wr w1 : World} {rv rrv : Value} {L L' : List Rec} (h : Mdl w wr rv rrv L L') (t : RgTo wr (w.heap.size + 1) rrv L' w1) : ∃ rrv1, Bth w w1 rv rrv1 L' := by
  obtain ⟨rv1, h1, h2, h3⟩ := t
  have z1 := lt_of_block h.rlg.box
  refine ⟨rv1, h.lg.fr h2 ?_ ?_, h1, fun g e => ⟨(h.o1 g e).1, fun e2 => ?_⟩, fun g e => ?_, h.fr.trans h2 ?_⟩
  · rintro (e | e)
    · omega
    · have := h.o2 _ e; omega
  · rintro k hk (e | e)
    · have := (h.o1 k hk).1; omega
    · exact (h.o1 k hk).2 e
  · rcases h3 g e2 with h3 | hg
    · exact (h.o1 g e).2 h3
    · have := h.lg.has.lt e; omega
  · rcases h3 g e with h3 | hg
    · exact h.o2 g h3
    · omega
  · rintro i hi (e | e)
    · omega
    · have := h.o2 i e; omega
theorem frF_whole {T : List Rec} (h : T.length ≤ 65536) : frF T 1 100000 = T := by
  unfold frF
  rw [if_neg (by omega)]
  have h0 : (max (1 : Int) 1 - 1).toNat = 0 := by decide
  have h1 : ((100000 : Int).toNat) = 100000 := by decide
  rw [h0, List.drop_zero, h1, List.take_of_length_le (by omega)]
def BoOut (w : World) (rs : List Rec) (e : Ending) (w' : World) : Prop := ∃ rv rrv, e = .returned (.tuple #[.pointer (some ⟨w.heap.size, 0, none⟩), .pointer (some ⟨w.heap.size + 1, 0, none⟩)]) ∧ Bth w w' rv rrv (bthL rs)
set_option maxRecDepth 100000 in
set_option maxHeartbeats 4000000 in
theorem both_any (a : Option Addr) (n c : Nat) (rs : List Rec) (hn : n = rs.length) (w : World) (h : Recs w a c rs) : Calls Try.prog 4 #[.slice a n c] w (BoOut w rs) := by
  have hle : n ≤ c := by rw [hn]; exact h.le
  have hmx := h.max
  have HN : Hid (n = rs.length) := hn
  have HS : Hid (∀ W, Fr (fun _ => False) w W → Recs W a c rs) := fun W f => h.same f
  have hnw := wnew_any w
  clear h hn
  go_enter Try.func4, Try.ntmps4
  go_wp2_with fail
  refine hnw.mono ?_
  rintro e w1 ⟨rfl, l1, f1, z1⟩
  have B0 : Bth w (w1.alloc (.cells #[.slice none 0 0, .int .i64 0] 45)) (.slice none 0 0) (.slice none 0 0) [] := by
    have hb := heap_alloc_new w1 (.cells #[.slice none 0 0, .int .i64 0] 45)
    rw [z1] at hb
    exact ⟨l1.same (Fr.box _ _), ⟨hb, Has.nil _ _, fun g e => by cases e⟩, (fun g e => by cases e), (fun g e => by cases e), f1.seq' (Fr.box _ _)⟩
  have HB0 : Hid (Bth w (w1.alloc (.cells #[.slice none 0 0, .int .i64 0] 45)) (.slice none 0 0) (.slice none 0 0) []) := B0
  clear l1 f1 B0 hnw
  go_wp2
  generalize w1.alloc (.cells #[.slice none 0 0, .int .i64 0] 45) = V at *
  clear z1
  go_loopw [13] (fun i wr => ∃ (k : Nat) (rv rrv : Value), k ≤ n ∧ i = .int .i64 k ∧ Hid (Bth w wr rv rrv (bthL (rs.take k)))) (fun i _ => n - (intOf i).toNat)
  case atStart => exact ⟨0, _, _, by omega, rfl, HB0⟩
  case round =>
    obtain ⟨k, rv, rrv, hk, rfl, HB⟩ := hrel
    by_cases hlt : k < n
    · obtain ⟨r, hr⟩ : ∃ r, rs[k]? = some r := ⟨_, List.getElem?_eq_getElem (by have := HN.out; omega)⟩
      obtain ⟨b, off, rfl, hb, hc⟩ := (HS.out _ HB.out.fr).some (by have := HN.out; omega)
      obtain ⟨q0, q1, q2, q3, q4, q5, q6, q7⟩ := rec_range (hc k r hr)
      have hki : (k : Int) < (n : Int) := by omega
      have HNX : Hid (bthL (rs.take (k + 1)) = apL (bthL (rs.take k)) r) := bth_next hr
      have HWL : Hid (Wl (bthL (rs.take k))) := bth_wl _
      generalize bthL (rs.take k) = L at *
      have fB := Fr.box wr (.cells #[.int .i64 r.lsn, .int .i64 r.ep, .int .i64 r.kind, .int .i64 r.page, .int .i64 r.other, .int .i64 r.req, .string r.key, .string r.val] 47)
      have B1 := HB.out.same fB
      have hap := append_lg r w.heap.size rv L 0 _ B1.lg HWL.out
      have HBX : Hid ((wr.alloc (.cells #[.int .i64 r.lsn, .int .i64 r.ep, .int .i64 r.kind, .int .i64 r.page, .int .i64 r.other, .int .i64 r.req, .string r.key, .string r.val] 47)).heap[wr.heap.size]? = some (.cells #[.int .i64 r.lsn, .int .i64 r.ep, .int .i64 r.kind, .int .i64 r.page, .int .i64 r.other, .int .i64 r.req, .string r.key, .string r.val] 47 (0, 0))) := heap_alloc_new wr _
      obtain ⟨⟨d0, d1, d2, d3, d4, d5, d6, d7⟩, _⟩ := rec_cells HBX.out
      have HB1 : Hid (Bth w (wr.alloc (.cells #[.int .i64 r.lsn, .int .i64 r.ep, .int .i64 r.kind, .int .i64 r.page, .int .i64 r.other, .int .i64 r.req, .string r.key, .string r.val] 47)) rv rrv L) := B1
      have HOL : Hid (∀ k, lgS w.heap.size rv k → k < wr.heap.size) := fun k e => by
        rcases e with e | e
        · rw [e]; exact lt_of_block HB.out.lg.box
        · exact HB.out.lg.has.lt e
      clear hc hr B1 HB fB
      go_wp2_with fail
      refine hap.mono ?_
      rintro e w2 ⟨rfl, hto⟩
      have hbx2 : w2.heap[wr.heap.size]? = some (.cells #[.int .i64 r.lsn, .int .i64 r.ep, .int .i64 r.kind, .int .i64 r.page, .int .i64 r.other, .int .i64 r.req, .string r.key, .string r.val] 47 (0, 0)) := by
        obtain ⟨_, _, f2, _⟩ := hto
        rw [f2.block _ (by simp) (fun e => by have := HOL.out _ e; omega)]
        exact HBX.out
      obtain ⟨rv1, M1⟩ := HB1.out.first hto
      clear d0 d1 d2 d3 d4 d5 d6 d7 hap hto
      obtain ⟨⟨d0, d1, d2, d3, d4, d5, d6, d7⟩, _⟩ := rec_cells hbx2
      have hrap := rappend_lg r (w.heap.size + 1) rrv L 0 _ M1.rlg HWL.out
      have HM1 : Hid (Mdl w w2 rv1 rrv L (apL L r)) := M1
      clear M1 hbx2
      go_wp2_with fail
      refine hrap.mono ?_
      rintro e w3 ⟨rfl, hto⟩
      obtain ⟨rrv1, B3⟩ := HM1.out.second (rg_of hto)
      have HB3 : Hid (Bth w w3 rv1 rrv1 (bthL (rs.take (k + 1)))) := by show Bth _ _ _ _ _; rw [HNX.out]; exact B3
      clear hto B3 hrap
      go_wp2
      go_roundw
      case rel => exact ⟨k + 1, rv1, rrv1, by omega, by go_num, HB3⟩
      case measure => simp [intOf]; omega
    · have hki : decide ((k : Int) < (n : Int)) = false := decide_eq_false (by omega)
      have HB3 : Hid (Bth w wr rv rrv (bthL rs)) := by
        have := HB.out
        rw [List.take_of_length_le (by have := HN.out; omega)] at this
        exact this
      clear HB
      go_wp2
      go_ret2
      exact ⟨rv, rrv, rfl, HB3.out⟩
end Go.Proofs.Ytimpoincnfiibaa
