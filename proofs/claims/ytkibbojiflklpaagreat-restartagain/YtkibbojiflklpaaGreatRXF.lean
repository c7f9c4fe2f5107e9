
/- RsTold, RsRoot. -/
import Derived.Test.YtkibbojiflklpaaGreatRXD
import Derived.Test.YtkibbojiflklpaaGreatRXE
/- Restart: the pages of all whole images, and the numbers of all that are torn. -/
namespace Go.Proofs.YtkibbojiflklpaaGreat
open Go.RowKit

def tolP (ls : List Im) : List (Int × Nd) := ls.flatMap (fun i => match decF i.bs with | none => [] | some n => [(i.page, n)])
def tolB (ls : List Im) : List Int := ls.flatMap (fun i => if lkS i.bs = 1 then [i.page] else [])
theorem take_im {ls : List Im} {k : Nat} {i : Im} (h : ls[k]? = some i) : ls.take (k + 1) = ls.take k ++ [i] := by
  obtain ⟨hk, e⟩ := List.getElem?_eq_some_iff.1 h
  rw [List.take_succ_eq_append_getElem hk, e]
theorem tolP_next {ls : List Im} {k : Nat} {i : Im} (h : ls[k]? = some i) : tolP (ls.take (k + 1)) = tolP (ls.take k) ++ (match decF i.bs with | none => [] | some n => [(i.page, n)]) := by
  unfold tolP; rw [take_im h, List.flatMap_append]; simp
theorem tolB_next {ls : List Im} {k : Nat} {i : Im} (h : ls[k]? = some i) : tolB (ls.take (k + 1)) = tolB (ls.take k) ++ (if lkS i.bs = 1 then [i.page] else []) := by
  unfold tolB; rw [take_im h, List.flatMap_append]; simp
/-- Pages and numbers of a call's own. -/
structure Td (w wr : World) (ls : List Im) (k : Nat) (pv : Value) (lp : List Sl) (bv : Value) (B : List Int) : Prop where
  sv : Sv wr pv lp
  bh : Has wr 1 bv B.length (intCells B)
  ne : ∀ g, pv.ownBlock = some g → bv.ownBlock ≠ some g
  pn : ∀ g, pv.ownBlock = some g → w.heap.size ≤ g
  bn : ∀ g, bv.ownBlock = some g → w.heap.size ≤ g
  boff : ∀ s ∈ lp, Off (fun k => bv.ownBlock = some k) s.nd s.pt
  ps : psOf lp = tolP (ls.take k)
  bs : B = tolB (ls.take k)
theorem Td.same {w wr : World} {ls : List Im} {k : Nat} {pv bv : Value} {lp : List Sl} {B : List Int} {W : World} (h : Td w wr ls k pv lp bv B) (f : Fr (fun _ => False) wr W) : Td w W ls k pv lp bv B :=
  ⟨h.sv.same f, h.bh.fr f (fun _ _ f => f), h.ne, h.pn, h.bn, h.boff, h.ps, h.bs⟩
theorem Td.skip {w wr : World} {ls : List Im} {k : Nat} {pv bv : Value} {lp : List Sl} {B : List Int} {i : Im} (h : Td w wr ls k pv lp bv B) (hi : ls[k]? = some i) (hl : lkS i.bs = 2) : Td w wr ls (k + 1) pv lp bv B := by
  have hd : decF i.bs = none := by
    cases e : decF i.bs with
    | none => rfl
    | some n => unfold lkS at hl; rw [e] at hl; simp at hl
  refine ⟨h.sv, h.bh, h.ne, h.pn, h.bn, h.boff, ?_, ?_⟩
  · rw [tolP_next hi, hd, h.ps]; simp
  · rw [tolB_next hi, hl, ← h.bs]; simp
theorem Td.torn {w wr : World} {ls : List Im} {k : Nat} {pv bv : Value} {lp : List Sl} {B : List Int} {i : Im} {W4 w8 : World} {bv' : Value} (h : Td w wr ls k pv lp bv B) (hw : w.heap.size ≤ wr.heap.size) (hi : ls[k]? = some i) (hl : lkS i.bs = 1) (f4 : Fr (fun _ => False) wr W4) (f8 : Fr (fun k => bv.ownBlock = some k ∧ 0 < 1) W4 w8)
    (hh : Has w8 1 bv' (B.length + 1) (intCells (B ++ [i.page]))) (hat : bv'.ownBlock = bv.ownBlock ∨ bv'.ownBlock = some W4.heap.size) : Td w w8 ls (k + 1) pv lp bv' (B ++ [i.page]) := by
  have hd : decF i.bs = none := by
    cases e : decF i.bs with
    | none => rfl
    | some n => unfold lkS at hl; rw [e] at hl; simp at hl
  have h4 := h.same f4
  have hz := f4.size
  refine ⟨h4.sv.frS f8 (fun g e e2 => h.ne g e e2.1) (fun s hs => (h.boff s hs).sub (fun k e => e.1)), ?_, ?_, h.pn, ?_, ?_, ?_, ?_⟩
  · rw [List.length_append]; exact hh
  · intro g e e2
    rcases hat with h1 | h1
    · rw [h1] at e2; exact h.ne g e e2
    · rw [h1] at e2; have := Option.some.inj e2; have := h4.sv.has.lt e; omega
  · intro g e
    rcases hat with h1 | h1
    · rw [h1] at e; exact h.bn g e
    · rw [h1] at e; have := Option.some.inj e; omega
  · intro s hs
    rcases hat with h1 | h1
    · rw [h1]; exact h.boff s hs
    · rw [h1]; exact (h4.sv.nod s hs).far (fun b hb e => by have := Option.some.inj e; omega)
  · rw [tolP_next hi, hd, h.ps]; simp
  · rw [tolB_next hi, hl, ← h.bs]; simp
theorem Td.page {w wr : World} {ls : List Im} {k : Nat} {pv bv : Value} {lp : List Sl} {B : List Int} {i : Im} {m : Nd} {p : Pt} {W3 W4 w8 : World} {pv' : Value} (h : Td w wr ls k pv lp bv B) (hw : w.heap.size ≤ wr.heap.size) (hi : ls[k]? = some i) (hd : decF i.bs = some m) (f3 : Fr (fun _ => False) wr W3) (hnd : Nod W3 m p) (hnw : Nw wr p) (f4 : Fr (fun _ => False) W3 W4) (f8 : Fr (fun k => pv.ownBlock = some k ∧ 0 < 1) W4 w8)
    (hh : Has w8 8 pv' (lp.length + 1) ((lp ++ [Sl.mk i.page m p]).flatMap slC)) (hat : pv'.ownBlock = pv.ownBlock ∨ pv'.ownBlock = some W4.heap.size) : Td w w8 ls (k + 1) pv' (lp ++ [Sl.mk i.page m p]) bv B := by
  have hl : lkS i.bs = 0 := by unfold lkS; rw [hd]; rfl
  have h3 := h.same f3
  have h4 := h3.same f4
  have hz3 := f3.size
  have hz := f4.size
  have hplt : ∀ g, pv.ownBlock = some g → g < wr.heap.size := fun g e => h.sv.has.lt e
  have hblt : ∀ g, bv.ownBlock = some g → g < wr.heap.size := fun g e => h.bh.lt e
  have hpo : Off (fun k => pv.ownBlock = some k) m p := hnw.off (fun b hb e => by have := hplt b e; omega)
  have hno : ∀ s ∈ lp ++ [Sl.mk i.page m p], Nod W4 s.nd s.pt ∧ Off (fun k => pv.ownBlock = some k) s.nd s.pt ∧ Off (fun k => bv.ownBlock = some k) s.nd s.pt := fun s hs => by
    rw [List.mem_append, List.mem_singleton] at hs
    rcases hs with hs | rfl
    · exact ⟨h4.sv.nod s hs, h.sv.off s hs, h.boff s hs⟩
    · exact ⟨hnd.same f4, hpo, hnw.off (fun b hb e => by have := hblt b e; omega)⟩
  refine ⟨⟨?_, ?_, ?_⟩, h4.bh.fr f8 (fun g e e2 => h.ne g e2.1 e), ?_, ?_, h.bn, fun s hs => (hno s hs).2.2, ?_, ?_⟩
  · rw [List.length_append]; exact hh
  · exact fun s hs => (hno s hs).1.frS f8 ((hno s hs).2.1.sub (fun k e => e.1))
  · intro s hs
    rcases hat with h1 | h1
    · rw [h1]; exact (hno s hs).2.1
    · rw [h1]; exact (hno s hs).1.far (fun b hb e => by have := Option.some.inj e; omega)
  · intro g e e2
    rcases hat with h1 | h1
    · rw [h1] at e; exact h.ne g e e2
    · rw [h1] at e; have := Option.some.inj e; have := hblt g e2; omega
  · intro g e
    rcases hat with h1 | h1
    · rw [h1] at e; exact h.pn g e
    · rw [h1] at e; have := Option.some.inj e; omega
  · rw [tolP_next hi, hd, ← h.ps]; simp [psOf]
  · rw [tolB_next hi, hl, ← h.bs]; simp
def TdOut (w : World) (ls : List Im) (e : Ending) (w' : World) : Prop :=
  ∃ ap cp lp ab cb B, e = .returned (.tuple #[.slice ap lp.length cp, .slice ab B.length cb]) ∧ Td w w' ls ls.length (.slice ap lp.length cp) lp (.slice ab B.length cb) B ∧ Fr (fun _ => False) w w'
set_option maxRecDepth 100000 in
set_option maxHeartbeats 8000000 in
theorem told_any (a : Option Addr) (n c : Nat) (ls : List Im) (hn : n = ls.length) (hf : n ≤ 100000) (w : World) (h : Ims w a c ls) : Calls Tryz.prog 23 #[.slice a n c] w fun e w' => TdOut w ls e w' := by
  obtain ⟨iI, hiI, hI0, hI1, hI2⟩ := info_parts infoInt
  obtain ⟨iR, hiR, hR0, hR1, hR2⟩ := info_parts infoSl
  have hle : n ≤ c := by rw [hn]; exact h.le
  have hmx := h.max
  have HS : Hid (∀ W, Fr (fun _ => False) w W → Ims W a c ls) := fun W f => h.same f
  have HN : Hid (n = ls.length) := hn
  clear h hn
  go_enter Tryz.func23, Tryz.ntmps23
  go_wp2
  go_loopw [2, 3, 10] (fun pv bv i wr => ∃ (k np nb : Nat) (ap : Option Addr) (cp : Nat) (lp : List Sl) (ab : Option Addr) (cb : Nat) (B : List Int), k ≤ n ∧ np ≤ k ∧ nb ≤ k ∧ i = .int .i64 k ∧ pv = .slice ap np cp ∧ bv = .slice ab nb cb ∧ Hid (np = lp.length ∧ nb = B.length) ∧ Hid (Td w wr ls k (.slice ap np cp) lp (.slice ab nb cb) B) ∧ Fr (fun _ => False) w wr) (fun _ _ i _ => n - (intOf i).toNat)
  case atStart => exact ⟨0, 0, 0, none, 0, [], none, 0, [], by omega, by omega, by omega, rfl, rfl, rfl, ⟨rfl, rfl⟩, ⟨⟨Has.nil _ _, (fun s hs => by cases hs), (fun s hs => by cases hs)⟩, Has.nil _ _, (fun g e => by cases e), (fun g e => by cases e), (fun g e => by cases e), (fun s hs => by cases hs), rfl, rfl⟩, Fr.refl _ _⟩
  case round =>
    obtain ⟨k, np, nb, ap, cp, lp, ab, cb, B, hk, hnp, hnb, rfl, rfl, rfl, HL, HT, F⟩ := hrel
    by_cases hlt : k < n
    · obtain ⟨s, hs⟩ : ∃ s, ls[k]? = some s := ⟨_, List.getElem?_eq_getElem (by have := HN.out; omega)⟩
      obtain ⟨b, off, rfl, hb, hc⟩ := (HS.out _ F).some (by have := HN.out; omega)
      obtain ⟨q0, q1⟩ := im_range (hc k s hs)
      have hki : (k : Int) < (n : Int) := by omega
      obtain ⟨W1, hW1⟩ : ∃ W1, W1 = wr.alloc (.cells #[.int .i64 s.page, .slice s.a s.bs.length s.c] 39) := ⟨_, rfl⟩
      obtain ⟨eb, heb⟩ : ∃ q, q = wr.heap.size := ⟨_, rfl⟩
      have fb : Fr (fun _ => False) wr W1 := by rw [hW1]; exact Fr.box wr _
      have hx1 : W1.heap[eb]? = some (.cells #[.int .i64 s.page, .slice s.a s.bs.length s.c] 39 (0, 0)) := by rw [hW1, heb]; exact heap_alloc_new wr _
      have HW1 : Hid (wr.alloc (.cells #[.int .i64 s.page, .slice s.a s.bs.length s.c] 39) = W1) := hW1.symm
      have HEB : Hid (wr.heap.size = eb) := heb.symm
      have HT1 : Hid (Td w W1 ls k (.slice ap np cp) lp (.slice ab nb cb) B) := HT.out.same fb
      have F1 : Fr (fun _ => False) w W1 := F.seq' fb
      have HI : Hid (ls[k]? = some s) := hs
      have hlk := look_any s.a s.bs.length s.c s.bs rfl W1 ((HS.out _ F1).row s (List.mem_of_getElem? hs))
      unfold LkOut at hlk
      clear hs hc hW1 heb fb HT F hb
      go_upto_region 4 with fail
      rw [HW1.out, HEB.out]
      clear q0 q1
      obtain ⟨d0, d1⟩ := two_in hx1
      go_wp2_with fail
      refine hlk.mono ?_
      clear hlk
      rintro e w2 ⟨p, rfl, ndp, f2, hnw⟩
      have HX2 : Hid (∀ W, Fr (fun _ => False) w2 W → W.cell? ⟨eb, 0, none⟩ = some (.int .i64 s.page) ∧ W.cell? ⟨eb, 1, none⟩ = some (.slice s.a s.bs.length s.c)) := fun W f => two_in (f.blk (f2.blk hx1 (fun f => f)) (fun f => f))
      clear d0 d1 hx1 HW1 HEB
      obtain ⟨st, hst⟩ : ∃ x, x = lkS s.bs := ⟨_, rfl⟩
      obtain ⟨m, hm⟩ : ∃ x, x = (decF s.bs).getD zn := ⟨_, rfl⟩
      rw [← hst, ← hm]
      rw [← hm] at ndp
      have HST : Hid (st = lkS s.bs) := hst
      have HM : Hid (m = (decF s.bs).getD zn) := hm
      have fb := Fr.box w2 (.cells #[.int .i64 m.lev, .int .i64 m.lsn, .int .i64 m.rgt, .string m.high, .slice p.k m.keys.length p.kc, .slice p.v m.vals.length p.vc, .slice p.i m.kids.length p.ic] 33)
      have HND : Hid (Nod w2 m p) := ndp
      have HNW : Hid (Nw W1 p) := hnw
      have HC : Hid (∀ W, Fr (fun _ => False) (w2.alloc (.cells #[.int .i64 m.lev, .int .i64 m.lsn, .int .i64 m.rgt, .string m.high, .slice p.k m.keys.length p.kc, .slice p.v m.vals.length p.vc, .slice p.i m.kids.length p.ic] 33)) W → W.cell? ⟨w2.heap.size, 0, none⟩ = some (.int .i64 m.lev) ∧ W.cell? ⟨w2.heap.size, 1, none⟩ = some (.int .i64 m.lsn) ∧ W.cell? ⟨w2.heap.size, 2, none⟩ = some (.int .i64 m.rgt) ∧ W.cell? ⟨w2.heap.size, 3, none⟩ = some (.string m.high) ∧ W.cell? ⟨w2.heap.size, 4, none⟩ = some (.slice p.k m.keys.length p.kc) ∧ W.cell? ⟨w2.heap.size, 5, none⟩ = some (.slice p.v m.vals.length p.vc) ∧ W.cell? ⟨w2.heap.size, 6, none⟩ = some (.slice p.i m.kids.length p.ic)) := fun W f => box_cells (f.blk (heap_alloc_new w2 _) (fun f => f))
      obtain ⟨d0, d1⟩ := HX2.out _ fb
      have hsz : w.heap.size ≤ W1.heap.size := F1.size
      clear ndp hnw hst hm
      by_cases h1 : st = 1
      · subst h1
        have P6 := f2.seq' (fb.alloc (.cells #[.int .i64 s.page] 3))
        have HRW : Hid (Has ((w2.alloc (.cells #[.int .i64 m.lev, .int .i64 m.lsn, .int .i64 m.rgt, .string m.high, .slice p.k m.keys.length p.kc, .slice p.v m.vals.length p.vc, .slice p.i m.kids.length p.ic] 33)).alloc (.cells #[.int .i64 s.page] 3)) 1 (.slice ab nb cb) nb (intCells B)) := by
          have := (HT1.out.same P6).bh
          rwa [← HL.out.2] at this
        have HNE : Hid (From ((w2.alloc (.cells #[.int .i64 m.lev, .int .i64 m.lsn, .int .i64 m.rgt, .string m.high, .slice p.k m.keys.length p.kc, .slice p.v m.vals.length p.vc, .slice p.i m.kids.length p.ic] 33)).alloc (.cells #[.int .i64 s.page] 3)) (some ⟨w2.heap.size + 1, 0, none⟩) [.int .i64 s.page]) := .inr ⟨_, _, rfl, by
          have := range_block (heap_alloc_new (w2.alloc (.cells #[.int .i64 m.lev, .int .i64 m.lsn, .int .i64 m.rgt, .string m.high, .slice p.k m.keys.length p.kc, .slice p.v m.vals.length p.vc, .slice p.i m.kids.length p.ic] 33)) (.cells #[.int .i64 s.page] 3)) (xs := [.int .i64 s.page]) (o := 0) (fun j v hv => by rw [Nat.zero_add]; simpa using hv)
          rwa [show (w2.alloc (.cells #[.int .i64 m.lev, .int .i64 m.lsn, .int .i64 m.rgt, .string m.high, .slice p.k m.keys.length p.kc, .slice p.v m.vals.length p.vc, .slice p.i m.kids.length p.ic] 33)).heap.size = w2.heap.size + 1 by simp] at this⟩
        have FF := F1.seq' P6
        go_wp2_with (at_builtin; refine wpList_append_has _ rfl (.tmp 27) (.tmp 30) 31 31 3 3 rfl iI _ 1 8 Tryz.underlying31 Tryz.underlying31 hiI hI0 hI1 hI2 rfl (by omega) (.slice ab nb cb) nb (intCells B) rfl HRW.out (some ⟨w2.heap.size + 1, 0, none⟩) 1 1 [.int .i64 s.page] rfl rfl HNE.out (by simp [Value.oneCell']) (by unfold maxLen; omega) (by omega) ?_; intro a4 c4 w8 ht4 f34 hat4)
        have HFIN : Hid (Td w w8 ls (k + 1) (.slice ap np cp) lp (.slice a4 (nb + 1) c4) (B ++ [s.page])) := HT1.out.torn hsz HI.out HST.out.symm P6 f34 (by rw [← HL.out.2]; simpa [intCells] using ht4) hat4
        have HL2 : Hid (np = lp.length ∧ nb + 1 = (B ++ [s.page]).length) := ⟨HL.out.1, by rw [List.length_append, ← HL.out.2]; rfl⟩
        have F8 : Fr (fun _ => False) w w8 := FF.trans f34 (fun i hi e => by have := HT1.out.bn i e.1; omega)
        clear ht4 hat4 f34 HRW HNE FF P6
        go_wp2
        go_roundw
        case rel => exact ⟨k + 1, np, nb + 1, ap, cp, lp, a4, c4, B ++ [s.page], by omega, by omega, by omega, by go_num, rfl, rfl, HL2, HFIN, F8⟩
        case measure => simp [intOf]; omega
      · have hb1 : (st == 1) = false := by simpa using h1
        by_cases h2 : st = 2
        · subst h2
          have HFIN : Hid (Td w (w2.alloc (.cells #[.int .i64 m.lev, .int .i64 m.lsn, .int .i64 m.rgt, .string m.high, .slice p.k m.keys.length p.kc, .slice p.v m.vals.length p.vc, .slice p.i m.kids.length p.ic] 33)) ls (k + 1) (.slice ap np cp) lp (.slice ab nb cb) B) := (HT1.out.same (f2.seq' fb)).skip HI.out HST.out.symm
          have F8 := F1.seq' (f2.seq' fb)
          go_wp2
          go_roundw
          case rel => exact ⟨k + 1, np, nb, ap, cp, lp, ab, cb, B, by omega, by omega, by omega, by go_num, rfl, rfl, HL, HFIN, F8⟩
          case measure => simp [intOf]; omega
        · have hb2 : (st == 2) = false := by simpa using h2
          have HD : Hid (decF s.bs = some m) := by
            have e1 := HST.out
            have e2 := HM.out
            show _ = _
            cases e : decF s.bs with
            | some x => rw [e] at e2; rw [e2]; rfl
            | none =>
              exfalso
              unfold lkS at e1
              rw [e] at e1
              simp at e1
              split at e1
              · exact h2 e1
              · exact h1 e1
          have HS0 : Hid (st = 0) := by show _ = _; rw [HST.out]; unfold lkS; rw [HD.out]; rfl
          have hb0 : (st == 0) = true := by rw [HS0.out]; rfl
          obtain ⟨sl, hsl⟩ : ∃ x, x = Sl.mk s.page m p := ⟨_, rfl⟩
          have P6 := fb.alloc (.cells #[.int .i64 s.page, .int .i64 m.lev, .int .i64 m.lsn, .int .i64 m.rgt, .string m.high, .slice p.k m.keys.length p.kc, .slice p.v m.vals.length p.vc, .slice p.i m.kids.length p.ic] 35)
          obtain ⟨c0, c1, c2, c3, c4, c5, c6⟩ := HC.out _ (Fr.refl _ _)
          have HRW : Hid (Has ((w2.alloc (.cells #[.int .i64 m.lev, .int .i64 m.lsn, .int .i64 m.rgt, .string m.high, .slice p.k m.keys.length p.kc, .slice p.v m.vals.length p.vc, .slice p.i m.kids.length p.ic] 33)).alloc (.cells #[.int .i64 s.page, .int .i64 m.lev, .int .i64 m.lsn, .int .i64 m.rgt, .string m.high, .slice p.k m.keys.length p.kc, .slice p.v m.vals.length p.vc, .slice p.i m.kids.length p.ic] 35)) 8 (.slice ap np cp) np (lp.flatMap slC)) := by
            have := (HT1.out.same (f2.seq' P6)).sv.has
            rwa [← HL.out.1] at this
          have HNE : Hid (From ((w2.alloc (.cells #[.int .i64 m.lev, .int .i64 m.lsn, .int .i64 m.rgt, .string m.high, .slice p.k m.keys.length p.kc, .slice p.v m.vals.length p.vc, .slice p.i m.kids.length p.ic] 33)).alloc (.cells #[.int .i64 s.page, .int .i64 m.lev, .int .i64 m.lsn, .int .i64 m.rgt, .string m.high, .slice p.k m.keys.length p.kc, .slice p.v m.vals.length p.vc, .slice p.i m.kids.length p.ic] 35)) (some ⟨w2.heap.size + 1, 0, none⟩) (slC (Sl.mk s.page m p))) := .inr ⟨_, _, rfl, by
            have := range_block (heap_alloc_new (w2.alloc (.cells #[.int .i64 m.lev, .int .i64 m.lsn, .int .i64 m.rgt, .string m.high, .slice p.k m.keys.length p.kc, .slice p.v m.vals.length p.vc, .slice p.i m.kids.length p.ic] 33)) (.cells #[.int .i64 s.page, .int .i64 m.lev, .int .i64 m.lsn, .int .i64 m.rgt, .string m.high, .slice p.k m.keys.length p.kc, .slice p.v m.vals.length p.vc, .slice p.i m.kids.length p.ic] 35)) (xs := slC (Sl.mk s.page m p)) (o := 0) (fun j v hv => by rw [Nat.zero_add]; simpa [slC] using hv)
            rwa [show (w2.alloc (.cells #[.int .i64 m.lev, .int .i64 m.lsn, .int .i64 m.rgt, .string m.high, .slice p.k m.keys.length p.kc, .slice p.v m.vals.length p.vc, .slice p.i m.kids.length p.ic] 33)).heap.size = w2.heap.size + 1 by simp] at this⟩
          have FF := F1.seq' (f2.seq' P6)
          go_wp2_with (at_builtin; refine wpList_append_has _ rfl (.tmp 32) (.tmp 37) 24 24 35 35 rfl iR _ 8 120 Tryz.underlying24 Tryz.underlying24 hiR hR0 hR1 hR2 rfl (by omega) (.slice ap np cp) np (lp.flatMap slC) rfl HRW.out (some ⟨w2.heap.size + 1, 0, none⟩) 1 1 (slC (Sl.mk s.page m p)) rfl rfl HNE.out (slC_one _) (by unfold maxLen; omega) (by omega) ?_; intro a4 c7 w8 ht4 f34 hat4)
          have HFIN : Hid (Td w w8 ls (k + 1) (.slice a4 (np + 1) c7) (lp ++ [Sl.mk s.page m p]) (.slice ab nb cb) B) := HT1.out.page hsz HI.out HD.out f2 HND.out HNW.out P6 f34 (by rw [← HL.out.1, List.flatMap_append]; simpa using ht4) hat4
          have HL2 : Hid (np + 1 = (lp ++ [Sl.mk s.page m p]).length ∧ nb = B.length) := ⟨by rw [List.length_append, ← HL.out.1]; rfl, HL.out.2⟩
          have F8 : Fr (fun _ => False) w w8 := FF.trans f34 (fun i hi e => by have := HT1.out.pn i e.1; omega)
          clear ht4 hat4 f34 HRW HNE FF P6
          go_wp2
          go_roundw
          case rel => exact ⟨k + 1, np + 1, nb, a4, c7, lp ++ [Sl.mk s.page m p], ab, cb, B, by omega, by omega, by omega, by go_num, rfl, rfl, HL2, HFIN, F8⟩
          case measure => simp [intOf]; omega
    · obtain rfl : k = n := by omega
      have HO : Hid (TdOut w ls (.returned (.tuple #[.slice ap np cp, .slice ab nb cb])) wr) := by
        obtain ⟨e1, e2⟩ := HL.out
        subst e1 e2
        have := HT.out
        rw [HN.out] at this
        exact ⟨ap, cp, lp, ab, cb, B, rfl, this, F⟩
      clear HT
      go_wp2
      exact bodyPost_ret (v := .tuple #[.slice ap np cp, .slice ab nb cb]) (by simp [results, Tryz.results23, go_sem]) rfl HO.out
end Go.Proofs.YtkibbojiflklpaaGreat

/- Restart: pages with a root. -/
namespace Go.Proofs.YtkibbojiflklpaaGreat
open Go.RowKit

def rootB : List Sl → Bool
  | [] => false
  | s :: _ => s.page == 1
def rootL (ls : List Sl) : List Sl := if rootB ls = true then ls else Sl.mk 1 zn zp :: ls
theorem has_slots {w : World} {a : Option Addr} {n c : Nat} {ls : List Sl} (hn : n = ls.length) (h : Has w 8 (.slice a n c) n (ls.flatMap slC)) (hd : ∀ s ∈ ls, Nod w s.nd s.pt) : Slots w a c ls := by
  subst hn
  obtain ⟨a', c', he, h1, h2⟩ := h.slice
  simp only [Value.slice.injEq, true_and] at he
  obtain ⟨rfl, rfl⟩ := he
  refine ⟨h1, by unfold maxLen at h2; exact h2, ?_, hd⟩
  by_cases h0 : ls.length = 0
  · exact .inl (List.length_eq_zero_iff.1 h0)
  · obtain ⟨g, cap, hv, hg, _⟩ := h.form (by omega)
    simp only [Value.slice.injEq, true_and] at hv
    obtain ⟨rfl, rfl⟩ := hv
    refine .inr ⟨g, 0, rfl, hg, fun i m hm => ?_⟩
    rw [Nat.zero_add]
    exact h.elem slC_length hm
def RtOut (w : World) (L : List Sl) (e : Ending) (w' : World) : Prop := ∃ a' n' c' lp', e = .returned (.slice a' n' c') ∧ n' = lp'.length ∧ lp' = L ∧ Slots w' a' c' lp' ∧ Fr (fun _ => False) w w'
set_option maxRecDepth 100000 in
set_option maxHeartbeats 4000000 in
theorem root_any (a : Option Addr) (n c : Nat) (ls : List Sl) (hn : n = ls.length) (hf : n ≤ 100000) (w : World) (h : Slots w a c ls) : Calls Tryz.prog 25 #[.slice a n c] w fun e w' => RtOut w (rootL ls) e w' := by
  obtain ⟨i0, hi, hz0, hz1, hz2⟩ := info_parts infoSl
  have hsl : (ls.flatMap slC).length = ls.length * 8 := flat_length slC_length ls
  have hle : n ≤ c := by rw [hn]; exact h.le
  have hmx := h.max
  have HE : Hid (Has (w.alloc (.cells #[.int .i64 (Sl.mk 1 zn zp).page, .int .i64 (Sl.mk 1 zn zp).nd.lev, .int .i64 (Sl.mk 1 zn zp).nd.lsn, .int .i64 (Sl.mk 1 zn zp).nd.rgt, .string (Sl.mk 1 zn zp).nd.high, .slice (Sl.mk 1 zn zp).pt.k (Sl.mk 1 zn zp).nd.keys.length (Sl.mk 1 zn zp).pt.kc, .slice (Sl.mk 1 zn zp).pt.v (Sl.mk 1 zn zp).nd.vals.length (Sl.mk 1 zn zp).pt.vc, .slice (Sl.mk 1 zn zp).pt.i (Sl.mk 1 zn zp).nd.kids.length (Sl.mk 1 zn zp).pt.ic] 35)) 8 (.slice (some ⟨w.heap.size, 0, none⟩) 1 1) 1 (slC (Sl.mk 1 zn zp))) := has_slot w _ _
  have f1 : Fr (fun _ => False) w (w.alloc (.cells #[.int .i64 (Sl.mk 1 zn zp).page, .int .i64 (Sl.mk 1 zn zp).nd.lev, .int .i64 (Sl.mk 1 zn zp).nd.lsn, .int .i64 (Sl.mk 1 zn zp).nd.rgt, .string (Sl.mk 1 zn zp).nd.high, .slice (Sl.mk 1 zn zp).pt.k (Sl.mk 1 zn zp).nd.keys.length (Sl.mk 1 zn zp).pt.kc, .slice (Sl.mk 1 zn zp).pt.v (Sl.mk 1 zn zp).nd.vals.length (Sl.mk 1 zn zp).pt.vc, .slice (Sl.mk 1 zn zp).pt.i (Sl.mk 1 zn zp).nd.kids.length (Sl.mk 1 zn zp).pt.ic] 35)) := Fr.box w _
  have HFR : Hid (From (w.alloc (.cells #[.int .i64 (Sl.mk 1 zn zp).page, .int .i64 (Sl.mk 1 zn zp).nd.lev, .int .i64 (Sl.mk 1 zn zp).nd.lsn, .int .i64 (Sl.mk 1 zn zp).nd.rgt, .string (Sl.mk 1 zn zp).nd.high, .slice (Sl.mk 1 zn zp).pt.k (Sl.mk 1 zn zp).nd.keys.length (Sl.mk 1 zn zp).pt.kc, .slice (Sl.mk 1 zn zp).pt.v (Sl.mk 1 zn zp).nd.vals.length (Sl.mk 1 zn zp).pt.vc, .slice (Sl.mk 1 zn zp).pt.i (Sl.mk 1 zn zp).nd.kids.length (Sl.mk 1 zn zp).pt.ic] 35)) a (ls.flatMap slC)) := (h.same f1).from
  have HND : Hid (∀ s ∈ ls, Nod w s.nd s.pt) := h.nod
  have HN : Hid (n = ls.length) := hn
  have HSL : Hid ((ls.flatMap slC).length = ls.length * 8) := hsl
  have HS : Hid (Slots w a c ls) := h
  by_cases h0 : n = 0
  · have HR : Hid (rootL ls = Sl.mk 1 zn zp :: ls) := by
      have : ls = [] := List.length_eq_zero_iff.1 (by omega)
      rw [this]; rfl
    rw [HR.out]
    clear hn h hsl HS HR
    subst h0
    go_enter Tryz.func25, Tryz.ntmps25
    go_wp2_with (at_builtin; refine wpList_append_has _ rfl _ _ 24 24 35 35 rfl i0 _ 8 120 Tryz.underlying24 Tryz.underlying24 hi hz0 hz1 hz2 rfl (by omega) (.slice (some ⟨w.heap.size, 0, none⟩) 1 1) 1 (slC (Sl.mk 1 zn zp)) rfl HE.out a 0 c (ls.flatMap slC) rfl (by rw [HSL.out, HN.out]) HFR.out (slCs_one ls) (by unfold maxLen; omega) (by omega) ?_; intro am cm w2 hown hfr hat)
    have F : Fr (fun _ => False) w w2 := f1.above hfr (by
      rintro i ⟨e, _⟩
      simp [Value.ownBlock] at e
      omega)
    have HO : Hid (RtOut w (Sl.mk 1 zn zp :: ls) (.returned (.slice am (1 + 0) cm)) w2) := by
      refine ⟨am, 1 + 0, cm, _, rfl, by rw [List.length_cons, ← HN.out], rfl, ?_, F⟩
      have hh : Has w2 8 (.slice am (1 + 0) cm) (1 + 0) ((Sl.mk 1 zn zp :: ls).flatMap slC) := by simpa using hown
      refine has_slots (by rw [List.length_cons, ← HN.out]) hh (fun s hs => ?_)
      rcases List.mem_cons.1 hs with rfl | hs
      · exact zn_nod _
      · exact (HND.out s hs).same F
    clear hown hfr hat
    go_wp2
    go_ret
    exact HO.out
  · obtain ⟨s, hs⟩ : ∃ s, ls[0]? = some s := ⟨_, List.getElem?_eq_getElem (by omega)⟩
    obtain ⟨b, off, rfl, hb, hc⟩ := h.some (by omega)
    obtain ⟨q0, _⟩ := sl_range (hc 0 s hs)
    rw [Nat.zero_mul, Nat.add_zero] at q0
    have d0 : decide ((0 : Int) < (n : Int)) = true := decide_eq_true (by omega)
    have hn0 : 0 < n := by omega
    have HB : Hid (rootB ls = (s.page == 1)) := by
      cases ls with
      | nil => cases hs
      | cons x l => simp at hs; subst hs; rfl
    by_cases h1 : s.page = 1
    · have HR : Hid (rootL ls = ls) := by show _ = _; unfold rootL; rw [HB.out, h1]; rfl
      rw [HR.out]
      have b1 : (s.page == 1) = true := by simpa using h1
      clear hn h hsl h0 hs hc HB h1 HR HE HFR f1
      go_enter Tryz.func25, Tryz.ntmps25
      go_wp2
      go_ret
      exact ⟨_, n, c, ls, rfl, HN.out, rfl, HS.out, Fr.refl _ _⟩
    · have b1 : (s.page == 1) = false := by simpa using h1
      have HR : Hid (rootL ls = Sl.mk 1 zn zp :: ls) := by show _ = _; unfold rootL; rw [HB.out, b1]; rfl
      rw [HR.out]
      clear hn h hsl h0 hs hc HB h1 HR HS
      go_enter Tryz.func25, Tryz.ntmps25
      go_wp2_with (at_builtin; refine wpList_append_has _ rfl _ _ 24 24 35 35 rfl i0 _ 8 120 Tryz.underlying24 Tryz.underlying24 hi hz0 hz1 hz2 rfl (by omega) (.slice (some ⟨w.heap.size, 0, none⟩) 1 1) 1 (slC (Sl.mk 1 zn zp)) rfl HE.out (some ⟨b, off, none⟩) n c (ls.flatMap slC) rfl (by rw [HSL.out, HN.out]) HFR.out (slCs_one ls) (by unfold maxLen; omega) (by omega) ?_; intro am cm w2 hown hfr hat)
      have F : Fr (fun _ => False) w w2 := f1.above hfr (by
        rintro i ⟨e, _⟩
        simp [Value.ownBlock] at e
        omega)
      have HO : Hid (RtOut w (Sl.mk 1 zn zp :: ls) (.returned (.slice am (1 + n) cm)) w2) := by
        refine ⟨am, 1 + n, cm, _, rfl, by rw [List.length_cons, ← HN.out]; omega, rfl, ?_, F⟩
        have hh : Has w2 8 (.slice am (1 + n) cm) (1 + n) ((Sl.mk 1 zn zp :: ls).flatMap slC) := by simpa using hown
        refine has_slots (by rw [List.length_cons, ← HN.out]; omega) hh (fun s hs => ?_)
        rcases List.mem_cons.1 hs with rfl | hs
        · exact zn_nod _
        · exact (HND.out s hs).same F
      clear hown hfr hat
      go_wp2
      go_ret
      exact HO.out
end Go.Proofs.YtkibbojiflklpaaGreat
