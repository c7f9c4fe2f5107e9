
/- What Decode tells of bytes, in the program and in the document. -/
import Derived.Test.YtjhbhjakbcplgaaPtEnc
import Derived.Deep.RegionHeld3
namespace Go.Proofs.Ytjhbhjakbcplgaa
open Go.RowKit Crcm

theorem Rd.fr {S : Nat → Prop} {w w' : World} {rb cap : Nat} {a : Option Addr} {l : List Nat} {err : Int} (h : Rd w rb a cap l err) (f : Fr S w w') (h1 : ¬ S rb) (h2 : ∀ b off sp, a = some ⟨b, off, sp⟩ → ¬ S b) : Rd w' rb a cap l err :=
  ⟨by rw [f.block rb (lt_of_block h.box) h1]; exact h.box, h.row.fr f h2, h.far⟩
theorem Rf.fr {S : Nat → Prop} {w w' : World} {rb cap : Nat} {a : Option Addr} {l : List Nat} {err : Int} (h : Rf w rb a cap l err) (f : Fr S w w') (h1 : ¬ S rb) (h2 : ∀ b off sp, a = some ⟨b, off, sp⟩ → ¬ S b) : Rf w' rb a cap l err :=
  ⟨by rw [f.block rb (lt_of_block h.box) h1]; exact h.box, h.row.fr f h2, h.far⟩
/-- Three cells of one block. -/
def Tri (w : World) (b : Nat) (t : TypeId) (x y z : Int) : Prop := w.heap[b]? = some (.cells #[.int .i64 x, .int .i64 y, .int .i64 z] t (0, 0))
theorem Tri.cells {w : World} {b : Nat} {t : TypeId} {x y z : Int} (h : Tri w b t x y z) :
    w.cell? ⟨b, 0, none⟩ = some (.int .i64 x) ∧ w.cell? ⟨b, 1, none⟩ = some (.int .i64 y) ∧ w.cell? ⟨b, 2, none⟩ = some (.int .i64 z) ∧ w.frozen? ⟨b, 0, none⟩ = false ∧ w.frozen? ⟨b, 1, none⟩ = false ∧ w.frozen? ⟨b, 2, none⟩ = false := by
  unfold Tri at h
  refine ⟨?_, ?_, ?_, ?_, ?_, ?_⟩ <;> simp [World.cell?, World.frozen?, h]
theorem Tri.fr {S : Nat → Prop} {w w' : World} {b : Nat} {t : TypeId} {x y z : Int} (h : Tri w b t x y z) (f : Fr S w w') (hn : ¬ S b) : Tri w' b t x y z := by
  unfold Tri; rw [f.block b (lt_of_block h) hn]; exact h
theorem Tri.set0 {w : World} {b : Nat} {t : TypeId} {x y z : Int} (h : Tri w b t x y z) (u : Int) : Tri (w.setCell ⟨b, 0, none⟩ (.int .i64 u)) b t u y z := by
  have hlt := lt_of_block h
  have h' : w.heap[b] = .cells #[.int .i64 x, .int .i64 y, .int .i64 z] t (0, 0) := by unfold Tri at h; simpa [Array.getElem?_eq_getElem hlt] using h
  show (w.heap.modify b _)[b]? = _
  rw [Array.getElem?_eq_getElem (by simpa using hlt), Array.getElem_modify_self, h']
  rfl
theorem Tri.set1 {w : World} {b : Nat} {t : TypeId} {x y z : Int} (h : Tri w b t x y z) (u : Int) : Tri (w.setCell ⟨b, 1, none⟩ (.int .i64 u)) b t x u z := by
  have hlt := lt_of_block h
  have h' : w.heap[b] = .cells #[.int .i64 x, .int .i64 y, .int .i64 z] t (0, 0) := by unfold Tri at h; simpa [Array.getElem?_eq_getElem hlt] using h
  show (w.heap.modify b _)[b]? = _
  rw [Array.getElem?_eq_getElem (by simpa using hlt), Array.getElem_modify_self, h']
  rfl
theorem Tri.set2 {w : World} {b : Nat} {t : TypeId} {x y z : Int} (h : Tri w b t x y z) (u : Int) : Tri (w.setCell ⟨b, 2, none⟩ (.int .i64 u)) b t x y u := by
  have hlt := lt_of_block h
  have h' : w.heap[b] = .cells #[.int .i64 x, .int .i64 y, .int .i64 z] t (0, 0) := by unfold Tri at h; simpa [Array.getElem?_eq_getElem hlt] using h
  show (w.heap.modify b _)[b]? = _
  rw [Array.getElem?_eq_getElem (by simpa using hlt), Array.getElem_modify_self, h']
  rfl
theorem Tri.fin {w : World} {b : Nat} {t : TypeId} {x y z : Int} (h : Tri w b t x y z) (u v s : Int) :
    Tri (((w.setCell ⟨b, 0, none⟩ (.int .i64 u)).setCell ⟨b, 1, none⟩ (.int .i64 v)).setCell ⟨b, 2, none⟩ (.int .i64 s)) b t u v s ∧ Fr (fun i => i = b) w (((w.setCell ⟨b, 0, none⟩ (.int .i64 u)).setCell ⟨b, 1, none⟩ (.int .i64 v)).setCell ⟨b, 2, none⟩ (.int .i64 s)) :=
  ⟨((h.set0 u).set1 v).set2 s, (((Fr.refl (fun i => i = b) w).setCell (p := ⟨b, 0, none⟩) (fun _ => rfl) _).setCell (p := ⟨b, 1, none⟩) (fun _ => rfl) _).setCell (p := ⟨b, 2, none⟩) (fun _ => rfl) _⟩
theorem Fr.set {w : World} (b k : Nat) (u : Value) : Fr (fun i => i = b) w (w.setCell ⟨b, k, none⟩ u) := (Fr.refl (fun i => i = b) w).setCell (p := ⟨b, k, none⟩) (fun _ => rfl) _

/-- The three numbers that bytes begin with, and the reader's state behind them. -/
def pnums (l : List Nat) : Pn × RS :=
  let a := numS (l, 0) 8
  let b := numS a.2.2 8
  let c := numS b.2.2 8
  (⟨a.1, b.1, c.1⟩, c.2.2)
/-- The checkpoint that 24 bytes are, and what is told. -/
def ptOf (l : List Nat) : Pn × Int := if endOf (pnums l).2.1 (pnums l).2.2 = 0 ∧ ptB (pnums l).1 = true then ((pnums l).1, 0) else (⟨0, 0, 0⟩, 4)
/-- What Decode tells. -/
def decP (l : List Nat) : Pn × Int :=
  if l.length < 28 then (⟨0, 0, 0⟩, 10) else if val ((l.take 28).drop 24) = crc ((l.take 28).take 24) then ptOf ((l.take 28).take 24) else (⟨0, 0, 0⟩, 20)

set_option maxRecDepth 100000 in
set_option maxHeartbeats 4000000 in
theorem pointOf_any (a : Option Addr) (n cap : Nat) (l : List Nat) (hn : n = l.length) (hl : l.length = 24) (w : World) (hr : Row w a cap l) :
    Calls Try.prog 30 #[.slice a n cap] w fun e w' => e = .returned (.tuple #[.agg #[.int .i64 (ptOf l).1.num, .int .i64 (ptOf l).1.lsn, .int .i64 (ptOf l).1.redo], .int .i64 (ptOf l).2]) ∧ Fr (fun _ => False) w w' := by
  have hpt : ptOf l = if endOf (pnums l).2.1 (pnums l).2.2 = 0 ∧ ptB (pnums l).1 = true then ((pnums l).1, 0) else (⟨0, 0, 0⟩, 4) := rfl
  obtain ⟨s1, hs1⟩ : ∃ s, s = numS (l, 0) 8 := ⟨_, rfl⟩
  obtain ⟨s2, hs2⟩ : ∃ s, s = numS s1.2.2 8 := ⟨_, rfl⟩
  obtain ⟨s3, hs3⟩ : ∃ s, s = numS s2.2.2 8 := ⟨_, rfl⟩
  have hp : pnums l = (⟨s1.1, s2.1, s3.1⟩, s3.2.2) := by rw [hs3, hs2, hs1]; rfl
  obtain ⟨pt, hpt0⟩ : ∃ q, q = ptOf l := ⟨_, rfl⟩
  rw [hp] at hpt
  rw [← hpt0] at hpt ⊢
  have H1 : Hid (numS (l, 0) 8 = s1) := hs1.symm
  have H2 : Hid (numS s1.2.2 8 = s2) := hs2.symm
  have H3 : Hid (numS s2.2.2 8 = s3) := hs3.symm
  obtain ⟨x1, e1, r1⟩ := s1
  obtain ⟨x2, e2, r2⟩ := s2
  obtain ⟨x3, e3, r3⟩ := s3
  obtain ⟨p, hpe⟩ : ∃ p : Pn, p = ⟨x1, x2, x3⟩ := ⟨_, rfl⟩
  have HPT : Hid (pt = if endOf r3.1 r3.2 = 0 ∧ ptB ⟨x1, x2, x3⟩ = true then (⟨x1, x2, x3⟩, 0) else (⟨0, 0, 0⟩, 4)) := hpt
  have HPE : Hid (p = ⟨x1, x2, x3⟩) := hpe
  clear hpt hpt0 hp hs1 hs2 hs3 hpe
  subst hn
  have HL : Hid (l.length = 24) := hl
  clear hl
  have hr1 : Row (w.alloc (.cells #[.int .i64 0, .int .i64 0, .int .i64 0] 34)) a cap l := hr.same (Fr.box w _)
  have t0 : Tri (w.alloc (.cells #[.int .i64 0, .int .i64 0, .int .i64 0] 34)) w.heap.size 34 0 0 0 := heap_alloc_new w _
  obtain ⟨W0, hW0⟩ : ∃ W0, W0 = w.alloc (.cells #[.int .i64 0, .int .i64 0, .int .i64 0] 34) := ⟨_, rfl⟩
  have f0 : Fr (fun _ => False) w W0 := by rw [hW0]; exact Fr.box w _
  obtain ⟨z, hz⟩ : ∃ z, z = w.heap.size := ⟨_, rfl⟩
  have hz1 : z < W0.heap.size := by rw [hW0, hz]; simp
  have HZ : Hid (z = w.heap.size ∧ z < W0.heap.size) := ⟨hz, hz1⟩
  have HW : Hid (w.alloc (.cells #[.int .i64 0, .int .i64 0, .int .i64 0] 34) = W0) := hW0.symm
  have HZ' : Hid (w.heap.size = z) := hz.symm
  rw [← hW0] at hr1 t0
  rw [← hz] at t0
  clear hW0 hz hz1 hr
  go_enter Try.func30, Try.ntmps30
  go_wp2_with fail
  rw [HW.out, HZ'.out]
  refine (of_any a _ cap l rfl _ hr1).mono ?_
  rintro e w1 ⟨rb, a1, c1, rfl, rd1, f1, hrb, ha1⟩
  obtain ⟨b, off, rfl, hb, _⟩ : ∃ b off, a1 = some ⟨b, off, none⟩ ∧ b < w1.heap.size ∧ True := by
    rcases rd1.row.at_ with h | ⟨b, off, h, hb, _⟩
    · have := HL.out; rw [h] at this; simp at this
    · exact ⟨b, off, h, hb, trivial⟩
  have hrbl := lt_of_block rd1.box
  have hbr := rd1.far b off none rfl
  have hbz := ha1 b off none rfl
  clear ha1 hr1
  obtain ⟨q, hq⟩ : ∃ q, q = w1.heap.size := ⟨_, rfl⟩
  obtain ⟨W1, hW1⟩ : ∃ W1, W1 = w1.alloc (.cells #[.int .i64 0, .int .i64 0, .int .i64 0] 34) := ⟨_, rfl⟩
  have fb1 : Fr (fun _ => False) w1 W1 := by rw [hW1]; exact Fr.box w1 _
  have tq : Tri W1 q 34 0 0 0 := by rw [hq, hW1]; exact heap_alloc_new w1 _
  have NE : Hid (rb ≠ q ∧ b ≠ q ∧ z ≠ q ∧ z ≠ rb ∧ b ≠ rb ∧ W0.heap.size ≤ q ∧ W0.heap.size ≤ rb) := by
    have h1 := HZ.out.2
    have h2 := f1.size
    exact ⟨by omega, by omega, by omega, by omega, hbr, by omega, hrb⟩
  have HW1 : Hid (w1.alloc (.cells #[.int .i64 0, .int .i64 0, .int .i64 0] 34) = W1) := hW1.symm
  have HQ : Hid (w1.heap.size = q) := hq.symm
  have rd1' := rd1.fr fb1 (fun f => f) (fun _ _ _ _ f => f)
  have tz1 := (t0.fr f1 (fun f => f)).fr fb1 (fun f => f)
  have F1 : Hid (Fr (fun i => i = q ∨ i = rb) W0 W1) := (f1.seq' fb1).mono (fun i _ f => f.elim)
  clear hW1 hq hbr hbz hrbl hb hrb rd1 fb1 f1
  go_wp2_with fail
  rw [HW1.out, HQ.out]
  refine (rnum_all 8 rb _ c1 (l, 0) _ rd1').mono ?_
  rw [H1.out]
  rintro e w2 ⟨rfl, a2, c2, rd2, f2, n2⟩
  have tq2 := tq.fr f2 (fun e => NE.out.1 e.symm)
  have tz2 := tz1.fr f2 (fun e => NE.out.2.2.2.1 e)
  have F2 : Hid (Fr (fun i => i = q ∨ i = rb) W0 w2) := F1.out.trans f2 (fun i _ e => .inr e)
  clear F1 f2 tq tz1 rd1'
  obtain ⟨c20, c21, c22, g20, g21, g22⟩ := tq2.cells
  go_wp2_with fail
  clear c20 c21 c22 g20 g21 g22
  have fs2 : Fr (fun i => i = q) w2 (w2.setCell ⟨q, 0, none⟩ (.int .i64 x1)) := Fr.set _ _ _
  have rd2' := rd2.fr fs2 (fun e => NE.out.1 e) (fun b' o sp e => by obtain ⟨o2, s2, h⟩ := n2 b' o sp e; simp at h; rw [← h.1]; exact NE.out.2.1)
  refine (rnum_all 8 rb _ c2 r1 _ rd2').mono ?_
  rw [H2.out]
  rintro e w3 ⟨rfl, a3, c3, rd3, f3, n3⟩
  have tq3 := (tq2.set0 x1).fr f3 (fun e => NE.out.1 e.symm)
  have tz3 := (tz2.fr fs2 (fun e => NE.out.2.2.1 e)).fr f3 (fun e => NE.out.2.2.2.1 e)
  have F3 : Hid (Fr (fun i => i = q ∨ i = rb) W0 w3) := (F2.out.trans fs2 (fun i _ e => .inl e)).trans f3 (fun i _ e => .inr e)
  clear F2 f3 tq2 tz2 rd2' rd2 fs2
  obtain ⟨c30, c31, c32, g30, g31, g32⟩ := tq3.cells
  go_wp2_with fail
  clear c30 c31 c32 g30 g31 g32
  have fs3 : Fr (fun i => i = q) w3 (w3.setCell ⟨q, 1, none⟩ (.int .i64 x2)) := Fr.set _ _ _
  have n13 : Near (some ⟨b, off, none⟩) a3 := fun b' o sp e => by obtain ⟨o2, s2, h⟩ := n3 b' o sp e; exact n2 b' o2 s2 h
  have rd3' := rd3.fr fs3 (fun e => NE.out.1 e) (fun b' o sp e => by obtain ⟨o2, s2, h⟩ := n13 b' o sp e; simp at h; rw [← h.1]; exact NE.out.2.1)
  refine (rnum_all 8 rb _ c3 r2 _ rd3').mono ?_
  rw [H3.out]
  rintro e w4 ⟨rfl, a4, c4, rd4, f4, n4⟩
  have tq4 := (tq3.set1 x2).fr f4 (fun e => NE.out.1 e.symm)
  have tz4 := (tz3.fr fs3 (fun e => NE.out.2.2.1 e)).fr f4 (fun e => NE.out.2.2.2.1 e)
  have F4 : Hid (Fr (fun i => i = q ∨ i = rb) W0 w4) := (F3.out.trans fs3 (fun i _ e => .inl e)).trans f4 (fun i _ e => .inr e)
  clear F3 f4 tq3 tz3 rd3' rd3 fs3
  obtain ⟨c40, c41, c42, g40, g41, g42⟩ := tq4.cells
  go_wp2_with fail
  clear c40 c41 c42 g40 g41 g42
  have fs4 : Fr (fun i => i = q) w4 (w4.setCell ⟨q, 2, none⟩ (.int .i64 x3)) := Fr.set _ _ _
  have n14 : Near (some ⟨b, off, none⟩) a4 := fun b' o sp e => by obtain ⟨o2, s2, h⟩ := n4 b' o sp e; exact n13 b' o2 s2 h
  have rd4' := rd4.fr fs4 (fun e => NE.out.1 e) (fun b' o sp e => by obtain ⟨o2, s2, h⟩ := n14 b' o sp e; simp at h; rw [← h.1]; exact NE.out.2.1)
  have tq5 := tq4.set2 x3
  have tz5 := tz4.fr fs4 (fun e => NE.out.2.2.1 e)
  have F5 : Hid (Fr (fun i => i = q ∨ i = rb) W0 (w4.setCell ⟨q, 2, none⟩ (.int .i64 x3))) := F4.out.trans fs4 (fun i _ e => .inl e)
  clear F4 fs4 tq4 tz4 rd4 n2 n3 n4 n13 n14
  obtain ⟨w5, hw5⟩ : ∃ w5, w5 = w4.setCell ⟨q, 2, none⟩ (.int .i64 x3) := ⟨_, rfl⟩
  rw [← hw5] at rd4' tq5 tz5 F5 ⊢
  clear hw5
  refine (end_any rb _ c4 r3.1 r3.2 _ rd4').mono ?_
  rintro e w6 ⟨rfl, rfl⟩
  obtain ⟨ee, hee⟩ : ∃ ee, ee = endOf r3.1 r3.2 := ⟨_, rfl⟩
  have HPT2 : Hid (pt = if ee = 0 ∧ ptB ⟨x1, x2, x3⟩ = true then (⟨x1, x2, x3⟩, 0) else (⟨0, 0, 0⟩, 4)) := by show _ = _; rw [hee]; exact HPT.out
  rw [← hee]
  clear hee HPT H1 H2 H3 HPE rd4'
  obtain ⟨c50, c51, c52, g50, g51, g52⟩ := tq5.cells
  obtain ⟨d50, d51, d52, k50, k51, k52⟩ := tz5.cells
  have FW : Hid (∀ W, Fr (fun i => i = z) w6 W → Fr (fun _ => False) w W) := fun W f => by
    have f1 : Fr (fun i => i = z ∨ i = q ∨ i = rb) w W0 := f0.mono (fun i _ f => f.elim)
    have f2 := (f1.trans F5.out (fun i _ e => .inr e)).trans f (fun i _ e => .inl e)
    have h1 := NE.out; have h2 := HZ.out; have h3 := f0.size
    exact f2.mono (fun i hi e => by rcases e with e | e | e <;> omega)
  clear F5 f0
  by_cases he : ee = 0
  · subst he
    obtain ⟨bb, hbb⟩ : ∃ bb, ptB ⟨x1, x2, x3⟩ = bb := ⟨_, rfl⟩
    have HBB : Hid (ptB ⟨x1, x2, x3⟩ = bb) := hbb
    rw [hbb] at HPT2
    clear hbb
    cases bb with
    | true =>
      have ept : pt = (⟨x1, x2, x3⟩, 0) := by rw [HPT2.out]; simp
      clear HPT2
      subst ept
      go_wp2_with fail
      refine (isRight_any ⟨x1, x2, x3⟩ _).mono ?_
      rw [HBB.out]
      rintro e w7 ⟨rfl, h7⟩
      have f7 : Fr (fun _ => False) w6 w7 := by rw [h7]; exact Fr.box w6 _
      clear h7
      have tq7 := tq5.fr f7 (fun f => f)
      have tz7 := tz5.fr f7 (fun f => f)
      clear c50 c51 c52 g50 g51 g52 d50 d51 d52 k50 k51 k52
      obtain ⟨c50, c51, c52, g50, g51, g52⟩ := tq7.cells
      obtain ⟨d50, d51, d52, k50, k51, k52⟩ := tz7.cells
      go_wp2
      obtain ⟨tf, ff⟩ := tz7.fin x1 x2 x3
      have fff := FW.out _ ((f7.mono (fun i _ f => f.elim) : Fr (fun i => i = z) w6 w7).trans ff (fun i _ e => e))
      generalize (((w7.setCell ⟨z, 0, none⟩ (.int .i64 x1)).setCell ⟨z, 1, none⟩ (.int .i64 x2)).setCell ⟨z, 2, none⟩ (.int .i64 x3)) = Wf at tf fff ⊢
      obtain ⟨q0, q1, q2, _, _, _⟩ := tf.cells
      exact bodyPost_ret (v := .tuple #[.agg #[.int .i64 x1, .int .i64 x2, .int .i64 x3], .int .i64 0]) (by simp [results, Try.results30, go_sem, q0, q1, q2]) rfl ⟨rfl, fff⟩
    | false =>
      have ept : pt = (⟨0, 0, 0⟩, 4) := by rw [HPT2.out]; simp
      clear HPT2
      subst ept
      go_wp2_with fail
      refine (isRight_any ⟨x1, x2, x3⟩ _).mono ?_
      rw [HBB.out]
      rintro e w7 ⟨rfl, h7⟩
      have f7 : Fr (fun _ => False) w6 w7 := by rw [h7]; exact Fr.box w6 _
      clear h7
      have tq7 := tq5.fr f7 (fun f => f)
      have tz7 := tz5.fr f7 (fun f => f)
      clear c50 c51 c52 g50 g51 g52 d50 d51 d52 k50 k51 k52
      obtain ⟨c50, c51, c52, g50, g51, g52⟩ := tq7.cells
      obtain ⟨d50, d51, d52, k50, k51, k52⟩ := tz7.cells
      go_wp2
      obtain ⟨tf, ff⟩ := tz7.fin 0 0 0
      have fff := FW.out _ ((f7.mono (fun i _ f => f.elim) : Fr (fun i => i = z) w6 w7).trans ff (fun i _ e => e))
      generalize (((w7.setCell ⟨z, 0, none⟩ (.int .i64 0)).setCell ⟨z, 1, none⟩ (.int .i64 0)).setCell ⟨z, 2, none⟩ (.int .i64 0)) = Wf at tf fff ⊢
      obtain ⟨q0, q1, q2, _, _, _⟩ := tf.cells
      exact bodyPost_ret (v := .tuple #[.agg #[.int .i64 0, .int .i64 0, .int .i64 0], .int .i64 4]) (by simp [results, Try.results30, go_sem, q0, q1, q2]) rfl ⟨rfl, fff⟩
  · have ept : pt = (⟨0, 0, 0⟩, 4) := by rw [HPT2.out]; simp [he]
    have hne : (ee != 0) = true := by simpa using he
    clear HPT2 he
    subst ept
    have tz7 := tz5
    go_wp2
    obtain ⟨tf, ff⟩ := tz7.fin 0 0 0
    have fff := FW.out _ (ff)
    generalize (((w6.setCell ⟨z, 0, none⟩ (.int .i64 0)).setCell ⟨z, 1, none⟩ (.int .i64 0)).setCell ⟨z, 2, none⟩ (.int .i64 0)) = Wf at tf fff ⊢
    obtain ⟨q0, q1, q2, _, _, _⟩ := tf.cells
    exact bodyPost_ret (v := .tuple #[.agg #[.int .i64 0, .int .i64 0, .int .i64 0], .int .i64 4]) (by simp [results, Try.results30, go_sem, q0, q1, q2]) rfl ⟨rfl, fff⟩
end Go.Proofs.Ytjhbhjakbcplgaa
