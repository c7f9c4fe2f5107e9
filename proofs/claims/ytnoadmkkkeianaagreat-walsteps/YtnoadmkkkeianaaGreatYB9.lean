
/- RcDec, RcDec2, RcSpeak, RcCut, RcArg, RefRd, RefRd2. -/
import Derived.Test.YtnoadmkkkeianaaGreatYB8
import Derived.Test.YtnoadmkkkeianaaGreatYB4
import Derived.Test.YtnoadmkkkeianaaGreatYB5
/- What record.recordOf and record.frameSize tell. -/
namespace Go.Proofs.YtnoadmkkkeianaaGreat
open Go.RowKit Crcm

theorem rnum_nm (size : Int) (rb : Nat) (a : Option Addr) (cap : Nat) (st : RS) (w : World) (h : Rd w rb a cap st.1 st.2) :
    Calls Tryz.prog 73 #[.pointer (some ⟨rb, 0, none⟩), .int .i64 size] w fun e w' => ∃ er, e = .returned (.tuple #[.int .i64 (nm st size).1, .int .i64 er]) ∧
      ∃ a' c', Rd w' rb a' c' (nm st size).2.1 (nm st size).2.2 ∧ Fr (fun k => k = rb) w w' ∧ Near a a' := by
  refine (rnum_all size rb a cap st w h).mono ?_
  rintro e w' ⟨rfl, hq⟩
  exact ⟨_, rfl, hq⟩
theorem rtext_tx (most : Int) (rb : Nat) (a : Option Addr) (cap : Nat) (st : RS) (w : World) (h : Rd w rb a cap st.1 st.2) :
    Calls Tryz.prog 74 #[.pointer (some ⟨rb, 0, none⟩), .int .i64 most] w fun e w' => ∃ er, e = .returned (.tuple #[.string (tx st most).1, .int .i64 er]) ∧
      ∃ a' c', Rd w' rb a' c' (tx st most).2.1 (tx st most).2.2 ∧ Fr (fun k => k = rb) w w' ∧ Near a a' := by
  refine (rtext_all most rb a cap st w h).mono ?_
  rintro e w' ⟨rfl, hq⟩
  exact ⟨_, rfl, hq⟩
set_option maxRecDepth 100000 in
set_option maxHeartbeats 2000000 in
theorem fin8 {W : World} {B : Nat} {t : TypeId} {r0 r1 r2 r3 r4 r5 r6 r7 : Value} (h : W.heap[B]? = some (.cells #[r0, r1, r2, r3, r4, r5, r6, r7] t (0, 0))) (v0 v1 v2 v3 v4 v5 v6 v7 : Value) :
    ((((((((W.setCell ⟨B, 0, none⟩ v0).setCell ⟨B, 1, none⟩ v1).setCell ⟨B, 2, none⟩ v2).setCell ⟨B, 3, none⟩ v3).setCell ⟨B, 4, none⟩ v4).setCell ⟨B, 5, none⟩ v5).setCell ⟨B, 6, none⟩ v6).setCell ⟨B, 7, none⟩ v7).heap[B]? = some (.cells #[v0, v1, v2, v3, v4, v5, v6, v7] t (0, 0)) ∧
    Fr (fun k => k = B) W ((((((((W.setCell ⟨B, 0, none⟩ v0).setCell ⟨B, 1, none⟩ v1).setCell ⟨B, 2, none⟩ v2).setCell ⟨B, 3, none⟩ v3).setCell ⟨B, 4, none⟩ v4).setCell ⟨B, 5, none⟩ v5).setCell ⟨B, 6, none⟩ v6).setCell ⟨B, 7, none⟩ v7) := by
  refine ⟨?_, (((((((((Fr.refl (fun k => k = B) W).setCell (p := ⟨B, 0, none⟩) (fun _ => rfl) v0).setCell (p := ⟨B, 1, none⟩) (fun _ => rfl) v1).setCell (p := ⟨B, 2, none⟩) (fun _ => rfl) v2).setCell (p := ⟨B, 3, none⟩) (fun _ => rfl) v3).setCell (p := ⟨B, 4, none⟩) (fun _ => rfl) v4).setCell (p := ⟨B, 5, none⟩) (fun _ => rfl) v5).setCell (p := ⟨B, 6, none⟩) (fun _ => rfl) v6).setCell (p := ⟨B, 7, none⟩) (fun _ => rfl) v7)⟩
  rw [node_setCell (node_setCell (node_setCell (node_setCell (node_setCell (node_setCell (node_setCell (node_setCell h v0) v1) v2) v3) v4) v5) v6) v7]
  rfl

set_option maxRecDepth 100000 in
set_option maxHeartbeats 400000 in
theorem of_far (a : Option Addr) (n cap : Nat) (l : List Nat) (hn : n = l.length) (w : World) (hr : Row w a cap l) :
    Calls Tryz.prog 72 #[.slice a n cap] w fun e w' => ∃ rb a' c', e = .returned (.pointer (some ⟨rb, 0, none⟩)) ∧ Rd w' rb a' c' l 0 ∧ Fr (fun _ => False) w w' ∧ w.heap.size ≤ rb ∧ (∀ b off sp, a' = some ⟨b, off, sp⟩ → w.heap.size ≤ b ∧ b < w'.heap.size) := by
  obtain ⟨i0, hi, hz0, hz1, hz2⟩ := info_parts info8
  have hs := hr.small
  go_enter Tryz.func72, Tryz.ntmps72
  go_wp2_with (at_builtin; refine wpList_append_row _ rfl _ _ 41 41 5 rfl i0 Tryz.underlying41 Tryz.underlying41 hi hz0 hz1 hz2 w.heap.size (.slice none 0 0) [] rfl (World.ownsRow_nil _ _ _ _) a n cap l hn rfl hr (by simpa using hs) (Nat.le_refl _) ?_; intro a' c' w1 hown hgrow hat)
  go_ret
  have hm : Mine w1 w.heap.size (.slice a' l.length c') l := by simpa using hown
  obtain ⟨a2, c2, he, hrow⟩ := hm.row hr.byte hs
  simp only [Value.slice.injEq, true_and] at he
  obtain ⟨rfl, rfl⟩ := he
  have hge : ∀ b off sp, a' = some ⟨b, off, sp⟩ → w.heap.size ≤ b ∧ b < w1.heap.size := fun b off sp e => hm.lt b (by rw [e]; rfl)
  refine ⟨w1.heap.size, a', c', rfl, ⟨heap_alloc_new w1 _, hrow.fr ((Fr.refl (fun _ => False) w1).alloc _) (fun _ _ _ _ f => f), fun b off sp e => ?_⟩, (Fr.ofGrown hgrow).alloc _, hgrow.size, fun b off sp e => ⟨(hge b off sp e).1, by have := (hge b off sp e).2; simp; omega⟩⟩
  have := (hge b off sp e).2
  omega

/-- A record under way at block nk, a reader at rb, an answer at W0's end; what was there at W0 is as it was. -/
structure Rw (W0 w : World) (nk rb : Nat) (a : Option Addr) (cap : Nat) (s : RS) (C : Array Value) : Prop where
  box : w.heap[nk]? = some (.cells C 30 (0, 0))
  rd : Rd w rb a cap s.1 s.2
  ne : rb < nk
  low : W0.heap.size < rb
  alt : ∀ b off sp, a = some ⟨b, off, sp⟩ → b < nk ∧ W0.heap.size < b
  fr : Fr (fun _ => False) W0 w
  res : w.heap[W0.heap.size]? = some (.cells #[.int .i64 0, .int .i64 0, .int .i64 0, .int .i64 0, .int .i64 0, .int .i64 0, .string ⟨#[]⟩, .string ⟨#[]⟩] 30 (0, 0))
section
variable {W0 w w' : World} {nk rb : Nat} {a a' : Option Addr} {cap c' : Nat} {s s' : RS} {C : Array Value}
theorem Rw.goR (h : Rw W0 w nk rb a cap s C) (r : Rd w' rb a' c' s'.1 s'.2) (f : Fr (fun k => k = rb) w w') (na : Near a a') : Rw W0 w' nk rb a' c' s' C := by
  have h1 := h.ne
  have h2 := h.low
  exact ⟨by rw [f.block nk (lt_of_block h.box) (by omega)]; exact h.box, r, h.ne, h.low, (fun b off sp e => by obtain ⟨o, t, e2⟩ := na b off sp e; exact h.alt b o t e2), h.fr.trans f (S := fun _ => False) (fun i hi e => by omega), by rw [f.block _ (lt_of_block h.res) (by omega)]; exact h.res⟩
theorem Rw.put (h : Rw W0 w nk rb a cap s C) (j : Nat) (x : Value) : Rw W0 (w.setCell ⟨nk, j, none⟩ x) nk rb a cap s (C.setIfInBounds j x) := by
  have h1 := h.ne
  have h2 := h.low
  have f : Fr (fun k => k = nk) w (w.setCell ⟨nk, j, none⟩ x) := (Fr.refl (fun k => k = nk) w).setCell (p := ⟨nk, j, none⟩) (fun _ => rfl) _
  exact ⟨node_setCell h.box x, ⟨by rw [f.block rb (lt_of_block h.rd.box) (by omega)]; exact h.rd.box, h.rd.row.fr f (fun b off sp e => by have := (h.alt b off sp e).1; omega), h.rd.far⟩, h.ne, h.low, h.alt, h.fr.trans f (S := fun _ => False) (fun i hi e => by omega), by rw [f.block _ (lt_of_block h.res) (by omega)]; exact h.res⟩
theorem Rw.same (h : Rw W0 w nk rb a cap s C) (f : Fr (fun _ => False) w w') : Rw W0 w' nk rb a cap s C :=
  ⟨by rw [f.block nk (lt_of_block h.box) (fun f => f)]; exact h.box, ⟨by rw [f.block rb (lt_of_block h.rd.box) (fun f => f)]; exact h.rd.box, h.rd.row.same f, h.rd.far⟩, h.ne, h.low, h.alt, h.fr.seq' f, by rw [f.block _ (lt_of_block h.res) (fun f => f)]; exact h.res⟩
end

/-- What recordOf tells. -/
def RecOut (w : World) (o : Option Rec) (e : Ending) (w' : World) : Prop :=
  e = .returned (.tuple #[(.agg #[.int .i64 (o.getD zr).lsn, .int .i64 (o.getD zr).ep, .int .i64 (o.getD zr).kind, .int .i64 (o.getD zr).page, .int .i64 (o.getD zr).other, .int .i64 (o.getD zr).req, .string (o.getD zr).key, .string (o.getD zr).val]), .int .i64 (if o.isSome = true then 0 else 90)]) ∧ Fr (fun _ => False) w w'
theorem rec_no {w w' : World} {o : Option Rec} (h : o = none) (f : Fr (fun _ => False) w w') : RecOut w o (.returned (.tuple #[.agg #[.int .i64 0, .int .i64 0, .int .i64 0, .int .i64 0, .int .i64 0, .int .i64 0, .string ⟨#[]⟩, .string ⟨#[]⟩], .int .i64 90])) w' := by
  unfold RecOut; rw [h]; exact ⟨rfl, f⟩
theorem rec_yes {w w' : World} {o : Option Rec} (r : Rec) (h : o = some r) (f : Fr (fun _ => False) w w') : RecOut w o (.returned (.tuple #[(.agg #[.int .i64 r.lsn, .int .i64 r.ep, .int .i64 r.kind, .int .i64 r.page, .int .i64 r.other, .int .i64 r.req, .string r.key, .string r.val]), .int .i64 0])) w' := by
  unfold RecOut; rw [h]; exact ⟨rfl, f⟩
theorem tx_size (s : RS) (m : Int) (ho : octs s.1) : (tx s m).1.size ≤ 65535 := textF_size (s, false) m ho

set_option maxRecDepth 100000 in
set_option maxHeartbeats 4000000 in
theorem recordOf_any (a : Option Addr) (n cap : Nat) (l : List Nat) (hn : n = l.length) (w : World) (hr : Row w a cap l) :
    Calls Tryz.prog 57 #[.slice a n cap] w fun e w' => RecOut w (recD l) e w' := by
  obtain ⟨y1, h1⟩ : ∃ y, y = nm (l, 0) 8 := ⟨_, rfl⟩
  obtain ⟨y2, h2⟩ : ∃ y, y = nm y1.2 8 := ⟨_, rfl⟩
  obtain ⟨y3, h3⟩ : ∃ y, y = nm y2.2 1 := ⟨_, rfl⟩
  obtain ⟨y4, h4⟩ : ∃ y, y = nm y3.2 4 := ⟨_, rfl⟩
  obtain ⟨y5, h5⟩ : ∃ y, y = nm y4.2 4 := ⟨_, rfl⟩
  obtain ⟨y6, h6⟩ : ∃ y, y = nm y5.2 8 := ⟨_, rfl⟩
  obtain ⟨y7, h7⟩ : ∃ y, y = tx y6.2 256 := ⟨_, rfl⟩
  obtain ⟨y8, h8⟩ : ∃ y, y = tx y7.2 256 := ⟨_, rfl⟩
  have HS : Hid (recS (l, 0) 256 = (⟨y1.1, y2.1, y3.1, y4.1, y5.1, y6.1, y7.1, y8.1⟩, y8.2)) := recS_eq (l, 0) 256 h1.symm h2.symm h3.symm h4.symm h5.symm h6.symm h7.symm h8.symm
  have H1 : Hid (y1 = nm (l, 0) 8) := h1
  have H2 : Hid (y2 = nm y1.2 8) := h2
  have H3 : Hid (y3 = nm y2.2 1) := h3
  have H4 : Hid (y4 = nm y3.2 4) := h4
  have H5 : Hid (y5 = nm y4.2 4) := h5
  have H6 : Hid (y6 = nm y5.2 8) := h6
  have H7 : Hid (y7 = tx y6.2 256) := h7
  have H8 : Hid (y8 = tx y7.2 256) := h8
  have HD : Hid (recD l = if endOf y8.2.1 y8.2.2 = 0 ∧ rok ⟨y1.1, y2.1, y3.1, y4.1, y5.1, y6.1, y7.1, y8.1⟩ = true then some ⟨y1.1, y2.1, y3.1, y4.1, y5.1, y6.1, y7.1, y8.1⟩ else none) := by
    show recM l 256 = _
    unfold recM; rw [HS.out]
  clear h1 h2 h3 h4 h5 h6 h7 h8 HS
  subst hn
  have f0 := Fr.box w (.cells #[.int .i64 0, .int .i64 0, .int .i64 0, .int .i64 0, .int .i64 0, .int .i64 0, .string ⟨#[]⟩, .string ⟨#[]⟩] 30)
  have hof := of_far a l.length cap l rfl _ (hr.same f0)
  clear hr
  go_enter Tryz.func57, Tryz.ntmps57
  go_wp2_with fail
  refine hof.mono ?_
  clear hof
  rintro e w1 ⟨rb, a1, c1, rfl, rd1, f1, hrb, ha1⟩
  have hrl := lt_of_block rd1.box
  have B0 : Rw w (w1.alloc (.cells #[.int .i64 0, .int .i64 0, .int .i64 0, .int .i64 0, .int .i64 0, .int .i64 0, .string ⟨#[]⟩, .string ⟨#[]⟩] 30)) w1.heap.size rb a1 c1 (l, 0) #[.int .i64 0, .int .i64 0, .int .i64 0, .int .i64 0, .int .i64 0, .int .i64 0, .string ⟨#[]⟩, .string ⟨#[]⟩] := by
    have fb := Fr.box w1 (.cells #[.int .i64 0, .int .i64 0, .int .i64 0, .int .i64 0, .int .i64 0, .int .i64 0, .string ⟨#[]⟩, .string ⟨#[]⟩] 30)
    refine ⟨heap_alloc_new w1 _, ⟨by rw [fb.block rb hrl (fun f => f)]; exact rd1.box, rd1.row.same fb, rd1.far⟩, by omega, by simp at hrb; omega, ?_, (f0.seq' f1).seq' fb, ?_⟩
    · intro b off sp e; have := ha1 b off sp e; simp at this; omega
    · rw [fb.block _ (by have := f1.size; simp at this; omega) (fun f => f), f1.block _ (by simp) (fun f => f)]; exact heap_alloc_new w _
  clear rd1 ha1 hrl f1 hrb f0
  go_wp2_with fail
  refine (rnum_nm 8 rb a1 c1 (l, 0) _ B0.rd).mono ?_
  rw [← H1.out]
  rintro e w2 ⟨er0, rfl, a2, c2, r2, g2, n2⟩
  have A0 := B0.goR r2 g2 n2
  obtain ⟨⟨k0, k1, k2, k3, k4, k5, k6, k7⟩, fz⟩ := rec_cells A0.box
  have fz0 := fz 0
  have B1 := A0.put 0 (.int .i64 y1.1)
  clear r2 g2 n2 fz A0 B0
  go_wp2_with fail
  refine (rnum_nm 8 rb a2 c2 y1.2 _ B1.rd).mono ?_
  rw [← H2.out]
  rintro e w3 ⟨er1, rfl, a3, c3, r2, g2, n2⟩
  clear k0 k1 k2 k3 k4 k5 k6 k7 fz0
  have A1 := B1.goR r2 g2 n2
  obtain ⟨⟨k0, k1, k2, k3, k4, k5, k6, k7⟩, fz⟩ := rec_cells A1.box
  have fz0 := fz 1
  have B2 := A1.put 1 (.int .i64 y2.1)
  clear r2 g2 n2 fz A1 B1
  go_wp2_with fail
  refine (rnum_nm 1 rb a3 c3 y2.2 _ B2.rd).mono ?_
  rw [← H3.out]
  rintro e w4 ⟨er2, rfl, a4, c4, r2, g2, n2⟩
  clear k0 k1 k2 k3 k4 k5 k6 k7 fz0
  have A2 := B2.goR r2 g2 n2
  obtain ⟨⟨k0, k1, k2, k3, k4, k5, k6, k7⟩, fz⟩ := rec_cells A2.box
  have fz0 := fz 2
  have B3 := A2.put 2 (.int .i64 y3.1)
  clear r2 g2 n2 fz A2 B2
  go_wp2_with fail
  refine (rnum_nm 4 rb a4 c4 y3.2 _ B3.rd).mono ?_
  rw [← H4.out]
  rintro e w5 ⟨er3, rfl, a5, c5, r2, g2, n2⟩
  clear k0 k1 k2 k3 k4 k5 k6 k7 fz0
  have A3 := B3.goR r2 g2 n2
  obtain ⟨⟨k0, k1, k2, k3, k4, k5, k6, k7⟩, fz⟩ := rec_cells A3.box
  have fz0 := fz 3
  have B4 := A3.put 3 (.int .i64 y4.1)
  clear r2 g2 n2 fz A3 B3
  go_wp2_with fail
  refine (rnum_nm 4 rb a5 c5 y4.2 _ B4.rd).mono ?_
  rw [← H5.out]
  rintro e w6 ⟨er4, rfl, a6, c6, r2, g2, n2⟩
  clear k0 k1 k2 k3 k4 k5 k6 k7 fz0
  have A4 := B4.goR r2 g2 n2
  obtain ⟨⟨k0, k1, k2, k3, k4, k5, k6, k7⟩, fz⟩ := rec_cells A4.box
  have fz0 := fz 4
  have B5 := A4.put 4 (.int .i64 y5.1)
  clear r2 g2 n2 fz A4 B4
  go_wp2_with fail
  refine (rnum_nm 8 rb a6 c6 y5.2 _ B5.rd).mono ?_
  rw [← H6.out]
  rintro e w7 ⟨er5, rfl, a7, c7, r2, g2, n2⟩
  clear k0 k1 k2 k3 k4 k5 k6 k7 fz0
  have A5 := B5.goR r2 g2 n2
  obtain ⟨⟨k0, k1, k2, k3, k4, k5, k6, k7⟩, fz⟩ := rec_cells A5.box
  have fz0 := fz 5
  have B6 := A5.put 5 (.int .i64 y6.1)
  clear r2 g2 n2 fz A5 B5
  go_wp2_with fail
  refine (rtext_tx 256 rb a7 c7 y6.2 _ B6.rd).mono ?_
  rw [← H7.out]
  rintro e w8 ⟨er6, rfl, a8, c8, r2, g2, n2⟩
  clear k0 k1 k2 k3 k4 k5 k6 k7 fz0
  have A6 := B6.goR r2 g2 n2
  obtain ⟨⟨k0, k1, k2, k3, k4, k5, k6, k7⟩, fz⟩ := rec_cells A6.box
  have fz0 := fz 6
  have B7 := A6.put 6 (.string y7.1)
  clear r2 g2 n2 fz A6 B6
  go_wp2_with fail
  refine (rtext_tx 256 rb a8 c8 y7.2 _ B7.rd).mono ?_
  rw [← H8.out]
  rintro e w9 ⟨er7, rfl, a9, c9, r2, g2, n2⟩
  clear k0 k1 k2 k3 k4 k5 k6 k7 fz0
  have A7 := B7.goR r2 g2 n2
  obtain ⟨⟨k0, k1, k2, k3, k4, k5, k6, k7⟩, fz⟩ := rec_cells A7.box
  have fz0 := fz 7
  have B8 := A7.put 7 (.string y8.1)
  clear r2 g2 n2 fz A7 B7
  have HB8 : Hid (Rw w (w9.setCell ⟨w1.heap.size, 7, none⟩ (.string y8.1)) w1.heap.size rb a9 c9 y8.2 #[.int .i64 y1.1, .int .i64 y2.1, .int .i64 y3.1, .int .i64 y4.1, .int .i64 y5.1, .int .i64 y6.1, .string y7.1, .string y8.1]) := B8
  clear B8
  obtain ⟨W9, hW9⟩ : ∃ W, W = w9.setCell ⟨w1.heap.size, 7, none⟩ (.string y8.1) := ⟨_, rfl⟩
  rw [← hW9] at HB8
  have HW9 : Hid (w9.setCell ⟨w1.heap.size, 7, none⟩ (.string y8.1) = W9) := hW9.symm
  clear hW9
  have hen := end_any rb a9 c9 y8.2.1 y8.2.2 W9 HB8.out.rd
  obtain ⟨en, hen0⟩ : ∃ en, en = endOf y8.2.1 y8.2.2 := ⟨_, rfl⟩
  rw [← hen0] at hen HD
  clear hen0
  obtain ⟨r, hr⟩ : ∃ r : Rec, r = ⟨y1.1, y2.1, y3.1, y4.1, y5.1, y6.1, y7.1, y8.1⟩ := ⟨_, rfl⟩
  have hck := fun W => rec_check ⟨y1.1, y2.1, y3.1, y4.1, y5.1, y6.1, y7.1, y8.1⟩ W
  rw [← hr] at HD hck
  have HRV : Hid ((Value.agg #[.int .i64 r.lsn, .int .i64 r.ep, .int .i64 r.kind, .int .i64 r.page, .int .i64 r.other, .int .i64 r.req, .string r.key, .string r.val]) = .agg #[.int .i64 y1.1, .int .i64 y2.1, .int .i64 y3.1, .int .i64 y4.1, .int .i64 y5.1, .int .i64 y6.1, .string y7.1, .string y8.1]) := by show _ = _; rw [hr]
  rw [HRV.out] at hck
  clear hr
  by_cases he : en = 0
  · subst he
    cases hk : rok r with
    | true =>
      have HN : Hid (recD l = some r) := by show _ = _; rw [HD.out, if_pos ⟨rfl, hk⟩]
      have HE : Hid (erec r = 0) := erec_yes hk
      rw [HE.out] at hck
      clear hk HE
      go_wp2_with fail
      rw [HW9.out]
      refine hen.mono ?_
      rintro e w10 ⟨rfl, rfl⟩
      clear k0 k1 k2 k3 k4 k5 k6 k7 fz0
      obtain ⟨⟨k0, k1, k2, k3, k4, k5, k6, k7⟩, fz⟩ := rec_cells HB8.out.box
      go_wp2_with fail
      refine (hck _).mono ?_
      rintro e w11 ⟨rfl, f11⟩
      have B9 := HB8.out.same f11
      clear k0 k1 k2 k3 k4 k5 k6 k7 fz
      obtain ⟨⟨k0, k1, k2, k3, k4, k5, k6, k7⟩, fz⟩ := rec_cells B9.box
      obtain ⟨⟨z0, z1, z2, z3, z4, z5, z6, z7⟩, zz⟩ := rec_cells B9.res
      have x0 := zz 0; have x1 := zz 1; have x2 := zz 2; have x3 := zz 3; have x4 := zz 4; have x5 := zz 5; have x6 := zz 6; have x7 := zz 7
      obtain ⟨hb, ff⟩ := fin8 B9.res (.int .i64 y1.1) (.int .i64 y2.1) (.int .i64 y3.1) (.int .i64 y4.1) (.int .i64 y5.1) (.int .i64 y6.1) (.string y7.1) (.string y8.1)
      obtain ⟨⟨q0, q1, q2, q3, q4, q5, q6, q7⟩, _⟩ := rec_cells hb
      have ff2 := B9.fr.trans ff (S := fun _ => False) (fun i hi e => by omega)
      clear zz fz
      go_wp2
      refine bodyPost_ret (v := .tuple #[.agg #[.int .i64 y1.1, .int .i64 y2.1, .int .i64 y3.1, .int .i64 y4.1, .int .i64 y5.1, .int .i64 y6.1, .string y7.1, .string y8.1], .int .i64 0]) (by simp [results, Tryz.results57, go_sem, q0, q1, q2, q3, q4, q5, q6, q7]) rfl ?_
      rw [← HRV.out]
      exact rec_yes r HN.out ff2
    | false =>
      have HN : Hid (recD l = none) := by show _ = _; rw [HD.out, if_neg (fun h => by rw [hk] at h; exact absurd h.2 (by simp))]
      have HE : Hid (erec r = 90) := erec_no hk
      rw [HE.out] at hck
      clear hk HE
      go_wp2_with fail
      rw [HW9.out]
      refine hen.mono ?_
      rintro e w10 ⟨rfl, rfl⟩
      clear k0 k1 k2 k3 k4 k5 k6 k7 fz0
      obtain ⟨⟨k0, k1, k2, k3, k4, k5, k6, k7⟩, fz⟩ := rec_cells HB8.out.box
      go_wp2_with fail
      refine (hck _).mono ?_
      rintro e w11 ⟨rfl, f11⟩
      have B9 := HB8.out.same f11
      clear k0 k1 k2 k3 k4 k5 k6 k7 fz
      obtain ⟨⟨z0, z1, z2, z3, z4, z5, z6, z7⟩, zz⟩ := rec_cells B9.res
      have x0 := zz 0; have x1 := zz 1; have x2 := zz 2; have x3 := zz 3; have x4 := zz 4; have x5 := zz 5; have x6 := zz 6; have x7 := zz 7
      obtain ⟨hb, ff⟩ := fin8 B9.res (.int .i64 0) (.int .i64 0) (.int .i64 0) (.int .i64 0) (.int .i64 0) (.int .i64 0) (.string ⟨#[]⟩) (.string ⟨#[]⟩)
      obtain ⟨⟨q0, q1, q2, q3, q4, q5, q6, q7⟩, _⟩ := rec_cells hb
      have ff2 := B9.fr.trans ff (S := fun _ => False) (fun i hi e => by omega)
      clear zz
      go_wp2
      exact bodyPost_ret (v := .tuple #[.agg #[.int .i64 0, .int .i64 0, .int .i64 0, .int .i64 0, .int .i64 0, .int .i64 0, .string ⟨#[]⟩, .string ⟨#[]⟩], .int .i64 90]) (by simp [results, Tryz.results57, go_sem, q0, q1, q2, q3, q4, q5, q6, q7]) rfl (rec_no HN.out ff2)
  · have HN : Hid (recD l = none) := by show _ = _; rw [HD.out, if_neg (fun h => he h.1)]
    have heb : (en != 0) = true := by simpa using he
    clear he
    go_wp2_with fail
    rw [HW9.out]
    refine hen.mono ?_
    rintro e w10 ⟨rfl, rfl⟩
    clear k0 k1 k2 k3 k4 k5 k6 k7 fz0
    have B9 := HB8.out
    obtain ⟨⟨z0, z1, z2, z3, z4, z5, z6, z7⟩, zz⟩ := rec_cells B9.res
    have x0 := zz 0; have x1 := zz 1; have x2 := zz 2; have x3 := zz 3; have x4 := zz 4; have x5 := zz 5; have x6 := zz 6; have x7 := zz 7
    obtain ⟨hb, ff⟩ := fin8 B9.res (.int .i64 0) (.int .i64 0) (.int .i64 0) (.int .i64 0) (.int .i64 0) (.int .i64 0) (.string ⟨#[]⟩) (.string ⟨#[]⟩)
    obtain ⟨⟨q0, q1, q2, q3, q4, q5, q6, q7⟩, _⟩ := rec_cells hb
    have ff2 := B9.fr.trans ff (S := fun _ => False) (fun i hi e => by omega)
    clear zz
    go_wp2
    exact bodyPost_ret (v := .tuple #[.agg #[.int .i64 0, .int .i64 0, .int .i64 0, .int .i64 0, .int .i64 0, .int .i64 0, .string ⟨#[]⟩, .string ⟨#[]⟩], .int .i64 90]) (by simp [results, Tryz.results57, go_sem, q0, q1, q2, q3, q4, q5, q6, q7]) rfl (rec_no HN.out ff2)
end Go.Proofs.YtnoadmkkkeianaaGreat

/- What record.frameSize and record.Decode tell. -/
namespace Go.Proofs.YtnoadmkkkeianaaGreat
open Go.RowKit Crcm

set_option maxRecDepth 100000 in
set_option maxHeartbeats 1000000 in
theorem frameSize_short (a : Option Addr) (n cap : Nat) (l : List Nat) (hn : n = l.length) (h2 : l.length < 2) (w : World) (hr : Row w a cap l) :
    Calls Tryz.prog 55 #[.slice a n cap] w fun e w' => e = .returned (.tuple #[.int .i64 0, .int .i64 10]) ∧ Fr (fun _ => False) w w' := by
  subst hn
  have hle := hr.le
  have hmx := hr.max
  have i1 : (l.length : Int) < 2 := by omega
  have i2 : (l.length : Int) ≤ (cap : Int) := by omega
  go_enter Tryz.func55, Tryz.ntmps55
  go_wp2_with fail
  refine (of_far a _ cap l rfl _ hr).mono ?_
  rintro e w1 ⟨rb, a1, c1, rfl, rd1, f1, hrb, ha1⟩
  go_wp2_with fail
  refine (rnum_cut 2 (by omega) rb a1 c1 l h2 _ rd1).mono ?_
  rintro e w2 ⟨rfl, rd2, f2⟩
  have f02 : Fr (fun _ => False) w w2 := f1.trans f2 (fun i hi e => by omega)
  go_wp2
  go_ret2
  exact ⟨rfl, f02⟩

/-- What frameSize tells of bytes that have a size. -/
def fsz (n v : Nat) : Value := if n < v + 6 then .tuple #[.int .i64 0, .int .i64 10] else .tuple #[.int .i64 ((v + 6 : Nat) : Int), .int .i64 0]
set_option maxRecDepth 100000 in
set_option maxHeartbeats 1000000 in
theorem frameSize_any (a : Option Addr) (n cap : Nat) (l : List Nat) (hn : n = l.length) (h2 : 2 ≤ l.length) (w : World) (hr : Row w a cap l) :
    Calls Tryz.prog 55 #[.slice a n cap] w fun e w' => e = .returned (fsz l.length (val (l.take 2))) ∧ Fr (fun _ => False) w w' := by
  subst hn
  have hle := hr.le
  have hmx := hr.max
  have i1 : ¬ (l.length : Int) < 2 := by omega
  have i2 : (2 : Int) ≤ (cap : Int) := by omega
  have i3 : (2 : Int) ≤ (l.length : Int) := by omega
  have r2 := hr.take 2
  have HL : Hid ((l.take 2).length = 2) := by show _ = _; rw [List.length_take]; omega
  have HT : Hid ((l.take 2).take 2 = l.take 2) := by show _ = _; rw [List.take_take]; rfl
  have hv := val2_lt hr.byte
  obtain ⟨v, hv0⟩ : ∃ v, v = val (l.take 2) := ⟨_, rfl⟩
  rw [← hv0] at hv ⊢
  have HV : Hid (v = val (l.take 2)) := hv0
  clear hv0
  obtain ⟨m, hm⟩ : ∃ m, m = l.take 2 := ⟨_, rfl⟩
  rw [← hm] at r2 HL HT HV
  clear hm
  have e1 : IntKind.i64.wrap (2 + (v : Int)) = 2 + (v : Int) := by simp [IntKind.wrap, IntKind.bits, IntKind.signed]; omega
  have e2 : IntKind.i64.wrap (2 + (v : Int) + 4) = 2 + (v : Int) + 4 := by simp [IntKind.wrap, IntKind.bits, IntKind.signed]; omega
  by_cases h6 : l.length < v + 6
  · have h7 : (l.length : Int) < 2 + (v : Int) + 4 := by omega
    have HF : Hid (fsz l.length v = .tuple #[.int .i64 0, .int .i64 10]) := if_pos h6
    rw [HF.out]
    clear h6
    go_enter Tryz.func55, Tryz.ntmps55
    go_wp2_with fail
    refine (of_far a _ cap m HL.out.symm _ r2).mono ?_
    rintro e w1 ⟨rb, a1, c1, rfl, rd1, f1, hrb, ha1⟩
    go_wp2_with fail
    refine (rnum_ok 2 (by omega) rb a1 c1 m (by rw [HL.out]; omega) (by rw [HT.out, ← HV.out]; omega) _ rd1).mono ?_
    rw [HT.out, ← HV.out]
    rintro e w2 ⟨rfl, a2, c2, rd2, f2, n2⟩
    have f02 : Fr (fun _ => False) w w2 := f1.trans f2 (fun i hi e => by omega)
    go_wp2
    go_ret2
    exact ⟨rfl, f02⟩
  · have h7 : ¬ (l.length : Int) < 2 + (v : Int) + 4 := by omega
    have HF : Hid (fsz l.length v = .tuple #[.int .i64 ((v + 6 : Nat) : Int), .int .i64 0]) := if_neg h6
    rw [HF.out]
    clear h6
    go_enter Tryz.func55, Tryz.ntmps55
    go_wp2_with fail
    refine (of_far a _ cap m HL.out.symm _ r2).mono ?_
    rintro e w1 ⟨rb, a1, c1, rfl, rd1, f1, hrb, ha1⟩
    go_wp2_with fail
    refine (rnum_ok 2 (by omega) rb a1 c1 m (by rw [HL.out]; omega) (by rw [HT.out, ← HV.out]; omega) _ rd1).mono ?_
    rw [HT.out, ← HV.out]
    rintro e w2 ⟨rfl, a2, c2, rd2, f2, n2⟩
    have f02 : Fr (fun _ => False) w w2 := f1.trans f2 (fun i hi e => by omega)
    go_wp2
    go_ret2
    refine ⟨?_, f02⟩
    have : (2 + (v : Int) + 4) = ((v + 6 : Nat) : Int) := by omega
    rw [← this]; rfl

/-- What Decode tells. -/
def RdOut (w : World) (x : Rec × Nat × Nat) (e : Ending) (w' : World) : Prop :=
  e = .returned (.tuple #[(.agg #[.int .i64 x.1.lsn, .int .i64 x.1.ep, .int .i64 x.1.kind, .int .i64 x.1.page, .int .i64 x.1.other, .int .i64 x.1.req, .string x.1.key, .string x.1.val]), .int .i64 (x.2.1 : Nat), .int .i64 (x.2.2 : Nat)]) ∧ Fr (fun _ => False) w w'
theorem rd_no {w w' : World} {x : Rec × Nat × Nat} {k : Nat} (h : x = (zr, 0, k)) (f : Fr (fun _ => False) w w') : RdOut w x (.returned (.tuple #[.agg #[.int .i64 0, .int .i64 0, .int .i64 0, .int .i64 0, .int .i64 0, .int .i64 0, .string ⟨#[]⟩, .string ⟨#[]⟩], .int .i64 0, .int .i64 (k : Nat)])) w' := by
  unfold RdOut; rw [h]; exact ⟨rfl, f⟩
theorem rd_yes {w w' : World} {x : Rec × Nat × Nat} {r : Rec} {k : Nat} (h : x = (r, k, 0)) (f : Fr (fun _ => False) w w') : RdOut w x (.returned (.tuple #[(.agg #[.int .i64 r.lsn, .int .i64 r.ep, .int .i64 r.kind, .int .i64 r.page, .int .i64 r.other, .int .i64 r.req, .string r.key, .string r.val]), .int .i64 (k : Nat), .int .i64 ((0 : Nat) : Int)])) w' := by
  unfold RdOut; rw [h]; exact ⟨rfl, f⟩
theorem zr_agg : Value.agg #[.int .i64 zr.lsn, .int .i64 zr.ep, .int .i64 zr.kind, .int .i64 zr.page, .int .i64 zr.other, .int .i64 zr.req, .string zr.key, .string zr.val] = .agg #[.int .i64 0, .int .i64 0, .int .i64 0, .int .i64 0, .int .i64 0, .int .i64 0, .string ⟨#[]⟩, .string ⟨#[]⟩] := rfl
theorem opened_two (l : List Nat) (h : 4 ≤ l.length) : (opened l).2 = 0 ∧ (opened l).1 = l.take (l.length - 4) ∨ (opened l).2 = 20 ∧ (opened l).1 = [] := by
  unfold opened
  rw [if_neg (by omega)]
  split
  · exact .inl ⟨rfl, rfl⟩
  · exact .inr ⟨rfl, rfl⟩

set_option maxRecDepth 100000 in
set_option maxHeartbeats 2000000 in
theorem decode_rec (a : Option Addr) (n cap : Nat) (l : List Nat) (hn : n = l.length) (w : World) (hr : Row w a cap l) :
    Calls Tryz.prog 38 #[.slice a n cap] w fun e w' => RdOut w (rdec l) e w' := by
  subst hn
  have f0 := Fr.box w (.cells #[.int .i64 0, .int .i64 0, .int .i64 0, .int .i64 0, .int .i64 0, .int .i64 0, .string ⟨#[]⟩, .string ⟨#[]⟩] 30)
  have HR : Hid (∀ W, Fr (fun _ => False) (w.alloc (.cells #[.int .i64 0, .int .i64 0, .int .i64 0, .int .i64 0, .int .i64 0, .int .i64 0, .string ⟨#[]⟩, .string ⟨#[]⟩] 30)) W → W.heap[w.heap.size]? = some (.cells #[.int .i64 0, .int .i64 0, .int .i64 0, .int .i64 0, .int .i64 0, .int .i64 0, .string ⟨#[]⟩, .string ⟨#[]⟩] 30 (0, 0))) := fun W f => rec_at w _ _ f
  by_cases h2 : l.length < 2
  · have HX : Hid (rdec l = (zr, 0, 10)) := by show _ = _; unfold rdec; rw [if_pos h2]
    have H2 : Hid (l.length < 2) := h2
    clear h2
    go_enter Tryz.func38, Tryz.ntmps38
    go_wp2_with fail
    refine (frameSize_short a _ cap l rfl H2.out _ (hr.same f0)).mono ?_
    rintro e w1 ⟨rfl, f1⟩
    obtain ⟨⟨z0, z1, z2, z3, z4, z5, z6, z7⟩, zz⟩ := rec_cells (HR.out _ f1)
    have x0 := zz 0; have x1 := zz 1; have x2 := zz 2; have x3 := zz 3; have x4 := zz 4; have x5 := zz 5; have x6 := zz 6; have x7 := zz 7
    obtain ⟨hb, ff⟩ := fin8 (HR.out _ f1) (.int .i64 0) (.int .i64 0) (.int .i64 0) (.int .i64 0) (.int .i64 0) (.int .i64 0) (.string ⟨#[]⟩) (.string ⟨#[]⟩)
    obtain ⟨⟨q0, q1, q2, q3, q4, q5, q6, q7⟩, _⟩ := rec_cells hb
    have ff2 := (f0.seq' f1).trans ff (S := fun _ => False) (fun i hi e => by omega)
    clear zz
    go_wp2
    exact bodyPost_ret (v := .tuple #[.agg #[.int .i64 0, .int .i64 0, .int .i64 0, .int .i64 0, .int .i64 0, .int .i64 0, .string ⟨#[]⟩, .string ⟨#[]⟩], .int .i64 0, .int .i64 ((10 : Nat) : Int)]) (by simp [results, Tryz.results38, go_sem, q0, q1, q2, q3, q4, q5, q6, q7]) rfl (rd_no HX.out ff2)
  · have H2 : Hid (2 ≤ l.length) := by show _ ≤ _; omega
    have hfs := frameSize_any a _ cap l rfl H2.out _ (hr.same f0)
    have hv := val2_lt hr.byte
    obtain ⟨v, hv0⟩ : ∃ v, v = val (l.take 2) := ⟨_, rfl⟩
    rw [← hv0] at hfs hv
    have HV : Hid (v = val (l.take 2)) := hv0
    clear hv0
    by_cases h6 : l.length < v + 6
    · have HX : Hid (rdec l = (zr, 0, 10)) := by show _ = _; unfold rdec; rw [if_neg h2, ← HV.out, if_pos h6]
      have HF : Hid (fsz l.length v = .tuple #[.int .i64 0, .int .i64 10]) := if_pos h6
      rw [HF.out] at hfs
      clear h2 h6
      go_enter Tryz.func38, Tryz.ntmps38
      go_wp2_with fail
      refine hfs.mono ?_
      rintro e w1 ⟨rfl, f1⟩
      obtain ⟨⟨z0, z1, z2, z3, z4, z5, z6, z7⟩, zz⟩ := rec_cells (HR.out _ f1)
      have x0 := zz 0; have x1 := zz 1; have x2 := zz 2; have x3 := zz 3; have x4 := zz 4; have x5 := zz 5; have x6 := zz 6; have x7 := zz 7
      obtain ⟨hb, ff⟩ := fin8 (HR.out _ f1) (.int .i64 0) (.int .i64 0) (.int .i64 0) (.int .i64 0) (.int .i64 0) (.int .i64 0) (.string ⟨#[]⟩) (.string ⟨#[]⟩)
      obtain ⟨⟨q0, q1, q2, q3, q4, q5, q6, q7⟩, _⟩ := rec_cells hb
      have ff2 := (f0.seq' f1).trans ff (S := fun _ => False) (fun i hi e => by omega)
      clear zz
      go_wp2
      exact bodyPost_ret (v := .tuple #[.agg #[.int .i64 0, .int .i64 0, .int .i64 0, .int .i64 0, .int .i64 0, .int .i64 0, .string ⟨#[]⟩, .string ⟨#[]⟩], .int .i64 0, .int .i64 ((10 : Nat) : Int)]) (by simp [results, Tryz.results38, go_sem, q0, q1, q2, q3, q4, q5, q6, q7]) rfl (rd_no HX.out ff2)
    · have HF : Hid (fsz l.length v = .tuple #[.int .i64 ((v + 6 : Nat) : Int), .int .i64 0]) := if_neg h6
      rw [HF.out] at hfs
      have hle := hr.le
      have hmx := hr.max
      have i1 : ((v + 6 : Nat) : Int) ≤ (cap : Int) := by omega
      have i0 : (0 : Int) ≤ ((v + 6 : Nat) : Int) := by omega
      have rt := hr.take (v + 6)
      have HTL : Hid ((l.take (v + 6)).length = v + 6) := by show _ = _; rw [List.length_take]; omega
      have HO := opened_two (l.take (v + 6)) (by rw [HTL.out]; omega)
      rw [HTL.out] at HO
      have hop := fun W hW => open_all a (v + 6) cap (l.take (v + 6)) HTL.out.symm W hW
      have HRT : Hid (∀ W, Fr (fun _ => False) w W → Row W a cap (l.take (v + 6))) := fun W f => rt.same f
      have HRD : Hid (rdec l = if (opened (l.take (v + 6))).2 ≠ 0 then (zr, 0, 20) else match recD ((l.drop 2).take v) with
          | none => (zr, 0, 90)
          | some r => (r, v + 6, 0)) := by show _ = _; unfold rdec; rw [if_neg h2, ← HV.out, if_neg h6]; rfl
      clear h2 h6 rt hr HF
      rcases HO with ⟨o2, o1⟩ | ⟨o2, o1⟩
      · rw [o2, o1] at hop
        have HRX : Hid (rdec l = match recD ((l.drop 2).take v) with
          | none => (zr, 0, 90)
          | some r => (r, v + 6, 0)) := by show _ = _; rw [HRD.out, if_neg (by rw [o2]; decide)]
        have hml : ((l.take (v + 6)).take (v + 6 - 4)).length = v + 2 := by rw [List.length_take, HTL.out]; omega
        have hmd : ((l.take (v + 6)).take (v + 6 - 4)).drop 2 = (l.drop 2).take v := by
          rw [List.take_take, List.drop_take]
          congr 1
          omega
        obtain ⟨m, hm⟩ : ∃ m, m = (l.take (v + 6)).take (v + 6 - 4) := ⟨_, rfl⟩
        rw [← hm] at hop hml hmd
        have HML : Hid (m.length = v + 2) := hml
        obtain ⟨u, hu⟩ : ∃ u, u = (l.drop 2).take v := ⟨_, rfl⟩
        rw [← hu] at hmd HRX
        have HMD : Hid (m.drop 2 = u) := hmd
        have HUL : Hid (v = u.length) := by show _ = _; rw [← hmd, List.length_drop, hml]; omega
        clear o1 o2 HRD hm hml hmd hu
        go_enter Tryz.func38, Tryz.ntmps38
        go_wp2_with fail
        refine hfs.mono ?_
        rintro e w1 ⟨rfl, f1⟩
        go_wp2_with fail
        refine (hop _ (HRT.out _ (f0.seq' f1))).mono ?_
        rintro e w2 ⟨a2, c2, rfl, r2, f2⟩
        have f12 := f1.seq' f2
        obtain ⟨b2, off2, rfl, hb2, hc2⟩ : ∃ b off, a2 = some ⟨b, off, none⟩ ∧ b < w2.heap.size ∧ ∀ i, i < m.length → w2.cell? ⟨b, off + i, none⟩ = some (.int .u8 ((m.getD i 0 : Nat) : Int)) := by
          rcases r2.at_ with e | e
          · have := HML.out; rw [e] at this; simp at this
          · exact e
        have hle2 := r2.le
        have hmx2 := r2.max
        rw [HML.out] at hle2
        have j1 : (2 : Int) ≤ ((v + 2 : Nat) : Int) := by omega
        have j2 : ((v + 2 : Nat) : Int) ≤ (c2 : Int) := by omega
        rw [HML.out]
        obtain ⟨off3, hoff, ho3⟩ : ∃ off3, off3 = (if c2 = 2 then off2 else off2 + 2) ∧ (c2 = 2 ∨ off3 = off2 + 2) := by
          refine ⟨_, rfl, ?_⟩
          by_cases hc : c2 = 2
          · exact .inl hc
          · exact .inr (if_neg hc)
        have r3 := r2.drop 2 (by rw [HML.out]; omega) off3 ho3 (.inr ⟨hb2, hc2⟩)
        rw [HMD.out] at r3
        have hv2 : v + 2 - 2 = v := by omega
        clear hc2
        by_cases hc : c2 = 2
        · rw [if_pos hc] at hoff; subst hoff; subst hc
          go_wp2_with fail
          refine (recordOf_any _ _ _ u HUL.out _ r3).mono ?_
          unfold RecOut
          cases hrd : recD u with
          | none =>
            have HX : Hid (rdec l = (zr, 0, 90)) := by show _ = _; rw [HRX.out, hrd]
            rintro e w3 ⟨rfl, f3⟩
            clear hrd
            have f13 := f12.seq' f3
            have fb := Fr.box w3 (.cells #[.int .i64 0, .int .i64 0, .int .i64 0, .int .i64 0, .int .i64 0, .int .i64 0, .string ⟨#[]⟩, .string ⟨#[]⟩] 30)
            have f14 := f13.seq' fb
            obtain ⟨⟨z0, z1, z2, z3, z4, z5, z6, z7⟩, zz⟩ := rec_cells (HR.out _ f14)
            have x0 := zz 0; have x1 := zz 1; have x2 := zz 2; have x3 := zz 3; have x4 := zz 4; have x5 := zz 5; have x6 := zz 6; have x7 := zz 7
            obtain ⟨hb, ff⟩ := fin8 (HR.out _ f14) (.int .i64 0) (.int .i64 0) (.int .i64 0) (.int .i64 0) (.int .i64 0) (.int .i64 0) (.string ⟨#[]⟩) (.string ⟨#[]⟩)
            obtain ⟨⟨q0, q1, q2, q3, q4, q5, q6, q7⟩, _⟩ := rec_cells hb
            have ff2 := (f0.seq' f14).trans ff (S := fun _ => False) (fun i hi e => by omega)
            clear zz
            simp only [Option.getD_none, Option.isSome_none, Bool.false_eq_true, if_false]
            rw [zr_agg]
            go_wp2
            exact bodyPost_ret (v := .tuple #[.agg #[.int .i64 0, .int .i64 0, .int .i64 0, .int .i64 0, .int .i64 0, .int .i64 0, .string ⟨#[]⟩, .string ⟨#[]⟩], .int .i64 0, .int .i64 ((90 : Nat) : Int)]) (by simp [results, Tryz.results38, go_sem, q0, q1, q2, q3, q4, q5, q6, q7]) rfl (rd_no HX.out ff2)
          | some r =>
            have HX : Hid (rdec l = (r, v + 6, 0)) := by show _ = _; rw [HRX.out, hrd]
            rintro e w3 ⟨rfl, f3⟩
            clear hrd
            have f13 := f12.seq' f3
            have fb := Fr.box w3 (.cells #[.int .i64 r.lsn, .int .i64 r.ep, .int .i64 r.kind, .int .i64 r.page, .int .i64 r.other, .int .i64 r.req, .string r.key, .string r.val] 30)
            have f14 := f13.seq' fb
            obtain ⟨⟨z0, z1, z2, z3, z4, z5, z6, z7⟩, zz⟩ := rec_cells (HR.out _ f14)
            have x0 := zz 0; have x1 := zz 1; have x2 := zz 2; have x3 := zz 3; have x4 := zz 4; have x5 := zz 5; have x6 := zz 6; have x7 := zz 7
            obtain ⟨hb, ff⟩ := fin8 (HR.out _ f14) (.int .i64 r.lsn) (.int .i64 r.ep) (.int .i64 r.kind) (.int .i64 r.page) (.int .i64 r.other) (.int .i64 r.req) (.string r.key) (.string r.val)
            obtain ⟨⟨q0, q1, q2, q3, q4, q5, q6, q7⟩, _⟩ := rec_cells hb
            have ff2 := (f0.seq' f14).trans ff (S := fun _ => False) (fun i hi e => by omega)
            clear zz
            simp only [Option.getD_some, Option.isSome_some, if_true]
            go_wp2
            exact bodyPost_ret (v := .tuple #[(.agg #[.int .i64 r.lsn, .int .i64 r.ep, .int .i64 r.kind, .int .i64 r.page, .int .i64 r.other, .int .i64 r.req, .string r.key, .string r.val]), .int .i64 ((v + 6 : Nat) : Int), .int .i64 ((0 : Nat) : Int)]) (by simp [results, Tryz.results38, go_sem, q0, q1, q2, q3, q4, q5, q6, q7]) rfl (rd_yes HX.out ff2)
        · rw [if_neg hc] at hoff; subst hoff
          go_wp2_with fail
          refine (recordOf_any _ _ _ u HUL.out _ r3).mono ?_
          unfold RecOut
          cases hrd : recD u with
          | none =>
            have HX : Hid (rdec l = (zr, 0, 90)) := by show _ = _; rw [HRX.out, hrd]
            rintro e w3 ⟨rfl, f3⟩
            clear hrd
            have f13 := f12.seq' f3
            have fb := Fr.box w3 (.cells #[.int .i64 0, .int .i64 0, .int .i64 0, .int .i64 0, .int .i64 0, .int .i64 0, .string ⟨#[]⟩, .string ⟨#[]⟩] 30)
            have f14 := f13.seq' fb
            obtain ⟨⟨z0, z1, z2, z3, z4, z5, z6, z7⟩, zz⟩ := rec_cells (HR.out _ f14)
            have x0 := zz 0; have x1 := zz 1; have x2 := zz 2; have x3 := zz 3; have x4 := zz 4; have x5 := zz 5; have x6 := zz 6; have x7 := zz 7
            obtain ⟨hb, ff⟩ := fin8 (HR.out _ f14) (.int .i64 0) (.int .i64 0) (.int .i64 0) (.int .i64 0) (.int .i64 0) (.int .i64 0) (.string ⟨#[]⟩) (.string ⟨#[]⟩)
            obtain ⟨⟨q0, q1, q2, q3, q4, q5, q6, q7⟩, _⟩ := rec_cells hb
            have ff2 := (f0.seq' f14).trans ff (S := fun _ => False) (fun i hi e => by omega)
            clear zz
            simp only [Option.getD_none, Option.isSome_none, Bool.false_eq_true, if_false]
            rw [zr_agg]
            go_wp2
            exact bodyPost_ret (v := .tuple #[.agg #[.int .i64 0, .int .i64 0, .int .i64 0, .int .i64 0, .int .i64 0, .int .i64 0, .string ⟨#[]⟩, .string ⟨#[]⟩], .int .i64 0, .int .i64 ((90 : Nat) : Int)]) (by simp [results, Tryz.results38, go_sem, q0, q1, q2, q3, q4, q5, q6, q7]) rfl (rd_no HX.out ff2)
          | some r =>
            have HX : Hid (rdec l = (r, v + 6, 0)) := by show _ = _; rw [HRX.out, hrd]
            rintro e w3 ⟨rfl, f3⟩
            clear hrd
            have f13 := f12.seq' f3
            have fb := Fr.box w3 (.cells #[.int .i64 r.lsn, .int .i64 r.ep, .int .i64 r.kind, .int .i64 r.page, .int .i64 r.other, .int .i64 r.req, .string r.key, .string r.val] 30)
            have f14 := f13.seq' fb
            obtain ⟨⟨z0, z1, z2, z3, z4, z5, z6, z7⟩, zz⟩ := rec_cells (HR.out _ f14)
            have x0 := zz 0; have x1 := zz 1; have x2 := zz 2; have x3 := zz 3; have x4 := zz 4; have x5 := zz 5; have x6 := zz 6; have x7 := zz 7
            obtain ⟨hb, ff⟩ := fin8 (HR.out _ f14) (.int .i64 r.lsn) (.int .i64 r.ep) (.int .i64 r.kind) (.int .i64 r.page) (.int .i64 r.other) (.int .i64 r.req) (.string r.key) (.string r.val)
            obtain ⟨⟨q0, q1, q2, q3, q4, q5, q6, q7⟩, _⟩ := rec_cells hb
            have ff2 := (f0.seq' f14).trans ff (S := fun _ => False) (fun i hi e => by omega)
            clear zz
            simp only [Option.getD_some, Option.isSome_some, if_true]
            go_wp2
            exact bodyPost_ret (v := .tuple #[(.agg #[.int .i64 r.lsn, .int .i64 r.ep, .int .i64 r.kind, .int .i64 r.page, .int .i64 r.other, .int .i64 r.req, .string r.key, .string r.val]), .int .i64 ((v + 6 : Nat) : Int), .int .i64 ((0 : Nat) : Int)]) (by simp [results, Tryz.results38, go_sem, q0, q1, q2, q3, q4, q5, q6, q7]) rfl (rd_yes HX.out ff2)
      · rw [o2, o1] at hop
        have HX : Hid (rdec l = (zr, 0, 20)) := by show _ = _; rw [HRD.out, if_pos (by rw [o2]; decide)]
        clear o1 o2 HRD
        go_enter Tryz.func38, Tryz.ntmps38
        go_wp2_with fail
        refine hfs.mono ?_
        rintro e w1 ⟨rfl, f1⟩
        go_wp2_with fail
        refine (hop _ (HRT.out _ (f0.seq' f1))).mono ?_
        rintro e w2 ⟨a2, c2, rfl, r2, f2⟩
        have f12 := f1.seq' f2
        obtain ⟨⟨z0, z1, z2, z3, z4, z5, z6, z7⟩, zz⟩ := rec_cells (HR.out _ f12)
        have x0 := zz 0; have x1 := zz 1; have x2 := zz 2; have x3 := zz 3; have x4 := zz 4; have x5 := zz 5; have x6 := zz 6; have x7 := zz 7
        obtain ⟨hb, ff⟩ := fin8 (HR.out _ f12) (.int .i64 0) (.int .i64 0) (.int .i64 0) (.int .i64 0) (.int .i64 0) (.int .i64 0) (.string ⟨#[]⟩) (.string ⟨#[]⟩)
        obtain ⟨⟨q0, q1, q2, q3, q4, q5, q6, q7⟩, _⟩ := rec_cells hb
        have ff2 := (f0.seq' f12).trans ff (S := fun _ => False) (fun i hi e => by omega)
        clear zz
        go_wp2
        exact bodyPost_ret (v := .tuple #[.agg #[.int .i64 0, .int .i64 0, .int .i64 0, .int .i64 0, .int .i64 0, .int .i64 0, .string ⟨#[]⟩, .string ⟨#[]⟩], .int .i64 0, .int .i64 ((20 : Nat) : Int)]) (by simp [results, Tryz.results38, go_sem, q0, q1, q2, q3, q4, q5, q6, q7]) rfl (rd_no HX.out ff2)
end Go.Proofs.YtnoadmkkkeianaaGreat

/- That record speaks. -/
namespace Go.Proofs.YtnoadmkkkeianaaGreat
open Go.RowKit Crcm

def r0 : Rec := ⟨1, 1, 1, 0, 0, 0, ⟨#[]⟩, ⟨#[]⟩⟩
theorem r0_ok : rok r0 = true := by decide +kernel
theorem r0_dec : rdec (frm r0) = (r0, 43, 0) := by
  have := rdec_frm r0 r0_ok []
  rw [List.append_nil, frm_length] at this
  exact this
end Go.Proofs.YtnoadmkkkeianaaGreat

/- A frame that is cut, and one of which a bit is turned. -/
namespace Go.Proofs.YtnoadmkkkeianaaGreat
open Go.RowKit Crcm

theorem rdec_cut (r : Rec) (h : rok r = true) (k : Nat) (hk : k < (frm r).length) : rdec ((frm r).take k) = (zr, 0, 10) := by
  have hl := frm_len r
  have hlt : ((frm r).take k).length = k := by rw [List.length_take]; omega
  unfold rdec
  by_cases h2 : k < 2
  · rw [if_pos (by omega)]
  · rw [if_neg (by omega)]
    have e : ((frm r).take k).take 2 = (frm r).take 2 := by rw [List.take_take, Nat.min_eq_left (by omega)]
    have e2 := frm_take2 h []
    rw [List.append_nil] at e2
    rw [e, e2, if_pos (by omega)]
theorem xor_ne (x p : Nat) (hp : p ≠ 0) : x ^^^ p ≠ x := by
  intro h
  have := congrArg (fun y => x ^^^ y) h
  simp only [← Nat.xor_assoc, Nat.xor_self, Nat.zero_xor] at this
  exact hp this
theorem rturn_cell (x m : Nat) (hx : x < 256) (hm : m < 8) : bits BinOp.xor IntKind.u8 (x : Int) (2 ^ m % 256) = ((x ^^^ 2 ^ m : Nat) : Int) := by
  have hp : 2 ^ m < 256 := Nat.pow_lt_pow_right (a := 2) (by omega) hm
  have e : ((2 : Int) ^ m % 256) = ((2 ^ m : Nat) : Int) := by
    have e1 : (2 : Int) ^ m = ((2 ^ m : Nat) : Int) := by simp
    rw [e1]
    generalize 2 ^ m = q at hp ⊢
    omega
  rw [e, u8_xor_nat _ _ hx hp]
theorem rocts_set {L : List Nat} (h : octs L) (j y : Nat) (hy : y < 256) : octs (L.set j y) := by
  intro x hx
  rcases List.mem_or_eq_of_mem_set hx with h1 | h1
  · exact h x h1
  · omega
theorem rxor_small {x m : Nat} (hx : x < 256) (hm : m < 8) : x ^^^ 2 ^ m < 256 := Nat.xor_lt_two_pow (n := 8) (by omega) (Nat.pow_lt_pow_right (a := 2) (by omega) hm)
theorem opened_turned (r : Rec) (k m : Nat) (hk : k < (frm r).length) (hm : m < 8) : (opened ((frm r).set k ((frm r).getD k 0 ^^^ 2 ^ m))).2 = 20 := by
  have hx := octs_getD (frm_octs r) k
  have hy := rxor_small hx hm
  have ho := rocts_set (frm_octs r) k _ hy
  have hxe : (frm r).getD k 0 = (frm r)[k] := by rw [List.getD_eq_getElem?_getD, List.getElem?_eq_getElem hk]; rfl
  have hr : reg 4294967295 (frm r) = steps 32 4294967295 := seal_reg _ (rh_octs r)
  have ht := reg_turn 4294967295 (frm r) k (2 ^ m) hk
  rw [← hxe, hr] at ht
  have h43 := frm_length r
  obtain ⟨L, hL⟩ : ∃ L, L = (frm r).set k ((frm r).getD k 0 ^^^ 2 ^ m) := ⟨_, rfl⟩
  have hLl : L.length = (frm r).length := by rw [hL, List.length_set]
  rw [← hL] at ht ho ⊢
  have hp : 2 ^ m < 256 := Nat.pow_lt_pow_right (a := 2) (by omega) hm
  have hp0 : 2 ^ m ≠ 0 := Nat.ne_of_gt (Nat.pow_pos (by omega))
  have hf : val (L.drop (L.length - 4)) ≠ crc (L.take (L.length - 4)) := by
    refine turned_found (L.take (L.length - 4)) (L.drop (L.length - 4)) (8 * ((frm r).length - k)) (2 ^ m) (octs_take ho _) (fun x hx => ho x (List.mem_of_mem_drop hx)) (by rw [List.length_drop]; omega) (by omega) hp0 ?_
    rw [List.take_append_drop]; exact ht
  unfold opened
  rw [if_neg (by omega), if_neg hf]
theorem rdec_turned (r : Rec) (h : rok r = true) (k m : Nat) (hk : k < (frm r).length) (hm : m < 8) : (rdec ((frm r).set k ((frm r).getD k 0 ^^^ 2 ^ m))).2.2 ≠ 0 := by
  intro h0
  have hx := octs_getD (frm_octs r) k
  have hy := rxor_small hx hm
  have ho := rocts_set (frm_octs r) k _ hy
  have hop := opened_turned r k m hk hm
  have hLk : ((frm r).set k ((frm r).getD k 0 ^^^ 2 ^ m)).getD k 0 = (frm r).getD k 0 ^^^ 2 ^ m := by
    rw [List.getD_eq_getElem?_getD, List.getElem?_set_self hk, Option.getD_some]
  have hd2 : k < 2 → ((frm r).set k ((frm r).getD k 0 ^^^ 2 ^ m)).drop 2 = (frm r).drop 2 := fun h2 => List.drop_set_of_lt h2
  have ht2 : 2 ≤ k → ((frm r).set k ((frm r).getD k 0 ^^^ 2 ^ m)).take 2 = (frm r).take 2 := fun h2 => List.take_set_of_le h2
  obtain ⟨L, hL⟩ : ∃ L, L = (frm r).set k ((frm r).getD k 0 ^^^ 2 ^ m) := ⟨_, rfl⟩
  have hLl : L.length = (frm r).length := by rw [hL, List.length_set]
  rw [← hL] at h0 hop ho hLk hd2 ht2
  obtain ⟨r', n', hrd⟩ : ∃ r' n', rdec L = (r', n', 0) := ⟨(rdec L).1, (rdec L).2.1, by rw [← h0]⟩
  obtain ⟨q1, q2, q3, q4⟩ := rdec_some L ho r' n' hrd
  have hsplit : L = frm r' ++ L.drop n' := by rw [← q4, List.take_append_drop]
  have e2 := frm_take2 h []
  rw [List.append_nil] at e2
  have e2' := frm_take2 q1 (L.drop n')
  rw [← hsplit] at e2'
  have l1 := frm_len r
  have l2 := frm_len r'
  by_cases h2 : k < 2
  · have hd : (frm r).drop 2 = rb r ++ le4 (crc (rh r)) := by
      unfold frm rh
      rw [List.append_assoc, List.drop_left' (le_length 2 _)]
    have hd' : (frm r').drop 2 = rb r' ++ le4 (crc (rh r')) := by
      unfold frm rh
      rw [List.append_assoc, List.drop_left' (le_length 2 _)]
    have hb : L.drop 2 = rb r' ++ (le4 (crc (rh r')) ++ L.drop n') := by
      conv => lhs; rw [hsplit]
      rw [List.drop_append_of_le_length (by omega), hd', List.append_assoc]
    have s1 := recS_fwd r (rok_rg h) 256 (by omega) (by omega) (le4 (crc (rh r)))
    rw [← hd, ← hd2 h2, hb, recS_fwd r' (rok_rg q1) 256 (by omega) (by omega)] at s1
    simp only [Prod.mk.injEq] at s1
    obtain ⟨rfl, _⟩ := s1
    have hn : n' = L.length := by omega
    have he : L = frm r' := by rw [← q4, hn, List.take_length]
    rw [he] at hLk
    exact xor_ne _ _ (Nat.ne_of_gt (Nat.pow_pos (by omega))) hLk.symm
  · rw [ht2 (by omega), e2] at e2'
    have hn : n' = L.length := by omega
    have he : L = frm r' := by rw [← q4, hn, List.take_length]
    rw [he, opened_frm] at hop
    simp at hop
end Go.Proofs.YtnoadmkkkeianaaGreat

/- A record that came in. -/
namespace Go.Proofs.YtnoadmkkkeianaaGreat
open Go.ChangeShapes Go.WideShapes Go.ChangeAt Go.RowKit

theorem rcellsI : Tryz.prog.cellsOf 3 = 1 := by kernel_rfl
theorem rcellsS : Tryz.prog.cellsOf 9 = 1 := by kernel_rfl
theorem rcellsR : Tryz.prog.cellsOf 30 = 8 := by kernel_rfl
theorem array8 {α : Type} {cs : Array α} (h : cs.size = 8) : ∃ c0 c1 c2 c3 c4 c5 c6 c7, cs = #[c0, c1, c2, c3, c4, c5, c6, c7] := by
  obtain ⟨l⟩ := cs
  match l, h with
  | [c0, c1, c2, c3, c4, c5, c6, c7], _ => exact ⟨c0, c1, c2, c3, c4, c5, c6, c7, rfl⟩
section
variable {H : Type} {enc : TypeId × Value → H} {w : World} {base : Nat} {spare : Nat → Bool} {held : Bool}
set_option maxRecDepth 100000 in
theorem rec_open {r : Reach} {b0 : Nat} {v : Value} {d : DataW H} {pl : List MemPlace} (hv : Value.okWide Tryz.prog w r b0 30 v) (h : DataW.Trod enc Tryz.prog w base spare held 30 v d pl) (hz : ∀ z ∈ d.weights Tryz.prog 30, z ≤ reachBytes) :
    ∃ (r : Rec), v = (.agg #[.int .i64 r.lsn, .int .i64 r.ep, .int .i64 r.kind, .int .i64 r.page, .int .i64 r.other, .int .i64 r.req, .string r.key, .string r.val]) ∧ r.key.size ≤ 140737488351232 ∧ r.val.size ≤ 140737488351232 := by
  obtain ⟨cs, rfl, hsz⟩ := okWide_struct Tryz.underlying30 hv
  obtain ⟨c0, c1, c2, c3, c4, c5, c6, c7, rfl⟩ := array8 (hsz.trans rcellsR)
  obtain ⟨fuel, hf⟩ := h
  obtain ⟨xs, m, _, hx, hl, hlen, hfs⟩ := DataW.trod_struct Tryz.underlying30 hf
  match xs, hlen with
  | [y0, y1, y2, y3, y4, y5, y6, y7], _ =>
    have t0 := hfs 0 _ rfl
    have t1 := hfs 1 _ rfl
    have t2 := hfs 2 _ rfl
    have t3 := hfs 3 _ rfl
    have t4 := hfs 4 _ rfl
    have t5 := hfs 5 _ rfl
    have t6 := hfs 6 _ rfl
    have t7 := hfs 7 _ rfl
    simp [Value.cells, rcellsI, rcellsS] at t0 t1 t2 t3 t4 t5 t6 t7
    have hd : d = .agg [y0.1, y1.1, y2.1, y3.1, y4.1, y5.1, y6.1, y7.1] := by simpa using congrArg Prod.fst hx
    rw [hd] at hz
    simp only [DataW.weights, Tryz.underlying30] at hz
    have z6 : ∀ z ∈ y6.1.weights Tryz.prog 9, z ≤ reachBytes := fun z h => hz z (DataW.weights_mem_each (j := 6) rfl rfl z h)
    have z7 : ∀ z ∈ y7.1.weights Tryz.prog 9, z ≤ reachBytes := fun z h => hz z (DataW.weights_mem_each (j := 7) rfl rfl z h)
    obtain ⟨b0, e0, _, _⟩ := DataW.trod_int Tryz.underlying3 t0
    obtain ⟨b1, e1, _, _⟩ := DataW.trod_int Tryz.underlying3 t1
    obtain ⟨b2, e2, _, _⟩ := DataW.trod_int Tryz.underlying3 t2
    obtain ⟨b3, e3, _, _⟩ := DataW.trod_int Tryz.underlying3 t3
    obtain ⟨b4, e4, _, _⟩ := DataW.trod_int Tryz.underlying3 t4
    obtain ⟨b5, e5, _, _⟩ := DataW.trod_int Tryz.underlying3 t5
    obtain ⟨b6, e6, e6', _⟩ := DataW.trod_string Tryz.underlying9 t6
    obtain ⟨b7, e7, e7', _⟩ := DataW.trod_string Tryz.underlying9 t7
    simp only [List.cons.injEq, and_true] at e0 e1 e2 e3 e4 e5 e6 e7
    subst e0 e1 e2 e3 e4 e5 e6 e7
    rw [e6'] at z6
    rw [e7'] at z7
    have w6 := z6 b6.data.toList.length (by simp [DataW.weights])
    have w7 := z7 b7.data.toList.length (by simp [DataW.weights])
    rw [← Lib.size_eq] at w6 w7
    exact ⟨⟨b0, b1, b2, b3, b4, b5, b6, b7⟩, rfl, by simpa [reachBytes] using w6, by simpa [reachBytes] using w7⟩
end
end Go.Proofs.YtnoadmkkkeianaaGreat

/- What the document's own reader does: Num. -/
namespace Go.Proofs.YtnoadmkkkeianaaGreat
open Go.RowKit

theorem val_split (l : List Nat) (j : Nat) (h : j ≤ l.length) : val l = val (l.take j) + 256 ^ j * val (l.drop j) := by
  induction j generalizing l with
  | zero => simp [val]
  | succ j ih =>
    cases l with
    | nil => simp at h
    | cons x l =>
      have := ih l (by simpa using h)
      simp only [List.take_succ_cons, List.drop_succ_cons, val, this, Nat.pow_succ]
      rw [Nat.mul_add, ← Nat.mul_assoc, Nat.mul_comm 256 (256 ^ j), Nat.add_assoc]
theorem val_drop (l : List Nat) (j : Nat) (h : j < l.length) : val (l.drop j) = l.getD j 0 + 256 * val (l.drop (j + 1)) := by
  rw [List.drop_eq_getElem_cons h]
  simp only [val]
  rw [List.getD_eq_getElem?_getD, List.getElem?_eq_getElem h]; rfl
theorem val_drop_le (l : List Nat) (j : Nat) (h : j ≤ l.length) : val (l.drop j) ≤ val l := by
  have h1 := val_split l j h
  have h2 : 1 ≤ 256 ^ j := Nat.pow_pos (by omega)
  have h3 : val (l.drop j) ≤ 256 ^ j * val (l.drop j) := Nat.le_mul_of_pos_left _ (by omega)
  omega

/-- The document's reader at block rb: what is left is l. -/
structure Rf (w : World) (rb : Nat) (a : Option Addr) (cap : Nat) (l : List Nat) (err : Int) : Prop where
  box : w.heap[rb]? = some (.cells #[.slice a l.length cap, .int .i64 err] 100 (0, 0))
  row : Row w a cap l
  far : l = [] ∨ ∀ b off sp, a = some ⟨b, off, sp⟩ → b ≠ rb
theorem Row.fr0 {S : Nat → Prop} {w w' : World} {a : Option Addr} {cap : Nat} {l : List Nat} (h : Row w a cap l) (f : Fr S w w') (hn : l = [] ∨ ∀ b off sp, a = some ⟨b, off, sp⟩ → ¬ S b) : Row w' a cap l := by
  rcases hn with e | e
  · exact ⟨h.le, h.max, h.small, h.byte, .inl e⟩
  · exact h.fr f e

theorem Rf.advance {w : World} {rb b off cap : Nat} {l : List Nat} (h : Rf w rb (some ⟨b, off, none⟩) cap l 0) (hb : b < w.heap.size) (hc : ∀ i, i < l.length → w.cell? ⟨b, off + i, none⟩ = some (.int .u8 ((l.getD i 0 : Nat) : Int))) (k : Nat) (hk : k ≤ l.length) (off2 : Nat) (ho : cap = k ∨ off2 = off + k) :
    ∃ a' c', Rf (w.setCell ⟨rb, 0, none⟩ (.slice (some ⟨b, off2, none⟩) (l.length - k) (cap - k))) rb a' c' (l.drop k) 0 ∧ Fr (fun k => k = rb) w (w.setCell ⟨rb, 0, none⟩ (.slice (some ⟨b, off2, none⟩) (l.length - k) (cap - k))) ∧ Near (some ⟨b, off, none⟩) a' := by
  have hf : Fr (fun k => k = rb) w (w.setCell ⟨rb, 0, none⟩ (.slice (some ⟨b, off2, none⟩) (l.length - k) (cap - k))) := (Fr.refl (fun k => k = rb) w).setCell (p := ⟨rb, 0, none⟩) (fun _ => rfl) _
  have hfar : l.drop k = [] ∨ ∀ b' off' sp, (some ⟨b, off2, none⟩ : Option Addr) = some ⟨b', off', sp⟩ → b' ≠ rb := by
    rcases h.far with e | e
    · exact .inl (by rw [e]; simp)
    · exact .inr (fun b' o s e' => by simp at e'; rw [← e'.1]; exact e b off none rfl)
  refine ⟨some ⟨b, off2, none⟩, cap - k, ⟨?_, ?_, hfar⟩, hf, ?_⟩
  · rw [two_setCell0 h.box, List.length_drop]
  · exact (h.row.drop k hk off2 ho (.inr ⟨hb, hc⟩)).fr0 hf hfar
  · intro b' o s e; simp at e; exact ⟨off, none, by rw [e.1]⟩
theorem Rf.fail {w : World} {rb cap : Nat} {a : Option Addr} {l : List Nat} {err : Int} (h : Rf w rb a cap l err) (err' : Int) :
    Rf (w.setCell ⟨rb, 1, none⟩ (.int .i64 err')) rb a cap l err' ∧ Fr (fun k => k = rb) w (w.setCell ⟨rb, 1, none⟩ (.int .i64 err')) := by
  have hf : Fr (fun k => k = rb) w (w.setCell ⟨rb, 1, none⟩ (.int .i64 err')) := (Fr.refl (fun k => k = rb) w).setCell (p := ⟨rb, 1, none⟩) (fun _ => rfl) _
  exact ⟨⟨two_setCell1 h.box, h.row.fr0 hf h.far, h.far⟩, hf⟩
theorem Rf.drew {w : World} {rb cap : Nat} {a : Option Addr} {l : List Nat} {err : Int} (h : Rf w rb a cap l err) : Rf w.drew rb a cap l err :=
  ⟨h.box, h.row.same (Fr.refl (fun _ => False) w).drew, h.far⟩

set_option maxRecDepth 100000 in
set_option maxHeartbeats 400000 in
theorem refEnd_any (rb : Nat) (a : Option Addr) (cap : Nat) (l : List Nat) (err : Int) (w : World) (h : Rf w rb a cap l err) :
    Calls Tryz.prog 61 #[.pointer (some ⟨rb, 0, none⟩)] w fun e w' => e = .returned (.int .i64 (endOf l err)) ∧ w' = w := by
  obtain ⟨h0, h1, f0, f1⟩ := cell_of_two h.box
  by_cases he : err = 0
  · subst he
    by_cases hl : l.length = 0
    · have ho : endOf l 0 = 0 := by simp [endOf, hl]
      rw [ho]
      have i1 : ¬ (0 : Int) < (l.length : Int) := by omega
      go_enter Tryz.func61, Tryz.ntmps61
      go_wp2
      go_ret
      exact ⟨rfl, rfl⟩
    · have ho : endOf l 0 = 4 := by unfold endOf; rw [if_pos rfl, if_neg hl]
      rw [ho]
      have i1 : (0 : Int) < (l.length : Int) := by omega
      go_enter Tryz.func61, Tryz.ntmps61
      go_wp2
      go_ret
      exact ⟨rfl, rfl⟩
  · have ho : endOf l err = err := by unfold endOf; rw [if_neg he]
    rw [ho]
    have hne : (err != 0) = true := by simpa using he
    clear ho
    go_enter Tryz.func61, Tryz.ntmps61
    go_wp2
    go_ret
    exact ⟨rfl, rfl⟩

set_option maxRecDepth 100000 in
set_option maxHeartbeats 400000 in
theorem fnum_arg (p : Option Addr) (size : Int) (hs : sizedB size = false) (w : World) :
    Calls Tryz.prog 59 #[.pointer p, .int .i64 size] w fun e w' => e = .returned (.tuple #[.int .i64 0, .int .i64 1]) ∧ w' = w := by
  have HS : Hid (sizedB size = false) := hs
  clear hs
  go_enter Tryz.func59, Tryz.ntmps59
  go_wp2_with (go_at_call 76; refine (refSized_any _ _).mono ?_; rw [HS.out]; rintro e w' ⟨rfl, rfl⟩)
  go_ret2
  exact ⟨rfl, rfl⟩
set_option maxRecDepth 100000 in
set_option maxHeartbeats 400000 in
theorem fnum_stop (size : Int) (hs : sizedB size = true) (rb : Nat) (a : Option Addr) (cap : Nat) (l : List Nat) (err : Int) (herr : ¬ err = 0) (w : World) (h : Rf w rb a cap l err) :
    Calls Tryz.prog 59 #[.pointer (some ⟨rb, 0, none⟩), .int .i64 size] w fun e w' => e = .returned (.tuple #[.int .i64 0, .int .i64 err]) ∧ w' = w.drew := by
  obtain ⟨h0, h1, f0, f1⟩ := cell_of_two h.box
  have HS : Hid (sizedB size = true) := hs
  have hne : (err != 0) = true := by simpa using herr
  clear hs
  go_enter Tryz.func59, Tryz.ntmps59
  go_wp2_with (go_at_call 76; refine (refSized_any _ _).mono ?_; rw [HS.out]; rintro e w' ⟨rfl, rfl⟩)
  go_region
  all_goals
    go_wp2
    go_ret2
    exact ⟨rfl, rfl⟩
set_option maxRecDepth 100000 in
set_option maxHeartbeats 400000 in
theorem fnum_cut (size : Int) (hs : sizedB size = true) (rb : Nat) (a : Option Addr) (cap : Nat) (l : List Nat) (hlen : (l.length : Int) < size) (w : World) (h : Rf w rb a cap l 0) :
    Calls Tryz.prog 59 #[.pointer (some ⟨rb, 0, none⟩), .int .i64 size] w fun e w' => e = .returned (.tuple #[.int .i64 0, .int .i64 10]) ∧ w' = (w.setCell ⟨rb, 1, none⟩ (.int .i64 10)).drew := by
  obtain ⟨h0, h1, f0, f1⟩ := cell_of_two h.box
  have HS : Hid (sizedB size = true) := hs
  clear hs
  go_enter Tryz.func59, Tryz.ntmps59
  go_wp2_with (go_at_call 76; refine (refSized_any _ _).mono ?_; rw [HS.out]; rintro e w' ⟨rfl, rfl⟩)
  go_region
  all_goals
    go_wp2
    go_ret2
    exact ⟨rfl, rfl⟩
end Go.Proofs.YtnoadmkkkeianaaGreat

/- What the document's own reader does: Num, where there are enough bytes. -/
namespace Go.Proofs.YtnoadmkkkeianaaGreat
open Go.RowKit

theorem top_byte {l : List Nat} (ho : octs l) (h8 : l.length = 8) : (9223372036854775808 ≤ val l ↔ 127 < l.getD 7 0) := by
  have h1 := val_split l 7 (by omega)
  have h2 := val_drop l 7 (by omega)
  have h3 : l.drop 8 = [] := List.drop_eq_nil_of_le (by omega)
  rw [h3] at h2
  simp only [val, Nat.mul_zero, Nat.add_zero] at h2
  have h4 := val_lt (octs_take ho 7)
  have h5 : (l.take 7).length = 7 := by simp; omega
  rw [h5] at h4
  rw [h2] at h1
  omega
theorem small_val {l : List Nat} (ho : octs l) (h4 : l.length ≤ 4) : val l < 9223372036854775808 := by
  have h1 := val_lt ho
  have h2 : 256 ^ l.length ≤ 256 ^ 4 := Nat.pow_le_pow_right (by omega) h4
  omega

set_option maxRecDepth 100000 in
set_option maxHeartbeats 1000000 in
theorem fnum_big (rb b off cap : Nat) (l : List Nat) (hlen : 8 ≤ l.length) (hbig : 127 < l.getD 7 0) (w : World) (h : Rf w rb (some ⟨b, off, none⟩) cap l 0) (hc : ∀ i, i < l.length → w.cell? ⟨b, off + i, none⟩ = some (.int .u8 ((l.getD i 0 : Nat) : Int))) :
    Calls Tryz.prog 59 #[.pointer (some ⟨rb, 0, none⟩), .int .i64 8] w fun e w' => e = .returned (.tuple #[.int .i64 0, .int .i64 1]) ∧ w' = (w.setCell ⟨rb, 1, none⟩ (.int .i64 1)).drew := by
  obtain ⟨h0, h1, f0, f1⟩ := cell_of_two h.box
  have hle := h.row.le
  have hmx := h.row.max
  have hc7 := hc 7 (by omega)
  have hxl := octs_getD h.row.byte 7
  obtain ⟨x, hx⟩ : ∃ x, x = l.getD 7 0 := ⟨_, rfl⟩
  rw [← hx] at hc7 hbig hxl
  clear hx hc
  have i1 : (127 : Int) < (x : Int) := by omega
  have i2 : ¬ (l.length : Int) < 8 := by omega
  have i3 : (7 : Int) < (l.length : Int) := by omega
  have HS : Hid (sizedB 8 = true) := (by decide : sizedB 8 = true)
  go_enter Tryz.func59, Tryz.ntmps59
  go_wp2_with (go_at_call 76; refine (refSized_any _ _).mono ?_; rw [HS.out]; rintro e w' ⟨rfl, rfl⟩)
  refine wp_loop_rounds 1 ?_
  rw [rounds_succ]
  go_wp2
  go_region
  all_goals
    go_wp2
    go_ret2
    exact ⟨rfl, rfl⟩

set_option maxRecDepth 100000 in
set_option maxHeartbeats 2000000 in
theorem fnum_ok (size : Nat) (hsz : (size : Int) = 1 ∨ (size : Int) = 2 ∨ (size : Int) = 4 ∨ (size : Int) = 8) (rb b off cap : Nat) (l : List Nat) (hlen : size ≤ l.length) (hval : val (l.take size) < 9223372036854775808) (w : World) (h : Rf w rb (some ⟨b, off, none⟩) cap l 0) (hb : b < w.heap.size) (hc : ∀ i, i < l.length → w.cell? ⟨b, off + i, none⟩ = some (.int .u8 ((l.getD i 0 : Nat) : Int))) :
    Calls Tryz.prog 59 #[.pointer (some ⟨rb, 0, none⟩), .int .i64 size] w fun e w' => e = .returned (.tuple #[.int .i64 ((val (l.take size) : Nat) : Int), .int .i64 0]) ∧
      ∃ a' c', Rf w' rb a' c' (l.drop size) 0 ∧ Fr (fun k => k = rb) w w' ∧ Near (some ⟨b, off, none⟩) a' := by
  obtain ⟨h0, h1, f0, f1⟩ := cell_of_two h.box
  have hle := h.row.le
  have hmx := h.row.max
  have HS : Hid (sizedB (size : Int) = true) := decide_eq_true hsz
  have hpos : 0 < size ∧ size ≤ 8 := by omega
  have hx7 : size = 8 → l.getD 7 0 ≤ 127 := by
    intro e
    subst e
    have h8 : (l.take 8).length = 8 := by simp; omega
    have := top_byte (octs_take h.row.byte 8) h8
    have e7 : (l.take 8).getD 7 0 = l.getD 7 0 := by simp [List.getD_eq_getElem?_getD]
    rw [e7] at this
    omega
  have HX7 : Hid (size = 8 → l.getD 7 0 ≤ 127) := hx7
  have HC : Hid (∀ i, i < l.length → w.cell? ⟨b, off + i, none⟩ = some (.int .u8 ((l.getD i 0 : Nat) : Int))) := hc
  have HSZ : Hid ((size : Int) = 1 ∨ (size : Int) = 2 ∨ (size : Int) = 4 ∨ (size : Int) = 8) := hsz
  have htl : (l.take size).length = size := by simp; omega
  have HTL : Hid ((l.take size).length = size) := htl
  have HVB : Hid (∀ j, j ≤ size → val ((l.take size).drop j) < 9223372036854775808) := fun j hj => Nat.lt_of_le_of_lt (val_drop_le _ j (by omega)) hval
  have HVS : Hid (∀ j, j < size → val ((l.take size).drop j) = l.getD j 0 + 256 * val ((l.take size).drop (j + 1))) := fun j hj => by
    rw [val_drop _ j (by omega)]
    simp [List.getD_eq_getElem?_getD, hj]
  clear hc hx7 hsz htl
  have i2 : ¬ (l.length : Int) < (size : Int) := by omega
  have i4 : (size : Int) ≤ (cap : Int) := by omega
  go_enter Tryz.func59, Tryz.ntmps59
  go_wp2_with (go_at_call 76; refine (refSized_any _ _).mono ?_; rw [HS.out]; rintro e w' ⟨rfl, rfl⟩)
  go_loop [6, 7] (fun t i => ∃ j : Nat, j ≤ size ∧ i = .int .i64 ((j : Int) - 1) ∧ t = .int .i64 ((val ((l.take size).drop j) : Nat) : Int)) (fun _ i => ((intOf i) + 1).toNat)
  case atStart => exact ⟨size, Nat.le_refl _, rfl, by rw [List.drop_eq_nil_of_le (by rw [HTL.out]; exact Nat.le_refl _)]; rfl⟩
  case round =>
    obtain ⟨j, hj, rfl, rfl⟩ := hrel
    by_cases hj0 : j = 0
    · subst hj0
      have ev : (l.take size).drop 0 = l.take size := rfl
      rw [ev]
      obtain ⟨v, hv⟩ : ∃ v, v = val (l.take size) := ⟨_, rfl⟩
      have HV : Hid (val (l.take size) = v) := hv.symm
      rw [← hv]
      clear hv ev
      by_cases hcs : cap = size
      · subst hcs
        have hadv := h.advance hb HC.out cap hlen off (.inl rfl)
        have e0 : l.length - cap = 0 := by omega
        rw [e0, Nat.sub_self] at hadv
        clear e0
        go_wp2
        go_ret2
        obtain ⟨a', c', q1, q2, q3⟩ := hadv
        exact ⟨by rw [HV.out]; rfl, a', ⟨c', q1⟩, q2, q3⟩
      · have hadv := h.advance hb HC.out size hlen (off + size) (.inr rfl)
        go_wp2
        go_ret2
        obtain ⟨a', c', q1, q2, q3⟩ := hadv
        exact ⟨by rw [HV.out]; rfl, a', ⟨c', q1⟩, q2, q3⟩
    · obtain ⟨i, rfl⟩ : ∃ i, j = i + 1 := ⟨j - 1, by omega⟩
      have hci := HC.out i (by omega)
      have hxl := octs_getD h.row.byte i
      have hv1 := HVB.out (i + 1) hj
      have hv0 := HVB.out i (by omega)
      have hvs := HVS.out i (by omega)
      have h7 : i = 7 → l.getD i 0 ≤ 127 := fun e => by subst e; exact HX7.out (by omega)
      obtain ⟨x, hx⟩ : ∃ x, x = l.getD i 0 := ⟨_, rfl⟩
      rw [← hx] at hci hxl hvs h7
      clear hx
      obtain ⟨v1, hv1e⟩ : ∃ v, v = val ((l.take size).drop (i + 1)) := ⟨_, rfl⟩
      rw [← hv1e] at hv1 hvs ⊢
      clear hv1e
      have HV0 : Hid (val ((l.take size).drop i) = x + 256 * v1) := hvs
      rw [hvs] at hv0
      clear hvs
      have ei : (((i + 1 : Nat) : Int) - 1) = (i : Int) := by omega
      rw [ei]
      clear ei
      have q1 : (0 : Int) ≤ (i : Int) := by omega
      have q2 : (i : Int) < (l.length : Int) := by omega
      by_cases hi7 : i = 7
      · have hx127 := h7 hi7
        subst hi7
        have q3 : ¬ (127 : Int) < (x : Int) := by omega
        go_wp2
        go_round
        case rel => exact ⟨7, by omega, by go_num, by rw [HV0.out]; exact val_int (by omega)⟩
        case measure => simp [intOf]
      · have q3 : ((i : Int) == 7) = false := by simp; omega
        go_wp2
        go_round
        case rel => exact ⟨i, by omega, by go_num, by rw [HV0.out]; exact val_int (by omega)⟩
        case measure => simp [intOf]

theorem fnum_all (size : Int) (rb : Nat) (a : Option Addr) (cap : Nat) (st : RS) (w : World) (h : Rf w rb a cap st.1 st.2) :
    Calls Tryz.prog 59 #[.pointer (some ⟨rb, 0, none⟩), .int .i64 size] w fun e w' => e = .returned (.tuple #[.int .i64 (numS st size).1, .int .i64 (numS st size).2.1]) ∧
      ∃ a' c', Rf w' rb a' c' (numS st size).2.2.1 (numS st size).2.2.2 ∧ Fr (fun k => k = rb) w w' ∧ Near a a' := by
  obtain ⟨l, err⟩ := st
  by_cases hs : size = 1 ∨ size = 2 ∨ size = 4 ∨ size = 8
  · have hsb : sizedB size = true := decide_eq_true hs
    obtain ⟨sz, rfl⟩ := Int.eq_ofNat_of_zero_le (a := size) (by omega)
    by_cases he : err = 0
    · subst he
      by_cases hlt : l.length < sz
      · have e : numS (l, 0) sz = (0, 10, (l, 10)) := by unfold numS; rw [if_neg (not_not_intro hs), if_neg (by simp), if_pos (by simpa using hlt)]
        rw [e]
        refine (fnum_cut sz hsb rb a cap l (by omega) w h).mono ?_
        rintro e w' ⟨rfl, rfl⟩
        exact ⟨rfl, a, cap, (h.fail 10).1.drew, (h.fail 10).2.drew, Near.refl a⟩
      · obtain ⟨b, off, rfl, hb, hc⟩ : ∃ b off, a = some ⟨b, off, none⟩ ∧ b < w.heap.size ∧ ∀ i, i < l.length → w.cell? ⟨b, off + i, none⟩ = some (.int .u8 ((l.getD i 0 : Nat) : Int)) := by
          rcases h.row.at_ with e | e
          · have e' : l = [] := e
            rw [e'] at hlt; simp at hlt; omega
          · exact e
        have ho : octs l := h.row.byte
        by_cases hv : 9223372036854775808 ≤ val (l.take sz)
        · have e : numS (l, 0) sz = (0, 1, (l, 1)) := by unfold numS; rw [if_neg (not_not_intro hs), if_neg (by simp), if_neg (by simpa using hlt), if_pos (by simpa using hv)]
          rw [e]
          have h8 : sz = 8 := by
            have h1 : (l.take sz).length = sz := by simp; omega
            by_cases h4 : sz ≤ 4
            · have := small_val (octs_take ho sz) (by omega); omega
            · omega
          subst h8
          have ht8 : (l.take 8).length = 8 := by simp; omega
          have h7 := (top_byte (octs_take ho 8) ht8).mp hv
          have e7 : (l.take 8).getD 7 0 = l.getD 7 0 := by simp [List.getD_eq_getElem?_getD]
          rw [e7] at h7
          refine (fnum_big rb b off cap l (by omega) h7 w h hc).mono ?_
          rintro e w' ⟨rfl, rfl⟩
          exact ⟨rfl, _, cap, (h.fail 1).1.drew, (h.fail 1).2.drew, Near.refl _⟩
        · have e : numS (l, 0) sz = ((val (l.take sz) : Int), 0, (l.drop sz, 0)) := by unfold numS; rw [if_neg (not_not_intro hs), if_neg (by simp), if_neg (by simpa using hlt), if_neg (by simpa using hv)]; rfl
          rw [e]
          refine (fnum_ok sz hs rb b off cap l (by omega) (by omega) w h hb hc).mono ?_
          rintro e w' ⟨rfl, a', c', hrd, hf, hn⟩
          exact ⟨rfl, a', c', hrd, hf, hn⟩
    · have e : numS (l, err) sz = (0, err, (l, err)) := by unfold numS; rw [if_neg (not_not_intro hs), if_pos (by simpa using he)]
      rw [e]
      refine (fnum_stop sz hsb rb a cap l err he w h).mono ?_
      rintro e w' ⟨rfl, rfl⟩
      exact ⟨rfl, a, cap, h.drew, (Fr.refl _ _).drew, Near.refl a⟩
  · have e : numS (l, err) size = (0, 1, (l, err)) := by unfold numS; rw [if_pos hs]
    rw [e]
    refine (fnum_arg (some ⟨rb, 0, none⟩) size (decide_eq_false hs) w).mono ?_
    rintro e w' ⟨rfl, rfl⟩
    exact ⟨rfl, a, cap, h, Fr.refl _ _, Near.refl a⟩
end Go.Proofs.YtnoadmkkkeianaaGreat
