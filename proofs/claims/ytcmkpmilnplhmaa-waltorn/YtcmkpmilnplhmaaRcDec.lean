
/- What record.recordOf and record.frameSize tell. -/
import Derived.Test.YtcmkpmilnplhmaaWTF
namespace Go.Proofs.Ytcmkpmilnplhmaa
open Go.RowKit Crcm

theorem rnum_nm (size : Int) (rb : Nat) (a : Option Addr) (cap : Nat) (st : RS) (w : World) (h : Rd w rb a cap st.1 st.2) :
    Calls Try.prog 42 #[.pointer (some ⟨rb, 0, none⟩), .int .i64 size] w fun e w' => ∃ er, e = .returned (.tuple #[.int .i64 (nm st size).1, .int .i64 er]) ∧
      ∃ a' c', Rd w' rb a' c' (nm st size).2.1 (nm st size).2.2 ∧ Fr (fun k => k = rb) w w' ∧ Near a a' := by
  refine (rnum_all size rb a cap st w h).mono ?_
  rintro e w' ⟨rfl, hq⟩
  exact ⟨_, rfl, hq⟩
theorem rtext_tx (most : Int) (rb : Nat) (a : Option Addr) (cap : Nat) (st : RS) (w : World) (h : Rd w rb a cap st.1 st.2) :
    Calls Try.prog 43 #[.pointer (some ⟨rb, 0, none⟩), .int .i64 most] w fun e w' => ∃ er, e = .returned (.tuple #[.string (tx st most).1, .int .i64 er]) ∧
      ∃ a' c', Rd w' rb a' c' (tx st most).2.1 (tx st most).2.2 ∧ Fr (fun k => k = rb) w w' ∧ Near a a' := by
  refine (rtext_all most rb a cap st w h).mono ?_
  rintro e w' ⟨rfl, hq⟩
  exact ⟨_, rfl, hq⟩
set_option maxRecDepth 100000 in
set_option maxHeartbeats 2000000 in
theorem fin8 {W : World} {B : Nat} {t : TypeId} {r0 r1 r2 r3 r4 r5 r6 r7 : Value} (h : W.heap[B]? = some (.cells #[r0, r1, r2, r3, r4, r5, r6, r7] t (0, 0))) (v0 v1 v2 v3 v4 v5 v6 v7 : Value) :
    ((((((((W.setCell ⟨B, 0, none⟩ v0).setCell ⟨B, 1, none⟩ v1).setCell ⟨B, 2, none⟩ v2).setCell ⟨B, 3, none⟩ v3).setCell ⟨B, 4, none⟩ v4).setCell ⟨B, 5, none⟩ v5).setCell ⟨B, 6, none⟩ v6).setCell ⟨B, 7, none⟩ v7).heap[B]? = some (.cells #[v0, v1, v2, v3, v4, v5, v6, v7] t (0, 0)) ∧
    Fr (fun k => k = B) W ((((((((W.setCell ⟨B, 0, none⟩ v0).setCell ⟨B, 1, none⟩ v1).setCell ⟨B, 2, none⟩ v2).setCell ⟨B, 3, none⟩ v3).setCell ⟨B, 4, none⟩ v4).setCell ⟨B, 5, none⟩ v5).setCell ⟨B, 6, none⟩ v6).setCell ⟨B, 7, none⟩ v7) := by
  refine ⟨?_, (((((((((Fr.refl (fun k => k = B) W).setCell (p := ⟨B, 0, none⟩) (fun _ => rfl) v0).setCell (p := ⟨B, 1, none⟩) (fun _ => rfl) v1).setCell (p := ⟨B, 2, none⟩) (fun _ => rfl) v2).setCell (p := ⟨B, 3, none⟩) (fun _ => rfl) v3).setCell (p := ⟨B, 4, none⟩) (fun _ => rfl) v4).setCell (p := ⟨B, 5, none⟩) (fun _ => rfl) v5).setCell (p := ⟨B, 6, none⟩) (fun _ => rfl) v6).setCell (p := ⟨B, 7, none⟩) (fun _ => rfl) v7)⟩
  rw [node_setCell (node_setCell (node_setCell (node_setCell (node_setCell (node_setCell (node_setCell (node_setCell h v0) v1) v2) v3) v4) v5) v6) v7]
  rfl

set_option maxRecDepth 100000 in
set_option maxHeartbeats 400000 in
theorem of_far (a : Option Addr) (n cap : Nat) (l : List Nat) (hn : n = l.length) (w : World) (hr : Row w a cap l) :
    Calls Try.prog 41 #[.slice a n cap] w fun e w' => ∃ rb a' c', e = .returned (.pointer (some ⟨rb, 0, none⟩)) ∧ Rd w' rb a' c' l 0 ∧ Fr (fun _ => False) w w' ∧ w.heap.size ≤ rb ∧ (∀ b off sp, a' = some ⟨b, off, sp⟩ → w.heap.size ≤ b ∧ b < w'.heap.size) := by
  obtain ⟨i0, hi, hz0, hz1, hz2⟩ := info_parts info8
  have hs := hr.small
  go_enter Try.func41, Try.ntmps41
  go_wp2_with (at_builtin; refine wpList_append_rowW _ rfl _ _ 23 23 5 rfl i0 Try.underlying23 Try.underlying23 hi hz0 hz1 hz2 w.heap.size (.slice none 0 0) [] rfl (World.ownsRow_nil _ _ _ _) a n cap l hn rfl hr (by simpa using hs) (Nat.le_refl _) ?_; intro a' c' w1 hown hgrow)
  go_ret
  have hm : Mine w1 w.heap.size (.slice a' l.length c') l := by simpa using hown
  obtain ⟨a2, c2, he, hrow⟩ := hm.rowW hr.byte hs
  simp only [Value.slice.injEq, true_and] at he
  obtain ⟨rfl, rfl⟩ := he
  have hge : ∀ b off sp, a' = some ⟨b, off, sp⟩ → w.heap.size ≤ b ∧ b < w1.heap.size := fun b off sp e => hm.lt b (by rw [e]; rfl)
  refine ⟨w1.heap.size, a', c', rfl, ⟨heap_alloc_new w1 _, hrow.fr ((Fr.refl (fun _ => False) w1).alloc _) (fun _ _ _ _ f => f), fun b off sp e => ?_⟩, (Fr.ofGrown hgrow).alloc _, hgrow.size, fun b off sp e => ⟨(hge b off sp e).1, by have := (hge b off sp e).2; simp; omega⟩⟩
  have := (hge b off sp e).2
  omega

/-- A record under way at block nk, a reader at rb, an answer at W0's end; what was there at W0 is as it was. -/
structure Rw (W0 w : World) (nk rb : Nat) (a : Option Addr) (cap : Nat) (s : RS) (C : Array Value) : Prop where
  box : w.heap[nk]? = some (.cells C 28 (0, 0))
  rd : Rd w rb a cap s.1 s.2
  ne : rb < nk
  low : W0.heap.size < rb
  alt : ∀ b off sp, a = some ⟨b, off, sp⟩ → b < nk ∧ W0.heap.size < b
  fr : Fr (fun _ => False) W0 w
  res : w.heap[W0.heap.size]? = some (.cells #[.int .i64 0, .int .i64 0, .int .i64 0, .int .i64 0, .int .i64 0, .int .i64 0, .string ⟨#[]⟩, .string ⟨#[]⟩] 28 (0, 0))
section
variable {W0 w w' : World} {nk rb : Nat} {a a' : Option Addr} {cap c' : Nat} {s s' : RS} {C : Array Value}
theorem Rw.goR (h : Rw W0 w nk rb a cap s C) (r : Rd w' rb a' c' s'.1 s'.2) (f : Fr (fun k => k = rb) w w') (na : Near a a') : Rw W0 w' nk rb a' c' s' C := by
  have h1 := h.ne
  have h2 := h.low
  exact ⟨by rw [f.block nk (lt_of_block h.box) (by omega)]; exact h.box, r, h.ne, h.low, (fun b off sp e => by obtain ⟨o, t, e2⟩ := na b off sp e; exact h.alt b o t e2), h.fr.trans f (S := fun _ => False) (fun i hi e => by omega), by rw [f.block _ (lt_of_block h.res) (by omega)]; exact h.res⟩
theorem Rw.put (h : Rw W0 w nk rb a cap s C) (j : Nat) (x : Value) : Rw W0 (w.setCell ⟨nk, j, none⟩ x) nk rb a cap s (C.setIfInBounds j x) := by
  have h1 := h.ne
  have h2 := h.low
  have f : Fr (fun k => k = nk) w (w.setCell ⟨nk, j, none⟩ x) := (Fr.refl (fun k => k = nk) w).setCell (p := ⟨nk, j, none⟩) (fun _ => rfl) _
  exact ⟨node_setCell h.box x, ⟨by rw [f.block rb (lt_of_block h.rd.box) (by omega)]; exact h.rd.box, h.rd.row.fr f (fun b off sp e => by have := (h.alt b off sp e).1; omega), h.rd.far⟩, h.ne, h.low, h.alt, h.fr.trans f (S := fun _ => False) (fun i hi e => by omega), by rw [f.block _ (lt_of_block h.res) (by omega)]; exact h.res⟩
theorem Rw.same (h : Rw W0 w nk rb a cap s C) (f : Fr (fun _ => False) w w') : Rw W0 w' nk rb a cap s C :=
  ⟨by rw [f.block nk (lt_of_block h.box) (fun f => f)]; exact h.box, ⟨by rw [f.block rb (lt_of_block h.rd.box) (fun f => f)]; exact h.rd.box, h.rd.row.same f, h.rd.far⟩, h.ne, h.low, h.alt, h.fr.seq' f, by rw [f.block _ (lt_of_block h.res) (fun f => f)]; exact h.res⟩
end

/-- What recordOf tells. -/
def RecOut (w : World) (o : Option Rec) (e : Ending) (w' : World) : Prop :=
  e = .returned (.tuple #[(.agg #[.int .i64 (o.getD zr).lsn, .int .i64 (o.getD zr).ep, .int .i64 (o.getD zr).kind, .int .i64 (o.getD zr).page, .int .i64 (o.getD zr).other, .int .i64 (o.getD zr).req, .string (o.getD zr).key, .string (o.getD zr).val]), .int .i64 (if o.isSome = true then 0 else 90)]) ∧ Fr (fun _ => False) w w'
theorem rec_no {w w' : World} {o : Option Rec} (h : o = none) (f : Fr (fun _ => False) w w') : RecOut w o (.returned (.tuple #[.agg #[.int .i64 0, .int .i64 0, .int .i64 0, .int .i64 0, .int .i64 0, .int .i64 0, .string ⟨#[]⟩, .string ⟨#[]⟩], .int .i64 90])) w' := by
  unfold RecOut; rw [h]; exact ⟨rfl, f⟩
theorem rec_yes {w w' : World} {o : Option Rec} (r : Rec) (h : o = some r) (f : Fr (fun _ => False) w w') : RecOut w o (.returned (.tuple #[(.agg #[.int .i64 r.lsn, .int .i64 r.ep, .int .i64 r.kind, .int .i64 r.page, .int .i64 r.other, .int .i64 r.req, .string r.key, .string r.val]), .int .i64 0])) w' := by
  unfold RecOut; rw [h]; exact ⟨rfl, f⟩
theorem tx_size (s : RS) (m : Int) (ho : octs s.1) : (tx s m).1.size ≤ 65535 := textF_size (s, false) m ho

set_option maxRecDepth 100000 in
set_option maxHeartbeats 4000000 in
theorem recordOf_any (a : Option Addr) (n cap : Nat) (l : List Nat) (hn : n = l.length) (w : World) (hr : Row w a cap l) :
    Calls Try.prog 32 #[.slice a n cap] w fun e w' => RecOut w (recD l) e w' := by
  obtain ⟨y1, h1⟩ : ∃ y, y = nm (l, 0) 8 := ⟨_, rfl⟩
  obtain ⟨y2, h2⟩ : ∃ y, y = nm y1.2 8 := ⟨_, rfl⟩
  obtain ⟨y3, h3⟩ : ∃ y, y = nm y2.2 1 := ⟨_, rfl⟩
  obtain ⟨y4, h4⟩ : ∃ y, y = nm y3.2 4 := ⟨_, rfl⟩
  obtain ⟨y5, h5⟩ : ∃ y, y = nm y4.2 4 := ⟨_, rfl⟩
  obtain ⟨y6, h6⟩ : ∃ y, y = nm y5.2 8 := ⟨_, rfl⟩
  obtain ⟨y7, h7⟩ : ∃ y, y = tx y6.2 256 := ⟨_, rfl⟩
  obtain ⟨y8, h8⟩ : ∃ y, y = tx y7.2 256 := ⟨_, rfl⟩
  have HS : Hid (recS (l, 0) 256 = (⟨y1.1, y2.1, y3.1, y4.1, y5.1, y6.1, y7.1, y8.1⟩, y8.2)) := recS_eq (l, 0) 256 h1.symm h2.symm h3.symm h4.symm h5.symm h6.symm h7.symm h8.symm
  have H1 : Hid (y1 = nm (l, 0) 8) := h1
  have H2 : Hid (y2 = nm y1.2 8) := h2
  have H3 : Hid (y3 = nm y2.2 1) := h3
  have H4 : Hid (y4 = nm y3.2 4) := h4
  have H5 : Hid (y5 = nm y4.2 4) := h5
  have H6 : Hid (y6 = nm y5.2 8) := h6
  have H7 : Hid (y7 = tx y6.2 256) := h7
  have H8 : Hid (y8 = tx y7.2 256) := h8
  have HD : Hid (recD l = if endOf y8.2.1 y8.2.2 = 0 ∧ rok ⟨y1.1, y2.1, y3.1, y4.1, y5.1, y6.1, y7.1, y8.1⟩ = true then some ⟨y1.1, y2.1, y3.1, y4.1, y5.1, y6.1, y7.1, y8.1⟩ else none) := by
    show recM l 256 = _
    unfold recM; rw [HS.out]
  clear h1 h2 h3 h4 h5 h6 h7 h8 HS
  subst hn
  have f0 := Fr.box w (.cells #[.int .i64 0, .int .i64 0, .int .i64 0, .int .i64 0, .int .i64 0, .int .i64 0, .string ⟨#[]⟩, .string ⟨#[]⟩] 28)
  have hof := of_far a l.length cap l rfl _ (hr.same f0)
  clear hr
  go_enter Try.func32, Try.ntmps32
  go_wp2_with fail
  refine hof.mono ?_
  clear hof
  rintro e w1 ⟨rb, a1, c1, rfl, rd1, f1, hrb, ha1⟩
  have hrl := lt_of_block rd1.box
  have B0 : Rw w (w1.alloc (.cells #[.int .i64 0, .int .i64 0, .int .i64 0, .int .i64 0, .int .i64 0, .int .i64 0, .string ⟨#[]⟩, .string ⟨#[]⟩] 28)) w1.heap.size rb a1 c1 (l, 0) #[.int .i64 0, .int .i64 0, .int .i64 0, .int .i64 0, .int .i64 0, .int .i64 0, .string ⟨#[]⟩, .string ⟨#[]⟩] := by
    have fb := Fr.box w1 (.cells #[.int .i64 0, .int .i64 0, .int .i64 0, .int .i64 0, .int .i64 0, .int .i64 0, .string ⟨#[]⟩, .string ⟨#[]⟩] 28)
    refine ⟨heap_alloc_new w1 _, ⟨by rw [fb.block rb hrl (fun f => f)]; exact rd1.box, rd1.row.same fb, rd1.far⟩, by omega, by simp at hrb; omega, ?_, (f0.seq' f1).seq' fb, ?_⟩
    · intro b off sp e; have := ha1 b off sp e; simp at this; omega
    · rw [fb.block _ (by have := f1.size; simp at this; omega) (fun f => f), f1.block _ (by simp) (fun f => f)]; exact heap_alloc_new w _
  clear rd1 ha1 hrl f1 hrb f0
  go_wp2_with fail
  refine (rnum_nm 8 rb a1 c1 (l, 0) _ B0.rd).mono ?_
  rw [← H1.out]
  rintro e w2 ⟨er0, rfl, a2, c2, r2, g2, n2⟩
  have A0 := B0.goR r2 g2 n2
  obtain ⟨⟨k0, k1, k2, k3, k4, k5, k6, k7⟩, fz⟩ := rec_cells A0.box
  have fz0 := fz 0
  have B1 := A0.put 0 (.int .i64 y1.1)
  clear r2 g2 n2 fz A0 B0
  go_wp2_with fail
  refine (rnum_nm 8 rb a2 c2 y1.2 _ B1.rd).mono ?_
  rw [← H2.out]
  rintro e w3 ⟨er1, rfl, a3, c3, r2, g2, n2⟩
  clear k0 k1 k2 k3 k4 k5 k6 k7 fz0
  have A1 := B1.goR r2 g2 n2
  obtain ⟨⟨k0, k1, k2, k3, k4, k5, k6, k7⟩, fz⟩ := rec_cells A1.box
  have fz0 := fz 1
  have B2 := A1.put 1 (.int .i64 y2.1)
  clear r2 g2 n2 fz A1 B1
  go_wp2_with fail
  refine (rnum_nm 1 rb a3 c3 y2.2 _ B2.rd).mono ?_
  rw [← H3.out]
  rintro e w4 ⟨er2, rfl, a4, c4, r2, g2, n2⟩
  clear k0 k1 k2 k3 k4 k5 k6 k7 fz0
  have A2 := B2.goR r2 g2 n2
  obtain ⟨⟨k0, k1, k2, k3, k4, k5, k6, k7⟩, fz⟩ := rec_cells A2.box
  have fz0 := fz 2
  have B3 := A2.put 2 (.int .i64 y3.1)
  clear r2 g2 n2 fz A2 B2
  go_wp2_with fail
  refine (rnum_nm 4 rb a4 c4 y3.2 _ B3.rd).mono ?_
  rw [← H4.out]
  rintro e w5 ⟨er3, rfl, a5, c5, r2, g2, n2⟩
  clear k0 k1 k2 k3 k4 k5 k6 k7 fz0
  have A3 := B3.goR r2 g2 n2
  obtain ⟨⟨k0, k1, k2, k3, k4, k5, k6, k7⟩, fz⟩ := rec_cells A3.box
  have fz0 := fz 3
  have B4 := A3.put 3 (.int .i64 y4.1)
  clear r2 g2 n2 fz A3 B3
  go_wp2_with fail
  refine (rnum_nm 4 rb a5 c5 y4.2 _ B4.rd).mono ?_
  rw [← H5.out]
  rintro e w6 ⟨er4, rfl, a6, c6, r2, g2, n2⟩
  clear k0 k1 k2 k3 k4 k5 k6 k7 fz0
  have A4 := B4.goR r2 g2 n2
  obtain ⟨⟨k0, k1, k2, k3, k4, k5, k6, k7⟩, fz⟩ := rec_cells A4.box
  have fz0 := fz 4
  have B5 := A4.put 4 (.int .i64 y5.1)
  clear r2 g2 n2 fz A4 B4
  go_wp2_with fail
  refine (rnum_nm 8 rb a6 c6 y5.2 _ B5.rd).mono ?_
  rw [← H6.out]
  rintro e w7 ⟨er5, rfl, a7, c7, r2, g2, n2⟩
  clear k0 k1 k2 k3 k4 k5 k6 k7 fz0
  have A5 := B5.goR r2 g2 n2
  obtain ⟨⟨k0, k1, k2, k3, k4, k5, k6, k7⟩, fz⟩ := rec_cells A5.box
  have fz0 := fz 5
  have B6 := A5.put 5 (.int .i64 y6.1)
  clear r2 g2 n2 fz A5 B5
  go_wp2_with fail
  refine (rtext_tx 256 rb a7 c7 y6.2 _ B6.rd).mono ?_
  rw [← H7.out]
  rintro e w8 ⟨er6, rfl, a8, c8, r2, g2, n2⟩
  clear k0 k1 k2 k3 k4 k5 k6 k7 fz0
  have A6 := B6.goR r2 g2 n2
  obtain ⟨⟨k0, k1, k2, k3, k4, k5, k6, k7⟩, fz⟩ := rec_cells A6.box
  have fz0 := fz 6
  have B7 := A6.put 6 (.string y7.1)
  clear r2 g2 n2 fz A6 B6
  go_wp2_with fail
  refine (rtext_tx 256 rb a8 c8 y7.2 _ B7.rd).mono ?_
  rw [← H8.out]
  rintro e w9 ⟨er7, rfl, a9, c9, r2, g2, n2⟩
  clear k0 k1 k2 k3 k4 k5 k6 k7 fz0
  have A7 := B7.goR r2 g2 n2
  obtain ⟨⟨k0, k1, k2, k3, k4, k5, k6, k7⟩, fz⟩ := rec_cells A7.box
  have fz0 := fz 7
  have B8 := A7.put 7 (.string y8.1)
  clear r2 g2 n2 fz A7 B7
  have HB8 : Hid (Rw w (w9.setCell ⟨w1.heap.size, 7, none⟩ (.string y8.1)) w1.heap.size rb a9 c9 y8.2 #[.int .i64 y1.1, .int .i64 y2.1, .int .i64 y3.1, .int .i64 y4.1, .int .i64 y5.1, .int .i64 y6.1, .string y7.1, .string y8.1]) := B8
  clear B8
  obtain ⟨W9, hW9⟩ : ∃ W, W = w9.setCell ⟨w1.heap.size, 7, none⟩ (.string y8.1) := ⟨_, rfl⟩
  rw [← hW9] at HB8
  have HW9 : Hid (w9.setCell ⟨w1.heap.size, 7, none⟩ (.string y8.1) = W9) := hW9.symm
  clear hW9
  have hen := end_any rb a9 c9 y8.2.1 y8.2.2 W9 HB8.out.rd
  obtain ⟨en, hen0⟩ : ∃ en, en = endOf y8.2.1 y8.2.2 := ⟨_, rfl⟩
  rw [← hen0] at hen HD
  clear hen0
  obtain ⟨r, hr⟩ : ∃ r : Rec, r = ⟨y1.1, y2.1, y3.1, y4.1, y5.1, y6.1, y7.1, y8.1⟩ := ⟨_, rfl⟩
  have hck := fun W => rec_check ⟨y1.1, y2.1, y3.1, y4.1, y5.1, y6.1, y7.1, y8.1⟩ W
  rw [← hr] at HD hck
  have HRV : Hid ((Value.agg #[.int .i64 r.lsn, .int .i64 r.ep, .int .i64 r.kind, .int .i64 r.page, .int .i64 r.other, .int .i64 r.req, .string r.key, .string r.val]) = .agg #[.int .i64 y1.1, .int .i64 y2.1, .int .i64 y3.1, .int .i64 y4.1, .int .i64 y5.1, .int .i64 y6.1, .string y7.1, .string y8.1]) := by show _ = _; rw [hr]
  rw [HRV.out] at hck
  clear hr
  by_cases he : en = 0
  · subst he
    cases hk : rok r with
    | true =>
      have HN : Hid (recD l = some r) := by show _ = _; rw [HD.out, if_pos ⟨rfl, hk⟩]
      have HE : Hid (erec r = 0) := erec_yes hk
      rw [HE.out] at hck
      clear hk HE
      go_wp2_with fail
      rw [HW9.out]
      refine hen.mono ?_
      rintro e w10 ⟨rfl, rfl⟩
      clear k0 k1 k2 k3 k4 k5 k6 k7 fz0
      obtain ⟨⟨k0, k1, k2, k3, k4, k5, k6, k7⟩, fz⟩ := rec_cells HB8.out.box
      go_wp2_with fail
      refine (hck _).mono ?_
      rintro e w11 ⟨rfl, f11⟩
      have B9 := HB8.out.same f11
      clear k0 k1 k2 k3 k4 k5 k6 k7 fz
      obtain ⟨⟨k0, k1, k2, k3, k4, k5, k6, k7⟩, fz⟩ := rec_cells B9.box
      obtain ⟨⟨z0, z1, z2, z3, z4, z5, z6, z7⟩, zz⟩ := rec_cells B9.res
      have x0 := zz 0; have x1 := zz 1; have x2 := zz 2; have x3 := zz 3; have x4 := zz 4; have x5 := zz 5; have x6 := zz 6; have x7 := zz 7
      obtain ⟨hb, ff⟩ := fin8 B9.res (.int .i64 y1.1) (.int .i64 y2.1) (.int .i64 y3.1) (.int .i64 y4.1) (.int .i64 y5.1) (.int .i64 y6.1) (.string y7.1) (.string y8.1)
      obtain ⟨⟨q0, q1, q2, q3, q4, q5, q6, q7⟩, _⟩ := rec_cells hb
      have ff2 := B9.fr.trans ff (S := fun _ => False) (fun i hi e => by omega)
      clear zz fz
      go_wp2
      refine bodyPost_ret (v := .tuple #[.agg #[.int .i64 y1.1, .int .i64 y2.1, .int .i64 y3.1, .int .i64 y4.1, .int .i64 y5.1, .int .i64 y6.1, .string y7.1, .string y8.1], .int .i64 0]) (by simp [results, Try.results32, go_sem, q0, q1, q2, q3, q4, q5, q6, q7]) rfl ?_
      rw [← HRV.out]
      exact rec_yes r HN.out ff2
    | false =>
      have HN : Hid (recD l = none) := by show _ = _; rw [HD.out, if_neg (fun h => by rw [hk] at h; exact absurd h.2 (by simp))]
      have HE : Hid (erec r = 90) := erec_no hk
      rw [HE.out] at hck
      clear hk HE
      go_wp2_with fail
      rw [HW9.out]
      refine hen.mono ?_
      rintro e w10 ⟨rfl, rfl⟩
      clear k0 k1 k2 k3 k4 k5 k6 k7 fz0
      obtain ⟨⟨k0, k1, k2, k3, k4, k5, k6, k7⟩, fz⟩ := rec_cells HB8.out.box
      go_wp2_with fail
      refine (hck _).mono ?_
      rintro e w11 ⟨rfl, f11⟩
      have B9 := HB8.out.same f11
      clear k0 k1 k2 k3 k4 k5 k6 k7 fz
      obtain ⟨⟨z0, z1, z2, z3, z4, z5, z6, z7⟩, zz⟩ := rec_cells B9.res
      have x0 := zz 0; have x1 := zz 1; have x2 := zz 2; have x3 := zz 3; have x4 := zz 4; have x5 := zz 5; have x6 := zz 6; have x7 := zz 7
      obtain ⟨hb, ff⟩ := fin8 B9.res (.int .i64 0) (.int .i64 0) (.int .i64 0) (.int .i64 0) (.int .i64 0) (.int .i64 0) (.string ⟨#[]⟩) (.string ⟨#[]⟩)
      obtain ⟨⟨q0, q1, q2, q3, q4, q5, q6, q7⟩, _⟩ := rec_cells hb
      have ff2 := B9.fr.trans ff (S := fun _ => False) (fun i hi e => by omega)
      clear zz
      go_wp2
      exact bodyPost_ret (v := .tuple #[.agg #[.int .i64 0, .int .i64 0, .int .i64 0, .int .i64 0, .int .i64 0, .int .i64 0, .string ⟨#[]⟩, .string ⟨#[]⟩], .int .i64 90]) (by simp [results, Try.results32, go_sem, q0, q1, q2, q3, q4, q5, q6, q7]) rfl (rec_no HN.out ff2)
  · have HN : Hid (recD l = none) := by show _ = _; rw [HD.out, if_neg (fun h => he h.1)]
    have heb : (en != 0) = true := by simpa using he
    clear he
    go_wp2_with fail
    rw [HW9.out]
    refine hen.mono ?_
    rintro e w10 ⟨rfl, rfl⟩
    clear k0 k1 k2 k3 k4 k5 k6 k7 fz0
    have B9 := HB8.out
    obtain ⟨⟨z0, z1, z2, z3, z4, z5, z6, z7⟩, zz⟩ := rec_cells B9.res
    have x0 := zz 0; have x1 := zz 1; have x2 := zz 2; have x3 := zz 3; have x4 := zz 4; have x5 := zz 5; have x6 := zz 6; have x7 := zz 7
    obtain ⟨hb, ff⟩ := fin8 B9.res (.int .i64 0) (.int .i64 0) (.int .i64 0) (.int .i64 0) (.int .i64 0) (.int .i64 0) (.string ⟨#[]⟩) (.string ⟨#[]⟩)
    obtain ⟨⟨q0, q1, q2, q3, q4, q5, q6, q7⟩, _⟩ := rec_cells hb
    have ff2 := B9.fr.trans ff (S := fun _ => False) (fun i hi e => by omega)
    clear zz
    go_wp2
    exact bodyPost_ret (v := .tuple #[.agg #[.int .i64 0, .int .i64 0, .int .i64 0, .int .i64 0, .int .i64 0, .int .i64 0, .string ⟨#[]⟩, .string ⟨#[]⟩], .int .i64 90]) (by simp [results, Try.results32, go_sem, q0, q1, q2, q3, q4, q5, q6, q7]) rfl (rec_no HN.out ff2)
end Go.Proofs.Ytcmkpmilnplhmaa
