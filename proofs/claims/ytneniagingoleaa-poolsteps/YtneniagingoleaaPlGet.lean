
/- What letGo, Get, Clean, Flushed, Pins and New do. -/
import Derived.Test.YtneniagingoleaaPlIdle
namespace Go.Proofs.Ytneniagingoleaa
open Go.RowKit

theorem fin4 {W : World} {B : Nat} {t : TypeId} {r0 r1 r2 r3 : Value} (h : W.heap[B]? = some (.cells #[r0, r1, r2, r3] t (0, 0))) (v0 v1 v2 v3 : Value) :
    ((((W.setCell ⟨B, 0, none⟩ v0).setCell ⟨B, 1, none⟩ v1).setCell ⟨B, 2, none⟩ v2).setCell ⟨B, 3, none⟩ v3).heap[B]? = some (.cells #[v0, v1, v2, v3] t (0, 0)) ∧
    Fr (fun k => k = B) W ((((W.setCell ⟨B, 0, none⟩ v0).setCell ⟨B, 1, none⟩ v1).setCell ⟨B, 2, none⟩ v2).setCell ⟨B, 3, none⟩ v3) :=
  ⟨four_setCell (j := 3) (four_setCell (j := 2) (four_setCell (j := 1) (four_setCell (j := 0) h v0) v1) v2) v3,
    ((((Fr.refl (fun k => k = B) W).setCell (p := ⟨B, 0, none⟩) (fun _ => rfl) v0).setCell (p := ⟨B, 1, none⟩) (fun _ => rfl) v1).setCell (p := ⟨B, 2, none⟩) (fun _ => rfl) v2).setCell (p := ⟨B, 3, none⟩) (fun _ => rfl) v3⟩
theorem Pl.fr {S : Nat → Prop} {w w' : World} {pb : Nat} {fr : Int} {mb n : Nat} {us fl : Int} {M : Pmap} (h : Pl w pb fr mb n us fl M) (f : Fr S w w') (h1 : ¬ S pb) (h2 : ¬ S mb) : Pl w' pb fr mb n us fl M :=
  ⟨by rw [f.block pb (lt_of_block h.box) h1]; exact h.box, h.map.fr f h2, h.ne⟩
theorem Fr.keep {S : Nat → Prop} {w w' : World} {b : Nat} {o : Obj} (f : Fr S w w') (h : w.heap[b]? = some o) (hn : ¬ S b) : w'.heap[b]? = some o := by rw [f.block b (lt_of_block h) hn]; exact h
def lgN (g : Hd) (fl : Int) : Int := if g.since = 0 then 0 else needV fl g.lsn
def lgF (g : Hd) (fl : Int) : Int := if g.since = 0 then fl else flF fl g.lsn
section
variable (pb : Nat) (fr : Int) (mb n : Nat) (us fl : Int) (M : Pmap) (w : World)
set_option maxRecDepth 100000 in
set_option maxHeartbeats 2000000 in
theorem letGo_pl (r : Int) (g : Hd) (hm : M r = some g) (h : Pl w pb fr mb n us fl M) : Calls Try.prog 38 #[.pointer (some ⟨pb, 0, none⟩), .int .i64 r] w fun e w' => e = .returned (.agg #[.bool false, .bool (g.since != 0), .int .i64 r, .int .i64 (lgN g fl)]) ∧ Pl w' pb fr mb (n - 1) us (lgF g fl) (upd M r none) ∧ Fr (plS pb mb) w w' := by
  have hk := h.map.key hm
  have hrw : wfK r := wfK_of (by omega)
  have hpbw := lt_of_block h.box
  have hmbw := h.map.lt
  obtain ⟨A, hA⟩ : ∃ A, A = w.heap.size := ⟨_, rfl⟩
  obtain ⟨p, l, s, u⟩ := g
  have f1 : Fr (fun _ => False) w ((w.alloc (.cells #[.bool false, .bool false, .int .i64 0, .int .i64 0] 43)).alloc (.cells #[.int .i64 p, .int .i64 l, .int .i64 s, .int .i64 u] 66)) := (Fr.box w _).alloc _
  have hA1 : ((w.alloc (.cells #[.bool false, .bool false, .int .i64 0, .int .i64 0] 43)).alloc (.cells #[.int .i64 p, .int .i64 l, .int .i64 s, .int .i64 u] 66)).heap[A]? = some (.cells #[.bool false, .bool false, .int .i64 0, .int .i64 0] 43 (0, 0)) := by
    rw [(Fr.box (w.alloc (.cells #[.bool false, .bool false, .int .i64 0, .int .i64 0] 43)) _).block A (by rw [hA]; simp) (fun f => f), hA]; exact heap_alloc_new w _
  have hB1 : ((w.alloc (.cells #[.bool false, .bool false, .int .i64 0, .int .i64 0] 43)).alloc (.cells #[.int .i64 p, .int .i64 l, .int .i64 s, .int .i64 u] 66)).heap[A + 1]? = some (.cells #[.int .i64 p, .int .i64 l, .int .i64 s, .int .i64 u] 66 (0, 0)) := by
    have := heap_alloc_new (w.alloc (.cells #[.bool false, .bool false, .int .i64 0, .int .i64 0] 43)) (.cells #[.int .i64 p, .int .i64 l, .int .i64 s, .int .i64 u] 66)
    rw [show (w.alloc (.cells #[.bool false, .bool false, .int .i64 0, .int .i64 0] 43)).heap.size = A + 1 by rw [hA]; simp] at this
    exact this
  have hlk := (h.same (Fr.box w (.cells #[.bool false, .bool false, .int .i64 0, .int .i64 0] 43))).map.look1 hrw
  rw [hm] at hlk
  dsimp only [Option.getD] at hlk
  obtain ⟨⟨c0, c1, c2, c3⟩, zc⟩ := four_cells (h.same (Fr.box w (.cells #[.bool false, .bool false, .int .i64 0, .int .i64 0] 43))).box
  have h1 := h.same f1
  obtain ⟨W1, hW1⟩ : ∃ W, W = (w.alloc (.cells #[.bool false, .bool false, .int .i64 0, .int .i64 0] 43)).alloc (.cells #[.int .i64 p, .int .i64 l, .int .i64 s, .int .i64 u] 66) := ⟨_, rfl⟩
  have HW1 : Hid ((w.alloc (.cells #[.bool false, .bool false, .int .i64 0, .int .i64 0] 43)).alloc (.cells #[.int .i64 p, .int .i64 l, .int .i64 s, .int .i64 u] 66) = W1) := hW1.symm
  rw [← hW1] at f1 hA1 hB1 h1
  clear hW1
  have HN : Hid (∀ (W : World) (M' : Pmap), Pm W mb (if (M r).isSome = true then n - 1 else n) M' → Pm W mb (n - 1) M') := fun W M' hh => by rw [hm] at hh; exact hh
  have HDROP : Hid (∀ ty, ∃ w', (Builtin.delete_ #[52, 3] ty #[.map (some mb), .int .i64 r]).run Try.prog W1 = .ok (.tuple #[]) w' ∧ Pl w' pb fr mb (n - 1) us fl (upd M r none) ∧ Fr (fun k => k = mb) W1 w') := fun ty => by
    obtain ⟨w', e1, e2, e3⟩ := h1.map.drop hrw ty
    exact ⟨w', e1, h1.setMap e3 (HN.out _ _ e2), e3⟩
  have hdi := fun W => isDirty_any ⟨p, l, s, u⟩ W
  dsimp only at hdi
  have HA : Hid (A = w.heap.size) := hA
  obtain ⟨w2, hdel, h2, f2⟩ := HDROP.out 0
  have hA2 := f2.keep hA1 (by omega)
  have hB2 := f2.keep hB1 (by omega)
  have G2 : Fr (plS pb mb) w w2 := (f1.mono (fun _ _ f => f.elim)).trans f2 (fun _ _ e => .inr e)
  obtain ⟨⟨e0, e1, e2, e3⟩, ze⟩ := four_cells h1.box
  obtain ⟨⟨b0, b1, b2, b3⟩, zb⟩ := four_cells hB2
  have HAW : Hid (w.heap.size = A) := hA.symm
  have hpA : pb < A := by omega
  have hmA : mb < A := by omega
  clear zc ze zb HDROP HN hm hA hpbw hmbw
  go_enter Try.func38, Try.ntmps38
  go_upto_region 2 with fail
  rw [HW1.out, HAW.out]
  clear c0 c1 c2 c3 hlk
  go_wp2_with fail
  clear e0 e1 e2 e3 b0 b1 b2 b3 hdel
  refine (hdi _).mono ?_
  clear hdi
  rintro e w3 ⟨rfl, f3⟩
  have h3 := h2.same f3
  have hA3 := f3.keep hA2 (fun f => f)
  have hB3 := f3.keep hB2 (fun f => f)
  have G3 : Fr (plS pb mb) w w3 := G2.trans f3 (fun _ _ f => f.elim)
  clear hA2 hB2 hA1 hB1 h1 h2 f1 f2 f3 G2
  by_cases hs : s = 0
  · subst hs
    have e1 : lgN ⟨p, l, 0, u⟩ fl = 0 := if_pos rfl
    have e2 : lgF ⟨p, l, 0, u⟩ fl = fl := if_pos rfl
    have E1 : Hid (lgN ⟨p, l, 0, u⟩ fl = 0) := e1
    have E2 : Hid (lgF ⟨p, l, 0, u⟩ fl = fl) := e2
    clear e1 e2
    have fb := Fr.box w3 (.cells #[.bool false, .bool false, .int .i64 r, .int .i64 0] 43)
    have h4 := h3.same fb
    have hA4 := fb.keep hA3 (fun f => f)
    have hC4 := heap_alloc_new w3 (.cells #[.bool false, .bool false, .int .i64 r, .int .i64 0] 43)
    have G4 : Fr (plS pb mb) w (w3.alloc (.cells #[.bool false, .bool false, .int .i64 r, .int .i64 0] 43)) := G3.trans fb (fun _ _ f => f.elim)
    have hAC : A + 1 < w3.heap.size := lt_of_block hB3
    obtain ⟨C, hC⟩ : ∃ C, C = w3.heap.size := ⟨_, rfl⟩
    have HC : Hid (w3.heap.size = C) := hC.symm
    rw [← hC] at hC4 hAC
    obtain ⟨W4, hW4⟩ : ∃ W, W = w3.alloc (.cells #[.bool false, .bool false, .int .i64 r, .int .i64 0] 43) := ⟨_, rfl⟩
    have HW4 : Hid (w3.alloc (.cells #[.bool false, .bool false, .int .i64 r, .int .i64 0] 43) = W4) := hW4.symm
    rw [← hW4] at h4 hA4 hC4 G4
    clear hW4 hC fb h3 hA3 hB3 G3
    go_upto_region 6 with fail
    rw [HW4.out, HC.out]
    obtain ⟨⟨a0, a1, a2, a3⟩, za⟩ := four_cells hA4
    have za0 := za 0; have za1 := za 1; have za2 := za 2; have za3 := za 3
    obtain ⟨⟨d0, d1, d2, d3⟩, zd⟩ := four_cells hC4
    clear za zd
    go_wp2
    obtain ⟨hq, ff⟩ := fin4 hA4 (.bool false) (.bool false) (.int .i64 r) (.int .i64 0)
    have hPf := h4.fr ff (by omega) (by omega)
    have Ff := G4.trans ff (S := plS pb mb) (fun i hi e => by have := HAW.out; omega)
    generalize (((W4.setCell ⟨A, 0, none⟩ (.bool false)).setCell ⟨A, 1, none⟩ (.bool false)).setCell ⟨A, 2, none⟩ (.int .i64 r)).setCell ⟨A, 3, none⟩ (.int .i64 0) = Wf at hq hPf Ff ⊢
    obtain ⟨⟨q0, q1, q2, q3⟩, _⟩ := four_cells hq
    rw [E1.out, E2.out]
    exact bodyPost_ret (v := .agg #[.bool false, .bool false, .int .i64 r, .int .i64 0]) (by simp [results, Try.results38, go_sem, q0, q1, q2, q3]) rfl ⟨rfl, hPf, Ff⟩
  · have hsb : (s != 0) = true := by simpa using hs
    have E1 : Hid (lgN ⟨p, l, s, u⟩ fl = needV fl l) := if_neg hs
    have E2 : Hid (lgF ⟨p, l, s, u⟩ fl = flF fl l) := if_neg hs
    have E3 : Hid ((s != 0) = true) := hsb
    rw [hsb]
    clear hs hsb
    have fb := Fr.box w3 (.cells #[.bool false, .bool true, .int .i64 r, .int .i64 0] 43)
    have h4 := h3.same fb
    have hA4 := fb.keep hA3 (fun f => f)
    have hB4 := fb.keep hB3 (fun f => f)
    have hC4 := heap_alloc_new w3 (.cells #[.bool false, .bool true, .int .i64 r, .int .i64 0] 43)
    have G4 : Fr (plS pb mb) w (w3.alloc (.cells #[.bool false, .bool true, .int .i64 r, .int .i64 0] 43)) := G3.trans fb (fun _ _ f => f.elim)
    have hff := flushFor_pl pb fr mb (n - 1) us fl (upd M r none) _ l h4
    obtain ⟨⟨b0, b1, b2, b3⟩, zb⟩ := four_cells hB4
    have hAC : A + 1 < w3.heap.size := lt_of_block hB3
    obtain ⟨C, hC⟩ : ∃ C, C = w3.heap.size := ⟨_, rfl⟩
    have HC : Hid (w3.heap.size = C) := hC.symm
    rw [← hC] at hC4 hAC
    clear zb hA3 hB3 h3 G3 hC hB4 fb
    generalize needV fl l = nv at *
    generalize flF fl l = nf at *
    go_wp2_with fail
    refine hff.mono ?_
    clear hff
    rintro e w5 ⟨rfl, h5, f5⟩
    have hA5 := f5.keep hA4 (by omega)
    have hC5 := f5.keep hC4 (by omega)
    have G5 : Fr (plS pb mb) w w5 := G4.trans f5 (fun _ _ e => .inl e)
    rw [HC.out]
    clear b0 b1 b2 b3 hA4 hC4 G4 h4 f5
    have hC6 := four_setCell (j := 3) hC5 (.int .i64 nv)
    have fs : Fr (fun k => k = C) w5 (w5.setCell ⟨C, 3, none⟩ (.int .i64 nv)) := (Fr.refl (fun k => k = C) w5).setCell (p := ⟨C, 3, none⟩) (fun _ => rfl) _
    have hA6 := fs.keep hA5 (by omega)
    have h6 := h5.fr fs (by omega) (by omega)
    have G6 : Fr (plS pb mb) w (w5.setCell ⟨C, 3, none⟩ (.int .i64 nv)) := G5.trans fs (fun i hi e => by have := HAW.out; omega)
    obtain ⟨⟨d0, d1, d2, d3⟩, zd⟩ := four_cells hC5
    have zd3 := zd 3
    obtain ⟨W6, hW6⟩ : ∃ W, W = w5.setCell ⟨C, 3, none⟩ (.int .i64 nv) := ⟨_, rfl⟩
    have HW6 : Hid (w5.setCell ⟨C, 3, none⟩ (.int .i64 nv) = W6) := hW6.symm
    rw [← hW6] at hC6 hA6 h6 G6
    clear zd hW6 hA5 hC5 h5 G5 fs
    go_upto_region 6 with fail
    rw [HW6.out]
    clear d0 d1 d2 d3 zd3
    obtain ⟨⟨d0, d1, d2, d3⟩, zd⟩ := four_cells (c0 := .bool false) (c1 := .bool true) (c2 := .int .i64 r) (c3 := .int .i64 nv) hC6
    obtain ⟨⟨a0, a1, a2, a3⟩, za⟩ := four_cells hA6
    have za0 := za 0; have za1 := za 1; have za2 := za 2; have za3 := za 3
    clear za zd
    go_wp2
    obtain ⟨hq, ff⟩ := fin4 hA6 (.bool false) (.bool true) (.int .i64 r) (.int .i64 nv)
    have hPf := h6.fr ff (by omega) (by omega)
    have Ff := G6.trans ff (S := plS pb mb) (fun i hi e => by have := HAW.out; omega)
    generalize (((W6.setCell ⟨A, 0, none⟩ (.bool false)).setCell ⟨A, 1, none⟩ (.bool true)).setCell ⟨A, 2, none⟩ (.int .i64 r)).setCell ⟨A, 3, none⟩ (.int .i64 nv) = Wf at hq hPf Ff ⊢
    obtain ⟨⟨q0, q1, q2, q3⟩, _⟩ := four_cells hq
    rw [E1.out, E2.out]
    exact bodyPost_ret (v := .agg #[.bool false, .bool true, .int .i64 r, .int .i64 nv]) (by simp [results, Try.results38, go_sem, q0, q1, q2, q3]) rfl ⟨by rw [show ((⟨p, l, s, u⟩ : Hd).since != 0) = true from E3.out], hPf, Ff⟩
end
theorem get_tail {W : World} {pb : Nat} {fr : Int} {mb n : Nat} {us fl : Int} {M : Pmap} {A : Nat} {p l s u x : Int} {g0 g1 g2 g3 z0 z1 z2 z3 : Value} (hP : Pl W pb fr mb n us fl M)
    (hB : W.heap[A + 1]? = some (.cells #[.int .i64 p, .int .i64 l, .int .i64 s, .int .i64 u] 66 (0, 0))) (hC : W.heap[A + 2]? = some (.cells #[g0, g1, g2, g3] 43 (0, 0))) (hA : W.heap[A]? = some (.cells #[z0, z1, z2, z3] 43 (0, 0)))
    (hpb : pb < A) (hmb : mb < A) (hn : n ≤ 1000000) (hx : 1 ≤ x ∧ x ≤ 4096) :
    ∃ w5, (Instr.mapUpdate 52 (.map (some mb)) (.int .i64 x) (.agg #[.int .i64 (up p), .int .i64 l, .int .i64 s, .int .i64 (up us)])).run Try.prog (((W.setCell ⟨pb, 2, none⟩ (.int .i64 (up us))).setCell ⟨A + 1, 0, none⟩ (.int .i64 (up p))).setCell ⟨A + 1, 3, none⟩ (.int .i64 (up us))).drew = .ok () w5 ∧
      Pl w5 pb fr mb (if (M x).isSome = true then n else n + 1) (up us) fl (upd M x (some ⟨up p, l, s, up us⟩)) ∧ w5.heap[A + 2]? = some (.cells #[g0, g1, g2, g3] 43 (0, 0)) ∧ w5.heap[A]? = some (.cells #[z0, z1, z2, z3] 43 (0, 0)) ∧ Fr (fun k => plS pb mb k ∨ A ≤ k) W w5 ∧
      Pl (((W.setCell ⟨pb, 2, none⟩ (.int .i64 (up us))).setCell ⟨A + 1, 0, none⟩ (.int .i64 (up p))).setCell ⟨A + 1, 3, none⟩ (.int .i64 (up us))).drew pb fr mb n (up us) fl M ∧
      (((W.setCell ⟨pb, 2, none⟩ (.int .i64 (up us))).setCell ⟨A + 1, 0, none⟩ (.int .i64 (up p))).setCell ⟨A + 1, 3, none⟩ (.int .i64 (up us))).drew.heap[A + 1]? = some (.cells #[.int .i64 (up p), .int .i64 l, .int .i64 s, .int .i64 (up us)] 66 (0, 0)) := by
  obtain ⟨h1, f1⟩ := hP.setUs (up us)
  have hB1 := f1.keep hB (by omega)
  have hC1 := f1.keep hC (by omega)
  have hA1 := f1.keep hA (by omega)
  generalize W.setCell ⟨pb, 2, none⟩ (.int .i64 (up us)) = W1 at *
  have f2 : Fr (fun k => k = A + 1) W1 ((W1.setCell ⟨A + 1, 0, none⟩ (.int .i64 (up p))).setCell ⟨A + 1, 3, none⟩ (.int .i64 (up us))) := ((Fr.refl (fun k => k = A + 1) W1).setCell (p := ⟨A + 1, 0, none⟩) (fun _ => rfl) _).setCell (p := ⟨A + 1, 3, none⟩) (fun _ => rfl) _
  have hB2 := four_setCell (j := 3) (four_setCell (j := 0) hB1 (.int .i64 (up p))) (.int .i64 (up us))
  have h2 := h1.fr f2 (by omega) (by omega)
  have hC2 := f2.keep hC1 (by omega)
  have hA2 := f2.keep hA1 (by omega)
  generalize (W1.setCell ⟨A + 1, 0, none⟩ (.int .i64 (up p))).setCell ⟨A + 1, 3, none⟩ (.int .i64 (up us)) = W3 at *
  have h3 := h2.same ((Fr.refl (fun _ => False) W3).drew)
  obtain ⟨w5, hrun, hpm, hfr⟩ := h3.map.store hn hx ⟨up p, l, s, up us⟩
  have hfr' : Fr (fun k => k = mb) W3 w5 := ((Fr.refl (fun k => k = mb) W3).drew).trans hfr (fun _ _ e => e)
  refine ⟨w5, hrun, h3.setMap hfr hpm, hfr'.keep hC2 (by omega), hfr'.keep hA2 (by omega), ?_, h3, hB2⟩
  exact ((f1.mono (T := fun k => plS pb mb k ∨ A ≤ k) (fun _ _ e => .inl (.inl e))).trans f2 (fun i _ e => .inr (by omega))).trans hfr' (fun i _ e => .inl (.inr e))

/-- What Get does. -/
def GetO (M : Pmap) (n : Nat) (fr us fl x : Int) (hit wr : Bool) (out need er : Int) (M' : Pmap) (n' : Nat) (us' fl' : Int) : Prop :=
  (¬ (1 ≤ x ∧ x ≤ 4096) ∧ hit = false ∧ wr = false ∧ out = 0 ∧ need = 0 ∧ er = 1 ∧ M' = M ∧ n' = n ∧ us' = us ∧ fl' = fl) ∨
  ((1 ≤ x ∧ x ≤ 4096) ∧ ∃ g, M x = some g ∧ hit = true ∧ wr = false ∧ out = 0 ∧ need = 0 ∧ er = 0 ∧ M' = upd M x (some ⟨up g.pins, g.lsn, g.since, up us⟩) ∧ n' = n ∧ us' = up us ∧ fl' = fl) ∨
  ((1 ≤ x ∧ x ≤ 4096) ∧ M x = none ∧ (n : Int) < fr ∧ hit = false ∧ wr = false ∧ out = 0 ∧ need = 0 ∧ er = 0 ∧ M' = upd M x (some ⟨1, 0, 0, up us⟩) ∧ n' = n + 1 ∧ us' = up us ∧ fl' = fl) ∨
  ((1 ≤ x ∧ x ≤ 4096) ∧ M x = none ∧ ¬ (n : Int) < fr ∧ (∀ y g, M y = some g → g.pins ≠ 0) ∧ hit = false ∧ wr = false ∧ out = 0 ∧ need = 0 ∧ er = 5 ∧ M' = M ∧ n' = n ∧ us' = us ∧ fl' = fl) ∨
  ((1 ≤ x ∧ x ≤ 4096) ∧ M x = none ∧ ¬ (n : Int) < fr ∧ ∃ r g, M r = some g ∧ g.pins = 0 ∧ (∀ y k, M y = some k → k.pins = 0 → g.used ≤ k.used) ∧ hit = false ∧ wr = (g.since != 0) ∧ out = r ∧ need = lgN g fl ∧ er = 0 ∧ M' = upd (upd M r none) x (some ⟨1, 0, 0, up us⟩) ∧ n' = n - 1 + 1 ∧ us' = up us ∧ fl' = lgF g fl)
theorem up0 : up 0 = 1 := by decide
section
variable (pb : Nat) (fr : Int) (mb n : Nat) (us fl : Int) (M : Pmap) (w : World)
set_option maxRecDepth 100000 in
set_option maxHeartbeats 4000000 in
theorem get_pl (x : Int) (hxw : wfK x) (hn : n ≤ 900000) (h : Pl w pb fr mb n us fl M) : Calls Try.prog 18 #[.pointer (some ⟨pb, 0, none⟩), .int .i64 x] w fun e w' => ∃ (hit wr : Bool) (out need er : Int) (M' : Pmap) (n' : Nat) (us' fl' : Int),
    e = .returned (.tuple #[.agg #[.bool hit, .bool wr, .int .i64 out, .int .i64 need], .int .i64 er]) ∧ GetO M n fr us fl x hit wr out need er M' n' us' fl' ∧ Pl w' pb fr mb n' us' fl' M' ∧ Fr (plS pb mb) w w' := by
  have hpbw := lt_of_block h.box
  have hmbw := h.map.lt
  obtain ⟨A, hAd⟩ : ∃ A, A = w.heap.size := ⟨_, rfl⟩
  have HAW : Hid (w.heap.size = A) := hAd.symm
  have hpA : pb < A := by omega
  have hmA : mb < A := by omega
  have f0 := Fr.box w (.cells #[.bool false, .bool false, .int .i64 0, .int .i64 0] 43)
  have hwi := within_at x 1 4096 (w.alloc (.cells #[.bool false, .bool false, .int .i64 0, .int .i64 0] 43))
  have hal := all_pl pb fr mb n us fl M _ (h.same f0)
  have hlk := (h.same f0).map.look hxw
  clear hpbw hmbw hAd
  by_cases hx12 : 1 ≤ x ∧ x ≤ 4096
  · rw [decide_eq_true hx12] at hwi
    have HB2 : Hid (∀ (p l s u : Int) (g0 g1 g2 g3 : Value), ∃ W2, ((w.alloc (.cells #[.bool false, .bool false, .int .i64 0, .int .i64 0] 43)).alloc (.cells #[.int .i64 p, .int .i64 l, .int .i64 s, .int .i64 u] 66)).alloc (.cells #[g0, g1, g2, g3] 43) = W2 ∧ Fr (fun _ => False) w W2 ∧ W2.heap[A]? = some (.cells #[.bool false, .bool false, .int .i64 0, .int .i64 0] 43 (0, 0)) ∧ W2.heap[A + 1]? = some (.cells #[.int .i64 p, .int .i64 l, .int .i64 s, .int .i64 u] 66 (0, 0)) ∧ W2.heap[A + 2]? = some (.cells #[g0, g1, g2, g3] 43 (0, 0))) := fun p l s u g0 g1 g2 g3 => by
      have e0 : (w.alloc (.cells #[.bool false, .bool false, .int .i64 0, .int .i64 0] 43)).heap.size = A + 1 := by rw [← HAW.out]; simp
      have e1 : ((w.alloc (.cells #[.bool false, .bool false, .int .i64 0, .int .i64 0] 43)).alloc (.cells #[.int .i64 p, .int .i64 l, .int .i64 s, .int .i64 u] 66)).heap.size = A + 2 := by rw [← HAW.out]; simp
      have k0 := heap_alloc_new w (.cells #[.bool false, .bool false, .int .i64 0, .int .i64 0] 43)
      rw [HAW.out] at k0
      have k1 := heap_alloc_new (w.alloc (.cells #[.bool false, .bool false, .int .i64 0, .int .i64 0] 43)) (.cells #[.int .i64 p, .int .i64 l, .int .i64 s, .int .i64 u] 66)
      rw [e0] at k1
      have k2 := heap_alloc_new ((w.alloc (.cells #[.bool false, .bool false, .int .i64 0, .int .i64 0] 43)).alloc (.cells #[.int .i64 p, .int .i64 l, .int .i64 s, .int .i64 u] 66)) (.cells #[g0, g1, g2, g3] 43)
      rw [e1] at k2
      exact ⟨_, rfl, (f0.alloc _).alloc _, (Fr.box _ _).keep ((Fr.box _ _).keep k0 (fun f => f)) (fun f => f), (Fr.box _ _).keep k1 (fun f => f), k2⟩
    cases hm : M x with
    | some g =>
      obtain ⟨p, l, s, u⟩ := g
      have HM : Hid (M x = some ⟨p, l, s, u⟩) := hm
      rw [hm] at hlk
      dsimp only [Option.getD, Option.isSome] at hlk
      obtain ⟨W2, hW2, F2, hA, hB, hC⟩ := HB2.out p l s u (.bool true) (.bool false) (.int .i64 0) (.int .i64 0)
      have HW2 : Hid (((w.alloc (.cells #[.bool false, .bool false, .int .i64 0, .int .i64 0] 43)).alloc (.cells #[.int .i64 p, .int .i64 l, .int .i64 s, .int .i64 u] 66)).alloc (.cells #[.bool true, .bool false, .int .i64 0, .int .i64 0] 43) = W2) := hW2
      have hP := h.same F2
      have F0 : Fr (plS pb mb) w W2 := F2.mono (fun _ _ f => f.elim)
      clear hW2 hm HB2 F2
      go_enter Try.func18, Try.ntmps18
      go_upto_region 10 with (first
        | (go_at_call 23; refine hwi.mono ?_; rintro e w' ⟨rfl, rfl⟩)
        | (go_at_call 29; refine hal.mono ?_; rintro e w' ⟨rfl, hw⟩; have hw2 := hw.symm; clear hw; subst hw2))
      rw [HW2.out, HAW.out]
      clear hwi hal hlk f0
      obtain ⟨w5, hrun, hP5, hC5, hA5, F5, hP3, hB3⟩ := get_tail hP hB hC hA hpA hmA (by omega) hx12
      have nB1 : ¬ pb = A + 1 := by omega
      have nB2 : ¬ A + 1 = pb := by omega
      obtain ⟨⟨c0, c1, c2, c3⟩, zc⟩ := four_cells hP.box
      obtain ⟨⟨b0, b1, b2, b3⟩, zb⟩ := four_cells hB
      have zc2 := zc 2
      have zb0 := zb 0
      have zb3 := zb 3
      obtain ⟨W3, hW3⟩ : ∃ W, W = ((W2.setCell ⟨pb, 2, none⟩ (.int .i64 (up us))).setCell ⟨A + 1, 0, none⟩ (.int .i64 (up p))).setCell ⟨A + 1, 3, none⟩ (.int .i64 (up us)) := ⟨_, rfl⟩
      have HW3 : Hid (((W2.setCell ⟨pb, 2, none⟩ (.int .i64 (up us))).setCell ⟨A + 1, 0, none⟩ (.int .i64 (up p))).setCell ⟨A + 1, 3, none⟩ (.int .i64 (up us)) = W3) := hW3.symm
      rw [← hW3] at hrun hP3 hB3
      obtain ⟨us2, hus⟩ : ∃ us2, us2 = up us := ⟨_, rfl⟩
      obtain ⟨p2, hp2⟩ : ∃ p2, p2 = up p := ⟨_, rfl⟩
      have e2 : IntKind.i64.wrap (p + 1) = p2 := hp2.symm
      rw [← hp2] at HW3 hrun hB3 hP5
      have HP2 : Hid (p2 = up p) := hp2
      clear hp2
      have e1 : IntKind.i64.wrap (us + 1) = us2 := hus.symm
      rw [← hus] at HW3 hrun hB3 hP5
      rw [← hus] at hP3
      have HUS : Hid (us2 = up us) := hus
      clear hW3 zc zb hus hP hB
      go_upto_region 13 with fail
      rw [HW3.out]
      clear c0 c1 c2 c3 b0 b1 b2 b3 zc2 zb0 zb3 e1
      obtain ⟨⟨c0, c1, c2, c3⟩, zc⟩ := four_cells hP3.box
      obtain ⟨⟨b0, b1, b2, b3⟩, zb⟩ := four_cells hB3
      clear zc zb hP3 hB3
      go_region_law (fail)
      all_goals
        obtain ⟨⟨a0, a1, a2, a3⟩, za⟩ := four_cells hA5
        obtain ⟨⟨d0, d1, d2, d3⟩, zd⟩ := four_cells hC5
        have za0 := za 0; have za1 := za 1; have za2 := za 2; have za3 := za 3
        clear za zd hrun
        go_wp2
        obtain ⟨hq, ff⟩ := fin4 hA5 (.bool true) (.bool false) (.int .i64 0) (.int .i64 0)
        have hPf := hP5.fr ff (by omega) (by omega)
        have Ff := (F0.trans F5 (S := plS pb mb) (fun i hi e => e.elim (fun e => e) (fun e => by have := HAW.out; omega))).trans ff (S := plS pb mb) (fun i hi e => by have := HAW.out; omega)
        generalize (((w5.setCell ⟨A, 0, none⟩ (.bool true)).setCell ⟨A, 1, none⟩ (.bool false)).setCell ⟨A, 2, none⟩ (.int .i64 0)).setCell ⟨A, 3, none⟩ (.int .i64 0) = Wf at hq hPf Ff ⊢
        obtain ⟨⟨q0, q1, q2, q3⟩, _⟩ := four_cells hq
        rw [HM.out, HUS.out, HP2.out] at hPf
        exact bodyPost_ret (v := .tuple #[.agg #[.bool true, .bool false, .int .i64 0, .int .i64 0], .int .i64 0]) (by simp [results, Try.results18, go_sem, q0, q1, q2, q3]) rfl ⟨true, false, 0, 0, 0, _, n, up us, fl, rfl, .inr (.inl ⟨hx12, _, HM.out, rfl, rfl, rfl, rfl, rfl, rfl, rfl, rfl, rfl⟩), hPf, Ff⟩
    | none =>
      have HM : Hid (M x = none) := hm
      rw [hm] at hlk
      dsimp only [Option.getD, Option.isSome, h0] at hlk
      obtain ⟨W2, hW2, F2, hA, hB, hC⟩ := HB2.out 0 0 0 0 (.bool false) (.bool false) (.int .i64 0) (.int .i64 0)
      have HW2 : Hid (((w.alloc (.cells #[.bool false, .bool false, .int .i64 0, .int .i64 0] 43)).alloc (.cells #[.int .i64 0, .int .i64 0, .int .i64 0, .int .i64 0] 66)).alloc (.cells #[.bool false, .bool false, .int .i64 0, .int .i64 0] 43) = W2) := hW2
      have hP2 := h.same F2
      have hem := empty_pl pb fr mb n us fl M W2 hP2
      have HPS : Hid (∀ W, Fr (fun _ => False) W2 W → Pl W pb fr mb n us fl M ∧ W.heap[A]? = some (.cells #[.bool false, .bool false, .int .i64 0, .int .i64 0] 43 (0, 0)) ∧ W.heap[A + 1]? = some (.cells #[.int .i64 0, .int .i64 0, .int .i64 0, .int .i64 0] 66 (0, 0)) ∧ W.heap[A + 2]? = some (.cells #[.bool false, .bool false, .int .i64 0, .int .i64 0] 43 (0, 0)) ∧ Fr (plS pb mb) w W) := fun W f => ⟨hP2.same f, f.keep hA (fun f => f), f.keep hB (fun f => f), f.keep hC (fun f => f), (F2.mono (fun _ _ f => f.elim)).trans f (fun _ _ f => f.elim)⟩
      clear hW2 hm HB2 F2 hA hB hC hP2
      go_enter Try.func18, Try.ntmps18
      go_upto_region 5 with (first
        | (go_at_call 23; refine hwi.mono ?_; rintro e w' ⟨rfl, rfl⟩)
        | (go_at_call 29; refine hal.mono ?_; rintro e w' ⟨rfl, hw⟩; have hw2 := hw.symm; clear hw; subst hw2))
      rw [HW2.out, HAW.out]
      clear hwi hal hlk f0
      by_cases hlt : (n : Int) < fr
      · rw [decide_eq_true hlt] at hem
        go_upto_region 10 with (go_at_call 36; refine hem.mono ?_; rintro e w3 ⟨rfl, f3⟩)
        obtain ⟨hP, hA, hB, hC, F0⟩ := HPS.out _ f3
        clear HPS hem HW2
        obtain ⟨w5, hrun, hP5, hC5, hA5, F5, hP3, hB3⟩ := get_tail hP hB hC hA hpA hmA (by omega) hx12
        have nB1 : ¬ pb = A + 1 := by omega
        have nB2 : ¬ A + 1 = pb := by omega
        obtain ⟨⟨c0, c1, c2, c3⟩, zc⟩ := four_cells hP.box
        obtain ⟨⟨b0, b1, b2, b3⟩, zb⟩ := four_cells hB
        have zc2 := zc 2
        have zb0 := zb 0
        have zb3 := zb 3
        obtain ⟨W3, hW3⟩ : ∃ W, W = ((w3.setCell ⟨pb, 2, none⟩ (.int .i64 (up us))).setCell ⟨A + 1, 0, none⟩ (.int .i64 (up 0))).setCell ⟨A + 1, 3, none⟩ (.int .i64 (up us)) := ⟨_, rfl⟩
        have HW3 : Hid (((w3.setCell ⟨pb, 2, none⟩ (.int .i64 (up us))).setCell ⟨A + 1, 0, none⟩ (.int .i64 (up 0))).setCell ⟨A + 1, 3, none⟩ (.int .i64 (up us)) = W3) := hW3.symm
        rw [← hW3] at hrun hP3 hB3
        obtain ⟨us2, hus⟩ : ∃ us2, us2 = up us := ⟨_, rfl⟩
        rw [up0] at HW3 hrun hB3 hP5
        have e1 : IntKind.i64.wrap (us + 1) = us2 := hus.symm
        rw [← hus] at HW3 hrun hB3 hP5
        rw [← hus] at hP3
        have HUS : Hid (us2 = up us) := hus
        clear hW3 zc zb hus hP hB
        go_upto_region 13 with fail
        rw [HW3.out]
        clear c0 c1 c2 c3 b0 b1 b2 b3 zc2 zb0 zb3 e1
        obtain ⟨⟨c0, c1, c2, c3⟩, zc⟩ := four_cells hP3.box
        obtain ⟨⟨b0, b1, b2, b3⟩, zb⟩ := four_cells hB3
        clear zc zb hP3 hB3
        go_region_law (fail)
        all_goals
          obtain ⟨⟨a0, a1, a2, a3⟩, za⟩ := four_cells hA5
          obtain ⟨⟨d0, d1, d2, d3⟩, zd⟩ := four_cells hC5
          have za0 := za 0; have za1 := za 1; have za2 := za 2; have za3 := za 3
          clear za zd hrun
          go_wp2
          obtain ⟨hq, ff⟩ := fin4 hA5 (.bool false) (.bool false) (.int .i64 0) (.int .i64 0)
          have hPf := hP5.fr ff (by omega) (by omega)
          have Ff := (F0.trans F5 (S := plS pb mb) (fun i hi e => e.elim (fun e => e) (fun e => by have := HAW.out; omega))).trans ff (S := plS pb mb) (fun i hi e => by have := HAW.out; omega)
          generalize (((w5.setCell ⟨A, 0, none⟩ (.bool false)).setCell ⟨A, 1, none⟩ (.bool false)).setCell ⟨A, 2, none⟩ (.int .i64 0)).setCell ⟨A, 3, none⟩ (.int .i64 0) = Wf at hq hPf Ff ⊢
          obtain ⟨⟨q0, q1, q2, q3⟩, _⟩ := four_cells hq
          rw [HM.out, HUS.out] at hPf
          exact bodyPost_ret (v := .tuple #[.agg #[.bool false, .bool false, .int .i64 0, .int .i64 0], .int .i64 0]) (by simp [results, Try.results18, go_sem, q0, q1, q2, q3]) rfl ⟨false, false, 0, 0, 0, _, n + 1, up us, fl, rfl, .inr (.inr (.inl ⟨hx12, HM.out, hlt, rfl, rfl, rfl, rfl, rfl, rfl, rfl, rfl, rfl⟩)), hPf, Ff⟩
      · rw [decide_eq_false hlt] at hem
        go_wp2_with fail
        refine hem.mono ?_
        clear hem
        rintro e w3 ⟨rfl, f3⟩
        have hid := idle_pl pb fr mb n us fl M w3 (HPS.out _ f3).1
        go_wp2_with fail
        refine hid.mono ?_
        clear hid
        rintro e w4 ⟨r, rfl, hI, f4⟩
        obtain ⟨hP, hA, hB, hC, F0⟩ := HPS.out _ (f3.seq' f4)
        have HI : Hid (Idle M r) := hI
        clear HPS hI f3 f4
        by_cases hr0 : r = 0
        · subst hr0
          obtain ⟨⟨a0, a1, a2, a3⟩, za⟩ := four_cells hA
          have za0 := za 0; have za1 := za 1; have za2 := za 2; have za3 := za 3
          clear za
          go_wp2
          obtain ⟨hq, ff⟩ := fin4 hA (.bool false) (.bool false) (.int .i64 0) (.int .i64 0)
          have hPf := hP.fr ff (by omega) (by omega)
          have Ff := F0.trans ff (S := plS pb mb) (fun i hi e => by have := HAW.out; omega)
          generalize (((w4.setCell ⟨A, 0, none⟩ (.bool false)).setCell ⟨A, 1, none⟩ (.bool false)).setCell ⟨A, 2, none⟩ (.int .i64 0)).setCell ⟨A, 3, none⟩ (.int .i64 0) = Wf at hq hPf Ff ⊢
          obtain ⟨⟨q0, q1, q2, q3⟩, _⟩ := four_cells hq
          have hall : ∀ y g, M y = some g → g.pins ≠ 0 := by
            rcases HI.out with ⟨_, h2⟩ | ⟨g, h1, _⟩
            · exact h2
            · have := hP.map.key h1; omega
          exact bodyPost_ret (v := .tuple #[.agg #[.bool false, .bool false, .int .i64 0, .int .i64 0], .int .i64 5]) (by simp [results, Try.results18, go_sem, q0, q1, q2, q3]) rfl ⟨false, false, 0, 0, 5, M, n, us, fl, rfl, .inr (.inr (.inr (.inl ⟨hx12, HM.out, (by omega), hall, rfl, rfl, rfl, rfl, rfl, rfl, rfl, rfl, rfl⟩))), hPf, Ff⟩
        · have hrb : (r == 0) = false := by rw [beq_eq_false_iff_ne]; exact hr0
          obtain ⟨g, hg, hgp, hgu⟩ : ∃ g, M r = some g ∧ g.pins = 0 ∧ ∀ y k, M y = some k → k.pins = 0 → g.used ≤ k.used := by
            rcases HI.out with ⟨h1, _⟩ | h1
            · exact absurd h1 hr0
            · exact h1
          have HG : Hid (M r = some g ∧ g.pins = 0 ∧ ∀ y k, M y = some k → k.pins = 0 → g.used ≤ k.used) := ⟨hg, hgp, hgu⟩
          have hlg := letGo_pl pb fr mb n us fl M w4 r g hg hP
          have hMx : Hid ((upd M r none) x = none) := by
            show _ = _
            by_cases e : x = r
            · rw [e]; exact upd_same _ _ _
            · rw [upd_other _ e]; exact HM.out
          obtain ⟨gb, hgb⟩ : ∃ gb, gb = (g.since != 0) := ⟨_, rfl⟩
          obtain ⟨gn, hgn⟩ : ∃ gn, gn = lgN g fl := ⟨_, rfl⟩
          obtain ⟨gf, hgf⟩ : ∃ gf, gf = lgF g fl := ⟨_, rfl⟩
          rw [← hgb, ← hgn, ← hgf] at hlg
          have HGB : Hid (gb = (g.since != 0) ∧ gn = lgN g fl ∧ gf = lgF g fl) := ⟨hgb, hgn, hgf⟩
          clear hg hgp hgu hr0 hgb hgn hgf
          go_wp2_with fail
          refine hlg.mono ?_
          clear hlg
          rintro e w5 ⟨rfl, hP5, f5⟩
          have hA5 := f5.keep hA (fun e => by rcases e with e | e <;> omega)
          have hB5 := f5.keep hB (fun e => by rcases e with e | e <;> omega)
          have hC5 := f5.keep hC (fun e => by rcases e with e | e <;> omega)
          have F5 := F0.trans f5 (S := plS pb mb) (fun _ _ e => e)
          clear hA hB hC F0 hP f5
          obtain ⟨hC, ff⟩ := fin4 hC5 (.bool false) (.bool gb) (.int .i64 r) (.int .i64 gn)
          have hP := hP5.fr ff (by omega) (by omega)
          have hA := ff.keep hA5 (by omega)
          have hB := ff.keep hB5 (by omega)
          have F0 := F5.trans ff (S := plS pb mb) (fun i hi e => by have := HAW.out; omega)
          obtain ⟨⟨d0, d1, d2, d3⟩, zd⟩ := four_cells hC5
          have zd0 := zd 0; have zd1 := zd 1; have zd2 := zd 2; have zd3 := zd 3
          obtain ⟨W6, hW6⟩ : ∃ W, W = (((w5.setCell ⟨A + 2, 0, none⟩ (.bool false)).setCell ⟨A + 2, 1, none⟩ (.bool gb)).setCell ⟨A + 2, 2, none⟩ (.int .i64 r)).setCell ⟨A + 2, 3, none⟩ (.int .i64 gn) := ⟨_, rfl⟩
          have HW6 : Hid ((((w5.setCell ⟨A + 2, 0, none⟩ (.bool false)).setCell ⟨A + 2, 1, none⟩ (.bool gb)).setCell ⟨A + 2, 2, none⟩ (.int .i64 r)).setCell ⟨A + 2, 3, none⟩ (.int .i64 gn) = W6) := hW6.symm
          rw [← hW6] at hC hP hA hB F0
          clear zd hW6 hA5 hB5 hC5 F5 ff hP5
          go_upto_region 10 with fail
          rw [HW6.out]
          clear d0 d1 d2 d3 zd0 zd1 zd2 zd3 HW6
          obtain ⟨w5, hrun, hP5, hC5, hA5, F5, hP3, hB3⟩ := get_tail hP hB hC hA hpA hmA (by omega) hx12
          have nB1 : ¬ pb = A + 1 := by omega
          have nB2 : ¬ A + 1 = pb := by omega
          obtain ⟨⟨c0, c1, c2, c3⟩, zc⟩ := four_cells hP.box
          obtain ⟨⟨b0, b1, b2, b3⟩, zb⟩ := four_cells hB
          have zc2 := zc 2
          have zb0 := zb 0
          have zb3 := zb 3
          obtain ⟨W3, hW3⟩ : ∃ W, W = ((W6.setCell ⟨pb, 2, none⟩ (.int .i64 (up us))).setCell ⟨A + 1, 0, none⟩ (.int .i64 (up 0))).setCell ⟨A + 1, 3, none⟩ (.int .i64 (up us)) := ⟨_, rfl⟩
          have HW3 : Hid (((W6.setCell ⟨pb, 2, none⟩ (.int .i64 (up us))).setCell ⟨A + 1, 0, none⟩ (.int .i64 (up 0))).setCell ⟨A + 1, 3, none⟩ (.int .i64 (up us)) = W3) := hW3.symm
          rw [← hW3] at hrun hP3 hB3
          obtain ⟨us2, hus⟩ : ∃ us2, us2 = up us := ⟨_, rfl⟩
          rw [up0] at HW3 hrun hB3 hP5
          have e1 : IntKind.i64.wrap (us + 1) = us2 := hus.symm
          rw [← hus] at HW3 hrun hB3 hP5
          rw [← hus] at hP3
          have HUS : Hid (us2 = up us) := hus
          clear hW3 zc zb hus hP hB
          go_upto_region 13 with fail
          rw [HW3.out]
          clear c0 c1 c2 c3 b0 b1 b2 b3 zc2 zb0 zb3 e1
          obtain ⟨⟨c0, c1, c2, c3⟩, zc⟩ := four_cells hP3.box
          obtain ⟨⟨b0, b1, b2, b3⟩, zb⟩ := four_cells hB3
          clear zc zb hP3 hB3
          go_region_law (fail)
          all_goals
            obtain ⟨⟨a0, a1, a2, a3⟩, za⟩ := four_cells hA5
            obtain ⟨⟨d0, d1, d2, d3⟩, zd⟩ := four_cells hC5
            have za0 := za 0; have za1 := za 1; have za2 := za 2; have za3 := za 3
            clear za zd hrun
            go_wp2
            obtain ⟨hq, ff⟩ := fin4 hA5 (.bool false) (.bool gb) (.int .i64 r) (.int .i64 gn)
            have hPf := hP5.fr ff (by omega) (by omega)
            have Ff := (F0.trans F5 (S := plS pb mb) (fun i hi e => e.elim (fun e => e) (fun e => by have := HAW.out; omega))).trans ff (S := plS pb mb) (fun i hi e => by have := HAW.out; omega)
            generalize (((w5.setCell ⟨A, 0, none⟩ (.bool false)).setCell ⟨A, 1, none⟩ (.bool gb)).setCell ⟨A, 2, none⟩ (.int .i64 r)).setCell ⟨A, 3, none⟩ (.int .i64 gn) = Wf at hq hPf Ff ⊢
            obtain ⟨⟨q0, q1, q2, q3⟩, _⟩ := four_cells hq
            rw [hMx.out, HUS.out] at hPf
            exact bodyPost_ret (v := .tuple #[.agg #[.bool false, .bool gb, .int .i64 r, .int .i64 gn], .int .i64 0]) (by simp [results, Try.results18, go_sem, q0, q1, q2, q3]) rfl ⟨false, gb, r, gn, 0, _, n - 1 + 1, up us, gf, rfl, .inr (.inr (.inr (.inr ⟨hx12, HM.out, (by omega), r, g, HG.out.1, HG.out.2.1, HG.out.2.2, rfl, HGB.out.1, rfl, HGB.out.2.1, rfl, rfl, rfl, rfl, HGB.out.2.2⟩))), hPf, Ff⟩
  · rw [decide_eq_false hx12] at hwi
    have hA : (w.alloc (.cells #[.bool false, .bool false, .int .i64 0, .int .i64 0] 43)).heap[A]? = some (.cells #[.bool false, .bool false, .int .i64 0, .int .i64 0] 43 (0, 0)) := by rw [← HAW.out]; exact heap_alloc_new w _
    have hP := h.same f0
    clear hal hlk
    go_enter Try.func18, Try.ntmps18
    go_wp2_with (go_at_call 23; refine hwi.mono ?_; rintro e w' ⟨rfl, rfl⟩)
    exact bodyPost_ret (v := .tuple #[.agg #[.bool false, .bool false, .int .i64 0, .int .i64 0], .int .i64 1]) (by simp [results, Try.results18, go_sem]) rfl ⟨false, false, 0, 0, 1, M, n, us, fl, rfl, .inl ⟨hx12, rfl, rfl, rfl, rfl, rfl, rfl, rfl, rfl, rfl⟩, hP, f0.mono (fun _ _ f => f.elim)⟩
end
end Go.Proofs.Ytneniagingoleaa
