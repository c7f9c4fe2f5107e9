
/- What Next tells, in the program and in the document. -/
import Derived.Test.YtjhbhjakbcplgaaPtRCh
namespace Go.Proofs.Ytjhbhjakbcplgaa
open Go.RowKit Crcm

def nxE (q : Pn) (sl : Int) : Pn × Int × List Nat × Int := if ptB q = true then (q, sl, pf q, 0) else (⟨0, 0, 0⟩, 0, [], 1)
def nxF (c : Pn × Int × Int) (p : Pn) : Pn × Int × List Nat × Int := nxE ⟨c.1.num + 1, p.lsn, p.redo⟩ (if c.2.2 = 0 then 1 - c.2.1 else 0)
/-- What Next tells: the checkpoint, its slot, its bytes, the error. -/
def nxt (la lb : List Nat) (p : Pn) : Pn × Int × List Nat × Int := nxF (chs la lb) p
def NxOut (w : World) (r : Pn × Int × List Nat × Int) (e : Ending) (w' : World) : Prop :=
  ∃ v, e = .returned (.tuple #[.agg #[.int .i64 r.1.num, .int .i64 r.1.lsn, .int .i64 r.1.redo], .int .i64 r.2.1, v, .int .i64 r.2.2.2]) ∧ Made w w' v r.2.2.1

set_option maxRecDepth 100000 in
set_option maxHeartbeats 4000000 in
theorem next_any (a b : Option Addr) (na nb ca cb : Nat) (la lb : List Nat) (hna : na = la.length) (hnb : nb = lb.length) (p : Pn) (w : World) (hra : Row w a ca la) (hrb : Row w b cb lb) :
    Calls Try.prog 18 #[.slice a na ca, .slice b nb cb, .agg #[.int .i64 p.num, .int .i64 p.lsn, .int .i64 p.redo]] w fun e w' => NxOut w (nxt la lb p) e w' := by
  obtain ⟨p0, p1, p2⟩ := p
  obtain ⟨W0, hW0⟩ : ∃ W0, W0 = (w.alloc (.cells #[.int .i64 p0, .int .i64 p1, .int .i64 p2] 34)).alloc (.cells #[.int .i64 0, .int .i64 0, .int .i64 0] 34) := ⟨_, rfl⟩
  have f0 : Fr (fun _ => False) w W0 := by rw [hW0]; exact (Fr.box w _).alloc _
  obtain ⟨x, hx⟩ : ∃ z, z = w.heap.size := ⟨_, rfl⟩
  obtain ⟨z, hz⟩ : ∃ q, q = w.heap.size + 1 := ⟨_, rfl⟩
  have t1 : Tri (w.alloc (.cells #[.int .i64 p0, .int .i64 p1, .int .i64 p2] 34)) x 34 p0 p1 p2 := by rw [hx]; exact heap_alloc_new w _
  have tx : Tri W0 x 34 p0 p1 p2 := by rw [hW0]; exact t1.fr (Fr.box _ _) (fun f => f)
  have tz : Tri W0 z 34 0 0 0 := by
    have h := heap_alloc_new (w.alloc (.cells #[.int .i64 p0, .int .i64 p1, .int .i64 p2] 34)) (.cells #[.int .i64 0, .int .i64 0, .int .i64 0] 34)
    have e : (w.alloc (.cells #[.int .i64 p0, .int .i64 p1, .int .i64 p2] 34)).heap.size = z := by rw [hz]; simp
    rw [e] at h; rw [hW0]; exact h
  have HXZ : Hid (z = x + 1 ∧ w.heap.size ≤ x) := ⟨by omega, by omega⟩
  have HW : Hid ((w.alloc (.cells #[.int .i64 p0, .int .i64 p1, .int .i64 p2] 34)).alloc (.cells #[.int .i64 0, .int .i64 0, .int .i64 0] 34) = W0) := hW0.symm
  have HX' : Hid (w.heap.size = x) := hx.symm
  have HZ' : Hid (x + 1 = z) := by show _ = _; omega
  have ra := hra.same f0
  have rb := hrb.same f0
  subst hna hnb
  have hc := chs_range la lb
  obtain ⟨⟨⟨c1, c2, c3⟩, at_, ce⟩, hcs⟩ : ∃ c, c = chs la lb := ⟨_, rfl⟩
  have HC : Hid (chs la lb = (⟨c1, c2, c3⟩, at_, ce)) := hcs.symm
  have hn : nxt la lb ⟨p0, p1, p2⟩ = nxF (⟨c1, c2, c3⟩, at_, ce) ⟨p0, p1, p2⟩ := by unfold nxt; rw [← hcs]
  rw [← hcs] at hc
  obtain ⟨r, hr⟩ : ∃ r, r = nxt la lb ⟨p0, p1, p2⟩ := ⟨_, rfl⟩
  rw [← hr] at hn ⊢
  have HR : Hid (r = nxF (⟨c1, c2, c3⟩, at_, ce) ⟨p0, p1, p2⟩) := hn
  have HF0 : Hid (Fr (fun _ => False) w W0) := f0
  have hcr : ce = 0 ∧ 1 ≤ c1 ∧ c1 ≤ 1099511627776 ∧ (at_ = 0 ∨ at_ = 1) ∨ ce = 6 ∧ c1 = 0 ∧ at_ = 0 := by
    rcases hc with ⟨h1, h2, h3, _, h5⟩ | ⟨h1, h2, h3⟩
    · exact .inl ⟨h1, h2, h3, h5.elim (fun h => .inl h.1) (fun h => .inr h.1)⟩
    · simp only [Pn.mk.injEq] at h2; exact .inr ⟨h1, h2.1, h3⟩
  have HCR : Hid (ce = 0 ∧ 1 ≤ c1 ∧ c1 ≤ 1099511627776 ∧ (at_ = 0 ∨ at_ = 1) ∨ ce = 6 ∧ c1 = 0 ∧ at_ = 0) := hcr
  clear hW0 hx hz t1 hra hrb hr hcs hn hc f0 hcr
  go_enter Try.func18, Try.ntmps18
  go_upto_region 1 with fail
  rw [HW.out, HX'.out, HZ'.out]
  go_wp2_with fail
  refine (choose_any _ _ _ _ _ _ la lb rfl rfl _ ra rb).mono ?_
  rw [HC.out]
  rintro e w1 ⟨rfl, g1⟩
  obtain ⟨y, hy⟩ : ∃ qq, qq = w1.heap.size := ⟨_, rfl⟩
  obtain ⟨W1, hW1⟩ : ∃ W1, W1 = w1.alloc (.cells #[.int .i64 c1, .int .i64 c2, .int .i64 c3] 34) := ⟨_, rfl⟩
  have fb : Fr (fun _ => False) w1 W1 := by rw [hW1]; exact Fr.box w1 _
  have ty : Tri W1 y 34 c1 c2 c3 := by rw [hW1, hy]; exact heap_alloc_new w1 _
  have HW1 : Hid (w1.alloc (.cells #[.int .i64 c1, .int .i64 c2, .int .i64 c3] 34) = W1) := hW1.symm
  have HY1 : Hid (w1.heap.size = y) := hy.symm
  have hzl := lt_of_block tz
  have HNE : Hid (y ≠ x ∧ y ≠ z ∧ x ≠ z) := by have := HXZ.out; have := g1.size; exact ⟨by omega, by omega, by omega⟩
  have tx1 := (tx.fr g1 (fun f => f)).fr fb (fun f => f)
  have tz1 := (tz.fr g1 (fun f => f)).fr fb (fun f => f)
  have FF : Hid (Fr (fun _ => False) w W1) := HF0.out.seq' (g1.seq' fb)
  clear hW1 hy g1 fb HF0 tz tx ra rb hzl
  go_upto_region 2 with fail
  rw [HW1.out, HY1.out]
  obtain ⟨y0, y1, y2, _, _, _⟩ := ty.cells
  obtain ⟨x0, x1, x2, u0, u1, u2⟩ := tx1.cells
  rcases HCR.out with ⟨rfl, hc1, hc2, hat⟩ | ⟨rfl, rfl, rfl⟩
  · have e1 : IntKind.i64.wrap (c1 + 1) = c1 + 1 := by rw [IntKind.wrap_i64]; omega
    have e2 : IntKind.i64.wrap (1 - at_) = 1 - at_ := by rw [IntKind.wrap_i64]; omega
    have hr2 : r = nxE ⟨c1 + 1, p1, p2⟩ (1 - at_) := HR.out
    clear HR HCR
    subst hr2
    go_upto_region 6 with fail
    have fs2 : Fr (fun i => i = x) W1 (W1.setCell ⟨x, 0, none⟩ (.int .i64 (c1 + 1))) := Fr.set _ _ _
    have tx2 := tx1.set0 (c1 + 1)
    have tz2 := tz1.fr fs2 (fun e => HNE.out.2.2 e.symm)
    have ty2 := ty.fr fs2 (fun e => HNE.out.1 e)
    have FF2 : Hid (Fr (fun _ => False) w (W1.setCell ⟨x, 0, none⟩ (.int .i64 (c1 + 1)))) := FF.out.trans fs2 (fun i hi e => by have := HXZ.out; omega)
    generalize W1.setCell ⟨x, 0, none⟩ (.int .i64 (c1 + 1)) = V2 at tx2 tz2 ty2 FF2 ⊢
    clear fs2 y0 y1 y2 x0 x1 x2 u0 u1 u2
    obtain ⟨x0, x1, x2, u0, u1, u2⟩ := tx2.cells
    go_wp2_with fail
    by_cases hp : ptB ⟨c1 + 1, p1, p2⟩ = true
    · refine (encode_pyes ⟨c1 + 1, p1, p2⟩ hp _).mono ?_
      rintro e w2 ⟨v2, rfl, m2⟩
      have hr3 : nxE ⟨c1 + 1, p1, p2⟩ (1 - at_) = (⟨c1 + 1, p1, p2⟩, 1 - at_, pf ⟨c1 + 1, p1, p2⟩, 0) := if_pos hp
      have HR3 : Hid (nxE ⟨c1 + 1, p1, p2⟩ (1 - at_) = (⟨c1 + 1, p1, p2⟩, 1 - at_, pf ⟨c1 + 1, p1, p2⟩, 0)) := hr3
      have tx9 := tx2.fr m2.fr (fun f => f)
      have tz9 := tz2.fr m2.fr (fun f => f)
      have hz9 := lt_of_block tz2
      have HM : Hid (∀ W, Fr (fun i => i = z) w2 W → Made w W v2 (pf ⟨c1 + 1, p1, p2⟩)) := fun W f => by
        have hm := Made.of FF2.out m2
        have hf : Fr (fun _ => False) w W := hm.fr.trans f (fun i hi e => by have := HXZ.out; omega)
        exact ⟨hm.own.fr f (fun k hk e => by have := (m2.own.lt k hk).1; omega), hf⟩
      clear x0 x1 x2 u0 u1 u2 hr3 hp m2 hz9
      obtain ⟨x0, x1, x2, u0, u1, u2⟩ := tx9.cells
      obtain ⟨z0, z1, z2, k0, k1, k2⟩ := tz9.cells
      go_wp2
      obtain ⟨tf, ff⟩ := tz9.fin (c1 + 1) p1 p2
      have hm := HM.out _ ff
      generalize (((w2.setCell ⟨z, 0, none⟩ (.int .i64 (c1 + 1))).setCell ⟨z, 1, none⟩ (.int .i64 p1)).setCell ⟨z, 2, none⟩ (.int .i64 p2)) = Wf at tf hm ⊢
      obtain ⟨q0, q1, q2, _, _, _⟩ := tf.cells
      exact bodyPost_ret (v := .tuple #[.agg #[.int .i64 (c1 + 1), .int .i64 p1, .int .i64 p2], .int .i64 (1 - at_), v2, .int .i64 0]) (by simp [results, Try.results18, go_sem, q0, q1, q2]) rfl (by rw [HR3.out]; exact ⟨v2, rfl, hm⟩)
    · have hp' : ptB ⟨c1 + 1, p1, p2⟩ = false := by simpa using hp
      refine (encode_pno ⟨c1 + 1, p1, p2⟩ hp' _).mono ?_
      rintro e w2 ⟨rfl, m2⟩
      have hr3 : nxE ⟨c1 + 1, p1, p2⟩ (1 - at_) = (⟨0, 0, 0⟩, 0, [], 1) := if_neg hp
      have HR3 : Hid (nxE ⟨c1 + 1, p1, p2⟩ (1 - at_) = (⟨0, 0, 0⟩, 0, [], 1)) := hr3
      have tz9 := tz2.fr m2 (fun f => f)
      have HM : Hid (∀ W, Fr (fun i => i = z) w2 W → Made w W (.slice none 0 0) []) := fun W f => by
        have hm := FF2.out.seq' m2
        have hf : Fr (fun _ => False) w W := hm.trans f (fun i hi e => by have := HXZ.out; omega)
        exact ⟨World.ownsRow_nil _ _ _ _, hf⟩
      clear x0 x1 x2 u0 u1 u2 hr3 hp hp' m2
      obtain ⟨z0, z1, z2, k0, k1, k2⟩ := tz9.cells
      go_wp2
      obtain ⟨tf, ff⟩ := tz9.fin 0 0 0
      have hm := HM.out _ ff
      generalize (((w2.setCell ⟨z, 0, none⟩ (.int .i64 0)).setCell ⟨z, 1, none⟩ (.int .i64 0)).setCell ⟨z, 2, none⟩ (.int .i64 0)) = Wf at tf hm ⊢
      obtain ⟨q0, q1, q2, _, _, _⟩ := tf.cells
      exact bodyPost_ret (v := .tuple #[.agg #[.int .i64 0, .int .i64 0, .int .i64 0], .int .i64 0, .slice none 0 0, .int .i64 1]) (by simp [results, Try.results18, go_sem, q0, q1, q2]) rfl (by rw [HR3.out]; exact ⟨_, rfl, hm⟩)
  · have hr2 : r = nxE ⟨1, p1, p2⟩ 0 := HR.out
    clear HR HCR
    subst hr2
    go_upto_region 6 with fail
    have fs2 : Fr (fun i => i = x) W1 (W1.setCell ⟨x, 0, none⟩ (.int .i64 (1))) := Fr.set _ _ _
    have tx2 := tx1.set0 (1)
    have tz2 := tz1.fr fs2 (fun e => HNE.out.2.2 e.symm)
    have ty2 := ty.fr fs2 (fun e => HNE.out.1 e)
    have FF2 : Hid (Fr (fun _ => False) w (W1.setCell ⟨x, 0, none⟩ (.int .i64 (1)))) := FF.out.trans fs2 (fun i hi e => by have := HXZ.out; omega)
    generalize W1.setCell ⟨x, 0, none⟩ (.int .i64 (1)) = V2 at tx2 tz2 ty2 FF2 ⊢
    clear fs2 y0 y1 y2 x0 x1 x2 u0 u1 u2
    obtain ⟨x0, x1, x2, u0, u1, u2⟩ := tx2.cells
    go_wp2_with fail
    by_cases hp : ptB ⟨1, p1, p2⟩ = true
    · refine (encode_pyes ⟨1, p1, p2⟩ hp _).mono ?_
      rintro e w2 ⟨v2, rfl, m2⟩
      have hr3 : nxE ⟨1, p1, p2⟩ (0) = (⟨1, p1, p2⟩, 0, pf ⟨1, p1, p2⟩, 0) := if_pos hp
      have HR3 : Hid (nxE ⟨1, p1, p2⟩ (0) = (⟨1, p1, p2⟩, 0, pf ⟨1, p1, p2⟩, 0)) := hr3
      have tx9 := tx2.fr m2.fr (fun f => f)
      have tz9 := tz2.fr m2.fr (fun f => f)
      have hz9 := lt_of_block tz2
      have HM : Hid (∀ W, Fr (fun i => i = z) w2 W → Made w W v2 (pf ⟨1, p1, p2⟩)) := fun W f => by
        have hm := Made.of FF2.out m2
        have hf : Fr (fun _ => False) w W := hm.fr.trans f (fun i hi e => by have := HXZ.out; omega)
        exact ⟨hm.own.fr f (fun k hk e => by have := (m2.own.lt k hk).1; omega), hf⟩
      clear x0 x1 x2 u0 u1 u2 hr3 hp m2 hz9
      obtain ⟨x0, x1, x2, u0, u1, u2⟩ := tx9.cells
      obtain ⟨z0, z1, z2, k0, k1, k2⟩ := tz9.cells
      go_wp2
      obtain ⟨tf, ff⟩ := tz9.fin (1) p1 p2
      have hm := HM.out _ ff
      generalize (((w2.setCell ⟨z, 0, none⟩ (.int .i64 (1))).setCell ⟨z, 1, none⟩ (.int .i64 p1)).setCell ⟨z, 2, none⟩ (.int .i64 p2)) = Wf at tf hm ⊢
      obtain ⟨q0, q1, q2, _, _, _⟩ := tf.cells
      exact bodyPost_ret (v := .tuple #[.agg #[.int .i64 (1), .int .i64 p1, .int .i64 p2], .int .i64 (0), v2, .int .i64 0]) (by simp [results, Try.results18, go_sem, q0, q1, q2]) rfl (by rw [HR3.out]; exact ⟨v2, rfl, hm⟩)
    · have hp' : ptB ⟨1, p1, p2⟩ = false := by simpa using hp
      refine (encode_pno ⟨1, p1, p2⟩ hp' _).mono ?_
      rintro e w2 ⟨rfl, m2⟩
      have hr3 : nxE ⟨1, p1, p2⟩ (0) = (⟨0, 0, 0⟩, 0, [], 1) := if_neg hp
      have HR3 : Hid (nxE ⟨1, p1, p2⟩ (0) = (⟨0, 0, 0⟩, 0, [], 1)) := hr3
      have tz9 := tz2.fr m2 (fun f => f)
      have HM : Hid (∀ W, Fr (fun i => i = z) w2 W → Made w W (.slice none 0 0) []) := fun W f => by
        have hm := FF2.out.seq' m2
        have hf : Fr (fun _ => False) w W := hm.trans f (fun i hi e => by have := HXZ.out; omega)
        exact ⟨World.ownsRow_nil _ _ _ _, hf⟩
      clear x0 x1 x2 u0 u1 u2 hr3 hp hp' m2
      obtain ⟨z0, z1, z2, k0, k1, k2⟩ := tz9.cells
      go_wp2
      obtain ⟨tf, ff⟩ := tz9.fin 0 0 0
      have hm := HM.out _ ff
      generalize (((w2.setCell ⟨z, 0, none⟩ (.int .i64 0)).setCell ⟨z, 1, none⟩ (.int .i64 0)).setCell ⟨z, 2, none⟩ (.int .i64 0)) = Wf at tf hm ⊢
      obtain ⟨q0, q1, q2, _, _, _⟩ := tf.cells
      exact bodyPost_ret (v := .tuple #[.agg #[.int .i64 0, .int .i64 0, .int .i64 0], .int .i64 0, .slice none 0 0, .int .i64 1]) (by simp [results, Try.results18, go_sem, q0, q1, q2]) rfl (by rw [HR3.out]; exact ⟨_, rfl, hm⟩)

set_option maxRecDepth 100000 in
set_option maxHeartbeats 4000000 in
theorem rnext_any (a b : Option Addr) (na nb ca cb : Nat) (la lb : List Nat) (hna : na = la.length) (hnb : nb = lb.length) (p : Pn) (hp : p.redo < 9223372036854775808) (w : World) (hra : Row w a ca la) (hrb : Row w b cb lb) :
    Calls Try.prog 19 #[.slice a na ca, .slice b nb cb, .agg #[.int .i64 p.num, .int .i64 p.lsn, .int .i64 p.redo]] w fun e w' => NxOut w (nxt la lb p) e w' := by
  obtain ⟨p0, p1, p2⟩ := p
  have HP : Hid (p2 < 9223372036854775808) := hp
  clear hp
  obtain ⟨W0, hW0⟩ : ∃ W0, W0 = (w.alloc (.cells #[.int .i64 p0, .int .i64 p1, .int .i64 p2] 40)).alloc (.cells #[.int .i64 0, .int .i64 0, .int .i64 0] 40) := ⟨_, rfl⟩
  have f0 : Fr (fun _ => False) w W0 := by rw [hW0]; exact (Fr.box w _).alloc _
  obtain ⟨x, hx⟩ : ∃ z, z = w.heap.size := ⟨_, rfl⟩
  obtain ⟨z, hz⟩ : ∃ q, q = w.heap.size + 1 := ⟨_, rfl⟩
  have t1 : Tri (w.alloc (.cells #[.int .i64 p0, .int .i64 p1, .int .i64 p2] 40)) x 40 p0 p1 p2 := by rw [hx]; exact heap_alloc_new w _
  have tx : Tri W0 x 40 p0 p1 p2 := by rw [hW0]; exact t1.fr (Fr.box _ _) (fun f => f)
  have tz : Tri W0 z 40 0 0 0 := by
    have h := heap_alloc_new (w.alloc (.cells #[.int .i64 p0, .int .i64 p1, .int .i64 p2] 40)) (.cells #[.int .i64 0, .int .i64 0, .int .i64 0] 40)
    have e : (w.alloc (.cells #[.int .i64 p0, .int .i64 p1, .int .i64 p2] 40)).heap.size = z := by rw [hz]; simp
    rw [e] at h; rw [hW0]; exact h
  have HXZ : Hid (z = x + 1 ∧ w.heap.size ≤ x) := ⟨by omega, by omega⟩
  have HW : Hid ((w.alloc (.cells #[.int .i64 p0, .int .i64 p1, .int .i64 p2] 40)).alloc (.cells #[.int .i64 0, .int .i64 0, .int .i64 0] 40) = W0) := hW0.symm
  have HX' : Hid (w.heap.size = x) := hx.symm
  have HZ' : Hid (x + 1 = z) := by show _ = _; omega
  have ra := hra.same f0
  have rb := hrb.same f0
  subst hna hnb
  have hc := chs_range la lb
  obtain ⟨⟨⟨c1, c2, c3⟩, at_, ce⟩, hcs⟩ : ∃ c, c = chs la lb := ⟨_, rfl⟩
  have HC : Hid (chs la lb = (⟨c1, c2, c3⟩, at_, ce)) := hcs.symm
  have hn : nxt la lb ⟨p0, p1, p2⟩ = nxF (⟨c1, c2, c3⟩, at_, ce) ⟨p0, p1, p2⟩ := by unfold nxt; rw [← hcs]
  rw [← hcs] at hc
  obtain ⟨r, hr⟩ : ∃ r, r = nxt la lb ⟨p0, p1, p2⟩ := ⟨_, rfl⟩
  rw [← hr] at hn ⊢
  have HR : Hid (r = nxF (⟨c1, c2, c3⟩, at_, ce) ⟨p0, p1, p2⟩) := hn
  have HF0 : Hid (Fr (fun _ => False) w W0) := f0
  have hcr : ce = 0 ∧ 1 ≤ c1 ∧ c1 ≤ 1099511627776 ∧ (at_ = 0 ∨ at_ = 1) ∨ ce = 6 ∧ c1 = 0 ∧ at_ = 0 := by
    rcases hc with ⟨h1, h2, h3, _, h5⟩ | ⟨h1, h2, h3⟩
    · exact .inl ⟨h1, h2, h3, h5.elim (fun h => .inl h.1) (fun h => .inr h.1)⟩
    · simp only [Pn.mk.injEq] at h2; exact .inr ⟨h1, h2.1, h3⟩
  have HCR : Hid (ce = 0 ∧ 1 ≤ c1 ∧ c1 ≤ 1099511627776 ∧ (at_ = 0 ∨ at_ = 1) ∨ ce = 6 ∧ c1 = 0 ∧ at_ = 0) := hcr
  clear hW0 hx hz t1 hra hrb hr hcs hn hc f0 hcr
  go_enter Try.func19, Try.ntmps19
  go_upto_region 1 with fail
  rw [HW.out, HX'.out, HZ'.out]
  go_wp2_with fail
  refine (rchoose_any _ _ _ _ _ _ la lb rfl rfl _ ra rb).mono ?_
  rw [HC.out]
  rintro e w1 ⟨rfl, g1⟩
  obtain ⟨y, hy⟩ : ∃ qq, qq = w1.heap.size := ⟨_, rfl⟩
  obtain ⟨W1, hW1⟩ : ∃ W1, W1 = w1.alloc (.cells #[.int .i64 c1, .int .i64 c2, .int .i64 c3] 40) := ⟨_, rfl⟩
  have fb : Fr (fun _ => False) w1 W1 := by rw [hW1]; exact Fr.box w1 _
  have ty : Tri W1 y 40 c1 c2 c3 := by rw [hW1, hy]; exact heap_alloc_new w1 _
  have HW1 : Hid (w1.alloc (.cells #[.int .i64 c1, .int .i64 c2, .int .i64 c3] 40) = W1) := hW1.symm
  have HY1 : Hid (w1.heap.size = y) := hy.symm
  have hzl := lt_of_block tz
  have HNE : Hid (y ≠ x ∧ y ≠ z ∧ x ≠ z) := by have := HXZ.out; have := g1.size; exact ⟨by omega, by omega, by omega⟩
  have tx1 := (tx.fr g1 (fun f => f)).fr fb (fun f => f)
  have tz1 := (tz.fr g1 (fun f => f)).fr fb (fun f => f)
  have FF : Hid (Fr (fun _ => False) w W1) := HF0.out.seq' (g1.seq' fb)
  clear hW1 hy g1 fb HF0 tz tx ra rb hzl
  go_upto_region 2 with fail
  rw [HW1.out, HY1.out]
  obtain ⟨y0, y1, y2, _, _, _⟩ := ty.cells
  obtain ⟨x0, x1, x2, u0, u1, u2⟩ := tx1.cells
  go_upto_region 3 with fail
  have fs2 : Fr (fun i => i = x) W1 (W1.setCell ⟨x, 0, none⟩ (.int .i64 (1))) := Fr.set _ _ _
  have tx2 := tx1.set0 (1)
  have tz2 := tz1.fr fs2 (fun e => HNE.out.2.2 e.symm)
  have ty2 := ty.fr fs2 (fun e => HNE.out.1 e)
  have FF2 : Hid (Fr (fun _ => False) w (W1.setCell ⟨x, 0, none⟩ (.int .i64 (1)))) := FF.out.trans fs2 (fun i hi e => by have := HXZ.out; omega)
  generalize W1.setCell ⟨x, 0, none⟩ (.int .i64 (1)) = V2 at tx2 tz2 ty2 FF2 ⊢
  clear fs2 y0 y1 y2 x0 x1 x2 u0 u1 u2
  obtain ⟨y0, y1, y2, _, _, _⟩ := ty2.cells
  obtain ⟨x0, x1, x2, u0, u1, u2⟩ := tx2.cells
  rcases HCR.out with ⟨rfl, hc1, hc2, hat⟩ | ⟨rfl, rfl, rfl⟩
  · have e1 : IntKind.i64.wrap (c1 + 1) = c1 + 1 := by rw [IntKind.wrap_i64]; omega
    have e2 : IntKind.i64.wrap (1 - at_) = 1 - at_ := by rw [IntKind.wrap_i64]; omega
    have hr2 : r = nxE ⟨c1 + 1, p1, p2⟩ (1 - at_) := HR.out
    clear HR HCR
    subst hr2
    go_upto_region 7 with fail
    have fs3 : Fr (fun i => i = x) V2 (V2.setCell ⟨x, 0, none⟩ (.int .i64 (c1 + 1))) := Fr.set _ _ _
    have tx3 := tx2.set0 (c1 + 1)
    have tz3 := tz2.fr fs3 (fun e => HNE.out.2.2 e.symm)
    have ty3 := ty2.fr fs3 (fun e => HNE.out.1 e)
    have FF3 : Hid (Fr (fun _ => False) w (V2.setCell ⟨x, 0, none⟩ (.int .i64 (c1 + 1)))) := FF2.out.trans fs3 (fun i hi e => by have := HXZ.out; omega)
    generalize V2.setCell ⟨x, 0, none⟩ (.int .i64 (c1 + 1)) = V3 at tx3 tz3 ty3 FF3 ⊢
    clear fs3 y0 y1 y2 x0 x1 x2 u0 u1 u2
    obtain ⟨x0, x1, x2, u0, u1, u2⟩ := tx3.cells
    go_wp2_with fail
    by_cases hp : ptB ⟨c1 + 1, p1, p2⟩ = true
    · refine (rencode_pyes ⟨c1 + 1, p1, p2⟩ hp _).mono ?_
      rintro e w2 ⟨v2, rfl, m2⟩
      have hr3 : nxE ⟨c1 + 1, p1, p2⟩ (1 - at_) = (⟨c1 + 1, p1, p2⟩, 1 - at_, pf ⟨c1 + 1, p1, p2⟩, 0) := if_pos hp
      have HR3 : Hid (nxE ⟨c1 + 1, p1, p2⟩ (1 - at_) = (⟨c1 + 1, p1, p2⟩, 1 - at_, pf ⟨c1 + 1, p1, p2⟩, 0)) := hr3
      have tx9 := tx3.fr m2.fr (fun f => f)
      have tz9 := tz3.fr m2.fr (fun f => f)
      have hz9 := lt_of_block tz3
      have HM : Hid (∀ W, Fr (fun i => i = z) w2 W → Made w W v2 (pf ⟨c1 + 1, p1, p2⟩)) := fun W f => by
        have hm := Made.of FF3.out m2
        have hf : Fr (fun _ => False) w W := hm.fr.trans f (fun i hi e => by have := HXZ.out; omega)
        exact ⟨hm.own.fr f (fun k hk e => by have := (m2.own.lt k hk).1; omega), hf⟩
      clear x0 x1 x2 u0 u1 u2 hr3 hp m2 hz9
      obtain ⟨x0, x1, x2, u0, u1, u2⟩ := tx9.cells
      obtain ⟨z0, z1, z2, k0, k1, k2⟩ := tz9.cells
      go_wp2
      obtain ⟨tf, ff⟩ := tz9.fin (c1 + 1) p1 p2
      have hm := HM.out _ ff
      generalize (((w2.setCell ⟨z, 0, none⟩ (.int .i64 (c1 + 1))).setCell ⟨z, 1, none⟩ (.int .i64 p1)).setCell ⟨z, 2, none⟩ (.int .i64 p2)) = Wf at tf hm ⊢
      obtain ⟨q0, q1, q2, _, _, _⟩ := tf.cells
      exact bodyPost_ret (v := .tuple #[.agg #[.int .i64 (c1 + 1), .int .i64 p1, .int .i64 p2], .int .i64 (1 - at_), v2, .int .i64 0]) (by simp [results, Try.results19, go_sem, q0, q1, q2]) rfl (by rw [HR3.out]; exact ⟨v2, rfl, hm⟩)
    · have hp' : ptB ⟨c1 + 1, p1, p2⟩ = false := by simpa using hp
      refine (rencode_pno ⟨c1 + 1, p1, p2⟩ HP.out hp' _).mono ?_
      rintro e w2 ⟨rfl, m2⟩
      have hr3 : nxE ⟨c1 + 1, p1, p2⟩ (1 - at_) = (⟨0, 0, 0⟩, 0, [], 1) := if_neg hp
      have HR3 : Hid (nxE ⟨c1 + 1, p1, p2⟩ (1 - at_) = (⟨0, 0, 0⟩, 0, [], 1)) := hr3
      have tz9 := tz3.fr m2 (fun f => f)
      have HM : Hid (∀ W, Fr (fun i => i = z) w2 W → Made w W (.slice none 0 0) []) := fun W f => by
        have hm := FF3.out.seq' m2
        have hf : Fr (fun _ => False) w W := hm.trans f (fun i hi e => by have := HXZ.out; omega)
        exact ⟨World.ownsRow_nil _ _ _ _, hf⟩
      clear x0 x1 x2 u0 u1 u2 hr3 hp hp' m2
      obtain ⟨z0, z1, z2, k0, k1, k2⟩ := tz9.cells
      go_wp2
      obtain ⟨tf, ff⟩ := tz9.fin 0 0 0
      have hm := HM.out _ ff
      generalize (((w2.setCell ⟨z, 0, none⟩ (.int .i64 0)).setCell ⟨z, 1, none⟩ (.int .i64 0)).setCell ⟨z, 2, none⟩ (.int .i64 0)) = Wf at tf hm ⊢
      obtain ⟨q0, q1, q2, _, _, _⟩ := tf.cells
      exact bodyPost_ret (v := .tuple #[.agg #[.int .i64 0, .int .i64 0, .int .i64 0], .int .i64 0, .slice none 0 0, .int .i64 1]) (by simp [results, Try.results19, go_sem, q0, q1, q2]) rfl (by rw [HR3.out]; exact ⟨_, rfl, hm⟩)
  · have hr2 : r = nxE ⟨1, p1, p2⟩ 0 := HR.out
    clear HR HCR
    subst hr2
    go_upto_region 7 with fail
    clear y0 y1 y2 x0 x1 x2 u0 u1 u2
    obtain ⟨x0, x1, x2, u0, u1, u2⟩ := tx2.cells
    go_wp2_with fail
    by_cases hp : ptB ⟨1, p1, p2⟩ = true
    · refine (rencode_pyes ⟨1, p1, p2⟩ hp _).mono ?_
      rintro e w2 ⟨v2, rfl, m2⟩
      have hr3 : nxE ⟨1, p1, p2⟩ (0) = (⟨1, p1, p2⟩, 0, pf ⟨1, p1, p2⟩, 0) := if_pos hp
      have HR3 : Hid (nxE ⟨1, p1, p2⟩ (0) = (⟨1, p1, p2⟩, 0, pf ⟨1, p1, p2⟩, 0)) := hr3
      have tx9 := tx2.fr m2.fr (fun f => f)
      have tz9 := tz2.fr m2.fr (fun f => f)
      have hz9 := lt_of_block tz2
      have HM : Hid (∀ W, Fr (fun i => i = z) w2 W → Made w W v2 (pf ⟨1, p1, p2⟩)) := fun W f => by
        have hm := Made.of FF2.out m2
        have hf : Fr (fun _ => False) w W := hm.fr.trans f (fun i hi e => by have := HXZ.out; omega)
        exact ⟨hm.own.fr f (fun k hk e => by have := (m2.own.lt k hk).1; omega), hf⟩
      clear x0 x1 x2 u0 u1 u2 hr3 hp m2 hz9
      obtain ⟨x0, x1, x2, u0, u1, u2⟩ := tx9.cells
      obtain ⟨z0, z1, z2, k0, k1, k2⟩ := tz9.cells
      go_wp2
      obtain ⟨tf, ff⟩ := tz9.fin (1) p1 p2
      have hm := HM.out _ ff
      generalize (((w2.setCell ⟨z, 0, none⟩ (.int .i64 (1))).setCell ⟨z, 1, none⟩ (.int .i64 p1)).setCell ⟨z, 2, none⟩ (.int .i64 p2)) = Wf at tf hm ⊢
      obtain ⟨q0, q1, q2, _, _, _⟩ := tf.cells
      exact bodyPost_ret (v := .tuple #[.agg #[.int .i64 (1), .int .i64 p1, .int .i64 p2], .int .i64 (0), v2, .int .i64 0]) (by simp [results, Try.results19, go_sem, q0, q1, q2]) rfl (by rw [HR3.out]; exact ⟨v2, rfl, hm⟩)
    · have hp' : ptB ⟨1, p1, p2⟩ = false := by simpa using hp
      refine (rencode_pno ⟨1, p1, p2⟩ HP.out hp' _).mono ?_
      rintro e w2 ⟨rfl, m2⟩
      have hr3 : nxE ⟨1, p1, p2⟩ (0) = (⟨0, 0, 0⟩, 0, [], 1) := if_neg hp
      have HR3 : Hid (nxE ⟨1, p1, p2⟩ (0) = (⟨0, 0, 0⟩, 0, [], 1)) := hr3
      have tz9 := tz2.fr m2 (fun f => f)
      have HM : Hid (∀ W, Fr (fun i => i = z) w2 W → Made w W (.slice none 0 0) []) := fun W f => by
        have hm := FF2.out.seq' m2
        have hf : Fr (fun _ => False) w W := hm.trans f (fun i hi e => by have := HXZ.out; omega)
        exact ⟨World.ownsRow_nil _ _ _ _, hf⟩
      clear x0 x1 x2 u0 u1 u2 hr3 hp hp' m2
      obtain ⟨z0, z1, z2, k0, k1, k2⟩ := tz9.cells
      go_wp2
      obtain ⟨tf, ff⟩ := tz9.fin 0 0 0
      have hm := HM.out _ ff
      generalize (((w2.setCell ⟨z, 0, none⟩ (.int .i64 0)).setCell ⟨z, 1, none⟩ (.int .i64 0)).setCell ⟨z, 2, none⟩ (.int .i64 0)) = Wf at tf hm ⊢
      obtain ⟨q0, q1, q2, _, _, _⟩ := tf.cells
      exact bodyPost_ret (v := .tuple #[.agg #[.int .i64 0, .int .i64 0, .int .i64 0], .int .i64 0, .slice none 0 0, .int .i64 1]) (by simp [results, Try.results19, go_sem, q0, q1, q2]) rfl (by rw [HR3.out]; exact ⟨_, rfl, hm⟩)
end Go.Proofs.Ytjhbhjakbcplgaa
