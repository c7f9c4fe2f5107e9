
/- What Choose tells of two slots. -/
import Derived.Test.YtjhbhjakbcplgaaPtDec2
namespace Go.Proofs.Ytjhbhjakbcplgaa
open Go.RowKit Crcm

/-- What a look at one slot makes of the checkpoint that is chosen. -/
def chStep (c : Pn × Int) (d : Pn × Int) (i : Int) : Pn × Int := if d.2 = 0 ∧ c.1.num < d.1.num then (d.1, i) else c
def stA (la lb : List Nat) : Nat → Pn × Int
  | 0 => (⟨0, 0, 0⟩, 0)
  | 1 => chStep (⟨0, 0, 0⟩, 0) (decP la) 0
  | _ => chStep (chStep (⟨0, 0, 0⟩, 0) (decP la) 0) (decP lb) 1
/-- What Choose tells: the checkpoint, its slot, the error. -/
def chs (la lb : List Nat) : Pn × Int × Int := if (stA la lb 2).1.num = 0 then (⟨0, 0, 0⟩, 0, 6) else ((stA la lb 2).1, (stA la lb 2).2, 0)

theorem ix0 (x y : Value) (W : World) : Sem.run Try.prog (Instr.index 58 (.agg #[x, y]) (.int .i64 0)) W = .ok x W := by
  simp [Instr.index, go_sem]
theorem ix1 (x y : Value) (W : World) : Sem.run Try.prog (Instr.index 58 (.agg #[x, y]) (.int .i64 1)) W = .ok y W := by
  simp [Instr.index, go_sem]
set_option maxRecDepth 100000 in
set_option maxHeartbeats 4000000 in
theorem choose_any (a b : Option Addr) (na nb ca cb : Nat) (la lb : List Nat) (hna : na = la.length) (hnb : nb = lb.length) (w : World) (hra : Row w a ca la) (hrb : Row w b cb lb) :
    Calls Try.prog 16 #[.slice a na ca, .slice b nb cb] w fun e w' => e = .returned (.tuple #[.agg #[.int .i64 (chs la lb).1.num, .int .i64 (chs la lb).1.lsn, .int .i64 (chs la lb).1.redo], .int .i64 (chs la lb).2.1, .int .i64 (chs la lb).2.2]) ∧ Fr (fun _ => False) w w' := by
  obtain ⟨W0, hW0⟩ : ∃ W0, W0 = (w.alloc (.cells #[.int .i64 0, .int .i64 0, .int .i64 0] 34)).alloc (.cells #[.int .i64 0, .int .i64 0, .int .i64 0] 34) := ⟨_, rfl⟩
  have f0 : Fr (fun _ => False) w W0 := by rw [hW0]; exact (Fr.box w _).alloc _
  obtain ⟨z, hz⟩ : ∃ z, z = w.heap.size := ⟨_, rfl⟩
  obtain ⟨q, hq⟩ : ∃ q, q = w.heap.size + 1 := ⟨_, rfl⟩
  have t1 : Tri (w.alloc (.cells #[.int .i64 0, .int .i64 0, .int .i64 0] 34)) z 34 0 0 0 := by rw [hz]; exact heap_alloc_new w _
  have tz : Tri W0 z 34 0 0 0 := by rw [hW0]; exact t1.fr (Fr.box _ _) (fun f => f)
  have tq : Tri W0 q 34 0 0 0 := by
    have h := heap_alloc_new (w.alloc (.cells #[.int .i64 0, .int .i64 0, .int .i64 0] 34)) (.cells #[.int .i64 0, .int .i64 0, .int .i64 0] 34)
    have e : (w.alloc (.cells #[.int .i64 0, .int .i64 0, .int .i64 0] 34)).heap.size = q := by rw [hq]; simp
    rw [e] at h; rw [hW0]; exact h
  have HQZ : Hid (q = z + 1 ∧ w.heap.size ≤ z) := ⟨by omega, by omega⟩
  have HW : Hid ((w.alloc (.cells #[.int .i64 0, .int .i64 0, .int .i64 0] 34)).alloc (.cells #[.int .i64 0, .int .i64 0, .int .i64 0] 34) = W0) := hW0.symm
  have HZ' : Hid (w.heap.size = z) := hz.symm
  have HQ' : Hid (z + 1 = q) := by show _ = _; omega
  have HRa : Hid (Row w a ca la) := hra
  have HRb : Hid (Row w b cb lb) := hrb
  subst hna hnb
  obtain ⟨r, hr⟩ : ∃ r, r = chs la lb := ⟨_, rfl⟩
  have HRS : Hid (r = chs la lb) := hr
  rw [← hr]
  have HT0 : Hid (Tri W0 z 34 0 0 0) := tz
  have HTQ0 : Hid (Tri W0 q 34 0 0 0) := tq
  have HF0 : Hid (Fr (fun _ => False) w W0) := f0
  clear hW0 hz hq t1 hra hrb hr tz tq f0
  go_enter Try.func16, Try.ntmps16
  go_upto_region 3 with fail
  rw [HW.out, HZ'.out, HQ'.out]
  go_wp2
  go_loopw [8, 16] (fun u i wr => ∃ (k : Nat) (c : Pn) (A : Int), k ≤ 2 ∧ u = .int .i64 A ∧ i = .int .i64 k ∧ Hid (stA la lb k = (c, A)) ∧ Hid (Tri wr q 34 c.num c.lsn c.redo) ∧ Hid (Tri wr z 34 0 0 0) ∧ Hid (Fr (fun _ => False) w wr))
    (fun _ i _ => 2 - (intOf i).toNat)
  case atStart => exact ⟨0, ⟨0, 0, 0⟩, 0, by omega, rfl, rfl, rfl, HTQ0.out, HT0.out, HF0.out⟩
  case round =>
    obtain ⟨k, ⟨c1, c2, c3⟩, A, hk, rfl, rfl, HS, HTq, HTz, HF⟩ := hrel
    clear HT0 HTQ0 HF0 HW
    match k, hk with
    | 0, _ =>
      obtain ⟨⟨⟨p1, p2, p3⟩, de⟩, hd⟩ : ∃ d, d = decP la := ⟨_, rfl⟩
      have HD : Hid (decP la = (⟨p1, p2, p3⟩, de)) := hd.symm
      clear hd
      have hst : stA la lb 1 = chStep (⟨c1, c2, c3⟩, A) (⟨p1, p2, p3⟩, de) 0 := by
        show chStep (stA la lb 0) (decP la) 0 = _
        rw [HS.out, HD.out]
      have HS1 : Hid (stA la lb 1 = chStep (⟨c1, c2, c3⟩, A) (⟨p1, p2, p3⟩, de) 0) := hst
      clear hst HS
      have rr := HRa.out.same HF.out
      have hix := ix0 (.slice a la.length ca) (.slice b lb.length cb) wr
      go_wp2_with fail
      refine (decode_any _ _ _ la rfl _ rr).mono ?_
      rw [HD.out]
      rintro e w1 ⟨rfl, f1⟩
      clear rr hix
      obtain ⟨qq, hqq⟩ : ∃ qq, qq = w1.heap.size := ⟨_, rfl⟩
      obtain ⟨W1, hW1⟩ : ∃ W1, W1 = w1.alloc (.cells #[.int .i64 p1, .int .i64 p2, .int .i64 p3] 34) := ⟨_, rfl⟩
      have fb : Fr (fun _ => False) w1 W1 := by rw [hW1]; exact Fr.box w1 _
      have tp : Tri W1 qq 34 p1 p2 p3 := by rw [hW1, hqq]; exact heap_alloc_new w1 _
      have HW1 : Hid (w1.alloc (.cells #[.int .i64 p1, .int .i64 p2, .int .i64 p3] 34) = W1) := hW1.symm
      have HQ1 : Hid (w1.heap.size = qq) := hqq.symm
      have tq1 := (HTq.out.fr f1 (fun f => f)).fr fb (fun f => f)
      have tz1 := (HTz.out.fr f1 (fun f => f)).fr fb (fun f => f)
      have FF : Hid (Fr (fun _ => False) w W1) := HF.out.seq' (f1.seq' fb)
      clear hW1 hqq f1 fb HTq HTz HF
      go_upto_region 7 with fail
      rw [HW1.out, HQ1.out]
      obtain ⟨x0, x1, x2, _, _, _⟩ := tp.cells
      obtain ⟨y0, y1, y2, g0, g1, g2⟩ := tq1.cells
      by_cases he : de = 0
      · subst he
        by_cases hc : c1 < p1
        · have hS2 : stA la lb 1 = (⟨p1, p2, p3⟩, 0) := by rw [HS1.out]; unfold chStep; rw [if_pos ⟨rfl, hc⟩]
          clear HS1
          go_wp2
          obtain ⟨tf, ff⟩ := tq1.fin p1 p2 p3
          have tz2 := tz1.fr ff (fun e => by have := HQZ.out; omega)
          have FF2 : Fr (fun _ => False) w _ := FF.out.trans ff (fun i hi e => by have := HQZ.out; omega)
          go_roundw
          case rel => exact ⟨1, ⟨p1, p2, p3⟩, 0, by omega, rfl, rfl, hS2, tf, tz2, FF2⟩
          case measure => simp [intOf]
        · have hS2 : stA la lb 1 = (⟨c1, c2, c3⟩, A) := by rw [HS1.out]; unfold chStep; rw [if_neg (fun h => hc h.2)]
          clear HS1
          go_wp2
          go_roundw
          case rel => exact ⟨1, ⟨c1, c2, c3⟩, A, by omega, rfl, rfl, hS2, tq1, tz1, FF.out⟩
          case measure => simp [intOf]
      · have hS2 : stA la lb 1 = (⟨c1, c2, c3⟩, A) := by rw [HS1.out]; unfold chStep; rw [if_neg (fun h => he h.1)]
        have hne : (de == 0) = false := by simpa using he
        clear HS1 he
        go_wp2
        go_roundw
        case rel => exact ⟨1, ⟨c1, c2, c3⟩, A, by omega, rfl, rfl, hS2, tq1, tz1, FF.out⟩
        case measure => simp [intOf]
    | 1, _ =>
      obtain ⟨⟨⟨p1, p2, p3⟩, de⟩, hd⟩ : ∃ d, d = decP lb := ⟨_, rfl⟩
      have HD : Hid (decP lb = (⟨p1, p2, p3⟩, de)) := hd.symm
      clear hd
      have hst : stA la lb 2 = chStep (⟨c1, c2, c3⟩, A) (⟨p1, p2, p3⟩, de) 1 := by
        show chStep (stA la lb 1) (decP lb) 1 = _
        rw [HS.out, HD.out]
      have HS1 : Hid (stA la lb 2 = chStep (⟨c1, c2, c3⟩, A) (⟨p1, p2, p3⟩, de) 1) := hst
      clear hst HS
      have rr := HRb.out.same HF.out
      have hix := ix1 (.slice a la.length ca) (.slice b lb.length cb) wr
      go_wp2_with fail
      refine (decode_any _ _ _ lb rfl _ rr).mono ?_
      rw [HD.out]
      rintro e w1 ⟨rfl, f1⟩
      clear rr hix
      obtain ⟨qq, hqq⟩ : ∃ qq, qq = w1.heap.size := ⟨_, rfl⟩
      obtain ⟨W1, hW1⟩ : ∃ W1, W1 = w1.alloc (.cells #[.int .i64 p1, .int .i64 p2, .int .i64 p3] 34) := ⟨_, rfl⟩
      have fb : Fr (fun _ => False) w1 W1 := by rw [hW1]; exact Fr.box w1 _
      have tp : Tri W1 qq 34 p1 p2 p3 := by rw [hW1, hqq]; exact heap_alloc_new w1 _
      have HW1 : Hid (w1.alloc (.cells #[.int .i64 p1, .int .i64 p2, .int .i64 p3] 34) = W1) := hW1.symm
      have HQ1 : Hid (w1.heap.size = qq) := hqq.symm
      have tq1 := (HTq.out.fr f1 (fun f => f)).fr fb (fun f => f)
      have tz1 := (HTz.out.fr f1 (fun f => f)).fr fb (fun f => f)
      have FF : Hid (Fr (fun _ => False) w W1) := HF.out.seq' (f1.seq' fb)
      clear hW1 hqq f1 fb HTq HTz HF
      go_upto_region 7 with fail
      rw [HW1.out, HQ1.out]
      obtain ⟨x0, x1, x2, _, _, _⟩ := tp.cells
      obtain ⟨y0, y1, y2, g0, g1, g2⟩ := tq1.cells
      by_cases he : de = 0
      · subst he
        by_cases hc : c1 < p1
        · have hS2 : stA la lb 2 = (⟨p1, p2, p3⟩, 1) := by rw [HS1.out]; unfold chStep; rw [if_pos ⟨rfl, hc⟩]
          clear HS1
          go_wp2
          obtain ⟨tf, ff⟩ := tq1.fin p1 p2 p3
          have tz2 := tz1.fr ff (fun e => by have := HQZ.out; omega)
          have FF2 : Fr (fun _ => False) w _ := FF.out.trans ff (fun i hi e => by have := HQZ.out; omega)
          go_roundw
          case rel => exact ⟨2, ⟨p1, p2, p3⟩, 1, by omega, rfl, rfl, hS2, tf, tz2, FF2⟩
          case measure => simp [intOf]
        · have hS2 : stA la lb 2 = (⟨c1, c2, c3⟩, A) := by rw [HS1.out]; unfold chStep; rw [if_neg (fun h => hc h.2)]
          clear HS1
          go_wp2
          go_roundw
          case rel => exact ⟨2, ⟨c1, c2, c3⟩, A, by omega, rfl, rfl, hS2, tq1, tz1, FF.out⟩
          case measure => simp [intOf]
      · have hS2 : stA la lb 2 = (⟨c1, c2, c3⟩, A) := by rw [HS1.out]; unfold chStep; rw [if_neg (fun h => he h.1)]
        have hne : (de == 0) = false := by simpa using he
        clear HS1 he
        go_wp2
        go_roundw
        case rel => exact ⟨2, ⟨c1, c2, c3⟩, A, by omega, rfl, rfl, hS2, tq1, tz1, FF.out⟩
        case measure => simp [intOf]
    | 2, _ =>
      obtain ⟨y0, y1, y2, _, _, _⟩ := HTq.out.cells
      by_cases h0 : c1 = 0
      · subst h0
        have er : r = (⟨0, 0, 0⟩, 0, 6) := by rw [HRS.out]; unfold chs; rw [HS.out]; rfl
        clear HRS HS
        subst er
        obtain ⟨d0, d1, d2, k0, k1, k2⟩ := HTz.out.cells
        go_wp2
        obtain ⟨tf, ff⟩ := HTz.out.fin (0) (0) (0)
        have fff : Fr (fun _ => False) w _ := HF.out.trans ff (fun i hi e => by have := HQZ.out; omega)
        generalize (((wr.setCell ⟨z, 0, none⟩ (.int .i64 (0))).setCell ⟨z, 1, none⟩ (.int .i64 (0))).setCell ⟨z, 2, none⟩ (.int .i64 (0))) = Wf at tf fff ⊢
        obtain ⟨q0, q1, q2, _, _, _⟩ := tf.cells
        exact bodyPost_ret (v := .tuple #[.agg #[.int .i64 (0), .int .i64 (0), .int .i64 (0)], .int .i64 0, .int .i64 6]) (by simp [results, Try.results16, go_sem, q0, q1, q2]) rfl ⟨rfl, fff⟩
      · have er : r = (⟨c1, c2, c3⟩, A, 0) := by rw [HRS.out]; unfold chs; rw [HS.out]; simp only; rw [if_neg h0]
        have hne : (c1 == 0) = false := by simpa using h0
        clear HRS HS h0
        subst er
        obtain ⟨d0, d1, d2, k0, k1, k2⟩ := HTz.out.cells
        go_wp2
        obtain ⟨tf, ff⟩ := HTz.out.fin (c1) (c2) (c3)
        have fff : Fr (fun _ => False) w _ := HF.out.trans ff (fun i hi e => by have := HQZ.out; omega)
        generalize (((wr.setCell ⟨z, 0, none⟩ (.int .i64 (c1))).setCell ⟨z, 1, none⟩ (.int .i64 (c2))).setCell ⟨z, 2, none⟩ (.int .i64 (c3))) = Wf at tf fff ⊢
        obtain ⟨q0, q1, q2, _, _, _⟩ := tf.cells
        exact bodyPost_ret (v := .tuple #[.agg #[.int .i64 (c1), .int .i64 (c2), .int .i64 (c3)], .int .i64 A, .int .i64 0]) (by simp [results, Try.results16, go_sem, q0, q1, q2]) rfl ⟨rfl, fff⟩
end Go.Proofs.Ytjhbhjakbcplgaa
