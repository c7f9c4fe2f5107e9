
/- For every node, every entry and every text latticelaw07.NodeBack answers true: what was put is got, what was deleted is not, and all other keys stay as they were (7.4); no condition. -/
import Derived.Test.YtaaedmacefiinaaZM1
namespace Go.Proofs.Ytaaedmacefiinaa.nodeBack
open Go.ChangeShapes Go.WideShapes Go.ChangeAt Go.RowKit
open Go.ChangeMaps (open_string shut_string)
set_option linter.unusedVariables false

theorem own : ownKnob Try.prog.godebug = none := by kernel_rfl
theorem laidOut : laidOutB Try.prog = true := by kernel_rfl
theorem bytes8 : Try.prog.bytesOf 5 = 1 := by kernel_rfl

set_option maxRecDepth 100000 in
set_option maxHeartbeats 8000000 in
theorem walk (w : World) (n : Nd) (p : Pt) (nd0 : Nod w n p) (k v : ByteArray) (zk : k.size ≤ 140737488351232) (zv : v.size ≤ 140737488351232) (o : ByteArray) (zo : o.size ≤ 140737488351232) :
    Calls Try.prog 9 #[(.agg #[.int .i64 n.lev, .int .i64 n.lsn, .int .i64 n.rgt, .string n.high, .slice p.k n.keys.length p.kc, .slice p.v n.vals.length p.vc, .slice p.i n.kids.length p.ic]), .agg #[.string k, .string v], .string o] w fun e w' => e = .returned (.bool true) ∧ Fr (fun _ => False) w w' := by
  have f0 : Fr (fun _ => False) w ((w.alloc (.cells #[.int .i64 n.lev, .int .i64 n.lsn, .int .i64 n.rgt, .string n.high, .slice p.k n.keys.length p.kc, .slice p.v n.vals.length p.vc, .slice p.i n.kids.length p.ic] 25)).alloc (.cells #[.string k, .string v] 62)) := ((Fr.refl _ _).alloc _).alloc _
  have HB : Hid (∀ W, Fr (fun _ => False) ((w.alloc (.cells #[.int .i64 n.lev, .int .i64 n.lsn, .int .i64 n.rgt, .string n.high, .slice p.k n.keys.length p.kc, .slice p.v n.vals.length p.vc, .slice p.i n.kids.length p.ic] 25)).alloc (.cells #[.string k, .string v] 62)) W → W.cell? ⟨w.heap.size, 0, none⟩ = some (.int .i64 n.lev) ∧ W.cell? ⟨w.heap.size, 1, none⟩ = some (.int .i64 n.lsn) ∧ W.cell? ⟨w.heap.size, 2, none⟩ = some (.int .i64 n.rgt) ∧ W.cell? ⟨w.heap.size, 3, none⟩ = some (.string n.high) ∧ W.cell? ⟨w.heap.size, 4, none⟩ = some (.slice p.k n.keys.length p.kc) ∧ W.cell? ⟨w.heap.size, 5, none⟩ = some (.slice p.v n.vals.length p.vc) ∧ W.cell? ⟨w.heap.size, 6, none⟩ = some (.slice p.i n.kids.length p.ic)) := fun W f => box_cells (box_at w n p 25 (((Fr.refl _ _).alloc _).seq' f))
  have hk : k.size ≤ maxLen := Nat.le_trans zk (by decide)
  have ho : o.size ≤ maxLen := Nat.le_trans zo (by decide)
  have g1 := put_any n p k v hk _ (nd0.same f0)
  have HPU : Hid (putE n k v = if askE n k (evalu v.size : Nat) 0 1 = 0 then fitE (putN n k v) else askE n k (evalu v.size : Nat) 0 1) := rfl
  by_cases hpe : putE n k v = 0
  · -- it was put
    have ha : askE n k (evalu v.size : Nat) 0 1 = 0 := by
      by_cases e : askE n k (evalu v.size : Nat) 0 1 = 0
      · exact e
      · have := HPU.out; rw [if_neg e, hpe] at this; exact this.symm
    have hfit : fitE (putN n k v) = 0 := by have := HPU.out; rw [if_pos ha, hpe] at this; exact this.symm
    have r := (ask_ok ha).1
    have h0 := ask1_leaf ha
    have hlf := r.lf h0
    have ra : Rt (putN n k v) := by
      refine (right_iff _).1 ?_
      unfold fitE at hfit
      cases e : rightB (putN n k v)
      · rw [e, if_neg (by simp)] at hfit; omega
      · rfl
    have h0a : (putN n k v).lev = 0 := h0
    have hask := ask_v0 ha
    have haska : askE (putN n k v) k 0 0 1 = 0 := by rw [ask_same ra r rfl rfl]; exact hask
    have haso : askE (putN n k v) o 0 0 1 = askE n o 0 0 1 := ask_same ra r rfl rfl o 0 0 1
    have hgot := (get_mem haska v).1 ((put_mem hlf k v _).2 (.inl rfl))
    have hoth : o ≠ k → getB (putN n k v) o = getB n o ∧ getV (putN n k v) o = getV n o := fun hne => get_same haso (fun y => by
      rw [put_mem hlf]
      constructor
      · rintro (e | e)
        · rw [Prod.mk.injEq] at e; exact absurd e.1 hne
        · exact e.1
      · intro e; exact .inr ⟨e, hne⟩)
    have rd := del_rt ra h0a k
    have hdp := del_put hlf k v
    have hasd : askE (delN n k) k 0 0 1 = 0 := by rw [← hdp, ask_same rd r rfl rfl]; exact hask
    have hnot : getB (delN n k) k = false := by
      cases e : getB (delN n k) k
      · rfl
      · have := (get_mem hasd _).2 ⟨e, rfl⟩
        rw [del_mem hlf] at this
        exact absurd rfl this.2
    rw [hpe, okN_ok] at g1
    have g2 := fun q W hW => get_any (putN n k v) q k hk W hW
    rw [hgot.1, hgot.2, haska] at g2
    have g3 := fun W hW => get_any n p o ho W hW
    have g4 := fun q W hW => get_any (putN n k v) q o ho W hW
    rw [haso] at g4
    have g5 := fun q W hW => del_any (putN n k v) q k hk W hW
    rw [haska, okN_ok, hdp] at g5
    have g6 := fun q W hW => get_any (delN n k) q k hk W hW
    rw [hnot, get_none hnot, hasd] at g6
    have g7 := fun W hW => del_any n p k hk W hW
    rw [hask, okN_ok] at g7
    have HOT : Hid (o ≠ k → getB (putN n k v) o = getB n o ∧ getV (putN n k v) o = getV n o) := hoth
    have HSB := str_beq o k
    have hvv : (v.toList == v.toList) = true := by simp
    generalize getB (putN n k v) o = ab at *
    generalize getV (putN n k v) o = av at *
    generalize getB n o = nb at *
    generalize getV n o = nv at *
    generalize askE n o 0 0 1 = oe at *
    clear hoth hnot hasd hdp rd hgot haso haska hask h0a ra hlf h0 r hfit ha hpe HPU
    generalize delN n k = d at *
    generalize putN n k v = a at *
    go_enter Try.func9, Try.ntmps9
    go_wp2_with fail
    refine g1.mono ?_
    rintro e w1 ⟨p1, rfl, nd1, f1⟩
    clear g1
    have x1 := Fr.box w1 (.cells #[.int .i64 a.lev, .int .i64 a.lsn, .int .i64 a.rgt, .string a.high, .slice p1.k a.keys.length p1.kc, .slice p1.v a.vals.length p1.vc, .slice p1.i a.kids.length p1.ic] 25)
    have HB1 : Hid (∀ W, Fr (fun _ => False) (w1.alloc (.cells #[.int .i64 a.lev, .int .i64 a.lsn, .int .i64 a.rgt, .string a.high, .slice p1.k a.keys.length p1.kc, .slice p1.v a.vals.length p1.vc, .slice p1.i a.kids.length p1.ic] 25)) W → W.cell? ⟨w1.heap.size, 0, none⟩ = some (.int .i64 a.lev) ∧ W.cell? ⟨w1.heap.size, 1, none⟩ = some (.int .i64 a.lsn) ∧ W.cell? ⟨w1.heap.size, 2, none⟩ = some (.int .i64 a.rgt) ∧ W.cell? ⟨w1.heap.size, 3, none⟩ = some (.string a.high) ∧ W.cell? ⟨w1.heap.size, 4, none⟩ = some (.slice p1.k a.keys.length p1.kc) ∧ W.cell? ⟨w1.heap.size, 5, none⟩ = some (.slice p1.v a.vals.length p1.vc) ∧ W.cell? ⟨w1.heap.size, 6, none⟩ = some (.slice p1.i a.kids.length p1.ic)) := fun W f => box_cells (box_at w1 a p1 25 f)
    have nda := nd1.same x1
    have F1 := f1.seq' x1
    go_wp2_with fail
    refine (g2 p1 _ nda).mono ?_
    rintro e w2 ⟨rfl, f2⟩
    clear g2
    have F2 := F1.seq' f2
    obtain ⟨c0, c1, c2, c3, c4, c5, c6⟩ := HB.out _ F2
    go_wp2_with fail
    refine (g3 _ (nd0.same (f0.seq' F2))).mono ?_
    rintro e w3 ⟨rfl, f3⟩
    clear g3 c0 c1 c2 c3 c4 c5 c6
    have L3 := f2.seq' f3
    have F3 := F1.seq' L3
    obtain ⟨c0, c1, c2, c3, c4, c5, c6⟩ := HB1.out _ L3
    go_wp2_with fail
    refine (g4 p1 _ (nda.same L3)).mono ?_
    rintro e w4 ⟨rfl, f4⟩
    clear g4 c0 c1 c2 c3 c4 c5 c6
    have L4 := L3.seq' f4
    have F4 := F1.seq' L4
    obtain ⟨c0, c1, c2, c3, c4, c5, c6⟩ := HB1.out _ L4
    by_cases hok : o = k
    · rw [decide_eq_true (by rw [hok])] at HSB
      clear HOT hok
      go_wp2_with fail
      refine (g5 p1 _ (nda.same L4)).mono ?_
      rintro e w5 ⟨p5, rfl, nd5, f5⟩
      clear g5 c0 c1 c2 c3 c4 c5 c6
      have x5 := Fr.box w5 (.cells #[.int .i64 d.lev, .int .i64 d.lsn, .int .i64 d.rgt, .string d.high, .slice p5.k d.keys.length p5.kc, .slice p5.v d.vals.length p5.vc, .slice p5.i d.kids.length p5.ic] 25)
      have HB5 : Hid (∀ W, Fr (fun _ => False) (w5.alloc (.cells #[.int .i64 d.lev, .int .i64 d.lsn, .int .i64 d.rgt, .string d.high, .slice p5.k d.keys.length p5.kc, .slice p5.v d.vals.length p5.vc, .slice p5.i d.kids.length p5.ic] 25)) W → W.cell? ⟨w5.heap.size, 0, none⟩ = some (.int .i64 d.lev) ∧ W.cell? ⟨w5.heap.size, 1, none⟩ = some (.int .i64 d.lsn) ∧ W.cell? ⟨w5.heap.size, 2, none⟩ = some (.int .i64 d.rgt) ∧ W.cell? ⟨w5.heap.size, 3, none⟩ = some (.string d.high) ∧ W.cell? ⟨w5.heap.size, 4, none⟩ = some (.slice p5.k d.keys.length p5.kc) ∧ W.cell? ⟨w5.heap.size, 5, none⟩ = some (.slice p5.v d.vals.length p5.vc) ∧ W.cell? ⟨w5.heap.size, 6, none⟩ = some (.slice p5.i d.kids.length p5.ic)) := fun W f => box_cells (box_at w5 d p5 25 f)
      have ndd := nd5.same x5
      have F5 := F4.seq' (f5.seq' x5)
      go_wp2_with fail
      refine (g6 p5 _ ndd).mono ?_
      rintro e w6 ⟨rfl, f6⟩
      clear g6
      have F6 := F5.seq' f6
      obtain ⟨c0, c1, c2, c3, c4, c5, c6⟩ := HB.out _ F6
      go_wp2_with fail
      refine (g7 _ (nd0.same (f0.seq' F6))).mono ?_
      rintro e w7 ⟨p7, rfl, nd7, f7⟩
      clear g7 c0 c1 c2 c3 c4 c5 c6
      have x7 := Fr.box w7 (.cells #[.int .i64 d.lev, .int .i64 d.lsn, .int .i64 d.rgt, .string d.high, .slice p7.k d.keys.length p7.kc, .slice p7.v d.vals.length p7.vc, .slice p7.i d.kids.length p7.ic] 25)
      have HB7 : Hid (∀ W, Fr (fun _ => False) (w7.alloc (.cells #[.int .i64 d.lev, .int .i64 d.lsn, .int .i64 d.rgt, .string d.high, .slice p7.k d.keys.length p7.kc, .slice p7.v d.vals.length p7.vc, .slice p7.i d.kids.length p7.ic] 25)) W → W.cell? ⟨w7.heap.size, 0, none⟩ = some (.int .i64 d.lev) ∧ W.cell? ⟨w7.heap.size, 1, none⟩ = some (.int .i64 d.lsn) ∧ W.cell? ⟨w7.heap.size, 2, none⟩ = some (.int .i64 d.rgt) ∧ W.cell? ⟨w7.heap.size, 3, none⟩ = some (.string d.high) ∧ W.cell? ⟨w7.heap.size, 4, none⟩ = some (.slice p7.k d.keys.length p7.kc) ∧ W.cell? ⟨w7.heap.size, 5, none⟩ = some (.slice p7.v d.vals.length p7.vc) ∧ W.cell? ⟨w7.heap.size, 6, none⟩ = some (.slice p7.i d.kids.length p7.ic)) := fun W f => box_cells (box_at w7 d p7 25 f)
      have b5 := f6.seq' (f7.seq' x7)
      have F7 := F5.seq' b5
      have hpl := plain_same d p5 p7 _ (ndd.same b5) (nd7.same x7)
      obtain ⟨c0, c1, c2, c3, c4, c5, c6⟩ := HB5.out _ b5
      go_wp2_with fail
      refine hpl.mono ?_
      rintro e w8 ⟨rfl, f8⟩
      go_wp2_with fail
      refine (nspeaks_any _).mono ?_
      rintro e w9 ⟨rfl, f9⟩
      go_wp2
      go_ret
      exact ⟨rfl, (f0.seq' F7).seq' (f8.seq' f9)⟩
    · rw [decide_eq_false (fun e => hok (bs_inj e))] at HSB
      obtain ⟨e1, e2⟩ := HOT.out hok
      subst e1; subst e2
      have hww : (av.toList == av.toList) = true := by simp
      clear HOT hok
      go_wp2_with fail
      refine (g5 p1 _ (nda.same L4)).mono ?_
      rintro e w5 ⟨p5, rfl, nd5, f5⟩
      clear g5 c0 c1 c2 c3 c4 c5 c6
      have x5 := Fr.box w5 (.cells #[.int .i64 d.lev, .int .i64 d.lsn, .int .i64 d.rgt, .string d.high, .slice p5.k d.keys.length p5.kc, .slice p5.v d.vals.length p5.vc, .slice p5.i d.kids.length p5.ic] 25)
      have HB5 : Hid (∀ W, Fr (fun _ => False) (w5.alloc (.cells #[.int .i64 d.lev, .int .i64 d.lsn, .int .i64 d.rgt, .string d.high, .slice p5.k d.keys.length p5.kc, .slice p5.v d.vals.length p5.vc, .slice p5.i d.kids.length p5.ic] 25)) W → W.cell? ⟨w5.heap.size, 0, none⟩ = some (.int .i64 d.lev) ∧ W.cell? ⟨w5.heap.size, 1, none⟩ = some (.int .i64 d.lsn) ∧ W.cell? ⟨w5.heap.size, 2, none⟩ = some (.int .i64 d.rgt) ∧ W.cell? ⟨w5.heap.size, 3, none⟩ = some (.string d.high) ∧ W.cell? ⟨w5.heap.size, 4, none⟩ = some (.slice p5.k d.keys.length p5.kc) ∧ W.cell? ⟨w5.heap.size, 5, none⟩ = some (.slice p5.v d.vals.length p5.vc) ∧ W.cell? ⟨w5.heap.size, 6, none⟩ = some (.slice p5.i d.kids.length p5.ic)) := fun W f => box_cells (box_at w5 d p5 25 f)
      have ndd := nd5.same x5
      have F5 := F4.seq' (f5.seq' x5)
      go_wp2_with fail
      refine (g6 p5 _ ndd).mono ?_
      rintro e w6 ⟨rfl, f6⟩
      clear g6
      have F6 := F5.seq' f6
      obtain ⟨c0, c1, c2, c3, c4, c5, c6⟩ := HB.out _ F6
      go_wp2_with fail
      refine (g7 _ (nd0.same (f0.seq' F6))).mono ?_
      rintro e w7 ⟨p7, rfl, nd7, f7⟩
      clear g7 c0 c1 c2 c3 c4 c5 c6
      have x7 := Fr.box w7 (.cells #[.int .i64 d.lev, .int .i64 d.lsn, .int .i64 d.rgt, .string d.high, .slice p7.k d.keys.length p7.kc, .slice p7.v d.vals.length p7.vc, .slice p7.i d.kids.length p7.ic] 25)
      have HB7 : Hid (∀ W, Fr (fun _ => False) (w7.alloc (.cells #[.int .i64 d.lev, .int .i64 d.lsn, .int .i64 d.rgt, .string d.high, .slice p7.k d.keys.length p7.kc, .slice p7.v d.vals.length p7.vc, .slice p7.i d.kids.length p7.ic] 25)) W → W.cell? ⟨w7.heap.size, 0, none⟩ = some (.int .i64 d.lev) ∧ W.cell? ⟨w7.heap.size, 1, none⟩ = some (.int .i64 d.lsn) ∧ W.cell? ⟨w7.heap.size, 2, none⟩ = some (.int .i64 d.rgt) ∧ W.cell? ⟨w7.heap.size, 3, none⟩ = some (.string d.high) ∧ W.cell? ⟨w7.heap.size, 4, none⟩ = some (.slice p7.k d.keys.length p7.kc) ∧ W.cell? ⟨w7.heap.size, 5, none⟩ = some (.slice p7.v d.vals.length p7.vc) ∧ W.cell? ⟨w7.heap.size, 6, none⟩ = some (.slice p7.i d.kids.length p7.ic)) := fun W f => box_cells (box_at w7 d p7 25 f)
      have b5 := f6.seq' (f7.seq' x7)
      have F7 := F5.seq' b5
      have hpl := plain_same d p5 p7 _ (ndd.same b5) (nd7.same x7)
      obtain ⟨c0, c1, c2, c3, c4, c5, c6⟩ := HB5.out _ b5
      go_wp2_with fail
      refine hpl.mono ?_
      rintro e w8 ⟨rfl, f8⟩
      go_wp2_with fail
      refine (nspeaks_any _).mono ?_
      rintro e w9 ⟨rfl, f9⟩
      go_wp2
      go_ret
      exact ⟨rfl, (f0.seq' F7).seq' (f8.seq' f9)⟩
  · rw [okN_no hpe] at g1
    have hneb : (putE n k v != 0) = true := by simpa using hpe
    generalize putE n k v = pe at *
    clear hpe HPU
    go_enter Try.func9, Try.ntmps9
    go_wp2_with fail
    refine g1.mono ?_
    rintro e w1 ⟨p1, rfl, nd1, f1⟩
    clear g1
    have x1 := Fr.box w1 (.cells #[.int .i64 zn.lev, .int .i64 zn.lsn, .int .i64 zn.rgt, .string zn.high, .slice p1.k zn.keys.length p1.kc, .slice p1.v zn.vals.length p1.vc, .slice p1.i zn.kids.length p1.ic] 25)
    have F1 := f1.seq' x1
    have hpl := plain_same zn p1 zp _ (nd1.same x1) (zn_nod _)
    go_wp2_with fail
    refine hpl.mono ?_
    rintro e w2 ⟨rfl, f2⟩
    go_wp2_with fail
    refine (nspeaks_any _).mono ?_
    rintro e w3 ⟨rfl, f3⟩
    go_wp2
    go_ret
    exact ⟨rfl, (f0.seq' F1).seq' (f2.seq' f3)⟩

set_option maxRecDepth 100000 in
theorem lifted (os : Os) (started : os.Started) (H : Type) (enc : TypeId × Value → H) :
    ReturnsInHanded {} Try.checked os 9 .any (Rows.nodeBackSpec.pre6 enc Try.prog Try.f9 Rows.nodeBackRow.domain false) (Rows.nodeBackSpec.post enc Try.prog Try.f9 false true false false) := by
  refine returnsInHanded_of_change_sized (C := Try.checked) own started (by kernel_rfl) Try.func9
    (ChangeSpec.witness6 (enc := enc) (C := Try.checked) false ⟨#[], #[.agg #[.int .i64 0, .int .i64 0, .int .i64 0, .string ByteArray.empty, .slice none 0 0, .slice none 0 0, .slice none 0 0], .agg #[.string ByteArray.empty, .string ByteArray.empty], .string ByteArray.empty], []⟩ 8 (by kernel_rfl) (by kernel_rfl) (by kernel_rfl) (by kernel_rfl)) ?_
  intro W base args ds gs before hval0 hW hcnd hsz0 _
  have hsz : (DataW.weightsEach Try.prog (Try.f9.params.toList ++ Rows.nodeBackSpec.plain.varTypes Try.prog) (ds ++ gs)).all (· ≤ reachBytes) = true := hsz0
  clear hsz0
  have hval : ∀ (j : Nat) t v, Try.f9.params[j]? = some t → args[j]? = some v → Value.okWide Try.prog W .any base t v := hval0
  have hW' := hW
  obtain ⟨p, q, hA0, hV, rfl, hfz, hnd⟩ := hW
  have hA : DataW.TrodAll enc Try.prog W 0 (fun _ => true) true Try.f9.params.toList args.toList ds p := hA0
  rw [Try.params9] at hA hval hsz
  obtain ⟨v0, vs0, d0, ds0, p0, q0, hargs, rfl, rfl, h0, r0⟩ := trodAll_cons hA
  obtain ⟨v1, vs1, d1, ds1, p1, q1, rfl, rfl, rfl, h1, r1⟩ := trodAll_cons r0
  obtain ⟨v2, vs2, d2, ds2, p2, q2, rfl, rfl, rfl, h2, r2⟩ := trodAll_cons r1
  obtain ⟨rfl, rfl, rfl⟩ := trodAll_nil r2
  obtain rfl : args = #[v0, v1, v2] := by cases args; simp_all
  obtain ⟨rfl, rfl⟩ := trodVars_none hV
  have k0 := h0
  have lt0 : ∀ x ∈ p0, x.block < W.heap.size := by obtain ⟨m, hm⟩ := k0; exact DataW.trod_lt m _ _ _ hm
  obtain ⟨n0, np0, rfl, nd0⟩ := node_open (hval 0 25 v0 rfl rfl) h0 (fun z hz => by simpa using List.all_eq_true.1 hsz z (DataW.weights_mem_each (j := 0) rfl rfl z hz))
  have k1 := h1
  have lt1 : ∀ x ∈ p1, x.block < W.heap.size := by obtain ⟨m, hm⟩ := k1; exact DataW.trod_lt m _ _ _ hm
  obtain ⟨ea1, eb1, rfl, ez1, ey1⟩ := entry_open (hval 1 62 v1 rfl rfl) h1 (fun z hz => by simpa using List.all_eq_true.1 hsz z (DataW.weights_mem_each (j := 1) rfl rfl z hz))
  obtain ⟨s2, rfl, rfl, rfl, w2⟩ := open_string Try.underlying9 (hval 2 9 v2 rfl rfl) h2
  have z2 : s2.size ≤ 140737488351232 := by
    have := sized_string hsz (j := 2) (t := 9) rfl rfl
    simpa [reachBytes] using this
  clear hA0 hval0
  refine (walk W n0 np0 nd0 ea1 eb1 ez1 ey1 s2 z2).mono fun e W' ⟨he, fr⟩ => ?_
  have bel : Below W.heap.size W W' := fr.below (Nat.le_refl _) (fun _ f => f.elim)
  subst he
  exact ⟨_, rfl, _, _, _, [], _, [], hW', trodAll_mk1 (shut_bool Try.underlying4 _), (trodAll_cons_mk (Below.trod laidOut (by kernel_rfl) (of_decide_eq_true (by kernel_rfl)) k0 bel lt0) (trodAll_cons_mk (Below.trod laidOut (by kernel_rfl) (of_decide_eq_true (by kernel_rfl)) k1 bel lt1) (trodAll_cons_mk (shut_string Try.underlying9 w2) trodAll_mk0))), rfl, bel.frame _, fun h => by cases h⟩

theorem proved : Rows.NodeBackSaid :=
  OpenClaim.holds_of_wide 9 Try.f9 rfl rfl rfl rfl rfl rfl rfl ⟨rfl, rfl, rfl, rfl, rfl⟩ rfl rfl rfl rfl rfl (by kernel_rfl) Try.func9 (by kernel_rfl)
    (of_decide_eq_true (by kernel_rfl)) (by unfold Func.isWrapper; first | (rw [if_pos (by decide +kernel)]; kernel_rfl) | (rw [if_neg (by decide +kernel)]; exact ⟨rfl, rfl⟩))
    (fun os started H enc _ => lifted os started H enc)
end Go.Proofs.Ytaaedmacefiinaa.nodeBack
namespace Go.Proofs.Ytaaedmacefiinaa
theorem nodeBack_holds : Rows.NodeBackSaid := nodeBack.proved
#print axioms nodeBack_holds
end Go.Proofs.Ytaaedmacefiinaa
