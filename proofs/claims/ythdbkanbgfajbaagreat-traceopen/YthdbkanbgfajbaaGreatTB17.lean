
/- TcRul3. -/
import Derived.Test.YthdbkanbgfajbaaGreatTB9
import Derived.Test.YthdbkanbgfajbaaGreatTB16
/- The rules of an answer: 5. -/
namespace Go.Proofs.YthdbkanbgfajbaaGreat
open Go.RowKit

/-- What a read is held against; none: it is not asked. -/
def r5A (W : Wt) (s : Sn) (a : An) (c : Md) : Option Nat := agr (hist s.H) c.op a.res ((W.floor a.node).getD 0)
def r5B (W : Wt) (s : Sn) (a : An) : Bool := match W.calls a.req with
  | none => true
  | some c => if a.code = 1 ∧ rdB c.op = true then (r5A W s a c).isSome else true
def r5W (W : Wt) (s : Sn) (a : An) : Wt := match W.calls a.req with
  | none => W
  | some c => if a.code = 1 ∧ rdB c.op = true then (match r5A W s a c with | some n => { W with floor := fupd W.floor a.node (some (n : Int)) } | none => W) else W
section
variable {S : Nat → Prop} {b : Nat} {W : Wt} {K m1 m2 : Nat} {oa : Option Addr} {oc : Nat} {ha : Option Addr} {hc : Nat} {P : Int → Nat}
/-- Both boxes stand, whatever is made behind them. -/
def BxAt (w V : World) (s : Sn) (a : An) : Prop := V.cell? ⟨w.heap.size, 11, none⟩ = some (.slice s.ha s.H.length s.hc) ∧ V.cell? ⟨w.heap.size + 1, 0, none⟩ = some (.int .i64 a.req) ∧ V.cell? ⟨w.heap.size + 1, 1, none⟩ = some (.int .i64 a.node) ∧ V.cell? ⟨w.heap.size + 1, 2, none⟩ = some (.int .i64 a.code) ∧ V.cell? ⟨w.heap.size + 1, 3, none⟩ = some (.bool a.res.found) ∧ V.cell? ⟨w.heap.size + 1, 4, none⟩ = some (.string a.res.val) ∧ V.cell? ⟨w.heap.size + 1, 5, none⟩ = some (.slice a.ea a.res.ents.length a.ec)
theorem bx_at (w : World) (s : Sn) (a : An) {V : World} (f : Fr (fun _ => False) ((w.alloc (.cells (snC s) 39)).alloc (.cells (anC a) 49)) V) : BxAt w V s a := by
  have hz : (w.alloc (.cells (snC s) 39)).heap.size = w.heap.size + 1 := by simp
  have k1 : ((w.alloc (.cells (snC s) 39)).alloc (.cells (anC a) 49)).heap[w.heap.size]? = some (.cells (snC s) 39 (0, 0)) := ((Fr.box (w.alloc (.cells (snC s) 39)) _).block _ (by rw [hz]; omega) (fun f => f)).trans (heap_alloc_new w _)
  have k2 := heap_alloc_new (w.alloc (.cells (snC s) 39)) (.cells (anC a) 49)
  rw [hz] at k2
  have k3 := (f.block _ (blk_lt k1) (fun f => f)).trans k1
  have k4 := (f.block _ (blk_lt k2) (fun f => f)).trans k2
  exact ⟨(cell_blk k3 11).trans rfl, (cell_blk k4 0).trans rfl, (cell_blk k4 1).trans rfl, (cell_blk k4 2).trans rfl, (cell_blk k4 3).trans rfl, (cell_blk k4 4).trans rfl, (cell_blk k4 5).trans rfl⟩
/-- What rule 5 leaves. -/
def R5O (w : World) (S : Nat → Prop) (b : Nat) (W : Wt) (K : Nat) (s : Sn) (a : An) (e : Ending) (w' : World) : Prop := e = .returned (.bool (r5B W s a)) ∧ WnTo w S b (r5W W s a) (K + 1) w'
theorem r5_other {s : Sn} {a : An} {c : Md} (hq : W.calls a.req = some c) (h : ¬ (a.code = 1 ∧ rdB c.op = true)) : r5B W s a = true ∧ r5W W s a = W := by
  unfold r5B r5W; rw [hq]; dsimp only; rw [if_neg h, if_neg h]; exact ⟨rfl, rfl⟩
theorem r5_none {s : Sn} {a : An} {c : Md} (hq : W.calls a.req = some c) (h : a.code = 1 ∧ rdB c.op = true) (hn : r5A W s a c = none) : r5B W s a = false ∧ r5W W s a = W := by
  unfold r5B r5W; rw [hq]; dsimp only; rw [if_pos h, if_pos h, hn]; exact ⟨rfl, rfl⟩
theorem r5_some {s : Sn} {a : An} {c : Md} {n : Nat} (hq : W.calls a.req = some c) (h : a.code = 1 ∧ rdB c.op = true) (hn : r5A W s a c = some n) : r5B W s a = true ∧ r5W W s a = { W with floor := fupd W.floor a.node (some (n : Int)) } := by
  unfold r5B r5W; rw [hq]; dsimp only; rw [if_pos h, if_pos h, hn]; exact ⟨rfl, rfl⟩
set_option maxRecDepth 100000 in
set_option maxHeartbeats 8000000 in
theorem r5_wi (s : Sn) (a : An) (hx : wfK a.req) (hy : wfK a.node) (w : World) (hS : ∀ k, S k → k < w.heap.size) (hK : K ≤ 10000000) {c : Md} (hq : W.calls a.req = some c) (hR : Recs w s.ha s.hc s.H) (hn : s.H.length ≤ 100000) (hE : Ens w a.ea a.ec a.res.ents) (hok : c.op.key.size ≤ maxLen) (hov : c.op.val.size ≤ maxLen) (hsm : ∀ e ∈ a.res.ents, e.1.size ≤ maxLen) (h : Wi w S b W K m1 m2 oa oc ha hc P) : Calls Tryz.prog 32 #[.pointer (some ⟨b, 0, none⟩), snV s, anV a] w (R5O w S b W K s a) := by
  have f0 := (Fr.box w (.cells (snC s) 39)).seq' (Fr.box (w.alloc (.cells (snC s) 39)) (.cells (anC a) 49))
  have HD : Hid (∀ V, Fr (fun _ => False) w V → Wi V S b W K m1 m2 oa oc ha hc P) := fun V f => h.same f
  have HKP : Hid (∀ V, Fr (fun _ => False) w V → WnTo w S b W (K + 1) V) := fun V f => ⟨S, ⟨fun k hk => by have := hS k hk; have := f.size; omega, m1, m2, oa, oc, ha, hc, P, (h.same f).more (by omega)⟩, fun k hk => .inl hk, fun _ hk => hk, f.widen (fun _ f => f.elim)⟩
  have HBX : Hid (∀ V, Fr (fun _ => False) ((w.alloc (.cells (snC s) 39)).alloc (.cells (anC a) 49)) V → BxAt w V s a) := fun V f => bx_at w s a f
  have e1 := (h.same (f0.drew)).look1 hx
  rw [hq] at e1
  dsimp only [Option.map, Option.getD] at e1
  have hb : b < w.heap.size := blk_lt h.blk
  have hpl : P a.req < w.heap.size := blk_lt (h.made _ _ hq)
  obtain ⟨c0, c1, c2, c3, cz⟩ := four_cells (h.same f0).blk
  have HF : Hid (Fr (fun _ => False) w ((w.alloc (.cells (snC s) 39)).alloc (.cells (anC a) 49))) := f0
  have HMD : Hid (∀ V, Fr (fun _ => False) w V → V.heap[P a.req]? = some (.cells (mdC c) 62 (0, 0))) := fun V f => (h.same f).made _ _ hq
  have HQ : Hid (W.calls a.req = some c) := hq
  have hrd := isRead_any c.op
  have HAG : Hid (∀ V, Fr (fun _ => False) w V → Calls Tryz.prog 40 #[.slice s.ha s.H.length s.hc, .agg #[.int .i64 c.op.kind, .string c.op.key, .string c.op.val], .agg #[.bool a.res.found, .string a.res.val, .slice a.ea a.res.ents.length a.ec], .int .i64 ((W.floor a.node).getD 0)] V fun e w' => e = .returned (plV (r5A W s a c)) ∧ Fr (fun _ => False) V w') := fun V f => agrees_any s.ha s.H.length s.hc s.H rfl hn c.op hok hov a.res a.ea a.res.ents.length a.ec rfl hsm _ V (hR.same f) (hE.same f)
  clear h f0 hR hn hE hok hov hsm hq
  obtain ⟨p, hpp⟩ : ∃ p, p = P a.req := ⟨_, rfl⟩
  rw [← hpp] at e1 hpl HMD
  have HRO : Hid (∀ V, Fr (fun _ => False) w V → ¬ (a.code = 1 ∧ rdB c.op = true) → R5O w S b W K s a (.returned (.bool true)) V) := fun V f hh => by
    obtain ⟨q1, q2⟩ := r5_other (s := s) HQ.out hh
    exact ⟨by rw [q1], by rw [q2]; exact HKP.out V f⟩
  have HRN : Hid (∀ V, Fr (fun _ => False) w V → (a.code = 1 ∧ rdB c.op = true) → r5A W s a c = none → R5O w S b W K s a (.returned (.bool false)) V) := fun V f hh hn => by
    obtain ⟨q1, q2⟩ := r5_none (s := s) HQ.out hh hn
    exact ⟨by rw [q1], by rw [q2]; exact HKP.out V f⟩
  have HRS : Hid (∀ V, Fr (fun _ => False) w V → (a.code = 1 ∧ rdB c.op = true) → ∀ n, r5A W s a c = some n → ∃ w4, (Instr.mapUpdate 58 (.map (some m2)) (.int .i64 a.node) (.int .i64 (n : Int))).run Tryz.prog V = .ok () w4 ∧ R5O w S b W K s a (.returned (.bool true)) w4) := fun V f hh n hn => by
    obtain ⟨q1, q2⟩ := r5_some (s := s) HQ.out hh hn
    have hv := HD.out V f
    obtain ⟨n2, hn2, k2⟩ := hv.floors
    obtain ⟨w4, hst, k4, f4⟩ := k2.store Tryz.underlying58 (by omega) hy (.int .i64 (n : Int))
    refine ⟨w4, hst, by rw [q1], ?_⟩
    rw [q2]
    have q3 : Wi w4 S b { W with floor := fupd W.floor a.node (some (n : Int)) } (K + 1) m1 m2 oa oc ha hc P := hv.floored (v := some (n : Int)) (n := if ((W.floor a.node).map (fun v => Value.int .i64 v)).isSome = true then n2 else n2 + 1) (by split <;> omega) k4 f4
    exact ⟨S, ⟨fun k hk => by have := hS k hk; have := f.size; have := f4.size; omega, m1, m2, oa, oc, ha, hc, P, q3⟩, fun k hk => .inl hk, fun _ hk => hk, (f.widen (fun _ f => f.elim)).trans f4 (fun k _ e => by rw [e]; exact hv.om2)⟩
  have HFL : Hid (∀ V, Fr (fun _ => False) w V → (Instr.lookup 58 (.map (some m2)) (.int .i64 a.node) false).run Tryz.prog V = .ok (.int .i64 ((W.floor a.node).getD 0)) V) := fun V f => (HD.out V f).flook hy
  generalize (W.floor a.node).getD 0 = fl at *
  clear hpp HQ HKP hS
  obtain ⟨req, node, code, ⟨found, val, ents⟩, ea, ec⟩ := a
  obtain ⟨kind, snode, n, m, creq, cnode, ⟨ok, okey, oval⟩, ba, bn, bc, ans, aa, ac, H, sha, shc⟩ := s
  generalize hag : r5A W ⟨kind, snode, n, m, creq, cnode, ⟨ok, okey, oval⟩, ba, bn, bc, ans, aa, ac, H, sha, shc⟩ ⟨req, node, code, ⟨found, val, ents⟩, ea, ec⟩ c = ag at *
  have HBK : Hid (∀ V, Fr (fun _ => False) w V → ∃ h', V.heap[b]? = some (.cells #[.map (some m1), .slice oa W.order.length oc, .map (some m2), .slice ha h' hc] 60 (0, 0))) := fun V f => ⟨_, (HD.out V f).blk⟩
  obtain ⟨⟨ck, ckey, cval⟩, cn, ca, cr⟩ := c
  unfold anV snV BxAt at *
  unfold anC snC opA mdC at *
  dsimp only at *
  generalize hrb : rdB ⟨ck, ckey, cval⟩ = rb at *
  clear hag hrb HD
  go_enter Tryz.func32, Tryz.ntmps32
  go_upto_region 1 with fail
  go_cut [7] (fun r wc => r = .pointer (some ⟨p, 0, none⟩) ∧ wc = ((w.alloc (.cells #[.int .i64 kind, .int .i64 snode, .int .i64 n, .int .i64 m, .int .i64 creq, .int .i64 cnode, .int .i64 ok, .string okey, .string oval, .slice ba bn bc, .slice aa ans.length ac, .slice sha H.length shc] 39)).alloc (.cells #[.int .i64 req, .int .i64 node, .int .i64 code, .bool found, .string val, .slice ea ents.length ec] 49)).drew)
  case first =>
    go_region_law (fail)
    all_goals (go_wp2_with fail; go_meet; exact ⟨rfl, rfl⟩)
  case rest =>
  obtain ⟨rfl, rfl⟩ := hcut
  have F1 : Hid (Fr (fun _ => False) w ((w.alloc (.cells #[.int .i64 kind, .int .i64 snode, .int .i64 n, .int .i64 m, .int .i64 creq, .int .i64 cnode, .int .i64 ok, .string okey, .string oval, .slice ba bn bc, .slice aa ans.length ac, .slice sha H.length shc] 39)).alloc (.cells #[.int .i64 req, .int .i64 node, .int .i64 code, .bool found, .string val, .slice ea ents.length ec] 49)).drew) := HF.out.drew
  have F2 : Hid (Fr (fun _ => False) ((w.alloc (.cells #[.int .i64 kind, .int .i64 snode, .int .i64 n, .int .i64 m, .int .i64 creq, .int .i64 cnode, .int .i64 ok, .string okey, .string oval, .slice ba bn bc, .slice aa ans.length ac, .slice sha H.length shc] 39)).alloc (.cells #[.int .i64 req, .int .i64 node, .int .i64 code, .bool found, .string val, .slice ea ents.length ec] 49)) ((w.alloc (.cells #[.int .i64 kind, .int .i64 snode, .int .i64 n, .int .i64 m, .int .i64 creq, .int .i64 cnode, .int .i64 ok, .string okey, .string oval, .slice ba bn bc, .slice aa ans.length ac, .slice sha H.length shc] 39)).alloc (.cells #[.int .i64 req, .int .i64 node, .int .i64 code, .bool found, .string val, .slice ea ents.length ec] 49)).drew) := (Fr.refl _ _).drew
  obtain ⟨d0, d1, d2, d3, d4, d5, dz⟩ := six_cells (HMD.out _ F1.out)
  clear e1 c0 c1 c2 c3 cz dz
  by_cases hc1 : code = 1
  · subst hc1
    cases rb with
    | false =>
      have HRO2 := HRO.out
      go_wp2_with (go_at_call 39; refine (hrd _).mono ?_; rintro e w3 ⟨rfl, f3⟩)
      go_ret
      exact HRO2 _ (F1.out.seq' f3) (by simp)
    | true =>
      go_wp2_with fail
      refine (hrd _).mono ?_
      rintro e w3 ⟨rfl, f3⟩
      obtain ⟨x1, x2, x3, x4, x5, x6, x7⟩ := HBX.out w3 (F2.out.seq' f3)
      have F3 : Hid (Fr (fun _ => False) w w3) := F1.out.seq' f3
      have hag := HAG.out
      have F3d : Hid (Fr (fun _ => False) w w3.drew) := F3.out.drew
      have hfl := HFL.out _ F3d.out
      have hagc := hag _ F3d.out
      obtain ⟨h', hblk⟩ := HBK.out w3 F3.out
      obtain ⟨c0, c1, c2, c3, cz⟩ := four_cells hblk
      obtain ⟨d0, d1, d2, d3, d4, d5, dz⟩ := six_cells (HMD.out _ F3.out)
      clear hrd F2 hag
      dsimp only
      have F4 : Hid (Fr (fun _ => False) ((w.alloc (.cells #[.int .i64 kind, .int .i64 snode, .int .i64 n, .int .i64 m, .int .i64 creq, .int .i64 cnode, .int .i64 ok, .string okey, .string oval, .slice ba bn bc, .slice aa ans.length ac, .slice sha H.length shc] 39)).alloc (.cells #[.int .i64 req, .int .i64 node, .int .i64 1, .bool found, .string val, .slice ea ents.length ec] 49)) w3) := (Fr.drew (Fr.refl _ _)).seq' f3
      unfold plV at hagc
      go_upto_region 4 with fail
      go_cut [8, 9] (fun r t wc => r = .int .i64 ((ag.getD 0 : Nat) : Int) ∧ t = .bool ag.isSome ∧ Hid (Fr (fun _ => False) w wc) ∧ Hid (Fr (fun _ => False) ((w.alloc (.cells #[.int .i64 kind, .int .i64 snode, .int .i64 n, .int .i64 m, .int .i64 creq, .int .i64 cnode, .int .i64 ok, .string okey, .string oval, .slice ba bn bc, .slice aa ans.length ac, .slice sha H.length shc] 39)).alloc (.cells #[.int .i64 req, .int .i64 node, .int .i64 1, .bool found, .string val, .slice ea ents.length ec] 49)) wc))
      case first =>
        have HQQ : Hid (∀ W, Fr (fun _ => False) w3 W → (W.cell? ⟨w.heap.size, 11, none⟩ = some (.slice sha H.length shc) ∧ W.cell? ⟨p, 0, none⟩ = some (.int .i64 ck) ∧ W.cell? ⟨p, 1, none⟩ = some (.string ckey) ∧ W.cell? ⟨p, 2, none⟩ = some (.string cval) ∧ W.cell? ⟨w.heap.size + 1, 3, none⟩ = some (.bool found) ∧ W.cell? ⟨w.heap.size + 1, 4, none⟩ = some (.string val) ∧ W.cell? ⟨w.heap.size + 1, 5, none⟩ = some (.slice ea ents.length ec) ∧ W.cell? ⟨b, 2, none⟩ = some (.map (some m2)) ∧ W.cell? ⟨w.heap.size + 1, 1, none⟩ = some (.int .i64 node) ∧ (Instr.lookup 58 (.map (some m2)) (.int .i64 node) false).run Tryz.prog W = .ok (.int .i64 fl) W)) := fun W f => by
          obtain ⟨y1, y2, y3, y4, y5, y6, y7⟩ := HBX.out W (F4.out.seq' f)
          obtain ⟨t0, t1, t2, t3, t4, t5, _⟩ := six_cells (HMD.out W (F3.out.seq' f))
          obtain ⟨hh, hbb⟩ := HBK.out W (F3.out.seq' f)
          obtain ⟨_, _, s2, _, _⟩ := four_cells hbb
          exact ⟨y1, t0, t1, t2, y5, y6, y7, s2, y3, HFL.out W (F3.out.seq' f)⟩
        have q0 := HQQ.out w3.drew (Fr.drew (Fr.refl _ _))
        clear x1 x2 x3 x4 x5 x6 x7 d0 d1 d2 d3 d4 d5 dz c0 c1 c2 c3 cz hfl
        go_region_held3 (fun W => W.cell? ⟨w.heap.size, 11, none⟩ = some (.slice sha H.length shc) ∧ W.cell? ⟨p, 0, none⟩ = some (.int .i64 ck) ∧ W.cell? ⟨p, 1, none⟩ = some (.string ckey) ∧ W.cell? ⟨p, 2, none⟩ = some (.string cval) ∧ W.cell? ⟨w.heap.size + 1, 3, none⟩ = some (.bool found) ∧ W.cell? ⟨w.heap.size + 1, 4, none⟩ = some (.string val) ∧ W.cell? ⟨w.heap.size + 1, 5, none⟩ = some (.slice ea ents.length ec) ∧ W.cell? ⟨b, 2, none⟩ = some (.map (some m2)) ∧ W.cell? ⟨w.heap.size + 1, 1, none⟩ = some (.int .i64 node) ∧ (Instr.lookup 58 (.map (some m2)) (.int .i64 node) false).run Tryz.prog W = .ok (.int .i64 fl) W)
          (first | with_reducible exact q0 | with_reducible exact q1 | fail)
          ((go_at_call 40; refine hagc.mono ?_; rintro e w5 ⟨rfl, f5⟩; have q1 := HQQ.out w5 ((Fr.drew (Fr.refl _ _)).seq' f5)))
        all_goals (go_wp2_with fail; go_meet; exact ⟨rfl, rfl, F3d.out.seq' f5, (F4.out.drew).seq' f5⟩)
      case rest =>
      rename World => W5
      obtain ⟨rfl, rfl, G1, G2⟩ := hcut
      clear c0 c1 c2 c3 cz d0 d1 d2 d3 d4 d5 dz x1 x2 x3 x4 x5 x6 x7 hagc hfl hblk
      cases ag with
      | none =>
        have HF5 : Hid (R5O w S b W K ⟨kind, snode, n, m, creq, cnode, ⟨ok, okey, oval⟩, ba, bn, bc, ans, aa, ac, H, sha, shc⟩ ⟨req, node, 1, ⟨found, val, ents⟩, ea, ec⟩ (.returned (.bool false)) W5) := HRN.out _ G1.out (by simp) rfl
        go_wp2
        go_ret
        exact HF5.out
      | some k =>
        obtain ⟨w4, hst, hR5⟩ := HRS.out _ G1.out.drew (by simp) k rfl
        have HF5 : Hid (R5O w S b W K ⟨kind, snode, n, m, creq, cnode, ⟨ok, okey, oval⟩, ba, bn, bc, ans, aa, ac, H, sha, shc⟩ ⟨req, node, 1, ⟨found, val, ents⟩, ea, ec⟩ (.returned (.bool true)) w4) := hR5
        obtain ⟨h', hblk⟩ := HBK.out W5 G1.out
        obtain ⟨c0, c1, c2, c3, cz⟩ := four_cells hblk
        obtain ⟨x1, x2, x3, x4, x5, x6, x7⟩ := HBX.out W5 G2.out
        clear hR5 hblk
        go_wp2
        go_region_law (fail)
        all_goals go_wp2
        all_goals go_ret
        all_goals exact HF5.out
  · have e2 : (code == 1) = false := by simpa using hc1
    have e3 : (code != 1) = true := by simpa using hc1
    have HRO2 : Hid (R5O w S b W K ⟨kind, snode, n, m, creq, cnode, ⟨ok, okey, oval⟩, ba, bn, bc, ans, aa, ac, H, sha, shc⟩ ⟨req, node, code, ⟨found, val, ents⟩, ea, ec⟩ (.returned (.bool true)) ((w.alloc (.cells #[.int .i64 kind, .int .i64 snode, .int .i64 n, .int .i64 m, .int .i64 creq, .int .i64 cnode, .int .i64 ok, .string okey, .string oval, .slice ba bn bc, .slice aa ans.length ac, .slice sha H.length shc] 39)).alloc (.cells #[.int .i64 req, .int .i64 node, .int .i64 code, .bool found, .string val, .slice ea ents.length ec] 49)).drew) := HRO.out _ F1.out (fun hh => hc1 hh.1)
    clear hc1
    go_wp2
    go_ret
    exact HRO2.out
end
end Go.Proofs.YthdbkanbgfajbaaGreat
