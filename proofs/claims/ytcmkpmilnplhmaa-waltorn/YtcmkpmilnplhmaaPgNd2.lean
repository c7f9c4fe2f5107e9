
/- What the reader's node tells: the walk. -/
import Derived.Test.YtcmkpmilnplhmaaPgNd
namespace Go.Proofs.Ytcmkpmilnplhmaa
open Go.RowKit Crcm
attribute [local go_sem ↓] Go.wp_at_zero Go.wp_at_succ

theorem entL_leaf (c : Nat) (n : Nd) (s : RF) (t : ByteArray × RF) (u : ByteArray × RF) (ht : t = textF s 16) (hu : u = textF t.2 32) :
    entL true (c + 1) (n, s) = if u.2.2 = true then ({ n with keys := n.keys ++ [t.1], vals := n.vals ++ [u.1] }, u.2) else entL true c ({ n with keys := n.keys ++ [t.1], vals := n.vals ++ [u.1] }, u.2) := by
  subst ht; subst hu; simp only [entL, if_true]
theorem entL_inner (c : Nat) (n : Nd) (s : RF) (t : ByteArray × RF) (u : Int × RF) (ht : t = textF s 16) (hu : u = numF t.2 4) :
    entL false (c + 1) (n, s) = if u.2.2 = true then ({ n with keys := n.keys ++ [t.1], kids := n.kids ++ [u.1] }, u.2) else entL false c ({ n with keys := n.keys ++ [t.1], kids := n.kids ++ [u.1] }, u.2) := by
  subst ht; subst hu; simp only [entL]; rfl
theorem node_head (s : RF) (y1 y2 y3 y4 : Int × RF) (y5 : ByteArray × RF) (h1 : y1 = numF s 1) (h2 : y2 = numF y1.2 8) (h3 : y3 = numF y2.2 4) (h4 : y4 = numF y3.2 2) (h5 : y5 = textF y4.2 16) :
    nodeF s = if y1.1 = 0 then entL true y4.1.toNat (⟨y1.1, y2.1, y3.1, y5.1, [], [], []⟩, y5.2) else entL false y4.1.toNat (⟨y1.1, y2.1, y3.1, y5.1, [], [], [(numF y5.2 4).1]⟩, (numF y5.2 4).2) := by
  subst h1; subst h2; subst h3; subst h4; subst h5; rfl
theorem Near.trans {a b c : Option Addr} (h : Near a b) (k : Near b c) : Near a c := fun x off sp e => by
  obtain ⟨o, t, e2⟩ := k x off sp e
  exact h x o t e2

set_option maxRecDepth 100000 in
set_option maxHeartbeats 400000 in
theorem isLeaf_cells (lv : Int) (c1 c2 c3 c4 c5 c6 : Value) (w : World) : Calls Try.prog 61 #[.agg #[.int .i64 lv, c1, c2, c3, c4, c5, c6]] w fun e w' => e = .returned (.bool (lv == 0)) ∧ w' = w.alloc (.cells #[.int .i64 lv, c1, c2, c3, c4, c5, c6] 83) := by
  go_enter Try.func61, Try.ntmps61
  go_wp2
  go_ret
  exact ⟨rfl, rfl⟩

/-- The end: the node is handed back. -/
theorem Bd.done {w w' : World} {qb rb : Nat} {a : Option Addr} {cap : Nat} {s : RF} {n : Nd} {kv vv iv : Value} (h : Bd w w' (w.heap.size + 1) qb rb a cap s n kv vv iv) (sh : Short n) (hk : n.keys.length ≤ 70000) (hv : n.vals.length ≤ 70000) (hi : n.kids.length ≤ 70001) (W : World)
    (f : Fr (fun k => k = w.heap.size) w' W) :
    ∃ p : Pt, #[.int .i64 n.lev, .int .i64 n.lsn, .int .i64 n.rgt, .string n.high, kv, vv, iv] = #[.int .i64 n.lev, .int .i64 n.lsn, .int .i64 n.rgt, .string n.high, .slice p.k n.keys.length p.kc, .slice p.v n.vals.length p.vc, .slice p.i n.kids.length p.ic] ∧ Nod W n p ∧ (∀ b off, (p.k = some ⟨b, off, none⟩ ∨ p.v = some ⟨b, off, none⟩ ∨ p.i = some ⟨b, off, none⟩) → w.heap.size ≤ b) ∧ Rr W qb rb a cap s ∧ Fr (rrS qb rb) w W := by
  have hq := h.qlt
  have hr := h.rlt
  have hn := h.new
  obtain ⟨p, e1, e2, e3, nd⟩ := h.nod sh (by omega) (by omega) (by omega)
  have fa : ∀ v : Value, (∀ g, v.ownBlock = some g → w.heap.size + 1 < g) → ∀ b off, v = .slice (some ⟨b, off, none⟩) n.keys.length p.kc ∨ v = .slice (some ⟨b, off, none⟩) n.vals.length p.vc ∨ v = .slice (some ⟨b, off, none⟩) n.kids.length p.ic → b ≠ w.heap.size := fun v hv b off e e2 => by
    have hb : v.ownBlock = some b := by rcases e with e | e | e <;> rw [e] <;> rfl
    have := hv b hb; omega
  have far : (∀ b off, (p.k = some ⟨b, off, none⟩ ∨ p.v = some ⟨b, off, none⟩ ∨ p.i = some ⟨b, off, none⟩) → w.heap.size ≤ b) := fun b off e => by
    rcases e with e | e | e
    · have := h.ok b (by rw [e1, e]; rfl); omega
    · have := h.ov b (by rw [e2, e]; rfl); omega
    · have := h.oi b (by rw [e3, e]; rfl); omega
  refine ⟨p, by rw [e1, e2, e3], ⟨?_, ?_, ?_, nd.high, nd.ksz, nd.vsz, nd.klen, nd.vlen, nd.ilen⟩, far, h.rr.fr f (by omega) (by omega) (fun b off sp e => by have := h.alt b off sp e; omega), h.fr.trans f (fun i hi e => by omega)⟩
  · exact nd.keys.fr f (fun b hb e => by obtain ⟨o, e⟩ := e; exact fa kv h.ok b o (.inl (by rw [e1, e])))
  · exact nd.vals.fr f (fun b hb e => by obtain ⟨o, e⟩ := e; exact fa vv h.ov b o (.inr (.inl (by rw [e2, e]))))
  · refine ⟨nd.kids.le, nd.kids.max, ?_⟩
    rcases nd.kids.at_ with h0 | ⟨b, off, ha, hb, hc⟩
    · exact .inl h0
    · refine .inr ⟨b, off, ha, Nat.lt_of_lt_of_le hb f.size, fun i hi => ?_⟩
      rw [f.cell (p := ⟨b, off + i, none⟩) hb (fa iv h.oi b off (.inr (.inr (by rw [e3, ha]))))]
      exact hc i hi

/-- What node tells. -/
def NodeOut (w : World) (qb rb : Nat) (a : Option Addr) (s : RF) (e : Ending) (w' : World) : Prop :=
  ∃ p : Pt, e = .returned (.agg #[.int .i64 (nodeF s).1.lev, .int .i64 (nodeF s).1.lsn, .int .i64 (nodeF s).1.rgt, .string (nodeF s).1.high, .slice p.k (nodeF s).1.keys.length p.kc, .slice p.v (nodeF s).1.vals.length p.vc, .slice p.i (nodeF s).1.kids.length p.ic]) ∧ Nod w' (nodeF s).1 p ∧ (∀ b off, (p.k = some ⟨b, off, none⟩ ∨ p.v = some ⟨b, off, none⟩ ∨ p.i = some ⟨b, off, none⟩) → w.heap.size ≤ b) ∧ ∃ a' c', Rr w' qb rb a' c' (nodeF s).2 ∧ Fr (rrS qb rb) w w' ∧ Near a a'
theorem fin7 {W : World} {B : Nat} {t : TypeId} {r0 r1 r2 r3 r4 r5 r6 : Value} (h : W.heap[B]? = some (.cells #[r0, r1, r2, r3, r4, r5, r6] t (0, 0))) (v0 v1 v2 v3 v4 v5 v6 : Value) :
    (((((((W.setCell ⟨B, 0, none⟩ v0).setCell ⟨B, 1, none⟩ v1).setCell ⟨B, 2, none⟩ v2).setCell ⟨B, 3, none⟩ v3).setCell ⟨B, 4, none⟩ v4).setCell ⟨B, 5, none⟩ v5).setCell ⟨B, 6, none⟩ v6).heap[B]? = some (.cells #[v0, v1, v2, v3, v4, v5, v6] t (0, 0)) ∧
    Fr (fun k => k = B) W (((((((W.setCell ⟨B, 0, none⟩ v0).setCell ⟨B, 1, none⟩ v1).setCell ⟨B, 2, none⟩ v2).setCell ⟨B, 3, none⟩ v3).setCell ⟨B, 4, none⟩ v4).setCell ⟨B, 5, none⟩ v5).setCell ⟨B, 6, none⟩ v6) := by
  refine ⟨?_, ((((((((Fr.refl (fun k => k = B) W).setCell (p := ⟨B, 0, none⟩) (fun _ => rfl) v0).setCell (p := ⟨B, 1, none⟩) (fun _ => rfl) v1).setCell (p := ⟨B, 2, none⟩) (fun _ => rfl) v2).setCell (p := ⟨B, 3, none⟩) (fun _ => rfl) v3).setCell (p := ⟨B, 4, none⟩) (fun _ => rfl) v4).setCell (p := ⟨B, 5, none⟩) (fun _ => rfl) v5).setCell (p := ⟨B, 6, none⟩) (fun _ => rfl) v6)⟩
  rw [node_setCell (node_setCell (node_setCell (node_setCell (node_setCell (node_setCell (node_setCell h v0) v1) v2) v3) v4) v5) v6]
  rfl
theorem node_fin {w W : World} {qb rb : Nat} {a a' : Option Addr} {c' : Nat} {s s' : RF} {n : Nd} {kv vv iv : Value} (B : Bd w W (w.heap.size + 1) qb rb a' c' s' n kv vv iv) (sh : Short n) (hk : n.keys.length ≤ 70000) (hv : n.vals.length ≤ 70000) (hi : n.kids.length ≤ 70001) (na : Near a a') (hN : nodeF s = (n, s')) (ac : Act) (hd : ac.defers = []) (hs : ac.tmps.getD 2 undef = .pointer (some ⟨w.heap.size, 0, none⟩)) :
    bodyPost Try.prog Try.f54 (fun e w' => NodeOut w qb rb a s e w') Exit.ret ac
      (((((((W.setCell ⟨w.heap.size, 0, none⟩ (.int .i64 n.lev)).setCell ⟨w.heap.size, 1, none⟩ (.int .i64 n.lsn)).setCell ⟨w.heap.size, 2, none⟩ (.int .i64 n.rgt)).setCell ⟨w.heap.size, 3, none⟩ (.string n.high)).setCell ⟨w.heap.size, 4, none⟩ kv).setCell ⟨w.heap.size, 5, none⟩ vv).setCell ⟨w.heap.size, 6, none⟩ iv) := by
  obtain ⟨hb, ff⟩ := fin7 B.res (.int .i64 n.lev) (.int .i64 n.lsn) (.int .i64 n.rgt) (.string n.high) kv vv iv
  generalize (((((((W.setCell ⟨w.heap.size, 0, none⟩ (.int .i64 n.lev)).setCell ⟨w.heap.size, 1, none⟩ (.int .i64 n.lsn)).setCell ⟨w.heap.size, 2, none⟩ (.int .i64 n.rgt)).setCell ⟨w.heap.size, 3, none⟩ (.string n.high)).setCell ⟨w.heap.size, 4, none⟩ kv).setCell ⟨w.heap.size, 5, none⟩ vv).setCell ⟨w.heap.size, 6, none⟩ iv) = Wf at hb ff ⊢
  obtain ⟨⟨q0, q1, q2, q3, q4, q5, q6⟩, _⟩ := node_cells hb
  obtain ⟨p, ep, nd, far, rr, fr⟩ := B.done sh hk hv hi Wf ff
  have hs' : ac.tmps[2]?.getD undef = .pointer (some ⟨w.heap.size, 0, none⟩) := by simpa using hs
  refine bodyPost_ret (v := .agg #[.int .i64 n.lev, .int .i64 n.lsn, .int .i64 n.rgt, .string n.high, kv, vv, iv]) (by simp [results, Try.results54, go_sem, hs', q0, q1, q2, q3, q4, q5, q6]) hd ⟨p, ?_, ?_, far, a', c', ?_, fr, na⟩
  · rw [hN]; exact congrArg (fun c => Ending.returned (.agg c)) ep
  · rw [hN]; exact nd
  · rw [hN]; exact rr

set_option maxRecDepth 100000 in
set_option maxHeartbeats 4000000 in
theorem node_any (qb rb : Nat) (a : Option Addr) (cap : Nat) (s : RF) (w : World) (h : Rr w qb rb a cap s) (ha : ∀ b off sp, a = some ⟨b, off, sp⟩ → b < w.heap.size) :
    Calls Try.prog 54 #[.pointer (some ⟨qb, 0, none⟩)] w fun e w' => NodeOut w qb rb a s e w' := by
  have B0 := Bd.start w qb rb a cap s h ha
  obtain ⟨y1, h1⟩ : ∃ y, y = numF s 1 := ⟨_, rfl⟩
  obtain ⟨y2, h2⟩ : ∃ y, y = numF y1.2 8 := ⟨_, rfl⟩
  obtain ⟨y3, h3⟩ : ∃ y, y = numF y2.2 4 := ⟨_, rfl⟩
  obtain ⟨y4, h4⟩ : ∃ y, y = numF y3.2 2 := ⟨_, rfl⟩
  obtain ⟨y5, h5⟩ : ∃ y, y = textF y4.2 16 := ⟨_, rfl⟩
  have HN : Hid (nodeF s = if y1.1 = 0 then entL true y4.1.toNat (⟨y1.1, y2.1, y3.1, y5.1, [], [], []⟩, y5.2) else entL false y4.1.toNat (⟨y1.1, y2.1, y3.1, y5.1, [], [], [(numF y5.2 4).1]⟩, (numF y5.2 4).2)) := node_head s y1 y2 y3 y4 y5 h1 h2 h3 h4 h5
  have H1 : Hid (y1 = numF s 1) := h1
  have H2 : Hid (y2 = numF y1.2 8) := h2
  have H3 : Hid (y3 = numF y2.2 4) := h3
  have H4 : Hid (y4 = numF y3.2 2) := h4
  have H5 : Hid (y5 = textF y4.2 16) := h5
  clear h1 h2 h3 h4 h5
  go_enter Try.func54, Try.ntmps54
  go_wp2_with fail
  refine (pnum_any 1 qb rb a cap s _ B0.rr).mono ?_
  rw [← H1.out]
  rintro e w1 ⟨rfl, a1, c1, r1, f1, n1⟩
  have B1 := B0.goR r1 f1 n1
  obtain ⟨⟨k0, k1, k2, k3, k4, k5, k6⟩, fz⟩ := node_cells B1.box
  have fz0 := fz 0
  have B2 := B1.lev y1.1
  go_wp2_with fail
  refine (pnum_any 8 qb rb a1 c1 _ _ B2.rr).mono ?_
  rw [← H2.out]
  rintro e w2 ⟨rfl, a2, c2, r2, f2, n2⟩
  clear k0 k1 k2 k3 k4 k5 k6 fz fz0 B0 B1
  have B3 := B2.goR r2 f2 n2
  obtain ⟨⟨k0, k1, k2, k3, k4, k5, k6⟩, fz⟩ := node_cells B3.box
  have fz0 := fz 1
  have B4 := B3.lsn y2.1
  go_wp2_with fail
  refine (pnum_any 4 qb rb a2 c2 _ _ B4.rr).mono ?_
  rw [← H3.out]
  rintro e w3 ⟨rfl, a3, c3, r3, f3, n3⟩
  clear k0 k1 k2 k3 k4 k5 k6 fz fz0 B2 B3
  have B5 := B4.goR r3 f3 n3
  obtain ⟨⟨k0, k1, k2, k3, k4, k5, k6⟩, fz⟩ := node_cells B5.box
  have fz0 := fz 2
  have B6 := B5.rgt y3.1
  go_wp2_with fail
  refine (pnum_any 2 qb rb a3 c3 _ _ B6.rr).mono ?_
  rw [← H4.out]
  rintro e w4 ⟨rfl, a4, c4, r4, f4, n4⟩
  clear k0 k1 k2 k3 k4 k5 k6 fz fz0 B4 B5
  have B7 := B6.goR r4 f4 n4
  have hct : 0 ≤ y4.1 ∧ y4.1 ≤ 65535 := by rw [H4.out]; exact num2_le y3.2 B6.rr.rd.row.byte
  go_wp2_with fail
  refine (ptext_any 16 qb rb a4 c4 _ _ B7.rr).mono ?_
  rw [← H5.out]
  rintro e w5 ⟨rfl, a5, c5, r5, f5, n5⟩
  have B8 := B7.goR r5 f5 n5
  have hsh : y5.1.size ≤ 65535 := by rw [H5.out]; exact textF_size y4.2 16 B7.rr.rd.row.byte
  obtain ⟨⟨k0, k1, k2, k3, k4, k5, k6⟩, fz⟩ := node_cells B8.box
  have fz0 := fz 3
  have B9 := B8.high y5.1
  have na5 : Near a a5 := (((n1.trans n2).trans n3).trans n4).trans n5
  obtain ⟨W9, hW9⟩ : ∃ W, W = w5.setCell ⟨w.heap.size + 1, 3, none⟩ (.string y5.1) := ⟨_, rfl⟩
  rw [← hW9] at B9
  have HW9 : Hid (w5.setCell ⟨w.heap.size + 1, 3, none⟩ (.string y5.1) = W9) := hW9.symm
  clear hW9 B6 B7 B8 f1 f2 f3 f4 f5 r1 r2 r3 r4 r5 n1 n2 n3 n4 n5
  obtain ⟨ct, hctn⟩ := Int.eq_ofNat_of_zero_le hct.1
  have hct2 : ct ≤ 65535 := by omega
  have HCT : Hid (y4.1.toNat = ct) := by show _ = _; omega
  by_cases l0 : y1.1 = 0
  · have HNL : Hid (nodeF s = entL true ct (⟨y1.1, y2.1, y3.1, y5.1, [], [], []⟩, y5.2)) := by show _ = _; rw [HN.out, if_pos l0, HCT.out]
    have e0 : (y1.1 == 0) = true := by simp [l0]
    clear l0 HN
    go_wp2_with fail
    rw [HW9.out]
    refine (isLeaf_any ⟨y1.1, y2.1, y3.1, y5.1, [], [], []⟩ ⟨none, 0, none, 0, none, 0⟩ _).mono ?_
    rintro e w6 ⟨rfl, hw6⟩
    have B10 := B9.same (w' := w6) (by rw [hw6]; exact Fr.box _ _)
    clear hw6 B9 k0 k1 k2 k3 k4 k5 k6 fz fz0
    go_wp2
    go_loopw [30] (fun i wr => ∃ (k : Nat) (n : Nd) (s' : RF) (a' : Option Addr) (c' : Nat) (kv vv iv : Value), k ≤ ct ∧ i = .int .i64 k ∧ Bd w wr (w.heap.size + 1) qb rb a' c' s' n kv vv iv ∧ Hid (n.keys.length = k ∧ n.vals.length = k ∧ n.kids.length = 0 ∧ n.lev = y1.1) ∧ Short n ∧ Near a a' ∧ Hid (nodeF s = entL true (ct - k) (n, s'))) (fun i _ => ct - (intOf i).toNat)
    case atStart => exact ⟨0, _, _, _, _, _, _, _, by omega, rfl, B10, ⟨rfl, rfl, rfl, rfl⟩, ⟨hsh, (fun s hs => by cases hs), (fun s hs => by cases hs)⟩, na5, by show _ = _; rw [HNL.out, Nat.sub_zero]⟩
    case round =>
      obtain ⟨k, n, s', a', c', kv, vv, iv, hk, rfl, B, HK, sh, na, HE⟩ := hrel
      clear B10
      obtain ⟨⟨k0, k1, k2, k3, k4, k5, k6⟩, fz⟩ := node_cells B.box
      by_cases hlt : k < ct
      · obtain ⟨t, ht⟩ : ∃ t, t = textF s' 16 := ⟨_, rfl⟩
        have HT : Hid (t = textF s' 16) := ht
        obtain ⟨u, hu⟩ : ∃ u, u = textF t.2 32 := ⟨_, rfl⟩
        have HU : Hid (u = textF t.2 32) := hu
        have HE2 : Hid (nodeF s = if u.2.2 = true then ({ n with keys := n.keys ++ [t.1], vals := n.vals ++ [u.1] }, u.2) else entL true (ct - (k + 1)) ({ n with keys := n.keys ++ [t.1], vals := n.vals ++ [u.1] }, u.2)) := by
          show _ = _
          rw [HE.out, show ct - k = ct - (k + 1) + 1 by omega, entL_leaf _ n s' t u ht hu]
        have ht5 : t.1.size ≤ 65535 := by rw [ht]; exact textF_size s' 16 B.rr.rd.row.byte
        have HL1 : Hid (n.keys.length ≤ 100000) := by show _ ≤ _; have := HK.out.1; omega
        have HL2 : Hid (n.vals.length ≤ 100000) := by show _ ≤ _; have := HK.out.2.1; omega
        clear ht hu HE
        have Bd0 := B.same (Fr.refl (fun _ => False) wr).drew
        go_wp2_with fail
        go_region_law
          (first
            | (show (if Region.wanted { dst := _, op := .call { callee := .value (.func 60), args := _, argTypes := _ }, type := _, pos := _, after := _, guard := _ } _ = true then _ else _); refine step_of (by rfl) (wp_text (.tmp 34) (.const (.int .i64 16)) _ (by rfl) (by rfl) (by rfl) ?_); rw [Oper.upon_enter]; refine (ptext_any 16 qb rb a' c' s' _ Bd0.rr).mono ?_; rw [← HT.out]; rintro e w7 ⟨rfl, a7, c7, r7, f7, n7⟩; have B7 := Bd0.goR r7 f7 n7; obtain ⟨a8, c8, w8, hap, q8, z8, B8⟩ := B7.key t.1 HL1.out; obtain ⟨⟨p0, p1, p2, p3, p4, p5, p6⟩, pz⟩ := node_cells B7.box; obtain ⟨⟨p0', p1', p2', p3', p4', p5', p6'⟩, pz'⟩ := node_cells (B7.same (Fr.box w7 (.cells #[.string t.1] 9))).box)
            | (show (if Region.wanted { dst := _, op := .call { callee := .builtin .append, args := _, argTypes := _ }, type := _, pos := _, after := _, guard := _ } _ = true then _ else _); refine step_of (by rfl) (wp_append_run (.tmp 33) (.tmp 36) 81 81 (by rfl) (by rfl) (by rfl) hap ?_)))
        all_goals
          obtain ⟨W8, hW8⟩ : ∃ W, W = w8.setCell ⟨w.heap.size + 1, 4, none⟩ (.slice a8 (n.keys.length + 1) c8) := ⟨_, rfl⟩
          rw [← hW8] at B8 ⊢
          have na8 := na.trans n7
          clear hW8 hap q8 z8 p0 p1 p2 p3 p4 p5 p6 pz p0' p1' p2' p3' p4' p5' p6' pz' B7 Bd0 r7 f7 n7 B k0 k1 k2 k3 k4 k5 k6 fz
          obtain ⟨⟨k0, k1, k2, k3, k4, k5, k6⟩, fz⟩ := node_cells B8.box
          simp only at k0 k1 k2 k3
          have el : (n.lev == 0) = true := by rw [HK.out.2.2.2]; exact e0
          have hu5 : u.1.size ≤ 65535 := by rw [HU.out]; exact textF_size t.2 32 B8.rr.rd.row.byte
          go_wp2_with fail
          refine (isLeaf_cells _ _ _ _ _ _ _ _).mono ?_
          rintro e w9 ⟨rfl, hw9⟩
          have B9 := B8.same (w' := w9) (by rw [hw9]; exact Fr.box _ _)
          clear hw9 B8 k0 k1 k2 k3 k4 k5 k6 fz
          obtain ⟨⟨k0, k1, k2, k3, k4, k5, k6⟩, fz⟩ := node_cells B9.box
          simp only at k0 k1 k2 k3
          have Bd9 := B9.same (Fr.refl (fun _ => False) w9).drew
          go_wp2_with fail
          go_region_law
            (first
              | (show (if Region.wanted { dst := _, op := .call { callee := .value (.func 60), args := _, argTypes := _ }, type := _, pos := _, after := _, guard := _ } _ = true then _ else _); refine step_of (by rfl) (wp_text (.tmp 43) (.const (.int .i64 32)) _ (by rfl) (by rfl) (by rfl) ?_); rw [Oper.upon_enter]; refine (ptext_any 32 qb rb a7 c7 t.2 _ Bd9.rr).mono ?_; rw [← HU.out]; rintro e w10 ⟨rfl, a10, c10, r10, f10, n10⟩; have B10 := Bd9.goR r10 f10 n10; obtain ⟨a11, c11, w11, hap, q11, z11, B11⟩ := B10.val u.1 HL2.out; obtain ⟨⟨p0, p1, p2, p3, p4, p5, p6⟩, pz⟩ := node_cells B10.box; obtain ⟨⟨p0', p1', p2', p3', p4', p5', p6'⟩, pz'⟩ := node_cells (B10.same (Fr.box w10 (.cells #[.string u.1] 9))).box)
              | (show (if Region.wanted { dst := _, op := .call { callee := .builtin .append, args := _, argTypes := _ }, type := _, pos := _, after := _, guard := _ } _ = true then _ else _); refine step_of (by rfl) (wp_append_run (.tmp 42) (.tmp 45) 81 81 (by rfl) (by rfl) (by rfl) hap ?_)))
          all_goals
            obtain ⟨W11, hW11⟩ : ∃ W, W = w11.setCell ⟨w.heap.size + 1, 5, none⟩ (.slice a11 (n.vals.length + 1) c11) := ⟨_, rfl⟩
            simp only at B11
            rw [← hW11] at B11 ⊢
            have na11 := na8.trans n10
            clear hW11 hap q11 z11 p0 p1 p2 p3 p4 p5 p6 pz p0' p1' p2' p3' p4' p5' p6' pz' B10 Bd9 B9 r10 f10 n10 k0 k1 k2 k3 k4 k5 k6 fz
            obtain ⟨g0, g1, _, _⟩ := cell_of_two B11.rr.box
            have sh11 : Short { n with keys := n.keys ++ [t.1], vals := n.vals ++ [u.1] } := ⟨sh.high, mem_snoc sh.keys ht5, mem_snoc sh.vals hu5⟩
            by_cases hfl : u.2.2 = true
            · rw [hfl] at g1
              have HE3 : Hid (nodeF s = ({ n with keys := n.keys ++ [t.1], vals := n.vals ++ [u.1] }, u.2)) := by show _ = _; rw [HE2.out, if_pos hfl]
              clear hfl
              obtain ⟨⟨k0, k1, k2, k3, k4, k5, k6⟩, fz⟩ := node_cells B11.box
              obtain ⟨⟨r0, r1, r2, r3, r4, r5, r6⟩, rz⟩ := node_cells B11.res
              have z0 := rz 0; have z1 := rz 1; have z2 := rz 2; have z3 := rz 3; have z4 := rz 4; have z5 := rz 5; have z6 := rz 6
              obtain ⟨ai, ci, rfl, _, _⟩ := B11.kids.slice
              simp only at k0 k1 k2 k3
              go_wp2
              refine node_fin B11 sh11 (by have := HK.out.1; simp; omega) (by have := HK.out.2.1; simp; omega) (by have := HK.out.2.2.1; simp; omega) na11 HE3.out _ ?_ ?_ <;> rfl
            · have hfl' : u.2.2 = false := by simpa using hfl
              rw [hfl'] at g1
              have HE3 : Hid (nodeF s = entL true (ct - (k + 1)) ({ n with keys := n.keys ++ [t.1], vals := n.vals ++ [u.1] }, u.2)) := by show _ = _; rw [HE2.out, if_neg hfl]
              clear hfl hfl'
              go_wp2
              go_roundw
              case rel => exact ⟨k + 1, _, _, _, _, _, _, _, by omega, by go_num, B11, ⟨by have := HK.out.1; simp; omega, by have := HK.out.2.1; simp; omega, HK.out.2.2.1, HK.out.2.2.2⟩, sh11, na11, HE3⟩
              case measure => simp [intOf]; omega
      · have HE3 : Hid (nodeF s = (n, s')) := by show _ = _; rw [HE.out, show ct - k = 0 by omega]; rfl
        obtain ⟨⟨r0, r1, r2, r3, r4, r5, r6⟩, rz⟩ := node_cells B.res
        have z0 := rz 0; have z1 := rz 1; have z2 := rz 2; have z3 := rz 3; have z4 := rz 4; have z5 := rz 5; have z6 := rz 6
        obtain ⟨ak, ck, rfl, _, _⟩ := B.keys.slice
        obtain ⟨av, cv, rfl, _, _⟩ := B.vals.slice
        obtain ⟨ai, ci, rfl, _, _⟩ := B.kids.slice
        go_wp2
        refine node_fin B sh (by have := HK.out.1; omega) (by have := HK.out.2.1; omega) (by have := HK.out.2.2.1; omega) na HE3.out _ ?_ ?_ <;> rfl
  · obtain ⟨y6, h6⟩ : ∃ y, y = numF y5.2 4 := ⟨_, rfl⟩
    have HNL : Hid (nodeF s = entL false ct (⟨y1.1, y2.1, y3.1, y5.1, [], [], [y6.1]⟩, y6.2)) := by show _ = _; rw [HN.out, if_neg l0, HCT.out, h6]
    have H6 : Hid (y6 = numF y5.2 4) := h6
    have e0 : (y1.1 == 0) = false := by simpa using l0
    clear l0 HN h6
    go_wp2_with fail
    rw [HW9.out]
    refine (isLeaf_any ⟨y1.1, y2.1, y3.1, y5.1, [], [], []⟩ ⟨none, 0, none, 0, none, 0⟩ _).mono ?_
    rintro e w6 ⟨rfl, hw6⟩
    have B9' := B9.same (w' := w6) (by rw [hw6]; exact Fr.box _ _)
    clear hw6 B9 k0 k1 k2 k3 k4 k5 k6 fz fz0
    obtain ⟨⟨k0, k1, k2, k3, k4, k5, k6⟩, fz⟩ := node_cells B9'.box
    simp only at k0 k1 k2 k3
    have Bd0 := B9'.same (Fr.refl (fun _ => False) w6).drew
    go_wp2_with fail
    go_region_law
      (first
        | (show (if Region.wanted { dst := _, op := .call { callee := .value (.func 59), args := _, argTypes := _ }, type := _, pos := _, after := _, guard := _ } _ = true then _ else _); refine step_of (by rfl) (wp_num (.tmp 24) (.const (.int .i64 4)) _ (by rfl) (by rfl) (by rfl) ?_); rw [Oper.upon_enter]; refine (pnum_any 4 qb rb a5 c5 y5.2 _ Bd0.rr).mono ?_; rw [← H6.out]; rintro e w7 ⟨rfl, a7, c7, r7, f7, n7⟩; have B7 := Bd0.goR r7 f7 n7; obtain ⟨a8, c8, w8, hap, q8, z8, B8⟩ := B7.kid y6.1 (Nat.zero_le _); obtain ⟨⟨p0, p1, p2, p3, p4, p5, p6⟩, pz⟩ := node_cells B7.box; obtain ⟨⟨p0', p1', p2', p3', p4', p5', p6'⟩, pz'⟩ := node_cells (B7.same (Fr.box w7 (.cells #[.int .i64 y6.1] 3))).box)
        | (show (if Region.wanted { dst := _, op := .call { callee := .builtin .append, args := _, argTypes := _ }, type := _, pos := _, after := _, guard := _ } _ = true then _ else _); refine step_of (by rfl) (wp_append_run (.tmp 23) (.tmp 26) 26 26 (by rfl) (by rfl) (by rfl) hap ?_)))
    all_goals
      simp only [List.length_nil, Nat.zero_add, List.nil_append] at B8 q8 hap ⊢
      obtain ⟨W10, hW10⟩ : ∃ W, W = w8.setCell ⟨w.heap.size + 1, 6, none⟩ (.slice a8 1 c8) := ⟨_, rfl⟩
      rw [← hW10] at B8 ⊢
      have na5' := na5.trans n7
      have B10 := B8
      clear hW10 hap q8 z8 p0 p1 p2 p3 p4 p5 p6 pz p0' p1' p2' p3' p4' p5' p6' pz' B7 Bd0 r7 f7 n7 B8 B9' k0 k1 k2 k3 k4 k5 k6 fz
      go_wp2
      go_loopw [30] (fun i wr => ∃ (k : Nat) (n : Nd) (s' : RF) (a' : Option Addr) (c' : Nat) (kv vv iv : Value), k ≤ ct ∧ i = .int .i64 k ∧ Bd w wr (w.heap.size + 1) qb rb a' c' s' n kv vv iv ∧ Hid (n.keys.length = k ∧ n.vals.length = 0 ∧ n.kids.length = k + 1 ∧ n.lev = y1.1) ∧ Short n ∧ Near a a' ∧ Hid (nodeF s = entL false (ct - k) (n, s'))) (fun i _ => ct - (intOf i).toNat)
      case atStart => exact ⟨0, _, _, _, _, _, _, _, by omega, rfl, B10, ⟨rfl, rfl, rfl, rfl⟩, ⟨hsh, (fun s hs => by cases hs), (fun s hs => by cases hs)⟩, na5', by show _ = _; rw [HNL.out, Nat.sub_zero]⟩
      case round =>
        obtain ⟨k, n, s', a', c', kv, vv, iv, hk, rfl, B, HK, sh, na, HE⟩ := hrel
        clear B10
        obtain ⟨⟨k0, k1, k2, k3, k4, k5, k6⟩, fz⟩ := node_cells B.box
        by_cases hlt : k < ct
        · obtain ⟨t, ht⟩ : ∃ t, t = textF s' 16 := ⟨_, rfl⟩
          have HT : Hid (t = textF s' 16) := ht
          obtain ⟨u, hu⟩ : ∃ u, u = numF t.2 4 := ⟨_, rfl⟩
          have HU : Hid (u = numF t.2 4) := hu
          have HE2 : Hid (nodeF s = if u.2.2 = true then ({ n with keys := n.keys ++ [t.1], kids := n.kids ++ [u.1] }, u.2) else entL false (ct - (k + 1)) ({ n with keys := n.keys ++ [t.1], kids := n.kids ++ [u.1] }, u.2)) := by
            show _ = _
            rw [HE.out, show ct - k = ct - (k + 1) + 1 by omega, entL_inner _ n s' t u ht hu]
          have ht5 : t.1.size ≤ 65535 := by rw [ht]; exact textF_size s' 16 B.rr.rd.row.byte
          have HL1 : Hid (n.keys.length ≤ 100000) := by show _ ≤ _; have := HK.out.1; omega
          have HL2 : Hid (n.kids.length ≤ 100000) := by show _ ≤ _; have := HK.out.2.2.1; omega
          clear ht hu HE
          have Bd0 := B.same (Fr.refl (fun _ => False) wr).drew
          go_wp2_with fail
          go_region_law
            (first
              | (show (if Region.wanted { dst := _, op := .call { callee := .value (.func 60), args := _, argTypes := _ }, type := _, pos := _, after := _, guard := _ } _ = true then _ else _); refine step_of (by rfl) (wp_text (.tmp 34) (.const (.int .i64 16)) _ (by rfl) (by rfl) (by rfl) ?_); rw [Oper.upon_enter]; refine (ptext_any 16 qb rb a' c' s' _ Bd0.rr).mono ?_; rw [← HT.out]; rintro e w7 ⟨rfl, a7, c7, r7, f7, n7⟩; have B7 := Bd0.goR r7 f7 n7; obtain ⟨a8, c8, w8, hap, q8, z8, B8⟩ := B7.key t.1 HL1.out; obtain ⟨⟨p0, p1, p2, p3, p4, p5, p6⟩, pz⟩ := node_cells B7.box; obtain ⟨⟨p0', p1', p2', p3', p4', p5', p6'⟩, pz'⟩ := node_cells (B7.same (Fr.box w7 (.cells #[.string t.1] 9))).box)
              | (show (if Region.wanted { dst := _, op := .call { callee := .builtin .append, args := _, argTypes := _ }, type := _, pos := _, after := _, guard := _ } _ = true then _ else _); refine step_of (by rfl) (wp_append_run (.tmp 33) (.tmp 36) 81 81 (by rfl) (by rfl) (by rfl) hap ?_)))
          all_goals
            obtain ⟨W8, hW8⟩ : ∃ W, W = w8.setCell ⟨w.heap.size + 1, 4, none⟩ (.slice a8 (n.keys.length + 1) c8) := ⟨_, rfl⟩
            rw [← hW8] at B8 ⊢
            have na8 := na.trans n7
            clear hW8 hap q8 z8 p0 p1 p2 p3 p4 p5 p6 pz p0' p1' p2' p3' p4' p5' p6' pz' B7 Bd0 r7 f7 n7 B k0 k1 k2 k3 k4 k5 k6 fz
            obtain ⟨⟨k0, k1, k2, k3, k4, k5, k6⟩, fz⟩ := node_cells B8.box
            simp only at k0 k1 k2 k3
            have el : (n.lev == 0) = false := by rw [HK.out.2.2.2]; exact e0
            go_wp2_with fail
            refine (isLeaf_cells _ _ _ _ _ _ _ _).mono ?_
            rintro e w9 ⟨rfl, hw9⟩
            have B9 := B8.same (w' := w9) (by rw [hw9]; exact Fr.box _ _)
            clear hw9 B8 k0 k1 k2 k3 k4 k5 k6 fz
            obtain ⟨⟨k0, k1, k2, k3, k4, k5, k6⟩, fz⟩ := node_cells B9.box
            simp only at k0 k1 k2 k3
            have Bd9 := B9.same (Fr.refl (fun _ => False) w9).drew
            go_wp2_with fail
            go_region_law
              (first
                | (show (if Region.wanted { dst := _, op := .call { callee := .value (.func 59), args := _, argTypes := _ }, type := _, pos := _, after := _, guard := _ } _ = true then _ else _); refine step_of (by rfl) (wp_num (.tmp 50) (.const (.int .i64 4)) _ (by rfl) (by rfl) (by rfl) ?_); rw [Oper.upon_enter]; refine (pnum_any 4 qb rb a7 c7 t.2 _ Bd9.rr).mono ?_; rw [← HU.out]; rintro e w10 ⟨rfl, a10, c10, r10, f10, n10⟩; have B10 := Bd9.goR r10 f10 n10; obtain ⟨a11, c11, w11, hap, q11, z11, B11⟩ := B10.kid u.1 HL2.out; obtain ⟨⟨p0, p1, p2, p3, p4, p5, p6⟩, pz⟩ := node_cells B10.box; obtain ⟨⟨p0', p1', p2', p3', p4', p5', p6'⟩, pz'⟩ := node_cells (B10.same (Fr.box w10 (.cells #[.int .i64 u.1] 3))).box)
                | (show (if Region.wanted { dst := _, op := .call { callee := .builtin .append, args := _, argTypes := _ }, type := _, pos := _, after := _, guard := _ } _ = true then _ else _); refine step_of (by rfl) (wp_append_run (.tmp 49) (.tmp 52) 26 26 (by rfl) (by rfl) (by rfl) hap ?_)))
            all_goals
              obtain ⟨W11, hW11⟩ : ∃ W, W = w11.setCell ⟨w.heap.size + 1, 6, none⟩ (.slice a11 (n.kids.length + 1) c11) := ⟨_, rfl⟩
              simp only at B11
              rw [← hW11] at B11 ⊢
              have na11 := na8.trans n10
              clear hW11 hap q11 z11 p0 p1 p2 p3 p4 p5 p6 pz p0' p1' p2' p3' p4' p5' p6' pz' B10 Bd9 B9 r10 f10 n10 k0 k1 k2 k3 k4 k5 k6 fz
              obtain ⟨g0, g1, _, _⟩ := cell_of_two B11.rr.box
              have sh11 : Short { n with keys := n.keys ++ [t.1], kids := n.kids ++ [u.1] } := ⟨sh.high, mem_snoc sh.keys ht5, sh.vals⟩
              by_cases hfl : u.2.2 = true
              · rw [hfl] at g1
                have HE3 : Hid (nodeF s = ({ n with keys := n.keys ++ [t.1], kids := n.kids ++ [u.1] }, u.2)) := by show _ = _; rw [HE2.out, if_pos hfl]
                clear hfl
                obtain ⟨⟨k0, k1, k2, k3, k4, k5, k6⟩, fz⟩ := node_cells B11.box
                obtain ⟨⟨r0, r1, r2, r3, r4, r5, r6⟩, rz⟩ := node_cells B11.res
                have z0 := rz 0; have z1 := rz 1; have z2 := rz 2; have z3 := rz 3; have z4 := rz 4; have z5 := rz 5; have z6 := rz 6
                obtain ⟨av, cv, rfl, _, _⟩ := B11.vals.slice
                simp only at k0 k1 k2 k3
                go_wp2
                refine node_fin B11 sh11 (by have := HK.out.1; simp; omega) (by have := HK.out.2.1; simp; omega) (by have := HK.out.2.2.1; simp; omega) na11 HE3.out _ ?_ ?_ <;> rfl
              · have hfl' : u.2.2 = false := by simpa using hfl
                rw [hfl'] at g1
                have HE3 : Hid (nodeF s = entL false (ct - (k + 1)) ({ n with keys := n.keys ++ [t.1], kids := n.kids ++ [u.1] }, u.2)) := by show _ = _; rw [HE2.out, if_neg hfl]
                clear hfl hfl'
                go_wp2
                go_roundw
                case rel => exact ⟨k + 1, _, _, _, _, _, _, _, by omega, by go_num, B11, ⟨by have := HK.out.1; simp; omega, HK.out.2.1, by have := HK.out.2.2.1; simp; omega, HK.out.2.2.2⟩, sh11, na11, HE3⟩
                case measure => simp [intOf]; omega
        · have HE3 : Hid (nodeF s = (n, s')) := by show _ = _; rw [HE.out, show ct - k = 0 by omega]; rfl
          obtain ⟨⟨r0, r1, r2, r3, r4, r5, r6⟩, rz⟩ := node_cells B.res
          have z0 := rz 0; have z1 := rz 1; have z2 := rz 2; have z3 := rz 3; have z4 := rz 4; have z5 := rz 5; have z6 := rz 6
          obtain ⟨ak, ck, rfl, _, _⟩ := B.keys.slice
          obtain ⟨av, cv, rfl, _, _⟩ := B.vals.slice
          obtain ⟨ai, ci, rfl, _, _⟩ := B.kids.slice
          go_wp2
          refine node_fin B sh (by have := HK.out.1; omega) (by have := HK.out.2.1; omega) (by have := HK.out.2.2.1; omega) na HE3.out _ ?_ ?_ <;> rfl
end Go.Proofs.Ytcmkpmilnplhmaa
