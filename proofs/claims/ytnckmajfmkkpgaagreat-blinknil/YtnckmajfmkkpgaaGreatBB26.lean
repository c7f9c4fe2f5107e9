
/- NdPut, NdPart3. -/
import Derived.Test.YtnckmajfmkkpgaaGreatBB25
import Derived.Test.YtnckmajfmkkpgaaGreatBB21
/- What Put makes. -/
namespace Go.Proofs.YtnckmajfmkkpgaaGreat
open Go.RowKit

/-- A node with a key's value. -/
def putN (n : Nd) (k v : ByteArray) : Nd := ⟨n.lev, n.lsn, n.rgt, n.high, insAll (plc (bsOf k) n.keys).2 (plc (bsOf k) n.keys).1 k n.keys, insAll (plc (bsOf k) n.keys).2 (plc (bsOf k) n.keys).1 v n.vals, []⟩
def putE (n : Nd) (k v : ByteArray) : Int := if askE n k (evalu v.size : Nat) 0 1 = 0 then fitE (putN n k v) else askE n k (evalu v.size : Nat) 0 1
theorem evalu_le {m : Nat} (h : (evalu m : Nat) = 0) : m ≤ 32 := by
  unfold evalu at h
  by_cases e : 32 < m
  · rw [if_pos e] at h; omega
  · omega
theorem getD_lt {α : Type} (l : List α) (i : Nat) (d : α) (h : i < l.length) : l.getD i d = l[i] := by rw [List.getD_eq_getElem?_getD, List.getElem?_eq_getElem h]; rfl
theorem putN_hit {n : Nd} {k v : ByteArray} {i : Nat} (r : Rt n) (h0 : n.lev = 0) (hi : i < n.keys.length) (he : bsOf (n.keys.getD i ByteArray.empty) = bsOf k) (hf : plc (bsOf k) n.keys = (i, true)) : putN n k v = { n with vals := n.vals.set i v } := by
  have hi0 : n.kids = [] := List.eq_nil_of_length_eq_zero (r.leaf h0).2.1
  have hvl := (r.leaf h0).1
  have e : n.keys.set i k = n.keys := by
    have := bs_inj he
    rw [getD_lt _ _ _ hi] at this
    rw [← this, List.set_getElem_self]
  unfold putN
  rw [hf, insAll_set _ _ _ hi, insAll_set _ _ _ (by omega), e, ← hi0]
theorem putN_miss {n : Nd} {k v : ByteArray} {i : Nat} (r : Rt n) (h0 : n.lev = 0) (hf : plc (bsOf k) n.keys = (i, false)) : putN n k v = { n with keys := insAll false i k n.keys, vals := insAll false i v n.vals } := by
  have hi0 : n.kids = [] := List.eq_nil_of_length_eq_zero (r.leaf h0).2.1
  unfold putN
  rw [hf, ← hi0]
theorem insAll_len {α : Type} (i : Nat) (x : α) (l : List α) (h : i ≤ l.length) : (insAll false i x l).length = l.length + 1 := by
  unfold insAll; simp; omega
theorem ins_strs (i : Nat) (x : ByteArray) (l : List ByteArray) : strCells (insAll false i x l) = (strCells l).take i ++ .string x :: (strCells l).drop i := by
  unfold insAll strCells; simp
theorem ins_ints (i : Nat) (x : Int) (l : List Int) : intCells (insAll false i x l) = (intCells l).take i ++ .int .i64 x :: (intCells l).drop i := by
  unfold insAll intCells; simp
theorem By.nw {w0 w : World} {b : Nat} {n : Nd} {p : Pt} (h : By w0 w b n (.slice p.k n.keys.length p.kc) (.slice p.v n.vals.length p.vc) (.slice p.i n.kids.length p.ic)) (W : World) (hb : W.heap.size ≤ b) : Nw W p := fun c off hx => by
  rcases hx with hx | hx | hx
  · have := h.ok2 c (by rw [hx]; rfl); omega
  · have := h.ov2 c (by rw [hx]; rfl); omega
  · have := h.oi2 c (by rw [hx]; rfl); omega
theorem hid_nw {w : World} {p q : Pt} (h : Hid (Nw w p)) (hq : q = p ∨ q = zp) : Hid (Nw w q) := by
  rcases hq with rfl | rfl
  · exact h
  · exact zp_nw w
theorem By.far {w0 w : World} {b : Nat} {n : Nd} {p : Pt} (h : By w0 w b n (.slice p.k n.keys.length p.kc) (.slice p.v n.vals.length p.vc) (.slice p.i n.kids.length p.ic)) : ∀ c off, (p.k = some ⟨c, off, none⟩ ∨ p.v = some ⟨c, off, none⟩ ∨ p.i = some ⟨c, off, none⟩) → c ≠ b + 1 := fun c off hx => by
  rcases hx with hx | hx | hx
  · have := h.ok2 c (by rw [hx]; rfl); omega
  · have := h.ov2 c (by rw [hx]; rfl); omega
  · have := h.oi2 c (by rw [hx]; rfl); omega
set_option maxRecDepth 100000 in
set_option maxHeartbeats 4000000 in
theorem put_any (n : Nd) (p : Pt) (k v : ByteArray) (hk : k.size ≤ maxLen) (w : World) (h : Nod w n p) : Calls Tryz.prog 70 #[(.agg #[.int .i64 n.lev, .int .i64 n.lsn, .int .i64 n.rgt, .string n.high, .slice p.k n.keys.length p.kc, .slice p.v n.vals.length p.vc, .slice p.i n.kids.length p.ic]), .string k, .string v] w fun e w' => NdOut2 (okN (putE n k v) (putN n k v)) (putE n k v) w e w' := by
  have f0 : Fr (fun _ => False) w ((w.alloc (.cells #[.int .i64 n.lev, .int .i64 n.lsn, .int .i64 n.rgt, .string n.high, .slice p.k n.keys.length p.kc, .slice p.v n.vals.length p.vc, .slice p.i n.kids.length p.ic] 28)).alloc (.cells #[.int .i64 0, .int .i64 0, .int .i64 0, .string ⟨#[]⟩, .slice none 0 0, .slice none 0 0, .slice none 0 0] 28)) := ((Fr.refl _ _).alloc _).alloc _
  have HB : Hid (∀ W, Fr (fun _ => False) ((w.alloc (.cells #[.int .i64 n.lev, .int .i64 n.lsn, .int .i64 n.rgt, .string n.high, .slice p.k n.keys.length p.kc, .slice p.v n.vals.length p.vc, .slice p.i n.kids.length p.ic] 28)).alloc (.cells #[.int .i64 0, .int .i64 0, .int .i64 0, .string ⟨#[]⟩, .slice none 0 0, .slice none 0 0, .slice none 0 0] 28)) W → W.cell? ⟨w.heap.size, 0, none⟩ = some (.int .i64 n.lev) ∧ W.cell? ⟨w.heap.size, 1, none⟩ = some (.int .i64 n.lsn) ∧ W.cell? ⟨w.heap.size, 2, none⟩ = some (.int .i64 n.rgt) ∧ W.cell? ⟨w.heap.size, 3, none⟩ = some (.string n.high) ∧ W.cell? ⟨w.heap.size, 4, none⟩ = some (.slice p.k n.keys.length p.kc) ∧ W.cell? ⟨w.heap.size, 5, none⟩ = some (.slice p.v n.vals.length p.vc) ∧ W.cell? ⟨w.heap.size, 6, none⟩ = some (.slice p.i n.kids.length p.ic)) := fun W f => box_cells (box_at w n p 28 (((Fr.refl _ _).alloc _).seq' f))
  have HBB : Hid (∀ W, Fr (fun _ => False) ((w.alloc (.cells #[.int .i64 n.lev, .int .i64 n.lsn, .int .i64 n.rgt, .string n.high, .slice p.k n.keys.length p.kc, .slice p.v n.vals.length p.vc, .slice p.i n.kids.length p.ic] 28)).alloc (.cells #[.int .i64 0, .int .i64 0, .int .i64 0, .string ⟨#[]⟩, .slice none 0 0, .slice none 0 0, .slice none 0 0] 28)) W → W.heap[w.heap.size]? = some (.cells #[.int .i64 n.lev, .int .i64 n.lsn, .int .i64 n.rgt, .string n.high, .slice p.k n.keys.length p.kc, .slice p.v n.vals.length p.vc, .slice p.i n.kids.length p.ic] 28 (0, 0))) := fun W f => box_at w n p 28 (((Fr.refl _ _).alloc _).seq' f)
  have HRB : Hid (∀ W, Fr (fun _ => False) ((w.alloc (.cells #[.int .i64 n.lev, .int .i64 n.lsn, .int .i64 n.rgt, .string n.high, .slice p.k n.keys.length p.kc, .slice p.v n.vals.length p.vc, .slice p.i n.kids.length p.ic] 28)).alloc (.cells #[.int .i64 0, .int .i64 0, .int .i64 0, .string ⟨#[]⟩, .slice none 0 0, .slice none 0 0, .slice none 0 0] 28)) W → W.heap[w.heap.size + 1]? = some (.cells #[.int .i64 0, .int .i64 0, .int .i64 0, .string ⟨#[]⟩, .slice none 0 0, .slice none 0 0, .slice none 0 0] 28 (0, 0))) := fun W f => by
    refine f.blk ?_ (fun f => f)
    have := heap_alloc_new (w.alloc (.cells #[.int .i64 n.lev, .int .i64 n.lsn, .int .i64 n.rgt, .string n.high, .slice p.k n.keys.length p.kc, .slice p.v n.vals.length p.vc, .slice p.i n.kids.length p.ic] 28)) (.cells #[.int .i64 0, .int .i64 0, .int .i64 0, .string ⟨#[]⟩, .slice none 0 0, .slice none 0 0, .slice none 0 0] 28)
    rw [show (w.alloc (.cells #[.int .i64 n.lev, .int .i64 n.lsn, .int .i64 n.rgt, .string n.high, .slice p.k n.keys.length p.kc, .slice p.v n.vals.length p.vc, .slice p.i n.kids.length p.ic] 28)).heap.size = w.heap.size + 1 by simp] at this
    exact this
  have hh := high_le h
  have fr0 := (Fr.refl (fun _ => False) ((w.alloc (.cells #[.int .i64 n.lev, .int .i64 n.lsn, .int .i64 n.rgt, .string n.high, .slice p.k n.keys.length p.kc, .slice p.v n.vals.length p.vc, .slice p.i n.kids.length p.ic] 28)).alloc (.cells #[.int .i64 0, .int .i64 0, .int .i64 0, .string ⟨#[]⟩, .slice none 0 0, .slice none 0 0, .slice none 0 0] 28))).drew
  have q0 := HB.out _ fr0
  have hN := h.same (f0.seq' fr0)
  have HA : Hid (firstE [rgE n, ekey k.size, evalu v.size, suE n k 1] = askE n k (evalu v.size : Nat) 0 1) := ask_v n k (evalu v.size : Nat) 1
  have HOK : Hid (askE n k (evalu v.size : Nat) 0 1 = 0 → Rt n ∧ n.lev = 0 ∧ k.size ≤ 16 ∧ v.size ≤ 32) := fun h => ⟨(ask_ok h).1, ask1_leaf h, (ask_ok h).2.1.2, evalu_le (by have := (ask_ok h).2.2.1; omega)⟩
  have HPU : Hid (putE n k v = if askE n k (evalu v.size : Nat) 0 1 = 0 then fitE (putN n k v) else askE n k (evalu v.size : Nat) 0 1) := rfl
  generalize askE n k (evalu v.size : Nat) 0 1 = ae at *
  go_enter Tryz.func70, Tryz.ntmps70
  go_wp2_with fail
  go_region_held3 (fun W => W.cell? ⟨w.heap.size, 0, none⟩ = some (.int .i64 n.lev) ∧ W.cell? ⟨w.heap.size, 1, none⟩ = some (.int .i64 n.lsn) ∧ W.cell? ⟨w.heap.size, 2, none⟩ = some (.int .i64 n.rgt) ∧ W.cell? ⟨w.heap.size, 3, none⟩ = some (.string n.high) ∧ W.cell? ⟨w.heap.size, 4, none⟩ = some (.slice p.k n.keys.length p.kc) ∧ W.cell? ⟨w.heap.size, 5, none⟩ = some (.slice p.v n.vals.length p.vc) ∧ W.cell? ⟨w.heap.size, 6, none⟩ = some (.slice p.i n.kids.length p.ic))
    (first | with_reducible exact q0 | with_reducible exact q1 | with_reducible exact q3 | with_reducible exact q4)
    (first
      | (go_at_call 91; refine (checkNode_any n p _ hN).mono ?_; rintro e w1 ⟨rfl, m1⟩; have fr1 := fr0.seq' m1; have q1 := HB.out _ fr1)
      | (go_at_call 78; refine (kcheck_any k _).mono ?_; rintro e w2 ⟨rfl, rfl⟩)
      | (go_at_call 92; refine (kvalue_any v _).mono ?_; rintro e w2 ⟨rfl, rfl⟩)
      | (go_at_call 93; refine (suits_any n p k 1 (by omega) hh hk _).mono ?_; rintro e w3 ⟨rfl, m3⟩; have fr3 := fr1.seq' m3; have q3 := HB.out _ fr3; have fr4 := fr3.alloc (.cells #[.int .i64 (rgE n), .int .i64 (ekey k.size : Nat), .int .i64 (evalu v.size : Nat), .int .i64 (suE n k 1)] 31); have q4 := HB.out _ fr4)
      | (go_at_call 90; refine (first4 (rgE n) (ekey k.size : Nat) (evalu v.size : Nat) (suE n k 1) w3).mono ?_; rw [HA.out]; rintro e w5 ⟨rfl, rfl⟩))
  have hN4 := h.same (f0.seq' fr4)
  have F4 := f0.seq' fr4
  obtain ⟨c0, c1, c2, c3, c4, c5, c6⟩ := q4
  generalize w3.alloc (.cells #[.int .i64 (rgE n), .int .i64 (ekey k.size : Nat), .int .i64 (evalu v.size : Nat), .int .i64 (suE n k 1)] 31) = w4 at *
  clear q0 q1 q3
  by_cases hae : ae = 0
  · subst hae
    obtain ⟨r, hlev, hk16, hv32⟩ := HOK.out rfl
    rw [if_pos rfl] at HPU
    have hfew := keys_few r
    have HR : Hid (Rt n ∧ n.lev = 0) := ⟨r, hlev⟩
    have HVL : Hid (n.vals.length = n.keys.length) := (r.leaf hlev).1
    have HSH : Hid (Short n) := rt_short r hlev
    have HLN : Hid (n.keys.length ≤ 100000 ∧ n.vals.length ≤ 100000 ∧ n.kids.length ≤ 100000) := ⟨by omega, by rw [(r.leaf hlev).1]; omega, by rw [(r.leaf hlev).2.1]; omega⟩
    have hcp := copied_any n p HLN.out.1 HLN.out.2.1 HLN.out.2.2 _ hN4
    have h42 : w.heap.size + 2 ≤ w4.heap.size := by have := fr4.size; simp at this; omega
    have hpl := plc_pl (k := bsOf k) r.srt
    clear r hlev HOK HA
    go_wp2_with fail
    refine hcp.mono ?_
    rintro e wc ⟨ak, ck, av, cv, ai, ci, rfl, hK, hV, hI, oK, oV, oI, nkv, nki, nvi, fc⟩
    clear c0 c1 c2 c3 c4 c5 c6
    have frc := fr4.seq' fc
    have hbc := HBB.out _ frc
    have hRc := HRB.out _ frc
    obtain ⟨Y, fY⟩ := By.start hbc (f0.seq' frc) h42 hK hV hI oK oV oI nkv nki nvi
    have hRY := fY.blk hRc (by omega)
    have hszY : w.heap.size + 1 < wc.heap.size := by have := fc.size; omega
    obtain ⟨⟨c0, c1, c2, c3, c4, c5, c6⟩, cz⟩ := node_cells hbc
    have y0 := cz 0; have y1 := cz 1; have y2 := cz 2; have y3 := cz 3; have y4 := cz 4; have y5 := cz 5; have y6 := cz 6
    have hszY2 := fY.size
    obtain ⟨WY, hWY⟩ : ∃ W, W = ((((((wc.setCell ⟨w.heap.size, 0, none⟩ (.int .i64 n.lev)).setCell ⟨w.heap.size, 1, none⟩ (.int .i64 n.lsn)).setCell ⟨w.heap.size, 2, none⟩ (.int .i64 n.rgt)).setCell ⟨w.heap.size, 3, none⟩ (.string n.high)).setCell ⟨w.heap.size, 4, none⟩ (.slice ak n.keys.length ck)).setCell ⟨w.heap.size, 5, none⟩ (.slice av n.vals.length cv)).setCell ⟨w.heap.size, 6, none⟩ (.slice ai n.kids.length ci) := ⟨_, rfl⟩
    rw [← hWY] at Y hRY hszY2
    have HWY : Hid (WY = ((((((wc.setCell ⟨w.heap.size, 0, none⟩ (.int .i64 n.lev)).setCell ⟨w.heap.size, 1, none⟩ (.int .i64 n.lsn)).setCell ⟨w.heap.size, 2, none⟩ (.int .i64 n.rgt)).setCell ⟨w.heap.size, 3, none⟩ (.string n.high)).setCell ⟨w.heap.size, 4, none⟩ (.slice ak n.keys.length ck)).setCell ⟨w.heap.size, 5, none⟩ (.slice av n.vals.length cv)).setCell ⟨w.heap.size, 6, none⟩ (.slice ai n.kids.length ci)) := hWY
    have hpc := place_any ak n.keys.length ck n.keys rfl k hk WY (CpS.strs Y.keys HSH.out.keys)
    clear hWY cz fY
    go_wp2_with fail
    rw [← HWY.out]
    obtain ⟨pi, pf, hpe⟩ : ∃ pi pf, plc (bsOf k) n.keys = (pi, pf) := ⟨_, _, rfl⟩
    have HPE : Hid (plc (bsOf k) n.keys = (pi, pf)) := hpe
    rw [hpe] at hpl hpc
    simp only at hpl hpc
    refine hpc.mono ?_
    rintro e w6 ⟨rfl, f6⟩
    have Y6 := Y.same f6
    have hR6 := f6.blk hRY (fun f => f)
    have hs6 : w.heap.size + 1 < w6.heap.size := by have := f6.size; omega
    clear c0 c1 c2 c3 c4 c5 c6 y0 y1 y2 y3 y4 y5 y6 hpc hpe hbc hRc hRY Y hK hV hI oK oV oI nkv nki nvi HWY
    obtain ⟨⟨d0, d1, d2, d3, d4, d5, d6⟩, _⟩ := node_cells Y6.box
    cases pf
    case true =>
      have hpi := (hpl.eq rfl).1
      have hpv : pi < n.vals.length := by rw [HVL.out]; exact hpi
      have HD : Hid (putN n k v = { n with vals := n.vals.set pi v }) := putN_hit HR.out.1 HR.out.2 hpi (hpl.eq rfl).2 HPE.out
      have HSE : Hid (Short { n with vals := n.vals.set pi v }) := ⟨HSH.out.high, HSH.out.keys, fun s hs => by
        rcases List.mem_or_eq_of_mem_set hs with e | e
        · exact HSH.out.vals s e
        · rw [e]; omega⟩
      have hpvi : (pi : Int) < (n.vals.length : Int) := by omega
      obtain ⟨g, cg, eg, ⟨u0, hu0⟩, hz0, Y7⟩ := Y6.setv hpv v
      simp only [Value.slice.injEq, true_and] at eg
      obtain ⟨rfl, rfl⟩ := eg
      rw [Nat.zero_add] at hu0 hz0 Y7
      have hgb := Y6.ov2 g rfl
      have hgn1 : ¬ (g = w.heap.size) := by omega
      have hgn2 : ¬ (w.heap.size = g) := by omega
      have hR7 := ((Fr.refl (fun k => k = g) w6).setCell (p := ⟨g, pi, none⟩) (fun _ => rfl) (.string v)).blk hR6 (by omega)
      obtain ⟨pf, e1, e2, e3, nd⟩ := Y7.nod HSE.out HLN.out.1 (by rw [List.length_set]; exact HLN.out.2.1) HLN.out.2.2
      have hfar0 := By.far (p := pf) (by rw [← e1, ← e2, ← e3]; exact Y7)
      have HNW0 : Hid (Nw w pf) := By.nw (p := pf) (by rw [← e1, ← e2, ← e3]; exact Y7) w (Nat.le_refl _)
      have hft := fun W hW => fitting_any { n with vals := n.vals.set pi v } pf W hW
      have HFR : Hid (Fr (fun _ => False) w (w6.setCell ⟨g, pi, none⟩ (.string v))) := Y7.fr
      simp only [List.length_set, Value.slice.injEq, true_and] at e1 e2 e3
      obtain ⟨rfl, rfl⟩ := e1
      obtain ⟨eg2, rfl⟩ := e2
      obtain ⟨rfl, rfl⟩ := e3
      simp only [List.length_set] at hft
      rw [← eg2] at hft
      clear hpl eg2 Y7
      go_wp2_with fail
      refine (hft _ nd).mono ?_
      rintro e wF ⟨qf, rfl, ndq, fF, hqf⟩
      have HNW : Hid (Nw w qf) := hid_nw HNW0 hqf
      have hRF := fF.blk hR7 (fun f => f)
      obtain ⟨⟨s0, s1, s2, s3, s4, s5, s6⟩, sz⟩ := node_cells hRF
      have y0 := sz 0; have y1 := sz 1; have y2 := sz 2; have y3 := sz 3; have y4 := sz 4; have y5 := sz 5; have y6 := sz 6
      have hfar : ∀ c off, (qf.k = some ⟨c, off, none⟩ ∨ qf.v = some ⟨c, off, none⟩ ∨ qf.i = some ⟨c, off, none⟩) → c ≠ w.heap.size + 1 := by
        rcases hqf with rfl | rfl
        · exact hfar0
        · intro c off hx
          rcases hx with hx | hx | hx <;> cases hx
      have HPF : Hid (putE n k v = fitE { n with vals := n.vals.set pi v }) := by show _ = _; rw [HPU.out, HD.out]
      have HOF : Hid (okN (putE n k v) (putN n k v) = okN (fitE { n with vals := n.vals.set pi v }) { n with vals := n.vals.set pi v }) := by show _ = _; rw [HPF.out, HD.out]
      have FF := HFR.out.seq' fF
      generalize okN (fitE { n with vals := n.vals.set pi v }) { n with vals := n.vals.set pi v } = mo at *
      generalize fitE { n with vals := n.vals.set pi v } = fe at *
      clear sz d0 d1 d2 d3 d4 d5 d6
      go_wp2
      obtain ⟨hq, ff⟩ := fin7 hRF (.int .i64 mo.lev) (.int .i64 mo.lsn) (.int .i64 mo.rgt) (.string mo.high) (.slice qf.k mo.keys.length qf.kc) (.slice qf.v mo.vals.length qf.vc) (.slice qf.i mo.kids.length qf.ic)
      have fff := FF.trans ff (S := fun _ => False) (fun i hi e => by omega)
      have ndf := nd_far ndq ff hfar
      generalize ((((((wF.setCell ⟨w.heap.size + 1, 0, none⟩ (.int .i64 mo.lev)).setCell ⟨w.heap.size + 1, 1, none⟩ (.int .i64 mo.lsn)).setCell ⟨w.heap.size + 1, 2, none⟩ (.int .i64 mo.rgt)).setCell ⟨w.heap.size + 1, 3, none⟩ (.string mo.high)).setCell ⟨w.heap.size + 1, 4, none⟩ (.slice qf.k mo.keys.length qf.kc)).setCell ⟨w.heap.size + 1, 5, none⟩ (.slice qf.v mo.vals.length qf.vc)).setCell ⟨w.heap.size + 1, 6, none⟩ (.slice qf.i mo.kids.length qf.ic) = Wf at hq fff ndf ⊢
      obtain ⟨⟨q0, q1, q2, q3, q4, q5, q6⟩, _⟩ := node_cells hq
      rw [HOF.out, HPF.out]
      exact bodyPost_ret (v := .tuple #[(.agg #[.int .i64 mo.lev, .int .i64 mo.lsn, .int .i64 mo.rgt, .string mo.high, .slice qf.k mo.keys.length qf.kc, .slice qf.v mo.vals.length qf.vc, .slice qf.i mo.kids.length qf.ic]), .int .i64 fe]) (by simp [results, Tryz.results70, go_sem, q0, q1, q2, q3, q4, q5, q6]) rfl ⟨qf, rfl, ndf, fff, HNW.out⟩
    have hpi : pi ≤ n.keys.length := hpl.le
    have hpv : pi ≤ n.vals.length := by rw [HVL.out]; exact hpi
    have HD : Hid (putN n k v = { n with keys := insAll false pi k n.keys, vals := insAll false pi v n.vals }) := putN_miss HR.out.1 HR.out.2 HPE.out
    have HLE : Hid ((insAll false pi k n.keys).length = n.keys.length + 1) := insAll_len pi k n.keys hpi
    have HLV : Hid ((insAll false pi v n.vals).length = n.vals.length + 1) := insAll_len pi v n.vals hpv
    have HSE : Hid (Short { n with keys := insAll false pi k n.keys, vals := insAll false pi v n.vals }) := ⟨HSH.out.high, fun s hs => by
      rcases insAll_mem _ _ _ _ s hs with e | e
      · rw [e]; omega
      · exact HSH.out.keys s e, fun s hs => by
      rcases insAll_mem _ _ _ _ s hs with e | e
      · rw [e]; omega
      · exact HSH.out.vals s e⟩
    have HL1 : Hid (n.keys.length + 1 ≤ 100000 ∧ n.vals.length + 1 ≤ 100000) := ⟨by omega, by rw [HVL.out]; omega⟩
    have Y6a := Y6.same (Fr.box w6 (.cells #[.string k] 9))
    have hR6a := (Fr.box w6 (.cells #[.string k] 9)).blk hR6 (fun f => f)
    have hs6a : w.heap.size + 1 < (w6.alloc (.cells #[.string k] 9)).heap.size := by simp; omega
    have hin := insert_s _ n.keys.length (strCells n.keys) (strCells_one _) pi w6.heap.size (.string k) rfl 9 _ Y6a.keys (heap_alloc_new w6 _) (fun e => by have := Y6.keys.lt e; omega) hpi HLN.out.1
    clear hpl
    go_wp2_with fail
    refine hin.mono ?_
    rintro e w7 ⟨a7, c7, rfl, h7, f7, o7⟩
    rw [← ins_strs] at h7
    rw [← HLE.out] at h7 o7 ⊢
    obtain ⟨hb7, Y7⟩ := Y6a.newk hs6a h7 f7 o7
    have hR7 := f7.blk hR6a (fun e => by have := Y6.ok2 _ e; omega)
    have hR8 := ((Fr.refl (fun k => k = w.heap.size) w7).setCell (p := ⟨w.heap.size, 4, none⟩) (fun _ => rfl) (.slice a7 (insAll false pi k n.keys).length c7)).blk hR7 (by omega)
    have hs7 : w.heap.size + 1 < w7.heap.size := by have := f7.size; omega
    have hs8 : w.heap.size + 1 < (w7.setCell ⟨w.heap.size, 4, none⟩ (.slice a7 (insAll false pi k n.keys).length c7)).heap.size := by simpa [World.setCell] using hs7
    clear d0 d1 d2 d3 d4 d5 d6
    obtain ⟨⟨d0, d1, d2, d3, d4, d5, d6⟩, dz⟩ := node_cells hb7
    have z4 := dz 4
    clear dz hin
    go_wp2_with fail
    have e8 : (w7.setCell ⟨w.heap.size, 4, none⟩ (.slice a7 (insAll false pi k n.keys).length c7)).heap.size = w7.heap.size := by simp [World.setCell]
    have hnv := heap_alloc_new (w7.setCell ⟨w.heap.size, 4, none⟩ (.slice a7 (insAll false pi k n.keys).length c7)) (.cells #[.string v] 9)
    rw [e8] at hnv
    have Y8a := Y7.same (Fr.box (w7.setCell ⟨w.heap.size, 4, none⟩ (.slice a7 (insAll false pi k n.keys).length c7)) (.cells #[.string v] 9))
    have hR8a := (Fr.box (w7.setCell ⟨w.heap.size, 4, none⟩ (.slice a7 (insAll false pi k n.keys).length c7)) (.cells #[.string v] 9)).blk hR8 (fun f => f)
    have hs8a : w.heap.size + 1 < ((w7.setCell ⟨w.heap.size, 4, none⟩ (.slice a7 (insAll false pi k n.keys).length c7)).alloc (.cells #[.string v] 9)).heap.size := by simp [World.setCell]; omega
    have hiv := insert_s _ n.vals.length (strCells n.vals) (strCells_one _) pi w7.heap.size (.string v) rfl 9 _ Y8a.vals hnv (fun e => by have := Y7.vals.lt e; rw [e8] at this; omega) hpv HLN.out.2.1
    generalize (w7.setCell ⟨w.heap.size, 4, none⟩ (.slice a7 (insAll false pi k n.keys).length c7)).alloc (.cells #[.string v] 9) = W8 at *
    refine hiv.mono ?_
    rintro e w9 ⟨a9, c9, rfl, h9, f9, o9⟩
    rw [← ins_strs] at h9
    rw [← HLV.out] at h9 o9 ⊢
    obtain ⟨hb9, Y9⟩ := Y8a.newv hs8a h9 f9 o9
    have hR9 := f9.blk hR8a (fun e => by have := Y8a.ov2 _ e; omega)
    have hRA := ((Fr.refl (fun k => k = w.heap.size) w9).setCell (p := ⟨w.heap.size, 5, none⟩) (fun _ => rfl) (.slice a9 (insAll false pi v n.vals).length c9)).blk hR9 (by omega)
    obtain ⟨pf, e1, e2, e3, nd⟩ := Y9.nod HSE.out (by rw [HLE.out]; exact HL1.out.1) (by rw [HLV.out]; exact HL1.out.2) HLN.out.2.2
    have hfar0 := By.far (p := pf) (by rw [← e1, ← e2, ← e3]; exact Y9)
    have HNW0 : Hid (Nw w pf) := By.nw (p := pf) (by rw [← e1, ← e2, ← e3]; exact Y9) w (Nat.le_refl _)
    have hft := fun W hW => fitting_any { n with keys := insAll false pi k n.keys, vals := insAll false pi v n.vals } pf W hW
    have HFR : Hid (Fr (fun _ => False) w (w9.setCell ⟨w.heap.size, 5, none⟩ (.slice a9 (insAll false pi v n.vals).length c9))) := Y9.fr
    simp only [Value.slice.injEq, true_and] at e1 e2 e3
    obtain ⟨rfl, rfl⟩ := e1
    obtain ⟨rfl, rfl⟩ := e2
    obtain ⟨rfl, rfl⟩ := e3
    clear d0 d1 d2 d3 d4 d5 d6 z4
    obtain ⟨⟨d0, d1, d2, d3, d4, d5, d6⟩, dz⟩ := node_cells hb9
    have z5 := dz 5
    clear dz hiv Y9 Y8a Y7 Y6a Y6
    go_wp2_with fail
    refine (hft _ nd).mono ?_
    rintro e wF ⟨qf, rfl, ndq, fF, hqf⟩
    have HNW : Hid (Nw w qf) := hid_nw HNW0 hqf
    have hRF := fF.blk hRA (fun f => f)
    obtain ⟨⟨s0, s1, s2, s3, s4, s5, s6⟩, sz⟩ := node_cells hRF
    have y0 := sz 0; have y1 := sz 1; have y2 := sz 2; have y3 := sz 3; have y4 := sz 4; have y5 := sz 5; have y6 := sz 6
    have hfar : ∀ c off, (qf.k = some ⟨c, off, none⟩ ∨ qf.v = some ⟨c, off, none⟩ ∨ qf.i = some ⟨c, off, none⟩) → c ≠ w.heap.size + 1 := by
      rcases hqf with rfl | rfl
      · exact hfar0
      · intro c off hx
        rcases hx with hx | hx | hx <;> cases hx
    have HPF : Hid (putE n k v = fitE { n with keys := insAll false pi k n.keys, vals := insAll false pi v n.vals }) := by show _ = _; rw [HPU.out, HD.out]
    have HOF : Hid (okN (putE n k v) (putN n k v) = okN (fitE { n with keys := insAll false pi k n.keys, vals := insAll false pi v n.vals }) { n with keys := insAll false pi k n.keys, vals := insAll false pi v n.vals }) := by show _ = _; rw [HPF.out, HD.out]
    have FF := HFR.out.seq' fF
    generalize okN (fitE { n with keys := insAll false pi k n.keys, vals := insAll false pi v n.vals }) { n with keys := insAll false pi k n.keys, vals := insAll false pi v n.vals } = mo at *
    generalize fitE { n with keys := insAll false pi k n.keys, vals := insAll false pi v n.vals } = fe at *
    clear sz d0 d1 d2 d3 d4 d5 d6
    go_wp2
    obtain ⟨hq, ff⟩ := fin7 hRF (.int .i64 mo.lev) (.int .i64 mo.lsn) (.int .i64 mo.rgt) (.string mo.high) (.slice qf.k mo.keys.length qf.kc) (.slice qf.v mo.vals.length qf.vc) (.slice qf.i mo.kids.length qf.ic)
    have fff := FF.trans ff (S := fun _ => False) (fun i hi e => by omega)
    have ndf := nd_far ndq ff hfar
    generalize ((((((wF.setCell ⟨w.heap.size + 1, 0, none⟩ (.int .i64 mo.lev)).setCell ⟨w.heap.size + 1, 1, none⟩ (.int .i64 mo.lsn)).setCell ⟨w.heap.size + 1, 2, none⟩ (.int .i64 mo.rgt)).setCell ⟨w.heap.size + 1, 3, none⟩ (.string mo.high)).setCell ⟨w.heap.size + 1, 4, none⟩ (.slice qf.k mo.keys.length qf.kc)).setCell ⟨w.heap.size + 1, 5, none⟩ (.slice qf.v mo.vals.length qf.vc)).setCell ⟨w.heap.size + 1, 6, none⟩ (.slice qf.i mo.kids.length qf.ic) = Wf at hq fff ndf ⊢
    obtain ⟨⟨q0, q1, q2, q3, q4, q5, q6⟩, _⟩ := node_cells hq
    rw [HOF.out, HPF.out]
    exact bodyPost_ret (v := .tuple #[(.agg #[.int .i64 mo.lev, .int .i64 mo.lsn, .int .i64 mo.rgt, .string mo.high, .slice qf.k mo.keys.length qf.kc, .slice qf.v mo.vals.length qf.vc, .slice qf.i mo.kids.length qf.ic]), .int .i64 fe]) (by simp [results, Tryz.results70, go_sem, q0, q1, q2, q3, q4, q5, q6]) rfl ⟨qf, rfl, ndf, fff, HNW.out⟩
  · have hne : (ae != 0) = true := by simpa using hae
    have HP0 : Hid (ae ≠ 0) := hae
    rw [if_neg hae] at HPU
    have hR6 := HRB.out _ fr4
    obtain ⟨⟨s0, s1, s2, s3, s4, s5, s6⟩, sz⟩ := node_cells hR6
    have y0 := sz 0; have y1 := sz 1; have y2 := sz 2; have y3 := sz 3; have y4 := sz 4; have y5 := sz 5; have y6 := sz 6
    clear hae sz
    go_wp2
    obtain ⟨hq, ff⟩ := fin7 hR6 (.int .i64 0) (.int .i64 0) (.int .i64 0) (.string ⟨#[]⟩) (.slice none 0 0) (.slice none 0 0) (.slice none 0 0)
    have fff := (f0.seq' fr4).trans ff (S := fun _ => False) (fun i hi e => by omega)
    generalize ((((((w4.setCell ⟨w.heap.size + 1, 0, none⟩ (.int .i64 0)).setCell ⟨w.heap.size + 1, 1, none⟩ (.int .i64 0)).setCell ⟨w.heap.size + 1, 2, none⟩ (.int .i64 0)).setCell ⟨w.heap.size + 1, 3, none⟩ (.string ⟨#[]⟩)).setCell ⟨w.heap.size + 1, 4, none⟩ (.slice none 0 0)).setCell ⟨w.heap.size + 1, 5, none⟩ (.slice none 0 0)).setCell ⟨w.heap.size + 1, 6, none⟩ (.slice none 0 0) = Wf at hq fff ⊢
    obtain ⟨⟨q0, q1, q2, q3, q4, q5, q6⟩, _⟩ := node_cells hq
    rw [HPU.out, okN_no HP0.out]
    exact bodyPost_ret (v := .tuple #[.agg #[.int .i64 0, .int .i64 0, .int .i64 0, .string ⟨#[]⟩, .slice none 0 0, .slice none 0 0, .slice none 0 0], .int .i64 ae]) (by simp [results, Tryz.results70, go_sem, q0, q1, q2, q3, q4, q5, q6]) rfl ⟨zp, rfl, zn_nod _, fff, zp_nw _⟩
end Go.Proofs.YtnckmajfmkkpgaaGreat

/- What Left makes. -/
namespace Go.Proofs.YtnckmajfmkkpgaaGreat
open Go.RowKit

set_option maxRecDepth 100000 in
set_option maxHeartbeats 2000000 in
theorem nleft_any (n : Nd) (p : Pt) (k : ByteArray) (rt : Int) (hk2 : k.size ≤ 140737488351232) (hk : k.size ≤ maxLen) (w : World) (h : Nod w n p) : Calls Tryz.prog 72 #[(.agg #[.int .i64 n.lev, .int .i64 n.lsn, .int .i64 n.rgt, .string n.high, .slice p.k n.keys.length p.kc, .slice p.v n.vals.length p.vc, .slice p.i n.kids.length p.ic]), .string k, .int .i64 rt] w fun e w' => NdOut2 (okN (lrE n k (nuE rt)) (leftN n k rt)) (lrE n k (nuE rt)) w e w' := by
  have f0 : Fr (fun _ => False) w ((w.alloc (.cells #[.int .i64 n.lev, .int .i64 n.lsn, .int .i64 n.rgt, .string n.high, .slice p.k n.keys.length p.kc, .slice p.v n.vals.length p.vc, .slice p.i n.kids.length p.ic] 28)).alloc (.cells #[.int .i64 0, .int .i64 0, .int .i64 0, .string ⟨#[]⟩, .slice none 0 0, .slice none 0 0, .slice none 0 0] 28)) := ((Fr.refl _ _).alloc _).alloc _
  have HB : Hid (∀ W, Fr (fun _ => False) ((w.alloc (.cells #[.int .i64 n.lev, .int .i64 n.lsn, .int .i64 n.rgt, .string n.high, .slice p.k n.keys.length p.kc, .slice p.v n.vals.length p.vc, .slice p.i n.kids.length p.ic] 28)).alloc (.cells #[.int .i64 0, .int .i64 0, .int .i64 0, .string ⟨#[]⟩, .slice none 0 0, .slice none 0 0, .slice none 0 0] 28)) W → W.cell? ⟨w.heap.size, 0, none⟩ = some (.int .i64 n.lev) ∧ W.cell? ⟨w.heap.size, 1, none⟩ = some (.int .i64 n.lsn) ∧ W.cell? ⟨w.heap.size, 2, none⟩ = some (.int .i64 n.rgt) ∧ W.cell? ⟨w.heap.size, 3, none⟩ = some (.string n.high) ∧ W.cell? ⟨w.heap.size, 4, none⟩ = some (.slice p.k n.keys.length p.kc) ∧ W.cell? ⟨w.heap.size, 5, none⟩ = some (.slice p.v n.vals.length p.vc) ∧ W.cell? ⟨w.heap.size, 6, none⟩ = some (.slice p.i n.kids.length p.ic)) := fun W f => box_cells (box_at w n p 28 (((Fr.refl _ _).alloc _).seq' f))
  have HRB : Hid (∀ W, Fr (fun _ => False) ((w.alloc (.cells #[.int .i64 n.lev, .int .i64 n.lsn, .int .i64 n.rgt, .string n.high, .slice p.k n.keys.length p.kc, .slice p.v n.vals.length p.vc, .slice p.i n.kids.length p.ic] 28)).alloc (.cells #[.int .i64 0, .int .i64 0, .int .i64 0, .string ⟨#[]⟩, .slice none 0 0, .slice none 0 0, .slice none 0 0] 28)) W → W.heap[w.heap.size + 1]? = some (.cells #[.int .i64 0, .int .i64 0, .int .i64 0, .string ⟨#[]⟩, .slice none 0 0, .slice none 0 0, .slice none 0 0] 28 (0, 0))) := fun W f => by
    refine f.blk ?_ (fun f => f)
    have := heap_alloc_new (w.alloc (.cells #[.int .i64 n.lev, .int .i64 n.lsn, .int .i64 n.rgt, .string n.high, .slice p.k n.keys.length p.kc, .slice p.v n.vals.length p.vc, .slice p.i n.kids.length p.ic] 28)) (.cells #[.int .i64 0, .int .i64 0, .int .i64 0, .string ⟨#[]⟩, .slice none 0 0, .slice none 0 0, .slice none 0 0] 28)
    rw [show (w.alloc (.cells #[.int .i64 n.lev, .int .i64 n.lsn, .int .i64 n.rgt, .string n.high, .slice p.k n.keys.length p.kc, .slice p.v n.vals.length p.vc, .slice p.i n.kids.length p.ic] 28)).heap.size = w.heap.size + 1 by simp] at this
    exact this
  have hh := high_le h
  have fr0 := (Fr.refl (fun _ => False) ((w.alloc (.cells #[.int .i64 n.lev, .int .i64 n.lsn, .int .i64 n.rgt, .string n.high, .slice p.k n.keys.length p.kc, .slice p.v n.vals.length p.vc, .slice p.i n.kids.length p.ic] 28)).alloc (.cells #[.int .i64 0, .int .i64 0, .int .i64 0, .string ⟨#[]⟩, .slice none 0 0, .slice none 0 0, .slice none 0 0] 28))).drew
  have q0 := HB.out _ fr0
  have hN := h.same (f0.seq' fr0)
  have HA : Hid (firstE [rgE n, ekey k.size, nuE rt, suE n k 0] = askE n k 0 (nuE rt) 0) := ask_n n k (nuE rt) 0
  have HOK : Hid (askE n k 0 (nuE rt) 0 = 0 → Rt n) := fun h => (ask_ok h).1
  have HE : Hid (lrE n k (nuE rt) = if askE n k 0 (nuE rt) 0 = 0 then parE n k else askE n k 0 (nuE rt) 0) := rfl
  have hpb : parA n k ≤ n.keys.length := parA_le n k
  generalize askE n k 0 (nuE rt) 0 = ae at *
  go_enter Tryz.func72, Tryz.ntmps72
  go_wp2_with fail
  go_region_held3 (fun W => W.cell? ⟨w.heap.size, 0, none⟩ = some (.int .i64 n.lev) ∧ W.cell? ⟨w.heap.size, 1, none⟩ = some (.int .i64 n.lsn) ∧ W.cell? ⟨w.heap.size, 2, none⟩ = some (.int .i64 n.rgt) ∧ W.cell? ⟨w.heap.size, 3, none⟩ = some (.string n.high) ∧ W.cell? ⟨w.heap.size, 4, none⟩ = some (.slice p.k n.keys.length p.kc) ∧ W.cell? ⟨w.heap.size, 5, none⟩ = some (.slice p.v n.vals.length p.vc) ∧ W.cell? ⟨w.heap.size, 6, none⟩ = some (.slice p.i n.kids.length p.ic))
    (first | with_reducible exact q0 | with_reducible exact q1 | with_reducible exact q3 | with_reducible exact q4)
    (first
      | (go_at_call 91; refine (checkNode_any n p _ hN).mono ?_; rintro e w1 ⟨rfl, m1⟩; have fr1 := fr0.seq' m1; have q1 := HB.out _ fr1)
      | (go_at_call 78; refine (kcheck_any k _).mono ?_; rintro e w2 ⟨rfl, rfl⟩)
      | (go_at_call 99; refine (checkPage_any rt _).mono ?_; rintro e w2 ⟨rfl, rfl⟩)
      | (go_at_call 93; refine (suits_any n p k 0 (by omega) hh hk _).mono ?_; rintro e w3 ⟨rfl, m3⟩; have fr3 := fr1.seq' m3; have q3 := HB.out _ fr3; have fr4 := fr3.alloc (.cells #[.int .i64 (rgE n), .int .i64 (ekey k.size : Nat), .int .i64 (nuE rt), .int .i64 (suE n k 0)] 31); have q4 := HB.out _ fr4)
      | (go_at_call 90; refine (first4 (rgE n) (ekey k.size : Nat) (nuE rt) (suE n k 0) w3).mono ?_; rw [HA.out]; rintro e w5 ⟨rfl, rfl⟩))
  have hN4 := h.same (f0.seq' fr4)
  obtain ⟨c0, c1, c2, c3, c4, c5, c6⟩ := q4
  obtain ⟨⟨s0, s1, s2, s3, s4, s5, s6⟩, sz⟩ := node_cells (HRB.out _ fr4)
  have y0 := sz 0; have y1 := sz 1; have y2 := sz 2; have y3 := sz 3; have y4 := sz 4; have y5 := sz 5; have y6 := sz 6
  generalize w3.alloc (.cells #[.int .i64 (rgE n), .int .i64 (ekey k.size : Nat), .int .i64 (nuE rt), .int .i64 (suE n k 0)] 31) = w4 at *
  clear q0 q1 q3 sz
  by_cases hae : ae = 0
  · subst hae
    have r := HOK.out rfl
    rw [if_pos rfl] at HE
    have hpt := parted_any n p k hk _ hN4
    by_cases hp0 : parE n k = 0
    · have HL : Hid (lrE n k (nuE rt) = 0) := by show _ = _; rw [HE.out]; exact hp0
      rw [hp0] at hpt
      have hpc := fun W hW => piece_any n p r 0 (parA n k) (Nat.zero_le _) hpb W hW
      rw [show ((0 : Nat) : Int) = 0 from rfl] at hpc
      have HRN : Hid (leftN n k rt = { pieceN n 0 (parA n k) with high := k, rgt := rt }) := rfl
      generalize pieceN n 0 (parA n k) = m at *
      generalize parB n k = pb at *
      generalize parA n k = pa at *
      clear y0 y1 y2 y3 y4 y5 y6 s0 s1 s2 s3 s4 s5 s6
      go_wp2_with fail
      refine hpt.mono ?_
      rintro e w5 ⟨rfl, f5⟩
      clear c0 c1 c2 c3 c4 c5 c6
      have fr5 := fr4.seq' f5
      obtain ⟨c0, c1, c2, c3, c4, c5, c6⟩ := HB.out _ fr5
      go_wp2_with fail
      refine (hpc _ (h.same (f0.seq' fr5))).mono ?_
      rintro e w6 ⟨p6, rfl, nd6, far6, f6⟩
      clear c0 c1 c2 c3 c4 c5 c6
      have fr6 := (fr5.seq' f6).alloc (.cells #[.int .i64 m.lev, .int .i64 m.lsn, .int .i64 rt, .string k, .slice p6.k m.keys.length p6.kc, .slice p6.v m.vals.length p6.vc, .slice p6.i m.kids.length p6.ic] 28)
      have hR6 := HRB.out _ fr6
      have nd6' := nd6.same ((Fr.refl (fun _ => False) w6).alloc (.cells #[.int .i64 m.lev, .int .i64 m.lsn, .int .i64 rt, .string k, .slice p6.k m.keys.length p6.kc, .slice p6.v m.vals.length p6.vc, .slice p6.i m.kids.length p6.ic] 28))
      obtain ⟨⟨s0, s1, s2, s3, s4, s5, s6⟩, sz⟩ := node_cells hR6
      have y0 := sz 0; have y1 := sz 1; have y2 := sz 2; have y3 := sz 3; have y4 := sz 4; have y5 := sz 5; have y6 := sz 6
      clear sz
      go_wp2
      obtain ⟨hq, ff⟩ := fin7 hR6 (.int .i64 m.lev) (.int .i64 m.lsn) (.int .i64 rt) (.string k) (.slice p6.k m.keys.length p6.kc) (.slice p6.v m.vals.length p6.vc) (.slice p6.i m.kids.length p6.ic)
      have fff := (f0.seq' fr6).trans ff (S := fun _ => False) (fun i hi e => by omega)
      have ndf := nd_far nd6' ff (fun b off hx e => by have := far6 b off hx; have := fr5.size; simp at this; omega)
      generalize (((((((w6.alloc (.cells #[.int .i64 m.lev, .int .i64 m.lsn, .int .i64 rt, .string k, .slice p6.k m.keys.length p6.kc, .slice p6.v m.vals.length p6.vc, .slice p6.i m.kids.length p6.ic] 28)).setCell ⟨w.heap.size + 1, 0, none⟩ (.int .i64 m.lev)).setCell ⟨w.heap.size + 1, 1, none⟩ (.int .i64 m.lsn)).setCell ⟨w.heap.size + 1, 2, none⟩ (.int .i64 rt)).setCell ⟨w.heap.size + 1, 3, none⟩ (.string k)).setCell ⟨w.heap.size + 1, 4, none⟩ (.slice p6.k m.keys.length p6.kc)).setCell ⟨w.heap.size + 1, 5, none⟩ (.slice p6.v m.vals.length p6.vc)).setCell ⟨w.heap.size + 1, 6, none⟩ (.slice p6.i m.kids.length p6.ic) = Wf at hq fff ndf ⊢
      obtain ⟨⟨q0, q1, q2, q3, q4, q5, q6⟩, _⟩ := node_cells hq
      rw [HL.out, okN_ok, HRN.out]
      exact bodyPost_ret (v := .tuple #[.agg #[.int .i64 m.lev, .int .i64 m.lsn, .int .i64 rt, .string k, .slice p6.k m.keys.length p6.kc, .slice p6.v m.vals.length p6.vc, .slice p6.i m.kids.length p6.ic], .int .i64 0]) (by simp [results, Tryz.results72, go_sem, q0, q1, q2, q3, q4, q5, q6]) rfl ⟨p6, rfl, ⟨ndf.keys, ndf.vals, ndf.kids, hk2, ndf.ksz, ndf.vsz, ndf.klen, ndf.vlen, ndf.ilen⟩, fff, fun b off hx => by have := far6 b off hx; have := fr5.size; simp at this; omega⟩
    · have HL : Hid (lrE n k (nuE rt) = parE n k) := HE.out
      have hne : (parE n k != 0) = true := by simpa using hp0
      have HP0 : Hid (parE n k ≠ 0) := hp0
      generalize parB n k = pb at *
      generalize parA n k = pa at *
      generalize parE n k = pe at *
      clear y0 y1 y2 y3 y4 y5 y6 s0 s1 s2 s3 s4 s5 s6 hp0
      go_wp2_with fail
      refine hpt.mono ?_
      rintro e w5 ⟨rfl, f5⟩
      have fr5 := fr4.seq' f5
      have hR6 := HRB.out _ fr5
      obtain ⟨⟨s0, s1, s2, s3, s4, s5, s6⟩, sz⟩ := node_cells hR6
      have y0 := sz 0; have y1 := sz 1; have y2 := sz 2; have y3 := sz 3; have y4 := sz 4; have y5 := sz 5; have y6 := sz 6
      clear sz
      go_wp2
      obtain ⟨hq, ff⟩ := fin7 hR6 (.int .i64 0) (.int .i64 0) (.int .i64 0) (.string ⟨#[]⟩) (.slice none 0 0) (.slice none 0 0) (.slice none 0 0)
      have fff := (f0.seq' fr5).trans ff (S := fun _ => False) (fun i hi e => by omega)
      generalize ((((((w5.setCell ⟨w.heap.size + 1, 0, none⟩ (.int .i64 0)).setCell ⟨w.heap.size + 1, 1, none⟩ (.int .i64 0)).setCell ⟨w.heap.size + 1, 2, none⟩ (.int .i64 0)).setCell ⟨w.heap.size + 1, 3, none⟩ (.string ⟨#[]⟩)).setCell ⟨w.heap.size + 1, 4, none⟩ (.slice none 0 0)).setCell ⟨w.heap.size + 1, 5, none⟩ (.slice none 0 0)).setCell ⟨w.heap.size + 1, 6, none⟩ (.slice none 0 0) = Wf at hq fff ⊢
      obtain ⟨⟨q0, q1, q2, q3, q4, q5, q6⟩, _⟩ := node_cells hq
      rw [HL.out, okN_no HP0.out]
      exact bodyPost_ret (v := .tuple #[.agg #[.int .i64 0, .int .i64 0, .int .i64 0, .string ⟨#[]⟩, .slice none 0 0, .slice none 0 0, .slice none 0 0], .int .i64 pe]) (by simp [results, Tryz.results72, go_sem, q0, q1, q2, q3, q4, q5, q6]) rfl ⟨zp, rfl, zn_nod _, fff, zp_nw _⟩
  · have hne : (ae != 0) = true := by simpa using hae
    rw [if_neg hae] at HE
    have HP0 : Hid (ae ≠ 0) := hae
    have hR6 := HRB.out _ fr4
    clear hae
    go_wp2
    obtain ⟨hq, ff⟩ := fin7 hR6 (.int .i64 0) (.int .i64 0) (.int .i64 0) (.string ⟨#[]⟩) (.slice none 0 0) (.slice none 0 0) (.slice none 0 0)
    have fff := (f0.seq' fr4).trans ff (S := fun _ => False) (fun i hi e => by omega)
    generalize ((((((w4.setCell ⟨w.heap.size + 1, 0, none⟩ (.int .i64 0)).setCell ⟨w.heap.size + 1, 1, none⟩ (.int .i64 0)).setCell ⟨w.heap.size + 1, 2, none⟩ (.int .i64 0)).setCell ⟨w.heap.size + 1, 3, none⟩ (.string ⟨#[]⟩)).setCell ⟨w.heap.size + 1, 4, none⟩ (.slice none 0 0)).setCell ⟨w.heap.size + 1, 5, none⟩ (.slice none 0 0)).setCell ⟨w.heap.size + 1, 6, none⟩ (.slice none 0 0) = Wf at hq fff ⊢
    obtain ⟨⟨q0, q1, q2, q3, q4, q5, q6⟩, _⟩ := node_cells hq
    rw [HE.out, okN_no HP0.out]
    exact bodyPost_ret (v := .tuple #[.agg #[.int .i64 0, .int .i64 0, .int .i64 0, .string ⟨#[]⟩, .slice none 0 0, .slice none 0 0, .slice none 0 0], .int .i64 ae]) (by simp [results, Tryz.results72, go_sem, q0, q1, q2, q3, q4, q5, q6]) rfl ⟨zp, rfl, zn_nod _, fff, zp_nw _⟩
end Go.Proofs.YtnckmajfmkkpgaaGreat
