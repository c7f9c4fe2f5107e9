
/- NdPost. -/
import Derived.Test.YtnckmajfmkkpgaaGreatBB26
/- What Post makes. -/
namespace Go.Proofs.YtnckmajfmkkpgaaGreat
open Go.RowKit

/-- A node with a kid more. -/
def postN (n : Nd) (k : ByteArray) (kid : Int) : Nd := if (plc (bsOf k) n.keys).2 = true then n else ⟨n.lev, n.lsn, n.rgt, n.high, insAll false (plc (bsOf k) n.keys).1 k n.keys, [], insAll false ((plc (bsOf k) n.keys).1 + 1) kid n.kids⟩
def postF (n : Nd) (k : ByteArray) (kid : Int) : Int := if (plc (bsOf k) n.keys).2 = true ∧ n.kids.getD ((plc (bsOf k) n.keys).1 + 1) 0 ≠ kid then 4 else fitE (postN n k kid)
def postE (n : Nd) (k : ByteArray) (kid : Int) : Int := if askE n k 0 (nuE kid) 2 = 0 then postF n k kid else askE n k 0 (nuE kid) 2
theorem rt_short2 {n : Nd} (r : Rt n) (h0 : n.lev ≠ 0) : Short n :=
  ⟨by have := r.high; omega, fun s hs => Nat.le_trans (size_of_mem (fun i hi => (r.keys i hi).1.2) s hs) (by omega), fun s hs => by rw [List.eq_nil_of_length_eq_zero (r.inner h0).2.1] at hs; cases hs⟩
theorem postN_hit {n : Nd} {k : ByteArray} {kid : Int} {i : Nat} (hf : plc (bsOf k) n.keys = (i, true)) : postN n k kid = n := by unfold postN; rw [hf]; rfl
theorem postN_miss {n : Nd} {k : ByteArray} {kid : Int} {i : Nat} (r : Rt n) (h0 : n.lev ≠ 0) (hf : plc (bsOf k) n.keys = (i, false)) : postN n k kid = { n with keys := insAll false i k n.keys, kids := insAll false (i + 1) kid n.kids } := by
  have hv : n.vals = [] := List.eq_nil_of_length_eq_zero (r.inner h0).2.1
  unfold postN; rw [hf, if_neg (by simp), ← hv]
theorem fit_rt {n : Nd} (r : Rt n) : fitE n = 0 := by unfold fitE; rw [(right_iff n).2 r, if_pos rfl]
theorem postF_hit {n : Nd} {k : ByteArray} {kid : Int} {i : Nat} (r : Rt n) (hf : plc (bsOf k) n.keys = (i, true)) (he : n.kids.getD (i + 1) 0 = kid) : postF n k kid = 0 := by
  unfold postF; rw [postN_hit hf, hf, if_neg (fun e => e.2 he)]; exact fit_rt r
theorem postF_form {n : Nd} {k : ByteArray} {kid : Int} {i : Nat} (hf : plc (bsOf k) n.keys = (i, true)) (he : n.kids.getD (i + 1) 0 ≠ kid) : postF n k kid = 4 := by
  unfold postF; rw [hf, if_pos ⟨rfl, he⟩]
theorem postF_miss {n : Nd} {k : ByteArray} {kid : Int} {i : Nat} (hf : plc (bsOf k) n.keys = (i, false)) : postF n k kid = fitE (postN n k kid) := by
  unfold postF; rw [hf, if_neg (by simp)]
set_option maxRecDepth 100000 in
set_option maxHeartbeats 4000000 in
theorem post_any (n : Nd) (p : Pt) (k : ByteArray) (kid : Int) (hk : k.size ≤ maxLen) (w : World) (h : Nod w n p) : Calls Tryz.prog 73 #[(.agg #[.int .i64 n.lev, .int .i64 n.lsn, .int .i64 n.rgt, .string n.high, .slice p.k n.keys.length p.kc, .slice p.v n.vals.length p.vc, .slice p.i n.kids.length p.ic]), .string k, .int .i64 kid] w fun e w' => NdOut2 (okN (postE n k kid) (postN n k kid)) (postE n k kid) w e w' := by
  have f0 : Fr (fun _ => False) w ((w.alloc (.cells #[.int .i64 n.lev, .int .i64 n.lsn, .int .i64 n.rgt, .string n.high, .slice p.k n.keys.length p.kc, .slice p.v n.vals.length p.vc, .slice p.i n.kids.length p.ic] 28)).alloc (.cells #[.int .i64 0, .int .i64 0, .int .i64 0, .string ⟨#[]⟩, .slice none 0 0, .slice none 0 0, .slice none 0 0] 28)) := ((Fr.refl _ _).alloc _).alloc _
  have HB : Hid (∀ W, Fr (fun _ => False) ((w.alloc (.cells #[.int .i64 n.lev, .int .i64 n.lsn, .int .i64 n.rgt, .string n.high, .slice p.k n.keys.length p.kc, .slice p.v n.vals.length p.vc, .slice p.i n.kids.length p.ic] 28)).alloc (.cells #[.int .i64 0, .int .i64 0, .int .i64 0, .string ⟨#[]⟩, .slice none 0 0, .slice none 0 0, .slice none 0 0] 28)) W → W.cell? ⟨w.heap.size, 0, none⟩ = some (.int .i64 n.lev) ∧ W.cell? ⟨w.heap.size, 1, none⟩ = some (.int .i64 n.lsn) ∧ W.cell? ⟨w.heap.size, 2, none⟩ = some (.int .i64 n.rgt) ∧ W.cell? ⟨w.heap.size, 3, none⟩ = some (.string n.high) ∧ W.cell? ⟨w.heap.size, 4, none⟩ = some (.slice p.k n.keys.length p.kc) ∧ W.cell? ⟨w.heap.size, 5, none⟩ = some (.slice p.v n.vals.length p.vc) ∧ W.cell? ⟨w.heap.size, 6, none⟩ = some (.slice p.i n.kids.length p.ic)) := fun W f => box_cells (box_at w n p 28 (((Fr.refl _ _).alloc _).seq' f))
  have HBB : Hid (∀ W, Fr (fun _ => False) ((w.alloc (.cells #[.int .i64 n.lev, .int .i64 n.lsn, .int .i64 n.rgt, .string n.high, .slice p.k n.keys.length p.kc, .slice p.v n.vals.length p.vc, .slice p.i n.kids.length p.ic] 28)).alloc (.cells #[.int .i64 0, .int .i64 0, .int .i64 0, .string ⟨#[]⟩, .slice none 0 0, .slice none 0 0, .slice none 0 0] 28)) W → W.heap[w.heap.size]? = some (.cells #[.int .i64 n.lev, .int .i64 n.lsn, .int .i64 n.rgt, .string n.high, .slice p.k n.keys.length p.kc, .slice p.v n.vals.length p.vc, .slice p.i n.kids.length p.ic] 28 (0, 0))) := fun W f => box_at w n p 28 (((Fr.refl _ _).alloc _).seq' f)
  have HRB : Hid (∀ W, Fr (fun _ => False) ((w.alloc (.cells #[.int .i64 n.lev, .int .i64 n.lsn, .int .i64 n.rgt, .string n.high, .slice p.k n.keys.length p.kc, .slice p.v n.vals.length p.vc, .slice p.i n.kids.length p.ic] 28)).alloc (.cells #[.int .i64 0, .int .i64 0, .int .i64 0, .string ⟨#[]⟩, .slice none 0 0, .slice none 0 0, .slice none 0 0] 28)) W → W.heap[w.heap.size + 1]? = some (.cells #[.int .i64 0, .int .i64 0, .int .i64 0, .string ⟨#[]⟩, .slice none 0 0, .slice none 0 0, .slice none 0 0] 28 (0, 0))) := fun W f => by
    refine f.blk ?_ (fun f => f)
    have := heap_alloc_new (w.alloc (.cells #[.int .i64 n.lev, .int .i64 n.lsn, .int .i64 n.rgt, .string n.high, .slice p.k n.keys.length p.kc, .slice p.v n.vals.length p.vc, .slice p.i n.kids.length p.ic] 28)) (.cells #[.int .i64 0, .int .i64 0, .int .i64 0, .string ⟨#[]⟩, .slice none 0 0, .slice none 0 0, .slice none 0 0] 28)
    rw [show (w.alloc (.cells #[.int .i64 n.lev, .int .i64 n.lsn, .int .i64 n.rgt, .string n.high, .slice p.k n.keys.length p.kc, .slice p.v n.vals.length p.vc, .slice p.i n.kids.length p.ic] 28)).heap.size = w.heap.size + 1 by simp] at this
    exact this
  have hh := high_le h
  have fr0 := (Fr.refl (fun _ => False) ((w.alloc (.cells #[.int .i64 n.lev, .int .i64 n.lsn, .int .i64 n.rgt, .string n.high, .slice p.k n.keys.length p.kc, .slice p.v n.vals.length p.vc, .slice p.i n.kids.length p.ic] 28)).alloc (.cells #[.int .i64 0, .int .i64 0, .int .i64 0, .string ⟨#[]⟩, .slice none 0 0, .slice none 0 0, .slice none 0 0] 28))).drew
  have q0 := HB.out _ fr0
  have hN := h.same (f0.seq' fr0)
  have HA : Hid (firstE [rgE n, ekey k.size, nuE kid, suE n k 2] = askE n k 0 (nuE kid) 2) := ask_n n k (nuE kid) 2
  have HOK : Hid (askE n k 0 (nuE kid) 2 = 0 → Rt n ∧ n.lev ≠ 0 ∧ k.size ≤ 16) := fun h => ⟨(ask_ok h).1, ask2_inner h, (ask_ok h).2.1.2⟩
  have HPU : Hid (postE n k kid = if askE n k 0 (nuE kid) 2 = 0 then postF n k kid else askE n k 0 (nuE kid) 2) := rfl
  generalize askE n k 0 (nuE kid) 2 = ae at *
  go_enter Tryz.func73, Tryz.ntmps73
  go_wp2_with fail
  go_region_held3 (fun W => W.cell? ⟨w.heap.size, 0, none⟩ = some (.int .i64 n.lev) ∧ W.cell? ⟨w.heap.size, 1, none⟩ = some (.int .i64 n.lsn) ∧ W.cell? ⟨w.heap.size, 2, none⟩ = some (.int .i64 n.rgt) ∧ W.cell? ⟨w.heap.size, 3, none⟩ = some (.string n.high) ∧ W.cell? ⟨w.heap.size, 4, none⟩ = some (.slice p.k n.keys.length p.kc) ∧ W.cell? ⟨w.heap.size, 5, none⟩ = some (.slice p.v n.vals.length p.vc) ∧ W.cell? ⟨w.heap.size, 6, none⟩ = some (.slice p.i n.kids.length p.ic))
    (first | with_reducible exact q0 | with_reducible exact q1 | with_reducible exact q3 | with_reducible exact q4)
    (first
      | (go_at_call 91; refine (checkNode_any n p _ hN).mono ?_; rintro e w1 ⟨rfl, m1⟩; have fr1 := fr0.seq' m1; have q1 := HB.out _ fr1)
      | (go_at_call 78; refine (kcheck_any k _).mono ?_; rintro e w2 ⟨rfl, rfl⟩)
      | (go_at_call 99; refine (checkPage_any kid _).mono ?_; rintro e w2 ⟨rfl, rfl⟩)
      | (go_at_call 93; refine (suits_any n p k 2 (by omega) hh hk _).mono ?_; rintro e w3 ⟨rfl, m3⟩; have fr3 := fr1.seq' m3; have q3 := HB.out _ fr3; have fr4 := fr3.alloc (.cells #[.int .i64 (rgE n), .int .i64 (ekey k.size : Nat), .int .i64 (nuE kid), .int .i64 (suE n k 2)] 31); have q4 := HB.out _ fr4)
      | (go_at_call 90; refine (first4 (rgE n) (ekey k.size : Nat) (nuE kid) (suE n k 2) w3).mono ?_; rw [HA.out]; rintro e w5 ⟨rfl, rfl⟩))
  have hN4 := h.same (f0.seq' fr4)
  have F4 := f0.seq' fr4
  obtain ⟨c0, c1, c2, c3, c4, c5, c6⟩ := q4
  generalize w3.alloc (.cells #[.int .i64 (rgE n), .int .i64 (ekey k.size : Nat), .int .i64 (nuE kid), .int .i64 (suE n k 2)] 31) = w4 at *
  clear q0 q1 q3
  by_cases hae : ae = 0
  · subst hae
    obtain ⟨r, hlev, hk16⟩ := HOK.out rfl
    rw [if_pos rfl] at HPU
    have hfew := keys_few r
    have HR : Hid (Rt n ∧ n.lev ≠ 0) := ⟨r, hlev⟩
    have HIL : Hid (n.kids.length = n.keys.length + 1) := (r.inner hlev).1
    have HSH : Hid (Short n) := rt_short2 r hlev
    have HLN : Hid (n.keys.length ≤ 100000 ∧ n.vals.length ≤ 100000 ∧ n.kids.length ≤ 100000) := ⟨by omega, by rw [(r.inner hlev).2.1]; omega, by rw [(r.inner hlev).1]; omega⟩
    have hcp := copied_any n p HLN.out.1 HLN.out.2.1 HLN.out.2.2 _ hN4
    have h42 : w.heap.size + 2 ≤ w4.heap.size := by have := fr4.size; simp at this; omega
    have hpl := plc_pl (k := bsOf k) r.srt
    clear r hlev HOK HA
    go_wp2_with fail
    refine hcp.mono ?_
    rintro e wc ⟨ak, ck, av, cv, ai, ci, rfl, hK, hV, hI, oK, oV, oI, nkv, nki, nvi, fc⟩
    clear c0 c1 c2 c3 c4 c5 c6
    have frc := fr4.seq' fc
    have hbc := HBB.out _ frc
    have hRc := HRB.out _ frc
    obtain ⟨Y, fY⟩ := By.start hbc (f0.seq' frc) h42 hK hV hI oK oV oI nkv nki nvi
    have hRY := fY.blk hRc (by omega)
    have hszY : w.heap.size + 1 < wc.heap.size := by have := fc.size; omega
    obtain ⟨⟨c0, c1, c2, c3, c4, c5, c6⟩, cz⟩ := node_cells hbc
    have y0 := cz 0; have y1 := cz 1; have y2 := cz 2; have y3 := cz 3; have y4 := cz 4; have y5 := cz 5; have y6 := cz 6
    have hszY2 := fY.size
    obtain ⟨WY, hWY⟩ : ∃ W, W = ((((((wc.setCell ⟨w.heap.size, 0, none⟩ (.int .i64 n.lev)).setCell ⟨w.heap.size, 1, none⟩ (.int .i64 n.lsn)).setCell ⟨w.heap.size, 2, none⟩ (.int .i64 n.rgt)).setCell ⟨w.heap.size, 3, none⟩ (.string n.high)).setCell ⟨w.heap.size, 4, none⟩ (.slice ak n.keys.length ck)).setCell ⟨w.heap.size, 5, none⟩ (.slice av n.vals.length cv)).setCell ⟨w.heap.size, 6, none⟩ (.slice ai n.kids.length ci) := ⟨_, rfl⟩
    rw [← hWY] at Y hRY hszY2
    have HWY : Hid (WY = ((((((wc.setCell ⟨w.heap.size, 0, none⟩ (.int .i64 n.lev)).setCell ⟨w.heap.size, 1, none⟩ (.int .i64 n.lsn)).setCell ⟨w.heap.size, 2, none⟩ (.int .i64 n.rgt)).setCell ⟨w.heap.size, 3, none⟩ (.string n.high)).setCell ⟨w.heap.size, 4, none⟩ (.slice ak n.keys.length ck)).setCell ⟨w.heap.size, 5, none⟩ (.slice av n.vals.length cv)).setCell ⟨w.heap.size, 6, none⟩ (.slice ai n.kids.length ci)) := hWY
    have hpc := place_any ak n.keys.length ck n.keys rfl k hk WY (CpS.strs Y.keys HSH.out.keys)
    clear hWY cz fY
    go_wp2_with fail
    rw [← HWY.out]
    obtain ⟨pi, pf, hpe⟩ : ∃ pi pf, plc (bsOf k) n.keys = (pi, pf) := ⟨_, _, rfl⟩
    have HPE : Hid (plc (bsOf k) n.keys = (pi, pf)) := hpe
    rw [hpe] at hpl hpc
    simp only at hpl hpc
    refine hpc.mono ?_
    rintro e w6 ⟨rfl, f6⟩
    have Y6 := Y.same f6
    have hR6 := f6.blk hRY (fun f => f)
    have hs6 : w.heap.size + 1 < w6.heap.size := by have := f6.size; omega
    clear c0 c1 c2 c3 c4 c5 c6 y0 y1 y2 y3 y4 y5 y6 hpc hpe hbc hRc hRY Y hK hV hI oK oV oI nkv nki nvi HWY
    obtain ⟨⟨d0, d1, d2, d3, d4, d5, d6⟩, _⟩ := node_cells Y6.box
    cases pf
    case true =>
      have hpi := (hpl.eq rfl).1
      have hpv : pi + 1 < n.kids.length := by rw [HIL.out]; omega
      have hpvi : (pi : Int) + 1 < (n.kids.length : Int) := by omega
      have hks := h.ilen
      obtain ⟨g, og, eg, hgb, hcg⟩ := ints_some (CpI.ints Y6.kids) hpv
      have hkc := hcg (pi + 1) hpv
      subst eg
      clear hcg
      by_cases hke : n.kids.getD (pi + 1) 0 = kid
      · have HPF0 : Hid (postE n k kid = 0) := by show _ = _; rw [HPU.out, postF_hit HR.out.1 HPE.out hke]
        have HPN : Hid (postN n k kid = n) := postN_hit HPE.out
        rw [hke] at hkc
        obtain ⟨pf, e1, e2, e3, nd⟩ := Y6.nod HSH.out HLN.out.1 HLN.out.2.1 HLN.out.2.2
        have hfar0 := By.far (p := pf) (by rw [← e1, ← e2, ← e3]; exact Y6.toBx |> fun _ => Y6)
        have HNW0 : Hid (Nw w pf) := By.nw (p := pf) (by rw [← e1, ← e2, ← e3]; exact Y6.toBx |> fun _ => Y6) w (Nat.le_refl _)
        have hft := fun W hW => fitting_any n pf W hW
        have HD : Hid (postN n k kid = n) := HPN
        have HPU : Hid (postE n k kid = fitE (postN n k kid)) := by show _ = _; rw [HPF0.out, HPN.out, fit_rt HR.out.1]
        have HFR : Hid (Fr (fun _ => False) w w6) := Y6.fr
        simp only [Value.slice.injEq, true_and] at e1 e2 e3
        obtain ⟨rfl, rfl⟩ := e1
        obtain ⟨rfl, rfl⟩ := e2
        obtain ⟨e3a, rfl⟩ := e3
        rw [← e3a] at hft
        clear hpl hke e3a
        go_wp2_with fail
        refine (hft _ nd).mono ?_
        rintro e wF ⟨qf, rfl, ndq, fF, hqf⟩
        have HNW : Hid (Nw w qf) := hid_nw HNW0 hqf
        have hRF := fF.blk hR6 (fun f => f)
        obtain ⟨⟨s0, s1, s2, s3, s4, s5, s6⟩, sz⟩ := node_cells hRF
        have y0 := sz 0; have y1 := sz 1; have y2 := sz 2; have y3 := sz 3; have y4 := sz 4; have y5 := sz 5; have y6 := sz 6
        have hfar : ∀ c off, (qf.k = some ⟨c, off, none⟩ ∨ qf.v = some ⟨c, off, none⟩ ∨ qf.i = some ⟨c, off, none⟩) → c ≠ w.heap.size + 1 := by
          rcases hqf with rfl | rfl
          · exact hfar0
          · intro c off hx
            rcases hx with hx | hx | hx <;> cases hx
        have HPF : Hid (postE n k kid = fitE n) := by show _ = _; rw [HPU.out, HD.out]
        have HOF : Hid (okN (postE n k kid) (postN n k kid) = okN (fitE n) n) := by show _ = _; rw [HPF.out, HD.out]
        have FF := HFR.out.seq' fF
        generalize okN (fitE n) n = mo at *
        generalize fitE n = fe at *
        clear sz d0 d1 d2 d3 d4 d5 d6
        go_wp2
        obtain ⟨hq, ff⟩ := fin7 hRF (.int .i64 mo.lev) (.int .i64 mo.lsn) (.int .i64 mo.rgt) (.string mo.high) (.slice qf.k mo.keys.length qf.kc) (.slice qf.v mo.vals.length qf.vc) (.slice qf.i mo.kids.length qf.ic)
        have fff := FF.trans ff (S := fun _ => False) (fun i hi e => by omega)
        have ndf := nd_far ndq ff hfar
        generalize ((((((wF.setCell ⟨w.heap.size + 1, 0, none⟩ (.int .i64 mo.lev)).setCell ⟨w.heap.size + 1, 1, none⟩ (.int .i64 mo.lsn)).setCell ⟨w.heap.size + 1, 2, none⟩ (.int .i64 mo.rgt)).setCell ⟨w.heap.size + 1, 3, none⟩ (.string mo.high)).setCell ⟨w.heap.size + 1, 4, none⟩ (.slice qf.k mo.keys.length qf.kc)).setCell ⟨w.heap.size + 1, 5, none⟩ (.slice qf.v mo.vals.length qf.vc)).setCell ⟨w.heap.size + 1, 6, none⟩ (.slice qf.i mo.kids.length qf.ic) = Wf at hq fff ndf ⊢
        obtain ⟨⟨q0, q1, q2, q3, q4, q5, q6⟩, _⟩ := node_cells hq
        rw [HOF.out, HPF.out]
        exact bodyPost_ret (v := .tuple #[(.agg #[.int .i64 mo.lev, .int .i64 mo.lsn, .int .i64 mo.rgt, .string mo.high, .slice qf.k mo.keys.length qf.kc, .slice qf.v mo.vals.length qf.vc, .slice qf.i mo.kids.length qf.ic]), .int .i64 fe]) (by simp [results, Tryz.results73, go_sem, q0, q1, q2, q3, q4, q5, q6]) rfl ⟨qf, rfl, ndf, fff, HNW.out⟩
      · have HPF0 : Hid (postE n k kid = 4) := by show _ = _; rw [HPU.out, postF_form HPE.out hke]
        have hkb : (n.kids.getD (pi + 1) 0 != kid) = true := by simpa using hke
        obtain ⟨x, hx⟩ : ∃ x, x = n.kids.getD (pi + 1) 0 := ⟨_, rfl⟩
        rw [← hx] at hkc hkb
        obtain ⟨⟨s0, s1, s2, s3, s4, s5, s6⟩, sz⟩ := node_cells hR6
        have y0 := sz 0; have y1 := sz 1; have y2 := sz 2; have y3 := sz 3; have y4 := sz 4; have y5 := sz 5; have y6 := sz 6
        clear hpl hke hx sz
        go_wp2
        obtain ⟨hq, ff⟩ := fin7 hR6 (.int .i64 0) (.int .i64 0) (.int .i64 0) (.string ⟨#[]⟩) (.slice none 0 0) (.slice none 0 0) (.slice none 0 0)
        have fff := Y6.fr.trans ff (S := fun _ => False) (fun i hi e => by omega)
        generalize ((((((w6.setCell ⟨w.heap.size + 1, 0, none⟩ (.int .i64 0)).setCell ⟨w.heap.size + 1, 1, none⟩ (.int .i64 0)).setCell ⟨w.heap.size + 1, 2, none⟩ (.int .i64 0)).setCell ⟨w.heap.size + 1, 3, none⟩ (.string ⟨#[]⟩)).setCell ⟨w.heap.size + 1, 4, none⟩ (.slice none 0 0)).setCell ⟨w.heap.size + 1, 5, none⟩ (.slice none 0 0)).setCell ⟨w.heap.size + 1, 6, none⟩ (.slice none 0 0) = Wf at hq fff ⊢
        obtain ⟨⟨q0, q1, q2, q3, q4, q5, q6⟩, _⟩ := node_cells hq
        rw [HPF0.out, okN_no (by omega)]
        exact bodyPost_ret (v := .tuple #[.agg #[.int .i64 0, .int .i64 0, .int .i64 0, .string ⟨#[]⟩, .slice none 0 0, .slice none 0 0, .slice none 0 0], .int .i64 4]) (by simp [results, Tryz.results73, go_sem, q0, q1, q2, q3, q4, q5, q6]) rfl ⟨zp, rfl, zn_nod _, fff, zp_nw _⟩
    have hpi : pi ≤ n.keys.length := hpl.le
    have hpv : pi + 1 ≤ n.kids.length := by rw [HIL.out]; omega
    have HD : Hid (postN n k kid = { n with keys := insAll false pi k n.keys, kids := insAll false (pi + 1) kid n.kids }) := postN_miss HR.out.1 HR.out.2 HPE.out
    have HPU : Hid (postE n k kid = fitE (postN n k kid)) := by show _ = _; rw [HPU.out, postF_miss HPE.out]
    have HLE : Hid ((insAll false pi k n.keys).length = n.keys.length + 1) := insAll_len pi k n.keys hpi
    have HLV : Hid ((insAll false (pi + 1) kid n.kids).length = n.kids.length + 1) := insAll_len (pi + 1) kid n.kids hpv
    have HSE : Hid (Short { n with keys := insAll false pi k n.keys, kids := insAll false (pi + 1) kid n.kids }) := ⟨HSH.out.high, fun s hs => by
      rcases insAll_mem _ _ _ _ s hs with e | e
      · rw [e]; omega
      · exact HSH.out.keys s e, HSH.out.vals⟩
    have HL1 : Hid (n.keys.length + 1 ≤ 100000 ∧ n.kids.length + 1 ≤ 100000) := ⟨by omega, by rw [HIL.out]; omega⟩
    have Y6a := Y6.same (Fr.box w6 (.cells #[.string k] 9))
    have hR6a := (Fr.box w6 (.cells #[.string k] 9)).blk hR6 (fun f => f)
    have hs6a : w.heap.size + 1 < (w6.alloc (.cells #[.string k] 9)).heap.size := by simp; omega
    have hin := insert_s _ n.keys.length (strCells n.keys) (strCells_one _) pi w6.heap.size (.string k) rfl 9 _ Y6a.keys (heap_alloc_new w6 _) (fun e => by have := Y6.keys.lt e; omega) hpi HLN.out.1
    have hpb : (pi : Int) + 1 ≤ 100000 := by omega
    clear hpl
    go_wp2_with fail
    refine hin.mono ?_
    rintro e w7 ⟨a7, c7, rfl, h7, f7, o7⟩
    rw [← ins_strs] at h7
    rw [← HLE.out] at h7 o7 ⊢
    obtain ⟨hb7, Y7⟩ := Y6a.newk hs6a h7 f7 o7
    have hR7 := f7.blk hR6a (fun e => by have := Y6.ok2 _ e; omega)
    have hR8 := ((Fr.refl (fun k => k = w.heap.size) w7).setCell (p := ⟨w.heap.size, 4, none⟩) (fun _ => rfl) (.slice a7 (insAll false pi k n.keys).length c7)).blk hR7 (by omega)
    have hs7 : w.heap.size + 1 < w7.heap.size := by have := f7.size; omega
    clear d0 d1 d2 d3 d4 d5 d6
    obtain ⟨⟨d0, d1, d2, d3, d4, d5, d6⟩, dz⟩ := node_cells hb7
    have z4 := dz 4
    clear dz hin
    go_wp2_with fail
    have e8 : (w7.setCell ⟨w.heap.size, 4, none⟩ (.slice a7 (insAll false pi k n.keys).length c7)).heap.size = w7.heap.size := by simp [World.setCell]
    have hnv := heap_alloc_new (w7.setCell ⟨w.heap.size, 4, none⟩ (.slice a7 (insAll false pi k n.keys).length c7)) (.cells #[.int .i64 kid] 3)
    rw [e8] at hnv
    have Y8a := Y7.same (Fr.box (w7.setCell ⟨w.heap.size, 4, none⟩ (.slice a7 (insAll false pi k n.keys).length c7)) (.cells #[.int .i64 kid] 3))
    have hR8a := (Fr.box (w7.setCell ⟨w.heap.size, 4, none⟩ (.slice a7 (insAll false pi k n.keys).length c7)) (.cells #[.int .i64 kid] 3)).blk hR8 (fun f => f)
    have hs8a : w.heap.size + 1 < ((w7.setCell ⟨w.heap.size, 4, none⟩ (.slice a7 (insAll false pi k n.keys).length c7)).alloc (.cells #[.int .i64 kid] 3)).heap.size := by simp [World.setCell]; omega
    have hiv := insert_i _ n.kids.length (intCells n.kids) (intCells_one _) (pi + 1) w7.heap.size (.int .i64 kid) rfl 3 _ Y8a.kids hnv (fun e => by have := Y7.kids.lt e; rw [e8] at this; omega) hpv HLN.out.2.2
    rw [show (((pi + 1 : Nat)) : Int) = (pi : Int) + 1 by omega] at hiv
    generalize (w7.setCell ⟨w.heap.size, 4, none⟩ (.slice a7 (insAll false pi k n.keys).length c7)).alloc (.cells #[.int .i64 kid] 3) = W8 at *
    refine hiv.mono ?_
    rintro e w9 ⟨a9, c9, rfl, h9, f9, o9⟩
    rw [← ins_ints] at h9
    rw [← HLV.out] at h9 o9 ⊢
    obtain ⟨hb9, Y9⟩ := Y8a.newi hs8a h9 f9 o9
    have hR9 := f9.blk hR8a (fun e => by have := Y8a.oi2 _ e; omega)
    have hRA := ((Fr.refl (fun k => k = w.heap.size) w9).setCell (p := ⟨w.heap.size, 6, none⟩) (fun _ => rfl) (.slice a9 (insAll false (pi + 1) kid n.kids).length c9)).blk hR9 (by omega)
    obtain ⟨pf, e1, e2, e3, nd⟩ := Y9.nod HSE.out (by rw [HLE.out]; exact HL1.out.1) HLN.out.2.1 (by rw [HLV.out]; exact HL1.out.2)
    have hfar0 := By.far (p := pf) (by rw [← e1, ← e2, ← e3]; exact Y9)
    have HNW0 : Hid (Nw w pf) := By.nw (p := pf) (by rw [← e1, ← e2, ← e3]; exact Y9) w (Nat.le_refl _)
    have hft := fun W hW => fitting_any { n with keys := insAll false pi k n.keys, kids := insAll false (pi + 1) kid n.kids } pf W hW
    have HFR : Hid (Fr (fun _ => False) w (w9.setCell ⟨w.heap.size, 6, none⟩ (.slice a9 (insAll false (pi + 1) kid n.kids).length c9))) := Y9.fr
    simp only [Value.slice.injEq, true_and] at e1 e2 e3
    obtain ⟨rfl, rfl⟩ := e1
    obtain ⟨rfl, rfl⟩ := e2
    obtain ⟨rfl, rfl⟩ := e3
    clear d0 d1 d2 d3 d4 d5 d6 z4
    obtain ⟨⟨d0, d1, d2, d3, d4, d5, d6⟩, dz⟩ := node_cells hb9
    have z6 := dz 6
    clear dz hiv Y9 Y8a Y7 Y6a Y6 hpb
    go_wp2_with fail
    refine (hft _ nd).mono ?_
    rintro e wF ⟨qf, rfl, ndq, fF, hqf⟩
    have HNW : Hid (Nw w qf) := hid_nw HNW0 hqf
    have hRF := fF.blk hRA (fun f => f)
    obtain ⟨⟨s0, s1, s2, s3, s4, s5, s6⟩, sz⟩ := node_cells hRF
    have y0 := sz 0; have y1 := sz 1; have y2 := sz 2; have y3 := sz 3; have y4 := sz 4; have y5 := sz 5; have y6 := sz 6
    have hfar : ∀ c off, (qf.k = some ⟨c, off, none⟩ ∨ qf.v = some ⟨c, off, none⟩ ∨ qf.i = some ⟨c, off, none⟩) → c ≠ w.heap.size + 1 := by
      rcases hqf with rfl | rfl
      · exact hfar0
      · intro c off hx
        rcases hx with hx | hx | hx <;> cases hx
    have HPF : Hid (postE n k kid = fitE { n with keys := insAll false pi k n.keys, kids := insAll false (pi + 1) kid n.kids }) := by show _ = _; rw [HPU.out, HD.out]
    have HOF : Hid (okN (postE n k kid) (postN n k kid) = okN (fitE { n with keys := insAll false pi k n.keys, kids := insAll false (pi + 1) kid n.kids }) { n with keys := insAll false pi k n.keys, kids := insAll false (pi + 1) kid n.kids }) := by show _ = _; rw [HPF.out, HD.out]
    have FF := HFR.out.seq' fF
    generalize okN (fitE { n with keys := insAll false pi k n.keys, kids := insAll false (pi + 1) kid n.kids }) { n with keys := insAll false pi k n.keys, kids := insAll false (pi + 1) kid n.kids } = mo at *
    generalize fitE { n with keys := insAll false pi k n.keys, kids := insAll false (pi + 1) kid n.kids } = fe at *
    clear sz d0 d1 d2 d3 d4 d5 d6
    go_wp2
    obtain ⟨hq, ff⟩ := fin7 hRF (.int .i64 mo.lev) (.int .i64 mo.lsn) (.int .i64 mo.rgt) (.string mo.high) (.slice qf.k mo.keys.length qf.kc) (.slice qf.v mo.vals.length qf.vc) (.slice qf.i mo.kids.length qf.ic)
    have fff := FF.trans ff (S := fun _ => False) (fun i hi e => by omega)
    have ndf := nd_far ndq ff hfar
    generalize ((((((wF.setCell ⟨w.heap.size + 1, 0, none⟩ (.int .i64 mo.lev)).setCell ⟨w.heap.size + 1, 1, none⟩ (.int .i64 mo.lsn)).setCell ⟨w.heap.size + 1, 2, none⟩ (.int .i64 mo.rgt)).setCell ⟨w.heap.size + 1, 3, none⟩ (.string mo.high)).setCell ⟨w.heap.size + 1, 4, none⟩ (.slice qf.k mo.keys.length qf.kc)).setCell ⟨w.heap.size + 1, 5, none⟩ (.slice qf.v mo.vals.length qf.vc)).setCell ⟨w.heap.size + 1, 6, none⟩ (.slice qf.i mo.kids.length qf.ic) = Wf at hq fff ndf ⊢
    obtain ⟨⟨q0, q1, q2, q3, q4, q5, q6⟩, _⟩ := node_cells hq
    rw [HOF.out, HPF.out]
    exact bodyPost_ret (v := .tuple #[(.agg #[.int .i64 mo.lev, .int .i64 mo.lsn, .int .i64 mo.rgt, .string mo.high, .slice qf.k mo.keys.length qf.kc, .slice qf.v mo.vals.length qf.vc, .slice qf.i mo.kids.length qf.ic]), .int .i64 fe]) (by simp [results, Tryz.results73, go_sem, q0, q1, q2, q3, q4, q5, q6]) rfl ⟨qf, rfl, ndf, fff, HNW.out⟩
  · have hne : (ae != 0) = true := by simpa using hae
    have HP0 : Hid (ae ≠ 0) := hae
    rw [if_neg hae] at HPU
    have hR6 := HRB.out _ fr4
    obtain ⟨⟨s0, s1, s2, s3, s4, s5, s6⟩, sz⟩ := node_cells hR6
    have y0 := sz 0; have y1 := sz 1; have y2 := sz 2; have y3 := sz 3; have y4 := sz 4; have y5 := sz 5; have y6 := sz 6
    clear hae sz
    go_wp2
    obtain ⟨hq, ff⟩ := fin7 hR6 (.int .i64 0) (.int .i64 0) (.int .i64 0) (.string ⟨#[]⟩) (.slice none 0 0) (.slice none 0 0) (.slice none 0 0)
    have fff := (f0.seq' fr4).trans ff (S := fun _ => False) (fun i hi e => by omega)
    generalize ((((((w4.setCell ⟨w.heap.size + 1, 0, none⟩ (.int .i64 0)).setCell ⟨w.heap.size + 1, 1, none⟩ (.int .i64 0)).setCell ⟨w.heap.size + 1, 2, none⟩ (.int .i64 0)).setCell ⟨w.heap.size + 1, 3, none⟩ (.string ⟨#[]⟩)).setCell ⟨w.heap.size + 1, 4, none⟩ (.slice none 0 0)).setCell ⟨w.heap.size + 1, 5, none⟩ (.slice none 0 0)).setCell ⟨w.heap.size + 1, 6, none⟩ (.slice none 0 0) = Wf at hq fff ⊢
    obtain ⟨⟨q0, q1, q2, q3, q4, q5, q6⟩, _⟩ := node_cells hq
    rw [HPU.out, okN_no HP0.out]
    exact bodyPost_ret (v := .tuple #[.agg #[.int .i64 0, .int .i64 0, .int .i64 0, .string ⟨#[]⟩, .slice none 0 0, .slice none 0 0, .slice none 0 0], .int .i64 ae]) (by simp [results, Tryz.results73, go_sem, q0, q1, q2, q3, q4, q5, q6]) rfl ⟨zp, rfl, zn_nod _, fff, zp_nw _⟩
end Go.Proofs.YtnckmajfmkkpgaaGreat
