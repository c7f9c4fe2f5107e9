
/- RdApply, RcArg, RcList, RdSlot. -/
import Derived.Test.YtnckmajfmkkpgaaGreatBB28
import Derived.Deep.DeepCutAuto
import Derived.Test.YtnckmajfmkkpgaaGreatBB9
import Derived.Test.YtnckmajfmkkpgaaGreatBB23
import Derived.Test.YtnckmajfmkkpgaaGreatBB13
import Derived.Deep.Strs
/- What Apply makes of a page's node. -/
namespace Go.Proofs.YtnckmajfmkkpgaaGreat
open Go.RowKit

/-- Why a record is not looked at further. -/
def preE (n : Nd) (b : Bool) (r : Rec) : Int := firstE [erec r, if b = true then rgE n else 0, needE r.kind b]
def oldB (n : Nd) (b : Bool) (r : Rec) : Bool := b && decide (r.lsn ≤ n.lsn)
/-- Apply: its error, whether something was done, the node. -/
def apE (n : Nd) (b : Bool) (r : Rec) : Int := if preE n b r = 0 then (if oldB n b r = true then 0 else if chE n r = 0 then 0 else 90) else preE n b r
def apD (n : Nd) (b : Bool) (r : Rec) : Bool := if preE n b r = 0 then (if oldB n b r = true then false else chE n r == 0) else false
def withL (m : Nd) (l : Int) : Nd := ⟨m.lev, l, m.rgt, m.high, m.keys, m.vals, m.kids⟩
def apN (n : Nd) (b : Bool) (r : Rec) : Nd := if preE n b r = 0 then (if oldB n b r = true then n else if chE n r = 0 then withL (chN n r) r.lsn else zn) else zn
theorem Nod.withL {w : World} {m : Nd} {q : Pt} (h : Nod w m q) (l : Int) : Nod w (withL m l) q := ⟨h.keys, h.vals, h.kids, h.high, h.ksz, h.vsz, h.klen, h.vlen, h.ilen⟩
def ApOut (m : Nd) (d : Bool) (err : Int) (w : World) (e : Ending) (w' : World) : Prop := ∃ q : Pt, e = .returned (.tuple #[(.agg #[.int .i64 m.lev, .int .i64 m.lsn, .int .i64 m.rgt, .string m.high, .slice q.k m.keys.length q.kc, .slice q.v m.vals.length q.vc, .slice q.i m.kids.length q.ic]), .bool d, .int .i64 err]) ∧ Nod w' m q ∧ Fr (fun _ => False) w w' ∧ Nw w q
/-- What stands behind a record that is looked at further. -/
theorem pre_ok {n : Nd} {b : Bool} {r : Rec} (h : preE n b r = 0) : rok r = true ∧ (b = true → Rt n) ∧ needE r.kind b = 0 := by
  unfold preE at h
  simp only [firstE] at h
  have h1 : erec r = 0 := by
    by_cases e : erec r = 0
    · exact e
    · rw [if_neg e] at h; exact h
  rw [if_pos h1] at h
  have h2 : (if b = true then rgE n else 0) = 0 := by
    by_cases e : (if b = true then rgE n else 0) = 0
    · exact e
    · rw [if_neg e] at h; exact h
  rw [if_pos h2] at h
  refine ⟨?_, fun hb => ?_, ?_⟩
  · cases hr : rok r
    · rw [erec_no hr] at h1; omega
    · rfl
  · rw [if_pos hb] at h2
    unfold rgE at h2
    refine (right_iff n).1 ?_
    by_cases e : rightB n = true
    · exact e
    · rw [if_neg e] at h2; omega
  · by_cases e : needE r.kind b = 0
    · exact e
    · rw [if_neg e] at h; exact h
theorem ap_err {n : Nd} {b : Bool} {r : Rec} {ae : Int} (h : preE n b r = ae) (h0 : ae ≠ 0) : apN n b r = zn ∧ apD n b r = false ∧ apE n b r = ae := by
  subst h
  exact ⟨if_neg h0, if_neg h0, if_neg h0⟩
theorem ap_old {n : Nd} {b : Bool} {r : Rec} (h : preE n b r = 0) (ho : oldB n b r = true) : apN n b r = n ∧ apD n b r = false ∧ apE n b r = 0 := by
  unfold apN apD apE
  rw [if_pos h, if_pos h, if_pos h, if_pos ho, if_pos ho, if_pos ho]
  exact ⟨rfl, rfl, rfl⟩
theorem ap_bad {n : Nd} {b : Bool} {r : Rec} (h : preE n b r = 0) (ho : oldB n b r = false) (hc : chE n r ≠ 0) : apN n b r = zn ∧ apD n b r = false ∧ apE n b r = 90 := by
  unfold apN apD apE
  simp [h, ho, hc]
theorem ap_ok {n : Nd} {b : Bool} {r : Rec} (h : preE n b r = 0) (ho : oldB n b r = false) (hc : chE n r = 0) : apN n b r = withL (chN n r) r.lsn ∧ apD n b r = true ∧ apE n b r = 0 := by
  unfold apN apD apE
  simp [h, ho, hc]
theorem rt_short3 {n : Nd} (r : Rt n) : Short n := by
  by_cases h0 : n.lev = 0
  · exact rt_short r h0
  · exact rt_short2 r h0
theorem rt_few {n : Nd} (r : Rt n) : n.keys.length ≤ 100000 ∧ n.vals.length ≤ 100000 ∧ n.kids.length ≤ 100000 := by
  have := keys_few r
  by_cases h0 : n.lev = 0
  · have := r.leaf h0; omega
  · have := r.inner h0; omega
theorem cp_nod {w w' : World} {n : Nd} {e : Ending} (h : CpOut n w e w') (hs : Short n) (h1 : n.keys.length ≤ 100000) (h2 : n.vals.length ≤ 100000) (h3 : n.kids.length ≤ 100000) : ∃ q : Pt, e = .returned (.agg #[.int .i64 n.lev, .int .i64 n.lsn, .int .i64 n.rgt, .string n.high, .slice q.k n.keys.length q.kc, .slice q.v n.vals.length q.vc, .slice q.i n.kids.length q.ic]) ∧ Nod w' n q ∧ Nw w q ∧ Fr (fun _ => False) w w' := by
  obtain ⟨ak, ck, av, cv, ai, ci, rfl, hk, hv, hi, ok, ov, oi, _, _, _, f⟩ := h
  obtain ⟨a1, c1, e1, s1⟩ := hk.strs hs.keys
  obtain ⟨a2, c2, e2, s2⟩ := hv.strs hs.vals
  obtain ⟨a3, c3, e3, s3⟩ := hi.ints
  simp only [Value.slice.injEq, true_and] at e1 e2 e3
  obtain ⟨rfl, rfl⟩ := e1
  obtain ⟨rfl, rfl⟩ := e2
  obtain ⟨rfl, rfl⟩ := e3
  refine ⟨⟨ak, ck, av, cv, ai, ci⟩, rfl, ⟨s1, s2, s3, by have := hs.high; omega, (fun s h => by have := hs.keys s h; omega), (fun s h => by have := hs.vals s h; omega), by omega, by omega, by omega⟩, ?_, f⟩
  rintro b off (hx | hx | hx)
  · dsimp only at hx; subst hx; exact ok b rfl
  · dsimp only at hx; subst hx; exact ov b rfl
  · dsimp only at hx; subst hx; exact oi b rfl
set_option maxRecDepth 100000 in
set_option maxHeartbeats 4000000 in
theorem apply_any (n : Nd) (p : Pt) (b : Bool) (r : Rec) (hkz : r.key.size ≤ 140737488351232) (hvz : r.val.size ≤ 140737488351232) (w : World) (h : Nod w n p) : Calls Tryz.prog 35 #[(.agg #[.int .i64 n.lev, .int .i64 n.lsn, .int .i64 n.rgt, .string n.high, .slice p.k n.keys.length p.kc, .slice p.v n.vals.length p.vc, .slice p.i n.kids.length p.ic]), .bool b, (.agg #[.int .i64 r.lsn, .int .i64 r.ep, .int .i64 r.kind, .int .i64 r.page, .int .i64 r.other, .int .i64 r.req, .string r.key, .string r.val])] w fun e w' => ApOut (apN n b r) (apD n b r) (apE n b r) w e w' := by
  have f0 : Fr (fun _ => False) w (((w.alloc (.cells #[.int .i64 n.lev, .int .i64 n.lsn, .int .i64 n.rgt, .string n.high, .slice p.k n.keys.length p.kc, .slice p.v n.vals.length p.vc, .slice p.i n.kids.length p.ic] 28)).alloc (.cells #[.int .i64 r.lsn, .int .i64 r.ep, .int .i64 r.kind, .int .i64 r.page, .int .i64 r.other, .int .i64 r.req, .string r.key, .string r.val] 35)).alloc (.cells #[.int .i64 0, .int .i64 0, .int .i64 0, .string ⟨#[]⟩, .slice none 0 0, .slice none 0 0, .slice none 0 0] 28)) := (((Fr.refl _ _).alloc _).alloc _).alloc _
  have HT : Hid (∀ W, Fr (fun _ => False) (((w.alloc (.cells #[.int .i64 n.lev, .int .i64 n.lsn, .int .i64 n.rgt, .string n.high, .slice p.k n.keys.length p.kc, .slice p.v n.vals.length p.vc, .slice p.i n.kids.length p.ic] 28)).alloc (.cells #[.int .i64 r.lsn, .int .i64 r.ep, .int .i64 r.kind, .int .i64 r.page, .int .i64 r.other, .int .i64 r.req, .string r.key, .string r.val] 35)).alloc (.cells #[.int .i64 0, .int .i64 0, .int .i64 0, .string ⟨#[]⟩, .slice none 0 0, .slice none 0 0, .slice none 0 0] 28)) W → W.heap[w.heap.size]? = some (.cells #[.int .i64 n.lev, .int .i64 n.lsn, .int .i64 n.rgt, .string n.high, .slice p.k n.keys.length p.kc, .slice p.v n.vals.length p.vc, .slice p.i n.kids.length p.ic] 28 (0, 0)) ∧ W.heap[w.heap.size + 1]? = some (.cells #[.int .i64 r.lsn, .int .i64 r.ep, .int .i64 r.kind, .int .i64 r.page, .int .i64 r.other, .int .i64 r.req, .string r.key, .string r.val] 35 (0, 0)) ∧ W.heap[w.heap.size + 2]? = some (.cells #[.int .i64 0, .int .i64 0, .int .i64 0, .string ⟨#[]⟩, .slice none 0 0, .slice none 0 0, .slice none 0 0] 28 (0, 0))) := fun W f => three_at w _ _ _ f
  have HQ : Hid (∀ W, Fr (fun _ => False) (((w.alloc (.cells #[.int .i64 n.lev, .int .i64 n.lsn, .int .i64 n.rgt, .string n.high, .slice p.k n.keys.length p.kc, .slice p.v n.vals.length p.vc, .slice p.i n.kids.length p.ic] 28)).alloc (.cells #[.int .i64 r.lsn, .int .i64 r.ep, .int .i64 r.kind, .int .i64 r.page, .int .i64 r.other, .int .i64 r.req, .string r.key, .string r.val] 35)).alloc (.cells #[.int .i64 0, .int .i64 0, .int .i64 0, .string ⟨#[]⟩, .slice none 0 0, .slice none 0 0, .slice none 0 0] 28)) W → (W.cell? ⟨w.heap.size, 0, none⟩ = some (.int .i64 n.lev) ∧ W.cell? ⟨w.heap.size, 1, none⟩ = some (.int .i64 n.lsn) ∧ W.cell? ⟨w.heap.size, 2, none⟩ = some (.int .i64 n.rgt) ∧ W.cell? ⟨w.heap.size, 3, none⟩ = some (.string n.high) ∧ W.cell? ⟨w.heap.size, 4, none⟩ = some (.slice p.k n.keys.length p.kc) ∧ W.cell? ⟨w.heap.size, 5, none⟩ = some (.slice p.v n.vals.length p.vc) ∧ W.cell? ⟨w.heap.size, 6, none⟩ = some (.slice p.i n.kids.length p.ic)) ∧ W.cell? ⟨(w.heap.size + 1), 0, none⟩ = some (.int .i64 r.lsn) ∧ W.cell? ⟨(w.heap.size + 1), 1, none⟩ = some (.int .i64 r.ep) ∧ W.cell? ⟨(w.heap.size + 1), 2, none⟩ = some (.int .i64 r.kind) ∧ W.cell? ⟨(w.heap.size + 1), 3, none⟩ = some (.int .i64 r.page) ∧ W.cell? ⟨(w.heap.size + 1), 4, none⟩ = some (.int .i64 r.other) ∧ W.cell? ⟨(w.heap.size + 1), 5, none⟩ = some (.int .i64 r.req) ∧ W.cell? ⟨(w.heap.size + 1), 6, none⟩ = some (.string r.key) ∧ W.cell? ⟨(w.heap.size + 1), 7, none⟩ = some (.string r.val)) := fun W f => ⟨box_cells (HT.out W f).1, (rec_cells (HT.out W f).2.1).1⟩
  have fr0 := (Fr.refl (fun _ => False) (((w.alloc (.cells #[.int .i64 n.lev, .int .i64 n.lsn, .int .i64 n.rgt, .string n.high, .slice p.k n.keys.length p.kc, .slice p.v n.vals.length p.vc, .slice p.i n.kids.length p.ic] 28)).alloc (.cells #[.int .i64 r.lsn, .int .i64 r.ep, .int .i64 r.kind, .int .i64 r.page, .int .i64 r.other, .int .i64 r.req, .string r.key, .string r.val] 35)).alloc (.cells #[.int .i64 0, .int .i64 0, .int .i64 0, .string ⟨#[]⟩, .slice none 0 0, .slice none 0 0, .slice none 0 0] 28))).drew
  have q0 := HQ.out _ fr0
  have HN : Hid (∀ W, Fr (fun _ => False) (((w.alloc (.cells #[.int .i64 n.lev, .int .i64 n.lsn, .int .i64 n.rgt, .string n.high, .slice p.k n.keys.length p.kc, .slice p.v n.vals.length p.vc, .slice p.i n.kids.length p.ic] 28)).alloc (.cells #[.int .i64 r.lsn, .int .i64 r.ep, .int .i64 r.kind, .int .i64 r.page, .int .i64 r.other, .int .i64 r.req, .string r.key, .string r.val] 35)).alloc (.cells #[.int .i64 0, .int .i64 0, .int .i64 0, .string ⟨#[]⟩, .slice none 0 0, .slice none 0 0, .slice none 0 0] 28)) W → Nod W n p) := fun W f => h.same (f0.seq' f)
  have HPRE : Hid (preE n b r = firstE [erec r, if b = true then rgE n else 0, needE r.kind b]) := rfl
  have HOK : Hid (preE n b r = 0 → rok r = true ∧ (b = true → Rt n) ∧ needE r.kind b = 0) := pre_ok
  have hc1 := rec_check r
  have hc2 := fun W hW => rd_checkNode n p b W hW
  have hc3 := rd_checkNeed r.lsn r.ep r.kind r.page r.other r.req r.key r.val b
  generalize erec r = e1 at *
  generalize (if b = true then rgE n else 0) = e2 at *
  obtain ⟨e3, he3⟩ : ∃ x, x = needE r.kind b := ⟨_, rfl⟩
  rw [← he3] at hc3 HPRE
  clear he3
  obtain ⟨ae, hae0⟩ : ∃ x, x = preE n b r := ⟨_, rfl⟩
  have HPR : Hid (preE n b r = ae) := hae0.symm
  have HFE : Hid (firstE [e1, e2, e3] = ae) := by show _ = _; rw [hae0]; exact HPRE.out.symm
  clear HPRE hae0
  have hch := change_any n p r hkz hvz
  unfold NdOut2 at hch
  have HCE : Hid (∀ x, x = chE n r → x = chE n r) := fun _ h => h
  obtain ⟨ce, hce⟩ : ∃ x, x = chE n r := ⟨_, rfl⟩
  have HCE : Hid (chE n r = ce) := hce.symm
  obtain ⟨cn, hcn⟩ : ∃ x, x = chN n r := ⟨_, rfl⟩
  have HCN : Hid (chN n r = cn) := hcn.symm
  rw [← hce, ← hcn] at hch
  obtain ⟨ob, hob⟩ : ∃ ob, ob = oldB n b r := ⟨_, rfl⟩
  have HOB : Hid (oldB n b r = ob) := hob.symm
  have HBO : Hid ((b && decide (r.lsn ≤ n.lsn)) = ob) := hob.symm
  clear hce hcn hob
  unfold ApOut
  go_enter Tryz.func35, Tryz.ntmps35
  go_wp2_with fail
  go_region_held3 (fun W => (W.cell? ⟨w.heap.size, 0, none⟩ = some (.int .i64 n.lev) ∧ W.cell? ⟨w.heap.size, 1, none⟩ = some (.int .i64 n.lsn) ∧ W.cell? ⟨w.heap.size, 2, none⟩ = some (.int .i64 n.rgt) ∧ W.cell? ⟨w.heap.size, 3, none⟩ = some (.string n.high) ∧ W.cell? ⟨w.heap.size, 4, none⟩ = some (.slice p.k n.keys.length p.kc) ∧ W.cell? ⟨w.heap.size, 5, none⟩ = some (.slice p.v n.vals.length p.vc) ∧ W.cell? ⟨w.heap.size, 6, none⟩ = some (.slice p.i n.kids.length p.ic)) ∧ W.cell? ⟨(w.heap.size + 1), 0, none⟩ = some (.int .i64 r.lsn) ∧ W.cell? ⟨(w.heap.size + 1), 1, none⟩ = some (.int .i64 r.ep) ∧ W.cell? ⟨(w.heap.size + 1), 2, none⟩ = some (.int .i64 r.kind) ∧ W.cell? ⟨(w.heap.size + 1), 3, none⟩ = some (.int .i64 r.page) ∧ W.cell? ⟨(w.heap.size + 1), 4, none⟩ = some (.int .i64 r.other) ∧ W.cell? ⟨(w.heap.size + 1), 5, none⟩ = some (.int .i64 r.req) ∧ W.cell? ⟨(w.heap.size + 1), 6, none⟩ = some (.string r.key) ∧ W.cell? ⟨(w.heap.size + 1), 7, none⟩ = some (.string r.val))
    (first | with_reducible exact q0 | with_reducible exact q1 | with_reducible exact q2 | with_reducible exact q3 | with_reducible exact q4)
    (first
      | (go_at_call 52; refine (hc1 _).mono ?_; rintro e w1 ⟨rfl, m1⟩; have fr1 := fr0.seq' m1; have q1 := HQ.out _ fr1)
      | (go_at_call 54; refine (hc2 _ (fun _ => HN.out _ fr1)).mono ?_; rintro e w2 ⟨rfl, m2⟩; have fr2 := fr1.seq' m2; have q2 := HQ.out _ fr2)
      | (go_at_call 55; refine (hc3 _).mono ?_; rintro e w3 ⟨rfl, m3⟩; have fr3 := fr2.seq' m3; have q3 := HQ.out _ fr3; have fr4 := fr3.alloc (.cells #[.int .i64 e1, .int .i64 e2, .int .i64 e3] 31); have q4 := HQ.out _ fr4)
      | (go_at_call 53; refine (rd_first3 e1 e2 e3 w3).mono ?_; rw [HFE.out]; rintro e w5 ⟨rfl, rfl⟩))
  obtain ⟨⟨c0, c1, c2, c3, c4, c5, c6⟩, r0, r1, r2, r3, r4, r5, r6, r7⟩ := q4
  generalize w3.alloc (.cells #[.int .i64 e1, .int .i64 e2, .int .i64 e3] 31) = w4 at *
  clear q0 q1 q2 q3 hc1 hc2 hc3
  by_cases hae : ae = 0
  · subst hae
    obtain ⟨hrok, hrt, hnd⟩ := HOK.out HPR.out
    cases ob
    · have hbf : b = false ∨ (b = true ∧ decide (r.lsn ≤ n.lsn) = false) := by
        have := HBO.out
        cases b
        · left; rfl
        · right; exact ⟨rfl, by simpa using this⟩
      have HNN : Hid (∀ W, Fr (fun _ => False) (((w.alloc (.cells #[.int .i64 n.lev, .int .i64 n.lsn, .int .i64 n.rgt, .string n.high, .slice p.k n.keys.length p.kc, .slice p.v n.vals.length p.vc, .slice p.i n.kids.length p.ic] 28)).alloc (.cells #[.int .i64 r.lsn, .int .i64 r.ep, .int .i64 r.kind, .int .i64 r.page, .int .i64 r.other, .int .i64 r.req, .string r.key, .string r.val] 35)).alloc (.cells #[.int .i64 0, .int .i64 0, .int .i64 0, .string ⟨#[]⟩, .slice none 0 0, .slice none 0 0, .slice none 0 0] 28)) W → Nod W n p) := HN.out
      clear hrok hrt hnd
      rcases hbf with rfl | ⟨rfl, hdl⟩
      all_goals
        go_wp2_with fail
        refine (hch _ (HNN.out _ fr4)).mono ?_
        rintro e w5 ⟨q, rfl, ndq, f5, hnw⟩
        have fr5 := fr4.seq' f5
        clear hch c0 c1 c2 c3 c4 c5 c6 r0 r1 r2 r3 r4 r5 r6 r7
        have fr6 := fr5.alloc (.cells #[.int .i64 cn.lev, .int .i64 cn.lsn, .int .i64 cn.rgt, .string cn.high, .slice q.k cn.keys.length q.kc, .slice q.v cn.vals.length q.vc, .slice q.i cn.kids.length q.ic] 28)
        have hz4 : w.heap.size + 3 ≤ w4.heap.size := by have := fr4.size; simp at this; omega
        by_cases hce : ce = 0
        · subst hce
          have hev := ap_ok HPR.out HOB.out HCE.out
          rw [HCN.out] at hev
          have fr7 := fr5.alloc (.cells #[.int .i64 cn.lev, .int .i64 r.lsn, .int .i64 cn.rgt, .string cn.high, .slice q.k cn.keys.length q.kc, .slice q.v cn.vals.length q.vc, .slice q.i cn.kids.length q.ic] 28)
          obtain ⟨⟨r0, r1, r2, r3, r4, r5, r6, r7⟩, _⟩ := rec_cells (HT.out _ fr6).2.1
          have nd7 := (ndq.same ((Fr.refl (fun _ => False) w5).alloc (.cells #[.int .i64 cn.lev, .int .i64 r.lsn, .int .i64 cn.rgt, .string cn.high, .slice q.k cn.keys.length q.kc, .slice q.v cn.vals.length q.vc, .slice q.i cn.kids.length q.ic] 28))).withL r.lsn
          obtain ⟨⟨k0, k1, k2, k3, k4, k5, k6⟩, _⟩ := node_cells (heap_alloc_new w5 (.cells #[.int .i64 cn.lev, .int .i64 r.lsn, .int .i64 cn.rgt, .string cn.high, .slice q.k cn.keys.length q.kc, .slice q.v cn.vals.length q.vc, .slice q.i cn.kids.length q.ic] 28))
          go_upto_region 10 with fail
          clear r0 r1 r2 r3 r4 r5 r6 r7 fr6
          generalize w5.alloc (.cells #[.int .i64 cn.lev, .int .i64 r.lsn, .int .i64 cn.rgt, .string cn.high, .slice q.k cn.keys.length q.kc, .slice q.v cn.vals.length q.vc, .slice q.i cn.kids.length q.ic] 28) = w6 at *
          obtain ⟨hq, ff⟩ := fin7 (HT.out _ fr7).2.2 (.int .i64 cn.lev) (.int .i64 r.lsn) (.int .i64 cn.rgt) (.string cn.high) (.slice q.k cn.keys.length q.kc) (.slice q.v cn.vals.length q.vc) (.slice q.i cn.kids.length q.ic)
          obtain ⟨⟨s0, s1, s2, s3, s4, s5, s6⟩, sz⟩ := node_cells (HT.out _ fr7).2.2
          have y0 := sz 0; have y1 := sz 1; have y2 := sz 2; have y3 := sz 3; have y4 := sz 4; have y5 := sz 5; have y6 := sz 6
          have fff := (f0.seq' fr7).trans ff (S := fun _ => False) (fun i hi e => by omega)
          clear sz
          go_wp2
          generalize ((((((w6.setCell ⟨w.heap.size + 2, 0, none⟩ (.int .i64 cn.lev)).setCell ⟨w.heap.size + 2, 1, none⟩ (.int .i64 r.lsn)).setCell ⟨w.heap.size + 2, 2, none⟩ (.int .i64 cn.rgt)).setCell ⟨w.heap.size + 2, 3, none⟩ (.string cn.high)).setCell ⟨w.heap.size + 2, 4, none⟩ (.slice q.k cn.keys.length q.kc)).setCell ⟨w.heap.size + 2, 5, none⟩ (.slice q.v cn.vals.length q.vc)).setCell ⟨w.heap.size + 2, 6, none⟩ (.slice q.i cn.kids.length q.ic) = Wf at hq ff fff ⊢
          obtain ⟨⟨q0, q1, q2, q3, q4, q5, q6⟩, _⟩ := node_cells hq
          rw [hev.1, hev.2.1, hev.2.2]
          exact bodyPost_ret (v := .tuple #[.agg #[.int .i64 cn.lev, .int .i64 r.lsn, .int .i64 cn.rgt, .string cn.high, .slice q.k cn.keys.length q.kc, .slice q.v cn.vals.length q.vc, .slice q.i cn.kids.length q.ic], .bool true, .int .i64 0]) (by simp [results, Tryz.results35, go_sem, q0, q1, q2, q3, q4, q5, q6]) rfl ⟨q, rfl, nd_far nd7 ff (fun b off hx e => by have := hnw b off hx; omega), fff, fun b off hx => by have := hnw b off hx; omega⟩
        · have hcb : (ce != 0) = true := by simpa using hce
          have hev := ap_bad HPR.out HOB.out (by rw [HCE.out]; exact hce)
          clear hce
          obtain ⟨hq, ff⟩ := fin7 (HT.out _ fr6).2.2 (.int .i64 0) (.int .i64 0) (.int .i64 0) (.string ⟨#[]⟩) (.slice none 0 0) (.slice none 0 0) (.slice none 0 0)
          obtain ⟨⟨s0, s1, s2, s3, s4, s5, s6⟩, sz⟩ := node_cells (HT.out _ fr6).2.2
          have y0 := sz 0; have y1 := sz 1; have y2 := sz 2; have y3 := sz 3; have y4 := sz 4; have y5 := sz 5; have y6 := sz 6
          have fff := (f0.seq' fr6).trans ff (S := fun _ => False) (fun i hi e => by omega)
          clear sz
          go_wp2
          generalize (((((((w5.alloc (.cells #[.int .i64 cn.lev, .int .i64 cn.lsn, .int .i64 cn.rgt, .string cn.high, .slice q.k cn.keys.length q.kc, .slice q.v cn.vals.length q.vc, .slice q.i cn.kids.length q.ic] 28)).setCell ⟨w.heap.size + 2, 0, none⟩ (.int .i64 0)).setCell ⟨w.heap.size + 2, 1, none⟩ (.int .i64 0)).setCell ⟨w.heap.size + 2, 2, none⟩ (.int .i64 0)).setCell ⟨w.heap.size + 2, 3, none⟩ (.string ⟨#[]⟩)).setCell ⟨w.heap.size + 2, 4, none⟩ (.slice none 0 0)).setCell ⟨w.heap.size + 2, 5, none⟩ (.slice none 0 0)).setCell ⟨w.heap.size + 2, 6, none⟩ (.slice none 0 0) = Wf at hq ff fff ⊢
          obtain ⟨⟨q0, q1, q2, q3, q4, q5, q6⟩, _⟩ := node_cells hq
          rw [hev.1, hev.2.1, hev.2.2]
          exact bodyPost_ret (v := .tuple #[.agg #[.int .i64 0, .int .i64 0, .int .i64 0, .string ⟨#[]⟩, .slice none 0 0, .slice none 0 0, .slice none 0 0], .bool false, .int .i64 90]) (by simp [results, Tryz.results35, go_sem, q0, q1, q2, q3, q4, q5, q6]) rfl ⟨zp, rfl, zn_nod _, fff, zp_nw _⟩
    · have hbt : b = true ∧ decide (r.lsn ≤ n.lsn) = true := by
        have := HBO.out
        cases b
        · cases this
        · exact ⟨rfl, this⟩
      obtain ⟨rfl, hdl⟩ := hbt
      have hR := hrt rfl
      have hev := ap_old HPR.out HOB.out
      have hfw := rt_few hR
      have hcp := rd_copied n p hfw.1 hfw.2.1 hfw.2.2 _ (HN.out _ fr4)
      clear hrok hnd hrt hch
      go_wp2_with fail
      refine hcp.mono ?_
      intro e w5 ho5
      obtain ⟨q, rfl, ndq, hnw, f5⟩ := cp_nod ho5 (rt_short3 hR) hfw.1 hfw.2.1 hfw.2.2
      have fr5 := fr4.seq' f5
      have hz4 : w.heap.size + 3 ≤ w4.heap.size := by have := fr4.size; simp at this; omega
      clear hcp ho5 c0 c1 c2 c3 c4 c5 c6 r0 r1 r2 r3 r4 r5 r6 r7
      obtain ⟨hq, ff⟩ := fin7 (HT.out _ fr5).2.2 (.int .i64 n.lev) (.int .i64 n.lsn) (.int .i64 n.rgt) (.string n.high) (.slice q.k n.keys.length q.kc) (.slice q.v n.vals.length q.vc) (.slice q.i n.kids.length q.ic)
      obtain ⟨⟨s0, s1, s2, s3, s4, s5, s6⟩, sz⟩ := node_cells (HT.out _ fr5).2.2
      have y0 := sz 0; have y1 := sz 1; have y2 := sz 2; have y3 := sz 3; have y4 := sz 4; have y5 := sz 5; have y6 := sz 6
      have fff := (f0.seq' fr5).trans ff (S := fun _ => False) (fun i hi e => by omega)
      clear sz
      go_wp2
      generalize ((((((w5.setCell ⟨w.heap.size + 2, 0, none⟩ (.int .i64 n.lev)).setCell ⟨w.heap.size + 2, 1, none⟩ (.int .i64 n.lsn)).setCell ⟨w.heap.size + 2, 2, none⟩ (.int .i64 n.rgt)).setCell ⟨w.heap.size + 2, 3, none⟩ (.string n.high)).setCell ⟨w.heap.size + 2, 4, none⟩ (.slice q.k n.keys.length q.kc)).setCell ⟨w.heap.size + 2, 5, none⟩ (.slice q.v n.vals.length q.vc)).setCell ⟨w.heap.size + 2, 6, none⟩ (.slice q.i n.kids.length q.ic) = Wf at hq ff fff ⊢
      obtain ⟨⟨q0, q1, q2, q3, q4, q5, q6⟩, _⟩ := node_cells hq
      rw [hev.1, hev.2.1, hev.2.2]
      exact bodyPost_ret (v := .tuple #[(.agg #[.int .i64 n.lev, .int .i64 n.lsn, .int .i64 n.rgt, .string n.high, .slice q.k n.keys.length q.kc, .slice q.v n.vals.length q.vc, .slice q.i n.kids.length q.ic]), .bool false, .int .i64 0]) (by simp [results, Tryz.results35, go_sem, q0, q1, q2, q3, q4, q5, q6]) rfl ⟨q, rfl, nd_far ndq ff (fun b off hx e => by have := hnw b off hx; omega), fff, fun b off hx => by have := hnw b off hx; omega⟩
  · have hne : (ae != 0) = true := by simpa using hae
    have hev := ap_err HPR.out hae
    clear hae
    obtain ⟨hq, ff⟩ := fin7 (HT.out _ fr4).2.2 (.int .i64 0) (.int .i64 0) (.int .i64 0) (.string ⟨#[]⟩) (.slice none 0 0) (.slice none 0 0) (.slice none 0 0)
    obtain ⟨⟨s0, s1, s2, s3, s4, s5, s6⟩, sz⟩ := node_cells (HT.out _ fr4).2.2
    have y0 := sz 0; have y1 := sz 1; have y2 := sz 2; have y3 := sz 3; have y4 := sz 4; have y5 := sz 5; have y6 := sz 6
    have fff := (f0.seq' fr4).trans ff (S := fun _ => False) (fun i hi e => by omega)
    clear sz
    go_wp2
    generalize ((((((w4.setCell ⟨w.heap.size + 2, 0, none⟩ (.int .i64 0)).setCell ⟨w.heap.size + 2, 1, none⟩ (.int .i64 0)).setCell ⟨w.heap.size + 2, 2, none⟩ (.int .i64 0)).setCell ⟨w.heap.size + 2, 3, none⟩ (.string ⟨#[]⟩)).setCell ⟨w.heap.size + 2, 4, none⟩ (.slice none 0 0)).setCell ⟨w.heap.size + 2, 5, none⟩ (.slice none 0 0)).setCell ⟨w.heap.size + 2, 6, none⟩ (.slice none 0 0) = Wf at hq ff fff ⊢
    obtain ⟨⟨q0, q1, q2, q3, q4, q5, q6⟩, _⟩ := node_cells hq
    rw [hev.1, hev.2.1, hev.2.2]
    exact bodyPost_ret (v := .tuple #[.agg #[.int .i64 0, .int .i64 0, .int .i64 0, .string ⟨#[]⟩, .slice none 0 0, .slice none 0 0, .slice none 0 0], .bool false, .int .i64 ae]) (by simp [results, Tryz.results35, go_sem, q0, q1, q2, q3, q4, q5, q6]) rfl ⟨zp, rfl, zn_nod _, fff, zp_nw _⟩
end Go.Proofs.YtnckmajfmkkpgaaGreat

/- A record that came in. -/
namespace Go.Proofs.YtnckmajfmkkpgaaGreat
open Go.ChangeShapes Go.WideShapes Go.ChangeAt Go.RowKit

theorem rcellsI : Tryz.prog.cellsOf 3 = 1 := by kernel_rfl
theorem rcellsS : Tryz.prog.cellsOf 9 = 1 := by kernel_rfl
theorem rcellsR : Tryz.prog.cellsOf 35 = 8 := by kernel_rfl
theorem array8 {α : Type} {cs : Array α} (h : cs.size = 8) : ∃ c0 c1 c2 c3 c4 c5 c6 c7, cs = #[c0, c1, c2, c3, c4, c5, c6, c7] := by
  obtain ⟨l⟩ := cs
  match l, h with
  | [c0, c1, c2, c3, c4, c5, c6, c7], _ => exact ⟨c0, c1, c2, c3, c4, c5, c6, c7, rfl⟩
section
variable {H : Type} {enc : TypeId × Value → H} {w : World} {base : Nat} {spare : Nat → Bool} {held : Bool}
set_option maxRecDepth 100000 in
theorem rec_open {r : Reach} {b0 : Nat} {v : Value} {d : DataW H} {pl : List MemPlace} (hv : Value.okWide Tryz.prog w r b0 35 v) (h : DataW.Trod enc Tryz.prog w base spare held 35 v d pl) (hz : ∀ z ∈ d.weights Tryz.prog 35, z ≤ reachBytes) :
    ∃ (r : Rec), v = (.agg #[.int .i64 r.lsn, .int .i64 r.ep, .int .i64 r.kind, .int .i64 r.page, .int .i64 r.other, .int .i64 r.req, .string r.key, .string r.val]) ∧ r.key.size ≤ 140737488351232 ∧ r.val.size ≤ 140737488351232 := by
  obtain ⟨cs, rfl, hsz⟩ := okWide_struct Tryz.underlying35 hv
  obtain ⟨c0, c1, c2, c3, c4, c5, c6, c7, rfl⟩ := array8 (hsz.trans rcellsR)
  obtain ⟨fuel, hf⟩ := h
  obtain ⟨xs, m, _, hx, hl, hlen, hfs⟩ := DataW.trod_struct Tryz.underlying35 hf
  match xs, hlen with
  | [y0, y1, y2, y3, y4, y5, y6, y7], _ =>
    have t0 := hfs 0 _ rfl
    have t1 := hfs 1 _ rfl
    have t2 := hfs 2 _ rfl
    have t3 := hfs 3 _ rfl
    have t4 := hfs 4 _ rfl
    have t5 := hfs 5 _ rfl
    have t6 := hfs 6 _ rfl
    have t7 := hfs 7 _ rfl
    simp [Value.cells, rcellsI, rcellsS] at t0 t1 t2 t3 t4 t5 t6 t7
    have hd : d = .agg [y0.1, y1.1, y2.1, y3.1, y4.1, y5.1, y6.1, y7.1] := by simpa using congrArg Prod.fst hx
    rw [hd] at hz
    simp only [DataW.weights, Tryz.underlying35] at hz
    have z6 : ∀ z ∈ y6.1.weights Tryz.prog 9, z ≤ reachBytes := fun z h => hz z (DataW.weights_mem_each (j := 6) rfl rfl z h)
    have z7 : ∀ z ∈ y7.1.weights Tryz.prog 9, z ≤ reachBytes := fun z h => hz z (DataW.weights_mem_each (j := 7) rfl rfl z h)
    obtain ⟨b0, e0, _, _⟩ := DataW.trod_int Tryz.underlying3 t0
    obtain ⟨b1, e1, _, _⟩ := DataW.trod_int Tryz.underlying3 t1
    obtain ⟨b2, e2, _, _⟩ := DataW.trod_int Tryz.underlying3 t2
    obtain ⟨b3, e3, _, _⟩ := DataW.trod_int Tryz.underlying3 t3
    obtain ⟨b4, e4, _, _⟩ := DataW.trod_int Tryz.underlying3 t4
    obtain ⟨b5, e5, _, _⟩ := DataW.trod_int Tryz.underlying3 t5
    obtain ⟨b6, e6, e6', _⟩ := DataW.trod_string Tryz.underlying9 t6
    obtain ⟨b7, e7, e7', _⟩ := DataW.trod_string Tryz.underlying9 t7
    simp only [List.cons.injEq, and_true] at e0 e1 e2 e3 e4 e5 e6 e7
    subst e0 e1 e2 e3 e4 e5 e6 e7
    rw [e6'] at z6
    rw [e7'] at z7
    have w6 := z6 b6.data.toList.length (by simp [DataW.weights])
    have w7 := z7 b7.data.toList.length (by simp [DataW.weights])
    rw [← Lib.size_eq] at w6 w7
    exact ⟨⟨b0, b1, b2, b3, b4, b5, b6, b7⟩, rfl, by simpa [reachBytes] using w6, by simpa [reachBytes] using w7⟩
end
end Go.Proofs.YtnckmajfmkkpgaaGreat

/- Lists of records in memory; a slice of records that came in. -/
namespace Go.Proofs.YtnckmajfmkkpgaaGreat
open Go.ChangeShapes Go.WideShapes Go.ChangeAt Go.RowKit Go.Deep

/-- A record's cells. -/
def recC (r : Rec) : List Value := [.int .i64 r.lsn, .int .i64 r.ep, .int .i64 r.kind, .int .i64 r.page, .int .i64 r.other, .int .i64 r.req, .string r.key, .string r.val]
theorem recC_length (r : Rec) : (recC r).length = 8 := rfl
theorem recC_one (r : Rec) : ∀ u ∈ recC r, u.oneCell' = true := by
  intro u hu
  simp only [recC, List.mem_cons, List.not_mem_nil, or_false] at hu
  rcases hu with h | h | h | h | h | h | h | h <;> (subst h; rfl)
theorem rec_range {w : World} {b o : Nat} {r : Rec} (h : w.rangeAt b o (recC r)) : w.cell? ⟨b, o, none⟩ = some (.int .i64 r.lsn) ∧ w.cell? ⟨b, o + 1, none⟩ = some (.int .i64 r.ep) ∧ w.cell? ⟨b, o + 2, none⟩ = some (.int .i64 r.kind) ∧ w.cell? ⟨b, o + 3, none⟩ = some (.int .i64 r.page) ∧ w.cell? ⟨b, o + 4, none⟩ = some (.int .i64 r.other) ∧ w.cell? ⟨b, o + 5, none⟩ = some (.int .i64 r.req) ∧ w.cell? ⟨b, o + 6, none⟩ = some (.string r.key) ∧ w.cell? ⟨b, o + 7, none⟩ = some (.string r.val) :=
  ⟨h 0 _ rfl, h 1 _ rfl, h 2 _ rfl, h 3 _ rfl, h 4 _ rfl, h 5 _ rfl, h 6 _ rfl, h 7 _ rfl⟩
/-- A slice of records as a walk sees it. -/
structure Recs (w : World) (a : Option Addr) (cap : Nat) (ls : List Rec) : Prop where
  le : ls.length ≤ cap
  max : cap ≤ 9223372036854775807
  at_ : ls = [] ∨ ∃ b off, a = some ⟨b, off, none⟩ ∧ b < w.heap.size ∧ ∀ i r, ls[i]? = some r → w.rangeAt b (off + i * 8) (recC r)
theorem Recs.same {w w' : World} {a : Option Addr} {cap : Nat} {ls : List Rec} (h : Recs w a cap ls) (f : Fr (fun _ => False) w w') : Recs w' a cap ls := by
  refine ⟨h.le, h.max, ?_⟩
  rcases h.at_ with h0 | ⟨b, off, rfl, hb, hc⟩
  · exact .inl h0
  · exact .inr ⟨b, off, rfl, Nat.lt_of_lt_of_le hb f.size, fun i r hr => range_fr (hc i r hr) f (fun f => f)⟩
theorem Recs.some {w : World} {a : Option Addr} {cap : Nat} {ls : List Rec} (h : Recs w a cap ls) (hn : 0 < ls.length) : ∃ b off, a = some ⟨b, off, none⟩ ∧ b < w.heap.size ∧ ∀ i r, ls[i]? = some r → w.rangeAt b (off + i * 8) (recC r) := by
  rcases h.at_ with h0 | h
  · rw [h0] at hn; simp at hn
  · exact h

def rec0 : Rec := ⟨0, 0, 0, 0, 0, 0, ⟨#[]⟩, ⟨#[]⟩⟩
section
variable {H : Type} {enc : TypeId × Value → H} {w : World}
set_option maxRecDepth 100000 in
/-- A record's eight cells that came in. -/
theorem rec_in {fuel : Nat} {cs : List Value} {x : DataW H × List MemPlace} (hlen : cs.length = 8) (h : DataW.trod enc Tryz.prog w 0 (fun _ => true) true fuel 35 cs = some x) : ∃ r : Rec, cs = recC r := by
  obtain ⟨xs, n', _, _, _, hxl, hfl⟩ := DataW.trod_struct Tryz.underlying35 h
  have t0 := hfl 0 _ rfl
  have t1 := hfl 1 _ rfl
  have t2 := hfl 2 _ rfl
  have t3 := hfl 3 _ rfl
  have t4 := hfl 4 _ rfl
  have t5 := hfl 5 _ rfl
  have t6 := hfl 6 _ rfl
  have t7 := hfl 7 _ rfl
  match xs, hxl with
  | [y0, y1, y2, y3, y4, y5, y6, y7], _ =>
  match cs, hlen with
  | [c0, c1, c2, c3, c4, c5, c6, c7], _ =>
    simp [rcellsI, rcellsS] at t0 t1 t2 t3 t4 t5 t6 t7
    obtain ⟨b0, e0, _, _⟩ := DataW.trod_int Tryz.underlying3 t0
    obtain ⟨b1, e1, _, _⟩ := DataW.trod_int Tryz.underlying3 t1
    obtain ⟨b2, e2, _, _⟩ := DataW.trod_int Tryz.underlying3 t2
    obtain ⟨b3, e3, _, _⟩ := DataW.trod_int Tryz.underlying3 t3
    obtain ⟨b4, e4, _, _⟩ := DataW.trod_int Tryz.underlying3 t4
    obtain ⟨b5, e5, _, _⟩ := DataW.trod_int Tryz.underlying3 t5
    obtain ⟨b6, e6, _, _⟩ := DataW.trod_string Tryz.underlying9 t6
    obtain ⟨b7, e7, _, _⟩ := DataW.trod_string Tryz.underlying9 t7
    simp only [List.cons.injEq, and_true] at e0 e1 e2 e3 e4 e5 e6 e7
    subst e0 e1 e2 e3 e4 e5 e6 e7
    exact ⟨⟨b0, b1, b2, b3, b4, b5, b6, b7⟩, rfl⟩
end
end Go.Proofs.YtnckmajfmkkpgaaGreat

/- Pages with their nodes in memory. -/
namespace Go.Proofs.YtnckmajfmkkpgaaGreat
open Go.RowKit

/-- A page and its node, and where the node's lists lie. -/
structure Sl where
  page : Int
  nd : Nd
  pt : Pt
def slC (s : Sl) : List Value := [.int .i64 s.page, .int .i64 s.nd.lev, .int .i64 s.nd.lsn, .int .i64 s.nd.rgt, .string s.nd.high, .slice s.pt.k s.nd.keys.length s.pt.kc, .slice s.pt.v s.nd.vals.length s.pt.vc, .slice s.pt.i s.nd.kids.length s.pt.ic]
theorem slC_length (s : Sl) : (slC s).length = 8 := rfl
theorem slC_one (s : Sl) : ∀ u ∈ slC s, u.oneCell' = true := by
  intro u hu
  simp only [slC, List.mem_cons, List.not_mem_nil, or_false] at hu
  rcases hu with h | h | h | h | h | h | h | h <;> (subst h; rfl)
theorem sl_range {w : World} {b o : Nat} {s : Sl} (h : w.rangeAt b o (slC s)) : w.cell? ⟨b, o, none⟩ = some (.int .i64 s.page) ∧ w.cell? ⟨b, o + 1, none⟩ = some (.int .i64 s.nd.lev) ∧ w.cell? ⟨b, o + 2, none⟩ = some (.int .i64 s.nd.lsn) ∧ w.cell? ⟨b, o + 3, none⟩ = some (.int .i64 s.nd.rgt) ∧ w.cell? ⟨b, o + 4, none⟩ = some (.string s.nd.high) ∧ w.cell? ⟨b, o + 5, none⟩ = some (.slice s.pt.k s.nd.keys.length s.pt.kc) ∧ w.cell? ⟨b, o + 6, none⟩ = some (.slice s.pt.v s.nd.vals.length s.pt.vc) ∧ w.cell? ⟨b, o + 7, none⟩ = some (.slice s.pt.i s.nd.kids.length s.pt.ic) :=
  ⟨h 0 _ rfl, h 1 _ rfl, h 2 _ rfl, h 3 _ rfl, h 4 _ rfl, h 5 _ rfl, h 6 _ rfl, h 7 _ rfl⟩
/-- A slice of pages as a walk sees it. -/
structure Slots (w : World) (a : Option Addr) (cap : Nat) (ls : List Sl) : Prop where
  le : ls.length ≤ cap
  max : cap ≤ 9223372036854775807
  at_ : ls = [] ∨ ∃ b off, a = some ⟨b, off, none⟩ ∧ b < w.heap.size ∧ ∀ i s, ls[i]? = some s → w.rangeAt b (off + i * 8) (slC s)
  nod : ∀ s ∈ ls, Nod w s.nd s.pt
theorem Slots.same {w w' : World} {a : Option Addr} {cap : Nat} {ls : List Sl} (h : Slots w a cap ls) (f : Fr (fun _ => False) w w') : Slots w' a cap ls := by
  refine ⟨h.le, h.max, ?_, fun s hs => (h.nod s hs).same f⟩
  rcases h.at_ with h0 | ⟨b, off, rfl, hb, hc⟩
  · exact .inl h0
  · exact .inr ⟨b, off, rfl, Nat.lt_of_lt_of_le hb f.size, fun i r hr => range_fr (hc i r hr) f (fun f => f)⟩
theorem Slots.some {w : World} {a : Option Addr} {cap : Nat} {ls : List Sl} (h : Slots w a cap ls) (hn : 0 < ls.length) : ∃ b off, a = some ⟨b, off, none⟩ ∧ b < w.heap.size ∧ ∀ i s, ls[i]? = some s → w.rangeAt b (off + i * 8) (slC s) := by
  rcases h.at_ with h0 | h
  · rw [h0] at hn; simp at hn
  · exact h
/-- Whether pages rise behind a page, up to 4096, and their nodes are right. -/
def ariB : Int → List (Int × Nd) → Bool
  | _, [] => true
  | x, (y, n) :: l => decide (x < y) && decide (y ≤ 4096) && rightB n && ariB y l
def psOf (ls : List Sl) : List (Int × Nd) := ls.map (fun s => (s.page, s.nd))
theorem ari_next {ls : List Sl} {j : Nat} {s : Sl} (x : Int) (h : ls[j]? = some s) : ariB x (psOf (ls.drop j)) = (decide (x < s.page) && decide (s.page ≤ 4096) && rightB s.nd && ariB s.page (psOf (ls.drop (j + 1)))) := by
  have hj := (List.getElem?_eq_some_iff.1 h).1
  rw [List.drop_eq_getElem_cons hj, (List.getElem?_eq_some_iff.1 h).2]
  rfl
end Go.Proofs.YtnckmajfmkkpgaaGreat
