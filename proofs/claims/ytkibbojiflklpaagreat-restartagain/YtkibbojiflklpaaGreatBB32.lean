
/- RdYes, RdPs, RdRep. -/
import Derived.Test.YtkibbojiflklpaaGreatBB31
/- A record whose page is among the pages. -/
namespace Go.Proofs.YtkibbojiflklpaaGreat
open Go.RowKit Go.Lib

theorem has_at {ls : List Sl} {x : Int} (h : hasB ls x = true) : ∃ s, ls[ahead ls x]? = some s ∧ s.page = x := by
  unfold hasB at h
  split at h
  · cases h
  · rename_i s hs
    exact ⟨s, hs, by simpa using h⟩
set_option maxRecDepth 100000 in
set_option maxHeartbeats 4000000 in
theorem replayed_yes (a : Option Addr) (n c : Nat) (ls : List Sl) (hn : n = ls.length) (hf : ls.length ≤ 10000) (hr : Rise ls) (r : Rec) (hkz : r.key.size ≤ 140737488351232) (hvz : r.val.size ≤ 140737488351232) (hb : hasB ls r.page = true) (w : World) (h : Sv w (.slice a n c) ls) :
    Calls Tryz.prog 41 #[.slice a n c, (.agg #[.int .i64 r.lsn, .int .i64 r.ep, .int .i64 r.kind, .int .i64 r.page, .int .i64 r.other, .int .i64 r.req, .string r.key, .string r.val])] w fun e w' => RpOut w (.slice a n c) (rpP (psOf ls) r) (rpE (psOf ls) r) e w' := by
  have hbs := fun W (hW : Slots W a c ls) => bs_any a n c ls hn (by omega) hr r.page W hW
  rw [hb] at hbs
  obtain ⟨s, hs, hsp⟩ := has_at hb
  obtain ⟨i, hi⟩ : ∃ i, i = ahead ls r.page := ⟨_, rfl⟩
  rw [← hi] at hbs hs
  have hilt : i < n := by rw [hn]; exact (List.getElem?_eq_some_iff.1 hs).1
  obtain ⟨g, c2, e0, hg, hnc, hcm, _⟩ := h.has.form (by omega)
  rw [← hn] at e0
  simp only [Value.slice.injEq, true_and] at e0
  obtain ⟨rfl, rfl⟩ := e0
  have hc63 : c ≤ 9223372036854775807 := by unfold maxLen at hcm; omega
  have hnc' : n ≤ c := by omega
  have hn4 : n ≤ 10000 := by omega
  have f0 := Fr.box w (.cells #[.int .i64 r.lsn, .int .i64 r.ep, .int .i64 r.kind, .int .i64 r.page, .int .i64 r.other, .int .i64 r.req, .string r.key, .string r.val] 54)
  have hsl0 := (h.slots hn).same f0
  have HSV : Hid (Sv w (.slice (some ⟨g, 0, none⟩) n c) ls) := h
  have HR : Hid (∀ W, Fr (fun _ => False) (w.alloc (.cells #[.int .i64 r.lsn, .int .i64 r.ep, .int .i64 r.kind, .int .i64 r.page, .int .i64 r.other, .int .i64 r.req, .string r.key, .string r.val] 54)) W → W.cell? ⟨w.heap.size, 0, none⟩ = some (.int .i64 r.lsn) ∧ W.cell? ⟨w.heap.size, 1, none⟩ = some (.int .i64 r.ep) ∧ W.cell? ⟨w.heap.size, 2, none⟩ = some (.int .i64 r.kind) ∧ W.cell? ⟨w.heap.size, 3, none⟩ = some (.int .i64 r.page) ∧ W.cell? ⟨w.heap.size, 4, none⟩ = some (.int .i64 r.other) ∧ W.cell? ⟨w.heap.size, 5, none⟩ = some (.int .i64 r.req) ∧ W.cell? ⟨w.heap.size, 6, none⟩ = some (.string r.key) ∧ W.cell? ⟨w.heap.size, 7, none⟩ = some (.string r.val)) := fun W f => (rec_cells (rec_at w #[.int .i64 r.lsn, .int .i64 r.ep, .int .i64 r.kind, .int .i64 r.page, .int .i64 r.other, .int .i64 r.req, .string r.key, .string r.val] 54 f)).1
  have HE : Hid (∀ W, Fr (fun _ => False) w W → W.rangeAt g (i * 8) (slC s)) := fun W f => by have := (h.same f).has; rw [← hn] at this; exact this.elem slC_length hs
  have HND : Hid (∀ W, Fr (fun _ => False) w W → Nod W s.nd s.pt) := fun W f => (h.nod s (List.mem_of_getElem? hs)).same f
  have hap := apply_any s.nd s.pt true r hkz hvz
  have hP : hasP (psOf ls) r.page = true := by rw [← has_ps]; exact hb
  have hN : nodeP (psOf ls) r.page = s.nd := by
    unfold nodeP
    rw [hP, if_pos rfl, ← ah_ps, ← hi]
    unfold psOf
    rw [List.getElem?_map, hs]
    rfl
  have HA : Hid (apE s.nd true r = 1 → rpE (psOf ls) r = 0 ∧ rpP (psOf ls) r = psOf ls) := fun e => rp_arg hP hN e
  have HB : Hid (apE s.nd true r ≠ 1 → apE s.nd true r ≠ 0 → rpE (psOf ls) r = apE s.nd true r ∧ rpP (psOf ls) r = []) := fun e e0 => rp_err hP hN e e0
  have HC : Hid (apE s.nd true r = 0 → rpE (psOf ls) r = 0 ∧ rpP (psOf ls) r = (psOf ls).set i (s.page, apN s.nd true r)) := fun e => by rw [hi, ah_ps, hsp]; exact rp_set hP hN e
  have HN : Hid (n = ls.length) := hn
  have HS : Hid (ls[i]? = some s) := hs
  unfold ApOut at hap
  generalize apE s.nd true r = ae at *
  generalize apN s.nd true r = m at *
  generalize apD s.nd true r = d at *
  clear hP hN hb hi h hkz hvz hr hn hf hs hsp
  go_enter Tryz.func41, Tryz.ntmps41
  go_wp2_with fail
  refine (hbs _ hsl0).mono ?_
  rintro e w1 ⟨rfl, f1⟩
  have f2 := f1.alloc (.cells #[.int .i64 0, .int .i64 0, .int .i64 0, .string ⟨#[]⟩, .slice none 0 0, .slice none 0 0, .slice none 0 0] 33)
  have f2b := f1.alloc (.cells #[.int .i64 s.nd.lev, .int .i64 s.nd.lsn, .int .i64 s.nd.rgt, .string s.nd.high, .slice s.pt.k s.nd.keys.length s.pt.kc, .slice s.pt.v s.nd.vals.length s.pt.vc, .slice s.pt.i s.nd.kids.length s.pt.ic] 33)
  obtain ⟨r0, r1, r2, r3, r4, r5, r6, r7⟩ := HR.out _ f2b
  obtain ⟨q0, q1, q2, q3, q4, q5, q6, q7⟩ := sl_range (HE.out _ (f0.seq' f2))
  clear hbs hsl0
  go_wp2_with fail
  refine (hap _ (HND.out _ (f0.seq' f2b))).mono ?_
  rintro e w3 ⟨q, rfl, ndq, f3, hnw⟩
  have fr3 := f2b.seq' f3
  have hbx := f3.blk (heap_alloc_new w1 (.cells #[.int .i64 s.nd.lev, .int .i64 s.nd.lsn, .int .i64 s.nd.rgt, .string s.nd.high, .slice s.pt.k s.nd.keys.length s.pt.kc, .slice s.pt.v s.nd.vals.length s.pt.vc, .slice s.pt.i s.nd.kids.length s.pt.ic] 33)) (fun f => f)
  obtain ⟨hq, ff⟩ := fin7 hbx (.int .i64 m.lev) (.int .i64 m.lsn) (.int .i64 m.rgt) (.string m.high) (.slice q.k m.keys.length q.kc) (.slice q.v m.vals.length q.vc) (.slice q.i m.kids.length q.ic)
  obtain ⟨⟨s0, s1, s2, s3, s4, s5, s6⟩, sz⟩ := node_cells hbx
  have y0 := sz 0; have y1 := sz 1; have y2 := sz 2; have y3 := sz 3; have y4 := sz 4; have y5 := sz 5; have y6 := sz 6
  have hz1 : w.heap.size + 1 ≤ w1.heap.size := by have := f1.size; simp at this; omega
  have hz3 : w1.heap.size + 1 ≤ w3.heap.size := by have := f3.size; simp at this; omega
  have fff := (f0.seq' fr3).trans ff (S := fun _ => False) (fun i hi e => by omega)
  have hNf : Nod (((((((w3.setCell ⟨w1.heap.size, 0, none⟩ (.int .i64 m.lev)).setCell ⟨w1.heap.size, 1, none⟩ (.int .i64 m.lsn)).setCell ⟨w1.heap.size, 2, none⟩ (.int .i64 m.rgt)).setCell ⟨w1.heap.size, 3, none⟩ (.string m.high)).setCell ⟨w1.heap.size, 4, none⟩ (.slice q.k m.keys.length q.kc)).setCell ⟨w1.heap.size, 5, none⟩ (.slice q.v m.vals.length q.vc)).setCell ⟨w1.heap.size, 6, none⟩ (.slice q.i m.kids.length q.ic)) m q := ndq.frS ff (hnw.off (fun b hb e => by simp at hb; omega))
  clear hap r0 r1 r2 r3 r4 r5 r6 r7 q0 q1 q2 q3 q4 q5 q6 q7 sz
  by_cases h1 : ae = 1
  · have hev := HA.out h1
    subst h1
    clear HA HB HC hNf hq
    go_wp2
    generalize ((((((w3.setCell ⟨w1.heap.size, 0, none⟩ (.int .i64 m.lev)).setCell ⟨w1.heap.size, 1, none⟩ (.int .i64 m.lsn)).setCell ⟨w1.heap.size, 2, none⟩ (.int .i64 m.rgt)).setCell ⟨w1.heap.size, 3, none⟩ (.string m.high)).setCell ⟨w1.heap.size, 4, none⟩ (.slice q.k m.keys.length q.kc)).setCell ⟨w1.heap.size, 5, none⟩ (.slice q.v m.vals.length q.vc)).setCell ⟨w1.heap.size, 6, none⟩ (.slice q.i m.kids.length q.ic) = Wf at fff ⊢
    go_ret2
    exact rp_keep HN.out HSV.out _ hev.2 hev.1 fff
  · by_cases h0 : ae = 0
    · have hev := HC.out h0
      subst h0
      clear HA HB HC
      go_upto_region 6 with fail
      generalize ((((((w3.setCell ⟨w1.heap.size, 0, none⟩ (.int .i64 m.lev)).setCell ⟨w1.heap.size, 1, none⟩ (.int .i64 m.lsn)).setCell ⟨w1.heap.size, 2, none⟩ (.int .i64 m.rgt)).setCell ⟨w1.heap.size, 3, none⟩ (.string m.high)).setCell ⟨w1.heap.size, 4, none⟩ (.slice q.k m.keys.length q.kc)).setCell ⟨w1.heap.size, 5, none⟩ (.slice q.v m.vals.length q.vc)).setCell ⟨w1.heap.size, 6, none⟩ (.slice q.i m.kids.length q.ic) = Wf at *
      obtain ⟨⟨t0, t1, t2, t3, t4, t5, t6⟩, _⟩ := node_cells hq
      clear s0 s1 s2 s3 s4 s5 s6 y0 y1 y2 y3 y4 y5 y6 f1 f2 f2b f3 fr3 hbx ff
      obtain ⟨q0, q1, q2, q3, q4, q5, q6, q7⟩ := sl_range (HE.out _ fff)
      have hsW := HSV.out.same fff
      obtain ⟨g3, c3, e3, hg3, _, _, hth, _⟩ := hsW.has.form (by have := HN.out; omega)
      rw [← HN.out] at e3
      simp only [Value.slice.injEq, Option.some.injEq, Addr.mk.injEq, and_true, true_and] at e3
      obtain ⟨rfl, rfl⟩ := e3
      have hfz : ∀ j, j < 8 → Wf.frozen? ⟨g, i * 8 + j, none⟩ = false := fun j hj => by have := (hth (i * 8 + j) (by omega)).2; rwa [Nat.zero_add] at this
      have y1 := hfz 1 (by omega); have y2 := hfz 2 (by omega); have y3 := hfz 3 (by omega); have y4 := hfz 4 (by omega); have y5 := hfz 5 (by omega); have y6 := hfz 6 (by omega); have y7 := hfz 7 (by omega)
      have HFIN : Hid (RpOut w (.slice (some ⟨g, 0, none⟩) n c) (rpP (psOf ls) r) (rpE (psOf ls) r) (.returned (.tuple #[.slice (some ⟨g, 0, none⟩) n c, .int .i64 0])) (Wf.setCells g (i * 8 + 1) [.int .i64 m.lev, .int .i64 m.lsn, .int .i64 m.rgt, .string m.high, .slice q.k m.keys.length q.kc, .slice q.v m.vals.length q.vc, .slice q.i m.kids.length q.ic])) := by
        have hsv := hsW.set HN.out HS.out m q hNf (hnw.off (fun b hb e => by simp at hb; omega))
        have hl : (ls.set i ⟨s.page, m, q⟩).length = n := by rw [List.length_set]; exact HN.out.symm
        show RpOut _ _ _ _ _ _
        rw [hev.1, hev.2]
        refine ⟨_, c, ls.set i ⟨s.page, m, q⟩, by rw [hl], by rw [hl]; exact hsv, ps_set _ _ _, ?_, .inl (by rw [hl])⟩
        exact (fff.mono (T := fun k => (Value.slice (some ⟨g, 0, none⟩) n c).ownBlock = some k) (fun _ _ f => f.elim)).trans (Fr.setCells (S := fun k => k = g) (fun _ => rfl) _ _ (Fr.refl _ Wf)) (fun k _ e => by rw [e]; rfl)
      clear hsW hNf hnw ndq hev fff hth hfz
      go_wp2
      go_ret2
      exact HFIN.out
    · have hev := HB.out h1 h0
      have hb1 : (ae == 1) = false := by simpa using h1
      have hb0 : (ae != 0) = true := by simpa using h0
      clear HA HB HC hNf hq h1 h0
      go_wp2
      generalize ((((((w3.setCell ⟨w1.heap.size, 0, none⟩ (.int .i64 m.lev)).setCell ⟨w1.heap.size, 1, none⟩ (.int .i64 m.lsn)).setCell ⟨w1.heap.size, 2, none⟩ (.int .i64 m.rgt)).setCell ⟨w1.heap.size, 3, none⟩ (.string m.high)).setCell ⟨w1.heap.size, 4, none⟩ (.slice q.k m.keys.length q.kc)).setCell ⟨w1.heap.size, 5, none⟩ (.slice q.v m.vals.length q.vc)).setCell ⟨w1.heap.size, 6, none⟩ (.slice q.i m.kids.length q.ic) = Wf at fff ⊢
      go_ret2
      exact rp_nil _ hev.2 hev.1.symm fff
end Go.Proofs.YtkibbojiflklpaaGreat

/- Pages rise, and stay so. -/
namespace Go.Proofs.YtkibbojiflklpaaGreat
open Go.RowKit Go.Lib

theorem replayed_any (a : Option Addr) (n c : Nat) (ls : List Sl) (hn : n = ls.length) (hf : ls.length ≤ 10000) (hr : Rise ls) (r : Rec) (hkz : r.key.size ≤ 140737488351232) (hvz : r.val.size ≤ 140737488351232) (w : World) (h : Sv w (.slice a n c) ls) :
    Calls Tryz.prog 41 #[.slice a n c, (.agg #[.int .i64 r.lsn, .int .i64 r.ep, .int .i64 r.kind, .int .i64 r.page, .int .i64 r.other, .int .i64 r.req, .string r.key, .string r.val])] w fun e w' => RpOut w (.slice a n c) (rpP (psOf ls) r) (rpE (psOf ls) r) e w' := by
  cases hb : hasB ls r.page
  · exact replayed_no a n c ls hn hf hr r hkz hvz hb w h
  · exact replayed_yes a n c ls hn hf hr r hkz hvz hb w h
/-- Pages that rise from 1 to 4096. -/
def PsOk (ps : List (Int × Nd)) : Prop := (ps.map (·.1)).Pairwise (· < ·) ∧ ∀ x ∈ ps.map (·.1), 1 ≤ x ∧ x ≤ 4096
theorem pw_few (l : List Int) (lo : Int) (hp : l.Pairwise (· < ·)) (h : ∀ x ∈ l, lo ≤ x ∧ x ≤ 4096) : (l.length : Int) ≤ max 0 (4097 - lo) := by
  induction l generalizing lo with
  | nil => simp; omega
  | cons a l ih =>
    have ha := h a (by simp)
    rw [List.pairwise_cons] at hp
    have := ih (a + 1) hp.2 (fun x hx => ⟨by have := hp.1 x hx; omega, (h x (by simp [hx])).2⟩)
    simp only [List.length_cons]
    omega
theorem PsOk.few {ps : List (Int × Nd)} (h : PsOk ps) : ps.length ≤ 4096 := by
  have := pw_few _ 1 h.1 h.2
  simp at this
  omega
theorem PsOk.rise {ls : List Sl} (h : PsOk (psOf ls)) : Rise ls := by
  intro i j s t hij hi hj
  have h1 := List.pairwise_iff_getElem.1 h.1
  obtain ⟨hi1, hi2⟩ := List.getElem?_eq_some_iff.1 hi
  obtain ⟨hj1, hj2⟩ := List.getElem?_eq_some_iff.1 hj
  have := h1 i j (by simp [psOf]; exact hi1) (by simp [psOf]; exact hj1) hij
  simp [psOf] at this
  rw [hi2, hj2] at this
  exact this
theorem ps_length (ls : List Sl) : (psOf ls).length = ls.length := by simp [psOf]
theorem ari_ok (x : Int) (ps : List (Int × Nd)) (h : ariB x ps = true) : (ps.map (·.1)).Pairwise (· < ·) ∧ (∀ y ∈ ps.map (·.1), x < y ∧ y ≤ 4096) ∧ ∀ p ∈ ps, rightB p.2 = true := by
  induction ps generalizing x with
  | nil => exact ⟨List.Pairwise.nil, (fun y hy => by cases hy), (fun p hp => by cases hp)⟩
  | cons p l ih =>
    obtain ⟨y, n⟩ := p
    simp only [ariB, Bool.and_eq_true, decide_eq_true_eq] at h
    obtain ⟨⟨⟨h1, h2⟩, h3⟩, h4⟩ := h
    obtain ⟨k1, k2, k3⟩ := ih y h4
    refine ⟨?_, ?_, ?_⟩
    · rw [List.map_cons, List.pairwise_cons]
      exact ⟨fun z hz => (k2 z hz).1, k1⟩
    · intro z hz
      rw [List.map_cons, List.mem_cons] at hz
      rcases hz with rfl | hz
      · exact ⟨h1, h2⟩
      · have := k2 z hz; exact ⟨by omega, this.2⟩
    · intro q hq
      rcases List.mem_cons.1 hq with rfl | hq
      · exact h3
      · exact k3 q hq
theorem ari_psok {ps : List (Int × Nd)} (h : ariB 0 ps = true) : PsOk ps := by
  obtain ⟨h1, h2, _⟩ := ari_ok 0 ps h
  exact ⟨h1, fun x hx => by have := h2 x hx; omega⟩
theorem ins_pw (l : List (Int × Nd)) (x : Int) (n : Nd) (hp : (l.map (·.1)).Pairwise (· < ·)) (hb : hasP l x = false) : ((l.take (ahP l x) ++ (x, n) :: l.drop (ahP l x)).map (·.1)).Pairwise (· < ·) := by
  induction l with
  | nil => simp [ahP]
  | cons s l ih =>
    rw [List.map_cons, List.pairwise_cons] at hp
    by_cases h : s.1 < x
    · have e : ahP (s :: l) x = ahP l x + 1 := if_pos h
      have hb' : hasP l x = false := by
        unfold hasP at hb ⊢
        rw [e, List.getElem?_cons_succ] at hb
        exact hb
      rw [e, List.take_succ_cons, List.drop_succ_cons, List.cons_append, List.map_cons, List.pairwise_cons]
      refine ⟨?_, ih hp.2 hb'⟩
      intro y hy
      simp only [List.map_append, List.map_cons, List.mem_append, List.mem_cons] at hy
      rcases hy with hy | rfl | hy
      · rw [List.map_take] at hy; exact hp.1 y (List.mem_of_mem_take hy)
      · exact h
      · rw [List.map_drop] at hy; exact hp.1 y (List.mem_of_mem_drop hy)
    · have e : ahP (s :: l) x = 0 := if_neg h
      have hne : s.1 ≠ x := by
        unfold hasP at hb
        rw [e, List.getElem?_cons_zero] at hb
        simpa using hb
      rw [e, List.take_zero, List.drop_zero, List.nil_append, List.map_cons, List.pairwise_cons]
      refine ⟨?_, by rw [List.map_cons, List.pairwise_cons]; exact hp⟩
      intro y hy
      rw [List.map_cons, List.mem_cons] at hy
      rcases hy with rfl | hy
      · omega
      · have := hp.1 y hy; omega
theorem page_in {n : Nd} {b : Bool} {r : Rec} (h : apE n b r = 0) : 1 ≤ r.page ∧ r.page ≤ 4096 := by
  have hp : preE n b r = 0 := by
    unfold apE at h
    by_cases e : preE n b r = 0
    · exact e
    · rw [if_neg e] at h; exact absurd h e
  obtain ⟨h1, _, h3⟩ := pre_ok hp
  unfold rok suitB at h1
  simp only [Bool.and_eq_true] at h1
  have h2 := h1.2.2
  have hk : r.kind = 4 ∨ r.kind = 2 ∨ r.kind = 3 ∨ r.kind = 5 ∨ r.kind = 6 := by
    unfold needE at h3
    by_cases e4 : r.kind = 4
    · exact .inl e4
    · rw [if_neg e4] at h3
      by_cases e : r.kind = 2 ∨ r.kind = 3 ∨ r.kind = 5 ∨ r.kind = 6
      · exact .inr e
      · rw [if_neg e] at h3; cases h3
  have hg : pgB r.page = true := by
    rcases hk with e | e | e | e | e <;> simp [e] at h2 <;> exact h2.2.1
  unfold pgB wthB at hg
  simpa using hg
theorem PsOk.step {ps : List (Int × Nd)} (h : PsOk ps) (r : Rec) (h0 : rpE ps r = 0) : PsOk (rpP ps r) := by
  by_cases e1 : apE (nodeP ps r.page) (hasP ps r.page) r = 1
  · rw [(rp_arg rfl rfl e1).2]; exact h
  · have e0 : apE (nodeP ps r.page) (hasP ps r.page) r = 0 := by unfold rpE at h0; rwa [if_neg e1] at h0
    have hpg := page_in e0
    cases hb : hasP ps r.page
    · rw [hb] at e0
      rw [(rp_ins hb rfl e0).2]
      refine ⟨ins_pw ps r.page _ h.1 hb, ?_⟩
      intro x hx
      simp only [List.map_append, List.map_cons, List.mem_append, List.mem_cons] at hx
      rcases hx with hx | rfl | hx
      · rw [List.map_take] at hx; exact h.2 x (List.mem_of_mem_take hx)
      · exact hpg
      · rw [List.map_drop] at hx; exact h.2 x (List.mem_of_mem_drop hx)
    · rw [hb] at e0
      rw [(rp_set hb rfl e0).2]
      have hm : (ps.set (ahP ps r.page) (r.page, apN (nodeP ps r.page) true r)).map (·.1) = ps.map (·.1) := by
        rw [List.map_set]
        unfold hasP at hb
        split at hb
        · cases hb
        · rename_i s hs
          have e : s.1 = r.page := by simpa using hb
          apply List.ext_getElem?
          intro k
          rw [List.getElem?_set]
          split
          · rename_i hk
            subst hk
            obtain ⟨h5, h6⟩ := List.getElem?_eq_some_iff.1 hs
            rw [if_pos (by simpa using h5), List.getElem?_map, hs]
            exact congrArg some e.symm
          · rfl
      unfold PsOk
      rw [hm]
      exact h
/-- What records make of pages, one behind the other. -/
def rplP : List (Int × Nd) → List Rec → List (Int × Nd) × Int
  | ps, [] => (ps, 0)
  | ps, r :: rs => if rpE ps r = 0 then rplP (rpP ps r) rs else ([], rpE ps r)
def rplA (ps : List (Int × Nd)) (rs : List Rec) : List (Int × Nd) × Int := if ariB 0 ps = true then rplP ps rs else ([], 70)
theorem rpl_next {rs : List Rec} {k : Nat} {r : Rec} (ps : List (Int × Nd)) (h : rs[k]? = some r) : rplP ps (rs.drop k) = if rpE ps r = 0 then rplP (rpP ps r) (rs.drop (k + 1)) else ([], rpE ps r) := by
  have hj := (List.getElem?_eq_some_iff.1 h).1
  rw [List.drop_eq_getElem_cons hj, (List.getElem?_eq_some_iff.1 h).2]
  rfl
end Go.Proofs.YtkibbojiflklpaaGreat

/- Replay. -/
namespace Go.Proofs.YtkibbojiflklpaaGreat
open Go.RowKit

/-- What Replay tells. -/
def RplOut (w : World) (o : List (Int × Nd) × Int) (e : Ending) (w' : World) : Prop := ∃ a' c' ls', e = .returned (.tuple #[.slice a' ls'.length c', .int .i64 o.2]) ∧ Sv w' (.slice a' ls'.length c') ls' ∧ psOf ls' = o.1 ∧ Fr (fun _ => False) w w'
theorem rpl_nil {w W : World} {o : List (Int × Nd) × Int} {err : Int} (h : o = ([], err)) (f : Fr (fun _ => False) w W) : RplOut w o (.returned (.tuple #[.slice none 0 0, .int .i64 err])) W := by
  subst h
  exact ⟨none, 0, [], rfl, ⟨Has.nil _ _, (fun s hs => by cases hs), (fun s hs => by cases hs)⟩, rfl, f⟩
set_option maxRecDepth 100000 in
set_option maxHeartbeats 8000000 in
theorem replay_any (a a2 : Option Addr) (n c n2 c2 : Nat) (ls : List Sl) (rs : List Rec) (hn : n = ls.length) (hn2 : n2 = rs.length) (hz : ∀ r ∈ rs, r.key.size ≤ 140737488351232 ∧ r.val.size ≤ 140737488351232) (w : World) (h : Slots w a c ls) (h2 : Recs w a2 c2 rs) :
    Calls Tryz.prog 12 #[.slice a n c, .slice a2 n2 c2] w fun e w' => RplOut w (rplA (psOf ls) rs) e w' := by
  have har := areRight_any a n c ls hn w h
  cases hok : ariB 0 (psOf ls)
  · rw [hok] at har
    have hev : rplA (psOf ls) rs = ([], 70) := by unfold rplA; rw [hok]; rfl
    have HEV : Hid (rplA (psOf ls) rs = ([], 70)) := hev
    clear hok hz h h2 hn hn2 hev
    go_enter Tryz.func12, Tryz.ntmps12
    go_wp2_with fail
    refine har.mono ?_
    rintro e w1 ⟨rfl, f1⟩
    clear har
    go_wp2
    go_ret2
    exact rpl_nil HEV.out f1
  · rw [hok] at har
    have hev : rplA (psOf ls) rs = rplP (psOf ls) rs := by unfold rplA; rw [hok]; rfl
    have hps := ari_psok hok
    have hfew := hps.few
    rw [ps_length] at hfew
    have hcl := fun W hW => clone8 a n c ls W hW hn (by omega)
    have HRT : Hid (∀ p ∈ psOf ls, rightB p.2 = true) := (ari_ok 0 _ hok).2.2
    have HSL : Hid (∀ W, Fr (fun _ => False) w W → Slots W a c ls) := fun W f => h.same f
    have HRS : Hid (∀ W, Fr (fun _ => False) w W → Recs W a2 c2 rs) := fun W f => h2.same f
    have HPS : Hid (PsOk (psOf ls)) := hps
    have HEV : Hid (rplA (psOf ls) rs = rplP (psOf ls) rs) := hev
    have hle2 : n2 ≤ c2 := by rw [hn2]; exact h2.le
    have hm2 := h2.max
    have HN2 : Hid (n2 = rs.length) := hn2
    have HZ : Hid (∀ r ∈ rs, r.key.size ≤ 140737488351232 ∧ r.val.size ≤ 140737488351232) := hz
    have hn4 : n ≤ 4096 := by omega
    have HN : Hid (n = ls.length) := hn
    clear hok hev hps hz h h2 hn hn2
    unfold SvOut at hcl
    go_enter Tryz.func12, Tryz.ntmps12
    go_wp2_with fail
    refine har.mono ?_
    rintro e w1 ⟨rfl, f1⟩
    go_wp2_with fail
    refine (hcl _ (HSL.out _ f1)).mono ?_
    rintro e w2 ⟨b, cb, rfl, hsv, f2, hnew⟩
    rw [← HN.out] at hsv hnew ⊢
    have F2 := f1.seq' f2
    have hz1 := f1.size
    have hnc : n ≤ cb ∧ cb ≤ 9223372036854775807 := by
      obtain ⟨a', c', he, h1, h2⟩ := hsv.has.slice
      rw [← HN.out] at he
      simp only [Value.slice.injEq, true_and] at he
      obtain ⟨rfl, rfl⟩ := he
      unfold maxLen at h2
      have := HN.out
      exact ⟨by omega, h2⟩
    have HSV : Hid (Sv w2 (.slice b n cb) ls) := hsv
    have HNW : Hid (∀ k, (Value.slice b n cb).ownBlock = some k → w1.heap.size ≤ k) := hnew
    clear hcl har hsv hnew
    go_wp2
    go_loopw [17] (fun i wr => ∃ (k : Nat) (lp : List Sl), k ≤ n ∧ i = .int .i64 k ∧ Hid (psOf lp = psOf ls) ∧ Hid (Sv wr (.slice b n cb) lp) ∧ Fr (fun k => (Value.slice b n cb).ownBlock = some k) w2 wr) (fun i _ => n - (intOf i).toNat)
    case atStart => exact ⟨0, ls, by omega, rfl, rfl, HSV.out, Fr.refl _ _⟩
    case round =>
      obtain ⟨k, lp, hk, rfl, HP, HS, F⟩ := hrel
      have hln : n = lp.length := by have := congrArg List.length HP.out; rw [ps_length, ps_length] at this; have := HN.out; omega
      by_cases hlt : k < n
      · obtain ⟨s, hs⟩ : ∃ s, lp[k]? = some s := ⟨_, List.getElem?_eq_getElem (by omega)⟩
        obtain ⟨g, c3, e0, hg, _, _, hth, _⟩ := HS.out.has.form (by omega)
        rw [← hln] at e0
        simp only [Value.slice.injEq, true_and] at e0
        obtain ⟨rfl, rfl⟩ := e0
        have HLN : Hid (n = lp.length) := hln
        have hR : Rt s.nd := by
          refine (right_iff _).1 (HRT.out (s.page, s.nd) ?_)
          rw [← HP.out]
          exact List.mem_map.2 ⟨s, List.mem_of_getElem? hs, rfl⟩
        have hfw := rt_few hR
        have hcp := rd_copied s.nd s.pt hfw.1 hfw.2.1 hfw.2.2 wr (HS.out.nod s (List.mem_of_getElem? hs))
        have HE : Hid (∀ W, Fr (fun _ => False) wr W → W.rangeAt g (k * 8) (slC s)) := fun W f => by have := (HS.out.same f).has; rw [← HLN.out] at this; exact this.elem slC_length hs
        have HFZ : Hid (∀ W, Fr (fun _ => False) wr W → ∀ j, j < 8 → W.frozen? ⟨g, k * 8 + j, none⟩ = false) := fun W f j hj => by
          obtain ⟨g3, c3, e3, _, _, _, hth, _⟩ := (HS.out.same f).has.form (by have := HLN.out; omega)
          rw [← HLN.out] at e3
          simp only [Value.slice.injEq, Option.some.injEq, Addr.mk.injEq, and_true, true_and] at e3
          obtain ⟨rfl, rfl⟩ := e3
          have := (hth (k * 8 + j) (by have := HLN.out; omega)).2
          rwa [Nat.zero_add] at this
        obtain ⟨q0, q1, q2, q3, q4, q5, q6, q7⟩ := sl_range (HE.out _ (Fr.refl _ wr))
        have HSS : Hid (lp[k]? = some s) := hs
        have hki : (k : Int) < (n : Int) := by omega
        have hncb := hnc.1
        have hcm := hnc.2
        clear hs hth hln hnc
        go_wp2_with fail
        refine hcp.mono ?_
        intro e w3 ho3
        obtain ⟨q, rfl, ndq, hnw, f3⟩ := cp_nod ho3 (rt_short3 hR) hfw.1 hfw.2.1 hfw.2.2
        clear hcp ho3 q0 q1 q2 q3 q4 q5 q6 q7
        obtain ⟨q0, q1, q2, q3, q4, q5, q6, q7⟩ := sl_range (HE.out _ f3)
        have hfz := HFZ.out _ f3
        have y1 := hfz 1 (by omega); have y2 := hfz 2 (by omega); have y3 := hfz 3 (by omega); have y4 := hfz 4 (by omega); have y5 := hfz 5 (by omega); have y6 := hfz 6 (by omega); have y7 := hfz 7 (by omega)
        have HFIN : Hid (Sv (w3.setCells g (k * 8 + 1) [.int .i64 s.nd.lev, .int .i64 s.nd.lsn, .int .i64 s.nd.rgt, .string s.nd.high, .slice q.k s.nd.keys.length q.kc, .slice q.v s.nd.vals.length q.vc, .slice q.i s.nd.kids.length q.ic]) (.slice (some ⟨g, 0, none⟩) n cb) (lp.set k ⟨s.page, s.nd, q⟩)) := (HS.out.same f3).set HLN.out HSS.out s.nd q ndq (hnw.off (fun b hb e => by omega))
        have HFF : Hid (Fr (fun k => (Value.slice (some ⟨g, 0, none⟩) n cb).ownBlock = some k) w2 (w3.setCells g (k * 8 + 1) [.int .i64 s.nd.lev, .int .i64 s.nd.lsn, .int .i64 s.nd.rgt, .string s.nd.high, .slice q.k s.nd.keys.length q.kc, .slice q.v s.nd.vals.length q.vc, .slice q.i s.nd.kids.length q.ic])) := (F.trans f3 (fun _ _ f => f.elim)).trans (Fr.setCells (S := fun k => k = g) (fun _ => rfl) _ _ (Fr.refl _ w3)) (fun k _ e => by rw [e]; rfl)
        have HPP : Hid (psOf (lp.set k ⟨s.page, s.nd, q⟩) = psOf ls) := by
          show _ = _
          rw [ps_set, ← HP.out]
          unfold psOf
          apply List.ext_getElem?
          intro j
          rw [List.getElem?_set]
          split
          · rename_i hj
            subst hj
            rw [if_pos (by have := HLN.out; simp; omega), List.getElem?_map, HSS.out]
            rfl
          · rfl
        clear hfz ndq hnw
        go_wp2
        go_roundw
        case rel => exact ⟨k + 1, lp.set k ⟨s.page, s.nd, q⟩, by omega, by go_num, HPP, HFIN, HFF.out⟩
        case measure => simp [intOf]; omega
      · obtain rfl : k = n := by omega
        have HF : Hid (Fr (fun _ => False) w wr) := F2.trans F (fun i hi e => by have := HNW.out i e; omega)
        have HNB : Hid (∀ g, (Value.slice b k cb).ownBlock = some g → w.heap.size ≤ g) := fun g e => by have := HNW.out g e; omega
        have HPK : Hid (PsOk (psOf lp)) := by rw [← HP.out] at HPS; exact HPS
        have HLN : Hid (k = lp.length) := hln
        clear hln HSV HNW F F2 f1 f2 hnc
        go_wp2
        go_loopw [33, 0] (fun i l wr => ∃ (j m : Nat) (a' : Option Addr) (c' : Nat) (lq : List Sl), j ≤ n2 ∧ i = .int .i64 j ∧ l = .slice a' m c' ∧ Hid (m = lq.length) ∧ Hid (rplP (psOf lq) (rs.drop j) = rplP (psOf ls) rs) ∧ Hid (PsOk (psOf lq)) ∧ Hid (Sv wr (.slice a' m c') lq) ∧ Hid (∀ g, (Value.slice a' m c').ownBlock = some g → w.heap.size ≤ g) ∧ Fr (fun _ => False) w wr) (fun i _ _ => n2 - (intOf i).toNat)
        case atStart => exact ⟨0, k, b, cb, lp, by omega, rfl, rfl, HLN, by show _ = _; rw [HP.out]; rfl, HPK, HS, HNB, HF.out⟩
        case round =>
          obtain ⟨j, m, a', c', lq, hj, rfl, rfl, HM, HE, HQ, HV, HO, F⟩ := hrel
          by_cases hlt : j < n2
          · obtain ⟨r, hr⟩ : ∃ r, rs[j]? = some r := ⟨_, List.getElem?_eq_getElem (by have := HN2.out; omega)⟩
            obtain ⟨bb, off, rfl, hbb, hcc⟩ := (HRS.out _ F).some (by have := HN2.out; omega)
            obtain ⟨q0, q1, q2, q3, q4, q5, q6, q7⟩ := rec_range (hcc j r hr)
            have HNX : Hid (rplP (psOf lq) (rs.drop j) = if rpE (psOf lq) r = 0 then rplP (rpP (psOf lq) r) (rs.drop (j + 1)) else ([], rpE (psOf lq) r)) := rpl_next (psOf lq) hr
            have hzr := HZ.out r (List.mem_of_getElem? hr)
            have FB := F.alloc (.cells #[.int .i64 r.lsn, .int .i64 r.ep, .int .i64 r.kind, .int .i64 r.page, .int .i64 r.other, .int .i64 r.req, .string r.key, .string r.val] 54)
            have hlf := HQ.out.few
            rw [ps_length] at hlf
            have hrp := replayed_any a' m c' lq HM.out (by omega) HQ.out.rise r hzr.1 hzr.2 (wr.alloc (.cells #[.int .i64 r.lsn, .int .i64 r.ep, .int .i64 r.kind, .int .i64 r.page, .int .i64 r.other, .int .i64 r.req, .string r.key, .string r.val] 54)) (HV.out.same ((Fr.refl _ wr).alloc _))
            have HST : Hid (rpE (psOf lq) r = 0 → PsOk (rpP (psOf lq) r)) := HQ.out.step r
            have hji : (j : Int) < (n2 : Int) := by omega
            obtain ⟨er, her⟩ : ∃ er, er = rpE (psOf lq) r := ⟨_, rfl⟩
            rw [← her] at hrp HNX HST
            clear hr hcc her hzr hlf
            unfold RpOut at hrp
            by_cases h0 : er = 0
            · subst h0
              rw [if_pos rfl] at HNX
              go_wp2_with fail
              refine hrp.mono ?_
              rintro e w5 ⟨a5, c5, l5, rfl, sv5, ps5, f5, own5⟩
              obtain ⟨m5, hm5⟩ : ∃ m5, m5 = l5.length := ⟨_, rfl⟩
              rw [← hm5] at sv5 own5 ⊢
              have HM5 : Hid (m5 = l5.length) := hm5
              have HV5 : Hid (Sv w5 (.slice a5 m5 c5) l5) := sv5
              have HE5 : Hid (rplP (psOf l5) (rs.drop (j + 1)) = rplP (psOf ls) rs) := by show _ = _; rw [ps5, ← HNX.out]; exact HE.out
              have HQ5 : Hid (PsOk (psOf l5)) := by rw [ps5]; exact HST.out trivial
              have HO5 : Hid (∀ g, (Value.slice a5 m5 c5).ownBlock = some g → w.heap.size ≤ g) := fun g e => by
                rcases own5 with h | h
                · rw [h] at e; exact HO.out g e
                · have := h g e; have := FB.size; omega
              have F5 := FB.trans f5 (S := fun _ => False) (fun i hi e => by have := HO.out i e; omega)
              clear hrp sv5 own5 ps5 hm5 f5 q0 q1 q2 q3 q4 q5 q6 q7 HNX HST
              go_wp2
              go_roundw
              case rel => exact ⟨j + 1, m5, a5, c5, l5, by omega, by go_num, rfl, HM5, HE5, HQ5, HV5, HO5, F5⟩
              case measure => simp [intOf]; omega
            · have hb0 : (er != 0) = true := by simpa using h0
              rw [if_neg h0] at HNX
              clear h0
              go_wp2_with fail
              refine hrp.mono ?_
              rintro e w5 ⟨a5, c5, l5, rfl, sv5, ps5, f5, own5⟩
              have HEN : Hid (rplA (psOf ls) rs = ([], er)) := by show _ = _; rw [HEV.out, ← HE.out, HNX.out]
              have F5 := FB.trans f5 (S := fun _ => False) (fun i hi e => by have := HO.out i e; omega)
              obtain ⟨m5, hm5⟩ : ∃ m5, m5 = l5.length := ⟨_, rfl⟩
              rw [← hm5]
              clear hrp sv5 own5 ps5 f5 q0 q1 q2 q3 q4 q5 q6 q7 HNX HST hm5
              go_wp2
              go_ret2
              exact rpl_nil HEN.out F5
          · obtain rfl : j = n2 := by omega
            have HEN : Hid (rplA (psOf ls) rs = (psOf lq, 0)) := by
              show _ = _
              rw [HEV.out, ← HE.out, List.drop_of_length_le (by have := HN2.out; omega)]; rfl
            have HFIN : Hid (RplOut w (rplA (psOf ls) rs) (.returned (.tuple #[.slice a' m c', .int .i64 0])) wr) := by
              show RplOut _ _ _ _
              have hm := HM.out
              subst hm
              rw [HEN.out]
              exact ⟨a', c', lq, rfl, HV.out, rfl, F⟩
            go_wp2
            go_ret2
            exact HFIN.out
end Go.Proofs.YtkibbojiflklpaaGreat
