
/- RdPs, RdRep, RdPure. -/
import Derived.Test.YtlgceleelhppdaaGreatDR43
/- Pages rise, and stay so. -/
namespace Go.Proofs.YtlgceleelhppdaaGreat
open Go.RowKit Go.Lib

theorem replayed_any (a : Option Addr) (n c : Nat) (ls : List Sl) (hn : n = ls.length) (hf : ls.length ≤ 10000) (hr : Rise ls) (r : Rec) (hkz : r.key.size ≤ 140737488351232) (hvz : r.val.size ≤ 140737488351232) (w : World) (h : Sv w (.slice a n c) ls) :
    Calls Tryz.prog 15 #[.slice a n c, (.agg #[.int .i64 r.lsn, .int .i64 r.ep, .int .i64 r.kind, .int .i64 r.page, .int .i64 r.other, .int .i64 r.req, .string r.key, .string r.val])] w fun e w' => RpOut w (.slice a n c) (rpP (psOf ls) r) (rpE (psOf ls) r) e w' := by
  cases hb : hasB ls r.page
  · exact replayed_no a n c ls hn hf hr r hkz hvz hb w h
  · exact replayed_yes a n c ls hn hf hr r hkz hvz hb w h
/-- Pages that rise from 1 to 4096. -/
def PsOk (ps : List (Int × Nd)) : Prop := (ps.map (·.1)).Pairwise (· < ·) ∧ ∀ x ∈ ps.map (·.1), 1 ≤ x ∧ x ≤ 4096
theorem pw_few (l : List Int) (lo : Int) (hp : l.Pairwise (· < ·)) (h : ∀ x ∈ l, lo ≤ x ∧ x ≤ 4096) : (l.length : Int) ≤ max 0 (4097 - lo) := by
  induction l generalizing lo with
  | nil => simp; omega
  | cons a l ih =>
    have ha := h a (by simp)
    rw [List.pairwise_cons] at hp
    have := ih (a + 1) hp.2 (fun x hx => ⟨by have := hp.1 x hx; omega, (h x (by simp [hx])).2⟩)
    simp only [List.length_cons]
    omega
theorem PsOk.few {ps : List (Int × Nd)} (h : PsOk ps) : ps.length ≤ 4096 := by
  have := pw_few _ 1 h.1 h.2
  simp at this
  omega
theorem PsOk.rise {ls : List Sl} (h : PsOk (psOf ls)) : Rise ls := by
  intro i j s t hij hi hj
  have h1 := List.pairwise_iff_getElem.1 h.1
  obtain ⟨hi1, hi2⟩ := List.getElem?_eq_some_iff.1 hi
  obtain ⟨hj1, hj2⟩ := List.getElem?_eq_some_iff.1 hj
  have := h1 i j (by simp [psOf]; exact hi1) (by simp [psOf]; exact hj1) hij
  simp [psOf] at this
  rw [hi2, hj2] at this
  exact this
theorem ps_length (ls : List Sl) : (psOf ls).length = ls.length := by simp [psOf]
theorem ari_ok (x : Int) (ps : List (Int × Nd)) (h : ariB x ps = true) : (ps.map (·.1)).Pairwise (· < ·) ∧ (∀ y ∈ ps.map (·.1), x < y ∧ y ≤ 4096) ∧ ∀ p ∈ ps, rightB p.2 = true := by
  induction ps generalizing x with
  | nil => exact ⟨List.Pairwise.nil, (fun y hy => by cases hy), (fun p hp => by cases hp)⟩
  | cons p l ih =>
    obtain ⟨y, n⟩ := p
    simp only [ariB, Bool.and_eq_true, decide_eq_true_eq] at h
    obtain ⟨⟨⟨h1, h2⟩, h3⟩, h4⟩ := h
    obtain ⟨k1, k2, k3⟩ := ih y h4
    refine ⟨?_, ?_, ?_⟩
    · rw [List.map_cons, List.pairwise_cons]
      exact ⟨fun z hz => (k2 z hz).1, k1⟩
    · intro z hz
      rw [List.map_cons, List.mem_cons] at hz
      rcases hz with rfl | hz
      · exact ⟨h1, h2⟩
      · have := k2 z hz; exact ⟨by omega, this.2⟩
    · intro q hq
      rcases List.mem_cons.1 hq with rfl | hq
      · exact h3
      · exact k3 q hq
theorem ari_psok {ps : List (Int × Nd)} (h : ariB 0 ps = true) : PsOk ps := by
  obtain ⟨h1, h2, _⟩ := ari_ok 0 ps h
  exact ⟨h1, fun x hx => by have := h2 x hx; omega⟩
theorem ins_pw (l : List (Int × Nd)) (x : Int) (n : Nd) (hp : (l.map (·.1)).Pairwise (· < ·)) (hb : hasP l x = false) : ((l.take (ahP l x) ++ (x, n) :: l.drop (ahP l x)).map (·.1)).Pairwise (· < ·) := by
  induction l with
  | nil => simp [ahP]
  | cons s l ih =>
    rw [List.map_cons, List.pairwise_cons] at hp
    by_cases h : s.1 < x
    · have e : ahP (s :: l) x = ahP l x + 1 := if_pos h
      have hb' : hasP l x = false := by
        unfold hasP at hb ⊢
        rw [e, List.getElem?_cons_succ] at hb
        exact hb
      rw [e, List.take_succ_cons, List.drop_succ_cons, List.cons_append, List.map_cons, List.pairwise_cons]
      refine ⟨?_, ih hp.2 hb'⟩
      intro y hy
      simp only [List.map_append, List.map_cons, List.mem_append, List.mem_cons] at hy
      rcases hy with hy | rfl | hy
      · rw [List.map_take] at hy; exact hp.1 y (List.mem_of_mem_take hy)
      · exact h
      · rw [List.map_drop] at hy; exact hp.1 y (List.mem_of_mem_drop hy)
    · have e : ahP (s :: l) x = 0 := if_neg h
      have hne : s.1 ≠ x := by
        unfold hasP at hb
        rw [e, List.getElem?_cons_zero] at hb
        simpa using hb
      rw [e, List.take_zero, List.drop_zero, List.nil_append, List.map_cons, List.pairwise_cons]
      refine ⟨?_, by rw [List.map_cons, List.pairwise_cons]; exact hp⟩
      intro y hy
      rw [List.map_cons, List.mem_cons] at hy
      rcases hy with rfl | hy
      · omega
      · have := hp.1 y hy; omega
theorem page_in {n : Nd} {b : Bool} {r : Rec} (h : apE n b r = 0) : 1 ≤ r.page ∧ r.page ≤ 4096 := by
  have hp : preE n b r = 0 := by
    unfold apE at h
    by_cases e : preE n b r = 0
    · exact e
    · rw [if_neg e] at h; exact absurd h e
  obtain ⟨h1, _, h3⟩ := pre_ok hp
  unfold rok suitB at h1
  simp only [Bool.and_eq_true] at h1
  have h2 := h1.2.2
  have hk : r.kind = 4 ∨ r.kind = 2 ∨ r.kind = 3 ∨ r.kind = 5 ∨ r.kind = 6 := by
    unfold needE at h3
    by_cases e4 : r.kind = 4
    · exact .inl e4
    · rw [if_neg e4] at h3
      by_cases e : r.kind = 2 ∨ r.kind = 3 ∨ r.kind = 5 ∨ r.kind = 6
      · exact .inr e
      · rw [if_neg e] at h3; cases h3
  have hg : pgB r.page = true := by
    rcases hk with e | e | e | e | e <;> simp [e] at h2 <;> exact h2.2.1
  unfold pgB wthB at hg
  simpa using hg
theorem PsOk.step {ps : List (Int × Nd)} (h : PsOk ps) (r : Rec) (h0 : rpE ps r = 0) : PsOk (rpP ps r) := by
  by_cases e1 : apE (nodeP ps r.page) (hasP ps r.page) r = 1
  · rw [(rp_arg rfl rfl e1).2]; exact h
  · have e0 : apE (nodeP ps r.page) (hasP ps r.page) r = 0 := by unfold rpE at h0; rwa [if_neg e1] at h0
    have hpg := page_in e0
    cases hb : hasP ps r.page
    · rw [hb] at e0
      rw [(rp_ins hb rfl e0).2]
      refine ⟨ins_pw ps r.page _ h.1 hb, ?_⟩
      intro x hx
      simp only [List.map_append, List.map_cons, List.mem_append, List.mem_cons] at hx
      rcases hx with hx | rfl | hx
      · rw [List.map_take] at hx; exact h.2 x (List.mem_of_mem_take hx)
      · exact hpg
      · rw [List.map_drop] at hx; exact h.2 x (List.mem_of_mem_drop hx)
    · rw [hb] at e0
      rw [(rp_set hb rfl e0).2]
      have hm : (ps.set (ahP ps r.page) (r.page, apN (nodeP ps r.page) true r)).map (·.1) = ps.map (·.1) := by
        rw [List.map_set]
        unfold hasP at hb
        split at hb
        · cases hb
        · rename_i s hs
          have e : s.1 = r.page := by simpa using hb
          apply List.ext_getElem?
          intro k
          rw [List.getElem?_set]
          split
          · rename_i hk
            subst hk
            obtain ⟨h5, h6⟩ := List.getElem?_eq_some_iff.1 hs
            rw [if_pos (by simpa using h5), List.getElem?_map, hs]
            exact congrArg some e.symm
          · rfl
      unfold PsOk
      rw [hm]
      exact h
/-- What records make of pages, one behind the other. -/
def rplP : List (Int × Nd) → List Rec → List (Int × Nd) × Int
  | ps, [] => (ps, 0)
  | ps, r :: rs => if rpE ps r = 0 then rplP (rpP ps r) rs else ([], rpE ps r)
def rplA (ps : List (Int × Nd)) (rs : List Rec) : List (Int × Nd) × Int := if ariB 0 ps = true then rplP ps rs else ([], 70)
theorem rpl_next {rs : List Rec} {k : Nat} {r : Rec} (ps : List (Int × Nd)) (h : rs[k]? = some r) : rplP ps (rs.drop k) = if rpE ps r = 0 then rplP (rpP ps r) (rs.drop (k + 1)) else ([], rpE ps r) := by
  have hj := (List.getElem?_eq_some_iff.1 h).1
  rw [List.drop_eq_getElem_cons hj, (List.getElem?_eq_some_iff.1 h).2]
  rfl
end Go.Proofs.YtlgceleelhppdaaGreat

/- Replay. -/
namespace Go.Proofs.YtlgceleelhppdaaGreat
open Go.RowKit

/-- What Replay tells. -/
def RplOut (w : World) (o : List (Int × Nd) × Int) (e : Ending) (w' : World) : Prop := ∃ a' c' ls', e = .returned (.tuple #[.slice a' ls'.length c', .int .i64 o.2]) ∧ Sv w' (.slice a' ls'.length c') ls' ∧ psOf ls' = o.1 ∧ Fr (fun _ => False) w w'
theorem rpl_nil {w W : World} {o : List (Int × Nd) × Int} {err : Int} (h : o = ([], err)) (f : Fr (fun _ => False) w W) : RplOut w o (.returned (.tuple #[.slice none 0 0, .int .i64 err])) W := by
  subst h
  exact ⟨none, 0, [], rfl, ⟨Has.nil _ _, (fun s hs => by cases hs), (fun s hs => by cases hs)⟩, rfl, f⟩
set_option maxRecDepth 100000 in
set_option maxHeartbeats 8000000 in
theorem replay_any (a a2 : Option Addr) (n c n2 c2 : Nat) (ls : List Sl) (rs : List Rec) (hn : n = ls.length) (hn2 : n2 = rs.length) (hz : ∀ r ∈ rs, r.key.size ≤ 140737488351232 ∧ r.val.size ≤ 140737488351232) (w : World) (h : Slots w a c ls) (h2 : Recs w a2 c2 rs) :
    Calls Tryz.prog 4 #[.slice a n c, .slice a2 n2 c2] w fun e w' => RplOut w (rplA (psOf ls) rs) e w' := by
  have har := areRight_any a n c ls hn w h
  cases hok : ariB 0 (psOf ls)
  · rw [hok] at har
    have hev : rplA (psOf ls) rs = ([], 70) := by unfold rplA; rw [hok]; rfl
    have HEV : Hid (rplA (psOf ls) rs = ([], 70)) := hev
    clear hok hz h h2 hn hn2 hev
    go_enter Tryz.func4, Tryz.ntmps4
    go_wp2_with fail
    refine har.mono ?_
    rintro e w1 ⟨rfl, f1⟩
    clear har
    go_wp2
    go_ret2
    exact rpl_nil HEV.out f1
  · rw [hok] at har
    have hev : rplA (psOf ls) rs = rplP (psOf ls) rs := by unfold rplA; rw [hok]; rfl
    have hps := ari_psok hok
    have hfew := hps.few
    rw [ps_length] at hfew
    have hcl := fun W hW => clone8 a n c ls W hW hn (by omega)
    have HRT : Hid (∀ p ∈ psOf ls, rightB p.2 = true) := (ari_ok 0 _ hok).2.2
    have HSL : Hid (∀ W, Fr (fun _ => False) w W → Slots W a c ls) := fun W f => h.same f
    have HRS : Hid (∀ W, Fr (fun _ => False) w W → Recs W a2 c2 rs) := fun W f => h2.same f
    have HPS : Hid (PsOk (psOf ls)) := hps
    have HEV : Hid (rplA (psOf ls) rs = rplP (psOf ls) rs) := hev
    have hle2 : n2 ≤ c2 := by rw [hn2]; exact h2.le
    have hm2 := h2.max
    have HN2 : Hid (n2 = rs.length) := hn2
    have HZ : Hid (∀ r ∈ rs, r.key.size ≤ 140737488351232 ∧ r.val.size ≤ 140737488351232) := hz
    have hn4 : n ≤ 4096 := by omega
    have HN : Hid (n = ls.length) := hn
    clear hok hev hps hz h h2 hn hn2
    unfold SvOut at hcl
    go_enter Tryz.func4, Tryz.ntmps4
    go_wp2_with fail
    refine har.mono ?_
    rintro e w1 ⟨rfl, f1⟩
    go_wp2_with fail
    refine (hcl _ (HSL.out _ f1)).mono ?_
    rintro e w2 ⟨b, cb, rfl, hsv, f2, hnew⟩
    rw [← HN.out] at hsv hnew ⊢
    have F2 := f1.seq' f2
    have hz1 := f1.size
    have hnc : n ≤ cb ∧ cb ≤ 9223372036854775807 := by
      obtain ⟨a', c', he, h1, h2⟩ := hsv.has.slice
      rw [← HN.out] at he
      simp only [Value.slice.injEq, true_and] at he
      obtain ⟨rfl, rfl⟩ := he
      unfold maxLen at h2
      have := HN.out
      exact ⟨by omega, h2⟩
    have HSV : Hid (Sv w2 (.slice b n cb) ls) := hsv
    have HNW : Hid (∀ k, (Value.slice b n cb).ownBlock = some k → w1.heap.size ≤ k) := hnew
    clear hcl har hsv hnew
    go_wp2
    go_loopw [17] (fun i wr => ∃ (k : Nat) (lp : List Sl), k ≤ n ∧ i = .int .i64 k ∧ Hid (psOf lp = psOf ls) ∧ Hid (Sv wr (.slice b n cb) lp) ∧ Fr (fun k => (Value.slice b n cb).ownBlock = some k) w2 wr) (fun i _ => n - (intOf i).toNat)
    case atStart => exact ⟨0, ls, by omega, rfl, rfl, HSV.out, Fr.refl _ _⟩
    case round =>
      obtain ⟨k, lp, hk, rfl, HP, HS, F⟩ := hrel
      have hln : n = lp.length := by have := congrArg List.length HP.out; rw [ps_length, ps_length] at this; have := HN.out; omega
      by_cases hlt : k < n
      · obtain ⟨s, hs⟩ : ∃ s, lp[k]? = some s := ⟨_, List.getElem?_eq_getElem (by omega)⟩
        obtain ⟨g, c3, e0, hg, _, _, hth, _⟩ := HS.out.has.form (by omega)
        rw [← hln] at e0
        simp only [Value.slice.injEq, true_and] at e0
        obtain ⟨rfl, rfl⟩ := e0
        have HLN : Hid (n = lp.length) := hln
        have hR : Rt s.nd := by
          refine (right_iff _).1 (HRT.out (s.page, s.nd) ?_)
          rw [← HP.out]
          exact List.mem_map.2 ⟨s, List.mem_of_getElem? hs, rfl⟩
        have hfw := rt_few hR
        have hcp := rd_copied s.nd s.pt hfw.1 hfw.2.1 hfw.2.2 wr (HS.out.nod s (List.mem_of_getElem? hs))
        have HE : Hid (∀ W, Fr (fun _ => False) wr W → W.rangeAt g (k * 8) (slC s)) := fun W f => by have := (HS.out.same f).has; rw [← HLN.out] at this; exact this.elem slC_length hs
        have HFZ : Hid (∀ W, Fr (fun _ => False) wr W → ∀ j, j < 8 → W.frozen? ⟨g, k * 8 + j, none⟩ = false) := fun W f j hj => by
          obtain ⟨g3, c3, e3, _, _, _, hth, _⟩ := (HS.out.same f).has.form (by have := HLN.out; omega)
          rw [← HLN.out] at e3
          simp only [Value.slice.injEq, Option.some.injEq, Addr.mk.injEq, and_true, true_and] at e3
          obtain ⟨rfl, rfl⟩ := e3
          have := (hth (k * 8 + j) (by have := HLN.out; omega)).2
          rwa [Nat.zero_add] at this
        obtain ⟨q0, q1, q2, q3, q4, q5, q6, q7⟩ := sl_range (HE.out _ (Fr.refl _ wr))
        have HSS : Hid (lp[k]? = some s) := hs
        have hki : (k : Int) < (n : Int) := by omega
        have hncb := hnc.1
        have hcm := hnc.2
        clear hs hth hln hnc
        go_wp2_with fail
        refine hcp.mono ?_
        intro e w3 ho3
        obtain ⟨q, rfl, ndq, hnw, f3⟩ := cp_nod ho3 (rt_short3 hR) hfw.1 hfw.2.1 hfw.2.2
        clear hcp ho3 q0 q1 q2 q3 q4 q5 q6 q7
        obtain ⟨q0, q1, q2, q3, q4, q5, q6, q7⟩ := sl_range (HE.out _ f3)
        have hfz := HFZ.out _ f3
        have y1 := hfz 1 (by omega); have y2 := hfz 2 (by omega); have y3 := hfz 3 (by omega); have y4 := hfz 4 (by omega); have y5 := hfz 5 (by omega); have y6 := hfz 6 (by omega); have y7 := hfz 7 (by omega)
        have HFIN : Hid (Sv (w3.setCells g (k * 8 + 1) [.int .i64 s.nd.lev, .int .i64 s.nd.lsn, .int .i64 s.nd.rgt, .string s.nd.high, .slice q.k s.nd.keys.length q.kc, .slice q.v s.nd.vals.length q.vc, .slice q.i s.nd.kids.length q.ic]) (.slice (some ⟨g, 0, none⟩) n cb) (lp.set k ⟨s.page, s.nd, q⟩)) := (HS.out.same f3).set HLN.out HSS.out s.nd q ndq (hnw.off (fun b hb e => by omega))
        have HFF : Hid (Fr (fun k => (Value.slice (some ⟨g, 0, none⟩) n cb).ownBlock = some k) w2 (w3.setCells g (k * 8 + 1) [.int .i64 s.nd.lev, .int .i64 s.nd.lsn, .int .i64 s.nd.rgt, .string s.nd.high, .slice q.k s.nd.keys.length q.kc, .slice q.v s.nd.vals.length q.vc, .slice q.i s.nd.kids.length q.ic])) := (F.trans f3 (fun _ _ f => f.elim)).trans (Fr.setCells (S := fun k => k = g) (fun _ => rfl) _ _ (Fr.refl _ w3)) (fun k _ e => by rw [e]; rfl)
        have HPP : Hid (psOf (lp.set k ⟨s.page, s.nd, q⟩) = psOf ls) := by
          show _ = _
          rw [ps_set, ← HP.out]
          unfold psOf
          apply List.ext_getElem?
          intro j
          rw [List.getElem?_set]
          split
          · rename_i hj
            subst hj
            rw [if_pos (by have := HLN.out; simp; omega), List.getElem?_map, HSS.out]
            rfl
          · rfl
        clear hfz ndq hnw
        go_wp2
        go_roundw
        case rel => exact ⟨k + 1, lp.set k ⟨s.page, s.nd, q⟩, by omega, by go_num, HPP, HFIN, HFF.out⟩
        case measure => simp [intOf]; omega
      · obtain rfl : k = n := by omega
        have HF : Hid (Fr (fun _ => False) w wr) := F2.trans F (fun i hi e => by have := HNW.out i e; omega)
        have HNB : Hid (∀ g, (Value.slice b k cb).ownBlock = some g → w.heap.size ≤ g) := fun g e => by have := HNW.out g e; omega
        have HPK : Hid (PsOk (psOf lp)) := by rw [← HP.out] at HPS; exact HPS
        have HLN : Hid (k = lp.length) := hln
        clear hln HSV HNW F F2 f1 f2 hnc
        go_wp2
        go_loopw [33, 0] (fun i l wr => ∃ (j m : Nat) (a' : Option Addr) (c' : Nat) (lq : List Sl), j ≤ n2 ∧ i = .int .i64 j ∧ l = .slice a' m c' ∧ Hid (m = lq.length) ∧ Hid (rplP (psOf lq) (rs.drop j) = rplP (psOf ls) rs) ∧ Hid (PsOk (psOf lq)) ∧ Hid (Sv wr (.slice a' m c') lq) ∧ Hid (∀ g, (Value.slice a' m c').ownBlock = some g → w.heap.size ≤ g) ∧ Fr (fun _ => False) w wr) (fun i _ _ => n2 - (intOf i).toNat)
        case atStart => exact ⟨0, k, b, cb, lp, by omega, rfl, rfl, HLN, by show _ = _; rw [HP.out]; rfl, HPK, HS, HNB, HF.out⟩
        case round =>
          obtain ⟨j, m, a', c', lq, hj, rfl, rfl, HM, HE, HQ, HV, HO, F⟩ := hrel
          by_cases hlt : j < n2
          · obtain ⟨r, hr⟩ : ∃ r, rs[j]? = some r := ⟨_, List.getElem?_eq_getElem (by have := HN2.out; omega)⟩
            obtain ⟨bb, off, rfl, hbb, hcc⟩ := (HRS.out _ F).some (by have := HN2.out; omega)
            obtain ⟨q0, q1, q2, q3, q4, q5, q6, q7⟩ := rec_range (hcc j r hr)
            have HNX : Hid (rplP (psOf lq) (rs.drop j) = if rpE (psOf lq) r = 0 then rplP (rpP (psOf lq) r) (rs.drop (j + 1)) else ([], rpE (psOf lq) r)) := rpl_next (psOf lq) hr
            have hzr := HZ.out r (List.mem_of_getElem? hr)
            have FB := F.alloc (.cells #[.int .i64 r.lsn, .int .i64 r.ep, .int .i64 r.kind, .int .i64 r.page, .int .i64 r.other, .int .i64 r.req, .string r.key, .string r.val] 48)
            have hlf := HQ.out.few
            rw [ps_length] at hlf
            have hrp := replayed_any a' m c' lq HM.out (by omega) HQ.out.rise r hzr.1 hzr.2 (wr.alloc (.cells #[.int .i64 r.lsn, .int .i64 r.ep, .int .i64 r.kind, .int .i64 r.page, .int .i64 r.other, .int .i64 r.req, .string r.key, .string r.val] 48)) (HV.out.same ((Fr.refl _ wr).alloc _))
            have HST : Hid (rpE (psOf lq) r = 0 → PsOk (rpP (psOf lq) r)) := HQ.out.step r
            have hji : (j : Int) < (n2 : Int) := by omega
            obtain ⟨er, her⟩ : ∃ er, er = rpE (psOf lq) r := ⟨_, rfl⟩
            rw [← her] at hrp HNX HST
            clear hr hcc her hzr hlf
            unfold RpOut at hrp
            by_cases h0 : er = 0
            · subst h0
              rw [if_pos rfl] at HNX
              go_wp2_with fail
              refine hrp.mono ?_
              rintro e w5 ⟨a5, c5, l5, rfl, sv5, ps5, f5, own5⟩
              obtain ⟨m5, hm5⟩ : ∃ m5, m5 = l5.length := ⟨_, rfl⟩
              rw [← hm5] at sv5 own5 ⊢
              have HM5 : Hid (m5 = l5.length) := hm5
              have HV5 : Hid (Sv w5 (.slice a5 m5 c5) l5) := sv5
              have HE5 : Hid (rplP (psOf l5) (rs.drop (j + 1)) = rplP (psOf ls) rs) := by show _ = _; rw [ps5, ← HNX.out]; exact HE.out
              have HQ5 : Hid (PsOk (psOf l5)) := by rw [ps5]; exact HST.out trivial
              have HO5 : Hid (∀ g, (Value.slice a5 m5 c5).ownBlock = some g → w.heap.size ≤ g) := fun g e => by
                rcases own5 with h | h
                · rw [h] at e; exact HO.out g e
                · have := h g e; have := FB.size; omega
              have F5 := FB.trans f5 (S := fun _ => False) (fun i hi e => by have := HO.out i e; omega)
              clear hrp sv5 own5 ps5 hm5 f5 q0 q1 q2 q3 q4 q5 q6 q7 HNX HST
              go_wp2
              go_roundw
              case rel => exact ⟨j + 1, m5, a5, c5, l5, by omega, by go_num, rfl, HM5, HE5, HQ5, HV5, HO5, F5⟩
              case measure => simp [intOf]; omega
            · have hb0 : (er != 0) = true := by simpa using h0
              rw [if_neg h0] at HNX
              clear h0
              go_wp2_with fail
              refine hrp.mono ?_
              rintro e w5 ⟨a5, c5, l5, rfl, sv5, ps5, f5, own5⟩
              have HEN : Hid (rplA (psOf ls) rs = ([], er)) := by show _ = _; rw [HEV.out, ← HE.out, HNX.out]
              have F5 := FB.trans f5 (S := fun _ => False) (fun i hi e => by have := HO.out i e; omega)
              obtain ⟨m5, hm5⟩ : ∃ m5, m5 = l5.length := ⟨_, rfl⟩
              rw [← hm5]
              clear hrp sv5 own5 ps5 f5 q0 q1 q2 q3 q4 q5 q6 q7 HNX HST hm5
              go_wp2
              go_ret2
              exact rpl_nil HEN.out F5
          · obtain rfl : j = n2 := by omega
            have HEN : Hid (rplA (psOf ls) rs = (psOf lq, 0)) := by
              show _ = _
              rw [HEV.out, ← HE.out, List.drop_of_length_le (by have := HN2.out; omega)]; rfl
            have HFIN : Hid (RplOut w (rplA (psOf ls) rs) (.returned (.tuple #[.slice a' m c', .int .i64 0])) wr) := by
              show RplOut _ _ _ _
              have hm := HM.out
              subst hm
              rw [HEN.out]
              exact ⟨a', c', lq, rfl, HV.out, rfl, F⟩
            go_wp2
            go_ret2
            exact HFIN.out
end Go.Proofs.YtlgceleelhppdaaGreat

/- Records of different pages do not touch one another. -/
namespace Go.Proofs.YtlgceleelhppdaaGreat
open Go.RowKit

/-- The node of a page, if it is there. -/
def getP : List (Int × Nd) → Int → Option Nd
  | [], _ => none
  | s :: l, y => if s.1 = y then some s.2 else getP l y
def Srt (ps : List (Int × Nd)) : Prop := (ps.map (·.1)).Pairwise (· < ·)
theorem Srt.tail {s : Int × Nd} {l : List (Int × Nd)} (h : Srt (s :: l)) : Srt l := by
  unfold Srt at h; rw [List.map_cons, List.pairwise_cons] at h; exact h.2
theorem Srt.head {s : Int × Nd} {l : List (Int × Nd)} (h : Srt (s :: l)) : ∀ t ∈ l, s.1 < t.1 := by
  unfold Srt at h; rw [List.map_cons, List.pairwise_cons] at h
  exact fun t ht => h.1 t.1 (List.mem_map.2 ⟨t, ht, rfl⟩)
theorem get_none {l : List (Int × Nd)} {y : Int} (h : ∀ t ∈ l, t.1 ≠ y) : getP l y = none := by
  induction l with
  | nil => rfl
  | cons s l ih => unfold getP; rw [if_neg (h s (by simp))]; exact ih (fun t ht => h t (by simp [ht]))
theorem get_some {l : List (Int × Nd)} {y : Int} {n : Nd} (h : getP l y = some n) : (y, n) ∈ l := by
  induction l with
  | nil => cases h
  | cons s l ih =>
    unfold getP at h
    by_cases e : s.1 = y
    · rw [if_pos e] at h; cases h; subst e; simp
    · rw [if_neg e] at h; simp [ih h]
theorem get_app (a b : List (Int × Nd)) (y : Int) : getP (a ++ b) y = (getP a y).or (getP b y) := by
  induction a with
  | nil => simp [getP]
  | cons s l ih => simp only [List.cons_append, getP]; split <;> simp [ih]
/-- What the search finds is the page's node. -/
theorem get_has (ps : List (Int × Nd)) (x : Int) (h : Srt ps) : hasP ps x = (getP ps x).isSome ∧ nodeP ps x = (getP ps x).getD zn := by
  induction ps with
  | nil => exact ⟨rfl, rfl⟩
  | cons s l ih =>
    by_cases hlt : s.1 < x
    · have e : ahP (s :: l) x = ahP l x + 1 := if_pos hlt
      have e1 : hasP (s :: l) x = hasP l x := by unfold hasP; rw [e, List.getElem?_cons_succ]
      have e2 : nodeP (s :: l) x = nodeP l x := by unfold nodeP; rw [e1, e, List.getElem?_cons_succ]
      have e3 : getP (s :: l) x = getP l x := if_neg (by omega)
      rw [e1, e2, e3]; exact ih h.tail
    · have e : ahP (s :: l) x = 0 := if_neg hlt
      have e1 : hasP (s :: l) x = (s.1 == x) := by unfold hasP; rw [e]; rfl
      by_cases hx : s.1 = x
      · have e3 : getP (s :: l) x = some s.2 := if_pos hx
        have e1' : hasP (s :: l) x = true := by rw [e1]; simpa using hx
        refine ⟨by rw [e1', e3]; rfl, ?_⟩
        unfold nodeP
        rw [e1', if_pos rfl, e, e3]; rfl
      · have e3 : getP (s :: l) x = none := by
          unfold getP; rw [if_neg hx]
          exact get_none (fun t ht => by have := h.head t ht; omega)
        have e1' : hasP (s :: l) x = false := by rw [e1]; simpa using hx
        refine ⟨by rw [e1', e3]; rfl, ?_⟩
        unfold nodeP
        rw [e1', if_neg (by simp), e3]; rfl
theorem get_ins (ps : List (Int × Nd)) (i : Nat) (x : Int) (n : Nd) (h : getP ps x = none) (y : Int) : getP (ps.take i ++ (x, n) :: ps.drop i) y = if y = x then some n else getP ps y := by
  have h2 : getP ps y = (getP (ps.take i) y).or (getP (ps.drop i) y) := by rw [← get_app, List.take_append_drop]
  rw [get_app]
  by_cases e : y = x
  · subst e
    rw [if_pos rfl]
    rw [h2] at h
    have : getP (ps.take i) y = none := by cases hh : getP (ps.take i) y <;> simp [hh] at h ⊢
    rw [this]
    unfold getP
    rw [if_pos rfl]; rfl
  · rw [if_neg e, h2]
    congr 1
    exact if_neg (fun f => e f.symm)
theorem get_set (ps : List (Int × Nd)) (x : Int) (n : Nd) (h : Srt ps) (hb : hasP ps x = true) (y : Int) : getP (ps.set (ahP ps x) (x, n)) y = if y = x then some n else getP ps y := by
  induction ps with
  | nil => cases hb
  | cons s l ih =>
    by_cases hlt : s.1 < x
    · have e : ahP (s :: l) x = ahP l x + 1 := if_pos hlt
      have e1 : hasP (s :: l) x = hasP l x := by unfold hasP; rw [e, List.getElem?_cons_succ]
      rw [e, List.set_cons_succ]
      unfold getP
      rw [ih h.tail (by rw [← e1]; exact hb)]
      by_cases hy : s.1 = y
      · rw [if_pos hy, if_pos hy, if_neg (by omega)]
      · rw [if_neg hy, if_neg hy]
    · have e : ahP (s :: l) x = 0 := if_neg hlt
      have hx : s.1 = x := by unfold hasP at hb; rw [e] at hb; simpa using hb
      rw [e, List.set_cons_zero]
      unfold getP
      by_cases hy : y = x
      · rw [if_pos hy, if_pos hy.symm]
      · rw [if_neg hy, if_neg (fun f => hy f.symm), if_neg (fun f => hy (by rw [← f, hx]))]
theorem get_ext (ps qs : List (Int × Nd)) (h : Srt ps) (k : Srt qs) (e : ∀ y, getP ps y = getP qs y) : ps = qs := by
  induction ps generalizing qs with
  | nil =>
    cases qs with
    | nil => rfl
    | cons q m => have := e q.1; simp [getP] at this
  | cons p l ih =>
    cases qs with
    | nil => have := e p.1; simp [getP] at this
    | cons q m =>
      have e1 : getP (q :: m) p.1 = some p.2 := by rw [← e]; simp [getP]
      have e2 : getP (p :: l) q.1 = some q.2 := by rw [e]; simp [getP]
      have m1 := get_some e1
      have m2 := get_some e2
      have h1 : p = q := by
        rcases List.mem_cons.1 m1 with f | f
        · exact f
        · rcases List.mem_cons.1 m2 with g | g
          · exact g.symm
          · have := k.head _ f; have := h.head _ g; simp at *; omega
      subst h1
      congr 1
      refine ih m h.tail k.tail (fun y => ?_)
      by_cases hy : p.1 = y
      · rw [get_none (fun t ht => by have := h.head t ht; omega), get_none (fun t ht => by have := k.head t ht; omega)]
      · have := e y
        unfold getP at this
        rwa [if_neg hy, if_neg hy] at this
/-- A record and one page. -/
def st1E (o : Option Nd) (r : Rec) : Int := if apE (o.getD zn) o.isSome r = 1 then 0 else apE (o.getD zn) o.isSome r
def st1 (o : Option Nd) (r : Rec) : Option Nd := if apE (o.getD zn) o.isSome r = 1 then o else some (apN (o.getD zn) o.isSome r)
def run1 : Option Nd → List Rec → Option (Option Nd)
  | o, [] => some o
  | o, r :: rs => if st1E o r = 0 then run1 (st1 o r) rs else none
theorem rp_st {ps : List (Int × Nd)} (h : Srt ps) (r : Rec) : rpE ps r = st1E (getP ps r.page) r := by
  unfold rpE st1E; rw [(get_has ps r.page h).1, (get_has ps r.page h).2]
theorem rp_get {ps : List (Int × Nd)} (h : Srt ps) (r : Rec) (h0 : rpE ps r = 0) (y : Int) : getP (rpP ps r) y = if y = r.page then st1 (getP ps r.page) r else getP ps y := by
  obtain ⟨g1, g2⟩ := get_has ps r.page h
  unfold st1
  rw [← g1, ← g2]
  by_cases e1 : apE (nodeP ps r.page) (hasP ps r.page) r = 1
  · rw [(rp_arg rfl rfl e1).2, if_pos e1]
    split
    · rename_i hy; rw [hy]
    · rfl
  · have e0 : apE (nodeP ps r.page) (hasP ps r.page) r = 0 := by unfold rpE at h0; rwa [if_neg e1] at h0
    rw [if_neg e1]
    cases hb : hasP ps r.page
    · rw [hb] at e0
      rw [(rp_ins hb rfl e0).2]
      exact get_ins ps _ _ _ (by rw [hb] at g1; cases hg : getP ps r.page <;> simp [hg] at g1 ⊢) y
    · rw [hb] at e0
      rw [(rp_set hb rfl e0).2]
      exact get_set ps _ _ h hb y
/-- Replay page by page: no error, and these pages, if and only if each page by itself comes to its node. -/
theorem rpl_iff (ps qs : List (Int × Nd)) (rs : List Rec) (h : PsOk ps) (k : Srt qs) : rplP ps rs = (qs, 0) ↔ ∀ x, run1 (getP ps x) (rs.filter (fun r => r.page == x)) = some (getP qs x) := by
  induction rs generalizing ps with
  | nil =>
    simp only [rplP, Prod.mk.injEq, and_true, List.filter_nil, run1, Option.some.injEq]
    exact ⟨fun e x => by rw [e], fun e => get_ext ps qs h.1 k e⟩
  | cons r rs ih =>
    unfold rplP
    by_cases h0 : rpE ps r = 0
    · rw [if_pos h0, ih (rpP ps r) (h.step r h0)]
      have hst := h0
      rw [rp_st h.1] at hst
      refine forall_congr' (fun x => ?_)
      rw [rp_get h.1 r h0]
      by_cases hx : x = r.page
      · subst hx
        rw [if_pos rfl, List.filter_cons_of_pos (by simp)]
        show _ ↔ (if st1E _ r = 0 then _ else none) = _
        rw [if_pos hst]
      · rw [if_neg hx, List.filter_cons_of_neg (by simpa using fun f => hx f.symm)]
    · rw [if_neg h0]
      constructor
      · intro e; simp only [Prod.mk.injEq] at e; exact absurd e.2 h0
      · intro e
        have := e r.page
        rw [List.filter_cons_of_pos (by simp)] at this
        unfold run1 at this
        rw [← rp_st h.1, if_neg h0] at this
        cases this
theorem run1_out {x : Int} (hx : ¬ (1 ≤ x ∧ x ≤ 4096)) (o q : Option Nd) (rs : List Rec) (hr : ∀ r ∈ rs, r.page = x) (h : run1 o rs = some q) : q = o := by
  induction rs generalizing o with
  | nil => simp [run1] at h; exact h.symm
  | cons r rs ih =>
    unfold run1 at h
    by_cases h0 : st1E o r = 0
    · rw [if_pos h0] at h
      have hs : st1 o r = o := by
        unfold st1E at h0
        unfold st1
        by_cases e1 : apE (o.getD zn) o.isSome r = 1
        · rw [if_pos e1]
        · rw [if_neg e1] at h0
          have := page_in h0
          rw [hr r (by simp)] at this
          exact absurd this hx
      rw [hs] at h
      exact ih o (fun t ht => hr t (by simp [ht])) h
    · rw [if_neg h0] at h; cases h
/-- By page is as well as in order. -/
theorem by_page (ps qs : List (Int × Nd)) (rs bs : List Rec) (h : PsOk ps) (k : Srt qs) (hb : ∀ x, 1 ≤ x ∧ x ≤ 4096 → bs.filter (fun r => r.page == x) = rs.filter (fun r => r.page == x)) (hn : ∀ r ∈ bs, 1 ≤ r.page ∧ r.page ≤ 4096) (e : rplP ps rs = (qs, 0)) : rplP ps bs = (qs, 0) := by
  rw [rpl_iff ps qs _ h k] at e ⊢
  intro x
  by_cases hx : 1 ≤ x ∧ x ≤ 4096
  · rw [hb x hx]; exact e x
  · have h1 : bs.filter (fun r => r.page == x) = [] := by
      rw [List.filter_eq_nil_iff]
      intro r hr f
      have : r.page = x := by simpa using f
      have := hn r hr
      omega
    rw [h1]
    have := run1_out hx _ _ _ (fun r hr => by have := (List.mem_filter.1 hr).2; simpa using this) (e x)
    rw [this]; rfl
end Go.Proofs.YtlgceleelhppdaaGreat
