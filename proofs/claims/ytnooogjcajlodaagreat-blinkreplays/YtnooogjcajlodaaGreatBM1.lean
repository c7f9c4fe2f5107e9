
/- BkFew, BkPgs. -/
import Derived.Test.YtnooogjcajlodaaGreatBM2
import Derived.Test.YtnooogjcajlodaaGreatBB33
/- Sizes of a tree's nodes through what it says. -/
namespace Go.Proofs.YtnooogjcajlodaaGreat
open Go.RowKit

/-- A node whose lists are not long. -/
def Few (n : Nd) : Prop := n.keys.length ≤ 100000 ∧ n.vals.length ≤ 100000 ∧ n.kids.length ≤ 100000
theorem few_zn : Few zn := by unfold Few zn; simp
theorem few_rt {n : Nd} (h : rightB n = true) : Few n := rt_few ((right_iff n).1 h)
theorem few_fit {n : Nd} (h : fitE n = 0) : Few n := by
  refine few_rt ?_
  unfold fitE at h
  by_cases e : rightB n = true
  · exact e
  · rw [if_neg e] at h; cases h
theorem few_ok {e : Int} {m : Nd} (h : e = 0 → Few m) : Few (okN e m) := by
  unfold okN
  by_cases h0 : e = 0
  · rw [if_pos h0]; exact h h0
  · rw [if_neg h0]; exact few_zn
theorem few_ch (n : Nd) (r : Rec) (hn : Few n) : Few (chN n r) := by
  unfold chN
  split
  · refine few_ok (fun h => few_fit ?_)
    unfold putE at h
    split at h
    · exact h
    · rename_i h0; exact absurd h h0
  split
  · refine few_ok (fun _ => ?_)
    unfold delN delTo Few
    have h1 := erTo_len (plc (bsOf r.key) n.keys).2 (plc (bsOf r.key) n.keys).1 n.keys.length n.keys
    have h2 := erTo_len (plc (bsOf r.key) n.keys).2 (plc (bsOf r.key) n.keys).1 n.keys.length n.vals
    have h3 := hn.1
    refine ⟨?_, ?_, ?_⟩
    · show (erTo _ _ _ _).length ≤ _; omega
    · show (erTo _ _ _ _).length ≤ _; omega
    · show ([] : List Int).length ≤ _; simp
  split
  · refine few_ok (fun _ => ?_)
    obtain ⟨h1, h2, h3⟩ := hn
    unfold leftN pieceN Few
    refine ⟨?_, ?_, ?_⟩
    · simp; omega
    · dsimp only; split
      · simp; omega
      · simp
    · dsimp only; split
      · simp
      · simp; omega
  split
  · refine few_ok (fun h => few_fit ?_)
    unfold postE at h
    split at h
    · unfold postF at h
      split at h
      · cases h
      · exact h
    · rename_i h0; exact absurd h h0
  · cases hd : decF (bsOf r.val) with
    | none => exact few_zn
    | some m =>
      refine few_rt ?_
      unfold decF at hd
      split at hd
      · rename_i hc
        simp only [Option.some.injEq] at hd
        subst hd
        exact hc.2.2.2.2
      · cases hd
theorem few_ap (n : Nd) (b : Bool) (r : Rec) (hn : Few n) : Few (apN n b r) := by
  unfold apN
  split
  · split
    · exact hn
    · split
      · exact few_ch n r hn
      · exact few_zn
  · exact few_zn
theorem few_node {ps : List (Int × Nd)} (h : ∀ p ∈ ps, Few p.2) (x : Int) : Few (nodeP ps x) := by
  unfold nodeP
  split
  · cases hp : ps[ahP ps x]? with
    | none => exact few_zn
    | some p => exact h p (List.mem_of_getElem? hp)
  · exact few_zn
theorem few_step {ps : List (Int × Nd)} (h : ∀ p ∈ ps, Few p.2) (r : Rec) : ∀ p ∈ rpP ps r, Few p.2 := by
  intro p hp
  unfold rpP at hp
  split at hp
  · exact h p hp
  · split at hp
    · split at hp
      · rcases List.mem_or_eq_of_mem_set hp with hp | rfl
        · exact h p hp
        · exact few_ap _ _ _ (few_node h _)
      · rw [List.mem_append, List.mem_cons] at hp
        rcases hp with hp | rfl | hp
        · exact h p (List.mem_of_mem_take hp)
        · exact few_ap _ _ _ (few_node h _)
        · exact h p (List.mem_of_mem_drop hp)
    · cases hp
theorem few_ari {ps : List (Int × Nd)} (h : ariB 0 ps = true) : ∀ p ∈ ps, Few p.2 := fun p hp => few_rt ((ari_ok 0 ps h).2.2 p hp)
theorem rp_lsn {ps : List (Int × Nd)} {r : Rec} (h : rpE ps r = 0) : 1 ≤ r.lsn ∧ r.lsn ≤ 1099511627776 := by
  cases hr : rok r
  · have h1 : preE (nodeP ps r.page) (hasP ps r.page) r = 90 := by
      unfold preE
      simp only [firstE, erec_no hr]
      rw [if_neg (by decide)]
    have h2 := (ap_err h1 (by decide)).2.2
    unfold rpE at h
    rw [h2, if_neg (by decide)] at h
    cases h
  · unfold rok wthB at hr
    simp only [Bool.and_eq_true, decide_eq_true_eq] at hr
    exact hr.1
theorem rpl_snoc {rs : List Rec} : ∀ {ps qs : List (Int × Nd)} {r : Rec}, rplP ps rs = (qs, 0) → rpE qs r = 0 → rplP ps (rs ++ [r]) = (rpP qs r, 0) := by
  induction rs with
  | nil =>
    intro ps qs r h h0
    simp only [rplP, Prod.mk.injEq, and_true] at h
    subst h
    simp only [List.nil_append, rplP]
    rw [if_pos h0]
  | cons x xs ih =>
    intro ps qs r h h0
    simp only [List.cons_append, rplP] at h ⊢
    by_cases e : rpE ps x = 0
    · rw [if_pos e] at h ⊢
      exact ih h h0
    · rw [if_neg e] at h
      simp only [Prod.mk.injEq] at h
      exact absurd h.2 e
theorem mx_in {l : List Sl} : ∀ {m : Int}, 0 ≤ m → m ≤ 1099511627776 → (∀ s ∈ l, 0 ≤ s.nd.lsn ∧ s.nd.lsn ≤ 1099511627776) → 0 ≤ l.foldl (fun m s => mx m s.nd.lsn) m ∧ l.foldl (fun m s => mx m s.nd.lsn) m ≤ 1099511627776 := by
  induction l with
  | nil => intro m h0 h1 _; exact ⟨h0, h1⟩
  | cons s l ih =>
    intro m h0 h1 h
    have hs := h s (by simp)
    refine ih ?_ ?_ (fun t ht => h t (by simp [ht]))
    · show 0 ≤ max m s.nd.lsn; omega
    · show max m s.nd.lsn ≤ _; omega
theorem maxL_in {ls : List Sl} (h : ariB 0 (psOf ls) = true) : 0 ≤ maxL ls ∧ maxL ls ≤ 1099511627776 := by
  refine mx_in (by omega) (by omega) (fun s hs => ?_)
  have := (right_iff s.nd).1 ((ari_ok 0 _ h).2.2 (s.page, s.nd) (List.mem_map.2 ⟨s, hs, rfl⟩))
  exact ⟨this.lsn0, this.lsn1⟩
theorem Has.strsF {w : World} {v : Value} {l : List ByteArray} (h : Has w 1 v l.length (strCells l)) (hs : ∀ s ∈ l, s.size ≤ maxLen) : ∃ a c, v = .slice a l.length c ∧ Strs w a c l := by
  rcases h.2 with ⟨rfl, h0⟩ | ⟨g, cap, rfl, hg, h1, h2, h3, h4⟩
  · have : l = [] := List.eq_nil_of_length_eq_zero h0
    subst this
    exact ⟨none, 0, rfl, by simp, by omega, hs, .inl rfl⟩
  · refine ⟨_, cap, rfl, h1, by unfold maxLen at h2; omega, hs, .inr ⟨g, 0, rfl, hg, fun i hi => ?_⟩⟩
    exact h4 i _ (by simp [strCells, List.getD_eq_getElem?_getD, hi])
theorem cp_nodF {w0 w w' : World} {n : Nd} {p : Pt} {e : Ending} (h : CpOut n w e w') (hn : Nod w0 n p) : ∃ q : Pt, e = .returned (.agg #[.int .i64 n.lev, .int .i64 n.lsn, .int .i64 n.rgt, .string n.high, .slice q.k n.keys.length q.kc, .slice q.v n.vals.length q.vc, .slice q.i n.kids.length q.ic]) ∧ Nod w' n q ∧ Nw w q ∧ Fr (fun _ => False) w w' := by
  obtain ⟨ak, ck, av, cv, ai, ci, rfl, hk, hv, hi, ok, ov, oi, _, _, _, f⟩ := h
  obtain ⟨a1, c1, e1, s1⟩ := hk.strsF hn.keys.text
  obtain ⟨a2, c2, e2, s2⟩ := hv.strsF hn.vals.text
  obtain ⟨a3, c3, e3, s3⟩ := hi.ints
  simp only [Value.slice.injEq, true_and] at e1 e2 e3
  obtain ⟨rfl, rfl⟩ := e1
  obtain ⟨rfl, rfl⟩ := e2
  obtain ⟨rfl, rfl⟩ := e3
  refine ⟨⟨ak, ck, av, cv, ai, ci⟩, rfl, ⟨s1, s2, s3, hn.high, hn.ksz, hn.vsz, hn.klen, hn.vlen, hn.ilen⟩, ?_, f⟩
  rintro b off (hx | hx | hx)
  · dsimp only at hx; subst hx; exact ok b rfl
  · dsimp only at hx; subst hx; exact ov b rfl
  · dsimp only at hx; subst hx; exact oi b rfl

set_option maxRecDepth 100000 in
set_option maxHeartbeats 8000000 in
theorem bcopied_few (a : Option Addr) (n c : Nat) (ls : List Sl) (hn : n = ls.length) (hf : n ≤ 100000) (hs : ∀ s ∈ ls, Few s.nd) (w : World) (h : Slots w a c ls) :
    Calls Tryz.prog 24 #[.slice a n c] w fun e w' => ∃ b cb lp, e = .returned (.slice b n cb) ∧ n = lp.length ∧ psOf lp = psOf ls ∧ Sv w' (.slice b n cb) lp ∧ Fr (fun _ => False) w w' ∧ ∀ g, (Value.slice b n cb).ownBlock = some g → w.heap.size ≤ g := by
  have hcl := bclone8 a n c ls w h hn (by omega)
  have HN : Hid (n = ls.length) := hn
  have HSM : Hid (∀ p ∈ psOf ls, Few p.2) := fun p hp => by
    obtain ⟨s, hs', rfl⟩ := List.mem_map.1 hp
    exact hs s hs'
  clear h hn hs
  unfold SvOut at hcl
  go_enter Tryz.func24, Tryz.ntmps24
  go_wp2_with fail
  refine hcl.mono ?_
  rintro e w2 ⟨b, cb, rfl, hsv, f2, hnew⟩
  rw [← HN.out] at hsv hnew ⊢
  have hnc : n ≤ cb ∧ cb ≤ 9223372036854775807 := by
    obtain ⟨a', c', he, h1, h2⟩ := hsv.has.slice
    rw [← HN.out] at he
    simp only [Value.slice.injEq, true_and] at he
    obtain ⟨rfl, rfl⟩ := he
    unfold maxLen at h2
    have := HN.out
    exact ⟨by omega, h2⟩
  have HSV : Hid (Sv w2 (.slice b n cb) ls) := hsv
  have HNW : Hid (∀ k, (Value.slice b n cb).ownBlock = some k → w.heap.size ≤ k) := hnew
  clear hcl hsv hnew
  go_wp2
  go_loopw [8] (fun i wr => ∃ (k : Nat) (lp : List Sl), k ≤ n ∧ i = .int .i64 k ∧ Hid (psOf lp = psOf ls) ∧ Hid (Sv wr (.slice b n cb) lp) ∧ Fr (fun k => (Value.slice b n cb).ownBlock = some k) w2 wr) (fun i _ => n - (RowKit.intOf i).toNat)
  case atStart => exact ⟨0, ls, by omega, rfl, rfl, HSV.out, Fr.refl _ _⟩
  case round =>
    obtain ⟨k, lp, hk, rfl, HP, HS, F⟩ := hrel
    have hln : n = lp.length := by have := congrArg List.length HP.out; rw [ps_length, ps_length] at this; have := HN.out; omega
    by_cases hlt : k < n
    · obtain ⟨s, hs⟩ : ∃ s, lp[k]? = some s := ⟨_, List.getElem?_eq_getElem (by omega)⟩
      obtain ⟨g, c3, e0, hg, _, _, hth, _⟩ := HS.out.has.form (by omega)
      rw [← hln] at e0
      simp only [Value.slice.injEq, true_and] at e0
      obtain ⟨rfl, rfl⟩ := e0
      have HLN : Hid (n = lp.length) := hln
      have hR : Few s.nd := by
        refine HSM.out (s.page, s.nd) ?_
        rw [← HP.out]
        exact List.mem_map.2 ⟨s, List.mem_of_getElem? hs, rfl⟩
      have hfw := hR
      have HND : Hid (Nod wr s.nd s.pt) := HS.out.nod s (List.mem_of_getElem? hs)
      have hcp := bk_copied s.nd s.pt hfw.1 hfw.2.1 hfw.2.2 wr (HS.out.nod s (List.mem_of_getElem? hs))
      have HE : Hid (∀ W, Fr (fun _ => False) wr W → W.rangeAt g (k * 8) (slC s)) := fun W f => by have := (HS.out.same f).has; rw [← HLN.out] at this; exact this.elem slC_length hs
      have HFZ : Hid (∀ W, Fr (fun _ => False) wr W → ∀ j, j < 8 → W.frozen? ⟨g, k * 8 + j, none⟩ = false) := fun W f j hj => by
        obtain ⟨g3, c3, e3, _, _, _, hth, _⟩ := (HS.out.same f).has.form (by have := HLN.out; omega)
        rw [← HLN.out] at e3
        simp only [Value.slice.injEq, Option.some.injEq, Addr.mk.injEq, and_true, true_and] at e3
        obtain ⟨rfl, rfl⟩ := e3
        have := (hth (k * 8 + j) (by have := HLN.out; omega)).2
        rwa [Nat.zero_add] at this
      obtain ⟨q0, q1, q2, q3, q4, q5, q6, q7⟩ := sl_range (HE.out _ (Fr.refl _ wr))
      have HSS : Hid (lp[k]? = some s) := hs
      have hki : (k : Int) < (n : Int) := by omega
      have hncb := hnc.1
      have hcm := hnc.2
      clear hs hth hln hnc
      go_wp2_with fail
      refine hcp.mono ?_
      intro e w3 ho3
      obtain ⟨q, rfl, ndq, hnw, f3⟩ := cp_nodF ho3 HND.out
      clear hcp ho3 q0 q1 q2 q3 q4 q5 q6 q7
      obtain ⟨q0, q1, q2, q3, q4, q5, q6, q7⟩ := sl_range (HE.out _ f3)
      have hfz := HFZ.out _ f3
      have y1 := hfz 1 (by omega); have y2 := hfz 2 (by omega); have y3 := hfz 3 (by omega); have y4 := hfz 4 (by omega); have y5 := hfz 5 (by omega); have y6 := hfz 6 (by omega); have y7 := hfz 7 (by omega)
      have HFIN : Hid (Sv (w3.setCells g (k * 8 + 1) [.int .i64 s.nd.lev, .int .i64 s.nd.lsn, .int .i64 s.nd.rgt, .string s.nd.high, .slice q.k s.nd.keys.length q.kc, .slice q.v s.nd.vals.length q.vc, .slice q.i s.nd.kids.length q.ic]) (.slice (some ⟨g, 0, none⟩) n cb) (lp.set k ⟨s.page, s.nd, q⟩)) := (HS.out.same f3).set HLN.out HSS.out s.nd q ndq (hnw.off (fun b hb e => by omega))
      have HFF : Hid (Fr (fun k => (Value.slice (some ⟨g, 0, none⟩) n cb).ownBlock = some k) w2 (w3.setCells g (k * 8 + 1) [.int .i64 s.nd.lev, .int .i64 s.nd.lsn, .int .i64 s.nd.rgt, .string s.nd.high, .slice q.k s.nd.keys.length q.kc, .slice q.v s.nd.vals.length q.vc, .slice q.i s.nd.kids.length q.ic])) := (F.trans f3 (fun _ _ f => f.elim)).trans (Fr.setCells (S := fun k => k = g) (fun _ => rfl) _ _ (Fr.refl _ w3)) (fun k _ e => by rw [e]; rfl)
      have HPP : Hid (psOf (lp.set k ⟨s.page, s.nd, q⟩) = psOf ls) := by
        show _ = _
        rw [ps_set, ← HP.out]
        unfold psOf
        apply List.ext_getElem?
        intro j
        rw [List.getElem?_set]
        split
        · rename_i hj
          subst hj
          rw [if_pos (by have := HLN.out; simp; omega), List.getElem?_map, HSS.out]
          rfl
        · rfl
      clear hfz ndq hnw
      go_wp2
      go_roundw
      case rel => exact ⟨k + 1, lp.set k ⟨s.page, s.nd, q⟩, by omega, by go_num, HPP, HFIN, HFF.out⟩
      case measure => simp [RowKit.intOf]; omega
    · obtain rfl : k = n := by omega
      have HF : Hid (Fr (fun _ => False) w wr) := f2.trans F (fun i hi e => by have := HNW.out i e; omega)
      have HLN : Hid (k = lp.length) := hln
      clear hln F f2 hnc HSV
      go_wp2
      go_ret
      exact ⟨b, cb, lp, rfl, HLN.out, HP.out, HS.out, HF.out, HNW.out⟩
end Go.Proofs.YtnooogjcajlodaaGreat

/- Pages of a tree; a tree and the records that it said. -/
namespace Go.Proofs.YtnooogjcajlodaaGreat
open Go.RowKit

set_option maxRecDepth 100000 in
set_option maxHeartbeats 2000000 in
theorem tpages_few (tb mb : Nat) (a : Option Addr) (n c : Nat) (lp : List Sl) (last : Int) (hf : n ≤ 100000) (hs : ∀ p ∈ psOf lp, Few p.2) (w : World) (h : TrS w tb mb a n c lp last) :
    Calls Tryz.prog 18 #[.pointer (some ⟨tb, 0, none⟩)] w fun e w' => ∃ b cb l2, e = .returned (.slice b n cb) ∧ n = l2.length ∧ psOf l2 = psOf lp ∧ Sv w' (.slice b n cb) l2 ∧ Fr (fun _ => False) w w' := by
  have ha := all_some tb a n c mb last w h.tr
  have hc := fun W f => bcopied_few a n c lp h.len hf (fun s hx => hs (s.page, s.nd) (List.mem_map.2 ⟨s, hx, rfl⟩)) W ((h.same f).sv.slots h.len)
  clear h hs
  go_enter Tryz.func18, Tryz.ntmps18
  go_wp2_with fail
  refine ha.mono ?_
  rintro e w1 ⟨rfl, f1⟩
  go_wp2_with fail
  refine (hc _ f1).mono ?_
  rintro e w2 ⟨b, cb, l2, rfl, h1, h2, h3, f2, h4⟩
  have HX : Hid (n = l2.length ∧ psOf l2 = psOf lp ∧ Sv w2 (.slice b n cb) l2) := ⟨h1, h2, h3⟩
  clear h1 h2 h3 h4 hc ha
  go_wp2
  go_ret
  exact ⟨b, cb, l2, rfl, HX.out.1, HX.out.2.1, HX.out.2.2, f1.seq' f2⟩
theorem Has.recsB {w : World} {a : Option Addr} {n c : Nat} {ls : List Rec} (hn : n = ls.length) (h : Has w 8 (.slice a n c) n (ls.flatMap recC)) : Recs w a c ls := by
  subst hn
  obtain ⟨a', c', he, h1, h2⟩ := h.slice
  simp only [Value.slice.injEq, true_and] at he
  obtain ⟨rfl, rfl⟩ := he
  refine ⟨h1, by unfold maxLen at h2; exact h2, ?_⟩
  by_cases h0 : ls.length = 0
  · exact .inl (List.length_eq_zero_iff.1 h0)
  · obtain ⟨g, cap, hv, hg, _⟩ := h.form (by omega)
    simp only [Value.slice.injEq, true_and] at hv
    obtain ⟨rfl, rfl⟩ := hv
    refine .inr ⟨g, 0, rfl, hg, fun i m hm => ?_⟩
    rw [Nat.zero_add]
    exact h.elem recC_length hm

/-- A tree that began with pages, and the records that it said since. -/
structure Spk (w wr : World) (tb mb : Nat) (ls : List Sl) (sv : Value) (m : Nat) (L : List Rec) (a : Option Addr) (n c : Nat) (lp : List Sl) (last : Int) : Prop where
  tr : TrS wr tb mb a n c lp last
  has : Has wr 8 sv m (L.flatMap recC)
  len : m = L.length
  new : ∀ g, sv.ownBlock = some g → w.heap.size ≤ g ∧ g ≠ tb ∧ g ≠ mb ∧ (Value.slice a n c).ownBlock ≠ some g
  off : ∀ s ∈ lp, Off (fun k => sv.ownBlock = some k) s.nd s.pt
  tnew : ∀ g, (Value.slice a n c).ownBlock = some g → w.heap.size ≤ g
  rpl : rplP (psOf ls) L = (psOf lp, 0)
  ok : PsOk (psOf lp)
  few : ∀ p ∈ psOf lp, Few p.2
  lst : 0 ≤ last ∧ last ≤ 1099511627776
  sz : ∀ r ∈ L, r.key.size ≤ 140737488351232 ∧ r.val.size ≤ 140737488351232
  tbn : w.heap.size ≤ tb
  mbn : w.heap.size ≤ mb
theorem Spk.same {w wr : World} {tb mb : Nat} {ls : List Sl} {sv : Value} {m : Nat} {L : List Rec} {a : Option Addr} {n c : Nat} {lp : List Sl} {last : Int} {W : World} (h : Spk w wr tb mb ls sv m L a n c lp last) (f : Fr (fun _ => False) wr W) : Spk w W tb mb ls sv m L a n c lp last :=
  ⟨h.tr.same f, h.has.fr f (fun _ _ f => f), h.len, h.new, h.off, h.tnew, h.rpl, h.ok, h.few, h.lst, h.sz, h.tbn, h.mbn⟩
theorem Spk.mid {w wr : World} {tb mb : Nat} {ls : List Sl} {sv : Value} {m : Nat} {L : List Rec} {a : Option Addr} {n c : Nat} {lp : List Sl} {last : Int} {W W4 : World} (h : Spk w wr tb mb ls sv m L a n c lp last) (f : Fr (fun k => (Value.slice a n c).ownBlock = some k ∨ k = tb ∨ k = mb) wr W) (f4 : Fr (fun _ => False) W W4) : Has W4 8 sv m (L.flatMap recC) :=
  (h.has.fr f (fun k e1 e2 => by
    obtain ⟨_, h1, h2, h3⟩ := h.new k e1
    rcases e2 with e | e | e
    · exact h3 e
    · exact h1 e
    · exact h2 e)).fr f4 (fun _ _ f => f)
theorem Spk.step {w wr : World} {tb mb : Nat} {ls : List Sl} {sv : Value} {m : Nat} {L : List Rec} {a : Option Addr} {n c : Nat} {lp : List Sl} {last : Int} {r : Rec} {a' : Option Addr} {n' c' : Nat} {lp' : List Sl} {w2 W4 w8 : World} {sv' : Value} (h : Spk w wr tb mb ls sv m L a n c lp last) (F : Fr (fun _ => False) w wr) (hz : r.key.size ≤ 140737488351232 ∧ r.val.size ≤ 140737488351232)
    (h0 : rpE (psOf lp) (rnx r (last + 1)) = 0) (hps : psOf lp' = rpP (psOf lp) (rnx r (last + 1))) (ht : TrS w2 tb mb a' n' c' lp' (last + 1)) (f : Fr (fun k => (Value.slice a n c).ownBlock = some k ∨ k = tb ∨ k = mb) wr w2)
    (hat : (Value.slice a' n' c').ownBlock = (Value.slice a n c).ownBlock ∨ ∃ g, (Value.slice a' n' c').ownBlock = some g ∧ wr.heap.size ≤ g) (hnw : ∀ s ∈ lp', s ∈ lp ∨ Nw wr s.pt) (f4 : Fr (fun _ => False) w2 W4) (f8 : Fr (fun k => sv.ownBlock = some k ∧ 0 < 1) W4 w8)
    (hh : Has w8 8 sv' (m + 1) ((L ++ [rnx r (last + 1)]).flatMap recC)) (hat8 : sv'.ownBlock = sv.ownBlock ∨ sv'.ownBlock = some W4.heap.size) :
    Spk w w8 tb mb ls sv' (m + 1) (L ++ [rnx r (last + 1)]) a' n' c' lp' (last + 1) ∧ Fr (fun _ => False) w w8 := by
  have hF := F.size
  have hz2 := f.size
  have hz4 := f4.size
  have hlt : ∀ g, sv.ownBlock = some g → g < wr.heap.size := fun g e => h.has.lt e
  have htl : tb < w2.heap.size := lt_of_block ht.tr.box
  have hml : mb < w2.heap.size := by obtain ⟨U, hU⟩ := ht.tr.map; exact hU.lt
  have hne : ∀ g, sv.ownBlock = some g → (Value.slice a' n' c').ownBlock ≠ some g := fun g e e2 => by
    rcases hat with h1 | ⟨g', h1, hg⟩
    · rw [h1] at e2; exact (h.new g e).2.2.2 e2
    · rw [h1] at e2; have := Option.some.inj e2; have := hlt g e; omega
  have hoff : ∀ s ∈ lp', Off (fun k => sv.ownBlock = some k) s.nd s.pt := fun s hs => by
    rcases hnw s hs with hx | hx
    · exact h.off s hx
    · exact hx.off (fun b hb e => by have := hlt b e; omega)
  have ht4 := ht.same f4
  have ht8 := ht4.frS f8 (fun e => (h.new _ e.1).2.1 rfl) (fun e => (h.new _ e.1).2.2.1 rfl) (fun g e e2 => hne g e2.1 e) (fun s hs => (hoff s hs).sub (fun k e => e.1))
  have hl := rp_lsn h0
  have hl2 : 1 ≤ last + 1 ∧ last + 1 ≤ 1099511627776 := hl
  refine ⟨⟨ht8, hh, ?_, ?_, ?_, ?_, ?_, ?_, ?_, ?_, ?_, h.tbn, h.mbn⟩, ?_⟩
  · rw [List.length_append, ← h.len]; rfl
  · intro g e
    rcases hat8 with h1 | h1
    · rw [h1] at e
      obtain ⟨x1, x2, x3, _⟩ := h.new g e
      exact ⟨x1, x2, x3, hne g e⟩
    · rw [h1] at e
      have := Option.some.inj e
      refine ⟨by omega, by omega, by omega, fun e2 => ?_⟩
      have := ht.sv.has.lt e2
      omega
  · intro s hs
    rcases hat8 with h1 | h1
    · exact (hoff s hs).sub (fun k e => by rw [← h1]; exact e)
    · exact (ht.sv.nod s hs).far (fun b hb e => by rw [h1] at e; have := Option.some.inj e; omega)
  · intro g e
    rcases hat with h1 | ⟨g', h1, hg⟩
    · rw [h1] at e; exact h.tnew g e
    · rw [h1] at e; have := Option.some.inj e; omega
  · rw [hps]; exact rpl_snoc h.rpl h0
  · rw [hps]; exact h.ok.step _ h0
  · rw [hps]; exact few_step h.few _
  · omega
  · intro x hx
    rw [List.mem_append, List.mem_singleton] at hx
    rcases hx with hx | rfl
    · exact h.sz x hx
    · exact hz
  · have g2 : Fr (fun _ => False) w w2 := F.trans f (fun i hi e => by
      have := h.tbn; have := h.mbn
      rcases e with e | e | e
      · have := h.tnew i e; omega
      · omega
      · omega)
    exact (g2.seq' f4).trans f8 (fun i hi e => by have := (h.new i e.1).1; omega)
end Go.Proofs.YtnooogjcajlodaaGreat
