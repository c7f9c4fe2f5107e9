
/- The document's Settle and Leave. -/
import Derived.Test.YtfmjefmocenkbaaSsRw
namespace Go.Proofs.Ytfmjefmocenkbaa
open Go.RowKit

/-- Two rows that are being made. -/
structure Pr (w wr : World) (ov rv : Value) (O : List Int) (Q : Wt) : Prop where
  ho : Has wr 1 ov O.length (O.map zI)
  hr : Has wr 2 rv Q.length (wtC Q)
  so : ∀ g, ov.ownBlock = some g → w.heap.size ≤ g ∧ rv.ownBlock ≠ some g
  sr : ∀ g, rv.ownBlock = some g → w.heap.size ≤ g
  fr : Fr (fun _ => False) w wr
variable {w wr W w' : World} {R T : Nat → Prop} {b : Nat} {L : Wt} {D : List Int} {la da : Option Addr} {lc dc : Nat} {ov rv v' : Value} {O : List Int} {Q : Wt}
theorem Pr.start (w : World) : Pr w w (.slice none 0 0) (.slice none 0 0) [] [] := ⟨Has.nil _ _, Has.nil _ _, (fun g h => by cases h), (fun g h => by cases h), Fr.refl _ _⟩
theorem Pr.out {x : Int} (h : Pr w wr ov rv O Q) (f0 : Fr (fun _ => False) wr W) (h1 : Has w' 1 v' (O ++ [x]).length ((O ++ [x]).map zI)) (f : Fr (fun k => ov.ownBlock = some k) W w') (hv : v'.ownBlock = ov.ownBlock ∨ v'.ownBlock = some (W.heap.size + 1)) : Pr w w' v' rv (O ++ [x]) Q := by
  refine ⟨h1, (h.hr.fr f0 (fun _ _ f => f)).fr f (fun g hg e => (h.so g e).2 hg), fun g hg => ?_, h.sr, (h.fr.seq' f0).trans f (fun i hi e => by have := (h.so i e).1; omega)⟩
  rcases hv with e | e
  · rw [e] at hg; exact h.so g hg
  · rw [e] at hg
    simp only [Option.some.injEq] at hg
    have := h.fr.size
    have := f0.size
    exact ⟨by omega, fun e2 => by have := h.hr.lt e2; omega⟩
theorem Pr.rest {p : Int × Int} (h : Pr w wr ov rv O Q) (f0 : Fr (fun _ => False) wr W) (h1 : Has w' 2 v' (Q ++ [p]).length (wtC (Q ++ [p]))) (f : Fr (fun k => rv.ownBlock = some k) W w') (hv : v'.ownBlock = rv.ownBlock ∨ v'.ownBlock = some (W.heap.size + 1)) : Pr w w' ov v' O (Q ++ [p]) := by
  refine ⟨(h.ho.fr f0 (fun _ _ f => f)).fr f (fun g hg e => (h.so g hg).2 e), h1, fun g hg => ⟨(h.so g hg).1, fun e2 => ?_⟩, fun g hg => ?_, (h.fr.seq' f0).trans f (fun i hi e => by have := h.sr i e; omega)⟩
  · rcases hv with e | e
    · rw [e] at e2; exact (h.so g hg).2 e2
    · rw [e] at e2
      simp only [Option.some.injEq] at e2
      have := h.ho.lt hg
      have := f0.size
      omega
  · rcases hv with e | e
    · rw [e] at hg; exact h.sr g hg
    · rw [e] at hg
      simp only [Option.some.injEq] at hg
      have := h.fr.size
      have := f0.size
      omega
theorem Pr.same (h : Pr w wr ov rv O Q) (f : Fr (fun _ => False) wr w') : Pr w w' ov rv O Q := ⟨h.ho.fr f (fun _ _ f => f), h.hr.fr f (fun _ _ f => f), h.so, h.sr, h.fr.seq' f⟩
/-- An append of a row of numbers. -/
theorem app_row {w : World} {v : Value} {l ts : List Int} {a : Option Addr} {c : Nat} (h : Has w 1 v l.length (l.map zI)) (h2 : Has w 1 (.slice a ts.length c) ts.length (ts.map zI)) (hl : l.length + ts.length ≤ 1000000000) :
    ∃ a' c' w', (Builtin.append_ #[27, 27] 27 #[v, .slice a ts.length c]).run Try.prog w = .ok (.slice a' (l.length + ts.length) c') w' ∧ Has w' 1 (.slice a' (l.length + ts.length) c') (l.length + ts.length) ((l ++ ts).map zI) ∧ Fr (fun k => v.ownBlock = some k) w w' ∧ ((Value.slice a' (l.length + ts.length) c').ownBlock = v.ownBlock ∨ (Value.slice a' (l.length + ts.length) c').ownBlock = some w.heap.size) := by
  obtain ⟨i, hi, hi1, hi2, hi3⟩ : ∃ i, Try.prog.info? 3 = some i ∧ i.zero = some (.int .i64 0) ∧ i.size = 1 ∧ i.bytes = 8 := by
    have := infoI
    cases hh : Try.prog.info? 3 with
    | none => rw [hh] at this; cases this
    | some i =>
      rw [hh] at this
      simp only [Option.map_some, Option.some.injEq, Prod.mk.injEq] at this
      exact ⟨i, rfl, this.1, this.2.1, this.2.2⟩
  have hfrom : From w a (ts.map zI) := by
    rcases h2.2 with ⟨_, h0⟩ | ⟨g, cap, hv, _, _, _, _, h4⟩
    · left; simp [List.eq_nil_of_length_eq_zero h0]
    · simp only [Value.slice.injEq] at hv
      exact .inr ⟨g, 0, hv.1, h4⟩
  obtain ⟨v', w', hrun, k2, k3, k4⟩ := run_append_has (P := Try.prog) w 27 27 27 3 3 i (.int .i64 0) 1 8 Try.underlying27 Try.underlying27 hi hi1 hi2 hi3 rfl (by omega) v l.length (l.map zI) h a ts.length c (ts.map zI) (by simp) hfrom (fun u hu => by obtain ⟨x, _, rfl⟩ := List.mem_map.1 hu; rfl) (by unfold maxLen; omega) (by omega)
  obtain ⟨a', c', rfl, _⟩ := k2.slice
  exact ⟨a', c', w', hrun, by rw [List.map_append]; exact k2, k3.mono (fun i _ e => e.1), k4⟩
theorem has_is {w : World} {a : Option Addr} {c : Nat} {l : List Int} (h : Has w 1 (.slice a l.length c) l.length (l.map zI)) : Is w a c l := by
  refine ⟨(has_bound h).1, (has_bound h).2, ?_⟩
  by_cases h0 : l = []
  · exact .inl h0
  · obtain ⟨g, cap, hv, hg, _, _, _, h4⟩ := h.form (List.length_pos_iff.2 h0)
    simp only [Value.slice.injEq] at hv
    refine .inr ⟨g, 0, hv.1, hg, fun i x hx => ?_⟩
    exact h4 i (zI x) (by rw [List.getElem?_map, hx]; rfl)
theorem tkR_snoc (c : Int) (A : Wt) (q : Int × Int) : tkR c (A ++ [q]) = if q.2 ≤ c then tkR c A ++ [q.1] else tkR c A := by
  unfold tkR tkL
  by_cases h : q.2 ≤ c <;> simp [h]
theorem rsL_snoc (c : Int) (A : Wt) (q : Int × Int) : rsL c (A ++ [q]) = if q.2 ≤ c then rsL c A else rsL c A ++ [q] := by
  unfold rsL
  by_cases h : q.2 ≤ c <;> simp [h]
/-- What Settle leaves: the row that is told, and the table. -/
def RsO (w : World) (R : Nat → Prop) (b : Nat) (L' : Wt) (D' : List Int) (ts : List Int) (v : Value) (w' : World) : Prop := ∃ (p : Option Addr) (q : Nat) (R' : Nat → Prop) (la : Option Addr) (lc : Nat) (da : Option Addr) (dc : Nat), v = .slice p ts.length q ∧ Is w' p q ts ∧ (∀ i, R' i → R i ∨ w.heap.size ≤ i) ∧ Rt w' R' b L' D' la lc da dc ∧ Fr R w w'
theorem Rt.settled (h : Rt w R b L D la lc da dc) {O : List Int} {Q : Wt} {oa ra : Option Addr} {oc rc : Nat} (hp : Pr w wr (.slice oa O.length oc) (.slice ra Q.length rc) O Q) {a' : Option Addr} {c' : Nat} (hh : Has w' 1 (.slice a' (D.length + O.length) c') (D.length + O.length) ((D ++ O).map zI)) (f : Fr (fun k => (Value.slice da D.length dc).ownBlock = some k) (wr.setCell ⟨b, 0, none⟩ (.slice ra Q.length rc)) w')
    (hv : (Value.slice a' (D.length + O.length) c').ownBlock = (Value.slice da D.length dc).ownBlock ∨ (Value.slice a' (D.length + O.length) c').ownBlock = some (wr.setCell ⟨b, 0, none⟩ (.slice ra Q.length rc)).heap.size) :
    RsO w R b Q (D ++ O) O (.slice oa O.length oc) (w'.setCell ⟨b, 1, none⟩ (.slice a' (D.length + O.length) c')) := by
  have hbl := h.lt b h.own
  have hm : Mk w wr (.slice ra Q.length rc) Q := ⟨hp.hr, hp.sr, hp.fr⟩
  obtain ⟨h1, f1⟩ := h.lay hm
  have hsz : (wr.setCell ⟨b, 0, none⟩ (.slice ra Q.length rc)).heap.size = wr.heap.size := by simp [World.setCell]
  rw [hsz] at hv
  have fS : Fr (fun i => i = b) w' (w'.setCell ⟨b, 1, none⟩ (.slice a' (D.length + O.length) c')) := (Fr.refl (fun i => i = b) w').setCell (p := ⟨b, 1, none⟩) (fun _ => rfl) _
  have fS0 : Fr (fun i => i = b) wr (wr.setCell ⟨b, 0, none⟩ (.slice ra Q.length rc)) := (Fr.refl (fun i => i = b) wr).setCell (p := ⟨b, 0, none⟩) (fun _ => rfl) _
  have T2 := (h1.two.fr f (fun e => (h.od b e).2.1 rfl)).set1 (.slice a' (D.length + O.length) c')
  have hs1 := f.size
  have hs2 := fS.size
  have hs3 := hp.fr.size
  have o1 := has_is ((((hp.ho.fr fS0 (fun g hg e => by have := (hp.so g hg).1; omega)).fr f (fun g hg e => by have := (hp.so g hg).1; have := h.lt g (h.od g e).1; omega))).fr fS (fun g hg e => by have := (hp.so g hg).1; omega))
  have hlen : (D ++ O).length = D.length + O.length := by simp
  have own' : ∀ g, (Value.slice a' (D.length + O.length) c').ownBlock = some g → (R g ∧ g ≠ b ∨ w.heap.size ≤ g) ∧ g < w'.heap.size ∧ (Value.slice ra Q.length rc).ownBlock ≠ some g := fun g hg => by
    refine ⟨?_, hh.lt hg, fun e => ?_⟩
    · rcases hv with e | e
      · rw [e] at hg; exact .inl ⟨(h.od g hg).1, (h.od g hg).2.1⟩
      · rw [e] at hg; simp only [Option.some.injEq] at hg; right; omega
    · have hr := hp.sr g e
      have hrl := hp.hr.lt e
      rcases hv with e3 | e3
      · rw [e3] at hg; have := h.lt g (h.od g hg).1; omega
      · rw [e3] at hg; simp only [Option.some.injEq] at hg; omega
  refine ⟨oa, oc, fun i => R i ∨ (w.heap.size ≤ i ∧ i < w'.heap.size), ra, rc, a', c', rfl, o1, fun i hi => hi.imp id (fun h => h.1), ⟨.inl h.own, fun i hi => ?_, ?_, ?_, ?_, fun g hg => ⟨.inr ⟨hp.sr g hg, ?_⟩, fun e => ?_⟩, fun g hg => ?_⟩, ?_⟩
  · rcases hi with hi | hi
    · have := h.lt i hi; omega
    · omega
  · rw [hlen]; exact T2
  · exact (h1.hl.fr f (fun g hg e => by have := hp.sr g hg; have := h.lt g (h.od g e).1; omega)).fr fS (fun g hg e => by have := hp.sr g hg; omega)
  · rw [hlen]
    exact hh.fr fS (fun g hg e => by
      rcases (own' g hg).1 with h5 | h5
      · exact h5.2 e
      · omega)
  · have := hp.hr.lt hg; omega
  · have := hp.sr g hg; omega
  · rw [hlen] at hg
    obtain ⟨h5, h6, h7⟩ := own' g hg
    refine ⟨?_, ?_, h7⟩
    · rcases h5 with h5 | h5
      · exact .inl h5.1
      · exact .inr ⟨h5, h6⟩
    · rcases h5 with h5 | h5
      · exact h5.2
      · omega
  · exact (f1.trans f (fun i hi e => (h.od i e).1)).trans fS (fun i _ e => by subst e; exact h.own)
set_option maxRecDepth 100000 in
set_option maxHeartbeats 8000000 in
theorem rsettle_any (c : Int) (h : Rt w R b L D la lc da dc) (hL : L.length ≤ 1024) (hD : D.length ≤ 10000) : Calls Try.prog 13 #[.pointer (some ⟨b, 0, none⟩), .int .i64 c] w fun e w' => ∃ v, e = .returned v ∧ RsO w R b (rsL c L) (D ++ tkR c L) (tkR c L) v w' := by
  have bl := wt_bound h.hl
  have bl1 := bl.1
  have bl2 := bl.2
  obtain ⟨x0, x1, x2, x3⟩ := h.two.cells
  have HT : Hid (Rt w R b L D la lc da dc) := h
  have HFL : Hid (L.length ≤ 1024 ∧ D.length ≤ 10000) := ⟨hL, hD⟩
  clear h bl hL hD
  go_enter Try.func13, Try.ntmps13
  go_wp2
  go_loopw [5, 6, 14] (fun ov rv i wz => ∃ (k : Nat) (O : List Int) (Q : Wt) (oa : Option Addr) (oc : Nat) (ra : Option Addr) (rc : Nat), k ≤ L.length ∧ ov = .slice oa O.length oc ∧ rv = .slice ra Q.length rc ∧ i = .int .i64 k ∧ Hid (O = tkR c (L.take k) ∧ Q = rsL c (L.take k)) ∧ Hid (Pr w wz (.slice oa O.length oc) (.slice ra Q.length rc) O Q)) (fun _ _ i _ => L.length - (intOf i).toNat)
  case atStart => exact ⟨0, [], [], none, 0, none, 0, by omega, rfl, rfl, rfl, ⟨rfl, rfl⟩, Pr.start w⟩
  case round =>
    obtain ⟨k, O, Q, oa, oc, ra, rc, hk, rfl, rfl, rfl, HE, HP⟩ := hrel
    by_cases hlt : k < L.length
    · obtain ⟨q, hq⟩ : ∃ q, L[k]? = some q := ⟨_, List.getElem?_eq_getElem hlt⟩
      obtain ⟨bl, rfl, hcl⟩ := wt_cell (HT.out.same HP.out.fr).hl (by omega)
      obtain ⟨cq1, cq2⟩ := hcl k q hq
      have k1 : (k : Int) < (L.length : Int) := by omega
      have htk := take_at hq
      obtain ⟨q1, q2⟩ := q
      dsimp only at cq1 cq2
      have T := Two.new wr 64 (.int .i64 q1) (.int .i64 q2)
      obtain ⟨t0, t1, _⟩ := T.cells
      have F0 := Fr.box wr (.cells #[.int .i64 q1, .int .i64 q2] 64)
      have HSZ : Hid ((wr.alloc (.cells #[.int .i64 q1, .int .i64 q2] 64)).heap.size = wr.heap.size + 1) := by show _ = _; simp
      have hOl : O.length ≤ 1024 ∧ Q.length ≤ 1024 := by
        have h1 := tk_len c (L.take k)
        rw [← HE.out.1, ← HE.out.2, List.length_take] at h1
        have := HFL.out.1
        omega
      have ho := HP.out.ho.fr F0 (fun _ _ f => f)
      have hr := HP.out.hr.fr F0 (fun _ _ f => f)
      by_cases g : q2 ≤ c
      · obtain ⟨a2, c2, w2, hrun, hh2, f2, ho2⟩ := app_has q1 ho (by omega)
        have P2 := HP.out.out F0 hh2 f2 ho2
        have HE2 : Hid (O ++ [q1] = tkR c (L.take (k + 1)) ∧ Q = rsL c (L.take (k + 1))) := by
          rw [htk, tkR_snoc, rsL_snoc, if_pos g, if_pos g, HE.out.1, HE.out.2]
          exact ⟨rfl, rfl⟩
        have HP2 : Hid (Pr w w2 (.slice a2 (O ++ [q1]).length c2) (.slice ra Q.length rc) (O ++ [q1]) Q) := by
          rw [show (O ++ [q1]).length = O.length + 1 by simp]
          exact P2
        have HLE : Hid (O.length + 1 = (O ++ [q1]).length) := by show _ = _; simp
        have gd : decide (q2 ≤ c) = true := by simpa using g
        rw [HSZ.out] at hrun
        clear hcl hq T F0 hOl ho hr hh2 f2 ho2 P2 htk HE HP g
        go_wp2_with (at_builtin; refine append_step rfl _ _ 27 rfl rfl rfl hrun ?_)
        refine ⟨⟨k + 1, O ++ [q1], Q, a2, c2, ra, rc, by omega, by rw [HLE.out], rfl, by simp, HE2, HP2⟩, by simp [intOf]; omega⟩
      · obtain ⟨a2, c2, w2, hrun, hh2, f2, ho2⟩ := app_wt (q1, q2) hr (by omega)
        have P2 := HP.out.rest F0 hh2 f2 ho2
        have HE2 : Hid (O = tkR c (L.take (k + 1)) ∧ Q ++ [(q1, q2)] = rsL c (L.take (k + 1))) := by
          rw [htk, tkR_snoc, rsL_snoc, if_neg g, if_neg g, HE.out.1, HE.out.2]
          exact ⟨rfl, rfl⟩
        have HP2 : Hid (Pr w w2 (.slice oa O.length oc) (.slice a2 (Q ++ [(q1, q2)]).length c2) O (Q ++ [(q1, q2)])) := by
          rw [show (Q ++ [(q1, q2)]).length = Q.length + 1 by simp]
          exact P2
        have HLE : Hid (Q.length + 1 = (Q ++ [(q1, q2)]).length) := by show _ = _; simp
        have gd : decide (q2 ≤ c) = false := by simpa using g
        dsimp only at hrun
        rw [HSZ.out] at hrun
        clear hcl hq T F0 hOl ho hr hh2 f2 ho2 P2 htk HE HP g
        go_wp2_with (at_builtin; refine append_step rfl _ _ 26 rfl rfl rfl hrun ?_)
        refine ⟨⟨k + 1, O, Q ++ [(q1, q2)], oa, oc, a2, c2, by omega, rfl, by rw [HLE.out], by simp, HE2, HP2⟩, by simp [intOf]; omega⟩
    · have hke : L.take k = L := List.take_of_length_le (by omega)
      have HEE : Hid (tkR c L = O ∧ rsL c L = Q) := by have := HE.out; rw [hke] at this; exact ⟨this.1.symm, this.2.symm⟩
      have hOl : O.length ≤ 1024 := by have := tk_len c L; rw [HEE.out.1] at this; have := HFL.out.1; omega
      have hbl := HT.out.lt b HT.out.own
      have T1 := (HT.out.same HP.out.fr).two
      obtain ⟨z0, z1, z2, z3⟩ := T1.cells
      have T2 := T1.set0 (.slice ra Q.length rc)
      obtain ⟨y0, y1, y2, y3⟩ := T2.cells
      have fS0 : Fr (fun i => i = b) wr (wr.setCell ⟨b, 0, none⟩ (.slice ra Q.length rc)) := (Fr.refl (fun i => i = b) wr).setCell (p := ⟨b, 0, none⟩) (fun _ => rfl) _
      have hd2 := (HT.out.same HP.out.fr).hd.fr fS0 (fun g hg e => (HT.out.od g hg).2.1 e)
      have ho2 := HP.out.ho.fr fS0 (fun g hg e => by have := (HP.out.so g hg).1; omega)
      obtain ⟨a4, c4, w4, hrun, hh4, f4, ho4⟩ := app_row hd2 ho2 (by have := HFL.out.2; omega)
      have T4 := T2.fr f4 (fun e => (HT.out.od b e).2.1 rfl)
      obtain ⟨v0, v1, v2, v3⟩ := T4.cells
      have HK : Hid (RsO w R b Q (D ++ O) O (.slice oa O.length oc) (w4.setCell ⟨b, 1, none⟩ (.slice a4 (D.length + O.length) c4))) := HT.out.settled HP.out hh4 f4 ho4
      have HK2 : Hid (RsO w R b (rsL c L) (D ++ tkR c L) (tkR c L) (.slice oa O.length oc) (w4.setCell ⟨b, 1, none⟩ (.slice a4 (D.length + O.length) c4))) := by rw [HEE.out.1, HEE.out.2]; exact HK
      clear T1 T2 T4 fS0 hd2 ho2 hh4 f4 ho4 HE HP hke hOl HK
      go_wp2_with (at_builtin; refine append_step rfl _ _ 27 rfl rfl rfl hrun ?_)
      go_wp2
      go_ret
      exact ⟨_, rfl, HK2.out⟩
set_option maxRecDepth 100000 in
set_option maxHeartbeats 8000000 in
theorem rleave_any (h : Rt w R b L D la lc da dc) (hL : L.length ≤ 1024) : Calls Try.prog 15 #[.pointer (some ⟨b, 0, none⟩)] w fun e w' => ∃ v, e = .returned v ∧ RsO w R b [] D (L.map Prod.fst) v w' := by
  have bl := wt_bound h.hl
  have bl1 := bl.1
  have bl2 := bl.2
  obtain ⟨x0, x1, x2, x3⟩ := h.two.cells
  have HT : Hid (Rt w R b L D la lc da dc) := h
  have HFL : Hid (L.length ≤ 1024) := hL
  clear h bl hL
  go_enter Try.func15, Try.ntmps15
  go_wp2
  go_loopw [3, 11] (fun ov i wz => ∃ (k : Nat) (O : List Int) (oa : Option Addr) (oc : Nat), k ≤ L.length ∧ ov = .slice oa O.length oc ∧ i = .int .i64 k ∧ Hid (O = (L.take k).map Prod.fst) ∧ Hid (Pr w wz (.slice oa O.length oc) (.slice none 0 0) O [])) (fun _ i _ => L.length - (intOf i).toNat)
  case atStart => exact ⟨0, [], none, 0, by omega, rfl, rfl, rfl, Pr.start w⟩
  case round =>
    obtain ⟨k, O, oa, oc, hk, rfl, rfl, HE, HP⟩ := hrel
    by_cases hlt : k < L.length
    · obtain ⟨q, hq⟩ : ∃ q, L[k]? = some q := ⟨_, List.getElem?_eq_getElem hlt⟩
      obtain ⟨bl, rfl, hcl⟩ := wt_cell (HT.out.same HP.out.fr).hl (by omega)
      obtain ⟨cq1, cq2⟩ := hcl k q hq
      have k1 : (k : Int) < (L.length : Int) := by omega
      have htk := take_at hq
      obtain ⟨q1, q2⟩ := q
      dsimp only at cq1 cq2
      have T := Two.new wr 64 (.int .i64 q1) (.int .i64 q2)
      obtain ⟨t0, t1, _⟩ := T.cells
      have F0 := Fr.box wr (.cells #[.int .i64 q1, .int .i64 q2] 64)
      have HSZ : Hid ((wr.alloc (.cells #[.int .i64 q1, .int .i64 q2] 64)).heap.size = wr.heap.size + 1) := by show _ = _; simp
      have hOl : O.length ≤ 1024 := by rw [HE.out, List.length_map, List.length_take]; have := HFL.out; omega
      have ho := HP.out.ho.fr F0 (fun _ _ f => f)
      obtain ⟨a2, c2, w2, hrun, hh2, f2, ho2⟩ := app_has q1 ho (by omega)
      have P2 := HP.out.out F0 hh2 f2 ho2
      have HE2 : Hid (O ++ [q1] = (L.take (k + 1)).map Prod.fst) := by show _ = _; rw [htk, HE.out]; simp
      have HP2 : Hid (Pr w w2 (.slice a2 (O ++ [q1]).length c2) (.slice none 0 0) (O ++ [q1]) []) := by
        rw [show (O ++ [q1]).length = O.length + 1 by simp]
        exact P2
      have HLE : Hid (O.length + 1 = (O ++ [q1]).length) := by show _ = _; simp
      rw [HSZ.out] at hrun
      clear hcl hq T F0 hOl ho hh2 f2 ho2 P2 htk HE HP
      go_wp2_with (at_builtin; refine append_step rfl _ _ 27 rfl rfl rfl hrun ?_)
      refine ⟨⟨k + 1, O ++ [q1], a2, c2, by omega, by rw [HLE.out], by simp, HE2, HP2⟩, by simp [intOf]; omega⟩
    · have hke : L.take k = L := List.take_of_length_le (by omega)
      have HEE : Hid (L.map Prod.fst = O) := by have := HE.out; rw [hke] at this; exact this.symm
      have hbl := HT.out.lt b HT.out.own
      obtain ⟨z0, z1, z2, z3⟩ := (HT.out.same HP.out.fr).two.cells
      have HK : Hid (RsO w R b [] D (L.map Prod.fst) (.slice oa O.length oc) (wr.setCell ⟨b, 0, none⟩ (.slice none 0 0))) := by
        have hm : Mk w wr (.slice none ([] : Wt).length 0) [] := ⟨HP.out.hr, HP.out.sr, HP.out.fr⟩
        obtain ⟨h1, f1⟩ := HT.out.lay hm
        have fS0 : Fr (fun i => i = b) wr (wr.setCell ⟨b, 0, none⟩ (.slice none 0 0)) := (Fr.refl (fun i => i = b) wr).setCell (p := ⟨b, 0, none⟩) (fun _ => rfl) _
        rw [HEE.out]
        exact ⟨oa, oc, _, none, 0, da, dc, rfl, has_is (HP.out.ho.fr fS0 (fun g hg e => by have := (HP.out.so g hg).1; omega)), fun i hi => hi.imp id (fun h => h.1), h1, f1⟩
      clear HE HP hke
      go_wp2
      go_ret
      exact ⟨_, rfl, HK.out⟩
end Go.Proofs.Ytfmjefmocenkbaa
