
/- The document's Wait. -/
import Derived.Test.YtfmjefmocenkbaaSsRt
namespace Go.Proofs.Ytfmjefmocenkbaa
open Go.RowKit

theorem ins_one (p q : Int × Int) (t : Wt) : ins p (q :: t) = if ltB p q = true then p :: q :: t else q :: ins p t := rfl
theorem drop_at {L : Wt} {k : Nat} {q : Int × Int} (h : L[k]? = some q) : L.drop k = q :: L.drop (k + 1) := by
  obtain ⟨hk, e⟩ := List.getElem?_eq_some_iff.1 h
  rw [List.drop_eq_getElem_cons hk, e]
theorem take_at {L : Wt} {k : Nat} {q : Int × Int} (h : L[k]? = some q) : L.take (k + 1) = L.take k ++ [q] := by rw [List.take_add_one, h]; rfl
/-- A row that is being made beside a table. -/
structure Mk (w wr : World) (ov : Value) (O : Wt) : Prop where
  has : Has wr 2 ov O.length (wtC O)
  own : ∀ g, ov.ownBlock = some g → w.heap.size ≤ g
  fr : Fr (fun _ => False) w wr
theorem Mk.add {w wr W w' : World} {ov : Value} {O : Wt} {p : Int × Int} {v' : Value} (h : Mk w wr ov O) (f0 : Fr (fun _ => False) wr W) (h1 : Has w' 2 v' (O ++ [p]).length (wtC (O ++ [p]))) (f : Fr (fun k => ov.ownBlock = some k) W w') (hv : v'.ownBlock = ov.ownBlock ∨ v'.ownBlock = some (W.heap.size + 1)) : Mk w w' v' (O ++ [p]) :=
  ⟨h1, fun g hg => by
    rcases hv with e | e
    · rw [e] at hg; exact h.own g hg
    · rw [e] at hg; simp only [Option.some.injEq] at hg; have := h.fr.size; have := f0.size; omega, (h.fr.seq' f0).trans f (fun i hi e => by have := h.own i e; omega)⟩
theorem Mk.same {w wr w' : World} {ov : Value} {O : Wt} (h : Mk w wr ov O) (f : Fr (fun _ => False) wr w') : Mk w w' ov O := ⟨h.has.fr f (fun _ _ f => f), h.own, h.fr.seq' f⟩
/-- How far a request is put in. -/
def Put (p : Int × Int) (L : Wt) (k : Nat) (pb : Bool) (O : Wt) : Prop := if pb = true then ins p L = O ++ L.drop k else (O = L.take k ∧ ins p L = L.take k ++ ins p (L.drop k))
theorem Put.start (p : Int × Int) (L : Wt) : Put p L 0 false [] := ⟨rfl, by simp⟩
theorem Put.yes {p q : Int × Int} {L : Wt} {k : Nat} {O : Wt} (h : Put p L k false O) (hq : L[k]? = some q) (hl : ltB p q = true) : Put p L (k + 1) true ((O ++ [p]) ++ [q]) := by
  obtain ⟨rfl, h2⟩ := h
  show ins p L = _
  rw [h2, drop_at hq, ins_one, if_pos hl]
  simp
theorem Put.no {p q : Int × Int} {L : Wt} {k : Nat} {O : Wt} (h : Put p L k false O) (hq : L[k]? = some q) (hl : ltB p q = false) : Put p L (k + 1) false (O ++ [q]) := by
  obtain ⟨rfl, h2⟩ := h
  refine ⟨(take_at hq).symm, ?_⟩
  rw [h2, drop_at hq, ins_one, if_neg (by rw [hl]; simp), take_at hq]
  simp
theorem Put.on {p q : Int × Int} {L : Wt} {k : Nat} {O : Wt} (h : Put p L k true O) (hq : L[k]? = some q) : Put p L (k + 1) true (O ++ [q]) := by
  have h2 : ins p L = O ++ L.drop k := h
  show ins p L = _
  rw [h2, drop_at hq]
  simp
theorem Put.endNo {p : Int × Int} {L : Wt} {k : Nat} {O : Wt} (h : Put p L k false O) (hk : L.length ≤ k) : O ++ [p] = ins p L := by
  obtain ⟨rfl, h2⟩ := h
  rw [h2, List.drop_eq_nil_of_le hk]
  rfl
theorem Put.endYes {p : Int × Int} {L : Wt} {k : Nat} {O : Wt} (h : Put p L k true O) (hk : L.length ≤ k) : O = ins p L := by
  have h2 : ins p L = O ++ L.drop k := h
  rw [h2, List.drop_eq_nil_of_le hk, List.append_nil]
theorem Put.len {p : Int × Int} {L : Wt} {k : Nat} {pb : Bool} {O : Wt} (h : Put p L k pb O) : O.length ≤ L.length + 1 := by
  cases pb with
  | true =>
    have h2 : ins p L = O ++ L.drop k := h
    have := congrArg List.length h2
    rw [ins_len, List.length_append] at this
    omega
  | false =>
    obtain ⟨rfl, _⟩ := h
    rw [List.length_take]; omega
variable {w wr w' : World} {R T : Nat → Prop} {b : Nat} {L : Wt} {D : List Int} {la da : Option Addr} {lc dc : Nat}
/-- A table whose requests are laid anew. -/
theorem Rt.lay (h : Rt w R b L D la lc da dc) {O : Wt} {a : Option Addr} {c : Nat} (hm : Mk w wr (.slice a O.length c) O) :
    Rt (wr.setCell ⟨b, 0, none⟩ (.slice a O.length c)) (fun i => R i ∨ (w.heap.size ≤ i ∧ i < wr.heap.size)) b O D a c da dc ∧ Fr R w (wr.setCell ⟨b, 0, none⟩ (.slice a O.length c)) := by
  have h1 := h.same hm.fr
  have hbl := h.lt b h.own
  have T2 := h1.two.set0 (.slice a O.length c)
  have fS : Fr (fun i => i = b) wr (wr.setCell ⟨b, 0, none⟩ (.slice a O.length c)) := (Fr.refl (fun i => i = b) wr).setCell (p := ⟨b, 0, none⟩) (fun _ => rfl) _
  refine ⟨⟨.inl h.own, fun i hi => ?_, T2, hm.has.fr fS (fun g hg e => by have := hm.own g hg; omega), h1.hd.fr fS (fun g hg e => (h.od g hg).2.1 e), fun g hg => ⟨.inr ⟨hm.own g hg, hm.has.lt hg⟩, fun e => by have := hm.own g hg; omega⟩, fun g hg => ⟨.inl (h.od g hg).1, (h.od g hg).2.1, fun e => ?_⟩⟩, (hm.fr.mono (T := R) (fun _ _ f => f.elim)).trans fS (fun i _ e => by subst e; exact h.own)⟩
  · have := fS.size
    rcases hi with hi | hi
    · have := h1.lt i hi; omega
    · omega
  · have := hm.own g e
    have := h.lt g (h.od g hg).1
    omega
def RwO (w : World) (R : Nat → Prop) (b : Nat) (L' : Wt) (D : List Int) (w' : World) : Prop := ∃ (R' : Nat → Prop) (la : Option Addr) (lc : Nat) (da : Option Addr) (dc : Nat), (∀ i, R' i → R i ∨ w.heap.size ≤ i) ∧ Rt w' R' b L' D la lc da dc ∧ Fr R w w'
theorem RwO.no (h : Rt w R b L D la lc da dc) (f : Fr (fun _ => False) w w') : RwO w R b L D w' := ⟨R, la, lc, da, dc, fun _ h => .inl h, h.same f, f.mono (fun _ _ f => f.elim)⟩
theorem RwO.lay (h : Rt w R b L D la lc da dc) {O : Wt} {a : Option Addr} {c : Nat} (hm : Mk w wr (.slice a O.length c) O) : RwO w R b O D (wr.setCell ⟨b, 0, none⟩ (.slice a O.length c)) := by
  obtain ⟨h1, h2⟩ := h.lay hm
  exact ⟨_, a, c, da, dc, fun i hi => hi.imp id (fun h => h.1), h1, h2⟩
theorem rg_facts {x : Int} (h : rng x = true) : decide (x < 1) = false ∧ decide (1099511627776 < x) = false := by
  rw [rng_iff] at h
  constructor <;> simp <;> omega
theorem rg_no {x : Int} (h : rng x = false) : x < 1 ∨ 1099511627776 < x := by simp [rng] at h; omega
set_option maxRecDepth 100000 in
set_option maxHeartbeats 8000000 in
theorem rwait_yes (r l : Int) (h : Rt w R b L D la lc da dc) (e1 : rng r = true) (e2 : rng l = true) (hs : rstN L D r = 0) (hf : L.length < 1024) : Calls Try.prog 10 #[.pointer (some ⟨b, 0, none⟩), .int .i64 r, .int .i64 l] w fun e w' => e = .returned (.int .i64 0) ∧ RwO w R b (ins (r, l) L) D w' := by
  obtain ⟨d1, d2⟩ := rg_facts e1
  obtain ⟨d3, d4⟩ := rg_facts e2
  have hst := rstate_any r h
  rw [hs] at hst
  have bl := wt_bound h.hl
  have bl1 := bl.1
  have bl2 := bl.2
  have HT : Hid (Rt w R b L D la lc da dc) := h
  have HFL : Hid (L.length < 1024) := hf
  have d5 : decide ((1024 : Int) ≤ (L.length : Int)) = false := by simp; omega
  have d6 : decide (1024 ≤ L.length) = false := by simp; omega
  clear h e1 e2 hs hf bl
  go_enter Try.func10, Try.ntmps10
  go_wp2_with fail
  refine hst.mono ?_
  rintro e w1 ⟨rfl, f1⟩
  have HT1 : Hid (Rt w1 R b L D la lc da dc) := HT.out.same f1
  obtain ⟨x0, x1, x2, x3⟩ := HT1.out.two.cells
  have HF1 : Hid (Fr (fun _ => False) w w1) := f1
  clear hst f1
  go_wp2
  go_loopw [7, 8, 40] (fun ov pv i wz => ∃ (k : Nat) (pb : Bool) (O : Wt) (a : Option Addr) (c : Nat), k ≤ L.length ∧ ov = .slice a O.length c ∧ pv = .bool pb ∧ i = .int .i64 k ∧ Hid (Put (r, l) L k pb O) ∧ Hid (Mk w1 wz (.slice a O.length c) O)) (fun _ _ i _ => L.length - (intOf i).toNat)
  case atStart => exact ⟨0, false, [], none, 0, by omega, rfl, rfl, rfl, Put.start _ _, ⟨Has.nil _ _, (fun g h => by cases h), Fr.refl _ _⟩⟩
  case round =>
    obtain ⟨k, pb, O, a, c, hk, rfl, rfl, rfl, HP, HM⟩ := hrel
    by_cases hlt : k < L.length
    · obtain ⟨q, hq⟩ : ∃ q, L[k]? = some q := ⟨_, List.getElem?_eq_getElem hlt⟩
      obtain ⟨bl, rfl, hcl⟩ := wt_cell (HT1.out.same HM.out.fr).hl (by omega)
      obtain ⟨cq1, cq2⟩ := hcl k q hq
      have k1 : (k : Int) < (L.length : Int) := by omega
      have HQ : Hid (L[k]? = some q) := hq
      obtain ⟨q1, q2⟩ := q
      dsimp only at cq1 cq2
      have T := Two.new wr 64 (.int .i64 q1) (.int .i64 q2)
      obtain ⟨t0, t1, _⟩ := T.cells
      have F0 := Fr.box wr (.cells #[.int .i64 q1, .int .i64 q2] 64)
      have HTW : Hid (Two (wr.alloc (.cells #[.int .i64 q1, .int .i64 q2] 64)) wr.heap.size 64 (.int .i64 q1) (.int .i64 q2)) := T
      have HSZ : Hid ((wr.alloc (.cells #[.int .i64 q1, .int .i64 q2] 64)).heap.size = wr.heap.size + 1) := by show _ = _; simp
      have HF0 : Hid (Fr (fun _ => False) wr (wr.alloc (.cells #[.int .i64 q1, .int .i64 q2] 64))) := F0
      have hOl := HP.out.len
      have HOL : Hid (O.length ≤ L.length + 1) := hOl
      have hO1 := HM.out.has.fr F0 (fun _ _ f => f)
      clear hcl hq T F0 hOl
      cases pb with
      | true =>
        obtain ⟨a2, c2, w2, hrun, hh2, f2, ho2⟩ := app_wt (q1, q2) hO1 (by have := HOL.out; have := HFL.out; omega)
        have HP2 : Hid (Put (r, l) L (k + 1) true (O ++ [(q1, q2)])) := HP.out.on HQ.out
        have HM2 : Hid (Mk w1 w2 (.slice a2 (O ++ [(q1, q2)]).length c2) (O ++ [(q1, q2)])) := by
          have := HM.out.add HF0.out hh2 f2 ho2
          rw [show (O ++ [(q1, q2)]).length = O.length + 1 by simp]
          exact this
        have HLE : Hid (O.length + 1 = (O ++ [(q1, q2)]).length) := by show _ = _; simp
        dsimp only at hrun
        rw [HSZ.out] at hrun
        clear hO1 hh2 f2 ho2 HP HM HQ HTW HF0 HOL
        go_wp2_with (at_builtin; refine append_step rfl _ _ 26 rfl rfl rfl hrun ?_)
        refine ⟨⟨k + 1, true, O ++ [(q1, q2)], a2, c2, by omega, by rw [HLE.out], rfl, by simp, HP2, HM2⟩, by simp [intOf]; omega⟩
      | false =>
        by_cases g1 : l < q2
        · have hb : ltB (r, l) (q1, q2) = true := by simp [ltB, g1]
          obtain ⟨a2, c2, w2, hrun, hh2, f2, ho2⟩ := app_wt (r, l) hO1 (by have := HOL.out; have := HFL.out; omega)
          have M2 := HM.out.add HF0.out hh2 f2 ho2
          have hbx : ¬ (Value.slice a O.length c).ownBlock = some wr.heap.size := fun e => by have := HM.out.has.lt e; omega
          obtain ⟨y0, y1, _⟩ := (HTW.out.fr f2 hbx).cells
          obtain ⟨a3, c3, w3, hrun3, hh3, f3, ho3⟩ := app_wt (q1, q2) (by rw [show (O ++ [(r, l)]).length = O.length + 1 by simp] at hh2 ⊢; exact hh2 : Has w2 2 (.slice a2 (O.length + 1) c2) (O ++ [(r, l)]).length (wtC (O ++ [(r, l)]))) (by have := HOL.out; have := HFL.out; simp; omega)
          have M3 := M2.add (Fr.refl _ w2) hh3 f3 ho3
          have HP2 : Hid (Put (r, l) L (k + 1) true ((O ++ [(r, l)]) ++ [(q1, q2)])) := HP.out.yes HQ.out hb
          have hle2 : (O ++ [(r, l)]).length + 1 = ((O ++ [(r, l)]) ++ [(q1, q2)]).length := by simp
          have hle1 : (O ++ [(r, l)]).length = O.length + 1 := by simp
          have HM2 : Hid (Mk w1 w3 (.slice a3 ((O ++ [(r, l)]) ++ [(q1, q2)]).length c3) ((O ++ [(r, l)]) ++ [(q1, q2)])) := by
            rw [← hle2]
            exact M3
          rw [hle1] at hrun3
          have HLE : Hid (O.length + 1 + 1 = ((O ++ [(r, l)]) ++ [(q1, q2)]).length) := by show _ = _; simp
          dsimp only at hrun hrun3
          rw [HSZ.out] at hrun
          clear hb hO1 hh2 hh3 f2 f3 ho2 ho3 HP HM HQ HTW HF0 HOL M2 M3 hle1 hle2 hbx
          go_upto_region 14 with (at_builtin; refine append_step rfl _ _ 26 rfl rfl rfl hrun ?_)
          clear hrun
          go_wp2_with (at_builtin; refine append_step rfl _ _ 26 rfl rfl rfl hrun3 ?_)
          refine ⟨⟨k + 1, true, (O ++ [(r, l)]) ++ [(q1, q2)], a3, c3, by omega, by rw [HLE.out], rfl, by simp, HP2, HM2⟩, by simp [intOf]; omega⟩
        · have g1' : decide (l < q2) = false := by simpa using g1
          by_cases g2 : q2 = l
          · have g2' : (q2 == l) = true := by simpa using g2
            by_cases g3 : r < q1
            · have hb : ltB (r, l) (q1, q2) = true := by simp [ltB, g2, g3]
              have HG2 : Hid (q2 = l) := g2
              clear g2
              obtain ⟨a2, c2, w2, hrun, hh2, f2, ho2⟩ := app_wt (r, l) hO1 (by have := HOL.out; have := HFL.out; omega)
              have M2 := HM.out.add HF0.out hh2 f2 ho2
              have hbx : ¬ (Value.slice a O.length c).ownBlock = some wr.heap.size := fun e => by have := HM.out.has.lt e; omega
              obtain ⟨y0, y1, _⟩ := (HTW.out.fr f2 hbx).cells
              obtain ⟨a3, c3, w3, hrun3, hh3, f3, ho3⟩ := app_wt (q1, q2) (by rw [show (O ++ [(r, l)]).length = O.length + 1 by simp] at hh2 ⊢; exact hh2 : Has w2 2 (.slice a2 (O.length + 1) c2) (O ++ [(r, l)]).length (wtC (O ++ [(r, l)]))) (by have := HOL.out; have := HFL.out; simp; omega)
              have M3 := M2.add (Fr.refl _ w2) hh3 f3 ho3
              have HP2 : Hid (Put (r, l) L (k + 1) true ((O ++ [(r, l)]) ++ [(q1, q2)])) := HP.out.yes HQ.out hb
              have hle2 : (O ++ [(r, l)]).length + 1 = ((O ++ [(r, l)]) ++ [(q1, q2)]).length := by simp
              have hle1 : (O ++ [(r, l)]).length = O.length + 1 := by simp
              have HM2 : Hid (Mk w1 w3 (.slice a3 ((O ++ [(r, l)]) ++ [(q1, q2)]).length c3) ((O ++ [(r, l)]) ++ [(q1, q2)])) := by
                rw [← hle2]
                exact M3
              rw [hle1] at hrun3
              have HLE : Hid (O.length + 1 + 1 = ((O ++ [(r, l)]) ++ [(q1, q2)]).length) := by show _ = _; simp
              dsimp only at hrun hrun3
              rw [HSZ.out] at hrun
              clear hb hO1 hh2 hh3 f2 f3 ho2 ho3 HP HM HQ HTW HF0 HOL M2 M3 hle1 hle2 hbx
              go_upto_region 14 with (at_builtin; refine append_step rfl _ _ 26 rfl rfl rfl hrun ?_)
              clear hrun
              go_wp2_with (at_builtin; refine append_step rfl _ _ 26 rfl rfl rfl hrun3 ?_)
              refine ⟨⟨k + 1, true, (O ++ [(r, l)]) ++ [(q1, q2)], a3, c3, by omega, by rw [HLE.out], rfl, by simp, HP2, HM2⟩, by simp [intOf]; omega⟩
            · have hb : ltB (r, l) (q1, q2) = false := by simp [ltB, g2, g3]
              have g3' : decide (r < q1) = false := by simpa using g3
              clear g2
              obtain ⟨a2, c2, w2, hrun, hh2, f2, ho2⟩ := app_wt (q1, q2) hO1 (by have := HOL.out; have := HFL.out; omega)
              have HP2 : Hid (Put (r, l) L (k + 1) false (O ++ [(q1, q2)])) := HP.out.no HQ.out hb
              have HM2 : Hid (Mk w1 w2 (.slice a2 (O ++ [(q1, q2)]).length c2) (O ++ [(q1, q2)])) := by
                have := HM.out.add HF0.out hh2 f2 ho2
                rw [show (O ++ [(q1, q2)]).length = O.length + 1 by simp]
                exact this
              have HLE : Hid (O.length + 1 = (O ++ [(q1, q2)]).length) := by show _ = _; simp
              dsimp only at hrun
              rw [HSZ.out] at hrun
              clear hb hO1 hh2 f2 ho2 HP HM HQ HTW HF0 HOL
              go_wp2_with (at_builtin; refine append_step rfl _ _ 26 rfl rfl rfl hrun ?_)
              refine ⟨⟨k + 1, false, O ++ [(q1, q2)], a2, c2, by omega, by rw [HLE.out], rfl, by simp, HP2, HM2⟩, by simp [intOf]; omega⟩
          · have hb : ltB (r, l) (q1, q2) = false := by simp [ltB, g1]; omega
            have g2' : (q2 == l) = false := by simpa using g2
            obtain ⟨a2, c2, w2, hrun, hh2, f2, ho2⟩ := app_wt (q1, q2) hO1 (by have := HOL.out; have := HFL.out; omega)
            have HP2 : Hid (Put (r, l) L (k + 1) false (O ++ [(q1, q2)])) := HP.out.no HQ.out hb
            have HM2 : Hid (Mk w1 w2 (.slice a2 (O ++ [(q1, q2)]).length c2) (O ++ [(q1, q2)])) := by
              have := HM.out.add HF0.out hh2 f2 ho2
              rw [show (O ++ [(q1, q2)]).length = O.length + 1 by simp]
              exact this
            have HLE : Hid (O.length + 1 = (O ++ [(q1, q2)]).length) := by show _ = _; simp
            dsimp only at hrun
            rw [HSZ.out] at hrun
            clear hb hO1 hh2 f2 ho2 HP HM HQ HTW HF0 HOL
            go_wp2_with (at_builtin; refine append_step rfl _ _ 26 rfl rfl rfl hrun ?_)
            refine ⟨⟨k + 1, false, O ++ [(q1, q2)], a2, c2, by omega, by rw [HLE.out], rfl, by simp, HP2, HM2⟩, by simp [intOf]; omega⟩
    · have hke : L.length ≤ k := by omega
      have hO := HM.out.has
      have HOL : Hid (O.length ≤ L.length + 1) := HP.out.len
      obtain ⟨z0, z1, z2, z3⟩ := (HT1.out.same HM.out.fr).two.cells
      cases pb with
      | true =>
        have hE := HP.out.endYes hke
        have HK : Hid (RwO w R b (ins (r, l) L) D (wr.setCell ⟨b, 0, none⟩ (.slice a O.length c))) := by
          obtain ⟨R', a1, a2, a3, a4, h1, h2, h3⟩ := RwO.lay HT1.out HM.out
          rw [hE] at h2 h3
          rw [hE]
          exact ⟨R', a1, a2, a3, a4, fun i hi => (h1 i hi).imp id (fun h => Nat.le_trans HF1.out.size h), h2, (HF1.out.mono (fun _ _ f => f.elim)).trans h3 (fun _ _ e => e)⟩
        clear hO HP HM hE hke
        go_wp2
        go_ret
        exact ⟨rfl, HK.out⟩
      | false =>
        obtain ⟨a2, c2, w2, hrun, hh2, f2, ho2⟩ := app_wt (r, l) hO (by have := HOL.out; have := HFL.out; omega)
        have M2 := HM.out.add (Fr.refl _ wr) hh2 f2 ho2
        have hE := HP.out.endNo hke
        obtain ⟨y0, y1, y2, y3⟩ := (HT1.out.same M2.fr).two.cells
        have HK : Hid (RwO w R b (ins (r, l) L) D (w2.setCell ⟨b, 0, none⟩ (.slice a2 (O.length + 1) c2))) := by
          have M3 : Mk w1 w2 (.slice a2 (O ++ [(r, l)]).length c2) (O ++ [(r, l)]) := by
            rw [show (O ++ [(r, l)]).length = O.length + 1 by simp]
            exact M2
          obtain ⟨R', a1, a2', a3, a4, h1, h2, h3⟩ := RwO.lay HT1.out M3
          rw [show O.length + 1 = (O ++ [(r, l)]).length by simp]
          rw [hE] at h2 h3
          rw [hE]
          exact ⟨R', a1, a2', a3, a4, fun i hi => (h1 i hi).imp id (fun h => Nat.le_trans HF1.out.size h), h2, (HF1.out.mono (fun _ _ f => f.elim)).trans h3 (fun _ _ e => e)⟩
        dsimp only at hrun
        clear hO HP HM hE hke hh2 f2 ho2 M2 z0 z1 z2 z3
        go_wp2_with (at_builtin; refine append_step rfl _ _ 26 rfl rfl rfl hrun ?_)
        go_wp2
        go_ret
        exact ⟨rfl, HK.out⟩
set_option maxRecDepth 100000 in
set_option maxHeartbeats 8000000 in
theorem rwait_any (r l : Int) (h : Rt w R b L D la lc da dc) (hd : ∀ p ∈ L, p.1 ∉ D) (hL : L.length ≤ 1024) : Calls Try.prog 10 #[.pointer (some ⟨b, 0, none⟩), .int .i64 r, .int .i64 l] w fun e w' => e = .returned (.int .i64 (waE L D r l)) ∧ RwO w R b (waL L D r l) D w' := by
  have hse := rstN_eq hd r
  cases e1 : rng r with
  | false =>
    have hE : waE L D r l = 1 := by simp [waE, e1]
    have HK : Hid (RwO w R b (waL L D r l) D w) := by rw [show waL L D r l = L from if_neg (by omega)]; exact RwO.no h (Fr.refl _ _)
    rw [hE]
    have hn := rg_no e1
    clear e1 h hE hse
    by_cases g : r < 1
    · clear hn
      go_enter Try.func10, Try.ntmps10
      go_wp2
      go_ret
      exact ⟨rfl, HK.out⟩
    · have g1 : decide (r < 1) = false := by simpa using g
      have g2 : 1099511627776 < r := by omega
      clear hn
      go_enter Try.func10, Try.ntmps10
      go_wp2
      go_ret
      exact ⟨rfl, HK.out⟩
  | true =>
    obtain ⟨d1, d2⟩ := rg_facts e1
    cases e2 : rng l with
    | false =>
      have hE : waE L D r l = 1 := by simp [waE, e2]
      have HK : Hid (RwO w R b (waL L D r l) D w) := by rw [show waL L D r l = L from if_neg (by omega)]; exact RwO.no h (Fr.refl _ _)
      rw [hE]
      have hn := rg_no e2
      clear e1 e2 h hE hse
      by_cases g : l < 1
      · clear hn
        go_enter Try.func10, Try.ntmps10
        go_wp2
        go_ret
        exact ⟨rfl, HK.out⟩
      · have g1 : decide (l < 1) = false := by simpa using g
        have g2 : 1099511627776 < l := by omega
        clear hn
        go_enter Try.func10, Try.ntmps10
        go_wp2
        go_ret
        exact ⟨rfl, HK.out⟩
    | true =>
      obtain ⟨d3, d4⟩ := rg_facts e2
      by_cases hs : stN L D r = 0
      · by_cases hf : L.length = 1024
        · have hE : waE L D r l = 5 := by simp [waE, e1, e2, hs, hf]
          have HK : Hid (∀ w', Fr (fun _ => False) w w' → RwO w R b (waL L D r l) D w') := by rw [show waL L D r l = L from if_neg (by omega)]; exact fun w' f => RwO.no h f
          have hst := rstate_any r h
          rw [hse, hs] at hst
          have HT : Hid (Rt w R b L D la lc da dc) := h
          rw [hE]
          have d5 : decide ((1024 : Int) ≤ (L.length : Int)) = true := by simp; omega
          have d6 : decide (1024 ≤ L.length) = true := by simp; omega
          clear e1 e2 hE h hs hse hf hd hL
          go_enter Try.func10, Try.ntmps10
          go_wp2_with fail
          refine hst.mono ?_
          rintro e w1 ⟨rfl, f1⟩
          obtain ⟨x0, x1, _⟩ := (HT.out.same f1).two.cells
          clear hst
          go_wp2
          go_ret
          exact ⟨rfl, HK.out _ f1⟩
        · have hE : waE L D r l = 0 := by simp [waE, e1, e2, hs, hf]
          rw [hE, show waL L D r l = ins (r, l) L from if_pos hE]
          exact rwait_yes r l h e1 e2 (hse.trans hs) (by omega)
      · have hE : waE L D r l = 7 := by simp [waE, e1, e2, hs]
        have HK : Hid (∀ w', Fr (fun _ => False) w w' → RwO w R b (waL L D r l) D w') := by rw [show waL L D r l = L from if_neg (by omega)]; exact fun w' f => RwO.no h f
        have hst := rstate_any r h
        rw [hse] at hst
        rw [hE]
        have hs' : (stN L D r == 0) = false := by simpa using hs
        obtain ⟨q, hq⟩ : ∃ q, q = stN L D r := ⟨_, rfl⟩
        rw [← hq] at hst hs'
        have hs2 : (q != 0) = true := by simpa using hs'
        clear e1 e2 hE h hs hse hd hL hq
        go_enter Try.func10, Try.ntmps10
        go_wp2_with (go_at_call 17; refine hst.mono ?_; rintro e w1 ⟨rfl, f1⟩)
        go_ret
        exact ⟨rfl, HK.out _ f1⟩
end Go.Proofs.Ytfmjefmocenkbaa
