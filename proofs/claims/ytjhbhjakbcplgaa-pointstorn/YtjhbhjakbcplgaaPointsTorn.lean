
/- For any list of points and any place to tear the last one at, checkpoints that are written one behind the other by points.Next to their slots are told by points.Choose: the last one that was written whole, or behind a torn one the one ahead or the torn one's own, where what is torn has no right sum by chance; and the example speaks; with no condition but those of the statement's own form. -/
import Derived.Test.YtjhbhjakbcplgaaArgs
import Derived.Test.YtjhbhjakbcplgaaPtMath
import Derived.Deep.DeepCutAuto
import Derived.Deep.RegionHeld3
import Derived.Deep.RegionWith
namespace Go.Proofs.Ytjhbhjakbcplgaa.pointsTorn
open Go.ChangeShapes Go.WideShapes Go.ChangeAt Go.RowKit
open Go.ChangeMaps (open_string shut_string)
set_option linter.unusedVariables false

theorem own : ownKnob Try.prog.godebug = none := by kernel_rfl
theorem laidOut : laidOutB Try.prog = true := by kernel_rfl
theorem bytes8 : Try.prog.bytesOf 5 = 1 := by kernel_rfl

open Go.Proofs.Ytjhbhjakbcplgaa.Crcm
def lenV : Value → Nat
  | .slice _ k _ => k
  | _ => 0
theorem octs_set {L : List Nat} (h : octs L) (j y : Nat) (hy : y < 256) : octs (L.set j y) := by
  intro x hx
  rcases List.mem_or_eq_of_mem_set hx with h1 | h1
  · exact h x h1
  · omega
theorem cellsOf_set (L : List Nat) (j y : Nat) : cellsOf (L.set j y) = (cellsOf L).set j (.int .u8 (y : Int)) := by
  unfold cellsOf; rw [List.map_set]
/-- A list of which the first k are another one's. -/
def mix (b K : List Nat) (k : Nat) : List Nat := b.take k ++ K.drop k
theorem mix_length {b K : List Nat} {k : Nat} (h1 : k ≤ b.length) (h2 : k ≤ K.length) : (mix b K k).length = K.length := by
  unfold mix; rw [List.length_append, List.length_take, List.length_drop]; omega
theorem mix_set {b K : List Nat} {k : Nat} (h1 : k < b.length) (h2 : k < K.length) : (mix b K k).set k (b.getD k 0) = mix b K (k + 1) := by
  unfold mix
  have e0 : (b.take k).length = k := by rw [List.length_take]; omega
  rw [List.set_append_right _ _ (by omega), e0, Nat.sub_self, List.drop_eq_getElem_cons h2, List.set_cons_zero, take_snoc b k h1, List.append_assoc]; rfl
theorem mix_octs {b K : List Nat} {k : Nat} (hb : octs b) (hK : octs K) : octs (mix b K k) := octs_app (octs_take hb k) (fun x hx => hK x (List.mem_of_mem_drop hx))
theorem mix_zero (b K : List Nat) : mix b K 0 = K := by simp [mix]
theorem mix_full {b K : List Nat} (h1 : b.length = 28) (h2 : K.length ≤ 28) : mix b K 28 = b := by
  unfold mix; rw [List.take_of_length_le (by omega), List.drop_of_length_le (by omega), List.append_nil]
theorem octs_rep (j : Nat) : octs (List.replicate j 0) := fun x hx => by rw [List.mem_replicate] at hx; omega
theorem two_cells {w : World} {b : Nat} {v u : Value} {t : TypeId} (h : w.heap[b]? = some (.cells #[v, u] t (0, 0))) : w.cell? ⟨b, 0, none⟩ = some v ∧ w.cell? ⟨b, 1, none⟩ = some u ∧ w.frozen? ⟨b, 0, none⟩ = false ∧ w.frozen? ⟨b, 1, none⟩ = false := cell_of_two h
set_option maxRecDepth 100000 in
set_option maxHeartbeats 16000000 in
theorem walk (w : World) (a0 : Option Addr) (len0 cap0 : Nat) (ps : List Pn) (hl0 : len0 = ps.length) (z0 : ps.length ≤ 8796093021952) (hr0 : Pts w a0 cap0 ps) (a1 : Int) (w1 : (Lit.int .i64 a1).wf = true) :
    Calls Try.prog 6 #[.slice a0 len0 cap0, .int .i64 a1] w fun e w' => e = .returned (.bool true) ∧ Fr (fun _ => False) w w' := by
  obtain ⟨i0, hi, hz0, hz1, hz2⟩ := info_parts info8
  have hle := hr0.le
  have hmx := hr0.max
  have HL0 : Hid (len0 = ps.length) := hl0
  have hlm : len0 ≤ 8796093021952 := by omega
  have HR0 : Hid (Pts w a0 cap0 ps) := hr0
  clear w1 z0 hl0 hr0
  obtain ⟨S, hS⟩ : ∃ s, s = w.heap.size := ⟨_, rfl⟩
  obtain ⟨Wb, hWb⟩ : ∃ s, s = w.heap.size + 1 := ⟨_, rfl⟩
  obtain ⟨W0, hW0⟩ : ∃ W, W = (w.alloc (.cells #[.slice none 0 0, .slice none 0 0] 58)).alloc (.cells #[.int .i64 0, .int .i64 0, .int .i64 0] 34) := ⟨_, rfl⟩
  have f0 : Fr (fun _ => False) w W0 := by rw [hW0]; exact (Fr.box w _).alloc _
  have bs0 : W0.heap[S]? = some (.cells #[.slice none 0 0, .slice none 0 0] 58 (0, 0)) := by
    rw [hW0, hS]; exact ((Fr.box (w.alloc (.cells #[.slice none 0 0, .slice none 0 0] 58)) (.cells #[.int .i64 0, .int .i64 0, .int .i64 0] 34)).block w.heap.size (by simp) (fun f => f)).trans (heap_alloc_new w _)
  have tw0 : Tri W0 Wb 34 0 0 0 := by
    have h := heap_alloc_new (w.alloc (.cells #[.slice none 0 0, .slice none 0 0] 58)) (.cells #[.int .i64 0, .int .i64 0, .int .i64 0] 34)
    have e : (w.alloc (.cells #[.slice none 0 0, .slice none 0 0] 58)).heap.size = Wb := by rw [hWb]; simp
    rw [e] at h; rw [hW0]; exact h
  have HSW : Hid (w.heap.size = S ∧ Wb = S + 1) := ⟨hS.symm, by omega⟩
  have HW : Hid ((w.alloc (.cells #[.slice none 0 0, .slice none 0 0] 58)).alloc (.cells #[.int .i64 0, .int .i64 0, .int .i64 0] 34) = W0) := hW0.symm
  have HS' : Hid (w.heap.size = S) := hS.symm
  have HB' : Hid (S + 1 = Wb) := by show _ = _; omega
  have HF0 : Hid (Fr (fun _ => False) w W0) := f0
  have HBS0 : Hid (W0.heap[S]? = some (.cells #[.slice none 0 0, .slice none 0 0] 58 (0, 0))) := bs0
  have HTW0 : Hid (Tri W0 Wb 34 0 0 0) := tw0
  clear hS hWb hW0 f0 bs0 tw0
  go_enter Try.func6, Try.ntmps6
  go_upto_region 3 with fail
  rw [HW.out, HS'.out, HB'.out]
  go_wp2
  go_loopw [24] (fun i wr => ∃ (k : Nat) (s0 s1 : List Nat) (was : Pn) (A ce : Int), k ≤ len0 ∧ i = .int .i64 k ∧ Hid (Box2 wr S s0 s1) ∧ Hid (Tri wr Wb 34 was.num was.lsn was.redo) ∧ Hid (Inv s0 s1 was A ce) ∧ Hid (Fr (fun _ => False) w wr))
    (fun i _ => len0 - (intOf i).toNat)
  case atStart => exact ⟨0, [], [], ⟨0, 0, 0⟩, 0, 6, by omega, rfl, ⟨_, _, HBS0.out, Sl2.nil _ _, Sl2.nil _ _⟩, HTW0.out, Inv.start, HF0.out⟩
  case round =>
    obtain ⟨k, s0, s1, ⟨o1, o2, o3⟩, A, ce, hk, rfl, HBB, HTW, HI, HF⟩ := hrel
    clear HBS0 HTW0 HF0 HW
    by_cases hlt : k < len0
    · obtain ⟨⟨p1, p2, p3⟩, hd⟩ : ∃ d, ps[k]? = some d := ⟨ps[k]'(by have := HL0.out; omega), List.getElem?_eq_getElem (by have := HL0.out; omega)⟩
      obtain ⟨b, off, rfl, hb, hc⟩ := HR0.out.some (by have := HL0.out; omega)
      obtain ⟨c0, c1, c2⟩ := hc k _ hd
      have c0' := (HF.out.cell (p := ⟨b, off + k * 3, none⟩) hb (fun f => f)).trans c0
      have c1' := (HF.out.cell (p := ⟨b, off + k * 3 + 1, none⟩) hb (fun f => f)).trans c1
      have c2' := (HF.out.cell (p := ⟨b, off + k * 3 + 2, none⟩) hb (fun f => f)).trans c2
      clear c0 c1 c2 hd hc
      have hnum := HI.out.num
      have HNX : Hid (nxt s0 s1 ⟨p1, p2, p3⟩ = nxE ⟨o1 + 1, p2, p3⟩ (slotOf A ce)) := HI.out.next _
      obtain ⟨pb_, W1, hW1, hpb, tp, fb⟩ := put3 wr 34 p1 p2 p3
      have HW1 : Hid (wr.alloc (.cells #[.int .i64 p1, .int .i64 p2, .int .i64 p3] 34) = W1) := hW1
      have HP1 : Hid (wr.heap.size = pb_) := hpb
      have hbx := HBB.out.fr fb (fun f => f) (fun _ _ f => f)
      have HBB1 : Hid (Box2 W1 S s0 s1) := hbx
      obtain ⟨_, _, bs1, ⟨ax, cx, rfl, rx1, _⟩, ⟨ay, cy, rfl, ry1, _⟩⟩ := hbx
      have tw1 := HTW.out.fr fb (fun f => f)
      have HF1 : Hid (Fr (fun _ => False) w W1) := HF.out.seq' fb
      clear hW1 hpb fb HBB HTW HF
      go_upto_region 6 with fail
      rw [HW1.out, HP1.out]
      obtain ⟨y0, y1, _, _⟩ := cell_of_two bs1
      obtain ⟨x0, x1, x2, _, _, _⟩ := tp.cells
      go_wp2_with fail
      refine (next_any _ _ _ _ _ _ s0 s1 rfl rfl ⟨p1, p2, p3⟩ _ rx1 ry1).mono ?_
      rw [HNX.out]
      rintro e w2 ⟨v2, rfl, m2⟩
      have HBB2 : Hid (Box2 w2 S s0 s1) := HBB1.out.fr m2.fr (fun f => f) (fun _ _ f => f)
      have tw2 := tw1.fr m2.fr (fun f => f)
      have HF2 : Hid (Fr (fun _ => False) w w2) := HF1.out.seq' m2.fr
      clear y0 y1 x0 x1 x2 tp bs1 tw1 rx1 ry1 HF1 HNX HBB1
      by_cases hq : ptB ⟨o1 + 1, p2, p3⟩ = true
      · have hne : nxE ⟨o1 + 1, p2, p3⟩ (slotOf A ce) = (⟨o1 + 1, p2, p3⟩, slotOf A ce, pf ⟨o1 + 1, p2, p3⟩, 0) := if_pos hq
        rw [hne] at m2 ⊢
        clear hne
        try simp only at m2
        obtain ⟨av, cv, rfl, rb2⟩ := m2.own.row (pf_octs _) (by rw [pf_length]; omega)
        obtain ⟨qb, W3, hW3, hqb, tq, fq⟩ := put3 w2 34 (o1 + 1) p2 p3
        have HW3 : Hid (w2.alloc (.cells #[.int .i64 (o1 + 1), .int .i64 p2, .int .i64 p3] 34) = W3) := hW3
        have HQ3 : Hid (w2.heap.size = qb) := hqb
        have HBB3 : Hid (Box2 W3 S s0 s1) := HBB2.out.fr fq (fun f => f) (fun _ _ f => f)
        have tw3 := tw2.fr fq (fun f => f)
        have rb3 := rb2.same fq
        have HF3 : Hid (Fr (fun _ => False) w W3) := HF2.out.seq' fq
        have HPL : Hid ((pf ⟨o1 + 1, p2, p3⟩).length = 28) := pf_length _
        have HPO : Hid (octs (pf ⟨o1 + 1, p2, p3⟩)) := pf_octs _
        have HDP : Hid (decP (pf ⟨o1 + 1, p2, p3⟩) = (⟨o1 + 1, p2, p3⟩, 0)) := dec_pf hq
        have HQB : Hid (S + 2 ≤ qb ∧ qb < W3.heap.size ∧ Wb < w2.heap.size) := by
          have h1 := lt_of_block tw2; have h2 := HB'.out; have h3 := lt_of_block tq
          exact ⟨by omega, h3, h1⟩
        rw [HPL.out]
        clear hW3 hqb fq tw2 rb2 HF2 m2 HBB2
        go_upto_region 7 with fail
        rw [HW3.out, HQ3.out]
        obtain ⟨at_, sX, aX, cX, hat, hsl, hax, hlx, hcx, hfx, rX3⟩ := HBB3.out.pick HI.out
        have HAX : Hid ((at_ = 0 ∧ sX = s0) ∨ (at_ = 1 ∧ sX = s1)) := hax
        have HSLE : Hid (slotOf A ce = (at_ : Int)) := hsl
        rw [hsl]
        have hat0 : ¬ ((at_ : Int) < 0) := by omega
        have hat1 : ¬ (1 < (at_ : Int)) := by omega
        have hat2 : (at_ : Int) < 2 := by omega
        have HLX : Hid (sX.length ≤ 28 ∧ (sX.length = 0 ∨ sX.length = 28)) := ⟨by omega, hlx⟩
        clear hax hsl hlx
        obtain ⟨q0, q1, q2, _, _, _⟩ := tq.cells
        obtain ⟨x0, x1, x2, _, _, _⟩ := tw3.cells
        try simp only at hnum
        have hw1 : IntKind.i64.wrap (o1 + 1) = o1 + 1 := by rw [IntKind.wrap_i64]; omega
        have HRX : Hid (Row W3 aX cX sX) := rX3
        have HRB : Hid (Row W3 av cv (pf ⟨o1 + 1, p2, p3⟩)) := rb3
        have HTW3 : Hid (Tri W3 Wb 34 o1 o2 o3) := tw3
        have HTQ3 : Hid (Tri W3 qb 34 (o1 + 1) p2 p3) := tq
        clear tw3 tq rb3
        go_wp2_with (at_builtin; refine wpList_append_row _ rfl _ _ 35 35 5 rfl i0 Try.underlying35 Try.underlying35 hi hz0 hz1 hz2 W3.heap.size (.slice none 0 0) [] rfl (World.ownsRow_nil _ _ _ _) aX sX.length cX sX rfl rfl rX3 ?hb ?hs ?_)
        case hb => have := HLX.out.1; omega
        intro a4 c4 w4 own4 grow4 _
        have f4 : Fr (fun _ => False) W3 w4 := Fr.ofGrown grow4
        clear q0 q1 q2 x0 x1 x2 grow4 rX3
        have HOW4 : Hid (w4.ownsRow W3.heap.size 5 1 (.slice a4 sX.length c4) sX.length (cellsOf sX)) := by show Mine w4 W3.heap.size _ sX; simpa using own4
        have HF4 : Hid (Fr (fun _ => False) W3 w4) := f4
        clear own4 f4
        try simp only [List.length_nil, Nat.zero_add]
        go_upto_region 13 with fail
        go_cut [78] (fun b wc => ∃ B : Bool, b = .bool B ∧ Hid (B = true → 0 ≤ a1 ∧ a1 < 28) ∧ w4 = wc)
        case first =>
          by_cases g1 : (k : Int) = (len0 : Int) - 1
          · by_cases g2 : 0 ≤ a1
            · by_cases g3 : a1 < 28
              · have e1 : ((k : Int) == (len0 : Int) - 1) = true := by simpa using g1
                clear g1
                go_wp2
                go_meet
                exact ⟨true, rfl, fun _ => ⟨g2, g3⟩, rfl⟩
              · have e1 : ((k : Int) == (len0 : Int) - 1) = true := by simpa using g1
                clear g1
                go_wp2
                go_meet
                exact ⟨false, rfl, (fun h => by cases h), rfl⟩
            · have e1 : ((k : Int) == (len0 : Int) - 1) = true := by simpa using g1
              clear g1
              go_wp2
              go_meet
              exact ⟨false, rfl, (fun h => by cases h), rfl⟩
          · have e1 : ((k : Int) == (len0 : Int) - 1) = false := by simpa using g1
            go_wp2
            go_meet
            exact ⟨false, rfl, (fun h => by cases h), rfl⟩
        case rest =>
        obtain ⟨B, rfl, HB, rfl⟩ := hcut
        go_upto_if 78 with fail
        go_cut [14] (fun t wc => ∃ N : Nat, t = .int .i64 N ∧ N ≤ 28 ∧ w4 = wc)
        case first =>
          cases B
          · go_wp2
            go_meet
            exact ⟨28, rfl, by omega, rfl⟩
          · have hB := HB.out rfl
            go_wp2
            go_meet
            exact ⟨a1.toNat, val_int (by omega), by omega, rfl⟩
        case rest =>
        obtain ⟨N, rfl, hN, rfl⟩ := hcut
        clear HB
        go_wp2
        go_loopw [13] (fun v wx => ∃ (j : Nat) (a' : Option Addr) (c' : Nat) (K : List Nat), v = .slice a' K.length c' ∧ Hid (K = sX ++ List.replicate j 0) ∧ K.length ≤ 28 ∧ Hid (K.length ≤ N ∨ j = 0) ∧ Hid (Mine wx W3.heap.size (.slice a' K.length c') K) ∧ Hid (Fr (fun _ => False) W3 wx))
          (fun v _ => 28 - lenV v)
        case atStart => exact ⟨0, a4, c4, sX, rfl, by show _ = _; simp, HLX.out.1, .inr rfl, HOW4.out, HF4.out⟩
        case round =>
          obtain ⟨j, a', c', K, rfl, HK, hK, HKN, HM, HFX⟩ := hrel
          by_cases hkn : K.length < N
          · have hro : Row (wr.alloc (.cells #[.int .u8 0] 5)) (some ⟨wr.heap.size, 0, none⟩) 1 [0] := row_lit (octs_one (by omega)) (by simp) (heap_alloc_new wr _)
            have hsz := HFX.out.size
            go_wp2_with (at_builtin; refine wpList_append_row _ rfl _ _ 35 35 5 rfl i0 Try.underlying35 Try.underlying35 hi hz0 hz1 hz2 W3.heap.size (.slice a' K.length c') K rfl (HM.out.alloc _) (some ⟨wr.heap.size, 0, none⟩) 1 1 [0] rfl rfl hro (by simp; omega) (by simp; omega) ?_; intro a5 c5 w5b hown5 hgrow5 hat5)
            go_roundw
            case rel =>
              refine ⟨j + 1, a5, c5, K ++ [0], by simp, by show _ = _; rw [HK.out, List.append_assoc, ← List.replicate_succ'], by simp; omega, .inl (by simp; omega), ?_, ?_⟩
              · show Mine _ _ _ _; simpa using hown5
              · exact (HFX.out.alloc _).fresh hgrow5 (fun j e => (HM.out.lt j e).1)
            case measure => simp [lenV]; omega
          · clear HOW4 HF4
            have HKL : Hid (N ≤ K.length) := by show _ ≤ _; omega
            have HKO : Hid (octs K) := by
              show octs K; rw [HK.out]
              exact octs_app (HRX.out.byte) (octs_rep j)
            have HKE : Hid (sX = [] → K.length ≤ N) := fun h => by
              rcases HKN.out with h1 | h1
              · exact h1
              · rw [HK.out, h, h1]; simp
            obtain ⟨bb, oo, hav, hbb, hcb⟩ : ∃ bb oo, av = some ⟨bb, oo, none⟩ ∧ bb < W3.heap.size ∧ ∀ i, i < (pf ⟨o1 + 1, p2, p3⟩).length → W3.cell? ⟨bb, oo + i, none⟩ = some (.int .u8 (((pf ⟨o1 + 1, p2, p3⟩).getD i 0 : Nat) : Int)) := by
              rcases HRB.out.at_ with h | h
              · have := HPL.out; rw [h] at this; simp at this
              · exact h
            have hcv := HRB.out.le
            have hcm := HRB.out.max
            rw [HPL.out] at hcv
            subst hav
            have HCB : Hid (bb < W3.heap.size ∧ ∀ i, i < 28 → W3.cell? ⟨bb, oo + i, none⟩ = some (.int .u8 (((pf ⟨o1 + 1, p2, p3⟩).getD i 0 : Nat) : Int))) := ⟨hbb, by rw [← HPL.out]; exact hcb⟩
            clear hbb hcb HK HKN HRB
            have HM0 : Hid (wr.ownsRow W3.heap.size 5 1 (.slice a' K.length c') K.length (cellsOf (mix (pf ⟨o1 + 1, p2, p3⟩) K 0))) := by show World.ownsRow _ _ _ _ _ _ _; rw [mix_zero]; exact HM.out
            clear HM
            go_wp2
            go_loopw [15] (fun i wx => ∃ (m : Nat), m ≤ N ∧ i = .int .i64 m ∧ Hid (wx.ownsRow W3.heap.size 5 1 (.slice a' K.length c') K.length (cellsOf (mix (pf ⟨o1 + 1, p2, p3⟩) K m))) ∧ Hid (Fr (fun _ => False) W3 wx))
              (fun i _ => N - (intOf i).toNat)
            case atStart => exact ⟨0, by omega, rfl, HM0.out, HFX.out⟩
            case round =>
              clear HM0 HFX
              obtain ⟨m, hm, rfl, HM, HFX⟩ := hrel
              by_cases hmn : m < N
              · have hml : m < K.length := by have := HKL.out; omega
                obtain ⟨g, cg, he, hge, hgl⟩ := HM.out.form (by omega)
                simp only [Value.slice.injEq, true_and] at he
                obtain ⟨ha', hc'⟩ := he
                subst ha'
                subst hc'
                have hbc := (HFX.out.cell (p := ⟨bb, oo + m, none⟩) HCB.out.1 (fun f => f)).trans (HCB.out.2 m (by omega))
                have hoc : wr.cell? ⟨g, m, none⟩ = some (.int .u8 (((mix (pf ⟨o1 + 1, p2, p3⟩) K m).getD m 0 : Nat) : Int)) := by
                  rw [HM.out.cellAt _ (by omega)]
                  exact cellsOf_get _ _ (by rw [mix_length (by have := HPL.out; omega) (by omega)]; omega)
                have hfr := HM.out.frozenAt m
                obtain ⟨x, hx⟩ : ∃ x, x = (pf ⟨o1 + 1, p2, p3⟩).getD m 0 := ⟨_, rfl⟩
                have hms : (mix (pf ⟨o1 + 1, p2, p3⟩) K m).set m x = mix (pf ⟨o1 + 1, p2, p3⟩) K (m + 1) := by rw [hx]; exact mix_set (by have := HPL.out; omega) hml
                rw [← hx] at hbc
                have O := (HM.out.stored m (.int .u8 (x : Int))).1
                rw [← cellsOf_set, hms] at O
                have HOO : Hid ((wr.setCell ⟨g, m, none⟩ (.int .u8 (x : Int))).ownsRow W3.heap.size 5 1 (.slice (some ⟨g, 0, none⟩) K.length c') K.length (cellsOf (mix (pf ⟨o1 + 1, p2, p3⟩) K (m + 1)))) := O
                have HFS : Hid (Fr (fun _ => False) W3 (wr.setCell ⟨g, m, none⟩ (.int .u8 (x : Int)))) := HFX.out.setCell (p := ⟨g, m, none⟩) (fun h => absurd h (Nat.not_lt_of_le hge)) _
                clear hx hms O HM HFX
                have hm28 : m < 28 := by omega
                go_wp2
                go_roundw
                case rel => exact ⟨m + 1, by omega, by go_num, HOO.out, HFS.out⟩
                case measure => simp [intOf]; omega
              · have hmN : m = N := by omega
                subst hmN
                obtain ⟨T, hT⟩ : ∃ T, T = mix (pf ⟨o1 + 1, p2, p3⟩) K m := ⟨_, rfl⟩
                have hTl : T.length = K.length := by rw [hT]; exact mix_length (by have := HPL.out; omega) HKL.out
                have HTL : Hid (T.length = K.length) := hTl
                have HTO : Hid (octs T) := by show octs T; rw [hT]; exact mix_octs HPO.out HKO.out
                have HTM : Hid (T = mix (pf ⟨o1 + 1, p2, p3⟩) K m) := hT
                have hmine : Mine wr W3.heap.size (.slice a' K.length c') T := by unfold Mine; rw [hTl, hT]; exact HM.out
                have hs2 := Sl2.of hmine (B := W3.heap.size) (Nat.le_refl _) HTO.out (by omega)
                rw [← hTl] at hs2
                obtain ⟨a9, c9, he9, rT, bT⟩ := hs2
                simp only [Value.slice.injEq, true_and] at he9
                obtain ⟨h91, h92⟩ := he9
                subst h91
                subst h92
                have HBT : Hid (∀ b o sp, a' = some ⟨b, o, sp⟩ → W3.heap.size ≤ b) := bT
                obtain ⟨⟨⟨e1, e2, e3⟩, we⟩, hdT⟩ : ∃ d, d = decP T := ⟨_, rfl⟩
                have HDT : Hid (decP T = (⟨e1, e2, e3⟩, we)) := hdT.symm
                clear hT hTl hmine bT hdT HM
                go_wp2_with fail
                refine (rdecode_any a' _ c' T HTL.out.symm _ rT).mono ?_
                rw [HDT.out]
                rintro e w6 ⟨rfl, f6⟩
                obtain ⟨cb, W7, hW7, hcb7, tc, f7⟩ := put3 w6 40 e1 e2 e3
                have HW7 : Hid (w6.alloc (.cells #[.int .i64 e1, .int .i64 e2, .int .i64 e3] 40) = W7) := hW7
                have HC7 : Hid (w6.heap.size = cb) := hcb7
                have F37 : Fr (fun _ => False) W3 W7 := HFX.out.seq' (f6.seq' f7)
                have rT7 := (rT.same f6).same f7
                have tq7 := HTQ3.out.fr F37 (fun f => f)
                have tw7 := HTW3.out.fr F37 (fun f => f)
                have HF37 : Hid (Fr (fun _ => False) W3 W7) := F37
                have HRT7 : Hid (Row W7 a' c' T) := rT7
                clear hW7 hcb7 f6 f7 rT HFX F37 rT7
                go_upto_region 22 with fail
                rw [HW7.out, HC7.out]
                obtain ⟨q0, q1, q2, _, _, _⟩ := tq7.cells
                obtain ⟨x0, x1, x2, _, _, _⟩ := tw7.cells
                obtain ⟨g0, g1, g2, _, _, _⟩ := tc.cells
                go_cut [121] (fun b wc => ∃ (B : Bool) (WX : World), b = .bool B ∧ WX = wc ∧ Hid (B = false → we ≠ 0 ∨ (⟨e1, e2, e3⟩ : Pn) = ⟨o1 + 1, p2, p3⟩ ∨ (⟨e1, e2, e3⟩ : Pn) = ⟨o1, o2, o3⟩ ∨ m = 28) ∧ Hid (Fr (fun _ => False) W7 WX))
                case first =>
                  by_cases hwe : we = 0
                  · subst hwe
                    obtain ⟨B1, hB1⟩ : ∃ B1, B1 = eqP ⟨o1 + 1, p2, p3⟩ ⟨e1, e2, e3⟩ := ⟨_, rfl⟩
                    have HB1 : Hid (eqP ⟨o1 + 1, p2, p3⟩ ⟨e1, e2, e3⟩ = B1) := hB1.symm
                    obtain ⟨B2, hB2⟩ : ∃ B2, B2 = eqP ⟨o1, o2, o3⟩ ⟨e1, e2, e3⟩ := ⟨_, rfl⟩
                    have HB2 : Hid (eqP ⟨o1, o2, o3⟩ ⟨e1, e2, e3⟩ = B2) := hB2.symm
                    clear hB1 hB2
                    have HTQ7 : Hid (Tri W7 qb 34 (o1 + 1) p2 p3) := tq7
                    have HTW7 : Hid (Tri W7 Wb 34 o1 o2 o3) := tw7
                    have HTC7 : Hid (Tri W7 cb 40 e1 e2 e3) := tc
                    clear tq7 tw7 tc
                    cases B1 with
                    | true =>
                      go_wp2_with (go_at_call 15; refine (same_any ⟨o1 + 1, p2, p3⟩ ⟨e1, e2, e3⟩ _).mono ?_; rw [HB1.out]; rintro e w7a ⟨rfl, f7a⟩)
                      go_meet
                      exact ⟨false, _, rfl, rfl, (fun _ => .inr (.inl ((eqP_iff _ _).1 HB1.out).symm)), f7a⟩
                    | false =>
                      go_wp2_with fail
                      refine (same_any ⟨o1 + 1, p2, p3⟩ ⟨e1, e2, e3⟩ _).mono ?_
                      rw [HB1.out]
                      rintro e w7a ⟨rfl, f7a⟩
                      clear q0 q1 q2 x0 x1 x2 g0 g1 g2
                      obtain ⟨x0, x1, x2, _, _, _⟩ := (HTW7.out.fr f7a (fun f => f)).cells
                      obtain ⟨g0, g1, g2, _, _, _⟩ := (HTC7.out.fr f7a (fun f => f)).cells
                      cases B2 with
                      | true =>
                        go_wp2_with fail
                        refine (same_any ⟨o1, o2, o3⟩ ⟨e1, e2, e3⟩ _).mono ?_
                        rw [HB2.out]
                        rintro e w7b ⟨rfl, f7b⟩
                        go_wp2
                        go_meet
                        exact ⟨false, _, rfl, rfl, (fun _ => .inr (.inr (.inl ((eqP_iff _ _).1 HB2.out).symm))), f7a.seq' f7b⟩
                      | false =>
                        by_cases hm : m < 28
                        · go_wp2_with fail
                          refine (same_any ⟨o1, o2, o3⟩ ⟨e1, e2, e3⟩ _).mono ?_
                          rw [HB2.out]
                          rintro e w7b ⟨rfl, f7b⟩
                          go_wp2
                          go_meet
                          exact ⟨true, _, congrArg Value.bool (decide_eq_true (by omega)), rfl, (fun h => by cases h), f7a.seq' f7b⟩
                        · go_wp2_with fail
                          refine (same_any ⟨o1, o2, o3⟩ ⟨e1, e2, e3⟩ _).mono ?_
                          rw [HB2.out]
                          rintro e w7b ⟨rfl, f7b⟩
                          go_wp2
                          go_meet
                          exact ⟨false, _, congrArg Value.bool (decide_eq_false (by omega)), rfl, (fun _ => .inr (.inr (.inr (by omega)))), f7a.seq' f7b⟩
                  · have hne : (we == 0) = false := by simpa using hwe
                    have HWE : Hid (we ≠ 0) := hwe
                    clear hwe
                    go_wp2
                    go_meet
                    exact ⟨false, _, rfl, rfl, (fun _ => .inl HWE.out), Fr.refl _ _⟩
                case rest =>
                obtain ⟨B, WX, rfl, rfl, HBF, HFX7⟩ := hcut
                clear q0 q1 q2 x0 x1 x2 g0 g1 g2 tq7 tw7 tc
                cases B with
                | true =>
                  go_wp2_with (go_at_call 9; refine (ptspeaks_any _).mono ?_; rintro e ws ⟨rfl, fs⟩)
                  go_ret
                  exact ⟨rfl, ((HF3.out.seq' HF37.out).seq' HFX7.out).seq' fs⟩
                | false =>
                have HFW : Hid (Fr (fun _ => False) W3 WX) := HF37.out.seq' HFX7.out
                have hbf := HBF.out rfl
                have hdT := HDT.out
                have HSS : Hid (S + 2 ≤ W3.heap.size) := by have := HQB.out; show _ ≤ _; omega
                have RTX := HRT7.out.same HFX7.out
                have hslT : Sl2 WX (S + 2) (.slice a' K.length c') T := ⟨a', c', by rw [HTL.out], RTX, fun b o sp e => by have := HBT.out b o sp e; have := HSS.out; omega⟩
                have hbbX := HBB3.out.fr HFW.out (fun f => f) (fun _ _ f => f)
                obtain ⟨t0, t1, hAt, hbb8⟩ := hbbX.put HAX.out hslT
                obtain ⟨⟨⟨r1, r2, r3⟩, rs, re⟩, hch⟩ : ∃ c, c = chs t0 t1 := ⟨_, rfl⟩
                have HCH : Hid (chs t0 t1 = (⟨r1, r2, r3⟩, rs, re)) := hch.symm
                have HTORN : Hid (m ≠ 28 → TornOk ⟨o1, o2, o3⟩ ⟨o1 + 1, p2, p3⟩ (⟨r1, r2, r3⟩, rs, re)) := fun hm => by
                  rw [hch]
                  refine HI.out.torn HSLE.out rfl hAt (fun h => by have := HKE.out h; have := HTL.out; omega) ?_
                  rw [hdT]
                  rcases hbf with h | h | h | h
                  · exact .inl h
                  · exact .inr (.inl h)
                  · exact .inr (.inr h)
                  · exact absurd h hm
                have HFULL : Hid (m = 28 → (⟨r1, r2, r3⟩ : Pn) = ⟨o1 + 1, p2, p3⟩ ∧ re = 0 ∧ Inv t0 t1 ⟨o1 + 1, p2, p3⟩ at_ 0) := fun hm => by
                  have hTf : T = pf ⟨o1 + 1, p2, p3⟩ := by rw [HTM.out, hm]; exact mix_full HPL.out hK
                  rw [hTf] at hAt
                  have hv : Inv t0 t1 ⟨o1 + 1, p2, p3⟩ at_ 0 := HI.out.full HSLE.out hq rfl hAt
                  have := hv.ch
                  rw [← hch] at this
                  simp only [Prod.mk.injEq] at this
                  exact ⟨this.1, this.2.2, hv⟩
                obtain ⟨zv0, zv1, zbs, _, _⟩ := hbbX
                have hcxX : (WX.cell? ⟨S, at_, none⟩).isSome = true := by
                  have := cell_of_two zbs
                  rcases HAX.out with ⟨rfl, _⟩ | ⟨rfl, _⟩
                  · rw [this.1]; rfl
                  · rw [this.2.1]; rfl
                have hfxX : WX.frozen? ⟨S, at_, none⟩ = false := by
                  have := cell_of_two zbs
                  rcases HAX.out with ⟨rfl, _⟩ | ⟨rfl, _⟩
                  · exact this.2.2.1
                  · exact this.2.2.2
                obtain ⟨zz, hzz⟩ := Option.isSome_iff_exists.1 hcxX
                have fS : Fr (fun i => i = S) WX (WX.setCell ⟨S, at_, none⟩ (.slice a' K.length c')) := Fr.set _ _ _
                have HF38 : Hid (Fr (fun i => i = S) W3 (WX.setCell ⟨S, at_, none⟩ (.slice a' K.length c'))) := (HFW.out.mono (fun i _ f => f.elim) : Fr (fun i => i = S) W3 WX).trans fS (fun i _ e => e)
                have HBB8 : Hid (Box2 (WX.setCell ⟨S, at_, none⟩ (.slice a' K.length c')) S t0 t1) := hbb8
                clear hch hdT hbf HBF HDT HTM HFX7 HF37 HRT7 HKE HKO HKL HDP HPO RTX hslT zbs hcxX hAt hbb8 fS hcx hfx
                go_upto_region 25 with fail
                generalize WX.setCell ⟨S, at_, none⟩ (.slice a' K.length c') = W8 at HF38 HBB8 ⊢
                clear hzz hfxX
                have hbb8 := HBB8.out
                obtain ⟨_, _, bs8, ⟨ax8, cx8, rfl, rx8, _⟩, ⟨ay8, cy8, rfl, ry8, _⟩⟩ := hbb8
                obtain ⟨z0, z1, _, _⟩ := cell_of_two bs8
                go_wp2_with fail
                refine (choose_any _ _ _ _ _ _ t0 t1 rfl rfl _ rx8 ry8).mono ?_
                rw [HCH.out]
                rintro e w9 ⟨rfl, f9⟩
                obtain ⟨rb_, W10, hW10, hrb10, tr, f10⟩ := put3 w9 34 r1 r2 r3
                have HW10 : Hid (w9.alloc (.cells #[.int .i64 r1, .int .i64 r2, .int .i64 r3] 34) = W10) := hW10
                have HR10 : Hid (w9.heap.size = rb_) := hrb10
                have F310 : Fr (fun i => i = S) W3 W10 := HF38.out.trans (f9.seq' f10) (fun i _ f => f.elim)
                have tq10 := HTQ3.out.fr F310 (fun h => by have := HQB.out; omega)
                have tw10 := HTW3.out.fr F310 (fun h => by have := HB'.out; omega)
                have HBB10 : Hid (Box2 W10 S t0 t1) := HBB8.out.fr (f9.seq' f10) (fun f => f) (fun _ _ f => f)
                have HFW10 : Hid (Fr (fun _ => False) w W10) := HF3.out.trans F310 (fun i hi e => by have := HSW.out; omega)
                clear hW10 hrb10 f9 f10 F310 z0 z1 bs8 rx8 ry8 HBB8
                go_upto_region 26 with fail
                rw [HW10.out, HR10.out]
                obtain ⟨q0, q1, q2, _, _, _⟩ := tq10.cells
                obtain ⟨x0, x1, x2, xf0, xf1, xf2⟩ := tw10.cells
                obtain ⟨g0, g1, g2, _, _, _⟩ := tr.cells
                have HTW10 : Hid (Tri W10 Wb 34 o1 o2 o3) := tw10
                clear tq10 tw10 tr
                by_cases hm28 : m = 28
                · obtain ⟨hrq, hre, hinv⟩ := HFULL.out hm28
                  simp only [Pn.mk.injEq] at hrq
                  obtain ⟨h1, h2, h3⟩ := hrq
                  have h1' := h1.symm
                  have h2' := h2.symm
                  have h3' := h3.symm
                  clear h1 h2 h3
                  subst h1' h2' h3'
                  subst hre
                  subst hm28
                  have HINV : Hid (Inv t0 t1 ⟨o1 + 1, p2, p3⟩ at_ 0) := hinv
                  have hnq := neq_pt (o1 + 1) p2 p3 (o1 + 1) p2 p3 W10
                  rw [dec_self] at hnq
                  clear hinv HFULL HTORN HCH
                  go_wp2
                  obtain ⟨tf, ff⟩ := HTW10.out.fin (o1 + 1) p2 p3
                  have hbF := HBB10.out.fr ff (fun h => by have := HB'.out; omega) (fun k hk h => by have := HB'.out; omega)
                  have fF : Fr (fun _ => False) w _ := HFW10.out.trans ff (fun i hi e => by have := HSW.out; have := HB'.out; omega)
                  go_roundw
                  case rel => exact ⟨k + 1, t0, t1, ⟨o1 + 1, p2, p3⟩, at_, 0, by omega, by go_num, hbF, tf, HINV.out, fF⟩
                  case measure => simp [intOf]; omega
                · have htorn := HTORN.out hm28
                  have hne28 : ((m : Int) == 28) = false := beq_eq_false_iff_ne.2 (by omega)
                  clear HFULL HTORN hm28
                  by_cases ho : o1 = 0
                  · have hre : re ≠ 0 := htorn.zero ho
                    subst ho
                    have hre2 : (re != 0) = true := by simpa using hre
                    clear htorn hre
                    go_wp2_with (go_at_call 9; refine (ptspeaks_any _).mono ?_; rintro e ws ⟨rfl, fs⟩)
                    go_ret
                    exact ⟨rfl, HFW10.out.seq' fs⟩
                  · obtain ⟨hre, hrr⟩ := htorn.some ho
                    simp only at hre
                    subst hre
                    have ho2 : (o1 == 0) = false := by simpa using ho
                    clear htorn ho
                    rcases hrr with h | h
                    · simp only [Pn.mk.injEq] at h
                      obtain ⟨h1, h2, h3⟩ := h
                      have h1' := h1.symm
                      have h2' := h2.symm
                      have h3' := h3.symm
                      clear h1 h2 h3
                      subst h1' h2' h3'
                      go_wp2_with (go_at_call 9; refine (ptspeaks_any _).mono ?_; rintro e ws ⟨rfl, fs⟩)
                      go_ret
                      exact ⟨rfl, HFW10.out.seq' fs⟩
                    · simp only [Pn.mk.injEq] at h
                      obtain ⟨h1, h2, h3⟩ := h
                      have h1' := h1.symm
                      have h2' := h2.symm
                      have h3' := h3.symm
                      clear h1 h2 h3
                      subst h1' h2' h3'
                      have hno : ¬ (o1 + 1 = o1) := by omega
                      go_wp2_with (go_at_call 9; refine (ptspeaks_any _).mono ?_; rintro e ws ⟨rfl, fs⟩)
                      go_ret
                      exact ⟨rfl, HFW10.out.seq' fs⟩
      · have hne : nxE ⟨o1 + 1, p2, p3⟩ (slotOf A ce) = (⟨0, 0, 0⟩, 0, [], 1) := if_neg hq
        rw [hne] at m2 ⊢
        obtain ⟨av, cv, rfl, _⟩ := m2.own.row (fun x hx => absurd hx (by simp)) (by simp)
        obtain ⟨qb, W3, hW3, hqb, tq, fq⟩ := put3 w2 34 0 0 0
        have HW3 : Hid (w2.alloc (.cells #[.int .i64 0, .int .i64 0, .int .i64 0] 34) = W3) := hW3
        have HQ3 : Hid (w2.heap.size = qb) := hqb
        have HBB3 : Hid (Box2 W3 S s0 s1) := HBB2.out.fr fq (fun f => f) (fun _ _ f => f)
        have tw3 := tw2.fr fq (fun f => f)
        have HF3 : Hid (Fr (fun _ => False) w W3) := HF2.out.seq' fq
        clear hW3 hqb fq tw2 HF2 hne hq m2 HBB2
        go_upto_region 7 with fail
        rw [HW3.out, HQ3.out]
        go_wp2
        go_roundw
        case rel => exact ⟨k + 1, s0, s1, ⟨o1, o2, o3⟩, A, ce, by omega, by go_num, HBB3.out, tw3, HI.out, HF3.out⟩
        case measure => simp [intOf]; omega
    · have hkn : k = len0 := by omega
      clear hkn
      go_wp2_with (go_at_call 9; refine (ptspeaks_any _).mono ?_; rintro e w7 ⟨rfl, f7⟩)
      go_ret
      exact ⟨rfl, HF.out.seq' f7⟩

set_option maxRecDepth 100000 in
theorem lifted (os : Os) (started : os.Started) (H : Type) (enc : TypeId × Value → H) :
    ReturnsInHanded {} Try.checked os 6 .any (Rows.pointsTornSpec.pre6 enc Try.prog Try.f6 Rows.pointsTornRow.domain false) (Rows.pointsTornSpec.post enc Try.prog Try.f6 false true false false) := by
  refine returnsInHanded_of_change_sized (C := Try.checked) own started (by kernel_rfl) Try.func6
    (ChangeSpec.witness6 (enc := enc) (C := Try.checked) false ⟨#[], #[.slice none 0 0, .int .i64 0], []⟩ 8 (by kernel_rfl) (by kernel_rfl) (by kernel_rfl) (by kernel_rfl)) ?_
  intro W base args ds gs before hval0 hW hcnd hsz0 _
  have hsz : (DataW.weightsEach Try.prog (Try.f6.params.toList ++ Rows.pointsTornSpec.plain.varTypes Try.prog) (ds ++ gs)).all (· ≤ reachBytes) = true := hsz0
  clear hsz0
  have hval : ∀ (j : Nat) t v, Try.f6.params[j]? = some t → args[j]? = some v → Value.okWide Try.prog W .any base t v := hval0
  have hW' := hW
  obtain ⟨p, q, hA0, hV, rfl, hfz, hnd⟩ := hW
  have hA : DataW.TrodAll enc Try.prog W 0 (fun _ => true) true Try.f6.params.toList args.toList ds p := hA0
  rw [Try.params6] at hA hval hsz
  obtain ⟨v0, vs0, d0, ds0, p0, q0, hargs, rfl, rfl, h0, r0⟩ := trodAll_cons hA
  obtain ⟨v1, vs1, d1, ds1, p1, q1, rfl, rfl, rfl, h1, r1⟩ := trodAll_cons r0
  obtain ⟨rfl, rfl, rfl⟩ := trodAll_nil r1
  obtain rfl : args = #[v0, v1] := by cases args; simp_all
  obtain ⟨rfl, rfl⟩ := trodVars_none hV
  obtain ⟨a0, len0, cap0, rfl⟩ := okWide_slice Try.underlying57 (hval 0 57 v0 rfl rfl)
  have k0 := h0
  have lt0 : ∀ x ∈ p0, x.block < W.heap.size := by obtain ⟨m, hm⟩ := k0; exact DataW.trod_lt m _ _ _ hm
  have wz0 : ∀ z ∈ d0.weights Try.prog 57, z ≤ reachBytes := fun z hz => by simpa using List.all_eq_true.1 hsz z (DataW.weights_mem_each (j := 0) rfl rfl z hz)
  obtain ⟨ls0, hl0, z0, hr0⟩ : ∃ ls : List Pn, len0 = ls.length ∧ ls.length ≤ 8796093021952 ∧ Pts W a0 cap0 ls := by
    obtain ⟨fuel, hf⟩ := h0
    exact pts_open hf wz0
  obtain ⟨a1, rfl, rfl, rfl, w1⟩ := open_int Try.underlying3 (hval 1 3 v1 rfl rfl) h1
  clear hA0 hval0
  refine (walk W a0 len0 cap0 ls0 hl0 z0 hr0 a1 w1).mono fun e W' ⟨he, fr⟩ => ?_
  have bel : Below W.heap.size W W' := fr.below (Nat.le_refl _) (fun _ f => f.elim)
  subst he
  exact ⟨_, rfl, _, _, _, [], _, [], hW', trodAll_mk1 (shut_bool Try.underlying4 _), (trodAll_cons_mk (Below.trod laidOut (by kernel_rfl) (of_decide_eq_true (by kernel_rfl)) k0 bel lt0) (trodAll_cons_mk (shut_int Try.underlying3 w1) trodAll_mk0)), rfl, bel.frame _, fun h => by cases h⟩

theorem proved : Rows.PointsTornSaid :=
  OpenClaim.holds_of_wide 6 Try.f6 rfl rfl rfl rfl rfl rfl rfl ⟨rfl, rfl, rfl, rfl, rfl⟩ rfl rfl rfl rfl rfl (by kernel_rfl) Try.func6 (by kernel_rfl)
    (of_decide_eq_true (by kernel_rfl)) (by unfold Func.isWrapper; first | (rw [if_pos (by decide +kernel)]; kernel_rfl) | (rw [if_neg (by decide +kernel)]; exact ⟨rfl, rfl⟩))
    (fun os started H enc _ => lifted os started H enc)
end Go.Proofs.Ytjhbhjakbcplgaa.pointsTorn
namespace Go.Proofs.Ytjhbhjakbcplgaa
theorem pointsTorn_holds : Rows.PointsTornSaid := pointsTorn.proved
#print axioms pointsTorn_holds
end Go.Proofs.Ytjhbhjakbcplgaa
