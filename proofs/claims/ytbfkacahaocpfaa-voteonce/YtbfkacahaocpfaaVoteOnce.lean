
/- Of any steps, a voter that comes back with its promise as it was written every third step votes for one node at most in one epoch, and its epoch never falls, and the example speaks; with no condition but those of the statement's own form. -/
import Derived.Test.YtbfkacahaocpfaaArgs
import Derived.Test.YtbfkacahaocpfaaVgBase
import Derived.Deep.RegionHeld3
import Derived.Deep.RegionWith
import Derived.Deep.CutBlock
namespace Go.Proofs.Ytbfkacahaocpfaa.voteOnce
open Go.ChangeShapes Go.WideShapes Go.ChangeAt Go.RowKit
open Go.ChangeMaps (open_string shut_string)
set_option linter.unusedVariables false

theorem own : ownKnob Try.prog.godebug = none := by kernel_rfl
theorem laidOut : laidOutB Try.prog = true := by kernel_rfl
theorem bytes8 : Try.prog.bytesOf 5 = 1 := by kernel_rfl

open Go.RowKit Crcm
open Go.Proofs.Ytbfkacahaocpfaa.Crcm
set_option maxRecDepth 100000 in
set_option maxHeartbeats 32000000 in
theorem walk (w : World) (a1 : Option Addr) (len1 cap1 : Nat) (rs : List (List Int)) (hl1 : len1 = rs.length) (hb1 : rs.length * (8 * 7) ≤ 140737488351232) (hr1 : Rws w a1 cap1 7 rs) :
    Calls Try.prog 5 #[.slice a1 len1 cap1] w fun e w' => e = .returned (.bool true) ∧ Fr (fun _ => False) w w' := by
  have HSP : Hid (∀ W, Calls Try.prog 14 #[] W fun e w' => e = .returned (.bool true) ∧ Fr (fun _ => False) W w') := vtspk_any
  have hle := hr1.le
  have hmx := hr1.max
  rw [← hl1] at hle hb1
  have hlen : len1 ≤ 2513169434843 := by omega
  have HS : Hid (∀ W, Fr (fun _ => False) w W → Rws W a1 cap1 7 rs) := fun W f => hr1.same f
  have HL : Hid (len1 = rs.length) := hl1
  have HFIT : Hid (∀ r ∈ rs, r.length = 7) := fun r h => (hr1.fit r h).1
  have hnew := vnew_yes 0 (-1) (by decide) w
  clear hl1 hr1
  go_enter Try.func5, Try.ntmps5
  go_wp2_with fail
  refine hnew.mono ?_
  rintro r w1 ⟨vb0, rfl, hvb, hvt, f1⟩
  have HVB0 : Hid (w.heap.size ≤ vb0) := hvb
  have HV0 : Hid (Vt w1 vb0 0 (-1)) := hvt
  have HF0 : Hid (Fr (fun _ => False) w w1) := f1
  clear hvb hvt f1 hnew
  go_wp2
  go_loopw [3, 5, 34] (fun p gv i wr => ∃ (k vb : Nat) (e f : Int) (gs : List (Int × Int)), k ≤ len1 ∧ gs.length ≤ k ∧ i = .int .i64 k ∧ p = .pointer (some ⟨vb, 0, none⟩) ∧ Hid (w.heap.size ≤ vb) ∧ Hid (rgtB e f = true) ∧ Hid (GvI gs e f) ∧ Hid (Vt wr vb e f) ∧ Hid (Gv wr w.heap.size vb gv gs) ∧ Hid (Fr (fun _ => False) w wr)) (fun _ _ i _ => len1 - (intOf i).toNat)
  case atStart => exact ⟨0, vb0, 0, -1, [], by omega, by simp, rfl, rfl, HVB0, (show rgtB 0 (-1) = true by decide), (fun g hg => by cases hg), HV0, Gv.nil _ _ _, HF0⟩
  case round =>
    obtain ⟨k, vb, e, f, gs, hk, hgk, rfl, rfl, HVB, HRG, HGI, HV, HGV, HFW⟩ := hrel
    by_cases hlt : k < len1
    · obtain ⟨row, hrow⟩ : ∃ r, rs[k]? = some r := ⟨_, List.getElem?_eq_getElem (by have := HL.out; omega)⟩
      have hl7 := HFIT.out row (List.mem_of_getElem? hrow)
      obtain ⟨b, off, rfl, hb, hc⟩ := (HS.out _ HFW.out).some (by have := HL.out; omega)
      obtain ⟨ga, gc, rfl, hg1, hg2⟩ := HGV.out.has.slice
      match row, hl7 with
      | [kd, frm, ep, x, y, u, v], _ =>
      have c0 := hc k _ hrow 0 _ rfl
      have c1 := hc k _ hrow 1 _ rfl
      have c2 := hc k _ hrow 2 _ rfl
      have c3 := hc k _ hrow 3 _ rfl
      have c4 := hc k _ hrow 4 _ rfl
      have c5 := hc k _ hrow 5 _ rfl
      have c6 := hc k _ hrow 6 _ rfl
      rw [Nat.add_zero] at c0
      obtain ⟨W1, hW1⟩ : ∃ W, W = wr.alloc (.cells (stC kd frm ep x y u v) 50) := ⟨_, rfl⟩
      obtain ⟨sb, hsb⟩ : ∃ sb, sb = wr.heap.size := ⟨_, rfl⟩
      have B1 := Blk.new wr (stC kd frm ep x y u v) 50
      have G := Fr.box wr (.cells (stC kd frm ep x y u v) 50)
      rw [← hW1] at B1 G
      rw [← hsb] at B1
      have HNS : Hid (vb ≠ sb) := by
        have h1 := Two.lt HV.out
        show _ ≠ _; omega
      have HSBN : Hid (w.heap.size ≤ sb) := by have := HFW.out.size; show _ ≤ _; omega
      have HB1 : Hid (Blk W1 sb (stC kd frm ep x y u v) 50) := B1
      have HV1 : Hid (Vt W1 vb e f) := Two.fr HV.out G (fun f => f)
      have HGV1 : Hid (Gv W1 w.heap.size vb (.slice ga gs.length gc) gs) := HGV.out.same G
      have HF1 : Hid (Fr (fun _ => False) w W1) := HFW.out.seq' G
      have HW1 : Hid (wr.alloc (.cells #[.int .i64 kd, .int .i64 frm, .int .i64 ep, .int .i64 x, .int .i64 y, .int .i64 u, .int .i64 v] 50) = W1) := hW1.symm
      have HSB : Hid (wr.heap.size = sb) := hsb.symm
      clear hrow hc B1 G hW1 hsb hl7 HV HGV HFW
      go_upto_region 8 with fail
      rw [HW1.out, HSB.out]
      clear c0 c1 c2 c3 c4 c5 c6 HW1 HSB
      have i0 := run_ep e f
      go_wp2_with fail
      refine (prom_any vb e f _ HV1.out).mono ?_
      rintro r w2 ⟨rfl, f2⟩
      have HB2 : Hid (Blk w2 sb (stC kd frm ep x y u v) 50) := HB1.out.fr f2 (fun f => f)
      have HV2 : Hid (Vt w2 vb e f) := Two.fr HV1.out f2 (fun f => f)
      have HGV2 : Hid (Gv w2 w.heap.size vb (.slice ga gs.length gc) gs) := HGV1.out.same f2
      have HF2 : Hid (Fr (fun _ => False) w w2) := HF1.out.seq' f2
      have j0 : w2.cell? ⟨sb, 0, none⟩ = some (.int .i64 kd) := HB2.out.cell (j := 0) rfl
      obtain ⟨j1, j2, j3, j4, j5, j6⟩ := HB2.out.six
      clear f2 HB1 HV1 HGV1 HF1
      go_upto_block 2 with fail
      go_cut [9] (fun vt wc => ∃ (e' f' : Int) (bb : Bool), vt = .bool bb ∧ e ≤ e' ∧ Hid (rgtB e' f' = true) ∧ Hid (GvI gs e' f') ∧ Hid (bb = true → f' = frm ∧ 0 ≤ frm) ∧ Hid (Vt wc vb e' f') ∧ Hid (Gv wc w.heap.size vb (.slice ga gs.length gc) gs) ∧ Hid (Blk wc sb (stC kd frm ep x y u v) 50) ∧ Hid (Fr (fun _ => False) w wc))
      case first =>
        by_cases g0 : kd = 0
        · subst g0
          go_wp2_with fail
          refine (ask_any vb e f frm ep x y u v _ HV2.out).mono ?_
          rintro r w3 ⟨rfl, hv3, f3⟩
          obtain ⟨a1', a2', a3'⟩ := GvI.ask (gs := gs) (frm := frm) (ep := ep) (a := (x, y)) (b := (u, v)) HGI.out
          go_wp2
          go_meet
          exact ⟨_, _, _, rfl, a2', ask_right HRG.out, a1', a3', hv3, HGV2.out.vot f3, HB2.out.fr f3 (fun e => HNS.out e.symm), HF2.out.trans f3 (fun i hi e => by have := HVB.out; omega)⟩
        · have g0' : (kd == 0) = false := by simpa using g0
          by_cases g1 : kd = 1
          · subst g1
            go_wp2_with fail
            refine (ask_any vb e f frm ep x y u v _ HV2.out).mono ?_
            rintro r w3 ⟨rfl, hv3, f3⟩
            obtain ⟨a1', a2', a3'⟩ := GvI.ask (gs := gs) (frm := frm) (ep := ep) (a := (x, y)) (b := (u, v)) HGI.out
            go_wp2
            go_meet
            exact ⟨_, _, _, rfl, a2', ask_right HRG.out, a1', a3', hv3, HGV2.out.vot f3, HB2.out.fr f3 (fun e => HNS.out e.symm), HF2.out.trans f3 (fun i hi e => by have := HVB.out; omega)⟩
          · have g1' : (kd == 1) = false := by simpa using g1
            by_cases g2 : kd = 2
            · subst g2
              go_wp2_with fail
              refine (see_any vb e f ep _ HV2.out).mono ?_
              rintro r w3 ⟨rfl, hv3, f3⟩
              obtain ⟨a1', a2'⟩ := GvI.see (gs := gs) (ep := ep) HGI.out
              go_wp2
              go_meet
              exact ⟨_, _, false, rfl, a2', see_right HRG.out, a1', (fun h => by cases h), hv3, HGV2.out.vot f3, HB2.out.fr f3 (fun e => HNS.out e.symm), HF2.out.trans f3 (fun i hi e => by have := HVB.out; omega)⟩
            · have g2' : (kd == 2) = false := by simpa using g2
              go_wp2_with fail
              refine (stand_any vb e f frm _ HV2.out HRG.out).mono ?_
              rintro r w3 ⟨rfl, hv3, f3⟩
              obtain ⟨a1', a2', a3'⟩ := GvI.stand (gs := gs) (me := frm) HGI.out
              generalize stN e frm = sn at *
              go_wp2
              go_meet
              exact ⟨_, _, _, rfl, a2', stand_right HRG.out, a1', a3', hv3, HGV2.out.vot f3, HB2.out.fr f3 (fun e => HNS.out e.symm), HF2.out.trans f3 (fun i hi e => by have := HVB.out; omega)⟩
      case rest =>
        obtain ⟨e', f', bb, rfl, hee, HRG3, HGI3, HBB, HV3, HGV3, HB3, HF3⟩ := hcut
        clear HV2 HGV2 HB2 HF2 j0 j1 j2 j3 j4 j5 j6
        go_wp2_with fail
        refine (prom_any vb e' f' _ HV3.out).mono ?_
        rintro r w4 ⟨rfl, f4⟩
        obtain ⟨W5, hW5⟩ : ∃ W, W = w4.alloc (.cells #[.int .i64 e', .int .i64 f'] 23) := ⟨_, rfl⟩
        obtain ⟨pb, hpb⟩ : ∃ pb, pb = w4.heap.size := ⟨_, rfl⟩
        have g4 := Fr.box w4 (.cells #[.int .i64 e', .int .i64 f'] 23)
        have tp := Two.new w4 23 (.int .i64 e') (.int .i64 f')
        rw [← hW5] at g4 tp
        rw [← hpb] at tp
        have F45 := f4.seq' g4
        have HW5 : Hid (w4.alloc (.cells #[.int .i64 e', .int .i64 f'] 23) = W5) := hW5.symm
        have HPB : Hid (w4.heap.size = pb) := hpb.symm
        have HNP : Hid (w.heap.size ≤ pb ∧ vb ≠ pb) := by
          have h1 := Two.lt HV3.out
          have h2 := f4.size
          have h3 := HF3.out.size
          exact ⟨by omega, by omega⟩
        have HT5 : Hid (Two W5 pb 23 (.int .i64 e') (.int .i64 f')) := tp
        have HV5 : Hid (Vt W5 vb e' f') := Two.fr HV3.out F45 (fun f => f)
        have HGV5 : Hid (Gv W5 w.heap.size vb (.slice ga gs.length gc) gs) := HGV3.out.same F45
        have HGP : Hid (∀ i, (Value.slice ga gs.length gc).ownBlock = some i → i ≠ pb) := fun i hi => by
          have h1 := HGV3.out.has.lt hi
          have h2 := f4.size
          omega
        have HB5 : Hid (Blk W5 sb (stC kd frm ep x y u v) 50) := HB3.out.fr F45 (fun f => f)
        have HF5 : Hid (Fr (fun _ => False) w W5) := HF3.out.seq' F45
        clear hW5 hpb g4 tp F45 f4 HV3 HGV3 HB3 HF3
        go_upto_region 19 with fail
        rw [HW5.out, HPB.out]
        obtain ⟨p0, p1, _⟩ := HT5.out.cells
        have hee' : decide (e' < e) = false := by simp; omega
        go_upto_if 78 with fail
        clear HW5 HPB
        go_cut [5] (fun gv wc => ∃ (ga' : Option Addr) (gc' : Nat) (gs' : List (Int × Int)), gv = .slice ga' gs'.length gc' ∧ gs'.length ≤ k + 1 ∧ Hid (GvI gs' e' f') ∧ Hid (Vt wc vb e' f') ∧ Hid (Gv wc w.heap.size vb (.slice ga' gs'.length gc') gs') ∧ Hid (Two wc pb 23 (.int .i64 e') (.int .i64 f')) ∧ Hid (Fr (fun _ => False) w wc))
        case first =>
          cases bb with
          | false =>
            go_wp2
            go_meet
            exact ⟨ga, gc, gs, rfl, by omega, HGI3, HV5, HGV5, HT5, HF5⟩
          | true =>
            obtain ⟨hff, hfr0⟩ := HBB.out rfl
            have j1 := HB5.out.six.1
            subst hff
            go_wp2
            go_loopw [86] (fun i w6 => ∃ m : Nat, m ≤ gs.length ∧ i = .int .i64 m ∧ Hid (Fr (fun _ => False) W5 w6)) (fun i _ => gs.length - (intOf i).toNat)
            case atStart => exact ⟨0, by omega, rfl, Fr.refl _ _⟩
            case round =>
              obtain ⟨m, hm, rfl, HF6⟩ := hrel
              by_cases hlm : m < gs.length
              · obtain ⟨g, hg⟩ : ∃ g, gs[m]? = some g := ⟨_, List.getElem?_eq_getElem hlm⟩
                obtain ⟨gg, cap, hv, hgb, _, _, _, hra⟩ := (HGV5.out.same HF6.out).has.form (by omega)
                simp only [Value.slice.injEq, true_and] at hv
                obtain ⟨rfl, rfl⟩ := hv
                have hat := gv_at hra hg
                rw [Nat.zero_add] at hat
                obtain ⟨g1, g2⟩ := g
                obtain ⟨n1, n2, n3⟩ := HGI3.out (g1, g2) (List.mem_of_getElem? hg)
                simp only at n1 n2 n3
                have k0 : wr.cell? ⟨gg, m * 3, none⟩ = some (.int .i64 g1) := by have := hat 0 _ rfl; rwa [Nat.add_zero] at this
                have k1 : wr.cell? ⟨gg, m * 3 + 1, none⟩ = some (.int .i64 0) := hat 1 _ rfl
                have k2 : wr.cell? ⟨gg, m * 3 + 2, none⟩ = some (.int .i64 g2) := hat 2 _ rfl
                obtain ⟨W7, hW7⟩ : ∃ W, W = wr.alloc (.cells #[.int .i64 g1, .int .i64 0, .int .i64 g2] 61) := ⟨_, rfl⟩
                obtain ⟨cb, hcb⟩ : ∃ cb, cb = wr.heap.size := ⟨_, rfl⟩
                have f7 := Fr.box wr (.cells #[.int .i64 g1, .int .i64 0, .int .i64 g2] 61)
                have B7 := Blk.new wr #[.int .i64 g1, .int .i64 0, .int .i64 g2] 61
                rw [← hW7] at f7 B7
                rw [← hcb] at B7
                have HF7 : Hid (Fr (fun _ => False) W5 W7) := HF6.out.seq' f7
                have l0 : W7.cell? ⟨cb, 0, none⟩ = some (.int .i64 g1) := B7.cell rfl
                have l2 : W7.cell? ⟨cb, 2, none⟩ = some (.int .i64 g2) := B7.cell rfl
                have HW7 : Hid (wr.alloc (.cells #[.int .i64 g1, .int .i64 0, .int .i64 g2] 61) = W7) := hW7.symm
                have HCB : Hid (wr.heap.size = cb) := hcb.symm
                clear hW7 hcb f7 B7 hat hra hg
                go_upto_region 27 with fail
                rw [HW7.out, HCB.out]
                clear k0 k1 k2 HW7 HCB
                obtain ⟨p0', p1', _⟩ := (HT5.out.fr HF7.out (fun f => f)).cells
                by_cases hge : g1 = e'
                · have hg2 := n3 hge
                  subst hge hg2
                  go_wp2
                  refine ⟨⟨m + 1, by omega, by simp, HF7⟩, by simp [intOf]; omega⟩
                · have hge' : (g1 == e') = false := by simpa using hge
                  go_wp2
                  refine ⟨⟨m + 1, by omega, by simp, HF7⟩, by simp [intOf]; omega⟩
              · have hmn : m = gs.length := by omega
                obtain ⟨i0', hi, hz0, hz1, hz2⟩ := info_parts infoG
                have HGV6 := HGV5.out.same HF6.out
                obtain ⟨p0', p1', _⟩ := (HT5.out.fr HF6.out (fun f => f)).cells
                have fA := Fr.box wr (.cells #[.int .i64 e', .int .i64 0, .int .i64 f'] 61)
                have HGV7 := HGV6.same fA
                have hfrom : From (wr.alloc (.cells #[.int .i64 e', .int .i64 0, .int .i64 f'] 61)) (some ⟨wr.heap.size, 0, none⟩) (gvC (e', f')) := .inr ⟨wr.heap.size, 0, rfl, range_block (heap_alloc_new wr _) (fun j v hv => by rw [Nat.zero_add]; simpa [gvC] using hv)⟩
                have HFA : Hid (Fr (fun _ => False) W5 (wr.alloc (.cells #[.int .i64 e', .int .i64 0, .int .i64 f'] 61))) := HF6.out.seq' fA
                have HGV7' : Hid (Gv (wr.alloc (.cells #[.int .i64 e', .int .i64 0, .int .i64 f'] 61)) w.heap.size vb (.slice ga gs.length gc) gs) := HGV7
                clear HGV6 HGV7 fA
                go_wp2_with (at_builtin; refine wpList_append_has _ rfl _ _ 59 59 61 61 rfl i0' _ 3 24 Try.underlying59 Try.underlying59 hi hz0 hz1 hz2 rfl (by omega) (.slice ga gs.length gc) gs.length (gs.flatMap gvC) rfl HGV7'.out.has (some ⟨wr.heap.size, 0, none⟩) 1 1 (gvC (e', f')) rfl rfl hfrom (by intro u hu; simp only [gvC, List.mem_cons, List.not_mem_nil, or_false] at hu; rcases hu with h | h | h <;> (subst h; rfl)) (by unfold maxLen; omega) (by omega) ?_; intro am cm w8 hown hfr hat)
                go_meet
                have FA := HF5.out.seq' HFA.out
                have hGS : (gs ++ [(e', f')]).length = gs.length + 1 := by simp
                have hFM : (gs ++ [(e', f')]).flatMap gvC = gs.flatMap gvC ++ gvC (e', f') := by simp
                have hne8 : ∀ i, (Value.slice ga gs.length gc).ownBlock = some i → w.heap.size ≤ i ∧ i ≠ vb := HGV7'.out.off
                have hvl := Two.lt HV5.out
                have hpl := Two.lt HT5.out
                have hsl := HFA.out.size
                have HOF : ∀ i, (Value.slice ga gs.length gc).ownBlock = some i → i ≠ pb := fun i hi => HGP.out i hi
                refine ⟨am, cm, gs ++ [(e', f')], by rw [hGS], by rw [hGS]; omega, ?_, ?_, ?_, ?_, ?_⟩
                · intro g hg
                  rcases List.mem_append.1 hg with hg | hg
                  · exact HGI3.out g hg
                  · simp at hg
                    subst hg
                    exact ⟨hfr0, by simp, fun _ => rfl⟩
                · exact Two.fr (Two.fr HV5.out HFA.out (fun f => f)) hfr (fun e => (hne8 _ e.1).2 rfl)
                · refine ⟨?_, ?_⟩
                  · rw [hGS, hFM]; exact hown
                  · intro i hi
                    rw [hGS] at hi
                    rw [hi] at hat
                    rcases hat with e | e
                    · exact hne8 i e.symm
                    · simp at e
                      have := HF5.out.size
                      have := HF6.out.size
                      omega
                · exact (HT5.out.fr HFA.out (fun f => f)).fr hfr (fun e => HOF _ e.1 rfl)
                · exact FA.trans hfr (fun i hi e => by have := (hne8 _ e.1).1; omega)
        case rest =>
          obtain ⟨ga', gc', gs', rfl, hgl, HGI6, HV6, HGV6, HT6, HF6⟩ := hcut
          clear HV5 HGV5 HB5 HF5 HT5 HGP p0 p1 hee'
          by_cases h3 : k % 3 = 2
          · have e3 : (k : Int) % 3 = 2 := by omega
            have e4 : (k : Int).tmod 3 = 2 := by rw [Int.tmod_eq_emod_of_nonneg (by omega)]; exact e3
            obtain ⟨p0, p1, _⟩ := HT6.out.cells
            go_wp2_with fail
            refine (encode_vyes e' f' HRG3.out _).mono ?_
            rintro r w7 ⟨v7, rfl, m7⟩
            obtain ⟨a7, c7, rfl, r7⟩ := m7.own.row (prF_octs e' f') (by rw [prF_length]; omega)
            have F7 := m7.fr
            have hdec := decode_any a7 _ c7 (prF e' f') rfl _ r7
            rw [decV_prF e' f' HRG3.out] at hdec
            clear p0 p1 m7 r7
            generalize (prF e' f').length = pl at *
            go_wp2_with fail
            refine hdec.mono ?_
            rintro r w8 ⟨rfl, f8⟩
            obtain ⟨W9, hW9⟩ : ∃ W, W = w8.alloc (.cells #[.int .i64 e', .int .i64 f'] 23) := ⟨_, rfl⟩
            obtain ⟨qb, hqb⟩ : ∃ qb, qb = w8.heap.size := ⟨_, rfl⟩
            have g9 := Fr.box w8 (.cells #[.int .i64 e', .int .i64 f'] 23)
            have t9 := Two.new w8 23 (.int .i64 e') (.int .i64 f')
            rw [← hW9] at g9 t9
            rw [← hqb] at t9
            have F9 := (F7.seq' f8).seq' g9
            have HW9 : Hid (w8.alloc (.cells #[.int .i64 e', .int .i64 f'] 23) = W9) := hW9.symm
            have HQB : Hid (w8.heap.size = qb) := hqb.symm
            clear hdec f8 F7 g9 hW9 hqb
            go_upto_region 34 with fail
            rw [HW9.out, HQB.out]
            obtain ⟨q0, q1, _⟩ := t9.cells
            go_wp2_with fail
            refine (vnew_yes e' f' HRG3.out _).mono ?_
            rintro r w10 ⟨vb2, rfl, hvb2, hvt2, f10⟩
            have F10 := F9.seq' f10
            clear q0 q1 HW9 HQB
            obtain ⟨q0, q1, _⟩ := (t9.fr f10 (fun f => f)).cells
            obtain ⟨p0, p1, _⟩ := (HT6.out.fr F10 (fun f => f)).cells
            have hnq := fun W => neq_prom e' f' e' f' W
            rw [show (!decide (e' = e' ∧ f' = f')) = false by simp] at hnq
            have HV10 : Hid (Vt w10 vb2 e' f') := hvt2
            have HVB2 : Hid (w.heap.size ≤ vb2) := by have := HF6.out.size; have := F9.size; show _ ≤ _; omega
            have HGV10 : Hid (Gv w10 w.heap.size vb2 (.slice ga' gs'.length gc') gs') := ⟨(HGV6.out.same F10).has, fun i hi => ⟨(HGV6.out.off i hi).1, by have := HGV6.out.has.lt hi; have := F9.size; omega⟩⟩
            have HF10 : Hid (Fr (fun _ => False) w w10) := HF6.out.seq' F10
            clear F9 F10 f10 t9 hvt2 hvb2 HV6 HGV6 HT6 HF6
            go_wp2
            exact ⟨⟨k + 1, vb2, e', f', gs', by omega, hgl, by simp, rfl, HVB2, HRG3, HGI6, HV10, HGV10, HF10⟩, by simp [intOf]; omega⟩
          · have e3 : ((k : Int) % 3 == 2) = false := by simp; omega
            have e4 : ((k : Int).tmod 3 == 2) = false := by rw [Int.tmod_eq_emod_of_nonneg (by omega)]; exact e3
            go_wp2
            exact ⟨⟨k + 1, vb, e', f', gs', by omega, hgl, by simp, rfl, HVB, HRG3, HGI6, HV6, HGV6, HF6⟩, by simp [intOf]; omega⟩
    · have hkn : k = len1 := by omega
      subst hkn
      go_wp2_with fail
      refine (HSP.out _).mono ?_
      rintro r w4 ⟨rfl, f4⟩
      go_wp2
      go_ret
      exact ⟨rfl, HFW.out.seq' f4⟩

set_option maxRecDepth 100000 in
theorem lifted (os : Os) (started : os.Started) (H : Type) (enc : TypeId × Value → H) :
    ReturnsInHanded {} Try.checked os 5 .any (Rows.voteOnceSpec.pre6 enc Try.prog Try.f5 Rows.voteOnceRow.domain false) (Rows.voteOnceSpec.post enc Try.prog Try.f5 false true false false) := by
  refine returnsInHanded_of_change_sized (C := Try.checked) own started (by kernel_rfl) Try.func5
    (ChangeSpec.witness6 (enc := enc) (C := Try.checked) false ⟨#[], #[.slice none 0 0], []⟩ 8 (by kernel_rfl) (by kernel_rfl) (by kernel_rfl) (by kernel_rfl)) ?_
  intro W base args ds gs before hval0 hW hcnd hsz0 _
  have hsz : (DataW.weightsEach Try.prog (Try.f5.params.toList ++ Rows.voteOnceSpec.plain.varTypes Try.prog) (ds ++ gs)).all (· ≤ reachBytes) = true := hsz0
  clear hsz0
  have hval : ∀ (j : Nat) t v, Try.f5.params[j]? = some t → args[j]? = some v → Value.okWide Try.prog W .any base t v := hval0
  have hW' := hW
  obtain ⟨p, q, hA0, hV, rfl, hfz, hnd⟩ := hW
  have hA : DataW.TrodAll enc Try.prog W 0 (fun _ => true) true Try.f5.params.toList args.toList ds p := hA0
  rw [Try.params5] at hA hval hsz
  obtain ⟨v0, vs0, d0, ds0, p0, q0, hargs, rfl, rfl, h0, r0⟩ := trodAll_cons hA
  obtain ⟨rfl, rfl, rfl⟩ := trodAll_nil r0
  obtain rfl : args = #[v0] := by cases args; simp_all
  obtain ⟨rfl, rfl⟩ := trodVars_none hV
  obtain ⟨a0, len0, cap0, rfl⟩ := okWide_slice Try.underlying41 (hval 0 41 v0 rfl rfl)
  have k0 := h0
  have lt0 : ∀ x ∈ p0, x.block < W.heap.size := by obtain ⟨m, hm⟩ := k0; exact DataW.trod_lt m _ _ _ hm
  have wz0 : ∀ z ∈ d0.weights Try.prog 41, z ≤ reachBytes := fun z hz => by simpa using List.all_eq_true.1 hsz z (DataW.weights_mem_each (j := 0) rfl rfl z hz)
  obtain ⟨rs0, hl0, hb0, hr0⟩ : ∃ rs : List (List Int), len0 = rs.length ∧ rs.length * (8 * 7) ≤ 140737488351232 ∧ Rws W a0 cap0 7 rs := by
    obtain ⟨fuel, hf⟩ := h0
    exact rws_open Try.underlying41 cellsSt (by decide) bytesSt step_ints hf wz0
  clear hA0 hval0
  refine (walk W a0 len0 cap0 rs0 hl0 hb0 hr0).mono fun e W' ⟨he, fr⟩ => ?_
  have bel : Below W.heap.size W W' := fr.below (Nat.le_refl _) (fun _ f => f.elim)
  subst he
  exact ⟨_, rfl, _, _, _, [], _, [], hW', trodAll_mk1 (shut_bool Try.underlying4 _), (trodAll_cons_mk (Below.trod laidOut (by kernel_rfl) (of_decide_eq_true (by kernel_rfl)) k0 bel lt0) trodAll_mk0), rfl, bel.frame _, fun h => by cases h⟩

theorem proved : Rows.VoteOnceSaid :=
  OpenClaim.holds_of_wide 5 Try.f5 rfl rfl rfl rfl rfl rfl rfl ⟨rfl, rfl, rfl, rfl, rfl⟩ rfl rfl rfl rfl rfl (by kernel_rfl) Try.func5 (by kernel_rfl)
    (of_decide_eq_true (by kernel_rfl)) (by unfold Func.isWrapper; first | (rw [if_pos (by decide +kernel)]; kernel_rfl) | (rw [if_neg (by decide +kernel)]; exact ⟨rfl, rfl⟩))
    (fun os started H enc _ => lifted os started H enc)
end Go.Proofs.Ytbfkacahaocpfaa.voteOnce
namespace Go.Proofs.Ytbfkacahaocpfaa
theorem voteOnce_holds : Rows.VoteOnceSaid := voteOnce.proved
#print axioms voteOnce_holds
end Go.Proofs.Ytbfkacahaocpfaa
