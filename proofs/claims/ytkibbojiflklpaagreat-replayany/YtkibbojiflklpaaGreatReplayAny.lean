
/- Whatever workers are picked, the pages come out the same: records that may be replayed in order, fed and done by any workers in any turn, come to the pages of the replay in order, and at each consistent point on the way the pages are those of the replay up to it; with no condition but those of the statement's own form. -/
import Derived.Test.YtkibbojiflklpaaGreatBB9
import Derived.Test.YtkibbojiflklpaaGreatRYJ
namespace Go.Proofs.YtkibbojiflklpaaGreat.replayAny
open Go.ChangeShapes Go.WideShapes Go.ChangeAt Go.RowKit
open Go.ChangeMaps (open_string shut_string)
set_option linter.unusedVariables false

theorem own : ownKnob Tryz.prog.godebug = none := by kernel_rfl
theorem laidOut : laidOutB Tryz.prog = true := by kernel_rfl
theorem bytes8 : Tryz.prog.bytesOf 5 = 1 := by kernel_rfl

open Go.RowKit
theorem bg_cells {w : World} {a : Option Addr} {n c : Nat} {last wk : Int} {W : World} (f : Fr (fun _ => False) (w.alloc (.cells #[.slice a n c, .int .i64 last, .int .i64 wk] 44)) W) : W.cell? ⟨w.heap.size, 0, none⟩ = some (.slice a n c) ∧ W.cell? ⟨w.heap.size, 1, none⟩ = some (.int .i64 last) ∧ W.cell? ⟨w.heap.size, 2, none⟩ = some (.int .i64 wk) ∧ w.heap.size < W.heap.size := by
  have h := f.blk (heap_alloc_new w (.cells #[.slice a n c, .int .i64 last, .int .i64 wk] 44)) (fun e => e)
  obtain ⟨h0, h1, h2⟩ := three_cells h
  exact ⟨h0, h1, h2, lt_of_block h⟩
set_option maxRecDepth 100000 in
set_option maxHeartbeats 4000000 in
theorem walk_big (w : World) (za : Option Addr) (zn zc : Nat) (last wk : Int) (a1 : Option Addr) (len1 cap1 : Nat) (a2 : Option Addr) (len2 cap2 : Nat) (h : last < 0 ∨ 1000 < last ∨ 100 < (len1 : Int) ∨ 400 < (len2 : Int)) :
    Calls Tryz.prog 4 #[.agg #[.slice za zn zc, .int .i64 last, .int .i64 wk], .slice a1 len1 cap1, .slice a2 len2 cap2] w fun e w' => e = .returned (.bool true) ∧ Fr (fun _ => False) w w' := by
  have F0 := Fr.box w (.cells #[.slice za zn zc, .int .i64 last, .int .i64 wk] 44)
  obtain ⟨b0, b1, b2, b3⟩ := bg_cells (w := w) (a := za) (n := zn) (c := zc) (last := last) (wk := wk) (Fr.refl _ _)
  have HF0 : Hid (Fr (fun _ => False) w (w.alloc (.cells #[.slice za zn zc, .int .i64 last, .int .i64 wk] 44))) := F0
  clear F0
  by_cases h1 : last < 0
  · clear h
    go_enter Tryz.func4, Tryz.ntmps4
    go_wp2_with fail
    refine (ryspk_any _).mono ?_
    rintro e w1 ⟨rfl, f1⟩
    have HF := HF0.out.seq' f1
    go_wp2
    go_ret
    exact ⟨rfl, HF⟩
  · by_cases h2 : 1000 < last
    · clear h
      go_enter Tryz.func4, Tryz.ntmps4
      go_wp2_with fail
      refine (ryspk_any _).mono ?_
      rintro e w1 ⟨rfl, f1⟩
      have HF := HF0.out.seq' f1
      go_wp2
      go_ret
      exact ⟨rfl, HF⟩
    · by_cases h3 : 100 < (len1 : Int)
      · clear h
        go_enter Tryz.func4, Tryz.ntmps4
        go_wp2_with fail
        refine (ryspk_any _).mono ?_
        rintro e w1 ⟨rfl, f1⟩
        have HF := HF0.out.seq' f1
        go_wp2
        go_ret
        exact ⟨rfl, HF⟩
      · have h4 : 400 < (len2 : Int) := by omega
        clear h
        go_enter Tryz.func4, Tryz.ntmps4
        go_wp2_with fail
        refine (ryspk_any _).mono ?_
        rintro e w1 ⟨rfl, f1⟩
        have HF := HF0.out.seq' f1
        go_wp2
        go_ret
        exact ⟨rfl, HF⟩
set_option maxRecDepth 100000 in
set_option maxHeartbeats 8000000 in
theorem walk_no (w : World) (za : Option Addr) (zc : Nat) (zls : List Sl) (last wk : Int) (zs : Slots w za zc zls) (a1 : Option Addr) (len1 cap1 : Nat) (rs : List Rec) (hl : len1 = rs.length) (hr : Recs w a1 cap1 rs) (hz : ∀ r ∈ rs, r.key.size ≤ 140737488351232 ∧ r.val.size ≤ 140737488351232) (a2 : Option Addr) (len2 cap2 : Nat)
    (h1 : ¬ last < 0) (h2 : ¬ 1000 < last) (h3 : ¬ 100 < (len1 : Int)) (h4 : ¬ 400 < (len2 : Int))
    (hnew : ∀ W, Slots W za zc zls → Calls Tryz.prog 10 #[.slice za zls.length zc, .int .i64 last, .int .i64 wk] W fun e W' => ∃ er, e = .returned (.tuple #[.pointer none, .int .i64 er]) ∧ er ≠ 0 ∧ Fr (fun _ => False) W W') :
    Calls Tryz.prog 4 #[.agg #[.slice za zls.length zc, .int .i64 last, .int .i64 wk], .slice a1 len1 cap1, .slice a2 len2 cap2] w fun e w' => e = .returned (.bool true) ∧ Fr (fun _ => False) w w' := by
  have HF0 : Hid (Fr (fun _ => False) w (w.alloc (.cells #[.slice za zls.length zc, .int .i64 last, .int .i64 wk] 44))) := Fr.box _ _
  have HBX : Hid (∀ W, Fr (fun _ => False) (w.alloc (.cells #[.slice za zls.length zc, .int .i64 last, .int .i64 wk] 44)) W → W.cell? ⟨w.heap.size, 0, none⟩ = some (.slice za zls.length zc) ∧ W.cell? ⟨w.heap.size, 1, none⟩ = some (.int .i64 last) ∧ W.cell? ⟨w.heap.size, 2, none⟩ = some (.int .i64 wk) ∧ w.heap.size < W.heap.size) := fun W f => bg_cells f
  have HZS : Hid (∀ W, Fr (fun _ => False) w W → Slots W za zc zls) := fun W f => zs.same f
  have HRS : Hid (∀ W, Fr (fun _ => False) w W → Recs W a1 cap1 rs) := fun W f => hr.same f
  have HL : Hid (len1 = rs.length) := hl
  have HZ : Hid (∀ r ∈ rs, r.key.size ≤ 140737488351232 ∧ r.val.size ≤ 140737488351232) := hz
  have hnw := hnew _ (HZS.out _ HF0.out)
  obtain ⟨b0, b1, b2, b3⟩ := HBX.out _ (Fr.refl _ _)
  obtain ⟨nz, hnz⟩ : ∃ nz, nz = zls.length := ⟨_, rfl⟩
  have HNZ : Hid (nz = zls.length) := hnz
  rw [← hnz] at HF0 HBX hnw b0 b1 b2 b3 ⊢
  clear zs hr hl hz hnew hnz
  go_enter Tryz.func4, Tryz.ntmps4
  go_wp2_with fail
  refine hnw.mono ?_
  rintro e w1 ⟨er, rfl, her, f1⟩
  obtain ⟨d0, d1, d2, d3⟩ := HBX.out _ f1
  have hbe : (er != 0) = true := by simpa using her
  have hbf : (er == 0) = false := by simpa using her
  have hri := rising17_any a1 len1 cap1 rs last HL.out (by omega) ⟨by omega, by omega⟩ w1 (HRS.out _ (HF0.out.seq' f1))
  clear b0 b1 b2 b3 hnw her
  go_wp2_with fail
  refine hri.mono ?_
  rintro e w2 ⟨a', c', rfl, hh, f2, hn⟩
  have F2 := f1.seq' f2
  obtain ⟨e0, e1, e2, e3⟩ := HBX.out _ F2
  have hri2 := (ris_any last rs rs [] (fun _ h => h) ⟨(fun r hr => by cases hr), (fun k r hk => by cases hk), (fun r hr => by cases hr)⟩).1
  have hrp := replay_anyN za a' zls.length zc (riseL last [] rs).length c' zls (riseL last [] rs) rfl rfl (fun r hr => by
    obtain ⟨s, hs, e1, e2⟩ := hri2.sz r hr
    rw [e1, e2]; exact HZ.out s hs) w2 (HZS.out _ (HF0.out.seq' F2)) (Has.recsR rfl hh)
  obtain ⟨nl, hnl⟩ : ∃ nl, nl = (riseL last [] rs).length := ⟨_, rfl⟩
  rw [← hnl, ← HNZ.out] at hrp
  rw [← hnl]
  clear d0 d1 d2 d3 hri hh hn hri2 f1 f2 hnl
  go_wp2_with fail
  refine hrp.mono ?_
  rintro e w3 ⟨a3, c3, l3, rfl, _, _, f3, _, _⟩
  have F3 := F2.seq' f3
  obtain ⟨n3, hn3⟩ : ∃ n3, n3 = l3.length := ⟨_, rfl⟩
  rw [← hn3]
  clear hrp f3 hn3 e0 e1 e2 e3
  go_wp2_with fail
  refine (ryspk_any _).mono ?_
  rintro e w4 ⟨rfl, f4⟩
  have HF : Hid (Fr (fun _ => False) w w4) := (HF0.out.seq' F3).seq' f4
  clear F2 F3 f4
  go_wp2
  go_ret
  exact ⟨rfl, HF.out⟩
set_option maxRecDepth 100000 in
set_option maxHeartbeats 32000000 in
theorem walk_yes (w : World) (za : Option Addr) (zc : Nat) (zls : List Sl) (last : Int) (wk : Nat) (zs : Slots w za zc zls) (a1 : Option Addr) (len1 cap1 : Nat) (rs : List Rec) (hl : len1 = rs.length) (hr : Recs w a1 cap1 rs) (hz : ∀ r ∈ rs, r.key.size ≤ 140737488351232 ∧ r.val.size ≤ 140737488351232) (a2 : Option Addr) (len2 cap2 : Nat) (xs : List Int) (hl2 : len2 = xs.length) (hr2 : Is w a2 cap2 xs) (hw2 : ∀ x ∈ xs, wfI x)
    (h1 : ¬ last < 0) (h2 : ¬ 1000 < last) (h3 : ¬ 100 < (len1 : Int)) (h4 : ¬ 400 < (len2 : Int)) (hw1 : 1 ≤ wk) (hw8 : wk ≤ 8) (har : ariB 0 (psOf zls) = true) :
    Calls Tryz.prog 4 #[.agg #[.slice za zls.length zc, .int .i64 last, .int .i64 (wk : Int)], .slice a1 len1 cap1, .slice a2 len2 cap2] w fun e w' => e = .returned (.bool true) ∧ Fr (fun _ => False) w w' := by
  have HF0 : Hid (Fr (fun _ => False) w (w.alloc (.cells #[.slice za zls.length zc, .int .i64 last, .int .i64 (wk : Int)] 44))) := Fr.box _ _
  have HBX : Hid (∀ W, Fr (fun _ => False) (w.alloc (.cells #[.slice za zls.length zc, .int .i64 last, .int .i64 (wk : Int)] 44)) W → W.cell? ⟨w.heap.size, 0, none⟩ = some (.slice za zls.length zc) ∧ W.cell? ⟨w.heap.size, 1, none⟩ = some (.int .i64 last) ∧ W.cell? ⟨w.heap.size, 2, none⟩ = some (.int .i64 (wk : Int)) ∧ w.heap.size < W.heap.size) := fun W f => bg_cells f
  have HZS : Hid (∀ W, Fr (fun _ => False) w W → Slots W za zc zls) := fun W f => zs.same f
  have HRS : Hid (∀ W, Fr (fun _ => False) w W → Recs W a1 cap1 rs) := fun W f => hr.same f
  have HXS : Hid (∀ W, Fr (fun _ => False) w W → Is W a2 cap2 xs) := fun W f => hr2.same f
  have HXW : Hid (len2 = xs.length ∧ ∀ x ∈ xs, wfI x) := ⟨hl2, hw2⟩
  have hle2 : len2 ≤ cap2 := by rw [hl2]; exact hr2.le
  have hmx2 := hr2.max
  have HL : Hid (len1 = rs.length) := hl
  have HZ : Hid (∀ r ∈ rs, r.key.size ≤ 140737488351232 ∧ r.val.size ≤ 140737488351232) := hz
  have HAR : Hid (ariB 0 (psOf zls) = true) := har
  have HWK : Hid (1 ≤ wk ∧ wk ≤ 8) := ⟨hw1, hw8⟩
  have hfz : zls.length ≤ 4096 := by have := (ari_psok har).few; rwa [ps_length] at this
  have hnw := ry_new za zls.length zc zls rfl (by omega) _ (HZS.out _ HF0.out) har last wk ⟨by omega, by omega⟩ hw1 hw8
  obtain ⟨b0, b1, b2, b3⟩ := HBX.out _ (Fr.refl _ _)
  obtain ⟨nz, hnz⟩ : ∃ nz, nz = zls.length := ⟨_, rfl⟩
  have HNZ : Hid (nz = zls.length) := hnz
  rw [← hnz] at HF0 HBX hnw b0 b1 b2 b3 ⊢
  obtain ⟨w0, hw0⟩ : ∃ w0, w0 = w.alloc (.cells #[.slice za nz zc, .int .i64 last, .int .i64 (wk : Int)] 44) := ⟨_, rfl⟩
  rw [← hw0] at HF0 HBX hnw b0 b1 b2 b3
  have HW0 : Hid (w0 = w.alloc (.cells #[.slice za nz zc, .int .i64 last, .int .i64 (wk : Int)] 44)) := hw0
  clear zs hr hl hz hnz hr2 hl2 hw2 har hw1 hw8 hfz hw0
  go_enter Tryz.func4, Tryz.ntmps4
  go_upto_region 1 with fail
  rw [← HW0.out]
  clear HW0
  go_wp2_with fail
  refine hnw.mono ?_
  rintro e w1 ⟨b, S, rfl, hRy, hSn, f1⟩
  have HRY : Hid (Ry w1 S b (mkR wk last (pgF (psOf zls))) zls.length ∧ (∀ k, S k → w0.heap.size ≤ k) ∧ Fr (fun _ => False) w0 w1) := ⟨by rw [← HNZ.out]; exact hRy, hSn, f1⟩
  obtain ⟨d0, d1, d2, d3⟩ := HBX.out _ f1
  have hri := rising17_any a1 len1 cap1 rs last HL.out (by omega) ⟨by omega, by omega⟩ w1 (HRS.out _ (HF0.out.seq' f1))
  clear b0 b1 b2 b3 hnw hRy hSn
  go_wp2_with fail
  refine hri.mono ?_
  rintro e w2 ⟨a', c', rfl, hh, f2, hn⟩
  have F2 := f1.seq' f2
  obtain ⟨e0, e1, e2, e3⟩ := HBX.out _ F2
  obtain ⟨hri2, hri3⟩ := ris_any last rs rs [] (fun _ h => h) ⟨(fun r hr => by cases hr), (fun k r hk => by cases hk), (fun r hr => by cases hr)⟩
  obtain ⟨L, hL⟩ : ∃ L, L = riseL last [] rs := ⟨_, rfl⟩
  rw [← hL] at hh hn hri2 hri3 ⊢
  have hsz : ∀ r ∈ L, r.key.size ≤ 140737488351232 ∧ r.val.size ≤ 140737488351232 := fun r hr => by
    obtain ⟨s, hs, e1, e2⟩ := hri2.sz r hr
    rw [e1, e2]; exact HZ.out s hs
  have hfew : L.length ≤ 100 := by simp at hri3; have := HL.out; omega
  have hrp := replay_anyN za a' zls.length zc L.length c' zls L rfl rfl hsz w2 (HZS.out _ (HF0.out.seq' F2)) (Has.recsR rfl hh)
  have HH2 : Hid (Has w2 8 (.slice a' L.length c') L.length (L.flatMap recC) ∧ (∀ g, (Value.slice a' L.length c').ownBlock = some g → w1.heap.size ≤ g) ∧ Fr (fun _ => False) w1 w2) := ⟨hh, hn, f2⟩
  have HRI : Hid (Ris last rs L) := hri2
  have HSZ : Hid (∀ r ∈ L, r.key.size ≤ 140737488351232 ∧ r.val.size ≤ 140737488351232) := hsz
  have HC' : Hid (L.length ≤ c' ∧ c' ≤ 9223372036854775807) := by have h := Has.recsR rfl hh; exact ⟨h.le, h.max⟩
  obtain ⟨nl, hnl⟩ : ∃ nl, nl = L.length := ⟨_, rfl⟩
  have HNL : Hid (nl = L.length) := hnl
  rw [← hnl, ← HNZ.out] at hrp
  rw [← hnl] at hfew ⊢
  obtain ⟨⟨qs, er⟩, ho⟩ : ∃ o, o = rplA (psOf zls) L := ⟨_, rfl⟩
  rw [← ho] at hrp
  have HO : Hid (rplA (psOf zls) L = (qs, er)) := ho.symm
  unfold RplOutN at hrp
  dsimp only at hrp
  clear d0 d1 d2 d3 hri hh hn hri2 hri3 f1 f2 hnl hL hsz ho
  go_wp2_with fail
  refine hrp.mono ?_
  rintro e w3 ⟨aw, cw, lw, rfl, hsv, hps, f3, hnw3, hown3⟩
  have F3 := F2.seq' f3
  by_cases her : er = 0
  · subst her
    obtain ⟨c, hcb, hcr, hcl, hbg, hcu⟩ := bg_make HF0.out (HZS.out _ (Fr.refl _ _)) HAR.out HRY.out.1 HRY.out.2.1 HRY.out.2.2 HH2.out.1 HH2.out.2.1 HH2.out.2.2 hsv hps f3 hnw3 hown3 HO.out (by rw [← HNL.out]; exact hfew) ⟨by omega, by omega⟩ HWK.out HRI.out.ok HRI.out.lsn HSZ.out
    subst hcb hcr hcl
    have HBG : Hid (Bg c w w0 za zc zls a' c' aw cw lw) := hbg
    have HCU : Hid (Cu c 0 0 (fun _ => True) w3) := hcu
    have hok := hbg.ok
    have hc1 := HC'.out.1
    have hc2 := HC'.out.2
    rw [← HNL.out] at hc1
    have HCB : Hid (∀ {t f : Nat} {Q : RSt → Prop} {W : World}, Cu c t f Q W → W.cell? ⟨w.heap.size, 0, none⟩ = some (.slice za nz zc) ∧ W.cell? ⟨w.heap.size, 1, none⟩ = some (.int .i64 c.last) ∧ W.cell? ⟨w.heap.size, 2, none⟩ = some (.int .i64 (wk : Int)) ∧ w.heap.size < W.heap.size) := fun h => HBX.out _ (HBG.out.fr h)
    obtain ⟨n3, hn3⟩ : ∃ n3, n3 = lw.length := ⟨_, rfl⟩
    have HN3 : Hid (n3 = lw.length) := hn3
    rw [← hn3]
    clear hrp hsv hps f3 hnw3 hown3 F2 F3 HRY HH2 HRI HSZ HO hbg hcu e0 e1 e2 e3 hn3 HC' HRS HZ HL
    go_wp2
    go_loopw [12, 13] (fun fd i wr => ∃ (k f : Nat), k ≤ len2 + nl * 9 + 1 ∧ f ≤ nl ∧ fd = .int .i64 (f : Int) ∧ i = .int .i64 (k : Int) ∧ Hid (Cu c k f (fun _ => True) wr)) (fun _ i _ => len2 + nl * 9 + 1 - (intOf i).toNat)
    case atStart => exact ⟨0, 0, by omega, by omega, rfl, rfl, HCU.out⟩
    case round =>
      obtain ⟨k, f, hk, hf, rfl, rfl, HC⟩ := hrel
      clear HCU
      by_cases hlt : k < len2 + nl * 9 + 1
      · have hki : (k : Int) < (len2 : Int) + (nl : Int) * 9 + 1 := by omega
        have hkt : k ≤ 1500 := by omega
        go_upto_if 92 with fail
        go_cut [14] (fun tv wc => ∃ tn : Int, tv = .int .i64 tn ∧ -9223372036854775808 ≤ tn ∧ tn ≤ 9223372036854775807 ∧ wr = wc)
        case first =>
          by_cases hk2 : k < len2
          · obtain ⟨x, hx⟩ : ∃ x, xs[k]? = some x := ⟨_, List.getElem?_eq_getElem (by have := HXW.out.1; omega)⟩
            obtain ⟨bx, ox, rfl, hbx, hcx⟩ := (HXS.out wr (HF0.out.seq' (HBG.out.fr HC.out))).some (by have := HXW.out.1; omega)
            have hx1 := hcx k x hx
            have hxw := (HXW.out.2 x (List.mem_of_getElem? hx)).range
            have hki2 : (k : Int) < (len2 : Int) := by omega
            clear hcx hx
            go_wp2
            go_meet
            exact ⟨x, rfl, hxw.1, hxw.2, rfl⟩
          · have hki2 : ¬ (k : Int) < (len2 : Int) := by omega
            go_wp2
            go_meet
            exact ⟨(k : Int), rfl, by omega, by omega, rfl⟩
        case rest =>
        obtain ⟨tn, rfl, ht1, ht2, rfl⟩ := hcut
        go_upto_region 15 with fail
        go_cut [105] (fun bv wc => bv = .bool (decide (f < nl ∧ tn.tmod 3 = 0)) ∧ wr = wc)
        case first =>
          by_cases hfn : f < nl
          · have hfi : (f : Int) < (nl : Int) := by omega
            by_cases h3 : tn.tmod 3 = 0
            · have hb : (tn.tmod 3 == 0) = true := by simpa using h3
              go_wp2
              go_meet
              exact ⟨by simp [hfn, h3], rfl⟩
            · have hb : (tn.tmod 3 == 0) = false := by simpa using h3
              go_wp2
              go_meet
              exact ⟨by simp [h3], rfl⟩
          · have hfi : ¬ (f : Int) < (nl : Int) := by omega
            go_wp2
            go_meet
            exact ⟨by simp [hfn], rfl⟩
        case rest =>
        obtain ⟨rfl, rfl⟩ := hcut
        go_upto_if 105 with fail
        go_cut [12] (fun fv wc => ∃ f2 : Nat, fv = .int .i64 (f2 : Int) ∧ f2 ≤ nl ∧ Hid (Cu c (k + 1) f2 (fun _ => True) wc))
        case first =>
          by_cases hfd : f < nl ∧ tn.tmod 3 = 0
          · rw [decide_eq_true hfd]
            obtain ⟨r, hr⟩ : ∃ r, c.rs[f]? = some r := ⟨_, List.getElem?_eq_getElem (by rw [← HNL.out]; exact hfd.1)⟩
            obtain ⟨bb, off, rfl, hbb, hcc⟩ := (HBG.out.recs HC.out).some (by have := HNL.out; omega)
            obtain ⟨q0, q1, q2, q3, q4, q5, q6, q7⟩ := rec_range (hcc f r hr)
            have hfi : (f : Int) < (nl : Int) := by omega
            have hfe := cu_feed hok HC.out (by omega) hr
            clear hcc hr hfd
            go_wp2_with fail
            refine hfe.mono ?_
            rintro e w5 ⟨rfl, hc5⟩
            have HC5 : Hid (Cu c (k + 1) (f + 1) (fun _ => True) w5) := hc5
            clear hc5 hfe q0 q1 q2 q3 q4 q5 q6 q7
            go_wp2
            go_meet
            exact ⟨f + 1, by go_num, by omega, HC5⟩
          · rw [decide_eq_false hfd]
            have hm1 : -8 < tn.tmod 8 := by
              have h1 := Int.tmod_lt_of_pos (-tn) (show (0 : Int) < 8 by omega)
              rw [Int.neg_tmod] at h1
              omega
            have hm2 : tn.tmod 8 < 8 := Int.tmod_lt_of_pos tn (by omega)
            clear hfd
            by_cases hneg : tn.tmod 8 < 0
            · have hwo := cu_work hok HC.out (by omega) 0 (fun _ => True) (fun _ _ _ _ => trivial) (fun _ _ _ _ _ _ => trivial)
              rw [show ((0 : Nat) : Int) = 0 from rfl] at hwo
              go_wp2_with fail
              refine hwo.mono ?_
              rintro e w5 ⟨⟨bo, er, rfl, her⟩, hc5⟩
              have HC5 : Hid (Cu c (k + 1) f (fun _ => True) w5) := hc5
              clear hc5 hwo
              rcases her with rfl | rfl
              · go_wp2
                go_meet
                exact ⟨f, rfl, hf, HC5⟩
              · go_wp2
                go_meet
                exact ⟨f, rfl, hf, HC5⟩
            · obtain ⟨i, hi⟩ : ∃ i : Nat, tn.tmod 8 = (i : Int) := ⟨(tn.tmod 8).toNat, by omega⟩
              have hwo := cu_work hok HC.out (by omega) i (fun _ => True) (fun _ _ _ _ => trivial) (fun _ _ _ _ _ _ => trivial)
              rw [← hi] at hwo
              clear hi
              go_wp2_with fail
              refine hwo.mono ?_
              rintro e w5 ⟨⟨bo, er, rfl, her⟩, hc5⟩
              have HC5 : Hid (Cu c (k + 1) f (fun _ => True) w5) := hc5
              clear hc5 hwo
              rcases her with rfl | rfl
              · go_wp2
                go_meet
                exact ⟨f, rfl, hf, HC5⟩
              · go_wp2
                go_meet
                exact ⟨f, rfl, hf, HC5⟩
        case rest =>
        obtain ⟨f2, rfl, hf2, HC2⟩ := hcut
        have hpt := cu_point hok HC2.out (by omega)
        clear HC hf hki
        go_wp2_with fail
        refine hpt.mono ?_
        rintro e w6 ⟨f6, (⟨rfl, hc6⟩ | ⟨m, hm, rfl, hc6⟩)⟩
        · have HC6 : Hid (Cu c (k + 1) f2 (fun _ => True) w6) := hc6
          clear hc6 hpt f6
          go_wp2
          go_roundw
          case rel => exact ⟨k + 1, f2, by omega, hf2, rfl, by go_num, HC6⟩
          case measure => simp [intOf]; omega
        · have HC6 : Hid (Cu c (k + 1) f2 (fun R => ∀ x, R.pg x = ymS c.rs realB (·.page) stpR (lk c.ps) m x) w6) := hc6
          obtain ⟨x0, x1, x2, x3⟩ := HCB.out hc6
          obtain ⟨q, hq1, hq2, hq3⟩ := HBG.out.upto m (by rw [← HNL.out]; omega)
          have hrp := fun W (g : Fr (fun _ => False) w6 W) => replay_anyN za a' zls.length zc m c' zls (c.rs.take m) rfl (by rw [List.length_take, ← HNL.out]; omega) (fun r hr => hok.sz r (List.mem_of_mem_take hr)) W ((HBG.out.slots hc6).same g) (((HBG.out.recs hc6).same g).takeY m)
          rw [hq2, ← HNZ.out] at hrp
          have HQ1 : Hid (rplP c.ps (c.rs.take m) = (q, 0)) := hq1
          have HQ3 : Hid (q.length ≤ 4096) := hq3.few
          have HMR : Hid (m ≤ c.rs.length) := by show m ≤ _; rw [← HNL.out]; omega
          have hsub : c.last + (m : Int) - c.last = (m : Int) := by omega
          have hml : (m : Int) ≤ (nl : Int) := by omega
          have hmc : (m : Int) ≤ (c' : Int) := by omega
          have hm0 : (0 : Int) ≤ (m : Int) := by omega
          have hwm : IntKind.i64.wrap (m : Int) = (m : Int) := by simp [IntKind.wrap, IntKind.bits, IntKind.signed]; omega
          clear hc6 hpt f6 hq1 hq2 hq3
          go_upto_region 29 with fail
          go_cut [20, 21] (fun av ev wc => ∃ (a5 : Option Addr) (n5 c5 : Nat) (l5 : List Sl), av = .slice a5 n5 c5 ∧ ev = .int .i64 0 ∧ Hid (n5 = l5.length) ∧ Hid (Sv wc (.slice a5 n5 c5) l5 ∧ psOf l5 = q) ∧ Hid (Fr (fun _ => False) w6 wc))
          case first =>
            have HQ : Hid (∀ W, Fr (fun _ => False) w6 W → W.cell? ⟨w.heap.size, 0, none⟩ = some (.slice za nz zc) ∧ W.cell? ⟨w.heap.size, 1, none⟩ = some (.int .i64 c.last)) := fun W g => ⟨(HCB.out (HC6.out.same g)).1, (HCB.out (HC6.out.same g)).2.1⟩
            have g0 := (Fr.refl (fun _ => False) w6).drew
            go_region_held3 (fun W => W.cell? ⟨w.heap.size, 0, none⟩ = some (.slice za nz zc) ∧ W.cell? ⟨w.heap.size, 1, none⟩ = some (.int .i64 c.last))
              (first | with_reducible exact HQ.out _ g0 | with_reducible exact HQ.out _ g1)
              (first | (go_at_call 12; refine (hrp _ g0).mono ?_; rintro e w7 ⟨a5, c5, l5, rfl, sv5, ps5, f7, nw5, on5⟩; have g1 := g0.seq' f7))
            go_wp2_with fail
            go_meet
            exact ⟨a5, l5.length, c5, l5, rfl, rfl, rfl, ⟨sv5, ps5⟩, g1⟩
          case rest =>
          obtain ⟨a5, n5, c5, l5, rfl, rfl, HN5, HV5, HF5⟩ := hcut
          have hc7 := HC6.out.same HF5.out
          have hpg := cu_pages hok HMR.out HQ1.out hc7 (by omega)
          have hn5 : n5 ≤ 100000 := by
            have h1 := HQ3.out
            rw [← HV5.out.2, ps_length] at h1
            have := HN5.out
            omega
          have HC7 : Hid (Cu c (k + 1) f2 (fun _ => True) wc) := hc7.imp (fun _ _ => trivial)
          clear hc7 x0 x1 x2 x3 hrp hsub hml hmc hm0 hwm
          go_wp2_with fail
          refine hpg.mono ?_
          rintro e w8 ⟨l8, ⟨a8, c8, rfl, sv8, f8, on8⟩, ps8⟩
          obtain ⟨n8, hn8⟩ : ∃ n8, n8 = l8.length := ⟨_, rfl⟩
          rw [← hn8] at sv8 ⊢
          have HV8 : Hid (Sv w8 (.slice a8 n8 c8) l8 ∧ psOf l8 = q ∧ Fr (fun _ => False) wc w8) := ⟨sv8, ps8, f8⟩
          have HN8 : Hid (n8 = l8.length) := hn8
          have hp17 := pages17_any a5 n5 c5 l5 HN5.out hn5 w8 ((HV5.out.1.same f8).slots HN5.out)
          clear hpg sv8 f8 on8 ps8 hn8
          go_wp2_with fail
          refine hp17.mono ?_
          rintro e w9 ⟨a9, c9, rfl, sv9, f9, on9⟩
          rw [← HN5.out] at sv9 ⊢
          have hsm := same17_any a8 a9 n8 n5 c8 c9 l8 l5 HN8.out HN5.out (HV8.out.2.1.trans HV5.out.2.symm) w9 ((HV8.out.1.same f9).slots HN8.out) (sv9.slots HN5.out)
          have HF9 : Hid (Fr (fun _ => False) wc w9) := HV8.out.2.2.seq' f9
          clear hp17 sv9 f9 on9
          go_wp2_with fail
          refine hsm.mono ?_
          rintro e w10 ⟨rfl, f10⟩
          have HC8 : Hid (Cu c (k + 1) f2 (fun _ => True) w10) := HC7.out.same (HF9.out.seq' f10)
          clear hsm f10
          go_wp2
          go_roundw
          case rel => exact ⟨k + 1, f2, by omega, hf2, rfl, by go_num, HC8⟩
          case measure => simp [intOf]; omega
      · have hki : ¬ (k : Int) < (len2 : Int) + (nl : Int) * 9 + 1 := by omega
        have HC1 : Hid (Cu c (2000 + f) f (fun _ => True) wr) := HC.out.later (by omega)
        clear HC hlt hk
        go_wp2
        go_loopw [12] (fun fd wr => ∃ f : Nat, f ≤ nl ∧ fd = .int .i64 (f : Int) ∧ Hid (Cu c (2000 + f) f (fun _ => True) wr)) (fun fd _ => nl - (intOf fd).toNat)
        case atStart => exact ⟨f, hf, rfl, HC1⟩
        case round =>
          clear HC1 hf
          obtain ⟨f, hf, rfl, HC⟩ := hrel
          by_cases hlt2 : f < nl
          · obtain ⟨r, hr⟩ : ∃ r, c.rs[f]? = some r := ⟨_, List.getElem?_eq_getElem (by rw [← HNL.out]; exact hlt2)⟩
            obtain ⟨bb, off, rfl, hbb, hcc⟩ := (HBG.out.recs HC.out).some (by have := HNL.out; omega)
            obtain ⟨q0, q1, q2, q3, q4, q5, q6, q7⟩ := rec_range (hcc f r hr)
            have hfi : (f : Int) < (nl : Int) := by omega
            have hfe := cu_feed hok HC.out (by omega) hr
            clear hcc hr
            go_wp2_with fail
            refine hfe.mono ?_
            rintro e w5 ⟨rfl, hc5⟩
            have HC5 : Hid (Cu c (2000 + (f + 1)) (f + 1) (fun _ => True) w5) := hc5
            clear hc5 hfe q0 q1 q2 q3 q4 q5 q6 q7
            go_wp2
            go_roundw
            case rel => exact ⟨f + 1, by omega, by go_num, HC5⟩
            case measure => simp [intOf]; omega
          · obtain rfl : f = nl := by omega
            have HC3 : Hid (Cu c (3000 + 0) c.rs.length (fun R => ∀ i, i < c.wk → (R.L i).length ≤ askN c.rs.length 0 i) wr) := by
              have h := HC.out
              rw [HNL.out] at h
              exact (cu_begin h hok).later (by have := HNL.out; omega)
            have hfi : ¬ (f : Int) < (f : Int) := by omega
            clear HC hf
            go_wp2
            go_loopw [22] (fun i wr => ∃ k : Nat, k ≤ 8 * f ∧ i = .int .i64 (k : Int) ∧ Hid (Cu c (3000 + k) c.rs.length (fun R => ∀ i, i < c.wk → (R.L i).length ≤ askN c.rs.length k i) wr)) (fun i _ => 8 * f - (intOf i).toNat)
            case atStart => exact ⟨0, by omega, rfl, HC3⟩
            case round =>
              clear HC3
              obtain ⟨k, hk, rfl, HC⟩ := hrel
              by_cases hlt3 : k < 8 * f
              · have hki : (k : Int) < 8 * (f : Int) := by omega
                have hw := cu_turn hok HC.out (by omega)
                have e8 : (k : Int).tmod 8 = ((k % 8 : Nat) : Int) := rfl
                rw [← e8] at hw
                clear e8
                go_wp2_with fail
                refine hw.mono ?_
                rintro e w5 ⟨⟨bo, er, rfl, her⟩, hc5⟩
                have HC5 : Hid (Cu c (3000 + (k + 1)) c.rs.length (fun R => ∀ i, i < c.wk → (R.L i).length ≤ askN c.rs.length (k + 1) i) w5) := hc5
                clear hc5 hw her
                go_wp2
                go_roundw
                case rel => exact ⟨k + 1, by omega, by go_num, HC5⟩
                case measure => simp [intOf]; omega
              · have hki : ¬ (k : Int) < 8 * (f : Int) := by omega
                have hE := cu_all hok (cu_end hok (by have h := HC.out; rw [show k = 8 * c.rs.length by rw [← HNL.out]; omega] at h; exact h))
                have HE : Hid (Cu c (3000 + 8 * c.rs.length) c.rs.length (fun R => (∀ x, R.pg x = ymS c.rs realB (·.page) stpR (lk c.ps) c.rs.length x) ∧ nextR R = none ∧ doneR R = c.last + c.rs.length) wr) := hE
                have hf3 : 3000 + 8 * c.rs.length ≤ 10000 := by rw [← HNL.out]; omega
                obtain ⟨q, hq1, hq2, hq3⟩ := HBG.out.upto c.rs.length (Nat.le_refl _)
                have hqs : q = c.qs := by rw [List.take_length, hok.rpl] at hq1; exact (Prod.mk.inj hq1).1.symm
                subst hqs
                have hn3 : n3 ≤ 100000 := by
                  have h1 := hq3.few
                  rw [← HBG.out.wps, ps_length] at h1
                  have := HN3.out
                  omega
                have hdn := fun W (g : Fr (fun _ => False) wr W) => cu_done hok ((HE.out.same g).imp (fun R h => h.2)) hf3
                rw [← HNL.out] at hdn
                have hpg := fun W (g : Fr (fun _ => False) wr W) => cu_pages hok (Nat.le_refl _) hq1 ((HE.out.same g).imp (fun R h => h.1)) hf3
                have hwt := fun W (g : Fr (fun _ => False) wr W) => HBG.out.wants (HE.out.same g)
                have HWP : Hid (psOf lw = c.qs) := HBG.out.wps
                have HQ : Hid (∀ W, Fr (fun _ => False) wr W → W.cell? ⟨w.heap.size, 1, none⟩ = some (.int .i64 c.last)) := fun W g => (HCB.out (HE.out.same g)).2.1
                have HFW : Hid (Fr (fun _ => False) w wr) := HF0.out.seq' (HBG.out.fr HE.out)
                have hwr : IntKind.i64.wrap (c.last + (f : Int)) = c.last + (f : Int) := by simp [IntKind.wrap, IntKind.bits, IntKind.signed]; omega
                have hbq : (c.last + (f : Int) == c.last + (f : Int)) = true := beq_self_eq_true _
                have g0 := (Fr.refl (fun _ => False) wr).drew
                clear hE HC hk hlt3 hq1 hq2 hq3 hf3
                go_upto_region 39 with fail
                go_region_held3 (fun W => W.cell? ⟨w.heap.size, 1, none⟩ = some (.int .i64 c.last))
                  (first | with_reducible exact HQ.out _ g0 | with_reducible exact HQ.out _ g1 | with_reducible exact HQ.out _ g2 | with_reducible exact HQ.out _ g3 | with_reducible exact HQ.out _ g4 | with_reducible exact HQ.out _ g5)
                  (first
                    | (go_at_call 19; refine (hdn _ g0).mono ?_; rintro e w5 ⟨rfl, f5⟩; have g1 := g0.seq' f5)
                    | (go_at_call 17; refine (hpg _ g1).mono ?_; rintro e w6 ⟨l8, ⟨a8, c8, rfl, sv8, f8, on8⟩, ps8⟩; have g2 := g1.seq' f8)
                    | (go_at_call 18; refine (pages17_any aw n3 cw lw HN3.out hn3 _ (hwt _ g2)).mono ?_; rintro e w7 ⟨a9, c9, rfl, sv9, f9, on9⟩; have g3 := g2.seq' f9)
                    | (go_at_call 16; refine (same17_any a8 a9 l8.length lw.length c8 c9 l8 lw rfl rfl (ps8.trans HWP.out.symm) _ ((sv8.same f9).slots rfl) (sv9.slots rfl)).mono ?_; rintro e w8 ⟨rfl, f10⟩; have g4 := g3.seq' f10)
                    | (go_at_call 9; refine (ryspk_any _).mono ?_; rintro e w9 ⟨rfl, f11⟩; have g5 := g4.seq' f11))
                have HFF : Hid (Fr (fun _ => False) w w9) := HFW.out.seq' g5
                go_wp2
                go_ret
                exact ⟨rfl, HFF.out⟩
  · have hbe : (er != 0) = true := by simpa using her
    obtain ⟨n3, hn3⟩ : ∃ n3, n3 = lw.length := ⟨_, rfl⟩
    rw [← hn3]
    clear hrp f3 hn3 e0 e1 e2 e3 hsv hps hnw3 hown3 her
    go_wp2_with fail
    refine (ryspk_any _).mono ?_
    rintro e w4 ⟨rfl, f4⟩
    have HF : Hid (Fr (fun _ => False) w w4) := (HF0.out.seq' F3).seq' f4
    clear F2 F3 f4
    go_wp2
    go_ret
    exact ⟨rfl, HF.out⟩
theorem walk (w : World) (za : Option Addr) (zc : Nat) (zls : List Sl) (last wk : Int) (zs : Slots w za zc zls) (a1 : Option Addr) (len1 cap1 : Nat) (rs : List Rec) (hl : len1 = rs.length) (_ : len1 * 80 ≤ 140737488355328) (hr : Recs w a1 cap1 rs) (hz : ∀ r ∈ rs, r.key.size ≤ 140737488351232 ∧ r.val.size ≤ 140737488351232) (a2 : Option Addr) (len2 cap2 : Nat) (xs : List Int) (hl2 : len2 = xs.length) (_ : xs.length ≤ 17592186043904) (hr2 : Is w a2 cap2 xs) (hw2 : ∀ x ∈ xs, wfI x) :
    Calls Tryz.prog 4 #[.agg #[.slice za zls.length zc, .int .i64 last, .int .i64 wk], .slice a1 len1 cap1, .slice a2 len2 cap2] w fun e w' => e = .returned (.bool true) ∧ Fr (fun _ => False) w w' := by
  by_cases hb : last < 0 ∨ 1000 < last ∨ 100 < (len1 : Int) ∨ 400 < (len2 : Int)
  · exact walk_big w za zls.length zc last wk a1 len1 cap1 a2 len2 cap2 hb
  · have h1 : ¬ last < 0 := by omega
    have h2 : ¬ 1000 < last := by omega
    have h3 : ¬ 100 < (len1 : Int) := by omega
    have h4 : ¬ 400 < (len2 : Int) := by omega
    by_cases hw : 1 ≤ wk ∧ wk ≤ 8
    · cases har : ariB 0 (psOf zls)
      · refine walk_no w za zc zls last wk zs a1 len1 cap1 rs hl hr hz a2 len2 cap2 h1 h2 h3 h4 (fun W hW => (ry_newerr za zls.length zc zls rfl W hW har last wk ⟨by omega, by omega⟩ hw).mono ?_)
        rintro e w' ⟨rfl, f⟩
        exact ⟨70, rfl, by decide, f⟩
      · obtain ⟨k, rfl⟩ : ∃ k : Nat, wk = (k : Int) := ⟨wk.toNat, by omega⟩
        exact walk_yes w za zc zls last k zs a1 len1 cap1 rs hl hr hz a2 len2 cap2 xs hl2 hr2 hw2 h1 h2 h3 h4 (by omega) (by omega) har
    · refine walk_no w za zc zls last wk zs a1 len1 cap1 rs hl hr hz a2 len2 cap2 h1 h2 h3 h4 (fun W _ => (ry_newarg za zls.length zc last wk W ⟨by omega, by omega⟩ hw).mono ?_)
      rintro e w' ⟨rfl, rfl⟩
      exact ⟨1, rfl, by decide, Fr.refl _ _⟩

set_option maxRecDepth 100000 in
theorem lifted (os : Os) (started : os.Started) (H : Type) (enc : TypeId × Value → H) :
    ReturnsInHanded {} Tryz.checked os 4 .any (Rows.replayAnySpec.pre6 enc Tryz.prog Tryz.f4 Rows.replayAnyRow.domain false) (Rows.replayAnySpec.post enc Tryz.prog Tryz.f4 false true false false) := by
  refine returnsInHanded_of_change_sized (C := Tryz.checked) own started (by kernel_rfl) Tryz.func4
    (ChangeSpec.witness6 (enc := enc) (C := Tryz.checked) false ⟨#[], #[.agg #[.slice none 0 0, .int .i64 0, .int .i64 0], .slice none 0 0, .slice none 0 0], []⟩ 8 (by kernel_rfl) (by kernel_rfl) (by kernel_rfl) (by kernel_rfl)) ?_
  intro W base args ds gs before hval0 hW hcnd hsz0 _
  have hsz : (DataW.weightsEach Tryz.prog (Tryz.f4.params.toList ++ Rows.replayAnySpec.plain.varTypes Tryz.prog) (ds ++ gs)).all (· ≤ reachBytes) = true := hsz0
  clear hsz0
  have hval : ∀ (j : Nat) t v, Tryz.f4.params[j]? = some t → args[j]? = some v → Value.okWide Tryz.prog W .any base t v := hval0
  have hW' := hW
  obtain ⟨p, q, hA0, hV, rfl, hfz, hnd⟩ := hW
  have hA : DataW.TrodAll enc Tryz.prog W 0 (fun _ => true) true Tryz.f4.params.toList args.toList ds p := hA0
  rw [Tryz.params4] at hA hval hsz
  obtain ⟨v0, vs0, d0, ds0, p0, q0, hargs, rfl, rfl, h0, r0⟩ := trodAll_cons hA
  obtain ⟨v1, vs1, d1, ds1, p1, q1, rfl, rfl, rfl, h1, r1⟩ := trodAll_cons r0
  obtain ⟨v2, vs2, d2, ds2, p2, q2, rfl, rfl, rfl, h2, r2⟩ := trodAll_cons r1
  obtain ⟨rfl, rfl, rfl⟩ := trodAll_nil r2
  obtain rfl : args = #[v0, v1, v2] := by cases args; simp_all
  obtain ⟨rfl, rfl⟩ := trodVars_none hV
  have k0 := h0
  have lt0 : ∀ x ∈ p0, x.block < W.heap.size := by obtain ⟨m, hm⟩ := k0; exact DataW.trod_lt m _ _ _ hm
  have wz0 : ∀ z ∈ d0.weights Tryz.prog 44, z ≤ reachBytes := fun z hz => by simpa using List.all_eq_true.1 hsz z (DataW.weights_mem_each (j := 0) rfl rfl z hz)
  obtain ⟨za0, zc0, zls0, zlast0, zwk0, rfl, zs0⟩ := begun_open (hval 0 44 v0 rfl rfl) h0 wz0
  obtain ⟨a1, len1, cap1, rfl⟩ := okWide_slice Tryz.underlying45 (hval 1 45 v1 rfl rfl)
  have k1 := h1
  have lt1 : ∀ x ∈ p1, x.block < W.heap.size := by obtain ⟨m, hm⟩ := k1; exact DataW.trod_lt m _ _ _ hm
  have wz1 : ∀ z ∈ d1.weights Tryz.prog 45, z ≤ reachBytes := fun z hz => by simpa using List.all_eq_true.1 hsz z (DataW.weights_mem_each (j := 1) rfl rfl z hz)
  obtain ⟨ls1, hl1, hb1, hr1, hz1⟩ : ∃ ls : List Rec, len1 = ls.length ∧ len1 * 80 ≤ 140737488355328 ∧ Recs W a1 cap1 ls ∧ ∀ r ∈ ls, r.key.size ≤ 140737488351232 ∧ r.val.size ≤ 140737488351232 := by
    obtain ⟨fuel, hf⟩ := h1
    exact recs_open2 hf wz1
  obtain ⟨a2, len2, cap2, rfl⟩ := okWide_slice Tryz.underlying31 (hval 2 31 v2 rfl rfl)
  have k2 := h2
  have lt2 : ∀ x ∈ p2, x.block < W.heap.size := by obtain ⟨m, hm⟩ := k2; exact DataW.trod_lt m _ _ _ hm
  have wz2 : ∀ z ∈ d2.weights Tryz.prog 31, z ≤ reachBytes := fun z hz => by simpa using List.all_eq_true.1 hsz z (DataW.weights_mem_each (j := 2) rfl rfl z hz)
  obtain ⟨xs2, hl2, hb2, hr2, hw2⟩ : ∃ xs : List Int, len2 = xs.length ∧ xs.length ≤ 17592186043904 ∧ Is W a2 cap2 xs ∧ ∀ x ∈ xs, wfI x := by
    obtain ⟨fuel, hf⟩ := h2
    exact ints_open hf wz2
  clear hA0 hval0
  refine (walk W za0 zc0 zls0 zlast0 zwk0 zs0 a1 len1 cap1 ls1 hl1 hb1 hr1 hz1 a2 len2 cap2 xs2 hl2 hb2 hr2 hw2).mono fun e W' ⟨he, fr⟩ => ?_
  have bel : Below W.heap.size W W' := fr.below (Nat.le_refl _) (fun _ f => f.elim)
  subst he
  exact ⟨_, rfl, _, _, _, [], _, [], hW', trodAll_mk1 (shut_bool Tryz.underlying4 _), (trodAll_cons_mk (Below.trod laidOut (by kernel_rfl) (of_decide_eq_true (by kernel_rfl)) k0 bel lt0) (trodAll_cons_mk (Below.trod laidOut (by kernel_rfl) (of_decide_eq_true (by kernel_rfl)) k1 bel lt1) (trodAll_cons_mk (Below.trod laidOut (by kernel_rfl) (of_decide_eq_true (by kernel_rfl)) k2 bel lt2) trodAll_mk0))), rfl, bel.frame _, fun h => by cases h⟩

theorem proved : Rows.ReplayAnySaid :=
  OpenClaim.holds_of_wide 4 Tryz.f4 rfl rfl rfl rfl rfl rfl rfl ⟨rfl, rfl, rfl, rfl, rfl⟩ rfl rfl rfl rfl rfl (by kernel_rfl) Tryz.func4 (by kernel_rfl)
    (of_decide_eq_true (by kernel_rfl)) (by unfold Func.isWrapper; first | (rw [if_pos (by decide +kernel)]; kernel_rfl) | (rw [if_neg (by decide +kernel)]; exact ⟨rfl, rfl⟩))
    (fun os started H enc _ => lifted os started H enc)
end Go.Proofs.YtkibbojiflklpaaGreat.replayAny
namespace Go.Proofs.YtkibbojiflklpaaGreat
theorem replayAny_holds : Rows.ReplayAnySaid := replayAny.proved
#print axioms replayAny_holds
end Go.Proofs.YtkibbojiflklpaaGreat
