
/- For any records and any key, what fold.Answer gets of the map behind the whole history is what the last write of that key says, and the example speaks; with no condition but those of the statement's own form. -/
import Derived.Test.YtdlnflcjodpkiaaGreatArgs
import Derived.Test.YtdlnflcjodpkiaaGreatFdSpk
import Derived.Test.YtdlnflcjodpkiaaGreatFdArg
import Derived.Test.YtdlnflcjodpkiaaGreatFdLst
import Derived.Test.YtdlnflcjodpkiaaGreatFdAns2
namespace Go.Proofs.YtdlnflcjodpkiaaGreat.foldLast
open Go.ChangeShapes Go.WideShapes Go.ChangeAt Go.RowKit
open Go.ChangeMaps (open_string shut_string)
set_option linter.unusedVariables false

theorem own : ownKnob Tryz.prog.godebug = none := by kernel_rfl
theorem laidOut : laidOutB Tryz.prog = true := by kernel_rfl
theorem bytes8 : Tryz.prog.bytesOf 5 = 1 := by kernel_rfl

open Go.RowKit Go.Shelf
theorem set_mid {W : World} {B : Nat} {c0 c1 c2 : Value} {t : TypeId} (h : W.heap[B]? = some (.cells #[c0, c1, c2] t (0, 0))) (u1 : Value) : (W.setCell ⟨B, 1, none⟩ u1).heap[B]? = some (.cells #[c0, u1, c2] t (0, 0)) := by
  obtain ⟨hlt, he⟩ := Array.getElem?_eq_some_iff.1 h
  show (W.heap.modify B _)[B]? = _
  rw [Array.getElem?_eq_getElem (by rw [Array.size_modify]; exact hlt), Array.getElem_modify_self, he]
  simp
set_option maxRecDepth 100000 in
set_option maxHeartbeats 4000000 in
theorem walk (w : World) (a0 : Option Addr) (len0 cap0 : Nat) (ls : List Rec) (hl0 : len0 = ls.length) (hb0 : len0 * 80 ≤ 140737488355328) (hr0 : Recs w a0 cap0 ls) (hz0 : ∀ r ∈ ls, r.key.size ≤ 140737488351232 ∧ r.val.size ≤ 140737488351232) (s : ByteArray) (z : s.size ≤ 140737488351232) :
    Calls Tryz.prog 7 #[.slice a0 len0 cap0, .string s] w fun e w' => e = .returned (.bool true) ∧ Fr (fun _ => False) w w' := by
  have HSP : Hid (∀ W, Calls Tryz.prog 13 #[] W fun e w' => e = .returned (.bool true) ∧ Fr (fun _ => False) W w') := speaks_any
  by_cases hbig : 2000 < len0
  · have hle := hr0.le
    have hmx := hr0.max
    clear hr0 hz0 hl0
    go_enter Tryz.func7, Tryz.ntmps7
    go_wp2_with (go_at_call 13; refine (HSP.out _).mono ?_; rintro e w2 ⟨rfl, f2⟩)
    go_ret
    exact ⟨rfl, f2⟩
  have hf : len0 ≤ 2000 := by omega
  have HB : Hid (∀ W, Fr (fun _ => False) w W → Calls Tryz.prog 14 #[.slice a0 len0 cap0, .int .i64 (hist ls).length] W (BhOut W (beh (hist ls)) 0)) := fun W f => by
    have h := behind_ok a0 len0 cap0 ls hl0 (by omega) (hist ls).length (Nat.le_refl _) W (hr0.same f)
    rwa [List.take_of_length_le (Nat.le_refl _)] at h
  have HH : Hid (∀ W, Fr (fun _ => False) w W → Calls Tryz.prog 17 #[.slice a0 len0 cap0] W (RcOut W (hist ls))) := fun W f => history_any a0 len0 cap0 ls hl0 (by omega) W (hr0.same f)
  have hlb : (beh (hist ls)).length ≤ 2000 := by have := len_beh (hist ls); have := hist_len ls; omega
  have HA : Hid (∀ b c W, Ens W b c (beh (hist ls)) → Calls Tryz.prog 20 #[.slice b (beh (hist ls)).length c, .agg #[.int .i64 1, .string s, .string ⟨#[]⟩]] W (AnsOut W ⟨wnF (hist ls) s, wnV (hist ls) s, []⟩ 0)) := fun b c W h => by
    have h := answer_any ⟨1, s, ⟨#[]⟩⟩ (by unfold maxLen; show s.size ≤ _; omega) (by unfold maxLen; show (0 : Nat) ≤ _; omega) b _ c (beh (hist ls)) rfl (by omega) W h
    rwa [(ans_get ls s).1, (ans_get ls s).2] at h
  have hlh : (hist ls).length ≤ 2000 := by have := hist_len ls; omega
  obtain ⟨L, hL⟩ : ∃ L, L = beh (hist ls) := ⟨_, rfl⟩
  rw [← hL] at HB HA hlb
  clear hL
  obtain ⟨hs, hhs⟩ : ∃ hs, hs = hist ls := ⟨_, rfl⟩
  rw [← hhs] at HB HA HH hlh
  obtain ⟨m, hm⟩ : ∃ m, m = hs.length := ⟨_, rfl⟩
  obtain ⟨q, hq⟩ : ∃ q, q = L.length := ⟨_, rfl⟩
  have HM : Hid (m = hs.length) := hm
  have HQ : Hid (q = L.length) := hq
  have hle := hr0.le
  have hmx := hr0.max
  unfold BhOut at HB
  unfold RcOut at HH
  unfold AnsOut at HA
  dsimp only [List.length_nil] at HA
  rw [← hm] at HB HH hlh
  rw [← hq] at HB HA hlb
  obtain ⟨fa, hfa⟩ : ∃ fa, fa = wnF hs s := ⟨_, rfl⟩
  obtain ⟨va, hva⟩ : ∃ va, va = wnV hs s := ⟨_, rfl⟩
  have HFA : Hid (fa = wnF hs s) := hfa
  have HVA : Hid (va = wnV hs s) := hva
  rw [← hfa, ← hva] at HA
  have HPE : Hid (∀ b1 d1 W, Ens W b1 d1 [] → Calls Tryz.prog 22 #[.agg #[.bool fa, .string va, .slice b1 0 d1], .agg #[.bool fa, .string va, .slice none 0 0]] W fun e w' => e = .returned (.bool true) ∧ Fr (fun _ => False) W w') := fun b1 d1 W h1 => res_same fa va b1 none 0 0 d1 0 [] rfl rfl W h1 (Ens.nil W)
  clear hr0 hz0 hl0 hhs hm hq hfa hva
  have HF0 : Hid (Fr (fun _ => False) w w) := Fr.refl _ _
  go_enter Tryz.func7, Tryz.ntmps7
  have hh := HH.out w HF0.out
  go_wp2_with fail
  refine hh.mono ?_
  rintro e w2 ⟨b2, c2, rfl, r2, _, f2⟩
  have HR2 : Hid (Recs w2 b2 c2 hs) := r2
  have HC2 : m ≤ c2 := by rw [HM.out]; exact r2.le
  have HD2 := r2.max
  have HF2 : Hid (Fr (fun _ => False) w w2) := f2
  have hb := HB.out w2 f2
  clear r2 f2 hh HH HB HF0
  go_wp2_with fail
  refine hb.mono ?_
  rintro e w3 ⟨b3, c3, rfl, e3, _, f3⟩
  have HR3 : Hid (Recs w3 b2 c2 hs) := HR2.out.same f3
  have HE3 : Hid (Ens w3 b3 c3 L) := e3
  have HF3 : Hid (Fr (fun _ => False) w w3) := HF2.out.seq' f3
  clear e3 f3 hb HF2 HR2
  obtain ⟨B, hB⟩ : ∃ B, B = w3.heap.size := ⟨_, rfl⟩
  have HBE : Hid (w3.heap.size = B) := hB.symm
  have HBX : Hid ((w3.alloc (.cells #[.bool false, .string ⟨#[]⟩, .slice none 0 0] 37)).heap[B]? = some (.cells #[.bool false, .string ⟨#[]⟩, .slice none 0 0] 37 (0, 0))) := by rw [hB]; exact heap_alloc_new w3 _
  have HGX : Hid (Fr (fun _ => False) w3 (w3.alloc (.cells #[.bool false, .string ⟨#[]⟩, .slice none 0 0] 37))) := Fr.box w3 _
  have hmi : (m : Int) ≤ 2000 := by omega
  clear hB
  go_wp2_with fail
  go_loopw [29] (fun i wr => ∃ k : Nat, k ≤ m ∧ i = .int .i64 k ∧ Hid (wr.heap[B]? = some (.cells #[.bool (wnF (hs.take k) s), .string (wnV (hs.take k) s), .slice none 0 0] 37 (0, 0))) ∧ Hid (Fr (fun _ => False) w3 wr)) (fun i _ => m - (intOf i).toNat)
  case atStart => exact ⟨0, by omega, rfl, HBX.out, HGX.out⟩
  case round =>
    obtain ⟨k, hk, rfl, HX, HF⟩ := hrel
    rw [HBE.out]
    have HBL : Hid (B < wr.heap.size) := (Array.getElem?_eq_some_iff.1 HX.out).1
    by_cases hlt : k < m
    · obtain ⟨r, hr⟩ : ∃ r, hs[k]? = some r := ⟨_, List.getElem?_eq_getElem (by have := HM.out; omega)⟩
      obtain ⟨bb, off, rfl, hbb, hcc⟩ := (HR3.out.same HF.out).some (by have := HM.out; omega)
      have HPU : Hid (r.key = s → r.other = 1 → wnF (hs.take (k + 1)) s = true ∧ wnV (hs.take (k + 1)) s = r.val) := wn_put hr
      have HDE : Hid (r.key = s → r.other ≠ 1 → wnF (hs.take (k + 1)) s = false ∧ wnV (hs.take (k + 1)) s = ⟨#[]⟩) := wn_del hr
      have HNT : Hid (r.key ≠ s → wnF (hs.take (k + 1)) s = wnF (hs.take k) s ∧ wnV (hs.take (k + 1)) s = wnV (hs.take k) s) := wn_not hr
      have hqq := rec_range (hcc k r hr)
      obtain ⟨lsn, ep, kind, page, other, req, key, val⟩ := r
      dsimp only at hqq HPU HDE HNT
      obtain ⟨q0, q1, q2, q3, q4, q5, q6, q7⟩ := hqq
      have hki : (k : Int) < (m : Int) := by omega
      obtain ⟨f1, hf1⟩ : ∃ x, x = wnF (hs.take (k + 1)) s := ⟨_, rfl⟩
      obtain ⟨v1, hv1⟩ : ∃ x, x = wnV (hs.take (k + 1)) s := ⟨_, rfl⟩
      obtain ⟨f0, hf0⟩ : ∃ x, x = wnF (hs.take k) s := ⟨_, rfl⟩
      obtain ⟨v0, hv0⟩ : ∃ x, x = wnV (hs.take k) s := ⟨_, rfl⟩
      rw [← hf1, ← hv1] at HPU HDE HNT
      rw [← hf0, ← hv0] at HX HNT
      have HEF : Hid (f1 = wnF (hs.take (k + 1)) s) := hf1
      have HEV : Hid (v1 = wnV (hs.take (k + 1)) s) := hv1
      have hx1 := (Fr.box wr (.cells #[.int .i64 lsn, .int .i64 ep, .int .i64 kind, .int .i64 page, .int .i64 other, .int .i64 req, .string key, .string val] 53)).blk HX.out (fun f => f)
      have HFX : Hid (Fr (fun _ => False) w3 (wr.alloc (.cells #[.int .i64 lsn, .int .i64 ep, .int .i64 kind, .int .i64 page, .int .i64 other, .int .i64 req, .string key, .string val] 53))) := HF.out.seq' (Fr.box wr _)
      obtain ⟨⟨g0, g1, g2⟩, z0, z1, z2⟩ := three_cells hx1
      obtain ⟨⟨p0, p1, p2, p3, p4, p5, p6, p7⟩, pz⟩ := rec_cells (heap_alloc_new wr (.cells #[.int .i64 lsn, .int .i64 ep, .int .i64 kind, .int .i64 page, .int .i64 other, .int .i64 req, .string key, .string val] 53))
      clear hr hcc hf1 hv1 hf0 hv0
      by_cases hks : key = s
      · subst hks
        by_cases ho : other = 1
        · subst ho
          obtain ⟨rfl, rfl⟩ := HPU.out rfl rfl
          have hs3 := set_all hx1 (.bool true) (.string ⟨#[]⟩) (.slice none 0 0)
          have hfr := set_fr (wr.alloc (.cells #[.int .i64 lsn, .int .i64 ep, .int .i64 kind, .int .i64 page, .int .i64 1, .int .i64 req, .string key, .string v1] 53)) B (.bool true) (.string ⟨#[]⟩) (.slice none 0 0)
          have hs4 := set_mid hs3 (.string v1)
          have hr4 := hfr.blk (heap_alloc_new wr (.cells #[.int .i64 lsn, .int .i64 ep, .int .i64 kind, .int .i64 page, .int .i64 1, .int .i64 req, .string key, .string v1] 53)) (by have := HBL.out; omega)
          obtain ⟨⟨y0, y1, y2⟩, x0, x1, x2⟩ := three_cells hs3
          obtain ⟨⟨o0, o1, o2, o3, o4, o5, o6, o7⟩, oz⟩ := rec_cells hr4
          have HFIN : Hid ((((((wr.alloc (.cells #[.int .i64 lsn, .int .i64 ep, .int .i64 kind, .int .i64 page, .int .i64 1, .int .i64 req, .string key, .string v1] 53)).setCell ⟨B, 0, none⟩ (.bool true)).setCell ⟨B, 1, none⟩ (.string ⟨#[]⟩)).setCell ⟨B, 2, none⟩ (.slice none 0 0)).setCell ⟨B, 1, none⟩ (.string v1)).heap[B]? = some (.cells #[.bool true, .string v1, .slice none 0 0] 37 (0, 0))) := hs4
          have HFF : Hid (Fr (fun _ => False) w3 (((((wr.alloc (.cells #[.int .i64 lsn, .int .i64 ep, .int .i64 kind, .int .i64 page, .int .i64 1, .int .i64 req, .string key, .string v1] 53)).setCell ⟨B, 0, none⟩ (.bool true)).setCell ⟨B, 1, none⟩ (.string ⟨#[]⟩)).setCell ⟨B, 2, none⟩ (.slice none 0 0)).setCell ⟨B, 1, none⟩ (.string v1))) := HFX.out.trans (hfr.setCell (p := ⟨B, 1, none⟩) (fun _ => rfl) _) (fun i hi e => by have := HBE.out; omega)
          clear hs3 hfr hs4 hr4 hx1 HX HF HFX HPU HDE HNT pz oz
          go_wp2
          go_roundw
          case rel => exact ⟨k + 1, by omega, by go_num, by rw [← HEF.out, ← HEV.out]; exact HFIN.out, HFF.out⟩
          case measure => simp [intOf]; omega
        · obtain ⟨rfl, rfl⟩ := HDE.out rfl ho
          have hob : (other == 1) = false := by simpa using ho
          have hs3 := set_all hx1 (.bool false) (.string ⟨#[]⟩) (.slice none 0 0)
          have hfr := set_fr (wr.alloc (.cells #[.int .i64 lsn, .int .i64 ep, .int .i64 kind, .int .i64 page, .int .i64 other, .int .i64 req, .string key, .string val] 53)) B (.bool false) (.string ⟨#[]⟩) (.slice none 0 0)
          have hr4 := hfr.blk (heap_alloc_new wr (.cells #[.int .i64 lsn, .int .i64 ep, .int .i64 kind, .int .i64 page, .int .i64 other, .int .i64 req, .string key, .string val] 53)) (by have := HBL.out; omega)
          obtain ⟨⟨y0, y1, y2⟩, x0, x1, x2⟩ := three_cells hs3
          obtain ⟨⟨o0, o1, o2, o3, o4, o5, o6, o7⟩, oz⟩ := rec_cells hr4
          have HFIN : Hid (((((wr.alloc (.cells #[.int .i64 lsn, .int .i64 ep, .int .i64 kind, .int .i64 page, .int .i64 other, .int .i64 req, .string key, .string val] 53)).setCell ⟨B, 0, none⟩ (.bool false)).setCell ⟨B, 1, none⟩ (.string ⟨#[]⟩)).setCell ⟨B, 2, none⟩ (.slice none 0 0)).heap[B]? = some (.cells #[.bool false, .string ⟨#[]⟩, .slice none 0 0] 37 (0, 0))) := hs3
          have HFF : Hid (Fr (fun _ => False) w3 ((((wr.alloc (.cells #[.int .i64 lsn, .int .i64 ep, .int .i64 kind, .int .i64 page, .int .i64 other, .int .i64 req, .string key, .string val] 53)).setCell ⟨B, 0, none⟩ (.bool false)).setCell ⟨B, 1, none⟩ (.string ⟨#[]⟩)).setCell ⟨B, 2, none⟩ (.slice none 0 0))) := HFX.out.trans hfr (fun i hi e => by have := HBE.out; omega)
          clear hs3 hfr hr4 hx1 HX HF HFX HPU HDE HNT pz oz
          go_wp2
          go_roundw
          case rel => exact ⟨k + 1, by omega, by go_num, by rw [← HEF.out, ← HEV.out]; exact HFIN.out, HFF.out⟩
          case measure => simp [intOf]; omega
      · obtain ⟨rfl, rfl⟩ := HNT.out hks
        have hkb : (key.toList == s.toList) = false := by rw [beq_bytes]; simpa using hks
        have HFIN : Hid ((wr.alloc (.cells #[.int .i64 lsn, .int .i64 ep, .int .i64 kind, .int .i64 page, .int .i64 other, .int .i64 req, .string key, .string val] 53)).heap[B]? = some (.cells #[.bool f1, .string v1, .slice none 0 0] 37 (0, 0))) := hx1
        clear hx1 HX HF HPU HDE HNT pz
        go_wp2
        go_roundw
        case rel => exact ⟨k + 1, by omega, by go_num, by rw [← HEF.out, ← HEV.out]; exact HFIN.out, HFX.out⟩
        case measure => simp [intOf]; omega
    · obtain rfl : k = m := by omega
      have hx := HX.out
      rw [HM.out, List.take_of_length_le (Nat.le_refl _), ← HFA.out, ← HVA.out] at hx
      have HE4 : Hid (Ens wr b3 c3 L) := HE3.out.same HF.out
      have HF4 : Hid (Fr (fun _ => False) w wr) := HF3.out.seq' HF.out
      obtain ⟨⟨g0, g1, g2⟩, z0, z1, z2⟩ := three_cells hx
      have ha := HA.out b3 c3 wr HE4.out
      have HWB : Hid (wr.heap[B]? = some (.cells #[.bool fa, .string va, .slice none 0 0] 37 (0, 0))) := hx
      clear hx HX HM HR3 HE3 HF HF3 HBX HGX z0 z1 z2 g0 g1 g2
      go_wp2_with fail
      refine ha.mono ?_
      rintro e w5 ⟨b5, d5, rfl, e5, _, f5⟩
      have HG5 : Hid (Fr (fun _ => False) w5 (w5.alloc (.cells #[.bool fa, .string va, .slice b5 0 d5] 37))) := Fr.box w5 _
      have HE5 : Hid (Ens (w5.alloc (.cells #[.bool fa, .string va, .slice b5 0 d5] 37)) b5 d5 []) := e5.same HG5.out
      have HF5 : Hid (Fr (fun _ => False) w (w5.alloc (.cells #[.bool fa, .string va, .slice b5 0 d5] 37))) := (HF4.out.seq' f5).seq' HG5.out
      obtain ⟨⟨y0, y1, y2⟩, _⟩ := three_cells ((f5.seq' HG5.out).blk HWB.out (fun f => f))
      obtain ⟨⟨x0, x1, x2⟩, _⟩ := three_cells (heap_alloc_new w5 (.cells #[.bool fa, .string va, .slice b5 0 d5] 37))
      have hpe := HPE.out b5 d5 _ HE5.out
      clear ha HA f5 e5 HG5 HF4 HE4
      go_wp2_with fail
      refine hpe.mono ?_
      rintro e w6 ⟨rfl, f6⟩
      have HF6 : Hid (Fr (fun _ => False) w w6) := HF5.out.seq' f6
      have hsp := HSP.out w6
      clear hpe HPE f6 HF5 x0 x1 x2 y0 y1 y2
      go_wp2_with fail
      refine hsp.mono ?_
      rintro e w8 ⟨rfl, f8⟩
      have HF8 : Hid (Fr (fun _ => False) w w8) := HF6.out.seq' f8
      clear f8 hsp HF6
      go_wp2_with fail
      go_ret
      exact ⟨rfl, HF8.out⟩

set_option maxRecDepth 100000 in
theorem lifted (os : Os) (started : os.Started) (H : Type) (enc : TypeId × Value → H) :
    ReturnsInHanded {} Tryz.checked os 7 .any (Rows.foldLastSpec.pre6 enc Tryz.prog Tryz.f7 Rows.foldLastRow.domain false) (Rows.foldLastSpec.post enc Tryz.prog Tryz.f7 false true false false) := by
  refine returnsInHanded_of_change_sized (C := Tryz.checked) own started (by kernel_rfl) Tryz.func7
    (ChangeSpec.witness6 (enc := enc) (C := Tryz.checked) false ⟨#[], #[.slice none 0 0, .string ByteArray.empty], []⟩ 8 (by kernel_rfl) (by kernel_rfl) (by kernel_rfl) (by kernel_rfl)) ?_
  intro W base args ds gs before hval0 hW hcnd hsz0 _
  have hsz : (DataW.weightsEach Tryz.prog (Tryz.f7.params.toList ++ Rows.foldLastSpec.plain.varTypes Tryz.prog) (ds ++ gs)).all (· ≤ reachBytes) = true := hsz0
  clear hsz0
  have hval : ∀ (j : Nat) t v, Tryz.f7.params[j]? = some t → args[j]? = some v → Value.okWide Tryz.prog W .any base t v := hval0
  have hW' := hW
  obtain ⟨p, q, hA0, hV, rfl, hfz, hnd⟩ := hW
  have hA : DataW.TrodAll enc Tryz.prog W 0 (fun _ => true) true Tryz.f7.params.toList args.toList ds p := hA0
  rw [Tryz.params7] at hA hval hsz
  obtain ⟨v0, vs0, d0, ds0, p0, q0, hargs, rfl, rfl, h0, r0⟩ := trodAll_cons hA
  obtain ⟨v1, vs1, d1, ds1, p1, q1, rfl, rfl, rfl, h1, r1⟩ := trodAll_cons r0
  obtain ⟨rfl, rfl, rfl⟩ := trodAll_nil r1
  obtain rfl : args = #[v0, v1] := by cases args; simp_all
  obtain ⟨rfl, rfl⟩ := trodVars_none hV
  obtain ⟨a0, len0, cap0, rfl⟩ := okWide_slice Tryz.underlying22 (hval 0 22 v0 rfl rfl)
  have k0 := h0
  have lt0 : ∀ x ∈ p0, x.block < W.heap.size := by obtain ⟨m, hm⟩ := k0; exact DataW.trod_lt m _ _ _ hm
  have wz0 : ∀ z ∈ d0.weights Tryz.prog 22, z ≤ reachBytes := fun z hz => by simpa using List.all_eq_true.1 hsz z (DataW.weights_mem_each (j := 0) rfl rfl z hz)
  obtain ⟨ls0, hl0, hb0, hr0, hz0⟩ : ∃ ls : List Rec, len0 = ls.length ∧ len0 * 80 ≤ 140737488355328 ∧ Recs W a0 cap0 ls ∧ ∀ r ∈ ls, r.key.size ≤ 140737488351232 ∧ r.val.size ≤ 140737488351232 := by
    obtain ⟨fuel, hf⟩ := h0
    exact recs_open2 hf wz0
  obtain ⟨s1, rfl, rfl, rfl, w1⟩ := open_string Tryz.underlying9 (hval 1 9 v1 rfl rfl) h1
  have z1 : s1.size ≤ 140737488351232 := by
    have := sized_string hsz (j := 1) (t := 9) rfl rfl
    simpa [reachBytes] using this
  clear hA0 hval0
  refine (walk W a0 len0 cap0 ls0 hl0 hb0 hr0 hz0 s1 z1).mono fun e W' ⟨he, fr⟩ => ?_
  have bel : Below W.heap.size W W' := fr.below (Nat.le_refl _) (fun _ f => f.elim)
  subst he
  exact ⟨_, rfl, _, _, _, [], _, [], hW', trodAll_mk1 (shut_bool Tryz.underlying4 _), (trodAll_cons_mk (Below.trod laidOut (by kernel_rfl) (of_decide_eq_true (by kernel_rfl)) k0 bel lt0) (trodAll_cons_mk (shut_string Tryz.underlying9 w1) trodAll_mk0)), rfl, bel.frame _, fun h => by cases h⟩

theorem proved : Rows.FoldLastSaid :=
  OpenClaim.holds_of_wide 7 Tryz.f7 rfl rfl rfl rfl rfl rfl rfl ⟨rfl, rfl, rfl, rfl, rfl⟩ rfl rfl rfl rfl rfl (by kernel_rfl) Tryz.func7 (by kernel_rfl)
    (of_decide_eq_true (by kernel_rfl)) (by unfold Func.isWrapper; first | (rw [if_pos (by decide +kernel)]; kernel_rfl) | (rw [if_neg (by decide +kernel)]; exact ⟨rfl, rfl⟩))
    (fun os started H enc _ => lifted os started H enc)
end Go.Proofs.YtdlnflcjodpkiaaGreat.foldLast
namespace Go.Proofs.YtdlnflcjodpkiaaGreat
theorem foldLast_holds : Rows.FoldLastSaid := foldLast.proved
#print axioms foldLast_holds
end Go.Proofs.YtdlnflcjodpkiaaGreat
