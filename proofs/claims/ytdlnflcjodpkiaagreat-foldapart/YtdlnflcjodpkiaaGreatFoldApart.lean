
/- For any records and any key, what fold.Answer gets of the map behind the whole history is what it gets of the map behind the history of that key's own records, and the example speaks; with no condition but those of the statement's own form. -/
import Derived.Test.YtdlnflcjodpkiaaGreatArgs
import Derived.Test.YtdlnflcjodpkiaaGreatFdSpk
import Derived.Test.YtdlnflcjodpkiaaGreatFdArg
import Derived.Test.YtdlnflcjodpkiaaGreatFdLst
import Derived.Test.YtdlnflcjodpkiaaGreatFdAns2
import Derived.Deep.DeepCutAuto
namespace Go.Proofs.YtdlnflcjodpkiaaGreat.foldApart
open Go.ChangeShapes Go.WideShapes Go.ChangeAt Go.RowKit
open Go.ChangeMaps (open_string shut_string)
set_option linter.unusedVariables false

theorem own : ownKnob Tryz.prog.godebug = none := by kernel_rfl
theorem laidOut : laidOutB Tryz.prog = true := by kernel_rfl
theorem bytes8 : Tryz.prog.bytesOf 5 = 1 := by kernel_rfl

open Go.RowKit Go.Shelf
theorem own_yes {ls : List Rec} {k : Nat} {r : Rec} {s : ByteArray} (h : ls[k]? = some r) (hk : r.key = s) : owns (ls.take (k + 1)) s = owns (ls.take k) s ++ [r] := by
  unfold owns
  rw [take_one h, List.filter_append, List.filter_cons, if_pos (by simpa using hk)]
  rfl
theorem own_no {ls : List Rec} {k : Nat} {r : Rec} {s : ByteArray} (h : ls[k]? = some r) (hk : r.key ≠ s) : owns (ls.take (k + 1)) s = owns (ls.take k) s := by
  unfold owns
  rw [take_one h, List.filter_append, List.filter_cons, if_neg (by simpa using hk)]
  simp
theorem own_len (ls : List Rec) (s : ByteArray) : (owns ls s).length ≤ ls.length := List.length_filter_le _ _
theorem beh_all (a : Option Addr) (n c : Nat) (ls : List Rec) (hn : n = ls.length) (hf : n ≤ 100000) (W : World) (h : Recs W a c ls) : Calls Tryz.prog 14 #[.slice a n c, .int .i64 (hist ls).length] W fun e w' => ∃ b c, e = .returned (.tuple #[.slice b (beh (hist ls)).length c, .int .i64 0]) ∧ Ens w' b c (beh (hist ls)) ∧ Fr (fun _ => False) W w' := by
  have h := behind_ok a n c ls hn hf (hist ls).length (Nat.le_refl _) W h
  rw [List.take_of_length_le (Nat.le_refl _)] at h
  exact h.mono fun e w' ⟨b, c, h1, h2, _, h4⟩ => ⟨b, c, h1, h2, h4⟩
theorem hist_all (a : Option Addr) (n c : Nat) (ls : List Rec) (hn : n = ls.length) (hf : n ≤ 100000) (W : World) (h : Recs W a c ls) : Calls Tryz.prog 17 #[.slice a n c] W fun e w' => ∃ b c, e = .returned (.slice b (hist ls).length c) ∧ Fr (fun _ => False) W w' :=
  (history_any a n c ls hn (by omega) W h).mono fun e w' ⟨b, c, h1, _, _, h4⟩ => ⟨b, c, h1, h4⟩
theorem ans_all (ls : List Rec) (hf : ls.length ≤ 100000) (s : ByteArray) (z : s.size ≤ 140737488351232) (b : Option Addr) (c : Nat) (W : World) (h : Ens W b c (beh (hist ls))) : Calls Tryz.prog 20 #[.slice b (beh (hist ls)).length c, .agg #[.int .i64 1, .string s, .string ⟨#[]⟩]] W fun e w' => ∃ a c, e = .returned (.tuple #[.agg #[.bool (wnF (hist ls) s), .string (wnV (hist ls) s), .slice a 0 c], .int .i64 0]) ∧ Ens w' a c [] ∧ Fr (fun _ => False) W w' := by
  have hlb : (beh (hist ls)).length ≤ 100000 := by have := len_beh (hist ls); have := hist_len ls; omega
  have h := answer_any ⟨1, s, ⟨#[]⟩⟩ (by unfold maxLen; show s.size ≤ _; omega) (by unfold maxLen; show (0 : Nat) ≤ _; omega) b _ c (beh (hist ls)) rfl (by omega) W h
  rw [(ans_get ls s).1, (ans_get ls s).2] at h
  exact h.mono fun e w' ⟨b, c, h1, h2, _, h4⟩ => ⟨b, c, h1, h2, h4⟩
set_option maxRecDepth 100000 in
set_option maxHeartbeats 4000000 in
theorem walk (w : World) (a0 : Option Addr) (len0 cap0 : Nat) (ls : List Rec) (hl0 : len0 = ls.length) (hb0 : len0 * 80 ≤ 140737488355328) (hr0 : Recs w a0 cap0 ls) (hz0 : ∀ r ∈ ls, r.key.size ≤ 140737488351232 ∧ r.val.size ≤ 140737488351232) (s : ByteArray) (z : s.size ≤ 140737488351232) :
    Calls Tryz.prog 9 #[.slice a0 len0 cap0, .string s] w fun e w' => e = .returned (.bool true) ∧ Fr (fun _ => False) w w' := by
  have HSP : Hid (∀ W, Calls Tryz.prog 13 #[] W fun e w' => e = .returned (.bool true) ∧ Fr (fun _ => False) W w') := speaks_any
  obtain ⟨iR, hiR, hR0, hR1, hR2⟩ := info_parts infoRec
  by_cases hbig : 2000 < len0
  · have hle := hr0.le
    have hmx := hr0.max
    clear hr0 hz0 hl0
    go_enter Tryz.func9, Tryz.ntmps9
    go_wp2_with (go_at_call 13; refine (HSP.out _).mono ?_; rintro e w2 ⟨rfl, f2⟩)
    go_ret
    exact ⟨rfl, f2⟩
  have hf : len0 ≤ 2000 := by omega
  obtain ⟨os, hos⟩ : ∃ os, os = owns ls s := ⟨_, rfl⟩
  have ho2 : os.length ≤ 2000 := by rw [hos]; have := own_len ls s; omega
  have hw := wn_own ls s
  rw [← hos] at hw
  have HA1 : Hid (∀ b c W, Ens W b c (beh (hist ls)) → Calls Tryz.prog 20 #[.slice b (beh (hist ls)).length c, .agg #[.int .i64 1, .string s, .string ⟨#[]⟩]] W fun e w' => ∃ a c, e = .returned (.tuple #[.agg #[.bool (wnF (hist ls) s), .string (wnV (hist ls) s), .slice a 0 c], .int .i64 0]) ∧ Ens w' a c [] ∧ Fr (fun _ => False) W w') := fun b c W h => ans_all ls (by omega) s z b c W h
  have HA2 : Hid (∀ b c W, Ens W b c (beh (hist os)) → Calls Tryz.prog 20 #[.slice b (beh (hist os)).length c, .agg #[.int .i64 1, .string s, .string ⟨#[]⟩]] W fun e w' => ∃ a c, e = .returned (.tuple #[.agg #[.bool (wnF (hist ls) s), .string (wnV (hist ls) s), .slice a 0 c], .int .i64 0]) ∧ Ens w' a c [] ∧ Fr (fun _ => False) W w') := fun b c W h => by
    have h := ans_all os (by omega) s z b c W h
    rwa [hw.1, hw.2] at h
  have HH1 : Hid (∀ W, Fr (fun _ => False) w W → Calls Tryz.prog 17 #[.slice a0 len0 cap0] W fun e w' => ∃ b c, e = .returned (.slice b (hist ls).length c) ∧ Fr (fun _ => False) W w') := fun W f => hist_all a0 len0 cap0 ls hl0 (by omega) W (hr0.same f)
  have HB1 : Hid (∀ W, Fr (fun _ => False) w W → Calls Tryz.prog 14 #[.slice a0 len0 cap0, .int .i64 (hist ls).length] W fun e w' => ∃ b c, e = .returned (.tuple #[.slice b (beh (hist ls)).length c, .int .i64 0]) ∧ Ens w' b c (beh (hist ls)) ∧ Fr (fun _ => False) W w') := fun W f => beh_all a0 len0 cap0 ls hl0 (by omega) W (hr0.same f)
  have HH2 : Hid (∀ a n c W, n = os.length → Recs W a c os → Calls Tryz.prog 17 #[.slice a n c] W fun e w' => ∃ b c, e = .returned (.slice b (hist os).length c) ∧ Fr (fun _ => False) W w') := fun a n c W hn h => hist_all a n c os hn (by omega) W h
  have HB2 : Hid (∀ a n c W, n = os.length → Recs W a c os → Calls Tryz.prog 14 #[.slice a n c, .int .i64 (hist os).length] W fun e w' => ∃ b c, e = .returned (.tuple #[.slice b (beh (hist os)).length c, .int .i64 0]) ∧ Ens w' b c (beh (hist os)) ∧ Fr (fun _ => False) W w') := fun a n c W hn h => beh_all a n c os hn (by omega) W h
  have hp1 : (hist ls).length ≤ 2000 := by have := hist_len ls; omega
  have hp2 : (hist os).length ≤ 2000 := by have := hist_len os; omega
  have hq1 : (beh (hist ls)).length ≤ 2000 := by have := len_beh (hist ls); omega
  have hq2 : (beh (hist os)).length ≤ 2000 := by have := len_beh (hist os); omega
  generalize wnF (hist ls) s = fa at HA1 HA2
  generalize wnV (hist ls) s = va at HA1 HA2
  clear hw
  generalize hL1 : beh (hist ls) = L1 at HA1 HB1 hq1
  generalize hL2 : beh (hist os) = L2 at HA2 HB2 hq2
  clear hL1 hL2
  generalize (hist ls).length = p1 at HH1 HB1 hp1
  generalize (hist os).length = p2 at HH2 HB2 hp2
  generalize L1.length = q1 at HA1 HB1 hq1
  generalize L2.length = q2 at HA2 HB2 hq2
  have HPE : Hid (∀ b1 b2 d1 d2 W, Ens W b1 d1 [] → Ens W b2 d2 [] → Calls Tryz.prog 22 #[.agg #[.bool fa, .string va, .slice b1 0 d1], .agg #[.bool fa, .string va, .slice b2 0 d2]] W fun e w' => e = .returned (.bool true) ∧ Fr (fun _ => False) W w') := fun b1 b2 d1 d2 W h1 h2 => res_same fa va b1 b2 0 0 d1 d2 [] rfl rfl W h1 h2
  have hle : len0 ≤ cap0 := by rw [hl0]; exact hr0.le
  have hmx := hr0.max
  have HS : Hid (∀ W, Fr (fun _ => False) w W → Recs W a0 cap0 ls) := fun W f => hr0.same f
  have HN : Hid (len0 = ls.length) := hl0
  have HOS : Hid (os = owns ls s) := hos
  clear hr0 hz0 hl0 hos ho2
  go_enter Tryz.func9, Tryz.ntmps9
  go_wp2_with fail
  go_loopw [22, 5] (fun i o wr => ∃ (k m : Nat) (a' : Option Addr) (c' : Nat), k ≤ len0 ∧ i = .int .i64 k ∧ o = .slice a' m c' ∧ Hid (m = (owns (ls.take k) s).length) ∧ Hid (Has wr 8 (.slice a' m c') m ((owns (ls.take k) s).flatMap recC)) ∧ Hid (∀ g, (Value.slice a' m c').ownBlock = some g → w.heap.size ≤ g) ∧ Hid (Fr (fun _ => False) w wr)) (fun i _ _ => len0 - (intOf i).toNat)
  case atStart => exact ⟨0, 0, none, 0, by omega, rfl, rfl, rfl, Has.nil _ _, (fun g e => by cases e), Fr.refl _ _⟩
  case round =>
    obtain ⟨k, m, a', c', hk, rfl, rfl, HM, HH, HO, F⟩ := hrel
    by_cases hlt : k < len0
    · obtain ⟨r, hr⟩ : ∃ r, ls[k]? = some r := ⟨_, List.getElem?_eq_getElem (by have := HN.out; omega)⟩
      obtain ⟨bb, off, rfl, hbb, hcc⟩ := (HS.out _ F.out).some (by have := HN.out; omega)
      have HY : Hid (r.key = s → owns (ls.take (k + 1)) s = owns (ls.take k) s ++ [r]) := own_yes hr
      have HNO : Hid (r.key ≠ s → owns (ls.take (k + 1)) s = owns (ls.take k) s) := own_no hr
      have hml : m ≤ 1000000 := by have := HM.out; have := own_len (ls.take k) s; have : (ls.take k).length ≤ k := List.length_take_le _ _; omega
      have hqq := rec_range (hcc k r hr)
      obtain ⟨lsn, ep, kind, page, other, req, key, val⟩ := r
      dsimp only at hqq HY HNO
      obtain ⟨q0, q1', q2', q3, q4, q5, q6, q7⟩ := hqq
      have hki : (k : Int) < (len0 : Int) := by omega
      obtain ⟨⟨p0, p1', p2', p3, p4, p5, p6, p7⟩, qz⟩ := rec_cells (heap_alloc_new wr (.cells #[.int .i64 lsn, .int .i64 ep, .int .i64 kind, .int .i64 page, .int .i64 other, .int .i64 req, .string key, .string val] 53))
      have P6 := Fr.box (wr.alloc (.cells #[.int .i64 lsn, .int .i64 ep, .int .i64 kind, .int .i64 page, .int .i64 other, .int .i64 req, .string key, .string val] 53)) (.cells #[.int .i64 lsn, .int .i64 ep, .int .i64 kind, .int .i64 page, .int .i64 other, .int .i64 req, .string key, .string val] 53)
      have P5 := Fr.box wr (.cells #[.int .i64 lsn, .int .i64 ep, .int .i64 kind, .int .i64 page, .int .i64 other, .int .i64 req, .string key, .string val] 53)
      clear hr hcc qz
      by_cases hks : key = s
      · subst hks
        have HTK := HY.out rfl
        have HRW : Hid (Has ((wr.alloc (.cells #[.int .i64 lsn, .int .i64 ep, .int .i64 kind, .int .i64 page, .int .i64 other, .int .i64 req, .string key, .string val] 53)).alloc (.cells #[.int .i64 lsn, .int .i64 ep, .int .i64 kind, .int .i64 page, .int .i64 other, .int .i64 req, .string key, .string val] 53)) 8 (.slice a' m c') m ((owns (ls.take k) key).flatMap recC)) := HH.out.fr (P5.seq' P6) (fun _ _ f => f)
        have FF : Hid (Fr (fun _ => False) w ((wr.alloc (.cells #[.int .i64 lsn, .int .i64 ep, .int .i64 kind, .int .i64 page, .int .i64 other, .int .i64 req, .string key, .string val] 53)).alloc (.cells #[.int .i64 lsn, .int .i64 ep, .int .i64 kind, .int .i64 page, .int .i64 other, .int .i64 req, .string key, .string val] 53))) := F.out.seq' (P5.seq' P6)
        have HNE : Hid (From ((wr.alloc (.cells #[.int .i64 lsn, .int .i64 ep, .int .i64 kind, .int .i64 page, .int .i64 other, .int .i64 req, .string key, .string val] 53)).alloc (.cells #[.int .i64 lsn, .int .i64 ep, .int .i64 kind, .int .i64 page, .int .i64 other, .int .i64 req, .string key, .string val] 53)) (some ⟨(wr.alloc (.cells #[.int .i64 lsn, .int .i64 ep, .int .i64 kind, .int .i64 page, .int .i64 other, .int .i64 req, .string key, .string val] 53)).heap.size, 0, none⟩) (recC ⟨lsn, ep, kind, page, other, req, key, val⟩)) := .inr ⟨_, _, rfl, range_block (heap_alloc_new (wr.alloc (.cells #[.int .i64 lsn, .int .i64 ep, .int .i64 kind, .int .i64 page, .int .i64 other, .int .i64 req, .string key, .string val] 53)) _) (xs := recC ⟨lsn, ep, kind, page, other, req, key, val⟩) (o := 0) (fun j v hv => by rw [Nat.zero_add]; simpa [recC] using hv)⟩
        have HSZ : Hid ((wr.alloc (.cells #[.int .i64 lsn, .int .i64 ep, .int .i64 kind, .int .i64 page, .int .i64 other, .int .i64 req, .string key, .string val] 53)).heap.size = wr.heap.size + 1) := by show _ = _; simp
        rw [HSZ.out] at HNE
        clear P5 P6 HY HNO HSZ
        go_wp2_with (at_builtin; refine wpList_append_has _ rfl (.tmp 30) (.tmp 32) 22 22 53 53 rfl iR _ 8 80 Tryz.underlying22 Tryz.underlying22 hiR hR0 hR1 hR2 rfl (by omega) (.slice a' m c') m ((owns (ls.take k) key).flatMap recC) rfl HRW.out (some ⟨wr.heap.size + 1, 0, none⟩) 1 1 (recC ⟨lsn, ep, kind, page, other, req, key, val⟩) rfl rfl HNE.out (recC_one _) (by unfold maxLen; omega) (by omega) ?_; intro a4 c4 w8 ht4 f34 hat4)
        have HT5 : Hid (Has w8 8 (.slice a4 (m + 1) c4) (m + 1) ((owns (ls.take (k + 1)) key).flatMap recC)) := by
          show Has _ _ _ _ _
          rw [HTK, List.flatMap_append]
          simpa using ht4
        have HM5 : Hid (m + 1 = (owns (ls.take (k + 1)) key).length) := by show _ = _; rw [HTK]; have := HM.out; simp; omega
        have HO5 : Hid (∀ g, (Value.slice a4 (m + 1) c4).ownBlock = some g → w.heap.size ≤ g) := fun g e => by
          have hz := FF.out.size
          simp at hz
          rcases hat4 with h1 | h1
          · rw [h1] at e; exact HO.out g e
          · rw [h1] at e; simp at e; omega
        have F5 : Hid (Fr (fun _ => False) w w8) := FF.out.trans f34 (fun i hi e => by have := HO.out i e.1; omega)
        clear ht4 hat4 f34 FF q0 q1' q2' q3 q4 q5 q6 q7 p0 p1' p2' p3 p4 p5 p6 p7 HRW HNE HTK
        go_wp2
        go_roundw
        case rel => exact ⟨k + 1, m + 1, a4, c4, by omega, by go_num, rfl, HM5, HT5, HO5, F5⟩
        case measure => simp [intOf]; omega
      · have HTK := HNO.out hks
        have hkb : (key.toList == s.toList) = false := by rw [beq_bytes]; simpa using hks
        have HT5 : Hid (Has (wr.alloc (.cells #[.int .i64 lsn, .int .i64 ep, .int .i64 kind, .int .i64 page, .int .i64 other, .int .i64 req, .string key, .string val] 53)) 8 (.slice a' m c') m ((owns (ls.take (k + 1)) s).flatMap recC)) := by show Has _ _ _ _ _; rw [HTK]; exact HH.out.fr P5 (fun _ _ f => f)
        have HM5 : Hid (m = (owns (ls.take (k + 1)) s).length) := by show _ = _; rw [HTK]; exact HM.out
        have F5 : Hid (Fr (fun _ => False) w (wr.alloc (.cells #[.int .i64 lsn, .int .i64 ep, .int .i64 kind, .int .i64 page, .int .i64 other, .int .i64 req, .string key, .string val] 53))) := F.out.seq' P5
        clear HTK P5 P6 HY HNO
        go_wp2
        go_roundw
        case rel => exact ⟨k + 1, m, a', c', by omega, by go_num, rfl, HM5, HT5, HO, F5⟩
        case measure => simp [intOf]; omega
    · obtain rfl : k = len0 := by omega
      obtain ⟨hmo, hro⟩ : m = os.length ∧ Recs wr a' c' os := by
        have hh := HH.out
        have hm := HM.out
        rw [List.take_of_length_le (by have := HN.out; omega), ← HOS.out] at hh hm
        subst hm
        obtain ⟨a2, c2, e, hr⟩ := Recs.of hh
        simp only [Value.slice.injEq, true_and] at e
        obtain ⟨rfl, rfl⟩ := e
        exact ⟨rfl, hr⟩
      have HMO : Hid (m = os.length) := hmo
      have HRO : Hid (∀ W, Fr (fun _ => False) wr W → Recs W a' c' os) := fun W f => hro.same f
      have hmc : m ≤ c' := by rw [hmo]; exact hro.le
      have hcm := hro.max
      have HW : Hid (Fr (fun _ => False) wr wr) := Fr.refl _ _
      clear hmo hro HM HH HO HS HN HOS
      have h1 := HH1.out wr F.out
      go_wp2_with fail
      refine h1.mono ?_
      rintro e w1 ⟨b1, d1, rfl, f1⟩
      have HW1 : Hid (Fr (fun _ => False) wr w1) := f1
      have h2 := HB1.out w1 (F.out.seq' f1)
      clear h1 HH1 f1 HW
      go_wp2_with fail
      refine h2.mono ?_
      rintro e w2 ⟨b2, d2, rfl, e2, f2⟩
      have HW2 : Hid (Fr (fun _ => False) wr w2) := HW1.out.seq' f2
      have HE2 : Hid (Ens w2 b2 d2 L1) := e2
      have h3 := HH2.out a' m c' w2 HMO.out (HRO.out w2 HW2.out)
      clear h2 HB1 f2 e2 HW1
      go_wp2_with fail
      refine h3.mono ?_
      rintro e w3 ⟨b3, d3, rfl, f3⟩
      have HW3 : Hid (Fr (fun _ => False) wr w3) := HW2.out.seq' f3
      have HE3 : Hid (Ens w3 b2 d2 L1) := HE2.out.same f3
      have h4 := HB2.out a' m c' w3 HMO.out (HRO.out w3 HW3.out)
      clear h3 HH2 f3 HW2 HE2
      go_wp2_with fail
      refine h4.mono ?_
      rintro e w4 ⟨b4, d4, rfl, e4, f4⟩
      have HW4 : Hid (Fr (fun _ => False) wr w4) := HW3.out.seq' f4
      have HE4 : Hid (Ens w4 b2 d2 L1) := HE3.out.same f4
      have HG4 : Hid (Ens w4 b4 d4 L2) := e4
      have h5 := HA1.out b2 d2 w4 HE4.out
      clear h4 HB2 f4 e4 HW3 HE3 HRO HMO
      go_wp2_with fail
      refine h5.mono ?_
      rintro e w5 ⟨b5, d5, rfl, e5, f5⟩
      have HX5 : Hid (Fr (fun _ => False) w5 (w5.alloc (.cells #[.bool fa, .string va, .slice b5 0 d5] 37))) := Fr.box w5 _
      have HW5 : Hid (Fr (fun _ => False) wr (w5.alloc (.cells #[.bool fa, .string va, .slice b5 0 d5] 37))) := (HW4.out.seq' f5).seq' HX5.out
      have HE5 : Hid (Ens (w5.alloc (.cells #[.bool fa, .string va, .slice b5 0 d5] 37)) b5 d5 []) := e5.same HX5.out
      have HB5 : Hid ((w5.alloc (.cells #[.bool fa, .string va, .slice b5 0 d5] 37)).heap[w5.heap.size]? = some (.cells #[.bool fa, .string va, .slice b5 0 d5] 37 (0, 0))) := heap_alloc_new w5 _
      have h6 := HA2.out b4 d4 _ (HG4.out.same (f5.seq' HX5.out))
      clear h5 HA1 f5 e5 HW4 HE4 HG4 HX5
      go_wp2_with fail
      refine h6.mono ?_
      rintro e w6 ⟨b6, d6, rfl, e6, f6⟩
      have HX6 : Hid (Fr (fun _ => False) w6 (w6.alloc (.cells #[.bool fa, .string va, .slice b6 0 d6] 37))) := Fr.box w6 _
      have HW6 : Hid (Fr (fun _ => False) wr (w6.alloc (.cells #[.bool fa, .string va, .slice b6 0 d6] 37))) := (HW5.out.seq' f6).seq' HX6.out
      have HE6 : Hid (Ens (w6.alloc (.cells #[.bool fa, .string va, .slice b6 0 d6] 37)) b5 d5 []) := HE5.out.same (f6.seq' HX6.out)
      have HG6 : Hid (Ens (w6.alloc (.cells #[.bool fa, .string va, .slice b6 0 d6] 37)) b6 d6 []) := e6.same HX6.out
      obtain ⟨⟨y0, y1, y2⟩, _⟩ := three_cells ((f6.seq' HX6.out).blk HB5.out (fun f => f))
      obtain ⟨⟨x0, x1, x2⟩, _⟩ := three_cells (heap_alloc_new w6 (.cells #[.bool fa, .string va, .slice b6 0 d6] 37))
      have h7 := HPE.out b5 b6 d5 d6 _ HE6.out HG6.out
      clear h6 HA2 f6 e6 HW5 HE5 HX6 HB5
      go_wp2_with fail
      refine h7.mono ?_
      rintro e w7 ⟨rfl, f7⟩
      have HW7 : Hid (Fr (fun _ => False) wr w7) := HW6.out.seq' f7
      have hsp := HSP.out w7
      clear h7 HPE f7 HW6 x0 x1 x2 y0 y1 y2
      go_wp2_with fail
      refine hsp.mono ?_
      rintro e w8 ⟨rfl, f8⟩
      have HF8 : Hid (Fr (fun _ => False) w w8) := F.out.seq' (HW7.out.seq' f8)
      clear f8 hsp HW7
      go_wp2_with fail
      go_ret
      exact ⟨rfl, HF8.out⟩

set_option maxRecDepth 100000 in
theorem lifted (os : Os) (started : os.Started) (H : Type) (enc : TypeId × Value → H) :
    ReturnsInHanded {} Tryz.checked os 9 .any (Rows.foldApartSpec.pre6 enc Tryz.prog Tryz.f9 Rows.foldApartRow.domain false) (Rows.foldApartSpec.post enc Tryz.prog Tryz.f9 false true false false) := by
  refine returnsInHanded_of_change_sized (C := Tryz.checked) own started (by kernel_rfl) Tryz.func9
    (ChangeSpec.witness6 (enc := enc) (C := Tryz.checked) false ⟨#[], #[.slice none 0 0, .string ByteArray.empty], []⟩ 8 (by kernel_rfl) (by kernel_rfl) (by kernel_rfl) (by kernel_rfl)) ?_
  intro W base args ds gs before hval0 hW hcnd hsz0 _
  have hsz : (DataW.weightsEach Tryz.prog (Tryz.f9.params.toList ++ Rows.foldApartSpec.plain.varTypes Tryz.prog) (ds ++ gs)).all (· ≤ reachBytes) = true := hsz0
  clear hsz0
  have hval : ∀ (j : Nat) t v, Tryz.f9.params[j]? = some t → args[j]? = some v → Value.okWide Tryz.prog W .any base t v := hval0
  have hW' := hW
  obtain ⟨p, q, hA0, hV, rfl, hfz, hnd⟩ := hW
  have hA : DataW.TrodAll enc Tryz.prog W 0 (fun _ => true) true Tryz.f9.params.toList args.toList ds p := hA0
  rw [Tryz.params9] at hA hval hsz
  obtain ⟨v0, vs0, d0, ds0, p0, q0, hargs, rfl, rfl, h0, r0⟩ := trodAll_cons hA
  obtain ⟨v1, vs1, d1, ds1, p1, q1, rfl, rfl, rfl, h1, r1⟩ := trodAll_cons r0
  obtain ⟨rfl, rfl, rfl⟩ := trodAll_nil r1
  obtain rfl : args = #[v0, v1] := by cases args; simp_all
  obtain ⟨rfl, rfl⟩ := trodVars_none hV
  obtain ⟨a0, len0, cap0, rfl⟩ := okWide_slice Tryz.underlying22 (hval 0 22 v0 rfl rfl)
  have k0 := h0
  have lt0 : ∀ x ∈ p0, x.block < W.heap.size := by obtain ⟨m, hm⟩ := k0; exact DataW.trod_lt m _ _ _ hm
  have wz0 : ∀ z ∈ d0.weights Tryz.prog 22, z ≤ reachBytes := fun z hz => by simpa using List.all_eq_true.1 hsz z (DataW.weights_mem_each (j := 0) rfl rfl z hz)
  obtain ⟨ls0, hl0, hb0, hr0, hz0⟩ : ∃ ls : List Rec, len0 = ls.length ∧ len0 * 80 ≤ 140737488355328 ∧ Recs W a0 cap0 ls ∧ ∀ r ∈ ls, r.key.size ≤ 140737488351232 ∧ r.val.size ≤ 140737488351232 := by
    obtain ⟨fuel, hf⟩ := h0
    exact recs_open2 hf wz0
  obtain ⟨s1, rfl, rfl, rfl, w1⟩ := open_string Tryz.underlying9 (hval 1 9 v1 rfl rfl) h1
  have z1 : s1.size ≤ 140737488351232 := by
    have := sized_string hsz (j := 1) (t := 9) rfl rfl
    simpa [reachBytes] using this
  clear hA0 hval0
  refine (walk W a0 len0 cap0 ls0 hl0 hb0 hr0 hz0 s1 z1).mono fun e W' ⟨he, fr⟩ => ?_
  have bel : Below W.heap.size W W' := fr.below (Nat.le_refl _) (fun _ f => f.elim)
  subst he
  exact ⟨_, rfl, _, _, _, [], _, [], hW', trodAll_mk1 (shut_bool Tryz.underlying4 _), (trodAll_cons_mk (Below.trod laidOut (by kernel_rfl) (of_decide_eq_true (by kernel_rfl)) k0 bel lt0) (trodAll_cons_mk (shut_string Tryz.underlying9 w1) trodAll_mk0)), rfl, bel.frame _, fun h => by cases h⟩

theorem proved : Rows.FoldApartSaid :=
  OpenClaim.holds_of_wide 9 Tryz.f9 rfl rfl rfl rfl rfl rfl rfl ⟨rfl, rfl, rfl, rfl, rfl⟩ rfl rfl rfl rfl rfl (by kernel_rfl) Tryz.func9 (by kernel_rfl)
    (of_decide_eq_true (by kernel_rfl)) (by unfold Func.isWrapper; first | (rw [if_pos (by decide +kernel)]; kernel_rfl) | (rw [if_neg (by decide +kernel)]; exact ⟨rfl, rfl⟩))
    (fun os started H enc _ => lifted os started H enc)
end Go.Proofs.YtdlnflcjodpkiaaGreat.foldApart
namespace Go.Proofs.YtdlnflcjodpkiaaGreat
theorem foldApart_holds : Rows.FoldApartSaid := foldApart.proved
#print axioms foldApart_holds
end Go.Proofs.YtdlnflcjodpkiaaGreat
