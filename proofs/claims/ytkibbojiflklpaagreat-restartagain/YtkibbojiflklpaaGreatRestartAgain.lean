
/- To come back again changes nothing: from the pages that one came back to, written as bytes, and the same log, one comes back to the same pages and the same last LSN; with no condition but those of the statement's own form. -/
import Derived.Test.YtkibbojiflklpaaGreatBB9
import Derived.Test.YtkibbojiflklpaaGreatRXI
namespace Go.Proofs.YtkibbojiflklpaaGreat.restartAgain
open Go.ChangeShapes Go.WideShapes Go.ChangeAt Go.RowKit
open Go.ChangeMaps (open_string shut_string)
set_option linter.unusedVariables false

theorem own : ownKnob Tryz.prog.godebug = none := by kernel_rfl
theorem laidOut : laidOutB Tryz.prog = true := by kernel_rfl
theorem bytes8 : Tryz.prog.bytesOf 5 = 1 := by kernel_rfl

open Go.RowKit
theorem bk_no {ims : List Im} {lg : List Nat} {first : Int} {ps : List (Int × Nd)} {n er : Int} (h : bkO ims lg first = (ps, n, er)) (he : er ≠ 0) : ps = [] ∧ n = 0 := by
  unfold bkO at h
  by_cases h1 : first < 1 ∨ riB 0 ims = false
  · rw [if_pos h1] at h
    simp only [Prod.mk.injEq] at h
    exact ⟨h.1.symm, h.2.1.symm⟩
  · rw [if_neg h1] at h
    by_cases h2 : ((Re.wread lg).1.length : Int) < mxP (tolP ims)
    · rw [if_pos h2] at h
      simp only [Prod.mk.injEq] at h
      exact ⟨h.1.symm, h.2.1.symm⟩
    · rw [if_neg h2] at h
      generalize (if tolB ims = [] then first else 1) = fi at h
      split at h
      · simp only [Prod.mk.injEq] at h
        exact absurd h.2.2.symm he
      · simp only [Prod.mk.injEq] at h
        exact ⟨h.1.symm, h.2.1.symm⟩
theorem infoIm : (Tryz.prog.info? 39).map (fun i => (i.zero, i.size, i.bytes)) = some (some (.agg #[.int .i64 0, .slice none 0 0]), 2, 32) := by kernel_rfl
theorem infoZ16 : (Tryz.prog.info? 40).map (fun i => (i.zero, i.size, i.bytes)) = some (some (.agg #[.int .i64 0, .int .i64 0, .int .i64 0, .int .i64 0, .string ⟨#[]⟩, .slice none 0 0, .slice none 0 0, .slice none 0 0]), 8, 120) := by kernel_rfl
theorem imC_one (i : Im) : ∀ u ∈ imC i, u.oneCell' = true := by
  intro u hu
  simp [imC] at hu
  rcases hu with rfl | rfl <;> rfl
theorem pg_lenR {n : Nd} (r : Rt n) : (pg n).length = 256 := by
  have hnb : (nb n).length ≤ 252 := by have := nb_length r; have := r.size; omega
  have hp := pad_length hnb
  have h4 := le_length 4 (Crcm.crc (pad (nb n)))
  unfold pg; rw [List.length_append, hp, h4]
theorem imsOf_next {ps : List (Int × Nd)} {im : List Im} {k : Nat} {p : Int × Nd} (h : imsOf (ps.take k) im) (hp : ps[k]? = some p) (a : Option Addr) (c : Nat) : imsOf (ps.take (k + 1)) (im ++ [⟨p.1, a, c, pg p.2⟩]) := by
  unfold imsOf at *
  rw [List.take_add_one, hp, List.map_append, List.map_append, h]
  rfl
set_option maxRecDepth 100000 in
set_option maxHeartbeats 16000000 in
theorem walk (w : World) (a0 : Option Addr) (len0 cap0 : Nat) (ims : List Im) (hl0 : len0 = ims.length) (hr0 : Ims w a0 cap0 ims) (a1 : Option Addr) (len1 cap1 : Nat) (lg : List Nat) (hl1 : len1 = lg.length) (_ : cap1 ≤ 140737488351232) (hr1 : Row w a1 cap1 lg) (first : Int) (hwf : (Lit.int .i64 first).wf = true) :
    Calls Tryz.prog 3 #[.slice a0 len0 cap0, .slice a1 len1 cap1, .int .i64 first] w fun e w' => e = .returned (.bool true) ∧ Fr (fun _ => False) w w' := by
  obtain ⟨iI, hiI, hI0, hI1, hI2⟩ := info_parts infoIm
  obtain ⟨iR, hiR, hR0, hR1, hR2⟩ := info_parts infoZ16
  have hfr : -9223372036854775808 ≤ first ∧ first ≤ 9223372036854775807 := by
    unfold Lit.wf at hwf
    simp at hwf
    have e1 : IntKind.i64.min = -9223372036854775808 := rfl
    have e2 : IntKind.i64.max = 9223372036854775807 := rfl
    omega
  have hbk := back_any a0 len0 cap0 ims hl0 a1 len1 cap1 lg hl1 first hfr w hr0 hr1
  obtain ⟨⟨ps, n, er⟩, ho⟩ : ∃ o, o = bkO ims lg first := ⟨_, rfl⟩
  rw [← ho] at hbk
  unfold BkR at hbk
  dsimp only at hbk
  have HO : Hid (bkO ims lg first = (ps, n, er)) := ho.symm
  have HBK : Hid (∀ (a : Option Addr) (m c : Nat) (im : List Im) (W : World), m = im.length → Ims W a c im → Fr (fun _ => False) w W → Calls Tryz.prog 5 #[.slice a m c, .slice a1 len1 cap1, .int .i64 first] W fun e w' => BkR W (bkO im lg first) e w') := fun a m c im W hm hI f => back_any a m c im hm a1 len1 cap1 lg hl1 first hfr W hI (hr1.same f)
  have HOC : Hid (octs lg) := hr1.byte
  clear hr0 hr1 hl0 hl1 ho hwf hfr
  go_enter Tryz.func3, Tryz.ntmps3
  go_wp2_with fail
  refine hbk.mono ?_
  rintro e w1 ⟨a2, c2, l2, rfl, sv2, ps2, f1⟩
  have HF1 : Hid (Fr (fun _ => False) w w1) := f1
  have hsl2 := sv2.slots rfl
  have HSL : Hid (∀ W, Fr (fun _ => False) w1 W → Slots W a2 c2 l2) := fun W f => hsl2.same f
  have HPS : Hid (psOf l2 = ps) := ps2
  have hle2 := hsl2.le
  have hmx2 := hsl2.max
  obtain ⟨n2, hn2⟩ : ∃ n2, n2 = l2.length := ⟨_, rfl⟩
  have HN2 : Hid (n2 = l2.length) := hn2
  rw [← hn2] at hle2 ⊢
  clear hbk sv2 ps2 f1 hsl2 hn2
  by_cases her : er = 0
  · subst her
    obtain ⟨b1, b2, b3, b4, b5, b6⟩ := bk_yes HO.out
    have hari := ck_ok b5
    have HRT : Hid (∀ s ∈ l2, rightB s.nd = true) := fun s hs => (ari_ok 0 _ hari).2.2 (s.page, s.nd) (by rw [← HPS.out]; exact List.mem_map.2 ⟨s, hs, rfl⟩)
    have hfew : n2 ≤ 4096 := by
      have := (ari_psok hari).few
      rw [← HPS.out, ps_length] at this
      have := HN2.out
      omega
    clear b1 b2 b3 b4 b5 b6 hari
    go_wp2
    go_loopw [41, 10, 11] (fun i vA vW wr => ∃ (k : Nat) (aA : Option Addr) (cA : Nat) (aW : Option Addr) (cW : Nat) (im : List Im), k ≤ n2 ∧ i = .int .i64 (k : Int) ∧ vA = .slice aA k cA ∧ vW = .slice aW k cW ∧ Hid (k = im.length) ∧ Hid (imsOf (ps.take k) im) ∧ Hid (Ag w1 wr (.slice aA k cA) im (.slice aW k cW) (l2.take k)) ∧ Hid (Fr (fun _ => False) w1 wr)) (fun i _ _ _ => n2 - (intOf i).toNat)
    case atStart => exact ⟨0, none, 0, none, 0, [], by omega, rfl, rfl, rfl, rfl, rfl, Ag.nil w1, Fr.refl _ _⟩
    case round =>
      obtain ⟨k, aA, cA, aW, cW, im, hk, rfl, rfl, rfl, HK, HI, HA, HF⟩ := hrel
      by_cases hlt : k < n2
      · obtain ⟨s, hs⟩ : ∃ s, l2[k]? = some s := ⟨_, List.getElem?_eq_getElem (by have := HN2.out; omega)⟩
        have hsm := List.mem_of_getElem? hs
        obtain ⟨bb, off, rfl, hbb, hcc⟩ := (HSL.out wr HF.out).some (by have := HN2.out; omega)
        obtain ⟨q0, q1, q2, q3, q4, q5, q6, q7⟩ := sl_range (hcc k s hs)
        have hki : (k : Int) < (n2 : Int) := by omega
        have HTK : Hid (l2.take (k + 1) = l2.take k ++ [s]) := by show _ = _; rw [List.take_add_one, hs]; rfl
        have HPK : Hid (ps[k]? = some (s.page, s.nd)) := by show _ = _; rw [← HPS.out]; unfold psOf; rw [List.getElem?_map, hs]; rfl
        have HLK : Hid ((l2.take k).length = k) := by show _ = _; rw [List.length_take]; have := HN2.out; omega
        have hRt := (right_iff _).1 (HRT.out s hsm)
        have HPL : Hid ((pg s.nd).length = 256) := pg_lenR hRt
        have HBX : Hid ((wr.alloc (.cells #[.int .i64 s.page, .int .i64 s.nd.lev, .int .i64 s.nd.lsn, .int .i64 s.nd.rgt, .string s.nd.high, .slice s.pt.k s.nd.keys.length s.pt.kc, .slice s.pt.v s.nd.vals.length s.pt.vc, .slice s.pt.i s.nd.kids.length s.pt.ic] 35)).heap[wr.heap.size]? = some (.cells #[.int .i64 s.page, .int .i64 s.nd.lev, .int .i64 s.nd.lsn, .int .i64 s.nd.rgt, .string s.nd.high, .slice s.pt.k s.nd.keys.length s.pt.kc, .slice s.pt.v s.nd.vals.length s.pt.vc, .slice s.pt.i s.nd.kids.length s.pt.ic] 35 (0, 0))) := heap_alloc_new wr _
        have hen := rencode_yesN s.nd s.pt (wr.alloc (.cells #[.int .i64 s.page, .int .i64 s.nd.lev, .int .i64 s.nd.lsn, .int .i64 s.nd.rgt, .string s.nd.high, .slice s.pt.k s.nd.keys.length s.pt.kc, .slice s.pt.v s.nd.vals.length s.pt.vc, .slice s.pt.i s.nd.kids.length s.pt.ic] 35)) (((HSL.out wr HF.out).nod s hsm).same (Fr.box _ _)) hRt
        clear hs hsm hcc hRt
        go_wp2_with fail
        refine hen.mono ?_
        rintro e w3 ⟨ra, rc, rfl, hrow, f3, hnew⟩
        have hB3 := f3.blk HBX.out (fun e => e)
        obtain ⟨⟨p0, p1, p2, p3, p4, p5, p6, p7⟩, pz⟩ := rec_cells hB3
        have hbw := lt_of_block hB3
        have FI := Fr.box w3 (.cells #[.int .i64 s.page, .slice ra 256 rc] 39)
        have HFE : Hid (Fr (fun _ => False) wr (w3.alloc (.cells #[.int .i64 s.page, .slice ra 256 rc] 39))) := ((Fr.box _ _).seq' f3).seq' FI
        have HRO : Hid (Row (w3.alloc (.cells #[.int .i64 s.page, .slice ra 256 rc] 39)) ra rc (pg s.nd) ∧ ∀ b o, ra = some ⟨b, o, none⟩ → wr.heap.size ≤ b) := ⟨hrow.same FI, fun b o e => by have := hnew b o e; simp at this; omega⟩
        have HB4 : Hid ((w3.alloc (.cells #[.int .i64 s.page, .slice ra 256 rc] 39)).heap[wr.heap.size]? = some (.cells #[.int .i64 s.page, .int .i64 s.nd.lev, .int .i64 s.nd.lsn, .int .i64 s.nd.rgt, .string s.nd.high, .slice s.pt.k s.nd.keys.length s.pt.kc, .slice s.pt.v s.nd.vals.length s.pt.vc, .slice s.pt.i s.nd.kids.length s.pt.ic] 35 (0, 0))) := FI.blk hB3 (fun e => e)
        have HRA : Hid (Has (w3.alloc (.cells #[.int .i64 s.page, .slice ra 256 rc] 39)) 2 (.slice aA k cA) k (im.flatMap imC)) := by
          have := (HA.out.same HFE.out).ha
          rwa [← HK.out] at this
        have HNE : Hid (From (w3.alloc (.cells #[.int .i64 s.page, .slice ra 256 rc] 39)) (some ⟨w3.heap.size, 0, none⟩) [.int .i64 s.page, .slice ra 256 rc]) := .inr ⟨_, _, rfl, by
          have := range_block (heap_alloc_new w3 (.cells #[.int .i64 s.page, .slice ra 256 rc] 39)) (xs := [.int .i64 s.page, .slice ra 256 rc]) (o := 0) (fun j v hv => by rw [Nat.zero_add]; simpa using hv)
          exact this⟩
        have HOFF : Hid (¬ (Value.slice aA k cA).ownBlock = some wr.heap.size) := fun e => by
          have h3 := HA.out.ha
          rw [← HK.out] at h3
          have := h3.lt e
          omega
        clear hen hrow hnew f3 hB3 FI q0 q1 q2 q3 q4 q5 q6 q7 HBX
        go_wp2_with (first
          | (at_builtin; refine wpList_append_has _ rfl (.tmp 53) (.tmp 58) 22 22 39 39 rfl iI _ 2 32 Tryz.underlying22 Tryz.underlying22 hiI hI0 hI1 hI2 rfl (by omega) (.slice aA k cA) k (im.flatMap imC) rfl HRA.out (some ⟨w3.heap.size, 0, none⟩) 1 1 [.int .i64 s.page, .slice ra 256 rc] rfl rfl HNE.out (by intro u hu; simp at hu; rcases hu with rfl | rfl <;> rfl) (by unfold maxLen; omega) (by omega) ?_; intro a4 c4 w8 ht4 f34 hat4; have hB8 := (f34.block _ (lt_of_block HB4.out) (fun e => HOFF.out e.1)).trans HB4.out; obtain ⟨⟨r0, r1, r2, r3, r4, r5, r6, r7⟩, rz⟩ := rec_cells hB8; have hbw8 := lt_of_block hB8; have HA8 : Hid (Ag w1 w8 (.slice a4 (k + 1) c4) (im ++ [⟨s.page, ra, rc, pg s.nd⟩]) (.slice aW k cW) (l2.take k)) := (HA.out.img HF.out.size HFE.out ⟨s.page, ra, rc, pg s.nd⟩ HRO.out.1 HRO.out.2 (by rw [← HK.out]; unfold imC; dsimp only; rw [HPL.out]; exact ht4) (f34.mono (fun i _ e => e.1)) (hat4.imp id (fun h => ⟨_, h, Nat.le_refl _⟩))); have HF8 : Hid (Fr (fun _ => False) w1 w8) := ((HF.out.seq' HFE.out).trans f34 (fun i hi e => by have := HA.out.an i e.1; omega)); have HRW : Hid (Has (w8.alloc (.cells #[.int .i64 s.page, .int .i64 s.nd.lev, .int .i64 s.nd.lsn, .int .i64 s.nd.rgt, .string s.nd.high, .slice s.pt.k s.nd.keys.length s.pt.kc, .slice s.pt.v s.nd.vals.length s.pt.vc, .slice s.pt.i s.nd.kids.length s.pt.ic] 40)) 8 (.slice aW k cW) k ((l2.take k).flatMap slC)) := (by have h9 := (HA8.out.same (Fr.box w8 (.cells #[.int .i64 s.page, .int .i64 s.nd.lev, .int .i64 s.nd.lsn, .int .i64 s.nd.rgt, .string s.nd.high, .slice s.pt.k s.nd.keys.length s.pt.kc, .slice s.pt.v s.nd.vals.length s.pt.vc, .slice s.pt.i s.nd.kids.length s.pt.ic] 40))).hw; rwa [HLK.out] at h9); have HNW : Hid (From (w8.alloc (.cells #[.int .i64 s.page, .int .i64 s.nd.lev, .int .i64 s.nd.lsn, .int .i64 s.nd.rgt, .string s.nd.high, .slice s.pt.k s.nd.keys.length s.pt.kc, .slice s.pt.v s.nd.vals.length s.pt.vc, .slice s.pt.i s.nd.kids.length s.pt.ic] 40)) (some ⟨w8.heap.size, 0, none⟩) (slC s)) := (.inr ⟨_, _, rfl, range_block (heap_alloc_new w8 (.cells #[.int .i64 s.page, .int .i64 s.nd.lev, .int .i64 s.nd.lsn, .int .i64 s.nd.rgt, .string s.nd.high, .slice s.pt.k s.nd.keys.length s.pt.kc, .slice s.pt.v s.nd.vals.length s.pt.vc, .slice s.pt.i s.nd.kids.length s.pt.ic] 40)) (xs := slC s) (o := 0) (fun j v hv => by rw [Nat.zero_add]; simpa [slC] using hv)⟩); clear p0 p1 p2 p3 p4 p5 p6 p7 pz hbw ht4 f34 hat4)
          | (at_builtin; refine wpList_append_has _ rfl (.tmp 60) (.tmp 66) 29 29 40 40 rfl iR _ 8 120 Tryz.underlying29 Tryz.underlying29 hiR hR0 hR1 hR2 rfl (by omega) (.slice aW k cW) k ((l2.take k).flatMap slC) rfl HRW.out (some ⟨w8.heap.size, 0, none⟩) 1 1 (slC s) rfl rfl HNW.out (slC_one _) (by unfold maxLen; omega) (by omega) ?_; intro a5 c5 w9 ht5 f35 hat5))
        have HIN : Hid (imsOf (ps.take (k + 1)) (im ++ [⟨s.page, ra, rc, pg s.nd⟩])) := imsOf_next HI.out HPK.out ra rc
        have HKN : Hid (k + 1 = (im ++ [(⟨s.page, ra, rc, pg s.nd⟩ : Im)]).length) := by show _ = _; simp [← HK.out]
        have FJ := Fr.box w8 (.cells #[.int .i64 s.page, .int .i64 s.nd.lev, .int .i64 s.nd.lsn, .int .i64 s.nd.rgt, .string s.nd.high, .slice s.pt.k s.nd.keys.length s.pt.kc, .slice s.pt.v s.nd.vals.length s.pt.vc, .slice s.pt.i s.nd.kids.length s.pt.ic] 40)
        have HA9 : Hid (Ag w1 w9 (.slice a4 (k + 1) c4) (im ++ [⟨s.page, ra, rc, pg s.nd⟩]) (.slice a5 (k + 1) c5) (l2.take (k + 1))) := by
          show Ag _ _ _ _ _ _
          rw [HTK.out]
          exact HA8.out.pg HF8.out.size FJ s (by rw [HLK.out]; exact ht5) (f35.mono (fun i _ e => e.1)) (hat5.imp id (fun h => ⟨_, h, Nat.le_refl _⟩))
        have HF9 : Hid (Fr (fun _ => False) w1 w9) := (HF8.out.seq' FJ).trans f35 (fun i hi e => by have := HA8.out.wn i e.1; omega)
        clear r0 r1 r2 r3 r4 r5 r6 r7 rz hbw8 ht5 f35 hat5 HRW HNW FJ hB8
        go_wp2
        go_roundw
        case rel => exact ⟨k + 1, a4, c4, a5, c5, _, by omega, by go_num, rfl, rfl, HKN, HIN, HA9, HF9⟩
        case measure => simp [intOf]; omega
      · have hki : ¬ (k : Int) < (n2 : Int) := by omega
        have hkn : Hid (k = n2) := by show k = n2; omega
        have HFW : Hid (Fr (fun _ => False) w wr) := HF1.out.seq' HF.out
        have hta : l2.take k = l2 := List.take_of_length_le (by have := HN2.out; omega)
        have htp : ps.take k = ps := List.take_of_length_le (by rw [← HPS.out, ps_length]; have := HN2.out; omega)
        have hag := HA.out
        rw [hta] at hag
        have hio := HI.out
        rw [htp] at hio
        have hb2 := HBK.out aA k cA im wr HK.out (hag.ims HK.out) HFW.out
        rw [bk_again HOC.out HO.out hio] at hb2
        unfold BkR at hb2
        dsimp only at hb2
        have HWS : Hid (∀ W, Fr (fun _ => False) wr W → Slots W aW cW l2) := fun W f => by
          have h := (hag.same f).hw
          exact has_slots rfl (by have e : l2.length = k := by rw [hkn.out]; exact HN2.out.symm
                                  have h' : Has W 8 (.slice aW k cW) l2.length (l2.flatMap slC) := h
                                  rw [← e] at h'
                                  exact h') ((HSL.out W (HF.out.seq' f)).nod)
        clear hta htp hag hio hlt
        go_wp2_with fail
        refine hb2.mono ?_
        rintro e w5 ⟨a5, c5, l5, rfl, sv5, ps5, f5⟩
        have hsm := rsame_any a5 aW l5.length k c5 cW l5 l2 rfl (by rw [hkn.out]; exact HN2.out) (ps5.trans HPS.out.symm) w5 (sv5.slots rfl) (HWS.out w5 f5)
        obtain ⟨n5, hn5⟩ : ∃ n5, n5 = l5.length := ⟨_, rfl⟩
        rw [← hn5] at hsm ⊢
        have HF5 : Hid (Fr (fun _ => False) w w5) := HFW.out.seq' f5
        clear hb2 sv5 ps5 f5 hn5 hkn
        go_wp2_with fail
        refine hsm.mono ?_
        rintro e w6 ⟨rfl, f6⟩
        have HF6 : Hid (Fr (fun _ => False) w w6) := HF5.out.seq' f6
        clear hsm f6
        go_wp2_with fail
        refine (rsspk_any _).mono ?_
        rintro e w7 ⟨rfl, f7⟩
        have HF7 : Hid (Fr (fun _ => False) w w7) := HF6.out.seq' f7
        clear f7 hki hk hle2 hmx2 hfew
        clear hiI hI0 hI1 hI2 hiR hR0 hR1 hR2
        go_wp2
        go_ret
        exact ⟨rfl, HF7.out⟩
  · obtain ⟨e1, e2⟩ := bk_no HO.out her
    have hz : n2 = 0 := by
      have h := congrArg List.length HPS.out
      rw [ps_length, e1] at h
      rw [HN2.out]
      exact h
    have hbe : (er != 0) = true := by simpa using her
    subst e2 hz
    clear her e1
    go_wp2_with fail
    refine (rsspk_any _).mono ?_
    rintro e w2 ⟨rfl, f2⟩
    have HF2 : Hid (Fr (fun _ => False) w w2) := HF1.out.seq' f2
    go_wp2
    go_ret
    exact ⟨rfl, HF2.out⟩

set_option maxRecDepth 100000 in
theorem lifted (os : Os) (started : os.Started) (H : Type) (enc : TypeId × Value → H) :
    ReturnsInHanded {} Tryz.checked os 3 .any (Rows.restartAgainSpec.pre6 enc Tryz.prog Tryz.f3 Rows.restartAgainRow.domain false) (Rows.restartAgainSpec.post enc Tryz.prog Tryz.f3 false true false false) := by
  refine returnsInHanded_of_change_sized (C := Tryz.checked) own started (by kernel_rfl) Tryz.func3
    (ChangeSpec.witness6 (enc := enc) (C := Tryz.checked) false ⟨#[], #[.slice none 0 0, .slice none 0 0, .int .i64 0], []⟩ 8 (by kernel_rfl) (by kernel_rfl) (by kernel_rfl) (by kernel_rfl)) ?_
  intro W base args ds gs before hval0 hW hcnd hsz0 _
  have hsz : (DataW.weightsEach Tryz.prog (Tryz.f3.params.toList ++ Rows.restartAgainSpec.plain.varTypes Tryz.prog) (ds ++ gs)).all (· ≤ reachBytes) = true := hsz0
  clear hsz0
  have hval : ∀ (j : Nat) t v, Tryz.f3.params[j]? = some t → args[j]? = some v → Value.okWide Tryz.prog W .any base t v := hval0
  have hW' := hW
  obtain ⟨p, q, hA0, hV, rfl, hfz, hnd⟩ := hW
  have hA : DataW.TrodAll enc Tryz.prog W 0 (fun _ => true) true Tryz.f3.params.toList args.toList ds p := hA0
  rw [Tryz.params3] at hA hval hsz
  obtain ⟨v0, vs0, d0, ds0, p0, q0, hargs, rfl, rfl, h0, r0⟩ := trodAll_cons hA
  obtain ⟨v1, vs1, d1, ds1, p1, q1, rfl, rfl, rfl, h1, r1⟩ := trodAll_cons r0
  obtain ⟨v2, vs2, d2, ds2, p2, q2, rfl, rfl, rfl, h2, r2⟩ := trodAll_cons r1
  obtain ⟨rfl, rfl, rfl⟩ := trodAll_nil r2
  obtain rfl : args = #[v0, v1, v2] := by cases args; simp_all
  obtain ⟨rfl, rfl⟩ := trodVars_none hV
  obtain ⟨a0, len0, cap0, rfl⟩ := okWide_slice Tryz.underlying22 (hval 0 22 v0 rfl rfl)
  have k0 := h0
  have lt0 : ∀ x ∈ p0, x.block < W.heap.size := by obtain ⟨m, hm⟩ := k0; exact DataW.trod_lt m _ _ _ hm
  have wz0 : ∀ z ∈ d0.weights Tryz.prog 22, z ≤ reachBytes := fun z hz => by simpa using List.all_eq_true.1 hsz z (DataW.weights_mem_each (j := 0) rfl rfl z hz)
  obtain ⟨ls0, hl0, hr0⟩ : ∃ ls : List Im, len0 = ls.length ∧ Ims W a0 cap0 ls := by
    obtain ⟨fuel, hf⟩ := h0
    exact ims_open hf wz0
  obtain ⟨a1, len1, cap1, rfl⟩ := okWide_slice Tryz.underlying23 (hval 1 23 v1 rfl rfl)
  have k1 := h1
  have lt1 : ∀ x ∈ p1, x.block < W.heap.size := by obtain ⟨m, hm⟩ := k1; exact DataW.trod_lt m _ _ _ hm
  obtain ⟨l1, hl1, z1, hr1⟩ : ∃ l : List Nat, len1 = l.length ∧ cap1 ≤ 140737488351232 ∧ Row W a1 cap1 l := by
    obtain ⟨fuel, hf⟩ := h1
    rcases open_ints Tryz.underlying23 Tryz.underlying5 (by kernel_rfl) hf with ⟨hcs, _⟩ | ⟨x, l, c, zs, hcs, _, hl, hm, hz, hx, hcell, hwz⟩
    · simp [Value.cells] at hcs
      obtain ⟨rfl, rfl, rfl⟩ := hcs
      exact ⟨[], rfl, by omega, row_nil _ _⟩
    · simp [Value.cells] at hcs
      obtain ⟨rfl, rfl, rfl⟩ := hcs
      have hz' : zs.length = cap1 := by simpa using hz
      have hd : d1 = .slice (lits .u8 (zs.take len1)) (lits .u8 (zs.drop len1)) := congrArg Prod.fst hx
      have hcap : cap1 ≤ 140737488351232 := by
        have := sized_slice hsz (j := 1) (t := 23) (e := 5) rfl (by rw [hd]; rfl) Tryz.underlying23
        rw [bytes8] at this
        simp only [lits, List.length_map, List.length_take, List.length_drop, reachBytes] at this
        omega
      obtain ⟨l, h1, h2⟩ := row_of_ints hl (Nat.le_trans hcap (by omega)) hz' hcell hwz
      exact ⟨l, h1, hcap, h2⟩
  obtain ⟨a2, rfl, rfl, rfl, w2⟩ := open_int Tryz.underlying3 (hval 2 3 v2 rfl rfl) h2
  clear hA0 hval0
  refine (walk W a0 len0 cap0 ls0 hl0 hr0 a1 len1 cap1 l1 hl1 z1 hr1 a2 w2).mono fun e W' ⟨he, fr⟩ => ?_
  have bel : Below W.heap.size W W' := fr.below (Nat.le_refl _) (fun _ f => f.elim)
  subst he
  exact ⟨_, rfl, _, _, _, [], _, [], hW', trodAll_mk1 (shut_bool Tryz.underlying4 _), (trodAll_cons_mk (Below.trod laidOut (by kernel_rfl) (of_decide_eq_true (by kernel_rfl)) k0 bel lt0) (trodAll_cons_mk (Below.trod laidOut (by kernel_rfl) (of_decide_eq_true (by kernel_rfl)) k1 bel lt1) (trodAll_cons_mk (shut_int Tryz.underlying3 w2) trodAll_mk0))), rfl, bel.frame _, fun h => by cases h⟩

theorem proved : Rows.RestartAgainSaid :=
  OpenClaim.holds_of_wide 3 Tryz.f3 rfl rfl rfl rfl rfl rfl rfl ⟨rfl, rfl, rfl, rfl, rfl⟩ rfl rfl rfl rfl rfl (by kernel_rfl) Tryz.func3 (by kernel_rfl)
    (of_decide_eq_true (by kernel_rfl)) (by unfold Func.isWrapper; first | (rw [if_pos (by decide +kernel)]; kernel_rfl) | (rw [if_neg (by decide +kernel)]; exact ⟨rfl, rfl⟩))
    (fun os started H enc _ => lifted os started H enc)
end Go.Proofs.YtkibbojiflklpaaGreat.restartAgain
namespace Go.Proofs.YtkibbojiflklpaaGreat
theorem restartAgain_holds : Rows.RestartAgainSaid := restartAgain.proved
#print axioms restartAgain_holds
end Go.Proofs.YtkibbojiflklpaaGreat
