
/- What the document's Read tells. -/
import Derived.Test.YtnoadmkkkeianaaGreatWrApp
import Derived.Test.YtnoadmkkkeianaaGreatYB15
namespace Go.Proofs.YtnoadmkkkeianaaGreat
open Go.RowKit Crcm

set_option maxRecDepth 100000 in
set_option maxHeartbeats 8000000 in
theorem rread_some (bb off cap : Nat) (l : List Nat) (w : World) (hr : Row w (some ⟨bb, off, none⟩) cap l) (hlb : bb < w.heap.size) (hc : ∀ i, i < l.length → w.cell? ⟨bb, off + i, none⟩ = some (.int .u8 ((l.getD i 0 : Nat) : Int))) :
    Calls Tryz.prog 17 #[.slice (some ⟨bb, off, none⟩) l.length cap] w fun e w' => e = .returned (.tuple #[.pointer (some ⟨w.heap.size, 0, none⟩), .int .i64 ((wread l).2 : Nat)]) ∧
      ∃ rv, Rlg w' w.heap.size rv (wread l).1 ((wread l).1.length : Int) ∧ Wl (wread l).1 ∧ Fr (fun _ => False) w w' ∧ (wread l).2 ≤ l.length := by
  obtain ⟨iR, hiR, hR0, hR1, hR2⟩ := info_parts infoRec
  have hle := hr.le
  have hmx := hr.max
  have hsm := hr.small
  have HRD : Hid (∀ n, n ≤ l.length → ∀ off2, (cap = n ∨ off2 = off + n) → ∀ W, Fr (fun _ => False) w W → Row W (some ⟨bb, off2, none⟩) (cap - n) (l.drop n)) := fun n hn off2 ho W f => (hr.drop n hn off2 ho (.inr ⟨hlb, hc⟩)).same f
  have HOC : Hid (octs l) := hr.byte
  obtain ⟨X, hX⟩ : ∃ X, X = wread l := ⟨_, rfl⟩
  have HX : Hid (X = rdAll l (l.length + 1) [] 0) := hX
  rw [← hX]
  clear hX hr hc
  obtain ⟨lb, hlbd⟩ : ∃ lb, lb = w.heap.size := ⟨_, rfl⟩
  have HLB : Hid (lb = w.heap.size) := hlbd
  have l1 : Rlg (w.alloc (.cells #[.slice none 0 0, .int .i64 0] 28)) lb (.slice none 0 0) [] 0 := by rw [hlbd]; exact ⟨heap_alloc_new w _, Has.nil _ _, fun g e => by cases e⟩
  have f1 := Fr.box w (.cells #[.slice none 0 0, .int .i64 0] 28)
  obtain ⟨W1, hW1⟩ : ∃ W, W = w.alloc (.cells #[.slice none 0 0, .int .i64 0] 28) := ⟨_, rfl⟩
  have HW1 : Hid (w.alloc (.cells #[.slice none 0 0, .int .i64 0] 28) = W1) := hW1.symm
  rw [← hW1] at l1 f1
  clear hW1
  rw [← hlbd]
  go_enter Tryz.func17, Tryz.ntmps17
  go_wp2
  rw [HW1.out, ← hlbd]
  clear hlbd
  go_loopw [5] (fun t wr => ∃ (k n : Nat) (ls : List Rec) (rv : Value), n ≤ l.length ∧ k ≤ n ∧ t = .int .i64 n ∧ Rlg wr lb rv ls 0 ∧ Hid (Wl ls) ∧ Hid (X = rdAll l (l.length + 1 - k) ls n) ∧ Fr (fun _ => False) w wr)
    (fun t _ => l.length - (intOf t).toNat)
  case atStart => exact ⟨0, 0, [], .slice none 0 0, by omega, by omega, rfl, l1, wl_nil, HX, f1⟩
  case round =>
    obtain ⟨k, n, ls, rv, hn, hk, rfl, lg, WL, HK, F⟩ := hrel
    clear l1 f1 HW1
    have hbig := WL.out.big
    have i1 : (n : Int) ≤ (l.length : Int) := by omega
    have i2 : (l.length : Int) ≤ (cap : Int) := by omega
    have i3 : (n : Int) ≤ (cap : Int) := by omega
    have e7 : IntKind.i64.wrap ((ls.length : Int) + 1) = (ls.length : Int) + 1 := by simp [IntKind.wrap, IntKind.bits, IntKind.signed]; omega
    have hlw : lb < wr.heap.size := lt_of_block lg.box
    obtain ⟨ar, cr, rfl, _, _⟩ := lg.has.slice
    obtain ⟨rv, hrv⟩ : ∃ rv, rv = Value.slice ar ls.length cr := ⟨_, rfl⟩
    have HRV : Hid (rv = Value.slice ar ls.length cr) := hrv
    rw [← hrv] at lg
    clear hrv
    obtain ⟨r, m, e, hrd⟩ : ∃ r m e, rdec (l.drop n) = (r, m, e) := ⟨_, _, _, rfl⟩
    have hmo := more_of (ls := ls) hrd
    have HRDC : Hid (rdec (l.drop n) = (r, m, e)) := hrd
    obtain ⟨off3, hoff, ho3⟩ : ∃ off3, off3 = (if cap = n then off else off + n) ∧ (cap = n ∨ off3 = off + n) := by
      refine ⟨_, rfl, ?_⟩
      by_cases hc : cap = n
      · exact .inl hc
      · exact .inr (if_neg hc)
    have hdc := fun W f => rdecode_rec (some ⟨bb, off3, none⟩) (l.length - n) (cap - n) (l.drop n) (by rw [List.length_drop]) W (HRD.out n hn off3 ho3 W f)
    rw [hrd] at hdc
    unfold RdOut at hdc
    dsimp only at hdc
    have HM : Hid (more l ls n = decide (e = 0 ∧ r.lsn = (ls.length : Int) + 1 ∧ refus ls r.ep = 0)) := hmo
    have HRF : Hid (refus ls r.ep = if r.ep < lastE ls then 100 else if ls.length = 65536 then 5 else 0) := rfl
    clear hrd hmo
    have hdc1 := hdc wr F
    clear hdc
    by_cases hcn : cap = n
    · have hd0 : l.drop n = [] := List.drop_eq_nil_of_le (by omega)
      have hre := HRDC.out
      rw [hd0] at hre
      have hz : rdec [] = (zr, 0, 10) := by unfold rdec; rw [if_pos (by decide)]
      rw [hz] at hre
      simp only [Prod.mk.injEq] at hre
      obtain ⟨rfl, rfl, rfl⟩ := hre
      have HMF : Hid (more l ls n = false) := by show _ = _; rw [HM.out]; exact decide_eq_false (fun h => absurd h.1 (by decide))
      rw [if_pos hcn] at hoff
      subst hoff
      rw [zr_agg] at hdc1
      clear hd0 hz ho3 HM HRF
      have hcn' := hcn.symm
      clear hcn
      subst hcn'
      have e0 : l.length - n = 0 := by omega
      rw [e0, Nat.sub_self] at hdc1
      clear e0
      go_wp2_with fail
      refine hdc1.mono ?_
      clear hdc1
      rintro e2 w2 ⟨rfl, f2⟩
      have fb := Fr.box w2 (.cells #[.int .i64 0, .int .i64 0, .int .i64 0, .int .i64 0, .int .i64 0, .int .i64 0, .string ⟨#[]⟩, .string ⟨#[]⟩] 30)
      have FE := (F.seq' f2).seq' fb
      have lgE := lg.same (f2.seq' fb)
      have hla := rlast_lg lb rv ls 0 _ lgE hbig
      go_wp2_with fail
      refine hla.mono ?_
      clear hla
      rintro e9 w9 ⟨rfl, f9⟩
      have lg9 := lgE.same f9
      have FE9 := FE.seq' f9
      obtain ⟨y0, y1, y2, y3⟩ := cell_of_two lg9.box
      obtain ⟨lgF, fF⟩ := lg9.flush (ls.length : Int)
      have F9 := FE9.trans fF (S := fun _ => False) (fun i hi e => by have := HLB.out; omega)
      have HXE : Hid (X = (ls, n)) := by show _ = _; rw [HK.out]; exact rdAll_no HMF.out
      go_wp2
      go_ret2
      rw [HXE.out]
      exact ⟨rfl, rv, lgF, WL.out, F9, hn⟩
    · rw [if_neg hcn] at hoff
      subst hoff
      by_cases he : e = 0
      · subst he
        by_cases hl : r.lsn = (ls.length : Int) + 1
        · have hlb2 : (r.lsn != (ls.length : Int) + 1) = false := by simp [hl]
          by_cases hep : r.ep < lastE ls
          · rw [if_pos hep] at HRF
            have HMF : Hid (more l ls n = false) := by show _ = _; rw [HM.out]; exact decide_eq_false (fun h => by have := h.2.2; rw [HRF.out] at this; exact absurd this (by decide))
            clear hl HM HRF
            go_wp2_with fail
            refine hdc1.mono ?_
            clear hdc1
            rintro e2 w2 ⟨rfl, f2⟩
            have fb := Fr.box w2 (.cells #[.int .i64 r.lsn, .int .i64 r.ep, .int .i64 r.kind, .int .i64 r.page, .int .i64 r.other, .int .i64 r.req, .string r.key, .string r.val] 30)
            have FE := (F.seq' f2).seq' fb
            have lgE := lg.same (f2.seq' fb)
            have hla := rlast_lg lb rv ls 0 _ lgE hbig
            generalize lastE ls = le at *
            go_wp2_with fail
            refine hla.mono ?_
            clear hla
            rintro e9 w9 ⟨rfl, f9⟩
            have lg9 := lgE.same f9
            have FE9 := FE.seq' f9
            have hlbx : lb < w2.heap.size := Nat.lt_of_lt_of_le hlw f2.size
            have hx9 := rec_at w2 _ _ f9
            obtain ⟨⟨c0, c1, c2, c3, c4, c5, c6, c7⟩, zc⟩ := rec_cells hx9
            obtain ⟨y0, y1, y2, y3⟩ := cell_of_two lg9.box
            obtain ⟨lgF, fF⟩ := lg9.flush (ls.length : Int)
            have F9 := FE9.trans fF (S := fun _ => False) (fun i hi e => by have := HLB.out; omega)
            have HXE : Hid (X = (ls, n)) := by show _ = _; rw [HK.out]; exact rdAll_no HMF.out
            go_wp2
            go_ret2
            rw [HXE.out]
            exact ⟨rfl, rv, lgF, WL.out, F9, hn⟩
          · rw [if_neg hep] at HRF
            by_cases hfu : ls.length = 65536
            · rw [if_pos hfu] at HRF
              have HMF : Hid (more l ls n = false) := by show _ = _; rw [HM.out]; exact decide_eq_false (fun h => by have := h.2.2; rw [HRF.out] at this; exact absurd this (by decide))
              have hge : (65536 : Int) ≤ (ls.length : Int) := by omega
              clear hl HM HRF hfu
              go_wp2_with fail
              refine hdc1.mono ?_
              clear hdc1
              rintro e2 w2 ⟨rfl, f2⟩
              have fb := Fr.box w2 (.cells #[.int .i64 r.lsn, .int .i64 r.ep, .int .i64 r.kind, .int .i64 r.page, .int .i64 r.other, .int .i64 r.req, .string r.key, .string r.val] 30)
              have FE := (F.seq' f2).seq' fb
              have lgE := lg.same (f2.seq' fb)
              have hla := rlast_lg lb rv ls 0 _ lgE hbig
              generalize lastE ls = le at *
              go_wp2_with fail
              refine hla.mono ?_
              clear hla
              rintro e9 w9 ⟨rfl, f9⟩
              have lg9 := lgE.same f9
              have FE9 := FE.seq' f9
              have hlbx : lb < w2.heap.size := Nat.lt_of_lt_of_le hlw f2.size
              have hx9 := rec_at w2 _ _ f9
              obtain ⟨⟨c0, c1, c2, c3, c4, c5, c6, c7⟩, zc⟩ := rec_cells hx9
              obtain ⟨y0, y1, y2, y3⟩ := cell_of_two lg9.box
              obtain ⟨lgF, fF⟩ := lg9.flush (ls.length : Int)
              have F9 := FE9.trans fF (S := fun _ => False) (fun i hi e => by have := HLB.out; omega)
              have HXE : Hid (X = (ls, n)) := by show _ = _; rw [HK.out]; exact rdAll_no HMF.out
              go_wp2
              go_ret2
              rw [HXE.out]
              exact ⟨rfl, rv, lgF, WL.out, F9, hn⟩
            · rw [if_neg hfu] at HRF
              have HMT : Hid (more l ls n = true) := by show _ = _; rw [HM.out]; exact decide_eq_true ⟨rfl, hl, HRF.out⟩
              have hge : decide ((65536 : Int) ≤ (ls.length : Int)) = false := decide_eq_false (by omega)
              have hls : ls.length < 65536 := by omega
              obtain ⟨s1, s2, s3, s4⟩ := rdec_some (l.drop n) (fun x hx => HOC.out x (List.mem_of_mem_drop hx)) r m HRDC.out
              have hm43 : 43 ≤ m := by rw [s2, frm_length]; omega
              have hml : n + m ≤ l.length := by rw [List.length_drop] at s3; omega
              have HWS : Hid (Wl (ls ++ [r])) := wl_snoc WL.out r s1 hl HRF.out
              have HXS : Hid (X = rdAll l (l.length + 1 - (k + 1)) (ls ++ [r]) (n + m)) := by
                show _ = _
                rw [HK.out]
                have hk1 : l.length + 1 - k = (l.length + 1 - (k + 1)) + 1 := by omega
                rw [hk1]
                exact rdAll_yes HRDC.out HMT.out
              have e1 : IntKind.i64.wrap ((n : Int) + (m : Int)) = (n : Int) + (m : Int) := by simp [IntKind.wrap, IntKind.bits, IntKind.signed]; omega
              clear hl s1 s2 s3 s4 HM HRF hfu
              go_wp2_with fail
              refine hdc1.mono ?_
              clear hdc1
              rintro e2 w2 ⟨rfl, f2⟩
              have fb := Fr.box w2 (.cells #[.int .i64 r.lsn, .int .i64 r.ep, .int .i64 r.kind, .int .i64 r.page, .int .i64 r.other, .int .i64 r.req, .string r.key, .string r.val] 30)
              have FE := (F.seq' f2).seq' fb
              have lgE := lg.same (f2.seq' fb)
              have hla := rlast_lg lb rv ls 0 _ lgE hbig
              generalize lastE ls = le at *
              go_wp2_with fail
              refine hla.mono ?_
              clear hla
              rintro e9 w9 ⟨rfl, f9⟩
              have lg9 := lgE.same f9
              have FE9 := FE.seq' f9
              have hlbx : lb < w2.heap.size := Nat.lt_of_lt_of_le hlw f2.size
              have hx9 := rec_at w2 _ _ f9
              obtain ⟨⟨c0, c1, c2, c3, c4, c5, c6, c7⟩, zc⟩ := rec_cells hx9
              obtain ⟨y0, y1, y2, y3⟩ := cell_of_two lg9.box
              have HRV' := HRV.out
              have P7 : Fr (fun _ => False) w9 ((w9.alloc (.cells #[.int .i64 r.lsn, .int .i64 r.ep, .int .i64 r.kind, .int .i64 r.page, .int .i64 r.other, .int .i64 r.req, .string r.key, .string r.val] 30)).drew) := ((Fr.refl _ w9).alloc _).drew
              have lg7 := lg9.same P7
              rw [HRV'] at lg7 y0
              have hrow := lg7.has
              have hbx := lg7.box
              have hnews : From ((w9.alloc (.cells #[.int .i64 r.lsn, .int .i64 r.ep, .int .i64 r.kind, .int .i64 r.page, .int .i64 r.other, .int .i64 r.req, .string r.key, .string r.val] 30)).drew) (some ⟨w9.heap.size, 0, none⟩) (recC r) := .inr ⟨_, _, rfl, range_block (w := (w9.alloc _).drew) (heap_alloc_new w9 _) (fun j v hv => by rw [Nat.zero_add]; simpa [recC] using hv)⟩
              have HHB : Hid (∀ w8, Fr (fun k => (Value.slice ar ls.length cr).ownBlock = some k ∧ 0 < 1) ((w9.alloc (.cells #[.int .i64 r.lsn, .int .i64 r.ep, .int .i64 r.kind, .int .i64 r.page, .int .i64 r.other, .int .i64 r.req, .string r.key, .string r.val] 30)).drew) w8 → w8.heap[lb]? = some (.cells #[.slice ar ls.length cr, .int .i64 0] 28 (0, 0))) := fun w8 f => by
                rw [f.block lb (lt_of_block hbx) (fun e => by have := lg7.own lb e.1; omega)]; exact hbx
              obtain ⟨x0, x1, x2, x3⟩ := cell_of_two hbx
              have hx7 : (w9.alloc (.cells #[.int .i64 r.lsn, .int .i64 r.ep, .int .i64 r.kind, .int .i64 r.page, .int .i64 r.other, .int .i64 r.req, .string r.key, .string r.val] 30)).drew.heap[w2.heap.size]? = some (.cells #[.int .i64 r.lsn, .int .i64 r.ep, .int .i64 r.kind, .int .i64 r.page, .int .i64 r.other, .int .i64 r.req, .string r.key, .string r.val] 30 (0, 0)) := by rw [P7.block _ (lt_of_block hx9) (fun f => f)]; exact hx9
              obtain ⟨⟨t0, t1, t2, t3, t4, t5, t6, t7⟩, zt⟩ := rec_cells hx7
              clear HRV'
              go_wp2_with fail
              go_region_law
                ((refine step_append_has _ (by rfl) _ _ 26 26 30 30 (by rfl) iR _ 8 80 Tryz.underlying26 Tryz.underlying26 hiR hR0 hR1 hR2 rfl (by omega) (.slice ar ls.length cr) ls.length (ls.flatMap recC) (by rfl) hrow
                    (some ⟨w9.heap.size, 0, none⟩) 1 1 (recC r) (by rfl) (by rfl) hnews (recC_one r) (by unfold maxLen; omega) (by omega) ?_; intro a' c' w8 hown hfr hat; have hb8 := HHB.out _ hfr; obtain ⟨k5, k6, z5, z6⟩ := cell_of_two hb8))
              all_goals
                rw [HRV.out] at lg9
                have hp := lg9.push P7 hfr (ls' := ls ++ [r]) (by rw [List.length_append, List.flatMap_append]; simpa using hown) hat
                obtain ⟨hp1, hp2, hp3⟩ := hp
                have FF := FE9.trans hp2 (S := fun _ => False) (fun i hi e => by
                  rcases e with e | e
                  · have := HLB.out; omega
                  · have := lg9.own i e; have := HLB.out; omega)
                go_wp2
                go_roundw
                case rel => exact ⟨k + 1, n + m, ls ++ [r], _, hml, by omega, by go_num, hp1, HWS, HXS, FF⟩
                case measure => simp [intOf]; omega
        · have HMF : Hid (more l ls n = false) := by show _ = _; rw [HM.out]; exact decide_eq_false (fun h => hl h.2.1)
          have hlb2 : (r.lsn != (ls.length : Int) + 1) = true := by simpa using hl
          clear hl HM HRF
          go_wp2_with fail
          refine hdc1.mono ?_
          clear hdc1
          rintro e2 w2 ⟨rfl, f2⟩
          have fb := Fr.box w2 (.cells #[.int .i64 r.lsn, .int .i64 r.ep, .int .i64 r.kind, .int .i64 r.page, .int .i64 r.other, .int .i64 r.req, .string r.key, .string r.val] 30)
          have FE := (F.seq' f2).seq' fb
          have lgE := lg.same (f2.seq' fb)
          have hla := rlast_lg lb rv ls 0 _ lgE hbig
          generalize lastE ls = le at *
          go_wp2_with fail
          refine hla.mono ?_
          clear hla
          rintro e9 w9 ⟨rfl, f9⟩
          have lg9 := lgE.same f9
          have FE9 := FE.seq' f9
          have hlbx : lb < w2.heap.size := Nat.lt_of_lt_of_le hlw f2.size
          have hx9 := rec_at w2 _ _ f9
          obtain ⟨⟨c0, c1, c2, c3, c4, c5, c6, c7⟩, zc⟩ := rec_cells hx9
          obtain ⟨y0, y1, y2, y3⟩ := cell_of_two lg9.box
          obtain ⟨lgF, fF⟩ := lg9.flush (ls.length : Int)
          have F9 := FE9.trans fF (S := fun _ => False) (fun i hi e => by have := HLB.out; omega)
          have HXE : Hid (X = (ls, n)) := by show _ = _; rw [HK.out]; exact rdAll_no HMF.out
          go_wp2
          go_ret2
          rw [HXE.out]
          exact ⟨rfl, rv, lgF, WL.out, F9, hn⟩
      · have HMF : Hid (more l ls n = false) := by show _ = _; rw [HM.out]; exact decide_eq_false (fun h => he h.1)
        have heb : ((e : Int) != 0) = true := by rw [bne_iff_ne]; omega
        clear he HM HRF
        go_wp2_with fail
        refine hdc1.mono ?_
        clear hdc1
        rintro e2 w2 ⟨rfl, f2⟩
        have fb := Fr.box w2 (.cells #[.int .i64 r.lsn, .int .i64 r.ep, .int .i64 r.kind, .int .i64 r.page, .int .i64 r.other, .int .i64 r.req, .string r.key, .string r.val] 30)
        have FE := (F.seq' f2).seq' fb
        have lgE := lg.same (f2.seq' fb)
        have hla := rlast_lg lb rv ls 0 _ lgE hbig
        generalize lastE ls = le at *
        go_wp2_with fail
        refine hla.mono ?_
        clear hla
        rintro e9 w9 ⟨rfl, f9⟩
        have lg9 := lgE.same f9
        have FE9 := FE.seq' f9
        have hlbx : lb < w2.heap.size := Nat.lt_of_lt_of_le hlw f2.size
        have hx9 := rec_at w2 _ _ f9
        obtain ⟨⟨c0, c1, c2, c3, c4, c5, c6, c7⟩, zc⟩ := rec_cells hx9
        obtain ⟨y0, y1, y2, y3⟩ := cell_of_two lg9.box
        obtain ⟨lgF, fF⟩ := lg9.flush (ls.length : Int)
        have F9 := FE9.trans fF (S := fun _ => False) (fun i hi e => by have := HLB.out; omega)
        have HXE : Hid (X = (ls, n)) := by show _ = _; rw [HK.out]; exact rdAll_no HMF.out
        go_wp2
        go_ret2
        rw [HXE.out]
        exact ⟨rfl, rv, lgF, WL.out, F9, hn⟩

set_option maxRecDepth 100000 in
set_option maxHeartbeats 2000000 in
theorem rread_none (a : Option Addr) (cap : Nat) (hmx : cap ≤ 9223372036854775807) (w : World) :
    Calls Tryz.prog 17 #[.slice a 0 cap] w fun e w' => e = .returned (.tuple #[.pointer (some ⟨w.heap.size, 0, none⟩), .int .i64 0]) ∧
      Rlg w' w.heap.size (.slice none 0 0) [] 0 ∧ Fr (fun _ => False) w w' := by
  obtain ⟨lb, hlbd⟩ : ∃ lb, lb = w.heap.size := ⟨_, rfl⟩
  have HLB : Hid (lb = w.heap.size) := hlbd
  have l1 : Rlg (w.alloc (.cells #[.slice none 0 0, .int .i64 0] 28)) lb (.slice none 0 0) [] 0 := by rw [hlbd]; exact ⟨heap_alloc_new w _, Has.nil _ _, fun g e => by cases e⟩
  have f1 := Fr.box w (.cells #[.slice none 0 0, .int .i64 0] 28)
  obtain ⟨W1, hW1⟩ : ∃ W, W = w.alloc (.cells #[.slice none 0 0, .int .i64 0] 28) := ⟨_, rfl⟩
  have HW1 : Hid (w.alloc (.cells #[.slice none 0 0, .int .i64 0] 28) = W1) := hW1.symm
  rw [← hW1] at l1 f1
  clear hW1
  rw [← hlbd]
  have i2 : (0 : Int) ≤ (cap : Int) := by omega
  have hz : rdec [] = (zr, 0, 10) := by unfold rdec; rw [if_pos (by decide)]
  have hdc := fun (x : Option Addr) (c : Nat) (hc : c ≤ 9223372036854775807) W => rdecode_rec x 0 c [] rfl W ⟨by simp, hc, by simp, octs_nil, .inl rfl⟩
  rw [hz] at hdc
  unfold RdOut at hdc
  dsimp only at hdc
  rw [zr_agg] at hdc
  clear hz
  go_enter Tryz.func17, Tryz.ntmps17
  go_wp2
  rw [HW1.out, ← hlbd]
  clear hlbd
  refine wp_loop_rounds 1 ?_
  rw [rounds_succ]
  go_wp2_with (go_at_call 39; refine (hdc _ _ (by omega) _).mono ?_; rintro e2 w2 ⟨rfl, f2⟩)
  have fb := Fr.box w2 (.cells #[.int .i64 0, .int .i64 0, .int .i64 0, .int .i64 0, .int .i64 0, .int .i64 0, .string ⟨#[]⟩, .string ⟨#[]⟩] 30)
  have lgE := l1.same (f2.seq' fb)
  refine (rlast_lg lb _ [] 0 _ lgE (by simp)).mono ?_
  rintro e9 w9 ⟨rfl, f9⟩
  have lg9 := lgE.same f9
  obtain ⟨y0, y1, y2, y3⟩ := cell_of_two lg9.box
  obtain ⟨lgF, fF⟩ := lg9.flush 0
  have F9 := (f1.seq' ((f2.seq' fb).seq' f9)).trans fF (S := fun _ => False) (fun i hi e => by have := HLB.out; omega)
  go_wp2
  go_ret2
  exact ⟨rfl, lgF, F9⟩
/-- What the document's Read tells of any bytes. -/
theorem rread_any (a : Option Addr) (n cap : Nat) (l : List Nat) (hn : n = l.length) (w : World) (hr : Row w a cap l) :
    Calls Tryz.prog 17 #[.slice a n cap] w fun e w' => e = .returned (.tuple #[.pointer (some ⟨w.heap.size, 0, none⟩), .int .i64 ((wread l).2 : Nat)]) ∧
      ∃ rv, Rlg w' w.heap.size rv (wread l).1 ((wread l).1.length : Int) ∧ Wl (wread l).1 ∧ Fr (fun _ => False) w w' ∧ (wread l).2 ≤ l.length := by
  subst hn
  rcases hr.at_ with h0 | ⟨b, off, rfl, hb, hc⟩
  · subst h0
    rw [wread_nil]
    refine (rread_none a cap hr.max w).mono ?_
    rintro e w' ⟨rfl, h1, h2⟩
    exact ⟨rfl, _, h1, wl_nil, h2, Nat.le_refl _⟩
  · exact rread_some b off cap l w hr hb hc
end Go.Proofs.YtnoadmkkkeianaaGreat
