
/- What the document's Marks makes. -/
import Derived.Test.YtnoadmkkkeianaaGreatWrApp
namespace Go.Proofs.YtnoadmkkkeianaaGreat
open Go.RowKit Crcm

set_option maxRecDepth 100000 in
set_option maxHeartbeats 4000000 in
theorem rmarks_lg (lb : Nat) (rv : Value) (ls : List Rec) (fl : Int) (w : World) (h : Rlg w lb rv ls fl) (hw : Wl ls) :
    Calls Tryz.prog 34 #[.pointer (some ⟨lb, 0, none⟩)] w fun e w' => ∃ a c, e = .returned (.slice a (mks ls).length c) ∧ Mks w' a c (mks ls) ∧ Fr (fun _ => False) w w' := by
  obtain ⟨iM, hiM, hM0, hM1, hM2⟩ := info_parts infoMark
  have M1 : Hid (Tryz.prog.info? 73 = some iM) := hiM
  have M2 : Hid (iM.zero = some (.agg #[.int .i64 0, .int .i64 0])) := hM0
  have M3 : Hid (iM.size = 2) := hM1
  have M4 : Hid (iM.bytes = 16) := hM2
  clear hiM hM0 hM1 hM2
  have hb := hw.big
  have HLG : Hid (∀ W, Fr (fun _ => False) w W → Rlg W lb rv ls fl) := fun W f => h.same f
  have hlbs := lt_of_block h.box
  obtain ⟨h0, h1, f0, f1⟩ := cell_of_two h.box
  obtain ⟨ar, cr, rfl, _, hcr⟩ := h.has.slice
  have hcr' : cr ≤ 9223372036854775807 := by unfold maxLen at hcr; exact hcr
  clear hcr hw h
  go_enter Tryz.func34, Tryz.ntmps34
  go_wp2
  clear h0 h1 f0 f1
  go_loopw [11, 3] (fun i t wr => ∃ (k : Nat) (vt : Value) (ms : List (Int × Int)), k ≤ ls.length ∧ i = .int .i64 k ∧ t = vt ∧ Hid (ms = mks (ls.take k)) ∧ Has wr 2 vt ms.length (ms.flatMap mkC) ∧ (∀ g, vt.ownBlock = some g → w.heap.size ≤ g) ∧ Fr (fun _ => False) w wr) (fun i _ _ => ls.length - (intOf i).toNat)
  case atStart => exact ⟨0, .slice none 0 0, [], by omega, rfl, rfl, rfl, Has.nil _ _, (fun g e => by cases e), Fr.refl _ _⟩
  case round =>
    obtain ⟨k, vt, ms, hk, rfl, rfl, HM, ht, hown, F⟩ := hrel
    by_cases hlt : k < ls.length
    · obtain ⟨r, hr, htk⟩ := take_one ls k hlt
      have hlg := HLG.out _ F
      have hhk := hlg.has
      obtain ⟨g, cap, hv, _⟩ := hhk.form (by omega)
      simp only [Value.slice.injEq, true_and] at hv
      obtain ⟨rfl, rfl⟩ := hv
      obtain ⟨q0, q1, q2, q3, q4, q5, q6, q7⟩ := rec_range (hhk.elem recC_length hr)
      have fb := Fr.box wr (.cells #[.int .i64 r.lsn, .int .i64 r.ep, .int .i64 r.kind, .int .i64 r.page, .int .i64 r.other, .int .i64 r.req, .string r.key, .string r.val] 30)
      have HMS : Hid (mks (ls.take (k + 1)) = if ls.take k = [] ∨ lastE (ls.take k) ≠ r.ep then ms ++ [(r.ep, r.lsn)] else ms) := by show _ = _; rw [htk, mks_step, HM.out]
      have HML : Hid (ms.length ≤ 65536) := by show _ ≤ _; rw [HM.out]; have := mks_len (ls.take k); rw [List.length_take] at this; omega
      have hml := HML.out
      have HAP : Hid (∀ W, Fr (fun _ => False) (wr.alloc (.cells #[.int .i64 r.lsn, .int .i64 r.ep, .int .i64 r.kind, .int .i64 r.page, .int .i64 r.other, .int .i64 r.req, .string r.key, .string r.val] 30)) W → Has W 2 u3 ms.length (ms.flatMap mkC)) := fun W f => (ht.fr fb (fun _ _ f => f)).fr f (fun _ _ f => f)
      have hown' : Hid (∀ g, u3.ownBlock = some g → w.heap.size ≤ g) := hown
      have FB := F.seq' fb
      have HR2 : Hid (∀ W (_P : Fr (fun _ => False) (wr.alloc (.cells #[.int .i64 r.lsn, .int .i64 r.ep, .int .i64 r.kind, .int .i64 r.page, .int .i64 r.other, .int .i64 r.req, .string r.key, .string r.val] 30)) W) v' w8, Has w8 2 v' (ms ++ [(r.ep, r.lsn)]).length ((ms ++ [(r.ep, r.lsn)]).flatMap mkC) → Fr (fun k => u3.ownBlock = some k ∧ 0 < 1) W w8 → (v'.ownBlock = u3.ownBlock ∨ v'.ownBlock = some W.heap.size) → (∀ g, v'.ownBlock = some g → w.heap.size ≤ g) ∧ Fr (fun _ => False) w w8) := fun W P v' w8 hh f hat => by
        have hz := (FB.seq' P).size
        refine ⟨fun g e => ?_, (FB.seq' P).trans f (fun i hi e => by have := hown'.out i e.1; omega)⟩
        rcases hat with h1 | h1
        · rw [h1] at e; exact hown'.out g e
        · rw [h1] at e; simp only [Option.some.injEq] at e; omega
      clear hown
      by_cases h0 : k = 0
      · subst h0
        have HADD : Hid (mks (ls.take (0 + 1)) = ms ++ [(r.ep, r.lsn)]) := by show _ = _; rw [HMS.out, if_pos (.inl (by simp))]
        have gd := (Fr.refl (fun _ => False) (wr.alloc (.cells #[.int .i64 r.lsn, .int .i64 r.ep, .int .i64 r.kind, .int .i64 r.page, .int .i64 r.other, .int .i64 r.req, .string r.key, .string r.val] 30))).drew
        obtain ⟨⟨c0, c1, c2, c3, c4, c5, c6, c7⟩, _⟩ := rec_cells (rec_at wr _ _ gd)
        clear hr htk hhk hlg HMS
        go_wp2_with fail
        go_quiet (fail)
        have PF : Fr (fun _ => False) (wr.alloc (.cells #[.int .i64 r.lsn, .int .i64 r.ep, .int .i64 r.kind, .int .i64 r.page, .int .i64 r.other, .int .i64 r.req, .string r.key, .string r.val] 30)) ((wr.alloc (.cells #[.int .i64 r.lsn, .int .i64 r.ep, .int .i64 r.kind, .int .i64 r.page, .int .i64 r.other, .int .i64 r.req, .string r.key, .string r.val] 30)).drewN nq) := Fr.drewN (Fr.refl _ _) _
        obtain ⟨W5, hW5⟩ : ∃ W, W = (wr.alloc (.cells #[.int .i64 r.lsn, .int .i64 r.ep, .int .i64 r.kind, .int .i64 r.page, .int .i64 r.other, .int .i64 r.req, .string r.key, .string r.val] 30)).drewN nq := ⟨_, rfl⟩
        rw [← hW5] at PF ⊢
        obtain ⟨⟨d0, d1, d2, d3, d4, d5, d6, d7⟩, _⟩ := rec_cells (rec_at wr _ _ PF)
        clear hW5
        have P6 := PF.alloc (.cells #[.int .i64 r.ep, .int .i64 r.lsn] 73)
        have hrow := HAP.out _ P6
        have hnews : From (W5.alloc (.cells #[.int .i64 r.ep, .int .i64 r.lsn] 73)) (some ⟨W5.heap.size, 0, none⟩) (mkC (r.ep, r.lsn)) := .inr ⟨_, _, rfl, range_block (heap_alloc_new W5 _) (fun j v hv => by rw [Nat.zero_add]; simpa [mkC] using hv)⟩
        go_wp2_with (at_builtin; refine wpList_append_has _ rfl (.tmp 32) (.tmp 38) 65 65 73 73 rfl iM (.agg #[.int .i64 0, .int .i64 0]) 2 16 Tryz.underlying65 Tryz.underlying65 M1.out M2.out M3.out M4.out rfl (by omega) u3 ms.length (ms.flatMap mkC) rfl hrow (some ⟨W5.heap.size, 0, none⟩) 1 1 (mkC (r.ep, r.lsn)) rfl rfl hnews (mkC_one _) (by unfold maxLen; omega) (by omega) ?_; intro a4 c4 w8 ht4 f34 hat4)
        have hl2 : ms.length + 1 = (ms ++ [(r.ep, r.lsn)]).length := by rw [List.length_append]; rfl
        have ht5 : Has w8 2 (.slice a4 (ms ++ [(r.ep, r.lsn)]).length c4) (ms ++ [(r.ep, r.lsn)]).length ((ms ++ [(r.ep, r.lsn)]).flatMap mkC) := by
          rw [← hl2, List.flatMap_append]
          simpa using ht4
        rw [hl2] at hat4 ⊢
        obtain ⟨hR1, hR2⟩ := HR2.out _ P6 _ _ ht5 f34 hat4
        clear hl2 ht4 d0 d1 d2 d3 d4 d5 d6 d7
        go_wp2
        go_roundw
        case rel => exact ⟨0 + 1, _, ms ++ [(r.ep, r.lsn)], by omega, by go_num, rfl, HADD.out.symm, ht5, hR1, hR2⟩
        case measure => simp [intOf]; omega
      · have hkb : ((k : Int) == 0) = false := by rw [beq_eq_false_iff_ne]; omega
        obtain ⟨p, rfl⟩ : ∃ p, k = p + 1 := ⟨k - 1, by omega⟩
        obtain ⟨lr, hlr⟩ : ∃ lr, ls[p]? = some lr := ⟨_, List.getElem?_eq_getElem (by omega)⟩
        have hne : ls.take (p + 1) ≠ [] := fun e => by
          have : (ls.take (p + 1)).length = 0 := by rw [e]; rfl
          rw [List.length_take] at this; omega
        have hle : lastE (ls.take (p + 1)) = lr.ep := lastE_at (by
          have hl : (ls.take (p + 1)).length - 1 = p := by rw [List.length_take]; omega
          rw [hl, List.getElem?_take, if_pos (by omega)]; exact hlr)
        have gd := (Fr.refl (fun _ => False) (wr.alloc (.cells #[.int .i64 r.lsn, .int .i64 r.ep, .int .i64 r.kind, .int .i64 r.page, .int .i64 r.other, .int .i64 r.req, .string r.key, .string r.val] 30))).drew
        have hlgd := hlg.same fb
        obtain ⟨y0, y1, y2, y3⟩ := cell_of_two hlgd.box
        obtain ⟨p0, p1, p2, p3, p4, p5, p6, p7⟩ := rec_range (hlgd.has.elem recC_length hlr)
        obtain ⟨⟨c0, c1, c2, c3, c4, c5, c6, c7⟩, _⟩ := rec_cells (rec_at wr _ _ gd)
        have j1 : IntKind.i64.wrap (p : Int) = (p : Int) := by simp [IntKind.wrap, IntKind.bits, IntKind.signed]; omega
        have j2 : (0 : Int) ≤ (p : Int) := by omega
        have j3 : (p : Int) < (ls.length : Int) := by omega
        have j4 : IntKind.i64.wrap ((p : Int) + 1 - 1) = (p : Int) := by simp [IntKind.wrap, IntKind.bits, IntKind.signed]; omega
        by_cases hep : lr.ep = r.ep
        · have hepb : (lr.ep != r.ep) = false := by simp [hep]
          have HKEEP : Hid (mks (ls.take (p + 1 + 1)) = ms) := by show _ = _; rw [HMS.out, if_neg (fun h => h.elim hne (fun h => h (hle.trans hep)))]
          clear hep hle hne hlr HMS hr htk hhk hlg hlgd h0
          go_wp2_with fail
          go_quiet (fail)
          have PF : Fr (fun _ => False) (wr.alloc (.cells #[.int .i64 r.lsn, .int .i64 r.ep, .int .i64 r.kind, .int .i64 r.page, .int .i64 r.other, .int .i64 r.req, .string r.key, .string r.val] 30)) ((wr.alloc (.cells #[.int .i64 r.lsn, .int .i64 r.ep, .int .i64 r.kind, .int .i64 r.page, .int .i64 r.other, .int .i64 r.req, .string r.key, .string r.val] 30)).drewN nq) := Fr.drewN (Fr.refl _ _) _
          have hrow := HAP.out _ PF
          have FF := FB.seq' PF
          go_wp2
          go_roundw
          case rel => exact ⟨p + 1 + 1, _, ms, by omega, by go_num, rfl, HKEEP.out.symm, hrow, hown'.out, FF⟩
          case measure => simp [intOf]; omega
        · have hepb : (lr.ep != r.ep) = true := by simpa using hep
          have HADD : Hid (mks (ls.take (p + 1 + 1)) = ms ++ [(r.ep, r.lsn)]) := by show _ = _; rw [HMS.out, if_pos (.inr (by rw [hle]; exact hep))]
          clear hep hle hne hlr HMS hr htk hhk hlg hlgd h0
          go_wp2_with fail
          go_quiet (fail)
          have PF : Fr (fun _ => False) (wr.alloc (.cells #[.int .i64 r.lsn, .int .i64 r.ep, .int .i64 r.kind, .int .i64 r.page, .int .i64 r.other, .int .i64 r.req, .string r.key, .string r.val] 30)) ((wr.alloc (.cells #[.int .i64 r.lsn, .int .i64 r.ep, .int .i64 r.kind, .int .i64 r.page, .int .i64 r.other, .int .i64 r.req, .string r.key, .string r.val] 30)).drewN nq) := Fr.drewN (Fr.refl _ _) _
          obtain ⟨W5, hW5⟩ : ∃ W, W = (wr.alloc (.cells #[.int .i64 r.lsn, .int .i64 r.ep, .int .i64 r.kind, .int .i64 r.page, .int .i64 r.other, .int .i64 r.req, .string r.key, .string r.val] 30)).drewN nq := ⟨_, rfl⟩
          rw [← hW5] at PF ⊢
          obtain ⟨⟨d0, d1, d2, d3, d4, d5, d6, d7⟩, _⟩ := rec_cells (rec_at wr _ _ PF)
          clear hW5
          have P6 := PF.alloc (.cells #[.int .i64 r.ep, .int .i64 r.lsn] 73)
          have hrow := HAP.out _ P6
          have hnews : From (W5.alloc (.cells #[.int .i64 r.ep, .int .i64 r.lsn] 73)) (some ⟨W5.heap.size, 0, none⟩) (mkC (r.ep, r.lsn)) := .inr ⟨_, _, rfl, range_block (heap_alloc_new W5 _) (fun j v hv => by rw [Nat.zero_add]; simpa [mkC] using hv)⟩
          go_wp2_with (at_builtin; refine wpList_append_has _ rfl (.tmp 32) (.tmp 38) 65 65 73 73 rfl iM (.agg #[.int .i64 0, .int .i64 0]) 2 16 Tryz.underlying65 Tryz.underlying65 M1.out M2.out M3.out M4.out rfl (by omega) u3 ms.length (ms.flatMap mkC) rfl hrow (some ⟨W5.heap.size, 0, none⟩) 1 1 (mkC (r.ep, r.lsn)) rfl rfl hnews (mkC_one _) (by unfold maxLen; omega) (by omega) ?_; intro a4 c4 w8 ht4 f34 hat4)
          have hl2 : ms.length + 1 = (ms ++ [(r.ep, r.lsn)]).length := by rw [List.length_append]; rfl
          have ht5 : Has w8 2 (.slice a4 (ms ++ [(r.ep, r.lsn)]).length c4) (ms ++ [(r.ep, r.lsn)]).length ((ms ++ [(r.ep, r.lsn)]).flatMap mkC) := by
            rw [← hl2, List.flatMap_append]
            simpa using ht4
          rw [hl2] at hat4 ⊢
          obtain ⟨hR1, hR2⟩ := HR2.out _ P6 _ _ ht5 f34 hat4
          clear hl2 ht4 d0 d1 d2 d3 d4 d5 d6 d7
          go_wp2
          go_roundw
          case rel => exact ⟨p + 1 + 1, _, ms ++ [(r.ep, r.lsn)], by omega, by go_num, rfl, HADD.out.symm, ht5, hR1, hR2⟩
          case measure => simp [intOf]; omega
    · have hkl : ls.take k = ls := List.take_of_length_le (by omega)
      have HMM : Hid (ms = mks ls) := by show _ = _; rw [HM.out, hkl]
      obtain ⟨a, c, rfl, _, _⟩ := ht.slice
      have hmk := Has.mks rfl ht
      clear hkl
      go_wp2
      go_ret
      exact ⟨a, c, by rw [← HMM.out]; rfl, by rw [← HMM.out]; exact hmk, F⟩
end Go.Proofs.YtnoadmkkkeianaaGreat
