
/- For all pages and all records latticelaw12.RedoPages answers true: replayed page by page, records that follow one another come to the same pages; no condition. -/
import Derived.Test.YtlgceleelhppdaaDP9
import Derived.Test.YtlgceleelhppdaaDP34
namespace Go.Proofs.Ytlgceleelhppdaa.redoPages
open Go.ChangeShapes Go.WideShapes Go.ChangeAt Go.RowKit
open Go.ChangeMaps (open_string shut_string)
set_option linter.unusedVariables false

theorem own : ownKnob Try.prog.godebug = none := by kernel_rfl
theorem laidOut : laidOutB Try.prog = true := by kernel_rfl
theorem bytes8 : Try.prog.bytesOf 5 = 1 := by kernel_rfl

set_option maxRecDepth 100000 in
set_option maxHeartbeats 8000000 in
theorem walk (w : World) (a : Option Addr) (n c : Nat) (ls : List Sl) (hn : n = ls.length) (h : Slots w a c ls) (a2 : Option Addr) (n2 c2 : Nat) (rs : List Rec) (hn2 : n2 = rs.length) (hb : n2 * 80 ≤ 140737488355328) (h2 : Recs w a2 c2 rs) (hz : ∀ r ∈ rs, r.key.size ≤ 140737488351232 ∧ r.val.size ≤ 140737488351232) :
    Calls Try.prog 3 #[.slice a n c, .slice a2 n2 c2] w fun e w' => e = .returned (.bool true) ∧ Fr (fun _ => False) w w' := by
  obtain ⟨iR, hiR, hR0, hR1, hR2⟩ := info_parts infoRc
  have hri := rising_any a2 n2 c2 rs hn2 hb w h2
  have hz' : ∀ r ∈ riseR rs, r.key.size ≤ 140737488351232 ∧ r.val.size ≤ 140737488351232 := fun r hr => by
    obtain ⟨t, ht, e1, e2⟩ := riseR_mem hr
    rw [e1, e2]; exact hz t ht
  have hnr : n2 = (riseR rs).length := by rw [riseR_length]; exact hn2
  generalize riseR rs = al at hri hz' hnr
  have HS : Hid (∀ W, Fr (fun _ => False) w W → Slots W a c ls) := fun W f => h.same f
  have HZ : Hid (∀ r ∈ al, r.key.size ≤ 140737488351232 ∧ r.val.size ≤ 140737488351232) := hz'
  have HN : Hid (n = ls.length) := hn
  have HNR : Hid (n2 = al.length) := hnr
  have hnb : n2 ≤ 1759218604441 := by omega
  clear h h2 hz hz' hn hn2 hnr hb
  unfold RsOut at hri
  go_enter Try.func3, Try.ntmps3
  go_wp2_with fail
  refine hri.mono ?_
  rintro e w1 ⟨b1, c1, rfl, hh1, f1, _⟩
  rw [← HNR.out] at hh1 ⊢
  have hrec1 := Has.recsR HNR.out hh1
  have HRC : Hid (∀ W, Fr (fun _ => False) w1 W → Recs W b1 c1 al) := fun W f => hrec1.same f
  have hle1 : n2 ≤ c1 := by have := hrec1.le; have := HNR.out; omega
  have hmx1 := hrec1.max
  have hrp := replay_any a b1 n c n2 c1 ls al HN.out HNR.out HZ.out w1 (HS.out _ f1) hrec1
  clear hh1 hrec1 hri
  unfold RplOut at hrp
  obtain ⟨o, ho⟩ : ∃ o, o = rplA (psOf ls) al := ⟨_, rfl⟩
  rw [← ho] at hrp
  have HO : Hid (o = rplA (psOf ls) al) := ho
  obtain ⟨qs, er⟩ := o
  clear ho
  go_wp2_with fail
  refine hrp.mono ?_
  rintro e w2 ⟨b2, c2', la, rfl, sv2, ps2, f2⟩
  obtain ⟨m2, hm2⟩ : ∃ m2, m2 = la.length := ⟨_, rfl⟩
  rw [← hm2] at sv2 ⊢
  have HM2 : Hid (m2 = la.length) := hm2
  have HV2 : Hid (∀ W, Fr (fun _ => False) w2 W → Slots W b2 c2' la) := fun W f => (sv2.slots HM2.out).same f
  have F2 := f1.seq' f2
  have HPS : Hid (psOf la = qs) := ps2
  clear hrp hm2 sv2 ps2
  dsimp only at *
  by_cases h0 : er = 0
  · subst h0
    obtain ⟨hari, hpk, hqk, hrpl⟩ := rplA_ok HO.out.symm
    have HARI : Hid (ariB 0 (psOf ls) = true) := hari
    have HPK : Hid (PsOk (psOf ls)) := hpk
    have HQK : Hid (PsOk qs) := hqk
    have HRPL : Hid (rplP (psOf ls) al = (qs, 0)) := hrpl
    clear hari hpk hqk hrpl
    go_wp2
    go_loopw [9, 8] (fun p b wq => ∃ (q nb : Nat) (ab : Option Addr) (cb : Nat), q ≤ 4096 ∧ p = .int .i64 ((q : Int) + 1) ∧ b = .slice ab nb cb ∧ Hid (nb = (byQ al q).length) ∧ Hid (Has wq 8 (.slice ab nb cb) nb ((byQ al q).flatMap recC)) ∧ Hid (∀ g, (Value.slice ab nb cb).ownBlock = some g → w2.heap.size ≤ g) ∧ Fr (fun _ => False) w2 wq) (fun p _ _ => 4097 - (intOf p).toNat)
    case atStart => exact ⟨0, 0, none, 0, by omega, rfl, rfl, rfl, Has.nil _ _, (fun g e => by cases e), Fr.refl _ _⟩
    case round =>
      obtain ⟨q, nb, ab, cb, hq, rfl, rfl, HNB, HHB, HOB, F⟩ := hrel
      have hnbn : nb ≤ n2 := by have := byQ_le al q; have := HNB.out; have := HNR.out; omega
      by_cases hlt : q < 4096
      · have hqi : decide ((q : Int) + 1 ≤ 4096) = true := decide_eq_true (by omega)
        go_wp2
        go_loopw [31, 8] (fun i b wr => ∃ (j nc : Nat) (ac : Option Addr) (cc : Nat), j ≤ n2 ∧ i = .int .i64 j ∧ b = .slice ac nc cc ∧ Hid (nc = (byJ al q j).length) ∧ Hid (Has wr 8 (.slice ac nc cc) nc ((byJ al q j).flatMap recC)) ∧ Hid (∀ g, (Value.slice ac nc cc).ownBlock = some g → w2.heap.size ≤ g) ∧ Fr (fun _ => False) w2 wr) (fun i _ _ => n2 - (intOf i).toNat)
        case atStart => exact ⟨0, nb, ab, cb, by omega, rfl, rfl, by show _ = _; rw [byJ_zero]; exact HNB.out, by show Has _ _ _ _ _; rw [byJ_zero]; exact HHB.out, HOB, F⟩
        case round =>
          obtain ⟨j, nc, ac, cc, hj, rfl, rfl, HNC, HHC, HOC, FC⟩ := hrel
          by_cases hjl : j < n2
          · obtain ⟨r, hr⟩ : ∃ r, al[j]? = some r := ⟨_, List.getElem?_eq_getElem (by have := HNR.out; omega)⟩
            obtain ⟨bb, off, rfl, hbb, hcc⟩ := (HRC.out _ (f2.seq' FC)).some (by have := HNR.out; omega)
            obtain ⟨q0, q1, q2, q3, q4, q5, q6, q7⟩ := rec_range (hcc j r hr)
            have hji : (j : Int) < (n2 : Int) := by omega
            by_cases hpg : r.page = (q : Int) + 1
            · have HNX : Hid (byJ al q (j + 1) = byJ al q j ++ [r]) := byJ_yes hr hpg
              have hnc1 : nc + 1 ≤ n2 := by have := byJ_le al q (j + 1); rw [HNX.out, List.length_append] at this; simp at this; have := HNC.out; have := HNR.out; omega
              have hpb : (r.page == (q : Int) + 1) = true := by simpa using hpg
              have P6 := (Fr.box wr (.cells #[.int .i64 r.lsn, .int .i64 r.ep, .int .i64 r.kind, .int .i64 r.page, .int .i64 r.other, .int .i64 r.req, .string r.key, .string r.val] 30)).alloc (.cells #[.int .i64 r.lsn, .int .i64 r.ep, .int .i64 r.kind, .int .i64 r.page, .int .i64 r.other, .int .i64 r.req, .string r.key, .string r.val] 30)
              have FF := FC.seq' P6
              have HRW : Hid (Has ((wr.alloc (.cells #[.int .i64 r.lsn, .int .i64 r.ep, .int .i64 r.kind, .int .i64 r.page, .int .i64 r.other, .int .i64 r.req, .string r.key, .string r.val] 30)).alloc (.cells #[.int .i64 r.lsn, .int .i64 r.ep, .int .i64 r.kind, .int .i64 r.page, .int .i64 r.other, .int .i64 r.req, .string r.key, .string r.val] 30)) 8 (.slice ac nc cc) nc ((byJ al q j).flatMap recC)) := HHC.out.fr P6 (fun _ _ f => f)
              have HNE : Hid (From ((wr.alloc (.cells #[.int .i64 r.lsn, .int .i64 r.ep, .int .i64 r.kind, .int .i64 r.page, .int .i64 r.other, .int .i64 r.req, .string r.key, .string r.val] 30)).alloc (.cells #[.int .i64 r.lsn, .int .i64 r.ep, .int .i64 r.kind, .int .i64 r.page, .int .i64 r.other, .int .i64 r.req, .string r.key, .string r.val] 30)) (some ⟨wr.heap.size + 1, 0, none⟩) (recC r)) := .inr ⟨_, _, rfl, by
                have := range_block (heap_alloc_new (wr.alloc (.cells #[.int .i64 r.lsn, .int .i64 r.ep, .int .i64 r.kind, .int .i64 r.page, .int .i64 r.other, .int .i64 r.req, .string r.key, .string r.val] 30)) (.cells #[.int .i64 r.lsn, .int .i64 r.ep, .int .i64 r.kind, .int .i64 r.page, .int .i64 r.other, .int .i64 r.req, .string r.key, .string r.val] 30)) (xs := recC r) (o := 0) (fun j v hv => by rw [Nat.zero_add]; simpa [recC] using hv)
                rwa [show (wr.alloc (.cells #[.int .i64 r.lsn, .int .i64 r.ep, .int .i64 r.kind, .int .i64 r.page, .int .i64 r.other, .int .i64 r.req, .string r.key, .string r.val] 30)).heap.size = wr.heap.size + 1 by simp] at this⟩
              clear hr hcc hpg P6
              go_wp2_with (at_builtin; refine wpList_append_has _ rfl (.tmp 39) (.tmp 41) 23 23 30 30 rfl iR (.agg #[.int .i64 0, .int .i64 0, .int .i64 0, .int .i64 0, .int .i64 0, .int .i64 0, .string ⟨#[]⟩, .string ⟨#[]⟩]) 8 80 Try.underlying23 Try.underlying23 hiR hR0 hR1 hR2 rfl (by omega) (.slice ac nc cc) nc ((byJ al q j).flatMap recC) rfl HRW.out (some ⟨wr.heap.size + 1, 0, none⟩) 1 1 (recC r) rfl rfl HNE.out (recC_one _) (by unfold maxLen; omega) (by omega) ?_; intro a4 c4 w8 ht4 f34 hat4)
              have HT5 : Hid (Has w8 8 (.slice a4 (nc + 1) c4) (nc + 1) ((byJ al q (j + 1)).flatMap recC)) := by
                show Has _ _ _ _ _
                rw [HNX.out, List.flatMap_append]
                simpa using ht4
              have HN5 : Hid (nc + 1 = (byJ al q (j + 1)).length) := by show _ = _; rw [HNX.out, List.length_append, ← HNC.out]; rfl
              have HO5 : Hid (∀ g, (Value.slice a4 (nc + 1) c4).ownBlock = some g → w2.heap.size ≤ g) := fun g e => by
                have hz := FC.size
                rcases hat4 with h1 | h1
                · rw [h1] at e; exact HOC.out g e
                · rw [h1] at e; simp at e; omega
              have F5 : Fr (fun _ => False) w2 w8 := FF.trans f34 (fun i hi e => by have := HOC.out i e.1; omega)
              clear ht4 hat4 f34 FF q0 q1 q2 q3 q4 q5 q6 q7 HRW HNE HNX
              go_wp2
              go_roundw
              case rel => exact ⟨j + 1, nc + 1, a4, c4, by omega, by go_num, rfl, HN5, HT5, HO5, F5⟩
              case measure => simp [intOf]; omega
            · have HNX : Hid (byJ al q (j + 1) = byJ al q j) := byJ_no hr hpg
              have hpb : (r.page == (q : Int) + 1) = false := by simpa using hpg
              have FB := FC.alloc (.cells #[.int .i64 r.lsn, .int .i64 r.ep, .int .i64 r.kind, .int .i64 r.page, .int .i64 r.other, .int .i64 r.req, .string r.key, .string r.val] 30)
              have HT5 : Hid (Has (wr.alloc (.cells #[.int .i64 r.lsn, .int .i64 r.ep, .int .i64 r.kind, .int .i64 r.page, .int .i64 r.other, .int .i64 r.req, .string r.key, .string r.val] 30)) 8 (.slice ac nc cc) nc ((byJ al q (j + 1)).flatMap recC)) := by
                show Has _ _ _ _ _
                rw [HNX.out]
                exact HHC.out.fr (Fr.box wr (.cells #[.int .i64 r.lsn, .int .i64 r.ep, .int .i64 r.kind, .int .i64 r.page, .int .i64 r.other, .int .i64 r.req, .string r.key, .string r.val] 30)) (fun _ _ f => f)
              have HN5 : Hid (nc = (byJ al q (j + 1)).length) := by show _ = _; rw [HNX.out]; exact HNC.out
              clear hr hcc hpg HNX
              go_wp2
              go_roundw
              case rel => exact ⟨j + 1, nc, ac, cc, by omega, by go_num, rfl, HN5, HT5, HOC, FB⟩
              case measure => simp [intOf]; omega
          · obtain rfl : j = n2 := by omega
            have HND : Hid (nc = (byQ al (q + 1)).length) := by show _ = _; rw [← byJ_end, ← HNR.out]; exact HNC.out
            have HHD : Hid (Has wr 8 (.slice ac nc cc) nc ((byQ al (q + 1)).flatMap recC)) := by show Has _ _ _ _ _; rw [← byJ_end, ← HNR.out]; exact HHC.out
            clear HNC HHC HNB HHB HOB F hnbn
            by_cases hfull : nc = j
            · have hfb : ((nc : Int) == (j : Int)) = true := by rw [hfull]; simp
              have HALL : Hid (q + 1 = 4096 ∨ (byQ al (q + 1)).length = al.length) := .inr (by rw [← HND.out, ← HNR.out]; exact hfull)
              clear hfull hnb hle1
              have HHR : Hid (Recs wr ac cc (byQ al (q + 1))) := Has.recsR HND.out HHD.out
              have HEQ : Hid (rplA (psOf ls) (byQ al (q + 1)) = (qs, 0)) := by
                show _ = _
                unfold rplA
                rw [if_pos HARI.out]
                exact by_done HPK.out HQK.out.1 (by omega) HALL.out HRPL.out
              have hrp5 := replay_any a ac n c nc cc ls (byQ al (q + 1)) HN.out HND.out (fun r hr => HZ.out r (byQ_mem hr).1) wr (HS.out _ (F2.seq' FC)) HHR.out
              unfold RplOut at hrp5
              rw [HEQ.out] at hrp5
              dsimp only at hrp5
              clear HHR HEQ HALL HHD
              go_wp2_with fail
              refine hrp5.mono ?_
              rintro e w5 ⟨b5, c5, lb, rfl, sv5, ps5, f5⟩
              obtain ⟨m5, hm5⟩ : ∃ m5, m5 = lb.length := ⟨_, rfl⟩
              rw [← hm5] at sv5 ⊢
              have HM5 : Hid (m5 = lb.length) := hm5
              have HV5 : Hid (∀ W, Fr (fun _ => False) w5 W → Slots W b5 c5 lb) := fun W f => (sv5.slots HM5.out).same f
              have HP5 : Hid (psOf lb = psOf la) := by show _ = _; rw [ps5, HPS.out]
              have F5 := FC.seq' f5
              have hfew : m2 ≤ 100000 := by have := HQK.out.few; rw [← HPS.out, ps_length] at this; have := HM2.out; omega
              have hpg := pages_any b2 m2 c2' la HM2.out hfew w5 (HV2.out _ F5)
              unfold SvOut at hpg
              clear hrp5 sv5 ps5 hm5
              go_wp2_with fail
              refine hpg.mono ?_
              rintro e w6 ⟨b6, c6, rfl, sv6, f6, _⟩
              rw [← HM2.out] at sv6 ⊢
              have hsm := same_any b5 b6 m5 m2 c5 c6 lb la HM5.out HM2.out HP5.out w6 (HV5.out _ f6) (sv6.slots HM2.out)
              clear hpg sv6
              go_wp2_with fail
              refine hsm.mono ?_
              rintro e w7 ⟨rfl, f7⟩
              clear hsm
              go_wp2_with fail
              refine (dspeaks_any w7).mono ?_
              rintro e w8 ⟨rfl, f8⟩
              go_wp2
              go_ret
              exact ⟨rfl, (((F2.seq' F5).seq' f6).seq' f7).seq' f8⟩
            · have hfb : ((nc : Int) == (j : Int)) = false := by rw [beq_eq_false_iff_ne]; omega
              clear hfull
              go_wp2
              go_roundw
              case rel => exact ⟨q + 1, nc, ac, cc, by omega, by go_num, rfl, HND, HHD, HOC, FC⟩
              case measure => simp [intOf]; omega
      · have hqi : decide ((q : Int) + 1 ≤ 4096) = false := decide_eq_false (by omega)
        have HALL : Hid (q = 4096 ∨ (byQ al q).length = al.length) := .inl (by omega)
        have HHR : Hid (Recs wr ab cb (byQ al q)) := Has.recsR HNB.out HHB.out
        have HEQ : Hid (rplA (psOf ls) (byQ al q) = (qs, 0)) := by
          show _ = _
          unfold rplA
          rw [if_pos HARI.out]
          exact by_done HPK.out HQK.out.1 (by omega) HALL.out HRPL.out
        have hrp5 := replay_any a ab n c nb cb ls (byQ al q) HN.out HNB.out (fun r hr => HZ.out r (byQ_mem hr).1) wr (HS.out _ (F2.seq' F)) HHR.out
        unfold RplOut at hrp5
        rw [HEQ.out] at hrp5
        dsimp only at hrp5
        clear HHR HEQ HALL HHB
        go_wp2_with fail
        refine hrp5.mono ?_
        rintro e w5 ⟨b5, c5, lb, rfl, sv5, ps5, f5⟩
        obtain ⟨m5, hm5⟩ : ∃ m5, m5 = lb.length := ⟨_, rfl⟩
        rw [← hm5] at sv5 ⊢
        have HM5 : Hid (m5 = lb.length) := hm5
        have HV5 : Hid (∀ W, Fr (fun _ => False) w5 W → Slots W b5 c5 lb) := fun W f => (sv5.slots HM5.out).same f
        have HP5 : Hid (psOf lb = psOf la) := by show _ = _; rw [ps5, HPS.out]
        have F5 := F.seq' f5
        have hfew : m2 ≤ 100000 := by have := HQK.out.few; rw [← HPS.out, ps_length] at this; have := HM2.out; omega
        have hpg := pages_any b2 m2 c2' la HM2.out hfew w5 (HV2.out _ F5)
        unfold SvOut at hpg
        clear hrp5 sv5 ps5 hm5
        go_wp2_with fail
        refine hpg.mono ?_
        rintro e w6 ⟨b6, c6, rfl, sv6, f6, _⟩
        rw [← HM2.out] at sv6 ⊢
        have hsm := same_any b5 b6 m5 m2 c5 c6 lb la HM5.out HM2.out HP5.out w6 (HV5.out _ f6) (sv6.slots HM2.out)
        clear hpg sv6
        go_wp2_with fail
        refine hsm.mono ?_
        rintro e w7 ⟨rfl, f7⟩
        clear hsm
        go_wp2_with fail
        refine (dspeaks_any w7).mono ?_
        rintro e w8 ⟨rfl, f8⟩
        go_wp2
        go_ret
        exact ⟨rfl, (((F2.seq' F5).seq' f6).seq' f7).seq' f8⟩
  · have hb0 : (er != 0) = true := by simpa using h0
    clear h0
    go_wp2_with fail
    refine (dspeaks_any w2).mono ?_
    rintro e w3 ⟨rfl, f3⟩
    go_wp2
    go_ret
    exact ⟨rfl, F2.seq' f3⟩

set_option maxRecDepth 100000 in
theorem lifted (os : Os) (started : os.Started) (H : Type) (enc : TypeId × Value → H) :
    ReturnsInHanded {} Try.checked os 3 .any (Rows.redoPagesSpec.pre6 enc Try.prog Try.f3 Rows.redoPagesRow.domain false) (Rows.redoPagesSpec.post enc Try.prog Try.f3 false true false false) := by
  refine returnsInHanded_of_change_sized (C := Try.checked) own started (by kernel_rfl) Try.func3
    (ChangeSpec.witness6 (enc := enc) (C := Try.checked) false ⟨#[], #[.slice none 0 0, .slice none 0 0], []⟩ 8 (by kernel_rfl) (by kernel_rfl) (by kernel_rfl) (by kernel_rfl)) ?_
  intro W base args ds gs before hval0 hW hcnd hsz0 _
  have hsz : (DataW.weightsEach Try.prog (Try.f3.params.toList ++ Rows.redoPagesSpec.plain.varTypes Try.prog) (ds ++ gs)).all (· ≤ reachBytes) = true := hsz0
  clear hsz0
  have hval : ∀ (j : Nat) t v, Try.f3.params[j]? = some t → args[j]? = some v → Value.okWide Try.prog W .any base t v := hval0
  have hW' := hW
  obtain ⟨p, q, hA0, hV, rfl, hfz, hnd⟩ := hW
  have hA : DataW.TrodAll enc Try.prog W 0 (fun _ => true) true Try.f3.params.toList args.toList ds p := hA0
  rw [Try.params3] at hA hval hsz
  obtain ⟨v0, vs0, d0, ds0, p0, q0, hargs, rfl, rfl, h0, r0⟩ := trodAll_cons hA
  obtain ⟨v1, vs1, d1, ds1, p1, q1, rfl, rfl, rfl, h1, r1⟩ := trodAll_cons r0
  obtain ⟨rfl, rfl, rfl⟩ := trodAll_nil r1
  obtain rfl : args = #[v0, v1] := by cases args; simp_all
  obtain ⟨rfl, rfl⟩ := trodVars_none hV
  obtain ⟨a0, len0, cap0, rfl⟩ := okWide_slice Try.underlying22 (hval 0 22 v0 rfl rfl)
  have k0 := h0
  have lt0 : ∀ x ∈ p0, x.block < W.heap.size := by obtain ⟨m, hm⟩ := k0; exact DataW.trod_lt m _ _ _ hm
  have wz0 : ∀ z ∈ d0.weights Try.prog 22, z ≤ reachBytes := fun z hz => by simpa using List.all_eq_true.1 hsz z (DataW.weights_mem_each (j := 0) rfl rfl z hz)
  obtain ⟨ls0, hl0, hr0⟩ : ∃ ls : List Sl, len0 = ls.length ∧ Slots W a0 cap0 ls := by
    obtain ⟨fuel, hf⟩ := h0
    exact slots_open hf wz0
  obtain ⟨a1, len1, cap1, rfl⟩ := okWide_slice Try.underlying23 (hval 1 23 v1 rfl rfl)
  have k1 := h1
  have lt1 : ∀ x ∈ p1, x.block < W.heap.size := by obtain ⟨m, hm⟩ := k1; exact DataW.trod_lt m _ _ _ hm
  have wz1 : ∀ z ∈ d1.weights Try.prog 23, z ≤ reachBytes := fun z hz => by simpa using List.all_eq_true.1 hsz z (DataW.weights_mem_each (j := 1) rfl rfl z hz)
  obtain ⟨ls1, hl1, hb1, hr1, hz1⟩ : ∃ ls : List Rec, len1 = ls.length ∧ len1 * 80 ≤ 140737488355328 ∧ Recs W a1 cap1 ls ∧ ∀ r ∈ ls, r.key.size ≤ 140737488351232 ∧ r.val.size ≤ 140737488351232 := by
    obtain ⟨fuel, hf⟩ := h1
    exact recs_open2 hf wz1
  clear hA0 hval0
  refine (walk W a0 len0 cap0 ls0 hl0 hr0 a1 len1 cap1 ls1 hl1 hb1 hr1 hz1).mono fun e W' ⟨he, fr⟩ => ?_
  have bel : Below W.heap.size W W' := fr.below (Nat.le_refl _) (fun _ f => f.elim)
  subst he
  exact ⟨_, rfl, _, _, _, [], _, [], hW', trodAll_mk1 (shut_bool Try.underlying4 _), (trodAll_cons_mk (Below.trod laidOut (by kernel_rfl) (of_decide_eq_true (by kernel_rfl)) k0 bel lt0) (trodAll_cons_mk (Below.trod laidOut (by kernel_rfl) (of_decide_eq_true (by kernel_rfl)) k1 bel lt1) trodAll_mk0)), rfl, bel.frame _, fun h => by cases h⟩

theorem proved : Rows.RedoPagesSaid :=
  OpenClaim.holds_of_wide 3 Try.f3 rfl rfl rfl rfl rfl rfl rfl ⟨rfl, rfl, rfl, rfl, rfl⟩ rfl rfl rfl rfl rfl (by kernel_rfl) Try.func3 (by kernel_rfl)
    (of_decide_eq_true (by kernel_rfl)) (by unfold Func.isWrapper; first | (rw [if_pos (by decide +kernel)]; kernel_rfl) | (rw [if_neg (by decide +kernel)]; exact ⟨rfl, rfl⟩))
    (fun os started H enc _ => lifted os started H enc)
end Go.Proofs.Ytlgceleelhppdaa.redoPages
namespace Go.Proofs.Ytlgceleelhppdaa
theorem redoPages_holds : Rows.RedoPagesSaid := redoPages.proved
#print axioms redoPages_holds
end Go.Proofs.Ytlgceleelhppdaa
