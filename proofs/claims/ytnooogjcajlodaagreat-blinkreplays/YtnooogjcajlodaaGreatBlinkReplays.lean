
/- For any pages that are a tree and any records: those that the tree said, replayed over the pages that it began with, come to its pages; of pages that are no tree, Of tells none; and the example speaks; with no condition but those of the statement's own form. -/
import Derived.Test.YtnooogjcajlodaaGreatBB9
import Derived.Test.YtnooogjcajlodaaGreatBN8
import Derived.Test.YtnooogjcajlodaaGreatBM1
import Derived.Test.YtnooogjcajlodaaGreatBN3
import Derived.Deep.DeepCutAuto
import Derived.Deep.RegionHeld3
import Derived.Deep.QuietTactic
import Derived.BigQuiet
namespace Go.Proofs.YtnooogjcajlodaaGreat.blinkReplays
open Go.ChangeShapes Go.WideShapes Go.ChangeAt Go.RowKit
open Go.ChangeMaps (open_string shut_string)
set_option linter.unusedVariables false

theorem own : ownKnob Tryz.prog.godebug = none := by kernel_rfl
theorem laidOut : laidOutB Tryz.prog = true := by kernel_rfl
theorem bytes8 : Tryz.prog.bytesOf 5 = 1 := by kernel_rfl

set_option maxRecDepth 100000 in
set_option maxHeartbeats 8000000 in
theorem walk (w : World) (a0 : Option Addr) (len0 cap0 : Nat) (ls : List Sl) (hl0 : len0 = ls.length) (hr0 : Slots w a0 cap0 ls) (a2 : Option Addr) (n2 c2 : Nat) (rs : List Rec) (hn2 : n2 = rs.length) (hb : n2 * 80 ≤ 140737488355328) (h2 : Recs w a2 c2 rs) (hz : ∀ r ∈ rs, r.key.size ≤ 140737488351232 ∧ r.val.size ≤ 140737488351232) :
    Calls Tryz.prog 4 #[.slice a0 len0 cap0, .slice a2 n2 c2] w fun e w' => e = .returned (.bool true) ∧ Fr (fun _ => False) w w' := by
  obtain ⟨iR, hiR, hR0, hR1, hR2⟩ := info_parts infoRc
  have hof := bof_any a0 len0 cap0 ls hl0 w hr0
  have HL0 : Hid (len0 = ls.length) := hl0
  have HR0 : Hid (Slots w a0 cap0 ls) := hr0
  have HRC : Hid (∀ W, Fr (fun _ => False) w W → Recs W a2 c2 rs) := fun W f => h2.same f
  have HZ : Hid (∀ r ∈ rs, r.key.size ≤ 140737488351232 ∧ r.val.size ≤ 140737488351232) := hz
  have HN2 : Hid (n2 = rs.length) := hn2
  have hle2 : n2 ≤ c2 := by rw [hn2]; exact h2.le
  have hmx2 := h2.max
  have hnb : n2 ≤ 1759218604441 := by omega
  clear hl0 hr0 h2 hz hn2 hb
  go_enter Tryz.func4, Tryz.ntmps4
  go_wp2_with fail
  refine hof.mono ?_
  clear hof
  intro e w1 ho
  obtain ⟨f1, ⟨hno, rfl⟩ | ⟨hyes, tb, mb, a, n, c, lp, rfl, hps, htr, htb, hmb, hnew⟩⟩ := ho
  · clear hno
    go_wp2_with (go_at_call 8; refine (bspeaks_any _).mono ?_; rintro e w3 ⟨rfl, f3⟩)
    go_ret
    exact ⟨rfl, f1.seq' f3⟩
  · have hari := lv_right hyes
    have HARI : Hid (ariB 0 (psOf ls) = true) := hari
    have HSP : Hid (Spk w w1 tb mb ls (.slice none 0 0) 0 [] a n c lp (maxL ls)) := ⟨htr, Has.nil _ _, rfl, (fun g e => by cases e), fun s hs => ⟨.inr (fun b o e f => (by cases f)), .inr (fun b o e f => (by cases f)), .inr (fun b o e f => (by cases f))⟩, hnew, (by rw [hps]; rfl), (by rw [hps]; exact ari_psok hari), (by rw [hps]; exact few_ari hari), maxL_in hari, (fun r hr => by cases hr), htb, hmb⟩
    clear hyes hps htr htb hmb hnew hari
    go_wp2
    go_loopw [7, 28] (fun sd i wr => ∃ (k m : Nat) (av : Option Addr) (cv : Nat) (L : List Rec) (a : Option Addr) (n c : Nat) (lp : List Sl) (last : Int), k ≤ n2 ∧ m ≤ k ∧ i = .int .i64 k ∧ sd = .slice av m cv ∧ Hid (Spk w wr tb mb ls (.slice av m cv) m L a n c lp last) ∧ Fr (fun _ => False) w wr) (fun _ i _ => n2 - (intOf i).toNat)
    case atStart => exact ⟨0, 0, none, 0, [], a, n, c, lp, maxL ls, by omega, by omega, rfl, rfl, HSP, f1⟩
    case round =>
      clear HSP f1 w1 a n c lp
      obtain ⟨k, m, av, cv, L, a, n, c, lp, last, hk, hmk, rfl, rfl, HS, F⟩ := hrel
      by_cases hlt : k < n2
      · obtain ⟨r, hr⟩ : ∃ r, rs[k]? = some r := ⟨_, List.getElem?_eq_getElem (by have := HN2.out; omega)⟩
        obtain ⟨bb, off, rfl, hbb, hcc⟩ := (HRC.out _ F).some (by have := HN2.out; omega)
        obtain ⟨q0, q1, q2, q3, q4, q5, q6, q7⟩ := rec_range (hcc k r hr)
        have hki : (k : Int) < (n2 : Int) := by omega
        have HZR : Hid (r.key.size ≤ 140737488351232 ∧ r.val.size ≤ 140737488351232) := HZ.out r (List.mem_of_getElem? hr)
        obtain ⟨W1, hW1⟩ : ∃ W1, W1 = wr.alloc (.cells #[.int .i64 r.lsn, .int .i64 r.ep, .int .i64 r.kind, .int .i64 r.page, .int .i64 r.other, .int .i64 r.req, .string r.key, .string r.val] 42) := ⟨_, rfl⟩
        obtain ⟨eb, heb⟩ : ∃ q, q = wr.heap.size := ⟨_, rfl⟩
        have fb : Fr (fun _ => False) wr W1 := by rw [hW1]; exact Fr.box wr _
        have hx1 : W1.heap[eb]? = some (.cells #[.int .i64 r.lsn, .int .i64 r.ep, .int .i64 r.kind, .int .i64 r.page, .int .i64 r.other, .int .i64 r.req, .string r.key, .string r.val] 42 (0, 0)) := by rw [hW1, heb]; exact heap_alloc_new wr _
        have HW1 : Hid (wr.alloc (.cells #[.int .i64 r.lsn, .int .i64 r.ep, .int .i64 r.kind, .int .i64 r.page, .int .i64 r.other, .int .i64 r.req, .string r.key, .string r.val] 42) = W1) := hW1.symm
        have HEB : Hid (wr.heap.size = eb) := heb.symm
        have HS1 : Hid (Spk w W1 tb mb ls (.slice av m cv) m L a n c lp last) := HS.out.same fb
        have FW1 : Fr (fun _ => False) w W1 := F.seq' fb
        have hsy := say_any r HZR.out.1 HZR.out.2 tb mb a n c lp last ⟨HS.out.lst.1, by have := HS.out.lst.2; omega⟩ HS.out.ok W1 HS1.out.tr
        unfold SayOut at hsy
        clear hr hcc hW1 heb fb HS F hbb
        go_upto_region 8 with fail
        rw [HW1.out, HEB.out]
        clear q0 q1 q2 q3 q4 q5 q6 q7
        obtain ⟨⟨q0, q1, q2, q3, q4, q5, q6, q7⟩, _⟩ := rec_cells hx1
        go_wp2_with fail
        refine hsy.mono ?_
        clear hsy
        intro e w2 ho
        clear q0 q1 q2 q3 q4 q5 q6 q7 hx1 HW1 HEB
        obtain ⟨rn, hrn⟩ : ∃ x, x = rnx r (last + 1) := ⟨_, rfl⟩
        rw [← hrn] at ho
        have HRN : Hid (rn = rnx r (last + 1)) := hrn
        clear hrn
        rcases ho with ⟨h0, a', n', c', lp', rfl, hps, ht, fs, hat, hnw⟩ | ⟨h0, rfl, fs⟩
        · have P6 := (Fr.box w2 (.cells #[.int .i64 rn.lsn, .int .i64 rn.ep, .int .i64 rn.kind, .int .i64 rn.page, .int .i64 rn.other, .int .i64 rn.req, .string rn.key, .string rn.val] 42)).alloc (.cells #[.int .i64 rn.lsn, .int .i64 rn.ep, .int .i64 rn.kind, .int .i64 rn.page, .int .i64 rn.other, .int .i64 rn.req, .string rn.key, .string rn.val] 42)
          have HRW : Hid (Has ((w2.alloc (.cells #[.int .i64 rn.lsn, .int .i64 rn.ep, .int .i64 rn.kind, .int .i64 rn.page, .int .i64 rn.other, .int .i64 rn.req, .string rn.key, .string rn.val] 42)).alloc (.cells #[.int .i64 rn.lsn, .int .i64 rn.ep, .int .i64 rn.kind, .int .i64 rn.page, .int .i64 rn.other, .int .i64 rn.req, .string rn.key, .string rn.val] 42)) 8 (.slice av m cv) m (L.flatMap recC)) := HS1.out.mid fs P6
          have HNE : Hid (From ((w2.alloc (.cells #[.int .i64 rn.lsn, .int .i64 rn.ep, .int .i64 rn.kind, .int .i64 rn.page, .int .i64 rn.other, .int .i64 rn.req, .string rn.key, .string rn.val] 42)).alloc (.cells #[.int .i64 rn.lsn, .int .i64 rn.ep, .int .i64 rn.kind, .int .i64 rn.page, .int .i64 rn.other, .int .i64 rn.req, .string rn.key, .string rn.val] 42)) (some ⟨w2.heap.size + 1, 0, none⟩) (recC rn)) := .inr ⟨_, _, rfl, by
            have := range_block (heap_alloc_new (w2.alloc (.cells #[.int .i64 rn.lsn, .int .i64 rn.ep, .int .i64 rn.kind, .int .i64 rn.page, .int .i64 rn.other, .int .i64 rn.req, .string rn.key, .string rn.val] 42)) (.cells #[.int .i64 rn.lsn, .int .i64 rn.ep, .int .i64 rn.kind, .int .i64 rn.page, .int .i64 rn.other, .int .i64 rn.req, .string rn.key, .string rn.val] 42)) (xs := recC rn) (o := 0) (fun j v hv => by rw [Nat.zero_add]; simpa [recC] using hv)
            rwa [show (w2.alloc (.cells #[.int .i64 rn.lsn, .int .i64 rn.ep, .int .i64 rn.kind, .int .i64 rn.page, .int .i64 rn.other, .int .i64 rn.req, .string rn.key, .string rn.val] 42)).heap.size = w2.heap.size + 1 by simp] at this⟩
          have HSTP : Hid (∀ {w8 : World} {sv' : Value}, Fr (fun k => (Value.slice av m cv).ownBlock = some k ∧ 0 < 1) ((w2.alloc (.cells #[.int .i64 rn.lsn, .int .i64 rn.ep, .int .i64 rn.kind, .int .i64 rn.page, .int .i64 rn.other, .int .i64 rn.req, .string rn.key, .string rn.val] 42)).alloc (.cells #[.int .i64 rn.lsn, .int .i64 rn.ep, .int .i64 rn.kind, .int .i64 rn.page, .int .i64 rn.other, .int .i64 rn.req, .string rn.key, .string rn.val] 42)) w8 → Has w8 8 sv' (m + 1) ((L ++ [rn]).flatMap recC) → (sv'.ownBlock = (Value.slice av m cv).ownBlock ∨ sv'.ownBlock = some ((w2.alloc (.cells #[.int .i64 rn.lsn, .int .i64 rn.ep, .int .i64 rn.kind, .int .i64 rn.page, .int .i64 rn.other, .int .i64 rn.req, .string rn.key, .string rn.val] 42)).alloc (.cells #[.int .i64 rn.lsn, .int .i64 rn.ep, .int .i64 rn.kind, .int .i64 rn.page, .int .i64 rn.other, .int .i64 rn.req, .string rn.key, .string rn.val] 42)).heap.size) → Spk w w8 tb mb ls sv' (m + 1) (L ++ [rn]) a' n' c' lp' (last + 1) ∧ Fr (fun _ => False) w w8) := fun f8 hh hat8 => by
            have e := HRN.out
            subst e
            exact HS1.out.step FW1 HZR.out h0 hps ht fs hat hnw P6 f8 hh hat8
          clear h0 hps ht fs hat hnw P6
          go_wp2_with (at_builtin; refine wpList_append_has _ rfl (.tmp 40) (.tmp 42) 40 40 42 42 rfl iR (.agg #[.int .i64 0, .int .i64 0, .int .i64 0, .int .i64 0, .int .i64 0, .int .i64 0, .string ⟨#[]⟩, .string ⟨#[]⟩]) 8 80 Tryz.underlying40 Tryz.underlying40 hiR hR0 hR1 hR2 rfl (by omega) (.slice av m cv) m (L.flatMap recC) rfl HRW.out (some ⟨w2.heap.size + 1, 0, none⟩) 1 1 (recC rn) rfl rfl HNE.out (recC_one _) (by unfold maxLen; omega) (by omega) ?_; intro a4 c4 w8 ht4 f34 hat4)
          have HFIN : Hid (Spk w w8 tb mb ls (.slice a4 (m + 1) c4) (m + 1) (L ++ [rn]) a' n' c' lp' (last + 1) ∧ Fr (fun _ => False) w w8) := HSTP.out f34 (by rw [List.flatMap_append]; simpa using ht4) hat4
          clear ht4 hat4 f34 HRW HNE HSTP
          go_wp2
          go_roundw
          case rel => exact ⟨k + 1, m + 1, a4, c4, L ++ [rn], a', n', c', lp', last + 1, by omega, by omega, by go_num, rfl, HFIN.out.1, HFIN.out.2⟩
          case measure => simp [intOf]; omega
        · generalize rpE (psOf lp) rn = er at *
          have hbe : (er == 0) = false := by simpa using h0
          have P6 := fs.seq' (Fr.box w2 (.cells #[.int .i64 0, .int .i64 0, .int .i64 0, .int .i64 0, .int .i64 0, .int .i64 0, .string ⟨#[]⟩, .string ⟨#[]⟩] 42))
          have HS6 : Hid (Spk w (w2.alloc (.cells #[.int .i64 0, .int .i64 0, .int .i64 0, .int .i64 0, .int .i64 0, .int .i64 0, .string ⟨#[]⟩, .string ⟨#[]⟩] 42)) tb mb ls (.slice av m cv) m L a n c lp last) := HS1.out.same P6
          have F6 := FW1.seq' P6
          clear h0 fs P6
          go_wp2
          go_roundw
          case rel => exact ⟨k + 1, m, av, cv, L, a, n, c, lp, last, by omega, by omega, by go_num, rfl, HS6, F6⟩
          case measure => simp [intOf]; omega
      · obtain rfl : k = n2 := by omega
        have hrp := replay_any a0 av len0 cap0 m cv ls L HL0.out HS.out.len HS.out.sz wr (HR0.out.same F) (Has.recsB HS.out.len HS.out.has)
        unfold RplOut at hrp
        have HEQ : Hid (rplA (psOf ls) L = (psOf lp, 0)) := by
          show _ = _
          unfold rplA
          rw [if_pos HARI.out]
          exact HS.out.rpl
        rw [HEQ.out] at hrp
        clear HEQ
        go_wp2_with fail
        refine hrp.mono ?_
        clear hrp
        rintro e w3 ⟨b3, c3, la, rfl, sv3, ps3, f3⟩
        obtain ⟨m3, hm3⟩ : ∃ m3, m3 = la.length := ⟨_, rfl⟩
        rw [← hm3] at sv3 ⊢
        have HM3 : Hid (m3 = la.length) := hm3
        have hn4 : n ≤ 100000 := by have h1 := HS.out.ok.few; rw [ps_length] at h1; have := HS.out.tr.len; omega
        have htp := tpages_few tb mb a n c lp last hn4 HS.out.few w3 (HS.out.tr.same f3)
        have HPS : Hid (psOf la = psOf lp) := ps3
        have HV3 : Hid (∀ W, Fr (fun _ => False) w3 W → Slots W b3 c3 la) := fun W f => (sv3.slots HM3.out).same f
        clear hm3 sv3 ps3
        go_wp2_with fail
        refine htp.mono ?_
        clear htp
        rintro e w4 ⟨b4, c4, l4, rfl, hn5, ps4, sv4, f4⟩
        have hpg := bpages_any b4 n c4 l4 hn5 hn4 w4 (sv4.slots hn5)
        have HN5 : Hid (n = l4.length) := hn5
        have HP4 : Hid (psOf l4 = psOf lp) := ps4
        unfold SvOut at hpg
        rw [← hn5] at hpg
        clear hn5 ps4 sv4
        go_wp2_with fail
        refine hpg.mono ?_
        clear hpg
        rintro e w5 ⟨b5, c5, rfl, sv5, f5, _⟩
        have hsm := bsame_any b3 b5 m3 n c3 c5 la l4 HM3.out HN5.out (by rw [HPS.out, HP4.out]) w5 (HV3.out _ (f4.seq' f5)) (sv5.slots HN5.out)
        clear sv5
        go_wp2_with fail
        refine hsm.mono ?_
        clear hsm
        rintro e w6 ⟨rfl, f6⟩
        go_wp2_with (go_at_call 8; refine (bspeaks_any _).mono ?_; rintro e w7 ⟨rfl, f7⟩)
        go_ret
        exact ⟨rfl, ((((F.seq' f3).seq' f4).seq' f5).seq' f6).seq' f7⟩

set_option maxRecDepth 100000 in
theorem lifted (os : Os) (started : os.Started) (H : Type) (enc : TypeId × Value → H) :
    ReturnsInHanded {} Tryz.checked os 4 .any (Rows.blinkReplaysSpec.pre6 enc Tryz.prog Tryz.f4 Rows.blinkReplaysRow.domain false) (Rows.blinkReplaysSpec.post enc Tryz.prog Tryz.f4 false true false false) := by
  refine returnsInHanded_of_change_sized (C := Tryz.checked) own started (by kernel_rfl) Tryz.func4
    (ChangeSpec.witness6 (enc := enc) (C := Tryz.checked) false ⟨#[], #[.slice none 0 0, .slice none 0 0], []⟩ 8 (by kernel_rfl) (by kernel_rfl) (by kernel_rfl) (by kernel_rfl)) ?_
  intro W base args ds gs before hval0 hW hcnd hsz0 _
  have hsz : (DataW.weightsEach Tryz.prog (Tryz.f4.params.toList ++ Rows.blinkReplaysSpec.plain.varTypes Tryz.prog) (ds ++ gs)).all (· ≤ reachBytes) = true := hsz0
  clear hsz0
  have hval : ∀ (j : Nat) t v, Tryz.f4.params[j]? = some t → args[j]? = some v → Value.okWide Tryz.prog W .any base t v := hval0
  have hW' := hW
  obtain ⟨p, q, hA0, hV, rfl, hfz, hnd⟩ := hW
  have hA : DataW.TrodAll enc Tryz.prog W 0 (fun _ => true) true Tryz.f4.params.toList args.toList ds p := hA0
  rw [Tryz.params4] at hA hval hsz
  obtain ⟨v0, vs0, d0, ds0, p0, q0, hargs, rfl, rfl, h0, r0⟩ := trodAll_cons hA
  obtain ⟨v1, vs1, d1, ds1, p1, q1, rfl, rfl, rfl, h1, r1⟩ := trodAll_cons r0
  obtain ⟨rfl, rfl, rfl⟩ := trodAll_nil r1
  obtain rfl : args = #[v0, v1] := by cases args; simp_all
  obtain ⟨rfl, rfl⟩ := trodVars_none hV
  obtain ⟨a0, len0, cap0, rfl⟩ := okWide_slice Tryz.underlying22 (hval 0 22 v0 rfl rfl)
  have k0 := h0
  have lt0 : ∀ x ∈ p0, x.block < W.heap.size := by obtain ⟨m, hm⟩ := k0; exact DataW.trod_lt m _ _ _ hm
  have wz0 : ∀ z ∈ d0.weights Tryz.prog 22, z ≤ reachBytes := fun z hz => by simpa using List.all_eq_true.1 hsz z (DataW.weights_mem_each (j := 0) rfl rfl z hz)
  obtain ⟨ls0, hl0, hr0⟩ : ∃ ls : List Sl, len0 = ls.length ∧ Slots W a0 cap0 ls := by
    obtain ⟨fuel, hf⟩ := h0
    exact slots_open hf wz0
  obtain ⟨a1, len1, cap1, rfl⟩ := okWide_slice Tryz.underlying40 (hval 1 40 v1 rfl rfl)
  have k1 := h1
  have lt1 : ∀ x ∈ p1, x.block < W.heap.size := by obtain ⟨m, hm⟩ := k1; exact DataW.trod_lt m _ _ _ hm
  have wz1 : ∀ z ∈ d1.weights Tryz.prog 40, z ≤ reachBytes := fun z hz => by simpa using List.all_eq_true.1 hsz z (DataW.weights_mem_each (j := 1) rfl rfl z hz)
  obtain ⟨ls1, hl1, hb1, hr1, hz1⟩ : ∃ ls : List Rec, len1 = ls.length ∧ len1 * 80 ≤ 140737488355328 ∧ Recs W a1 cap1 ls ∧ ∀ r ∈ ls, r.key.size ≤ 140737488351232 ∧ r.val.size ≤ 140737488351232 := by
    obtain ⟨fuel, hf⟩ := h1
    exact recs_open2 hf wz1
  clear hA0 hval0
  refine (walk W a0 len0 cap0 ls0 hl0 hr0 a1 len1 cap1 ls1 hl1 hb1 hr1 hz1).mono fun e W' ⟨he, fr⟩ => ?_
  have bel : Below W.heap.size W W' := fr.below (Nat.le_refl _) (fun _ f => f.elim)
  subst he
  exact ⟨_, rfl, _, _, _, [], _, [], hW', trodAll_mk1 (shut_bool Tryz.underlying4 _), (trodAll_cons_mk (Below.trod laidOut (by kernel_rfl) (of_decide_eq_true (by kernel_rfl)) k0 bel lt0) (trodAll_cons_mk (Below.trod laidOut (by kernel_rfl) (of_decide_eq_true (by kernel_rfl)) k1 bel lt1) trodAll_mk0)), rfl, bel.frame _, fun h => by cases h⟩

theorem proved : Rows.BlinkReplaysSaid :=
  OpenClaim.holds_of_wide 4 Tryz.f4 rfl rfl rfl rfl rfl rfl rfl ⟨rfl, rfl, rfl, rfl, rfl⟩ rfl rfl rfl rfl rfl (by kernel_rfl) Tryz.func4 (by kernel_rfl)
    (of_decide_eq_true (by kernel_rfl)) (by unfold Func.isWrapper; first | (rw [if_pos (by decide +kernel)]; kernel_rfl) | (rw [if_neg (by decide +kernel)]; exact ⟨rfl, rfl⟩))
    (fun os started H enc _ => lifted os started H enc)
end Go.Proofs.YtnooogjcajlodaaGreat.blinkReplays
namespace Go.Proofs.YtnooogjcajlodaaGreat
theorem blinkReplays_holds : Rows.BlinkReplaysSaid := blinkReplays.proved
#print axioms blinkReplays_holds
end Go.Proofs.YtnooogjcajlodaaGreat
