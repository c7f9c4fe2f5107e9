
/- What the document's From, Cut, Marks and Bytes make. -/
import Derived.Test.YtnhmickolfbldaaShWrApp
import Derived.Test.YtnhmickolfbldaaSB27
namespace Go.Proofs.Ytnhmickolfbldaa
open Go.RowKit Crcm

set_option maxRecDepth 100000 in
set_option maxHeartbeats 4000000 in
theorem rfrom_lg (n most : Int) (lb : Nat) (rv : Value) (ls : List Rec) (fl : Int) (w : World) (h : Rlg w lb rv ls fl) (hw : Wl ls) :
    Calls Try.prog 43 #[.pointer (some ⟨lb, 0, none⟩), .int .i64 n, .int .i64 most] w fun e w' => ∃ a c, e = .returned (.slice a (frF ls n most).length c) ∧ Recs w' a c (frF ls n most) ∧ Fr (fun _ => False) w w' := by
  obtain ⟨iR, hiR, hR0, hR1, hR2⟩ := info_parts infoRec
  have R1 : Hid (Try.prog.info? 64 = some iR) := hiR
  have R2 : Hid (iR.zero = some (.agg #[.int .i64 0, .int .i64 0, .int .i64 0, .int .i64 0, .int .i64 0, .int .i64 0, .string ⟨#[]⟩, .string ⟨#[]⟩])) := hR0
  have R3 : Hid (iR.size = 8) := hR1
  have R4 : Hid (iR.bytes = 80) := hR2
  clear hiR hR0 hR1 hR2
  have hb := hw.big
  have HW : Hid (Wl ls) := hw
  obtain ⟨h0, h1, f0, f1⟩ := cell_of_two h.box
  have HH : Hid (∀ W, Fr (fun _ => False) w W → Has W 8 rv ls.length (ls.flatMap recC)) := fun W f => h.has.fr f (fun _ _ f => f)
  obtain ⟨ar, cr, rfl, _, hcr⟩ := h.has.slice
  have hcr' : cr ≤ 9223372036854775807 := by unfold maxLen at hcr; exact hcr
  clear hcr hw h
  go_enter Try.func43, Try.ntmps43
  go_wp2
  clear h0 h1 f0 f1
  go_loopw [15, 7] (fun i t wr => ∃ (k : Nat) (vt : Value) (ms : List Rec), k ≤ ls.length ∧ i = .int .i64 k ∧ t = vt ∧ Hid (ms = frF (ls.take k) n most) ∧ Has wr 8 vt ms.length (ms.flatMap recC) ∧ (∀ g, vt.ownBlock = some g → w.heap.size ≤ g) ∧ Fr (fun _ => False) w wr) (fun i _ _ => ls.length - (intOf i).toNat)
  case atStart => exact ⟨0, .slice none 0 0, [], by omega, rfl, rfl, by show _ = _; rw [List.take_zero, frF_none], Has.nil _ _, (fun g e => by cases e), Fr.refl _ _⟩
  case round =>
    obtain ⟨k, vt, ms, hk, rfl, rfl, HM, ht, hown, F⟩ := hrel
    by_cases hlt : k < ls.length
    · obtain ⟨r, hr, htk⟩ := take_one ls k hlt
      have hhk := HH.out _ F
      obtain ⟨g, cap, hv, _⟩ := hhk.form (by omega)
      simp only [Value.slice.injEq, true_and] at hv
      obtain ⟨rfl, rfl⟩ := hv
      obtain ⟨q0, q1, q2, q3, q4, q5, q6, q7⟩ := rec_range (hhk.elem recC_length hr)
      have HST : Hid (frF (ls.take (k + 1)) n most = if n ≤ r.lsn ∧ (ms.length : Int) < most then ms ++ [r] else ms) := by
        show _ = _
        have hlsn : r.lsn = ((ls.take k).length : Int) + 1 := by rw [List.length_take, Nat.min_eq_left hk]; exact (HW.out.each k r hr).2
        rw [htk, frF_step _ _ _ _ hlsn, ← HM.out]
      have HML : Hid (ms.length ≤ 65536) := by show _ ≤ _; rw [HM.out]; have := frF_len (ls.take k) n most; rw [List.length_take] at this; omega
      have hml := HML.out
      have fb := Fr.box wr (.cells #[.int .i64 r.lsn, .int .i64 r.ep, .int .i64 r.kind, .int .i64 r.page, .int .i64 r.other, .int .i64 r.req, .string r.key, .string r.val] 64)
      have FB := F.seq' fb
      have htb := ht.fr fb (fun _ _ f => f)
      clear hr htk hhk
      obtain ⟨av, cv, rfl, _, _⟩ := ht.slice
      by_cases h1 : n ≤ r.lsn
      · by_cases h2 : (ms.length : Int) < most
        · have HS2 : Hid (ms ++ [r] = frF (ls.take (k + 1)) n most) := by show _ = _; rw [HST.out, if_pos ⟨h1, h2⟩]
          have hg : decide (n ≤ r.lsn) = true := decide_eq_true h1
          have hg2 : decide ((ms.length : Int) < most) = true := decide_eq_true h2
          have P6 := fb.alloc (.cells #[.int .i64 r.lsn, .int .i64 r.ep, .int .i64 r.kind, .int .i64 r.page, .int .i64 r.other, .int .i64 r.req, .string r.key, .string r.val] 64)
          have hrow := ht.fr P6 (fun _ _ f => f)
          have FF := F.seq' P6
          have hsz : (wr.alloc (.cells #[.int .i64 r.lsn, .int .i64 r.ep, .int .i64 r.kind, .int .i64 r.page, .int .i64 r.other, .int .i64 r.req, .string r.key, .string r.val] 64)).heap.size = wr.heap.size + 1 := by simp
          have hnews : From ((wr.alloc (.cells #[.int .i64 r.lsn, .int .i64 r.ep, .int .i64 r.kind, .int .i64 r.page, .int .i64 r.other, .int .i64 r.req, .string r.key, .string r.val] 64)).alloc (.cells #[.int .i64 r.lsn, .int .i64 r.ep, .int .i64 r.kind, .int .i64 r.page, .int .i64 r.other, .int .i64 r.req, .string r.key, .string r.val] 64)) (some ⟨wr.heap.size + 1, 0, none⟩) (recC r) := .inr ⟨_, _, rfl, by
            have := range_block (heap_alloc_new (wr.alloc (.cells #[.int .i64 r.lsn, .int .i64 r.ep, .int .i64 r.kind, .int .i64 r.page, .int .i64 r.other, .int .i64 r.req, .string r.key, .string r.val] 64)) (.cells #[.int .i64 r.lsn, .int .i64 r.ep, .int .i64 r.kind, .int .i64 r.page, .int .i64 r.other, .int .i64 r.req, .string r.key, .string r.val] 64)) (xs := recC r) (o := 0) (fun j v hv => by rw [Nat.zero_add]; simpa [recC] using hv)
            rwa [hsz] at this⟩
          clear HST h1 h2 hsz htb
          go_wp2_with (at_builtin; refine wpList_append_has _ rfl (.tmp 29) (.tmp 31) 22 22 64 64 rfl iR (.agg #[.int .i64 0, .int .i64 0, .int .i64 0, .int .i64 0, .int .i64 0, .int .i64 0, .string ⟨#[]⟩, .string ⟨#[]⟩]) 8 80 Try.underlying22 Try.underlying22 R1.out R2.out R3.out R4.out rfl (by omega) (.slice av ms.length cv) ms.length (ms.flatMap recC) rfl hrow (some ⟨wr.heap.size + 1, 0, none⟩) 1 1 (recC r) rfl rfl hnews (recC_one _) (by unfold maxLen; omega) (by omega) ?_; intro a4 c4 w8 ht4 f34 hat4)
          have hl2 : ms.length + 1 = (ms ++ [r]).length := by rw [List.length_append]; rfl
          have ht5 : Has w8 8 (.slice a4 (ms ++ [r]).length c4) (ms ++ [r]).length ((ms ++ [r]).flatMap recC) := by
            rw [← hl2, List.flatMap_append]
            simpa using ht4
          rw [hl2] at hat4 ⊢
          have hR1 : ∀ g, (Value.slice a4 (ms ++ [r]).length c4).ownBlock = some g → w.heap.size ≤ g := fun g e => by
            have hz := FF.size
            rcases hat4 with h1 | h1
            · rw [h1] at e; exact hown g e
            · rw [h1] at e; simp only [Option.some.injEq] at e; omega
          have hR2 : Fr (fun _ => False) w w8 := FF.trans f34 (fun i hi e => by have := hown i e.1; omega)
          clear hl2 ht4 q0 q1 q2 q3 q4 q5 q6 q7
          go_wp2
          go_roundw
          case rel => exact ⟨k + 1, _, ms ++ [r], by omega, by go_num, rfl, HS2, ht5, hR1, hR2⟩
          case measure => simp [intOf]; omega
        · have HS2 : Hid (ms = frF (ls.take (k + 1)) n most) := by show _ = _; rw [HST.out, if_neg (fun h => h2 h.2)]
          have hg : decide (n ≤ r.lsn) = true := decide_eq_true h1
          have hg2 : decide ((ms.length : Int) < most) = false := decide_eq_false h2
          clear HST h1 h2
          go_wp2
          go_roundw
          case rel => exact ⟨k + 1, _, ms, by omega, by go_num, rfl, HS2, htb, hown, FB⟩
          case measure => simp [intOf]; omega
      · have HS2 : Hid (ms = frF (ls.take (k + 1)) n most) := by show _ = _; rw [HST.out, if_neg (fun h => h1 h.1)]
        have hg : decide (n ≤ r.lsn) = false := decide_eq_false h1
        clear HST h1
        go_wp2
        go_roundw
        case rel => exact ⟨k + 1, _, ms, by omega, by go_num, rfl, HS2, htb, hown, FB⟩
        case measure => simp [intOf]; omega
    · have hkl : ls.take k = ls := List.take_of_length_le (by omega)
      have HMM : Hid (ms = frF ls n most) := by show _ = _; rw [HM.out, hkl]
      obtain ⟨a, c, rfl, _, _⟩ := ht.slice
      have hmk := Has.recs rfl ht
      clear hkl
      go_wp2
      go_ret
      exact ⟨a, c, by rw [← HMM.out]; rfl, by rw [← HMM.out]; exact hmk, F⟩

/-- What is flushed behind a cut. -/
def cuL (ls : List Rec) (n : Int) : List Rec := if 0 ≤ n ∧ n ≤ ls.length then ls.take n.toNat else ls
def cuF (ls : List Rec) (fl n : Int) : Int := if 0 ≤ n ∧ n ≤ ls.length then min fl n else fl
theorem wl_cu {ls : List Rec} (h : Wl ls) (n : Int) (ht : ∀ m, Wl (ls.take m)) : Wl (cuL ls n) := by
  unfold cuL
  split
  · exact ht _
  · exact h
set_option maxRecDepth 100000 in
set_option maxHeartbeats 1000000 in
theorem rcut_no (n : Int) (lb : Nat) (rv : Value) (ls : List Rec) (fl : Int) (w : World) (h : Rlg w lb rv ls fl) (hn : ¬ (0 ≤ n ∧ n ≤ ls.length)) :
    Calls Try.prog 36 #[.pointer (some ⟨lb, 0, none⟩), .int .i64 n] w fun e w' => e = .returned (.int .i64 1) ∧ w' = w := by
  obtain ⟨h0, h1, f0, f1⟩ := cell_of_two h.box
  obtain ⟨a, c, rfl, _, _⟩ := h.has.slice
  clear h
  by_cases h1' : n < 0
  · have d1 : decide (n < 0) = true := decide_eq_true h1'
    clear hn
    go_enter Try.func36, Try.ntmps36
    go_wp2
    go_ret
    exact ⟨rfl, rfl⟩
  · have d1 : decide (n < 0) = false := decide_eq_false h1'
    have d2 : decide ((ls.length : Int) < n) = true := decide_eq_true (by omega)
    clear hn
    go_enter Try.func36, Try.ntmps36
    go_wp2
    go_ret
    exact ⟨rfl, rfl⟩
set_option maxRecDepth 100000 in
set_option maxHeartbeats 4000000 in
theorem rcut_yes (n : Nat) (lb : Nat) (rv : Value) (ls : List Rec) (fl : Int) (w : World) (h : Rlg w lb rv ls fl) (hw : Wl ls) (hn : n ≤ ls.length) (mf : Int) (hmf : min fl (n : Int) = mf) :
    Calls Try.prog 36 #[.pointer (some ⟨lb, 0, none⟩), .int .i64 (n : Int)] w fun e w' => e = .returned (.int .i64 0) ∧
      ∃ rv', Rlg w' lb rv' (ls.take n) mf ∧ Fr (fun k => k = lb) w w' ∧ (∀ g, rv'.ownBlock = some g → w.heap.size ≤ g) := by
  obtain ⟨iR, hiR, hR0, hR1, hR2⟩ := info_parts infoRec
  have R1 : Hid (Try.prog.info? 64 = some iR) := hiR
  have R2 : Hid (iR.zero = some (.agg #[.int .i64 0, .int .i64 0, .int .i64 0, .int .i64 0, .int .i64 0, .int .i64 0, .string ⟨#[]⟩, .string ⟨#[]⟩])) := hR0
  have R3 : Hid (iR.size = 8) := hR1
  have R4 : Hid (iR.bytes = 80) := hR2
  clear hiR hR0 hR1 hR2
  have HMF : Hid (min fl (n : Int) = mf) := hmf
  clear hmf
  have hb := hw.big
  have HW : Hid (Wl ls) := hw
  have hlbs := lt_of_block h.box
  have HBX : Hid (∀ W, Fr (fun _ => False) w W → Rlg W lb rv ls fl) := fun W f => h.same f
  obtain ⟨h0, h1, f0, f1⟩ := cell_of_two h.box
  have HH : Hid (∀ W, Fr (fun _ => False) w W → Has W 8 rv ls.length (ls.flatMap recC)) := fun W f => h.has.fr f (fun _ _ f => f)
  obtain ⟨ar, cr, rfl, _, hcr⟩ := h.has.slice
  have hcr' : cr ≤ 9223372036854775807 := by unfold maxLen at hcr; exact hcr
  have d1 : decide ((n : Int) < 0) = false := decide_eq_false (by omega)
  have d2 : decide ((ls.length : Int) < (n : Int)) = false := decide_eq_false (by omega)
  have d3 : decide (ls.length < n) = false := decide_eq_false (by omega)
  clear hcr hw h
  go_enter Try.func36, Try.ntmps36
  go_wp2
  clear h0 h1 f0 f1
  go_loopw [24, 5] (fun i t wr => ∃ (k : Nat) (vt : Value) (ms : List Rec), k ≤ ls.length ∧ i = .int .i64 k ∧ t = vt ∧ Hid (ms = (ls.take k).take n) ∧ Has wr 8 vt ms.length (ms.flatMap recC) ∧ (∀ g, vt.ownBlock = some g → w.heap.size ≤ g) ∧ Fr (fun _ => False) w wr) (fun i _ _ => ls.length - (intOf i).toNat)
  case atStart => exact ⟨0, .slice none 0 0, [], by omega, rfl, rfl, by show _ = _; simp, Has.nil _ _, (fun g e => by cases e), Fr.refl _ _⟩
  case round =>
    obtain ⟨k, vt, ms, hk, rfl, rfl, HM, ht, hown, F⟩ := hrel
    by_cases hlt : k < ls.length
    · obtain ⟨r, hr, htk⟩ := take_one ls k hlt
      have hhk := HH.out _ F
      obtain ⟨g, cap, hv, _⟩ := hhk.form (by omega)
      simp only [Value.slice.injEq, true_and] at hv
      obtain ⟨rfl, rfl⟩ := hv
      obtain ⟨q0, q1, q2, q3, q4, q5, q6, q7⟩ := rec_range (hhk.elem recC_length hr)
      have hlsn : r.lsn = (k : Int) + 1 := (HW.out.each k r hr).2
      have HST : Hid ((ls.take (k + 1)).take n = if k + 1 ≤ n then ms ++ [r] else ms) := by
        show _ = _
        rw [take_min_step ls k n r hr, ← HM.out]
      have HML : Hid (ms.length ≤ 65536) := by show _ ≤ _; rw [HM.out, List.length_take, List.length_take]; omega
      have hml := HML.out
      have fb := Fr.box wr (.cells #[.int .i64 r.lsn, .int .i64 r.ep, .int .i64 r.kind, .int .i64 r.page, .int .i64 r.other, .int .i64 r.req, .string r.key, .string r.val] 64)
      have FB := F.seq' fb
      have htb := ht.fr fb (fun _ _ f => f)
      clear hr htk hhk
      obtain ⟨av, cv, rfl, _, _⟩ := ht.slice
      by_cases h1 : k + 1 ≤ n
      · have HS2 : Hid (ms ++ [r] = (ls.take (k + 1)).take n) := by show _ = _; rw [HST.out, if_pos h1]
        have hg : r.lsn ≤ (n : Int) := by omega
        have P6 := fb.alloc (.cells #[.int .i64 r.lsn, .int .i64 r.ep, .int .i64 r.kind, .int .i64 r.page, .int .i64 r.other, .int .i64 r.req, .string r.key, .string r.val] 64)
        have hrow := ht.fr P6 (fun _ _ f => f)
        have FF := F.seq' P6
        have hsz : (wr.alloc (.cells #[.int .i64 r.lsn, .int .i64 r.ep, .int .i64 r.kind, .int .i64 r.page, .int .i64 r.other, .int .i64 r.req, .string r.key, .string r.val] 64)).heap.size = wr.heap.size + 1 := by simp
        have hnews : From ((wr.alloc (.cells #[.int .i64 r.lsn, .int .i64 r.ep, .int .i64 r.kind, .int .i64 r.page, .int .i64 r.other, .int .i64 r.req, .string r.key, .string r.val] 64)).alloc (.cells #[.int .i64 r.lsn, .int .i64 r.ep, .int .i64 r.kind, .int .i64 r.page, .int .i64 r.other, .int .i64 r.req, .string r.key, .string r.val] 64)) (some ⟨wr.heap.size + 1, 0, none⟩) (recC r) := .inr ⟨_, _, rfl, by
          have := range_block (heap_alloc_new (wr.alloc (.cells #[.int .i64 r.lsn, .int .i64 r.ep, .int .i64 r.kind, .int .i64 r.page, .int .i64 r.other, .int .i64 r.req, .string r.key, .string r.val] 64)) (.cells #[.int .i64 r.lsn, .int .i64 r.ep, .int .i64 r.kind, .int .i64 r.page, .int .i64 r.other, .int .i64 r.req, .string r.key, .string r.val] 64)) (xs := recC r) (o := 0) (fun j v hv => by rw [Nat.zero_add]; simpa [recC] using hv)
          rwa [hsz] at this⟩
        clear HST h1 hsz htb hlsn
        go_wp2_with (at_builtin; refine wpList_append_has _ rfl (.tmp 32) (.tmp 34) 22 22 64 64 rfl iR (.agg #[.int .i64 0, .int .i64 0, .int .i64 0, .int .i64 0, .int .i64 0, .int .i64 0, .string ⟨#[]⟩, .string ⟨#[]⟩]) 8 80 Try.underlying22 Try.underlying22 R1.out R2.out R3.out R4.out rfl (by omega) (.slice av ms.length cv) ms.length (ms.flatMap recC) rfl hrow (some ⟨wr.heap.size + 1, 0, none⟩) 1 1 (recC r) rfl rfl hnews (recC_one _) (by unfold maxLen; omega) (by omega) ?_; intro a4 c4 w8 ht4 f34 hat4)
        have hl2 : ms.length + 1 = (ms ++ [r]).length := by rw [List.length_append]; rfl
        have ht5 : Has w8 8 (.slice a4 (ms ++ [r]).length c4) (ms ++ [r]).length ((ms ++ [r]).flatMap recC) := by
          rw [← hl2, List.flatMap_append]
          simpa using ht4
        rw [hl2] at hat4 ⊢
        have hR1 : ∀ g, (Value.slice a4 (ms ++ [r]).length c4).ownBlock = some g → w.heap.size ≤ g := fun g e => by
          have hz := FF.size
          rcases hat4 with h1 | h1
          · rw [h1] at e; exact hown g e
          · rw [h1] at e; simp only [Option.some.injEq] at e; omega
        have hR2 : Fr (fun _ => False) w w8 := FF.trans f34 (fun i hi e => by have := hown i e.1; omega)
        clear hl2 ht4 q0 q1 q2 q3 q4 q5 q6 q7
        go_wp2
        go_roundw
        case rel => exact ⟨k + 1, _, ms ++ [r], by omega, by go_num, rfl, HS2, ht5, hR1, hR2⟩
        case measure => simp [intOf]; omega
      · have HS2 : Hid (ms = (ls.take (k + 1)).take n) := by show _ = _; rw [HST.out, if_neg h1]
        have hg : ¬ r.lsn ≤ (n : Int) := by omega
        clear HST h1 hlsn
        go_wp2
        go_roundw
        case rel => exact ⟨k + 1, _, ms, by omega, by go_num, rfl, HS2, htb, hown, FB⟩
        case measure => simp [intOf]; omega
    · have hkl : ls.take k = ls := List.take_of_length_le (by omega)
      have HMM : Hid (ms = ls.take n) := by show _ = _; rw [HM.out, hkl]
      obtain ⟨a, c, rfl, _, _⟩ := ht.slice
      have hlg := HBX.out _ F
      obtain ⟨y0, y1, y2, y3⟩ := cell_of_two hlg.box
      have fs : Fr (fun k => k = lb) wr (wr.setCell ⟨lb, 0, none⟩ (.slice a ms.length c)) := (Fr.refl (fun k => k = lb) wr).setCell (p := ⟨lb, 0, none⟩) (fun _ => rfl) _
      have hlgN : Rlg (wr.setCell ⟨lb, 0, none⟩ (.slice a ms.length c)) lb (.slice a ms.length c) ms fl := ⟨two_setCell0 hlg.box, ht.fr fs (fun g e e2 => by have := hown g e; omega), fun g e => by have := hown g e; omega⟩
      have FSx : Fr (fun k => k = lb) w (wr.setCell ⟨lb, 0, none⟩ (.slice a ms.length c)) := (F.mono (fun _ _ f => f.elim)).trans fs (fun _ _ e => e)
      clear hkl hlg
      by_cases hmn : (n : Int) < fl
      · have HMI : Hid (mf = n) := by show _ = _; have := HMF.out; omega
        obtain ⟨W6, hW6⟩ : ∃ W, W = wr.setCell ⟨lb, 0, none⟩ (.slice a ms.length c) := ⟨_, rfl⟩
        have HW6 : Hid (wr.setCell ⟨lb, 0, none⟩ (.slice a ms.length c) = W6) := hW6.symm
        rw [← hW6] at hlgN FSx
        clear hW6
        go_upto_region 11 with fail
        rw [HW6.out]
        clear y0 y1 y2 y3
        obtain ⟨y0, y1, y2, y3⟩ := cell_of_two hlgN.box
        obtain ⟨l7, f7⟩ := hlgN.flush (n : Int)
        go_wp2
        go_ret
        rw [HMI.out]
        rw [HMM.out] at l7
        exact ⟨rfl, _, l7, FSx.trans f7 (fun _ _ e => e), fun g e => hown g (by rw [HMM.out]; exact e)⟩
      · have HMI : Hid (mf = fl) := by show _ = _; have := HMF.out; omega
        obtain ⟨W6, hW6⟩ : ∃ W, W = wr.setCell ⟨lb, 0, none⟩ (.slice a ms.length c) := ⟨_, rfl⟩
        have HW6 : Hid (wr.setCell ⟨lb, 0, none⟩ (.slice a ms.length c) = W6) := hW6.symm
        rw [← hW6] at hlgN FSx
        clear hW6
        go_upto_region 11 with fail
        rw [HW6.out]
        clear y0 y1 y2 y3
        obtain ⟨y0, y1, y2, y3⟩ := cell_of_two hlgN.box
        go_wp2
        go_ret
        rw [HMI.out]
        rw [HMM.out] at hlgN
        exact ⟨rfl, _, hlgN, FSx, fun g e => hown g (by rw [HMM.out]; exact e)⟩

end Go.Proofs.Ytnhmickolfbldaa
