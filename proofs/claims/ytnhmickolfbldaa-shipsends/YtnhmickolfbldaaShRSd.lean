
/- What the document's sender does. -/
import Derived.Test.YtnhmickolfbldaaShSend
import Derived.Test.YtnhmickolfbldaaShWrLoop
namespace Go.Proofs.Ytnhmickolfbldaa
open Go.RowKit Crcm

set_option maxRecDepth 100000 in
set_option maxHeartbeats 1000000 in
theorem racked_any (sb : Nat) (n m x : Int) (hm : 0 ≤ m) (w : World) (h : Two w sb 56 (.int .i64 n) (.int .i64 m)) : Calls Try.prog 18 #[.pointer (some ⟨sb, 0, none⟩), .int .i64 x] w (StOut w sb 56 (ackB m x) (if ackB m x then x + 1 else n) (if ackB m x then x else m)) := by
  obtain ⟨x0, x1, z0, z1⟩ := h.cells
  by_cases h1 : m < x
  · have d1 : decide (x ≤ m) = false := decide_eq_false (by omega)
    by_cases h2 : x < 1099511627776
    · have d2 : decide (1099511627775 < x) = false := decide_eq_false (by omega)
      have hb : ackB m x = true := by unfold ackB; rw [decide_eq_true h1, decide_eq_true h2]; rfl
      rw [hb]
      have t1 := (h.set1 (.int .i64 x)).set0 (.int .i64 (x + 1))
      have f1 : Fr (fun k => k = sb) w ((w.setCell ⟨sb, 1, none⟩ (.int .i64 x)).setCell ⟨sb, 0, none⟩ (.int .i64 (x + 1))) := ((Fr.refl (fun i => i = sb) w).setCell (p := ⟨sb, 1, none⟩) (fun _ => rfl) _).setCell (p := ⟨sb, 0, none⟩) (fun _ => rfl) _
      have H : Hid (Two ((w.setCell ⟨sb, 1, none⟩ (.int .i64 x)).setCell ⟨sb, 0, none⟩ (.int .i64 (x + 1))) sb 56 (.int .i64 (x + 1)) (.int .i64 x) ∧ Fr (fun k => k = sb) w ((w.setCell ⟨sb, 1, none⟩ (.int .i64 x)).setCell ⟨sb, 0, none⟩ (.int .i64 (x + 1)))) := ⟨t1, f1⟩
      obtain ⟨u0, u1, u2, u3⟩ := (h.set1 (.int .i64 x)).cells
      have hw1 : IntKind.i64.wrap (x + 1) = x + 1 := by simp [IntKind.wrap, IntKind.bits, IntKind.signed]; omega
      clear h hb t1 f1
      go_enter Try.func18, Try.ntmps18
      go_wp2
      go_ret
      exact ⟨rfl, H.out.1, H.out.2⟩
    · have d2 : decide (1099511627775 < x) = true := decide_eq_true (by omega)
      have hb : ackB m x = false := by unfold ackB; rw [decide_eq_false h2, Bool.and_false]
      rw [hb]
      have H : Hid (Two w sb 56 (.int .i64 n) (.int .i64 m)) := h
      clear h hb
      go_enter Try.func18, Try.ntmps18
      go_wp2
      go_ret
      exact ⟨rfl, H.out, Fr.refl _ _⟩
  · have d1 : decide (x ≤ m) = true := decide_eq_true (by omega)
    have hb : ackB m x = false := by unfold ackB; rw [decide_eq_false h1]; rfl
    rw [hb]
    have H : Hid (Two w sb 56 (.int .i64 n) (.int .i64 m)) := h
    clear h hb
    go_enter Try.func18, Try.ntmps18
    go_wp2
    go_ret
    exact ⟨rfl, H.out, Fr.refl _ _⟩
set_option maxRecDepth 100000 in
set_option maxHeartbeats 1000000 in
theorem rrefused_any (sb : Nat) (n m x : Int) (hm : 0 ≤ m) (hn : m < n) (hn1 : n ≤ 1099511627776) (w : World) (h : Two w sb 56 (.int .i64 n) (.int .i64 m)) : Calls Try.prog 20 #[.pointer (some ⟨sb, 0, none⟩), .int .i64 x] w (StOut w sb 56 (refB n m) (if refB n m then refN n m x else n) m) := by
  have hw1 : IntKind.i64.wrap (m + 1) = m + 1 := by simp [IntKind.wrap, IntKind.bits, IntKind.signed]; omega
  have hw2 : IntKind.i64.wrap (n - 1) = n - 1 := by simp [IntKind.wrap, IntKind.bits, IntKind.signed]; omega
  obtain ⟨x0, x1, z0, z1⟩ := h.cells
  by_cases h1 : m + 1 < n
  · have d1 : decide (n ≤ m + 1) = false := decide_eq_false (by omega)
    have hb : refB n m = true := decide_eq_true h1
    rw [hb]
    have HS : Hid (∀ v nq, Two ((w.drewN nq).setCell ⟨sb, 0, none⟩ (.int .i64 v)) sb 56 (.int .i64 v) (.int .i64 m) ∧ Fr (fun k => k = sb) w ((w.drewN nq).setCell ⟨sb, 0, none⟩ (.int .i64 v))) := fun v nq => ⟨(h.fr (Fr.drewN (Fr.refl (fun _ => False) w) nq) (fun f => f)).set0 _, (Fr.drewN (Fr.refl (fun k => k = sb) w) nq).setCell (p := ⟨sb, 0, none⟩) (fun _ => rfl) _⟩
    clear h hb
    by_cases h2 : m < x
    · have d2 : decide (m < x) = true := decide_eq_true h2
      by_cases h3 : x < n - 1
      · have d3 : decide (x < n - 1) = true := decide_eq_true h3
        have hw3 : IntKind.i64.wrap (x + 1) = x + 1 := by simp [IntKind.wrap, IntKind.bits, IntKind.signed]; omega
        have hr : refN n m x = x + 1 := if_pos ⟨h2, h3⟩
        rw [hr]
        clear hr
        go_enter Try.func20, Try.ntmps20
        go_wp2_with fail
        go_quiet (fail)
        go_wp2
        go_ret
        exact ⟨rfl, HS.out _ _⟩
      · have d3 : decide (x < n - 1) = false := decide_eq_false h3
        have hr : refN n m x = m + 1 := if_neg (fun h => h3 h.2)
        rw [hr]
        clear hr
        go_enter Try.func20, Try.ntmps20
        go_wp2_with fail
        go_quiet (fail)
        go_wp2
        go_ret
        exact ⟨rfl, HS.out _ _⟩
    · have d2 : decide (m < x) = false := decide_eq_false h2
      have hr : refN n m x = m + 1 := if_neg (fun h => h2 h.1)
      rw [hr]
      clear hr
      go_enter Try.func20, Try.ntmps20
      go_wp2_with fail
      go_quiet (fail)
      go_wp2
      go_ret
      exact ⟨rfl, HS.out _ _⟩
  · have d1 : decide (n ≤ m + 1) = true := decide_eq_true (by omega)
    have hb : refB n m = false := decide_eq_false h1
    rw [hb]
    have HS : Hid (∀ nq, Two (w.drewN nq) sb 56 (.int .i64 n) (.int .i64 m) ∧ Fr (fun k => k = sb) w (w.drewN nq)) := fun nq => ⟨h.fr (Fr.drewN (Fr.refl (fun _ => False) w) nq) (fun f => f), Fr.drewN (Fr.refl _ w) nq⟩
    clear h hb
    go_enter Try.func20, Try.ntmps20
    go_wp2_with fail
    go_quiet (fail)
    go_wp2
    go_ret
    exact ⟨rfl, HS.out _⟩
theorem recs_two {w : World} {a : Option Addr} {c : Nat} {L : List Rec} {B : Nat} {t : TypeId} {x y : Value} (h : Recs w a c L) (hT : Two w B t x y) : ∀ b o, a = some ⟨b, o, none⟩ → L ≠ [] → b ≠ B := by
  intro b o ha hne e
  subst e
  rcases h.at_ with h0 | ⟨b', o', e, _, hc⟩
  · exact hne h0
  · rw [ha] at e
    cases e
    obtain ⟨r, hr⟩ : ∃ r, L[0]? = some r := by
      cases L with
      | nil => exact absurd rfl hne
      | cons r l => exact ⟨r, rfl⟩
    have := hc 0 r hr 7 (.string r.val) rfl
    unfold Two at hT
    simp [World.cell?, hT] at this
/-- The mark ahead, as far as the records were looked at. -/
def mkK (ls : List Rec) (x : Int) (k : Nat) : Int × Int := if 1 ≤ x ∧ x ≤ k then ((gtR ls x).ep, (gtR ls x).lsn) else (0, 0)
theorem mkK_next {ls : List Rec} {x : Int} {k : Nat} {r : Rec} (h : ls[k]? = some r) : mkK ls x (k + 1) = if (k : Int) + 1 = x then (r.ep, r.lsn) else mkK ls x k := by
  unfold mkK
  by_cases hx : (k : Int) + 1 = x
  · rw [if_pos hx, if_pos (by omega), ← hx, (gt_yes h).1]
  · rw [if_neg hx]
    by_cases hc : 1 ≤ x ∧ x ≤ (k : Int)
    · rw [if_pos hc, if_pos (by omega)]
    · rw [if_neg hc, if_neg (by omega)]
theorem mkK_all (ls : List Rec) (x : Int) : mkK ls x ls.length = ((gtR ls x).ep, (gtR ls x).lsn) := by
  unfold mkK
  by_cases hc : 1 ≤ x ∧ x ≤ (ls.length : Int)
  · rw [if_pos hc]
  · rw [if_neg hc, (gt_no hc).1]; rfl
set_option maxRecDepth 100000 in
set_option maxHeartbeats 4000000 in
theorem rsend_any (sb : Nat) (n m most : Int) (hn : 1 ≤ n) (hn1 : n ≤ 1099511627776) (lb : Nat) (rv : Value) (ls : List Rec) (fl : Int) (w : World) (h : Two w sb 56 (.int .i64 n) (.int .i64 m)) (hl : Rlg w lb rv ls fl) (hw : Wl ls) : Calls Try.prog 22 #[.pointer (some ⟨sb, 0, none⟩), .pointer (some ⟨lb, 0, none⟩), .int .i64 most] w fun e w' => ∃ a c, e = .returned (.tuple #[.agg #[.int .i64 (gtR ls (n - 1)).ep, .int .i64 (gtR ls (n - 1)).lsn], .slice a (frF ls n most).length c]) ∧ Recs w' a c (frF ls n most) ∧ Fr (fun _ => False) w w' := by
  have hw2 : IntKind.i64.wrap (n - 1) = n - 1 := by simp [IntKind.wrap, IntKind.bits, IntKind.signed]; omega
  obtain ⟨T1, T2, F0⟩ : Two ((w.alloc (.cells #[.int .i64 0, .int .i64 0] 24)).alloc (.cells #[.int .i64 0, .int .i64 0] 24)) w.heap.size 24 (.int .i64 0) (.int .i64 0) ∧ Two ((w.alloc (.cells #[.int .i64 0, .int .i64 0] 24)).alloc (.cells #[.int .i64 0, .int .i64 0] 24)) (w.heap.size + 1) 24 (.int .i64 0) (.int .i64 0) ∧ Fr (fun _ => False) w ((w.alloc (.cells #[.int .i64 0, .int .i64 0] 24)).alloc (.cells #[.int .i64 0, .int .i64 0] 24)) := by
    refine ⟨(Two.new w _ _ _).fr (Fr.box _ _) (fun f => f), ?_, (Fr.box _ _).seq' (Fr.box _ _)⟩
    have := Two.new (w.alloc (.cells #[.int .i64 0, .int .i64 0] 24)) 24 (.int .i64 0) (.int .i64 0)
    rwa [World.size_alloc] at this
  have hbig := hw.big
  have HFM : Hid (∀ W, Fr (fun _ => False) w W → Calls Try.prog 43 #[.pointer (some ⟨lb, 0, none⟩), .int .i64 n, .int .i64 most] W fun e w' => ∃ a c, e = .returned (.slice a (frF ls n most).length c) ∧ Recs w' a c (frF ls n most) ∧ Fr (fun _ => False) W w') := fun W f => rfrom_lg n most lb rv ls fl W (hl.same f) hw
  have HTS : Hid (∀ W, Fr (fun _ => False) w W → Two W sb 56 (.int .i64 n) (.int .i64 m)) := fun W f => h.fr f (fun f => f)
  have HSB : Hid (sb < w.heap.size ∧ lb < w.heap.size) := ⟨h.lt, lt_of_block hl.box⟩
  obtain ⟨ra, rc, hrs, hrle, hrmx⟩ := hl.has.slice
  have hcx : rc ≤ 9223372036854775807 := by unfold maxLen at hrmx; exact hrmx
  have HRR : Hid (∀ W, Fr (fun _ => False) w W → Recs W ra rc ls ∧ W.cell? ⟨lb, 0, none⟩ = some (.slice ra ls.length rc)) := fun W f => by
    have hh := hl.same f
    have h1 := hh.has
    have h2 := (cell_of_two hh.box).1
    rw [hrs] at h1 h2
    exact ⟨Has.recs rfl h1, h2⟩
  have HLS : Hid (∀ (i : Nat) r, ls[i]? = some r → r.lsn = (i : Int) + 1) := fun i r hr => (hw.each i r hr).2
  have hc0 := (HRR.out _ F0).2
  clear h hl hw hrs hrmx T1
  have HT1 : Hid (∀ W, Fr (fun _ => False) ((w.alloc (.cells #[.int .i64 0, .int .i64 0] 24)).alloc (.cells #[.int .i64 0, .int .i64 0] 24)) W → True) := fun _ _ => trivial
  have HM0 : Hid (Two ((w.alloc (.cells #[.int .i64 0, .int .i64 0] 24)).alloc (.cells #[.int .i64 0, .int .i64 0] 24)) (w.heap.size + 1) 24 (.int .i64 0) (.int .i64 0)) := T2
  have HR0 : Hid (Two ((w.alloc (.cells #[.int .i64 0, .int .i64 0] 24)).alloc (.cells #[.int .i64 0, .int .i64 0] 24)) w.heap.size 24 (.int .i64 0) (.int .i64 0)) := (Two.new w _ _ _).fr (Fr.box _ _) (fun f => f)
  have HF0 : Hid (Fr (fun _ => False) w ((w.alloc (.cells #[.int .i64 0, .int .i64 0] 24)).alloc (.cells #[.int .i64 0, .int .i64 0] 24))) := F0
  clear T2 F0 HT1
  go_enter Try.func22, Try.ntmps22
  go_wp2
  generalize (w.alloc (.cells #[.int .i64 0, .int .i64 0] 24)).alloc (.cells #[.int .i64 0, .int .i64 0] 24) = V at *
  go_loopw [17] (fun i wr => ∃ (k : Nat) (e l : Int), k ≤ ls.length ∧ i = .int .i64 k ∧ Hid ((e, l) = mkK ls (n - 1) k) ∧ Hid (Two wr (w.heap.size + 1) 24 (.int .i64 e) (.int .i64 l)) ∧ Hid (Two wr w.heap.size 24 (.int .i64 0) (.int .i64 0)) ∧ Hid (Fr (fun _ => False) w wr)) (fun i _ => ls.length - (intOf i).toNat)
  case atStart => exact ⟨0, 0, 0, by omega, rfl, by show _ = _; unfold mkK; rw [if_neg (by omega)], HM0, HR0, HF0⟩
  case round =>
    obtain ⟨k, e, l, hk, rfl, HE, HM, HR, HF⟩ := hrel
    by_cases hlt : k < ls.length
    · obtain ⟨r, hr⟩ : ∃ r, ls[k]? = some r := ⟨_, List.getElem?_eq_getElem hlt⟩
      obtain ⟨b, off, rfl, hb, hc⟩ := (HRR.out _ HF.out).1.some (by omega)
      obtain ⟨q0, q1, q2, q3, q4, q5, q6, q7⟩ := rec_range (hc k r hr)
      have hki : (k : Int) < (ls.length : Int) := by omega
      have HNX : Hid (mkK ls (n - 1) (k + 1) = if (k : Int) + 1 = n - 1 then (r.ep, r.lsn) else mkK ls (n - 1) k) := mkK_next hr
      have hls := HLS.out k r hr
      have fB := Fr.box wr (.cells #[.int .i64 r.lsn, .int .i64 r.ep, .int .i64 r.kind, .int .i64 r.page, .int .i64 r.other, .int .i64 r.req, .string r.key, .string r.val] 64)
      obtain ⟨⟨d0, d1, d2, d3, d4, d5, d6, d7⟩, _⟩ := rec_cells (heap_alloc_new wr (.cells #[.int .i64 r.lsn, .int .i64 r.ep, .int .i64 r.kind, .int .i64 r.page, .int .i64 r.other, .int .i64 r.req, .string r.key, .string r.val] 64))
      have HF1 : Hid (Fr (fun _ => False) w (wr.alloc (.cells #[.int .i64 r.lsn, .int .i64 r.ep, .int .i64 r.kind, .int .i64 r.page, .int .i64 r.other, .int .i64 r.req, .string r.key, .string r.val] 64))) := HF.out.seq' fB
      have HM1 : Hid (Two (wr.alloc (.cells #[.int .i64 r.lsn, .int .i64 r.ep, .int .i64 r.kind, .int .i64 r.page, .int .i64 r.other, .int .i64 r.req, .string r.key, .string r.val] 64)) (w.heap.size + 1) 24 (.int .i64 e) (.int .i64 l)) := HM.out.fr fB (fun f => f)
      have HR1 : Hid (Two (wr.alloc (.cells #[.int .i64 r.lsn, .int .i64 r.ep, .int .i64 r.kind, .int .i64 r.page, .int .i64 r.other, .int .i64 r.req, .string r.key, .string r.val] 64)) w.heap.size 24 (.int .i64 0) (.int .i64 0)) := HR.out.fr fB (fun f => f)
      obtain ⟨s0, s1, _⟩ := (HTS.out _ HF1.out).cells
      obtain ⟨m0, m1, m2, m3⟩ := HM1.out.cells
      clear hc hr fB HM HR HF
      by_cases hx : (k : Int) + 1 = n - 1
      · have dx : (r.lsn == n - 1) = true := by rw [beq_iff_eq]; omega
        have HE2 : Hid ((r.ep, r.lsn) = mkK ls (n - 1) (k + 1)) := by show _ = _; rw [HNX.out, if_pos hx]
        have HST : Hid (∀ nq, Two ((((wr.alloc (.cells #[.int .i64 r.lsn, .int .i64 r.ep, .int .i64 r.kind, .int .i64 r.page, .int .i64 r.other, .int .i64 r.req, .string r.key, .string r.val] 64)).drewN nq).setCell ⟨w.heap.size + 1, 0, none⟩ (.int .i64 r.ep)).setCell ⟨w.heap.size + 1, 1, none⟩ (.int .i64 r.lsn)) (w.heap.size + 1) 24 (.int .i64 r.ep) (.int .i64 r.lsn) ∧ Two ((((wr.alloc (.cells #[.int .i64 r.lsn, .int .i64 r.ep, .int .i64 r.kind, .int .i64 r.page, .int .i64 r.other, .int .i64 r.req, .string r.key, .string r.val] 64)).drewN nq).setCell ⟨w.heap.size + 1, 0, none⟩ (.int .i64 r.ep)).setCell ⟨w.heap.size + 1, 1, none⟩ (.int .i64 r.lsn)) w.heap.size 24 (.int .i64 0) (.int .i64 0) ∧ Fr (fun _ => False) w ((((wr.alloc (.cells #[.int .i64 r.lsn, .int .i64 r.ep, .int .i64 r.kind, .int .i64 r.page, .int .i64 r.other, .int .i64 r.req, .string r.key, .string r.val] 64)).drewN nq).setCell ⟨w.heap.size + 1, 0, none⟩ (.int .i64 r.ep)).setCell ⟨w.heap.size + 1, 1, none⟩ (.int .i64 r.lsn))) := fun nq => by
          have fq : Fr (fun _ => False) (wr.alloc (.cells #[.int .i64 r.lsn, .int .i64 r.ep, .int .i64 r.kind, .int .i64 r.page, .int .i64 r.other, .int .i64 r.req, .string r.key, .string r.val] 64)) ((wr.alloc (.cells #[.int .i64 r.lsn, .int .i64 r.ep, .int .i64 r.kind, .int .i64 r.page, .int .i64 r.other, .int .i64 r.req, .string r.key, .string r.val] 64)).drewN nq) := Fr.drewN (Fr.refl _ _) nq
          obtain ⟨t1, f1⟩ := (HM1.out.fr fq (fun f => f)).fin (.int .i64 r.ep) (.int .i64 r.lsn)
          exact ⟨t1, (HR1.out.fr fq (fun f => f)).fr f1 (by omega), (HF1.out.seq' fq).trans f1 (fun i hi e => by omega)⟩
        clear HNX hx HE hls HM1 HR1
        go_wp2_with fail
        go_quiet (fail)
        go_wp2
        obtain ⟨t1, t2, t3⟩ := HST.out nq
        go_roundw
        case rel => exact ⟨k + 1, r.ep, r.lsn, by omega, by go_num, HE2, t1, t2, t3⟩
        case measure => simp [intOf]; omega
      · have dx : (r.lsn == n - 1) = false := by rw [beq_eq_false_iff_ne]; omega
        have HE2 : Hid ((e, l) = mkK ls (n - 1) (k + 1)) := by show _ = _; rw [HNX.out, if_neg hx]; exact HE.out
        clear HNX hx HE hls
        go_wp2_with fail
        go_quiet (fail)
        go_wp2
        go_roundw
        case rel => exact ⟨k + 1, e, l, by omega, by go_num, HE2, HM1.out.fr (Fr.drewN (Fr.refl (fun _ => False) _) _) (fun f => f), HR1.out.fr (Fr.drewN (Fr.refl (fun _ => False) _) _) (fun f => f), Fr.drewN HF1.out _⟩
        case measure => simp [intOf]; omega
    · have hki : decide ((k : Int) < (ls.length : Int)) = false := decide_eq_false (by omega)
      have hkl : k = ls.length := by omega
      have HE2 : Hid (e = (gtR ls (n - 1)).ep ∧ l = (gtR ls (n - 1)).lsn) := by
        have := HE.out
        rw [hkl, mkK_all] at this
        show _ ∧ _
        simpa using this
      clear HE hkl
      have fD : Fr (fun _ => False) wr wr.drew := Fr.drew (Fr.refl _ _)
      have HQ : Hid (∀ W, Fr (fun _ => False) wr W → W.cell? ⟨sb, 0, none⟩ = some (.int .i64 n) ∧ W.cell? ⟨w.heap.size + 1, 0, none⟩ = some (.int .i64 e) ∧ W.cell? ⟨w.heap.size + 1, 1, none⟩ = some (.int .i64 l)) := fun W f => ⟨(HTS.out _ (HF.out.seq' f)).cells.1, (HM.out.fr f (fun f => f)).fst⟩
      have HQ4 : Hid (∀ W X, Fr (fun _ => False) wr W → Fr (fun k => k = w.heap.size) W X → X.cell? ⟨sb, 0, none⟩ = some (.int .i64 n) ∧ X.cell? ⟨w.heap.size + 1, 0, none⟩ = some (.int .i64 e) ∧ X.cell? ⟨w.heap.size + 1, 1, none⟩ = some (.int .i64 l)) := fun W X f fs => ⟨((HTS.out _ (HF.out.seq' f)).fr fs (by have := HSB.out.1; omega)).cells.1, ((HM.out.fr f (fun f => f)).fr fs (by omega)).fst⟩
      have q1 := HQ.out _ fD
      have r1 := HFM.out _ (HF.out.seq' fD)
      have RD := HR.out.fr fD (fun f => f)
      obtain ⟨y0, y1, y2, y3⟩ := RD.cells
      have qa := HQ4.out _ _ fD (RD.fin (.int .i64 e) (.int .i64 l)).2
      go_wp2_with fail
      go_region_held3 (fun W => W.cell? ⟨sb, 0, none⟩ = some (.int .i64 n) ∧ W.cell? ⟨w.heap.size + 1, 0, none⟩ = some (.int .i64 e) ∧ W.cell? ⟨w.heap.size + 1, 1, none⟩ = some (.int .i64 l))
        (first | with_reducible exact q1 | with_reducible exact q2 | with_reducible exact q4 | fail)
        (first
          | (go_at_call 43; refine r1.mono ?_; rintro e9 w3 ⟨af, cf, rfl, rcf, g3⟩; clear r1; have G3 := fD.seq' g3; have q2 := HQ.out _ G3; have R3 := HR.out.fr G3 (fun f => f); obtain ⟨z0, z1, z2, z3⟩ := R3.cells; have q4 := HQ4.out _ _ G3 (R3.fin (.int .i64 e) (.int .i64 l)).2))
      obtain ⟨t1, f4⟩ := R3.fin (.int .i64 e) (.int .i64 l)
      obtain ⟨s0, s1, _⟩ := t1.cells
      have HRE : Hid (Recs ((w3.setCell ⟨w.heap.size, 0, none⟩ (.int .i64 e)).setCell ⟨w.heap.size, 1, none⟩ (.int .i64 l)) af cf (frF ls n most)) := recs_frS rcf f4 (fun k b o ha hne e => by have := recs_two rcf R3 b o ha hne; omega)
      have HFE : Hid (Fr (fun _ => False) w ((w3.setCell ⟨w.heap.size, 0, none⟩ (.int .i64 e)).setCell ⟨w.heap.size, 1, none⟩ (.int .i64 l))) := (HF.out.seq' G3).trans f4 (fun i hi e => by omega)
      clear q1 q2 q4 qa t1 f4 R3 G3 z0 z1 z2 z3 y0 y1 y2 y3 g3 rcf RD
      go_wp2
      refine bodyPost_ret (v := .tuple #[.agg #[.int .i64 e, .int .i64 l], .slice af (frF ls n most).length cf]) (by simp [results, Try.results22, go_sem, s0, s1]) rfl ?_
      exact ⟨af, cf, by rw [HE2.out.1, HE2.out.2], HRE.out, HFE.out⟩
end Go.Proofs.Ytnhmickolfbldaa
