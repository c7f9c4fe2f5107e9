
/- The document's own Extends. -/
import Derived.Test.YtdlnflcjodpkiaaGreatFdExt
namespace Go.Proofs.YtdlnflcjodpkiaaGreat
open Go.RowKit Go.Shelf

theorem com_parts {r : Rec} (h : comB r = true) : r.kind = 7 ∧ r.page = 0 := by
  unfold comB at h
  simp only [Bool.and_eq_true, decide_eq_true_eq, beq_iff_eq] at h
  exact ⟨h.1, h.2.2.2.1⟩
theorem say_com {a b : Rec} (ha : comB a = true) (hb : comB b = true) : sayB a b = ((a.req == b.req) && ((a.other == b.other) && ((a.key.toList == b.key.toList) && (a.val.toList == b.val.toList)))) := by
  obtain ⟨h1, h2⟩ := com_parts ha
  obtain ⟨h3, h4⟩ := com_parts hb
  unfold sayB
  rw [h1, h2, h3, h4]
  simp [Bool.and_left_comm]
set_option maxRecDepth 100000 in
set_option maxHeartbeats 4000000 in
theorem rextends_any (a1 a2 : Option Addr) (n1 n2 c1 c2 : Nat) (l1 l2 : List Rec) (h1 : n1 = l1.length) (h2 : n2 = l2.length) (hf1 : n1 ≤ 100000) (hf2 : n2 ≤ 100000) (w : World) (r1 : Recs w a1 c1 l1) (r2 : Recs w a2 c2 l2) :
    Calls Tryz.prog 26 #[.slice a1 n1 c1, .slice a2 n2 c2] w fun e w' => e = .returned (.bool (extB (hist l1) (hist l2))) ∧ Fr (fun _ => False) w w' := by
  have hh1 := rhistory_any a1 n1 c1 l1 h1 (by omega) w r1
  have HH2 : Hid (∀ W, Fr (fun _ => False) w W → Calls Tryz.prog 18 #[.slice a2 n2 c2] W fun e w' => RcOut W (hist l2) e w') := fun W f => rhistory_any a2 n2 c2 l2 h2 (by omega) W (r2.same f)
  have HC1 : Hid (∀ r ∈ hist l1, comB r = true) := fun r hr => (List.mem_filter.1 hr).2
  have HC2 : Hid (∀ r ∈ hist l2, comB r = true) := fun r hr => (List.mem_filter.1 hr).2
  have hz1 : (hist l1).length ≤ 100000 := by have := hist_len l1; omega
  have hz2 : (hist l2).length ≤ 100000 := by have := hist_len l2; omega
  generalize hist l1 = hs at *
  generalize hist l2 = of at *
  obtain ⟨m1, hm1⟩ : ∃ m, m = hs.length := ⟨_, rfl⟩
  obtain ⟨m2, hm2⟩ : ∃ m, m = of.length := ⟨_, rfl⟩
  have hh1' : Calls Tryz.prog 18 #[.slice a1 n1 c1] w fun e w' => ∃ a c, e = .returned (.slice a m1 c) ∧ Recs w' a c hs ∧ Fr (fun _ => False) w w' := hh1.mono fun e w' ⟨a, c, he, hr, _, f⟩ => ⟨a, c, by rw [he, hm1], hr, f⟩
  have HH2' : Hid (∀ W, Fr (fun _ => False) w W → Calls Tryz.prog 18 #[.slice a2 n2 c2] W fun e w' => ∃ a c, e = .returned (.slice a m2 c) ∧ Recs w' a c of ∧ Fr (fun _ => False) W w') := fun W f => (HH2.out W f).mono fun e w' ⟨a, c, he, hr, _, f⟩ => ⟨a, c, by rw [he, hm2], hr, f⟩
  have HM1 : Hid (m1 = hs.length) := hm1
  have HM2 : Hid (m2 = of.length) := hm2
  have hmm1 : m1 ≤ 100000 := by omega
  have hmm2 : m2 ≤ 100000 := by omega
  clear hh1 HH2 r1 r2 h1 h2 hf1 hf2 hm1 hm2 hz1 hz2
  go_enter Tryz.func26, Tryz.ntmps26
  go_wp2_with fail
  refine hh1'.mono ?_
  rintro e w1 ⟨a3, c3, rfl, hr3, f1⟩
  have hh2 := HH2'.out w1 f1
  clear hh1' HH2'
  go_wp2_with fail
  refine hh2.mono ?_
  rintro e w2 ⟨a4, c4, rfl, hr4, f2⟩
  have HS1 : Hid (∀ W, Fr (fun _ => False) w2 W → Recs W a3 c3 hs) := fun W f => hr3.same (f2.seq' f)
  have HS2 : Hid (∀ W, Fr (fun _ => False) w2 W → Recs W a4 c4 of) := fun W f => hr4.same f
  have hc3 : m1 ≤ c3 := by have := hr3.le; have := HM1.out; omega
  have hc3m := hr3.max
  have hc4 : m2 ≤ c4 := by have := hr4.le; have := HM2.out; omega
  have hc4m := hr4.max
  have HF2 : Hid (Fr (fun _ => False) w w2) := f1.seq' f2
  clear hh2 hr3 hr4 f1 f2
  go_wp2
  go_loopw [15] (fun i wr => ∃ k : Nat, k ≤ m2 ∧ i = .int .i64 k ∧ Hid (k ≤ m1 ∧ ∀ (i : Nat) (a b : Rec), i < k → hs[i]? = some a → of[i]? = some b → sayB a b = true) ∧ Fr (fun _ => False) w2 wr) (fun i _ => m2 - (intOf i).toNat)
  case atStart => exact ⟨0, by omega, rfl, ⟨by omega, fun i a b h => by omega⟩, Fr.refl _ _⟩
  case round =>
    obtain ⟨k, hk, rfl, HE, F⟩ := hrel
    by_cases hlt : k < m2
    · obtain ⟨r', hr'⟩ : ∃ r, of[k]? = some r := ⟨_, List.getElem?_eq_getElem (by have := HM2.out; omega)⟩
      obtain ⟨b2, o2, rfl, hb2, hcc2⟩ := (HS2.out _ F).some (by have := HM2.out; omega)
      obtain ⟨p0, p1, p2, p3, p4, p5, p6, p7⟩ := rec_range (hcc2 k r' hr')
      have hki : (k : Int) < (m2 : Int) := by omega
      by_cases hk1 : k < m1
      · obtain ⟨r, hr⟩ : ∃ r, hs[k]? = some r := ⟨_, List.getElem?_eq_getElem (by have := HM1.out; omega)⟩
        obtain ⟨b1, o1, rfl, hb1, hcc1⟩ := (HS1.out _ F).some (by have := HM1.out; omega)
        obtain ⟨q0, q1, q2, q3, q4, q5, q6, q7⟩ := rec_range (hcc1 k r hr)
        have hki1 : (k : Int) < (m1 : Int) := by omega
        have hki2 : decide ((m1 : Int) ≤ (k : Int)) = false := by simp; omega
        have hki3 : decide (m1 ≤ k) = false := by simp; omega
        have hsc := say_com (HC1.out r (List.mem_of_getElem? hr)) (HC2.out r' (List.mem_of_getElem? hr'))
        have HY : Hid (sayB r r' = true → k + 1 ≤ m1 ∧ ∀ (i : Nat) (a b : Rec), i < k + 1 → hs[i]? = some a → of[i]? = some b → sayB a b = true) := fun h => ⟨by omega, fun i a b hi ha hb => by
          rcases Nat.lt_or_ge i k with hx | hx
          · exact HE.out.2 i a b hx ha hb
          · have : i = k := by omega
            subst this
            rw [hr] at ha; rw [hr'] at hb
            cases ha; cases hb
            exact h⟩
        have HNO : Hid (sayB r r' = false → extB hs of = false) := fun h => extB_no (fun he => by have := he.2 k r r' hr hr'; rw [h] at this; cases this)
        obtain ⟨lsn, ep, kind, page, other, req, key, val⟩ := r
        obtain ⟨lsn', ep', kind', page', other', req', key', val'⟩ := r'
        dsimp only at q0 q1 q2 q3 q4 q5 q6 q7 p0 p1 p2 p3 p4 p5 p6 p7 hsc
        have F1 := F.alloc (.cells #[.int .i64 lsn', .int .i64 ep', .int .i64 kind', .int .i64 page', .int .i64 other', .int .i64 req', .string key', .string val'] 53)
        have HF1 : Hid (Fr (fun _ => False) w2 (wr.alloc (.cells #[.int .i64 lsn', .int .i64 ep', .int .i64 kind', .int .i64 page', .int .i64 other', .int .i64 req', .string key', .string val'] 53))) := F1
        rw [hsc] at HY HNO
        clear hr hr' hcc1 hcc2 F1 hsc
        cases e1 : (req == req') with
        | false =>
          have HN2 : Hid (extB hs of = false) := HNO.out (by rw [e1]; rfl)
          have e1' : (req != req') = true := by simp [bne, e1]
          clear HY HNO e1
          go_wp2
          go_quiet (fail)
          go_wp2
          go_ret
          exact ⟨ret_bool HN2.out.symm, HF2.out.seq' (HF1.out.drewN _)⟩
        | true =>
          have e1' : (req != req') = false := by simp [bne, e1]
          cases e2 : (other == other') with
          | false =>
            have HN2 : Hid (extB hs of = false) := HNO.out (by rw [e1, e2]; rfl)
            have e2' : (other != other') = true := by simp [bne, e2]
            clear HY HNO e1 e2
            go_wp2
            go_quiet (fail)
            go_wp2
            go_ret
            exact ⟨ret_bool HN2.out.symm, HF2.out.seq' (HF1.out.drewN _)⟩
          | true =>
            have e2' : (other != other') = false := by simp [bne, e2]
            cases e3 : (key.toList == key'.toList) with
            | false =>
              have HN2 : Hid (extB hs of = false) := HNO.out (by rw [e1, e2, e3]; rfl)
              clear HY HNO e1 e2
              go_wp2
              go_quiet (fail)
              go_wp2
              go_ret
              exact ⟨ret_bool HN2.out.symm, HF2.out.seq' (HF1.out.drewN _)⟩
            | true =>
              cases e4 : (val.toList == val'.toList) with
              | false =>
                have HN2 : Hid (extB hs of = false) := HNO.out (by rw [e1, e2, e3, e4]; rfl)
                clear HY HNO e1 e2
                go_wp2
                go_quiet (fail)
                go_wp2
                go_ret
                exact ⟨ret_bool HN2.out.symm, HF2.out.seq' (HF1.out.drewN _)⟩
              | true =>
                have HY2 : Hid (k + 1 ≤ m1 ∧ ∀ (i : Nat) (a b : Rec), i < k + 1 → hs[i]? = some a → of[i]? = some b → sayB a b = true) := HY.out (by rw [e1, e2, e3, e4]; rfl)
                clear HY HNO e1 e2
                go_wp2
                go_quiet (fail)
                go_wp2
                go_roundw
                case rel => exact ⟨k + 1, by omega, by go_num, HY2, HF1.out.drewN _⟩
                case measure => simp [intOf]; omega
      · have HN2 : Hid (extB hs of = false) := extB_no (fun he => by have := he.1; have := HM1.out; have := HM2.out; omega)
        have hki2 : decide ((m1 : Int) ≤ (k : Int)) = true := by simp; omega
        have hki3 : decide (m1 ≤ k) = true := by simp; omega
        obtain ⟨lsn', ep', kind', page', other', req', key', val'⟩ := r'
        dsimp only at p0 p1 p2 p3 p4 p5 p6 p7
        have HF1 : Hid (Fr (fun _ => False) w2 (wr.alloc (.cells #[.int .i64 lsn', .int .i64 ep', .int .i64 kind', .int .i64 page', .int .i64 other', .int .i64 req', .string key', .string val'] 53))) := F.alloc _
        clear hr' hcc2 hk1
        go_wp2
        go_quiet (fail)
        go_wp2
        go_ret
        exact ⟨ret_bool HN2.out.symm, HF2.out.seq' (HF1.out.drewN _)⟩
    · obtain rfl : k = m2 := by omega
      have HT : Hid (extB hs of = true) := extB_yes ⟨by have := HM2.out; have := HM1.out; have := HE.out.1; omega, fun i a b ha hb => HE.out.2 i a b (by have := (List.getElem?_eq_some_iff.1 hb).1; have := HM2.out; omega) ha hb⟩
      go_wp2
      go_ret
      exact ⟨ret_bool HT.out.symm, HF2.out.seq' F⟩
end Go.Proofs.YtdlnflcjodpkiaaGreat
