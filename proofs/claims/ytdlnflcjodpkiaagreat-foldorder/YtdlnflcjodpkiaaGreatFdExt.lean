
/- Extends, on both sides. -/
import Derived.Test.YtdlnflcjodpkiaaGreatFdHist
import Derived.Laws.StructEq
import Derived.Deep.QuietTactic
import Derived.BigQuiet
namespace Go.Proofs.YtdlnflcjodpkiaaGreat
open Go.RowKit Go.Shelf

/-- Whether two records say the same write. -/
def sayB (a b : Rec) : Bool := (a.kind == b.kind) && ((a.page == b.page) && ((a.other == b.other) && ((a.req == b.req) && ((a.key.toList == b.key.toList) && (a.val.toList == b.val.toList)))))
set_option maxRecDepth 100000 in
set_option maxHeartbeats 4000000 in
theorem say_any (a b : Rec) (w : World) : Calls Tryz.prog 57 #[(.agg #[.int .i64 a.lsn, .int .i64 a.ep, .int .i64 a.kind, .int .i64 a.page, .int .i64 a.other, .int .i64 a.req, .string a.key, .string a.val]), (.agg #[.int .i64 b.lsn, .int .i64 b.ep, .int .i64 b.kind, .int .i64 b.page, .int .i64 b.other, .int .i64 b.req, .string b.key, .string b.val])] w fun e w' => e = .returned (.bool (sayB a b)) ∧ Fr (fun _ => False) w w' := by
  obtain ⟨lsn, ep, kind, page, other, req, key, val⟩ := a
  obtain ⟨lsn', ep', kind', page', other', req', key', val'⟩ := b
  unfold sayB
  dsimp only
  go_enter Tryz.func57, Tryz.ntmps57
  go_wp2
  go_region
  go_wp2
  all_goals go_ret
  all_goals refine ⟨ret_bool ?_, ((((Fr.refl _ _).alloc _).alloc _).drew)⟩
  all_goals simp_all
/-- A history begins with another one, as far as what is written goes. -/
def Ext (hs of : List Rec) : Prop := of.length ≤ hs.length ∧ ∀ (i : Nat) (a b : Rec), hs[i]? = some a → of[i]? = some b → sayB a b = true
def extB : List Rec → List Rec → Bool
  | _, [] => true
  | [], _ :: _ => false
  | a :: hs, b :: of => sayB a b && extB hs of
theorem extB_iff : ∀ {hs of : List Rec}, extB hs of = true ↔ Ext hs of
  | hs, [] => by cases hs <;> simp [extB, Ext]
  | [], _ :: _ => by simp [extB, Ext]
  | a :: hs, b :: of => by
    have ih := extB_iff (hs := hs) (of := of)
    simp only [extB, Bool.and_eq_true, ih]
    unfold Ext
    constructor
    · rintro ⟨h1, h2, h3⟩
      refine ⟨by simpa using h2, fun i x y hx hy => ?_⟩
      match i with
      | 0 => simp at hx hy; subst hx hy; exact h1
      | i + 1 => exact h3 i x y (by simpa using hx) (by simpa using hy)
    · rintro ⟨h2, h3⟩
      exact ⟨h3 0 a b rfl rfl, by simpa using h2, fun i x y hx hy => h3 (i + 1) x y (by simpa using hx) (by simpa using hy)⟩
theorem extB_yes {hs of : List Rec} (h : Ext hs of) : extB hs of = true := extB_iff.2 h
theorem extB_no {hs of : List Rec} (h : ¬ Ext hs of) : extB hs of = false := by
  cases hm : extB hs of
  · rfl
  · exact absurd (extB_iff.1 hm) h
theorem extB_of {hs of : List Rec} (h : extB hs of = true) : Ext hs of := extB_iff.1 h
set_option maxRecDepth 100000 in
set_option maxHeartbeats 4000000 in
theorem eqf_any (a1 a2 : Option Addr) (n c1 c2 : Nat) (hs of : List Rec) (h1 : n ≤ hs.length) (h2 : n = of.length) (hc1 : c1 ≤ 9223372036854775807) (w : World) (r1 : Recs w a1 c1 hs) (r2 : Recs w a2 c2 of) :
    Calls Tryz.prog 56 #[.slice a1 n c1, .slice a2 n c2, .func (.func 57) #[] #[]] w fun e w' => e = .returned (.bool (extB hs of)) ∧ Fr (fun _ => False) w w' := by
  have hl1 : n ≤ c1 := Nat.le_trans h1 r1.le
  have hl2 : n ≤ c2 := by rw [h2]; exact r2.le
  have hm2 := r2.max
  have HS1 : Hid (∀ W, Fr (fun _ => False) w W → Recs W a1 c1 hs) := fun W f => r1.same f
  have HS2 : Hid (∀ W, Fr (fun _ => False) w W → Recs W a2 c2 of) := fun W f => r2.same f
  have HN : Hid (n = of.length) := h2
  have HN1 : Hid (n ≤ hs.length) := h1
  clear r1 r2 h1 h2
  go_enter Tryz.func56, Tryz.ntmps56
  go_wp2
  go_loopw [17] (fun i wr => ∃ k : Nat, k ≤ n ∧ i = .int .i64 k ∧ Hid (∀ (i : Nat) (a b : Rec), i < k → hs[i]? = some a → of[i]? = some b → sayB a b = true) ∧ Fr (fun _ => False) w wr) (fun i _ => n - (intOf i).toNat)
  case atStart => exact ⟨0, by omega, rfl, (fun i a b h => by omega), Fr.refl _ _⟩
  case round =>
    obtain ⟨k, hk, rfl, HE, F⟩ := hrel
    by_cases hlt : k < n
    · obtain ⟨r, hr⟩ : ∃ r, hs[k]? = some r := ⟨_, List.getElem?_eq_getElem (by have := HN1.out; omega)⟩
      obtain ⟨r', hr'⟩ : ∃ r, of[k]? = some r := ⟨_, List.getElem?_eq_getElem (by have := HN.out; omega)⟩
      obtain ⟨b1, o1, rfl, hb1, hcc1⟩ := (HS1.out _ F).some (by have := HN1.out; omega)
      obtain ⟨b2, o2, rfl, hb2, hcc2⟩ := (HS2.out _ F).some (by have := HN.out; omega)
      obtain ⟨q0, q1, q2, q3, q4, q5, q6, q7⟩ := rec_range (hcc1 k r hr)
      obtain ⟨p0, p1, p2, p3, p4, p5, p6, p7⟩ := rec_range (hcc2 k r' hr')
      have hki : (k : Int) < (n : Int) := by omega
      have hsa := say_any r r'
      have HY : Hid (sayB r r' = true → ∀ (i : Nat) (a b : Rec), i < k + 1 → hs[i]? = some a → of[i]? = some b → sayB a b = true) := fun h i a b hi ha hb => by
        rcases Nat.lt_or_ge i k with hx | hx
        · exact HE.out i a b hx ha hb
        · have : i = k := by omega
          subst this
          rw [hr] at ha; rw [hr'] at hb
          cases ha; cases hb
          exact h
      have HNO : Hid (sayB r r' = false → extB hs of = false) := fun h => extB_no (fun he => by have := he.2 k r r' hr hr'; rw [h] at this; cases this)
      obtain ⟨lsn, ep, kind, page, other, req, key, val⟩ := r
      obtain ⟨lsn', ep', kind', page', other', req', key', val'⟩ := r'
      dsimp only at q0 q1 q2 q3 q4 q5 q6 q7 p0 p1 p2 p3 p4 p5 p6 p7 hsa
      clear hr hr' hcc1 hcc2
      go_wp2_with fail
      refine (hsa _).mono ?_
      rintro e w3 ⟨rfl, f3⟩
      have F3 : Fr (fun _ => False) w w3 := ((F.alloc _).alloc _).seq' f3
      clear hsa f3
      cases hsb : sayB ⟨lsn, ep, kind, page, other, req, key, val⟩ ⟨lsn', ep', kind', page', other', req', key', val'⟩ with
      | true =>
        have HY2 := HY.out hsb
        clear HY HNO hsb
        go_wp2
        go_roundw
        case rel => exact ⟨k + 1, by omega, by go_num, HY2, F3⟩
        case measure => simp [intOf]; omega
      | false =>
        have HN2 : Hid (extB hs of = false) := HNO.out hsb
        clear HY HNO hsb
        go_wp2
        go_ret
        exact ⟨ret_bool HN2.out.symm, F3⟩
    · obtain rfl : k = n := by omega
      have HT : Hid (extB hs of = true) := extB_yes ⟨by have := HN.out; have := HN1.out; omega, fun i a b ha hb => HE.out i a b (by have := (List.getElem?_eq_some_iff.1 hb).1; have := HN.out; omega) ha hb⟩
      go_wp2
      go_ret
      exact ⟨ret_bool HT.out.symm, F⟩
set_option maxRecDepth 100000 in
set_option maxHeartbeats 4000000 in
theorem extends_any (a1 a2 : Option Addr) (n1 n2 c1 c2 : Nat) (l1 l2 : List Rec) (h1 : n1 = l1.length) (h2 : n2 = l2.length) (hf1 : n1 ≤ 100000) (hf2 : n2 ≤ 100000) (w : World) (r1 : Recs w a1 c1 l1) (r2 : Recs w a2 c2 l2) :
    Calls Tryz.prog 25 #[.slice a1 n1 c1, .slice a2 n2 c2] w fun e w' => e = .returned (.bool (extB (hist l1) (hist l2))) ∧ Fr (fun _ => False) w w' := by
  have hh1 := history_any a1 n1 c1 l1 h1 (by omega) w r1
  have HH2 : Hid (∀ W, Fr (fun _ => False) w W → Calls Tryz.prog 17 #[.slice a2 n2 c2] W fun e w' => RcOut W (hist l2) e w') := fun W f => history_any a2 n2 c2 l2 h2 (by omega) W (r2.same f)
  generalize hist l1 = hs at *
  generalize hist l2 = of at *
  obtain ⟨m1, hm1⟩ : ∃ m, m = hs.length := ⟨_, rfl⟩
  obtain ⟨m2, hm2⟩ : ∃ m, m = of.length := ⟨_, rfl⟩
  have hh1' : Calls Tryz.prog 17 #[.slice a1 n1 c1] w fun e w' => ∃ a c, e = .returned (.slice a m1 c) ∧ Recs w' a c hs ∧ Fr (fun _ => False) w w' := hh1.mono fun e w' ⟨a, c, he, hr, _, f⟩ => ⟨a, c, by rw [he, hm1], hr, f⟩
  have HH2' : Hid (∀ W, Fr (fun _ => False) w W → Calls Tryz.prog 17 #[.slice a2 n2 c2] W fun e w' => ∃ a c, e = .returned (.slice a m2 c) ∧ Recs w' a c of ∧ Fr (fun _ => False) W w') := fun W f => (HH2.out W f).mono fun e w' ⟨a, c, he, hr, _, f⟩ => ⟨a, c, by rw [he, hm2], hr, f⟩
  have HM1 : Hid (m1 = hs.length) := hm1
  have HM2 : Hid (m2 = of.length) := hm2
  clear hh1 HH2 r1 r2 h1 h2 hf1 hf2 hm1 hm2
  go_enter Tryz.func25, Tryz.ntmps25
  go_wp2_with fail
  refine hh1'.mono ?_
  rintro e w1 ⟨a3, c3, rfl, hr3, f1⟩
  have hh2 := HH2'.out w1 f1
  clear hh1' HH2'
  go_wp2_with fail
  refine hh2.mono ?_
  rintro e w2 ⟨a4, c4, rfl, hr4, f2⟩
  have hr3' := hr3.same f2
  have hc3 : m1 ≤ c3 := by have := hr3.le; have := HM1.out; omega
  have hc3m := hr3.max
  have hc4 : m2 ≤ c4 := by have := hr4.le; have := HM2.out; omega
  have hc4m := hr4.max
  have F2 := f1.seq' f2
  by_cases hle : m2 ≤ m1
  · have heq := eqf_any a3 a4 m2 c3 c4 hs of (by have := HM1.out; omega) HM2.out hc3m w2 hr3' hr4
    have hle' : decide ((m2 : Int) ≤ (m1 : Int)) = true := by simp; omega
    have hle2 : (m2 : Int) ≤ (c3 : Int) := by omega
    clear hh2 hr3 hr4 hr3' f1 f2
    go_wp2_with fail
    refine heq.mono ?_
    rintro e w5 ⟨rfl, f5⟩
    clear heq
    go_wp2
    go_ret
    exact ⟨ret_bool (by simp), F2.seq' f5⟩
  · have HNO : Hid (extB hs of = false) := extB_no (fun h => by have := h.1; have := HM1.out; have := HM2.out; omega)
    have hle' : decide ((m2 : Int) ≤ (m1 : Int)) = false := by simp; omega
    have hle'' : decide (m2 ≤ m1) = false := by simp; omega
    clear hh2 hr3 hr4 hr3' f1 f2 hle
    go_wp2
    go_ret
    exact ⟨ret_bool (by rw [HNO.out]), F2⟩
end Go.Proofs.YtdlnflcjodpkiaaGreat
