
/- FdExt, TcRul4. -/
import Derived.Test.YthdbkanbgfajbaaGreatTB5
import Derived.Laws.StructEq
import Derived.Deep.QuietTactic
import Derived.BigQuiet
import Derived.Test.YthdbkanbgfajbaaGreatTB19
/- Extends, on both sides. -/
namespace Go.Proofs.YthdbkanbgfajbaaGreat
open Go.RowKit Go.Shelf

/-- Whether two records say the same write. -/
def sayB (a b : Rec) : Bool := (a.kind == b.kind) && ((a.page == b.page) && ((a.other == b.other) && ((a.req == b.req) && ((a.key.toList == b.key.toList) && (a.val.toList == b.val.toList)))))
set_option maxRecDepth 100000 in
set_option maxHeartbeats 4000000 in
theorem say_any (a b : Rec) (w : World) : Calls Tryz.prog 58 #[(.agg #[.int .i64 a.lsn, .int .i64 a.ep, .int .i64 a.kind, .int .i64 a.page, .int .i64 a.other, .int .i64 a.req, .string a.key, .string a.val]), (.agg #[.int .i64 b.lsn, .int .i64 b.ep, .int .i64 b.kind, .int .i64 b.page, .int .i64 b.other, .int .i64 b.req, .string b.key, .string b.val])] w fun e w' => e = .returned (.bool (sayB a b)) ∧ Fr (fun _ => False) w w' := by
  obtain ⟨lsn, ep, kind, page, other, req, key, val⟩ := a
  obtain ⟨lsn', ep', kind', page', other', req', key', val'⟩ := b
  unfold sayB
  dsimp only
  go_enter Tryz.func58, Tryz.ntmps58
  go_wp2
  go_region
  go_wp2
  all_goals go_ret
  all_goals refine ⟨ret_bool ?_, ((((Fr.refl _ _).alloc _).alloc _).drew)⟩
  all_goals simp_all
/-- A history begins with another one, as far as what is written goes. -/
def Ext (hs of : List Rec) : Prop := of.length ≤ hs.length ∧ ∀ (i : Nat) (a b : Rec), hs[i]? = some a → of[i]? = some b → sayB a b = true
def extB : List Rec → List Rec → Bool
  | _, [] => true
  | [], _ :: _ => false
  | a :: hs, b :: of => sayB a b && extB hs of
theorem extB_iff : ∀ {hs of : List Rec}, extB hs of = true ↔ Ext hs of
  | hs, [] => by cases hs <;> simp [extB, Ext]
  | [], _ :: _ => by simp [extB, Ext]
  | a :: hs, b :: of => by
    have ih := extB_iff (hs := hs) (of := of)
    simp only [extB, Bool.and_eq_true, ih]
    unfold Ext
    constructor
    · rintro ⟨h1, h2, h3⟩
      refine ⟨by simpa using h2, fun i x y hx hy => ?_⟩
      match i with
      | 0 => simp at hx hy; subst hx hy; exact h1
      | i + 1 => exact h3 i x y (by simpa using hx) (by simpa using hy)
    · rintro ⟨h2, h3⟩
      exact ⟨h3 0 a b rfl rfl, by simpa using h2, fun i x y hx hy => h3 (i + 1) x y (by simpa using hx) (by simpa using hy)⟩
theorem extB_yes {hs of : List Rec} (h : Ext hs of) : extB hs of = true := extB_iff.2 h
theorem extB_no {hs of : List Rec} (h : ¬ Ext hs of) : extB hs of = false := by
  cases hm : extB hs of
  · rfl
  · exact absurd (extB_iff.1 hm) h
theorem extB_of {hs of : List Rec} (h : extB hs of = true) : Ext hs of := extB_iff.1 h
set_option maxRecDepth 100000 in
set_option maxHeartbeats 4000000 in
theorem eqf_any (a1 a2 : Option Addr) (n c1 c2 : Nat) (hs of : List Rec) (h1 : n ≤ hs.length) (h2 : n = of.length) (hc1 : c1 ≤ 9223372036854775807) (w : World) (r1 : Recs w a1 c1 hs) (r2 : Recs w a2 c2 of) :
    Calls Tryz.prog 57 #[.slice a1 n c1, .slice a2 n c2, .func (.func 58) #[] #[]] w fun e w' => e = .returned (.bool (extB hs of)) ∧ Fr (fun _ => False) w w' := by
  have hl1 : n ≤ c1 := Nat.le_trans h1 r1.le
  have hl2 : n ≤ c2 := by rw [h2]; exact r2.le
  have hm2 := r2.max
  have HS1 : Hid (∀ W, Fr (fun _ => False) w W → Recs W a1 c1 hs) := fun W f => r1.same f
  have HS2 : Hid (∀ W, Fr (fun _ => False) w W → Recs W a2 c2 of) := fun W f => r2.same f
  have HN : Hid (n = of.length) := h2
  have HN1 : Hid (n ≤ hs.length) := h1
  clear r1 r2 h1 h2
  go_enter Tryz.func57, Tryz.ntmps57
  go_wp2
  go_loopw [17] (fun i wr => ∃ k : Nat, k ≤ n ∧ i = .int .i64 k ∧ Hid (∀ (i : Nat) (a b : Rec), i < k → hs[i]? = some a → of[i]? = some b → sayB a b = true) ∧ Fr (fun _ => False) w wr) (fun i _ => n - (intOf i).toNat)
  case atStart => exact ⟨0, by omega, rfl, (fun i a b h => by omega), Fr.refl _ _⟩
  case round =>
    obtain ⟨k, hk, rfl, HE, F⟩ := hrel
    by_cases hlt : k < n
    · obtain ⟨r, hr⟩ : ∃ r, hs[k]? = some r := ⟨_, List.getElem?_eq_getElem (by have := HN1.out; omega)⟩
      obtain ⟨r', hr'⟩ : ∃ r, of[k]? = some r := ⟨_, List.getElem?_eq_getElem (by have := HN.out; omega)⟩
      obtain ⟨b1, o1, rfl, hb1, hcc1⟩ := (HS1.out _ F).some (by have := HN1.out; omega)
      obtain ⟨b2, o2, rfl, hb2, hcc2⟩ := (HS2.out _ F).some (by have := HN.out; omega)
      obtain ⟨q0, q1, q2, q3, q4, q5, q6, q7⟩ := rec_range (hcc1 k r hr)
      obtain ⟨p0, p1, p2, p3, p4, p5, p6, p7⟩ := rec_range (hcc2 k r' hr')
      have hki : (k : Int) < (n : Int) := by omega
      have hsa := say_any r r'
      have HY : Hid (sayB r r' = true → ∀ (i : Nat) (a b : Rec), i < k + 1 → hs[i]? = some a → of[i]? = some b → sayB a b = true) := fun h i a b hi ha hb => by
        rcases Nat.lt_or_ge i k with hx | hx
        · exact HE.out i a b hx ha hb
        · have : i = k := by omega
          subst this
          rw [hr] at ha; rw [hr'] at hb
          cases ha; cases hb
          exact h
      have HNO : Hid (sayB r r' = false → extB hs of = false) := fun h => extB_no (fun he => by have := he.2 k r r' hr hr'; rw [h] at this; cases this)
      obtain ⟨lsn, ep, kind, page, other, req, key, val⟩ := r
      obtain ⟨lsn', ep', kind', page', other', req', key', val'⟩ := r'
      dsimp only at q0 q1 q2 q3 q4 q5 q6 q7 p0 p1 p2 p3 p4 p5 p6 p7 hsa
      clear hr hr' hcc1 hcc2
      go_wp2_with fail
      refine (hsa _).mono ?_
      rintro e w3 ⟨rfl, f3⟩
      have F3 : Fr (fun _ => False) w w3 := ((F.alloc _).alloc _).seq' f3
      clear hsa f3
      cases hsb : sayB ⟨lsn, ep, kind, page, other, req, key, val⟩ ⟨lsn', ep', kind', page', other', req', key', val'⟩ with
      | true =>
        have HY2 := HY.out hsb
        clear HY HNO hsb
        go_wp2
        go_roundw
        case rel => exact ⟨k + 1, by omega, by go_num, HY2, F3⟩
        case measure => simp [intOf]; omega
      | false =>
        have HN2 : Hid (extB hs of = false) := HNO.out hsb
        clear HY HNO hsb
        go_wp2
        go_ret
        exact ⟨ret_bool HN2.out.symm, F3⟩
    · obtain rfl : k = n := by omega
      have HT : Hid (extB hs of = true) := extB_yes ⟨by have := HN.out; have := HN1.out; omega, fun i a b ha hb => HE.out i a b (by have := (List.getElem?_eq_some_iff.1 hb).1; have := HN.out; omega) ha hb⟩
      go_wp2
      go_ret
      exact ⟨ret_bool HT.out.symm, F⟩
set_option maxRecDepth 100000 in
set_option maxHeartbeats 4000000 in
theorem extends_any (a1 a2 : Option Addr) (n1 n2 c1 c2 : Nat) (l1 l2 : List Rec) (h1 : n1 = l1.length) (h2 : n2 = l2.length) (hf1 : n1 ≤ 100000) (hf2 : n2 ≤ 100000) (w : World) (r1 : Recs w a1 c1 l1) (r2 : Recs w a2 c2 l2) :
    Calls Tryz.prog 43 #[.slice a1 n1 c1, .slice a2 n2 c2] w fun e w' => e = .returned (.bool (extB (hist l1) (hist l2))) ∧ Fr (fun _ => False) w w' := by
  have hh1 := history_any a1 n1 c1 l1 h1 (by omega) w r1
  have HH2 : Hid (∀ W, Fr (fun _ => False) w W → Calls Tryz.prog 11 #[.slice a2 n2 c2] W fun e w' => RcOut W (hist l2) e w') := fun W f => history_any a2 n2 c2 l2 h2 (by omega) W (r2.same f)
  generalize hist l1 = hs at *
  generalize hist l2 = of at *
  obtain ⟨m1, hm1⟩ : ∃ m, m = hs.length := ⟨_, rfl⟩
  obtain ⟨m2, hm2⟩ : ∃ m, m = of.length := ⟨_, rfl⟩
  have hh1' : Calls Tryz.prog 11 #[.slice a1 n1 c1] w fun e w' => ∃ a c, e = .returned (.slice a m1 c) ∧ Recs w' a c hs ∧ Fr (fun _ => False) w w' := hh1.mono fun e w' ⟨a, c, he, hr, _, f⟩ => ⟨a, c, by rw [he, hm1], hr, f⟩
  have HH2' : Hid (∀ W, Fr (fun _ => False) w W → Calls Tryz.prog 11 #[.slice a2 n2 c2] W fun e w' => ∃ a c, e = .returned (.slice a m2 c) ∧ Recs w' a c of ∧ Fr (fun _ => False) W w') := fun W f => (HH2.out W f).mono fun e w' ⟨a, c, he, hr, _, f⟩ => ⟨a, c, by rw [he, hm2], hr, f⟩
  have HM1 : Hid (m1 = hs.length) := hm1
  have HM2 : Hid (m2 = of.length) := hm2
  clear hh1 HH2 r1 r2 h1 h2 hf1 hf2 hm1 hm2
  go_enter Tryz.func43, Tryz.ntmps43
  go_wp2_with fail
  refine hh1'.mono ?_
  rintro e w1 ⟨a3, c3, rfl, hr3, f1⟩
  have hh2 := HH2'.out w1 f1
  clear hh1' HH2'
  go_wp2_with fail
  refine hh2.mono ?_
  rintro e w2 ⟨a4, c4, rfl, hr4, f2⟩
  have hr3' := hr3.same f2
  have hc3 : m1 ≤ c3 := by have := hr3.le; have := HM1.out; omega
  have hc3m := hr3.max
  have hc4 : m2 ≤ c4 := by have := hr4.le; have := HM2.out; omega
  have hc4m := hr4.max
  have F2 := f1.seq' f2
  by_cases hle : m2 ≤ m1
  · have heq := eqf_any a3 a4 m2 c3 c4 hs of (by have := HM1.out; omega) HM2.out hc3m w2 hr3' hr4
    have hle' : decide ((m2 : Int) ≤ (m1 : Int)) = true := by simp; omega
    have hle2 : (m2 : Int) ≤ (c3 : Int) := by omega
    clear hh2 hr3 hr4 hr3' f1 f2
    go_wp2_with fail
    refine heq.mono ?_
    rintro e w5 ⟨rfl, f5⟩
    clear heq
    go_wp2
    go_ret
    exact ⟨ret_bool (by simp), F2.seq' f5⟩
  · have HNO : Hid (extB hs of = false) := extB_no (fun h => by have := h.1; have := HM1.out; have := HM2.out; omega)
    have hle' : decide ((m2 : Int) ≤ (m1 : Int)) = false := by simp; omega
    have hle'' : decide (m2 ≤ m1) = false := by simp; omega
    clear hh2 hr3 hr4 hr3' f1 f2 hle
    go_wp2
    go_ret
    exact ⟨ret_bool (by rw [HNO.out]), F2⟩
end Go.Proofs.YthdbkanbgfajbaaGreat

/- The rules of a step: 1. -/
namespace Go.Proofs.YthdbkanbgfajbaaGreat
open Go.RowKit

def r1B (W : Wt) (s : Sn) : Bool := eqLs s.H W.h || (oncB (hist s.H) && extB (hist s.H) (hist W.h))
section
variable {S : Nat → Prop} {b : Nat} {W : Wt} {K m1 m2 : Nat} {oa : Option Addr} {oc : Nat} {ha : Option Addr} {hc : Nat} {P : Int → Nat}
set_option maxRecDepth 100000 in
set_option maxHeartbeats 8000000 in
theorem r1_wi (s : Sn) (w : World) (hR : Recs w s.ha s.hc s.H) (hn : s.H.length ≤ 100000) (hn2 : W.h.length ≤ 100000) (h : Wi w S b W K m1 m2 oa oc ha hc P) : Calls Tryz.prog 34 #[.pointer (some ⟨b, 0, none⟩), snV s] w fun e w' => e = .returned (.bool (r1B W s)) ∧ Fr (fun _ => False) w w' := by
  have f0 := Fr.box w (.cells (snC s) 39)
  have HE : Hid (∀ V, Fr (fun _ => False) w V → Calls Tryz.prog 41 #[.slice s.ha s.H.length s.hc, .slice ha W.h.length hc] V fun e w' => e = .returned (.bool (eqLs s.H W.h)) ∧ Fr (fun _ => False) V w') := fun V f => (equalR_any _ _ _ _ _ _ s.H W.h rfl rfl V (hR.same f) (h.hist.same f)).mono fun e w' ⟨h1, k, h2⟩ => ⟨h1, by rw [h2]; exact Fr.drewN (Fr.refl _ _) k⟩
  have HEQ : Hid (∀ V, Fr (fun _ => False) w V → Calls Tryz.prog 41 #[.slice s.ha s.H.length s.hc, .slice ha W.h.length hc] V fun e w' => e = .returned (.bool (eqLs s.H W.h)) ∧ ∃ k, w' = V.drewN k) := fun V f => equalR_any _ _ _ _ _ _ s.H W.h rfl rfl V (hR.same f) (h.hist.same f)
  have HO : Hid (∀ V, Fr (fun _ => False) w V → Calls Tryz.prog 42 #[.slice s.ha s.H.length s.hc] V fun e w' => e = .returned (.bool (oncB (hist s.H))) ∧ Fr (fun _ => False) V w') := fun V f => once_any _ _ _ s.H rfl hn V (hR.same f)
  have HX : Hid (∀ V, Fr (fun _ => False) w V → Calls Tryz.prog 43 #[.slice s.ha s.H.length s.hc, .slice ha W.h.length hc] V fun e w' => e = .returned (.bool (extB (hist s.H) (hist W.h))) ∧ Fr (fun _ => False) V w') := fun V f => extends_any _ _ _ _ _ _ s.H W.h rfl rfl hn hn2 V (hR.same f) (h.hist.same f)
  have HC : Hid (∀ V, Fr (fun _ => False) (w.alloc (.cells (snC s) 39)) V → V.cell? ⟨w.heap.size, 11, none⟩ = some (.slice s.ha s.H.length s.hc) ∧ V.cell? ⟨b, 3, none⟩ = some (.slice ha W.h.length hc)) := fun V f => by
    have k3 := (f.block _ (blk_lt (heap_alloc_new w _)) (fun f => f)).trans (heap_alloc_new w (.cells (snC s) 39))
    obtain ⟨_, _, _, c3, _⟩ := four_cells (h.same (f0.seq' f)).blk
    exact ⟨(cell_blk k3 11).trans rfl, c3⟩
  have HF : Hid (Fr (fun _ => False) w (w.alloc (.cells (snC s) 39))) := f0
  have hb : b < w.heap.size := blk_lt h.blk
  unfold r1B
  generalize eqLs s.H W.h = B1 at *
  generalize oncB (hist s.H) = B2 at *
  generalize extB (hist s.H) (hist W.h) = B3 at *
  clear h f0 hR hn hn2
  generalize W.h.length = hl at *
  obtain ⟨kind, snode, n, m, creq, cnode, ⟨ok, okey, oval⟩, ba, bn, bc, ans, aa, ac, H, sha, shc⟩ := s
  unfold snV
  unfold snC at *
  dsimp only at *
  have HFD : Hid (Fr (fun _ => False) w (w.alloc (.cells #[.int .i64 kind, .int .i64 snode, .int .i64 n, .int .i64 m, .int .i64 creq, .int .i64 cnode, .int .i64 ok, .string okey, .string oval, .slice ba bn bc, .slice aa ans.length ac, .slice sha H.length shc] 39)).drew) := HF.out.drew
  obtain ⟨x1, x2⟩ := HC.out (w.alloc (.cells #[.int .i64 kind, .int .i64 snode, .int .i64 n, .int .i64 m, .int .i64 creq, .int .i64 cnode, .int .i64 ok, .string okey, .string oval, .slice ba bn bc, .slice aa ans.length ac, .slice sha H.length shc] 39)) (Fr.refl _ _)
  have he := HE.out _ HFD.out
  cases B1 with
  | true =>
    have heq : ∀ k, Calls Tryz.prog 41 #[.slice sha H.length shc, .slice ha hl hc] ((w.alloc (.cells #[.int .i64 kind, .int .i64 snode, .int .i64 n, .int .i64 m, .int .i64 creq, .int .i64 cnode, .int .i64 ok, .string okey, .string oval, .slice ba bn bc, .slice aa ans.length ac, .slice sha H.length shc] 39)).drewN k) fun e w' => e = .returned (.bool true) ∧ ∃ jj, w' = ((w.alloc (.cells #[.int .i64 kind, .int .i64 snode, .int .i64 n, .int .i64 m, .int .i64 creq, .int .i64 cnode, .int .i64 ok, .string okey, .string oval, .slice ba bn bc, .slice aa ans.length ac, .slice sha H.length shc] 39)).drewN k).drewN jj := fun k => HEQ.out _ (HF.out.drewN k)
    go_enter Tryz.func34, Tryz.ntmps34
    go_wp2
    go_quiet ((go_at_call 41; exact Calls.quiet_of (heq _)))
    go_wp2
    go_ret
    exact ⟨ret_bool (by simp), HF.out.drewN _⟩
  | false =>
    have g0 := (Fr.refl (fun _ => False) (w.alloc (.cells #[.int .i64 kind, .int .i64 snode, .int .i64 n, .int .i64 m, .int .i64 creq, .int .i64 cnode, .int .i64 ok, .string okey, .string oval, .slice ba bn bc, .slice aa ans.length ac, .slice sha H.length shc] 39))).drew
    clear x1 x2
    cases B2 with
    | false =>
      go_enter Tryz.func34, Tryz.ntmps34
      go_wp2_with fail
      refine wp_region_held_drew (S := fun W => W.cell? ⟨w.heap.size, 11, none⟩ = some (.slice sha H.length shc) ∧ W.cell? ⟨b, 3, none⟩ = some (.slice ha hl hc)) (by kernel_rfl) (HC.out _ g0) (fun hHeld => ?_)
      refine wpAnyH_take (i := 0) (oi := { dst := some 5, op := _, type := _, pos := _, after := _, guard := _ }) (v := ?va0) rfl (by kernel_rfl) (by kernel_rfl) (by kernel_rfl) (fun _ _ _ h => h) (Or.inl ⟨by rfl, ?hya0⟩) (by assumption) ?_
      case hya0 => (intro w hSw; (try dsimp only at hSw); first | (go_simp; done) | (go_simp; with_reducible rfl))
      simp only [Act.put, List.setIfInBounds_toArray, List.set_cons_zero, List.set_cons_succ]
      refine wpAnyH_take (i := 1) (oi := { dst := some 6, op := _, type := _, pos := _, after := _, guard := _ }) (v := ?va1) rfl (by kernel_rfl) (by kernel_rfl) (by kernel_rfl) (fun _ _ _ h => h) (Or.inl ⟨by rfl, ?hya1⟩) (by assumption) ?_
      case hya1 => (intro w hSw; (try dsimp only at hSw); first | (go_simp; done) | (go_simp; with_reducible rfl))
      simp only [Act.put, List.setIfInBounds_toArray, List.set_cons_zero, List.set_cons_succ]
      refine wpAnyH_take (i := 2) (oi := { dst := some 7, op := _, type := _, pos := _, after := _, guard := _ }) (v := ?va2) rfl (by kernel_rfl) (by kernel_rfl) (by kernel_rfl) (fun _ _ _ h => h) (Or.inl ⟨by rfl, ?hya2⟩) (by assumption) ?_
      case hya2 => (intro w hSw; (try dsimp only at hSw); first | (go_simp; done) | (go_simp; with_reducible rfl))
      simp only [Act.put, List.setIfInBounds_toArray, List.set_cons_zero, List.set_cons_succ]
      refine wpAnyH_take (i := 3) (oi := { dst := some 8, op := _, type := _, pos := _, after := _, guard := _ }) (v := ?va3) rfl (by kernel_rfl) (by kernel_rfl) (by kernel_rfl) (fun _ _ _ h => h) (Or.inl ⟨by rfl, ?hya3⟩) (by assumption) ?_
      case hya3 => (intro w hSw; (try dsimp only at hSw); first | (go_simp; done) | (go_simp; with_reducible rfl))
      simp only [Act.put, List.setIfInBounds_toArray, List.set_cons_zero, List.set_cons_succ]
      refine wpAnyH_take (i := 4) (oi := { dst := some 9, op := _, type := _, pos := _, after := _, guard := _ }) (v := ?va4) rfl (by kernel_rfl) (by kernel_rfl) (by kernel_rfl) (fun _ _ _ h => h) (Or.inl ⟨by rfl, ?hya4⟩) (by assumption) ?_
      case hya4 => (intro w hSw; (try dsimp only at hSw); first | (go_simp; done) | (go_simp; with_reducible rfl))
      simp only [Act.put, List.setIfInBounds_toArray, List.set_cons_zero, List.set_cons_succ]
      refine wpAnyH_take (i := 5) (oi := { dst := some 10, op := _, type := _, pos := _, after := _, guard := _ }) (v := ?va5) rfl (by kernel_rfl) (by kernel_rfl) (by kernel_rfl) (fun _ _ _ h => h) (Or.inl ⟨by rfl, ?hya5⟩) (by assumption) ?_
      case hya5 => (intro w hSw; (try dsimp only at hSw); first | (go_simp; done) | (go_simp; with_reducible rfl))
      simp only [Act.put, List.setIfInBounds_toArray, List.set_cons_zero, List.set_cons_succ]
      refine wpAnyH_ready (rs := [6]) (by kernel_rfl) (by simp) ?_
      refine AllReadyH.cons (o := { dst := some 11, op := _, type := _, pos := _, after := _, guard := _ }) rfl (fun K hK => ?_) AllReadyH.nil
      go_simp
      go_at_call 41
      refine he.mono ?_
      rintro e w3 ⟨rfl, f3⟩
      have g1 := g0.seq' f3
      have ho := HO.out w3 (HFD.out.seq' f3)
      go_wp2_with fail
      refine hK.out _ _ (HC.out _ g1) (fun hHeld2 => ?_)
      clear hK K hHeld
      refine wpAnyH_take (i := 7) (oi := { dst := some 12, op := _, type := _, pos := _, after := _, guard := _ }) (v := ?va7) rfl (by kernel_rfl) (by kernel_rfl) (by kernel_rfl) (fun _ _ _ h => h) (Or.inl ⟨by rfl, ?hya7⟩) (by assumption) ?_
      case hya7 => (intro w hSw; (try dsimp only at hSw); first | (go_simp; done) | (go_simp; with_reducible rfl))
      simp only [Act.put, List.setIfInBounds_toArray, List.set_cons_zero, List.set_cons_succ]
      refine wpAnyH_take (i := 8) (oi := { dst := some 13, op := _, type := _, pos := _, after := _, guard := _ }) (v := ?va8) rfl (by kernel_rfl) (by kernel_rfl) (by kernel_rfl) (fun _ _ _ h => h) (Or.inl ⟨by rfl, ?hya8⟩) (by assumption) ?_
      case hya8 => (intro w hSw; (try dsimp only at hSw); first | (go_simp; done) | (go_simp; with_reducible rfl))
      simp only [Act.put, List.setIfInBounds_toArray, List.set_cons_zero, List.set_cons_succ]
      refine wpAnyH_take (i := 9) (oi := { dst := some 14, op := _, type := _, pos := _, after := _, guard := _ }) (v := ?va9) rfl (by kernel_rfl) (by kernel_rfl) (by kernel_rfl) (fun _ _ _ h => h) (Or.inl ⟨by rfl, ?hya9⟩) (by assumption) ?_
      case hya9 => (intro w hSw; (try dsimp only at hSw); first | (go_simp; done) | (go_simp; with_reducible rfl))
      simp only [Act.put, List.setIfInBounds_toArray, List.set_cons_zero, List.set_cons_succ]
      refine wpAnyH_ready (rs := [10]) (by kernel_rfl) (by simp) ?_
      refine AllReadyH.cons (o := { dst := some 15, op := _, type := _, pos := _, after := _, guard := _ }) rfl (fun K hK => ?_) AllReadyH.nil
      go_simp
      go_at_call 42
      refine ho.mono ?_
      rintro e w4 ⟨rfl, f4⟩
      have g2 := g1.seq' f4
      have hx := HX.out w4 ((HFD.out.seq' f3).seq' f4)
      go_wp2_with fail
      refine hK.out _ _ (HC.out _ g2) (fun hHeld2 => ?_)
      clear hK K
      refine wpAnyH_take (i := 11) (oi := { dst := some 16, op := _, type := _, pos := _, after := _, guard := _ }) (v := ?va11) rfl (by kernel_rfl) (by kernel_rfl) (by kernel_rfl) (fun _ _ _ h => h) (Or.inl ⟨by rfl, ?hya11⟩) (by assumption) ?_
      case hya11 => (intro w hSw; (try dsimp only at hSw); first | (go_simp; done) | (go_simp; with_reducible rfl))
      simp only [Act.put, List.setIfInBounds_toArray, List.set_cons_zero, List.set_cons_succ]
      refine wpAnyH_take (i := 12) (oi := { dst := some 17, op := _, type := _, pos := _, after := _, guard := _ }) (v := undef) rfl (by kernel_rfl) (by kernel_rfl) (by kernel_rfl) (fun _ _ _ h => h) (Or.inr ⟨by rfl, rfl⟩) (by assumption) ?_
      simp only [Act.put, List.setIfInBounds_toArray, List.set_cons_zero, List.set_cons_succ]
      refine wpAnyH_take (i := 13) (oi := { dst := some 18, op := _, type := _, pos := _, after := _, guard := _ }) (v := undef) rfl (by kernel_rfl) (by kernel_rfl) (by kernel_rfl) (fun _ _ _ h => h) (Or.inr ⟨by rfl, rfl⟩) (by assumption) ?_
      simp only [Act.put, List.setIfInBounds_toArray, List.set_cons_zero, List.set_cons_succ]
      refine wpAnyH_take (i := 14) (oi := { dst := some 19, op := _, type := _, pos := _, after := _, guard := _ }) (v := undef) rfl (by kernel_rfl) (by kernel_rfl) (by kernel_rfl) (fun _ _ _ h => h) (Or.inr ⟨by rfl, rfl⟩) (by assumption) ?_
      simp only [Act.put, List.setIfInBounds_toArray, List.set_cons_zero, List.set_cons_succ]
      refine wpAnyH_take (i := 15) (oi := { dst := some 20, op := _, type := _, pos := _, after := _, guard := _ }) (v := undef) rfl (by kernel_rfl) (by kernel_rfl) (by kernel_rfl) (fun _ _ _ h => h) (Or.inr ⟨by rfl, rfl⟩) (by assumption) ?_
      simp only [Act.put, List.setIfInBounds_toArray, List.set_cons_zero, List.set_cons_succ]
      refine wpAnyH_take (i := 16) (oi := { dst := some 21, op := _, type := _, pos := _, after := _, guard := _ }) (v := undef) rfl (by kernel_rfl) (by kernel_rfl) (by kernel_rfl) (fun _ _ _ h => h) (Or.inr ⟨by rfl, rfl⟩) (by assumption) ?_
      simp only [Act.put, List.setIfInBounds_toArray, List.set_cons_zero, List.set_cons_succ]
      refine wpAnyH_take (i := 17) (oi := { dst := some 22, op := _, type := _, pos := _, after := _, guard := _ }) (v := undef) rfl (by kernel_rfl) (by kernel_rfl) (by kernel_rfl) (fun _ _ _ h => h) (Or.inr ⟨by rfl, rfl⟩) (by assumption) ?_
      simp only [Act.put, List.setIfInBounds_toArray, List.set_cons_zero, List.set_cons_succ]
      refine wpAnyH_take (i := 18) (oi := { dst := some 23, op := _, type := _, pos := _, after := _, guard := _ }) (v := undef) rfl (by kernel_rfl) (by kernel_rfl) (by kernel_rfl) (fun _ _ _ h => h) (Or.inr ⟨by rfl, rfl⟩) (by assumption) ?_
      simp only [Act.put, List.setIfInBounds_toArray, List.set_cons_zero, List.set_cons_succ]
      refine wpAnyH_take (i := 19) (oi := { dst := some 24, op := _, type := _, pos := _, after := _, guard := _ }) (v := ?va19) rfl (by kernel_rfl) (by kernel_rfl) (by kernel_rfl) (fun _ _ _ h => h) (Or.inl ⟨by rfl, ?hya19⟩) (by assumption) ?_
      case hya19 => (intro w hSw; (try dsimp only at hSw); first | (go_simp; done) | (go_simp; with_reducible rfl))
      simp only [Act.put, List.setIfInBounds_toArray, List.set_cons_zero, List.set_cons_succ]
      refine wpAnyH_take (i := 20) (oi := { dst := some 25, op := _, type := _, pos := _, after := _, guard := _ }) (v := ?va20) rfl (by kernel_rfl) (by kernel_rfl) (by kernel_rfl) (fun _ _ _ h => h) (Or.inl ⟨by rfl, ?hya20⟩) (by assumption) ?_
      case hya20 => (intro w hSw; (try dsimp only at hSw); first | (go_simp; done) | (go_simp; with_reducible rfl))
      simp only [Act.put, List.setIfInBounds_toArray, List.set_cons_zero, List.set_cons_succ]
      refine wpAnyH_take (i := 21) (oi := { dst := some 4, op := _, type := _, pos := _, after := _, guard := _ }) (v := ?va21) rfl (by kernel_rfl) (by kernel_rfl) (by kernel_rfl) (fun _ _ _ h => h) (Or.inl ⟨by rfl, ?hya21⟩) (by assumption) ?_
      case hya21 => (intro w hSw; (try dsimp only at hSw); first | (go_simp; done) | (go_simp; with_reducible rfl))
      simp only [Act.put, List.setIfInBounds_toArray, List.set_cons_zero, List.set_cons_succ]
      refine wpAnyH_done (by kernel_rfl) ?_ _
      go_wp2
      go_ret
      exact ⟨ret_bool (by first | rfl | (simp_all; done)), HF.out.seq' g2⟩
    | true =>
      go_enter Tryz.func34, Tryz.ntmps34
      go_wp2_with fail
      refine wp_region_held_drew (S := fun W => W.cell? ⟨w.heap.size, 11, none⟩ = some (.slice sha H.length shc) ∧ W.cell? ⟨b, 3, none⟩ = some (.slice ha hl hc)) (by kernel_rfl) (HC.out _ g0) (fun hHeld => ?_)
      refine wpAnyH_take (i := 0) (oi := { dst := some 5, op := _, type := _, pos := _, after := _, guard := _ }) (v := ?vb0) rfl (by kernel_rfl) (by kernel_rfl) (by kernel_rfl) (fun _ _ _ h => h) (Or.inl ⟨by rfl, ?hyb0⟩) (by assumption) ?_
      case hyb0 => (intro w hSw; (try dsimp only at hSw); first | (go_simp; done) | (go_simp; with_reducible rfl))
      simp only [Act.put, List.setIfInBounds_toArray, List.set_cons_zero, List.set_cons_succ]
      refine wpAnyH_take (i := 1) (oi := { dst := some 6, op := _, type := _, pos := _, after := _, guard := _ }) (v := ?vb1) rfl (by kernel_rfl) (by kernel_rfl) (by kernel_rfl) (fun _ _ _ h => h) (Or.inl ⟨by rfl, ?hyb1⟩) (by assumption) ?_
      case hyb1 => (intro w hSw; (try dsimp only at hSw); first | (go_simp; done) | (go_simp; with_reducible rfl))
      simp only [Act.put, List.setIfInBounds_toArray, List.set_cons_zero, List.set_cons_succ]
      refine wpAnyH_take (i := 2) (oi := { dst := some 7, op := _, type := _, pos := _, after := _, guard := _ }) (v := ?vb2) rfl (by kernel_rfl) (by kernel_rfl) (by kernel_rfl) (fun _ _ _ h => h) (Or.inl ⟨by rfl, ?hyb2⟩) (by assumption) ?_
      case hyb2 => (intro w hSw; (try dsimp only at hSw); first | (go_simp; done) | (go_simp; with_reducible rfl))
      simp only [Act.put, List.setIfInBounds_toArray, List.set_cons_zero, List.set_cons_succ]
      refine wpAnyH_take (i := 3) (oi := { dst := some 8, op := _, type := _, pos := _, after := _, guard := _ }) (v := ?vb3) rfl (by kernel_rfl) (by kernel_rfl) (by kernel_rfl) (fun _ _ _ h => h) (Or.inl ⟨by rfl, ?hyb3⟩) (by assumption) ?_
      case hyb3 => (intro w hSw; (try dsimp only at hSw); first | (go_simp; done) | (go_simp; with_reducible rfl))
      simp only [Act.put, List.setIfInBounds_toArray, List.set_cons_zero, List.set_cons_succ]
      refine wpAnyH_take (i := 4) (oi := { dst := some 9, op := _, type := _, pos := _, after := _, guard := _ }) (v := ?vb4) rfl (by kernel_rfl) (by kernel_rfl) (by kernel_rfl) (fun _ _ _ h => h) (Or.inl ⟨by rfl, ?hyb4⟩) (by assumption) ?_
      case hyb4 => (intro w hSw; (try dsimp only at hSw); first | (go_simp; done) | (go_simp; with_reducible rfl))
      simp only [Act.put, List.setIfInBounds_toArray, List.set_cons_zero, List.set_cons_succ]
      refine wpAnyH_take (i := 5) (oi := { dst := some 10, op := _, type := _, pos := _, after := _, guard := _ }) (v := ?vb5) rfl (by kernel_rfl) (by kernel_rfl) (by kernel_rfl) (fun _ _ _ h => h) (Or.inl ⟨by rfl, ?hyb5⟩) (by assumption) ?_
      case hyb5 => (intro w hSw; (try dsimp only at hSw); first | (go_simp; done) | (go_simp; with_reducible rfl))
      simp only [Act.put, List.setIfInBounds_toArray, List.set_cons_zero, List.set_cons_succ]
      refine wpAnyH_ready (rs := [6]) (by kernel_rfl) (by simp) ?_
      refine AllReadyH.cons (o := { dst := some 11, op := _, type := _, pos := _, after := _, guard := _ }) rfl (fun K hK => ?_) AllReadyH.nil
      go_simp
      go_at_call 41
      refine he.mono ?_
      rintro e w3 ⟨rfl, f3⟩
      have g1 := g0.seq' f3
      have ho := HO.out w3 (HFD.out.seq' f3)
      go_wp2_with fail
      refine hK.out _ _ (HC.out _ g1) (fun hHeld2 => ?_)
      clear hK K hHeld
      refine wpAnyH_take (i := 7) (oi := { dst := some 12, op := _, type := _, pos := _, after := _, guard := _ }) (v := ?vb7) rfl (by kernel_rfl) (by kernel_rfl) (by kernel_rfl) (fun _ _ _ h => h) (Or.inl ⟨by rfl, ?hyb7⟩) (by assumption) ?_
      case hyb7 => (intro w hSw; (try dsimp only at hSw); first | (go_simp; done) | (go_simp; with_reducible rfl))
      simp only [Act.put, List.setIfInBounds_toArray, List.set_cons_zero, List.set_cons_succ]
      refine wpAnyH_take (i := 8) (oi := { dst := some 13, op := _, type := _, pos := _, after := _, guard := _ }) (v := ?vb8) rfl (by kernel_rfl) (by kernel_rfl) (by kernel_rfl) (fun _ _ _ h => h) (Or.inl ⟨by rfl, ?hyb8⟩) (by assumption) ?_
      case hyb8 => (intro w hSw; (try dsimp only at hSw); first | (go_simp; done) | (go_simp; with_reducible rfl))
      simp only [Act.put, List.setIfInBounds_toArray, List.set_cons_zero, List.set_cons_succ]
      refine wpAnyH_take (i := 9) (oi := { dst := some 14, op := _, type := _, pos := _, after := _, guard := _ }) (v := ?vb9) rfl (by kernel_rfl) (by kernel_rfl) (by kernel_rfl) (fun _ _ _ h => h) (Or.inl ⟨by rfl, ?hyb9⟩) (by assumption) ?_
      case hyb9 => (intro w hSw; (try dsimp only at hSw); first | (go_simp; done) | (go_simp; with_reducible rfl))
      simp only [Act.put, List.setIfInBounds_toArray, List.set_cons_zero, List.set_cons_succ]
      refine wpAnyH_ready (rs := [10]) (by kernel_rfl) (by simp) ?_
      refine AllReadyH.cons (o := { dst := some 15, op := _, type := _, pos := _, after := _, guard := _ }) rfl (fun K hK => ?_) AllReadyH.nil
      go_simp
      go_at_call 42
      refine ho.mono ?_
      rintro e w4 ⟨rfl, f4⟩
      have g2 := g1.seq' f4
      have hx := HX.out w4 ((HFD.out.seq' f3).seq' f4)
      go_wp2_with fail
      refine hK.out _ _ (HC.out _ g2) (fun hHeld2 => ?_)
      clear hK K
      refine wpAnyH_take (i := 11) (oi := { dst := some 16, op := _, type := _, pos := _, after := _, guard := _ }) (v := ?vb11) rfl (by kernel_rfl) (by kernel_rfl) (by kernel_rfl) (fun _ _ _ h => h) (Or.inl ⟨by rfl, ?hyb11⟩) (by assumption) ?_
      case hyb11 => (intro w hSw; (try dsimp only at hSw); first | (go_simp; done) | (go_simp; with_reducible rfl))
      simp only [Act.put, List.setIfInBounds_toArray, List.set_cons_zero, List.set_cons_succ]
      refine wpAnyH_take (i := 12) (oi := { dst := some 17, op := _, type := _, pos := _, after := _, guard := _ }) (v := ?vb12) rfl (by kernel_rfl) (by kernel_rfl) (by kernel_rfl) (fun _ _ _ h => h) (Or.inl ⟨by rfl, ?hyb12⟩) (by assumption) ?_
      case hyb12 => (intro w hSw; (try dsimp only at hSw); first | (go_simp; done) | (go_simp; with_reducible rfl))
      simp only [Act.put, List.setIfInBounds_toArray, List.set_cons_zero, List.set_cons_succ]
      refine wpAnyH_take (i := 13) (oi := { dst := some 18, op := _, type := _, pos := _, after := _, guard := _ }) (v := ?vb13) rfl (by kernel_rfl) (by kernel_rfl) (by kernel_rfl) (fun _ _ _ h => h) (Or.inl ⟨by rfl, ?hyb13⟩) (by assumption) ?_
      case hyb13 => (intro w hSw; (try dsimp only at hSw); first | (go_simp; done) | (go_simp; with_reducible rfl))
      simp only [Act.put, List.setIfInBounds_toArray, List.set_cons_zero, List.set_cons_succ]
      refine wpAnyH_take (i := 14) (oi := { dst := some 19, op := _, type := _, pos := _, after := _, guard := _ }) (v := ?vb14) rfl (by kernel_rfl) (by kernel_rfl) (by kernel_rfl) (fun _ _ _ h => h) (Or.inl ⟨by rfl, ?hyb14⟩) (by assumption) ?_
      case hyb14 => (intro w hSw; (try dsimp only at hSw); first | (go_simp; done) | (go_simp; with_reducible rfl))
      simp only [Act.put, List.setIfInBounds_toArray, List.set_cons_zero, List.set_cons_succ]
      refine wpAnyH_take (i := 15) (oi := { dst := some 20, op := _, type := _, pos := _, after := _, guard := _ }) (v := ?vb15) rfl (by kernel_rfl) (by kernel_rfl) (by kernel_rfl) (fun _ _ _ h => h) (Or.inl ⟨by rfl, ?hyb15⟩) (by assumption) ?_
      case hyb15 => (intro w hSw; (try dsimp only at hSw); first | (go_simp; done) | (go_simp; with_reducible rfl))
      simp only [Act.put, List.setIfInBounds_toArray, List.set_cons_zero, List.set_cons_succ]
      refine wpAnyH_take (i := 16) (oi := { dst := some 21, op := _, type := _, pos := _, after := _, guard := _ }) (v := ?vb16) rfl (by kernel_rfl) (by kernel_rfl) (by kernel_rfl) (fun _ _ _ h => h) (Or.inl ⟨by rfl, ?hyb16⟩) (by assumption) ?_
      case hyb16 => (intro w hSw; (try dsimp only at hSw); first | (go_simp; done) | (go_simp; with_reducible rfl))
      simp only [Act.put, List.setIfInBounds_toArray, List.set_cons_zero, List.set_cons_succ]
      refine wpAnyH_take (i := 17) (oi := { dst := some 22, op := _, type := _, pos := _, after := _, guard := _ }) (v := ?vb17) rfl (by kernel_rfl) (by kernel_rfl) (by kernel_rfl) (fun _ _ _ h => h) (Or.inl ⟨by rfl, ?hyb17⟩) (by assumption) ?_
      case hyb17 => (intro w hSw; (try dsimp only at hSw); first | (go_simp; done) | (go_simp; with_reducible rfl))
      simp only [Act.put, List.setIfInBounds_toArray, List.set_cons_zero, List.set_cons_succ]
      refine wpAnyH_ready (rs := [18]) (by kernel_rfl) (by simp) ?_
      refine AllReadyH.cons (o := { dst := some 23, op := _, type := _, pos := _, after := _, guard := _ }) rfl (fun K hK => ?_) AllReadyH.nil
      go_simp
      go_at_call 43
      refine hx.mono ?_
      rintro e w5 ⟨rfl, f5⟩
      have g3 := g2.seq' f5
      go_wp2_with fail
      refine hK.out _ _ (HC.out _ g3) (fun hHeld2 => ?_)
      clear hK K
      refine wpAnyH_take (i := 19) (oi := { dst := some 24, op := _, type := _, pos := _, after := _, guard := _ }) (v := ?vb19) rfl (by kernel_rfl) (by kernel_rfl) (by kernel_rfl) (fun _ _ _ h => h) (Or.inl ⟨by rfl, ?hyb19⟩) (by assumption) ?_
      case hyb19 => (intro w hSw; (try dsimp only at hSw); first | (go_simp; done) | (go_simp; with_reducible rfl))
      simp only [Act.put, List.setIfInBounds_toArray, List.set_cons_zero, List.set_cons_succ]
      refine wpAnyH_take (i := 20) (oi := { dst := some 25, op := _, type := _, pos := _, after := _, guard := _ }) (v := ?vb20) rfl (by kernel_rfl) (by kernel_rfl) (by kernel_rfl) (fun _ _ _ h => h) (Or.inl ⟨by rfl, ?hyb20⟩) (by assumption) ?_
      case hyb20 => (intro w hSw; (try dsimp only at hSw); first | (go_simp; done) | (go_simp; with_reducible rfl))
      simp only [Act.put, List.setIfInBounds_toArray, List.set_cons_zero, List.set_cons_succ]
      refine wpAnyH_take (i := 21) (oi := { dst := some 4, op := _, type := _, pos := _, after := _, guard := _ }) (v := ?vb21) rfl (by kernel_rfl) (by kernel_rfl) (by kernel_rfl) (fun _ _ _ h => h) (Or.inl ⟨by rfl, ?hyb21⟩) (by assumption) ?_
      case hyb21 => (intro w hSw; (try dsimp only at hSw); first | (go_simp; done) | (go_simp; with_reducible rfl))
      simp only [Act.put, List.setIfInBounds_toArray, List.set_cons_zero, List.set_cons_succ]
      refine wpAnyH_done (by kernel_rfl) ?_ _
      go_wp2
      go_ret
      exact ⟨ret_bool (by first | rfl | (simp_all; done)), HF.out.seq' g3⟩
end
end Go.Proofs.YthdbkanbgfajbaaGreat
