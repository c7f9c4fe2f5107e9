
/- What an election keeps: whom each voter has voted for in each epoch, and what tallies have of it. -/
import Derived.Test.YtbfkacahaocpfaaVgBase
namespace Go.Proofs.Ytbfkacahaocpfaa
open Go.RowKit
open Go.Proofs.Ytbfkacahaocpfaa.Qu

theorem vmems_cnt (a : Int) (k : Nat) : (mems a k).length = (List.range k).countP (inB a) := by
  unfold mems
  rw [List.length_map, List.countP_eq_length_filter]
theorem vapart (a b : Int) : ∀ k : Nat, (∀ i, i < k → ¬ (inB a i = true ∧ inB b i = true)) → (List.range k).countP (inB a) + (List.range k).countP (inB b) ≤ k
  | 0, _ => by simp
  | k + 1, h => by
    have ih := vapart a b k (fun i hi => h i (by omega))
    have hk := h k (by omega)
    rw [List.range_succ, List.countP_append, List.countP_append]
    simp only [List.countP_cons, List.countP_nil]
    by_cases ha : inB a k = true
    · have hb : ¬ inB b k = true := fun e => hk ⟨ha, e⟩
      rw [if_pos ha, if_neg hb]; omega
    · rw [if_neg ha]
      split <;> omega
theorem maj_both {n a b : Int} (ha : hasM n a = true) (hb : hasM n b = true) : ∃ i : Nat, (i : Int) < n ∧ inB a i = true ∧ inB b i = true := by
  simp only [hasM, Bool.and_eq_true, decide_eq_true_eq] at ha hb
  obtain ⟨k1, k2, _⟩ := look_ok ha.1
  have hm : majN n = n / 2 + 1 := by simp [majN, nOk_yes k1 k2]
  by_cases h : ∃ i : Nat, (i : Int) < n ∧ inB a i = true ∧ inB b i = true
  · exact h
  · exfalso
    have := vapart a b n.toNat (fun i hi hh => h ⟨i, by omega, hh⟩)
    rw [vmems_cnt, hm] at ha hb
    omega
theorem in_with : ∀ (s : Fin 128) (i j : Fin 7), inB (withN ((s.1 : Nat) : Int) i.1) j.1 = (inB ((s.1 : Nat) : Int) j.1 || decide (j.1 = i.1)) := by decide +kernel
theorem in_with' {s : Int} {i j : Nat} (h0 : 0 ≤ s) (h1 : s < 128) (hi : i < 7) (hj : j < 7) : inB (withN s i) j = (inB s j || decide (j = i)) := by
  have := in_with ⟨s.toNat, by omega⟩ ⟨i, hi⟩ ⟨j, hj⟩
  rwa [show (((⟨s.toNat, by omega⟩ : Fin 128).1 : Nat) : Int) = s by simp; omega] at this
theorem lt_with : ∀ (n : Fin 8) (s : Fin 128) (i : Fin 7), ((s.1 : Nat) : Int) < 2 ^ n.1 → i.1 < n.1 → 0 ≤ withN ((s.1 : Nat) : Int) i.1 ∧ withN ((s.1 : Nat) : Int) i.1 < 2 ^ n.1 := by decide +kernel
theorem sB_with {n : Nat} {s : Int} {i : Nat} (hn : n ≤ 7) (h : sB n s = true) (hi : i < n) : sB n (withN s i) = true := by
  obtain ⟨h0, h1⟩ := sB_iff.1 h
  obtain ⟨h2, h3⟩ := sB_lt (n := n) (by omega) h
  rw [Int.toNat_natCast] at h1
  have := lt_with ⟨n, by omega⟩ ⟨s.toNat, by omega⟩ ⟨i, by omega⟩ (by simp only; rw [show ((s.toNat : Nat) : Int) = s by omega]; exact h1) hi
  simp only at this
  rw [show ((s.toNat : Nat) : Int) = s by omega] at this
  exact sB_iff.2 ⟨this.1, by rw [Int.toNat_natCast]; exact this.2⟩
theorem sB_zero (n : Int) : sB n 0 = true := sB_iff.2 ⟨by omega, Int.pow_pos (by decide)⟩
theorem inB_zero (j : Nat) : inB 0 j = false := by simp [inB]
theorem look_set {n : Nat} {s : Int} (h1 : 1 ≤ n) (hn : n ≤ 7) (h : sB n s = true) : lookE n [s] = 0 := by
  simp [lookE, nOk_yes (n := (n : Int)) (by omega) (by omega), h]
theorem withE_ok {n : Nat} {s : Int} {i : Nat} (h1 : 1 ≤ n) (hn : n ≤ 7) (h : sB n s = true) (hi : i < n) : withE n s i = 0 ∧ withR n s i = withN s i := by
  have hE : withE n s i = 0 := by unfold withE; rw [if_pos (look_set h1 hn h), if_pos ⟨by omega, by omega⟩]
  refine ⟨hE, ?_⟩
  unfold withR
  rw [if_pos hE, Int.toNat_natCast]

def upd {α : Type} (g : Nat → α) (i : Nat) (v : α) : Nat → α := fun j => if j = i then v else g j
theorem upd_at {α : Type} (g : Nat → α) (i : Nat) (v : α) : upd g i v i = v := if_pos rfl
theorem upd_ne {α : Type} (g : Nat → α) {i j : Nat} (v : α) (h : j ≠ i) : upd g i v j = g j := if_neg h
/-- Voters and tallies: where they lie, and what they have. -/
structure Sx where
  vb : Nat → Nat
  e : Nat → Int
  f : Nat → Int
  tp : Nat → Option Nat
  te : Nat → Int
  ts : Nat → Int
/-- Whom each voter has voted for in each epoch. -/
abbrev Vf := Nat → Int → Option Int
structure Inv (n : Nat) (S : Sx) (V : Vf) (k : Int) (won : List (Int × Int)) : Prop where
  rg : ∀ i, i < n → rgtB (S.e i) (S.f i) = true ∧ S.e i ≤ k
  v0 : ∀ i, i < n → S.f i = -1 → V i (S.e i) = none
  v1 : ∀ i, i < n → S.f i ≠ -1 → V i (S.e i) = some (S.f i)
  v2 : ∀ i, i < n → ∀ ep, S.e i < ep → V i ep = none
  t : ∀ i, i < n → S.tp i ≠ none → 0 ≤ S.te i ∧ S.te i ≤ k ∧ sB n (S.ts i) = true ∧ ∀ j : Nat, j < n → inB (S.ts i) j = true → V j (S.te i) = some (i : Int)
  w : ∀ g ∈ won, ∃ s, hasM n s = true ∧ ∀ j : Nat, j < n → inB s j = true → V j g.1 = some g.2
theorem Inv.start (n : Nat) (vb : Nat → Nat) : Inv n ⟨vb, fun _ => 0, fun _ => -1, fun _ => none, fun _ => 0, fun _ => 0⟩ (fun _ _ => none) 0 [] :=
  ⟨fun i _ => ⟨by show rgtB 0 (-1) = true; decide, by show (0 : Int) ≤ 0; omega⟩, fun _ _ _ => rfl, fun i _ h => absurd rfl h, fun _ _ _ _ => rfl, fun _ _ h => absurd rfl h, fun g hg => by cases hg⟩
theorem Inv.next {n : Nat} {S : Sx} {V : Vf} {k k' : Int} {won : List (Int × Int)} (h : Inv n S V k won) (hk : k ≤ k') : Inv n S V k' won :=
  ⟨fun i hi => ⟨(h.rg i hi).1, by have := (h.rg i hi).2; omega⟩, h.v0, h.v1, h.v2, fun i hi ht => by obtain ⟨a, b, c⟩ := h.t i hi ht; exact ⟨a, by omega, c⟩, h.w⟩
/-- A vote more. -/
def vot (V : Vf) (i : Nat) (ep c : Int) : Vf := fun j x => if j = i ∧ x = ep then some c else V j x
theorem vot_at (V : Vf) (i : Nat) (ep c : Int) : vot V i ep c i ep = some c := if_pos ⟨rfl, rfl⟩
theorem vot_ne (V : Vf) {i j : Nat} {ep x : Int} (c : Int) (h : j ≠ i ∨ x ≠ ep) : vot V i ep c j x = V j x := if_neg (fun e => by rcases h with h | h; exact h e.1; exact h e.2)
theorem vot_keeps {V : Vf} {i : Nat} {ep c : Int} (hV : V i ep = none ∨ V i ep = some c) {j : Nat} {x d : Int} (h : V j x = some d) : vot V i ep c j x = some d := by
  by_cases he : j = i ∧ x = ep
  · obtain ⟨rfl, rfl⟩ := he
    rw [vot_at]
    rcases hV with hV | hV
    · rw [hV] at h; cases h
    · rw [hV] at h; exact h
  · unfold vot
    rw [if_neg he]; exact h
def standS (S : Sx) (who b : Nat) : Sx := ⟨S.vb, upd S.e who (S.e who + 1), upd S.f who (who : Int), upd S.tp who (some b), upd S.te who (S.e who + 1), upd S.ts who (withN 0 who)⟩
theorem Inv.stand {n : Nat} {S : Sx} {V : Vf} {k : Int} {won : List (Int × Int)} (h : Inv n S V k won) (hn : n ≤ 7) (hk : k < 1099511627776) {who : Nat} (hw : who < n) (b : Nat) :
    Inv n (standS S who b) (vot V who (S.e who + 1) who) (k + 1) won := by
  have hV : V who (S.e who + 1) = none ∨ V who (S.e who + 1) = some (who : Int) := .inl (h.v2 who hw _ (by omega))
  obtain ⟨hr, he⟩ := h.rg who hw
  obtain ⟨r0, r1, _, _⟩ := rgt_iff hr
  refine ⟨fun i hi => ?_, fun i hi hf => ?_, fun i hi hf => ?_, fun i hi ep hep => ?_, fun i hi ht => ?_, fun g hg => ?_⟩
  · by_cases hiw : i = who
    · subst hiw
      show rgtB (upd S.e i _ i) (upd S.f i _ i) = true ∧ upd S.e i _ i ≤ _
      rw [upd_at, upd_at]
      refine ⟨?_, by omega⟩
      simp [rgtB, epB, nodB]; omega
    · show rgtB (upd S.e who _ i) (upd S.f who _ i) = true ∧ upd S.e who _ i ≤ _
      rw [upd_ne _ _ hiw, upd_ne _ _ hiw]
      have := h.rg i hi
      exact ⟨this.1, by omega⟩
  · by_cases hiw : i = who
    · subst hiw
      exfalso
      have hf' : upd S.f i (i : Int) i = -1 := hf
      rw [upd_at] at hf'
      omega
    · have hf' : upd S.f who (who : Int) i = -1 := hf
      show vot V who _ _ i (upd S.e who _ i) = none
      rw [upd_ne _ _ hiw] at hf' ⊢
      rw [vot_ne _ _ (.inl hiw)]
      exact h.v0 i hi hf'
  · by_cases hiw : i = who
    · subst hiw
      show vot V i _ _ i (upd S.e i _ i) = some (upd S.f i _ i)
      rw [upd_at, upd_at, vot_at]
    · have hf' : upd S.f who (who : Int) i ≠ -1 := hf
      show vot V who _ _ i (upd S.e who _ i) = some (upd S.f who _ i)
      rw [upd_ne _ _ hiw] at hf'
      rw [upd_ne _ _ hiw, upd_ne _ _ hiw, vot_ne _ _ (.inl hiw)]
      exact h.v1 i hi hf'
  · have hep' : upd S.e who (S.e who + 1) i < ep := hep
    by_cases hiw : i = who
    · subst hiw
      rw [upd_at] at hep'
      rw [vot_ne _ _ (.inr (by omega))]
      exact h.v2 i hi ep (by omega)
    · rw [upd_ne _ _ hiw] at hep'
      rw [vot_ne _ _ (.inl hiw)]
      exact h.v2 i hi ep hep'
  · have ht' : upd S.tp who (some b) i ≠ none := ht
    show 0 ≤ upd S.te who _ i ∧ upd S.te who _ i ≤ _ ∧ sB n (upd S.ts who _ i) = true ∧ ∀ j : Nat, j < n → inB (upd S.ts who _ i) j = true → vot V who _ _ j (upd S.te who _ i) = some (i : Int)
    by_cases hiw : i = who
    · subst hiw
      rw [upd_at, upd_at]
      refine ⟨by omega, by omega, sB_with hn (sB_zero n) hi, fun j hj hb => ?_⟩
      rw [in_with' (by omega) (by omega) (by omega) (by omega), inB_zero] at hb
      obtain rfl : j = i := by simpa using hb
      rw [vot_at]
    · rw [upd_ne _ _ hiw] at ht'
      rw [upd_ne _ _ hiw, upd_ne _ _ hiw]
      obtain ⟨a, b', c, d⟩ := h.t i hi ht'
      exact ⟨a, by omega, c, fun j hj hb => vot_keeps hV (d j hj hb)⟩
  · obtain ⟨s, h1, h2⟩ := h.w g hg
    exact ⟨s, h1, fun j hj hb => vot_keeps hV (h2 j hj hb)⟩
/-- A voter that was asked, and did not vote. -/
def askS (S : Sx) (whom : Nat) (e f : Int) : Sx := ⟨S.vb, upd S.e whom e, upd S.f whom f, S.tp, S.te, S.ts⟩
def addS (S : Sx) (who : Nat) (s : Int) : Sx := ⟨S.vb, S.e, S.f, S.tp, S.te, upd S.ts who s⟩
theorem Inv.askNo {n : Nat} {S : Sx} {V : Vf} {k : Int} {won : List (Int × Int)} (h : Inv n S V k won) (hn : n ≤ 7) {who whom : Nat} (hw : who < n) (hm : whom < n) {ep : Int} (hep : ep ≤ k) {a b : Int × Int} (hb : askB (S.e whom) (S.f whom) who ep a b = false) :
    Inv n (askS S whom (askE (S.e whom) who ep) (askF (S.e whom) (S.f whom) who ep a b)) V k won := by
  have hnod : nodB (who : Int) = true := by simp [nodB]; omega
  obtain ⟨hr, he⟩ := h.rg whom hm
  have hE : askE (S.e whom) who ep = e1 (S.e whom) ep := by simp [askE, hnod]
  have hF : askF (S.e whom) (S.f whom) who ep a b = f1 (S.e whom) (S.f whom) ep := by unfold askF; rw [if_pos hnod, if_neg (by rw [hb]; simp)]
  have hrr := ask_right (frm := who) (ep := ep) (a := a) (b := b) hr
  have key : (askE (S.e whom) who ep = S.e whom ∧ askF (S.e whom) (S.f whom) who ep a b = S.f whom) ∨ (S.e whom < ep ∧ askE (S.e whom) who ep = ep ∧ askF (S.e whom) (S.f whom) who ep a b = -1) := by
    rw [hE, hF]
    cases hs : seeB (S.e whom) ep with
    | true =>
      have hs' : S.e whom < ep ∧ ep ≤ 1099511627776 := by simp [seeB] at hs; exact hs
      exact .inr ⟨hs'.1, by simp [e1, hs], by simp [f1, hs]⟩
    | false => exact .inl ⟨by simp [e1, hs], by simp [f1, hs]⟩
  generalize askE (S.e whom) who ep = e' at *
  generalize askF (S.e whom) (S.f whom) who ep a b = f' at *
  refine ⟨fun i hi => ?_, fun i hi hf => ?_, fun i hi hf => ?_, fun i hi ep' hep' => ?_, h.t, h.w⟩
  · show rgtB (upd S.e whom e' i) (upd S.f whom f' i) = true ∧ upd S.e whom e' i ≤ k
    by_cases hiw : i = whom
    · subst hiw
      rw [upd_at, upd_at]
      exact ⟨hrr, by rcases key with ⟨q, _⟩ | ⟨_, q, _⟩ <;> omega⟩
    · rw [upd_ne _ _ hiw, upd_ne _ _ hiw]; exact h.rg i hi
  · have hf' : upd S.f whom f' i = -1 := hf
    show V i (upd S.e whom e' i) = none
    by_cases hiw : i = whom
    · subst hiw
      rw [upd_at] at hf' ⊢
      rcases key with ⟨q1, q2⟩ | ⟨q0, q1, _⟩
      · rw [q1]; exact h.v0 i hi (by omega)
      · rw [q1]; exact h.v2 i hi ep q0
    · rw [upd_ne _ _ hiw] at hf' ⊢; exact h.v0 i hi hf'
  · have hf' : upd S.f whom f' i ≠ -1 := hf
    show V i (upd S.e whom e' i) = some (upd S.f whom f' i)
    by_cases hiw : i = whom
    · subst hiw
      rw [upd_at] at hf'
      rw [upd_at, upd_at]
      rcases key with ⟨q1, q2⟩ | ⟨_, _, q2⟩
      · rw [q1, q2]; exact h.v1 i hi (by omega)
      · omega
    · rw [upd_ne _ _ hiw] at hf'
      rw [upd_ne _ _ hiw, upd_ne _ _ hiw]; exact h.v1 i hi hf'
  · have hep2 : upd S.e whom e' i < ep' := hep'
    by_cases hiw : i = whom
    · subst hiw
      rw [upd_at] at hep2
      exact h.v2 i hi ep' (by rcases key with ⟨q, _⟩ | ⟨_, q, _⟩ <;> omega)
    · rw [upd_ne _ _ hiw] at hep2; exact h.v2 i hi ep' hep2
theorem Inv.askYes {n : Nat} {S : Sx} {V : Vf} {k : Int} {won : List (Int × Int)} (h : Inv n S V k won) (hn : n ≤ 7) {who whom : Nat} (hw : who < n) (hm : whom < n) (ht : S.tp who ≠ none) {a b : Int × Int} (hb : askB (S.e whom) (S.f whom) who (S.te who) a b = true) :
    Inv n (addS (askS S whom (askE (S.e whom) who (S.te who)) (askF (S.e whom) (S.f whom) who (S.te who) a b)) who (withN (S.ts who) whom)) (vot V whom (S.te who) who) k won := by
  have hnod : nodB (who : Int) = true := by simp [nodB]; omega
  obtain ⟨hr, he⟩ := h.rg whom hm
  obtain ⟨t0, t1, t2, t3⟩ := h.t who hw ht
  have hrr := ask_right (frm := who) (ep := S.te who) (a := a) (b := b) hr
  have hF : askF (S.e whom) (S.f whom) who (S.te who) a b = who := by unfold askF; rw [if_pos hnod, if_pos hb]
  have hb' := hb
  unfold askB at hb'
  simp only [Bool.and_eq_true, decide_eq_true_eq, Bool.or_eq_true] at hb'
  have hE : askE (S.e whom) who (S.te who) = S.te who := by simp [askE, hnod, hb'.1.2.1]
  have hle : S.e whom ≤ S.te who := by
    have := hb'.1.2.1
    unfold e1 at this
    split at this
    · rename_i hs
      have hs' : S.e whom < S.te who ∧ S.te who ≤ 1099511627776 := by simp [seeB] at hs; exact hs
      omega
    · omega
  have hV : V whom (S.te who) = none ∨ V whom (S.te who) = some (who : Int) := by
    cases hs : seeB (S.e whom) (S.te who) with
    | true =>
      have hs' : S.e whom < S.te who ∧ S.te who ≤ 1099511627776 := by simp [seeB] at hs; exact hs
      exact .inl (h.v2 whom hm _ hs'.1)
    | false =>
      have q1 : S.e whom = S.te who := by have := hb'.1.2.1; simpa [e1, hs] using this
      have q2 : f1 (S.e whom) (S.f whom) (S.te who) = S.f whom := by simp [f1, hs]
      rw [q2] at hb'
      rw [← q1]
      rcases hb'.1.2.2 with q | q
      · exact .inl (h.v0 whom hm q)
      · have := h.v1 whom hm (by omega)
        rw [q] at this
        exact .inr this
  rw [hE, hF] at hrr ⊢
  refine ⟨fun i hi => ?_, fun i hi hf => ?_, fun i hi hf => ?_, fun i hi ep' hep' => ?_, fun i hi hti => ?_, fun g hg => ?_⟩
  · show rgtB (upd S.e whom _ i) (upd S.f whom _ i) = true ∧ upd S.e whom _ i ≤ k
    by_cases hiw : i = whom
    · subst hiw
      rw [upd_at, upd_at]
      exact ⟨hrr, t1⟩
    · rw [upd_ne _ _ hiw, upd_ne _ _ hiw]; exact h.rg i hi
  · have hf' : upd S.f whom (who : Int) i = -1 := hf
    show vot V whom _ _ i (upd S.e whom _ i) = none
    by_cases hiw : i = whom
    · subst hiw
      rw [upd_at] at hf'
      omega
    · rw [upd_ne _ _ hiw] at hf' ⊢
      rw [vot_ne _ _ (.inl hiw)]; exact h.v0 i hi hf'
  · have hf' : upd S.f whom (who : Int) i ≠ -1 := hf
    show vot V whom _ _ i (upd S.e whom _ i) = some (upd S.f whom _ i)
    by_cases hiw : i = whom
    · subst hiw
      rw [upd_at, upd_at, vot_at]
    · rw [upd_ne _ _ hiw] at hf'
      rw [upd_ne _ _ hiw, upd_ne _ _ hiw, vot_ne _ _ (.inl hiw)]; exact h.v1 i hi hf'
  · have hep2 : upd S.e whom (S.te who) i < ep' := hep'
    by_cases hiw : i = whom
    · subst hiw
      rw [upd_at] at hep2
      rw [vot_ne _ _ (.inr (by omega))]
      exact h.v2 i hi ep' (by omega)
    · rw [upd_ne _ _ hiw] at hep2
      rw [vot_ne _ _ (.inl hiw)]; exact h.v2 i hi ep' hep2
  · have hti' : S.tp i ≠ none := hti
    show 0 ≤ S.te i ∧ S.te i ≤ k ∧ sB n (upd S.ts who _ i) = true ∧ ∀ j : Nat, j < n → inB (upd S.ts who _ i) j = true → vot V whom _ _ j (S.te i) = some (i : Int)
    obtain ⟨a1, a2, a3, a4⟩ := h.t i hi hti'
    by_cases hiw : i = who
    · subst hiw
      rw [upd_at]
      refine ⟨a1, a2, sB_with hn a3 hm, fun j hj hbj => ?_⟩
      obtain ⟨s0, s1⟩ := sB_lt (n := n) (by omega) a3
      rw [in_with' s0 s1 (by omega) (by omega)] at hbj
      by_cases hjw : j = whom
      · subst hjw
        rw [vot_at]
      · have : inB (S.ts i) j = true := by simpa [hjw] using hbj
        exact vot_keeps hV (a4 j hj this)
    · rw [upd_ne _ _ hiw]
      exact ⟨a1, a2, a3, fun j hj hbj => vot_keeps hV (a4 j hj hbj)⟩
  · obtain ⟨s, h1, h2⟩ := h.w g hg
    exact ⟨s, h1, fun j hj hbj => vot_keeps hV (h2 j hj hbj)⟩
/-- One winner in one epoch. -/
theorem Inv.one {n : Nat} {S : Sx} {V : Vf} {k : Int} {won : List (Int × Int)} (h : Inv n S V k won) {who : Nat} (hw : who < n) (ht : S.tp who ≠ none) (hm : hasM n (S.ts who) = true) : (∀ g ∈ won, g.1 = S.te who → g.2 = who) ∧ Inv n S V k (won ++ [(S.te who, (who : Int))]) := by
  obtain ⟨_, _, _, t3⟩ := h.t who hw ht
  refine ⟨fun g hg he => ?_, h.rg, h.v0, h.v1, h.v2, h.t, fun g hg => ?_⟩
  · obtain ⟨s, h1, h2⟩ := h.w g hg
    obtain ⟨i, hi, ha, hb⟩ := maj_both h1 hm
    have e1 := h2 i (by omega) ha
    have e2 := t3 i (by omega) hb
    rw [he, e2] at e1
    simpa using e1.symm
  · rcases List.mem_append.1 hg with hg | hg
    · exact h.w g hg
    · simp at hg
      subst hg
      exact ⟨S.ts who, hm, t3⟩
end Go.Proofs.Ytbfkacahaocpfaa
