
/- A sender and a receiver in turns: what they come to. -/
import Derived.Test.YtimpoincnfiibaaShCutM
import Derived.Test.YtimpoincnfiibaaShOneM
import Derived.Test.YtimpoincnfiibaaShSend
namespace Go.Proofs.Ytimpoincnfiibaa
open Go.RowKit Crcm

theorem one_five {ls : List Rec} {r : Rec} (h : oneE ls r = 5) : 65536 ≤ ls.length := by
  unfold oneE at h
  split at h
  · omega
  · split at h
    · unfold apE refus at h
      split at h
      · split at h
        · omega
        · split at h
          · rename_i q
            rw [List.length_take] at q
            omega
          · omega
      · omega
    · unfold apE refus at h
      split at h
      · split at h
        · omega
        · split at h
          · omega
          · omega
      · omega
theorem ct_len {L ls p : List Rec} {m : Nat} {c : Bool} (h : CtI L m ls c p) : ls.length ≤ max L.length (m + p.length) := by
  cases c with
  | false =>
    rcases h.no rfl with e | ⟨e, _⟩
    · rw [e]; omega
    · omega
  | true => have := (h.yes rfl).1; omega
/-- Where no log is full, all that fits is taken. -/
theorem tk_all {L : List Rec} {m : Nat} (hL : L.length ≤ 65000) : ∀ (rs ls p : List Rec) (last : Int) (c : Bool) (e : Int), Wl ls → CtI L m ls c p → Ahd ls e ((m + p.length : Nat) : Int) → (∀ r ∈ rs, rok r = true) → fitL e ((m + p.length : Nat) : Int) rs = rs → m + p.length + rs.length ≤ 65000 → (tkR ls last c rs).2.2.2 = 0 := by
  intro rs
  induction rs with
  | nil => intro ls p last c e hw h ha hr hf hb; rfl
  | cons r rs ih =>
    intro ls p last c e hw h ha hr hf hb
    have hfr : fitR e ((m + p.length : Nat) : Int) r = true := by
      cases hx : fitR e ((m + p.length : Nat) : Int) r
      · unfold fitL at hf; rw [hx] at hf; simp at hf
      · rfl
    have hft : fitL r.ep r.lsn rs = rs := by
      unfold fitL at hf
      rw [hfr, if_pos rfl] at hf
      exact (List.cons.inj hf).2
    obtain ⟨hl, _⟩ := fitR_parts.1 hfr
    obtain ⟨h5, hA⟩ := one_ahd hw ha (hr r (List.mem_cons_self ..)) hfr
    have hlp : r.lsn = ((m + (p ++ [r]).length : Nat) : Int) := by rw [hl]; simp; omega
    have hE : oneE ls r = 0 := by
      rcases h5 with q | q
      · exact q
      · have := one_five q
        have := ct_len h
        simp at hb
        omega
    have hu : tkR ls last c (r :: rs) = tkR (oneL ls r) r.lsn (c || oneC ls r) rs := by
      show (if oneE ls r = 0 then _ else _) = _
      rw [if_pos hE]
    rw [hu]
    refine ih (oneL ls r) (p ++ [r]) r.lsn (c || oneC ls r) r.ep (one_wl hw r) (h.step hl hE) (by rw [← hlp]; exact hA hE) (fun x hx => hr x (List.mem_cons_of_mem _ hx)) (by rw [← hlp]; exact hft) ?_
    simp at hb ⊢
    omega
/-- Two logs have the same epochs up to n. -/
def Agr (X Y : List Rec) (n : Nat) : Prop := n ≤ X.length ∧ n ≤ Y.length ∧ ∀ (i : Nat) (a b : Rec), i < n → X[i]? = some a → Y[i]? = some b → a.ep = b.ep
/-- Where they part they stay apart. -/
def Prt (X Y : List Rec) : Prop := ∀ (i j : Nat) (a b c d : Rec), i ≤ j → X[i]? = some a → Y[i]? = some b → X[j]? = some c → Y[j]? = some d → c.ep = d.ep → a.ep = b.ep
theorem Agr.zero (X Y : List Rec) : Agr X Y 0 := ⟨by omega, by omega, fun i a b h => by omega⟩
/-- What is sent at n + 1. -/
theorem sent_facts {X : List Rec} (hw : Wl X) {n : Nat} (hn : n ≤ X.length) :
    frF X ((n : Int) + 1) 5 = (X.drop n).take 5 ∧ (gtR X ((n : Int) + 1 - 1)).lsn = n ∧ (∀ r, X[n]? = some r → (gtR X ((n : Int) + 1 - 1)).ep ≤ r.ep) ∧ (1 ≤ n → X[n - 1]? = some (gtR X ((n : Int) + 1 - 1))) := by
  refine ⟨?_, ?_⟩
  · unfold frF
    rw [if_neg (by omega), show (max ((n : Int) + 1) 1 - 1).toNat = n by omega]; rfl
  · by_cases h0 : n = 0
    · subst h0
      have hg : gtR X (((0 : Nat) : Int) + 1 - 1) = zr := by unfold gtR; rw [if_neg (by omega)]
      rw [hg]
      refine ⟨rfl, fun r hr => ?_, fun h => by omega⟩
      exact (rok_rg (hw.each _ r hr).1).ep0
    · obtain ⟨g, hg⟩ : ∃ g, X[n - 1]? = some g := ⟨_, List.getElem?_eq_getElem (by omega)⟩
      have hgt : gtR X ((n : Int) + 1 - 1) = g := by
        have := (gt_yes hg).1
        rw [show ((n - 1 : Nat) : Int) + 1 = (n : Int) + 1 - 1 by omega] at this
        exact this
      rw [hgt]
      exact ⟨by have := (hw.each _ g hg).2; omega, fun r hr => hw.up (n - 1) g r hg (by rw [show n - 1 + 1 = n by omega]; exact hr), fun _ => hg⟩
/-- A turn in which the receiver has what stands ahead. -/
theorem turn_yes {X Y : List Rec} (hX : Wl X) (hY : Wl Y) (hl : X.length ≤ 2000 ∧ Y.length ≤ 2000) {n : Nat} (h : Agr X Y n) :
    ∃ (Y' : List Rec) (c : Bool), takeR Y (gtR X ((n : Int) + 1 - 1)).ep (gtR X ((n : Int) + 1 - 1)).lsn (frF X ((n : Int) + 1) 5) = (Y', ((min (n + 5) X.length : Nat) : Int), c, 0) ∧ Agr X Y' (min (n + 5) X.length) ∧ Y'.length ≤ max Y.length X.length := by
  obtain ⟨h1, h2, h3⟩ := h
  obtain ⟨s1, s2, s3, s4⟩ := sent_facts hX h1
  rw [s1]
  generalize gtR X ((n : Int) + 1 - 1) = g at *
  have hrok : ∀ r ∈ (X.drop n).take 5, rok r = true := fun r hr => by
    obtain ⟨i, hi, he⟩ := List.getElem_of_mem (List.mem_of_mem_drop (List.mem_of_mem_take hr))
    exact (hX.each i r (by rw [List.getElem?_eq_getElem hi, he])).1
  have hfit := fit_row hX 5 n g.ep s3
  have hlen : ((X.drop n).take 5).length = min (n + 5) X.length - n := by rw [List.length_take, List.length_drop]; omega
  have hhas : 0 < (n : Int) → hasB Y g.ep n = true := fun hp => by
    obtain ⟨b, hb⟩ : ∃ b, Y[n - 1]? = some b := ⟨_, List.getElem?_eq_getElem (by omega)⟩
    have := h3 (n - 1) g b (by omega) (s4 (by omega)) hb
    rw [this]
    exact get_has (by omega) (by rw [show ((n : Int) - 1).toNat = n - 1 by omega]; exact hb)
  have hE : lkE Y g.ep g.lsn ((X.drop n).take 5) = 0 := by
    rw [lkE_good hrok, if_neg (by omega), if_neg]
    rintro (⟨p1, p2⟩ | p)
    · rw [s2] at p1 p2
      rw [hhas p1] at p2; cases p2
    · unfold allB at p
      rw [s2, hfit] at p
      simp at p
  have h0 : CtI Y n Y false [] := ⟨by simpa using h2, fun t r h => by simp at h, fun _ => .inl rfl, fun e => by cases e⟩
  have ha : Ahd Y g.ep ((n + ([] : List Rec).length : Nat) : Int) := ⟨by omega, by simp; omega, by
    by_cases hp : 0 < (n : Int)
    · exact .inr (by simpa using hhas hp)
    · exact .inl (by simp; omega)⟩
  have herr := tk_all (L := Y) (m := n) (by omega) ((X.drop n).take 5) Y [] g.lsn false g.ep hY h0 ha hrok (by simpa using hfit) (by rw [hlen]; simp; omega)
  have hcut := (tk_cut (L := Y) (m := n) ((X.drop n).take 5) Y [] g.lsn false g.ep hY h0 ha hrok (by simpa using hfit) (by rw [s2]; simp)).2 herr
  rw [List.nil_append] at hcut
  obtain ⟨e1, e2⟩ := hcut
  have hu : takeR Y g.ep g.lsn ((X.drop n).take 5) = tkR Y g.lsn false ((X.drop n).take 5) := by unfold takeR; rw [if_pos hE]
  rw [hu]
  obtain ⟨Y', l', c, er, ht⟩ : ∃ a b c d, tkR Y g.lsn false ((X.drop n).take 5) = (a, b, c, d) := ⟨_, _, _, _, rfl⟩
  rw [ht] at herr e1 e2 ⊢
  simp only at herr e1 e2
  have hN : n + ((X.drop n).take 5).length = min (n + 5) X.length := by rw [hlen]; omega
  rw [hN] at e1
  subst herr e1
  refine ⟨Y', c, rfl, ⟨by omega, ?_, fun i a b hi ha' hb' => ?_⟩, ?_⟩
  · have := e2.le
    omega
  · by_cases hin : i < n
    · have hsame : Y'[i]? = Y[i]? := by
        cases hc : c with
        | false =>
          rcases e2.no hc with e | ⟨_, e⟩
          · rw [e]
          · obtain ⟨t, ht'⟩ := e
            rw [← ht', List.getElem?_append_left (by omega)]
        | true =>
          obtain ⟨_, d, r, s, q1, q2, q3, q4, q5, q6⟩ := e2.yes hc
          have := congrArg (fun l => l[i]?) q6
          simp only [List.getElem?_take] at this
          rwa [if_pos (by omega), if_pos (by omega)] at this
      rw [hsame] at hb'
      exact h3 i a b hin ha' hb'
    · have hp : ((X.drop n).take 5)[i - n]? = some a := by
        rw [List.getElem?_take, if_pos (by omega), List.getElem?_drop, show n + (i - n) = i by omega]; exact ha'
      obtain ⟨s, hs, he⟩ := e2.eps (i - n) a hp
      rw [show n + (i - n) = i by omega, hb'] at hs
      simp at hs
      rw [hs]; exact he.symm
  · have := ct_len e2
    omega
/-- A turn in which it has not. -/
theorem turn_no {X Y : List Rec} (hX : Wl X) {n : Nat} (hn : n ≤ X.length) (h1 : 1 ≤ n) (h : ∀ b, Y[n - 1]? = some b → (gtR X ((n : Int) + 1 - 1)).ep ≠ b.ep) :
    takeR Y (gtR X ((n : Int) + 1 - 1)).ep (gtR X ((n : Int) + 1 - 1)).lsn (frF X ((n : Int) + 1) 5) = (Y, 0, false, 200) := by
  obtain ⟨s1, s2, s3, s4⟩ := sent_facts hX hn
  rw [s1]
  generalize gtR X ((n : Int) + 1 - 1) = g at *
  have hrok : ∀ r ∈ (X.drop n).take 5, rok r = true := fun r hr => by
    obtain ⟨i, hi, he⟩ := List.getElem_of_mem (List.mem_of_mem_drop (List.mem_of_mem_take hr))
    exact (hX.each i r (by rw [List.getElem?_eq_getElem hi, he])).1
  have hhas : hasB Y g.ep g.lsn = false := by
    cases hb : hasB Y g.ep g.lsn
    · rfl
    · obtain ⟨r, hr, he, _, _⟩ := has_get hb
      rw [s2, show ((n : Int) - 1).toNat = n - 1 by omega] at hr
      exact absurd he.symm (h r hr)
  have hE : lkE Y g.ep g.lsn ((X.drop n).take 5) = 200 := by
    rw [lkE_good hrok, if_neg (by omega), if_pos (.inl ⟨by omega, hhas⟩)]
  unfold takeR
  rw [hE]; rfl
/-- A mark that the receiver has says that all ahead is the same. -/
theorem prt_agr {X Y : List Rec} (h : Prt X Y) {n : Nat} {a b : Rec} (hn : 1 ≤ n) (ha : X[n - 1]? = some a) (hb : Y[n - 1]? = some b) (he : a.ep = b.ep) : Agr X Y n := by
  have h1 := (List.getElem?_eq_some_iff.1 ha).1
  have h2 := (List.getElem?_eq_some_iff.1 hb).1
  exact ⟨by omega, by omega, fun i c d hi hc hd => h i (n - 1) c d a b (by omega) hc hd ha hb he⟩
/-- What t turns come to. -/
def Tn (X Y0 : List Rec) (next : Int) (t : Nat) (nx mt : Int) (Y : List Rec) : Prop :=
  (t = 0 ∧ next = nx ∧ mt = 0 ∧ Y0 = Y) ∨ (t = 1 ∧ nx = (Y0.length : Int) + 1 ∧ 1 ≤ Y0.length ∧ nx < next ∧ mt = 0 ∧ Y0 = Y) ∨ ∃ m : Nat, nx = (m : Int) + 1 ∧ mt = m ∧ Agr X Y m ∧ Wl Y ∧ Y.length ≤ 2000 ∧ min (5 * (t - 2)) X.length ≤ m
theorem Tn.zero {X Y0 : List Rec} {next : Int} : Tn X Y0 next 0 next 0 Y0 := .inl ⟨rfl, rfl, rfl, rfl⟩
theorem Tn.one {X Y0 : List Rec} {next nx : Int} (h1 : nx = (Y0.length : Int) + 1) (h2 : 1 ≤ Y0.length) (h3 : nx < next) : Tn X Y0 next 1 nx 0 Y0 := .inr (.inl ⟨rfl, h1, h2, h3, rfl, rfl⟩)
theorem Tn.on {X Y0 : List Rec} {next : Int} {t m : Nat} {Y : List Rec} (h1 : Agr X Y m) (h2 : Wl Y) (h3 : Y.length ≤ 2000) (h4 : min (5 * (t - 2)) X.length ≤ m) : Tn X Y0 next t ((m : Int) + 1) m Y := .inr (.inr ⟨m, rfl, rfl, h1, h2, h3, h4⟩)
/-- A turn: what the receiver tells, then the sender. -/
def tnT (X Y : List Rec) (nx : Int) : List Rec × Int × Bool × Int := takeR Y (gtR X (nx - 1)).ep (gtR X (nx - 1)).lsn (frF X nx 5)
def tnX (X Y : List Rec) (nx mt : Int) : Int := if (tnT X Y nx).2.2.2 = 0 then (if ackB mt (tnT X Y nx).2.1 then (tnT X Y nx).2.1 + 1 else nx) else (if refB nx mt then refN nx mt ((tnT X Y nx).1.length : Int) else nx)
def tnM (X Y : List Rec) (nx mt : Int) : Int := if (tnT X Y nx).2.2.2 = 0 then (if ackB mt (tnT X Y nx).2.1 then (tnT X Y nx).2.1 else mt) else mt
theorem turn_on {X Y Y0 : List Rec} {next : Int} (hX : Wl X) (hY : Wl Y) (hl : X.length ≤ 2000 ∧ Y.length ≤ 2000) {n t : Nat} {mt : Int} (h : Agr X Y n) (hm : mt = 0 ∨ mt = n) (hb : min (5 * (t - 1)) X.length ≤ min (n + 5) X.length) : Tn X Y0 next (t + 1) (tnX X Y ((n : Int) + 1) mt) (tnM X Y ((n : Int) + 1) mt) (tnT X Y ((n : Int) + 1)).1 := by
  obtain ⟨Y', c, e1, e2, e3⟩ := turn_yes hX hY hl h
  have hT : tnT X Y ((n : Int) + 1) = (Y', ((min (n + 5) X.length : Nat) : Int), c, 0) := e1
  have hwl : Wl Y' := by
    have := takeR_wl hY (gtR X ((n : Int) + 1 - 1)).ep (gtR X ((n : Int) + 1 - 1)).lsn (frF X ((n : Int) + 1) 5)
    rw [e1] at this; exact this
  have hn := h.1
  unfold tnX tnM
  rw [hT]
  simp only [if_true]
  by_cases hk : mt < ((min (n + 5) X.length : Nat) : Int)
  · have hA : ackB mt ((min (n + 5) X.length : Nat) : Int) = true := by simp [ackB]; omega
    rw [if_pos hA, if_pos hA]
    exact Tn.on e2 hwl (by omega) (by rw [show t + 1 - 2 = t - 1 by omega]; exact hb)
  · have hA : ¬ ackB mt ((min (n + 5) X.length : Nat) : Int) = true := by simp [ackB]; omega
    rw [if_neg hA, if_neg hA]
    have hmn : mt = n ∧ min (n + 5) X.length = n := by omega
    rw [hmn.1]
    rw [hmn.2] at e2 hb
    exact Tn.on e2 hwl (by omega) (by rw [show t + 1 - 2 = t - 1 by omega]; exact hb)
theorem Tn.step {X Y0 : List Rec} (hX : Wl X) (hY0 : Wl Y0) (hl : X.length ≤ 2000 ∧ Y0.length ≤ 2000) (hp : Prt X Y0) {next : Int} (h1 : 1 ≤ next) (h2 : next ≤ X.length + 1) {t : Nat} {nx mt : Int} {Y : List Rec} (h : Tn X Y0 next t nx mt Y) : Tn X Y0 next (t + 1) (tnX X Y nx mt) (tnM X Y nx mt) (tnT X Y nx).1 := by
  rcases h with ⟨rfl, rfl, rfl, rfl⟩ | ⟨rfl, e1, e2, e3, rfl, rfl⟩ | ⟨m, rfl, rfl, a1, a2, a3, a4⟩
  · obtain ⟨n, rfl⟩ : ∃ n : Nat, next = (n : Int) + 1 := ⟨(next - 1).toNat, by omega⟩
    by_cases h0 : n = 0
    · subst h0
      exact turn_on hX hY0 hl (Agr.zero X Y0) (.inl rfl) (by omega)
    · by_cases hh : ∃ b, Y0[n - 1]? = some b ∧ (gtR X ((n : Int) + 1 - 1)).ep = b.ep
      · obtain ⟨b, hb, he⟩ := hh
        obtain ⟨_, _, _, s4⟩ := sent_facts hX (n := n) (by omega)
        exact turn_on hX hY0 hl (prt_agr hp (by omega) (s4 (by omega)) hb he) (.inl rfl) (by omega)
      · have hT : tnT X Y0 ((n : Int) + 1) = (Y0, 0, false, 200) := turn_no hX (by omega) (by omega) (fun b hb e => hh ⟨b, hb, e⟩)
        unfold tnX tnM
        rw [hT]
        simp only
        have h200 : ¬ ((200 : Int) = 0) := by decide
        have hR : refB ((n : Int) + 1) 0 = true := by simp [refB]; omega
        rw [if_neg h200, if_neg h200, if_pos hR]
        unfold refN
        by_cases hr : (0 : Int) < (Y0.length : Int) ∧ (Y0.length : Int) < (n : Int) + 1 - 1
        · rw [if_pos hr]
          exact Tn.one rfl (by omega) (by omega)
        · rw [if_neg hr]
          exact Tn.on (m := 0) (Agr.zero X Y0) hY0 hl.2 (by omega)
  · obtain ⟨n, hn⟩ : ∃ n, n = Y0.length := ⟨_, rfl⟩
    rw [← hn] at e1 e2
    subst e1
    by_cases hh : ∃ b, Y0[n - 1]? = some b ∧ (gtR X ((n : Int) + 1 - 1)).ep = b.ep
    · obtain ⟨b, hb, he⟩ := hh
      obtain ⟨_, _, _, s4⟩ := sent_facts hX (n := n) (by omega)
      exact turn_on hX hY0 hl (prt_agr hp (by omega) (s4 (by omega)) hb he) (.inl rfl) (by omega)
    · have hT : tnT X Y0 ((n : Int) + 1) = (Y0, 0, false, 200) := turn_no hX (by omega) (by omega) (fun b hb e => hh ⟨b, hb, e⟩)
      unfold tnX tnM
      rw [hT]
      simp only
      have h200 : ¬ ((200 : Int) = 0) := by decide
      have hR : refB ((n : Int) + 1) 0 = true := by simp [refB]; omega
      rw [if_neg h200, if_neg h200, if_pos hR]
      unfold refN
      rw [if_neg (by omega)]
      exact Tn.on (m := 0) (Agr.zero X Y0) hY0 hl.2 (by omega)
  · exact turn_on hX a2 ⟨hl.1, a3⟩ a1 (.inr rfl) (by have := a1.1; omega)
/-- The end: all is matched. -/
theorem Tn.fin {X Y0 Y : List Rec} {next nx mt : Int} {t : Nat} (h : Tn X Y0 next t nx mt Y) (ht : X.length + 3 ≤ t) : mt = X.length ∧ Agr X Y X.length := by
  rcases h with ⟨h, _⟩ | ⟨h, _⟩ | ⟨m, rfl, rfl, a1, a2, a3, a4⟩
  · omega
  · omega
  · have := a1.1
    have hm : m = X.length := by omega
    subst hm
    exact ⟨rfl, a1⟩
end Go.Proofs.Ytimpoincnfiibaa
