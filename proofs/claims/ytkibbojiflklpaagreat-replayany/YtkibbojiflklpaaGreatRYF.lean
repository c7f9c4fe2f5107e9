
/- RyMath, RyLk, RyInv, RyRpl. -/
import Derived.Test.YtkibbojiflklpaaGreatRYD
import Derived.Test.YtkibbojiflklpaaGreatRYB
/- Which records are done, and what they make of pages: lists and numbers alone. -/
namespace Go.Proofs.YtkibbojiflklpaaGreat
theorem ym_upto {p q : Nat → Bool} {m f : Nat} (hm : m ≤ f) (h : ∀ j, j < f → (p j = true ↔ (q j = true ∧ j < m))) : (List.range f).filter p = (List.range m).filter q := by
  induction f with
  | zero => obtain rfl : m = 0 := by omega
            rfl
  | succ f ih =>
    rw [List.range_succ, List.filter_append]
    by_cases e : m = f + 1
    · subst e
      rw [List.range_succ, List.filter_append]
      congr 1
      · exact List.filter_congr fun j hj => by
          have hj' := List.mem_range.1 hj
          have := h j (by omega)
          cases hp : p j <;> cases hq : q j <;> simp_all <;> omega
      · have := h f (by omega)
        have hpq : p f = q f := by cases hp : p f <;> cases hq : q f <;> simp_all
        simp [List.filter, hpq]
    · have h1 : p f = false := by
        have := h f (by omega)
        cases hp : p f
        · rfl
        · rw [hp] at this; have := this.1 rfl; omega
      rw [ih (by omega) (fun j hj => h j (by omega))]
      simp [List.filter, h1]
theorem ym_head {p : Nat → Bool} {f k : Nat} {t : List Nat} (h : (List.range f).filter p = k :: t) : k < f ∧ p k = true ∧ (∀ j, j < k → p j = false) ∧ t = (List.range f).filter (fun j => p j && !(j == k)) := by
  have hk : k ∈ (List.range f).filter p := by rw [h]; exact List.mem_cons_self ..
  obtain ⟨h1, h2⟩ := List.mem_filter.1 hk
  have hkf := List.mem_range.1 h1
  have hp : ((List.range f).filter p).Pairwise (· < ·) := List.Pairwise.filter _ List.pairwise_lt_range
  rw [h, List.pairwise_cons] at hp
  refine ⟨hkf, h2, fun j hj => ?_, ?_⟩
  · cases hpj : p j
    · rfl
    · have : j ∈ k :: t := by rw [← h]; exact List.mem_filter.2 ⟨List.mem_range.2 (by omega), hpj⟩
      rcases List.mem_cons.1 this with e | e
      · omega
      · have := hp.1 j e; omega
  · have : (List.range f).filter (fun j => p j && !(j == k)) = ((List.range f).filter p).filter (fun j => !(j == k)) := by
      rw [List.filter_filter]
      exact List.filter_congr fun j _ => Bool.and_comm _ _
    rw [this, h, List.filter_cons]
    simp
    refine (List.filter_eq_self.2 fun j hj => ?_).symm
    have := hp.1 j hj
    simp
    omega
section
variable {α β : Type} (rs : List α) (real : α → Bool) (pag : α → Int) (wkf : α → Nat) (stp : Option β → α → Option β)
def ymP (x : Int) (k : Nat) : Bool := match rs[k]? with
  | some r => real r && (pag r == x)
  | none => false
def ymW (i : Nat) (k : Nat) : Bool := match rs[k]? with
  | some r => real r && (wkf r == i)
  | none => false
def ymK (o : Option β) (k : Nat) : Option β := match rs[k]? with
  | some r => stp o r
  | none => o
/-- What records that are done make of a page. -/
def ymD (P0 : Int → Option β) (dn : Nat → Bool) (f : Nat) (x : Int) : Option β := ((List.range f).filter (fun k => ymP rs real pag x k && dn k)).foldl (ymK rs stp) (P0 x)
/-- What the first m records make of a page. -/
def ymS (P0 : Int → Option β) (m : Nat) (x : Int) : Option β := ((List.range m).filter (ymP rs real pag x)).foldl (ymK rs stp) (P0 x)
variable {rs real pag wkf stp}
theorem ymS_succ (P0 : Int → Option β) (m : Nat) (x : Int) : ymS rs real pag stp P0 (m + 1) x = if ymP rs real pag x m = true then ymK rs stp (ymS rs real pag stp P0 m x) m else ymS rs real pag stp P0 m x := by
  unfold ymS
  rw [List.range_succ, List.filter_append, List.foldl_append]
  cases h : ymP rs real pag x m <;> simp [List.filter, h]
theorem ymD_upto {P0 : Int → Option β} {dn : Nat → Bool} {m f : Nat} {x : Int} (hm : m ≤ f) (h : ∀ j, j < f → ymP rs real pag x j = true → (dn j = true ↔ j < m)) : ymD rs real pag stp P0 dn f x = ymS rs real pag stp P0 m x := by
  unfold ymD ymS
  rw [ym_upto (q := ymP rs real pag x) hm]
  intro j hj
  cases hs : ymP rs real pag x j
  · simp
  · have := h j hj hs
    simp [this]
theorem ymPW {x : Int} {k : Nat} {r : α} (hr : rs[k]? = some r) (hs : ymP rs real pag x k = true) : real r = true ∧ pag r = x := by
  unfold ymP at hs
  rw [hr] at hs
  simpa using hs
theorem ymP_some {x : Int} {k : Nat} (hs : ymP rs real pag x k = true) : ∃ r, rs[k]? = some r ∧ real r = true ∧ pag r = x := by
  unfold ymP at hs
  cases hr : rs[k]? with
  | none => rw [hr] at hs; cases hs
  | some r => rw [hr] at hs; exact ⟨r, rfl, by simpa using hs⟩
theorem ymW_some {i : Nat} {k : Nat} (hs : ymW rs real wkf i k = true) : ∃ r, rs[k]? = some r ∧ real r = true ∧ wkf r = i := by
  unfold ymW at hs
  cases hr : rs[k]? with
  | none => rw [hr] at hs; cases hs
  | some r => rw [hr] at hs; exact ⟨r, rfl, by simpa using hs⟩
theorem ymW_of {k : Nat} {r : α} (hr : rs[k]? = some r) (h : real r = true) : ymW rs real wkf (wkf r) k = true := by
  unfold ymW; rw [hr]; simp [h]
theorem ymP_of {k : Nat} {r : α} (hr : rs[k]? = some r) (h : real r = true) : ymP rs real pag (pag r) k = true := by
  unfold ymP; rw [hr]; simp [h]
/-- Which records that wait a worker has. -/
def ymQ (rs : List α) (real : α → Bool) (wkf : α → Nat) (dn : Nat → Bool) (f i : Nat) : List Nat := (List.range f).filter (fun k => ymW rs real wkf i k && !dn k)
/-- Of a worker's records those that are done are ahead of all others. -/
def YmAhd (rs : List α) (real : α → Bool) (wkf : α → Nat) (dn : Nat → Bool) (f : Nat) : Prop := ∀ j k i, j < k → k < f → ymW rs real wkf i j = true → ymW rs real wkf i k = true → dn k = true → dn j = true
theorem ymQ_feed {dn : Nat → Bool} {f : Nat} (hd : dn f = false) (i : Nat) : ymQ rs real wkf dn (f + 1) i = if ymW rs real wkf i f = true then ymQ rs real wkf dn f i ++ [f] else ymQ rs real wkf dn f i := by
  unfold ymQ
  rw [List.range_succ, List.filter_append]
  cases h : ymW rs real wkf i f <;> simp [List.filter, h, hd]
theorem ymD_feed {P0 : Int → Option β} {dn : Nat → Bool} {f : Nat} (hd : dn f = false) (x : Int) : ymD rs real pag stp P0 dn (f + 1) x = ymD rs real pag stp P0 dn f x := by
  unfold ymD
  rw [List.range_succ, List.filter_append]
  simp [List.filter, hd]
theorem YmAhd.feed {dn : Nat → Bool} {f : Nat} (h : YmAhd rs real wkf dn f) (hd : dn f = false) : YmAhd rs real wkf dn (f + 1) := by
  intro j k i hjk hk h1 h2 h3
  by_cases e : k = f
  · subst e; rw [hd] at h3; cases h3
  · exact h j k i hjk (by omega) h1 h2 h3
def ymDn (dn : Nat → Bool) (k : Nat) : Nat → Bool := fun j => dn j || (j == k)
/-- A worker has done its first record. -/
structure YmDid (rs : List α) (real : α → Bool) (pag : α → Int) (wkf : α → Nat) (stp : Option β → α → Option β) (P0 : Int → Option β) (dn : Nat → Bool) (f i k : Nat) (t : List Nat) : Prop where
  lt : k < f
  sel : ymW rs real wkf i k = true
  was : ∀ x, ymP rs real pag x k = true → ymD rs real pag stp P0 dn f x = ymS rs real pag stp P0 k x
  wait : ymQ rs real wkf (ymDn dn k) f i = t
  others : ∀ j, j ≠ i → ymQ rs real wkf (ymDn dn k) f j = ymQ rs real wkf dn f j
  ahd : YmAhd rs real wkf (ymDn dn k) f
  now : ∀ x, ymP rs real pag x k = true → ymD rs real pag stp P0 (ymDn dn k) f x = ymK rs stp (ymS rs real pag stp P0 k x) k
  stay : ∀ x, ymP rs real pag x k = false → ymD rs real pag stp P0 (ymDn dn k) f x = ymD rs real pag stp P0 dn f x
theorem ym_did (hpw : ∀ r r' : α, pag r = pag r' → wkf r = wkf r') {P0 : Int → Option β} {dn : Nat → Bool} {f i k : Nat} {t : List Nat} (ha : YmAhd rs real wkf dn f) (h : ymQ rs real wkf dn f i = k :: t) : YmDid rs real pag wkf stp P0 dn f i k t := by
  obtain ⟨h1, h2, h3, h4⟩ := ym_head h
  simp only [Bool.and_eq_true, Bool.not_eq_true'] at h2
  have hb : ∀ j, j < k → ymW rs real wkf i j = true → dn j = true := fun j hj hs => by
    have := h3 j hj
    rw [hs] at this
    simpa using this
  have hab : ∀ j, k < j → j < f → ymW rs real wkf i j = true → dn j = false := fun j hj hjf hs => by
    cases hd : dn j
    · rfl
    · have := ha k j i hj hjf h2.1 hs hd
      rw [h2.2] at this; cases this
  obtain ⟨r, hr, hre, hrw⟩ := ymW_some h2.1
  have hpi : ∀ x j, ymP rs real pag x k = true → ymP rs real pag x j = true → ymW rs real wkf i j = true := fun x j e1 e2 => by
    obtain ⟨r1, a1, a2, a3⟩ := ymP_some e2
    have := (ymPW hr e1).2
    have hw : wkf r1 = i := by rw [← hrw]; exact hpw _ _ (a3.trans this.symm)
    rw [← hw]; exact ymW_of a1 a2
  have hw : ∀ x, ymP rs real pag x k = true → ymD rs real pag stp P0 dn f x = ymS rs real pag stp P0 k x := fun x hx => by
    refine ymD_upto (by omega) fun j hj hs => ?_
    have hsw := hpi x j hx hs
    constructor
    · intro hd
      by_cases e : j < k
      · exact e
      · by_cases e2 : j = k
        · subst e2; rw [h2.2] at hd; cases hd
        · rw [hab j (by omega) hj hsw] at hd; cases hd
    · intro hlt; exact hb j hlt hsw
  refine ⟨h1, h2.1, hw, ?_, ?_, ?_, ?_, ?_⟩
  · rw [h4]
    unfold ymQ
    refine List.filter_congr fun j _ => ?_
    unfold ymDn
    cases ymW rs real wkf i j <;> cases dn j <;> cases (j == k) <;> rfl
  · intro j hj
    unfold ymQ
    refine List.filter_congr fun q _ => ?_
    unfold ymDn
    by_cases e : q = k
    · subst e
      have : ymW rs real wkf j q = false := by
        cases hs : ymW rs real wkf j q
        · rfl
        · obtain ⟨r1, a1, _, a3⟩ := ymW_some hs
          rw [hr] at a1; cases a1
          exact absurd (a3.symm.trans hrw) hj
      simp [this]
    · have : (q == k) = false := by simpa using e
      rw [this, Bool.or_false]
  · intro a b c hab' hbf s1 s2 hd
    unfold ymDn at hd ⊢
    simp only [Bool.or_eq_true, beq_iff_eq] at hd ⊢
    rcases hd with hd | rfl
    · exact .inl (ha a b c hab' hbf s1 s2 hd)
    · obtain ⟨r1, a1, _, a3⟩ := ymW_some s2
      rw [hr] at a1; cases a1
      exact .inl (hb a hab' (by rw [← hrw, a3]; exact s1))
  · intro x hx
    have : ymD rs real pag stp P0 (ymDn dn k) f x = ymS rs real pag stp P0 (k + 1) x := by
      refine ymD_upto (by omega) fun j hj hs => ?_
      have hsw := hpi x j hx hs
      unfold ymDn
      simp only [Bool.or_eq_true, beq_iff_eq]
      constructor
      · rintro (hd | rfl)
        · by_cases e : j < k + 1
          · exact e
          · rw [hab j (by omega) hj hsw] at hd; cases hd
        · omega
      · intro hlt
        by_cases e : j = k
        · exact .inr e
        · exact .inl (hb j (by omega) hsw)
    rw [this, ymS_succ, if_pos hx]
  · intro x hx
    unfold ymD
    congr 1
    refine List.filter_congr fun q _ => ?_
    unfold ymDn
    by_cases e : q = k
    · subst e; simp [hx]
    · have : (q == k) = false := by simpa using e
      rw [this, Bool.or_false]
end
end Go.Proofs.YtkibbojiflklpaaGreat

/- Which node a page has, in pages that rise. -/
namespace Go.Proofs.YtkibbojiflklpaaGreat
open Go.RowKit Go.Shelf

/-- Which node a page has. -/
def lk : List (Int × Nd) → Int → Option Nd
  | [], _ => none
  | s :: l, x => if s.1 = x then some s.2 else lk l x
theorem lk_low {l : List (Int × Nd)} {x : Int} (h : ∀ y ∈ l.map (·.1), x < y) : lk l x = none := by
  induction l with
  | nil => rfl
  | cons s l ih =>
    have h1 := h s.1 (by simp)
    unfold lk
    rw [if_neg (by omega)]
    exact ih (fun y hy => h y (by simp only [List.map_cons, List.mem_cons]; exact .inr hy))
theorem lk_mem {l : List (Int × Nd)} {x : Int} : (lk l x).isSome = true ↔ x ∈ l.map (·.1) := by
  induction l with
  | nil => simp [lk]
  | cons s l ih =>
    unfold lk
    rw [List.map_cons, List.mem_cons]
    by_cases e : s.1 = x
    · rw [if_pos e]; simp [e]
    · rw [if_neg e, ih]
      constructor
      · exact .inr
      · rintro (h | h)
        · exact absurd h.symm e
        · exact h
theorem lk_has {ps : List (Int × Nd)} (x : Int) (h : (ps.map (·.1)).Pairwise (· < ·)) : hasP ps x = (lk ps x).isSome ∧ nodeP ps x = (lk ps x).getD zn := by
  induction ps with
  | nil => exact ⟨rfl, rfl⟩
  | cons s l ih =>
    rw [List.map_cons, List.pairwise_cons] at h
    by_cases h1 : s.1 < x
    · have e : ahP (s :: l) x = ahP l x + 1 := if_pos h1
      have e1 : hasP (s :: l) x = hasP l x := by unfold hasP; rw [e, List.getElem?_cons_succ]
      have e2 : nodeP (s :: l) x = nodeP l x := by unfold nodeP; rw [e1, e, List.getElem?_cons_succ]
      have e3 : lk (s :: l) x = lk l x := by show (if _ then _ else _) = _; rw [if_neg (by omega)]
      rw [e1, e2, e3]; exact ih h.2
    · have e : ahP (s :: l) x = 0 := if_neg h1
      have e1 : hasP (s :: l) x = (s.1 == x) := by unfold hasP; rw [e]; rfl
      by_cases h2 : s.1 = x
      · have e3 : lk (s :: l) x = some s.2 := if_pos h2
        have e4 : hasP (s :: l) x = true := by rw [e1]; simpa using h2
        rw [e3, e4]
        refine ⟨rfl, ?_⟩
        unfold nodeP; rw [if_pos e4, e]; rfl
      · have e3 : lk (s :: l) x = none := by
          show (if _ then _ else _) = _
          rw [if_neg h2]
          exact lk_low fun y hy => by have := h.1 y hy; omega
        have e4 : hasP (s :: l) x = false := by rw [e1]; simpa using h2
        rw [e3, e4]
        refine ⟨rfl, ?_⟩
        unfold nodeP; rw [if_neg (by rw [e4]; decide)]; rfl
theorem lk_set {ps : List (Int × Nd)} {x : Int} (n : Nd) (y : Int) (h : (ps.map (·.1)).Pairwise (· < ·)) (hh : hasP ps x = true) : lk (ps.set (ahP ps x) (x, n)) y = pupd (lk ps) x n y := by
  induction ps with
  | nil => cases hh
  | cons s l ih =>
    rw [List.map_cons, List.pairwise_cons] at h
    by_cases h1 : s.1 < x
    · have e : ahP (s :: l) x = ahP l x + 1 := if_pos h1
      have e1 : hasP (s :: l) x = hasP l x := by unfold hasP; rw [e, List.getElem?_cons_succ]
      rw [e1] at hh
      rw [e, List.set_cons_succ]
      have := ih h.2 hh
      unfold pupd at this ⊢
      show (if _ then _ else _) = _
      by_cases h2 : s.1 = y
      · rw [if_pos h2, if_neg (by omega)]
        exact (if_pos h2).symm
      · rw [if_neg h2, this]
        by_cases h3 : y = x
        · rw [if_pos h3, if_pos h3]
        · rw [if_neg h3, if_neg h3]; exact (if_neg h2).symm
    · have e : ahP (s :: l) x = 0 := if_neg h1
      have e1 : hasP (s :: l) x = (s.1 == x) := by unfold hasP; rw [e]; rfl
      rw [e1] at hh
      have hx : s.1 = x := by simpa using hh
      rw [e, List.set_cons_zero]
      unfold pupd
      show (if _ then _ else _) = _
      by_cases h3 : y = x
      · rw [if_pos h3, if_pos h3.symm]
      · rw [if_neg h3, if_neg (fun e => h3 e.symm)]
        exact (if_neg (by omega)).symm
theorem lk_ins {ps : List (Int × Nd)} {x : Int} (n : Nd) (y : Int) (h : (ps.map (·.1)).Pairwise (· < ·)) (hh : hasP ps x = false) : lk (ps.take (ahP ps x) ++ (x, n) :: ps.drop (ahP ps x)) y = pupd (lk ps) x n y := by
  induction ps with
  | nil =>
    unfold pupd
    show (if _ then _ else _) = _
    by_cases h3 : y = x
    · rw [if_pos h3, if_pos h3.symm]
    · rw [if_neg h3, if_neg (fun e => h3 e.symm)]; rfl
  | cons s l ih =>
    rw [List.map_cons, List.pairwise_cons] at h
    by_cases h1 : s.1 < x
    · have e : ahP (s :: l) x = ahP l x + 1 := if_pos h1
      have e1 : hasP (s :: l) x = hasP l x := by unfold hasP; rw [e, List.getElem?_cons_succ]
      rw [e1] at hh
      rw [e, List.take_succ_cons, List.drop_succ_cons, List.cons_append]
      have := ih h.2 hh
      unfold pupd at this ⊢
      show (if _ then _ else _) = _
      by_cases h2 : s.1 = y
      · rw [if_pos h2, if_neg (by omega)]
        exact (if_pos h2).symm
      · rw [if_neg h2, this]
        by_cases h3 : y = x
        · rw [if_pos h3, if_pos h3]
        · rw [if_neg h3, if_neg h3]; exact (if_neg h2).symm
    · have e : ahP (s :: l) x = 0 := if_neg h1
      rw [e, List.take_zero, List.drop_zero, List.nil_append]
      unfold pupd
      show (if _ then _ else _) = _
      by_cases h3 : y = x
      · rw [if_pos h3, if_pos h3.symm]
      · rw [if_neg h3, if_neg (fun e => h3 e.symm)]
theorem pgF_fold (l : List (Int × Nd)) (P : Int → Option Nd) (x : Int) (h : (l.map (·.1)).Pairwise (· < ·)) : l.foldl (fun P x => pupd P x.1 x.2) P x = match lk l x with | some n => some n | none => P x := by
  induction l generalizing P with
  | nil => rfl
  | cons s l ih =>
    rw [List.map_cons, List.pairwise_cons] at h
    rw [List.foldl_cons, ih _ h.2]
    show _ = match (if s.1 = x then some s.2 else lk l x) with | some n => some n | none => P x
    by_cases e : s.1 = x
    · rw [if_pos e, lk_low (fun y hy => by have := h.1 y hy; omega)]
      exact if_pos e.symm
    · rw [if_neg e]
      cases lk l x with
      | some n => rfl
      | none => exact if_neg (fun h => e h.symm)
theorem pgF_lk (l : List (Int × Nd)) (h : (l.map (·.1)).Pairwise (· < ·)) : pgF l = lk l := by
  funext x
  unfold pgF
  rw [pgF_fold l _ x h]
  cases lk l x <;> rfl
/-- Pages that rise are told by which node each has. -/
theorem lk_sorted {ps : List (Int × Nd)} {ts : List Int} (h : (ps.map (·.1)).Pairwise (· < ·)) (hs : ts.Pairwise (· ≤ ·)) (hn : ts.Nodup) (hm : ∀ x, x ∈ ts ↔ (lk ps x).isSome = true) : ts.map (fun x => (x, (lk ps x).getD zn)) = ps := by
  have hp : ts = ps.map (·.1) := by
    have hnd : (ps.map (·.1)).Nodup := h.imp (fun {a b} hab e => by omega)
    refine List.Perm.eq_of_pairwise (le := (· ≤ ·)) (fun a b _ _ h1 h2 => by omega) hs (h.imp (fun {a b} hab => by omega)) ((List.perm_ext_iff_of_nodup hn hnd).2 fun x => (hm x).trans lk_mem)
  subst hp
  clear hm hs hn
  induction ps with
  | nil => rfl
  | cons s l ih =>
    rw [List.map_cons, List.pairwise_cons] at h
    rw [List.map_cons, List.map_cons]
    congr 1
    · show (s.1, ((if s.1 = s.1 then some s.2 else lk l s.1) : Option Nd).getD zn) = s
      rw [if_pos rfl]; rfl
    · have := ih h.2
      conv => rhs; rw [← this]
      refine List.map_congr_left fun x hx => ?_
      have := h.1 x hx
      show (x, ((if s.1 = x then some s.2 else lk l x) : Option Nd).getD zn) = _
      rw [if_neg (by omega)]
end Go.Proofs.YtkibbojiflklpaaGreat

/- How a replay stands, of which some records are fed and some are done: lists and numbers alone. -/
namespace Go.Proofs.YtkibbojiflklpaaGreat
open Go.RowKit Go.Shelf

/-- The first of all records that wait. -/
theorem next_some {R : RSt} {k : Nat} {x : Wg} (h : nextN R k = some x) : (∃ i, i < k ∧ (R.L i).head? = some x) ∧ ∀ i, i < k → ∀ y, (R.L i).head? = some y → x.1.lsn ≤ y.1.lsn := by
  induction k generalizing x with
  | zero => cases h
  | succ k ih =>
    rw [nextN_succ] at h
    unfold stepN at h
    cases hl : (R.L k).head? with
    | none =>
      rw [hl] at h
      obtain ⟨⟨i, h1, h2⟩, h3⟩ := ih h
      refine ⟨⟨i, by omega, h2⟩, fun j hj y hy => ?_⟩
      by_cases e : j = k
      · subst e; rw [hl] at hy; cases hy
      · exact h3 j (by omega) y hy
    | some z =>
      rw [hl] at h
      dsimp only at h
      cases hn : nextN R k with
      | none =>
        rw [hn] at h
        cases h
        refine ⟨⟨k, by omega, hl⟩, fun j hj y hy => ?_⟩
        by_cases e : j = k
        · subst e; rw [hl] at hy; cases hy; exact Int.le_refl _
        · exact absurd hn (by
            intro hn
            clear ih
            have : ∀ m, nextN R m = none → ∀ j, j < m → (R.L j).head? = none := by
              intro m
              induction m with
              | zero => intro _ j hj; omega
              | succ m im =>
                intro hm j hj
                rw [nextN_succ] at hm
                unfold stepN at hm
                cases hl2 : (R.L m).head? with
                | none =>
                  rw [hl2] at hm
                  by_cases e2 : j = m
                  · subst e2; exact hl2
                  · exact im hm j (by omega)
                | some u =>
                  rw [hl2] at hm
                  dsimp only at hm
                  cases hq : nextN R m <;> rw [hq] at hm
                  · cases hm
                  · dsimp only at hm; split at hm <;> cases hm
            rw [this k hn j (by omega)] at hy
            cases hy)
      | some u =>
        rw [hn] at h
        dsimp only at h
        obtain ⟨⟨i, h1, h2⟩, h3⟩ := ih hn
        by_cases hlt : z.1.lsn < u.1.lsn
        · rw [if_pos hlt] at h
          cases h
          refine ⟨⟨k, by omega, hl⟩, fun j hj y hy => ?_⟩
          by_cases e : j = k
          · subst e; rw [hl] at hy; cases hy; exact Int.le_refl _
          · have := h3 j (by omega) y hy; omega
        · rw [if_neg hlt] at h
          cases h
          refine ⟨⟨i, by omega, h2⟩, fun j hj y hy => ?_⟩
          by_cases e : j = k
          · subst e; rw [hl] at hy; cases hy; omega
          · exact h3 j (by omega) y hy
theorem next_none {R : RSt} {k : Nat} (h : nextN R k = none) : ∀ i, i < k → R.L i = [] := by
  induction k with
  | zero => intro i hi; omega
  | succ k ih =>
    rw [nextN_succ] at h
    unfold stepN at h
    intro i hi
    cases hl : (R.L k).head? with
    | none =>
      rw [hl] at h
      by_cases e : i = k
      · subst e; exact List.head?_eq_none_iff.1 hl
      · exact ih h i (by omega)
    | some z =>
      rw [hl] at h
      dsimp only at h
      cases hn : nextN R k <;> rw [hn] at h
      · cases h
      · dsimp only at h; split at h <;> cases h
def realB (r : Rec) : Bool := !(r.kind == 1 || r.kind == 7)
def wkfR (wk : Nat) (r : Rec) : Nat := (r.page.tmod (wk : Int)).toNat
def stpR (o : Option Nd) (r : Rec) : Option Nd := some (apN (o.getD zn) o.isSome r)
/-- The last LSN, of the first k records, at which a point may be consistent. -/
def ptI (rs : List Rec) (last : Int) : Nat → Int
  | 0 => last
  | k + 1 => match rs[k]? with
    | some r => if realB r = true then ptI rs last k else last + k + 1
    | none => ptI rs last k
theorem ptI_le (rs : List Rec) (last : Int) (k : Nat) : last ≤ ptI rs last k ∧ ptI rs last k ≤ last + k := by
  induction k with
  | zero => exact ⟨Int.le_refl _, by unfold ptI; omega⟩
  | succ k ih =>
    unfold ptI
    cases rs[k]? with
    | none => dsimp only; omega
    | some r => dsimp only; split <;> omega
def wgAt (rs : List Rec) (last : Int) (k : Nat) : Wg := (rs[k]?.getD rec0, ptI rs last k)
/-- How a replay stands of which the first f records are fed and those are done that dn names. -/
structure RInv (rs : List Rec) (last : Int) (wk : Nat) (P0 : Int → Option Nd) (R : RSt) (dn : Nat → Bool) (f : Nat) : Prop where
  le : f ≤ rs.length
  wkE : R.wk = wk
  fed : R.fed = last + f
  pt : R.point = ptI rs last f
  top : ∀ j i, j < f → ymW rs realB (wkfR wk) i j = true → dn j = true → last + j + 1 ≤ R.top
  que : ∀ i, i < wk → R.L i = (ymQ rs realB (wkfR wk) dn f i).map (wgAt rs last)
  pg : ∀ x, R.pg x = ymD rs realB (·.page) stpR P0 dn f x
  ahd : YmAhd rs realB (wkfR wk) dn f
  no : ∀ j, f ≤ j → dn j = false
theorem RInv.start (rs : List Rec) (last : Int) (wk : Nat) (P0 : Int → Option Nd) : RInv rs last wk P0 (mkR wk last P0) (fun _ => false) 0 :=
  ⟨Nat.zero_le _, rfl, by simp [mkR], rfl, fun j i hj => by omega, fun i _ => rfl, fun x => rfl, fun j k i _ hk => by omega, fun j _ => rfl⟩
section
variable {rs : List Rec} {last : Int} {wk : Nat} {P0 : Int → Option Nd} {R : RSt} {dn : Nat → Bool} {f : Nat}
theorem RInv.feed (h : RInv rs last wk P0 R dn f) {r : Rec} (hr : rs[f]? = some r) (hl : r.lsn = last + f + 1) : RInv rs last wk P0 (feedR R r) dn (f + 1) := by
  have hf := (List.getElem?_eq_some_iff.1 hr).1
  have hd := h.no f (Nat.le_refl _)
  unfold feedR
  by_cases hk : r.kind = 1 ∨ r.kind = 7
  · have hre : realB r = false := by unfold realB; rcases hk with e | e <;> simp [e]
    have hs : ∀ i, ymW rs realB (wkfR wk) i f = false := fun i => by unfold ymW; rw [hr]; simp [hre]
    rw [if_pos hk]
    refine ⟨by omega, h.wkE, by simp [hl]; omega, ?_, fun j i hj hs' hd' => ?_, fun i hi => ?_, fun x => ?_, h.ahd.feed hd, fun j hj => h.no j (by omega)⟩
    · show r.lsn = ptI rs last (f + 1)
      unfold ptI
      rw [hr]
      dsimp only
      rw [if_neg (by rw [hre]; decide), hl]
    · by_cases e : j = f
      · subst e; rw [hd] at hd'; cases hd'
      · exact h.top j i (by omega) hs' hd'
    · rw [ymQ_feed hd, if_neg (by rw [hs]; decide)]; exact h.que i hi
    · rw [ymD_feed hd]; exact h.pg x
  · have hre : realB r = true := by
      unfold realB
      simp only [not_or] at hk
      simp [hk.1, hk.2]
    rw [if_neg hk]
    have hs : ymW rs realB (wkfR wk) (r.page.tmod (wk : Int)).toNat f = true := ymW_of hr hre
    refine ⟨by omega, h.wkE, by simp [hl]; omega, ?_, fun j i hj hs' hd' => ?_, fun i hi => ?_, fun x => ?_, h.ahd.feed hd, fun j hj => h.no j (by omega)⟩
    · show R.point = ptI rs last (f + 1)
      unfold ptI
      rw [hr]
      dsimp only
      rw [if_pos hre]; exact h.pt
    · by_cases e : j = f
      · subst e; rw [hd] at hd'; cases hd'
      · exact h.top j i (by omega) hs' hd'
    · show qupd R.L (r.page.tmod R.wk).toNat _ i = _
      rw [h.wkE]
      rw [ymQ_feed hd]
      unfold qupd
      by_cases e : i = (r.page.tmod (wk : Int)).toNat
      · subst e
        rw [if_pos rfl, if_pos hs, List.map_append, h.que _ hi]
        congr 1
        unfold wgAt
        simp [hr, h.pt]
      · rw [if_neg e, if_neg ?_]
        · exact h.que i hi
        · intro hs'
          obtain ⟨r1, a1, _, a3⟩ := ymW_some hs'
          rw [hr] at a1; cases a1
          exact e a3.symm
    · rw [ymD_feed hd]; exact h.pg x
/-- All that may be asked of the records: each is right, has its LSN, and can be done where it is reached. -/
structure AllOk (rs : List Rec) (last : Int) (P0 : Int → Option Nd) : Prop where
  lsn : ∀ (k : Nat) (r : Rec), rs[k]? = some r → r.lsn = last + k + 1
  ok : ∀ (k : Nat) (r : Rec), rs[k]? = some r → realB r = true → apE ((ymS rs realB (·.page) stpR P0 k r.page).getD zn) (ymS rs realB (·.page) stpR P0 k r.page).isSome r = 0
theorem RInv.head (h : RInv rs last wk P0 R dn f) {i : Nat} (hi : i < wk) {x : Wg} {t : List Wg} (hL : R.L i = x :: t) : ∃ k r t', ymQ rs realB (wkfR wk) dn f i = k :: t' ∧ rs[k]? = some r ∧ k < f ∧ realB r = true ∧ x = (r, ptI rs last k) ∧ t = t'.map (wgAt rs last) := by
  rw [h.que i hi] at hL
  cases hq : ymQ rs realB (wkfR wk) dn f i with
  | nil => rw [hq] at hL; cases hL
  | cons k t' =>
    rw [hq, List.map_cons] at hL
    obtain ⟨e1, e2⟩ := List.cons.inj hL
    have hd := ym_did (P0 := P0) (stp := stpR) (pag := fun r : Rec => r.page) (fun r r' e => by unfold wkfR; rw [e]) h.ahd hq
    obtain ⟨r, a1, a2, a3⟩ := ymW_some hd.sel
    refine ⟨k, r, t', rfl, a1, hd.lt, a2, ?_, e2.symm⟩
    rw [← e1]; unfold wgAt; rw [a1]; rfl
theorem RInv.work (h : RInv rs last wk P0 R dn f) (ho : AllOk rs last P0) {i : Nat} (hi : i < wk) {x : Wg} {t : List Wg} (hL : R.L i = x :: t) :
    apE ((R.pg x.1.page).getD zn) (R.pg x.1.page).isSome x.1 = 0 ∧ ∃ k, RInv rs last wk P0 (workR R i x t (apN ((R.pg x.1.page).getD zn) (R.pg x.1.page).isSome x.1)) (ymDn dn k) f := by
  obtain ⟨k, r, t', hq, hr, hkf, hre, rfl, rfl⟩ := h.head hi hL
  have hd := ym_did (P0 := P0) (stp := stpR) (pag := fun r : Rec => r.page) (fun r r' e => by unfold wkfR; rw [e]) h.ahd hq
  have hsp := ymP_of (pag := fun r : Rec => r.page) hr hre
  have hpg : R.pg r.page = ymS rs realB (·.page) stpR P0 k r.page := (h.pg _).trans (hd.was _ hsp)
  dsimp only
  rw [hpg]
  refine ⟨ho.ok k r hr hre, k, ⟨h.le, h.wkE, h.fed, h.pt, fun j i' hj hs hdj => ?_, fun j hj => ?_, fun y => ?_, hd.ahd, fun j hj => ?_⟩⟩
  · show last + j + 1 ≤ max R.top r.lsn
    unfold ymDn at hdj
    simp only [Bool.or_eq_true, beq_iff_eq] at hdj
    rcases hdj with e | rfl
    · have := h.top j i' hj hs e; omega
    · have := ho.lsn j r hr; omega
  · show qupd R.L i _ j = _
    unfold qupd
    by_cases e : j = i
    · subst e; rw [if_pos rfl, hd.wait]
    · rw [if_neg e, hd.others j e]; exact h.que j hj
  · show pupd R.pg r.page _ y = _
    unfold pupd
    by_cases e : y = r.page
    · subst e
      rw [if_pos rfl, hd.now _ hsp]
      unfold ymK
      rw [hr]
      rfl
    · rw [if_neg e, hd.stay y ?_]
      · exact h.pg y
      · cases hs : ymP rs realB (fun r : Rec => r.page) y k
        · rfl
        · exact absurd (ymPW hr hs).2.symm e
  · unfold ymDn
    rw [h.no j hj]
    simp; omega
/-- At a consistent point the pages are those of the records up to it. -/
theorem RInv.point (h : RInv rs last wk P0 R dn f) (ho : AllOk rs last P0) (hw : ∀ r ∈ rs, realB r = true → wkfR wk r < wk) (ht : ¬ pointR R < R.top) : ∃ m : Nat, m ≤ f ∧ pointR R = last + m ∧ ∀ x, R.pg x = ymS rs realB (·.page) stpR P0 m x := by
  have key : ∀ m : Nat, m ≤ f → pointR R = last + m → (∀ j i, j < m → j < f → ymW rs realB (wkfR wk) i j = true → dn j = true) → ∀ x, R.pg x = ymS rs realB (·.page) stpR P0 m x := by
    intro m hm he hb x
    rw [h.pg x]
    refine ymD_upto hm fun j hj hs => ?_
    obtain ⟨r, a1, a2, a3⟩ := ymP_some hs
    have hsw : ymW rs realB (wkfR wk) (wkfR wk r) j = true := ymW_of a1 a2
    constructor
    · intro hd
      have := h.top j _ hj hsw hd
      omega
    · intro hlt
      exact hb j _ hlt hj hsw
  have hwait : ∀ j i, j < f → ymW rs realB (wkfR wk) i j = true → dn j = false → i < wk ∧ ∃ y, (R.L i).head? = some y ∧ y.1.lsn ≤ last + j + 1 := by
    intro j i hj hs hd
    obtain ⟨r, a1, a2, a3⟩ := ymW_some hs
    have hi : i < wk := by rw [← a3]; exact hw r (List.mem_of_getElem? a1) a2
    refine ⟨hi, ?_⟩
    have hmem : j ∈ ymQ rs realB (wkfR wk) dn f i := List.mem_filter.2 ⟨List.mem_range.2 hj, by simp [hs, hd]⟩
    rw [h.que i hi]
    cases hq : ymQ rs realB (wkfR wk) dn f i with
    | nil => rw [hq] at hmem; cases hmem
    | cons k t =>
      refine ⟨wgAt rs last k, rfl, ?_⟩
      obtain ⟨h1, h2, h3, _⟩ := ym_head hq
      have hkj : k ≤ j := by
        by_cases e : j < k
        · have := h3 j e; simp [hs, hd] at this
        · omega
      simp only [Bool.and_eq_true] at h2
      obtain ⟨r1, b1, _, _⟩ := ymW_some h2.1
      have := ho.lsn k r1 b1
      unfold wgAt
      rw [b1]
      show r1.lsn ≤ _
      omega
  cases hn : nextR R with
  | none =>
    have hpr : pointR R = ptI rs last f := by unfold pointR; rw [hn]; exact h.pt
    have hle := ptI_le rs last f
    refine ⟨(pointR R - last).toNat, by omega, by omega, key _ (by omega) (by omega) fun j i _ hj hs => ?_⟩
    cases hd : dn j
    · obtain ⟨hi, y, hy, _⟩ := hwait j i hj hs hd
      unfold nextR at hn
      rw [h.wkE] at hn
      rw [next_none hn i hi] at hy
      cases hy
    · rfl
  | some x =>
    have hn' := hn
    unfold nextR at hn'
    rw [h.wkE] at hn'
    obtain ⟨⟨i, hi, hx⟩, hmin⟩ := next_some hn'
    obtain ⟨t, hL⟩ : ∃ t, R.L i = x :: t := by
      cases hl : R.L i with
      | nil => rw [hl] at hx; cases hx
      | cons y t => rw [hl] at hx; cases hx; exact ⟨t, rfl⟩
    obtain ⟨k, r, t', hq, hr, hkf, hre, rfl, rfl⟩ := h.head hi hL
    have hpr : pointR R = ptI rs last k := by unfold pointR; rw [hn]; rfl
    have hle := ptI_le rs last k
    refine ⟨(pointR R - last).toNat, by omega, by omega, key _ (by omega) (by omega) fun j i' hjm hj hs => ?_⟩
    cases hd : dn j
    · obtain ⟨hi', y, hy, hyl⟩ := hwait j i' hj hs hd
      have := hmin i' hi' y hy
      have := ho.lsn k r hr
      dsimp only at *
      omega
    · rfl
/-- Behind all. -/
theorem RInv.all (h : RInv rs last wk P0 R dn rs.length) (hw : ∀ r ∈ rs, realB r = true → wkfR wk r < wk) (hq : ∀ i, i < wk → R.L i = []) : nextR R = none ∧ doneR R = last + rs.length ∧ ∀ x, R.pg x = ymS rs realB (·.page) stpR P0 rs.length x := by
  have hn : nextR R = none := by
    cases hn : nextR R with
    | none => rfl
    | some x =>
      have hn' := hn
      unfold nextR at hn'
      rw [h.wkE] at hn'
      obtain ⟨⟨i, hi, hx⟩, _⟩ := next_some hn'
      rw [hq i hi] at hx; cases hx
  refine ⟨hn, by unfold doneR; rw [hn]; exact h.fed, fun x => ?_⟩
  rw [h.pg x]
  refine ymD_upto (Nat.le_refl _) fun j hj hs => ⟨fun _ => hj, fun _ => ?_⟩
  obtain ⟨r, a1, a2, a3⟩ := ymP_some hs
  cases hd : dn j
  · have hi := hw r (List.mem_of_getElem? a1) a2
    have hmem : j ∈ ymQ rs realB (wkfR wk) dn rs.length (wkfR wk r) := List.mem_filter.2 ⟨List.mem_range.2 hj, by simp [ymW_of a1 a2, hd]⟩
    have := h.que _ hi
    rw [hq _ hi] at this
    rw [List.map_eq_nil_iff.1 this.symm] at hmem
    cases hmem
  · rfl
end
end Go.Proofs.YtkibbojiflklpaaGreat

/- What the records of a replay in order make of each page. -/
namespace Go.Proofs.YtkibbojiflklpaaGreat
open Go.RowKit Go.Shelf

theorem erec_rok {r : Rec} (h : rok r = true) : erec r = 0 := erec_yes h
theorem ap_idle {ps : List (Int × Nd)} {r : Rec} (h : rok r = true) (hr : realB r = false) (hp : PsOk ps) : apE (nodeP ps r.page) (hasP ps r.page) r = 1 := by
  have hk : r.kind = 7 ∨ r.kind = 1 := by
    unfold realB at hr
    simp at hr
    omega
  have hs : suitB r = true := by
    unfold rok at h
    simp only [Bool.and_eq_true] at h
    exact h.2.2
  have hpg : r.page = 0 := by
    unfold suitB at hs
    rcases hk with e | e
    · rw [if_pos e] at hs
      simp only [Bool.and_eq_true, beq_iff_eq] at hs
      exact hs.1
    · rw [if_neg (by omega), if_pos e] at hs
      simp only [Bool.and_eq_true, beq_iff_eq] at hs
      exact hs.2.1
  have hh : hasP ps r.page = false := by
    rw [(lk_has r.page hp.1).1]
    cases hl : (lk ps r.page).isSome
    · rfl
    · have := hp.2 _ (lk_mem.1 hl)
      omega
  have hpre : preE (nodeP ps r.page) (hasP ps r.page) r = 1 := by
    unfold preE
    rw [hh, erec_yes h]
    simp only [firstE]
    have : needE r.kind false = 1 := by
      unfold needE
      rw [if_neg (by omega), if_neg (by omega)]
    rw [this]
    rfl
  unfold apE
  rw [hpre]
  rfl
theorem ap_real {n : Nd} {b : Bool} {r : Rec} (h : rok r = true) (hr : realB r = true) : apE n b r ≠ 1 := by
  have hk : ¬ r.kind = 7 ∧ ¬ r.kind = 1 := by
    unfold realB at hr
    simp at hr
    omega
  have hs : suitB r = true := by
    unfold rok at h
    simp only [Bool.and_eq_true] at h
    exact h.2.2
  have hk2 : r.kind = 2 ∨ r.kind = 3 ∨ r.kind = 4 ∨ r.kind = 5 ∨ r.kind = 6 := by
    unfold suitB at hs
    rw [if_neg hk.1, if_neg hk.2] at hs
    by_cases e2 : r.kind = 2
    · exact .inl e2
    · by_cases e3 : r.kind = 3
      · exact .inr (.inl e3)
      · by_cases e4 : r.kind = 4
        · exact .inr (.inr (.inl e4))
        · by_cases e5 : r.kind = 5 ∨ r.kind = 6
          · exact .inr (.inr (.inr e5))
          · rw [if_neg e2, if_neg e3, if_neg e4, if_neg e5] at hs
            simp at hs
  have hn : needE r.kind b ≠ 1 := by
    unfold needE
    by_cases e4 : r.kind = 4
    · rw [if_pos e4]; decide
    · rw [if_neg e4, if_pos (by omega)]
      cases b <;> decide
  have hp : preE n b r ≠ 1 := by
    unfold preE
    rw [erec_yes h]
    simp only [firstE, if_true]
    unfold rgE
    cases b <;> cases rightB n <;> simp <;> omega
  unfold apE
  by_cases e : preE n b r = 0
  · rw [if_pos e]
    cases oldB n b r
    · by_cases c : chE n r = 0 <;> simp [c]
    · simp
  · rw [if_neg e]; exact hp
theorem rpl_snoc (ps : List (Int × Nd)) (rs : List Rec) (r : Rec) {q : List (Int × Nd)} (h : rplP ps rs = (q, 0)) : rplP ps (rs ++ [r]) = if rpE q r = 0 then (rpP q r, 0) else ([], rpE q r) := by
  induction rs generalizing ps with
  | nil =>
    cases h
    rfl
  | cons a rs ih =>
    show (if rpE ps a = 0 then rplP (rpP ps a) (rs ++ [r]) else ([], rpE ps a)) = _
    have h' : (if rpE ps a = 0 then rplP (rpP ps a) rs else ([], rpE ps a)) = (q, 0) := h
    by_cases e : rpE ps a = 0
    · rw [if_pos e] at h' ⊢; exact ih _ h'
    · rw [if_neg e] at h'
      exact absurd (congrArg Prod.snd h') e
/-- One record: which node each page has behind it. -/
theorem lk_step {q : List (Int × Nd)} (hq : PsOk q) {r : Rec} (hr : rok r = true) (h0 : rpE q r = 0) : (realB r = false → rpP q r = q) ∧ (realB r = true → apE ((lk q r.page).getD zn) (lk q r.page).isSome r = 0 ∧ ∀ y, lk (rpP q r) y = pupd (lk q) r.page (apN ((lk q r.page).getD zn) (lk q r.page).isSome r) y) := by
  obtain ⟨e1, e2⟩ := lk_has r.page hq.1
  refine ⟨fun hre => ?_, fun hre => ?_⟩
  · exact (rp_arg rfl rfl (ap_idle hr hre hq)).2
  · have hne := ap_real (n := nodeP q r.page) (b := hasP q r.page) hr hre
    have h00 : apE (nodeP q r.page) (hasP q r.page) r = 0 := by
      unfold rpE at h0; rwa [if_neg hne] at h0
    rw [← e1, ← e2]
    refine ⟨h00, fun y => ?_⟩
    cases hb : hasP q r.page
    · rw [hb] at h00
      rw [(rp_ins hb rfl h00).2, lk_ins _ y hq.1 hb]
    · rw [hb] at h00
      rw [(rp_set hb rfl h00).2, lk_set _ y hq.1 hb]
theorem rpl_take {ps qs : List (Int × Nd)} {rs : List Rec} (hp : PsOk ps) (hr : ∀ r ∈ rs, rok r = true) (h : rplP ps rs = (qs, 0)) (m : Nat) (hm : m ≤ rs.length) : ∃ q, rplP ps (rs.take m) = (q, 0) ∧ rplP q (rs.drop m) = (qs, 0) ∧ PsOk q ∧ (∀ x, lk q x = ymS rs realB (·.page) stpR (lk ps) m x) := by
  induction m with
  | zero => exact ⟨ps, rfl, h, hp, fun x => rfl⟩
  | succ m ih =>
    obtain ⟨q, h1, h2, h3, h4⟩ := ih (by omega)
    obtain ⟨r, hrm⟩ : ∃ r, rs[m]? = some r := ⟨_, List.getElem?_eq_getElem (by omega)⟩
    have hrok := hr r (List.mem_of_getElem? hrm)
    rw [rpl_next q hrm] at h2
    have h0 : rpE q r = 0 := by
      by_cases e : rpE q r = 0
      · exact e
      · rw [if_neg e] at h2; exact absurd (congrArg Prod.snd h2) e
    rw [if_pos h0] at h2
    obtain ⟨s1, s2⟩ := lk_step h3 hrok h0
    refine ⟨rpP q r, ?_, h2, h3.step r h0, fun x => ?_⟩
    · rw [List.take_add_one, hrm]
      show rplP ps (rs.take m ++ [r]) = _
      rw [rpl_snoc ps _ r h1, if_pos h0]
    · rw [ymS_succ]
      by_cases hre : realB r = true
      · obtain ⟨_, s3⟩ := s2 hre
        rw [s3 x]
        unfold pupd
        by_cases e : x = r.page
        · subst e
          rw [if_pos rfl, if_pos (ymP_of (pag := fun r : Rec => r.page) hrm hre)]
          unfold ymK
          rw [hrm, h4 r.page]
          rfl
        · rw [if_neg e, if_neg ?_, h4 x]
          intro hs
          exact e (ymPW hrm hs).2.symm
      · have hre' : realB r = false := by simpa using hre
        rw [s1 hre', h4 x, if_neg ?_]
        intro hs
        exact hre (ymPW hrm hs).1
theorem rpl_ok {ps qs : List (Int × Nd)} {rs : List Rec} {last : Int} (hp : PsOk ps) (hr : ∀ r ∈ rs, rok r = true) (hl : ∀ (k : Nat) (r : Rec), rs[k]? = some r → r.lsn = last + k + 1) (h : rplP ps rs = (qs, 0)) : AllOk rs last (lk ps) := by
  refine ⟨hl, fun k r hk hre => ?_⟩
  obtain ⟨q, h1, h2, h3, h4⟩ := rpl_take hp hr h k (by have := (List.getElem?_eq_some_iff.1 hk).1; omega)
  rw [rpl_next q hk] at h2
  have h0 : rpE q r = 0 := by
    by_cases e : rpE q r = 0
    · exact e
    · rw [if_neg e] at h2; exact absurd (congrArg Prod.snd h2) e
  have := ((lk_step h3 (hr r (List.mem_of_getElem? hk)) h0).2 hre).1
  rw [h4 r.page] at this
  exact this
end Go.Proofs.YtkibbojiflklpaaGreat
