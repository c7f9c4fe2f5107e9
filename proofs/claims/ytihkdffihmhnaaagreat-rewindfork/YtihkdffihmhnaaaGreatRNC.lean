
/- RsMath, RwMath. -/
import Derived.Test.YtihkdffihmhnaaaGreatBB33
import Derived.Test.YtihkdffihmhnaaaGreatRN5
/- What was replayed is not done again. -/
namespace Go.Proofs.YtihkdffihmhnaaaGreat
open Go.RowKit

/-- A record that a page is behind. -/
def Past (o : Option Nd) (r : Rec) : Prop := rok r = true ∧ ((∀ b, needE r.kind b = 1) ∨ (needE r.kind true = 0 ∧ ∃ n, o = some n ∧ r.lsn ≤ n.lsn))
theorem ap_cases {n : Nd} {b : Bool} {r : Rec} (h : (if apE n b r = 1 then 0 else apE n b r) = 0) : apE n b r = 1 ∨ apE n b r = 0 := by
  by_cases e : apE n b r = 1
  · exact .inl e
  · rw [if_neg e] at h; exact .inr h
theorem need_one {k : Int} {b : Bool} (h : needE k b = 1) : ∀ c, needE k c = 1 := by
  intro c
  unfold needE at h ⊢
  by_cases h4 : k = 4
  · rw [if_pos h4] at h; cases h
  · rw [if_neg h4] at h ⊢
    by_cases h2 : k = 2 ∨ k = 3 ∨ k = 5 ∨ k = 6
    · rw [if_pos h2] at h
      cases b <;> simp at h
    · rw [if_neg h2]
theorem need_yes {k : Int} {b : Bool} (h : needE k b = 0) : needE k true = 0 := by
  unfold needE at h ⊢
  by_cases h4 : k = 4
  · rw [if_pos h4]
  · rw [if_neg h4] at h ⊢
    by_cases h2 : k = 2 ∨ k = 3 ∨ k = 5 ∨ k = 6
    · rw [if_pos h2, if_pos rfl]
    · rw [if_neg h2] at h; cases h
theorem pre_zero {n : Nd} {b : Bool} {r : Rec} (h : apE n b r = 0) : preE n b r = 0 := by
  unfold apE at h
  by_cases e : preE n b r = 0
  · exact e
  · rw [if_neg e] at h; exact absurd h e
theorem ap_one {n : Nd} {b : Bool} {r : Rec} (h : apE n b r = 1) : rok r = true ∧ needE r.kind b = 1 := by
  have hp : preE n b r = 1 := by
    unfold apE at h
    by_cases e : preE n b r = 0
    · rw [if_pos e] at h
      split at h
      · cases h
      · split at h <;> cases h
    · rw [if_neg e] at h; exact h
  unfold preE at hp
  simp only [firstE] at hp
  by_cases h1 : erec r = 0
  · rw [if_pos h1] at hp
    have hr : rok r = true := by
      cases hr : rok r
      · rw [erec_no hr] at h1; cases h1
      · rfl
    refine ⟨hr, ?_⟩
    by_cases h2 : (if b = true then rgE n else 0) = 0
    · rw [if_pos h2] at hp
      by_cases h3 : needE r.kind b = 0
      · rw [if_pos h3] at hp; cases hp
      · rw [if_neg h3] at hp; exact hp
    · rw [if_neg h2] at hp
      exfalso
      split at hp
      · unfold rgE at hp
        split at hp <;> cases hp
      · cases hp
  · rw [if_neg h1] at hp
    exfalso
    unfold erec at hp
    split at hp <;> cases hp
/-- What a record that is done makes of a page's LSN. -/
theorem ap_lsn {n : Nd} {b : Bool} {r : Rec} (h : apE n b r = 0) : (apN n b r = n ∧ b = true ∧ r.lsn ≤ n.lsn) ∨ ((apN n b r).lsn = r.lsn ∧ (b = true → n.lsn < r.lsn)) := by
  have hp := pre_zero h
  cases ho : oldB n b r
  · have hc : chE n r = 0 := by
      by_cases e : chE n r = 0
      · exact e
      · rw [(ap_bad hp ho e).2.2] at h; cases h
    refine .inr ⟨by rw [(ap_ok hp ho hc).1]; rfl, fun hb => ?_⟩
    unfold oldB at ho
    rw [hb] at ho
    simp at ho
    omega
  · refine .inl ⟨(ap_old hp ho).1, ?_⟩
    unfold oldB at ho
    simpa using ho
theorem past_step {o : Option Nd} {r : Rec} (h : st1E o r = 0) : Past (st1 o r) r := by
  rcases ap_cases h with e | e
  · obtain ⟨h1, h2⟩ := ap_one e
    exact ⟨h1, .inl (need_one h2)⟩
  · obtain ⟨h1, _, h3⟩ := pre_ok (pre_zero e)
    refine ⟨h1, .inr ⟨need_yes h3, _, if_neg (by rw [e]; decide), ?_⟩⟩
    rcases ap_lsn e with ⟨e1, _, e3⟩ | ⟨e1, _⟩
    · rw [e1]; exact e3
    · rw [e1]; omega
theorem past_keep {o : Option Nd} {r x : Rec} (h : st1E o r = 0) (p : Past o x) : Past (st1 o r) x := by
  refine ⟨p.1, ?_⟩
  rcases p.2 with p | ⟨p1, n, rfl, p2⟩
  · exact .inl p
  · refine .inr ⟨p1, ?_⟩
    rcases ap_cases h with e | e
    · exact ⟨n, if_pos e, p2⟩
    · refine ⟨_, if_neg (by rw [e]; decide), ?_⟩
      rcases ap_lsn e with ⟨e1, _, _⟩ | ⟨e1, e2⟩
      · rw [e1]; exact p2
      · have := e2 rfl
        rw [e1]
        have h3 : (some n).getD zn = n := rfl
        rw [h3] at this
        omega
theorem past_none {o : Option Nd} {x : Rec} (p : Past o x) (hr : ∀ n, o = some n → rightB n = true) : st1E o x = 0 ∧ st1 o x = o := by
  have he : erec x = 0 := erec_yes p.1
  have hg : (if o.isSome = true then rgE (o.getD zn) else 0) = 0 := by
    cases o with
    | none => rfl
    | some n =>
      show (if true = true then rgE n else 0) = 0
      rw [if_pos rfl]
      unfold rgE
      rw [hr n rfl]; rfl
  rcases p.2 with p | ⟨p1, n, rfl, p2⟩
  · have hp : preE (o.getD zn) o.isSome x = 1 := by
      unfold preE
      simp only [firstE]
      rw [if_pos he, if_pos hg, p, if_neg (by decide)]
    have ha := (ap_err hp (by decide)).2.2
    unfold st1E st1
    rw [if_pos ha, if_pos ha]
    exact ⟨rfl, rfl⟩
  · have hp : preE n true x = 0 := by
      unfold preE
      simp only [firstE]
      have hg2 : rgE n = 0 := hg
      simp [he, hg2, p1]
    have ho : oldB n true x = true := by unfold oldB; simpa using p2
    obtain ⟨a1, _, a3⟩ := ap_old hp ho
    unfold st1E st1
    show (if apE n true x = 1 then 0 else apE n true x) = 0 ∧ (if apE n true x = 1 then some n else some (apN n true x)) = some n
    rw [a3, a1]
    exact ⟨rfl, rfl⟩
theorem past_rp {ps : List (Int × Nd)} (h : PsOk ps) {r x : Rec} (h0 : rpE ps r = 0) (p : x = r ∨ Past (getP ps x.page) x) : Past (getP (rpP ps r) x.page) x := by
  have h1 : st1E (getP ps r.page) r = 0 := by rw [← rp_st h.1 r]; exact h0
  rw [rp_get h.1 r h0]
  rcases p with rfl | p
  · rw [if_pos rfl]; exact past_step h1
  · by_cases e : x.page = r.page
    · rw [if_pos e]; rw [e] at p; exact past_keep h1 p
    · rw [if_neg e]; exact p
theorem rpl_past {rs : List Rec} : ∀ {ps qs : List (Int × Nd)}, PsOk ps → rplP ps rs = (qs, 0) → ∀ x, (x ∈ rs ∨ Past (getP ps x.page) x) → Past (getP qs x.page) x := by
  induction rs with
  | nil =>
    intro ps qs _ e x hx
    simp only [rplP, Prod.mk.injEq, and_true] at e
    subst e
    rcases hx with hx | hx
    · cases hx
    · exact hx
  | cons r rs ih =>
    intro ps qs h e x hx
    simp only [rplP] at e
    by_cases h0 : rpE ps r = 0
    · rw [if_pos h0] at e
      refine ih (h.step r h0) e x ?_
      rcases hx with hx | hx
      · rcases List.mem_cons.1 hx with rfl | hx
        · exact .inr (past_rp h h0 (.inl rfl))
        · exact .inl hx
      · exact .inr (past_rp h h0 (.inr hx))
    · rw [if_neg h0] at e
      simp only [Prod.mk.injEq] at e
      exact absurd e.2 h0
/-- Records that all pages are behind change nothing. -/
theorem rpl_again {qs : List (Int × Nd)} (h : PsOk qs) (hr : ∀ p ∈ qs, rightB p.2 = true) : ∀ (rs : List Rec), (∀ x ∈ rs, Past (getP qs x.page) x) → rplP qs rs = (qs, 0) := by
  intro rs
  induction rs with
  | nil => intro _; rfl
  | cons x rs ih =>
    intro hp
    obtain ⟨e1, e2⟩ := past_none (hp x (by simp)) (fun n hn => hr _ (get_some hn))
    have h0 : rpE qs x = 0 := by rw [rp_st h.1 x]; exact e1
    have hq : rpP qs x = qs := by
      refine get_ext _ _ (h.step x h0).1 h.1 (fun y => ?_)
      rw [rp_get h.1 x h0]
      by_cases e : y = x.page
      · rw [if_pos e, e2, e]
      · rw [if_neg e]
    simp only [rplP]
    rw [if_pos h0, hq]
    exact ih (fun y hy => hp y (by simp [hy]))
/-- No page gets an LSN beyond those that were there and those of the records. -/
theorem rp_most {ps : List (Int × Nd)} {r : Rec} {M : Int} (h : ∀ p ∈ ps, p.2.lsn ≤ M) (hM : 0 ≤ M) (hr : r.lsn ≤ M) : ∀ p ∈ rpP ps r, p.2.lsn ≤ M := by
  have hn : (nodeP ps r.page).lsn ≤ M := by
    unfold nodeP
    split
    · cases hp : ps[ahP ps r.page]? with
      | none => exact hM
      | some p => exact h p (List.mem_of_getElem? hp)
    · exact hM
  have ha : ∀ b, (apN (nodeP ps r.page) b r).lsn ≤ M := fun b => by
    unfold apN
    split
    · split
      · exact hn
      · split
        · exact hr
        · exact hM
    · exact hM
  intro p hp
  unfold rpP at hp
  split at hp
  · exact h p hp
  · split at hp
    · split at hp
      · rcases List.mem_or_eq_of_mem_set hp with hp | rfl
        · exact h p hp
        · exact ha _
      · rw [List.mem_append, List.mem_cons] at hp
        rcases hp with hp | rfl | hp
        · exact h p (List.mem_of_mem_take hp)
        · exact ha _
        · exact h p (List.mem_of_mem_drop hp)
    · cases hp
theorem rpl_most {rs : List Rec} {M : Int} (hM : 0 ≤ M) : ∀ {ps qs : List (Int × Nd)}, (∀ p ∈ ps, p.2.lsn ≤ M) → (∀ r ∈ rs, r.lsn ≤ M) → rplP ps rs = (qs, 0) → ∀ p ∈ qs, p.2.lsn ≤ M := by
  induction rs with
  | nil =>
    intro ps qs h _ e
    simp only [rplP, Prod.mk.injEq, and_true] at e
    subst e
    exact h
  | cons r rs ih =>
    intro ps qs h hr e
    simp only [rplP] at e
    by_cases h0 : rpE ps r = 0
    · rw [if_pos h0] at e
      exact ih (rp_most h hM (hr r (by simp))) (fun x hx => hr x (by simp [hx])) e
    · rw [if_neg h0] at e
      simp only [Prod.mk.injEq] at e
      exact absurd e.2 h0
/-- A page that is there stays there. -/
theorem rpl_there {rs : List Rec} {y : Int} : ∀ {ps qs : List (Int × Nd)}, PsOk ps → (getP ps y).isSome = true → rplP ps rs = (qs, 0) → (getP qs y).isSome = true := by
  induction rs with
  | nil =>
    intro ps qs _ h e
    simp only [rplP, Prod.mk.injEq, and_true] at e
    subst e
    exact h
  | cons r rs ih =>
    intro ps qs hk h e
    simp only [rplP] at e
    by_cases h0 : rpE ps r = 0
    · rw [if_pos h0] at e
      refine ih (hk.step r h0) ?_ e
      rw [rp_get hk.1 r h0]
      by_cases e : y = r.page
      · rw [if_pos e]
        unfold st1
        split
        · rw [← e]; exact h
        · rfl
      · rw [if_neg e]; exact h
    · rw [if_neg h0] at e
      simp only [Prod.mk.injEq] at e
      exact absurd e.2 h0
end Go.Proofs.YtihkdffihmhnaaaGreat

/- Pages that are rewound: what a replay of the log's beginning over those that stay comes to. -/
namespace Go.Proofs.YtihkdffihmhnaaaGreat
open Go.RowKit

theorem run1_app (o : Option Nd) (a b : List Rec) : run1 o (a ++ b) = (run1 o a).bind (fun q => run1 q b) := by
  induction a generalizing o with
  | nil => rfl
  | cons r a ih =>
    simp only [List.cons_append, run1]
    split
    · exact ih _
    · rfl
/-- Behind a run each of its records is past. -/
theorem run1_past {rs : List Rec} : ∀ {o q : Option Nd}, run1 o rs = some q → ∀ x, (x ∈ rs ∨ Past o x) → Past q x := by
  induction rs with
  | nil =>
    intro o q h x hx
    simp only [run1, Option.some.injEq] at h
    subst h
    rcases hx with hx | hx
    · cases hx
    · exact hx
  | cons r rs ih =>
    intro o q h x hx
    simp only [run1] at h
    split at h
    · rename_i h0
      refine ih h x ?_
      rcases hx with hx | hx
      · rcases List.mem_cons.1 hx with rfl | hx
        · exact .inr (past_step h0)
        · exact .inl hx
      · exact .inr (past_keep h0 hx)
    · cases h
theorem run1_same {o : Option Nd} (hr : ∀ n, o = some n → rightB n = true) : ∀ rs : List Rec, (∀ x ∈ rs, Past o x) → run1 o rs = some o := by
  intro rs
  induction rs with
  | nil => intro _; rfl
  | cons r rs ih =>
    intro h
    obtain ⟨h1, h2⟩ := past_none (h r (List.mem_cons_self ..)) hr
    simp only [run1]
    rw [if_pos h1, h2]
    exact ih (fun x hx => h x (List.mem_cons_of_mem _ hx))
/-- Of records behind k, a page that is not behind k was not touched. -/
theorem run1_late {k : Int} {rs : List Rec} : ∀ {o : Option Nd} {n : Nd}, (∀ r ∈ rs, k < r.lsn) → run1 o rs = some (some n) → n.lsn ≤ k → o = some n := by
  induction rs with
  | nil => intro o n _ h _; simpa [run1] using h
  | cons r rs ih =>
    intro o n hl h hn
    simp only [run1] at h
    split at h
    · rename_i h0
      have h1 := ih (fun x hx => hl x (List.mem_cons_of_mem _ hx)) h hn
      have hlr := hl r (List.mem_cons_self ..)
      rcases ap_cases h0 with e | e
      · unfold st1 at h1; rw [if_pos e] at h1; exact h1
      · unfold st1 at h1
        rw [if_neg (by rw [e]; decide)] at h1
        simp only [Option.some.injEq] at h1
        rcases ap_lsn e with ⟨e1, e2, e3⟩ | ⟨e1, _⟩
        · rw [e1] at h1
          rw [h1] at e3
          omega
        · rw [h1] at e1; omega
    · cases h
/-- Pages that stay, with the root ahead. -/
def staP (k : Int) (ps : List (Int × Nd)) : List (Int × Nd) := ps.filter fun p => decide (p.2.lsn ≤ k)
def rooB : List (Int × Nd) → Bool
  | [] => false
  | p :: _ => p.1 == 1
def thoP (k : Int) (ps : List (Int × Nd)) : List (Int × Nd) := if rooB (staP k ps) = true then staP k ps else (1, zn) :: staP k ps
def p0 : List (Int × Nd) := [(1, zn)]
theorem p0_ok : PsOk p0 := ⟨by simp [p0], by intro x hx; simp [p0] at hx; omega⟩
theorem get_p0 (x : Int) : getP p0 x = if x = 1 then some zn else none := by
  unfold p0 getP
  by_cases h : x = 1
  · simp [h]
  · rw [if_neg (fun e => h e.symm), if_neg h]; rfl
theorem sta_srt {k : Int} {ps : List (Int × Nd)} (h : PsOk ps) : PsOk (staP k ps) := by
  have hs : (staP k ps).Sublist ps := List.filter_sublist
  exact ⟨h.1.sublist (hs.map _), fun x hx => h.2 x ((hs.map _).subset hx)⟩
theorem get_mem {ps : List (Int × Nd)} (h : PsOk ps) {x : Int} {n : Nd} (hm : (x, n) ∈ ps) : getP ps x = some n := by
  have h1 := h.1
  clear h
  induction ps with
  | nil => cases hm
  | cons p t ih =>
    simp only [List.map_cons, List.pairwise_cons] at h1
    unfold getP
    rcases List.mem_cons.1 hm with rfl | hm
    · rw [if_pos rfl]
    · have := h1.1 x (List.mem_map.2 ⟨(x, n), hm, rfl⟩)
      rw [if_neg (by omega)]
      exact ih hm h1.2
theorem get_sta {k : Int} {ps : List (Int × Nd)} (h : PsOk ps) (x : Int) : getP (staP k ps) x = match getP ps x with | some n => if n.lsn ≤ k then some n else none | none => none := by
  cases hg : getP ps x with
  | some n =>
    have hm := get_some hg
    dsimp only
    by_cases hl : n.lsn ≤ k
    · rw [if_pos hl]
      exact get_mem (sta_srt h) (List.mem_filter.2 ⟨hm, by simpa using hl⟩)
    · rw [if_neg hl]
      cases h2 : getP (staP k ps) x with
      | none => rfl
      | some m =>
        have hm2 := get_some h2
        obtain ⟨h3, h4⟩ := List.mem_filter.1 hm2
        have := get_mem h h3
        rw [hg] at this
        cases this
        simp at h4
        omega
  | none =>
    cases h2 : getP (staP k ps) x with
    | none => rfl
    | some m =>
      have := get_mem h (List.mem_filter.1 (get_some h2)).1
      rw [hg] at this
      cases this
theorem roo_get {ps : List (Int × Nd)} (h : PsOk ps) : rooB ps = (getP ps 1).isSome := by
  cases ps with
  | nil => rfl
  | cons p t =>
    show (p.1 == 1) = (if p.1 = 1 then some p.2 else getP t 1).isSome
    by_cases e : p.1 = 1
    · simp [e]
    · rw [if_neg e, show (p.1 == 1) = false by simpa using e]
      have hp := h.2 p.1 (by simp)
      have h1 := h.1
      simp only [List.map_cons, List.pairwise_cons] at h1
      rw [get_none (fun q hq => by have := h1.1 q.1 (List.mem_map.2 ⟨q, hq, rfl⟩); omega)]
      rfl
theorem tho_ok {k : Int} {ps : List (Int × Nd)} (h : PsOk ps) : PsOk (thoP k ps) := by
  have hs := sta_srt (k := k) h
  unfold thoP
  split
  · exact hs
  · rename_i hr
    rw [roo_get hs] at hr
    refine ⟨?_, fun x hx => ?_⟩
    · simp only [List.map_cons, List.pairwise_cons]
      refine ⟨fun x hx => ?_, hs.1⟩
      have h1 := hs.2 x hx
      by_cases e : x = 1
      · obtain ⟨q, hq, rfl⟩ := List.mem_map.1 hx
        have := get_mem hs (x := q.1) (n := q.2) hq
        rw [e] at this
        rw [this] at hr
        exact absurd rfl hr
      · omega
    · simp only [List.map_cons, List.mem_cons] at hx
      rcases hx with rfl | hx
      · omega
      · exact hs.2 x hx
theorem get_tho {k : Int} {ps : List (Int × Nd)} (h : PsOk ps) (x : Int) : getP (thoP k ps) x = (getP (staP k ps) x).or (getP p0 x) := by
  have hs := sta_srt (k := k) h
  unfold thoP
  split
  · rename_i hr
    rw [roo_get hs] at hr
    cases hg : getP (staP k ps) x with
    | some n => rfl
    | none =>
      rw [get_p0, if_neg (fun e => by rw [e] at hg; rw [hg] at hr; cases hr)]
      rfl
  · rename_i hr
    rw [roo_get hs] at hr
    show (if (1 : Int) = x then some zn else getP (staP k ps) x) = _
    by_cases e : (1 : Int) = x
    · subst e
      rw [if_pos rfl]
      cases hg : getP (staP k ps) 1 with
      | some n => rw [hg] at hr; exact absurd rfl hr
      | none => rw [get_p0, if_pos rfl]; rfl
    · rw [if_neg e, get_p0, if_neg (fun h => e h.symm)]
      cases getP (staP k ps) x <;> rfl
/-- LSNs as they stand in a log. -/
def Lsn (rs : List Rec) : Prop := ∀ (i : Nat) r, rs[i]? = some r → r.lsn = (i : Int) + 1
theorem Lsn.take {rs : List Rec} (h : Lsn rs) (k : Nat) : Lsn (rs.take k) := fun i r hr => by
  rw [List.getElem?_take] at hr
  split at hr
  · exact h i r hr
  · cases hr
theorem Lsn.drop {rs : List Rec} (h : Lsn rs) (k : Nat) : ∀ r ∈ rs.drop k, (k : Int) < r.lsn := by
  intro r hr
  obtain ⟨i, hi⟩ := List.getElem?_of_mem hr
  rw [List.getElem?_drop] at hi
  have := h _ r hi
  omega
theorem rpl_pre {rs : List Rec} (k : Nat) : ∀ {ps qs : List (Int × Nd)}, rplP ps rs = (qs, 0) → ∃ ss, rplP ps (rs.take k) = (ss, 0) ∧ rplP ss (rs.drop k) = (qs, 0) := by
  induction rs generalizing k with
  | nil => intro ps qs h; exact ⟨ps, by simp [rplP], by simpa using h⟩
  | cons r rs ih =>
    intro ps qs h
    cases k with
    | zero => exact ⟨ps, rfl, h⟩
    | succ k =>
      simp only [rplP] at h
      split at h
      · rename_i h0
        obtain ⟨ss, h1, h2⟩ := ih k h
        refine ⟨ss, ?_, h2⟩
        simp only [List.take_succ_cons, rplP]
        rw [if_pos h0]
        exact h1
      · rename_i h0
        simp only [Prod.mk.injEq] at h
        exact absurd h.2 h0
theorem rplok {ps : List (Int × Nd)} (h : PsOk ps) (rs : List Rec) : ∀ {qs}, rplP ps rs = (qs, 0) → PsOk qs := by
  induction rs generalizing ps with
  | nil => intro qs e; simp only [rplP, Prod.mk.injEq, and_true] at e; subst e; exact h
  | cons r rs ih =>
    intro qs e
    simp only [rplP] at e
    split at e
    · rename_i h0; exact ih (h.step r h0) e
    · rename_i h0; simp only [Prod.mk.injEq] at e; exact absurd e.2 h0
/-- REWOUND: pages that came of a log, those that stay, replayed up to there, are those that came of it up to there. -/
theorem rew_eq {rs : List Rec} (hl : Lsn rs) {P : List (Int × Nd)} (h : rplP p0 rs = (P, 0)) (k : Nat) (ha : ariB 0 (thoP k P) = true) : ∃ ss, rplP p0 (rs.take k) = (ss, 0) ∧ rplA (thoP k P) (rs.take k) = (ss, 0) := by
  obtain ⟨ss, h1, h2⟩ := rpl_pre k h
  have hP := rplok p0_ok rs h
  have hS := rplok p0_ok _ h1
  refine ⟨ss, h1, ?_⟩
  unfold rplA
  rw [if_pos ha, rpl_iff _ _ _ (tho_ok hP) hS.1]
  intro x
  have e1 := (rpl_iff _ _ _ p0_ok hS.1).1 h1 x
  have e2 := (rpl_iff _ _ _ hS hP.1).1 h2 x
  rw [get_tho hP, get_sta hP]
  cases hg : getP P x with
  | none => exact e1
  | some n =>
    dsimp only
    by_cases hn : n.lsn ≤ k
    · rw [if_pos hn]
      rw [hg] at e2
      have hs := run1_late (k := k) (fun r hr => hl.drop k r (List.mem_filter.1 hr).1) e2 hn
      rw [hs] at e1 ⊢
      have hrt : rightB n = true := by
        have hm : (x, n) ∈ thoP k P := by
          have hm : (x, n) ∈ staP k P := List.mem_filter.2 ⟨get_some hg, by simpa using hn⟩
          unfold thoP
          split
          · exact hm
          · exact List.mem_cons_of_mem _ hm
        exact (ari_ok 0 _ ha).2.2 _ hm
      exact run1_same (fun m hm => by cases hm; exact hrt) _ (fun r hr => run1_past e1 r (.inl hr))
    · rw [if_neg hn]
      exact e1
/-- What rewinding tells. -/
def ckP (ps : List (Int × Nd)) : Int := ckE (ps.map fun p => (⟨p.1, p.2, zp⟩ : Sl))
theorem ck_ps (ls : List Sl) : ckE ls = ckP (psOf ls) := by
  have e : ls.map nS = (psOf ls).map (fun p => (⟨p.1, p.2, zp⟩ : Sl)) := by unfold psOf; rw [List.map_map]; rfl
  unfold ckP ckE
  rw [← e, leaves_n]
  cases leavesF ls <;> rfl
theorem ck_right {ls : List Sl} (h : ckE ls = 0) : ariB 0 (psOf ls) = true := by
  unfold ckE at h
  split at h
  · rename_i hl
    unfold leavesF at hl
    split at hl
    · assumption
    · cases hl
  · cases h
/-- Whether LSNs stand as in a log. -/
def lsnB : Nat → List Rec → Bool
  | _, [] => true
  | i, r :: rs => decide (r.lsn = (i : Int) + 1) && lsnB (i + 1) rs
theorem lsnB_iff (rs : List Rec) : ∀ j, lsnB j rs = true ↔ ∀ (i : Nat) r, rs[i]? = some r → r.lsn = ((j + i : Nat) : Int) + 1 := by
  induction rs with
  | nil => intro j; simp [lsnB]
  | cons r rs ih =>
    intro j
    simp only [lsnB, Bool.and_eq_true, decide_eq_true_eq, ih]
    constructor
    · rintro ⟨h1, h2⟩ i x hx
      cases i with
      | zero => simp at hx; subst hx; simpa using h1
      | succ i => have := h2 i x (by simpa using hx); rw [show j + (i + 1) = j + 1 + i by omega]; exact this
    · intro h
      refine ⟨by have := h 0 r rfl; simpa using this, fun i x hx => ?_⟩
      have := h (i + 1) x (by simpa using hx)
      rw [show j + (i + 1) = j + 1 + i by omega] at this
      exact this
def rchE (rs : List Rec) (cut : Int) : Int := if lsnB 0 rs = true then (if 0 ≤ cut ∧ cut ≤ rs.length then 0 else 1) else 100
def rewP (ps : List (Int × Nd)) (rs : List Rec) (cut : Int) : List (Int × Nd) × Int :=
  if rchE rs cut = 0 then
    (if (rplA (thoP cut ps) (rs.take cut.toNat)).2 = 0 then (if ckP (rplA (thoP cut ps) (rs.take cut.toNat)).1 = 0 then ((rplA (thoP cut ps) (rs.take cut.toNat)).1, 0) else ([], ckP (rplA (thoP cut ps) (rs.take cut.toNat)).1)) else ([], (rplA (thoP cut ps) (rs.take cut.toNat)).2))
  else ([], rchE rs cut)
theorem rew_zero {ps : List (Int × Nd)} {rs : List Rec} {cut : Int} (h : (rewP ps rs cut).2 = 0) : rchE rs cut = 0 ∧ rplA (thoP cut ps) (rs.take cut.toNat) = ((rewP ps rs cut).1, 0) ∧ ckP (rewP ps rs cut).1 = 0 := by
  unfold rewP at h ⊢
  by_cases h1 : rchE rs cut = 0
  · rw [if_pos h1] at h ⊢
    by_cases h2 : (rplA (thoP cut ps) (rs.take cut.toNat)).2 = 0
    · rw [if_pos h2] at h ⊢
      by_cases h3 : ckP (rplA (thoP cut ps) (rs.take cut.toNat)).1 = 0
      · rw [if_pos h3]
        exact ⟨h1, Prod.ext rfl h2, h3⟩
      · rw [if_neg h3] at h; exact absurd h h3
    · rw [if_neg h2] at h; exact absurd h h2
  · rw [if_neg h1] at h; exact absurd h h1
theorem ari_weak {x y : Int} {ps : List (Int × Nd)} (h : ariB y ps = true) (hx : x ≤ y) : ariB x ps = true := by
  cases ps with
  | nil => rfl
  | cons q t =>
    obtain ⟨z, m⟩ := q
    simp only [ariB, Bool.and_eq_true, decide_eq_true_eq] at h ⊢
    exact ⟨⟨⟨by omega, h.1.1.2⟩, h.1.2⟩, h.2⟩
theorem ari_filter {x : Int} {ps : List (Int × Nd)} (f : Int × Nd → Bool) (h : ariB x ps = true) : ariB x (ps.filter f) = true := by
  induction ps generalizing x with
  | nil => rfl
  | cons q t ih =>
    obtain ⟨z, m⟩ := q
    simp only [ariB, Bool.and_eq_true, decide_eq_true_eq] at h
    rw [List.filter_cons]
    split
    · simp only [ariB, Bool.and_eq_true, decide_eq_true_eq]
      exact ⟨h.1, ih h.2⟩
    · exact ih (ari_weak h.2 (by omega))
theorem zn_right : rightB zn = true := by decide
theorem tho_right {k : Int} {ps : List (Int × Nd)} (h : ariB 0 ps = true) : ariB 0 (thoP k ps) = true := by
  have hs : ariB 0 (staP k ps) = true := ari_filter _ h
  have hp := ari_psok hs
  unfold thoP
  split
  · exact hs
  · rename_i hr
    cases hl : staP k ps with
    | nil => simp [ariB, zn_right]
    | cons p t =>
      rw [hl] at hs hr hp
      obtain ⟨y, n⟩ := p
      simp only [rooB] at hr
      have hy := hp.2 y (by simp)
      simp only [ariB, Bool.and_eq_true, decide_eq_true_eq] at hs ⊢
      have : y ≠ 1 := by simpa using hr
      exact ⟨⟨⟨by omega, by omega⟩, zn_right⟩, ⟨⟨by omega, hs.1.1.2⟩, hs.1.2⟩, hs.2⟩
/-- REWOUND TWICE. -/
theorem rew_twice {rs : List Rec} (hl : Lsn rs) {P : List (Int × Nd)} (h : rplP p0 rs = (P, 0)) {cut fur : Nat} (h1 : cut ≤ rs.length) (h2 : fur ≤ cut) (hf : (rewP P rs cut).2 = 0) (hg : (rewP P rs fur).2 = 0) : rewP (rewP P rs cut).1 (rs.take cut) fur = ((rewP P rs fur).1, 0) := by
  obtain ⟨a1, a2, a3⟩ := rew_zero hf
  obtain ⟨b1, b2, b3⟩ := rew_zero hg
  rw [Int.toNat_natCast] at a2 b2
  have haA : ariB 0 (thoP cut P) = true := by
    cases e : ariB 0 (thoP cut P) with
    | true => rfl
    | false => unfold rplA at a2; rw [e] at a2; simp at a2
  have haB : ariB 0 (thoP fur P) = true := by
    cases e : ariB 0 (thoP fur P) with
    | true => rfl
    | false => unfold rplA at b2; rw [e] at b2; simp at b2
  obtain ⟨sA, e1, e2⟩ := rew_eq hl h cut haA
  obtain ⟨sB, e3, e4⟩ := rew_eq hl h fur haB
  rw [a2] at e2
  rw [b2] at e4
  simp only [Prod.mk.injEq, and_true] at e2 e4
  rw [e2] at a3 ⊢
  rw [e4] at b3 ⊢
  have hr : ariB 0 sA = true := by
    have := ck_right (ls := sA.map fun (p : Int × Nd) => (⟨p.1, p.2, zp⟩ : Sl)) a3
    rw [show psOf (sA.map fun (p : Int × Nd) => (⟨p.1, p.2, zp⟩ : Sl)) = sA by unfold psOf; rw [List.map_map]; exact List.map_id' sA] at this
    exact this
  obtain ⟨sC, e5, e6⟩ := rew_eq (hl.take cut) e1 fur (tho_right hr)
  rw [List.take_take, Nat.min_eq_left h2] at e5 e6
  rw [e3] at e5
  simp only [Prod.mk.injEq, and_true] at e5
  have hlb : lsnB 0 (rs.take cut) = true := (lsnB_iff _ 0).2 (fun i r hr => by rw [Nat.zero_add]; exact hl.take cut i r hr)
  have hrc : rchE (rs.take cut) fur = 0 := by
    unfold rchE
    rw [if_pos hlb, if_pos ⟨by omega, by rw [List.length_take]; omega⟩]
  unfold rewP
  rw [if_pos hrc, Int.toNat_natCast, List.take_take, Nat.min_eq_left h2, e6]
  dsimp only
  rw [if_pos rfl, ← e5, if_pos b3]
end Go.Proofs.YtihkdffihmhnaaaGreat
