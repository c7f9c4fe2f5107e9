
/- FdLst, TcMath, FdArg. -/
import Derived.Test.YthdbkanbgfajbaaGreatTB20
import Derived.Test.YthdbkanbgfajbaaGreatTB13
import Derived.Test.YthdbkanbgfajbaaGreatTB21
import Derived.Test.YthdbkanbgfajbaaGreatTB3
import Derived.Test.YthdbkanbgfajbaaGreatTB1
import Derived.Deep.Strs
/- What follows: what a map has of a key, histories' beginnings. -/
namespace Go.Proofs.YthdbkanbgfajbaaGreat
open Go.RowKit Go.Shelf

theorem sayB_refl (a : Rec) : sayB a a = true := by simp [sayB]
theorem sayB_trans {a b c : Rec} (h1 : sayB a b = true) (h2 : sayB b c = true) : sayB a c = true := by
  simp only [sayB, Bool.and_eq_true, beq_iff_eq] at *
  obtain ⟨a1, a2, a3, a4, a5, a6⟩ := h1
  obtain ⟨b1, b2, b3, b4, b5, b6⟩ := h2
  exact ⟨a1.trans b1, a2.trans b2, a3.trans b3, a4.trans b4, a5.trans b5, a6.trans b6⟩
theorem Ext.trans {a b c : List Rec} (h1 : Ext a b) (h2 : Ext b c) : Ext a c := by
  refine ⟨Nat.le_trans h2.1 h1.1, fun i x z hx hz => ?_⟩
  have hi : i < c.length := (List.getElem?_eq_some_iff.1 hz).1
  have hib : i < b.length := Nat.lt_of_lt_of_le hi h2.1
  have hb : b[i]? = some b[i] := List.getElem?_eq_getElem hib
  exact sayB_trans (h1.2 i x _ hx hb) (h2.2 i _ z hb hz)
theorem ext_take (ls : List Rec) (n : Nat) : Ext (hist ls) (hist (ls.take n)) := by
  have e : hist ls = hist (ls.take n) ++ hist (ls.drop n) := by
    unfold hist
    rw [← List.filter_append, List.take_append_drop]
  refine ⟨by rw [e, List.length_append]; omega, fun i a b ha hb => ?_⟩
  have hi : i < (hist (ls.take n)).length := (List.getElem?_eq_some_iff.1 hb).1
  rw [e, List.getElem?_append_left hi, hb] at ha
  cases ha
  exact sayB_refl _
theorem fnd_snoc (hs : List Rec) (r : Rec) (k : ByteArray) : fnd (beh (hs ++ [r])) k = if k = r.key then (if r.other = 1 then some (r.key, r.val) else none) else fnd (beh hs) k := by
  rw [beh_snoc]
  unfold wth
  rw [fnd_wth (ris_beh hs)]
  by_cases h : r.other = 1 <;> simp [h]
/-- What the last write of a key says. -/
def wnF (hs : List Rec) (k : ByteArray) : Bool := (fnd (beh hs) k).isSome
def wnV (hs : List Rec) (k : ByteArray) : ByteArray := ((fnd (beh hs) k).map (·.2)).getD ⟨#[]⟩
theorem take_one {hs : List Rec} {n : Nat} {r : Rec} (h : hs[n]? = some r) : hs.take (n + 1) = hs.take n ++ [r] := by rw [List.take_add_one, h]; rfl
theorem wn_put {hs : List Rec} {n : Nat} {r : Rec} {k : ByteArray} (h : hs[n]? = some r) (hk : r.key = k) (ho : r.other = 1) : wnF (hs.take (n + 1)) k = true ∧ wnV (hs.take (n + 1)) k = r.val := by
  unfold wnF wnV
  rw [take_one h, fnd_snoc, if_pos hk.symm, if_pos ho]
  exact ⟨rfl, rfl⟩
theorem wn_del {hs : List Rec} {n : Nat} {r : Rec} {k : ByteArray} (h : hs[n]? = some r) (hk : r.key = k) (ho : r.other ≠ 1) : wnF (hs.take (n + 1)) k = false ∧ wnV (hs.take (n + 1)) k = ⟨#[]⟩ := by
  unfold wnF wnV
  rw [take_one h, fnd_snoc, if_pos hk.symm, if_neg ho]
  exact ⟨rfl, rfl⟩
theorem wn_not {hs : List Rec} {n : Nat} {r : Rec} {k : ByteArray} (h : hs[n]? = some r) (hk : r.key ≠ k) : wnF (hs.take (n + 1)) k = wnF (hs.take n) k ∧ wnV (hs.take (n + 1)) k = wnV (hs.take n) k := by
  unfold wnF wnV
  rw [take_one h, fnd_snoc, if_neg (fun e => hk e.symm)]
  exact ⟨rfl, rfl⟩
theorem giv_get (hs : List Rec) (k : ByteArray) : givF ⟨1, k, ⟨#[]⟩⟩ (beh hs) = ⟨wnF hs k, wnV hs k, []⟩ := by
  unfold wnF wnV
  cases h : fnd (beh hs) k with
  | none => rw [givF_none (show (1 : Int) ≠ 4 by decide) h]; rfl
  | some e => rw [givF_some (show (1 : Int) ≠ 4 by decide) h]; rfl
theorem mem_wthG {k v : ByteArray} {e : En} : ∀ {L : List En} {p : Bool}, e ∈ wthG k v p L → e ∈ L ∨ (p = false ∧ e = (k, v))
  | [], p, h => by
    unfold wthG at h
    split at h
    · cases h
    · rename_i hp
      simp at h
      exact .inr ⟨by simpa using hp, h⟩
  | x :: m, p, h => by
    unfold wthG at h
    rcases List.mem_append.1 h with h | h
    · split at h
      · rename_i hp
        simp at h
        exact .inr ⟨hp.1, h⟩
      · cases h
    · rcases List.mem_append.1 h with h | h
      · split at h
        · cases h
        · simp at h
          subst h
          exact .inl (List.mem_cons_self ..)
      · rcases mem_wthG h with h | ⟨h1, h2⟩
        · exact .inl (List.mem_cons_of_mem _ h)
        · refine .inr ⟨?_, h2⟩
          cases p
          · rfl
          · simp at h1
theorem mem_foldl {hs : List Rec} : ∀ {L : List En} {e : En}, e ∈ hs.foldl wth L → e ∈ L ∨ ∃ r ∈ hs, r.other = 1 ∧ e = (r.key, r.val) := by
  induction hs with
  | nil => intro L e h; exact .inl h
  | cons r hs ih =>
    intro L e h
    rcases ih h with h | ⟨x, hx, h1, h2⟩
    · rcases mem_wthG h with h | ⟨h1, h2⟩
      · exact .inl h
      · exact .inr ⟨r, List.mem_cons_self .., by simpa using h1, h2⟩
    · exact .inr ⟨x, List.mem_cons_of_mem _ hx, h1, h2⟩
theorem mem_beh {hs : List Rec} {e : En} (h : e ∈ beh hs) : ∃ r ∈ hs, r.other = 1 ∧ e = (r.key, r.val) := by
  rcases mem_foldl h with h | h
  · cases h
  · exact h
theorem com_parts {r : Rec} (h : comB r = true) (ho : r.other = 1) : ekey r.key.size = 0 ∧ evalu r.val.size = 0 := by
  unfold comB at h
  simp only [Bool.and_eq_true, Bool.or_eq_true, keyB, valB, beq_iff_eq] at h
  obtain ⟨_, _, _, _, h4, _, h6⟩ := h
  refine ⟨h6, ?_⟩
  rcases h4 with ⟨_, h⟩ | ⟨h, _⟩
  · exact h
  · rw [ho] at h; cases h
theorem map_beh (ls : List Rec) : MapOk (beh (hist ls)) := by
  intro j hj e he
  have hm : e ∈ beh (hist ls) := List.mem_of_getElem? he
  obtain ⟨r, hr, ho, rfl⟩ := mem_beh hm
  have hc : comB r = true := (List.mem_filter.1 hr).2
  obtain ⟨h1, h2⟩ := com_parts hc ho
  refine ⟨h1, h2, fun p h0 hp => ?_⟩
  have hR := ris_beh (hist ls)
  obtain ⟨i1, e1⟩ := List.getElem?_eq_some_iff.1 hp
  obtain ⟨i2, e2⟩ := List.getElem?_eq_some_iff.1 he
  have := List.pairwise_iff_getElem.1 hR (j - 1) j i1 i2 (by omega)
  rw [e1, e2] at this
  exact this
theorem ans_get (ls : List Rec) (k : ByteArray) : ansR (beh (hist ls)) ⟨1, k, ⟨#[]⟩⟩ = ⟨wnF (hist ls) k, wnV (hist ls) k, []⟩ ∧ ansE (beh (hist ls)) ⟨1, k, ⟨#[]⟩⟩ = 0 := by
  unfold ansR ansE
  have hm := mapB_yes (map_beh ls)
  rw [if_pos ⟨hm, show kindB 1 = true by decide⟩, if_neg (by rw [hm]; simp), if_neg (show ¬ kindB 1 = false by decide)]
  exact ⟨giv_get _ _, rfl⟩
/-- The records of one key. -/
def owns (ls : List Rec) (k : ByteArray) : List Rec := ls.filter (fun r => decide (r.key = k))
theorem fnd_own {k : ByteArray} {hs : List Rec} : ∀ {L M : List En}, Ris L → Ris M → fnd L k = fnd M k → fnd (hs.foldl wth L) k = fnd ((owns hs k).foldl wth M) k := by
  induction hs with
  | nil => intro L M _ _ h; exact h
  | cons r hs ih =>
    intro L M hL hM h
    unfold owns
    by_cases hk : r.key = k
    · rw [List.filter_cons, if_pos (by simpa using hk)]
      exact ih (ris_wth hL _) (ris_wth hM _) (by unfold wth; rw [fnd_wth hL, fnd_wth hM, if_pos hk.symm, if_pos hk.symm])
    · rw [List.filter_cons, if_neg (by simpa using hk)]
      exact ih (ris_wth hL _) hM (by unfold wth; rw [fnd_wth hL, if_neg (fun e => hk e.symm)]; exact h)
theorem hist_own (ls : List Rec) (k : ByteArray) : hist (owns ls k) = owns (hist ls) k := by
  unfold hist owns
  rw [List.filter_filter, List.filter_filter]
  congr 1
  funext r
  exact Bool.and_comm _ _
theorem wn_own (ls : List Rec) (k : ByteArray) : wnF (hist (owns ls k)) k = wnF (hist ls) k ∧ wnV (hist (owns ls k)) k = wnV (hist ls) k := by
  have : fnd (beh (hist (owns ls k))) k = fnd (beh (hist ls)) k := by
    rw [hist_own]
    exact (fnd_own List.Pairwise.nil List.Pairwise.nil rfl).symm
  unfold wnF wnV
  rw [this]
  exact ⟨rfl, rfl⟩
end Go.Proofs.YthdbkanbgfajbaaGreat

/- Traces that keep the rules: what follows, as plain facts. -/
namespace Go.Proofs.YthdbkanbgfajbaaGreat
open Go.RowKit

/-- What a watcher knows behind steps that it let pass. -/
def bkF (l : List Sn) : Wt := l.foldl brkW wt0
theorem bkF_snoc (l : List Sn) (s : Sn) : bkF (l ++ [s]) = brkW (bkF l) s := by unfold bkF; rw [List.foldl_append]; rfl
theorem take_one_sn {l : List Sn} {n : Nat} {r : Sn} (h : l[n]? = some r) : l.take (n + 1) = l.take n ++ [r] := by rw [List.take_add_one, h]; rfl
theorem bkF_step {l : List Sn} {k : Nat} {s : Sn} (h : l[k]? = some s) : bkF (l.take (k + 1)) = brkW (bkF (l.take k)) s := by rw [take_one_sn h, bkF_snoc]
/-- The first k steps break no rule. -/
def Keeps (l : List Sn) (k : Nat) : Prop := ∀ i s, i < k → l[i]? = some s → brk (bkF (l.take i)) s = 0
/-- What Check tells. -/
def ChkO (l : List Sn) (r i : Int) : Prop := (r = 0 ∧ i = 0 ∧ Keeps l l.length) ∨ (r ≠ 0 ∧ ∃ (k : Nat) (s : Sn), i = k ∧ l[k]? = some s ∧ brk (bkF (l.take k)) s = r ∧ Keeps l k)
theorem keeps_take {l : List Sn} {n k : Nat} (hk : k ≤ n) : Keeps (l.take n) k ↔ Keeps l k := by
  have key : ∀ i s, i < k → (((l.take n)[i]? = some s ↔ l[i]? = some s) ∧ (l.take n).take i = l.take i) := fun i s hi => by
    refine ⟨by rw [List.getElem?_take_of_lt (by omega)], by rw [List.take_take]; congr 1; omega⟩
  constructor
  · intro h i s hi hs
    have := h i s hi ((key i s hi).1.2 hs)
    rwa [(key i s hi).2] at this
  · intro h i s hi hs
    rw [(key i s hi).2]
    exact h i s hi ((key i s hi).1.1 hs)
theorem Keeps.le {l : List Sn} {n k : Nat} (h : Keeps l n) (hk : k ≤ n) : Keeps l k := fun i s hi hs => h i s (by omega) hs
theorem Keeps.succ {l : List Sn} {k : Nat} {s : Sn} (h : Keeps l k) (hs : l[k]? = some s) (hb : brk (bkF (l.take k)) s = 0) : Keeps l (k + 1) := fun i t hi ht => by
  by_cases e : i = k
  · subst e; rw [hs] at ht; cases ht; exact hb
  · exact h i t (by omega) ht
/-- A beginning's answer is the trace's, as far as it goes. -/
theorem begins {l : List Sn} {n : Nat} {a i b k : Int} (hn : n ≤ l.length) (h1 : ChkO l a i) (h2 : ChkO (l.take n) b k) :
    ((a = 0 ∨ (n : Int) ≤ i) → b = 0 ∧ k = 0) ∧ (¬ (a = 0 ∨ (n : Int) ≤ i) → b = a ∧ k = i) := by
  have hl : (l.take n).length = n := by rw [List.length_take]; omega
  rcases h2 with ⟨b0, k0, q⟩ | ⟨bn, k', t, rfl, ht, hb, q⟩
  · refine ⟨fun _ => ⟨b0, k0⟩, fun hno => ?_⟩
    rcases h1 with ⟨a0, _, _⟩ | ⟨an, i', s, rfl, hs, ha, _⟩
    · exact absurd (.inl a0) hno
    · exfalso
      have hi : i' < n := by omega
      have := q i' s (by rw [hl]; exact hi) (by rw [List.getElem?_take_of_lt hi]; exact hs)
      rw [List.take_take, show min i' n = i' by omega, ha] at this
      exact an this
  · have hk : k' < n := by have := (List.getElem?_eq_some_iff.1 ht).1; rw [hl] at this; exact this
    rw [List.getElem?_take_of_lt hk] at ht
    rw [List.take_take, show min k' n = k' by omega] at hb
    rw [keeps_take (by omega)] at q
    rcases h1 with ⟨a0, _, p⟩ | ⟨an, i', s, rfl, hs, ha, p⟩
    · exfalso
      have := p k' t (by omega) ht
      rw [hb] at this; exact bn this
    · have hik : i' = k' := by
        by_cases h : i' < k'
        · have := q i' s h hs; rw [ha] at this; exact absurd this an
        · by_cases h' : k' < i'
          · have := p k' t h' ht; rw [hb] at this; exact absurd this bn
          · omega
      subst hik
      rw [ht] at hs; cases hs
      refine ⟨fun h => ?_, fun _ => ⟨by rw [← hb, ha], rfl⟩⟩
      rcases h with h | h
      · exact absurd h an
      · omega
/-- Of two witnesses each knows the calls of the other. -/
def SameOps (A B : Wt) : Prop := ∀ x, (A.calls x).map (·.op) = (B.calls x).map (·.op)
theorem SameOps.refl (A : Wt) : SameOps A A := fun _ => rfl
theorem SameOps.symm {A B : Wt} (h : SameOps A B) : SameOps B A := fun x => (h x).symm
theorem SameOps.trans {A B C : Wt} (h : SameOps A B) (g : SameOps B C) : SameOps A C := fun x => (h x).trans (g x)
theorem SameOps.none {A B : Wt} (h : SameOps A B) (x : Int) : A.calls x = none ↔ B.calls x = none := by
  have := h x
  cases h1 : A.calls x <;> cases h2 : B.calls x <;> rw [h1, h2] at this <;> simp at this ⊢
theorem SameOps.ack {A B : Wt} (h : SameOps A B) (a : An) : ackB A a = ackB B a := by
  have := h a.req
  unfold ackB
  cases h1 : A.calls a.req <;> cases h2 : B.calls a.req <;> rw [h1, h2] at this <;> simp at this ⊢
  rw [this]
theorem SameOps.see {A B : Wt} (h : SameOps A B) (s : Sn) : SameOps (seeW A s) (seeW B s) := by
  unfold seeW
  split
  · unfold callW
    cases h1 : A.calls s.creq with
    | some c =>
      cases h2 : B.calls s.creq with
      | some d => exact h
      | none => rw [(h.none _).2 h2] at h1; cases h1
    | none =>
      rw [(h.none _).1 h1]
      intro x
      dsimp only
      by_cases e : x = s.creq
      · rw [e, cupd_same, cupd_same]
      · rw [cupd_other _ e, cupd_other _ e]; exact h x
  · split
    · exact h
    · exact h
theorem sameOps_note (A : Wt) (a : An) : SameOps (noteW A a) A := by
  intro x
  unfold noteW
  cases hq : A.calls a.req with
  | none => rfl
  | some c =>
    dsimp only
    by_cases e : x = a.req
    · rw [e, cupd_same, hq]; rfl
    · rw [cupd_other _ e]
theorem sameOps_answ (A : Wt) (s : Sn) (a : An) : SameOps (answW A s a) A := by
  refine (sameOps_note _ _).trans (fun x => ?_)
  rw [(r5W_calls A s a).1]
theorem sameOps_answF (A : Wt) (s : Sn) (l : List An) : SameOps (answF A s l) A := by
  unfold answF
  induction l generalizing A with
  | nil => exact SameOps.refl _
  | cons a l ih => exact (ih _).trans (sameOps_answ _ _ _)
/-- What Acked knows, and what it tells. -/
def akF (l : List Sn) : Wt := l.foldl seeW wt0
def akS (W : Wt) (s : Sn) : List Int := (s.ans.filter (ackB (seeW W s))).map (·.req)
def akL : Wt → List Sn → List Int
  | _, [] => []
  | W, s :: l => akS W s ++ akL (seeW W s) l
theorem akF_snoc (l : List Sn) (s : Sn) : akF (l ++ [s]) = seeW (akF l) s := by unfold akF; rw [List.foldl_append]; rfl
theorem akL_snoc (W : Wt) (l : List Sn) (s : Sn) : akL W (l ++ [s]) = akL W l ++ akS (l.foldl seeW W) s := by
  induction l generalizing W with
  | nil => simp [akL]
  | cons t l ih => simp only [List.cons_append, akL, ih, List.foldl_cons, List.append_assoc]
def ackedL (l : List Sn) : List Int := akL wt0 l
theorem ackedL_step {l : List Sn} {k : Nat} {s : Sn} (h : l[k]? = some s) : ackedL (l.take (k + 1)) = ackedL (l.take k) ++ akS (akF (l.take k)) s := by
  rw [take_one_sn h]; exact akL_snoc _ _ _
theorem akF_step {l : List Sn} {k : Nat} {s : Sn} (h : l[k]? = some s) : akF (l.take (k + 1)) = seeW (akF (l.take k)) s := by rw [take_one_sn h, akF_snoc]
/-- What Open knows. -/
def opS (W : Wt) (s : Sn) : Wt := s.ans.foldl noteW (seeW W s)
def opF (l : List Sn) : Wt := l.foldl opS wt0
theorem opF_step {l : List Sn} {k : Nat} {s : Sn} (h : l[k]? = some s) : opF (l.take (k + 1)) = opS (opF (l.take k)) s := by
  rw [take_one_sn h]; unfold opF; rw [List.foldl_append]; rfl
def ansB (W : Wt) (x : Int) : Bool := match W.calls x with
  | none => false
  | some c => c.ans
def openL (l : List Sn) : List Int := (opF l).order.filter fun x => !ansB (opF l) x
theorem answ_eq {A B : Wt} (hc : A.calls = B.calls) (ho : A.order = B.order) (s : Sn) (a : An) : (answW A s a).calls = (noteW B a).calls ∧ (answW A s a).order = (noteW B a).order := by
  unfold answW
  obtain ⟨e1, e2, _⟩ := r5W_calls A s a
  unfold noteW
  rw [e1, hc]
  cases B.calls a.req with
  | none => exact ⟨by dsimp only; rw [e1, hc], by dsimp only; rw [e2, ho]⟩
  | some c => exact ⟨by dsimp only, by dsimp only; rw [e2, ho]⟩
theorem answF_eq {A B : Wt} (hc : A.calls = B.calls) (ho : A.order = B.order) (s : Sn) (l : List An) : (answF A s l).calls = (l.foldl noteW B).calls ∧ (answF A s l).order = (l.foldl noteW B).order := by
  unfold answF
  induction l generalizing A B with
  | nil => exact ⟨hc, ho⟩
  | cons a l ih => obtain ⟨h1, h2⟩ := answ_eq hc ho s a; exact ih h1 h2
theorem see_eq {A B : Wt} (hc : A.calls = B.calls) (ho : A.order = B.order) (s : Sn) : (seeW A s).calls = (seeW B s).calls ∧ (seeW A s).order = (seeW B s).order := by
  unfold seeW
  split
  · unfold callW
    rw [hc]
    cases B.calls s.creq with
    | none => exact ⟨by dsimp only, by dsimp only; rw [ho]⟩
    | some c => exact ⟨hc, ho⟩
  · split
    · exact ⟨hc, ho⟩
    · exact ⟨hc, ho⟩
theorem op_eq (l : List Sn) : (bkF l).calls = (opF l).calls ∧ (bkF l).order = (opF l).order := by
  suffices ∀ (A B : Wt), A.calls = B.calls → A.order = B.order → (l.foldl brkW A).calls = (l.foldl opS B).calls ∧ (l.foldl brkW A).order = (l.foldl opS B).order from this wt0 wt0 rfl rfl
  induction l with
  | nil => exact fun A B h g => ⟨h, g⟩
  | cons s l ih =>
    intro A B h g
    obtain ⟨h1, h2⟩ := see_eq h g s
    obtain ⟨h3, h4⟩ := answF_eq h1 h2 s s.ans
    exact ih (brkW A s) (opS B s) h3 h4
/-- An answer stays noted. -/
theorem ans_note {W : Wt} {x : Int} (a : An) (h : ansB W x = true) : ansB (noteW W a) x = true := by
  unfold noteW
  cases hq : W.calls a.req with
  | none => exact h
  | some c =>
    unfold ansB at *
    dsimp only
    by_cases e : x = a.req
    · rw [e, cupd_same]
    · rw [cupd_other _ e]; exact h
theorem ans_notes {W : Wt} {x : Int} (l : List An) (h : ansB W x = true) : ansB (l.foldl noteW W) x = true := by
  induction l generalizing W with
  | nil => exact h
  | cons a l ih => exact ih (ans_note a h)
theorem ans_see {W : Wt} {x : Int} (s : Sn) (h : ansB W x = true) : ansB (seeW W s) x = true := by
  unfold seeW
  split
  · unfold callW
    cases hq : W.calls s.creq with
    | some c => exact h
    | none =>
      unfold ansB at *
      dsimp only
      by_cases e : x = s.creq
      · rw [e, hq] at h; cases h
      · rw [cupd_other _ e]; exact h
  · split <;> exact h
/-- Answers that break no rule are noted. -/
theorem answ_noted {s : Sn} : ∀ {l : List An} {W : Wt}, answL W s l = 0 → ∀ a ∈ l, (∃ c, W.calls a.req = some c) ∧ (ackB W a = true → (plc (hist s.H) a.req).isSome = true) ∧ ansB (answF W s l) a.req = true
  | [], W, _, a, ha => by cases ha
  | b :: l, W, h, a, ha => by
    unfold answL at h
    split at h
    · rename_i hb
      have hn : ∀ x, ansB (answW W s b) x = true → ansB (answF W s (b :: l)) x = true := fun x hx => by
        have := (answF_eq (A := answW W s b) (B := answW W s b) rfl rfl s l).1
        unfold ansB
        rw [show answF W s (b :: l) = answF (answW W s b) s l from rfl, this]
        have := ans_notes l hx
        unfold ansB at this
        exact this
      rcases List.mem_cons.1 ha with rfl | ha
      · have h2 : r2B W a = true := by
          unfold answR at hb
          by_cases h : r2B W a = true
          · exact h
          · rw [if_pos (by simpa using h)] at hb; cases hb
        obtain ⟨c, hc⟩ := r2_call h2
        refine ⟨⟨c, hc⟩, fun hk => ?_, hn _ ?_⟩
        · unfold answR at hb
          rw [if_neg (by simp [h2])] at hb
          by_cases h3 : r3B W s a = true
          · unfold r3B at h3
            rw [hk] at h3
            simpa using h3
          · rw [if_pos (by simpa using h3)] at hb; cases hb
        · unfold answW ansB
          rw [noteW_some (c := c) (by rw [(r5W_calls W s a).1]; exact hc)]
          dsimp only
          rw [cupd_same]
      · obtain ⟨⟨c, hc⟩, h1, h2⟩ := answ_noted h a ha
        have hs := sameOps_answ W s b
        refine ⟨?_, fun hk => h1 (by rw [hs.ack]; exact hk), h2⟩
        cases hq : W.calls a.req with
        | some d => exact ⟨d, rfl⟩
        | none => rw [(hs.none _).2 hq] at hc; cases hc
    · rename_i hb; exact absurd h hb
theorem brk_parts {W : Wt} {s : Sn} (h : brk W s = 0) : answL (seeW W s) s s.ans = 0 ∧ r1B (answF (seeW W s) s s.ans) s = true := by
  unfold brk at h
  split at h
  · rename_i h1
    refine ⟨h1, ?_⟩
    unfold stpR at h
    by_cases h2 : r1B (answF (seeW W s) s s.ans) s = true
    · exact h2
    · rw [if_pos (by simpa using h2)] at h; cases h
  · rename_i h1; exact absurd h h1
theorem plc_some {hs : List Rec} {q : Int} : (plc hs q).isSome = true ↔ ∃ r ∈ hs, r.req = q := by
  unfold plc
  rw [List.findIdx?_isSome]
  simp
theorem answF_h (W : Wt) (s : Sn) (l : List An) : (answF W s l).h = W.h := by
  unfold answF
  induction l generalizing W with
  | nil => rfl
  | cons a l ih =>
    rw [List.foldl_cons, ih]
    unfold answW noteW
    have := (r5W_calls W s a).2.2
    cases (r5W W s a).calls a.req with
    | none => exact this
    | some c => exact this
theorem seeW_h (W : Wt) (s : Sn) : (seeW W s).h = W.h := by
  unfold seeW
  split
  · unfold callW
    cases W.calls s.creq <;> rfl
  · split <;> rfl
/-- What is so behind steps that break no rule. -/
structure KInv (l : List Sn) (W : Wt) (V : Wt) : Prop where
  once : oncB (hist W.h) = true
  ops : SameOps V W
  acks : ∀ q ∈ ackedL l, (plc (hist W.h) q).isSome = true ∧ ansB W q = true
theorem kinv {l : List Sn} : ∀ {k : Nat}, k ≤ l.length → Keeps l k → KInv (l.take k) (bkF (l.take k)) (akF (l.take k))
  | 0, _, _ => ⟨by rfl, SameOps.refl _, fun q hq => by cases hq⟩
  | k + 1, hk, h => by
    obtain ⟨s, hs⟩ : ∃ s, l[k]? = some s := ⟨_, List.getElem?_eq_getElem (by omega)⟩
    have ih := kinv (l := l) (k := k) (by omega) (h.le (by omega))
    have hb := h k s (by omega) hs
    rw [bkF_step hs, akF_step hs]
    have hak := ackedL_step hs
    generalize bkF (l.take k) = W at *
    generalize akF (l.take k) = V at *
    obtain ⟨h1, h2⟩ := brk_parts hb
    have hse := ih.ops.see s
    have hso : SameOps (seeW V s) (brkW W s) := hse.trans (fun x => (sameOps_answF (seeW W s) s s.ans x).symm)
    have hold : ∀ q, (plc (hist W.h) q).isSome = true → (plc (hist s.H) q).isSome = true := fun q hq => by
      unfold r1B at h2
      rw [answF_h, seeW_h] at h2
      rcases Bool.or_eq_true_iff.1 h2 with h3 | h3
      · rw [eqLs_iff.1 h3]; exact hq
      · have he := extB_of (Bool.and_eq_true_iff.1 h3).2
        obtain ⟨r, hr, e⟩ := plc_some.1 hq
        obtain ⟨i, hi⟩ := List.getElem?_of_mem hr
        have hlt : i < (hist s.H).length := Nat.lt_of_lt_of_le (List.getElem?_eq_some_iff.1 hi).1 he.1
        have := he.2 i _ r (List.getElem?_eq_getElem hlt) hi
        refine plc_some.2 ⟨_, List.getElem_mem hlt, ?_⟩
        rw [← e]
        simp only [sayB, Bool.and_eq_true, beq_iff_eq] at this
        exact this.2.2.2.1
    refine ⟨?_, hso, fun q hq => ?_⟩
    · show oncB (hist s.H) = true
      unfold r1B at h2
      rw [answF_h, seeW_h] at h2
      rcases Bool.or_eq_true_iff.1 h2 with h3 | h3
      · rw [eqLs_iff.1 h3]; exact ih.once
      · exact (Bool.and_eq_true_iff.1 h3).1
    · rw [hak] at hq
      rcases List.mem_append.1 hq with hq | hq
      · obtain ⟨g1, g2⟩ := ih.acks q hq
        refine ⟨hold q g1, ?_⟩
        have e := (answF_eq (A := seeW W s) (B := seeW W s) rfl rfl s s.ans).1
        unfold ansB
        show (match (answF (seeW W s) s s.ans).calls q with | none => false | some c => c.ans) = true
        rw [e]
        have := ans_notes s.ans (ans_see s g2)
        unfold ansB at this
        exact this
      · unfold akS at hq
        obtain ⟨a, ha, rfl⟩ := List.mem_map.1 hq
        obtain ⟨ha1, ha2⟩ := List.mem_filter.1 ha
        obtain ⟨_, g1, g2⟩ := answ_noted h1 a ha1
        exact ⟨g1 (by rw [← hse.ack]; exact ha2), g2⟩
theorem bkF_h {l : List Sn} {s : Sn} (h : l.getLast? = some s) : (bkF l).h = s.H := by
  obtain ⟨m, rfl⟩ := List.getLast?_eq_some_iff.1 h
  rw [bkF_snoc]; rfl
theorem count_one {hs : List Rec} {q : Int} (h1 : oncB hs = true) (h2 : (plc hs q).isSome = true) : (hs.filter (fun r => r.req == q)).length = 1 := by
  unfold oncB at h1
  have hn := of_decide_eq_true h1
  obtain ⟨r, hr, e⟩ := plc_some.1 h2
  have hc : (hs.map (·.req)).count q = 1 := by
    have := List.nodup_iff_count.1 hn q
    have h0 : 0 < (hs.map (·.req)).count q := List.count_pos_iff.2 (List.mem_map.2 ⟨r, hr, e⟩)
    omega
  rw [← hc, ← List.countP_eq_length_filter, List.count, List.countP_map]
  rfl
/-- Of a trace that keeps the rules: what is acked is there once, and not open. -/
theorem once_all {l : List Sn} {s : Sn} (hl : l.getLast? = some s) (h : Keeps l l.length) {q : Int} (hq : q ∈ ackedL l) : ((hist s.H).filter (fun r => r.req == q)).length = 1 ∧ q ∉ openL l := by
  have hk := kinv (l := l) (k := l.length) (Nat.le_refl _) h
  rw [List.take_length] at hk
  obtain ⟨g1, g2⟩ := hk.acks q hq
  rw [← bkF_h hl]
  refine ⟨count_one hk.once g1, fun ho => ?_⟩
  unfold openL at ho
  have := (List.mem_filter.1 ho).2
  unfold ansB at *
  rw [← (op_eq l).1] at this
  rw [g2] at this
  cases this
/-- The calls that were made, each once, in their order. -/
def ordL (l : List Sn) : List Int := l.foldl (fun o s => if s.kind = 1 ∧ s.creq ∉ o then o ++ [s.creq] else o) []
theorem ordL_step {l : List Sn} {k : Nat} {s : Sn} (h : l[k]? = some s) : ordL (l.take (k + 1)) = if s.kind = 1 ∧ s.creq ∉ ordL (l.take k) then ordL (l.take k) ++ [s.creq] else ordL (l.take k) := by
  rw [take_one_sn h]; unfold ordL; rw [List.foldl_append]; rfl
theorem ordL_mem {l : List Sn} {x : Int} : ∀ {k : Nat}, k ≤ l.length → (x ∈ ordL (l.take k) ↔ ∃ i t, i < k ∧ l[i]? = some t ∧ t.kind = 1 ∧ t.creq = x)
  | 0, _ => ⟨fun h => (by cases h), fun ⟨i, t, hi, _⟩ => by omega⟩
  | k + 1, hk => by
    obtain ⟨s, hs⟩ : ∃ s, l[k]? = some s := ⟨_, List.getElem?_eq_getElem (by omega)⟩
    have ih := ordL_mem (l := l) (x := x) (k := k) (by omega)
    rw [ordL_step hs]
    constructor
    · intro h
      have : x ∈ ordL (l.take k) ∨ (s.kind = 1 ∧ x = s.creq) := by
        split at h
        · rename_i h1
          rcases List.mem_append.1 h with h | h
          · exact .inl h
          · exact .inr ⟨h1.1, by simpa using h⟩
        · exact .inl h
      rcases this with h | ⟨h1, rfl⟩
      · obtain ⟨i, t, hi, r⟩ := ih.1 h
        exact ⟨i, t, by omega, r⟩
      · exact ⟨k, s, by omega, hs, h1, rfl⟩
    · rintro ⟨i, t, hi, ht, h1, rfl⟩
      by_cases e : i = k
      · subst e
        rw [hs] at ht; cases ht
        split
        · exact List.mem_append.2 (.inr (List.mem_cons_self ..))
        · rename_i h2
          by_cases h3 : s.creq ∈ ordL (l.take i)
          · exact h3
          · exact absurd ⟨h1, h3⟩ h2
      · have := ih.2 ⟨i, t, by omega, ht, h1, rfl⟩
        split
        · exact List.mem_append.2 (.inl this)
        · exact this
theorem notes_order (W : Wt) (l : List An) : (l.foldl noteW W).order = W.order := by
  induction l generalizing W with
  | nil => rfl
  | cons a l ih =>
    rw [List.foldl_cons, ih]
    unfold noteW
    cases W.calls a.req <;> rfl
theorem notes_none (W : Wt) (l : List An) (x : Int) : (l.foldl noteW W).calls x = none ↔ W.calls x = none := by
  induction l generalizing W with
  | nil => exact Iff.rfl
  | cons a l ih => rw [List.foldl_cons, ih]; exact (sameOps_note W a).none x
/-- Which calls a witness knows. -/
theorem ord_all {l : List Sn} : ∀ {k : Nat}, k ≤ l.length → (opF (l.take k)).order = ordL (l.take k) ∧ ∀ x, (opF (l.take k)).calls x = none ↔ x ∉ ordL (l.take k)
  | 0, _ => ⟨rfl, fun x => ⟨fun _ h => (by cases h), fun _ => rfl⟩⟩
  | k + 1, hk => by
    obtain ⟨s, hs⟩ : ∃ s, l[k]? = some s := ⟨_, List.getElem?_eq_getElem (by omega)⟩
    obtain ⟨h1, h2⟩ := ord_all (l := l) (k := k) (by omega)
    rw [opF_step hs, ordL_step hs]
    unfold opS
    rw [notes_order]
    have h3 : ∀ x, (s.ans.foldl noteW (seeW (opF (l.take k)) s)).calls x = none ↔ (seeW (opF (l.take k)) s).calls x = none := fun x => notes_none _ _ _
    generalize opF (l.take k) = W at *
    have hx := h2 s.creq
    by_cases hk1 : s.kind = 1
    · have e : seeW W s = callW W s.creq s.cnode s.op := by unfold seeW; rw [if_pos hk1]
      rw [e] at h3 ⊢
      cases hq : W.calls s.creq with
      | none =>
        rw [callW_none hq] at h3 ⊢
        rw [if_pos ⟨hk1, hx.1 hq⟩]
        refine ⟨by dsimp only; rw [h1], fun x => ?_⟩
        rw [h3]
        dsimp only
        by_cases e : x = s.creq
        · rw [e, cupd_same]; simp
        · rw [cupd_other _ e, h2]; simp [e]
      | some c =>
        rw [callW_some hq] at h3 ⊢
        rw [if_neg (fun h => by rw [hx.2 h.2] at hq; cases hq)]
        exact ⟨h1, fun x => by rw [h3]; exact h2 x⟩
    · rw [if_neg (fun h => hk1 h.1)]
      have e : (seeW W s).calls = W.calls ∧ (seeW W s).order = W.order := by
        unfold seeW; rw [if_neg hk1]; split <;> exact ⟨rfl, rfl⟩
      exact ⟨by rw [e.2]; exact h1, fun x => by rw [h3, e.1]; exact h2 x⟩
/-- Which calls have an answer, where no rule is broken. -/
theorem ans_all {l : List Sn} (x : Int) : ∀ {k : Nat}, k ≤ l.length → Keeps l k → (ansB (bkF (l.take k)) x = true ↔ ∃ i t, i < k ∧ l[i]? = some t ∧ ∃ a ∈ t.ans, a.req = x)
  | 0, _, _ => ⟨fun h => (by cases h), fun ⟨i, t, hi, _⟩ => by omega⟩
  | k + 1, hk, h => by
    obtain ⟨s, hs⟩ : ∃ s, l[k]? = some s := ⟨_, List.getElem?_eq_getElem (by omega)⟩
    have ih := ans_all (l := l) x (k := k) (by omega) (h.le (by omega))
    have hb := h k s (by omega) hs
    rw [bkF_step hs]
    generalize bkF (l.take k) = W at *
    obtain ⟨h1, _⟩ := brk_parts hb
    have e := (answF_eq (A := seeW W s) (B := seeW W s) rfl rfl s s.ans).1
    have e2 : ansB (brkW W s) x = ansB (s.ans.foldl noteW (seeW W s)) x := by
      unfold ansB
      show (match (answF (seeW W s) s s.ans).calls x with | none => false | some c => c.ans) = _
      rw [e]
    have hback : ∀ (l : List An) (V : Wt), ansB (l.foldl noteW V) x = true → ansB V x = true ∨ ∃ a ∈ l, a.req = x := by
      intro l
      induction l with
      | nil => exact fun V h => .inl h
      | cons a l ih =>
        intro V h
        rcases ih _ h with h | ⟨b, hb, e⟩
        · by_cases e : a.req = x
          · exact .inr ⟨a, List.mem_cons_self .., e⟩
          · refine .inl ?_
            unfold noteW at h
            cases hq : V.calls a.req with
            | none => rw [hq] at h; exact h
            | some c =>
              rw [hq] at h
              unfold ansB at *
              dsimp only at h
              rwa [cupd_other _ (fun e' => e e'.symm)] at h
        · exact .inr ⟨b, List.mem_cons_of_mem _ hb, e⟩
    have hsee : ansB (seeW W s) x = true → ansB W x = true := fun h => by
      unfold seeW at h
      split at h
      · unfold callW at h
        cases hq : W.calls s.creq with
        | some c => rw [hq] at h; exact h
        | none =>
          rw [hq] at h
          unfold ansB at *
          dsimp only at h
          by_cases e : x = s.creq
          · rw [e, cupd_same] at h; cases h
          · rwa [cupd_other _ e] at h
      · split at h <;> exact h
    constructor
    · intro g
      rw [e2] at g
      rcases hback _ _ g with g | ⟨a, ha, e⟩
      · obtain ⟨i, t, hi, r⟩ := ih.1 (hsee g)
        exact ⟨i, t, by omega, r⟩
      · exact ⟨k, s, by omega, hs, a, ha, e⟩
    · rintro ⟨i, t, hi, ht, a, ha, rfl⟩
      by_cases e3 : i = k
      · subst e3
        rw [hs] at ht; cases ht
        exact (answ_noted h1 a ha).2.2
      · rw [e2]
        exact ans_notes _ (ans_see s (ih.2 ⟨i, t, by omega, ht, a, ha, rfl⟩))
/-- No answer of these steps is of this call. -/
def noAns (l : List Sn) (x : Int) : Bool := l.all fun t => t.ans.all fun a => a.req != x
/-- Of a trace that keeps the rules: open are the calls that were made and have no answer in it. -/
theorem open_all {l : List Sn} (h : Keeps l l.length) : openL l = (ordL l).filter (noAns l) := by
  have h1 := ord_all (l := l) (k := l.length) (Nat.le_refl _)
  rw [List.take_length] at h1
  unfold openL
  rw [h1.1]
  refine List.filter_congr fun x _ => ?_
  have h2 := ans_all (l := l) x (k := l.length) (Nat.le_refl _) h
  rw [List.take_length] at h2
  have e : ansB (bkF l) x = ansB (opF l) x := by unfold ansB; rw [(op_eq l).1]
  rw [e] at h2
  have h3 : noAns l x = false ↔ ∃ i t, i < l.length ∧ l[i]? = some t ∧ ∃ a ∈ t.ans, a.req = x := by
    unfold noAns
    rw [List.all_eq_false]
    constructor
    · rintro ⟨t, ht, hq⟩
      obtain ⟨i, hi⟩ := List.getElem?_of_mem ht
      have hq' : (t.ans.all fun a => a.req != x) = false := by simpa using hq
      rw [List.all_eq_false] at hq'
      obtain ⟨a, ha, e⟩ := hq'
      exact ⟨i, t, (List.getElem?_eq_some_iff.1 hi).1, hi, a, ha, by simpa using e⟩
    · rintro ⟨i, t, _, hi, a, ha, e⟩
      refine ⟨t, List.mem_of_getElem? hi, ?_⟩
      have : (t.ans.all fun a => a.req != x) = false := List.all_eq_false.2 ⟨a, ha, by simpa using e⟩
      simp only [this]; simp
  cases hA : ansB (opF l) x with
  | true => rw [h3.2 (h2.1 hA)]; rfl
  | false =>
    cases hN : noAns l x with
    | true => rfl
    | false => rw [h2.2 (h3.1 hN)] at hA; cases hA
end Go.Proofs.YthdbkanbgfajbaaGreat

/- Records that came in, with their sizes. -/
namespace Go.Proofs.YthdbkanbgfajbaaGreat
open Go.ChangeShapes Go.WideShapes Go.ChangeAt Go.RowKit Go.Deep

theorem bytesRc : Tryz.prog.bytesOf 44 = 80 := by kernel_rfl
theorem weights_all {H : Type} {P : Program} {e : TypeId} {d : DataW H} : ∀ {l : List (DataW H)}, d ∈ l → ∀ z ∈ d.weights P e, z ∈ DataW.weightsAll P e l
  | _ :: _, h, z, hz => by
    simp only [DataW.weightsAll, List.mem_append]
    rcases List.mem_cons.1 h with rfl | h
    · exact .inl hz
    · exact .inr (weights_all h z hz)
section
variable {H : Type} {enc : TypeId × Value → H} {w : World}
set_option maxRecDepth 100000 in
theorem rec_in2 {fuel : Nat} {cs : List Value} {x : DataW H × List MemPlace} (hlen : cs.length = 8) (h : DataW.trod enc Tryz.prog w 0 (fun _ => true) true fuel 44 cs = some x) (hz : ∀ z ∈ x.1.weights Tryz.prog 44, z ≤ reachBytes) : ∃ r : Rec, cs = recC r ∧ r.key.size ≤ 140737488351232 ∧ r.val.size ≤ 140737488351232 := by
  obtain ⟨xs, n', _, hx, _, hxl, hfl⟩ := DataW.trod_struct Tryz.underlying44 h
  have t0 := hfl 0 _ rfl
  have t1 := hfl 1 _ rfl
  have t2 := hfl 2 _ rfl
  have t3 := hfl 3 _ rfl
  have t4 := hfl 4 _ rfl
  have t5 := hfl 5 _ rfl
  have t6 := hfl 6 _ rfl
  have t7 := hfl 7 _ rfl
  match xs, hxl with
  | [y0, y1, y2, y3, y4, y5, y6, y7], _ =>
  match cs, hlen with
  | [c0, c1, c2, c3, c4, c5, c6, c7], _ =>
    simp [rcellsI, rcellsS] at t0 t1 t2 t3 t4 t5 t6 t7
    have hd : x.1 = .agg [y0.1, y1.1, y2.1, y3.1, y4.1, y5.1, y6.1, y7.1] := by simpa using congrArg Prod.fst hx
    rw [hd] at hz
    simp only [DataW.weights, Tryz.underlying44] at hz
    have z6 : ∀ z ∈ y6.1.weights Tryz.prog 9, z ≤ reachBytes := fun z h => hz z (DataW.weights_mem_each (j := 6) rfl rfl z h)
    have z7 : ∀ z ∈ y7.1.weights Tryz.prog 9, z ≤ reachBytes := fun z h => hz z (DataW.weights_mem_each (j := 7) rfl rfl z h)
    obtain ⟨b0, e0, _, _⟩ := DataW.trod_int Tryz.underlying3 t0
    obtain ⟨b1, e1, _, _⟩ := DataW.trod_int Tryz.underlying3 t1
    obtain ⟨b2, e2, _, _⟩ := DataW.trod_int Tryz.underlying3 t2
    obtain ⟨b3, e3, _, _⟩ := DataW.trod_int Tryz.underlying3 t3
    obtain ⟨b4, e4, _, _⟩ := DataW.trod_int Tryz.underlying3 t4
    obtain ⟨b5, e5, _, _⟩ := DataW.trod_int Tryz.underlying3 t5
    obtain ⟨b6, e6, e6', _⟩ := DataW.trod_string Tryz.underlying9 t6
    obtain ⟨b7, e7, e7', _⟩ := DataW.trod_string Tryz.underlying9 t7
    simp only [List.cons.injEq, and_true] at e0 e1 e2 e3 e4 e5 e6 e7
    subst e0 e1 e2 e3 e4 e5 e6 e7
    rw [e6'] at z6
    rw [e7'] at z7
    have w6 := z6 b6.data.toList.length (by simp [DataW.weights])
    have w7 := z7 b7.data.toList.length (by simp [DataW.weights])
    rw [← Lib.size_eq] at w6 w7
    exact ⟨⟨b0, b1, b2, b3, b4, b5, b6, b7⟩, rfl, by simpa [reachBytes] using w6, by simpa [reachBytes] using w7⟩
set_option maxRecDepth 100000 in
theorem recs_open2 {fuel len cap : Nat} {a : Option Addr} {d : DataW H} {p : List MemPlace}
    (h : DataW.trod enc Tryz.prog w 0 (fun _ => true) true fuel 37 [.slice a len cap] = some (d, p)) (hz : ∀ z ∈ d.weights Tryz.prog 37, z ≤ reachBytes) :
    ∃ ls : List Rec, len = ls.length ∧ len * 80 ≤ 140737488355328 ∧ Recs w a cap ls ∧ ∀ r ∈ ls, r.key.size ≤ 140737488351232 ∧ r.val.size ≤ 140737488351232 := by
  rcases open_slice Tryz.underlying37 h with ⟨hcs, hx⟩ | ⟨x, l, c, m, n, D, Pl, hcs, _, hl, hm, hmm, hx, heach⟩
  · simp at hcs
    obtain ⟨rfl, rfl, rfl⟩ := hcs
    exact ⟨[], rfl, by omega, ⟨Nat.le_refl _, by omega, .inl rfl⟩, (fun r hr => by cases hr)⟩
  · simp at hcs
    obtain ⟨rfl, rfl, rfl⟩ := hcs
    simp only [if_true] at hmm
    subst hmm
    rw [rcellsR] at heach
    have hd : d = .slice ((List.range len).map D) ((List.range (m - len)).map fun j => D (len + j)) := by simpa using congrArg Prod.fst hx
    rw [hd] at hz
    simp only [DataW.weights, Tryz.underlying37] at hz
    have hlen8 : len * 80 ≤ 140737488355328 := by
      have := hz _ (List.mem_cons_self ..)
      rw [bytesRc] at this
      simp [reachBytes] at this
      omega
    have hzi : ∀ i, i < len → ∀ z ∈ (D i).weights Tryz.prog 44, z ≤ reachBytes := fun i hi z h =>
      hz z (by simp only [List.mem_cons, List.mem_append]; exact .inr (.inl (weights_all (List.mem_map.2 ⟨i, List.mem_range.2 hi, rfl⟩) z h)))
    have each : ∀ i, i < len → ∃ r : Rec, (∀ j v, (recC r)[j]? = some v → w.cell? (x.add (i * 8 + j)) = some v) ∧ r.key.size ≤ 140737488351232 ∧ r.val.size ≤ 140737488351232 := by
      intro i hi
      obtain ⟨cs', hc, ht'⟩ := heach i (by omega)
      obtain ⟨_, hlen, hcell⟩ := World.cells?_some hc
      obtain ⟨r, hr, hN⟩ := rec_in2 hlen ht' (hzi i hi)
      refine ⟨r, fun j v hv => ?_, hN⟩
      have hj : j < 8 := by have := (List.getElem?_eq_some_iff.1 hv).1; rwa [recC_length] at this
      have z := hcell j (by omega)
      rw [add_add] at z
      rw [z, hr]
      exact hv
    have inh : Inhabited Rec := ⟨rec0⟩
    obtain ⟨f, hf⟩ := choose_lt (α := Rec) each
    have hget : ∀ i s, ((List.range len).map f)[i]? = some s → i < len ∧ s = f i := by
      intro i s hs
      have hi : i < len := by have := (List.getElem?_eq_some_iff.1 hs).1; simpa using this
      refine ⟨hi, ?_⟩
      simp [hi] at hs
      exact hs.symm
    refine ⟨(List.range len).map f, by simp, hlen8, ⟨by simpa using hl, by unfold maxLen at hm; omega, ?_⟩, ?_⟩
    · by_cases h0 : len = 0
      · exact .inl (by simp [h0])
      · obtain ⟨b, off, spot⟩ := x
        have hc := (hf 0 (by omega)).1 0 _ rfl
        have hspot : spot = none := by simpa [Addr.add] using World.cell?_spot hc
        subst hspot
        refine .inr ⟨b, off, rfl, World.block_lt_of_cell? w ⟨b, off + (0 * 8 + 0), none⟩ (by rw [Addr.add_lit] at hc; exact hc), fun i s hs => ?_⟩
        obtain ⟨hi, rfl⟩ := hget i s hs
        intro j v hv
        have := (hf i (by omega)).1 j v hv
        rw [Addr.add_lit, ← Nat.add_assoc] at this
        exact this
    · intro s hs
      obtain ⟨i, hi, rfl⟩ := List.mem_map.1 hs
      exact (hf i (List.mem_range.1 hi)).2
end
end Go.Proofs.YthdbkanbgfajbaaGreat
