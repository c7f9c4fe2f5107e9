
/- RdPure, RdRise, RdPages, PgPlain, RdSame. -/
import Derived.Test.YtlgceleelhppdaaDP32
import Derived.Test.YtlgceleelhppdaaDP4
/- Records of different pages do not touch one another. -/
namespace Go.Proofs.Ytlgceleelhppdaa
open Go.RowKit

/-- The node of a page, if it is there. -/
def getP : List (Int × Nd) → Int → Option Nd
  | [], _ => none
  | s :: l, y => if s.1 = y then some s.2 else getP l y
def Srt (ps : List (Int × Nd)) : Prop := (ps.map (·.1)).Pairwise (· < ·)
theorem Srt.tail {s : Int × Nd} {l : List (Int × Nd)} (h : Srt (s :: l)) : Srt l := by
  unfold Srt at h; rw [List.map_cons, List.pairwise_cons] at h; exact h.2
theorem Srt.head {s : Int × Nd} {l : List (Int × Nd)} (h : Srt (s :: l)) : ∀ t ∈ l, s.1 < t.1 := by
  unfold Srt at h; rw [List.map_cons, List.pairwise_cons] at h
  exact fun t ht => h.1 t.1 (List.mem_map.2 ⟨t, ht, rfl⟩)
theorem get_none {l : List (Int × Nd)} {y : Int} (h : ∀ t ∈ l, t.1 ≠ y) : getP l y = none := by
  induction l with
  | nil => rfl
  | cons s l ih => unfold getP; rw [if_neg (h s (by simp))]; exact ih (fun t ht => h t (by simp [ht]))
theorem get_some {l : List (Int × Nd)} {y : Int} {n : Nd} (h : getP l y = some n) : (y, n) ∈ l := by
  induction l with
  | nil => cases h
  | cons s l ih =>
    unfold getP at h
    by_cases e : s.1 = y
    · rw [if_pos e] at h; cases h; subst e; simp
    · rw [if_neg e] at h; simp [ih h]
theorem get_app (a b : List (Int × Nd)) (y : Int) : getP (a ++ b) y = (getP a y).or (getP b y) := by
  induction a with
  | nil => simp [getP]
  | cons s l ih => simp only [List.cons_append, getP]; split <;> simp [ih]
/-- What the search finds is the page's node. -/
theorem get_has (ps : List (Int × Nd)) (x : Int) (h : Srt ps) : hasP ps x = (getP ps x).isSome ∧ nodeP ps x = (getP ps x).getD zn := by
  induction ps with
  | nil => exact ⟨rfl, rfl⟩
  | cons s l ih =>
    by_cases hlt : s.1 < x
    · have e : ahP (s :: l) x = ahP l x + 1 := if_pos hlt
      have e1 : hasP (s :: l) x = hasP l x := by unfold hasP; rw [e, List.getElem?_cons_succ]
      have e2 : nodeP (s :: l) x = nodeP l x := by unfold nodeP; rw [e1, e, List.getElem?_cons_succ]
      have e3 : getP (s :: l) x = getP l x := if_neg (by omega)
      rw [e1, e2, e3]; exact ih h.tail
    · have e : ahP (s :: l) x = 0 := if_neg hlt
      have e1 : hasP (s :: l) x = (s.1 == x) := by unfold hasP; rw [e]; rfl
      by_cases hx : s.1 = x
      · have e3 : getP (s :: l) x = some s.2 := if_pos hx
        have e1' : hasP (s :: l) x = true := by rw [e1]; simpa using hx
        refine ⟨by rw [e1', e3]; rfl, ?_⟩
        unfold nodeP
        rw [e1', if_pos rfl, e, e3]; rfl
      · have e3 : getP (s :: l) x = none := by
          unfold getP; rw [if_neg hx]
          exact get_none (fun t ht => by have := h.head t ht; omega)
        have e1' : hasP (s :: l) x = false := by rw [e1]; simpa using hx
        refine ⟨by rw [e1', e3]; rfl, ?_⟩
        unfold nodeP
        rw [e1', if_neg (by simp), e3]; rfl
theorem get_ins (ps : List (Int × Nd)) (i : Nat) (x : Int) (n : Nd) (h : getP ps x = none) (y : Int) : getP (ps.take i ++ (x, n) :: ps.drop i) y = if y = x then some n else getP ps y := by
  have h2 : getP ps y = (getP (ps.take i) y).or (getP (ps.drop i) y) := by rw [← get_app, List.take_append_drop]
  rw [get_app]
  by_cases e : y = x
  · subst e
    rw [if_pos rfl]
    rw [h2] at h
    have : getP (ps.take i) y = none := by cases hh : getP (ps.take i) y <;> simp [hh] at h ⊢
    rw [this]
    unfold getP
    rw [if_pos rfl]; rfl
  · rw [if_neg e, h2]
    congr 1
    exact if_neg (fun f => e f.symm)
theorem get_set (ps : List (Int × Nd)) (x : Int) (n : Nd) (h : Srt ps) (hb : hasP ps x = true) (y : Int) : getP (ps.set (ahP ps x) (x, n)) y = if y = x then some n else getP ps y := by
  induction ps with
  | nil => cases hb
  | cons s l ih =>
    by_cases hlt : s.1 < x
    · have e : ahP (s :: l) x = ahP l x + 1 := if_pos hlt
      have e1 : hasP (s :: l) x = hasP l x := by unfold hasP; rw [e, List.getElem?_cons_succ]
      rw [e, List.set_cons_succ]
      unfold getP
      rw [ih h.tail (by rw [← e1]; exact hb)]
      by_cases hy : s.1 = y
      · rw [if_pos hy, if_pos hy, if_neg (by omega)]
      · rw [if_neg hy, if_neg hy]
    · have e : ahP (s :: l) x = 0 := if_neg hlt
      have hx : s.1 = x := by unfold hasP at hb; rw [e] at hb; simpa using hb
      rw [e, List.set_cons_zero]
      unfold getP
      by_cases hy : y = x
      · rw [if_pos hy, if_pos hy.symm]
      · rw [if_neg hy, if_neg (fun f => hy f.symm), if_neg (fun f => hy (by rw [← f, hx]))]
theorem get_ext (ps qs : List (Int × Nd)) (h : Srt ps) (k : Srt qs) (e : ∀ y, getP ps y = getP qs y) : ps = qs := by
  induction ps generalizing qs with
  | nil =>
    cases qs with
    | nil => rfl
    | cons q m => have := e q.1; simp [getP] at this
  | cons p l ih =>
    cases qs with
    | nil => have := e p.1; simp [getP] at this
    | cons q m =>
      have e1 : getP (q :: m) p.1 = some p.2 := by rw [← e]; simp [getP]
      have e2 : getP (p :: l) q.1 = some q.2 := by rw [e]; simp [getP]
      have m1 := get_some e1
      have m2 := get_some e2
      have h1 : p = q := by
        rcases List.mem_cons.1 m1 with f | f
        · exact f
        · rcases List.mem_cons.1 m2 with g | g
          · exact g.symm
          · have := k.head _ f; have := h.head _ g; simp at *; omega
      subst h1
      congr 1
      refine ih m h.tail k.tail (fun y => ?_)
      by_cases hy : p.1 = y
      · rw [get_none (fun t ht => by have := h.head t ht; omega), get_none (fun t ht => by have := k.head t ht; omega)]
      · have := e y
        unfold getP at this
        rwa [if_neg hy, if_neg hy] at this
/-- A record and one page. -/
def st1E (o : Option Nd) (r : Rec) : Int := if apE (o.getD zn) o.isSome r = 1 then 0 else apE (o.getD zn) o.isSome r
def st1 (o : Option Nd) (r : Rec) : Option Nd := if apE (o.getD zn) o.isSome r = 1 then o else some (apN (o.getD zn) o.isSome r)
def run1 : Option Nd → List Rec → Option (Option Nd)
  | o, [] => some o
  | o, r :: rs => if st1E o r = 0 then run1 (st1 o r) rs else none
theorem rp_st {ps : List (Int × Nd)} (h : Srt ps) (r : Rec) : rpE ps r = st1E (getP ps r.page) r := by
  unfold rpE st1E; rw [(get_has ps r.page h).1, (get_has ps r.page h).2]
theorem rp_get {ps : List (Int × Nd)} (h : Srt ps) (r : Rec) (h0 : rpE ps r = 0) (y : Int) : getP (rpP ps r) y = if y = r.page then st1 (getP ps r.page) r else getP ps y := by
  obtain ⟨g1, g2⟩ := get_has ps r.page h
  unfold st1
  rw [← g1, ← g2]
  by_cases e1 : apE (nodeP ps r.page) (hasP ps r.page) r = 1
  · rw [(rp_arg rfl rfl e1).2, if_pos e1]
    split
    · rename_i hy; rw [hy]
    · rfl
  · have e0 : apE (nodeP ps r.page) (hasP ps r.page) r = 0 := by unfold rpE at h0; rwa [if_neg e1] at h0
    rw [if_neg e1]
    cases hb : hasP ps r.page
    · rw [hb] at e0
      rw [(rp_ins hb rfl e0).2]
      exact get_ins ps _ _ _ (by rw [hb] at g1; cases hg : getP ps r.page <;> simp [hg] at g1 ⊢) y
    · rw [hb] at e0
      rw [(rp_set hb rfl e0).2]
      exact get_set ps _ _ h hb y
/-- Replay page by page: no error, and these pages, if and only if each page by itself comes to its node. -/
theorem rpl_iff (ps qs : List (Int × Nd)) (rs : List Rec) (h : PsOk ps) (k : Srt qs) : rplP ps rs = (qs, 0) ↔ ∀ x, run1 (getP ps x) (rs.filter (fun r => r.page == x)) = some (getP qs x) := by
  induction rs generalizing ps with
  | nil =>
    simp only [rplP, Prod.mk.injEq, and_true, List.filter_nil, run1, Option.some.injEq]
    exact ⟨fun e x => by rw [e], fun e => get_ext ps qs h.1 k e⟩
  | cons r rs ih =>
    unfold rplP
    by_cases h0 : rpE ps r = 0
    · rw [if_pos h0, ih (rpP ps r) (h.step r h0)]
      have hst := h0
      rw [rp_st h.1] at hst
      refine forall_congr' (fun x => ?_)
      rw [rp_get h.1 r h0]
      by_cases hx : x = r.page
      · subst hx
        rw [if_pos rfl, List.filter_cons_of_pos (by simp)]
        show _ ↔ (if st1E _ r = 0 then _ else none) = _
        rw [if_pos hst]
      · rw [if_neg hx, List.filter_cons_of_neg (by simpa using fun f => hx f.symm)]
    · rw [if_neg h0]
      constructor
      · intro e; simp only [Prod.mk.injEq] at e; exact absurd e.2 h0
      · intro e
        have := e r.page
        rw [List.filter_cons_of_pos (by simp)] at this
        unfold run1 at this
        rw [← rp_st h.1, if_neg h0] at this
        cases this
theorem run1_out {x : Int} (hx : ¬ (1 ≤ x ∧ x ≤ 4096)) (o q : Option Nd) (rs : List Rec) (hr : ∀ r ∈ rs, r.page = x) (h : run1 o rs = some q) : q = o := by
  induction rs generalizing o with
  | nil => simp [run1] at h; exact h.symm
  | cons r rs ih =>
    unfold run1 at h
    by_cases h0 : st1E o r = 0
    · rw [if_pos h0] at h
      have hs : st1 o r = o := by
        unfold st1E at h0
        unfold st1
        by_cases e1 : apE (o.getD zn) o.isSome r = 1
        · rw [if_pos e1]
        · rw [if_neg e1] at h0
          have := page_in h0
          rw [hr r (by simp)] at this
          exact absurd this hx
      rw [hs] at h
      exact ih o (fun t ht => hr t (by simp [ht])) h
    · rw [if_neg h0] at h; cases h
/-- By page is as well as in order. -/
theorem by_page (ps qs : List (Int × Nd)) (rs bs : List Rec) (h : PsOk ps) (k : Srt qs) (hb : ∀ x, 1 ≤ x ∧ x ≤ 4096 → bs.filter (fun r => r.page == x) = rs.filter (fun r => r.page == x)) (hn : ∀ r ∈ bs, 1 ≤ r.page ∧ r.page ≤ 4096) (e : rplP ps rs = (qs, 0)) : rplP ps bs = (qs, 0) := by
  rw [rpl_iff ps qs _ h k] at e ⊢
  intro x
  by_cases hx : 1 ≤ x ∧ x ≤ 4096
  · rw [hb x hx]; exact e x
  · have h1 : bs.filter (fun r => r.page == x) = [] := by
      rw [List.filter_eq_nil_iff]
      intro r hr f
      have : r.page = x := by simpa using f
      have := hn r hr
      omega
    rw [h1]
    have := run1_out hx _ _ _ (fun r hr => by have := (List.mem_filter.1 hr).2; simpa using this) (e x)
    rw [this]; rfl
end Go.Proofs.Ytlgceleelhppdaa

/- Records with the LSNs 1, 2, 3 and so on. -/
namespace Go.Proofs.Ytlgceleelhppdaa
open Go.RowKit

def lsnR (r : Rec) (l : Int) : Rec := ⟨l, r.ep, r.kind, r.page, r.other, r.req, r.key, r.val⟩
def riseR (rs : List Rec) : List Rec := rs.mapIdx (fun i r => lsnR r ((i : Int) + 1))
theorem riseR_length (rs : List Rec) : (riseR rs).length = rs.length := by simp [riseR]
theorem riseR_get {rs : List Rec} {k : Nat} {r : Rec} (h : rs[k]? = some r) : (riseR rs)[k]? = some (lsnR r ((k : Int) + 1)) := by
  unfold riseR; rw [List.getElem?_mapIdx, h]; rfl
theorem infoRc : (Try.prog.info? 30).map (fun i => (i.zero, i.size, i.bytes)) = some (some (.agg #[.int .i64 0, .int .i64 0, .int .i64 0, .int .i64 0, .int .i64 0, .int .i64 0, .string ⟨#[]⟩, .string ⟨#[]⟩]), 8, 80) := by kernel_rfl
theorem take_snocR {α : Type} {l : List α} {k : Nat} {x : α} (h : l[k]? = some x) : l.take (k + 1) = l.take k ++ [x] := by
  obtain ⟨h1, h2⟩ := List.getElem?_eq_some_iff.1 h
  rw [List.take_succ_eq_append_getElem h1, h2]
/-- Records of a call's own. -/
def RsOut (w : World) (ls : List Rec) (e : Ending) (w' : World) : Prop := ∃ a c, e = .returned (.slice a ls.length c) ∧ Has w' 8 (.slice a ls.length c) ls.length (ls.flatMap recC) ∧ Fr (fun _ => False) w w' ∧ ∀ k, (Value.slice a ls.length c).ownBlock = some k → w.heap.size ≤ k
set_option maxRecDepth 100000 in
set_option maxHeartbeats 4000000 in
theorem rising_any (a : Option Addr) (n c : Nat) (rs : List Rec) (hn : n = rs.length) (hf : n * 80 ≤ 140737488355328) (w : World) (h : Recs w a c rs) :
    Calls Try.prog 4 #[.slice a n c] w fun e w' => RsOut w (riseR rs) e w' := by
  obtain ⟨iR, hiR, hR0, hR1, hR2⟩ := info_parts infoRc
  have hle : n ≤ c := by rw [hn]; exact h.le
  have hmx := h.max
  have HS : Hid (∀ W, Fr (fun _ => False) w W → Recs W a c rs) := fun W f => h.same f
  have HN : Hid (n = rs.length) := hn
  have hnb : n ≤ 1759218604441 := by omega
  have HF : Hid (n * 80 ≤ 140737488355328) := hf
  clear h hn hf
  go_enter Try.func4, Try.ntmps4
  go_wp2
  go_loopw [8, 3] (fun i o wr => ∃ (k : Nat) (a' : Option Addr) (c' : Nat), k ≤ n ∧ i = .int .i64 k ∧ o = .slice a' k c' ∧ Hid (Has wr 8 (.slice a' k c') k (((riseR rs).take k).flatMap recC)) ∧ Hid (∀ g, (Value.slice a' k c').ownBlock = some g → w.heap.size ≤ g) ∧ Fr (fun _ => False) w wr) (fun i _ _ => n - (intOf i).toNat)
  case atStart => exact ⟨0, none, 0, by omega, rfl, rfl, Has.nil _ _, (fun g e => by cases e), Fr.refl _ _⟩
  case round =>
    obtain ⟨k, a', c', hk, rfl, rfl, HH, HO, F⟩ := hrel
    by_cases hlt : k < n
    · obtain ⟨r, hr⟩ : ∃ r, rs[k]? = some r := ⟨_, List.getElem?_eq_getElem (by have := HN.out; omega)⟩
      obtain ⟨bb, off, rfl, hbb, hcc⟩ := (HS.out _ F).some (by have := HN.out; omega)
      obtain ⟨q0, q1, q2, q3, q4, q5, q6, q7⟩ := rec_range (hcc k r hr)
      have hki : (k : Int) < (n : Int) := by omega
      have HTK : Hid ((riseR rs).take (k + 1) = (riseR rs).take k ++ [lsnR r ((k : Int) + 1)]) := take_snocR (riseR_get hr)
      have P6 := (Fr.box wr (.cells #[.int .i64 (lsnR r ((k : Int) + 1)).lsn, .int .i64 (lsnR r ((k : Int) + 1)).ep, .int .i64 (lsnR r ((k : Int) + 1)).kind, .int .i64 (lsnR r ((k : Int) + 1)).page, .int .i64 (lsnR r ((k : Int) + 1)).other, .int .i64 (lsnR r ((k : Int) + 1)).req, .string (lsnR r ((k : Int) + 1)).key, .string (lsnR r ((k : Int) + 1)).val] 30)).alloc (.cells #[.int .i64 (lsnR r ((k : Int) + 1)).lsn, .int .i64 (lsnR r ((k : Int) + 1)).ep, .int .i64 (lsnR r ((k : Int) + 1)).kind, .int .i64 (lsnR r ((k : Int) + 1)).page, .int .i64 (lsnR r ((k : Int) + 1)).other, .int .i64 (lsnR r ((k : Int) + 1)).req, .string (lsnR r ((k : Int) + 1)).key, .string (lsnR r ((k : Int) + 1)).val] 30)
      have hrow := HH.out.fr P6 (fun _ _ f => f)
      have FF := F.seq' P6
      have hnews : From ((wr.alloc (.cells #[.int .i64 (lsnR r ((k : Int) + 1)).lsn, .int .i64 (lsnR r ((k : Int) + 1)).ep, .int .i64 (lsnR r ((k : Int) + 1)).kind, .int .i64 (lsnR r ((k : Int) + 1)).page, .int .i64 (lsnR r ((k : Int) + 1)).other, .int .i64 (lsnR r ((k : Int) + 1)).req, .string (lsnR r ((k : Int) + 1)).key, .string (lsnR r ((k : Int) + 1)).val] 30)).alloc (.cells #[.int .i64 (lsnR r ((k : Int) + 1)).lsn, .int .i64 (lsnR r ((k : Int) + 1)).ep, .int .i64 (lsnR r ((k : Int) + 1)).kind, .int .i64 (lsnR r ((k : Int) + 1)).page, .int .i64 (lsnR r ((k : Int) + 1)).other, .int .i64 (lsnR r ((k : Int) + 1)).req, .string (lsnR r ((k : Int) + 1)).key, .string (lsnR r ((k : Int) + 1)).val] 30)) (some ⟨wr.heap.size + 1, 0, none⟩) (recC (lsnR r ((k : Int) + 1))) := .inr ⟨_, _, rfl, by
        have := range_block (heap_alloc_new (wr.alloc (.cells #[.int .i64 (lsnR r ((k : Int) + 1)).lsn, .int .i64 (lsnR r ((k : Int) + 1)).ep, .int .i64 (lsnR r ((k : Int) + 1)).kind, .int .i64 (lsnR r ((k : Int) + 1)).page, .int .i64 (lsnR r ((k : Int) + 1)).other, .int .i64 (lsnR r ((k : Int) + 1)).req, .string (lsnR r ((k : Int) + 1)).key, .string (lsnR r ((k : Int) + 1)).val] 30)) (.cells #[.int .i64 (lsnR r ((k : Int) + 1)).lsn, .int .i64 (lsnR r ((k : Int) + 1)).ep, .int .i64 (lsnR r ((k : Int) + 1)).kind, .int .i64 (lsnR r ((k : Int) + 1)).page, .int .i64 (lsnR r ((k : Int) + 1)).other, .int .i64 (lsnR r ((k : Int) + 1)).req, .string (lsnR r ((k : Int) + 1)).key, .string (lsnR r ((k : Int) + 1)).val] 30)) (xs := recC (lsnR r ((k : Int) + 1))) (o := 0) (fun j v hv => by rw [Nat.zero_add]; simpa [recC] using hv)
        rwa [show (wr.alloc (.cells #[.int .i64 (lsnR r ((k : Int) + 1)).lsn, .int .i64 (lsnR r ((k : Int) + 1)).ep, .int .i64 (lsnR r ((k : Int) + 1)).kind, .int .i64 (lsnR r ((k : Int) + 1)).page, .int .i64 (lsnR r ((k : Int) + 1)).other, .int .i64 (lsnR r ((k : Int) + 1)).req, .string (lsnR r ((k : Int) + 1)).key, .string (lsnR r ((k : Int) + 1)).val] 30)).heap.size = wr.heap.size + 1 by simp] at this⟩
      have HRW : Hid (Has ((wr.alloc (.cells #[.int .i64 (lsnR r ((k : Int) + 1)).lsn, .int .i64 (lsnR r ((k : Int) + 1)).ep, .int .i64 (lsnR r ((k : Int) + 1)).kind, .int .i64 (lsnR r ((k : Int) + 1)).page, .int .i64 (lsnR r ((k : Int) + 1)).other, .int .i64 (lsnR r ((k : Int) + 1)).req, .string (lsnR r ((k : Int) + 1)).key, .string (lsnR r ((k : Int) + 1)).val] 30)).alloc (.cells #[.int .i64 (lsnR r ((k : Int) + 1)).lsn, .int .i64 (lsnR r ((k : Int) + 1)).ep, .int .i64 (lsnR r ((k : Int) + 1)).kind, .int .i64 (lsnR r ((k : Int) + 1)).page, .int .i64 (lsnR r ((k : Int) + 1)).other, .int .i64 (lsnR r ((k : Int) + 1)).req, .string (lsnR r ((k : Int) + 1)).key, .string (lsnR r ((k : Int) + 1)).val] 30)) 8 (.slice a' k c') k (((riseR rs).take k).flatMap recC)) := hrow
      have HNE : Hid (From ((wr.alloc (.cells #[.int .i64 (lsnR r ((k : Int) + 1)).lsn, .int .i64 (lsnR r ((k : Int) + 1)).ep, .int .i64 (lsnR r ((k : Int) + 1)).kind, .int .i64 (lsnR r ((k : Int) + 1)).page, .int .i64 (lsnR r ((k : Int) + 1)).other, .int .i64 (lsnR r ((k : Int) + 1)).req, .string (lsnR r ((k : Int) + 1)).key, .string (lsnR r ((k : Int) + 1)).val] 30)).alloc (.cells #[.int .i64 (lsnR r ((k : Int) + 1)).lsn, .int .i64 (lsnR r ((k : Int) + 1)).ep, .int .i64 (lsnR r ((k : Int) + 1)).kind, .int .i64 (lsnR r ((k : Int) + 1)).page, .int .i64 (lsnR r ((k : Int) + 1)).other, .int .i64 (lsnR r ((k : Int) + 1)).req, .string (lsnR r ((k : Int) + 1)).key, .string (lsnR r ((k : Int) + 1)).val] 30)) (some ⟨wr.heap.size + 1, 0, none⟩) (recC (lsnR r ((k : Int) + 1)))) := hnews
      clear hr hcc hrow hnews P6
      go_wp2_with (at_builtin; refine wpList_append_has _ rfl (.tmp 16) (.tmp 18) 23 23 30 30 rfl iR (.agg #[.int .i64 0, .int .i64 0, .int .i64 0, .int .i64 0, .int .i64 0, .int .i64 0, .string ⟨#[]⟩, .string ⟨#[]⟩]) 8 80 Try.underlying23 Try.underlying23 hiR hR0 hR1 hR2 rfl (by omega) (.slice a' k c') k (((riseR rs).take k).flatMap recC) rfl HRW.out (some ⟨wr.heap.size + 1, 0, none⟩) 1 1 (recC (lsnR r ((k : Int) + 1))) rfl rfl HNE.out (recC_one _) (by unfold maxLen; omega) (by omega) ?_; intro a4 c4 w8 ht4 f34 hat4)
      have HT5 : Hid (Has w8 8 (.slice a4 (k + 1) c4) (k + 1) (((riseR rs).take (k + 1)).flatMap recC)) := by
        show Has _ _ _ _ _
        rw [HTK.out, List.flatMap_append]
        simpa using ht4
      have HO5 : Hid (∀ g, (Value.slice a4 (k + 1) c4).ownBlock = some g → w.heap.size ≤ g) := fun g e => by
        have hz := F.size
        rcases hat4 with h1 | h1
        · rw [h1] at e; exact HO.out g e
        · rw [h1] at e; simp at e; omega
      have F5 : Fr (fun _ => False) w w8 := FF.trans f34 (fun i hi e => by have := HO.out i e.1; omega)
      clear ht4 hat4 f34 FF q0 q1 q2 q3 q4 q5 q6 q7 HRW HNE HTK
      go_wp2
      go_roundw
      case rel => exact ⟨k + 1, a4, c4, by omega, by go_num, rfl, HT5, HO5, F5⟩
      case measure => simp [intOf]; omega
    · obtain rfl : k = n := by omega
      have HFIN : Hid (RsOut w (riseR rs) (.returned (.slice a' k c')) wr) := by
        have hl : (riseR rs).length = k := by rw [riseR_length]; exact HN.out.symm
        refine ⟨a', c', by rw [hl], ?_, F, by rw [hl]; exact HO.out⟩
        have := HH.out
        rw [List.take_of_length_le (by omega)] at this
        rw [hl]; exact this
      go_wp2
      go_ret
      exact HFIN.out
end Go.Proofs.Ytlgceleelhppdaa

/- Pages as the document's answer has them. -/
namespace Go.Proofs.Ytlgceleelhppdaa
open Go.RowKit

theorem infoZl : (Try.prog.info? 48).map (fun i => (i.zero, i.size, i.bytes)) = some (some (.agg #[.int .i64 0, .int .i64 0, .int .i64 0, .int .i64 0, .string ⟨#[]⟩, .slice none 0 0, .slice none 0 0, .slice none 0 0]), 8, 120) := by kernel_rfl
set_option maxRecDepth 100000 in
set_option maxHeartbeats 4000000 in
theorem pages_any (a : Option Addr) (n c : Nat) (ls : List Sl) (hn : n = ls.length) (hf : n ≤ 100000) (w : World) (h : Slots w a c ls) :
    Calls Try.prog 8 #[.slice a n c] w fun e w' => SvOut w ls e w' := by
  obtain ⟨iR, hiR, hR0, hR1, hR2⟩ := info_parts infoZl
  have hle : n ≤ c := by rw [hn]; exact h.le
  have hmx := h.max
  have hnod := h.nod
  have HND : Hid (∀ s ∈ ls, Nod w s.nd s.pt) := hnod
  have HS : Hid (∀ W, Fr (fun _ => False) w W → Slots W a c ls) := fun W f => h.same f
  have HN : Hid (n = ls.length) := hn
  clear h hn hnod
  go_enter Try.func8, Try.ntmps8
  go_wp2
  go_loopw [8, 3] (fun i o wr => ∃ (k : Nat) (a' : Option Addr) (c' : Nat), k ≤ n ∧ i = .int .i64 k ∧ o = .slice a' k c' ∧ Hid (Has wr 8 (.slice a' k c') k ((ls.take k).flatMap slC)) ∧ Hid (∀ g, (Value.slice a' k c').ownBlock = some g → w.heap.size ≤ g) ∧ Fr (fun _ => False) w wr) (fun i _ _ => n - (intOf i).toNat)
  case atStart => exact ⟨0, none, 0, by omega, rfl, rfl, Has.nil _ _, (fun g e => by cases e), Fr.refl _ _⟩
  case round =>
    obtain ⟨k, a', c', hk, rfl, rfl, HH, HO, F⟩ := hrel
    by_cases hlt : k < n
    · obtain ⟨r, hr⟩ : ∃ r, ls[k]? = some r := ⟨_, List.getElem?_eq_getElem (by have := HN.out; omega)⟩
      obtain ⟨bb, off, rfl, hbb, hcc⟩ := (HS.out _ F).some (by have := HN.out; omega)
      obtain ⟨q0, q1, q2, q3, q4, q5, q6, q7⟩ := sl_range (hcc k r hr)
      have hki : (k : Int) < (n : Int) := by omega
      have HTK : Hid (ls.take (k + 1) = ls.take k ++ [r]) := take_snocR hr
      have P6 := (Fr.box wr (.cells #[.int .i64 r.page, .int .i64 r.nd.lev, .int .i64 r.nd.lsn, .int .i64 r.nd.rgt, .string r.nd.high, .slice r.pt.k r.nd.keys.length r.pt.kc, .slice r.pt.v r.nd.vals.length r.pt.vc, .slice r.pt.i r.nd.kids.length r.pt.ic] 42)).alloc (.cells #[.int .i64 r.page, .int .i64 r.nd.lev, .int .i64 r.nd.lsn, .int .i64 r.nd.rgt, .string r.nd.high, .slice r.pt.k r.nd.keys.length r.pt.kc, .slice r.pt.v r.nd.vals.length r.pt.vc, .slice r.pt.i r.nd.kids.length r.pt.ic] 48)
      have hrow := HH.out.fr P6 (fun _ _ f => f)
      have FF := F.seq' P6
      have HNE : Hid (From ((wr.alloc (.cells #[.int .i64 r.page, .int .i64 r.nd.lev, .int .i64 r.nd.lsn, .int .i64 r.nd.rgt, .string r.nd.high, .slice r.pt.k r.nd.keys.length r.pt.kc, .slice r.pt.v r.nd.vals.length r.pt.vc, .slice r.pt.i r.nd.kids.length r.pt.ic] 42)).alloc (.cells #[.int .i64 r.page, .int .i64 r.nd.lev, .int .i64 r.nd.lsn, .int .i64 r.nd.rgt, .string r.nd.high, .slice r.pt.k r.nd.keys.length r.pt.kc, .slice r.pt.v r.nd.vals.length r.pt.vc, .slice r.pt.i r.nd.kids.length r.pt.ic] 48)) (some ⟨wr.heap.size + 1, 0, none⟩) (slC r)) := .inr ⟨_, _, rfl, by
        have := range_block (heap_alloc_new (wr.alloc (.cells #[.int .i64 r.page, .int .i64 r.nd.lev, .int .i64 r.nd.lsn, .int .i64 r.nd.rgt, .string r.nd.high, .slice r.pt.k r.nd.keys.length r.pt.kc, .slice r.pt.v r.nd.vals.length r.pt.vc, .slice r.pt.i r.nd.kids.length r.pt.ic] 42)) (.cells #[.int .i64 r.page, .int .i64 r.nd.lev, .int .i64 r.nd.lsn, .int .i64 r.nd.rgt, .string r.nd.high, .slice r.pt.k r.nd.keys.length r.pt.kc, .slice r.pt.v r.nd.vals.length r.pt.vc, .slice r.pt.i r.nd.kids.length r.pt.ic] 48)) (xs := slC r) (o := 0) (fun j v hv => by rw [Nat.zero_add]; simpa [slC] using hv)
        rwa [show (wr.alloc (.cells #[.int .i64 r.page, .int .i64 r.nd.lev, .int .i64 r.nd.lsn, .int .i64 r.nd.rgt, .string r.nd.high, .slice r.pt.k r.nd.keys.length r.pt.kc, .slice r.pt.v r.nd.vals.length r.pt.vc, .slice r.pt.i r.nd.kids.length r.pt.ic] 42)).heap.size = wr.heap.size + 1 by simp] at this⟩
      have HRW : Hid (Has ((wr.alloc (.cells #[.int .i64 r.page, .int .i64 r.nd.lev, .int .i64 r.nd.lsn, .int .i64 r.nd.rgt, .string r.nd.high, .slice r.pt.k r.nd.keys.length r.pt.kc, .slice r.pt.v r.nd.vals.length r.pt.vc, .slice r.pt.i r.nd.kids.length r.pt.ic] 42)).alloc (.cells #[.int .i64 r.page, .int .i64 r.nd.lev, .int .i64 r.nd.lsn, .int .i64 r.nd.rgt, .string r.nd.high, .slice r.pt.k r.nd.keys.length r.pt.kc, .slice r.pt.v r.nd.vals.length r.pt.vc, .slice r.pt.i r.nd.kids.length r.pt.ic] 48)) 8 (.slice a' k c') k ((ls.take k).flatMap slC)) := hrow
      clear hr hcc hrow P6
      go_wp2_with (at_builtin; refine wpList_append_has _ rfl (.tmp 12) (.tmp 18) 32 32 48 48 rfl iR _ 8 120 Try.underlying32 Try.underlying32 hiR hR0 hR1 hR2 rfl (by omega) (.slice a' k c') k ((ls.take k).flatMap slC) rfl HRW.out (some ⟨wr.heap.size + 1, 0, none⟩) 1 1 (slC r) rfl rfl HNE.out (slC_one _) (by unfold maxLen; omega) (by omega) ?_; intro a4 c4 w8 ht4 f34 hat4)
      have HT5 : Hid (Has w8 8 (.slice a4 (k + 1) c4) (k + 1) ((ls.take (k + 1)).flatMap slC)) := by
        show Has _ _ _ _ _
        rw [HTK.out, List.flatMap_append]
        simpa using ht4
      have HO5 : Hid (∀ g, (Value.slice a4 (k + 1) c4).ownBlock = some g → w.heap.size ≤ g) := fun g e => by
        have hz := F.size
        rcases hat4 with h1 | h1
        · rw [h1] at e; exact HO.out g e
        · rw [h1] at e; simp at e; omega
      have F5 : Fr (fun _ => False) w w8 := FF.trans f34 (fun i hi e => by have := HO.out i e.1; omega)
      clear ht4 hat4 f34 FF q0 q1 q2 q3 q4 q5 q6 q7 HRW HNE HTK
      go_wp2
      go_roundw
      case rel => exact ⟨k + 1, a4, c4, by omega, by go_num, rfl, HT5, HO5, F5⟩
      case measure => simp [intOf]; omega
    · obtain rfl : k = n := by omega
      have HFIN : Hid (SvOut w ls (.returned (.slice a' k c')) wr) := by
        have hk := HN.out
        subst hk
        have hh := HH.out
        rw [List.take_of_length_le (by omega)] at hh
        exact ⟨a', c', rfl, ⟨hh, fun s hs => (HND.out s hs).same F, fun s hs => (HND.out s hs).far (fun b hb e => by have := HO.out b e; omega)⟩, F, HO.out⟩
      go_wp2
      go_ret
      exact HFIN.out
end Go.Proofs.Ytlgceleelhppdaa

/- That the plain comparison of two nodes that are the same is true. -/
namespace Go.Proofs.Ytlgceleelhppdaa
open Go.RowKit

set_option maxRecDepth 100000 in
set_option maxHeartbeats 1000000 in
theorem texts_same (a1 a2 : Option Addr) (n1 n2 c1 c2 : Nat) (l : List ByteArray) (h1 : n1 = l.length) (h2 : n2 = l.length) (w : World) (r1 : Strs w a1 c1 l) (r2 : Strs w a2 c2 l) :
    Calls Try.prog 27 #[.slice a1 n1 c1, .slice a2 n2 c2] w fun e w' => e = .returned (.bool true) ∧ Fr (fun _ => False) w w' := by
  subst h1
  have e2 : l.length = n2 := h2.symm
  subst e2
  have l1 := r1.le
  have m1 := r1.max
  have l2 := r2.le
  have m2 := r2.max
  go_enter Try.func27, Try.ntmps27
  go_wp2
  go_loopw [13] (fun i wr => ∃ k : Nat, k ≤ l.length ∧ i = .int .i64 k ∧ Fr (fun _ => False) w wr) (fun i _ => l.length - (intOf i).toNat)
  case atStart => exact ⟨0, by omega, rfl, Fr.refl _ _⟩
  case round =>
    obtain ⟨k, hk, rfl, hf⟩ := hrel
    by_cases hlt : k < l.length
    · obtain ⟨b1, o1, e1, hb1, hc1⟩ := strs_some (r1.same hf) hlt
      obtain ⟨b2, o2, e2, hb2, hc2⟩ := strs_some (r2.same hf) hlt
      have k1 := hc1 k hlt
      have k2 := hc2 k hlt
      obtain ⟨s, hs⟩ : ∃ s, s = l.getD k ByteArray.empty := ⟨_, rfl⟩
      rw [← hs] at k1 k2
      clear hs hc1 hc2
      subst e1 e2
      have i1 : (k : Int) < (l.length : Int) := by omega
      have hbe : (s.toList == s.toList) = true := by simp
      go_wp2
      go_quiet (fail)
      go_wp2
      go_roundw
      case rel => exact ⟨k + 1, by omega, by go_num, hf.drewN _⟩
      case measure => simp [intOf]; omega
    · go_wp2
      go_ret
      exact ⟨rfl, hf⟩
set_option maxRecDepth 100000 in
set_option maxHeartbeats 1000000 in
theorem ints_same (a1 a2 : Option Addr) (n1 n2 c1 c2 : Nat) (l : List Int) (h1 : n1 = l.length) (h2 : n2 = l.length) (w : World) (r1 : Ints w a1 c1 l) (r2 : Ints w a2 c2 l) :
    Calls Try.prog 28 #[.slice a1 n1 c1, .slice a2 n2 c2] w fun e w' => e = .returned (.bool true) ∧ Fr (fun _ => False) w w' := by
  subst h1
  have e2 : l.length = n2 := h2.symm
  subst e2
  have l1 := r1.le
  have m1 := r1.max
  have l2 := r2.le
  have m2 := r2.max
  go_enter Try.func28, Try.ntmps28
  go_wp2
  go_loopw [13] (fun i wr => ∃ k : Nat, k ≤ l.length ∧ i = .int .i64 k ∧ Fr (fun _ => False) w wr) (fun i _ => l.length - (intOf i).toNat)
  case atStart => exact ⟨0, by omega, rfl, Fr.refl _ _⟩
  case round =>
    obtain ⟨k, hk, rfl, hf⟩ := hrel
    by_cases hlt : k < l.length
    · obtain ⟨b1, o1, e1, hb1, hc1⟩ := ints_some (r1.same hf) hlt
      obtain ⟨b2, o2, e2, hb2, hc2⟩ := ints_some (r2.same hf) hlt
      have k1 := hc1 k hlt
      have k2 := hc2 k hlt
      obtain ⟨s, hs⟩ : ∃ s, s = l.getD k 0 := ⟨_, rfl⟩
      rw [← hs] at k1 k2
      clear hs hc1 hc2
      subst e1 e2
      have i1 : (k : Int) < (l.length : Int) := by omega
      go_wp2
      go_quiet (fail)
      go_wp2
      go_roundw
      case rel => exact ⟨k + 1, by omega, by go_num, hf.drewN _⟩
      case measure => simp [intOf]; omega
    · go_wp2
      go_ret
      exact ⟨rfl, hf⟩

set_option maxRecDepth 100000 in
set_option maxHeartbeats 1000000 in
theorem plain_same (n : Nd) (p q : Pt) (w : World) (h1 : Nod w n p) (h2 : Nod w n q) :
    Calls Try.prog 14 #[(.agg #[.int .i64 n.lev, .int .i64 n.lsn, .int .i64 n.rgt, .string n.high, .slice p.k n.keys.length p.kc, .slice p.v n.vals.length p.vc, .slice p.i n.kids.length p.ic]), (.agg #[.int .i64 n.lev, .int .i64 n.lsn, .int .i64 n.rgt, .string n.high, .slice q.k n.keys.length q.kc, .slice q.v n.vals.length q.vc, .slice q.i n.kids.length q.ic])] w fun e w' => e = .returned (.bool true) ∧ Fr (fun _ => False) w w' := by
  have f0 := (Fr.box w (.cells #[.int .i64 n.lev, .int .i64 n.lsn, .int .i64 n.rgt, .string n.high, .slice p.k n.keys.length p.kc, .slice p.v n.vals.length p.vc, .slice p.i n.kids.length p.ic] 40)).alloc (.cells #[.int .i64 n.lev, .int .i64 n.lsn, .int .i64 n.rgt, .string n.high, .slice q.k n.keys.length q.kc, .slice q.v n.vals.length q.vc, .slice q.i n.kids.length q.ic] 40)
  have hbe : (n.high.toList == n.high.toList) = true := by simp
  have hba : ∀ W, Fr (fun _ => False) ((w.alloc (.cells #[.int .i64 n.lev, .int .i64 n.lsn, .int .i64 n.rgt, .string n.high, .slice p.k n.keys.length p.kc, .slice p.v n.vals.length p.vc, .slice p.i n.kids.length p.ic] 40)).alloc (.cells #[.int .i64 n.lev, .int .i64 n.lsn, .int .i64 n.rgt, .string n.high, .slice q.k n.keys.length q.kc, .slice q.v n.vals.length q.vc, .slice q.i n.kids.length q.ic] 40)) W → W.heap[w.heap.size]? = some (.cells #[.int .i64 n.lev, .int .i64 n.lsn, .int .i64 n.rgt, .string n.high, .slice p.k n.keys.length p.kc, .slice p.v n.vals.length p.vc, .slice p.i n.kids.length p.ic] 40 (0, 0)) ∧ W.heap[w.heap.size + 1]? = some (.cells #[.int .i64 n.lev, .int .i64 n.lsn, .int .i64 n.rgt, .string n.high, .slice q.k n.keys.length q.kc, .slice q.v n.vals.length q.vc, .slice q.i n.kids.length q.ic] 40 (0, 0)) := fun W f => by
    refine ⟨box_at w n p 40 (((Fr.refl _ _).alloc _).seq' f), ?_⟩
    have := box_at (w.alloc (.cells #[.int .i64 n.lev, .int .i64 n.lsn, .int .i64 n.rgt, .string n.high, .slice p.k n.keys.length p.kc, .slice p.v n.vals.length p.vc, .slice p.i n.kids.length p.ic] 40)) n q 40 f
    simpa using this
  have HB := hba
  have HBB : Hid (∀ W, Fr (fun _ => False) ((w.alloc (.cells #[.int .i64 n.lev, .int .i64 n.lsn, .int .i64 n.rgt, .string n.high, .slice p.k n.keys.length p.kc, .slice p.v n.vals.length p.vc, .slice p.i n.kids.length p.ic] 40)).alloc (.cells #[.int .i64 n.lev, .int .i64 n.lsn, .int .i64 n.rgt, .string n.high, .slice q.k n.keys.length q.kc, .slice q.v n.vals.length q.vc, .slice q.i n.kids.length q.ic] 40)) W → W.heap[w.heap.size]? = some (.cells #[.int .i64 n.lev, .int .i64 n.lsn, .int .i64 n.rgt, .string n.high, .slice p.k n.keys.length p.kc, .slice p.v n.vals.length p.vc, .slice p.i n.kids.length p.ic] 40 (0, 0)) ∧ W.heap[w.heap.size + 1]? = some (.cells #[.int .i64 n.lev, .int .i64 n.lsn, .int .i64 n.rgt, .string n.high, .slice q.k n.keys.length q.kc, .slice q.v n.vals.length q.vc, .slice q.i n.kids.length q.ic] 40 (0, 0))) := hba
  clear hba HB
  go_enter Try.func14, Try.ntmps14
  go_wp2_with fail
  refine (texts_same _ _ _ _ _ _ n.keys rfl rfl _ (h1.same f0).keys (h2.same f0).keys).mono ?_
  rintro e w1 ⟨rfl, f1⟩
  obtain ⟨b1, b2⟩ := HBB.out w1 f1
  obtain ⟨c0, c1, c2, c3, c4, c5, c6⟩ := box_cells b1
  obtain ⟨d0, d1, d2, d3, d4, d5, d6⟩ := box_cells b2
  go_wp2_with fail
  refine (texts_same _ _ _ _ _ _ n.vals rfl rfl _ (h1.same (f0.seq' f1)).vals (h2.same (f0.seq' f1)).vals).mono ?_
  rintro e w2 ⟨rfl, f2⟩
  clear c0 c1 c2 c3 c4 c5 c6 d0 d1 d2 d3 d4 d5 d6 b1 b2
  obtain ⟨b1, b2⟩ := HBB.out w2 (f1.seq' f2)
  obtain ⟨c0, c1, c2, c3, c4, c5, c6⟩ := box_cells b1
  obtain ⟨d0, d1, d2, d3, d4, d5, d6⟩ := box_cells b2
  go_wp2_with fail
  refine (ints_same _ _ _ _ _ _ n.kids rfl rfl _ (h1.same ((f0.seq' f1).seq' f2)).kids (h2.same ((f0.seq' f1).seq' f2)).kids).mono ?_
  rintro e w3 ⟨rfl, f3⟩
  go_wp2
  go_ret
  exact ⟨rfl, ((f0.seq' f1).seq' f2).seq' f3⟩
end Go.Proofs.Ytlgceleelhppdaa

/- Equal pages. -/
namespace Go.Proofs.Ytlgceleelhppdaa
open Go.RowKit

set_option maxRecDepth 100000 in
set_option maxHeartbeats 4000000 in
theorem same_any (a a2 : Option Addr) (n n2 c c2 : Nat) (ls l2 : List Sl) (hn : n = ls.length) (hn2 : n2 = l2.length) (hp : psOf ls = psOf l2) (w : World) (h : Slots w a c ls) (h2 : Slots w a2 c2 l2) :
    Calls Try.prog 7 #[.slice a n c, .slice a2 n2 c2] w fun e w' => e = .returned (.bool true) ∧ Fr (fun _ => False) w w' := by
  obtain rfl : n2 = n := by have := congrArg List.length hp; rw [ps_length, ps_length] at this; omega
  have hle : n2 ≤ c := by rw [hn]; exact h.le
  have hmx := h.max
  have hle2 : n2 ≤ c2 := by rw [hn2]; exact h2.le
  have hmx2 := h2.max
  have HS : Hid (∀ W, Fr (fun _ => False) w W → Slots W a c ls) := fun W f => h.same f
  have HS2 : Hid (∀ W, Fr (fun _ => False) w W → Slots W a2 c2 l2) := fun W f => h2.same f
  have HN : Hid (n2 = ls.length) := hn
  have HN2 : Hid (n2 = l2.length) := hn2
  have HP : Hid (psOf ls = psOf l2) := hp
  clear h h2 hn hn2 hp
  go_enter Try.func7, Try.ntmps7
  go_wp2
  go_loopw [13] (fun i wr => ∃ (k : Nat), k ≤ n2 ∧ i = .int .i64 k ∧ Fr (fun _ => False) w wr) (fun i _ => n2 - (intOf i).toNat)
  case atStart => exact ⟨0, by omega, rfl, Fr.refl _ _⟩
  case round =>
    obtain ⟨k, hk, rfl, F⟩ := hrel
    by_cases hlt : k < n2
    · obtain ⟨s, hs⟩ : ∃ s, ls[k]? = some s := ⟨_, List.getElem?_eq_getElem (by have := HN.out; omega)⟩
      obtain ⟨t, ht⟩ : ∃ t, l2[k]? = some t := ⟨_, List.getElem?_eq_getElem (by have := HN2.out; omega)⟩
      have hst : s.page = t.page ∧ s.nd = t.nd := by
        have := congrArg (fun l => l[k]?) HP.out
        simp only [psOf, List.getElem?_map, hs, ht, Option.map_some, Option.some.injEq, Prod.mk.injEq] at this
        exact this
      obtain ⟨b1, o1, rfl, hb1, hc1⟩ := (HS.out _ F).some (by have := HN.out; omega)
      obtain ⟨b2, o2, rfl, hb2, hc2⟩ := (HS2.out _ F).some (by have := HN2.out; omega)
      obtain ⟨p0, p1, p2, p3, p4, p5, p6, p7⟩ := sl_range (hc1 k s hs)
      obtain ⟨q0, q1, q2, q3, q4, q5, q6, q7⟩ := sl_range (hc2 k t ht)
      have nd1 := (HS.out _ F).nod s (List.mem_of_getElem? hs)
      have nd2 := (HS2.out _ F).nod t (List.mem_of_getElem? ht)
      rw [← hst.1] at q0
      rw [← hst.2] at q1 q2 q3 q4 q5 q6 q7 nd2
      have hpl := fun W (f : Fr (fun _ => False) wr W) => plain_same s.nd s.pt t.pt W (nd1.same f) (nd2.same f)
      have hki : (k : Int) < (n2 : Int) := by omega
      have HQ : Hid (∀ W, Fr (fun _ => False) wr W → (W.cell? ⟨b1, o1 + k * 8, none⟩ = some (.int .i64 s.page) ∧ W.cell? ⟨b1, o1 + k * 8 + 1, none⟩ = some (.int .i64 s.nd.lev) ∧ W.cell? ⟨b1, o1 + k * 8 + 2, none⟩ = some (.int .i64 s.nd.lsn) ∧ W.cell? ⟨b1, o1 + k * 8 + 3, none⟩ = some (.int .i64 s.nd.rgt) ∧ W.cell? ⟨b1, o1 + k * 8 + 4, none⟩ = some (.string s.nd.high) ∧ W.cell? ⟨b1, o1 + k * 8 + 5, none⟩ = some (.slice s.pt.k s.nd.keys.length s.pt.kc) ∧ W.cell? ⟨b1, o1 + k * 8 + 6, none⟩ = some (.slice s.pt.v s.nd.vals.length s.pt.vc) ∧ W.cell? ⟨b1, o1 + k * 8 + 7, none⟩ = some (.slice s.pt.i s.nd.kids.length s.pt.ic)) ∧ (W.cell? ⟨b2, o2 + k * 8, none⟩ = some (.int .i64 s.page) ∧ W.cell? ⟨b2, o2 + k * 8 + 1, none⟩ = some (.int .i64 s.nd.lev) ∧ W.cell? ⟨b2, o2 + k * 8 + 2, none⟩ = some (.int .i64 s.nd.lsn) ∧ W.cell? ⟨b2, o2 + k * 8 + 3, none⟩ = some (.int .i64 s.nd.rgt) ∧ W.cell? ⟨b2, o2 + k * 8 + 4, none⟩ = some (.string s.nd.high) ∧ W.cell? ⟨b2, o2 + k * 8 + 5, none⟩ = some (.slice t.pt.k s.nd.keys.length t.pt.kc) ∧ W.cell? ⟨b2, o2 + k * 8 + 6, none⟩ = some (.slice t.pt.v s.nd.vals.length t.pt.vc) ∧ W.cell? ⟨b2, o2 + k * 8 + 7, none⟩ = some (.slice t.pt.i s.nd.kids.length t.pt.ic))) := fun W f => by
        refine ⟨?_, ?_⟩
        · exact sl_range (range_fr (hc1 k s hs) f (fun f => f))
        · have := sl_range (range_fr (hc2 k t ht) f (fun f => f))
          rw [← hst.1, ← hst.2] at this
          exact this
      have g0 := (Fr.refl (fun _ => False) wr).drew
      clear hs ht hst hc1 hc2 nd1 nd2 p0 p1 p2 p3 p4 p5 p6 p7 q0 q1 q2 q3 q4 q5 q6 q7
      go_wp2_with fail
      go_region_held3 (fun W => (W.cell? ⟨b1, o1 + k * 8, none⟩ = some (.int .i64 s.page) ∧ W.cell? ⟨b1, o1 + k * 8 + 1, none⟩ = some (.int .i64 s.nd.lev) ∧ W.cell? ⟨b1, o1 + k * 8 + 2, none⟩ = some (.int .i64 s.nd.lsn) ∧ W.cell? ⟨b1, o1 + k * 8 + 3, none⟩ = some (.int .i64 s.nd.rgt) ∧ W.cell? ⟨b1, o1 + k * 8 + 4, none⟩ = some (.string s.nd.high) ∧ W.cell? ⟨b1, o1 + k * 8 + 5, none⟩ = some (.slice s.pt.k s.nd.keys.length s.pt.kc) ∧ W.cell? ⟨b1, o1 + k * 8 + 6, none⟩ = some (.slice s.pt.v s.nd.vals.length s.pt.vc) ∧ W.cell? ⟨b1, o1 + k * 8 + 7, none⟩ = some (.slice s.pt.i s.nd.kids.length s.pt.ic)) ∧ (W.cell? ⟨b2, o2 + k * 8, none⟩ = some (.int .i64 s.page) ∧ W.cell? ⟨b2, o2 + k * 8 + 1, none⟩ = some (.int .i64 s.nd.lev) ∧ W.cell? ⟨b2, o2 + k * 8 + 2, none⟩ = some (.int .i64 s.nd.lsn) ∧ W.cell? ⟨b2, o2 + k * 8 + 3, none⟩ = some (.int .i64 s.nd.rgt) ∧ W.cell? ⟨b2, o2 + k * 8 + 4, none⟩ = some (.string s.nd.high) ∧ W.cell? ⟨b2, o2 + k * 8 + 5, none⟩ = some (.slice t.pt.k s.nd.keys.length t.pt.kc) ∧ W.cell? ⟨b2, o2 + k * 8 + 6, none⟩ = some (.slice t.pt.v s.nd.vals.length t.pt.vc) ∧ W.cell? ⟨b2, o2 + k * 8 + 7, none⟩ = some (.slice t.pt.i s.nd.kids.length t.pt.ic)))
        (first | with_reducible exact HQ.out _ g0 | with_reducible exact HQ.out _ g1)
        (first | (go_at_call 14; refine (hpl _ g0).mono ?_; rintro e w1 ⟨rfl, m1⟩; have g1 := g0.seq' m1))
      go_wp2
      go_roundw
      case rel => exact ⟨k + 1, by omega, by go_num, F.seq' g1⟩
      case measure => simp [intOf]; omega
    · obtain rfl : k = n2 := by omega
      go_wp2
      go_ret
      exact ⟨rfl, F⟩
end Go.Proofs.Ytlgceleelhppdaa
