
/- RdPure, RdRise, RdPages, PgPlain, RdSame. -/
import Derived.Test.YtkibbojiflklpaaGreatBB32
import Derived.Test.YtkibbojiflklpaaGreatBB4
/- Records of different pages do not touch one another. -/
namespace Go.Proofs.YtkibbojiflklpaaGreat
open Go.RowKit

/-- The node of a page, if it is there. -/
def getP : List (Int × Nd) → Int → Option Nd
  | [], _ => none
  | s :: l, y => if s.1 = y then some s.2 else getP l y
def Srt (ps : List (Int × Nd)) : Prop := (ps.map (·.1)).Pairwise (· < ·)
theorem Srt.tail {s : Int × Nd} {l : List (Int × Nd)} (h : Srt (s :: l)) : Srt l := by
  unfold Srt at h; rw [List.map_cons, List.pairwise_cons] at h; exact h.2
theorem Srt.head {s : Int × Nd} {l : List (Int × Nd)} (h : Srt (s :: l)) : ∀ t ∈ l, s.1 < t.1 := by
  unfold Srt at h; rw [List.map_cons, List.pairwise_cons] at h
  exact fun t ht => h.1 t.1 (List.mem_map.2 ⟨t, ht, rfl⟩)
theorem get_none {l : List (Int × Nd)} {y : Int} (h : ∀ t ∈ l, t.1 ≠ y) : getP l y = none := by
  induction l with
  | nil => rfl
  | cons s l ih => unfold getP; rw [if_neg (h s (by simp))]; exact ih (fun t ht => h t (by simp [ht]))
theorem get_some {l : List (Int × Nd)} {y : Int} {n : Nd} (h : getP l y = some n) : (y, n) ∈ l := by
  induction l with
  | nil => cases h
  | cons s l ih =>
    unfold getP at h
    by_cases e : s.1 = y
    · rw [if_pos e] at h; cases h; subst e; simp
    · rw [if_neg e] at h; simp [ih h]
theorem get_app (a b : List (Int × Nd)) (y : Int) : getP (a ++ b) y = (getP a y).or (getP b y) := by
  induction a with
  | nil => simp [getP]
  | cons s l ih => simp only [List.cons_append, getP]; split <;> simp [ih]
/-- What the search finds is the page's node. -/
theorem get_has (ps : List (Int × Nd)) (x : Int) (h : Srt ps) : hasP ps x = (getP ps x).isSome ∧ nodeP ps x = (getP ps x).getD zn := by
  induction ps with
  | nil => exact ⟨rfl, rfl⟩
  | cons s l ih =>
    by_cases hlt : s.1 < x
    · have e : ahP (s :: l) x = ahP l x + 1 := if_pos hlt
      have e1 : hasP (s :: l) x = hasP l x := by unfold hasP; rw [e, List.getElem?_cons_succ]
      have e2 : nodeP (s :: l) x = nodeP l x := by unfold nodeP; rw [e1, e, List.getElem?_cons_succ]
      have e3 : getP (s :: l) x = getP l x := if_neg (by omega)
      rw [e1, e2, e3]; exact ih h.tail
    · have e : ahP (s :: l) x = 0 := if_neg hlt
      have e1 : hasP (s :: l) x = (s.1 == x) := by unfold hasP; rw [e]; rfl
      by_cases hx : s.1 = x
      · have e3 : getP (s :: l) x = some s.2 := if_pos hx
        have e1' : hasP (s :: l) x = true := by rw [e1]; simpa using hx
        refine ⟨by rw [e1', e3]; rfl, ?_⟩
        unfold nodeP
        rw [e1', if_pos rfl, e, e3]; rfl
      · have e3 : getP (s :: l) x = none := by
          unfold getP; rw [if_neg hx]
          exact get_none (fun t ht => by have := h.head t ht; omega)
        have e1' : hasP (s :: l) x = false := by rw [e1]; simpa using hx
        refine ⟨by rw [e1', e3]; rfl, ?_⟩
        unfold nodeP
        rw [e1', if_neg (by simp), e3]; rfl
theorem get_ins (ps : List (Int × Nd)) (i : Nat) (x : Int) (n : Nd) (h : getP ps x = none) (y : Int) : getP (ps.take i ++ (x, n) :: ps.drop i) y = if y = x then some n else getP ps y := by
  have h2 : getP ps y = (getP (ps.take i) y).or (getP (ps.drop i) y) := by rw [← get_app, List.take_append_drop]
  rw [get_app]
  by_cases e : y = x
  · subst e
    rw [if_pos rfl]
    rw [h2] at h
    have : getP (ps.take i) y = none := by cases hh : getP (ps.take i) y <;> simp [hh] at h ⊢
    rw [this]
    unfold getP
    rw [if_pos rfl]; rfl
  · rw [if_neg e, h2]
    congr 1
    exact if_neg (fun f => e f.symm)
theorem get_set (ps : List (Int × Nd)) (x : Int) (n : Nd) (h : Srt ps) (hb : hasP ps x = true) (y : Int) : getP (ps.set (ahP ps x) (x, n)) y = if y = x then some n else getP ps y := by
  induction ps with
  | nil => cases hb
  | cons s l ih =>
    by_cases hlt : s.1 < x
    · have e : ahP (s :: l) x = ahP l x + 1 := if_pos hlt
      have e1 : hasP (s :: l) x = hasP l x := by unfold hasP; rw [e, List.getElem?_cons_succ]
      rw [e, List.set_cons_succ]
      unfold getP
      rw [ih h.tail (by rw [← e1]; exact hb)]
      by_cases hy : s.1 = y
      · rw [if_pos hy, if_pos hy, if_neg (by omega)]
      · rw [if_neg hy, if_neg hy]
    · have e : ahP (s :: l) x = 0 := if_neg hlt
      have hx : s.1 = x := by unfold hasP at hb; rw [e] at hb; simpa using hb
      rw [e, List.set_cons_zero]
      unfold getP
      by_cases hy : y = x
      · rw [if_pos hy, if_pos hy.symm]
      · rw [if_neg hy, if_neg (fun f => hy f.symm), if_neg (fun f => hy (by rw [← f, hx]))]
theorem get_ext (ps qs : List (Int × Nd)) (h : Srt ps) (k : Srt qs) (e : ∀ y, getP ps y = getP qs y) : ps = qs := by
  induction ps generalizing qs with
  | nil =>
    cases qs with
    | nil => rfl
    | cons q m => have := e q.1; simp [getP] at this
  | cons p l ih =>
    cases qs with
    | nil => have := e p.1; simp [getP] at this
    | cons q m =>
      have e1 : getP (q :: m) p.1 = some p.2 := by rw [← e]; simp [getP]
      have e2 : getP (p :: l) q.1 = some q.2 := by rw [e]; simp [getP]
      have m1 := get_some e1
      have m2 := get_some e2
      have h1 : p = q := by
        rcases List.mem_cons.1 m1 with f | f
        · exact f
        · rcases List.mem_cons.1 m2 with g | g
          · exact g.symm
          · have := k.head _ f; have := h.head _ g; simp at *; omega
      subst h1
      congr 1
      refine ih m h.tail k.tail (fun y => ?_)
      by_cases hy : p.1 = y
      · rw [get_none (fun t ht => by have := h.head t ht; omega), get_none (fun t ht => by have := k.head t ht; omega)]
      · have := e y
        unfold getP at this
        rwa [if_neg hy, if_neg hy] at this
/-- A record and one page. -/
def st1E (o : Option Nd) (r : Rec) : Int := if apE (o.getD zn) o.isSome r = 1 then 0 else apE (o.getD zn) o.isSome r
def st1 (o : Option Nd) (r : Rec) : Option Nd := if apE (o.getD zn) o.isSome r = 1 then o else some (apN (o.getD zn) o.isSome r)
def run1 : Option Nd → List Rec → Option (Option Nd)
  | o, [] => some o
  | o, r :: rs => if st1E o r = 0 then run1 (st1 o r) rs else none
theorem rp_st {ps : List (Int × Nd)} (h : Srt ps) (r : Rec) : rpE ps r = st1E (getP ps r.page) r := by
  unfold rpE st1E; rw [(get_has ps r.page h).1, (get_has ps r.page h).2]
theorem rp_get {ps : List (Int × Nd)} (h : Srt ps) (r : Rec) (h0 : rpE ps r = 0) (y : Int) : getP (rpP ps r) y = if y = r.page then st1 (getP ps r.page) r else getP ps y := by
  obtain ⟨g1, g2⟩ := get_has ps r.page h
  unfold st1
  rw [← g1, ← g2]
  by_cases e1 : apE (nodeP ps r.page) (hasP ps r.page) r = 1
  · rw [(rp_arg rfl rfl e1).2, if_pos e1]
    split
    · rename_i hy; rw [hy]
    · rfl
  · have e0 : apE (nodeP ps r.page) (hasP ps r.page) r = 0 := by unfold rpE at h0; rwa [if_neg e1] at h0
    rw [if_neg e1]
    cases hb : hasP ps r.page
    · rw [hb] at e0
      rw [(rp_ins hb rfl e0).2]
      exact get_ins ps _ _ _ (by rw [hb] at g1; cases hg : getP ps r.page <;> simp [hg] at g1 ⊢) y
    · rw [hb] at e0
      rw [(rp_set hb rfl e0).2]
      exact get_set ps _ _ h hb y
/-- Replay page by page: no error, and these pages, if and only if each page by itself comes to its node. -/
theorem rpl_iff (ps qs : List (Int × Nd)) (rs : List Rec) (h : PsOk ps) (k : Srt qs) : rplP ps rs = (qs, 0) ↔ ∀ x, run1 (getP ps x) (rs.filter (fun r => r.page == x)) = some (getP qs x) := by
  induction rs generalizing ps with
  | nil =>
    simp only [rplP, Prod.mk.injEq, and_true, List.filter_nil, run1, Option.some.injEq]
    exact ⟨fun e x => by rw [e], fun e => get_ext ps qs h.1 k e⟩
  | cons r rs ih =>
    unfold rplP
    by_cases h0 : rpE ps r = 0
    · rw [if_pos h0, ih (rpP ps r) (h.step r h0)]
      have hst := h0
      rw [rp_st h.1] at hst
      refine forall_congr' (fun x => ?_)
      rw [rp_get h.1 r h0]
      by_cases hx : x = r.page
      · subst hx
        rw [if_pos rfl, List.filter_cons_of_pos (by simp)]
        show _ ↔ (if st1E _ r = 0 then _ else none) = _
        rw [if_pos hst]
      · rw [if_neg hx, List.filter_cons_of_neg (by simpa using fun f => hx f.symm)]
    · rw [if_neg h0]
      constructor
      · intro e; simp only [Prod.mk.injEq] at e; exact absurd e.2 h0
      · intro e
        have := e r.page
        rw [List.filter_cons_of_pos (by simp)] at this
        unfold run1 at this
        rw [← rp_st h.1, if_neg h0] at this
        cases this
theorem run1_out {x : Int} (hx : ¬ (1 ≤ x ∧ x ≤ 4096)) (o q : Option Nd) (rs : List Rec) (hr : ∀ r ∈ rs, r.page = x) (h : run1 o rs = some q) : q = o := by
  induction rs generalizing o with
  | nil => simp [run1] at h; exact h.symm
  | cons r rs ih =>
    unfold run1 at h
    by_cases h0 : st1E o r = 0
    · rw [if_pos h0] at h
      have hs : st1 o r = o := by
        unfold st1E at h0
        unfold st1
        by_cases e1 : apE (o.getD zn) o.isSome r = 1
        · rw [if_pos e1]
        · rw [if_neg e1] at h0
          have := page_in h0
          rw [hr r (by simp)] at this
          exact absurd this hx
      rw [hs] at h
      exact ih o (fun t ht => hr t (by simp [ht])) h
    · rw [if_neg h0] at h; cases h
/-- By page is as well as in order. -/
theorem by_page (ps qs : List (Int × Nd)) (rs bs : List Rec) (h : PsOk ps) (k : Srt qs) (hb : ∀ x, 1 ≤ x ∧ x ≤ 4096 → bs.filter (fun r => r.page == x) = rs.filter (fun r => r.page == x)) (hn : ∀ r ∈ bs, 1 ≤ r.page ∧ r.page ≤ 4096) (e : rplP ps rs = (qs, 0)) : rplP ps bs = (qs, 0) := by
  rw [rpl_iff ps qs _ h k] at e ⊢
  intro x
  by_cases hx : 1 ≤ x ∧ x ≤ 4096
  · rw [hb x hx]; exact e x
  · have h1 : bs.filter (fun r => r.page == x) = [] := by
      rw [List.filter_eq_nil_iff]
      intro r hr f
      have : r.page = x := by simpa using f
      have := hn r hr
      omega
    rw [h1]
    have := run1_out hx _ _ _ (fun r hr => by have := (List.mem_filter.1 hr).2; simpa using this) (e x)
    rw [this]; rfl
end Go.Proofs.YtkibbojiflklpaaGreat

/- Records with the LSNs 1, 2, 3 and so on. -/
namespace Go.Proofs.YtkibbojiflklpaaGreat
open Go.RowKit

def lsnR (r : Rec) (l : Int) : Rec := ⟨l, r.ep, r.kind, r.page, r.other, r.req, r.key, r.val⟩
def riseR (rs : List Rec) : List Rec := rs.mapIdx (fun i r => lsnR r ((i : Int) + 1))
theorem riseR_length (rs : List Rec) : (riseR rs).length = rs.length := by simp [riseR]
theorem riseR_get {rs : List Rec} {k : Nat} {r : Rec} (h : rs[k]? = some r) : (riseR rs)[k]? = some (lsnR r ((k : Int) + 1)) := by
  unfold riseR; rw [List.getElem?_mapIdx, h]; rfl
theorem infoRc : (Tryz.prog.info? 54).map (fun i => (i.zero, i.size, i.bytes)) = some (some (.agg #[.int .i64 0, .int .i64 0, .int .i64 0, .int .i64 0, .int .i64 0, .int .i64 0, .string ⟨#[]⟩, .string ⟨#[]⟩]), 8, 80) := by kernel_rfl
theorem take_snocR {α : Type} {l : List α} {k : Nat} {x : α} (h : l[k]? = some x) : l.take (k + 1) = l.take k ++ [x] := by
  obtain ⟨h1, h2⟩ := List.getElem?_eq_some_iff.1 h
  rw [List.take_succ_eq_append_getElem h1, h2]
/-- Records of a call's own. -/
def RsOut (w : World) (ls : List Rec) (e : Ending) (w' : World) : Prop := ∃ a c, e = .returned (.slice a ls.length c) ∧ Has w' 8 (.slice a ls.length c) ls.length (ls.flatMap recC) ∧ Fr (fun _ => False) w w' ∧ ∀ k, (Value.slice a ls.length c).ownBlock = some k → w.heap.size ≤ k
end Go.Proofs.YtkibbojiflklpaaGreat

/- Pages as the document's answer has them. -/
namespace Go.Proofs.YtkibbojiflklpaaGreat
open Go.RowKit

theorem infoZl : (Tryz.prog.info? 40).map (fun i => (i.zero, i.size, i.bytes)) = some (some (.agg #[.int .i64 0, .int .i64 0, .int .i64 0, .int .i64 0, .string ⟨#[]⟩, .slice none 0 0, .slice none 0 0, .slice none 0 0]), 8, 120) := by kernel_rfl
end Go.Proofs.YtkibbojiflklpaaGreat

/- That the plain comparison of two nodes that are the same is true. -/
namespace Go.Proofs.YtkibbojiflklpaaGreat
open Go.RowKit

set_option maxRecDepth 100000 in
set_option maxHeartbeats 1000000 in
theorem texts_same (a1 a2 : Option Addr) (n1 n2 c1 c2 : Nat) (l : List ByteArray) (h1 : n1 = l.length) (h2 : n2 = l.length) (w : World) (r1 : Strs w a1 c1 l) (r2 : Strs w a2 c2 l) :
    Calls Tryz.prog 68 #[.slice a1 n1 c1, .slice a2 n2 c2] w fun e w' => e = .returned (.bool true) ∧ Fr (fun _ => False) w w' := by
  subst h1
  have e2 : l.length = n2 := h2.symm
  subst e2
  have l1 := r1.le
  have m1 := r1.max
  have l2 := r2.le
  have m2 := r2.max
  go_enter Tryz.func68, Tryz.ntmps68
  go_wp2
  go_loopw [13] (fun i wr => ∃ k : Nat, k ≤ l.length ∧ i = .int .i64 k ∧ Fr (fun _ => False) w wr) (fun i _ => l.length - (intOf i).toNat)
  case atStart => exact ⟨0, by omega, rfl, Fr.refl _ _⟩
  case round =>
    obtain ⟨k, hk, rfl, hf⟩ := hrel
    by_cases hlt : k < l.length
    · obtain ⟨b1, o1, e1, hb1, hc1⟩ := strs_some (r1.same hf) hlt
      obtain ⟨b2, o2, e2, hb2, hc2⟩ := strs_some (r2.same hf) hlt
      have k1 := hc1 k hlt
      have k2 := hc2 k hlt
      obtain ⟨s, hs⟩ : ∃ s, s = l.getD k ByteArray.empty := ⟨_, rfl⟩
      rw [← hs] at k1 k2
      clear hs hc1 hc2
      subst e1 e2
      have i1 : (k : Int) < (l.length : Int) := by omega
      have hbe : (s.toList == s.toList) = true := by simp
      go_wp2
      go_quiet (fail)
      go_wp2
      go_roundw
      case rel => exact ⟨k + 1, by omega, by go_num, hf.drewN _⟩
      case measure => simp [intOf]; omega
    · go_wp2
      go_ret
      exact ⟨rfl, hf⟩
set_option maxRecDepth 100000 in
set_option maxHeartbeats 1000000 in
theorem ints_same (a1 a2 : Option Addr) (n1 n2 c1 c2 : Nat) (l : List Int) (h1 : n1 = l.length) (h2 : n2 = l.length) (w : World) (r1 : Ints w a1 c1 l) (r2 : Ints w a2 c2 l) :
    Calls Tryz.prog 69 #[.slice a1 n1 c1, .slice a2 n2 c2] w fun e w' => e = .returned (.bool true) ∧ Fr (fun _ => False) w w' := by
  subst h1
  have e2 : l.length = n2 := h2.symm
  subst e2
  have l1 := r1.le
  have m1 := r1.max
  have l2 := r2.le
  have m2 := r2.max
  go_enter Tryz.func69, Tryz.ntmps69
  go_wp2
  go_loopw [13] (fun i wr => ∃ k : Nat, k ≤ l.length ∧ i = .int .i64 k ∧ Fr (fun _ => False) w wr) (fun i _ => l.length - (intOf i).toNat)
  case atStart => exact ⟨0, by omega, rfl, Fr.refl _ _⟩
  case round =>
    obtain ⟨k, hk, rfl, hf⟩ := hrel
    by_cases hlt : k < l.length
    · obtain ⟨b1, o1, e1, hb1, hc1⟩ := ints_some (r1.same hf) hlt
      obtain ⟨b2, o2, e2, hb2, hc2⟩ := ints_some (r2.same hf) hlt
      have k1 := hc1 k hlt
      have k2 := hc2 k hlt
      obtain ⟨s, hs⟩ : ∃ s, s = l.getD k 0 := ⟨_, rfl⟩
      rw [← hs] at k1 k2
      clear hs hc1 hc2
      subst e1 e2
      have i1 : (k : Int) < (l.length : Int) := by omega
      go_wp2
      go_quiet (fail)
      go_wp2
      go_roundw
      case rel => exact ⟨k + 1, by omega, by go_num, hf.drewN _⟩
      case measure => simp [intOf]; omega
    · go_wp2
      go_ret
      exact ⟨rfl, hf⟩

set_option maxRecDepth 100000 in
set_option maxHeartbeats 1000000 in
theorem plain_same (n : Nd) (p q : Pt) (w : World) (h1 : Nod w n p) (h2 : Nod w n q) :
    Calls Tryz.prog 36 #[(.agg #[.int .i64 n.lev, .int .i64 n.lsn, .int .i64 n.rgt, .string n.high, .slice p.k n.keys.length p.kc, .slice p.v n.vals.length p.vc, .slice p.i n.kids.length p.ic]), (.agg #[.int .i64 n.lev, .int .i64 n.lsn, .int .i64 n.rgt, .string n.high, .slice q.k n.keys.length q.kc, .slice q.v n.vals.length q.vc, .slice q.i n.kids.length q.ic])] w fun e w' => e = .returned (.bool true) ∧ Fr (fun _ => False) w w' := by
  have f0 := (Fr.box w (.cells #[.int .i64 n.lev, .int .i64 n.lsn, .int .i64 n.rgt, .string n.high, .slice p.k n.keys.length p.kc, .slice p.v n.vals.length p.vc, .slice p.i n.kids.length p.ic] 33)).alloc (.cells #[.int .i64 n.lev, .int .i64 n.lsn, .int .i64 n.rgt, .string n.high, .slice q.k n.keys.length q.kc, .slice q.v n.vals.length q.vc, .slice q.i n.kids.length q.ic] 33)
  have hbe : (n.high.toList == n.high.toList) = true := by simp
  have hba : ∀ W, Fr (fun _ => False) ((w.alloc (.cells #[.int .i64 n.lev, .int .i64 n.lsn, .int .i64 n.rgt, .string n.high, .slice p.k n.keys.length p.kc, .slice p.v n.vals.length p.vc, .slice p.i n.kids.length p.ic] 33)).alloc (.cells #[.int .i64 n.lev, .int .i64 n.lsn, .int .i64 n.rgt, .string n.high, .slice q.k n.keys.length q.kc, .slice q.v n.vals.length q.vc, .slice q.i n.kids.length q.ic] 33)) W → W.heap[w.heap.size]? = some (.cells #[.int .i64 n.lev, .int .i64 n.lsn, .int .i64 n.rgt, .string n.high, .slice p.k n.keys.length p.kc, .slice p.v n.vals.length p.vc, .slice p.i n.kids.length p.ic] 33 (0, 0)) ∧ W.heap[w.heap.size + 1]? = some (.cells #[.int .i64 n.lev, .int .i64 n.lsn, .int .i64 n.rgt, .string n.high, .slice q.k n.keys.length q.kc, .slice q.v n.vals.length q.vc, .slice q.i n.kids.length q.ic] 33 (0, 0)) := fun W f => by
    refine ⟨box_at w n p 33 (((Fr.refl _ _).alloc _).seq' f), ?_⟩
    have := box_at (w.alloc (.cells #[.int .i64 n.lev, .int .i64 n.lsn, .int .i64 n.rgt, .string n.high, .slice p.k n.keys.length p.kc, .slice p.v n.vals.length p.vc, .slice p.i n.kids.length p.ic] 33)) n q 33 f
    simpa using this
  have HB := hba
  have HBB : Hid (∀ W, Fr (fun _ => False) ((w.alloc (.cells #[.int .i64 n.lev, .int .i64 n.lsn, .int .i64 n.rgt, .string n.high, .slice p.k n.keys.length p.kc, .slice p.v n.vals.length p.vc, .slice p.i n.kids.length p.ic] 33)).alloc (.cells #[.int .i64 n.lev, .int .i64 n.lsn, .int .i64 n.rgt, .string n.high, .slice q.k n.keys.length q.kc, .slice q.v n.vals.length q.vc, .slice q.i n.kids.length q.ic] 33)) W → W.heap[w.heap.size]? = some (.cells #[.int .i64 n.lev, .int .i64 n.lsn, .int .i64 n.rgt, .string n.high, .slice p.k n.keys.length p.kc, .slice p.v n.vals.length p.vc, .slice p.i n.kids.length p.ic] 33 (0, 0)) ∧ W.heap[w.heap.size + 1]? = some (.cells #[.int .i64 n.lev, .int .i64 n.lsn, .int .i64 n.rgt, .string n.high, .slice q.k n.keys.length q.kc, .slice q.v n.vals.length q.vc, .slice q.i n.kids.length q.ic] 33 (0, 0))) := hba
  clear hba HB
  go_enter Tryz.func36, Tryz.ntmps36
  go_wp2_with fail
  refine (texts_same _ _ _ _ _ _ n.keys rfl rfl _ (h1.same f0).keys (h2.same f0).keys).mono ?_
  rintro e w1 ⟨rfl, f1⟩
  obtain ⟨b1, b2⟩ := HBB.out w1 f1
  obtain ⟨c0, c1, c2, c3, c4, c5, c6⟩ := box_cells b1
  obtain ⟨d0, d1, d2, d3, d4, d5, d6⟩ := box_cells b2
  go_wp2_with fail
  refine (texts_same _ _ _ _ _ _ n.vals rfl rfl _ (h1.same (f0.seq' f1)).vals (h2.same (f0.seq' f1)).vals).mono ?_
  rintro e w2 ⟨rfl, f2⟩
  clear c0 c1 c2 c3 c4 c5 c6 d0 d1 d2 d3 d4 d5 d6 b1 b2
  obtain ⟨b1, b2⟩ := HBB.out w2 (f1.seq' f2)
  obtain ⟨c0, c1, c2, c3, c4, c5, c6⟩ := box_cells b1
  obtain ⟨d0, d1, d2, d3, d4, d5, d6⟩ := box_cells b2
  go_wp2_with fail
  refine (ints_same _ _ _ _ _ _ n.kids rfl rfl _ (h1.same ((f0.seq' f1).seq' f2)).kids (h2.same ((f0.seq' f1).seq' f2)).kids).mono ?_
  rintro e w3 ⟨rfl, f3⟩
  go_wp2
  go_ret
  exact ⟨rfl, ((f0.seq' f1).seq' f2).seq' f3⟩
end Go.Proofs.YtkibbojiflklpaaGreat

/- Equal pages. -/
namespace Go.Proofs.YtkibbojiflklpaaGreat
open Go.RowKit

end Go.Proofs.YtkibbojiflklpaaGreat
