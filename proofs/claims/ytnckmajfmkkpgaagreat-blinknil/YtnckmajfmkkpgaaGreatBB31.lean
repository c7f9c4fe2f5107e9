
/- RdFind, RdOwn, RdSem, RdNo. -/
import Derived.Test.YtnckmajfmkkpgaaGreatBB29
import Derived.Deep.DeepCutAuto
import Derived.Test.YtnckmajfmkkpgaaGreatBB30
/- Where a page stands among pages. -/
namespace Go.Proofs.YtnckmajfmkkpgaaGreat
open Go.RowKit

def cmpI (a b : Int) : Int := if a < b then -1 else if b < a then 1 else 0
theorem inan_any (a : Int) (w : World) : Calls Tryz.prog 67 #[.int .i64 a] w fun e w' => e = .returned (.bool false) ∧ w' = w := by
  go_enter Tryz.func67, Tryz.ntmps67
  go_wp2
  go_ret
  exact ⟨by simp, rfl⟩
theorem icmp_any (a b : Int) (w : World) : Calls Tryz.prog 47 #[.int .i64 a, .int .i64 b] w fun e w' => e = .returned (.int .i64 (cmpI a b)) ∧ w' = w := by
  by_cases h : a < b
  · have e1 : cmpI a b = -1 := if_pos h
    rw [e1]
    go_enter Tryz.func47, Tryz.ntmps47
    go_wp2_with (go_at_call 67; refine (inan_any _ _).mono ?_; rintro e w' ⟨rfl, rfl⟩)
    go_ret
    exact ⟨rfl, rfl⟩
  · by_cases h2 : b < a
    · have e1 : cmpI a b = 1 := (if_neg h).trans (if_pos h2)
      rw [e1]
      go_enter Tryz.func47, Tryz.ntmps47
      go_wp2_with (go_at_call 67; refine (inan_any _ _).mono ?_; rintro e w' ⟨rfl, rfl⟩)
      go_ret
      exact ⟨rfl, rfl⟩
    · have e1 : cmpI a b = 0 := (if_neg h).trans (if_neg h2)
      rw [e1]
      go_enter Tryz.func47, Tryz.ntmps47
      go_wp2_with (go_at_call 67; refine (inan_any _ _).mono ?_; rintro e w' ⟨rfl, rfl⟩)
      go_ret
      exact ⟨rfl, rfl⟩

/-- Pages rise. -/
def Rise (ls : List Sl) : Prop := ∀ (i j : Nat) (s t : Sl), i < j → ls[i]? = some s → ls[j]? = some t → s.page < t.page
/-- How many pages stand ahead of a page. -/
def ahead : List Sl → Int → Nat
  | [], _ => 0
  | s :: l, x => if s.page < x then ahead l x + 1 else 0
theorem Rise.tail {s : Sl} {l : List Sl} (h : Rise (s :: l)) : Rise l := fun i j a b hij hi hj => h (i + 1) (j + 1) a b (by omega) (by simpa using hi) (by simpa using hj)
theorem ahead_le (ls : List Sl) (x : Int) : ahead ls x ≤ ls.length := by
  induction ls with
  | nil => exact Nat.le_refl _
  | cons s l ih => unfold ahead; split <;> simp <;> omega
theorem ahead_lt {ls : List Sl} {x : Int} (hr : Rise ls) {i : Nat} {s : Sl} (hi : ls[i]? = some s) : s.page < x ↔ i < ahead ls x := by
  induction ls generalizing i with
  | nil => simp at hi
  | cons t l ih =>
    unfold ahead
    cases i with
    | zero =>
      simp at hi; subst hi
      split
      · rename_i h; simp [h]
      · rename_i h; simp [h]
    | succ i =>
      have hi' : l[i]? = some s := by simpa using hi
      split
      · rw [ih hr.tail hi']; omega
      · rename_i h
        have := hr 0 (i + 1) t s (by omega) rfl hi
        constructor
        · intro e; omega
        · intro e; omega
theorem ahead_eq {ls : List Sl} {x : Int} (hr : Rise ls) {k : Nat} (hk : k ≤ ls.length) (h1 : ∀ i s, ls[i]? = some s → i < k → s.page < x) (h2 : ∀ i s, ls[i]? = some s → k ≤ i → ¬ s.page < x) : ahead ls x = k := by
  have hle := ahead_le ls x
  rcases Nat.lt_trichotomy (ahead ls x) k with e | e | e
  · obtain ⟨s, hs⟩ : ∃ s, ls[ahead ls x]? = some s := ⟨_, List.getElem?_eq_getElem (by omega)⟩
    have := (ahead_lt hr hs).1 (h1 _ s hs e)
    omega
  · exact e
  · obtain ⟨s, hs⟩ : ∃ s, ls[k]? = some s := ⟨_, List.getElem?_eq_getElem (by omega)⟩
    exact absurd ((ahead_lt hr hs).2 e) (h2 _ s hs (Nat.le_refl _))
def hasB (ls : List Sl) (x : Int) : Bool := match ls[ahead ls x]? with | none => false | some s => s.page == x
end Go.Proofs.YtnckmajfmkkpgaaGreat

/- Pages that are a call's own: a copy of pages, and what holds while they are written. -/
namespace Go.Proofs.YtnckmajfmkkpgaaGreat
open Go.RowKit Go.Lib

theorem Ints.frS {S : Nat → Prop} {w w' : World} {a : Option Addr} {cap : Nat} {l : List Int} (h : Ints w a cap l) (f : Fr S w w') (hn : l = [] ∨ ∀ b o, a = some ⟨b, o, none⟩ → ¬ S b) : Ints w' a cap l := by
  refine ⟨h.le, h.max, ?_⟩
  rcases hn with h0 | hn
  · exact .inl h0
  rcases h.at_ with h0 | ⟨b, off, ha, hb, hc⟩
  · exact .inl h0
  · refine .inr ⟨b, off, ha, Nat.lt_of_lt_of_le hb f.size, fun i hi => ?_⟩
    rw [f.cell (p := ⟨b, off + i, none⟩) hb (hn b off ha)]
    exact hc i hi
theorem Strs.frS {S : Nat → Prop} {w w' : World} {a : Option Addr} {cap : Nat} {l : List ByteArray} (h : Strs w a cap l) (f : Fr S w w') (hn : l = [] ∨ ∀ b o, a = some ⟨b, o, none⟩ → ¬ S b) : Strs w' a cap l := by
  rcases hn with h0 | hn
  · exact ⟨h.1, h.2, h.3, .inl h0⟩
  · exact h.fr f (fun b _ ⟨o, e⟩ => hn b o e)
/-- A node's lists lie off some memory. -/
def Off (S : Nat → Prop) (n : Nd) (p : Pt) : Prop :=
  (n.keys = [] ∨ ∀ b o, p.k = some ⟨b, o, none⟩ → ¬ S b) ∧ (n.vals = [] ∨ ∀ b o, p.v = some ⟨b, o, none⟩ → ¬ S b) ∧ (n.kids = [] ∨ ∀ b o, p.i = some ⟨b, o, none⟩ → ¬ S b)
theorem Nod.frS {S : Nat → Prop} {w w' : World} {n : Nd} {p : Pt} (h : Nod w n p) (f : Fr S w w') (ho : Off S n p) : Nod w' n p :=
  ⟨h.keys.frS f ho.1, h.vals.frS f ho.2.1, h.kids.frS f ho.2.2, h.high, h.ksz, h.vsz, h.klen, h.vlen, h.ilen⟩
theorem Nod.far {S : Nat → Prop} {w : World} {n : Nd} {p : Pt} (h : Nod w n p) (hS : ∀ b, b < w.heap.size → ¬ S b) : Off S n p := by
  refine ⟨?_, ?_, ?_⟩
  · rcases h.keys.at_ with h0 | ⟨b, off, ha, hb, _⟩
    · exact .inl h0
    · exact .inr (fun b' o e => by rw [ha] at e; cases e; exact hS _ hb)
  · rcases h.vals.at_ with h0 | ⟨b, off, ha, hb, _⟩
    · exact .inl h0
    · exact .inr (fun b' o e => by rw [ha] at e; cases e; exact hS _ hb)
  · rcases h.kids.at_ with h0 | ⟨b, off, ha, hb, _⟩
    · exact .inl h0
    · exact .inr (fun b' o e => by rw [ha] at e; cases e; exact hS _ hb)
theorem Nw.off {S : Nat → Prop} {w : World} {n : Nd} {p : Pt} (h : Nw w p) (hS : ∀ b, w.heap.size ≤ b → ¬ S b) : Off S n p :=
  ⟨.inr (fun b o e => hS b (h b o (.inl e))), .inr (fun b o e => hS b (h b o (.inr (.inl e)))), .inr (fun b o e => hS b (h b o (.inr (.inr e))))⟩
/-- Pages whose slice is a call's own, with their nodes off it. -/
structure Sv (w : World) (rv : Value) (ls : List Sl) : Prop where
  has : Has w 8 rv ls.length (ls.flatMap slC)
  nod : ∀ s ∈ ls, Nod w s.nd s.pt
  off : ∀ s ∈ ls, Off (fun k => rv.ownBlock = some k) s.nd s.pt
theorem Sv.same {w w' : World} {rv : Value} {ls : List Sl} (h : Sv w rv ls) (f : Fr (fun _ => False) w w') : Sv w' rv ls :=
  ⟨h.has.fr f (fun _ _ f => f), fun s hs => (h.nod s hs).same f, h.off⟩
theorem Sv.slots {w : World} {a : Option Addr} {n c : Nat} {ls : List Sl} (hn : n = ls.length) (h : Sv w (.slice a n c) ls) : Slots w a c ls := by
  subst hn
  obtain ⟨a', c', he, h1, h2⟩ := h.has.slice
  simp only [Value.slice.injEq, true_and] at he
  obtain ⟨rfl, rfl⟩ := he
  refine ⟨h1, by unfold maxLen at h2; exact h2, ?_, h.nod⟩
  by_cases h0 : ls.length = 0
  · exact .inl (List.length_eq_zero_iff.1 h0)
  · obtain ⟨g, cap, hv, hg, _⟩ := h.has.form (by omega)
    simp only [Value.slice.injEq, true_and] at hv
    obtain ⟨rfl, rfl⟩ := hv
    refine .inr ⟨g, 0, rfl, hg, fun i m hm => ?_⟩
    rw [Nat.zero_add]
    exact h.has.elem slC_length hm
theorem slCs_one (ls : List Sl) : ∀ u ∈ ls.flatMap slC, u.oneCell' = true := fun u hu => by
  obtain ⟨r, _, h⟩ := List.mem_flatMap.1 hu
  exact slC_one r u h
theorem slots_range {w : World} {b : Nat} (ls : List Sl) (off : Nat) (h : ∀ i s, ls[i]? = some s → w.rangeAt b (off + i * 8) (slC s)) : w.rangeAt b off (ls.flatMap slC) := by
  induction ls generalizing off with
  | nil => intro j v hv; simp at hv
  | cons s l ih =>
    rw [List.flatMap_cons]
    refine range_join (by have := h 0 s rfl; simpa using this) ?_
    rw [slC_length]
    refine ih (off + 8) (fun i t ht => ?_)
    have := h (i + 1) t (by simpa using ht)
    rwa [show off + 8 + i * 8 = off + (i + 1) * 8 by omega]
theorem Slots.from {w : World} {a : Option Addr} {c : Nat} {ls : List Sl} (h : Slots w a c ls) : From w a (ls.flatMap slC) := by
  rcases h.at_ with h0 | ⟨b, off, rfl, _, hc⟩
  · exact .inl (by rw [h0]; rfl)
  · exact .inr ⟨b, off, rfl, slots_range ls off hc⟩
/-- Pages that a call made. -/
def SvOut (w : World) (ls : List Sl) (e : Ending) (w' : World) : Prop := ∃ a c, e = .returned (.slice a ls.length c) ∧ Sv w' (.slice a ls.length c) ls ∧ Fr (fun _ => False) w w' ∧ ∀ k, (Value.slice a ls.length c).ownBlock = some k → w.heap.size ≤ k
end Go.Proofs.YtnckmajfmkkpgaaGreat

/- What replayed makes of pages. -/
namespace Go.Proofs.YtnckmajfmkkpgaaGreat
open Go.RowKit Go.Lib

def ahP : List (Int × Nd) → Int → Nat
  | [], _ => 0
  | s :: l, x => if s.1 < x then ahP l x + 1 else 0
def hasP (ps : List (Int × Nd)) (x : Int) : Bool := match ps[ahP ps x]? with | none => false | some s => s.1 == x
theorem ah_ps (ls : List Sl) (x : Int) : ahead ls x = ahP (psOf ls) x := by
  induction ls with
  | nil => rfl
  | cons s l ih => simp only [ahead, psOf, List.map_cons, ahP]; rw [ih]; rfl
theorem has_ps (ls : List Sl) (x : Int) : hasB ls x = hasP (psOf ls) x := by
  unfold hasB hasP
  rw [← ah_ps]
  unfold psOf
  rw [List.getElem?_map]
  cases ls[ahead ls x]? <;> rfl
def nodeP (ps : List (Int × Nd)) (x : Int) : Nd := if hasP ps x = true then ((ps[ahP ps x]?).map (·.2)).getD zn else zn
def rpE (ps : List (Int × Nd)) (r : Rec) : Int := if apE (nodeP ps r.page) (hasP ps r.page) r = 1 then 0 else apE (nodeP ps r.page) (hasP ps r.page) r
def rpP (ps : List (Int × Nd)) (r : Rec) : List (Int × Nd) :=
  if apE (nodeP ps r.page) (hasP ps r.page) r = 1 then ps else if apE (nodeP ps r.page) (hasP ps r.page) r = 0 then
    (if hasP ps r.page = true then ps.set (ahP ps r.page) (r.page, apN (nodeP ps r.page) true r) else ps.take (ahP ps r.page) ++ (r.page, apN (nodeP ps r.page) false r) :: ps.drop (ahP ps r.page))
  else []
theorem rp_arg {ps : List (Int × Nd)} {r : Rec} {n : Nd} {b : Bool} (hb : hasP ps r.page = b) (hn : nodeP ps r.page = n) (h : apE n b r = 1) : rpE ps r = 0 ∧ rpP ps r = ps := by
  unfold rpE rpP; rw [hb, hn, if_pos h, if_pos h]; exact ⟨rfl, rfl⟩
theorem rp_err {ps : List (Int × Nd)} {r : Rec} {n : Nd} {b : Bool} (hb : hasP ps r.page = b) (hn : nodeP ps r.page = n) (h : apE n b r ≠ 1) (h0 : apE n b r ≠ 0) : rpE ps r = apE n b r ∧ rpP ps r = [] := by
  unfold rpE rpP; rw [hb, hn, if_neg h, if_neg h, if_neg h0]; exact ⟨rfl, rfl⟩
theorem rp_ins {ps : List (Int × Nd)} {r : Rec} {n : Nd} (hb : hasP ps r.page = false) (hn : nodeP ps r.page = n) (h : apE n false r = 0) : rpE ps r = 0 ∧ rpP ps r = ps.take (ahP ps r.page) ++ (r.page, apN n false r) :: ps.drop (ahP ps r.page) := by
  unfold rpE rpP; rw [hb, hn, if_neg (by rw [h]; decide), if_neg (by rw [h]; decide), if_pos h]; exact ⟨h, rfl⟩
theorem rp_set {ps : List (Int × Nd)} {r : Rec} {n : Nd} (hb : hasP ps r.page = true) (hn : nodeP ps r.page = n) (h : apE n true r = 0) : rpE ps r = 0 ∧ rpP ps r = ps.set (ahP ps r.page) (r.page, apN n true r) := by
  unfold rpE rpP; rw [hb, hn, if_neg (by rw [h]; decide), if_neg (by rw [h]; decide), if_pos h]; exact ⟨h, rfl⟩
/-- What replayed tells. -/
def RpOut (w : World) (rv : Value) (ps : List (Int × Nd)) (err : Int) (e : Ending) (w' : World) : Prop := ∃ a' c' ls', e = .returned (.tuple #[.slice a' ls'.length c', .int .i64 err]) ∧ Sv w' (.slice a' ls'.length c') ls' ∧ psOf ls' = ps ∧ Fr (fun k => rv.ownBlock = some k) w w' ∧ ((Value.slice a' ls'.length c').ownBlock = rv.ownBlock ∨ ∀ g, (Value.slice a' ls'.length c').ownBlock = some g → w.heap.size ≤ g)
theorem Sv.ins {W w' : World} {rv : Value} {ls : List Sl} {i n c' : Nat} {a' : Option Addr} (h : Sv W rv ls) (hn : n = ls.length) (s : Sl) (hs : Nod W s.nd s.pt) (ho : Off (fun k => rv.ownBlock = some k) s.nd s.pt)
    (hh : Has w' 8 (.slice a' (n + 1) c') (n + 1) ((ls.flatMap slC).take (i * 8) ++ (slC s ++ (ls.flatMap slC).drop (i * 8)))) (f : Fr (fun k => rv.ownBlock = some k) W w') (hat : (Value.slice a' (n + 1) c').ownBlock = rv.ownBlock ∨ ∃ g, (Value.slice a' (n + 1) c').ownBlock = some g ∧ W.heap.size ≤ g) :
    Sv w' (.slice a' (n + 1) c') (ls.take i ++ s :: ls.drop i) := by
  have hl : (ls.take i ++ s :: ls.drop i).length = n + 1 := by rw [hn]; simp; omega
  have hm : ∀ t ∈ ls.take i ++ s :: ls.drop i, Nod W t.nd t.pt ∧ Off (fun k => rv.ownBlock = some k) t.nd t.pt := by
    intro t ht
    rw [List.mem_append, List.mem_cons] at ht
    rcases ht with ht | rfl | ht
    · have := List.mem_of_mem_take ht; exact ⟨h.nod t this, h.off t this⟩
    · exact ⟨hs, ho⟩
    · have := List.mem_of_mem_drop ht; exact ⟨h.nod t this, h.off t this⟩
  refine ⟨?_, fun t ht => (hm t ht).1.frS f (hm t ht).2, fun t ht => ?_⟩
  · rw [hl, List.flatMap_append, List.flatMap_cons]
    rw [flat_take slC_length, flat_drop slC_length] at hh
    exact hh
  · rcases hat with e | ⟨g, e, hg⟩
    · rw [e]; exact (hm t ht).2
    · exact (hm t ht).1.far (fun b hb e2 => by rw [e] at e2; cases e2; omega)
theorem ps_ins (ls : List Sl) (i : Nat) (s : Sl) : psOf (ls.take i ++ s :: ls.drop i) = (psOf ls).take i ++ (s.page, s.nd) :: (psOf ls).drop i := by
  simp [psOf, List.map_take, List.map_drop]
theorem Sv.set {W : World} {g n c : Nat} {ls : List Sl} {i : Nat} {s : Sl} (h : Sv W (.slice (some ⟨g, 0, none⟩) n c) ls) (hn : n = ls.length) (hs : ls[i]? = some s) (m : Nd) (q : Pt) (hm : Nod W m q) (ho : Off (fun k => k = g) m q) :
    Sv (W.setCells g (i * 8 + 1) [.int .i64 m.lev, .int .i64 m.lsn, .int .i64 m.rgt, .string m.high, .slice q.k m.keys.length q.kc, .slice q.v m.vals.length q.vc, .slice q.i m.kids.length q.ic]) (.slice (some ⟨g, 0, none⟩) n c) (ls.set i ⟨s.page, m, q⟩) := by
  subst hn
  have hi := (List.getElem?_eq_some_iff.1 hs).1
  have hF : Fr (fun k => k = g) W (W.setCells g (i * 8 + 1) [.int .i64 m.lev, .int .i64 m.lsn, .int .i64 m.rgt, .string m.high, .slice q.k m.keys.length q.kc, .slice q.v m.vals.length q.vc, .slice q.i m.kids.length q.ic]) := Fr.setCells (S := fun k => k = g) (fun _ => rfl) _ _ (Fr.refl _ W)
  have hown : ∀ k, (Value.slice (some ⟨g, 0, none⟩) ls.length c).ownBlock = some k → k = g := fun k hk => by simp [Value.ownBlock] at hk; exact hk.symm
  have hm2 : ∀ t ∈ ls.set i ⟨s.page, m, q⟩, Nod W t.nd t.pt ∧ Off (fun k => (Value.slice (some ⟨g, 0, none⟩) ls.length c).ownBlock = some k) t.nd t.pt := by
    intro t ht
    rcases List.mem_or_eq_of_mem_set ht with h1 | rfl
    · exact ⟨h.nod t h1, h.off t h1⟩
    · exact ⟨hm, by
        obtain ⟨h1, h2, h3⟩ := ho
        exact ⟨h1.imp id (fun hx b o e f => hx b o e (hown b f)), h2.imp id (fun hx b o e f => hx b o e (hown b f)), h3.imp id (fun hx b o e f => hx b o e (hown b f))⟩⟩
  refine ⟨?_, fun t ht => (hm2 t ht).1.frS (hF.mono (fun k _ e => by rw [e]; rfl)) (hm2 t ht).2, fun t ht => (hm2 t ht).2⟩
  have hset := h.has.set (i * 8 + 1) [.int .i64 m.lev, .int .i64 m.lsn, .int .i64 m.rgt, .string m.high, .slice q.k m.keys.length q.kc, .slice q.v m.vals.length q.vc, .slice q.i m.kids.length q.ic] (by rw [flat_length slC_length]; simp; omega)
  rw [List.length_set]
  refine (congrArg (Has _ 8 _ ls.length) ?_).mp hset
  have e1 : ls.flatMap slC = (ls.take i).flatMap slC ++ (slC s ++ (ls.drop (i + 1)).flatMap slC) := by
    conv => lhs; rw [← List.take_append_drop i ls, List.drop_eq_getElem_cons hi, (List.getElem?_eq_some_iff.1 hs).2]
    rw [List.flatMap_append, List.flatMap_cons]
  have e2 : (ls.set i ⟨s.page, m, q⟩).flatMap slC = (ls.take i).flatMap slC ++ (slC ⟨s.page, m, q⟩ ++ (ls.drop (i + 1)).flatMap slC) := by
    rw [List.set_eq_take_append_cons_drop, if_pos hi, List.flatMap_append, List.flatMap_cons]
  have hA : ((ls.take i).flatMap slC).length = i * 8 := by rw [flat_length slC_length, List.length_take]; congr 1; omega
  rw [e2, e1]
  generalize (ls.take i).flatMap slC = A at hA
  generalize (ls.drop (i + 1)).flatMap slC = B
  rw [List.take_append, List.drop_append, List.take_of_length_le (by omega), List.drop_eq_nil_of_le (by simp; omega), hA, show i * 8 + 1 - i * 8 = 1 by omega]
  rw [show (i * 8 + 1 + [Value.int .i64 m.lev, .int .i64 m.lsn, .int .i64 m.rgt, .string m.high, .slice q.k m.keys.length q.kc, .slice q.v m.vals.length q.vc, .slice q.i m.kids.length q.ic].length) - i * 8 = 8 by simp; omega]
  simp [slC]
theorem ps_set (ls : List Sl) (i : Nat) (s : Sl) : psOf (ls.set i s) = (psOf ls).set i (s.page, s.nd) := by simp [psOf, List.map_set]
end Go.Proofs.YtnckmajfmkkpgaaGreat

/- A record whose page is not among the pages. -/
namespace Go.Proofs.YtnckmajfmkkpgaaGreat
open Go.RowKit Go.Lib

theorem rp_nil {w W : World} {rv : Value} {err err' : Int} (ps : List (Int × Nd)) (hp : ps = []) (he : err = err') (f : Fr (fun _ => False) w W) : RpOut w rv ps err' (.returned (.tuple #[.slice none 0 0, .int .i64 err])) W := by
  subst hp; subst he
  exact ⟨none, 0, [], rfl, ⟨Has.nil _ _, (fun s hs => by cases hs), (fun s hs => by cases hs)⟩, rfl, f.mono (fun _ _ f => f.elim), .inr (fun g e => by cases e)⟩
theorem rp_keep {w W : World} {a : Option Addr} {n c : Nat} {ls : List Sl} {err : Int} (hn : n = ls.length) (h : Sv w (.slice a n c) ls) (ps : List (Int × Nd)) (hp : ps = psOf ls) (he : err = 0) (f : Fr (fun _ => False) w W) : RpOut w (.slice a n c) ps err (.returned (.tuple #[.slice a n c, .int .i64 0])) W := by
  subst hp; subst he; subst hn
  exact ⟨a, c, ls, rfl, h.same f, rfl, f.mono (fun _ _ f => f.elim), .inl rfl⟩
end Go.Proofs.YtnckmajfmkkpgaaGreat
