
/- RdFind, RdOwn, RdSem, RdNo. -/
import Derived.Test.YtkibbojiflklpaaGreatBB29
import Derived.Deep.DeepCutAuto
import Derived.Test.YtkibbojiflklpaaGreatBB30
/- Where a page stands among pages. -/
namespace Go.Proofs.YtkibbojiflklpaaGreat
open Go.RowKit

def cmpI (a b : Int) : Int := if a < b then -1 else if b < a then 1 else 0
theorem inan_any (a : Int) (w : World) : Calls Tryz.prog 109 #[.int .i64 a] w fun e w' => e = .returned (.bool false) ∧ w' = w := by
  go_enter Tryz.func109, Tryz.ntmps109
  go_wp2
  go_ret
  exact ⟨by simp, rfl⟩
theorem icmp_any (a b : Int) (w : World) : Calls Tryz.prog 77 #[.int .i64 a, .int .i64 b] w fun e w' => e = .returned (.int .i64 (cmpI a b)) ∧ w' = w := by
  by_cases h : a < b
  · have e1 : cmpI a b = -1 := if_pos h
    rw [e1]
    go_enter Tryz.func77, Tryz.ntmps77
    go_wp2_with (go_at_call 109; refine (inan_any _ _).mono ?_; rintro e w' ⟨rfl, rfl⟩)
    go_ret
    exact ⟨rfl, rfl⟩
  · by_cases h2 : b < a
    · have e1 : cmpI a b = 1 := (if_neg h).trans (if_pos h2)
      rw [e1]
      go_enter Tryz.func77, Tryz.ntmps77
      go_wp2_with (go_at_call 109; refine (inan_any _ _).mono ?_; rintro e w' ⟨rfl, rfl⟩)
      go_ret
      exact ⟨rfl, rfl⟩
    · have e1 : cmpI a b = 0 := (if_neg h).trans (if_neg h2)
      rw [e1]
      go_enter Tryz.func77, Tryz.ntmps77
      go_wp2_with (go_at_call 109; refine (inan_any _ _).mono ?_; rintro e w' ⟨rfl, rfl⟩)
      go_ret
      exact ⟨rfl, rfl⟩

theorem slotCmp_any (s : Sl) (x : Int) (w : World) : Calls Tryz.prog 76 #[(.agg #[.int .i64 s.page, .int .i64 s.nd.lev, .int .i64 s.nd.lsn, .int .i64 s.nd.rgt, .string s.nd.high, .slice s.pt.k s.nd.keys.length s.pt.kc, .slice s.pt.v s.nd.vals.length s.pt.vc, .slice s.pt.i s.nd.kids.length s.pt.ic]), .int .i64 x] w fun e w' => e = .returned (.int .i64 (cmpI s.page x)) ∧ Fr (fun _ => False) w w' := by
  have f0 := Fr.box w (.cells #[.int .i64 s.page, .int .i64 s.nd.lev, .int .i64 s.nd.lsn, .int .i64 s.nd.rgt, .string s.nd.high, .slice s.pt.k s.nd.keys.length s.pt.kc, .slice s.pt.v s.nd.vals.length s.pt.vc, .slice s.pt.i s.nd.kids.length s.pt.ic] 35)
  have hc := fun W => icmp_any s.page x W
  go_enter Tryz.func76, Tryz.ntmps76
  go_wp2_with (go_at_call 77; refine (hc _).mono ?_; rintro e w' ⟨rfl, rfl⟩)
  go_ret
  exact ⟨rfl, f0⟩
/-- Pages rise. -/
def Rise (ls : List Sl) : Prop := ∀ (i j : Nat) (s t : Sl), i < j → ls[i]? = some s → ls[j]? = some t → s.page < t.page
/-- How many pages stand ahead of a page. -/
def ahead : List Sl → Int → Nat
  | [], _ => 0
  | s :: l, x => if s.page < x then ahead l x + 1 else 0
theorem Rise.tail {s : Sl} {l : List Sl} (h : Rise (s :: l)) : Rise l := fun i j a b hij hi hj => h (i + 1) (j + 1) a b (by omega) (by simpa using hi) (by simpa using hj)
theorem ahead_le (ls : List Sl) (x : Int) : ahead ls x ≤ ls.length := by
  induction ls with
  | nil => exact Nat.le_refl _
  | cons s l ih => unfold ahead; split <;> simp <;> omega
theorem ahead_lt {ls : List Sl} {x : Int} (hr : Rise ls) {i : Nat} {s : Sl} (hi : ls[i]? = some s) : s.page < x ↔ i < ahead ls x := by
  induction ls generalizing i with
  | nil => simp at hi
  | cons t l ih =>
    unfold ahead
    cases i with
    | zero =>
      simp at hi; subst hi
      split
      · rename_i h; simp [h]
      · rename_i h; simp [h]
    | succ i =>
      have hi' : l[i]? = some s := by simpa using hi
      split
      · rw [ih hr.tail hi']; omega
      · rename_i h
        have := hr 0 (i + 1) t s (by omega) rfl hi
        constructor
        · intro e; omega
        · intro e; omega
theorem ahead_eq {ls : List Sl} {x : Int} (hr : Rise ls) {k : Nat} (hk : k ≤ ls.length) (h1 : ∀ i s, ls[i]? = some s → i < k → s.page < x) (h2 : ∀ i s, ls[i]? = some s → k ≤ i → ¬ s.page < x) : ahead ls x = k := by
  have hle := ahead_le ls x
  rcases Nat.lt_trichotomy (ahead ls x) k with e | e | e
  · obtain ⟨s, hs⟩ : ∃ s, ls[ahead ls x]? = some s := ⟨_, List.getElem?_eq_getElem (by omega)⟩
    have := (ahead_lt hr hs).1 (h1 _ s hs e)
    omega
  · exact e
  · obtain ⟨s, hs⟩ : ∃ s, ls[k]? = some s := ⟨_, List.getElem?_eq_getElem (by omega)⟩
    exact absurd ((ahead_lt hr hs).2 e) (h2 _ s hs (Nat.le_refl _))
def hasB (ls : List Sl) (x : Int) : Bool := match ls[ahead ls x]? with | none => false | some s => s.page == x
set_option maxRecDepth 100000 in
set_option maxHeartbeats 4000000 in
theorem bs_any (a : Option Addr) (len cap : Nat) (ls : List Sl) (hl : len = ls.length) (hf : ls.length ≤ 100000) (hr : Rise ls) (x : Int) (w : World) (h : Slots w a cap ls) : Calls Tryz.prog 75 #[.slice a len cap, .int .i64 x, .func (.func 76) #[] #[]] w fun e w' => e = .returned (.tuple #[.int .i64 (ahead ls x : Nat), .bool (hasB ls x)]) ∧ Fr (fun _ => False) w w' := by
  subst hl
  have hle := h.le
  have hmx := h.max
  have HS : Hid (∀ W, Fr (fun _ => False) w W → Slots W a cap ls) := fun W f => h.same f
  have HRI : Hid (Rise ls) := hr
  clear h hr
  go_enter Tryz.func75, Tryz.ntmps75
  go_wp2
  go_loopw [9, 10] (fun i j wr => ∃ (p q : Nat), p ≤ q ∧ q ≤ ls.length ∧ i = .int .i64 p ∧ j = .int .i64 q ∧ Hid (∀ i s, ls[i]? = some s → i < p → s.page < x) ∧ Hid (∀ i s, ls[i]? = some s → q ≤ i → x ≤ s.page) ∧ Fr (fun _ => False) w wr) (fun i j _ => (intOf j).toNat - (intOf i).toNat)
  case atStart => exact ⟨0, ls.length, by omega, by omega, rfl, rfl, (fun i s _ h => by omega), (fun i s hs h => by have := (List.getElem?_eq_some_iff.1 hs).1; omega), Fr.refl _ _⟩
  case round =>
    obtain ⟨p, q, hpq, hq, rfl, rfl, H1, H2, F⟩ := hrel
    by_cases hlt : p < q
    · have hpm : p ≤ (p + q) / 2 := by omega
      have hmq : (p + q) / 2 < q := by omega
      obtain ⟨s, hs⟩ : ∃ s, ls[(p + q) / 2]? = some s := ⟨_, List.getElem?_eq_getElem (by omega)⟩
      obtain ⟨b, off, rfl, hb, hc⟩ := (HS.out _ F).some (by omega)
      obtain ⟨q0, q1, q2, q3, q4, q5, q6, q7⟩ := sl_range (hc ((p + q) / 2) s hs)
      have hcm := slotCmp_any s x
      have hpi : (p : Int) < (q : Int) := by omega
      have HSS : Hid (ls[(p + q) / 2]? = some s) := hs
      clear hs hc
      by_cases hx : s.page < x
      · have hce : cmpI s.page x = -1 := if_pos hx
        rw [hce] at hcm
        have HN1 : Hid (∀ i t, ls[i]? = some t → i < (p + q) / 2 + 1 → t.page < x) := fun i t ht hi => by
          rcases Nat.lt_or_ge i ((p + q) / 2) with e | e
          · have := HRI.out i ((p + q) / 2) t s e ht HSS.out; omega
          · have e2 : i = (p + q) / 2 := by omega
            rw [e2, HSS.out] at ht; cases ht; exact hx
        clear hx hce
        go_wp2_with fail
        refine (hcm _).mono ?_
        rintro e w1 ⟨rfl, f1⟩
        go_wp2
        go_roundw
        case rel => exact ⟨(p + q) / 2 + 1, q, by omega, by omega, by go_num, rfl, HN1, H2, F.seq' f1⟩
        case measure => simp [intOf]; omega
      · have hce : ∃ c, cmpI s.page x = c ∧ decide (c < 0) = false := by
          unfold cmpI
          rw [if_neg hx]
          split
          · exact ⟨1, rfl, rfl⟩
          · exact ⟨0, rfl, rfl⟩
        obtain ⟨c, hc1, hc2⟩ := hce
        rw [hc1] at hcm
        have HN2 : Hid (∀ i t, ls[i]? = some t → (p + q) / 2 ≤ i → x ≤ t.page) := fun i t ht hi => by
          rcases Nat.lt_or_ge ((p + q) / 2) i with e | e
          · have := HRI.out ((p + q) / 2) i s t e HSS.out ht; omega
          · have e2 : i = (p + q) / 2 := by omega
            rw [e2, HSS.out] at ht; cases ht; omega
        clear hx hc1
        go_wp2_with fail
        refine (hcm _).mono ?_
        rintro e w1 ⟨rfl, f1⟩
        go_wp2
        go_roundw
        case rel => exact ⟨p, (p + q) / 2, by omega, by omega, rfl, by go_num, H1, HN2, F.seq' f1⟩
        case measure => simp [intOf]; omega
    · obtain rfl : p = q := by omega
      have HA : Hid (ahead ls x = p) := ahead_eq HRI.out hq H1.out (fun i s hs hi => by have := H2.out i s hs hi; omega)
      have HHB : Hid (hasB ls x = match ls[p]? with | none => false | some s => s.page == x) := by show _ = _; unfold hasB; rw [HA.out]
      clear H1 H2
      by_cases hl2 : p < ls.length
      · obtain ⟨s, hs⟩ : ∃ s, ls[p]? = some s := ⟨_, List.getElem?_eq_getElem hl2⟩
        obtain ⟨b, off, rfl, hb, hc⟩ := (HS.out _ F).some (by omega)
        obtain ⟨q0, q1, q2, q3, q4, q5, q6, q7⟩ := sl_range (hc p s hs)
        have hcm := slotCmp_any s x
        have hpi : (p : Int) < (ls.length : Int) := by omega
        have HH2 : Hid (hasB ls x = (cmpI s.page x == 0)) := by
          show _ = _
          rw [HHB.out, hs]
          dsimp only
          unfold cmpI
          rw [Bool.eq_iff_iff]
          simp only [beq_iff_eq]
          split
          · constructor <;> intro e <;> omega
          · split <;> constructor <;> intro e <;> omega
        generalize cmpI s.page x = c at *
        clear hs hc
        go_wp2_with fail
        refine (hcm _).mono ?_
        rintro e w1 ⟨rfl, f1⟩
        go_wp2
        go_ret2
        exact ⟨by rw [HA.out, HH2.out]; rfl, F.seq' f1⟩
      · have HH2 : Hid (hasB ls x = false) := by show _ = _; rw [HHB.out, List.getElem?_eq_none (by omega)]
        have hpi : decide ((p : Int) < (ls.length : Int)) = false := decide_eq_false (by omega)
        go_wp2
        go_ret2
        exact ⟨by rw [HA.out, HH2.out]; rfl, F⟩
end Go.Proofs.YtkibbojiflklpaaGreat

/- Pages that are a call's own: a copy of pages, and what holds while they are written. -/
namespace Go.Proofs.YtkibbojiflklpaaGreat
open Go.RowKit Go.Lib

theorem Ints.frS {S : Nat → Prop} {w w' : World} {a : Option Addr} {cap : Nat} {l : List Int} (h : Ints w a cap l) (f : Fr S w w') (hn : l = [] ∨ ∀ b o, a = some ⟨b, o, none⟩ → ¬ S b) : Ints w' a cap l := by
  refine ⟨h.le, h.max, ?_⟩
  rcases hn with h0 | hn
  · exact .inl h0
  rcases h.at_ with h0 | ⟨b, off, ha, hb, hc⟩
  · exact .inl h0
  · refine .inr ⟨b, off, ha, Nat.lt_of_lt_of_le hb f.size, fun i hi => ?_⟩
    rw [f.cell (p := ⟨b, off + i, none⟩) hb (hn b off ha)]
    exact hc i hi
theorem Strs.frS {S : Nat → Prop} {w w' : World} {a : Option Addr} {cap : Nat} {l : List ByteArray} (h : Strs w a cap l) (f : Fr S w w') (hn : l = [] ∨ ∀ b o, a = some ⟨b, o, none⟩ → ¬ S b) : Strs w' a cap l := by
  rcases hn with h0 | hn
  · exact ⟨h.1, h.2, h.3, .inl h0⟩
  · exact h.fr f (fun b _ ⟨o, e⟩ => hn b o e)
/-- A node's lists lie off some memory. -/
def Off (S : Nat → Prop) (n : Nd) (p : Pt) : Prop :=
  (n.keys = [] ∨ ∀ b o, p.k = some ⟨b, o, none⟩ → ¬ S b) ∧ (n.vals = [] ∨ ∀ b o, p.v = some ⟨b, o, none⟩ → ¬ S b) ∧ (n.kids = [] ∨ ∀ b o, p.i = some ⟨b, o, none⟩ → ¬ S b)
theorem Nod.frS {S : Nat → Prop} {w w' : World} {n : Nd} {p : Pt} (h : Nod w n p) (f : Fr S w w') (ho : Off S n p) : Nod w' n p :=
  ⟨h.keys.frS f ho.1, h.vals.frS f ho.2.1, h.kids.frS f ho.2.2, h.high, h.ksz, h.vsz, h.klen, h.vlen, h.ilen⟩
theorem Nod.far {S : Nat → Prop} {w : World} {n : Nd} {p : Pt} (h : Nod w n p) (hS : ∀ b, b < w.heap.size → ¬ S b) : Off S n p := by
  refine ⟨?_, ?_, ?_⟩
  · rcases h.keys.at_ with h0 | ⟨b, off, ha, hb, _⟩
    · exact .inl h0
    · exact .inr (fun b' o e => by rw [ha] at e; cases e; exact hS _ hb)
  · rcases h.vals.at_ with h0 | ⟨b, off, ha, hb, _⟩
    · exact .inl h0
    · exact .inr (fun b' o e => by rw [ha] at e; cases e; exact hS _ hb)
  · rcases h.kids.at_ with h0 | ⟨b, off, ha, hb, _⟩
    · exact .inl h0
    · exact .inr (fun b' o e => by rw [ha] at e; cases e; exact hS _ hb)
theorem Nw.off {S : Nat → Prop} {w : World} {n : Nd} {p : Pt} (h : Nw w p) (hS : ∀ b, w.heap.size ≤ b → ¬ S b) : Off S n p :=
  ⟨.inr (fun b o e => hS b (h b o (.inl e))), .inr (fun b o e => hS b (h b o (.inr (.inl e)))), .inr (fun b o e => hS b (h b o (.inr (.inr e))))⟩
/-- Pages whose slice is a call's own, with their nodes off it. -/
structure Sv (w : World) (rv : Value) (ls : List Sl) : Prop where
  has : Has w 8 rv ls.length (ls.flatMap slC)
  nod : ∀ s ∈ ls, Nod w s.nd s.pt
  off : ∀ s ∈ ls, Off (fun k => rv.ownBlock = some k) s.nd s.pt
theorem Sv.same {w w' : World} {rv : Value} {ls : List Sl} (h : Sv w rv ls) (f : Fr (fun _ => False) w w') : Sv w' rv ls :=
  ⟨h.has.fr f (fun _ _ f => f), fun s hs => (h.nod s hs).same f, h.off⟩
theorem Sv.slots {w : World} {a : Option Addr} {n c : Nat} {ls : List Sl} (hn : n = ls.length) (h : Sv w (.slice a n c) ls) : Slots w a c ls := by
  subst hn
  obtain ⟨a', c', he, h1, h2⟩ := h.has.slice
  simp only [Value.slice.injEq, true_and] at he
  obtain ⟨rfl, rfl⟩ := he
  refine ⟨h1, by unfold maxLen at h2; exact h2, ?_, h.nod⟩
  by_cases h0 : ls.length = 0
  · exact .inl (List.length_eq_zero_iff.1 h0)
  · obtain ⟨g, cap, hv, hg, _⟩ := h.has.form (by omega)
    simp only [Value.slice.injEq, true_and] at hv
    obtain ⟨rfl, rfl⟩ := hv
    refine .inr ⟨g, 0, rfl, hg, fun i m hm => ?_⟩
    rw [Nat.zero_add]
    exact h.has.elem slC_length hm
theorem slCs_one (ls : List Sl) : ∀ u ∈ ls.flatMap slC, u.oneCell' = true := fun u hu => by
  obtain ⟨r, _, h⟩ := List.mem_flatMap.1 hu
  exact slC_one r u h
theorem slots_range {w : World} {b : Nat} (ls : List Sl) (off : Nat) (h : ∀ i s, ls[i]? = some s → w.rangeAt b (off + i * 8) (slC s)) : w.rangeAt b off (ls.flatMap slC) := by
  induction ls generalizing off with
  | nil => intro j v hv; simp at hv
  | cons s l ih =>
    rw [List.flatMap_cons]
    refine range_join (by have := h 0 s rfl; simpa using this) ?_
    rw [slC_length]
    refine ih (off + 8) (fun i t ht => ?_)
    have := h (i + 1) t (by simpa using ht)
    rwa [show off + 8 + i * 8 = off + (i + 1) * 8 by omega]
theorem Slots.from {w : World} {a : Option Addr} {c : Nat} {ls : List Sl} (h : Slots w a c ls) : From w a (ls.flatMap slC) := by
  rcases h.at_ with h0 | ⟨b, off, rfl, _, hc⟩
  · exact .inl (by rw [h0]; rfl)
  · exact .inr ⟨b, off, rfl, slots_range ls off hc⟩
/-- Pages that a call made. -/
def SvOut (w : World) (ls : List Sl) (e : Ending) (w' : World) : Prop := ∃ a c, e = .returned (.slice a ls.length c) ∧ Sv w' (.slice a ls.length c) ls ∧ Fr (fun _ => False) w w' ∧ ∀ k, (Value.slice a ls.length c).ownBlock = some k → w.heap.size ≤ k
set_option maxRecDepth 100000 in
set_option maxHeartbeats 1000000 in
theorem clone8 (a : Option Addr) (n c : Nat) (ls : List Sl) (w : World) (hr : Slots w a c ls) (hn : n = ls.length) (hs : ls.length ≤ 100000) : Calls Tryz.prog 39 #[.slice a n c] w fun e w' => SvOut w ls e w' := by
  obtain ⟨i0, hi, hz0, hz1, hz2⟩ := info_parts infoSl
  have hq := fun W => Lib.run_eql_slice_nil (P := Tryz.prog) W 24 35 a n c 0 0 Tryz.underlying24
  have hsl : (ls.flatMap slC).length = ls.length * 8 := flat_length slC_length ls
  cases a with
  | none =>
    have hl : ls = [] := by
      rcases hr.at_ with h | ⟨_, _, h, _⟩
      · exact h
      · cases h
    subst hl
    obtain rfl : n = 0 := by simpa using hn
    clear hn hsl hs hr
    go_enter Tryz.func39, Tryz.ntmps39
    go_wp2
    go_ret
    exact ⟨none, 0, rfl, ⟨Has.nil _ _, (fun s hs => by cases hs), (fun s hs => by cases hs)⟩, Fr.refl _ _, fun k hk => by cases hk⟩
  | some x =>
    have HE : Hid (Has (w.alloc (.cells #[] 35)) 8 (.slice (some ⟨w.heap.size, 0, none⟩) 0 0) 0 []) := has_empty w 8 _
    have f1 : Fr (fun _ => False) w (w.alloc (.cells #[] 35)) := (Fr.refl _ _).alloc _
    have hr1 := (hr.same f1).from
    have hnod := hr.nod
    have HN : Hid (n = ls.length) := hn
    have HSL : Hid ((ls.flatMap slC).length = ls.length * 8) := hsl
    have hs' : n ≤ 100000 := by omega
    clear hn hs hsl hr
    go_enter Tryz.func39, Tryz.ntmps39
    go_wp2_with (at_builtin; refine wpList_append_has _ rfl _ _ 24 24 35 35 rfl i0 _ 8 120 Tryz.underlying24 Tryz.underlying24 hi hz0 hz1 hz2 rfl (by omega) (.slice (some ⟨w.heap.size, 0, none⟩) 0 0) 0 [] rfl HE.out (some x) n c (ls.flatMap slC) rfl (by rw [HSL.out, HN.out]) hr1 (slCs_one ls) (by unfold maxLen; omega) (by omega) ?_; intro am cm w2 hown hfr hat)
    go_ret
    rw [Nat.zero_add, List.nil_append] at hown
    rw [Nat.zero_add] at hat
    rw [HN.out] at hown hat
    have F : Fr (fun _ => False) w w2 := f1.above hfr (by
      rintro i ⟨e, _⟩
      simp [Value.ownBlock] at e
      omega)
    have hnew : ∀ k, (Value.slice am ls.length cm).ownBlock = some k → w.heap.size ≤ k := fun k hk => by
      rw [hk] at hat
      rcases hat with e | e <;> simp [Value.ownBlock] at e <;> omega
    exact ⟨am, cm, by rw [← HN.out]; rfl, ⟨hown, fun s hs => (hnod s hs).same F, fun s hs => (hnod s hs).far (fun b hb e => by have := hnew b e; omega)⟩, F, hnew⟩
end Go.Proofs.YtkibbojiflklpaaGreat

/- What replayed makes of pages. -/
namespace Go.Proofs.YtkibbojiflklpaaGreat
open Go.RowKit Go.Lib

def ahP : List (Int × Nd) → Int → Nat
  | [], _ => 0
  | s :: l, x => if s.1 < x then ahP l x + 1 else 0
def hasP (ps : List (Int × Nd)) (x : Int) : Bool := match ps[ahP ps x]? with | none => false | some s => s.1 == x
theorem ah_ps (ls : List Sl) (x : Int) : ahead ls x = ahP (psOf ls) x := by
  induction ls with
  | nil => rfl
  | cons s l ih => simp only [ahead, psOf, List.map_cons, ahP]; rw [ih]; rfl
theorem has_ps (ls : List Sl) (x : Int) : hasB ls x = hasP (psOf ls) x := by
  unfold hasB hasP
  rw [← ah_ps]
  unfold psOf
  rw [List.getElem?_map]
  cases ls[ahead ls x]? <;> rfl
def nodeP (ps : List (Int × Nd)) (x : Int) : Nd := if hasP ps x = true then ((ps[ahP ps x]?).map (·.2)).getD zn else zn
def rpE (ps : List (Int × Nd)) (r : Rec) : Int := if apE (nodeP ps r.page) (hasP ps r.page) r = 1 then 0 else apE (nodeP ps r.page) (hasP ps r.page) r
def rpP (ps : List (Int × Nd)) (r : Rec) : List (Int × Nd) :=
  if apE (nodeP ps r.page) (hasP ps r.page) r = 1 then ps else if apE (nodeP ps r.page) (hasP ps r.page) r = 0 then
    (if hasP ps r.page = true then ps.set (ahP ps r.page) (r.page, apN (nodeP ps r.page) true r) else ps.take (ahP ps r.page) ++ (r.page, apN (nodeP ps r.page) false r) :: ps.drop (ahP ps r.page))
  else []
theorem rp_arg {ps : List (Int × Nd)} {r : Rec} {n : Nd} {b : Bool} (hb : hasP ps r.page = b) (hn : nodeP ps r.page = n) (h : apE n b r = 1) : rpE ps r = 0 ∧ rpP ps r = ps := by
  unfold rpE rpP; rw [hb, hn, if_pos h, if_pos h]; exact ⟨rfl, rfl⟩
theorem rp_err {ps : List (Int × Nd)} {r : Rec} {n : Nd} {b : Bool} (hb : hasP ps r.page = b) (hn : nodeP ps r.page = n) (h : apE n b r ≠ 1) (h0 : apE n b r ≠ 0) : rpE ps r = apE n b r ∧ rpP ps r = [] := by
  unfold rpE rpP; rw [hb, hn, if_neg h, if_neg h, if_neg h0]; exact ⟨rfl, rfl⟩
theorem rp_ins {ps : List (Int × Nd)} {r : Rec} {n : Nd} (hb : hasP ps r.page = false) (hn : nodeP ps r.page = n) (h : apE n false r = 0) : rpE ps r = 0 ∧ rpP ps r = ps.take (ahP ps r.page) ++ (r.page, apN n false r) :: ps.drop (ahP ps r.page) := by
  unfold rpE rpP; rw [hb, hn, if_neg (by rw [h]; decide), if_neg (by rw [h]; decide), if_pos h]; exact ⟨h, rfl⟩
theorem rp_set {ps : List (Int × Nd)} {r : Rec} {n : Nd} (hb : hasP ps r.page = true) (hn : nodeP ps r.page = n) (h : apE n true r = 0) : rpE ps r = 0 ∧ rpP ps r = ps.set (ahP ps r.page) (r.page, apN n true r) := by
  unfold rpE rpP; rw [hb, hn, if_neg (by rw [h]; decide), if_neg (by rw [h]; decide), if_pos h]; exact ⟨h, rfl⟩
/-- What replayed tells. -/
def RpOut (w : World) (rv : Value) (ps : List (Int × Nd)) (err : Int) (e : Ending) (w' : World) : Prop := ∃ a' c' ls', e = .returned (.tuple #[.slice a' ls'.length c', .int .i64 err]) ∧ Sv w' (.slice a' ls'.length c') ls' ∧ psOf ls' = ps ∧ Fr (fun k => rv.ownBlock = some k) w w' ∧ ((Value.slice a' ls'.length c').ownBlock = rv.ownBlock ∨ ∀ g, (Value.slice a' ls'.length c').ownBlock = some g → w.heap.size ≤ g)
theorem Sv.ins {W w' : World} {rv : Value} {ls : List Sl} {i n c' : Nat} {a' : Option Addr} (h : Sv W rv ls) (hn : n = ls.length) (s : Sl) (hs : Nod W s.nd s.pt) (ho : Off (fun k => rv.ownBlock = some k) s.nd s.pt)
    (hh : Has w' 8 (.slice a' (n + 1) c') (n + 1) ((ls.flatMap slC).take (i * 8) ++ (slC s ++ (ls.flatMap slC).drop (i * 8)))) (f : Fr (fun k => rv.ownBlock = some k) W w') (hat : (Value.slice a' (n + 1) c').ownBlock = rv.ownBlock ∨ ∃ g, (Value.slice a' (n + 1) c').ownBlock = some g ∧ W.heap.size ≤ g) :
    Sv w' (.slice a' (n + 1) c') (ls.take i ++ s :: ls.drop i) := by
  have hl : (ls.take i ++ s :: ls.drop i).length = n + 1 := by rw [hn]; simp; omega
  have hm : ∀ t ∈ ls.take i ++ s :: ls.drop i, Nod W t.nd t.pt ∧ Off (fun k => rv.ownBlock = some k) t.nd t.pt := by
    intro t ht
    rw [List.mem_append, List.mem_cons] at ht
    rcases ht with ht | rfl | ht
    · have := List.mem_of_mem_take ht; exact ⟨h.nod t this, h.off t this⟩
    · exact ⟨hs, ho⟩
    · have := List.mem_of_mem_drop ht; exact ⟨h.nod t this, h.off t this⟩
  refine ⟨?_, fun t ht => (hm t ht).1.frS f (hm t ht).2, fun t ht => ?_⟩
  · rw [hl, List.flatMap_append, List.flatMap_cons]
    rw [flat_take slC_length, flat_drop slC_length] at hh
    exact hh
  · rcases hat with e | ⟨g, e, hg⟩
    · rw [e]; exact (hm t ht).2
    · exact (hm t ht).1.far (fun b hb e2 => by rw [e] at e2; cases e2; omega)
theorem ps_ins (ls : List Sl) (i : Nat) (s : Sl) : psOf (ls.take i ++ s :: ls.drop i) = (psOf ls).take i ++ (s.page, s.nd) :: (psOf ls).drop i := by
  simp [psOf, List.map_take, List.map_drop]
theorem Sv.set {W : World} {g n c : Nat} {ls : List Sl} {i : Nat} {s : Sl} (h : Sv W (.slice (some ⟨g, 0, none⟩) n c) ls) (hn : n = ls.length) (hs : ls[i]? = some s) (m : Nd) (q : Pt) (hm : Nod W m q) (ho : Off (fun k => k = g) m q) :
    Sv (W.setCells g (i * 8 + 1) [.int .i64 m.lev, .int .i64 m.lsn, .int .i64 m.rgt, .string m.high, .slice q.k m.keys.length q.kc, .slice q.v m.vals.length q.vc, .slice q.i m.kids.length q.ic]) (.slice (some ⟨g, 0, none⟩) n c) (ls.set i ⟨s.page, m, q⟩) := by
  subst hn
  have hi := (List.getElem?_eq_some_iff.1 hs).1
  have hF : Fr (fun k => k = g) W (W.setCells g (i * 8 + 1) [.int .i64 m.lev, .int .i64 m.lsn, .int .i64 m.rgt, .string m.high, .slice q.k m.keys.length q.kc, .slice q.v m.vals.length q.vc, .slice q.i m.kids.length q.ic]) := Fr.setCells (S := fun k => k = g) (fun _ => rfl) _ _ (Fr.refl _ W)
  have hown : ∀ k, (Value.slice (some ⟨g, 0, none⟩) ls.length c).ownBlock = some k → k = g := fun k hk => by simp [Value.ownBlock] at hk; exact hk.symm
  have hm2 : ∀ t ∈ ls.set i ⟨s.page, m, q⟩, Nod W t.nd t.pt ∧ Off (fun k => (Value.slice (some ⟨g, 0, none⟩) ls.length c).ownBlock = some k) t.nd t.pt := by
    intro t ht
    rcases List.mem_or_eq_of_mem_set ht with h1 | rfl
    · exact ⟨h.nod t h1, h.off t h1⟩
    · exact ⟨hm, by
        obtain ⟨h1, h2, h3⟩ := ho
        exact ⟨h1.imp id (fun hx b o e f => hx b o e (hown b f)), h2.imp id (fun hx b o e f => hx b o e (hown b f)), h3.imp id (fun hx b o e f => hx b o e (hown b f))⟩⟩
  refine ⟨?_, fun t ht => (hm2 t ht).1.frS (hF.mono (fun k _ e => by rw [e]; rfl)) (hm2 t ht).2, fun t ht => (hm2 t ht).2⟩
  have hset := h.has.set (i * 8 + 1) [.int .i64 m.lev, .int .i64 m.lsn, .int .i64 m.rgt, .string m.high, .slice q.k m.keys.length q.kc, .slice q.v m.vals.length q.vc, .slice q.i m.kids.length q.ic] (by rw [flat_length slC_length]; simp; omega)
  rw [List.length_set]
  refine (congrArg (Has _ 8 _ ls.length) ?_).mp hset
  have e1 : ls.flatMap slC = (ls.take i).flatMap slC ++ (slC s ++ (ls.drop (i + 1)).flatMap slC) := by
    conv => lhs; rw [← List.take_append_drop i ls, List.drop_eq_getElem_cons hi, (List.getElem?_eq_some_iff.1 hs).2]
    rw [List.flatMap_append, List.flatMap_cons]
  have e2 : (ls.set i ⟨s.page, m, q⟩).flatMap slC = (ls.take i).flatMap slC ++ (slC ⟨s.page, m, q⟩ ++ (ls.drop (i + 1)).flatMap slC) := by
    rw [List.set_eq_take_append_cons_drop, if_pos hi, List.flatMap_append, List.flatMap_cons]
  have hA : ((ls.take i).flatMap slC).length = i * 8 := by rw [flat_length slC_length, List.length_take]; congr 1; omega
  rw [e2, e1]
  generalize (ls.take i).flatMap slC = A at hA
  generalize (ls.drop (i + 1)).flatMap slC = B
  rw [List.take_append, List.drop_append, List.take_of_length_le (by omega), List.drop_eq_nil_of_le (by simp; omega), hA, show i * 8 + 1 - i * 8 = 1 by omega]
  rw [show (i * 8 + 1 + [Value.int .i64 m.lev, .int .i64 m.lsn, .int .i64 m.rgt, .string m.high, .slice q.k m.keys.length q.kc, .slice q.v m.vals.length q.vc, .slice q.i m.kids.length q.ic].length) - i * 8 = 8 by simp; omega]
  simp [slC]
theorem ps_set (ls : List Sl) (i : Nat) (s : Sl) : psOf (ls.set i s) = (psOf ls).set i (s.page, s.nd) := by simp [psOf, List.map_set]
end Go.Proofs.YtkibbojiflklpaaGreat

/- A record whose page is not among the pages. -/
namespace Go.Proofs.YtkibbojiflklpaaGreat
open Go.RowKit Go.Lib

theorem rp_nil {w W : World} {rv : Value} {err err' : Int} (ps : List (Int × Nd)) (hp : ps = []) (he : err = err') (f : Fr (fun _ => False) w W) : RpOut w rv ps err' (.returned (.tuple #[.slice none 0 0, .int .i64 err])) W := by
  subst hp; subst he
  exact ⟨none, 0, [], rfl, ⟨Has.nil _ _, (fun s hs => by cases hs), (fun s hs => by cases hs)⟩, rfl, f.mono (fun _ _ f => f.elim), .inr (fun g e => by cases e)⟩
theorem rp_keep {w W : World} {a : Option Addr} {n c : Nat} {ls : List Sl} {err : Int} (hn : n = ls.length) (h : Sv w (.slice a n c) ls) (ps : List (Int × Nd)) (hp : ps = psOf ls) (he : err = 0) (f : Fr (fun _ => False) w W) : RpOut w (.slice a n c) ps err (.returned (.tuple #[.slice a n c, .int .i64 0])) W := by
  subst hp; subst he; subst hn
  exact ⟨a, c, ls, rfl, h.same f, rfl, f.mono (fun _ _ f => f.elim), .inl rfl⟩
set_option maxRecDepth 100000 in
set_option maxHeartbeats 4000000 in
theorem replayed_no (a : Option Addr) (n c : Nat) (ls : List Sl) (hn : n = ls.length) (hf : ls.length ≤ 10000) (hr : Rise ls) (r : Rec) (hkz : r.key.size ≤ 140737488351232) (hvz : r.val.size ≤ 140737488351232) (hb : hasB ls r.page = false) (w : World) (h : Sv w (.slice a n c) ls) :
    Calls Tryz.prog 41 #[.slice a n c, (.agg #[.int .i64 r.lsn, .int .i64 r.ep, .int .i64 r.kind, .int .i64 r.page, .int .i64 r.other, .int .i64 r.req, .string r.key, .string r.val])] w fun e w' => RpOut w (.slice a n c) (rpP (psOf ls) r) (rpE (psOf ls) r) e w' := by
  have hbs := fun W (hW : Slots W a c ls) => bs_any a n c ls hn (by omega) hr r.page W hW
  rw [hb] at hbs
  obtain ⟨i, hi⟩ : ∃ i, i = ahead ls r.page := ⟨_, rfl⟩
  rw [← hi] at hbs
  have hile : i ≤ n := by rw [hi, hn]; exact ahead_le ls r.page
  have hn4 : n ≤ 10000 := by omega
  have f0 := Fr.box w (.cells #[.int .i64 r.lsn, .int .i64 r.ep, .int .i64 r.kind, .int .i64 r.page, .int .i64 r.other, .int .i64 r.req, .string r.key, .string r.val] 54)
  have hsl0 := (h.slots hn).same f0
  have HSV : Hid (Sv w (.slice a n c) ls) := h
  have HR : Hid (∀ W, Fr (fun _ => False) (w.alloc (.cells #[.int .i64 r.lsn, .int .i64 r.ep, .int .i64 r.kind, .int .i64 r.page, .int .i64 r.other, .int .i64 r.req, .string r.key, .string r.val] 54)) W → W.cell? ⟨w.heap.size, 0, none⟩ = some (.int .i64 r.lsn) ∧ W.cell? ⟨w.heap.size, 1, none⟩ = some (.int .i64 r.ep) ∧ W.cell? ⟨w.heap.size, 2, none⟩ = some (.int .i64 r.kind) ∧ W.cell? ⟨w.heap.size, 3, none⟩ = some (.int .i64 r.page) ∧ W.cell? ⟨w.heap.size, 4, none⟩ = some (.int .i64 r.other) ∧ W.cell? ⟨w.heap.size, 5, none⟩ = some (.int .i64 r.req) ∧ W.cell? ⟨w.heap.size, 6, none⟩ = some (.string r.key) ∧ W.cell? ⟨w.heap.size, 7, none⟩ = some (.string r.val)) := fun W f => (rec_cells (rec_at w #[.int .i64 r.lsn, .int .i64 r.ep, .int .i64 r.kind, .int .i64 r.page, .int .i64 r.other, .int .i64 r.req, .string r.key, .string r.val] 54 f)).1
  have hap : ∀ W, Calls Tryz.prog 47 #[.agg #[.int .i64 0, .int .i64 0, .int .i64 0, .string ⟨#[]⟩, .slice none 0 0, .slice none 0 0, .slice none 0 0], .bool false, (.agg #[.int .i64 r.lsn, .int .i64 r.ep, .int .i64 r.kind, .int .i64 r.page, .int .i64 r.other, .int .i64 r.req, .string r.key, .string r.val])] W fun e w' => ApOut (apN zn false r) (apD zn false r) (apE zn false r) W e w' := fun W => apply_any zn zp false r hkz hvz W (zn_nod W)
  have hP : hasP (psOf ls) r.page = false := by rw [← has_ps]; exact hb
  have hN : nodeP (psOf ls) r.page = zn := by unfold nodeP; rw [hP]; rfl
  have HA : Hid (apE zn false r = 1 → rpE (psOf ls) r = 0 ∧ rpP (psOf ls) r = psOf ls) := fun e => rp_arg hP hN e
  have HB : Hid (apE zn false r ≠ 1 → apE zn false r ≠ 0 → rpE (psOf ls) r = apE zn false r ∧ rpP (psOf ls) r = []) := fun e e0 => rp_err hP hN e e0
  have HC : Hid (apE zn false r = 0 → rpE (psOf ls) r = 0 ∧ rpP (psOf ls) r = (psOf ls).take i ++ (r.page, apN zn false r) :: (psOf ls).drop i) := fun e => by rw [hi, ah_ps]; exact rp_ins hP hN e
  have HN : Hid (n = ls.length) := hn
  unfold ApOut at hap
  generalize apE zn false r = ae at *
  generalize apN zn false r = m at *
  generalize apD zn false r = d at *
  clear hP hN hb hi h hkz hvz hr hn hf
  go_enter Tryz.func41, Tryz.ntmps41
  go_wp2_with fail
  refine (hbs _ hsl0).mono ?_
  rintro e w1 ⟨rfl, f1⟩
  have f2 := f1.alloc (.cells #[.int .i64 0, .int .i64 0, .int .i64 0, .string ⟨#[]⟩, .slice none 0 0, .slice none 0 0, .slice none 0 0] 33)
  obtain ⟨r0, r1, r2, r3, r4, r5, r6, r7⟩ := HR.out _ f2
  have hzz := node_cells (heap_alloc_new w1 (.cells #[.int .i64 0, .int .i64 0, .int .i64 0, .string ⟨#[]⟩, .slice none 0 0, .slice none 0 0, .slice none 0 0] 33))
  obtain ⟨⟨z0, z1, z2, z3, z4, z5, z6⟩, _⟩ := hzz
  clear hbs hsl0
  go_wp2_with fail
  refine (hap _).mono ?_
  rintro e w3 ⟨q, rfl, ndq, f3, hnw⟩
  have fr3 := f2.seq' f3
  have hbx := f3.blk (heap_alloc_new w1 (.cells #[.int .i64 0, .int .i64 0, .int .i64 0, .string ⟨#[]⟩, .slice none 0 0, .slice none 0 0, .slice none 0 0] 33)) (fun f => f)
  obtain ⟨hq, ff⟩ := fin7 hbx (.int .i64 m.lev) (.int .i64 m.lsn) (.int .i64 m.rgt) (.string m.high) (.slice q.k m.keys.length q.kc) (.slice q.v m.vals.length q.vc) (.slice q.i m.kids.length q.ic)
  obtain ⟨⟨s0, s1, s2, s3, s4, s5, s6⟩, sz⟩ := node_cells hbx
  have y0 := sz 0; have y1 := sz 1; have y2 := sz 2; have y3 := sz 3; have y4 := sz 4; have y5 := sz 5; have y6 := sz 6
  have hz1 : w.heap.size + 1 ≤ w1.heap.size := by have := f1.size; simp at this; omega
  have hz3 : w1.heap.size + 1 ≤ w3.heap.size := by have := f3.size; simp at this; omega
  have fff := (f0.seq' fr3).trans ff (S := fun _ => False) (fun i hi e => by omega)
  have hNf : Nod (((((((w3.setCell ⟨w1.heap.size, 0, none⟩ (.int .i64 m.lev)).setCell ⟨w1.heap.size, 1, none⟩ (.int .i64 m.lsn)).setCell ⟨w1.heap.size, 2, none⟩ (.int .i64 m.rgt)).setCell ⟨w1.heap.size, 3, none⟩ (.string m.high)).setCell ⟨w1.heap.size, 4, none⟩ (.slice q.k m.keys.length q.kc)).setCell ⟨w1.heap.size, 5, none⟩ (.slice q.v m.vals.length q.vc)).setCell ⟨w1.heap.size, 6, none⟩ (.slice q.i m.kids.length q.ic)) m q := ndq.frS ff (hnw.off (fun b hb e => by simp at hb; omega))
  clear hap r0 r1 r2 r3 r4 r5 r6 r7 z0 z1 z2 z3 z4 z5 z6 sz
  by_cases h1 : ae = 1
  · have hev := HA.out h1
    subst h1
    clear HA HB HC hNf hq
    go_wp2
    generalize ((((((w3.setCell ⟨w1.heap.size, 0, none⟩ (.int .i64 m.lev)).setCell ⟨w1.heap.size, 1, none⟩ (.int .i64 m.lsn)).setCell ⟨w1.heap.size, 2, none⟩ (.int .i64 m.rgt)).setCell ⟨w1.heap.size, 3, none⟩ (.string m.high)).setCell ⟨w1.heap.size, 4, none⟩ (.slice q.k m.keys.length q.kc)).setCell ⟨w1.heap.size, 5, none⟩ (.slice q.v m.vals.length q.vc)).setCell ⟨w1.heap.size, 6, none⟩ (.slice q.i m.kids.length q.ic) = Wf at fff ⊢
    go_ret2
    exact rp_keep HN.out HSV.out _ hev.2 hev.1 fff
  · by_cases h0 : ae = 0
    · have hev := HC.out h0
      subst h0
      have frW := fr3.trans ff (S := fun _ => False) (fun i hi e => by simp at hi; omega)
      clear HA HB HC
      go_upto_region 6 with fail
      generalize ((((((w3.setCell ⟨w1.heap.size, 0, none⟩ (.int .i64 m.lev)).setCell ⟨w1.heap.size, 1, none⟩ (.int .i64 m.lsn)).setCell ⟨w1.heap.size, 2, none⟩ (.int .i64 m.rgt)).setCell ⟨w1.heap.size, 3, none⟩ (.string m.high)).setCell ⟨w1.heap.size, 4, none⟩ (.slice q.k m.keys.length q.kc)).setCell ⟨w1.heap.size, 5, none⟩ (.slice q.v m.vals.length q.vc)).setCell ⟨w1.heap.size, 6, none⟩ (.slice q.i m.kids.length q.ic) = Wf at *
      obtain ⟨r0, r1, r2, r3, r4, r5, r6, r7⟩ := HR.out _ frW
      obtain ⟨⟨t0, t1, t2, t3, t4, t5, t6⟩, _⟩ := node_cells hq
      clear s0 s1 s2 s3 s4 s5 s6 y0 y1 y2 y3 y4 y5 y6 f1 f2 f3 fr3 hbx ff
      have hsW := HSV.out.same fff
      have hown : ∀ k, (Value.slice a n c).ownBlock = some k → k < w.heap.size := fun k hk => HSV.out.has.lt hk
      have hszW : w.heap.size ≤ Wf.heap.size := fff.size
      have fA := (Fr.refl (fun _ => False) Wf).alloc (.cells #[.int .i64 r.page, .int .i64 m.lev, .int .i64 m.lsn, .int .i64 m.rgt, .string m.high, .slice q.k m.keys.length q.kc, .slice q.v m.vals.length q.vc, .slice q.i m.kids.length q.ic] 35)
      have hsA := hsW.same fA
      have hoq : Off (fun k => (Value.slice a n c).ownBlock = some k) m q := hnw.off (fun b hb e => by have := hown b e; simp at hb; omega)
      have hin := ins8_any a n c i Wf.heap.size (ls.flatMap slC) (slC ⟨r.page, m, q⟩) rfl (Wf.alloc (.cells #[.int .i64 r.page, .int .i64 m.lev, .int .i64 m.lsn, .int .i64 m.rgt, .string m.high, .slice q.k m.keys.length q.kc, .slice q.v m.vals.length q.vc, .slice q.i m.kids.length q.ic] 35)) hile (by omega) 35 (by have := hsA.has; rwa [← HN.out] at this) (fun e => by have := hown _ e; omega) (slCs_one ls) (slC_one _) (heap_alloc_new Wf _)
      have HIN : Hid (∀ e w', InsO8 (Wf.alloc (.cells #[.int .i64 r.page, .int .i64 m.lev, .int .i64 m.lsn, .int .i64 m.rgt, .string m.high, .slice q.k m.keys.length q.kc, .slice q.v m.vals.length q.vc, .slice q.i m.kids.length q.ic] 35)) (.slice a n c) (n + 1) ((ls.flatMap slC).take (i * 8) ++ (slC ⟨r.page, m, q⟩ ++ (ls.flatMap slC).drop (i * 8))) e w' → ∃ v, e = .returned v ∧ RpOut w (.slice a n c) (rpP (psOf ls) r) (rpE (psOf ls) r) (.returned (.tuple #[v, .int .i64 0])) w') := by
        rintro e w' ⟨a', c', rfl, hh, hfr, hat⟩
        refine ⟨_, rfl, ?_⟩
        have hl : (ls.take i ++ (⟨r.page, m, q⟩ : Sl) :: ls.drop i).length = n + 1 := by have := HN.out; rw [this]; simp; have := hile; omega
        have hsv := hsA.ins HN.out ⟨r.page, m, q⟩ (hNf.same fA) hoq hh hfr hat
        rw [hev.1, hev.2]
        refine ⟨a', c', ls.take i ++ ⟨r.page, m, q⟩ :: ls.drop i, by rw [hl], by rw [hl]; exact hsv, ps_ins _ _ _, ?_, ?_⟩
        · exact ((fff.seq' fA).mono (T := fun k => (Value.slice a n c).ownBlock = some k) (fun _ _ f => f.elim)).trans hfr (fun k _ e => e)
        · rw [hl]
          rcases hat with e | ⟨g, e, hg⟩
          · exact .inl e
          · exact .inr (fun k hk => by rw [e] at hk; cases hk; simp at hg; omega)
      clear hsA hsW hoq hNf hnw ndq hev fff
      go_wp2_with fail
      refine hin.mono ?_
      intro e w5 ho5
      obtain ⟨v, rfl, hout⟩ := HIN.out e w5 ho5
      go_wp2
      go_ret2
      exact hout
    · have hev := HB.out h1 h0
      have hb1 : (ae == 1) = false := by simpa using h1
      have hb0 : (ae != 0) = true := by simpa using h0
      clear HA HB HC hNf hq h1 h0
      go_wp2
      generalize ((((((w3.setCell ⟨w1.heap.size, 0, none⟩ (.int .i64 m.lev)).setCell ⟨w1.heap.size, 1, none⟩ (.int .i64 m.lsn)).setCell ⟨w1.heap.size, 2, none⟩ (.int .i64 m.rgt)).setCell ⟨w1.heap.size, 3, none⟩ (.string m.high)).setCell ⟨w1.heap.size, 4, none⟩ (.slice q.k m.keys.length q.kc)).setCell ⟨w1.heap.size, 5, none⟩ (.slice q.v m.vals.length q.vc)).setCell ⟨w1.heap.size, 6, none⟩ (.slice q.i m.kids.length q.ic) = Wf at fff ⊢
      go_ret2
      exact rp_nil _ hev.2 hev.1.symm fff
end Go.Proofs.YtkibbojiflklpaaGreat
