
/- What a pool's map holds as a list of pages; maps.Keys and slices.Collect over it; the comparison of Pages. -/
import Derived.Test.YtneniagingoleaaPlPages
import Derived.Test.YtneniagingoleaaPlRest
import Derived.Shelf.SlSortCmp.Insertion
namespace Go.Proofs.Ytneniagingoleaa
open Go.Shelf Go.RowKit Go.Maps Go.Sort


def nrm (x : Int) : Int := if (Lit.int .i64 x).wf = true then x else 0
theorem nrm_of {x : Int} (h : wfK x) : nrm x = x := if_pos h
theorem nrm_wf (x : Int) : wfK (nrm x) := by
  unfold nrm
  split
  · assumption
  · exact wfK_of (by omega)
def encP (x : Int) : Value := .int .i64 (nrm x)
theorem encP_one : OneCell encP := fun _ => rfl
def cmpI (a b : Int) : Int := if a < b then -1 else if b < a then 1 else 0
def usedAt (M : Pmap) (x : Int) : Int := ((M (nrm x)).getD h0).used
def cfP (M : Pmap) (x y : Int) : Int := cmpI (usedAt M x) (usedAt M y)
theorem lt_cfP (M : Pmap) (x y : Int) : ltOf (cfP M) x y = decide (usedAt M x < usedAt M y) := by
  unfold ltOf cfP cmpI
  by_cases h : usedAt M x < usedAt M y
  · simp [h]
  · by_cases h2 : usedAt M y < usedAt M x <;> simp [h, h2]
theorem swoP (M : Pmap) : SWO (ltOf (cfP M)) := by
  refine ⟨fun x => ?_, fun x y z h1 h2 => ?_, fun x y z h1 h2 => ?_⟩ <;> simp only [lt_cfP, decide_eq_true_eq, decide_eq_false_iff_not] at * <;> omega
theorem nan_any (a : Int) (w : World) : Calls Try.prog 46 #[.int .i64 a] w fun e w' => e = .returned (.bool false) ∧ w' = w := by
  go_enter Try.func46, Try.ntmps46
  go_wp2
  go_ret
  exact ⟨by simp, rfl⟩
theorem compare_any (a b : Int) (w : World) : Calls Try.prog 34 #[.int .i64 a, .int .i64 b] w fun e w' => e = .returned (.int .i64 (cmpI a b)) ∧ w' = w := by
  by_cases h : a < b
  · have e1 : cmpI a b = -1 := if_pos h
    rw [e1]
    go_enter Try.func34, Try.ntmps34
    go_wp2_with (go_at_call 46; refine (nan_any _ _).mono ?_; rintro e w' ⟨rfl, rfl⟩)
    go_ret
    exact ⟨rfl, rfl⟩
  · by_cases h2 : b < a
    · have e1 : cmpI a b = 1 := (if_neg h).trans (if_pos h2)
      rw [e1]
      go_enter Try.func34, Try.ntmps34
      go_wp2_with (go_at_call 46; refine (nan_any _ _).mono ?_; rintro e w' ⟨rfl, rfl⟩)
      go_ret
      exact ⟨rfl, rfl⟩
    · have e1 : cmpI a b = 0 := (if_neg h).trans (if_neg h2)
      rw [e1]
      go_enter Try.func34, Try.ntmps34
      go_wp2_with (go_at_call 46; refine (nan_any _ _).mono ?_; rintro e w' ⟨rfl, rfl⟩)
      go_ret
      exact ⟨rfl, rfl⟩
set_option maxRecDepth 100000 in
theorem pcmp {W : World} {mb n Bm : Nat} {M : Pmap} (h : Pm W mb n M) (hc : W.cell? ⟨Bm, 0, none⟩ = some (.map (some mb))) {x y : Int} (hx : wfK x) (hy : wfK y) :
    Calls Try.prog 33 #[.int .i64 x, .int .i64 y, .pointer (some ⟨Bm, 0, none⟩)] W fun e w' => e = .returned (.int .i64 (cmpI ((M x).getD h0).used ((M y).getD h0).used)) ∧ w' = W := by
  have h1 := h.look1 hx
  have h2 := h.look1 hy
  generalize (M x).getD h0 = g at *
  generalize (M y).getD h0 = g' at *
  obtain ⟨p, l, s, u⟩ := g
  obtain ⟨p', l', s', u'⟩ := g'
  dsimp only at h1 h2 ⊢
  have hfd := fun W => run_used p l s u W
  have hfd' := fun W => run_used p' l' s' u' W
  go_enter Try.func33, Try.ntmps33
  go_wp2_with (go_at_call 34; refine (compare_any _ _ _).mono ?_; rintro e w' ⟨rfl, rfl⟩)
  go_ret
  exact ⟨rfl, rfl⟩
/-- A list is the pages that a map holds. -/
structure Keep (M : Pmap) (n : Nat) (ss : List Int) : Prop where
  len : ss.length = n
  nd : ss.Nodup
  mem : ∀ x, x ∈ ss ↔ (M x).isSome = true
theorem Keep.perm {M : Pmap} {n : Nat} {ss ts : List Int} (h : Keep M n ss) (p : ts.Perm ss) : Keep M n ts := ⟨p.length_eq.trans h.len, p.nodup_iff.2 h.nd, fun x => p.mem_iff.trans (h.mem x)⟩
theorem Keep.of {w : World} {b n : Nat} {D : DataW Unit} {M : Pmap} (hown : w.ownsMap Try.prog 3 heldR b n D) (hs : Maps.size D = n) (hl : Like D M) {ss : List Int} (hp : ss.Perm (intKeys D)) : Keep M n ss := by
  have hwf := intKeys_wf hown Try.underlying3
  obtain ⟨es, hD, hpw, _⟩ := hown.entries keyed3
  obtain ⟨es', hD', hko⟩ := hown.keysOf
  obtain rfl : es = es' := by rw [hD] at hD'; simpa using hD'
  subst hD
  have hk : ∀ p ∈ es, ∃ x, p.1 = .int .i64 x := fun p hp => by obtain ⟨v, hv⟩ := hko p hp; obtain ⟨x, _, hx, _⟩ := Maps.keyOf_i64 Try.underlying3 hv; exact ⟨x, hx⟩
  have hm : ∀ x, x ∈ intKeys (.map es) ↔ has (.map es) (.int .i64 x) = true := by
    intro x
    rw [has_eq, List.any_eq_true]
    show x ∈ es.map (fun p => _root_.Go.intOf p.1) ↔ _
    rw [List.mem_map]
    constructor
    · rintro ⟨p, hp', rfl⟩
      obtain ⟨a, ha⟩ := hk p hp'
      exact ⟨p, hp', by rw [ha]; simp [Lit.sameKey, _root_.Go.intOf]⟩
    · rintro ⟨p, hp', hs⟩
      obtain ⟨a, ha⟩ := hk p hp'
      rw [ha] at hs
      exact ⟨p, hp', by rw [ha]; simpa [Lit.sameKey, _root_.Go.intOf] using hs⟩
  have hK : Keep M n (intKeys (.map es)) := by
    refine ⟨?_, ?_, fun x => ?_⟩
    · rw [← hs]
      simp [intKeys, Maps.size]
    · show (es.map fun p => _root_.Go.intOf p.1).Nodup
      refine List.pairwise_map.2 (hpw.imp_of_mem fun {p q} hp' hq' hne e => hne ?_)
      obtain ⟨a, ha⟩ := hk p hp'
      obtain ⟨b, hb⟩ := hk q hq'
      rw [ha, hb] at e ⊢
      exact congrArg _ e
    · constructor
      · intro hx
        rw [← hl.has x (hwf x hx)]
        exact (hm x).1 hx
      · intro hx
        obtain ⟨h, hh⟩ := Option.isSome_iff_exists.1 hx
        have := hl.key x h hh
        refine (hm x).2 ?_
        rw [hl.has x (wfK_of (by omega))]
        exact hx
  exact hK.perm hp
theorem collect_pl {w : World} {mb n Bm : Nat} {M : Pmap} (h : Pm w mb n M) (hn : n ≤ 1000000) (hB : Bm < w.heap.size) (hc : w.cell? ⟨Bm, 0, none⟩ = some (.map (some mb))) :
    Calls Try.prog 43 #[.func (.func 45) #[] #[.pointer (some ⟨Bm, 0, none⟩)]] w fun e w' => ∃ (v : Value) (ss : List Int), e = .returned v ∧ Keep M n ss ∧ w'.ownsRow w.heap.size 3 1 v ss.length (ss.map encZ) ∧ Fr (fun _ => False) w w' := by
  obtain ⟨D, h1, h2, hl⟩ := h
  refine (callsIn_wide.1 (AnyZI.collect_in laysC Fence.wide 3 trivial trivial rfl (by omega) 45 #[.pointer (some ⟨Bm, 0, none⟩)] trivial (laysK.f10.enters rfl) (fun ss => ss.Perm (intKeys D)) (Maps.size D) (by unfold maxLen; omega) (by omega) w (AnyZI.keys_gives { laysK with } Fence.wide _ trivial rfl (by omega) Bm mb n D w hB hc h1))).mono ?_
  rintro e w' ⟨v, ss, rfl, hS, hrow, _, hb⟩
  exact ⟨v, ss, rfl, Keep.of h1 h2 hl hS, hrow, Fr.of_below hb (fun k hk _ => hk)⟩
theorem keys_pl (mb : Nat) (w : World) : Calls Try.prog 32 #[.map (some mb)] w fun e w' => e = .returned (.func (.func 45) #[] #[.pointer (some ⟨w.heap.size, 0, none⟩)]) ∧ w' = w.alloc (.cells #[.map (some mb)] 52) :=
  callsIn_wide.1 (AnyZI.keys_in laysK Fence.wide 1 trivial rfl (some mb) w)

