
/- The program's pool and the document's, held against one another. -/
import Derived.Test.YtneniagingoleaaPrGet
import Derived.Test.YtneniagingoleaaPlKeys
namespace Go.Proofs.Ytneniagingoleaa
open Go.RowKit

/-- What the program knows of a page that the document holds so. -/
def hdF (f : Fm) (u : Int) : Hd := ⟨f.pins, f.lsn, if f.dirty = true then f.first else 0, u⟩
/-- Both say the same: Z has the document's pages, each with the time of its last use. -/
structure Tie (M : Pmap) (n : Nat) (us : Int) (Z : List (Fm × Int)) (k : Nat) : Prop where
  up : Z.Pairwise (fun a b => a.2 < b.2)
  nd : Z.Pairwise (fun a b => a.1.page ≠ b.1.page)
  le : ∀ z ∈ Z, z.2 ≤ us
  has : ∀ x h, M x = some h ↔ ∃ z ∈ Z, z.1.page = x ∧ h = hdF z.1 z.2
  len : n = Z.length
  pins : ∀ z ∈ Z, 0 ≤ z.1.pins ∧ z.1.pins ≤ (k : Int)
  first : ∀ z ∈ Z, z.1.dirty = true → 1 ≤ z.1.first
  use : 0 ≤ us ∧ us ≤ (k : Int)
def fms (Z : List (Fm × Int)) : List Fm := Z.map Prod.fst
theorem fms_get {Z : List (Fm × Int)} {i : Nat} {f : Fm} (h : (fms Z)[i]? = some f) : ∃ u, Z[i]? = some (f, u) := by
  unfold fms at h
  rw [List.getElem?_map, Option.map_eq_some_iff] at h
  obtain ⟨⟨g, u⟩, h1, h2⟩ := h
  dsimp only at h2
  exact ⟨u, by rw [h1, h2]⟩
theorem fI_none {L : List Fm} {x : Int} (h : L[fI L x]? = none) : ∀ f ∈ L, f.page ≠ x := by
  induction L with
  | nil => intro f hf; cases hf
  | cons g l ih =>
    intro f hf
    unfold fI at h
    split at h
    · simp at h
    · rename_i hne
      simp at h
      rcases List.mem_cons.1 hf with rfl | hf
      · exact hne
      · exact ih (by rw [List.getElem?_eq_none_iff]; exact h) f hf
theorem some_ext {M : Pmap} {x : Int} {a : Option Hd} (h : ∀ g, M x = some g ↔ a = some g) : M x = a := by
  cases hm : M x with
  | none =>
    cases ha : a with
    | none => rfl
    | some g => have := (h g).2 ha; rw [hm] at this; cases this
  | some g => exact ((h g).1 hm).symm
section
variable {M : Pmap} {n : Nat} {us : Int} {Z : List (Fm × Int)} {k : Nat}
theorem Tie.one (h : Tie M n us Z k) {z y : Fm × Int} (hz : z ∈ Z) (hy : y ∈ Z) (he : z.1.page = y.1.page) : z = y := by
  obtain ⟨i, hi, rfl⟩ := List.mem_iff_getElem.1 hz
  obtain ⟨j, hj, rfl⟩ := List.mem_iff_getElem.1 hy
  have hp := List.pairwise_iff_getElem.1 h.nd
  rcases Nat.lt_trichotomy i j with e | e | e
  · exact absurd he (hp i j hi hj e)
  · subst e; rfl
  · exact absurd he.symm (hp j i hj hi e)
theorem Tie.more (h : Tie M n us Z k) : Tie M n us Z (k + 1) := ⟨h.up, h.nd, h.le, h.has, h.len, fun z hz => by have := h.pins z hz; omega, h.first, by have := h.use; omega⟩
theorem Tie.none (h : Tie M n us Z k) {x : Int} (hf : (fms Z)[fI (fms Z) x]? = none) : M x = Option.none := by
  cases hm : M x with
  | none => rfl
  | some g =>
    obtain ⟨z, hz, h1, _⟩ := (h.has x g).1 hm
    exact absurd h1 (fI_none hf z.1 (List.mem_map_of_mem hz))
theorem Tie.some (h : Tie M n us Z k) {x : Int} {f : Fm} (hf : (fms Z)[fI (fms Z) x]? = Option.some f) : f.page = x ∧ ∃ u, Z[fI (fms Z) x]? = Option.some (f, u) ∧ M x = Option.some (hdF f u) := by
  have hp := fI_hit hf
  obtain ⟨u, hu⟩ := fms_get hf
  exact ⟨hp, u, hu, (h.has x _).2 ⟨(f, u), List.mem_of_getElem? hu, hp, rfl⟩⟩
theorem set_map (Z : List (Fm × Int)) (i : Nat) (f : Fm) (u : Int) : fms (Z.set i (f, u)) = (fms Z).set i f := by simp [fms, List.map_set]
/-- One page is changed in its place. -/
theorem Tie.set (h : Tie M n us Z k) {i : Nat} {f f' : Fm} {u : Int} (hi : Z[i]? = Option.some (f, u)) (hp : f'.page = f.page) (hpin : 0 ≤ f'.pins ∧ f'.pins ≤ (k : Int)) (hfi : f'.dirty = true → 1 ≤ f'.first) : Tie (upd M f.page (Option.some (hdF f' u))) n us (Z.set i (f', u)) k := by
  have hil := (List.getElem?_eq_some_iff.1 hi).1
  have hZi : Z[i] = (f, u) := (List.getElem?_eq_some_iff.1 hi).2
  have hmem : (f, u) ∈ Z := List.mem_of_getElem? hi
  have hin : ∀ z, z ∈ Z.set i (f', u) → z = (f', u) ∨ (z ∈ Z ∧ z.1.page ≠ f.page) := by
    intro z hz
    obtain ⟨j, hj, rfl⟩ := List.mem_iff_getElem.1 hz
    rw [List.length_set] at hj
    rw [List.getElem_set]
    by_cases e : i = j
    · left; rw [if_pos e]
    · right
      rw [if_neg e]
      refine ⟨List.getElem_mem _, ?_⟩
      have hpn := List.pairwise_iff_getElem.1 h.nd
      rcases Nat.lt_or_gt_of_ne e with e | e
      · have := hpn i j hil hj e; rw [hZi] at this; exact fun he => this he.symm
      · have := hpn j i hj hil e; rw [hZi] at this; exact this
  have hback : ∀ z ∈ Z, z.1.page ≠ f.page → z ∈ Z.set i (f', u) := by
    intro z hz hne
    obtain ⟨j, hj, rfl⟩ := List.mem_iff_getElem.1 hz
    have e : i ≠ j := fun e => by subst e; rw [hZi] at hne; exact hne rfl
    refine List.mem_iff_getElem.2 ⟨j, by rw [List.length_set]; exact hj, ?_⟩
    rw [List.getElem_set, if_neg e]
  have hnew : (f', u) ∈ Z.set i (f', u) := List.mem_iff_getElem.2 ⟨i, by rw [List.length_set]; exact hil, by rw [List.getElem_set, if_pos rfl]⟩
  refine ⟨?_, ?_, ?_, ?_, by rw [List.length_set]; exact h.len, ?_, ?_, h.use⟩
  · rw [List.pairwise_iff_getElem]
    intro a b ha hb hab
    rw [List.length_set] at ha hb
    have := List.pairwise_iff_getElem.1 h.up a b ha hb hab
    rw [List.getElem_set, List.getElem_set]
    split <;> split
    · omega
    · rename_i e _; subst e; rw [hZi] at this; exact this
    · rename_i _ e; subst e; rw [hZi] at this; exact this
    · exact this
  · rw [List.pairwise_iff_getElem]
    intro a b ha hb hab
    rw [List.length_set] at ha hb
    have := List.pairwise_iff_getElem.1 h.nd a b ha hb hab
    rw [List.getElem_set, List.getElem_set]
    split <;> split
    · omega
    · rename_i e _; subst e; rw [hZi] at this; dsimp only; rw [hp]; exact this
    · rename_i _ e; subst e; rw [hZi] at this; dsimp only; rw [hp]; exact this
    · exact this
  · intro z hz
    rcases hin z hz with rfl | ⟨h1, _⟩
    · show u ≤ us
      exact h.le (f, u) hmem
    · exact h.le z h1
  · intro x g
    by_cases e : x = f.page
    · subst e
      rw [upd_same]
      constructor
      · intro e2; cases e2; exact ⟨_, hnew, hp, rfl⟩
      · rintro ⟨z, hz, h1, rfl⟩
        rcases hin z hz with rfl | ⟨_, h2⟩
        · rfl
        · exact absurd h1 h2
    · rw [upd_other _ e, h.has x g]
      constructor
      · rintro ⟨z, hz, h1, h2⟩; exact ⟨z, hback z hz (by rw [h1]; exact e), h1, h2⟩
      · rintro ⟨z, hz, h1, h2⟩
        rcases hin z hz with rfl | ⟨h3, _⟩
        · exact absurd h1.symm (by rw [hp]; exact e)
        · exact ⟨z, h3, h1, h2⟩
  · intro z hz
    rcases hin z hz with rfl | ⟨h1, _⟩
    · exact hpin
    · exact h.pins z h1
  · intro z hz
    rcases hin z hz with rfl | ⟨h1, _⟩
    · exact hfi
    · exact h.first z h1
/-- One page is let go. -/
theorem Tie.drop (h : Tie M n us Z k) {i : Nat} {f : Fm} {u : Int} (hi : Z[i]? = Option.some (f, u)) : Tie (upd M f.page Option.none) (n - 1) us (Z.eraseIdx i) k := by
  have hil := (List.getElem?_eq_some_iff.1 hi).1
  have hZi : Z[i] = (f, u) := (List.getElem?_eq_some_iff.1 hi).2
  have hsub : (Z.eraseIdx i).Sublist Z := List.eraseIdx_sublist Z i
  have hin : ∀ z, z ∈ Z.eraseIdx i ↔ z ∈ Z ∧ z.1.page ≠ f.page := by
    intro z
    rw [List.mem_eraseIdx_iff_getElem?]
    constructor
    · rintro ⟨j, hj, hz⟩
      have hjl := (List.getElem?_eq_some_iff.1 hz).1
      have hzj := (List.getElem?_eq_some_iff.1 hz).2
      refine ⟨List.mem_of_getElem? hz, ?_⟩
      have hpn := List.pairwise_iff_getElem.1 h.nd
      rcases Nat.lt_or_gt_of_ne hj with e | e
      · have := hpn j i hjl hil e; rw [hZi, hzj] at this; exact this
      · have := hpn i j hil hjl e; rw [hZi, hzj] at this; exact fun he => this he.symm
    · rintro ⟨hz, hne⟩
      obtain ⟨j, hj⟩ := List.mem_iff_getElem?.1 hz
      exact ⟨j, fun e => by subst e; rw [hi] at hj; cases hj; exact hne rfl, hj⟩
  refine ⟨h.up.sublist hsub, h.nd.sublist hsub, fun z hz => h.le z ((hin z).1 hz).1, ?_, by rw [List.length_eraseIdx, if_pos hil, h.len], fun z hz => h.pins z ((hin z).1 hz).1, fun z hz => h.first z ((hin z).1 hz).1, h.use⟩
  intro x g
  by_cases e : x = f.page
  · subst e
    rw [upd_same]
    constructor
    · intro e2; cases e2
    · rintro ⟨z, hz, h1, _⟩; exact absurd h1 ((hin z).1 hz).2
  · rw [upd_other _ e, h.has x g]
    constructor
    · rintro ⟨z, hz, h1, h2⟩; exact ⟨z, (hin z).2 ⟨hz, by rw [h1]; exact e⟩, h1, h2⟩
    · rintro ⟨z, hz, h1, h2⟩; exact ⟨z, ((hin z).1 hz).1, h1, h2⟩
/-- One page is put behind the others. -/
theorem Tie.push (h : Tie M n us Z k) {x : Int} (hm : M x = Option.none) (f : Fm) (hf : f.page = x) (hpin : 0 ≤ f.pins ∧ f.pins ≤ (k : Int) + 1) (hfi : f.dirty = true → 1 ≤ f.first) : Tie (upd M x (Option.some (hdF f (us + 1)))) (n + 1) (us + 1) (Z ++ [(f, us + 1)]) (k + 1) := by
  have hno : ∀ z ∈ Z, z.1.page ≠ x := fun z hz e => by
    have := (h.has x (hdF z.1 z.2)).2 ⟨z, hz, e, rfl⟩
    rw [hm] at this; cases this
  refine ⟨?_, ?_, ?_, ?_, by rw [List.length_append, h.len]; rfl, ?_, ?_, by have := h.use; omega⟩
  · rw [List.pairwise_append]
    refine ⟨h.up, by simp, fun a ha b hb => ?_⟩
    rw [List.mem_singleton] at hb
    subst hb
    have := h.le a ha
    dsimp only; omega
  · rw [List.pairwise_append]
    refine ⟨h.nd, by simp, fun a ha b hb => ?_⟩
    rw [List.mem_singleton] at hb
    subst hb
    dsimp only; rw [hf]; exact hno a ha
  · intro z hz
    rw [List.mem_append, List.mem_singleton] at hz
    rcases hz with hz | rfl
    · have := h.le z hz; omega
    · exact Int.le_refl _
  · intro y g
    by_cases e : y = x
    · subst e
      rw [upd_same]
      constructor
      · intro e2; cases e2; exact ⟨(f, us + 1), by simp, hf, rfl⟩
      · rintro ⟨z, hz, h1, rfl⟩
        rw [List.mem_append, List.mem_singleton] at hz
        rcases hz with hz | rfl
        · exact absurd h1 (hno z hz)
        · rfl
    · rw [upd_other _ e, h.has y g]
      constructor
      · rintro ⟨z, hz, h1, h2⟩; exact ⟨z, by simp [hz], h1, h2⟩
      · rintro ⟨z, hz, h1, h2⟩
        rw [List.mem_append, List.mem_singleton] at hz
        rcases hz with hz | rfl
        · exact ⟨z, hz, h1, h2⟩
        · exact absurd (hf ▸ h1).symm e
  · intro z hz
    rw [List.mem_append, List.mem_singleton] at hz
    rcases hz with hz | rfl
    · have := h.pins z hz; omega
    · dsimp only; omega
  · intro z hz
    rw [List.mem_append, List.mem_singleton] at hz
    rcases hz with hz | rfl
    · exact h.first z hz
    · exact hfi
end
end Go.Proofs.Ytneniagingoleaa
