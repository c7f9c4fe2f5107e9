
/- What each call makes of both pools. -/
import Derived.Test.YtneniagingoleaaPrTie
import Derived.Test.YtneniagingoleaaPlPins
namespace Go.Proofs.Ytneniagingoleaa
open Go.RowKit

theorem dn_of {x : Int} {k : Nat} (h : 0 ≤ x ∧ x ≤ (k : Int)) (hk : k ≤ 9223372036854775806) : dn x = x - 1 := by
  unfold dn
  simp [IntKind.wrap, IntKind.bits, IntKind.signed]; omega
theorem up_of {x : Int} {k : Nat} (h : 0 ≤ x ∧ x ≤ (k : Int)) (hk : k ≤ 9223372036854775806) : up x = x + 1 := by
  unfold up
  simp [IntKind.wrap, IntKind.bits, IntKind.signed]; omega
section
variable {M : Pmap} {n : Nat} {us fl : Int} {Z : List (Fm × Int)} {k : Nat}
theorem Tie.since (h : Tie M n us Z k) {f : Fm} {u : Int} (hz : (f, u) ∈ Z) : ((hdF f u).since = 0 ↔ f.dirty = false) := by
  have := h.first _ hz
  unfold hdF
  cases hd : f.dirty
  · simp
  · have := this hd
    simp only [if_true, Bool.true_eq_false, iff_false]
    dsimp only at this
    omega
theorem Tie.pinE (h : Tie M n us Z k) (x : Int) : pinE M x = rpE (fms Z) x := by
  unfold Go.Proofs.Ytneniagingoleaa.pinE rpE
  cases hf : (fms Z)[fI (fms Z) x]? with
  | none => rw [h.none hf]
  | some f =>
    obtain ⟨_, u, _, hm⟩ := h.some hf
    rw [hm]; rfl
theorem Tie.unpin (h : Tie M n us Z k) (hk : k ≤ 9223372036854775806) (x : Int) : ∃ Z', fms Z' = unL (fms Z) x ∧ Tie (unM M x) n us Z' k := by
  have he := h.pinE x
  unfold unL unM
  cases hf : (fms Z)[fI (fms Z) x]? with
  | none =>
    have h6 : rpE (fms Z) x = 6 := by unfold rpE; rw [hf]
    rw [he, h6]
    exact ⟨Z, rfl, by rw [if_neg (by decide)]; exact h⟩
  | some f =>
    obtain ⟨hp, u, hu, hm⟩ := h.some hf
    dsimp only
    by_cases h0 : f.pins = 0
    · have h6 : rpE (fms Z) x = 7 := by unfold rpE; rw [hf]; exact if_pos h0
      rw [he, h6, if_pos h0]
      exact ⟨Z, rfl, by rw [if_neg (by decide)]; exact h⟩
    · have h6 : rpE (fms Z) x = 0 := by unfold rpE; rw [hf]; exact if_neg h0
      rw [he, h6, if_neg h0]
      have hb := h.pins _ (List.mem_of_getElem? hu)
      dsimp only at hb
      have e : pinH M x = hdF f u := by
        unfold pinH; rw [hm]; exact if_neg h0
      rw [e]
      refine ⟨Z.set (fI (fms Z) x) ({ f with pins := dn f.pins }, u), set_map _ _ _ _, ?_⟩
      rw [if_pos rfl]
      have := h.set hu (f' := { f with pins := dn f.pins }) rfl (by dsimp only; rw [dn_of hb hk]; omega) (h.first _ (List.mem_of_getElem? hu))
      rw [show upd M x = upd M f.page by rw [hp]]
      exact this
theorem Tie.soil (h : Tie M n us Z k) (x l : Int) : diE M x l = soE (fms Z) x l ∧ ∃ Z', fms Z' = soL (fms Z) x l ∧ Tie (diM M x l) n us Z' k := by
  have he : diE M x l = soE (fms Z) x l := by unfold diE soE; rw [h.pinE x]
  refine ⟨he, ?_⟩
  unfold soL diM
  by_cases hl : 1 ≤ l ∧ l ≤ 1099511627776
  · have hso : soE (fms Z) x l = rpE (fms Z) x := if_pos hl
    rw [if_pos hl]
    cases hf : (fms Z)[fI (fms Z) x]? with
    | none =>
      have h6 : rpE (fms Z) x = 6 := by unfold rpE; rw [hf]
      rw [he, hso, h6]
      exact ⟨Z, rfl, by rw [if_neg (by decide)]; exact h⟩
    | some f =>
      obtain ⟨hp, u, hu, hm⟩ := h.some hf
      dsimp only
      by_cases h0 : f.pins = 0
      · have h6 : rpE (fms Z) x = 7 := by unfold rpE; rw [hf]; exact if_pos h0
        rw [he, hso, h6, if_pos h0]
        exact ⟨Z, rfl, by rw [if_neg (by decide)]; exact h⟩
      · have h6 : rpE (fms Z) x = 0 := by unfold rpE; rw [hf]; exact if_neg h0
        rw [he, hso, h6, if_neg h0]
        have hmz := List.mem_of_getElem? hu
        have e : pinH M x = hdF f u := by
          unfold pinH; rw [hm]; exact if_neg h0
        have hs := h.since hmz
        have e2 : diH (hdF f u) l = hdF (soF f l) u := by
          unfold diH soF
          cases hd : f.dirty
          · have := hs.2 hd
            unfold hdF at this ⊢
            simp only [hd, if_true, Bool.false_eq_true, if_false]
            congr 1
            split <;> omega
          · have h1 : (hdF f u).since ≠ 0 := fun e => by rw [hs.1 e] at hd; cases hd
            rw [if_neg h1]
            unfold hdF at h1 ⊢
            simp only [hd, if_true]
            congr 1
            split <;> omega
        rw [e, e2]
        refine ⟨Z.set (fI (fms Z) x) (soF f l, u), set_map _ _ _ _, ?_⟩
        rw [if_pos rfl]
        have := h.set hu (f' := soF f l) rfl (h.pins _ hmz) (fun _ => by
          unfold soF; dsimp only
          split
          · rename_i hd; exact h.first _ hmz hd
          · exact hl.1)
        rw [hp] at this
        exact this
  · have hso : soE (fms Z) x l = 1 := if_neg hl
    rw [if_neg hl, he, hso]
    exact ⟨Z, rfl, by rw [if_neg (by decide)]; exact h⟩
theorem Tie.clean (h : Tie M n us Z k) (x : Int) : clE M x = rcE (fms Z) x ∧ clN M x fl = rcV (fms Z) x fl ∧ clF M x fl = rcF (fms Z) x fl ∧ ∃ Z', fms Z' = rcL (fms Z) x ∧ Tie (clM M x) n us Z' k := by
  unfold clE rcE clN rcV clF rcF clM rcL
  cases hf : (fms Z)[fI (fms Z) x]? with
  | none => rw [h.none hf]; exact ⟨rfl, rfl, rfl, Z, rfl, h⟩
  | some f =>
    obtain ⟨hp, u, hu, hm⟩ := h.some hf
    have hmz := List.mem_of_getElem? hu
    have hs := h.since hmz
    rw [hm]
    dsimp only
    cases hd : f.dirty
    · have := hs.2 hd
      rw [if_pos this, if_pos this, if_pos this, if_pos this]
      simp only [Bool.false_eq_true, if_false]
      exact ⟨trivial, trivial, trivial, Z, rfl, h⟩
    · have h1 : (hdF f u).since ≠ 0 := fun e => by rw [hs.1 e] at hd; cases hd
      rw [if_neg h1, if_neg h1, if_neg h1, if_neg h1]
      simp only [if_true]
      refine ⟨trivial, rfl, rfl, Z.set (fI (fms Z) x) ({ f with dirty := false }, u), set_map _ _ _ _, ?_⟩
      have := h.set hu (f' := { f with dirty := false }) rfl (h.pins _ hmz) (fun e => by cases e)
      rw [show upd M x = upd M f.page by rw [hp]]
      exact this
theorem Tie.pinsAt (h : Tie M n us Z k) (x : Int) : ((M x).getD h0).pins = match (fms Z)[fI (fms Z) x]? with | Option.none => 0 | Option.some f => f.pins := by
  cases hf : (fms Z)[fI (fms Z) x]? with
  | none => rw [h.none hf]; rfl
  | some f =>
    obtain ⟨_, u, _, hm⟩ := h.some hf
    rw [hm]; rfl
theorem Tie.old (h : Tie M n us Z k) {r : Int} (hr : OldM M r) : (oldF (fms Z)).1 = r ∧ (oldF (fms Z)).2 = (r != 0) := by
  have ho := oldF_all (fms Z)
  have hin : ∀ f ∈ fms Z, ∃ u, (f, u) ∈ Z := fun f hf => by
    obtain ⟨⟨g, u⟩, hg, e⟩ := List.mem_map.1 hf
    dsimp only at e; subst e; exact ⟨u, hg⟩
  rcases ho with ⟨h1, h2⟩ | ⟨h1, ⟨f, hf, hf1, hf2⟩, h3⟩
  · rw [h1]
    have hz : r = 0 := by
      rcases hr with ⟨e, _⟩ | ⟨e, ⟨x, g, hm, hg⟩, _⟩
      · exact e
      · exfalso
        obtain ⟨z, hz, _, rfl⟩ := (h.has x g).1 hm
        have := (h.since (f := z.1) (u := z.2) hz).2 (h2 z.1 (List.mem_map_of_mem hz))
        exact e (hg ▸ this)
    subst hz; exact ⟨rfl, rfl⟩
  · obtain ⟨u, hu⟩ := hin f hf
    have hMf := (h.has f.page (hdF f u)).2 ⟨(f, u), hu, rfl, rfl⟩
    have hsf : (hdF f u).since = f.first := by unfold hdF; rw [hf1]; rfl
    have hs0 : (hdF f u).since ≠ 0 := fun e => by rw [(h.since hu).1 e] at hf1; cases hf1
    rcases hr with ⟨_, e⟩ | ⟨e, ⟨x, g, hm, hg⟩, e3⟩
    · exact absurd (e _ _ hMf) hs0
    · obtain ⟨z, hz, _, rfl⟩ := (h.has x g).1 hm
      have hd : z.1.dirty = true := by
        cases hd : z.1.dirty
        · exact absurd (hg ▸ (h.since (f := z.1) (u := z.2) hz).2 hd) e
        · rfl
      have a1 := h3 z.1 (List.mem_map_of_mem hz) hd
      have hgz : (hdF z.1 z.2).since = z.1.first := by unfold hdF; rw [hd]; rfl
      have a2 := e3 _ _ hMf hs0
      rw [hsf] at a2
      have : (oldF (fms Z)).1 = r := by omega
      refine ⟨this, ?_⟩
      rw [h1]; exact (by simpa using e : (r != 0) = true).symm
theorem Tie.pages (h : Tie M n us Z k) {ts : List Int} (hk : Keep M n ts) (hs : ts.Pairwise (fun x y => ((M x).getD h0).used ≤ ((M y).getD h0).used)) : ts = (fms Z).map Fm.page := by
  have hu : ∀ z ∈ Z, ((M z.1.page).getD h0).used = z.2 := fun z hz => by
    rw [(h.has z.1.page (hdF z.1 z.2)).2 ⟨z, hz, rfl, rfl⟩]; rfl
  have hmm : (fms Z).map Fm.page = Z.map (fun z => z.1.page) := by simp [fms]
  have nd2 : (Z.map (fun z => z.1.page)).Nodup := by
    rw [List.nodup_iff_pairwise_ne, List.pairwise_map]; exact h.nd
  have s2 : (Z.map (fun z => z.1.page)).Pairwise (fun x y => ((M x).getD h0).used ≤ ((M y).getD h0).used) := by
    rw [List.pairwise_map]
    refine h.up.imp_of_mem (fun {a b} ha hb hab => ?_)
    rw [hu a ha, hu b hb]; omega
  have hp : ts.Perm (Z.map (fun z => z.1.page)) := by
    rw [List.perm_ext_iff_of_nodup hk.nd nd2]
    intro x
    rw [hk.mem x, List.mem_map]
    constructor
    · intro e
      obtain ⟨g, hg⟩ := Option.isSome_iff_exists.1 e
      obtain ⟨z, hz, h1, _⟩ := (h.has x g).1 hg
      exact ⟨z, hz, h1⟩
    · rintro ⟨z, hz, rfl⟩
      rw [(h.has z.1.page (hdF z.1 z.2)).2 ⟨z, hz, rfl, rfl⟩]; rfl
  rw [hmm]
  refine List.Perm.eq_of_pairwise (fun a b ha hb h1 h2 => ?_) hs s2 hp
  obtain ⟨z, hz, rfl⟩ := List.mem_map.1 (hp.mem_iff.1 ha)
  obtain ⟨y, hy, rfl⟩ := List.mem_map.1 hb
  rw [hu z hz, hu y hy] at h1 h2
  obtain ⟨i, hi, rfl⟩ := List.mem_iff_getElem.1 hz
  obtain ⟨j, hj, rfl⟩ := List.mem_iff_getElem.1 hy
  have hpw := List.pairwise_iff_getElem.1 h.up
  rcases Nat.lt_trichotomy i j with e | e | e
  · have := hpw i j hi hj e; omega
  · subst e; rfl
  · have := hpw j i hj hi e; omega
theorem fms_erase : ∀ (Z : List (Fm × Int)) (i : Nat), fms (Z.eraseIdx i) = (fms Z).eraseIdx i
  | [], _ => rfl
  | _ :: _, 0 => rfl
  | z :: Z, i + 1 => congrArg (z.1 :: ·) (fms_erase Z i)
theorem fms_push (Z : List (Fm × Int)) (f : Fm) (u : Int) : fms (Z ++ [(f, u)]) = fms Z ++ [f] := by simp [fms]
theorem idI_some {L : List Fm} {f : Fm} (h : L[idI L]? = Option.some f) : ¬ 0 < f.pins ∧ ∀ j, j < idI L → ∀ g, L[j]? = Option.some g → 0 < g.pins := by
  induction L with
  | nil => simp at h
  | cons a l ih =>
    unfold idI at h ⊢
    split
    · rename_i hp
      rw [if_pos hp] at h
      obtain ⟨h1, h2⟩ := ih (by simpa using h)
      refine ⟨h1, fun j hj g hg => ?_⟩
      cases j with
      | zero => simp at hg; subst hg; exact hp
      | succ j => exact h2 j (by omega) g (by simpa using hg)
    · rename_i hp
      rw [if_neg hp] at h
      simp at h
      subst h
      exact ⟨hp, fun j hj => by omega⟩
theorem idI_none {L : List Fm} (h : L[idI L]? = Option.none) : ∀ f ∈ L, 0 < f.pins := by
  induction L with
  | nil => intro f hf; cases hf
  | cons a l ih =>
    unfold idI at h
    split at h
    · rename_i hp
      intro f hf
      rcases List.mem_cons.1 hf with rfl | hf
      · exact hp
      · exact ih (by simpa using h) f hf
    · simp at h
theorem upd_upd (M : Pmap) (x : Int) (a b : Option Hd) : upd (upd M x a) x b = upd M x b := by
  funext y
  unfold upd
  split <;> rfl
/-- Both tell the same of a Get, and go on alike. -/
theorem Tie.get (h : Tie M n us Z k) (hk : k ≤ 9223372036854775806) {fr x : Int} {hit wr hit2 wr2 : Bool} {out need er us' fl' out2 need2 er2 fl2 : Int} {M' : Pmap} {n' : Nat} {L' : List Fm}
    (h1 : GetO M n fr us fl x hit wr out need er M' n' us' fl') (h2 : RgO (fms Z) fr fl x hit2 wr2 out2 need2 er2 L' fl2) :
    hit = hit2 ∧ wr = wr2 ∧ out = out2 ∧ need = need2 ∧ er = er2 ∧ fl' = fl2 ∧ ∃ Z', fms Z' = L' ∧ Tie M' n' us' Z' (k + 1) := by
  have hlen : (fms Z).length = n := by rw [fms, List.length_map, h.len]
  have hup : Go.Proofs.Ytneniagingoleaa.up us = us + 1 := up_of h.use hk
  rcases h2 with ⟨hx, rfl, rfl, rfl, rfl, rfl, rfl, rfl⟩ | ⟨hx, f, hf, rfl, rfl, rfl, rfl, rfl, rfl, rfl⟩ | ⟨hx, hf, hr, rfl, rfl, rfl, rfl, rfl, rfl, rfl⟩ | ⟨hx, hf, hr, hi, rfl, rfl, rfl, rfl, rfl, rfl, rfl⟩ | ⟨hx, hf, hr, f, hi, rfl, rfl, rfl, rfl, rfl, rfl, rfl⟩
  · rcases h1 with ⟨_, rfl, rfl, rfl, rfl, rfl, rfl, rfl, rfl, rfl⟩ | ⟨c, _⟩ | ⟨c, _⟩ | ⟨c, _⟩ | ⟨c, _⟩
    · exact ⟨rfl, rfl, rfl, rfl, rfl, rfl, Z, rfl, h.more⟩
    all_goals exact absurd c hx
  · obtain ⟨hp, u, hu, hm⟩ := h.some hf
    rcases h1 with ⟨c, _⟩ | ⟨_, g, hg, rfl, rfl, rfl, rfl, rfl, rfl, rfl, rfl, rfl⟩ | ⟨_, c, _⟩ | ⟨_, c, _⟩ | ⟨_, c, _⟩
    · exact absurd hx c
    · rw [hm] at hg
      cases hg
      have hb := h.pins _ (List.mem_of_getElem? hu)
      dsimp only at hb
      have hpu : Go.Proofs.Ytneniagingoleaa.up f.pins = f.pins + 1 := up_of hb hk
      have hd := h.drop hu
      rw [hp] at hd
      have hn0 : n' - 1 + 1 = n' := by rw [h.len]; have := (List.getElem?_eq_some_iff.1 hu).1; omega
      have := hd.push (x := x) (upd_same _ _ _) { f with pins := f.pins + 1 } hp (by dsimp only; omega) (h.first _ (List.mem_of_getElem? hu))
      rw [upd_upd, hn0] at this
      refine ⟨rfl, rfl, rfl, rfl, rfl, rfl, Z.eraseIdx (fI (fms Z) x) ++ [({ f with pins := f.pins + 1 }, us + 1)], ?_, ?_⟩
      · rw [fms_push, fms_erase, hpu]
      · rw [hup]
        have e : (⟨Go.Proofs.Ytneniagingoleaa.up (hdF f u).pins, (hdF f u).lsn, (hdF f u).since, us + 1⟩ : Hd) = hdF { f with pins := f.pins + 1 } (us + 1) := by
          show (⟨Go.Proofs.Ytneniagingoleaa.up f.pins, _, _, _⟩ : Hd) = _
          rw [hpu]; rfl
        rw [e]; exact this
    all_goals (rw [hm] at c; cases c)
  · have hm := h.none hf
    rcases h1 with ⟨c, _⟩ | ⟨_, g, c, _⟩ | ⟨_, _, _, rfl, rfl, rfl, rfl, rfl, rfl, rfl, rfl, rfl⟩ | ⟨_, _, c, _⟩ | ⟨_, _, c, _⟩
    · exact absurd hx c
    · rw [hm] at c; cases c
    · refine ⟨rfl, rfl, rfl, rfl, rfl, rfl, Z ++ [(⟨x, 1, 0, 0, false⟩, us + 1)], fms_push _ _ _, ?_⟩
      rw [hup]
      exact h.push hm ⟨x, 1, 0, 0, false⟩ rfl (by dsimp only; omega) (fun e => by cases e)
    all_goals (rw [hlen] at hr; exact absurd hr c)
  · have hm := h.none hf
    have hall : ∀ y g, M y = Option.some g → g.pins ≠ 0 := fun y g hg => by
      obtain ⟨z, hz, _, rfl⟩ := (h.has y g).1 hg
      have := idI_none hi z.1 (List.mem_map_of_mem hz)
      show z.1.pins ≠ 0
      omega
    rcases h1 with ⟨c, _⟩ | ⟨_, g, c, _⟩ | ⟨_, _, c, _⟩ | ⟨_, _, _, _, rfl, rfl, rfl, rfl, rfl, rfl, rfl, rfl, rfl⟩ | ⟨_, _, _, r, g, hg, hg0, _⟩
    · exact absurd hx c
    · rw [hm] at c; cases c
    · rw [hlen] at hr; exact absurd c hr
    · exact ⟨rfl, rfl, rfl, rfl, rfl, rfl, Z, rfl, h.more⟩
    · exact absurd hg0 (hall r g hg)
  · have hm := h.none hf
    obtain ⟨hi1, hi2⟩ := idI_some hi
    obtain ⟨u, hu⟩ := fms_get hi
    have hzm := List.mem_of_getElem? hu
    have hb := h.pins _ hzm
    dsimp only at hb
    have hp0 : f.pins = 0 := by omega
    have hMf : M f.page = Option.some (hdF f u) := (h.has _ _).2 ⟨(f, u), hzm, rfl, rfl⟩
    rcases h1 with ⟨c, _⟩ | ⟨_, g, c, _⟩ | ⟨_, _, c, _⟩ | ⟨_, _, _, c, _⟩ | ⟨_, _, _, r, g, hg, hg0, hmin, rfl, rfl, rfl, rfl, rfl, rfl, rfl, rfl, rfl⟩
    · exact absurd hx c
    · rw [hm] at c; cases c
    · rw [hlen] at hr; exact absurd c hr
    · exact absurd hp0 (c _ _ hMf)
    · obtain ⟨z, hz, hzp, rfl⟩ := (h.has out g).1 hg
      have hzf : z = (f, u) := by
        have hle := hmin f.page _ hMf hp0
        have hle2 : z.2 ≤ u := hle
        obtain ⟨j, hj, rfl⟩ := List.mem_iff_getElem.1 hz
        have hil := (List.getElem?_eq_some_iff.1 hu).1
        have hZi : Z[idI (fms Z)] = (f, u) := (List.getElem?_eq_some_iff.1 hu).2
        have hpw := List.pairwise_iff_getElem.1 h.up
        rcases Nat.lt_trichotomy j (idI (fms Z)) with e | e | e
        · have := hi2 j e Z[j].1 (by rw [fms, List.getElem?_map, List.getElem?_eq_getElem hj]; rfl)
          have h0' : Z[j].1.pins = 0 := hg0
          omega
        · subst e; exact hZi
        · have := hpw _ j hil hj e; rw [hZi] at this; dsimp only at this; omega
      subst hzf
      dsimp only at hzp
      subst hzp
      have hs := h.since hzm
      have hd := h.drop hu
      have hxne : x ≠ f.page := fun e => by rw [e] at hm; rw [hm] at hMf; cases hMf
      have hx2 : upd M f.page Option.none x = Option.none := by rw [upd_other _ hxne]; exact hm
      have := hd.push hx2 ⟨x, 1, 0, 0, false⟩ rfl (by dsimp only; omega) (fun e => by cases e)
      refine ⟨rfl, ?_, rfl, ?_, rfl, ?_, Z.eraseIdx (idI (fms Z)) ++ [(⟨x, 1, 0, 0, false⟩, us + 1)], ?_, ?_⟩
      · cases hd2 : f.dirty
        · rw [hs.2 hd2]; rfl
        · have : (hdF f u).since ≠ 0 := fun e => by rw [hs.1 e] at hd2; cases hd2
          simpa using this
      · unfold lgN
        cases hd2 : f.dirty
        · rw [if_pos (hs.2 hd2), if_neg (by simp)]
        · rw [if_neg (fun e => by rw [hs.1 e] at hd2; cases hd2), if_pos rfl]; rfl
      · unfold lgF
        cases hd2 : f.dirty
        · rw [if_pos (hs.2 hd2), if_neg (by simp)]
        · rw [if_neg (fun e => by rw [hs.1 e] at hd2; cases hd2), if_pos rfl]; rfl
      · rw [fms_push, fms_erase]
      · rw [hup]; exact this
end
end Go.Proofs.Ytneniagingoleaa
