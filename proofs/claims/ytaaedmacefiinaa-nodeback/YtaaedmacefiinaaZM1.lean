
/- NdArg, NdMath. -/
import Derived.Test.YtaaedmacefiinaaZC3
/- An entry that came in. -/
namespace Go.Proofs.Ytaaedmacefiinaa
open Go.ChangeShapes Go.WideShapes Go.ChangeAt Go.RowKit

theorem cellsE : Try.prog.cellsOf 62 = 2 := by kernel_rfl
theorem array2 {α : Type} {cs : Array α} (h : cs.size = 2) : ∃ c0 c1, cs = #[c0, c1] := by
  obtain ⟨l⟩ := cs
  match l, h with
  | [c0, c1], _ => exact ⟨c0, c1, rfl⟩
section
variable {H : Type} {enc : TypeId × Value → H} {w : World} {base : Nat} {spare : Nat → Bool} {held : Bool}
set_option maxRecDepth 100000 in
theorem entry_open {r : Reach} {b0 : Nat} {v : Value} {d : DataW H} {pl : List MemPlace} (hv : Value.okWide Try.prog w r b0 62 v) (h : DataW.Trod enc Try.prog w base spare held 62 v d pl) (hz : ∀ z ∈ d.weights Try.prog 62, z ≤ reachBytes) :
    ∃ (a b : ByteArray), v = .agg #[.string a, .string b] ∧ a.size ≤ 140737488351232 ∧ b.size ≤ 140737488351232 := by
  obtain ⟨cs, rfl, hsz⟩ := okWide_struct Try.underlying62 hv
  obtain ⟨c0, c1, rfl⟩ := array2 (hsz.trans cellsE)
  obtain ⟨fuel, hf⟩ := h
  obtain ⟨xs, m, _, hx, hl, hlen, hfs⟩ := DataW.trod_struct Try.underlying62 hf
  match xs, hlen with
  | [y0, y1], _ =>
    have t0 := hfs 0 _ rfl
    have t1 := hfs 1 _ rfl
    simp [Value.cells, cellsS] at t0 t1
    have hd : d = .agg [y0.1, y1.1] := by simpa using congrArg Prod.fst hx
    rw [hd] at hz
    simp only [DataW.weights, Try.underlying62] at hz
    have z0 : ∀ z ∈ y0.1.weights Try.prog 9, z ≤ reachBytes := fun z h => hz z (DataW.weights_mem_each (j := 0) rfl rfl z h)
    have z1 : ∀ z ∈ y1.1.weights Try.prog 9, z ≤ reachBytes := fun z h => hz z (DataW.weights_mem_each (j := 1) rfl rfl z h)
    obtain ⟨b0, e0, e0', _⟩ := DataW.trod_string Try.underlying9 t0
    obtain ⟨b1, e1, e1', _⟩ := DataW.trod_string Try.underlying9 t1
    simp only [List.cons.injEq, and_true] at e0 e1
    subst e0 e1
    rw [e0'] at z0
    rw [e1'] at z1
    have w0 := z0 b0.data.toList.length (by simp [DataW.weights])
    have w1 := z1 b1.data.toList.length (by simp [DataW.weights])
    rw [← Lib.size_eq] at w0 w1
    exact ⟨b0, b1, rfl, by simpa [reachBytes] using w0, by simpa [reachBytes] using w1⟩
end
end Go.Proofs.Ytaaedmacefiinaa
/- A leaf's entries: what Put, Del and Get have to do with them. -/
namespace Go.Proofs.Ytaaedmacefiinaa
open Go.RowKit

/-- Two lists that rise and have the same members are the same. -/
theorem sorted_ext {α : Type} {lt : α → α → Prop} (irr : ∀ a, ¬ lt a a) (tr : ∀ a b c, lt a b → lt b c → lt a c) : ∀ {l m : List α}, l.Pairwise lt → m.Pairwise lt → (∀ x, x ∈ l ↔ x ∈ m) → l = m
  | [], [], _, _, _ => rfl
  | [], b :: m, _, _, h => absurd ((h b).2 (by simp)) (by simp)
  | a :: l, [], _, _, h => absurd ((h a).1 (by simp)) (by simp)
  | a :: l, b :: m, h1, h2, h => by
    rw [List.pairwise_cons] at h1 h2
    have hab : a = b := by
      rcases List.mem_cons.1 ((h a).1 (by simp)) with e | e
      · exact e
      · rcases List.mem_cons.1 ((h b).2 (by simp)) with e2 | e2
        · exact e2.symm
        · exact absurd (tr _ _ _ (h1.1 b e2) (h2.1 a e)) (irr a)
    subst hab
    rw [sorted_ext irr tr h1.2 h2.2 (fun x => ⟨fun hx => by
      rcases List.mem_cons.1 ((h x).1 (by simp [hx])) with e | e
      · subst e; exact absurd (h1.1 x hx) (irr x)
      · exact e, fun hx => by
      rcases List.mem_cons.1 ((h x).2 (by simp [hx])) with e | e
      · subst e; exact absurd (h2.1 x hx) (irr x)
      · exact e⟩)]
abbrev En := ByteArray × ByteArray
def elt (a b : En) : Prop := cpl (bsOf a.1) (bsOf b.1) < 0
theorem elt_irr (a : En) : ¬ elt a a := by unfold elt; rw [cpl_refl]; omega
theorem elt_tr (a b c : En) (h : elt a b) (k : elt b c) : elt a c := cpl_lt_trans h k
/-- A leaf's entries. -/
def ents (n : Nd) : List En := n.keys.zip n.vals
/-- A node that may be a leaf's. -/
structure Lf (n : Nd) : Prop where
  len : n.vals.length = n.keys.length
  kids : n.kids = []
  srt : srt n.keys
theorem Rt.lf {n : Nd} (r : Rt n) (h0 : n.lev = 0) : Lf n := ⟨(r.leaf h0).1, List.eq_nil_of_length_eq_zero (r.leaf h0).2.1, r.srt⟩
theorem Lf.elen {n : Nd} (h : Lf n) : (ents n).length = n.keys.length := by unfold ents; rw [List.length_zip, h.len]; omega
theorem Lf.at_ {n : Nd} (h : Lf n) (j : Nat) (hj : j < (ents n).length) : (ents n)[j] = (n.keys.getD j ByteArray.empty, n.vals.getD j ByteArray.empty) := by
  have h1 := h.elen
  have h2 := h.len
  have hj' : j < n.keys.length := by omega
  unfold ents at hj ⊢
  rw [List.getElem_zip, getD_lt _ _ _ (by omega), getD_lt _ _ _ (by omega)]
theorem Lf.pw {n : Nd} (h : Lf n) : (ents n).Pairwise elt := by
  rw [List.pairwise_iff_getElem]
  intro i j hi hj hij
  rw [h.at_ i hi, h.at_ j hj]
  exact h.srt i j hij (by have := h.elen; omega)
theorem lf_ext {a b : Nd} (ha : Lf a) (hb : Lf b) (h1 : a.lev = b.lev) (h2 : a.lsn = b.lsn) (h3 : a.rgt = b.rgt) (h4 : a.high = b.high) (hm : ∀ x, x ∈ ents a ↔ x ∈ ents b) : a = b := by
  have he := sorted_ext elt_irr elt_tr ha.pw hb.pw hm
  have hk : a.keys = b.keys := by
    rw [← List.map_fst_zip (l₁ := a.keys) (l₂ := a.vals) (by have := ha.len; omega), ← List.map_fst_zip (l₁ := b.keys) (l₂ := b.vals) (by have := hb.len; omega)]
    exact congrArg _ he
  have hv : a.vals = b.vals := by
    rw [← List.map_snd_zip (l₁ := a.keys) (l₂ := a.vals) (by have := ha.len; omega), ← List.map_snd_zip (l₁ := b.keys) (l₂ := b.vals) (by have := hb.len; omega)]
    exact congrArg _ he
  have hi : a.kids = b.kids := by rw [ha.kids, hb.kids]
  cases a; cases b
  simp only at h1 h2 h3 h4 hk hv hi
  subst h1; subst h2; subst h3; subst h4; subst hk; subst hv; subst hi
  rfl
theorem zip_take {α β : Type} (i : Nat) (a : List α) (b : List β) : (a.take i).zip (b.take i) = (a.zip b).take i := by rw [List.zip_eq_zipWith, List.zip_eq_zipWith, List.take_zipWith]
theorem zip_drop {α β : Type} (i : Nat) (a : List α) (b : List β) : (a.drop i).zip (b.drop i) = (a.zip b).drop i := by rw [List.zip_eq_zipWith, List.zip_eq_zipWith, List.drop_zipWith]
theorem zip_ins {α β : Type} (f : Bool) (i : Nat) (x : α) (y : β) (a : List α) (b : List β) (h : b.length = a.length) : (insAll f i x a).zip (insAll f i y b) = insAll f i (x, y) (a.zip b) := by
  unfold insAll
  rw [List.zip_append (by simp; omega), List.zip_cons_cons, zip_take, zip_drop]
theorem zip_erase {α β : Type} (i : Nat) (a : List α) (b : List β) (h : b.length = a.length) : (a.eraseIdx i).zip (b.eraseIdx i) = (a.zip b).eraseIdx i := by
  rw [List.eraseIdx_eq_take_drop_succ, List.eraseIdx_eq_take_drop_succ, List.eraseIdx_eq_take_drop_succ, List.zip_append (by simp; omega), zip_take, zip_drop]
theorem srt_pw {l : List ByteArray} : srt l ↔ l.Pairwise (fun a b => cpl (bsOf a) (bsOf b) < 0) := by
  rw [List.pairwise_iff_getElem]
  constructor
  · intro h i j hi hj hij
    have := h i j hij hj
    rwa [getD_lt _ _ _ hi, getD_lt _ _ _ hj] at this
  · intro h i j hij hj
    rw [getD_lt _ _ _ (by omega), getD_lt _ _ _ hj]
    exact h i j (by omega) hj hij
/-- Where a key stands among entries. -/
theorem mem_lo {n : Nd} (h : Lf n) {k : ByteArray} {i : Nat} {f : Bool} (hp : Pl (bsOf k) n.keys i f) {x : En} (hx : x ∈ (ents n).take i) : x ∈ ents n ∧ cpl (bsOf x.1) (bsOf k) < 0 := by
  refine ⟨List.mem_of_mem_take hx, ?_⟩
  obtain ⟨j, hj, rfl⟩ := List.mem_take_iff_getElem.1 hx
  rw [h.at_ j (by omega)]
  exact hp.lt j (by omega)
theorem mem_hi {n : Nd} (h : Lf n) {k : ByteArray} {i : Nat} {f : Bool} (hp : Pl (bsOf k) n.keys i f) {x : En} (hx : x ∈ (ents n).drop (i + (if f = true then 1 else 0))) : x ∈ ents n ∧ 0 < cpl (bsOf x.1) (bsOf k) := by
  refine ⟨List.mem_of_mem_drop hx, ?_⟩
  obtain ⟨j, hj, rfl⟩ := List.mem_drop_iff_getElem.1 hx
  rw [h.at_ _ (by omega)]
  have he := h.elen
  cases f
  · exact hp.ge _ (by omega) (by simp at hj; omega) (.inl rfl)
  · exact hp.ge _ (by simp; omega) (by simp at hj; omega) (.inr (by simp; omega))
theorem mem_parts {n : Nd} (h : Lf n) {k : ByteArray} {i : Nat} {f : Bool} (hp : Pl (bsOf k) n.keys i f) {x : En} (hx : x ∈ ents n) (hk : x.1 ≠ k) : x ∈ (ents n).take i ∨ x ∈ (ents n).drop (i + (if f = true then 1 else 0)) := by
  obtain ⟨j, hj, rfl⟩ := List.mem_iff_getElem.1 hx
  by_cases h1 : j < i
  · exact .inl (List.mem_take_iff_getElem.2 ⟨j, by omega, rfl⟩)
  · refine .inr (List.mem_drop_iff_getElem.2 ?_)
    have hs : i + (if f = true then 1 else 0) ≤ j := by
      cases f
      · simp; omega
      · simp
        rcases Nat.lt_or_ge i j with h2 | h2
        · omega
        · have e : i = j := by omega
          subst e
          rw [h.at_ i hj] at hk
          exact absurd (bs_inj (hp.eq rfl).2) hk
    exact ⟨j - (i + (if f = true then 1 else 0)), by omega, by congr 1; omega⟩
theorem neq_of_lt {x : ByteArray} {k : ByteArray} (h : cpl (bsOf x) (bsOf k) < 0) : x ≠ k := fun e => by rw [e, cpl_refl] at h; omega
theorem neq_of_gt {x : ByteArray} {k : ByteArray} (h : 0 < cpl (bsOf x) (bsOf k)) : x ≠ k := fun e => by rw [e, cpl_refl] at h; omega
theorem plc_pl' {k : ByteArray} {n : Nd} (h : Lf n) : Pl (bsOf k) n.keys (plc (bsOf k) n.keys).1 (plc (bsOf k) n.keys).2 := plc_pl h.srt
/-- What Put makes. -/
theorem put_ents {n : Nd} (h : Lf n) (k v : ByteArray) : ents (putN n k v) = insAll (plc (bsOf k) n.keys).2 (plc (bsOf k) n.keys).1 (k, v) (ents n) := zip_ins _ _ _ _ _ _ h.len
theorem put_mem {n : Nd} (h : Lf n) (k v : ByteArray) (x : En) : x ∈ ents (putN n k v) ↔ x = (k, v) ∨ (x ∈ ents n ∧ x.1 ≠ k) := by
  have hp := plc_pl' (k := k) h
  rw [put_ents h]
  generalize (plc (bsOf k) n.keys).1 = i at *
  generalize (plc (bsOf k) n.keys).2 = f at *
  unfold insAll
  constructor
  · intro hx
    rcases List.mem_append.1 hx with hx | hx
    · have := mem_lo h hp hx
      exact .inr ⟨this.1, neq_of_lt this.2⟩
    · rcases List.mem_cons.1 hx with hx | hx
      · exact .inl hx
      · have := mem_hi h hp hx
        exact .inr ⟨this.1, neq_of_gt this.2⟩
  · intro hx
    rcases hx with hx | ⟨hx, hk⟩
    · subst hx; simp
    · rcases mem_parts h hp hx hk with e | e
      · exact List.mem_append.2 (.inl e)
      · exact List.mem_append.2 (.inr (List.mem_cons.2 (.inr e)))
theorem put_lf {n : Nd} (h : Lf n) (k v : ByteArray) : Lf (putN n k v) := by
  have hp := plc_pl' (k := k) h
  refine ⟨?_, rfl, ?_⟩
  · show (insAll _ _ _ n.vals).length = (insAll _ _ _ n.keys).length
    unfold insAll
    simp [h.len]
  · rw [srt_pw]
    show (insAll _ _ _ n.keys).Pairwise _
    generalize (plc (bsOf k) n.keys).1 = i at *
    generalize (plc (bsOf k) n.keys).2 = f at *
    have hs := srt_pw.1 h.srt
    have lo : ∀ a ∈ n.keys.take i, cpl (bsOf a) (bsOf k) < 0 := fun a ha => by
      obtain ⟨j, hj, rfl⟩ := List.mem_take_iff_getElem.1 ha
      have := hp.lt j (by omega)
      rwa [getD_lt _ _ _ (by omega)] at this
    have hi : ∀ a ∈ n.keys.drop (i + (if f = true then 1 else 0)), cpl (bsOf k) (bsOf a) < 0 := fun a ha => by
      obtain ⟨j, hj, rfl⟩ := List.mem_drop_iff_getElem.1 ha
      have : 0 < cpl (bsOf (n.keys.getD (i + (if f = true then 1 else 0) + j) ByteArray.empty)) (bsOf k) := by
        cases f
        · exact hp.ge _ (by omega) (by omega) (.inl rfl)
        · exact hp.ge _ (by simp; omega) (by omega) (.inr (by simp; omega))
      rw [getD_lt _ _ _ (by omega)] at this
      exact cpl_pos.1 this
    unfold insAll
    rw [List.pairwise_append, List.pairwise_cons]
    refine ⟨hs.sublist (List.take_sublist _ _), ⟨hi, hs.sublist (List.drop_sublist _ _)⟩, fun a ha b hb => ?_⟩
    rcases List.mem_cons.1 hb with rfl | hb
    · exact lo a ha
    · exact cpl_lt_trans (lo a ha) (hi b hb)
/-- What Del makes. -/
theorem del_lf {n : Nd} (h : Lf n) (k : ByteArray) : Lf (delN n k) := by
  have hp := plc_pl' (k := k) h
  have hl := h.len
  refine ⟨?_, rfl, ?_⟩
  · show (erTo _ _ _ n.vals).length = (erTo _ _ _ n.keys).length
    unfold erTo
    split
    · rw [List.length_eraseIdx, List.length_eraseIdx]; simp [hl]
    · simp [hl]
  · rw [srt_pw]
    show (erTo _ _ _ n.keys).Pairwise _
    have hs := srt_pw.1 h.srt
    unfold erTo
    split
    · exact hs.sublist ((List.eraseIdx_sublist _ _).trans (List.take_sublist _ _))
    · exact hs.sublist (List.take_sublist _ _)
theorem del_mem {n : Nd} (h : Lf n) (k : ByteArray) (x : En) : x ∈ ents (delN n k) ↔ x ∈ ents n ∧ x.1 ≠ k := by
  have hp := plc_pl' (k := k) h
  have hl := h.len
  have he : ents (delN n k) = (erTo (plc (bsOf k) n.keys).2 (plc (bsOf k) n.keys).1 n.keys.length n.keys).zip (erTo (plc (bsOf k) n.keys).2 (plc (bsOf k) n.keys).1 n.keys.length n.vals) := rfl
  rw [he]
  generalize (plc (bsOf k) n.keys).1 = i at *
  generalize (plc (bsOf k) n.keys).2 = f at *
  cases f
  · rw [erTo_false _ _ _ (Nat.le_refl _), erTo_false _ _ _ (by omega)]
    show x ∈ ents n ↔ _
    refine ⟨fun hx => ⟨hx, ?_⟩, fun hx => hx.1⟩
    by_cases hxi : x ∈ (ents n).take i
    · exact neq_of_lt (mem_lo h hp hxi).2
    · have : x ∈ (ents n).drop (i + (if false = true then 1 else 0)) := by
        have : x ∈ (ents n).take i ++ (ents n).drop i := by rw [List.take_append_drop]; exact hx
        rcases List.mem_append.1 this with e | e
        · exact absurd e hxi
        · simpa using e
      exact neq_of_gt (mem_hi h hp this).2
  · have hi := (hp.eq rfl).1
    rw [erTo_true _ _ _ (Nat.le_refl _) hi, erTo_true _ _ _ (by omega) (by omega), zip_erase _ _ _ hl, List.eraseIdx_eq_take_drop_succ]
    constructor
    · intro hx
      rcases List.mem_append.1 hx with hx | hx
      · have := mem_lo h hp hx
        exact ⟨this.1, neq_of_lt this.2⟩
      · have := mem_hi h hp (x := x) (by simpa [ents] using hx)
        exact ⟨this.1, neq_of_gt this.2⟩
    · rintro ⟨hx, hk⟩
      rcases mem_parts h hp hx hk with e | e
      · exact List.mem_append.2 (.inl e)
      · exact List.mem_append.2 (.inr (by simpa [ents] using e))
theorem tsz_sub {l m : List ByteArray} (h : l.Sublist m) : tsz l ≤ tsz m := by
  induction h with
  | slnil => exact Nat.le_refl _
  | cons a h ih => simp only [tsz, List.map_cons, List.sum_cons] at ih ⊢; omega
  | cons_cons a h ih => simp only [tsz, List.map_cons, List.sum_cons] at ih ⊢; omega
theorem erTo_sub {α : Type} (b : Bool) (i j : Nat) (l : List α) : (erTo b i j l).Sublist l := by
  unfold erTo
  split
  · exact (List.eraseIdx_sublist _ _).trans (List.take_sublist _ _)
  · exact List.take_sublist _ _
/-- A leaf without a key is right, if it was. -/
theorem del_rt {n : Nd} (r : Rt n) (h0 : n.lev = 0) (k : ByteArray) : Rt (delN n k) := by
  have h := r.lf h0
  have hd := del_lf h k
  have hv : ∀ s ∈ (delN n k).vals, s.size ≤ 32 := fun s hs => size_of_mem (r.leaf h0).2.2 s (erTo_mem _ _ _ _ s hs)
  refine ⟨r.lev0, r.lev1, r.lsn0, r.lsn1, r.rgt0, r.rgt1, r.high, fun i hi => ?_, fun _ => ⟨hd.len, rfl, fun i hi => ?_⟩, fun e => absurd h0 e, ?_⟩
  · have hm : (delN n k).keys.getD i ByteArray.empty ∈ n.keys := by
      rw [getD_lt _ _ _ hi]
      exact erTo_mem _ _ _ _ _ (List.getElem_mem hi)
    obtain ⟨j, hj, ej⟩ := List.mem_iff_getElem.1 hm
    have hk := r.keys j hj
    unfold kok at hk
    rw [getD_lt _ _ _ hj, ej] at hk
    exact ⟨hk.1, fun h1 => hd.srt (i - 1) i (by omega) hi, hk.2.2⟩
  · rw [getD_lt _ _ _ hi]
    exact hv _ (List.getElem_mem hi)
  · have hs := r.size
    have a1 := tsz_sub (erTo_sub (plc (bsOf k) n.keys).2 (plc (bsOf k) n.keys).1 n.keys.length n.keys)
    have a2 := tsz_sub (erTo_sub (plc (bsOf k) n.keys).2 (plc (bsOf k) n.keys).1 n.keys.length n.vals)
    unfold sizeN at hs ⊢
    rw [if_pos h0] at hs
    rw [if_pos (show (delN n k).lev = 0 from h0)]
    show 21 + n.high.size + tsz (erTo _ _ _ _) + tsz (erTo _ _ _ _) ≤ 256
    omega
/-- What is asked hangs on a node's level and bound alone, if it is right. -/
theorem ask_same {m n : Nd} (rm : Rt m) (rn : Rt n) (h1 : m.lev = n.lev) (h2 : m.high = n.high) (k : ByteArray) (ev en want : Int) : askE m k ev en want = askE n k ev en want := by
  unfold askE rgE suE fthB
  rw [(right_iff m).2 rm, (right_iff n).2 rn, h1, h2]
theorem ask_v0 {n : Nd} {k : ByteArray} {ev : Int} (h : askE n k ev 0 1 = 0) : askE n k 0 0 1 = 0 := by
  have := (ask_ok h).2.2.1
  subst this
  exact h
/-- A put that was done. -/
theorem put_ok {n : Nd} {k v : ByteArray} (h : putE n k v = 0) : askE n k (evalu v.size : Nat) 0 1 = 0 ∧ Rt (putN n k v) := by
  unfold putE at h
  by_cases e : askE n k (evalu v.size : Nat) 0 1 = 0
  · rw [if_pos e] at h
    refine ⟨e, (right_iff _).1 ?_⟩
    unfold fitE at h
    cases e2 : rightB (putN n k v)
    · rw [e2, if_neg (by simp)] at h; omega
    · rfl
  · rw [if_neg e] at h; exact absurd h e
/-- What Get tells of an entry. -/
theorem get_mem {n : Nd} {o : ByteArray} (ha : askE n o 0 0 1 = 0) (y : ByteArray) : (o, y) ∈ ents n ↔ getB n o = true ∧ getV n o = y := by
  have r := (ask_ok ha).1
  have h0 := ask1_leaf ha
  have h := r.lf h0
  have hp := plc_pl' (k := o) h
  have hl := h.len
  have hel := h.elen
  unfold getB getV
  rw [if_pos ha, if_pos ha]
  constructor
  · intro hm
    obtain ⟨j, hj, ej⟩ := List.mem_iff_getElem.1 hm
    rw [h.at_ j hj, Prod.mk.injEq] at ej
    rw [plc_at h.srt j (by omega) (by rw [ej.1])]
    exact ⟨rfl, by rw [if_pos rfl]; exact ej.2⟩
  · rintro ⟨hb, hv⟩
    rw [if_pos hb] at hv
    have hi := hp.eq hb
    have hj : (plc (bsOf o) n.keys).1 < (ents n).length := by omega
    have := List.getElem_mem hj
    rw [h.at_ _ hj, hv, bs_inj hi.2] at this
    exact this
theorem get_none {n : Nd} {o : ByteArray} (h : getB n o = false) : getV n o = ⟨#[]⟩ := by
  unfold getB at h
  unfold getV
  split
  · rename_i ha
    rw [if_pos ha] at h
    rw [if_neg (by rw [h]; simp)]
  · rfl
theorem get_no {n : Nd} {o : ByteArray} (h : askE n o 0 0 1 ≠ 0) : getB n o = false := if_neg h
/-- Two leaves that have the same of a key tell the same. -/
theorem get_same {a b : Nd} {o : ByteArray} (hab : askE a o 0 0 1 = askE b o 0 0 1) (hm : ∀ y, (o, y) ∈ ents a ↔ (o, y) ∈ ents b) : getB a o = getB b o ∧ getV a o = getV b o := by
  by_cases ha : askE a o 0 0 1 = 0
  · have hb : askE b o 0 0 1 = 0 := by rw [← hab]; exact ha
    cases hba : getB a o
    · have : getB b o = false := by
        cases hbb : getB b o
        · rfl
        · have := (get_mem ha _).1 ((hm _).2 ((get_mem hb _).2 ⟨hbb, rfl⟩))
          rw [hba] at this
          exact absurd this.1 (by simp)
      rw [this, get_none hba, get_none this]; exact ⟨rfl, rfl⟩
    · have := (get_mem hb _).1 ((hm _).1 ((get_mem ha _).2 ⟨hba, rfl⟩))
      exact ⟨this.1.symm, this.2.symm⟩
  · have hb : askE b o 0 0 1 ≠ 0 := by rw [← hab]; exact ha
    rw [get_none (get_no ha), get_none (get_no hb), get_no ha, get_no hb]; exact ⟨rfl, rfl⟩
/-- What was put and deleted is as if it had never been put. -/
theorem del_put {n : Nd} (h : Lf n) (k v : ByteArray) : delN (putN n k v) k = delN n k :=
  lf_ext (del_lf (put_lf h k v) k) (del_lf h k) rfl rfl rfl rfl (fun x => by
    rw [del_mem (put_lf h k v), put_mem h, del_mem h]
    constructor
    · rintro ⟨e | e, hk⟩
      · rw [e] at hk; exact absurd rfl hk
      · exact e
    · intro e; exact ⟨.inr e, e.2⟩)
theorem put_put {n : Nd} (h : Lf n) (a b v u : ByteArray) (hab : a ≠ b) : putN (putN n a v) b u = putN (putN n b u) a v :=
  lf_ext (put_lf (put_lf h a v) b u) (put_lf (put_lf h b u) a v) rfl rfl rfl rfl (fun x => by
    rw [put_mem (put_lf h a v), put_mem h, put_mem (put_lf h b u), put_mem h]
    constructor
    · rintro (e | ⟨e | e, hk⟩)
      · exact .inr ⟨.inl e, by rw [e]; exact fun h => hab h.symm⟩
      · exact .inl e
      · exact .inr ⟨.inr ⟨e.1, hk⟩, e.2⟩
    · rintro (e | ⟨e | e, hk⟩)
      · exact .inr ⟨.inl e, by rw [e]; exact hab⟩
      · exact .inl e
      · exact .inr ⟨.inr ⟨e.1, hk⟩, e.2⟩)
theorem del_del {n : Nd} (h : Lf n) (a b : ByteArray) : delN (delN n a) b = delN (delN n b) a :=
  lf_ext (del_lf (del_lf h a) b) (del_lf (del_lf h b) a) rfl rfl rfl rfl (fun x => by
    rw [del_mem (del_lf h a), del_mem h, del_mem (del_lf h b), del_mem h]
    exact ⟨fun e => ⟨⟨e.1.1, e.2⟩, e.1.2⟩, fun e => ⟨⟨e.1.1, e.2⟩, e.1.2⟩⟩)
end Go.Proofs.Ytaaedmacefiinaa
