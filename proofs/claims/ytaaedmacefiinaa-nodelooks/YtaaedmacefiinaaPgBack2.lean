
/- Entries, read back. -/
import Derived.Test.YtaaedmacefiinaaPgBack
namespace Go.Proofs.Ytaaedmacefiinaa
open Go.RowKit Crcm

/-- The bytes of c entries from the i-th on. -/
def ensR (m : Nd) : Nat → Nat → List Nat
  | _, 0 => []
  | i, c + 1 => en m i ++ ensR m (i + 1) c
theorem ens_split (m : Nd) (c : Nat) : ∀ i, ens m (i + c) = ens m i ++ ensR m i c := by
  induction c with
  | zero => intro i; simp [ensR]
  | succ c ih =>
    intro i
    rw [show i + (c + 1) = (i + 1) + c by omega, ih (i + 1), ens, ensR, List.append_assoc]
theorem ens_all (m : Nd) : ens m m.keys.length = ensR m 0 m.keys.length := by
  have := ens_split m m.keys.length 0
  simpa [ens] using this
/-- A leaf with more entries. -/
abbrev upL (n : Nd) (K V : List ByteArray) : Nd := { n with keys := n.keys ++ K, vals := n.vals ++ V }
abbrev upI (n : Nd) (K : List ByteArray) (I : List Int) : Nd := { n with keys := n.keys ++ K, kids := n.kids ++ I }
theorem getD_mid {α : Type} (a : List α) (x : α) (b : List α) (d : α) : (a ++ x :: b).getD a.length d = x := by
  rw [List.getD_eq_getElem?_getD, List.getElem?_append_right (Nat.le_refl _)]; simp
theorem upL_up (n : Nd) (k v : ByteArray) (K V : List ByteArray) : upL (upL n [k] [v]) K V = upL n (k :: K) (v :: V) := by
  simp [upL]
theorem upI_up (n : Nd) (k : ByteArray) (v : Int) (K : List ByteArray) (I : List Int) : upI (upI n [k] [v]) K I = upI n (k :: K) (v :: I) := by
  simp [upI]
theorem en_leaf (n : Nd) (h0 : n.lev = 0) (hv : n.vals.length = n.keys.length) (k v : ByteArray) (K V : List ByteArray) : en (upL n (k :: K) (v :: V)) n.keys.length = txt k ++ txt v := by
  unfold en
  rw [if_pos h0, getD_mid]
  simp only []
  rw [← hv, getD_mid]
theorem en_inner (n : Nd) (h0 : ¬ n.lev = 0) (hv : n.kids.length = n.keys.length + 1) (k : ByteArray) (v : Int) (K : List ByteArray) (I : List Int) : en (upI n (k :: K) (v :: I)) n.keys.length = txt k ++ le 4 v.toNat := by
  unfold en
  rw [if_neg h0, getD_mid]
  simp only []
  rw [← hv, getD_mid]
theorem flag_text {s : RF} {m : Int} (h : (textF s m).2.2 = false) : s.2 = false := by
  unfold textF at h; simp only [Bool.or_eq_false_iff] at h; exact h.1
theorem flag_num {s : RF} {m : Int} (h : (numF s m).2.2 = false) : s.2 = false := by
  unfold numF at h; simp only [Bool.or_eq_false_iff] at h; exact h.1
theorem entU_leaf (c : Nat) (n : Nd) (s : RF) : entL true (c + 1) (n, s) = if (textF (textF s 16).2 32).2.2 = true then (upL n [(textF s 16).1] [(textF (textF s 16).2 32).1], (textF (textF s 16).2 32).2) else entL true c (upL n [(textF s 16).1] [(textF (textF s 16).2 32).1], (textF (textF s 16).2 32).2) := by
  rw [entL, if_pos rfl]
theorem entU_inner (c : Nat) (n : Nd) (s : RF) : entL false (c + 1) (n, s) = if (numF (textF s 16).2 4).2.2 = true then (upI n [(textF s 16).1] [(numF (textF s 16).2 4).1], (numF (textF s 16).2 4).2) else entL false c (upI n [(textF s 16).1] [(numF (textF s 16).2 4).1], (numF (textF s 16).2 4).2) := by
  rw [entL, if_neg (by simp)]

theorem leaf_ok (c : Nat) : ∀ (n : Nd) (l : List Nat), octs l → n.lev = 0 → n.vals.length = n.keys.length → (entL true c (n, st l)).2.2 = false →
    ∃ K V r, entL true c (n, st l) = (upL n K V, st r) ∧ K.length = c ∧ V.length = c ∧ l = ensR (upL n K V) n.keys.length c ++ r := by
  induction c with
  | zero => intro n l _ _ _ _; exact ⟨[], [], l, by simp [entL, upL], rfl, rfl, by simp [ensR]⟩
  | succ c ih =>
    intro n l ho h0 hv h
    rw [entU_leaf] at h ⊢
    by_cases hc : (textF (textF (st l) 16).2 32).2.2 = true
    · rw [if_pos hc] at h; rw [hc] at h; cases h
    · rw [if_neg hc] at h ⊢
      have hc2 : (textF (textF (st l) 16).2 32).2.2 = false := by simpa using hc
      have hc1 := flag_text hc2
      obtain ⟨k, r1, hl, e1, _⟩ := textF_ok l ho 16 (by omega) hc1
      rw [show ((16 : Nat) : Int) = 16 from rfl] at e1
      rw [e1] at hc2 h ⊢
      have o1 : octs r1 := fun x hx => ho x (by rw [hl]; exact List.mem_append_right _ hx)
      obtain ⟨v, r2, hl2, e2, _⟩ := textF_ok r1 o1 32 (by omega) hc2
      rw [show ((32 : Nat) : Int) = 32 from rfl] at e2
      simp only [e2] at h ⊢
      have o2 : octs r2 := fun x hx => o1 x (by rw [hl2]; exact List.mem_append_right _ hx)
      obtain ⟨K, V, r, e, hK, hV, hr⟩ := ih (upL n [k] [v]) r2 o2 h0 (by simp [hv]) h
      rw [upL_up] at e hr
      refine ⟨k :: K, v :: V, r, e, by simp [hK], by simp [hV], ?_⟩
      rw [ensR, en_leaf n h0 hv, hl, hl2, hr]
      simp [upL, List.append_assoc]
theorem inner_ok (c : Nat) : ∀ (n : Nd) (l : List Nat), octs l → ¬ n.lev = 0 → n.kids.length = n.keys.length + 1 → (entL false c (n, st l)).2.2 = false →
    ∃ K I r, entL false c (n, st l) = (upI n K I, st r) ∧ K.length = c ∧ I.length = c ∧ l = ensR (upI n K I) n.keys.length c ++ r := by
  induction c with
  | zero => intro n l _ _ _ _; exact ⟨[], [], l, by simp [entL, upI], rfl, rfl, by simp [ensR]⟩
  | succ c ih =>
    intro n l ho h0 hv h
    rw [entU_inner] at h ⊢
    by_cases hc : (numF (textF (st l) 16).2 4).2.2 = true
    · rw [if_pos hc] at h; rw [hc] at h; cases h
    · rw [if_neg hc] at h ⊢
      have hc2 : (numF (textF (st l) 16).2 4).2.2 = false := by simpa using hc
      have hc1 := flag_num hc2
      obtain ⟨k, r1, hl, e1, _⟩ := textF_ok l ho 16 (by omega) hc1
      rw [show ((16 : Nat) : Int) = 16 from rfl] at e1
      rw [e1] at hc2 h ⊢
      have o1 : octs r1 := fun x hx => ho x (by rw [hl]; exact List.mem_append_right _ hx)
      obtain ⟨v, r2, hl2, e2, _, _⟩ := numF_ok r1 o1 4 (by omega) hc2
      rw [show ((4 : Nat) : Int) = 4 from rfl] at e2
      simp only [e2] at h ⊢
      have o2 : octs r2 := fun x hx => o1 x (by rw [hl2]; exact List.mem_append_right _ hx)
      obtain ⟨K, I, r, e, hK, hI, hr⟩ := ih (upI n [k] [(v : Int)]) r2 o2 h0 (by simp [hv]) h
      rw [upI_up] at e hr
      refine ⟨k :: K, (v : Int) :: I, r, e, by simp [hK], by simp [hI], ?_⟩
      rw [ensR, en_inner n h0 hv, hl, hl2, hr, Int.toNat_natCast]
      simp [upI, List.append_assoc]
theorem leaf_fwd (c : Nat) : ∀ (n : Nd) (K V : List ByteArray) (r : List Nat), n.lev = 0 → n.vals.length = n.keys.length → K.length = c → V.length = c → (∀ s ∈ K, s.size ≤ 16) → (∀ s ∈ V, s.size ≤ 32) →
    entL true c (n, st (ensR (upL n K V) n.keys.length c ++ r)) = (upL n K V, st r) := by
  induction c with
  | zero =>
    intro n K V r _ _ hK hV _ _
    rw [List.length_eq_zero_iff.1 hK, List.length_eq_zero_iff.1 hV]
    simp [entL, upL, ensR]
  | succ c ih =>
    intro n K V r h0 hv hK hV sK sV
    obtain ⟨k, K', rfl⟩ := List.exists_cons_of_length_eq_add_one hK
    obtain ⟨v, V', rfl⟩ := List.exists_cons_of_length_eq_add_one hV
    rw [ensR, en_leaf n h0 hv, entU_leaf, List.append_assoc, List.append_assoc]
    have e1 := textF_st k 16 (sK k (by simp)) (by omega) (txt v ++ (ensR (upL n (k :: K') (v :: V')) (n.keys.length + 1) c ++ r))
    rw [show ((16 : Nat) : Int) = 16 from rfl] at e1
    have e2 := textF_st v 32 (sV v (by simp)) (by omega) (ensR (upL n (k :: K') (v :: V')) (n.keys.length + 1) c ++ r)
    rw [show ((32 : Nat) : Int) = 32 from rfl] at e2
    simp only [e1, e2]
    rw [if_neg (by simp)]
    have := ih (upL n [k] [v]) K' V' r h0 (by simp [hv]) (by simpa using hK) (by simpa using hV) (fun s hs => sK s (by simp [hs])) (fun s hs => sV s (by simp [hs]))
    rw [upL_up] at this
    simpa [upL] using this
theorem inner_fwd (c : Nat) : ∀ (n : Nd) (K : List ByteArray) (I : List Int) (r : List Nat), ¬ n.lev = 0 → n.kids.length = n.keys.length + 1 → K.length = c → I.length = c → (∀ s ∈ K, s.size ≤ 16) → (∀ x ∈ I, 0 ≤ x ∧ x ≤ 4096) →
    entL false c (n, st (ensR (upI n K I) n.keys.length c ++ r)) = (upI n K I, st r) := by
  induction c with
  | zero =>
    intro n K I r _ _ hK hI _ _
    rw [List.length_eq_zero_iff.1 hK, List.length_eq_zero_iff.1 hI]
    simp [entL, upI, ensR]
  | succ c ih =>
    intro n K I r h0 hv hK hI sK sI
    obtain ⟨k, K', rfl⟩ := List.exists_cons_of_length_eq_add_one hK
    obtain ⟨v, I', rfl⟩ := List.exists_cons_of_length_eq_add_one hI
    have hvb := sI v (by simp)
    rw [ensR, en_inner n h0 hv, entU_inner, List.append_assoc, List.append_assoc]
    have e1 := textF_st k 16 (sK k (by simp)) (by omega) (le 4 v.toNat ++ (ensR (upI n (k :: K') (v :: I')) (n.keys.length + 1) c ++ r))
    rw [show ((16 : Nat) : Int) = 16 from rfl] at e1
    have e2 := numF_st 4 v.toNat (by omega) (by omega) (by omega) (ensR (upI n (k :: K') (v :: I')) (n.keys.length + 1) c ++ r)
    rw [show ((4 : Nat) : Int) = 4 from rfl, Int.toNat_of_nonneg hvb.1] at e2
    simp only [e1, e2]
    rw [if_neg (by simp)]
    have := ih (upI n [k] [v]) K' I' r h0 (by simp [hv]) (by simpa using hK) (by simpa using hI) (fun s hs => sK s (by simp [hs])) (fun s hs => sI s (by simp [hs]))
    rw [upI_up] at this
    simpa [upI] using this
end Go.Proofs.Ytaaedmacefiinaa
