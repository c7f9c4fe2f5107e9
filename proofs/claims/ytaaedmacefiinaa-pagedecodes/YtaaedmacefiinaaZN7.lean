
/- PgBack, PgBack2, PgBack3, PgBack4, NdSplit, NdSplit2, NdCut. -/
import Derived.Test.YtaaedmacefiinaaZN6
/- What the reader finds in what was written, and what it was found in. -/
namespace Go.Proofs.Ytaaedmacefiinaa
open Go.RowKit Crcm

theorem bval_le (k n : Nat) : val (le k n) = n % 256 ^ k := by
  induction k with
  | zero => simp [le, val, Nat.mod_one]
  | succ k ih =>
    rw [le, val_snoc, ih, le_length, Nat.pow_succ, Nat.mod_mul, Nat.mul_comm (256 ^ k)]
theorem ble_val (l : List Nat) (h : octs l) : le l.length (val l) = l := by
  have key : ∀ (k : Nat) (l : List Nat), l.length = k → octs l → le k (val l) = l := by
    intro k
    induction k with
    | zero => intro l hl _; rw [List.length_eq_zero_iff.1 hl]; rfl
    | succ k ih =>
      intro l hl ho
      rcases List.eq_nil_or_concat l with rfl | ⟨m, x, rfl⟩
      · simp at hl
      · rw [List.concat_eq_append] at hl ho ⊢
        have hm : m.length = k := by simpa using hl
        have om : octs m := fun y hy => ho y (List.mem_append_left _ hy)
        have hx : x < 256 := ho x (by simp)
        have hv := val_lt om
        rw [hm] at hv
        have ih' := ih m hm om
        rw [val_snoc, hm, le]
        have e1 : (val m + x * 256 ^ k) / 256 ^ k % 256 = x := by
          rw [Nat.add_mul_div_right _ _ (Nat.pow_pos (by omega)), Nat.div_eq_of_lt hv, Nat.zero_add, Nat.mod_eq_of_lt hx]
        have e2 : ∀ j, j ≤ k → le j (val m + x * 256 ^ k) = le j (val m) := by
          intro j
          induction j with
          | zero => intro _; rfl
          | succ j ihj =>
            intro hj
            rw [le, le, ihj (by omega)]
            have e3 : 256 ^ k = 256 ^ (k - j - 1) * 256 * 256 ^ j := by
              rw [← Nat.pow_succ, ← Nat.pow_add]; congr 1; omega
            have e4 : (val m + x * 256 ^ k) / 256 ^ j % 256 = val m / 256 ^ j % 256 := by
              rw [e3, ← Nat.mul_assoc, Nat.add_mul_div_right _ _ (Nat.pow_pos (by omega)), ← Nat.mul_assoc, Nat.add_mul_mod_self_right]
            rw [e4]
        rw [e1, e2 k (Nat.le_refl _), ih']
  exact key _ l rfl h
theorem bbsOf_strOf (l : List Nat) (h : octs l) : bsOf (strOf l) = l := by
  unfold bsOf strOf
  simp only [List.map_map]
  conv => rhs; rw [← List.map_id l]
  apply List.map_congr_left
  intro x hx
  have := h x hx
  simp [Function.comp]; omega
/-- A reader that goes well, with l ahead of it. -/
abbrev st (l : List Nat) : RF := ((l, 0), false)
theorem numF_st (k v : Nat) (hk : k = 1 ∨ k = 2 ∨ k = 4 ∨ k = 8) (hv : v < 256 ^ k) (hv2 : v < 9223372036854775808) (r : List Nat) : numF (st (le k v ++ r)) (k : Int) = ((v : Int), st r) := by
  have e1 : (le k v ++ r).take k = le k v := by rw [List.take_append_of_le_length (by rw [le_length]; omega), List.take_of_length_le (by rw [le_length]; omega)]
  have e2 : (le k v ++ r).drop k = r := by rw [List.drop_append_of_le_length (by rw [le_length]; omega), List.drop_eq_nil_of_le (by rw [le_length]; omega), List.nil_append]
  have h : numS (le k v ++ r, 0) (k : Int) = ((v : Int), 0, (r, 0)) := by
    unfold numS
    rw [if_neg (by omega), if_neg (by simp), if_neg (by simp [le_length]; omega), Int.toNat_natCast]
    simp only []
    rw [e1, e2, bval_le, Nat.mod_eq_of_lt hv, if_neg (by omega)]
  unfold numF st
  simp only [h]
  simp
theorem textF_st (s : ByteArray) (m : Nat) (hs : s.size ≤ m) (hm : m ≤ 65535) (r : List Nat) : textF (st (txt s ++ r)) (m : Int) = (s, st r) := by
  have hl : (txt s ++ r).length = s.size + 2 + r.length := by rw [List.length_append, txt_length]
  have e1 : (txt s ++ r).take 2 = le 2 s.size := by
    unfold txt
    rw [List.append_assoc, List.take_append_of_le_length (by rw [le_length]; omega), List.take_of_length_le (by rw [le_length]; omega)]
  have e0 : (txt s ++ r).drop 2 = bsOf s ++ r := by
    unfold txt
    rw [List.append_assoc, List.drop_append_of_le_length (by rw [le_length]; omega), List.drop_eq_nil_of_le (by rw [le_length]; omega), List.nil_append]
  have ev : val (le 2 s.size) = s.size := by rw [bval_le]; exact Nat.mod_eq_of_lt (by omega)
  have e2 : (txt s ++ r).drop (2 + s.size) = r := by
    rw [← List.drop_drop, e0, List.drop_append_of_le_length (by rw [bsOf_length]; omega), List.drop_eq_nil_of_le (by rw [bsOf_length]; omega), List.nil_append]
  have h : textS (txt s ++ r, 0) (m : Int) = (bsOf s, 0, (r, 0)) := by
    unfold textS
    simp only []
    rw [if_neg (by omega), if_neg (by simp), if_neg (by omega), e1, ev, if_neg (by omega), if_neg (by omega), e0, e2]
    rw [List.take_append_of_le_length (by rw [bsOf_length]; omega), List.take_of_length_le (by rw [bsOf_length]; omega)]
  unfold textF st
  simp only [h, strOf_bsOf]
  simp
/-- A number that was read well. -/
theorem numF_ok (l : List Nat) (ho : octs l) (k : Nat) (hk : k = 1 ∨ k = 2 ∨ k = 4 ∨ k = 8) (h : (numF (st l) (k : Int)).2.2 = false) : ∃ v r, l = le k v ++ r ∧ numF (st l) (k : Int) = ((v : Int), st r) ∧ v < 256 ^ k ∧ v < 9223372036854775808 := by
  have h0 : (numS (l, 0) (k : Int)).2.1 = 0 := by
    unfold numF at h
    simpa using h
  unfold numS at h0
  simp only [Int.toNat_natCast] at h0
  rw [if_neg (by omega), if_neg (by simp)] at h0
  by_cases h1 : ((l.length : Int) < (k : Int))
  · rw [if_pos h1] at h0; simp at h0
  · rw [if_neg h1] at h0
    by_cases h2 : 9223372036854775808 ≤ val (l.take k)
    · rw [if_pos h2] at h0; simp at h0
    · have hlk : (l.take k).length = k := by rw [List.length_take]; omega
      have ot := octs_take ho k
      have hv := val_lt ot
      rw [hlk] at hv
      have hle := ble_val _ ot
      rw [hlk] at hle
      have hl : l = le k (val (l.take k)) ++ l.drop k := by rw [hle, List.take_append_drop]
      refine ⟨val (l.take k), l.drop k, hl, ?_, hv, by omega⟩
      have := numF_st k (val (l.take k)) hk hv (by omega) (l.drop k)
      rw [← hl] at this
      exact this
/-- A text that was read well. -/
theorem textF_ok (l : List Nat) (ho : octs l) (m : Nat) (hm : m ≤ 65535) (h : (textF (st l) (m : Int)).2.2 = false) : ∃ s r, l = txt s ++ r ∧ textF (st l) (m : Int) = (s, st r) ∧ s.size ≤ m := by
  have h0 : (textS (l, 0) (m : Int)).2.1 = 0 := by
    unfold textF at h
    simpa using h
  unfold textS at h0
  simp only [] at h0
  rw [if_neg (by omega), if_neg (by simp)] at h0
  by_cases h1 : l.length < 2
  · rw [if_pos h1] at h0; simp at h0
  · rw [if_neg h1] at h0
    by_cases h2 : l.length < 2 + val (l.take 2)
    · rw [if_pos h2] at h0; simp at h0
    · rw [if_neg h2] at h0
      by_cases h3 : (m : Int) < (val (l.take 2) : Int)
      · rw [if_pos h3] at h0; simp at h0
      · obtain ⟨z, hz⟩ : ∃ z, z = val (l.take 2) := ⟨_, rfl⟩
        rw [← hz] at h2 h3
        have ot := octs_take ho 2
        have hle := ble_val _ ot
        rw [show (l.take 2).length = 2 by rw [List.length_take]; omega, ← hz] at hle
        have od : octs ((l.drop 2).take z) := octs_take (fun x hx => ho x (List.mem_of_mem_drop hx)) z
        have hsz : (strOf ((l.drop 2).take z)).size = z := by rw [strOf_size', List.length_take, List.length_drop]; omega
        have hl : l = txt (strOf ((l.drop 2).take z)) ++ (l.drop 2).drop z := by
          unfold txt
          rw [hsz, bbsOf_strOf _ od, List.append_assoc, List.take_append_drop, hle, List.take_append_drop]
        refine ⟨strOf ((l.drop 2).take z), (l.drop 2).drop z, hl, ?_, by omega⟩
        have := textF_st (strOf ((l.drop 2).take z)) m (by omega) hm ((l.drop 2).drop z)
        rw [← hl] at this
        exact this
end Go.Proofs.Ytaaedmacefiinaa

/- Entries, read back. -/
namespace Go.Proofs.Ytaaedmacefiinaa
open Go.RowKit Crcm

/-- The bytes of c entries from the i-th on. -/
def ensR (m : Nd) : Nat → Nat → List Nat
  | _, 0 => []
  | i, c + 1 => en m i ++ ensR m (i + 1) c
theorem ens_split (m : Nd) (c : Nat) : ∀ i, ens m (i + c) = ens m i ++ ensR m i c := by
  induction c with
  | zero => intro i; simp [ensR]
  | succ c ih =>
    intro i
    rw [show i + (c + 1) = (i + 1) + c by omega, ih (i + 1), ens, ensR, List.append_assoc]
theorem ens_all (m : Nd) : ens m m.keys.length = ensR m 0 m.keys.length := by
  have := ens_split m m.keys.length 0
  simpa [ens] using this
/-- A leaf with more entries. -/
abbrev upL (n : Nd) (K V : List ByteArray) : Nd := { n with keys := n.keys ++ K, vals := n.vals ++ V }
abbrev upI (n : Nd) (K : List ByteArray) (I : List Int) : Nd := { n with keys := n.keys ++ K, kids := n.kids ++ I }
theorem getD_mid {α : Type} (a : List α) (x : α) (b : List α) (d : α) : (a ++ x :: b).getD a.length d = x := by
  rw [List.getD_eq_getElem?_getD, List.getElem?_append_right (Nat.le_refl _)]; simp
theorem upL_up (n : Nd) (k v : ByteArray) (K V : List ByteArray) : upL (upL n [k] [v]) K V = upL n (k :: K) (v :: V) := by
  simp [upL]
theorem upI_up (n : Nd) (k : ByteArray) (v : Int) (K : List ByteArray) (I : List Int) : upI (upI n [k] [v]) K I = upI n (k :: K) (v :: I) := by
  simp [upI]
theorem en_leaf (n : Nd) (h0 : n.lev = 0) (hv : n.vals.length = n.keys.length) (k v : ByteArray) (K V : List ByteArray) : en (upL n (k :: K) (v :: V)) n.keys.length = txt k ++ txt v := by
  unfold en
  rw [if_pos h0, getD_mid]
  simp only []
  rw [← hv, getD_mid]
theorem en_inner (n : Nd) (h0 : ¬ n.lev = 0) (hv : n.kids.length = n.keys.length + 1) (k : ByteArray) (v : Int) (K : List ByteArray) (I : List Int) : en (upI n (k :: K) (v :: I)) n.keys.length = txt k ++ le 4 v.toNat := by
  unfold en
  rw [if_neg h0, getD_mid]
  simp only []
  rw [← hv, getD_mid]
theorem flag_text {s : RF} {m : Int} (h : (textF s m).2.2 = false) : s.2 = false := by
  unfold textF at h; simp only [Bool.or_eq_false_iff] at h; exact h.1
theorem flag_num {s : RF} {m : Int} (h : (numF s m).2.2 = false) : s.2 = false := by
  unfold numF at h; simp only [Bool.or_eq_false_iff] at h; exact h.1
theorem entU_leaf (c : Nat) (n : Nd) (s : RF) : entL true (c + 1) (n, s) = if (textF (textF s 16).2 32).2.2 = true then (upL n [(textF s 16).1] [(textF (textF s 16).2 32).1], (textF (textF s 16).2 32).2) else entL true c (upL n [(textF s 16).1] [(textF (textF s 16).2 32).1], (textF (textF s 16).2 32).2) := by
  rw [entL, if_pos rfl]
theorem entU_inner (c : Nat) (n : Nd) (s : RF) : entL false (c + 1) (n, s) = if (numF (textF s 16).2 4).2.2 = true then (upI n [(textF s 16).1] [(numF (textF s 16).2 4).1], (numF (textF s 16).2 4).2) else entL false c (upI n [(textF s 16).1] [(numF (textF s 16).2 4).1], (numF (textF s 16).2 4).2) := by
  rw [entL, if_neg (by simp)]

theorem leaf_ok (c : Nat) : ∀ (n : Nd) (l : List Nat), octs l → n.lev = 0 → n.vals.length = n.keys.length → (entL true c (n, st l)).2.2 = false →
    ∃ K V r, entL true c (n, st l) = (upL n K V, st r) ∧ K.length = c ∧ V.length = c ∧ l = ensR (upL n K V) n.keys.length c ++ r := by
  induction c with
  | zero => intro n l _ _ _ _; exact ⟨[], [], l, by simp [entL, upL], rfl, rfl, by simp [ensR]⟩
  | succ c ih =>
    intro n l ho h0 hv h
    rw [entU_leaf] at h ⊢
    by_cases hc : (textF (textF (st l) 16).2 32).2.2 = true
    · rw [if_pos hc] at h; rw [hc] at h; cases h
    · rw [if_neg hc] at h ⊢
      have hc2 : (textF (textF (st l) 16).2 32).2.2 = false := by simpa using hc
      have hc1 := flag_text hc2
      obtain ⟨k, r1, hl, e1, _⟩ := textF_ok l ho 16 (by omega) hc1
      rw [show ((16 : Nat) : Int) = 16 from rfl] at e1
      rw [e1] at hc2 h ⊢
      have o1 : octs r1 := fun x hx => ho x (by rw [hl]; exact List.mem_append_right _ hx)
      obtain ⟨v, r2, hl2, e2, _⟩ := textF_ok r1 o1 32 (by omega) hc2
      rw [show ((32 : Nat) : Int) = 32 from rfl] at e2
      simp only [e2] at h ⊢
      have o2 : octs r2 := fun x hx => o1 x (by rw [hl2]; exact List.mem_append_right _ hx)
      obtain ⟨K, V, r, e, hK, hV, hr⟩ := ih (upL n [k] [v]) r2 o2 h0 (by simp [hv]) h
      rw [upL_up] at e hr
      refine ⟨k :: K, v :: V, r, e, by simp [hK], by simp [hV], ?_⟩
      rw [ensR, en_leaf n h0 hv, hl, hl2, hr]
      simp [upL, List.append_assoc]
theorem inner_ok (c : Nat) : ∀ (n : Nd) (l : List Nat), octs l → ¬ n.lev = 0 → n.kids.length = n.keys.length + 1 → (entL false c (n, st l)).2.2 = false →
    ∃ K I r, entL false c (n, st l) = (upI n K I, st r) ∧ K.length = c ∧ I.length = c ∧ l = ensR (upI n K I) n.keys.length c ++ r := by
  induction c with
  | zero => intro n l _ _ _ _; exact ⟨[], [], l, by simp [entL, upI], rfl, rfl, by simp [ensR]⟩
  | succ c ih =>
    intro n l ho h0 hv h
    rw [entU_inner] at h ⊢
    by_cases hc : (numF (textF (st l) 16).2 4).2.2 = true
    · rw [if_pos hc] at h; rw [hc] at h; cases h
    · rw [if_neg hc] at h ⊢
      have hc2 : (numF (textF (st l) 16).2 4).2.2 = false := by simpa using hc
      have hc1 := flag_num hc2
      obtain ⟨k, r1, hl, e1, _⟩ := textF_ok l ho 16 (by omega) hc1
      rw [show ((16 : Nat) : Int) = 16 from rfl] at e1
      rw [e1] at hc2 h ⊢
      have o1 : octs r1 := fun x hx => ho x (by rw [hl]; exact List.mem_append_right _ hx)
      obtain ⟨v, r2, hl2, e2, _, _⟩ := numF_ok r1 o1 4 (by omega) hc2
      rw [show ((4 : Nat) : Int) = 4 from rfl] at e2
      simp only [e2] at h ⊢
      have o2 : octs r2 := fun x hx => o1 x (by rw [hl2]; exact List.mem_append_right _ hx)
      obtain ⟨K, I, r, e, hK, hI, hr⟩ := ih (upI n [k] [(v : Int)]) r2 o2 h0 (by simp [hv]) h
      rw [upI_up] at e hr
      refine ⟨k :: K, (v : Int) :: I, r, e, by simp [hK], by simp [hI], ?_⟩
      rw [ensR, en_inner n h0 hv, hl, hl2, hr, Int.toNat_natCast]
      simp [upI, List.append_assoc]
theorem leaf_fwd (c : Nat) : ∀ (n : Nd) (K V : List ByteArray) (r : List Nat), n.lev = 0 → n.vals.length = n.keys.length → K.length = c → V.length = c → (∀ s ∈ K, s.size ≤ 16) → (∀ s ∈ V, s.size ≤ 32) →
    entL true c (n, st (ensR (upL n K V) n.keys.length c ++ r)) = (upL n K V, st r) := by
  induction c with
  | zero =>
    intro n K V r _ _ hK hV _ _
    rw [List.length_eq_zero_iff.1 hK, List.length_eq_zero_iff.1 hV]
    simp [entL, upL, ensR]
  | succ c ih =>
    intro n K V r h0 hv hK hV sK sV
    obtain ⟨k, K', rfl⟩ := List.exists_cons_of_length_eq_add_one hK
    obtain ⟨v, V', rfl⟩ := List.exists_cons_of_length_eq_add_one hV
    rw [ensR, en_leaf n h0 hv, entU_leaf, List.append_assoc, List.append_assoc]
    have e1 := textF_st k 16 (sK k (by simp)) (by omega) (txt v ++ (ensR (upL n (k :: K') (v :: V')) (n.keys.length + 1) c ++ r))
    rw [show ((16 : Nat) : Int) = 16 from rfl] at e1
    have e2 := textF_st v 32 (sV v (by simp)) (by omega) (ensR (upL n (k :: K') (v :: V')) (n.keys.length + 1) c ++ r)
    rw [show ((32 : Nat) : Int) = 32 from rfl] at e2
    simp only [e1, e2]
    rw [if_neg (by simp)]
    have := ih (upL n [k] [v]) K' V' r h0 (by simp [hv]) (by simpa using hK) (by simpa using hV) (fun s hs => sK s (by simp [hs])) (fun s hs => sV s (by simp [hs]))
    rw [upL_up] at this
    simpa [upL] using this
theorem inner_fwd (c : Nat) : ∀ (n : Nd) (K : List ByteArray) (I : List Int) (r : List Nat), ¬ n.lev = 0 → n.kids.length = n.keys.length + 1 → K.length = c → I.length = c → (∀ s ∈ K, s.size ≤ 16) → (∀ x ∈ I, 0 ≤ x ∧ x ≤ 4096) →
    entL false c (n, st (ensR (upI n K I) n.keys.length c ++ r)) = (upI n K I, st r) := by
  induction c with
  | zero =>
    intro n K I r _ _ hK hI _ _
    rw [List.length_eq_zero_iff.1 hK, List.length_eq_zero_iff.1 hI]
    simp [entL, upI, ensR]
  | succ c ih =>
    intro n K I r h0 hv hK hI sK sI
    obtain ⟨k, K', rfl⟩ := List.exists_cons_of_length_eq_add_one hK
    obtain ⟨v, I', rfl⟩ := List.exists_cons_of_length_eq_add_one hI
    have hvb := sI v (by simp)
    rw [ensR, en_inner n h0 hv, entU_inner, List.append_assoc, List.append_assoc]
    have e1 := textF_st k 16 (sK k (by simp)) (by omega) (le 4 v.toNat ++ (ensR (upI n (k :: K') (v :: I')) (n.keys.length + 1) c ++ r))
    rw [show ((16 : Nat) : Int) = 16 from rfl] at e1
    have e2 := numF_st 4 v.toNat (by omega) (by omega) (by omega) (ensR (upI n (k :: K') (v :: I')) (n.keys.length + 1) c ++ r)
    rw [show ((4 : Nat) : Int) = 4 from rfl, Int.toNat_of_nonneg hvb.1] at e2
    simp only [e1, e2]
    rw [if_neg (by simp)]
    have := ih (upI n [k] [v]) K' I' r h0 (by simp [hv]) (by simpa using hK) (by simpa using hI) (fun s hs => sK s (by simp [hs])) (fun s hs => sI s (by simp [hs]))
    rw [upI_up] at this
    simpa [upI] using this
end Go.Proofs.Ytaaedmacefiinaa

/- Nodes and pages, read back. -/
namespace Go.Proofs.Ytaaedmacefiinaa
open Go.RowKit Crcm

theorem entL_flag (leaf : Bool) (c : Nat) : ∀ x : Nd × RF, (entL leaf c x).2.2 = false → x.2.2 = false := by
  induction c with
  | zero => intro x h; exact h
  | succ c ih =>
    rintro ⟨n, s⟩ h
    cases leaf
    · rw [entU_inner] at h
      by_cases hc : (numF (textF s 16).2 4).2.2 = true
      · rw [if_pos hc] at h; rw [hc] at h; cases h
      · exact flag_text (flag_num (by simpa using hc))
    · rw [entU_leaf] at h
      by_cases hc : (textF (textF s 16).2 32).2.2 = true
      · rw [if_pos hc] at h; rw [hc] at h; cases h
      · exact flag_text (flag_text (by simpa using hc))
theorem octs_right {a b l : List Nat} (h : octs l) (e : l = a ++ b) : octs b := fun x hx => h x (by rw [e]; exact List.mem_append_right _ hx)

theorem nodeF_eq (s : RF) {y1 y2 y3 y4 : Int × RF} {y5 : ByteArray × RF} (h1 : numF s 1 = y1) (h2 : numF y1.2 8 = y2) (h3 : numF y2.2 4 = y3) (h4 : numF y3.2 2 = y4) (h5 : textF y4.2 16 = y5) :
    nodeF s = if y1.1 = 0 then entL true y4.1.toNat (⟨y1.1, y2.1, y3.1, y5.1, [], [], []⟩, y5.2) else entL false y4.1.toNat (⟨y1.1, y2.1, y3.1, y5.1, [], [], [(numF y5.2 4).1]⟩, (numF y5.2 4).2) := by
  subst h1; subst h2; subst h3; subst h4; subst h5; rfl
theorem node_ok (l : List Nat) (ho : octs l) (h : (nodeF (st l)).2.2 = false) : ∃ m r, nodeF (st l) = (m, st r) ∧ l = nb m ++ r := by
  obtain ⟨y1, h1⟩ : ∃ y, numF (st l) 1 = y := ⟨_, rfl⟩
  obtain ⟨y2, h2⟩ : ∃ y, numF y1.2 8 = y := ⟨_, rfl⟩
  obtain ⟨y3, h3⟩ : ∃ y, numF y2.2 4 = y := ⟨_, rfl⟩
  obtain ⟨y4, h4⟩ : ∃ y, numF y3.2 2 = y := ⟨_, rfl⟩
  obtain ⟨y5, h5⟩ : ∃ y, textF y4.2 16 = y := ⟨_, rfl⟩
  have hn := nodeF_eq (st l) h1 h2 h3 h4 h5
  have g5 : y5.2.2 = false := by
    rw [hn] at h
    by_cases h0 : y1.1 = 0
    · rw [if_pos h0] at h; exact entL_flag _ _ _ h
    · rw [if_neg h0] at h; exact flag_num (entL_flag _ _ _ h)
  have g4 : y4.2.2 = false := flag_text (by rw [h5]; exact g5)
  have g3 : y3.2.2 = false := flag_num (by rw [h4]; exact g4)
  have g2 : y2.2.2 = false := flag_num (by rw [h3]; exact g3)
  have g1 : y1.2.2 = false := flag_num (by rw [h2]; exact g2)
  obtain ⟨v1, l1, e1, q1, _, _⟩ := numF_ok l ho 1 (by omega) (by rw [show ((1 : Nat) : Int) = 1 from rfl, h1]; exact g1)
  rw [show ((1 : Nat) : Int) = 1 from rfl, h1] at q1
  subst q1
  have o1 := octs_right ho e1
  obtain ⟨v2, l2, e2, q2, _, _⟩ := numF_ok l1 o1 8 (by omega) (by rw [show ((8 : Nat) : Int) = 8 from rfl, h2]; exact g2)
  rw [show ((8 : Nat) : Int) = 8 from rfl, h2] at q2
  subst q2
  have o2 := octs_right o1 e2
  obtain ⟨v3, l3, e3, q3, _, _⟩ := numF_ok l2 o2 4 (by omega) (by rw [show ((4 : Nat) : Int) = 4 from rfl, h3]; exact g3)
  rw [show ((4 : Nat) : Int) = 4 from rfl, h3] at q3
  subst q3
  have o3 := octs_right o2 e3
  obtain ⟨v4, l4, e4, q4, _, _⟩ := numF_ok l3 o3 2 (by omega) (by rw [show ((2 : Nat) : Int) = 2 from rfl, h4]; exact g4)
  rw [show ((2 : Nat) : Int) = 2 from rfl, h4] at q4
  subst q4
  have o4 := octs_right o3 e4
  obtain ⟨hi, l5, e5, q5, _⟩ := textF_ok l4 o4 16 (by omega) (by rw [show ((16 : Nat) : Int) = 16 from rfl, h5]; exact g5)
  rw [show ((16 : Nat) : Int) = 16 from rfl, h5] at q5
  subst q5
  have o5 := octs_right o4 e5
  simp only [Int.toNat_natCast] at hn
  rw [hn] at h ⊢
  by_cases h0 : (v1 : Int) = 0
  · rw [if_pos h0] at h ⊢
    obtain ⟨K, V, r, e, hK, hV, hr⟩ := leaf_ok v4 ⟨v1, v2, v3, hi, [], [], []⟩ l5 o5 h0 rfl h
    refine ⟨_, r, e, ?_⟩
    unfold nb hd
    rw [if_pos h0, ens_all]
    simp only [upL, List.nil_append, hK, Int.toNat_natCast, List.append_nil]
    simp only [upL, List.nil_append, List.length_nil] at hr
    rw [e1, e2, e3, e4, e5]
    conv => lhs; rw [hr]
    simp only [List.append_assoc]
  · rw [if_neg h0] at h ⊢
    have g6 := entL_flag _ _ _ h
    obtain ⟨v6, l6, e6, q6, _, _⟩ := numF_ok l5 o5 4 (by omega) g6
    rw [show ((4 : Nat) : Int) = 4 from rfl] at q6
    simp only [q6] at h ⊢
    have o6 := octs_right o5 e6
    obtain ⟨K, I, r, e, hK, hI, hr⟩ := inner_ok v4 ⟨v1, v2, v3, hi, [], [], [(v6 : Int)]⟩ l6 o6 h0 rfl h
    refine ⟨_, r, e, ?_⟩
    unfold nb hd
    rw [if_neg h0, ens_all]
    simp only [upI, List.nil_append, hK, Int.toNat_natCast, List.cons_append, List.getD_cons_zero]
    simp only [upI, List.nil_append, List.length_nil, List.cons_append] at hr
    rw [e1, e2, e3, e4, e5, e6]
    conv => lhs; rw [hr]
    simp only [List.append_assoc]
end Go.Proofs.Ytaaedmacefiinaa

/- Pages there and back. -/
namespace Go.Proofs.Ytaaedmacefiinaa
open Go.RowKit Crcm

theorem size_of_mem {l : List ByteArray} {m : Nat} (h : ∀ i, i < l.length → (l.getD i ByteArray.empty).size ≤ m) : ∀ s ∈ l, s.size ≤ m := all_of h
theorem kid_of_mem {l : List Int} (h : ∀ i, i < l.length → 1 ≤ l.getD i 0 ∧ l.getD i 0 ≤ 4096) : ∀ x ∈ l, 0 ≤ x ∧ x ≤ 4096 := by
  intro x hx
  obtain ⟨i, hi, he⟩ := List.getElem_of_mem hx
  have := h i hi
  rw [List.getD_eq_getElem?_getD, List.getElem?_eq_getElem hi] at this
  simp only [Option.getD_some] at this
  rw [he] at this; omega
theorem keys_few {n : Nd} (r : Rt n) : n.keys.length < 65536 := by
  have h1 := r.size
  have h2 : n.keys.length ≤ tsz n.keys := by
    generalize n.keys = l
    induction l with
    | nil => simp
    | cons x t ih => simp only [tsz, List.map_cons, List.sum_cons, List.length_cons] at ih ⊢; omega
  unfold sizeN at h1
  omega
theorem node_fwd (n : Nd) (r : Rt n) (z : List Nat) : nodeF (st (nb n ++ z)) = (n, st z) := by
  have hfew := keys_few r
  have a1 := r.lev0
  have a2 := r.lev1
  have a3 := r.lsn0
  have a4 := r.lsn1
  have a5 := r.rgt0
  have a6 := r.rgt1
  have a7 := r.high
  have hk := size_of_mem (fun i hi => (r.keys i hi).1.2)
  obtain ⟨lev, lsn, rgt, hi, keys, vals, kids⟩ := n
  simp only [] at hfew a1 a2 a3 a4 a5 a6 a7 hk
  obtain ⟨v1, rfl⟩ := Int.eq_ofNat_of_zero_le a1
  obtain ⟨v2, rfl⟩ := Int.eq_ofNat_of_zero_le a3
  obtain ⟨v3, rfl⟩ := Int.eq_ofNat_of_zero_le a5
  by_cases h0 : (v1 : Int) = 0
  · obtain ⟨hv, hkd, hx⟩ := r.leaf h0
    have hxs := size_of_mem hx
    simp only [] at hv hkd hxs
    have ek : kids = [] := List.length_eq_zero_iff.1 hkd
    subst ek
    have en0 : nb ⟨v1, v2, v3, hi, keys, vals, []⟩ ++ z = le 1 v1 ++ (le 8 v2 ++ (le 4 v3 ++ (le 2 keys.length ++ (txt hi ++ (ensR ⟨v1, v2, v3, hi, keys, vals, []⟩ 0 keys.length ++ z))))) := by
      unfold nb hd
      rw [if_pos h0, ens_all]
      simp only [Int.toNat_natCast, List.append_nil, List.append_assoc]
    rw [en0]
    have b1 := numF_st 1 v1 (by omega) (by omega) (by omega) (le 8 v2 ++ (le 4 v3 ++ (le 2 keys.length ++ (txt hi ++ (ensR ⟨v1, v2, v3, hi, keys, vals, []⟩ 0 keys.length ++ z)))))
    have b2 := numF_st 8 v2 (by omega) (by omega) (by omega) (le 4 v3 ++ (le 2 keys.length ++ (txt hi ++ (ensR ⟨v1, v2, v3, hi, keys, vals, []⟩ 0 keys.length ++ z))))
    have b3 := numF_st 4 v3 (by omega) (by omega) (by omega) (le 2 keys.length ++ (txt hi ++ (ensR ⟨v1, v2, v3, hi, keys, vals, []⟩ 0 keys.length ++ z)))
    have b4 := numF_st 2 keys.length (by omega) (by omega) (by omega) (txt hi ++ (ensR ⟨v1, v2, v3, hi, keys, vals, []⟩ 0 keys.length ++ z))
    have b5 := textF_st hi 16 a7 (by omega) (ensR ⟨v1, v2, v3, hi, keys, vals, []⟩ 0 keys.length ++ z)
    rw [nodeF_eq _ b1 b2 b3 b4 b5, if_pos h0, Int.toNat_natCast]
    have := leaf_fwd keys.length ⟨v1, v2, v3, hi, [], [], []⟩ keys vals z h0 rfl rfl hv hk hxs
    simpa [upL] using this
  · obtain ⟨hv, hkd, hx⟩ := r.inner h0
    have hxs := kid_of_mem hx
    simp only [] at hv hkd hxs
    have ek : vals = [] := List.length_eq_zero_iff.1 hkd
    subst ek
    obtain ⟨v, I, rfl⟩ := List.exists_cons_of_length_eq_add_one hv
    have hvb := hxs v (by simp)
    obtain ⟨v6, rfl⟩ := Int.eq_ofNat_of_zero_le hvb.1
    have en0 : nb ⟨v1, v2, v3, hi, keys, [], (v6 : Int) :: I⟩ ++ z = le 1 v1 ++ (le 8 v2 ++ (le 4 v3 ++ (le 2 keys.length ++ (txt hi ++ (le 4 v6 ++ (ensR ⟨v1, v2, v3, hi, keys, [], (v6 : Int) :: I⟩ 0 keys.length ++ z)))))) := by
      unfold nb hd
      rw [if_neg h0, ens_all]
      simp only [Int.toNat_natCast, List.append_assoc, List.getD_cons_zero]
    rw [en0]
    have b1 := numF_st 1 v1 (by omega) (by omega) (by omega) (le 8 v2 ++ (le 4 v3 ++ (le 2 keys.length ++ (txt hi ++ (le 4 v6 ++ (ensR ⟨v1, v2, v3, hi, keys, [], (v6 : Int) :: I⟩ 0 keys.length ++ z))))))
    have b2 := numF_st 8 v2 (by omega) (by omega) (by omega) (le 4 v3 ++ (le 2 keys.length ++ (txt hi ++ (le 4 v6 ++ (ensR ⟨v1, v2, v3, hi, keys, [], (v6 : Int) :: I⟩ 0 keys.length ++ z)))))
    have b3 := numF_st 4 v3 (by omega) (by omega) (by omega) (le 2 keys.length ++ (txt hi ++ (le 4 v6 ++ (ensR ⟨v1, v2, v3, hi, keys, [], (v6 : Int) :: I⟩ 0 keys.length ++ z))))
    have b4 := numF_st 2 keys.length (by omega) (by omega) (by omega) (txt hi ++ (le 4 v6 ++ (ensR ⟨v1, v2, v3, hi, keys, [], (v6 : Int) :: I⟩ 0 keys.length ++ z)))
    have b5 := textF_st hi 16 a7 (by omega) (le 4 v6 ++ (ensR ⟨v1, v2, v3, hi, keys, [], (v6 : Int) :: I⟩ 0 keys.length ++ z))
    have b6 := numF_st 4 v6 (by omega) (by omega) (by omega) (ensR ⟨v1, v2, v3, hi, keys, [], (v6 : Int) :: I⟩ 0 keys.length ++ z)
    rw [show ((4 : Nat) : Int) = 4 from rfl] at b6
    rw [nodeF_eq _ b1 b2 b3 b4 b5, if_neg h0, Int.toNat_natCast]
    simp only [b6]
    have := inner_fwd keys.length ⟨v1, v2, v3, hi, [], [], [(v6 : Int)]⟩ keys I z h0 rfl rfl (by simpa using hv) hk (fun x hx => hxs x (by simp [hx]))
    simpa [upI] using this
theorem zeros_all {l : List Nat} (h : zerosB l = true) : l = List.replicate l.length 0 := by
  unfold zerosB at h
  rw [List.all_eq_true] at h
  rw [List.eq_replicate_iff]
  exact ⟨rfl, fun x hx => by simpa using h x hx⟩
theorem zeros_rep (k : Nat) : zerosB (List.replicate k 0) = true := by
  unfold zerosB; rw [List.all_eq_true]; intro x hx; rw [(List.mem_replicate.1 hx).2]; rfl
/-- A right node's page is read back as it. -/
theorem dec_pg (n : Nd) (r : Rt n) (hnb : (nb n).length ≤ 252) : decF (pg n) = some n := by
  have hp := pad_length hnb
  have h4 := le_length 4 (crc (pad (nb n)))
  have hl : (pg n).length = 256 := by unfold pg; rw [List.length_append, hp, h4]
  have ht : (pg n).take 252 = pad (nb n) := by unfold pg; rw [List.take_append_of_le_length (by omega), List.take_of_length_le (by omega)]
  have hd : (pg n).drop 252 = le 4 (crc (pad (nb n))) := by unfold pg; rw [List.drop_append_of_le_length (by omega), List.drop_eq_nil_of_le (by omega), List.nil_append]
  have hop : opened (pg n) = (pad (nb n), 0) := by
    unfold opened
    rw [if_neg (by omega), hl]
    simp only [ht, hd]
    rw [le_le4, val_le4 _ (crc_lt (pad_octs (nb_octs n))), if_pos rfl]
  have hnf := node_fwd n r (List.replicate (252 - (nb n).length) 0)
  have hnf2 : nodeF ((pad (nb n), 0), false) = (n, st (List.replicate (252 - (nb n).length) 0)) := hnf
  unfold decF
  rw [hop]
  simp only [hnf2]
  rw [if_pos]
  refine ⟨hl, trivial, trivial, ?_, (right_iff n).2 r⟩
  rw [List.length_replicate, show 252 - (252 - (nb n).length) = (nb n).length by omega]
  unfold pad
  rw [List.drop_append_of_le_length (Nat.le_refl _), List.drop_eq_nil_of_le (Nat.le_refl _), List.nil_append]
  exact zeros_rep _
/-- What is read is the page of a right node. -/
theorem dec_some (l : List Nat) (ho : octs l) (n : Nd) (h : decF l = some n) : Rt n ∧ l = pg n := by
  unfold decF at h
  by_cases hc : l.length = 256 ∧ (opened l).2 = 0 ∧ (nodeF (((opened l).1, 0), false)).2.2 = false ∧ zerosB ((opened l).1.drop (252 - (nodeF (((opened l).1, 0), false)).2.1.1.length)) = true ∧ rightB (nodeF (((opened l).1, 0), false)).1 = true
  · rw [if_pos hc] at h
    obtain ⟨h1, h2, h3, h4, h5⟩ := hc
    have hv : val (l.drop 252) = crc (l.take 252) := by
      unfold opened at h2
      rw [if_neg (by omega), h1] at h2
      by_cases hv : val (l.drop 252) = crc (l.take 252)
      · exact hv
      · simp [hv] at h2
    have hop : opened l = (l.take 252, 0) := by
      unfold opened
      rw [if_neg (by omega), h1]
      simp only [hv, if_true]
    rw [hop] at h h3 h4 h5
    simp only [] at h h3 h4 h5
    obtain ⟨m, r, e, hl⟩ := node_ok (l.take 252) (octs_take ho 252) h3
    have e' : nodeF ((l.take 252, 0), false) = (m, st r) := e
    rw [e'] at h h4 h5
    simp only [Option.some.injEq] at h h4 h5
    subst h
    have hlen : (nb m).length + r.length = 252 := by
      have := congrArg List.length hl
      rw [List.length_take, h1, List.length_append] at this; omega
    have hr : (l.take 252).drop (252 - r.length) = r := by
      rw [hl, show 252 - r.length = (nb m).length by omega, List.drop_append_of_le_length (Nat.le_refl _), List.drop_eq_nil_of_le (Nat.le_refl _), List.nil_append]
    rw [hr] at h4
    have hz := zeros_all h4
    have hpad : l.take 252 = pad (nb m) := by
      unfold pad
      rw [hl, show 252 - (nb m).length = r.length by omega, ← hz]
    refine ⟨(right_iff m).1 h5, ?_⟩
    have hd4 : (l.drop 252).length = 4 := by rw [List.length_drop]; omega
    have hdr := ble_val (l.drop 252) (fun x hx => ho x (List.mem_of_mem_drop hx))
    rw [hd4, hv, hpad] at hdr
    unfold pg
    rw [hdr, ← hpad, List.take_append_drop]
  · rw [if_neg hc] at h; cases h
theorem decode_good (a : Option Addr) (cap : Nat) (l : List Nat) (hl : l.length = 256) (w : World) (hr : Row w a cap l) (n : Nd) (hd : decF l = some n) :
    Calls Try.prog 15 #[.slice a 256 cap] w fun e w' => ∃ p3 : Pt, e = .returned (.tuple #[(.agg #[.int .i64 n.lev, .int .i64 n.lsn, .int .i64 n.rgt, .string n.high, .slice p3.k n.keys.length p3.kc, .slice p3.v n.vals.length p3.vc, .slice p3.i n.kids.length p3.ic]), .int .i64 0]) ∧ Nod w' n p3 ∧ Fr (fun _ => False) w w' := by
  have h := decode_256 a cap l hl w hr
  unfold DecOut at h
  rw [hd] at h
  exact h
theorem decode_all (a : Option Addr) (k cap : Nat) (l : List Nat) (hk : k = l.length) (w : World) (hr : Row w a cap l) :
    Calls Try.prog 15 #[.slice a k cap] w fun e w' => ∃ p3 : Pt, e = .returned (.tuple #[(.agg #[.int .i64 ((decF l).getD zn).lev, .int .i64 ((decF l).getD zn).lsn, .int .i64 ((decF l).getD zn).rgt, .string ((decF l).getD zn).high, .slice p3.k ((decF l).getD zn).keys.length p3.kc, .slice p3.v ((decF l).getD zn).vals.length p3.vc, .slice p3.i ((decF l).getD zn).kids.length p3.ic]), .int .i64 (if (decF l).isSome = true then 0 else 60)]) ∧ Nod w' ((decF l).getD zn) p3 ∧ Fr (fun _ => False) w w' := by
  by_cases h : l.length = 256
  · have := decode_256 a cap l h w hr
    rw [hk, h]; exact this
  · exact decode_len a k cap l hk h w
end Go.Proofs.Ytaaedmacefiinaa

/- Where a node is parted: what Split tells. -/
namespace Go.Proofs.Ytaaedmacefiinaa
open Go.RowKit

/-- An entry's size, and that of the first entries. -/
def esz (n : Nd) (i : Nat) : Nat := if n.lev = 0 then 4 + (n.keys.getD i ByteArray.empty).size + (n.vals.getD i ByteArray.empty).size else 6 + (n.keys.getD i ByteArray.empty).size
def pre (n : Nd) : Nat → Nat
  | 0 => 0
  | j + 1 => pre n j + esz n j
theorem esz_le {n : Nd} (r : Rt n) (i : Nat) (hi : i < n.keys.length) : esz n i ≤ 52 := by
  unfold esz
  have hk := (r.keys i hi).1.2
  split
  · rename_i h
    have hv := (r.leaf h).2.2 i (by rw [(r.leaf h).1]; exact hi)
    omega
  · omega
theorem pre_le {n : Nd} (r : Rt n) (j : Nat) (hj : j ≤ n.keys.length) : pre n j ≤ 52 * j := by
  induction j with
  | zero => simp [pre]
  | succ j ih =>
    have := ih (by omega)
    have := esz_le r j (by omega)
    simp only [pre]; omega
/-- Where a node is parted. -/
structure Mid (n : Nd) (m : Nat) : Prop where
  lo : 1 ≤ m
  hi : m + 1 ≤ n.keys.length
  half : m + 1 = n.keys.length ∨ pre n n.keys.length ≤ 2 * pre n m
  least : ∀ i, 1 ≤ i → i < m → 2 * pre n i < pre n n.keys.length
theorem Mid.one {n : Nd} {a b : Nat} (ha : Mid n a) (hb : Mid n b) : a = b := by
  rcases Nat.lt_trichotomy a b with h | h | h
  · have := hb.least a ha.lo h
    rcases ha.half with h1 | h1
    · have := hb.hi; omega
    · omega
  · exact h
  · have := ha.least b hb.lo h
    rcases hb.half with h1 | h1
    · have := ha.hi; omega
    · omega
set_option maxRecDepth 100000 in
set_option maxHeartbeats 1000000 in
theorem entry_any (n : Nd) (p : Pt) (r : Rt n) (i : Nat) (hi : i < n.keys.length) (w : World) (h : Nod w n p) : Calls Try.prog 106 #[(.agg #[.int .i64 n.lev, .int .i64 n.lsn, .int .i64 n.rgt, .string n.high, .slice p.k n.keys.length p.kc, .slice p.v n.vals.length p.vc, .slice p.i n.kids.length p.ic]), .int .i64 i] w fun e w' => e = .returned (.int .i64 (esz n i : Nat)) ∧ Fr (fun _ => False) w w' := by
  have f0 := Fr.box w (.cells #[.int .i64 n.lev, .int .i64 n.lsn, .int .i64 n.rgt, .string n.high, .slice p.k n.keys.length p.kc, .slice p.v n.vals.length p.vc, .slice p.i n.kids.length p.ic] 25)
  have HB : Hid (∀ W, Fr (fun _ => False) (w.alloc (.cells #[.int .i64 n.lev, .int .i64 n.lsn, .int .i64 n.rgt, .string n.high, .slice p.k n.keys.length p.kc, .slice p.v n.vals.length p.vc, .slice p.i n.kids.length p.ic] 25)) W → W.cell? ⟨w.heap.size, 0, none⟩ = some (.int .i64 n.lev) ∧ W.cell? ⟨w.heap.size, 1, none⟩ = some (.int .i64 n.lsn) ∧ W.cell? ⟨w.heap.size, 2, none⟩ = some (.int .i64 n.rgt) ∧ W.cell? ⟨w.heap.size, 3, none⟩ = some (.string n.high) ∧ W.cell? ⟨w.heap.size, 4, none⟩ = some (.slice p.k n.keys.length p.kc) ∧ W.cell? ⟨w.heap.size, 5, none⟩ = some (.slice p.v n.vals.length p.vc) ∧ W.cell? ⟨w.heap.size, 6, none⟩ = some (.slice p.i n.kids.length p.ic)) := fun W f => box_cells (box_at w n p 25 f)
  have hkz := (r.keys i hi).1.2
  have hii : (i : Int) < (n.keys.length : Int) := by omega
  have hl := fun W => isLeafN_any n p W
  by_cases h0 : n.lev = 0
  · have hb : (n.lev == 0) = true := by simpa using h0
    rw [hb] at hl
    have hvl : i < n.vals.length := by rw [(r.leaf h0).1]; exact hi
    have hvz := (r.leaf h0).2.2 i hvl
    have hvi : (i : Int) < (n.vals.length : Int) := by omega
    have HE : Hid (esz n i = 4 + (n.keys.getD i ByteArray.empty).size + (n.vals.getD i ByteArray.empty).size) := if_pos h0
    clear h0 hb r
    go_enter Try.func106, Try.ntmps106
    go_wp2_with fail
    refine (hl _).mono ?_
    rintro e w1 ⟨rfl, f1⟩
    have hN := h.same (f0.seq' f1)
    obtain ⟨bk, ok, ek, hbk, hck⟩ := strs_some hN.keys hi
    obtain ⟨bv, ov, ev, hbv, hcv⟩ := strs_some hN.vals hvl
    have hkc := hck i hi
    have hvc := hcv i hvl
    obtain ⟨c0, c1, c2, c3, c4, c5, c6⟩ := HB.out _ f1
    rw [ek] at c4
    rw [ev] at c5
    generalize n.keys.getD i ByteArray.empty = x at *
    generalize n.vals.getD i ByteArray.empty = y at *
    clear hck hcv
    go_wp2
    go_quiet (fail)
    go_wp2
    go_ret
    exact ⟨ret_int (by rw [HE.out]; omega), (f0.seq' f1).drewN _⟩
  · have hb : (n.lev == 0) = false := by simpa using h0
    rw [hb] at hl
    have HE : Hid (esz n i = 6 + (n.keys.getD i ByteArray.empty).size) := if_neg h0
    clear h0 hb r
    go_enter Try.func106, Try.ntmps106
    go_wp2_with fail
    refine (hl _).mono ?_
    rintro e w1 ⟨rfl, f1⟩
    have hN := h.same (f0.seq' f1)
    obtain ⟨bk, ok, ek, hbk, hck⟩ := strs_some hN.keys hi
    have hkc := hck i hi
    obtain ⟨c0, c1, c2, c3, c4, c5, c6⟩ := HB.out _ f1
    rw [ek] at c4
    generalize n.keys.getD i ByteArray.empty = x at *
    clear hck
    go_wp2
    go_ret
    exact ⟨ret_int (by rw [HE.out]; omega), f0.seq' f1⟩
set_option maxRecDepth 100000 in
set_option maxHeartbeats 2000000 in
theorem middle_any (n : Nd) (p : Pt) (r : Rt n) (h2 : 2 ≤ n.keys.length) (w : World) (h : Nod w n p) : Calls Try.prog 71 #[(.agg #[.int .i64 n.lev, .int .i64 n.lsn, .int .i64 n.rgt, .string n.high, .slice p.k n.keys.length p.kc, .slice p.v n.vals.length p.vc, .slice p.i n.kids.length p.ic])] w fun e w' => ∃ m : Nat, Mid n m ∧ e = .returned (.int .i64 m) ∧ Fr (fun _ => False) w w' := by
  have f0 := Fr.box w (.cells #[.int .i64 n.lev, .int .i64 n.lsn, .int .i64 n.rgt, .string n.high, .slice p.k n.keys.length p.kc, .slice p.v n.vals.length p.vc, .slice p.i n.kids.length p.ic] 25)
  have HB : Hid (∀ W, Fr (fun _ => False) (w.alloc (.cells #[.int .i64 n.lev, .int .i64 n.lsn, .int .i64 n.rgt, .string n.high, .slice p.k n.keys.length p.kc, .slice p.v n.vals.length p.vc, .slice p.i n.kids.length p.ic] 25)) W → W.cell? ⟨w.heap.size, 0, none⟩ = some (.int .i64 n.lev) ∧ W.cell? ⟨w.heap.size, 1, none⟩ = some (.int .i64 n.lsn) ∧ W.cell? ⟨w.heap.size, 2, none⟩ = some (.int .i64 n.rgt) ∧ W.cell? ⟨w.heap.size, 3, none⟩ = some (.string n.high) ∧ W.cell? ⟨w.heap.size, 4, none⟩ = some (.slice p.k n.keys.length p.kc) ∧ W.cell? ⟨w.heap.size, 5, none⟩ = some (.slice p.v n.vals.length p.vc) ∧ W.cell? ⟨w.heap.size, 6, none⟩ = some (.slice p.i n.kids.length p.ic)) := fun W f => box_cells (box_at w n p 25 f)
  have hfew := keys_few r
  have HR : Hid (Rt n) := r
  have HP : Hid (∀ j, j ≤ n.keys.length → pre n j ≤ 52 * j) := fun j hj => pre_le r j hj
  have HEN : Hid (∀ i, i < n.keys.length → ∀ W, Nod W n p → Calls Try.prog 106 #[(.agg #[.int .i64 n.lev, .int .i64 n.lsn, .int .i64 n.rgt, .string n.high, .slice p.k n.keys.length p.kc, .slice p.v n.vals.length p.vc, .slice p.i n.kids.length p.ic]), .int .i64 i] W fun e w' => e = .returned (.int .i64 (esz n i : Nat)) ∧ Fr (fun _ => False) W w') := fun i hi W hW => entry_any n p r i hi W hW
  have HES : Hid (∀ i, i < n.keys.length → esz n i ≤ 52) := fun i hi => esz_le r i hi
  have hN0 := h.same f0
  clear r
  obtain ⟨W0, hW0⟩ : ∃ W0, W0 = w.alloc (.cells #[.int .i64 n.lev, .int .i64 n.lsn, .int .i64 n.rgt, .string n.high, .slice p.k n.keys.length p.kc, .slice p.v n.vals.length p.vc, .slice p.i n.kids.length p.ic] 25) := ⟨_, rfl⟩
  go_enter Try.func71, Try.ntmps71
  go_wp2
  rw [← hW0] at f0 hN0 HB ⊢
  go_loopw [3, 11] (fun u i wr => ∃ j : Nat, j ≤ n.keys.length ∧ i = .int .i64 j ∧ u = .int .i64 (pre n j : Nat) ∧ Fr (fun _ => False) W0 wr) (fun _ i _ => n.keys.length - (intOf i).toNat)
  case atStart => exact ⟨0, by omega, rfl, rfl, Fr.refl _ _⟩
  case round =>
    obtain ⟨j, hj, rfl, rfl, hf⟩ := hrel
    have hpj := HP.out j hj
    by_cases hlt : j < n.keys.length
    · have hji : (j : Int) < (n.keys.length : Int) := by omega
      have hes := HES.out j hlt
      have hen := HEN.out j hlt _ (hN0.same hf)
      obtain ⟨c0, c1, c2, c3, c4, c5, c6⟩ := HB.out _ hf
      have HPS : Hid (pre n (j + 1) = pre n j + esz n j) := rfl
      generalize esz n j = x at *
      generalize pre n j = y at *
      go_wp2_with fail
      refine hen.mono ?_
      rintro e w2 ⟨rfl, f2⟩
      clear c0 c1 c2 c3 c4 c5 c6
      go_wp2
      go_roundw
      case rel => exact ⟨j + 1, by omega, by go_num, val_int (by rw [HPS.out]; omega), hf.seq' f2⟩
      case measure => simp [intOf]; omega
    · have e : j = n.keys.length := by omega
      subst e
      obtain ⟨c0, c1, c2, c3, c4, c5, c6⟩ := HB.out _ hf
      have HAL : Hid (pre n n.keys.length = pre n n.keys.length) := rfl
      obtain ⟨al, hal⟩ : ∃ al, al = pre n n.keys.length := ⟨_, rfl⟩
      have HA : Hid (al = pre n n.keys.length) := hal
      rw [← hal] at hpj ⊢
      clear hal HAL
      obtain ⟨w1, hw1⟩ : ∃ w1, w1 = wr := ⟨_, rfl⟩
      go_wp2
      clear c0 c1 c2 c3 c4 c5 c6
      go_loopw [6, 25] (fun u i wx => ∃ j : Nat, j + 1 ≤ n.keys.length ∧ i = .int .i64 j ∧ u = .int .i64 (pre n j : Nat) ∧ Hid (∀ i, 1 ≤ i → i ≤ j → 2 * pre n i < al) ∧ Fr (fun _ => False) W0 wx) (fun _ i _ => n.keys.length - (intOf i).toNat)
      case atStart => exact ⟨0, by omega, rfl, rfl, (fun i h1 h2 => by omega), hf⟩
      case round =>
        obtain ⟨j, hj, rfl, rfl, HE, hf2⟩ := hrel
        have hpj2 := HP.out j (by omega)
        by_cases hlt : j + 1 < n.keys.length
        · have hji : (j : Int) < (n.keys.length : Int) - 1 := by omega
          have hes := HES.out j (by omega)
          have hen := HEN.out j (by omega) _ (hN0.same hf2)
          obtain ⟨c0, c1, c2, c3, c4, c5, c6⟩ := HB.out _ hf2
          have HPS : Hid (pre n (j + 1) = pre n j + esz n j) := rfl
          generalize esz n j = x at *
          obtain ⟨y, hy⟩ : ∃ y, y = pre n j := ⟨_, rfl⟩
          rw [← hy] at hpj2 HPS ⊢
          clear hy
          go_wp2_with fail
          refine hen.mono ?_
          rintro e w2 ⟨rfl, f2⟩
          clear c0 c1 c2 c3 c4 c5 c6
          by_cases hc : al ≤ 2 * (y + x)
          · have hci : (al : Int) ≤ 2 * ((y : Int) + (x : Int)) := by omega
            clear hc
            go_wp2
            go_ret
            refine ⟨j + 1, ⟨by omega, by omega, .inr ?_, fun i h1 h2 => ?_⟩, ret_int (by omega), (f0.seq' hf2).seq' f2⟩
            · rw [← HA.out, HPS.out]; omega
            · rw [← HA.out]; exact HE.out i h1 (by omega)
          · have hci : 2 * ((y : Int) + (x : Int)) < (al : Int) := by omega
            have HC : Hid (2 * (y + x) < al) := by show _ < _; omega
            clear hc
            go_wp2
            go_roundw
            case rel =>
              refine ⟨j + 1, by omega, by go_num, val_int (by rw [HPS.out]; omega), fun i h1 h2 => ?_, hf2.seq' f2⟩
              rcases Nat.lt_or_ge i (j + 1) with h3 | h3
              · exact HE.out i h1 (by omega)
              · rw [show i = j + 1 by omega, HPS.out]; exact HC.out
            case measure => simp [intOf]; omega
        · have hji : ¬ (j : Int) < (n.keys.length : Int) - 1 := by omega
          have hje : (n.keys.length : Int) - 1 = (j : Int) := by omega
          go_wp2
          go_ret
          refine ⟨j, ⟨by omega, by omega, .inl (by omega), fun i h1 h2 => ?_⟩, ret_int (by omega), f0.seq' hf2⟩
          rw [← HA.out]; exact HE.out i h1 (by omega)
end Go.Proofs.Ytaaedmacefiinaa

/- What Split tells. -/
namespace Go.Proofs.Ytaaedmacefiinaa
open Go.RowKit

def splE (n : Nd) : Int := if rightB n = true then (if n.keys.length < 2 then 7 else 0) else 70
/-- The parting key. -/
def splS (n : Nd) (m : Nat) : ByteArray := if n.lev = 0 then (n.keys.getD m ByteArray.empty).extract 0 (cmn (bsOf (n.keys.getD (m - 1) ByteArray.empty)) (bsOf (n.keys.getD m ByteArray.empty)) + 1) else n.keys.getD m ByteArray.empty
def SplOut (n : Nd) (w : World) (e : Ending) (w' : World) : Prop :=
  Fr (fun _ => False) w w' ∧ ((splE n ≠ 0 ∧ e = .returned (.tuple #[.string ⟨#[]⟩, .int .i64 (splE n)])) ∨ (splE n = 0 ∧ Rt n ∧ ∃ m, Mid n m ∧ e = .returned (.tuple #[.string (splS n m), .int .i64 0])))
theorem cpl_m1 {a b : List Nat} (h : cpl a b < 0) : cpl a b = -1 := by
  rcases cpl_vals a b with h1 | h1 | h1 <;> omega
set_option maxRecDepth 100000 in
set_option maxHeartbeats 2000000 in
theorem split_any (n : Nd) (p : Pt) (w : World) (h : Nod w n p) : Calls Try.prog 31 #[(.agg #[.int .i64 n.lev, .int .i64 n.lsn, .int .i64 n.rgt, .string n.high, .slice p.k n.keys.length p.kc, .slice p.v n.vals.length p.vc, .slice p.i n.kids.length p.ic])] w fun e w' => SplOut n w e w' := by
  have f0 := Fr.box w (.cells #[.int .i64 n.lev, .int .i64 n.lsn, .int .i64 n.rgt, .string n.high, .slice p.k n.keys.length p.kc, .slice p.v n.vals.length p.vc, .slice p.i n.kids.length p.ic] 25)
  have HB : Hid (∀ W, Fr (fun _ => False) (w.alloc (.cells #[.int .i64 n.lev, .int .i64 n.lsn, .int .i64 n.rgt, .string n.high, .slice p.k n.keys.length p.kc, .slice p.v n.vals.length p.vc, .slice p.i n.kids.length p.ic] 25)) W → W.cell? ⟨w.heap.size, 0, none⟩ = some (.int .i64 n.lev) ∧ W.cell? ⟨w.heap.size, 1, none⟩ = some (.int .i64 n.lsn) ∧ W.cell? ⟨w.heap.size, 2, none⟩ = some (.int .i64 n.rgt) ∧ W.cell? ⟨w.heap.size, 3, none⟩ = some (.string n.high) ∧ W.cell? ⟨w.heap.size, 4, none⟩ = some (.slice p.k n.keys.length p.kc) ∧ W.cell? ⟨w.heap.size, 5, none⟩ = some (.slice p.v n.vals.length p.vc) ∧ W.cell? ⟨w.heap.size, 6, none⟩ = some (.slice p.i n.kids.length p.ic)) := fun W f => box_cells (box_at w n p 25 f)
  have hcn := checkNode_any n p _ (h.same f0)
  unfold rgE at hcn
  cases hr : rightB n
  · rw [hr, if_neg (by simp)] at hcn
    have HE : Hid (splE n = 70) := by show _ = _; unfold splE; rw [hr, if_neg (by simp)]
    clear hr
    go_enter Try.func31, Try.ntmps31
    go_wp2_with fail
    refine hcn.mono ?_
    rintro e w1 ⟨rfl, f1⟩
    go_wp2
    go_ret2
    exact ⟨f0.seq' f1, .inl ⟨by rw [HE.out]; omega, by rw [HE.out]; rfl⟩⟩
  · rw [hr, if_pos rfl] at hcn
    have r := (right_iff n).1 hr
    by_cases hl2 : n.keys.length < 2
    · have HE : Hid (splE n = 7) := by show _ = _; unfold splE; rw [hr, if_pos rfl, if_pos hl2]
      have hli : (n.keys.length : Int) < 2 := by omega
      clear hr r
      go_enter Try.func31, Try.ntmps31
      go_wp2_with fail
      refine hcn.mono ?_
      rintro e w1 ⟨rfl, f1⟩
      obtain ⟨c0, c1, c2, c3, c4, c5, c6⟩ := HB.out _ f1
      go_wp2
      go_ret2
      exact ⟨f0.seq' f1, .inl ⟨by rw [HE.out]; omega, by rw [HE.out]; rfl⟩⟩
    · have HE : Hid (splE n = 0) := by show _ = _; unfold splE; rw [hr, if_pos rfl, if_neg hl2]
      have hli : (2 : Int) ≤ (n.keys.length : Int) := by omega
      have hml := fun W hW => middle_any n p r (by omega) W hW
      have hlf := fun W => isLeafN_any n p W
      have HR : Hid (Rt n) := r
      have HS : Hid (srt n.keys) := r.srt
      have hks := h.klen
      have hfew := keys_few r
      clear hr
      by_cases h0 : n.lev = 0
      · have hb : (n.lev == 0) = true := by simpa using h0
        rw [hb] at hlf
        have H0 : Hid (n.lev = 0) := h0
        clear h0 hb r
        go_enter Try.func31, Try.ntmps31
        go_wp2_with fail
        refine hcn.mono ?_
        rintro e w1 ⟨rfl, f1⟩
        have F1 := f0.seq' f1
        obtain ⟨c0, c1, c2, c3, c4, c5, c6⟩ := HB.out _ f1
        go_wp2_with fail
        refine (hml _ (h.same F1)).mono ?_
        rintro e w2 ⟨m, hm, rfl, f2⟩
        clear c0 c1 c2 c3 c4 c5 c6 hml
        obtain ⟨c0, c1, c2, c3, c4, c5, c6⟩ := HB.out _ (f1.seq' f2)
        go_wp2_with fail
        refine (hlf _).mono ?_
        rintro e w3 ⟨rfl, f3⟩
        clear c0 c1 c2 c3 c4 c5 c6 hlf
        have F3 := F1.seq' (f2.seq' f3)
        have fr3 := (f1.seq' (f2.seq' f3)).drew
        have hN3 := h.same (f0.seq' fr3)
        obtain ⟨q, rfl⟩ : ∃ q, m = q + 1 := ⟨m - 1, by have := hm.lo; omega⟩
        have hq1 : q + 1 < n.keys.length := by have := hm.hi; omega
        obtain ⟨bk, ok, ek, hbk, hck⟩ := strs_some hN3.keys hq1
        have hka := hck q (by omega)
        have hkb := hck (q + 1) hq1
        have hsa := h.ksz _ (strs_get (show q < n.keys.length by omega))
        have hsb := h.ksz _ (strs_get hq1)
        have hcp := cpl_m1 (HS.out q (q + 1) (by omega) hq1)
        have HSS : Hid (splS n (q + 1) = (n.keys.getD (q + 1) ByteArray.empty).extract 0 (cmn (bsOf (n.keys.getD q ByteArray.empty)) (bsOf (n.keys.getD (q + 1) ByteArray.empty)) + 1)) := by
          show _ = _
          unfold splS
          rw [if_pos H0.out, show q + 1 - 1 = q by omega]
        obtain ⟨_, _, _, _, c4, _, _⟩ := HB.out _ fr3
        rw [ek] at c4
        have HM : Hid (Mid n (q + 1)) := hm
        obtain ⟨x, hx⟩ : ∃ x, x = n.keys.getD q ByteArray.empty := ⟨_, rfl⟩
        obtain ⟨y, hy⟩ : ∃ y, y = n.keys.getD (q + 1) ByteArray.empty := ⟨_, rfl⟩
        rw [← hx] at hka hsa hcp HSS
        rw [← hy] at hkb hsb hcp HSS
        have hqi : (q : Int) < (n.keys.length : Int) := by omega
        have hqi1 : (q : Int) + 1 < (n.keys.length : Int) := by omega
        have hq0 : (0 : Int) ≤ (q : Int) := by omega
        have hq00 : (0 : Int) ≤ (q : Int) + 1 := by omega
        have hqt : ((q : Int) + 1).toNat = q + 1 := by omega
        have hqw : IntKind.i64.wrap ((q : Int) + 1 - 1) = (q : Int) := by rw [IntKind.wrap_i64]; omega
        have hqs : (q : Int) + 1 - 1 = (q : Int) := by omega
        have hqw2 : IntKind.i64.wrap (q : Int) = (q : Int) := by rw [IntKind.wrap_i64]; omega
        have hbt := fun W => between_yes x y hsa hsb hcp W
        generalize y.extract 0 (cmn (bsOf x) (bsOf y) + 1) = z at *
        clear hx hy hck hm hcp hN3
        have q0 : w3.drew.cell? ⟨w.heap.size, 4, none⟩ = some (.slice (some ⟨bk, ok, none⟩) n.keys.length p.kc) ∧ w3.drew.cell? ⟨bk, ok + q, none⟩ = some (.string x) ∧ w3.drew.cell? ⟨bk, ok + (q + 1), none⟩ = some (.string y) := ⟨c4, hka, hkb⟩
        have HQ : Hid (∀ W, Fr (fun _ => False) w3.drew W → W.cell? ⟨w.heap.size, 4, none⟩ = some (.slice (some ⟨bk, ok, none⟩) n.keys.length p.kc) ∧ W.cell? ⟨bk, ok + q, none⟩ = some (.string x) ∧ W.cell? ⟨bk, ok + (q + 1), none⟩ = some (.string y)) := fun W f => ⟨(f.cell (p := ⟨w.heap.size, 4, none⟩) (World.block_lt_of_cell? _ _ c4) (fun f => f)).trans c4, (f.cell (p := ⟨bk, ok + q, none⟩) hbk (fun f => f)).trans hka, (f.cell (p := ⟨bk, ok + (q + 1), none⟩) hbk (fun f => f)).trans hkb⟩
        go_wp2_with fail
        go_region_held3 (fun W => W.cell? ⟨w.heap.size, 4, none⟩ = some (.slice (some ⟨bk, ok, none⟩) n.keys.length p.kc) ∧ W.cell? ⟨bk, ok + q, none⟩ = some (.string x) ∧ W.cell? ⟨bk, ok + (q + 1), none⟩ = some (.string y))
          (first | with_reducible exact q0 | with_reducible exact q4)
          ((go_at_call 73; refine (hbt _).mono ?_; rintro e w4 ⟨rfl, f4⟩; have q4 := HQ.out _ f4))
        go_wp2
        go_ret2
        exact ⟨F3.seq' (((Fr.refl _ _).drew).seq' f4), .inr ⟨HE.out, HR.out, q + 1, HM.out, by rw [HSS.out]; rfl⟩⟩
      · have hb : (n.lev == 0) = false := by simpa using h0
        rw [hb] at hlf
        have H0 : Hid (n.lev ≠ 0) := h0
        clear h0 hb r
        go_enter Try.func31, Try.ntmps31
        go_wp2_with fail
        refine hcn.mono ?_
        rintro e w1 ⟨rfl, f1⟩
        have F1 := f0.seq' f1
        obtain ⟨c0, c1, c2, c3, c4, c5, c6⟩ := HB.out _ f1
        go_wp2_with fail
        refine (hml _ (h.same F1)).mono ?_
        rintro e w2 ⟨m, hm, rfl, f2⟩
        clear c0 c1 c2 c3 c4 c5 c6 hml
        obtain ⟨c0, c1, c2, c3, c4, c5, c6⟩ := HB.out _ (f1.seq' f2)
        go_wp2_with fail
        refine (hlf _).mono ?_
        rintro e w3 ⟨rfl, f3⟩
        clear c0 c1 c2 c3 c4 c5 c6 hlf
        have F3 := F1.seq' (f2.seq' f3)
        have fr3 := f1.seq' (f2.seq' f3)
        have hN3 := h.same (f0.seq' fr3)
        have hq1 : m < n.keys.length := by have := hm.hi; omega
        obtain ⟨bk, ok, ek, hbk, hck⟩ := strs_some hN3.keys hq1
        have hkb := hck m hq1
        have HSS : Hid (splS n m = n.keys.getD m ByteArray.empty) := if_neg H0.out
        obtain ⟨_, _, _, _, c4, _, _⟩ := HB.out _ fr3
        rw [ek] at c4
        have HM : Hid (Mid n m) := hm
        obtain ⟨y, hy⟩ : ∃ y, y = n.keys.getD m ByteArray.empty := ⟨_, rfl⟩
        rw [← hy] at hkb HSS
        have hqi : (m : Int) < (n.keys.length : Int) := by omega
        clear hy hck hm hN3
        go_wp2
        go_ret2
        exact ⟨F3, .inr ⟨HE.out, HR.out, m, HM.out, by rw [HSS.out]; rfl⟩⟩
end Go.Proofs.Ytaaedmacefiinaa

/- Cutting slices of texts and of numbers, and copies of them. -/
namespace Go.Proofs.Ytaaedmacefiinaa
open Go.RowKit

/-- Where a part of a slice lies. -/
def cutA (a : Option Addr) (c b : Nat) : Option Addr := if c = b then a else a.map (·.add (b * 1))
def slS (v : Value) (b e : Int) := Instr.sliceAt 22 v (some (.int .i64 b)) (some (.int .i64 e)) none
def slI (v : Value) (b e : Int) := Instr.sliceAt 23 v (some (.int .i64 b)) (some (.int .i64 e)) none
theorem slS_eq (v : Value) (b e : Int) : Instr.sliceAt 22 v (some (.int .i64 b)) (some (.int .i64 e)) none = slS v b e := by unfold slS; rfl
theorem slI_eq (v : Value) (b e : Int) : Instr.sliceAt 23 v (some (.int .i64 b)) (some (.int .i64 e)) none = slI v b e := by unfold slI; rfl
theorem sizeS (w : World) : (sizeOf 9).run Try.prog w = .ok 1 w := by
  obtain ⟨i0, hi, hz0, hz1, hz2⟩ := info_parts infoStr
  simp [sizeOf, typeInfo, hi, hz1]
theorem sizeI (w : World) : (sizeOf 3).run Try.prog w = .ok 1 w := by
  obtain ⟨i0, hi, hz0, hz1, hz2⟩ := info_parts infoInt
  simp [sizeOf, typeInfo, hi, hz1]
theorem run_slS (a : Option Addr) (n c b e : Nat) (h1 : b ≤ e) (h2 : e ≤ c) (w : World) : (slS (.slice a n c) (b : Int) (e : Int)).run Try.prog w = .ok (.slice (cutA a c b) (e - b) (c - b)) w := by
  unfold slS
  have hu : Try.prog.underlying 22 = some (.slice (Try.prog.elem 22)) := by kernel_rfl
  have he : Try.prog.elem 22 = 9 := by kernel_rfl
  rw [run_sliceAt_slice (h := hu), run_slice_lh (ht := hu) (h0 := by omega) (h1 := by omega) (h2 := by omega), he, sizeS]
  simp [Result.andThen, sliced, cutA]
theorem run_slI (a : Option Addr) (n c b e : Nat) (h1 : b ≤ e) (h2 : e ≤ c) (w : World) : (slI (.slice a n c) (b : Int) (e : Int)).run Try.prog w = .ok (.slice (cutA a c b) (e - b) (c - b)) w := by
  unfold slI
  have hu : Try.prog.underlying 23 = some (.slice (Try.prog.elem 23)) := by kernel_rfl
  have he : Try.prog.elem 23 = 3 := by kernel_rfl
  rw [run_sliceAt_slice (h := hu), run_slice_lh (ht := hu) (h0 := by omega) (h1 := by omega) (h2 := by omega), he, sizeI]
  simp [Result.andThen, sliced, cutA]
theorem cut_s {w : World} {a : Option Addr} {c : Nat} {l : List ByteArray} (h : Strs w a c l) (b e : Nat) (h1 : b ≤ e) (h2 : e ≤ l.length) : Strs w (cutA a c b) (c - b) ((l.take e).drop b) := by
  have hl := h.le
  have hlen : ((l.take e).drop b).length = e - b := by simp; omega
  refine ⟨by rw [hlen]; omega, by have := h.max; omega, fun s hs => h.text s (List.mem_of_mem_take (List.mem_of_mem_drop hs)), ?_⟩
  by_cases hbe : b = e
  · exact .inl (List.eq_nil_of_length_eq_zero (by rw [hlen]; omega))
  · rcases h.at_ with h0 | ⟨bk, off, rfl, hb, hc⟩
    · rw [h0] at h2; simp at h2; omega
    · refine .inr ⟨bk, off + b, ?_, hb, fun i hi => ?_⟩
      · unfold cutA; rw [if_neg (by omega)]; simp [Addr.add]
      · rw [hlen] at hi
        have := hc (b + i) (by omega)
        rw [Nat.add_assoc, this, List.getD_eq_getElem?_getD, List.getD_eq_getElem?_getD, List.getElem?_drop, List.getElem?_take, if_pos (by omega)]
theorem cut_i {w : World} {a : Option Addr} {c : Nat} {l : List Int} (h : Ints w a c l) (b e : Nat) (h1 : b ≤ e) (h2 : e ≤ l.length) : Ints w (cutA a c b) (c - b) ((l.take e).drop b) := by
  have hl := h.le
  have hlen : ((l.take e).drop b).length = e - b := by simp; omega
  refine ⟨by rw [hlen]; omega, by have := h.max; omega, ?_⟩
  by_cases hbe : b = e
  · exact .inl (List.eq_nil_of_length_eq_zero (by rw [hlen]; omega))
  · rcases h.at_ with h0 | ⟨bk, off, rfl, hb, hc⟩
    · rw [h0] at h2; simp at h2; omega
    · refine .inr ⟨bk, off + b, ?_, hb, fun i hi => ?_⟩
      · unfold cutA; rw [if_neg (by omega)]; simp [Addr.add]
      · rw [hlen] at hi
        have := hc (b + i) (by omega)
        rw [Nat.add_assoc, this, List.getD_eq_getElem?_getD, List.getD_eq_getElem?_getD, List.getElem?_drop, List.getElem?_take, if_pos (by omega)]
theorem Strs.from {w : World} {a : Option Addr} {c : Nat} {l : List ByteArray} (h : Strs w a c l) : From w a (strCells l) := by
  rcases h.at_ with h0 | ⟨b, off, rfl, _, hc⟩
  · exact .inl (by rw [h0]; rfl)
  · refine .inr ⟨b, off, rfl, fun j u hu => ?_⟩
    have hj : j < l.length := by have := (List.getElem?_eq_some_iff.1 hu).1; simpa [strCells] using this
    rw [strCells, List.getElem?_map, List.getElem?_eq_getElem hj] at hu
    rw [hc j hj, List.getD_eq_getElem?_getD, List.getElem?_eq_getElem hj]; exact hu
theorem Ints.from {w : World} {a : Option Addr} {c : Nat} {l : List Int} (h : Ints w a c l) : From w a (intCells l) := by
  rcases h.at_ with h0 | ⟨b, off, rfl, _, hc⟩
  · exact .inl (by rw [h0]; rfl)
  · refine .inr ⟨b, off, rfl, fun j u hu => ?_⟩
    have hj : j < l.length := by have := (List.getElem?_eq_some_iff.1 hu).1; simpa [intCells] using this
    rw [intCells, List.getElem?_map, List.getElem?_eq_getElem hj] at hu
    rw [hc j hj, List.getD_eq_getElem?_getD, List.getElem?_eq_getElem hj]; exact hu
theorem has_empty (w : World) (size : Nat) (e : TypeId) : Has (w.alloc (.cells #[] e)) size (.slice (some ⟨w.heap.size, 0, none⟩) 0 0) 0 [] :=
  ⟨by simp, .inr ⟨_, _, rfl, by simp, Nat.le_refl _, by decide, (fun j hj => by omega), (fun j v hv => by cases hv)⟩⟩
/-- A copy of texts. -/
def CpS (w : World) (l : List ByteArray) (e : Ending) (w' : World) : Prop :=
  ∃ a' c', e = .returned (.slice a' l.length c') ∧ Has w' 1 (.slice a' l.length c') l.length (strCells l) ∧ Fr (fun _ => False) w w' ∧ (∀ k, (Value.slice a' l.length c').ownBlock = some k → w.heap.size ≤ k)
def CpI (w : World) (l : List Int) (e : Ending) (w' : World) : Prop :=
  ∃ a' c', e = .returned (.slice a' l.length c') ∧ Has w' 1 (.slice a' l.length c') l.length (intCells l) ∧ Fr (fun _ => False) w w' ∧ (∀ k, (Value.slice a' l.length c').ownBlock = some k → w.heap.size ≤ k)
set_option maxRecDepth 100000 in
set_option maxHeartbeats 1000000 in
theorem clone_s (a : Option Addr) (n c : Nat) (l : List ByteArray) (w : World) (hr : Strs w a c l) (hn : n = l.length) (hs : l.length ≤ 100000) : Calls Try.prog 100 #[.slice a n c] w fun e w' => CpS w l e w' := by
  obtain ⟨i0, hi, hz0, hz1, hz2⟩ := info_parts infoStr
  have hq := fun W => Lib.run_eql_slice_nil (P := Try.prog) W 22 9 a n c 0 0 Try.underlying22
  have hsl : (strCells l).length = l.length := by simp [strCells]
  cases a with
  | none =>
    have hl : l = [] := by
      rcases hr.at_ with h | ⟨_, _, h, _⟩
      · exact h
      · cases h
    subst hl
    obtain rfl : n = 0 := by simpa using hn
    clear hn hsl hs
    go_enter Try.func100, Try.ntmps100
    go_wp2
    go_ret
    exact ⟨none, 0, rfl, Has.nil _ _, Fr.refl _ _, fun k hk => by cases hk⟩
  | some x =>
    have HE : Hid (Has (w.alloc (.cells #[] 9)) 1 (.slice (some ⟨w.heap.size, 0, none⟩) 0 0) 0 []) := has_empty w 1 _
    have f1 : Fr (fun _ => False) w (w.alloc (.cells #[] 9)) := (Fr.refl _ _).alloc _
    have hr1 := (hr.same f1).from
    have HN : Hid (n = l.length) := hn
    have HSL : Hid ((strCells l).length = l.length) := hsl
    have hs' : n ≤ 100000 := by omega
    clear hn hs hsl
    go_enter Try.func100, Try.ntmps100
    go_wp2_with (at_builtin; refine wpList_append_has _ rfl _ _ 22 22 9 9 rfl i0 _ 1 16 Try.underlying22 Try.underlying22 hi hz0 hz1 hz2 rfl (by omega) (.slice (some ⟨w.heap.size, 0, none⟩) 0 0) 0 [] rfl HE.out (some x) n c (strCells l) rfl (by rw [HSL.out, HN.out]; omega) hr1 (strCells_one l) (by unfold maxLen; omega) (by omega) ?_; intro am cm w2 hown hfr hat)
    go_ret
    rw [Nat.zero_add, List.nil_append] at hown
    rw [Nat.zero_add] at hat
    rw [HN.out] at hown hat
    refine ⟨am, cm, by rw [← HN.out]; rfl, hown, f1.above hfr ?_, fun k hk => ?_⟩
    · rintro i ⟨e, _⟩
      simp [Value.ownBlock] at e
      omega
    · rw [hk] at hat
      rcases hat with e | e <;> simp [Value.ownBlock] at e <;> omega
set_option maxRecDepth 100000 in
set_option maxHeartbeats 1000000 in
theorem clone_i (a : Option Addr) (n c : Nat) (l : List Int) (w : World) (hr : Ints w a c l) (hn : n = l.length) (hs : l.length ≤ 100000) : Calls Try.prog 101 #[.slice a n c] w fun e w' => CpI w l e w' := by
  obtain ⟨i0, hi, hz0, hz1, hz2⟩ := info_parts infoInt
  have hq := fun W => Lib.run_eql_slice_nil (P := Try.prog) W 23 3 a n c 0 0 Try.underlying23
  have hsl : (intCells l).length = l.length := by simp [intCells]
  cases a with
  | none =>
    have hl : l = [] := by
      rcases hr.at_ with h | ⟨_, _, h, _⟩
      · exact h
      · cases h
    subst hl
    obtain rfl : n = 0 := by simpa using hn
    clear hn hsl hs
    go_enter Try.func101, Try.ntmps101
    go_wp2
    go_ret
    exact ⟨none, 0, rfl, Has.nil _ _, Fr.refl _ _, fun k hk => by cases hk⟩
  | some x =>
    have HE : Hid (Has (w.alloc (.cells #[] 3)) 1 (.slice (some ⟨w.heap.size, 0, none⟩) 0 0) 0 []) := has_empty w 1 _
    have f1 : Fr (fun _ => False) w (w.alloc (.cells #[] 3)) := (Fr.refl _ _).alloc _
    have hr1 := (hr.same f1).from
    have HN : Hid (n = l.length) := hn
    have HSL : Hid ((intCells l).length = l.length) := hsl
    have hs' : n ≤ 100000 := by omega
    clear hn hs hsl
    go_enter Try.func101, Try.ntmps101
    go_wp2_with (at_builtin; refine wpList_append_has _ rfl _ _ 23 23 3 3 rfl i0 _ 1 8 Try.underlying23 Try.underlying23 hi hz0 hz1 hz2 rfl (by omega) (.slice (some ⟨w.heap.size, 0, none⟩) 0 0) 0 [] rfl HE.out (some x) n c (intCells l) rfl (by rw [HSL.out, HN.out]; omega) hr1 (intCells_one l) (by unfold maxLen; omega) (by omega) ?_; intro am cm w2 hown hfr hat)
    go_ret
    rw [Nat.zero_add, List.nil_append] at hown
    rw [Nat.zero_add] at hat
    rw [HN.out] at hown hat
    refine ⟨am, cm, by rw [← HN.out]; rfl, hown, f1.above hfr ?_, fun k hk => ?_⟩
    · rintro i ⟨e, _⟩
      simp [Value.ownBlock] at e
      omega
    · rw [hk] at hat
      rcases hat with e | e <;> simp [Value.ownBlock] at e <;> omega
end Go.Proofs.Ytaaedmacefiinaa
