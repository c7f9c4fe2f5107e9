
/- PgBack, PgBack2, PgBack3, PgBack4. -/
import Derived.Test.YtcmkpmilnplhmaaPgDec
/- What the reader finds in what was written, and what it was found in. -/
namespace Go.Proofs.Ytcmkpmilnplhmaa
open Go.RowKit Crcm

theorem bval_le (k n : Nat) : val (le k n) = n % 256 ^ k := by
  induction k with
  | zero => simp [le, val, Nat.mod_one]
  | succ k ih =>
    rw [le, val_snoc, ih, le_length, Nat.pow_succ, Nat.mod_mul, Nat.mul_comm (256 ^ k)]
theorem ble_val (l : List Nat) (h : octs l) : le l.length (val l) = l := by
  have key : ∀ (k : Nat) (l : List Nat), l.length = k → octs l → le k (val l) = l := by
    intro k
    induction k with
    | zero => intro l hl _; rw [List.length_eq_zero_iff.1 hl]; rfl
    | succ k ih =>
      intro l hl ho
      rcases List.eq_nil_or_concat l with rfl | ⟨m, x, rfl⟩
      · simp at hl
      · rw [List.concat_eq_append] at hl ho ⊢
        have hm : m.length = k := by simpa using hl
        have om : octs m := fun y hy => ho y (List.mem_append_left _ hy)
        have hx : x < 256 := ho x (by simp)
        have hv := val_lt om
        rw [hm] at hv
        have ih' := ih m hm om
        rw [val_snoc, hm, le]
        have e1 : (val m + x * 256 ^ k) / 256 ^ k % 256 = x := by
          rw [Nat.add_mul_div_right _ _ (Nat.pow_pos (by omega)), Nat.div_eq_of_lt hv, Nat.zero_add, Nat.mod_eq_of_lt hx]
        have e2 : ∀ j, j ≤ k → le j (val m + x * 256 ^ k) = le j (val m) := by
          intro j
          induction j with
          | zero => intro _; rfl
          | succ j ihj =>
            intro hj
            rw [le, le, ihj (by omega)]
            have e3 : 256 ^ k = 256 ^ (k - j - 1) * 256 * 256 ^ j := by
              rw [← Nat.pow_succ, ← Nat.pow_add]; congr 1; omega
            have e4 : (val m + x * 256 ^ k) / 256 ^ j % 256 = val m / 256 ^ j % 256 := by
              rw [e3, ← Nat.mul_assoc, Nat.add_mul_div_right _ _ (Nat.pow_pos (by omega)), ← Nat.mul_assoc, Nat.add_mul_mod_self_right]
            rw [e4]
        rw [e1, e2 k (Nat.le_refl _), ih']
  exact key _ l rfl h
theorem bbsOf_strOf (l : List Nat) (h : octs l) : bsOf (strOf l) = l := by
  unfold bsOf strOf
  simp only [List.map_map]
  conv => rhs; rw [← List.map_id l]
  apply List.map_congr_left
  intro x hx
  have := h x hx
  simp [Function.comp]; omega
/-- A reader that goes well, with l ahead of it. -/
abbrev st (l : List Nat) : RF := ((l, 0), false)
theorem numF_st (k v : Nat) (hk : k = 1 ∨ k = 2 ∨ k = 4 ∨ k = 8) (hv : v < 256 ^ k) (hv2 : v < 9223372036854775808) (r : List Nat) : numF (st (le k v ++ r)) (k : Int) = ((v : Int), st r) := by
  have e1 : (le k v ++ r).take k = le k v := by rw [List.take_append_of_le_length (by rw [le_length]; omega), List.take_of_length_le (by rw [le_length]; omega)]
  have e2 : (le k v ++ r).drop k = r := by rw [List.drop_append_of_le_length (by rw [le_length]; omega), List.drop_eq_nil_of_le (by rw [le_length]; omega), List.nil_append]
  have h : numS (le k v ++ r, 0) (k : Int) = ((v : Int), 0, (r, 0)) := by
    unfold numS
    rw [if_neg (by omega), if_neg (by simp), if_neg (by simp [le_length]; omega), Int.toNat_natCast]
    simp only []
    rw [e1, e2, bval_le, Nat.mod_eq_of_lt hv, if_neg (by omega)]
  unfold numF st
  simp only [h]
  simp
theorem textF_st (s : ByteArray) (m : Nat) (hs : s.size ≤ m) (hm : m ≤ 65535) (r : List Nat) : textF (st (txt s ++ r)) (m : Int) = (s, st r) := by
  have hl : (txt s ++ r).length = s.size + 2 + r.length := by rw [List.length_append, txt_length]
  have e1 : (txt s ++ r).take 2 = le 2 s.size := by
    unfold txt
    rw [List.append_assoc, List.take_append_of_le_length (by rw [le_length]; omega), List.take_of_length_le (by rw [le_length]; omega)]
  have e0 : (txt s ++ r).drop 2 = bsOf s ++ r := by
    unfold txt
    rw [List.append_assoc, List.drop_append_of_le_length (by rw [le_length]; omega), List.drop_eq_nil_of_le (by rw [le_length]; omega), List.nil_append]
  have ev : val (le 2 s.size) = s.size := by rw [bval_le]; exact Nat.mod_eq_of_lt (by omega)
  have e2 : (txt s ++ r).drop (2 + s.size) = r := by
    rw [← List.drop_drop, e0, List.drop_append_of_le_length (by rw [bsOf_length]; omega), List.drop_eq_nil_of_le (by rw [bsOf_length]; omega), List.nil_append]
  have h : textS (txt s ++ r, 0) (m : Int) = (bsOf s, 0, (r, 0)) := by
    unfold textS
    simp only []
    rw [if_neg (by omega), if_neg (by simp), if_neg (by omega), e1, ev, if_neg (by omega), if_neg (by omega), e0, e2]
    rw [List.take_append_of_le_length (by rw [bsOf_length]; omega), List.take_of_length_le (by rw [bsOf_length]; omega)]
  unfold textF st
  simp only [h, strOf_bsOf]
  simp
/-- A number that was read well. -/
theorem numF_ok (l : List Nat) (ho : octs l) (k : Nat) (hk : k = 1 ∨ k = 2 ∨ k = 4 ∨ k = 8) (h : (numF (st l) (k : Int)).2.2 = false) : ∃ v r, l = le k v ++ r ∧ numF (st l) (k : Int) = ((v : Int), st r) ∧ v < 256 ^ k ∧ v < 9223372036854775808 := by
  have h0 : (numS (l, 0) (k : Int)).2.1 = 0 := by
    unfold numF at h
    simpa using h
  unfold numS at h0
  simp only [Int.toNat_natCast] at h0
  rw [if_neg (by omega), if_neg (by simp)] at h0
  by_cases h1 : ((l.length : Int) < (k : Int))
  · rw [if_pos h1] at h0; simp at h0
  · rw [if_neg h1] at h0
    by_cases h2 : 9223372036854775808 ≤ val (l.take k)
    · rw [if_pos h2] at h0; simp at h0
    · have hlk : (l.take k).length = k := by rw [List.length_take]; omega
      have ot := octs_take ho k
      have hv := val_lt ot
      rw [hlk] at hv
      have hle := ble_val _ ot
      rw [hlk] at hle
      have hl : l = le k (val (l.take k)) ++ l.drop k := by rw [hle, List.take_append_drop]
      refine ⟨val (l.take k), l.drop k, hl, ?_, hv, by omega⟩
      have := numF_st k (val (l.take k)) hk hv (by omega) (l.drop k)
      rw [← hl] at this
      exact this
/-- A text that was read well. -/
theorem textF_ok (l : List Nat) (ho : octs l) (m : Nat) (hm : m ≤ 65535) (h : (textF (st l) (m : Int)).2.2 = false) : ∃ s r, l = txt s ++ r ∧ textF (st l) (m : Int) = (s, st r) ∧ s.size ≤ m := by
  have h0 : (textS (l, 0) (m : Int)).2.1 = 0 := by
    unfold textF at h
    simpa using h
  unfold textS at h0
  simp only [] at h0
  rw [if_neg (by omega), if_neg (by simp)] at h0
  by_cases h1 : l.length < 2
  · rw [if_pos h1] at h0; simp at h0
  · rw [if_neg h1] at h0
    by_cases h2 : l.length < 2 + val (l.take 2)
    · rw [if_pos h2] at h0; simp at h0
    · rw [if_neg h2] at h0
      by_cases h3 : (m : Int) < (val (l.take 2) : Int)
      · rw [if_pos h3] at h0; simp at h0
      · obtain ⟨z, hz⟩ : ∃ z, z = val (l.take 2) := ⟨_, rfl⟩
        rw [← hz] at h2 h3
        have ot := octs_take ho 2
        have hle := ble_val _ ot
        rw [show (l.take 2).length = 2 by rw [List.length_take]; omega, ← hz] at hle
        have od : octs ((l.drop 2).take z) := octs_take (fun x hx => ho x (List.mem_of_mem_drop hx)) z
        have hsz : (strOf ((l.drop 2).take z)).size = z := by rw [strOf_size', List.length_take, List.length_drop]; omega
        have hl : l = txt (strOf ((l.drop 2).take z)) ++ (l.drop 2).drop z := by
          unfold txt
          rw [hsz, bbsOf_strOf _ od, List.append_assoc, List.take_append_drop, hle, List.take_append_drop]
        refine ⟨strOf ((l.drop 2).take z), (l.drop 2).drop z, hl, ?_, by omega⟩
        have := textF_st (strOf ((l.drop 2).take z)) m (by omega) hm ((l.drop 2).drop z)
        rw [← hl] at this
        exact this
end Go.Proofs.Ytcmkpmilnplhmaa

/- Entries, read back. -/
namespace Go.Proofs.Ytcmkpmilnplhmaa
open Go.RowKit Crcm

/-- The bytes of c entries from the i-th on. -/
def ensR (m : Nd) : Nat → Nat → List Nat
  | _, 0 => []
  | i, c + 1 => en m i ++ ensR m (i + 1) c
theorem ens_split (m : Nd) (c : Nat) : ∀ i, ens m (i + c) = ens m i ++ ensR m i c := by
  induction c with
  | zero => intro i; simp [ensR]
  | succ c ih =>
    intro i
    rw [show i + (c + 1) = (i + 1) + c by omega, ih (i + 1), ens, ensR, List.append_assoc]
theorem ens_all (m : Nd) : ens m m.keys.length = ensR m 0 m.keys.length := by
  have := ens_split m m.keys.length 0
  simpa [ens] using this
/-- A leaf with more entries. -/
abbrev upL (n : Nd) (K V : List ByteArray) : Nd := { n with keys := n.keys ++ K, vals := n.vals ++ V }
abbrev upI (n : Nd) (K : List ByteArray) (I : List Int) : Nd := { n with keys := n.keys ++ K, kids := n.kids ++ I }
theorem getD_mid {α : Type} (a : List α) (x : α) (b : List α) (d : α) : (a ++ x :: b).getD a.length d = x := by
  rw [List.getD_eq_getElem?_getD, List.getElem?_append_right (Nat.le_refl _)]; simp
theorem upL_up (n : Nd) (k v : ByteArray) (K V : List ByteArray) : upL (upL n [k] [v]) K V = upL n (k :: K) (v :: V) := by
  simp [upL]
theorem upI_up (n : Nd) (k : ByteArray) (v : Int) (K : List ByteArray) (I : List Int) : upI (upI n [k] [v]) K I = upI n (k :: K) (v :: I) := by
  simp [upI]
theorem en_leaf (n : Nd) (h0 : n.lev = 0) (hv : n.vals.length = n.keys.length) (k v : ByteArray) (K V : List ByteArray) : en (upL n (k :: K) (v :: V)) n.keys.length = txt k ++ txt v := by
  unfold en
  rw [if_pos h0, getD_mid]
  simp only []
  rw [← hv, getD_mid]
theorem en_inner (n : Nd) (h0 : ¬ n.lev = 0) (hv : n.kids.length = n.keys.length + 1) (k : ByteArray) (v : Int) (K : List ByteArray) (I : List Int) : en (upI n (k :: K) (v :: I)) n.keys.length = txt k ++ le 4 v.toNat := by
  unfold en
  rw [if_neg h0, getD_mid]
  simp only []
  rw [← hv, getD_mid]
theorem flag_text {s : RF} {m : Int} (h : (textF s m).2.2 = false) : s.2 = false := by
  unfold textF at h; simp only [Bool.or_eq_false_iff] at h; exact h.1
theorem flag_num {s : RF} {m : Int} (h : (numF s m).2.2 = false) : s.2 = false := by
  unfold numF at h; simp only [Bool.or_eq_false_iff] at h; exact h.1
theorem entU_leaf (c : Nat) (n : Nd) (s : RF) : entL true (c + 1) (n, s) = if (textF (textF s 16).2 32).2.2 = true then (upL n [(textF s 16).1] [(textF (textF s 16).2 32).1], (textF (textF s 16).2 32).2) else entL true c (upL n [(textF s 16).1] [(textF (textF s 16).2 32).1], (textF (textF s 16).2 32).2) := by
  rw [entL, if_pos rfl]
theorem entU_inner (c : Nat) (n : Nd) (s : RF) : entL false (c + 1) (n, s) = if (numF (textF s 16).2 4).2.2 = true then (upI n [(textF s 16).1] [(numF (textF s 16).2 4).1], (numF (textF s 16).2 4).2) else entL false c (upI n [(textF s 16).1] [(numF (textF s 16).2 4).1], (numF (textF s 16).2 4).2) := by
  rw [entL, if_neg (by simp)]

theorem leaf_ok (c : Nat) : ∀ (n : Nd) (l : List Nat), octs l → n.lev = 0 → n.vals.length = n.keys.length → (entL true c (n, st l)).2.2 = false →
    ∃ K V r, entL true c (n, st l) = (upL n K V, st r) ∧ K.length = c ∧ V.length = c ∧ l = ensR (upL n K V) n.keys.length c ++ r := by
  induction c with
  | zero => intro n l _ _ _ _; exact ⟨[], [], l, by simp [entL, upL], rfl, rfl, by simp [ensR]⟩
  | succ c ih =>
    intro n l ho h0 hv h
    rw [entU_leaf] at h ⊢
    by_cases hc : (textF (textF (st l) 16).2 32).2.2 = true
    · rw [if_pos hc] at h; rw [hc] at h; cases h
    · rw [if_neg hc] at h ⊢
      have hc2 : (textF (textF (st l) 16).2 32).2.2 = false := by simpa using hc
      have hc1 := flag_text hc2
      obtain ⟨k, r1, hl, e1, _⟩ := textF_ok l ho 16 (by omega) hc1
      rw [show ((16 : Nat) : Int) = 16 from rfl] at e1
      rw [e1] at hc2 h ⊢
      have o1 : octs r1 := fun x hx => ho x (by rw [hl]; exact List.mem_append_right _ hx)
      obtain ⟨v, r2, hl2, e2, _⟩ := textF_ok r1 o1 32 (by omega) hc2
      rw [show ((32 : Nat) : Int) = 32 from rfl] at e2
      simp only [e2] at h ⊢
      have o2 : octs r2 := fun x hx => o1 x (by rw [hl2]; exact List.mem_append_right _ hx)
      obtain ⟨K, V, r, e, hK, hV, hr⟩ := ih (upL n [k] [v]) r2 o2 h0 (by simp [hv]) h
      rw [upL_up] at e hr
      refine ⟨k :: K, v :: V, r, e, by simp [hK], by simp [hV], ?_⟩
      rw [ensR, en_leaf n h0 hv, hl, hl2, hr]
      simp [upL, List.append_assoc]
theorem inner_ok (c : Nat) : ∀ (n : Nd) (l : List Nat), octs l → ¬ n.lev = 0 → n.kids.length = n.keys.length + 1 → (entL false c (n, st l)).2.2 = false →
    ∃ K I r, entL false c (n, st l) = (upI n K I, st r) ∧ K.length = c ∧ I.length = c ∧ l = ensR (upI n K I) n.keys.length c ++ r := by
  induction c with
  | zero => intro n l _ _ _ _; exact ⟨[], [], l, by simp [entL, upI], rfl, rfl, by simp [ensR]⟩
  | succ c ih =>
    intro n l ho h0 hv h
    rw [entU_inner] at h ⊢
    by_cases hc : (numF (textF (st l) 16).2 4).2.2 = true
    · rw [if_pos hc] at h; rw [hc] at h; cases h
    · rw [if_neg hc] at h ⊢
      have hc2 : (numF (textF (st l) 16).2 4).2.2 = false := by simpa using hc
      have hc1 := flag_num hc2
      obtain ⟨k, r1, hl, e1, _⟩ := textF_ok l ho 16 (by omega) hc1
      rw [show ((16 : Nat) : Int) = 16 from rfl] at e1
      rw [e1] at hc2 h ⊢
      have o1 : octs r1 := fun x hx => ho x (by rw [hl]; exact List.mem_append_right _ hx)
      obtain ⟨v, r2, hl2, e2, _, _⟩ := numF_ok r1 o1 4 (by omega) hc2
      rw [show ((4 : Nat) : Int) = 4 from rfl] at e2
      simp only [e2] at h ⊢
      have o2 : octs r2 := fun x hx => o1 x (by rw [hl2]; exact List.mem_append_right _ hx)
      obtain ⟨K, I, r, e, hK, hI, hr⟩ := ih (upI n [k] [(v : Int)]) r2 o2 h0 (by simp [hv]) h
      rw [upI_up] at e hr
      refine ⟨k :: K, (v : Int) :: I, r, e, by simp [hK], by simp [hI], ?_⟩
      rw [ensR, en_inner n h0 hv, hl, hl2, hr, Int.toNat_natCast]
      simp [upI, List.append_assoc]
theorem leaf_fwd (c : Nat) : ∀ (n : Nd) (K V : List ByteArray) (r : List Nat), n.lev = 0 → n.vals.length = n.keys.length → K.length = c → V.length = c → (∀ s ∈ K, s.size ≤ 16) → (∀ s ∈ V, s.size ≤ 32) →
    entL true c (n, st (ensR (upL n K V) n.keys.length c ++ r)) = (upL n K V, st r) := by
  induction c with
  | zero =>
    intro n K V r _ _ hK hV _ _
    rw [List.length_eq_zero_iff.1 hK, List.length_eq_zero_iff.1 hV]
    simp [entL, upL, ensR]
  | succ c ih =>
    intro n K V r h0 hv hK hV sK sV
    obtain ⟨k, K', rfl⟩ := List.exists_cons_of_length_eq_add_one hK
    obtain ⟨v, V', rfl⟩ := List.exists_cons_of_length_eq_add_one hV
    rw [ensR, en_leaf n h0 hv, entU_leaf, List.append_assoc, List.append_assoc]
    have e1 := textF_st k 16 (sK k (by simp)) (by omega) (txt v ++ (ensR (upL n (k :: K') (v :: V')) (n.keys.length + 1) c ++ r))
    rw [show ((16 : Nat) : Int) = 16 from rfl] at e1
    have e2 := textF_st v 32 (sV v (by simp)) (by omega) (ensR (upL n (k :: K') (v :: V')) (n.keys.length + 1) c ++ r)
    rw [show ((32 : Nat) : Int) = 32 from rfl] at e2
    simp only [e1, e2]
    rw [if_neg (by simp)]
    have := ih (upL n [k] [v]) K' V' r h0 (by simp [hv]) (by simpa using hK) (by simpa using hV) (fun s hs => sK s (by simp [hs])) (fun s hs => sV s (by simp [hs]))
    rw [upL_up] at this
    simpa [upL] using this
theorem inner_fwd (c : Nat) : ∀ (n : Nd) (K : List ByteArray) (I : List Int) (r : List Nat), ¬ n.lev = 0 → n.kids.length = n.keys.length + 1 → K.length = c → I.length = c → (∀ s ∈ K, s.size ≤ 16) → (∀ x ∈ I, 0 ≤ x ∧ x ≤ 4096) →
    entL false c (n, st (ensR (upI n K I) n.keys.length c ++ r)) = (upI n K I, st r) := by
  induction c with
  | zero =>
    intro n K I r _ _ hK hI _ _
    rw [List.length_eq_zero_iff.1 hK, List.length_eq_zero_iff.1 hI]
    simp [entL, upI, ensR]
  | succ c ih =>
    intro n K I r h0 hv hK hI sK sI
    obtain ⟨k, K', rfl⟩ := List.exists_cons_of_length_eq_add_one hK
    obtain ⟨v, I', rfl⟩ := List.exists_cons_of_length_eq_add_one hI
    have hvb := sI v (by simp)
    rw [ensR, en_inner n h0 hv, entU_inner, List.append_assoc, List.append_assoc]
    have e1 := textF_st k 16 (sK k (by simp)) (by omega) (le 4 v.toNat ++ (ensR (upI n (k :: K') (v :: I')) (n.keys.length + 1) c ++ r))
    rw [show ((16 : Nat) : Int) = 16 from rfl] at e1
    have e2 := numF_st 4 v.toNat (by omega) (by omega) (by omega) (ensR (upI n (k :: K') (v :: I')) (n.keys.length + 1) c ++ r)
    rw [show ((4 : Nat) : Int) = 4 from rfl, Int.toNat_of_nonneg hvb.1] at e2
    simp only [e1, e2]
    rw [if_neg (by simp)]
    have := ih (upI n [k] [v]) K' I' r h0 (by simp [hv]) (by simpa using hK) (by simpa using hI) (fun s hs => sK s (by simp [hs])) (fun s hs => sI s (by simp [hs]))
    rw [upI_up] at this
    simpa [upI] using this
end Go.Proofs.Ytcmkpmilnplhmaa

/- Nodes and pages, read back. -/
namespace Go.Proofs.Ytcmkpmilnplhmaa
open Go.RowKit Crcm

theorem entL_flag (leaf : Bool) (c : Nat) : ∀ x : Nd × RF, (entL leaf c x).2.2 = false → x.2.2 = false := by
  induction c with
  | zero => intro x h; exact h
  | succ c ih =>
    rintro ⟨n, s⟩ h
    cases leaf
    · rw [entU_inner] at h
      by_cases hc : (numF (textF s 16).2 4).2.2 = true
      · rw [if_pos hc] at h; rw [hc] at h; cases h
      · exact flag_text (flag_num (by simpa using hc))
    · rw [entU_leaf] at h
      by_cases hc : (textF (textF s 16).2 32).2.2 = true
      · rw [if_pos hc] at h; rw [hc] at h; cases h
      · exact flag_text (flag_text (by simpa using hc))
theorem octs_right {a b l : List Nat} (h : octs l) (e : l = a ++ b) : octs b := fun x hx => h x (by rw [e]; exact List.mem_append_right _ hx)

theorem nodeF_eq (s : RF) {y1 y2 y3 y4 : Int × RF} {y5 : ByteArray × RF} (h1 : numF s 1 = y1) (h2 : numF y1.2 8 = y2) (h3 : numF y2.2 4 = y3) (h4 : numF y3.2 2 = y4) (h5 : textF y4.2 16 = y5) :
    nodeF s = if y1.1 = 0 then entL true y4.1.toNat (⟨y1.1, y2.1, y3.1, y5.1, [], [], []⟩, y5.2) else entL false y4.1.toNat (⟨y1.1, y2.1, y3.1, y5.1, [], [], [(numF y5.2 4).1]⟩, (numF y5.2 4).2) := by
  subst h1; subst h2; subst h3; subst h4; subst h5; rfl
theorem node_ok (l : List Nat) (ho : octs l) (h : (nodeF (st l)).2.2 = false) : ∃ m r, nodeF (st l) = (m, st r) ∧ l = nb m ++ r := by
  obtain ⟨y1, h1⟩ : ∃ y, numF (st l) 1 = y := ⟨_, rfl⟩
  obtain ⟨y2, h2⟩ : ∃ y, numF y1.2 8 = y := ⟨_, rfl⟩
  obtain ⟨y3, h3⟩ : ∃ y, numF y2.2 4 = y := ⟨_, rfl⟩
  obtain ⟨y4, h4⟩ : ∃ y, numF y3.2 2 = y := ⟨_, rfl⟩
  obtain ⟨y5, h5⟩ : ∃ y, textF y4.2 16 = y := ⟨_, rfl⟩
  have hn := nodeF_eq (st l) h1 h2 h3 h4 h5
  have g5 : y5.2.2 = false := by
    rw [hn] at h
    by_cases h0 : y1.1 = 0
    · rw [if_pos h0] at h; exact entL_flag _ _ _ h
    · rw [if_neg h0] at h; exact flag_num (entL_flag _ _ _ h)
  have g4 : y4.2.2 = false := flag_text (by rw [h5]; exact g5)
  have g3 : y3.2.2 = false := flag_num (by rw [h4]; exact g4)
  have g2 : y2.2.2 = false := flag_num (by rw [h3]; exact g3)
  have g1 : y1.2.2 = false := flag_num (by rw [h2]; exact g2)
  obtain ⟨v1, l1, e1, q1, _, _⟩ := numF_ok l ho 1 (by omega) (by rw [show ((1 : Nat) : Int) = 1 from rfl, h1]; exact g1)
  rw [show ((1 : Nat) : Int) = 1 from rfl, h1] at q1
  subst q1
  have o1 := octs_right ho e1
  obtain ⟨v2, l2, e2, q2, _, _⟩ := numF_ok l1 o1 8 (by omega) (by rw [show ((8 : Nat) : Int) = 8 from rfl, h2]; exact g2)
  rw [show ((8 : Nat) : Int) = 8 from rfl, h2] at q2
  subst q2
  have o2 := octs_right o1 e2
  obtain ⟨v3, l3, e3, q3, _, _⟩ := numF_ok l2 o2 4 (by omega) (by rw [show ((4 : Nat) : Int) = 4 from rfl, h3]; exact g3)
  rw [show ((4 : Nat) : Int) = 4 from rfl, h3] at q3
  subst q3
  have o3 := octs_right o2 e3
  obtain ⟨v4, l4, e4, q4, _, _⟩ := numF_ok l3 o3 2 (by omega) (by rw [show ((2 : Nat) : Int) = 2 from rfl, h4]; exact g4)
  rw [show ((2 : Nat) : Int) = 2 from rfl, h4] at q4
  subst q4
  have o4 := octs_right o3 e4
  obtain ⟨hi, l5, e5, q5, _⟩ := textF_ok l4 o4 16 (by omega) (by rw [show ((16 : Nat) : Int) = 16 from rfl, h5]; exact g5)
  rw [show ((16 : Nat) : Int) = 16 from rfl, h5] at q5
  subst q5
  have o5 := octs_right o4 e5
  simp only [Int.toNat_natCast] at hn
  rw [hn] at h ⊢
  by_cases h0 : (v1 : Int) = 0
  · rw [if_pos h0] at h ⊢
    obtain ⟨K, V, r, e, hK, hV, hr⟩ := leaf_ok v4 ⟨v1, v2, v3, hi, [], [], []⟩ l5 o5 h0 rfl h
    refine ⟨_, r, e, ?_⟩
    unfold nb hd
    rw [if_pos h0, ens_all]
    simp only [upL, List.nil_append, hK, Int.toNat_natCast, List.append_nil]
    simp only [upL, List.nil_append, List.length_nil] at hr
    rw [e1, e2, e3, e4, e5]
    conv => lhs; rw [hr]
    simp only [List.append_assoc]
  · rw [if_neg h0] at h ⊢
    have g6 := entL_flag _ _ _ h
    obtain ⟨v6, l6, e6, q6, _, _⟩ := numF_ok l5 o5 4 (by omega) g6
    rw [show ((4 : Nat) : Int) = 4 from rfl] at q6
    simp only [q6] at h ⊢
    have o6 := octs_right o5 e6
    obtain ⟨K, I, r, e, hK, hI, hr⟩ := inner_ok v4 ⟨v1, v2, v3, hi, [], [], [(v6 : Int)]⟩ l6 o6 h0 rfl h
    refine ⟨_, r, e, ?_⟩
    unfold nb hd
    rw [if_neg h0, ens_all]
    simp only [upI, List.nil_append, hK, Int.toNat_natCast, List.cons_append, List.getD_cons_zero]
    simp only [upI, List.nil_append, List.length_nil, List.cons_append] at hr
    rw [e1, e2, e3, e4, e5, e6]
    conv => lhs; rw [hr]
    simp only [List.append_assoc]
end Go.Proofs.Ytcmkpmilnplhmaa

/- Pages there and back. -/
namespace Go.Proofs.Ytcmkpmilnplhmaa
open Go.RowKit Crcm

theorem size_of_mem {l : List ByteArray} {m : Nat} (h : ∀ i, i < l.length → (l.getD i ByteArray.empty).size ≤ m) : ∀ s ∈ l, s.size ≤ m := all_of h
theorem kid_of_mem {l : List Int} (h : ∀ i, i < l.length → 1 ≤ l.getD i 0 ∧ l.getD i 0 ≤ 4096) : ∀ x ∈ l, 0 ≤ x ∧ x ≤ 4096 := by
  intro x hx
  obtain ⟨i, hi, he⟩ := List.getElem_of_mem hx
  have := h i hi
  rw [List.getD_eq_getElem?_getD, List.getElem?_eq_getElem hi] at this
  simp only [Option.getD_some] at this
  rw [he] at this; omega
theorem keys_few {n : Nd} (r : Rt n) : n.keys.length < 65536 := by
  have h1 := r.size
  have h2 : n.keys.length ≤ tsz n.keys := by
    generalize n.keys = l
    induction l with
    | nil => simp
    | cons x t ih => simp only [tsz, List.map_cons, List.sum_cons, List.length_cons] at ih ⊢; omega
  unfold sizeN at h1
  omega
theorem node_fwd (n : Nd) (r : Rt n) (z : List Nat) : nodeF (st (nb n ++ z)) = (n, st z) := by
  have hfew := keys_few r
  have a1 := r.lev0
  have a2 := r.lev1
  have a3 := r.lsn0
  have a4 := r.lsn1
  have a5 := r.rgt0
  have a6 := r.rgt1
  have a7 := r.high
  have hk := size_of_mem (fun i hi => (r.keys i hi).1.2)
  obtain ⟨lev, lsn, rgt, hi, keys, vals, kids⟩ := n
  simp only [] at hfew a1 a2 a3 a4 a5 a6 a7 hk
  obtain ⟨v1, rfl⟩ := Int.eq_ofNat_of_zero_le a1
  obtain ⟨v2, rfl⟩ := Int.eq_ofNat_of_zero_le a3
  obtain ⟨v3, rfl⟩ := Int.eq_ofNat_of_zero_le a5
  by_cases h0 : (v1 : Int) = 0
  · obtain ⟨hv, hkd, hx⟩ := r.leaf h0
    have hxs := size_of_mem hx
    simp only [] at hv hkd hxs
    have ek : kids = [] := List.length_eq_zero_iff.1 hkd
    subst ek
    have en0 : nb ⟨v1, v2, v3, hi, keys, vals, []⟩ ++ z = le 1 v1 ++ (le 8 v2 ++ (le 4 v3 ++ (le 2 keys.length ++ (txt hi ++ (ensR ⟨v1, v2, v3, hi, keys, vals, []⟩ 0 keys.length ++ z))))) := by
      unfold nb hd
      rw [if_pos h0, ens_all]
      simp only [Int.toNat_natCast, List.append_nil, List.append_assoc]
    rw [en0]
    have b1 := numF_st 1 v1 (by omega) (by omega) (by omega) (le 8 v2 ++ (le 4 v3 ++ (le 2 keys.length ++ (txt hi ++ (ensR ⟨v1, v2, v3, hi, keys, vals, []⟩ 0 keys.length ++ z)))))
    have b2 := numF_st 8 v2 (by omega) (by omega) (by omega) (le 4 v3 ++ (le 2 keys.length ++ (txt hi ++ (ensR ⟨v1, v2, v3, hi, keys, vals, []⟩ 0 keys.length ++ z))))
    have b3 := numF_st 4 v3 (by omega) (by omega) (by omega) (le 2 keys.length ++ (txt hi ++ (ensR ⟨v1, v2, v3, hi, keys, vals, []⟩ 0 keys.length ++ z)))
    have b4 := numF_st 2 keys.length (by omega) (by omega) (by omega) (txt hi ++ (ensR ⟨v1, v2, v3, hi, keys, vals, []⟩ 0 keys.length ++ z))
    have b5 := textF_st hi 16 a7 (by omega) (ensR ⟨v1, v2, v3, hi, keys, vals, []⟩ 0 keys.length ++ z)
    rw [nodeF_eq _ b1 b2 b3 b4 b5, if_pos h0, Int.toNat_natCast]
    have := leaf_fwd keys.length ⟨v1, v2, v3, hi, [], [], []⟩ keys vals z h0 rfl rfl hv hk hxs
    simpa [upL] using this
  · obtain ⟨hv, hkd, hx⟩ := r.inner h0
    have hxs := kid_of_mem hx
    simp only [] at hv hkd hxs
    have ek : vals = [] := List.length_eq_zero_iff.1 hkd
    subst ek
    obtain ⟨v, I, rfl⟩ := List.exists_cons_of_length_eq_add_one hv
    have hvb := hxs v (by simp)
    obtain ⟨v6, rfl⟩ := Int.eq_ofNat_of_zero_le hvb.1
    have en0 : nb ⟨v1, v2, v3, hi, keys, [], (v6 : Int) :: I⟩ ++ z = le 1 v1 ++ (le 8 v2 ++ (le 4 v3 ++ (le 2 keys.length ++ (txt hi ++ (le 4 v6 ++ (ensR ⟨v1, v2, v3, hi, keys, [], (v6 : Int) :: I⟩ 0 keys.length ++ z)))))) := by
      unfold nb hd
      rw [if_neg h0, ens_all]
      simp only [Int.toNat_natCast, List.append_assoc, List.getD_cons_zero]
    rw [en0]
    have b1 := numF_st 1 v1 (by omega) (by omega) (by omega) (le 8 v2 ++ (le 4 v3 ++ (le 2 keys.length ++ (txt hi ++ (le 4 v6 ++ (ensR ⟨v1, v2, v3, hi, keys, [], (v6 : Int) :: I⟩ 0 keys.length ++ z))))))
    have b2 := numF_st 8 v2 (by omega) (by omega) (by omega) (le 4 v3 ++ (le 2 keys.length ++ (txt hi ++ (le 4 v6 ++ (ensR ⟨v1, v2, v3, hi, keys, [], (v6 : Int) :: I⟩ 0 keys.length ++ z)))))
    have b3 := numF_st 4 v3 (by omega) (by omega) (by omega) (le 2 keys.length ++ (txt hi ++ (le 4 v6 ++ (ensR ⟨v1, v2, v3, hi, keys, [], (v6 : Int) :: I⟩ 0 keys.length ++ z))))
    have b4 := numF_st 2 keys.length (by omega) (by omega) (by omega) (txt hi ++ (le 4 v6 ++ (ensR ⟨v1, v2, v3, hi, keys, [], (v6 : Int) :: I⟩ 0 keys.length ++ z)))
    have b5 := textF_st hi 16 a7 (by omega) (le 4 v6 ++ (ensR ⟨v1, v2, v3, hi, keys, [], (v6 : Int) :: I⟩ 0 keys.length ++ z))
    have b6 := numF_st 4 v6 (by omega) (by omega) (by omega) (ensR ⟨v1, v2, v3, hi, keys, [], (v6 : Int) :: I⟩ 0 keys.length ++ z)
    rw [show ((4 : Nat) : Int) = 4 from rfl] at b6
    rw [nodeF_eq _ b1 b2 b3 b4 b5, if_neg h0, Int.toNat_natCast]
    simp only [b6]
    have := inner_fwd keys.length ⟨v1, v2, v3, hi, [], [], [(v6 : Int)]⟩ keys I z h0 rfl rfl (by simpa using hv) hk (fun x hx => hxs x (by simp [hx]))
    simpa [upI] using this
theorem zeros_all {l : List Nat} (h : zerosB l = true) : l = List.replicate l.length 0 := by
  unfold zerosB at h
  rw [List.all_eq_true] at h
  rw [List.eq_replicate_iff]
  exact ⟨rfl, fun x hx => by simpa using h x hx⟩
theorem zeros_rep (k : Nat) : zerosB (List.replicate k 0) = true := by
  unfold zerosB; rw [List.all_eq_true]; intro x hx; rw [(List.mem_replicate.1 hx).2]; rfl
/-- A right node's page is read back as it. -/
theorem dec_pg (n : Nd) (r : Rt n) (hnb : (nb n).length ≤ 252) : decF (pg n) = some n := by
  have hp := pad_length hnb
  have h4 := le_length 4 (crc (pad (nb n)))
  have hl : (pg n).length = 256 := by unfold pg; rw [List.length_append, hp, h4]
  have ht : (pg n).take 252 = pad (nb n) := by unfold pg; rw [List.take_append_of_le_length (by omega), List.take_of_length_le (by omega)]
  have hd : (pg n).drop 252 = le 4 (crc (pad (nb n))) := by unfold pg; rw [List.drop_append_of_le_length (by omega), List.drop_eq_nil_of_le (by omega), List.nil_append]
  have hop : opened (pg n) = (pad (nb n), 0) := by
    unfold opened
    rw [if_neg (by omega), hl]
    simp only [ht, hd]
    rw [le_le4, val_le4 _ (crc_lt (pad_octs (nb_octs n))), if_pos rfl]
  have hnf := node_fwd n r (List.replicate (252 - (nb n).length) 0)
  have hnf2 : nodeF ((pad (nb n), 0), false) = (n, st (List.replicate (252 - (nb n).length) 0)) := hnf
  unfold decF
  rw [hop]
  simp only [hnf2]
  rw [if_pos]
  refine ⟨hl, trivial, trivial, ?_, (right_iff n).2 r⟩
  rw [List.length_replicate, show 252 - (252 - (nb n).length) = (nb n).length by omega]
  unfold pad
  rw [List.drop_append_of_le_length (Nat.le_refl _), List.drop_eq_nil_of_le (Nat.le_refl _), List.nil_append]
  exact zeros_rep _
/-- What is read is the page of a right node. -/
theorem dec_some (l : List Nat) (ho : octs l) (n : Nd) (h : decF l = some n) : Rt n ∧ l = pg n := by
  unfold decF at h
  by_cases hc : l.length = 256 ∧ (opened l).2 = 0 ∧ (nodeF (((opened l).1, 0), false)).2.2 = false ∧ zerosB ((opened l).1.drop (252 - (nodeF (((opened l).1, 0), false)).2.1.1.length)) = true ∧ rightB (nodeF (((opened l).1, 0), false)).1 = true
  · rw [if_pos hc] at h
    obtain ⟨h1, h2, h3, h4, h5⟩ := hc
    have hv : val (l.drop 252) = crc (l.take 252) := by
      unfold opened at h2
      rw [if_neg (by omega), h1] at h2
      by_cases hv : val (l.drop 252) = crc (l.take 252)
      · exact hv
      · simp [hv] at h2
    have hop : opened l = (l.take 252, 0) := by
      unfold opened
      rw [if_neg (by omega), h1]
      simp only [hv, if_true]
    rw [hop] at h h3 h4 h5
    simp only [] at h h3 h4 h5
    obtain ⟨m, r, e, hl⟩ := node_ok (l.take 252) (octs_take ho 252) h3
    have e' : nodeF ((l.take 252, 0), false) = (m, st r) := e
    rw [e'] at h h4 h5
    simp only [Option.some.injEq] at h h4 h5
    subst h
    have hlen : (nb m).length + r.length = 252 := by
      have := congrArg List.length hl
      rw [List.length_take, h1, List.length_append] at this; omega
    have hr : (l.take 252).drop (252 - r.length) = r := by
      rw [hl, show 252 - r.length = (nb m).length by omega, List.drop_append_of_le_length (Nat.le_refl _), List.drop_eq_nil_of_le (Nat.le_refl _), List.nil_append]
    rw [hr] at h4
    have hz := zeros_all h4
    have hpad : l.take 252 = pad (nb m) := by
      unfold pad
      rw [hl, show 252 - (nb m).length = r.length by omega, ← hz]
    refine ⟨(right_iff m).1 h5, ?_⟩
    have hd4 : (l.drop 252).length = 4 := by rw [List.length_drop]; omega
    have hdr := ble_val (l.drop 252) (fun x hx => ho x (List.mem_of_mem_drop hx))
    rw [hd4, hv, hpad] at hdr
    unfold pg
    rw [hdr, ← hpad, List.take_append_drop]
  · rw [if_neg hc] at h; cases h
theorem decode_good (a : Option Addr) (cap : Nat) (l : List Nat) (hl : l.length = 256) (w : World) (hr : Row w a cap l) (n : Nd) (hd : decF l = some n) :
    Calls Try.prog 47 #[.slice a 256 cap] w fun e w' => ∃ p3 : Pt, e = .returned (.tuple #[(.agg #[.int .i64 n.lev, .int .i64 n.lsn, .int .i64 n.rgt, .string n.high, .slice p3.k n.keys.length p3.kc, .slice p3.v n.vals.length p3.vc, .slice p3.i n.kids.length p3.ic]), .int .i64 0]) ∧ Nod w' n p3 ∧ Fr (fun _ => False) w w' := by
  have h := decode_256 a cap l hl w hr
  unfold DecOut at h
  rw [hd] at h
  exact h.mono fun e w' ⟨p, x, y, z, _⟩ => ⟨p, x, y, z⟩
theorem decode_all (a : Option Addr) (k cap : Nat) (l : List Nat) (hk : k = l.length) (w : World) (hr : Row w a cap l) :
    Calls Try.prog 47 #[.slice a k cap] w fun e w' => ∃ p3 : Pt, e = .returned (.tuple #[(.agg #[.int .i64 ((decF l).getD zn).lev, .int .i64 ((decF l).getD zn).lsn, .int .i64 ((decF l).getD zn).rgt, .string ((decF l).getD zn).high, .slice p3.k ((decF l).getD zn).keys.length p3.kc, .slice p3.v ((decF l).getD zn).vals.length p3.vc, .slice p3.i ((decF l).getD zn).kids.length p3.ic]), .int .i64 (if (decF l).isSome = true then 0 else 60)]) ∧ Nod w' ((decF l).getD zn) p3 ∧ Fr (fun _ => False) w w' := by
  by_cases h : l.length = 256
  · have := decode_256 a cap l h w hr
    rw [hk, h]; exact this.mono fun e w' ⟨p, x, y, z, _⟩ => ⟨p, x, y, z⟩
  · exact (decode_len a k cap l hk h w).mono fun e w' ⟨p, x, y, z, _⟩ => ⟨p, x, y, z⟩
theorem decode_dec (a : Option Addr) (k cap : Nat) (l : List Nat) (hk : k = l.length) (w : World) (hr : Row w a cap l) :
    Calls Try.prog 47 #[.slice a k cap] w fun e w' => DecOut w l e w' := by
  by_cases h : l.length = 256
  · have := decode_256 a cap l h w hr
    rw [hk, h]; exact this
  · exact decode_len a k cap l hk h w
end Go.Proofs.Ytcmkpmilnplhmaa
