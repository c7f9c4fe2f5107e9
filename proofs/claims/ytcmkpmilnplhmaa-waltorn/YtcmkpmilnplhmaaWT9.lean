
/- PgEnc, PgEnc2. -/
import Derived.Test.YtcmkpmilnplhmaaWT3
import Derived.Test.YtcmkpmilnplhmaaWT7
import Derived.Test.YtcmkpmilnplhmaaWT8
/- A node's bytes; what page.bytesOf and page.sumOf make. -/
namespace Go.Proofs.Ytcmkpmilnplhmaa
open Go.RowKit Crcm

def txt (s : ByteArray) : List Nat := le 2 s.size ++ bsOf s
theorem txt_length (s : ByteArray) : (txt s).length = s.size + 2 := by simp [txt, le_length, bsOf_length]; omega
/-- What a node's bytes begin with. -/
def hd (n : Nd) : List Nat := le 1 n.lev.toNat ++ le 8 n.lsn.toNat ++ le 4 n.rgt.toNat ++ le 2 n.keys.length ++ txt n.high ++ (if n.lev = 0 then [] else le 4 (n.kids.getD 0 0).toNat)
/-- An entry's bytes. -/
def en (n : Nd) (i : Nat) : List Nat := txt (n.keys.getD i ByteArray.empty) ++ (if n.lev = 0 then txt (n.vals.getD i ByteArray.empty) else le 4 (n.kids.getD (i + 1) 0).toNat)
def ens (n : Nd) : Nat → List Nat
  | 0 => []
  | k + 1 => ens n k ++ en n k
/-- A node's bytes. -/
def nb (n : Nd) : List Nat := hd n ++ ens n n.keys.length
def pad (l : List Nat) : List Nat := l ++ List.replicate (252 - l.length) 0
/-- A node's page. -/
def pg (n : Nd) : List Nat := pad (nb n) ++ le 4 (crc (pad (nb n)))

theorem tsz_take_le (l : List ByteArray) (k : Nat) : tsz (l.take k) ≤ tsz l := by
  induction l generalizing k with
  | nil => simp [tsz]
  | cons x r ih => cases k with
    | zero => simp [tsz]
    | succ k =>
      have := ih k
      have e1 : tsz ((x :: r).take (k + 1)) = (x.size + 2) + tsz (r.take k) := by simp [tsz]
      have e2 : tsz (x :: r) = (x.size + 2) + tsz r := by simp [tsz]
      omega
theorem hd_length (n : Nd) : (hd n).length = 17 + n.high.size + (if n.lev = 0 then 0 else 4) := by
  unfold hd
  simp only [List.length_append, le_length, txt_length]
  split
  · simp; omega
  · rw [le_length]; omega
theorem ens_leaf (n : Nd) (h : n.lev = 0) (k : Nat) (hk : k ≤ n.keys.length) (hv : k ≤ n.vals.length) : (ens n k).length = tsz (n.keys.take k) + tsz (n.vals.take k) := by
  induction k with
  | zero => simp [ens, tsz]
  | succ k ih =>
    rw [ens, List.length_append, ih (by omega) (by omega), tsz_snoc _ _ (by omega), tsz_snoc _ _ (by omega)]
    simp only [en, if_pos h, List.length_append, txt_length]; omega
theorem ens_inner (n : Nd) (h : ¬ n.lev = 0) (k : Nat) (hk : k ≤ n.keys.length) : (ens n k).length = tsz (n.keys.take k) + 4 * k := by
  induction k with
  | zero => simp [ens, tsz]
  | succ k ih =>
    rw [ens, List.length_append, ih (by omega), tsz_snoc _ _ (by omega)]
    simp only [en, if_neg h, List.length_append, txt_length, le_length]; omega
/-- What a right node is, at hand. -/
structure Rt (n : Nd) : Prop where
  lev0 : 0 ≤ n.lev
  lev1 : n.lev ≤ 20
  lsn0 : 0 ≤ n.lsn
  lsn1 : n.lsn ≤ 1099511627776
  rgt0 : 0 ≤ n.rgt
  rgt1 : n.rgt ≤ 4096
  high : n.high.size ≤ 16
  keys : ∀ i, i < n.keys.length → kok n.high n.keys i
  leaf : n.lev = 0 → n.vals.length = n.keys.length ∧ n.kids.length = 0 ∧ ∀ i, i < n.vals.length → (n.vals.getD i ByteArray.empty).size ≤ 32
  inner : n.lev ≠ 0 → n.kids.length = n.keys.length + 1 ∧ n.vals.length = 0 ∧ ∀ i, i < n.kids.length → 1 ≤ n.kids.getD i 0 ∧ n.kids.getD i 0 ≤ 4096
  size : sizeN n ≤ 256
theorem right_iff (n : Nd) : rightB n = true ↔ Rt n := by
  unfold rightB headB
  simp only [Bool.and_eq_true, decide_eq_true_eq, wthB]
  constructor
  · rintro ⟨⟨a, b, c, d⟩, e, f, g⟩
    refine ⟨a.1, a.2, b.1, b.2, c.1, c.2, d, keysB_of e, ?_, ?_, g⟩
    · intro h; unfold entB at f; rw [if_pos h] at f; simp only [Bool.and_eq_true, beq_iff_eq] at f; exact ⟨f.1, f.2.1, valsB_of f.2.2⟩
    · intro h; unfold entB at f; rw [if_neg h] at f; simp only [Bool.and_eq_true, beq_iff_eq] at f
      exact ⟨f.1, f.2.1, fun i hi => by have := kidsB_of f.2.2 i hi; simpa [wthB] using this⟩
  · rintro ⟨a, b, c, d, e, f, g, hk, hl, hi, hs⟩
    refine ⟨⟨⟨a, b⟩, ⟨c, d⟩, ⟨e, f⟩, g⟩, keysB_yes hk, ?_, hs⟩
    unfold entB
    by_cases h : n.lev = 0
    · rw [if_pos h]; obtain ⟨x, y, z⟩ := hl h; simp [x, y, valsB_yes z]
    · rw [if_neg h]; obtain ⟨x, y, z⟩ := hi h; simp only [Bool.and_eq_true, beq_iff_eq]
      exact ⟨x, y, kidsB_yes (fun i hi => by simpa [wthB] using z i hi)⟩
theorem nb_length {n : Nd} (h : Rt n) : (nb n).length + 4 = sizeN n := by
  unfold nb sizeN
  rw [List.length_append, hd_length]
  by_cases h0 : n.lev = 0
  · obtain ⟨x, y, _⟩ := h.leaf h0
    rw [if_pos h0, if_pos h0, ens_leaf n h0 _ (Nat.le_refl _) (by omega), List.take_length, ← x, List.take_length]; omega
  · obtain ⟨x, y, _⟩ := h.inner h0
    rw [if_neg h0, if_neg h0, ens_inner n h0 _ (Nat.le_refl _), List.take_length]; omega
theorem part_length {n : Nd} (h : Rt n) (k : Nat) (hk : k ≤ n.keys.length) : (hd n ++ ens n k).length ≤ 252 := by
  have hn := nb_length h
  have hs := h.size
  have : (ens n k).length ≤ (ens n n.keys.length).length := by
    by_cases h0 : n.lev = 0
    · obtain ⟨x, y, _⟩ := h.leaf h0
      rw [ens_leaf n h0 _ hk (by omega), ens_leaf n h0 _ (Nat.le_refl _) (by omega), List.take_length, ← x, List.take_length]
      have := tsz_take_le n.keys k; have := tsz_take_le n.vals k; omega
    · rw [ens_inner n h0 _ hk, ens_inner n h0 _ (Nat.le_refl _), List.take_length]
      have := tsz_take_le n.keys k; omega
  unfold nb at hn
  rw [List.length_append] at hn ⊢
  omega
theorem octs_nil : octs [] := fun x hx => by cases hx
theorem le_octs' (k n : Nat) : octs (le k n) := by
  induction k with
  | zero => exact octs_nil
  | succ k ih => exact octs_app ih (fun x hx => by simp at hx; omega)
theorem txt_octs (s : ByteArray) : octs (txt s) := octs_app (le_octs' _ _) (bsOf_octs _)
theorem hd_octs (n : Nd) : octs (hd n) := by
  unfold hd
  refine octs_app (octs_app (octs_app (octs_app (octs_app (le_octs' _ _) (le_octs' _ _)) (le_octs' _ _)) (le_octs' _ _)) (txt_octs _)) ?_
  split
  · exact octs_nil
  · exact le_octs' _ _
theorem ens_octs (n : Nd) (k : Nat) : octs (ens n k) := by
  induction k with
  | zero => exact octs_nil
  | succ k ih =>
    refine octs_app ih (octs_app (txt_octs _) ?_)
    split
    · exact txt_octs _
    · exact le_octs' _ _
theorem nb_octs (n : Nd) : octs (nb n) := octs_app (hd_octs n) (ens_octs n _)
theorem pad_octs {l : List Nat} (h : octs l) : octs (pad l) := octs_app h (fun x hx => by rw [List.mem_replicate] at hx; omega)
theorem pg_octs (n : Nd) : octs (pg n) := octs_app (pad_octs (nb_octs n)) (le_octs' _ _)
theorem pad_length {l : List Nat} (h : l.length ≤ 252) : (pad l).length = 252 := by simp [pad]; omega

/-- A writer that is the first block behind W0, and holds l. -/
def Wst (W0 w : World) (l : List Nat) : Prop := ∃ v, Wr w (W0.heap.size + 1) W0.heap.size v l ∧ Fr (fun _ => False) W0 w
theorem Wst.fr {W0 w : World} {l : List Nat} (h : Wst W0 w l) : Fr (fun _ => False) W0 w := by obtain ⟨v, _, f⟩ := h; exact f
theorem Wst.same {W0 w w' : World} {l : List Nat} (h : Wst W0 w l) (f : Fr (fun _ => False) w w') : Wst W0 w' l := by
  obtain ⟨v, hw, hf⟩ := h
  exact ⟨v, hw.fr f (fun f => f) (fun _ _ f => f), hf.seq' f⟩
theorem new_st (W0 : World) : Calls Try.prog 25 #[] W0 fun e w' => e = .returned (.pointer (some ⟨W0.heap.size, 0, none⟩)) ∧ Wst W0 w' [] := by
  refine (new_any W0).mono ?_
  rintro e w' ⟨rfl, rfl⟩
  exact ⟨rfl, _, Wr.new W0, (Fr.refl _ _).alloc _⟩
theorem wnum_st (W0 w : World) (b : Nat) (hb : W0.heap.size = b) (l : List Nat) (x : Int) (size : Nat) (hfit : fit x size) (hl : l.length ≤ 100000) (h : Wst W0 w l) :
    Calls Try.prog 39 #[.pointer (some ⟨b, 0, none⟩), .int .i64 x, .int .i64 size] w fun e w' => e = .returned (.int .i64 0) ∧ Wst W0 w' (l ++ le size x.toNat) := by
  subst hb
  obtain ⟨v, hw, hf⟩ := h
  obtain ⟨m, rfl⟩ := Int.eq_ofNat_of_zero_le hfit.1
  have hlt := lt_of_block hw.box
  refine (wnum_yes m size hfit _ _ v l w hw (by omega) (by omega)).mono ?_
  rintro e w' ⟨rfl, v', hw', hf', _⟩
  exact ⟨rfl, v', hw', hf.above hf' (fun i hi => hw.ge hi)⟩
theorem wtext_st (W0 w : World) (b : Nat) (hb : W0.heap.size = b) (l : List Nat) (s : ByteArray) (hs : s.size ≤ 65535) (hl : l.length ≤ 100000) (h : Wst W0 w l) :
    Calls Try.prog 26 #[.pointer (some ⟨b, 0, none⟩), .string s] w fun e w' => e = .returned (.int .i64 0) ∧ Wst W0 w' (l ++ txt s) := by
  subst hb
  obtain ⟨v, hw, hf⟩ := h
  have hlt := lt_of_block hw.box
  refine (text_ok s hs _ _ v l w hw (by omega) (by omega)).mono ?_
  rintro e w' ⟨rfl, v', hw', hf', _⟩
  exact ⟨rfl, v', by unfold txt; rw [← List.append_assoc]; exact hw', hf.above hf' (fun i hi => hw.ge hi)⟩
theorem wbytes_st (W0 w : World) (b : Nat) (hb : W0.heap.size = b) (l : List Nat) (ho : octs l) (hl : l.length ≤ 100000) (h : Wst W0 w l) :
    Calls Try.prog 29 #[.pointer (some ⟨b, 0, none⟩)] w fun e w' => ∃ v', e = .returned v' ∧ Made w w' v' l := by
  subst hb
  obtain ⟨v, hw, hf⟩ := h
  exact bytes_any _ _ v l ho (by omega) w hw
end Go.Proofs.Ytcmkpmilnplhmaa

/- What page.bytesOf and page.sumOf make. -/
namespace Go.Proofs.Ytcmkpmilnplhmaa
open Go.RowKit Crcm

theorem Made.of {a b c : World} {v : Value} {l : List Nat} (f : Fr (fun _ => False) a b) (m : Made b c v l) : Made a c v l := by
  refine ⟨⟨m.own.1, ?_⟩, f.seq' m.fr⟩
  rcases m.own.2 with h | ⟨g, cap, cur, hv, hg, r⟩
  · exact .inl h
  · exact .inr ⟨g, cap, cur, hv, Nat.le_trans f.size hg, r⟩
theorem fit1 {x : Int} (h0 : 0 ≤ x) (h1 : x ≤ 20) : fit x ((1 : Nat) : Int) := ⟨h0, .inl ⟨rfl, by omega⟩⟩
theorem fit2 {x : Int} (h0 : 0 ≤ x) (h1 : x ≤ 252) : fit x ((2 : Nat) : Int) := ⟨h0, .inr (.inl ⟨rfl, by omega⟩)⟩
theorem fit4' {x : Int} (h0 : 0 ≤ x) (h1 : x ≤ 4096) : fit x ((4 : Nat) : Int) := ⟨h0, .inr (.inr (.inl ⟨rfl, by omega⟩))⟩
theorem fit8 {x : Int} (h0 : 0 ≤ x) : fit x ((8 : Nat) : Int) := ⟨h0, .inr (.inr (.inr rfl))⟩
theorem keys_small {n : Nd} (h : Rt n) : n.keys.length ≤ 252 := by
  have a := nb_length h
  have b := h.size
  have c : n.keys.length ≤ tsz n.keys := by
    generalize n.keys = l
    induction l with
    | nil => simp
    | cons x r ih =>
      have e2 : tsz (x :: r) = (x.size + 2) + tsz r := by simp [tsz]
      rw [e2, List.length_cons]; omega
  unfold sizeN at b; omega

end Go.Proofs.Ytcmkpmilnplhmaa
