
/- Pages there and back. -/
import Derived.Test.YtaaedmacefiinaaPgBack3
namespace Go.Proofs.Ytaaedmacefiinaa
open Go.RowKit Crcm

theorem size_of_mem {l : List ByteArray} {m : Nat} (h : ∀ i, i < l.length → (l.getD i ByteArray.empty).size ≤ m) : ∀ s ∈ l, s.size ≤ m := all_of h
theorem kid_of_mem {l : List Int} (h : ∀ i, i < l.length → 1 ≤ l.getD i 0 ∧ l.getD i 0 ≤ 4096) : ∀ x ∈ l, 0 ≤ x ∧ x ≤ 4096 := by
  intro x hx
  obtain ⟨i, hi, he⟩ := List.getElem_of_mem hx
  have := h i hi
  rw [List.getD_eq_getElem?_getD, List.getElem?_eq_getElem hi] at this
  simp only [Option.getD_some] at this
  rw [he] at this; omega
theorem keys_few {n : Nd} (r : Rt n) : n.keys.length < 65536 := by
  have h1 := r.size
  have h2 : n.keys.length ≤ tsz n.keys := by
    generalize n.keys = l
    induction l with
    | nil => simp
    | cons x t ih => simp only [tsz, List.map_cons, List.sum_cons, List.length_cons] at ih ⊢; omega
  unfold sizeN at h1
  omega
theorem node_fwd (n : Nd) (r : Rt n) (z : List Nat) : nodeF (st (nb n ++ z)) = (n, st z) := by
  have hfew := keys_few r
  have a1 := r.lev0
  have a2 := r.lev1
  have a3 := r.lsn0
  have a4 := r.lsn1
  have a5 := r.rgt0
  have a6 := r.rgt1
  have a7 := r.high
  have hk := size_of_mem (fun i hi => (r.keys i hi).1.2)
  obtain ⟨lev, lsn, rgt, hi, keys, vals, kids⟩ := n
  simp only [] at hfew a1 a2 a3 a4 a5 a6 a7 hk
  obtain ⟨v1, rfl⟩ := Int.eq_ofNat_of_zero_le a1
  obtain ⟨v2, rfl⟩ := Int.eq_ofNat_of_zero_le a3
  obtain ⟨v3, rfl⟩ := Int.eq_ofNat_of_zero_le a5
  by_cases h0 : (v1 : Int) = 0
  · obtain ⟨hv, hkd, hx⟩ := r.leaf h0
    have hxs := size_of_mem hx
    simp only [] at hv hkd hxs
    have ek : kids = [] := List.length_eq_zero_iff.1 hkd
    subst ek
    have en0 : nb ⟨v1, v2, v3, hi, keys, vals, []⟩ ++ z = le 1 v1 ++ (le 8 v2 ++ (le 4 v3 ++ (le 2 keys.length ++ (txt hi ++ (ensR ⟨v1, v2, v3, hi, keys, vals, []⟩ 0 keys.length ++ z))))) := by
      unfold nb hd
      rw [if_pos h0, ens_all]
      simp only [Int.toNat_natCast, List.append_nil, List.append_assoc]
    rw [en0]
    have b1 := numF_st 1 v1 (by omega) (by omega) (by omega) (le 8 v2 ++ (le 4 v3 ++ (le 2 keys.length ++ (txt hi ++ (ensR ⟨v1, v2, v3, hi, keys, vals, []⟩ 0 keys.length ++ z)))))
    have b2 := numF_st 8 v2 (by omega) (by omega) (by omega) (le 4 v3 ++ (le 2 keys.length ++ (txt hi ++ (ensR ⟨v1, v2, v3, hi, keys, vals, []⟩ 0 keys.length ++ z))))
    have b3 := numF_st 4 v3 (by omega) (by omega) (by omega) (le 2 keys.length ++ (txt hi ++ (ensR ⟨v1, v2, v3, hi, keys, vals, []⟩ 0 keys.length ++ z)))
    have b4 := numF_st 2 keys.length (by omega) (by omega) (by omega) (txt hi ++ (ensR ⟨v1, v2, v3, hi, keys, vals, []⟩ 0 keys.length ++ z))
    have b5 := textF_st hi 16 a7 (by omega) (ensR ⟨v1, v2, v3, hi, keys, vals, []⟩ 0 keys.length ++ z)
    rw [nodeF_eq _ b1 b2 b3 b4 b5, if_pos h0, Int.toNat_natCast]
    have := leaf_fwd keys.length ⟨v1, v2, v3, hi, [], [], []⟩ keys vals z h0 rfl rfl hv hk hxs
    simpa [upL] using this
  · obtain ⟨hv, hkd, hx⟩ := r.inner h0
    have hxs := kid_of_mem hx
    simp only [] at hv hkd hxs
    have ek : vals = [] := List.length_eq_zero_iff.1 hkd
    subst ek
    obtain ⟨v, I, rfl⟩ := List.exists_cons_of_length_eq_add_one hv
    have hvb := hxs v (by simp)
    obtain ⟨v6, rfl⟩ := Int.eq_ofNat_of_zero_le hvb.1
    have en0 : nb ⟨v1, v2, v3, hi, keys, [], (v6 : Int) :: I⟩ ++ z = le 1 v1 ++ (le 8 v2 ++ (le 4 v3 ++ (le 2 keys.length ++ (txt hi ++ (le 4 v6 ++ (ensR ⟨v1, v2, v3, hi, keys, [], (v6 : Int) :: I⟩ 0 keys.length ++ z)))))) := by
      unfold nb hd
      rw [if_neg h0, ens_all]
      simp only [Int.toNat_natCast, List.append_assoc, List.getD_cons_zero]
    rw [en0]
    have b1 := numF_st 1 v1 (by omega) (by omega) (by omega) (le 8 v2 ++ (le 4 v3 ++ (le 2 keys.length ++ (txt hi ++ (le 4 v6 ++ (ensR ⟨v1, v2, v3, hi, keys, [], (v6 : Int) :: I⟩ 0 keys.length ++ z))))))
    have b2 := numF_st 8 v2 (by omega) (by omega) (by omega) (le 4 v3 ++ (le 2 keys.length ++ (txt hi ++ (le 4 v6 ++ (ensR ⟨v1, v2, v3, hi, keys, [], (v6 : Int) :: I⟩ 0 keys.length ++ z)))))
    have b3 := numF_st 4 v3 (by omega) (by omega) (by omega) (le 2 keys.length ++ (txt hi ++ (le 4 v6 ++ (ensR ⟨v1, v2, v3, hi, keys, [], (v6 : Int) :: I⟩ 0 keys.length ++ z))))
    have b4 := numF_st 2 keys.length (by omega) (by omega) (by omega) (txt hi ++ (le 4 v6 ++ (ensR ⟨v1, v2, v3, hi, keys, [], (v6 : Int) :: I⟩ 0 keys.length ++ z)))
    have b5 := textF_st hi 16 a7 (by omega) (le 4 v6 ++ (ensR ⟨v1, v2, v3, hi, keys, [], (v6 : Int) :: I⟩ 0 keys.length ++ z))
    have b6 := numF_st 4 v6 (by omega) (by omega) (by omega) (ensR ⟨v1, v2, v3, hi, keys, [], (v6 : Int) :: I⟩ 0 keys.length ++ z)
    rw [show ((4 : Nat) : Int) = 4 from rfl] at b6
    rw [nodeF_eq _ b1 b2 b3 b4 b5, if_neg h0, Int.toNat_natCast]
    simp only [b6]
    have := inner_fwd keys.length ⟨v1, v2, v3, hi, [], [], [(v6 : Int)]⟩ keys I z h0 rfl rfl (by simpa using hv) hk (fun x hx => hxs x (by simp [hx]))
    simpa [upI] using this
theorem zeros_all {l : List Nat} (h : zerosB l = true) : l = List.replicate l.length 0 := by
  unfold zerosB at h
  rw [List.all_eq_true] at h
  rw [List.eq_replicate_iff]
  exact ⟨rfl, fun x hx => by simpa using h x hx⟩
theorem zeros_rep (k : Nat) : zerosB (List.replicate k 0) = true := by
  unfold zerosB; rw [List.all_eq_true]; intro x hx; rw [(List.mem_replicate.1 hx).2]; rfl
/-- A right node's page is read back as it. -/
theorem dec_pg (n : Nd) (r : Rt n) (hnb : (nb n).length ≤ 252) : decF (pg n) = some n := by
  have hp := pad_length hnb
  have h4 := le_length 4 (crc (pad (nb n)))
  have hl : (pg n).length = 256 := by unfold pg; rw [List.length_append, hp, h4]
  have ht : (pg n).take 252 = pad (nb n) := by unfold pg; rw [List.take_append_of_le_length (by omega), List.take_of_length_le (by omega)]
  have hd : (pg n).drop 252 = le 4 (crc (pad (nb n))) := by unfold pg; rw [List.drop_append_of_le_length (by omega), List.drop_eq_nil_of_le (by omega), List.nil_append]
  have hop : opened (pg n) = (pad (nb n), 0) := by
    unfold opened
    rw [if_neg (by omega), hl]
    simp only [ht, hd]
    rw [le_le4, val_le4 _ (crc_lt (pad_octs (nb_octs n))), if_pos rfl]
  have hnf := node_fwd n r (List.replicate (252 - (nb n).length) 0)
  have hnf2 : nodeF ((pad (nb n), 0), false) = (n, st (List.replicate (252 - (nb n).length) 0)) := hnf
  unfold decF
  rw [hop]
  simp only [hnf2]
  rw [if_pos]
  refine ⟨hl, trivial, trivial, ?_, (right_iff n).2 r⟩
  rw [List.length_replicate, show 252 - (252 - (nb n).length) = (nb n).length by omega]
  unfold pad
  rw [List.drop_append_of_le_length (Nat.le_refl _), List.drop_eq_nil_of_le (Nat.le_refl _), List.nil_append]
  exact zeros_rep _
/-- What is read is the page of a right node. -/
theorem dec_some (l : List Nat) (ho : octs l) (n : Nd) (h : decF l = some n) : Rt n ∧ l = pg n := by
  unfold decF at h
  by_cases hc : l.length = 256 ∧ (opened l).2 = 0 ∧ (nodeF (((opened l).1, 0), false)).2.2 = false ∧ zerosB ((opened l).1.drop (252 - (nodeF (((opened l).1, 0), false)).2.1.1.length)) = true ∧ rightB (nodeF (((opened l).1, 0), false)).1 = true
  · rw [if_pos hc] at h
    obtain ⟨h1, h2, h3, h4, h5⟩ := hc
    have hv : val (l.drop 252) = crc (l.take 252) := by
      unfold opened at h2
      rw [if_neg (by omega), h1] at h2
      by_cases hv : val (l.drop 252) = crc (l.take 252)
      · exact hv
      · simp [hv] at h2
    have hop : opened l = (l.take 252, 0) := by
      unfold opened
      rw [if_neg (by omega), h1]
      simp only [hv, if_true]
    rw [hop] at h h3 h4 h5
    simp only [] at h h3 h4 h5
    obtain ⟨m, r, e, hl⟩ := node_ok (l.take 252) (octs_take ho 252) h3
    have e' : nodeF ((l.take 252, 0), false) = (m, st r) := e
    rw [e'] at h h4 h5
    simp only [Option.some.injEq] at h h4 h5
    subst h
    have hlen : (nb m).length + r.length = 252 := by
      have := congrArg List.length hl
      rw [List.length_take, h1, List.length_append] at this; omega
    have hr : (l.take 252).drop (252 - r.length) = r := by
      rw [hl, show 252 - r.length = (nb m).length by omega, List.drop_append_of_le_length (Nat.le_refl _), List.drop_eq_nil_of_le (Nat.le_refl _), List.nil_append]
    rw [hr] at h4
    have hz := zeros_all h4
    have hpad : l.take 252 = pad (nb m) := by
      unfold pad
      rw [hl, show 252 - (nb m).length = r.length by omega, ← hz]
    refine ⟨(right_iff m).1 h5, ?_⟩
    have hd4 : (l.drop 252).length = 4 := by rw [List.length_drop]; omega
    have hdr := ble_val (l.drop 252) (fun x hx => ho x (List.mem_of_mem_drop hx))
    rw [hd4, hv, hpad] at hdr
    unfold pg
    rw [hdr, ← hpad, List.take_append_drop]
  · rw [if_neg hc] at h; cases h
theorem decode_good (a : Option Addr) (cap : Nat) (l : List Nat) (hl : l.length = 256) (w : World) (hr : Row w a cap l) (n : Nd) (hd : decF l = some n) :
    Calls Try.prog 15 #[.slice a 256 cap] w fun e w' => ∃ p3 : Pt, e = .returned (.tuple #[(.agg #[.int .i64 n.lev, .int .i64 n.lsn, .int .i64 n.rgt, .string n.high, .slice p3.k n.keys.length p3.kc, .slice p3.v n.vals.length p3.vc, .slice p3.i n.kids.length p3.ic]), .int .i64 0]) ∧ Nod w' n p3 ∧ Fr (fun _ => False) w w' := by
  have h := decode_256 a cap l hl w hr
  unfold DecOut at h
  rw [hd] at h
  exact h
theorem decode_all (a : Option Addr) (k cap : Nat) (l : List Nat) (hk : k = l.length) (w : World) (hr : Row w a cap l) :
    Calls Try.prog 15 #[.slice a k cap] w fun e w' => ∃ p3 : Pt, e = .returned (.tuple #[(.agg #[.int .i64 ((decF l).getD zn).lev, .int .i64 ((decF l).getD zn).lsn, .int .i64 ((decF l).getD zn).rgt, .string ((decF l).getD zn).high, .slice p3.k ((decF l).getD zn).keys.length p3.kc, .slice p3.v ((decF l).getD zn).vals.length p3.vc, .slice p3.i ((decF l).getD zn).kids.length p3.ic]), .int .i64 (if (decF l).isSome = true then 0 else 60)]) ∧ Nod w' ((decF l).getD zn) p3 ∧ Fr (fun _ => False) w w' := by
  by_cases h : l.length = 256
  · have := decode_256 a cap l h w hr
    rw [hk, h]; exact this
  · exact decode_len a k cap l hk h w
end Go.Proofs.Ytaaedmacefiinaa
