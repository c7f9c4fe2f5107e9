
/- Requests that settle, or are left; sessions. -/
import Derived.Test.YtfmjefmocenkbaaSsTake
namespace Go.Proofs.Ytfmjefmocenkbaa
open Go.RowKit

theorem vupd_d (D : List Int) (x : Int) : vupd (dMap D) x (some (.agg #[])) = dMap (D ++ [x]) := by
  funext y
  unfold vupd dMap
  by_cases e : y = x <;> simp [e]
theorem leave_nil (w : World) : Calls Try.prog 14 #[.pointer none] w fun e w' => e = .returned (.slice none 0 0) ∧ Fr (fun _ => False) w w' := by
  have h := take_nil 1099511627776 w
  go_enter Try.func14, Try.ntmps14
  go_wp2_with (go_at_call 27; refine h.mono ?_; rintro e w' ⟨rfl, f⟩)
  go_ret
  exact ⟨rfl, f⟩
theorem tk_most {L : Wt} (h : Ok L) : tkL 1099511627776 L = L ∧ rsL 1099511627776 L = [] := by
  constructor
  · exact List.filter_eq_self.2 fun p hp => by have := rng_iff.1 (h.rg p hp).2; simpa using this.2
  · exact List.filter_eq_nil_iff.2 fun p hp => by have := rng_iff.1 (h.rg p hp).2; simpa using this.2
theorem leave_any {S : Nat → Prop} {b : Nat} {L : Wt} {D : List Int} (w : World) (h : Tb w S b L D) (hL : L.length ≤ 1024) : Calls Try.prog 14 #[.pointer (some ⟨b, 0, none⟩)] w fun e w' => ∃ p c, e = .returned (.slice p (L.map Prod.fst).length c) ∧ Ir w' w.heap.size p c (L.map Prod.fst) ∧ Tb w' S b [] D ∧ Fr S w w' := by
  have hk := tk_most h.ok
  have ht := take_any 1099511627776 w h hL
  obtain ⟨rs, hrs⟩ : ∃ rs, rs = L.map Prod.fst := ⟨_, rfl⟩
  rw [← hrs]
  have HRS : Hid (L.map Prod.fst = rs) := hrs.symm
  clear h hL hrs
  go_enter Try.func14, Try.ntmps14
  go_wp2_with fail
  refine ht.mono ?_
  rintro e w1 ⟨v, rfl, hr, htb, _, hf⟩
  unfold tkR at hr
  rw [hk.1, HRS.out] at hr
  rw [hk.2] at htb
  obtain ⟨p, c, rfl, hir⟩ := Ir.of hr
  clear ht hr hk
  go_wp2
  go_ret
  exact ⟨p, c, rfl, hir, htb, hf⟩
set_option maxRecDepth 100000 in
set_option maxHeartbeats 1000000 in
theorem settle_nil (c : Int) (w : World) : Calls Try.prog 12 #[.pointer none, .int .i64 c] w fun e w' => e = .returned (.slice none 0 0) ∧ Fr (fun _ => False) w w' := by
  have h := take_nil c w
  go_enter Try.func12, Try.ntmps12
  go_wp2_with (go_at_call 27; refine h.mono ?_; rintro e w' ⟨rfl, f⟩)
  refine wp_loop_rounds 1 ?_
  rw [rounds_succ]
  go_wp2
  go_ret
  exact ⟨rfl, f⟩
set_option maxRecDepth 100000 in
set_option maxHeartbeats 4000000 in
theorem settle_any {S : Nat → Prop} {b : Nat} {L : Wt} {D : List Int} (c : Int) (w : World) (h : Tb w S b L D) (hL : L.length ≤ 1024) (hD : D.length + L.length ≤ 90000000) :
    Calls Try.prog 12 #[.pointer (some ⟨b, 0, none⟩), .int .i64 c] w fun e w' => ∃ p k, e = .returned (.slice p (tkR c L).length k) ∧ Ir w' w.heap.size p k (tkR c L) ∧ Tb w' S b (rsL c L) (D ++ tkR c L) ∧ Fr S w w' := by
  have ht := take_any c w h hL
  have HLT : Hid (∀ i, S i → i < w.heap.size) := h.lt
  have HB : Hid (S b) := h.own
  have HWF : Hid (∀ x ∈ tkR c L, wfK x) := fun x hx => by obtain ⟨l, h1, _⟩ := mem_tkR.1 hx; exact rng_wf (h.ok.rg _ h1).1
  have HDL : Hid (D.length + (tkR c L).length ≤ 90000000) := by have := tk_len c L; show _ ≤ _; omega
  obtain ⟨ts, hts⟩ : ∃ ts, ts = tkR c L := ⟨_, rfl⟩
  obtain ⟨R, hR⟩ : ∃ R, R = rsL c L := ⟨_, rfl⟩
  rw [← hts, ← hR]
  rw [← hts] at HWF HDL
  have HTS : Hid (tkR c L = ts) := hts.symm
  have HRR : Hid (rsL c L = R) := hR.symm
  clear h hL hD hts hR
  go_enter Try.func12, Try.ntmps12
  go_wp2_with fail
  refine ht.mono ?_
  rintro e w1 ⟨v, rfl, hr, htb, hmp, hf⟩
  rw [HTS.out] at hr hmp
  rw [HRR.out] at htb hmp
  obtain ⟨p, q, rfl, hir⟩ := Ir.of hr
  have HIR : Hid (Ir w1 w.heap.size p q ts) := hir
  have hq1 := hir.le
  have hq2 := hir.max
  have HT0 : Hid (Tb w1 S b R (D ++ ts.take 0)) := by rw [List.take_zero, List.append_nil]; exact htb
  have HM0 : Hid (ts = [] ∨ Mps w1 S b R (D ++ ts.take 0)) := by rw [List.take_zero, List.append_nil]; exact hmp
  have HF1 : Hid (Fr S w w1) := hf
  clear ht hr htb hmp hf hir HTS HRR
  go_wp2
  go_loopw [13] (fun i wr => ∃ k : Nat, k ≤ ts.length ∧ i = .int .i64 k ∧ Hid (Tb wr S b R (D ++ ts.take k)) ∧ Hid (ts = [] ∨ Mps wr S b R (D ++ ts.take k)) ∧ Hid (Fr S w1 wr)) (fun i _ => ts.length - (intOf i).toNat)
  case atStart => exact ⟨0, by omega, rfl, HT0, HM0, Fr.refl _ _⟩
  case round =>
    obtain ⟨k, hk, rfl, HT, HM, HF⟩ := hrel
    have hir := HIR.out.fr HF.out (fun i hi _ hs => by have := HLT.out i hs; omega)
    by_cases hlt : k < ts.length
    · obtain ⟨b1, rfl, _, _, hcl⟩ := hir.some (by omega)
      obtain ⟨x, hx⟩ : ∃ x, ts[k]? = some x := ⟨_, List.getElem?_eq_getElem hlt⟩
      have hcx := hcl k x hx
      have hwx := HWF.out x (List.mem_of_getElem? hx)
      have htk : ts.take (k + 1) = ts.take k ++ [x] := by rw [List.take_add_one, hx]; rfl
      obtain ⟨m, d, nd, sm, sd, n1, n2, n3, k1, k2, k3, k4⟩ : Mps wr S b R (D ++ ts.take k) := by
        rcases HM.out with h0 | h
        · rw [h0] at hlt; simp at hlt
        · exact h
      obtain ⟨c0, c1, _⟩ := k1.cells
      obtain ⟨w4, hst, hM4, f4⟩ := k3.store Try.underlying59 (by have := HDL.out; simp only [List.length_append, List.length_take] at k4; omega) hwx (.agg #[])
      have hmps : Mps w4 S b R (D ++ ts.take (k + 1)) := by
        rw [vupd_d, List.append_assoc, ← htk] at hM4
        refine ⟨m, d, _, sm, sd, n1, n2, n3, k1.fr f4 n2, k2.fr f4 n3, hM4, ?_⟩
        rw [htk]
        simp only [List.length_append, List.length_cons, List.length_nil] at k4 ⊢
        split <;> omega
      have HT4 : Hid (Tb w4 S b R (D ++ ts.take (k + 1))) := ⟨HT.out.own, fun i hi => Nat.lt_of_lt_of_le (HT.out.lt i hi) f4.size, HT.out.ok, fun y hy => by
        rw [htk, ← List.append_assoc] at hy
        rcases List.mem_append.1 hy with hy | hy
        · exact HT.out.wf y hy
        · simp at hy; subst hy; exact hwx, .inr hmps⟩
      have HM4 : Hid (ts = [] ∨ Mps w4 S b R (D ++ ts.take (k + 1))) := .inr hmps
      have HF4 : Hid (Fr S w1 w4) := HF.out.trans f4 (fun i _ e => by subst e; exact sd)
      have i1 : (k : Int) < (ts.length : Int) := by omega
      clear hir hcl hx hwx htk k1 k2 k3 k4 hM4 f4 hmps HT HM HF n1 n2 n3 sm sd
      go_wp2
      go_roundw
      case rel => exact ⟨k + 1, by omega, by go_num, HT4, HM4, HF4⟩
      case measure => simp [intOf]; omega
    · have hke : k = ts.length := by omega
      subst hke
      have HFT : Hid (Tb wr S b R (D ++ ts)) := by have := HT.out; rw [List.take_length] at this; exact this
      have HFF : Hid (Fr S w wr) := HF1.out.trans HF.out (fun _ _ e => e)
      have HR2 : Hid (Ir wr w.heap.size p q ts) := hir
      clear hir HT HM HF
      go_wp2
      go_ret
      exact ⟨p, q, rfl, HR2.out, HFT.out, HFF.out⟩
end Go.Proofs.Ytfmjefmocenkbaa
