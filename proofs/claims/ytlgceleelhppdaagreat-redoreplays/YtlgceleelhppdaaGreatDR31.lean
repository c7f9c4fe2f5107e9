
/- NdRSplit, NdRPar. -/
import Derived.Test.YtlgceleelhppdaaGreatDR19
import Derived.Deep.Cut
import Derived.Test.YtlgceleelhppdaaGreatDR26
import Derived.Test.YtlgceleelhppdaaGreatDR21
import Derived.Test.YtlgceleelhppdaaGreatDR22
import Derived.Deep.DeepCutAuto
/- What the document's Split tells. -/
namespace Go.Proofs.YtlgceleelhppdaaGreat
open Go.RowKit

end Go.Proofs.YtlgceleelhppdaaGreat

/- What the document's Left and Rest lean on. -/
namespace Go.Proofs.YtlgceleelhppdaaGreat
open Go.RowKit

theorem td_more {α : Type} (l : List α) (b j : Nat) (d : α) (hb : b ≤ j) (hj : j < l.length) : (l.take (j + 1)).drop b = (l.take j).drop b ++ [l.getD j d] := by
  rw [take_getD l j d hj, List.drop_append_of_le_length (by simp; omega)]
theorem td_none {α : Type} (l : List α) (b j : Nat) (hb : j ≤ b) : (l.take j).drop b = [] := List.drop_eq_nil_of_le (by simp; omega)
theorem pie_leaf {n : Nd} {b j : Nat} (h0 : n.lev = 0) (hb : b ≤ j) (hj : j < n.keys.length) (hv : j < n.vals.length) : pieceN n b (j + 1) = { pieceN n b j with keys := (pieceN n b j).keys ++ [n.keys.getD j ByteArray.empty], vals := (pieceN n b j).vals ++ [n.vals.getD j ByteArray.empty] } := by
  unfold pieceN
  simp only [if_pos h0]
  rw [td_more _ _ _ ByteArray.empty hb hj, td_more _ _ _ ByteArray.empty hb hv]
theorem pie_inner {n : Nd} {b j : Nat} (h0 : n.lev ≠ 0) (hb : b ≤ j) (hj : j < n.keys.length) (hv : j + 1 < n.kids.length) : pieceN n b (j + 1) = { pieceN n b j with keys := (pieceN n b j).keys ++ [n.keys.getD j ByteArray.empty], kids := (pieceN n b j).kids ++ [n.kids.getD (j + 1) 0] } := by
  unfold pieceN
  simp only [if_neg h0]
  rw [td_more _ _ _ ByteArray.empty hb hj, td_more _ _ _ 0 (by omega) hv]
theorem pie_at {n : Nd} {j : Nat} (h0 : n.lev ≠ 0) (hv : j + 1 < n.kids.length) : pieceN n (j + 1) (j + 1) = { pieceN n (j + 1) j with kids := (pieceN n (j + 1) j).kids ++ [n.kids.getD (j + 1) 0] } := by
  unfold pieceN
  simp only [if_neg h0]
  rw [td_none n.keys (j + 1) (j + 1) (Nat.le_refl _), td_none n.keys (j + 1) j (by omega), td_more n.kids (j + 1) (j + 1) 0 (Nat.le_refl _) hv]
theorem pie_ahead {n : Nd} {b j : Nat} (hb : j < b) (hi : n.lev ≠ 0 → j + 1 < b) : pieceN n b (j + 1) = pieceN n b j := by
  unfold pieceN
  rw [td_none n.keys _ _ (show j + 1 ≤ b by omega), td_none n.keys _ _ (show j ≤ b by omega), td_none n.vals _ _ (show j + 1 ≤ b by omega), td_none n.vals _ _ (show j ≤ b by omega)]
  by_cases h0 : n.lev = 0
  · simp only [if_pos h0]
  · have := hi h0
    simp only [if_neg h0]
    rw [td_none n.kids _ _ (show j + 1 + 1 ≤ b by omega), td_none n.kids _ _ (show j + 1 ≤ b by omega)]
theorem pie_len (n : Nd) (b j : Nat) : (pieceN n b j).keys.length ≤ j ∧ (pieceN n b j).vals.length ≤ j ∧ (pieceN n b j).kids.length ≤ j + 1 := by
  unfold pieceN
  refine ⟨by simp; omega, ?_, ?_⟩
  · by_cases h0 : n.lev = 0
    · simp only [if_pos h0]; simp; omega
    · simp [if_neg h0]
  · by_cases h0 : n.lev = 0
    · simp [if_pos h0]
    · simp only [if_neg h0]; simp; omega
theorem pie_short {n : Nd} (r : Rt n) (b j : Nat) : Short (pieceN n b j) := by
  refine ⟨by have := r.high; show n.high.size ≤ _; omega, fun s hs => Nat.le_trans (size_of_mem (fun i hi => (r.keys i hi).1.2) s (List.mem_of_mem_take (List.mem_of_mem_drop hs))) (by omega), fun s hs => ?_⟩
  unfold pieceN at hs
  by_cases h0 : n.lev = 0
  · simp only [if_pos h0] at hs
    exact Nat.le_trans (size_of_mem (r.leaf h0).2.2 s (List.mem_of_mem_take (List.mem_of_mem_drop hs))) (by omega)
  · simp [if_neg h0] at hs
/-- The loop's relation. -/
def PieR (f : Nat → Nd) (L : Nat) (w2 : World) (i : Value) (wr : World) : Prop := ∃ (j : Nat) (m : Nd) (kv vv iv : Value), j ≤ L ∧ i = .int .i64 j ∧ Bx w2 wr w2.heap.size m kv vv iv ∧ Hid (m = f j)
set_option maxRecDepth 100000 in
set_option maxHeartbeats 1000000 in
theorem rparted_any (n : Nd) (p : Pt) (k : ByteArray) (num : Int) (hk : k.size ≤ maxLen) (w : World) (h : Nod w n p) : Calls Tryz.prog 80 #[(.agg #[.int .i64 n.lev, .int .i64 n.lsn, .int .i64 n.rgt, .string n.high, .slice p.k n.keys.length p.kc, .slice p.v n.vals.length p.vc, .slice p.i n.kids.length p.ic]), .string k, .int .i64 num] w fun e w' => e = .returned (.int .i64 (lrE n k (nuE num))) ∧ Fr (fun _ => False) w w' := by
  have f0 := Fr.box w (.cells #[.int .i64 n.lev, .int .i64 n.lsn, .int .i64 n.rgt, .string n.high, .slice p.k n.keys.length p.kc, .slice p.v n.vals.length p.vc, .slice p.i n.kids.length p.ic] 34)
  have HB : Hid (∀ W, Fr (fun _ => False) (w.alloc (.cells #[.int .i64 n.lev, .int .i64 n.lsn, .int .i64 n.rgt, .string n.high, .slice p.k n.keys.length p.kc, .slice p.v n.vals.length p.vc, .slice p.i n.kids.length p.ic] 34)) W → W.cell? ⟨w.heap.size, 0, none⟩ = some (.int .i64 n.lev) ∧ W.cell? ⟨w.heap.size, 1, none⟩ = some (.int .i64 n.lsn) ∧ W.cell? ⟨w.heap.size, 2, none⟩ = some (.int .i64 n.rgt) ∧ W.cell? ⟨w.heap.size, 3, none⟩ = some (.string n.high) ∧ W.cell? ⟨w.heap.size, 4, none⟩ = some (.slice p.k n.keys.length p.kc) ∧ W.cell? ⟨w.heap.size, 5, none⟩ = some (.slice p.v n.vals.length p.vc) ∧ W.cell? ⟨w.heap.size, 6, none⟩ = some (.slice p.i n.kids.length p.ic)) := fun W f => box_cells (box_at w n p 34 f)
  have hh := high_le h
  have ha := asked_any n p k ⟨#[]⟩ num 2 0 (by omega) hh hk _ (h.same f0)
  rw [show ((evalu (ByteArray.mk #[]).size : Nat) : Int) = 0 from rfl] at ha
  have HOK : Hid (askE n k 0 (nuE num) 0 = 0 → Rt n) := fun h => (ask_ok h).1
  have HE : Hid (lrE n k (nuE num) = if askE n k 0 (nuE num) 0 = 0 then parE n k else askE n k 0 (nuE num) 0) := rfl
  generalize askE n k 0 (nuE num) 0 = ae at *
  generalize lrE n k (nuE num) = le at *
  go_enter Tryz.func80, Tryz.ntmps80
  go_wp2_with fail
  refine ha.mono ?_
  rintro e w1 ⟨rfl, f1⟩
  clear ha
  have F1 := f0.seq' f1
  have hN1 := h.same F1
  obtain ⟨c0, c1, c2, c3, c4, c5, c6⟩ := HB.out _ f1
  by_cases hae : ae = 0
  · subst hae
    have r := HOK.out rfl
    rw [if_pos rfl] at HE
    by_cases h0 : n.lev = 0
    · have hb : (n.lev == 0) = true := by simpa using h0
      rw [parE_leaf h0] at HE
      clear h0 r HOK
      go_wp2
      go_ret
      exact ⟨ret_int HE.out.symm, F1⟩
    · have hb : (n.lev == 0) = false := by simpa using h0
      have HS : Hid (srt n.keys) := r.srt
      have H0 : Hid (n.lev ≠ 0) := h0
      have hkl := hN1.keys.le
      have hkm := hN1.keys.max
      clear h0 r HOK
      go_wp2
      go_loopw [25] (fun i wr => ∃ j : Nat, j ≤ n.keys.length ∧ i = .int .i64 j ∧ Hid (∀ x, x < j → bsOf (n.keys.getD x ByteArray.empty) ≠ bsOf k) ∧ wr = w1) (fun i _ => n.keys.length - (intOf i).toNat)
      case atStart => exact ⟨0, by omega, rfl, (fun x hx => by omega), rfl⟩
      case round =>
        obtain ⟨j, hj, rfl, HX, rfl⟩ := hrel
        by_cases hlt : j < n.keys.length
        · obtain ⟨bk, ok, ek, hbk, hck⟩ := strs_some hN1.keys hlt
          have hkc := hck j hlt
          have hji : (j : Int) < (n.keys.length : Int) := by omega
          have HSB := str_beq (n.keys.getD j ByteArray.empty) k
          by_cases hke : bsOf (n.keys.getD j ByteArray.empty) = bsOf k
          · have HE0 : Hid (le = 0) := by show _ = _; rw [HE.out]; exact parE_hit (by rw [plc_at HS.out j hlt hke])
            rw [decide_eq_true hke] at HSB
            obtain ⟨y, hy⟩ : ∃ y, y = n.keys.getD j ByteArray.empty := ⟨_, rfl⟩
            rw [← hy] at hkc HSB
            clear hy hck hke HX
            rw [ek]
            go_wp2
            go_ret
            exact ⟨ret_int HE0.out.symm, F1⟩
          · rw [decide_eq_false hke] at HSB
            have HKE : Hid (bsOf (n.keys.getD j ByteArray.empty) ≠ bsOf k) := hke
            obtain ⟨y, hy⟩ : ∃ y, y = n.keys.getD j ByteArray.empty := ⟨_, rfl⟩
            rw [← hy] at hkc HSB
            clear hy hck hke
            rw [ek]
            go_wp2
            go_roundw
            case rel =>
              refine ⟨j + 1, by omega, by go_num, fun x hx => ?_, trivial⟩
              rcases Nat.lt_or_ge x j with h2 | h2
              · exact HX.out x h2
              · rw [show x = j by omega]; exact HKE.out
            case measure => simp [intOf]; omega
        · have e : j = n.keys.length := by omega
          have HE0 : Hid (le = 6) := by show _ = _; rw [HE.out]; exact parE_miss H0.out (plc_none HS.out (fun x hx => HX.out x (by omega)))
          subst e
          go_wp2
          go_ret
          exact ⟨ret_int HE0.out.symm, F1⟩
  · have hne : (ae != 0) = true := by simpa using hae
    rw [if_neg hae] at HE
    clear hae
    go_wp2
    go_ret
    exact ⟨ret_int HE.out.symm, F1⟩
theorem lr_ok {n : Nd} {k : ByteArray} {en : Int} (h : lrE n k en = 0) : Rt n ∧ k.size ≤ 16 ∧ (n.lev ≠ 0 → (plc (bsOf k) n.keys).2 = true) := by
  unfold lrE at h
  by_cases e : askE n k 0 en 0 = 0
  · rw [if_pos e] at h
    refine ⟨(ask_ok e).1, (ask_ok e).2.1.2, fun h0 => ?_⟩
    cases hf : (plc (bsOf k) n.keys).2
    · rw [parE_miss h0 hf] at h; omega
    · rfl
  · rw [if_neg e] at h; exact absurd h e
theorem getD_lt' {α : Type} (l : List α) (i : Nat) (d : α) (h : i < l.length) : l.getD i d = l[i] := by rw [List.getD_eq_getElem?_getD, List.getElem?_eq_getElem h]; rfl
end Go.Proofs.YtlgceleelhppdaaGreat
