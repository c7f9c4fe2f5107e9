
/- What a disk's do, seen, Lasts, Read and Sync do. -/
import Derived.Test.YtkmjmbpdmgoknaaDisk2
import Derived.BigRegion
namespace Go.Proofs.Ytkmjmbpdmgoknaa
open Go.RowKit
attribute [local go_sem ↓] ld80_eq ld82_eq st80_eq bs75_eq

/-- What writes make of what lasts. -/
def doAll (L : List Sec) (Q : List (Nat × Sec)) : List Sec := Q.foldl (fun L q => L.set q.1 q.2) L
theorem doAll_length (L : List Sec) (Q : List (Nat × Sec)) : (doAll L Q).length = L.length := by
  induction Q generalizing L with
  | nil => rfl
  | cons q Q ih => rw [doAll, List.foldl_cons]; show (doAll (L.set q.1 q.2) Q).length = _; rw [ih, List.length_set]
theorem doAll_snoc (L : List Sec) (Q : List (Nat × Sec)) (q : Nat × Sec) : doAll L (Q ++ [q]) = (doAll L Q).set q.1 q.2 := by simp [doAll]
/-- What is seen at a place. -/
def seen (L : List Sec) (Q : List (Nat × Sec)) (i : Nat) : Sec := Q.foldl (fun s q => if q.1 = i then q.2 else s) (L.getD i zeroSec)
theorem seen_snoc (L : List Sec) (Q : List (Nat × Sec)) (q : Nat × Sec) (i : Nat) : seen L (Q ++ [q]) i = if q.1 = i then q.2 else seen L Q i := by simp [seen]
theorem take_next {α : Type} {Q : List α} {k : Nat} {q : α} (h : Q[k]? = some q) : Q.take (k + 1) = Q.take k ++ [q] := by rw [List.take_add_one, h]; rfl

/-- Where a write that waits lies. -/
theorem Dk.wait {w : World} {db : Nat} {lv wv : Value} {L : List Sec} {Q : List (Nat × Sec)} (h : Dk w db lv wv L Q) {k : Nat} {q : Nat × Sec} (hq : Q[k]? = some q) : ∃ g cap, wv = .slice (some ⟨g, 0, none⟩) Q.length cap ∧ k < Q.length ∧ Q.length ≤ cap ∧
    w.cell? ⟨g, k * 257, none⟩ = some (.int .i64 (q.1 : Nat)) ∧ w.rangeAt g (k * 257 + 1) (sc q.2) ∧ q.1 < L.length := by
  obtain ⟨hk, _⟩ := List.getElem?_eq_some_iff.1 hq
  obtain ⟨g, cap, rfl, _, hc, _⟩ := h.waits.form (by omega)
  have he := h.waits.elem wc_length hq
  have h0 := he 0 (.int .i64 (q.1 : Nat)) (by simp [wc])
  rw [Nat.add_zero] at h0
  exact ⟨g, cap, rfl, hk, hc, h0, range_part 1 he (fun j v hv => by rw [Nat.add_comm]; simpa [wc] using hv), h.at_ q (List.mem_of_getElem? hq)⟩
theorem Dk.last {w : World} {db : Nat} {lv wv : Value} {L : List Sec} {Q : List (Nat × Sec)} (h : Dk w db lv wv L Q) : ∃ g cap, lv = .slice (some ⟨g, 0, none⟩) L.length cap ∧ L.length ≤ cap ∧ g < w.heap.size ∧
    (∀ i, i < L.length → w.rangeAt g (i * 256) (sc (L.getD i zeroSec))) ∧ (∀ i, i < L.length → w.there g (i * 256) 256) := by
  obtain ⟨g, cap, rfl, hg, hc, _, hth, _⟩ := h.lasts.form h.pos
  refine ⟨g, cap, rfl, hc, hg, fun i hi => h.lasts.elem sc_length (by rw [List.getD_eq_getElem?_getD, List.getElem?_eq_getElem hi]; rfl), fun i hi j hj => ?_⟩
  have := hth (i * 256 + j) (by have := Nat.mul_le_mul_right 256 hi; omega)
  rwa [Nat.zero_add] at this
theorem Dk.put {w : World} {db g cap : Nat} {wv : Value} {L : List Sec} {Q : List (Nat × Sec)} (h : Dk w db (.slice (some ⟨g, 0, none⟩) L.length cap) wv L Q) {i : Nat} (hi : i < L.length) (s : Sec) :
    Dk (w.setCells g (i * 256) (sc s)) db (.slice (some ⟨g, 0, none⟩) L.length cap) wv (L.set i s) Q := by
  have F : Fr (fun k => k = g) w (w.setCells g (i * 256) (sc s)) := Fr.setCells (S := fun k => k = g) (a := w) (b := g) (fun _ => rfl) _ _ (Fr.refl _ w)
  exact ⟨F.block_eq h.box (fun e => h.ne1 (by rw [e]; rfl)), (by rw [List.length_set]; exact h.lasts.put sc_length hi s), h.waits.fr F (fun k hk e => h.ne3 g rfl (by rw [← e]; exact hk)), h.ne1, h.ne2, h.ne3, (by rw [List.length_set]; exact h.at_), (by rw [List.length_set]; exact h.pos), (by rw [List.length_set]; exact h.top)⟩

section
variable (db : Nat) (lv wv : Value) (L : List Sec) (Q : List (Nat × Sec)) (w : World)
set_option maxRecDepth 100000 in
set_option maxHeartbeats 1000000 in
theorem do_any (h : Dk w db lv wv L Q) (n : Nat) (hn : n ≤ Q.length) : Calls Try.prog 17 #[.pointer (some ⟨db, 0, none⟩), .int .i64 n] w fun e w' => e = .returned (.tuple #[]) ∧
    Dk w' db lv wv (doAll L (Q.take n)) Q ∧ Fr (fun k => lv.ownBlock = some k) w w' := by
  go_enter Try.func17, Try.ntmps17
  go_wp2
  go_loopw [6] (fun i wr => ∃ k : Nat, k ≤ n ∧ i = .int .i64 k ∧ Dk wr db lv wv (doAll L (Q.take k)) Q ∧ Fr (fun k => lv.ownBlock = some k) w wr)
    (fun i _ => n - (intOf i).toNat)
  case atStart => exact ⟨0, by omega, rfl, h, Fr.refl _ _⟩
  case round =>
    obtain ⟨k, hk, rfl, hd, hf⟩ := hrel
    by_cases hlt : k < n
    · obtain ⟨q, hq⟩ : ∃ q, Q[k]? = some q := ⟨_, List.getElem?_eq_getElem (by omega)⟩
      have HT : Hid (doAll L (Q.take (k + 1)) = (doAll L (Q.take k)).set q.1 q.2) := by
        show _ = _
        rw [take_next hq, doAll_snoc]
      obtain ⟨gw, cw, hwv, _, hcw, c0, hr0, hlen⟩ := hd.wait hq
      obtain ⟨gl, cl, hlv, hcl, hgl, _, hth⟩ := hd.last
      have hb0 := hd.cell0
      have hb1 := hd.cell1
      have hput := hlv ▸ hd
      obtain ⟨at_, s⟩ := q
      simp only at c0 hr0 hlen HT
      generalize doAll L (Q.take k) = M at *
      subst hwv hlv
      have hld := ld80_at (s := s) (show wr.drew.rangeAt gw (k * 257 + 1) (sc s) from hr0)
      have hst := st80_at (w := wr.drew) s (show wr.drew.there gl (at_ * 256) 256 from hth at_ hlen)
      have hki : (k : Int) < (Q.length : Int) := by omega
      have hai : (at_ : Int) < (M.length : Int) := by omega
      have hp := (hput.same ((Fr.refl (fun _ => False) wr).drew)).put hlen s
      have hQm : Q.length ≤ 9223372036854775807 := by
        obtain ⟨_, _, _, h1, h2⟩ := hd.waits.slice
        unfold maxLen at h2; omega
      clear hth hr0 hq
      go_wp2
      go_region
      all_goals
        go_wp2
        go_roundw
        case rel =>
          refine ⟨k + 1, by omega, by go_num, ?_, ?_⟩
          · rw [HT.out]
            exact hp
          · exact (Fr.setCells (S := fun k => (Value.slice (some ⟨gl, 0, none⟩) M.length cl).ownBlock = some k) (a := w) (b := gl) (fun _ => rfl) _ _ hf.drew)
        case measure => simp [intOf]; omega
    · have : k = n := by omega
      subst this
      go_wp2
      go_end0
      exact ⟨rfl, hd, hf⟩

set_option maxRecDepth 100000 in
set_option maxHeartbeats 1000000 in
theorem seen_any (h : Dk w db lv wv L Q) (i : Nat) (hi : i < L.length) : Calls Try.prog 22 #[.pointer (some ⟨db, 0, none⟩), .int .i64 i] w fun e w' => e = .returned (.agg (sc (seen L Q i)).toArray) ∧ Fr (fun _ => False) w w' := by
  obtain ⟨i80, hi80, hz80, hs80, hb80⟩ := info_parts info80
  have F0 : Fr (fun _ => False) w (w.alloc (.cells (sc zeroSec).toArray 53)) := (Fr.refl (fun _ => False) w).alloc _
  have hd := h.same F0
  have hb0 := hd.cell0
  have hb1 := hd.cell1
  obtain ⟨aw, cw, hwv, hcw, hcm⟩ := hd.waits.slice
  obtain ⟨gl, cl, hlv, hcl, hgl, hrl, _⟩ := hd.last
  rw [hwv] at hb1
  rw [hlv] at hb0
  have H1 : Hid (Try.prog.info? 53 = some i80) := hi80
  have H2 : Hid (i80.zero = some (.agg (sc zeroSec).toArray)) := hz80
  have H5 : Hid ((Try.prog.info? 53).map (·.size) = some 256) := size80
  have HI : Hid (i < L.length) := hi
  have hM : Q.length ≤ 9223372036854775807 := by have := Nat.le_trans hcw hcm; unfold maxLen at this; omega
  have HM : Hid (Q.length ≤ 9223372036854775807) := hM
  have hQm : (Q.length : Int) ≤ 9223372036854775807 := by have := HM.out; omega
  have hii : (i : Int) < (L.length : Int) := by omega
  clear hi hi80 hz80 hs80 hb80 hM
  go_enter Try.func22, Try.ntmps22
  go_wp2_with (refine wpList_alloc rfl 53 rfl i80 _ H1.out H2.out ?_)
  go_loopw [5] (fun t wr => ∃ k : Nat, k ≤ Q.length ∧ t = .int .i64 ((k : Int) - 1) ∧ seen L (Q.take k) i = seen L Q i ∧ wr = w.alloc (.cells (sc zeroSec).toArray 53))
    (fun t _ => ((intOf t) + 1).toNat)
  case atStart => exact ⟨Q.length, Nat.le_refl _, rfl, by rw [List.take_length], rfl⟩
  case round =>
    obtain ⟨k, hk, rfl, hs, rfl⟩ := hrel
    have HS : Hid (seen L (Q.take k) i = seen L Q i) := hs
    clear hs
    cases k with
    | zero =>
      have hld := ld80_at (s := L.getD i zeroSec) (hrl i HI.out)
      have hs : seen L Q i = L.getD i zeroSec := by rw [← HS.out]; rfl
      rw [hs]
      generalize L.getD i zeroSec = s at *
      go_wp2_with (refine wpList_store_new rfl 53 _ _ rfl _ _ rfl rfl (by rw [List.size_toArray, sc_length]; exact H5.out) (by rw [List.size_toArray, List.size_toArray, sc_length, sc_length]) (all_oneCell_toArray (sc_one _)) ?_)
      refine bodyPost_ret (v := .agg (sc s).toArray) (results_cell_row rfl _ _ w.heap.size 53 (sc s).toArray (0, 0) _ rfl (heap_alloc_new w _) Try.underlying53 rfl (by rw [List.size_toArray, sc_length]; exact H5.out)) rfl ⟨by first | rfl | rw [hs], (Fr.refl (fun _ => False) w).alloc _⟩
    | succ k =>
      obtain ⟨q, hq⟩ : ∃ q, Q[k]? = some q := ⟨_, List.getElem?_eq_getElem (by omega)⟩
      obtain ⟨gw, cw', hw2, _, _, c0, hr0, hlen⟩ := hd.wait hq
      rw [hwv] at hw2
      simp only [Value.slice.injEq, true_and] at hw2
      obtain ⟨rfl, rfl⟩ := hw2
      have HS2 : Hid (seen L Q i = if q.1 = i then q.2 else seen L (Q.take k) i) := by
        show _ = _
        rw [← HS.out, take_next hq, seen_snoc]
      obtain ⟨at_, s⟩ := q
      simp only at c0 hr0 hlen HS2
      have hki : (k : Int) < (Q.length : Int) := by omega
      have hsub : ((k + 1 : Nat) : Int) - 1 = (k : Int) := by omega
      rw [hsub]
      have hld := ld80_at (s := s) hr0
      clear hq hsub
      by_cases hat : at_ = i
      · have hs : seen L Q i = s := by rw [HS2.out, if_pos hat]
        subst hat
        go_wp2_with (refine wpList_store_new rfl 53 _ _ rfl _ _ rfl rfl (by rw [List.size_toArray, sc_length]; exact H5.out) (by rw [List.size_toArray, List.size_toArray, sc_length, sc_length]) (all_oneCell_toArray (sc_one _)) ?_)
        refine bodyPost_ret (v := .agg (sc s).toArray) (results_cell_row rfl _ _ w.heap.size 53 (sc s).toArray (0, 0) _ rfl (heap_alloc_new w _) Try.underlying53 rfl (by rw [List.size_toArray, sc_length]; exact H5.out)) rfl ⟨by first | rfl | rw [hs], (Fr.refl (fun _ => False) w).alloc _⟩
      · have hne : ((at_ : Int) == (i : Int)) = false := by simp; omega
        have HS3 : Hid (seen L Q i = seen L (Q.take k) i) := by
          show _ = _
          rw [HS2.out, if_neg hat]
        clear hat hld
        go_wp2
        go_roundw
        case rel => exact ⟨k, by omega, by go_num, HS3.out.symm, trivial⟩
        case measure => simp [intOf]
end
end Go.Proofs.Ytkmjmbpdmgoknaa
