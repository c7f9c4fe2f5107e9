
/- latticelaw03.speaks answers true. -/
import Derived.Test.YtkmjmbpdmgoknaaDisk5
import Derived.Lib.SlBytesConst
namespace Go.Proofs.Ytkmjmbpdmgoknaa
open Go.RowKit

theorem row_lit {w : World} {b : Nat} {l : List Nat} {fr : Nat × Nat} (hl : octs l) (hs : l.length ≤ 140737488355328) (h : w.heap[b]? = some (.cells (cellsOf l).toArray 5 fr)) : Row w (some ⟨b, 0, none⟩) l.length l :=
  ⟨Nat.le_refl _, by omega, hs, hl, .inr ⟨b, 0, rfl, lt_of_block h, fun i hi => by
    rw [cell_of_row w b (0 + i) _ _ _ h, Nat.zero_add, List.getElem?_toArray, cellsOf_get l i hi]⟩⟩
/-- The first bytes of a row. -/
theorem Row.first {w : World} {a : Option Addr} {c : Nat} {l : List Nat} (h : Row w a c l) (k : Nat) : Row w a c (l.take k) := by
  refine ⟨by have := h.le; rw [List.length_take]; omega, h.max, by have := h.small; rw [List.length_take]; omega, octs_take h.byte k, ?_⟩
  rcases h.at_ with h0 | ⟨b, off, rfl, hb, hc⟩
  · exact .inl (by rw [h0]; simp)
  · refine .inr ⟨b, off, rfl, hb, fun i hi => ?_⟩
    have hi2 : i < l.length ∧ i < k := by rw [List.length_take] at hi; omega
    rw [hc i hi2.1]
    rw [List.getD_eq_getElem?_getD, List.getD_eq_getElem?_getD, List.getElem?_take, if_pos hi2.2]

/-- A disk that is new to w0, all else as it was there. -/
structure DkA (w0 w : World) (db : Nat) (lv wv : Value) (L : List Sec) (Q : List (Nat × Sec)) : Prop where
  dk : Dk w db lv wv L Q
  low : ∀ k, dkS db lv wv k → w0.heap.size ≤ k
  fr : Fr (fun _ => False) w0 w
theorem DkA.same {w0 w w' : World} {db : Nat} {lv wv : Value} {L : List Sec} {Q : List (Nat × Sec)} (h : DkA w0 w db lv wv L Q) (f : Fr (fun _ => False) w w') : DkA w0 w' db lv wv L Q := ⟨h.dk.same f, h.low, h.fr.false_trans f⟩
theorem dkS_step {W : World} {db : Nat} {lv wv wv' : Value} (o : wv'.ownBlock = wv.ownBlock ∨ ∃ g, wv'.ownBlock = some g ∧ W.heap.size ≤ g) {k : Nat} (hk : dkS db lv wv' k) : dkS db lv wv k ∨ W.heap.size ≤ k := by
  rcases hk with hk | hk | hk
  · exact .inl (.inl hk)
  · exact .inl (.inr (.inl hk))
  · rcases o with e | ⟨g, e, hg⟩
    · exact .inl (.inr (.inr (by rw [← e]; exact hk)))
    · rw [hk] at e
      simp at e
      exact .inr (by omega)
theorem DkA.step {w0 W w' : World} {db : Nat} {lv wv wv' : Value} {L L' : List Sec} {Q Q' : List (Nat × Sec)} (h : DkA w0 W db lv wv L Q) (n : Dk w' db lv wv' L' Q') (f : Fr (dkS db lv wv) W w')
    (o : wv'.ownBlock = wv.ownBlock ∨ ∃ g, wv'.ownBlock = some g ∧ W.heap.size ≤ g) : DkA w0 w' db lv wv' L' Q' :=
  ⟨n, (fun k hk => by
    rcases dkS_step o hk with e | e
    · exact h.low k e
    · have := h.fr.size; omega), h.fr.above f h.low⟩
theorem DkA.emptied {w0 W w' : World} {db : Nat} {lv wv : Value} {L L' : List Sec} {Q : List (Nat × Sec)} (h : DkA w0 W db lv wv L Q) (n : Dk w' db lv (.slice none 0 0) L' []) (f : Fr (dkS db lv wv) W w') : DkA w0 w' db lv (.slice none 0 0) L' [] :=
  ⟨n, (fun k hk => by
    rcases hk with e | e | e
    · exact h.low k (.inl e)
    · exact h.low k (.inr (.inl e))
    · cases e), h.fr.above f h.low⟩
theorem DkA.new {n : Nat} {w w' : World} (h : Dk w' (w.heap.size + 1) (.slice (some ⟨w.heap.size, 0, none⟩) n n) (.slice none 0 0) (List.replicate n zeroSec) []) (f : Fr (fun _ => False) w w') :
    DkA w w' (w.heap.size + 1) (.slice (some ⟨w.heap.size, 0, none⟩) n n) (.slice none 0 0) (List.replicate n zeroSec) [] :=
  ⟨h, (fun k hk => by
    rcases hk with e | e | e
    · omega
    · simp [Value.ownBlock] at e; omega
    · cases e), f⟩
theorem dfar_step {W : World} {db : Nat} {lv wv wv' : Value} {a : Option Addr} {c : Nat} {l : List Nat} (hr : Row W a c l) (hl : l ≠ []) (hfar : ∀ b off, a = some ⟨b, off, none⟩ → ¬ dkS db lv wv b) (o : wv'.ownBlock = wv.ownBlock ∨ ∃ g, wv'.ownBlock = some g ∧ W.heap.size ≤ g) :
    ∀ b off, a = some ⟨b, off, none⟩ → ¬ dkS db lv wv' b := fun b off ha hk => by
  rcases dkS_step o hk with e | e
  · exact hfar b off ha e
  · have := hr.lt ha hl; omega
theorem dfar_empty {db : Nat} {lv wv : Value} {a : Option Addr} (hfar : ∀ b off, a = some ⟨b, off, none⟩ → ¬ dkS db lv wv b) : ∀ b off, a = some ⟨b, off, none⟩ → ¬ dkS db lv (.slice none 0 0) b := fun b off ha hk => by
  rcases hk with e | e | e
  · exact hfar b off ha (.inl e)
  · exact hfar b off ha (.inr (.inl e))
  · cases e
theorem dfar_new {w : World} {db : Nat} {lv wv : Value} {L : List Sec} {Q : List (Nat × Sec)} (h : Dk w db lv wv L Q) {a : Option Addr} (hn : ∀ b off, a = some ⟨b, off, none⟩ → w.heap.size ≤ b) : ∀ b off, a = some ⟨b, off, none⟩ → ¬ dkS db lv wv b := fun b off ha hk => by
  have := hn b off ha
  have := h.lt hk
  omega
theorem oab : octs [97, 98] := by intro x hx; simp at hx; omega
theorem ocd : octs [99, 100] := by intro x hx; simp at hx; omega
theorem oef : octs [101, 102] := by intro x hx; simp at hx; omega
theorem spoke1 : (seen (crashed (List.replicate 2 zeroSec) ([] ++ [(0, padSec [97, 98] (by simp) oab)]) 0 1) [] 0).1.take 3 = [97, 0, 0] := by decide +kernel
theorem spoke2 : (seen (crashed (doAll (crashed (List.replicate 2 zeroSec) ([] ++ [(0, padSec [97, 98] (by simp) oab)]) 0 1) ([] ++ [(1, padSec [99, 100] (by simp) ocd)])) ([] ++ [(1, padSec [101, 102] (by simp) oef)]) 0 0) [] 1).1.take 2 = [99, 100] := by decide +kernel

set_option maxRecDepth 100000 in
set_option maxHeartbeats 2000000 in
theorem dspeaks_any (w : World) : Calls Try.prog 6 #[] w fun e w' => e = .returned (.bool true) ∧ Fr (fun _ => False) w w' := by
  have kc := fun (w : World) (C : Array Value) (n c : Nat) => Lib.run_convert_bytes_const (P := Try.prog) w 31 5 C n c Try.underlying31 Try.underlying5
  go_enter Try.func6, Try.ntmps6
  go_wp2_with fail
  refine (dnew_ok 2 (by omega) (by omega) _).mono ?_
  rintro e w1 ⟨rfl, k1, f1⟩
  have d1 := DkA.new k1 f1
  clear k1 f1
  obtain ⟨db, hdb⟩ : ∃ db, db = w.heap.size + 1 := ⟨_, rfl⟩
  obtain ⟨lv, hlv⟩ : ∃ lv, lv = Value.slice (some ⟨w.heap.size, 0, none⟩) 2 2 := ⟨_, rfl⟩
  rw [← hdb, ← hlv] at d1
  rw [← hdb]
  clear hdb hlv
  go_wp2_with fail
  have d1' := d1.same ((Fr.refl (fun _ => False) w1).alloc (.cells #[.int .u8 97, .int .u8 98] 5 (2, 3)))
  refine (write_ok db lv _ _ [] _ d1'.dk 0 (by simp) (some ⟨w1.heap.size, 0, none⟩) 2 [97, 98] (row_lit (l := [97, 98]) oab (by simp) (heap_alloc_new w1 _)) (by simp) (by simp)).mono ?_
  rintro e w2 ⟨rfl, wv2, k2, f2, o2⟩
  have d2 := d1'.step k2 f2 o2
  clear k2 f2 o2 d1' d1
  go_wp2_with fail
  refine (crash_ok db lv _ _ _ _ d2.dk 0 1 (by simp) (by omega)).mono ?_
  rintro e w3 ⟨rfl, k3, f3⟩
  have d3 := d2.emptied k3 f3
  clear k3 f3 d2
  have S1 := spoke1
  have l3 : (crashed (List.replicate 2 zeroSec) ([] ++ [(0, padSec [97, 98] (by simp) oab)]) 0 1).length = 2 := by decide +kernel
  have S2 := spoke2
  have l4 : (doAll (crashed (List.replicate 2 zeroSec) ([] ++ [(0, padSec [97, 98] (by simp) oab)]) 0 1) ([] ++ [(1, padSec [99, 100] (by simp) ocd)])).length = 2 := by decide +kernel
  generalize crashed (List.replicate 2 zeroSec) ([] ++ [(0, padSec [97, 98] (by simp) oab)]) 0 1 = M at *
  go_wp2_with fail
  refine (read_ok db lv _ _ _ _ d3.dk 0 (by omega)).mono ?_
  rintro e w4 ⟨a4, rfl, r4, f4, n4⟩
  have r4' := r4.first 3
  rw [S1] at r4'
  have far4 := dfar_new d3.dk n4
  have d4 := d3.same f4
  clear r4 f4 d3 S1 n4
  go_wp2_with fail
  have f5 : Fr (fun _ => False) w4 (w4.alloc (.cells #[.int .u8 99, .int .u8 100] 5 (2, 3))) := (Fr.refl (fun _ => False) w4).alloc _
  have d5 := d4.same f5
  have r5 := r4'.same f5
  refine (write_ok db lv _ _ [] _ d5.dk 1 (by omega) (some ⟨w4.heap.size, 0, none⟩) 2 [99, 100] (row_lit (l := [99, 100]) ocd (by simp) (heap_alloc_new w4 _)) (by simp) (by simp)).mono ?_
  rintro e w6 ⟨rfl, wv6, k6, f6, o6⟩
  have d6 := d5.step k6 f6 o6
  have r6 := r5.fr f6 (fun b off ha _ => far4 b off ha)
  have far6 := dfar_step r5 (by simp) far4 o6
  clear k6 f6 o6 d5 d4 r4' r5 far4 f5
  go_wp2_with fail
  refine (sync_any db lv _ _ _ _ d6.dk).mono ?_
  rintro e w7 ⟨rfl, k7, f7⟩
  have d7 := d6.emptied k7 f7
  have r7 := r6.fr f7 (fun b off ha _ => far6 b off ha)
  have far7 := dfar_empty far6
  clear k7 f7 d6 r6 far6
  generalize doAll M ([] ++ [(1, padSec [99, 100] (by simp) ocd)]) = M2 at *
  go_wp2_with fail
  have f8 : Fr (fun _ => False) w7 (w7.alloc (.cells #[.int .u8 101, .int .u8 102] 5 (2, 3))) := (Fr.refl (fun _ => False) w7).alloc _
  have d8 := d7.same f8
  have r8 := r7.same f8
  refine (write_ok db lv _ _ [] _ d8.dk 1 (by omega) (some ⟨w7.heap.size, 0, none⟩) 2 [101, 102] (row_lit (l := [101, 102]) oef (by simp) (heap_alloc_new w7 _)) (by simp) (by simp)).mono ?_
  rintro e w9 ⟨rfl, wv9, k9, f9, o9⟩
  have d9 := d8.step k9 f9 o9
  have r9 := r8.fr f9 (fun b off ha _ => far7 b off ha)
  have far9 := dfar_step r8 (by simp) far7 o9
  clear k9 f9 o9 d8 d7 r7 r8 far7 f8
  go_wp2_with fail
  refine (waits_any db lv _ _ _ _ d9.dk).mono ?_
  rintro e w9' ⟨rfl, rfl⟩
  go_wp2_with fail
  refine (crash_ok db lv _ _ _ _ d9.dk 0 0 (by simp) (by omega)).mono ?_
  rintro e w10 ⟨rfl, k10, f10⟩
  have d10 := d9.emptied k10 f10
  have r10 := r9.fr f10 (fun b off ha _ => far9 b off ha)
  clear k10 f10 d9 r9 far9
  have l10 : (crashed M2 ([] ++ [(1, padSec [101, 102] (by simp) oef)]) 0 0).length = 2 := by
    show ((doAll M2 []).set 1 _).length = 2
    rw [List.length_set]; exact l4
  generalize crashed M2 ([] ++ [(1, padSec [101, 102] (by simp) oef)]) 0 0 = M3 at *
  go_wp2_with fail
  refine (read_ok db lv _ _ _ _ d10.dk 1 (by omega)).mono ?_
  rintro e w11 ⟨a11, rfl, r11, f11, _⟩
  have s11 := r11.first 2
  rw [S2] at s11
  have d11 := d10.same f11
  have cva := run_str (P := Try.prog) (src := 31) (dst := 9) Try.underlying31 Try.underlying5 Try.underlying9 (r10.same f11) 3 rfl
  have cvb := run_str (P := Try.prog) (src := 31) (dst := 9) Try.underlying31 Try.underlying5 Try.underlying9 s11 2 rfl
  have sa : strOf [97, 0, 0] = ⟨#[97, 0, 0]⟩ := by decide +kernel
  have sb : strOf [99, 100] = ⟨#[99, 100]⟩ := by decide +kernel
  rw [sa] at cva
  rw [sb] at cvb
  obtain ⟨b4, o4, rfl⟩ : ∃ b o, a4 = some ⟨b, o, none⟩ := by
    rcases r10.at_ with h | ⟨b, o, h, _⟩
    · cases h
    · exact ⟨b, o, h⟩
  obtain ⟨b5, o5, rfl⟩ : ∃ b o, a11 = some ⟨b, o, none⟩ := by
    rcases s11.at_ with h | ⟨b, o, h, _⟩
    · cases h
    · exact ⟨b, o, h⟩
  clear sa sb r10 r11 s11 d10 f11 S2 l3 l4 l10
  go_wp2
  go_ret
  exact ⟨rfl, d11.fr⟩
end Go.Proofs.Ytkmjmbpdmgoknaa
