/- latticelaw01.speaks answers true. -/
import Derived.Test.YtnnaaliadbihkaaText
import Derived.Test.YtnnaaliadbihkaaRead3
import Derived.Test.YtnnaaliadbihkaaRefNum
namespace Go.Proofs.Ytnnaaliadbihkaa
open Go.RowKit

theorem Wr.ge {w : World} {base wb : Nat} {v : Value} {l : List Nat} (h : Wr w base wb v l) {k : Nat} (hk : wrS wb v k) : wb ≤ k := by
  rcases hk with rfl | hk
  · exact Nat.le_refl _
  · have := (h.own.lt k hk).1; have := h.low; omega
theorem Wr.lt {w : World} {base wb : Nat} {v : Value} {l : List Nat} (h : Wr w base wb v l) {k : Nat} (hk : wrS wb v k) : k < w.heap.size := by
  rcases hk with rfl | hk
  · exact lt_of_block h.box
  · exact (h.own.lt k hk).2
/-- What writes only blocks that are new to 'a' leaves all of 'a'. -/
theorem Fr.above {a b c : World} {S : Nat → Prop} (h : Fr (fun _ => False) a b) (k : Fr S b c) (hS : ∀ i, S i → a.heap.size ≤ i) : Fr (fun _ => False) a c :=
  h.trans k (fun i hi s => by have := hS i s; omega)

theorem octs_app {l m : List Nat} (hl : octs l) (hm : octs m) : octs (l ++ m) := fun x hx => by
  rcases List.mem_append.mp hx with h | h
  · exact hl x h
  · exact hm x h

set_option maxRecDepth 100000 in
set_option maxHeartbeats 1000000 in
theorem speaks_any (w : World) : Calls Try.prog 16 #[] w fun e w' => e = .returned (.bool true) ∧ Fr (fun _ => False) w w' := by
  go_enter Try.func16, Try.ntmps16
  go_wp2_with fail
  refine (new_any _).mono ?_
  rintro e w1 ⟨rfl, rfl⟩
  have f1 : Fr (fun _ => False) w (w.alloc (.cells #[.slice none 0 0] 60)) := (Fr.refl (fun _ => False) w).alloc _
  go_wp2_with fail
  refine (wnum_yes 258 2 ⟨by omega, .inr (.inl ⟨rfl, by omega⟩)⟩ (w.heap.size + 1) w.heap.size (.slice none 0 0) [] _ (Wr.new w) (by simp) (by simp)).mono ?_
  rintro e w2 ⟨rfl, v2, hw2, hf2, _⟩
  have f2 := f1.above hf2 (fun i hi => (Wr.new w).ge hi)
  have z2 := hf2.size
  go_wp2_with fail
  refine (text_ok ⟨#[97, 98]⟩ (by decide) (w.heap.size + 1) w.heap.size v2 _ _ hw2 (by simpa using z2) (by simp [le_length])).mono ?_
  rintro e w3 ⟨rfl, v3, hw3, hf3, _⟩
  have f3 := f2.above hf3 (fun i hi => hw2.ge hi)
  have el : [] ++ le 2 258 ++ le 2 (ByteArray.mk #[97, 98]).size ++ bsOf ⟨#[97, 98]⟩ = [2, 1, 2, 0, 97, 98] := by decide +kernel
  rw [el] at hw3
  clear el hf2 hf3 hw2
  have ol : octs [2, 1, 2, 0, 97, 98] := by intro x hx; simp at hx; omega
  go_wp2_with fail
  refine (bytes_any (w.heap.size + 1) w.heap.size v3 [2, 1, 2, 0, 97, 98] ol (by simp) _ hw3).mono ?_
  rintro e w4 ⟨v4, rfl, m4⟩
  obtain ⟨a4, c4, hv4, hr4⟩ := m4.own.row ol (by simp)
  have f4 := f3.false_trans m4.fr
  have hw4 := hw3.fr m4.fr (fun f => f) (fun _ _ f => f)
  rw [hv4]
  go_wp2_with fail
  refine (of_any a4 6 c4 [2, 1, 2, 0, 97, 98] rfl _ hr4).mono ?_
  rintro e w5 ⟨rb, a5, c5, rfl, hrd5, f45, hrb, _⟩
  have f5 := f4.false_trans f45
  have hw5 := hw4.fr f45 (fun f => f) (fun _ _ f => f)
  have z4 := f4.size
  have b4 : ∀ k, wrS w.heap.size v3 k → k ≠ rb := fun k hk e => by have := hw4.lt hk; omega
  go_wp2_with fail
  refine (rnum_ok 2 (by omega) rb a5 c5 [2, 1, 2, 0, 97, 98] (by simp) (by simp [val]) _ hrd5).mono ?_
  rintro e w6 ⟨rfl, a6, c6, hrd6, f56, _⟩
  have f6 := f5.above f56 (fun i hi => by omega)
  have hw6 := hw5.fr f56 (b4 _ (.inl rfl)) (fun k hk => b4 k (.inr hk))
  have ev : val (List.take 2 [2, 1, 2, 0, 97, 98]) = 258 := by decide
  have ed : List.drop 2 [2, 1, 2, 0, 97, 98] = [2, 0, 97, 98] := rfl
  rw [ev]
  rw [ed] at hrd6
  clear ev ed
  go_wp2_with fail
  refine (rtext_ok 9 (by omega) rb a6 c6 [2, 0, 97, 98] (by simp [val]) (by simp [val]) _ hrd6).mono ?_
  rintro e w7 ⟨rfl, a7, c7, hrd7, f67, _⟩
  have f7 := f6.above f67 (fun i hi => by omega)
  have hw7 := hw6.fr f67 (b4 _ (.inl rfl)) (fun k hk => b4 k (.inr hk))
  have es : strOf (List.take (val (List.take 2 [2, 0, 97, 98])) (List.drop 2 [2, 0, 97, 98])) = ⟨#[97, 98]⟩ := by decide +kernel
  have ed : List.drop (2 + val (List.take 2 [2, 0, 97, 98])) [2, 0, 97, 98] = [] := by decide
  rw [es]
  rw [ed] at hrd7
  clear es ed
  go_wp2_with fail
  refine (rnum_cut 1 (by omega) rb a7 c7 [] (by simp) _ hrd7).mono ?_
  rintro e w8 ⟨rfl, hrd8, f78⟩
  have f8 := f7.above f78 (fun i hi => by omega)
  have hw8 := hw7.fr f78 (b4 _ (.inl rfl)) (fun k hk => b4 k (.inr hk))
  clear hrd8 hrd7 hrd6 hrd5 hw7 hw6 hw5 hw4 hw3 b4 f45 f56 f67 f78 hv4 m4 hr4
  go_wp2_with fail
  refine (bytes_any (w.heap.size + 1) w.heap.size v3 [2, 1, 2, 0, 97, 98] ol (by simp) _ hw8).mono ?_
  rintro e w9 ⟨v9, rfl, m9⟩
  obtain ⟨a9, c9, hv9, hr9⟩ := m9.own.row ol (by simp)
  have f9 := f8.false_trans m9.fr
  have hcv := run_str (P := Try.prog) (src := 25) (dst := 9) Try.underlying25 Try.underlying5 Try.underlying9 hr9 6 rfl
  have es : strOf [2, 1, 2, 0, 97, 98] = ⟨#[2, 1, 2, 0, 97, 98]⟩ := by decide +kernel
  rw [es] at hcv
  rw [hv9]
  clear es hv9 m9 hr9
  go_wp2
  go_ret
  exact ⟨rfl, f9⟩
end Go.Proofs.Ytnnaaliadbihkaa
