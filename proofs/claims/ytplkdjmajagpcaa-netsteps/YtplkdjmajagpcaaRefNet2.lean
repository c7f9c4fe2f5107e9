/- The document's net: Pick and Copy. -/
import Derived.Test.YtplkdjmajagpcaaRefNet
namespace Go.Proofs.Ytplkdjmajagpcaa
open Go.RowKit

section
variable (rb : Nat) (nodes : Int) (rv : Value) (R : List Say) (w : World)
theorem RN.elem {w : World} {rb : Nat} {nodes : Int} {v : Value} {R : List Say} (h : RN w rb nodes v R) {i : Nat} {x : Say} (hx : R[i]? = some x) : ∃ g cap, v = .slice (some ⟨g, 0, none⟩) R.length cap ∧ i < R.length ∧
    w.cell? ⟨g, i * 3, none⟩ = some (.int .i64 x.1) ∧ w.cell? ⟨g, i * 3 + 1, none⟩ = some (.int .i64 x.2.1) ∧ w.cell? ⟨g, i * 3 + 2, none⟩ = some (.string (strOf x.2.2)) := by
  obtain ⟨hi, _⟩ := List.getElem?_eq_some_iff.1 hx
  obtain ⟨g, cap, rfl, _⟩ := h.row.form (by omega)
  have he := h.row.elem rc_length hx
  exact ⟨g, cap, rfl, hi, he 0 _ rfl, he 1 _ rfl, he 2 _ rfl⟩
theorem rpick_no (h : RN w rb nodes rv R) (i : Int) (hi : i < 0 ∨ (R.length : Int) ≤ i) : Calls Try.prog 25 #[.pointer (some ⟨rb, 0, none⟩), .int .i64 i] w fun e w' => e = .returned (.tuple #[.agg #[.int .i64 0, .int .i64 0, .string ⟨#[]⟩], .int .i64 6]) ∧ Fr (fun _ => False) w w' := by
  have f1 : Fr (fun _ => False) w (w.alloc (.cells #[.int .i64 0, .int .i64 0, .string ⟨#[]⟩] 65)) := (Fr.refl _ w).alloc _
  have hc1 := (h.same f1).cell1
  obtain ⟨ar, cr, rfl, _⟩ := h.row.slice
  by_cases h1 : i < 0
  · clear hi
    go_enter Try.func25, Try.ntmps25
    go_wp2
    exact bodyPost_ret (v := .tuple #[.agg #[.int .i64 0, .int .i64 0, .string ⟨#[]⟩], .int .i64 6]) (by simp [results, Try.results25, go_sem]) rfl ⟨rfl, f1⟩
  · have h2 : 0 ≤ i := by omega
    have h3 : (R.length : Int) ≤ i := by omega
    clear hi h1
    go_enter Try.func25, Try.ntmps25
    go_wp2
    exact bodyPost_ret (v := .tuple #[.agg #[.int .i64 0, .int .i64 0, .string ⟨#[]⟩], .int .i64 6]) (by simp [results, Try.results25, go_sem]) rfl ⟨rfl, f1⟩
theorem take_next {α : Type} {Q : List α} {k : Nat} {q : α} (h : Q[k]? = some q) : Q.take (k + 1) = Q.take k ++ [q] := by rw [List.take_add_one, h]; rfl
theorem left_hit {R : List Say} {k : Nat} {x : Say} (h : R[k]? = some x) : (R.take (k + 1)).eraseIdx k = (R.take k).eraseIdx k := by
  have hk := (List.getElem?_eq_some_iff.1 h).1
  rw [take_next h, List.eraseIdx_append_of_length_le (by simp; omega), List.eraseIdx_of_length_le (l := R.take k) (by simp; omega)]
  simp [Nat.min_eq_left (Nat.le_of_lt hk)]
theorem left_miss {R : List Say} {k i : Nat} {x : Say} (h : R[k]? = some x) (hne : k ≠ i) : (R.take (k + 1)).eraseIdx i = (R.take k).eraseIdx i ++ [x] := by
  have hk := (List.getElem?_eq_some_iff.1 h).1
  rw [take_next h]
  by_cases hlt : i < k
  · rw [List.eraseIdx_append_of_lt_length (by simp; omega)]
  · rw [List.eraseIdx_of_length_le (l := R.take k) (by simp; omega), List.eraseIdx_of_length_le (by simp; omega)]

set_option maxRecDepth 100000 in
set_option maxHeartbeats 2000000 in
theorem rpick_ok (h : RN w rb nodes rv R) (i : Nat) (x : Say) (hx : R[i]? = some x) : Calls Try.prog 25 #[.pointer (some ⟨rb, 0, none⟩), .int .i64 i] w fun e w' => e = .returned (.tuple #[.agg #[.int .i64 x.1, .int .i64 x.2.1, .string (strOf x.2.2)], .int .i64 0]) ∧
    ∃ rv', RN w' rb nodes rv' (R.eraseIdx i) ∧ Fr (rnS rb rv) w w' ∧ (∀ k, rnS rb rv' k → rnS rb rv k ∨ w.heap.size ≤ k) := by
  obtain ⟨iM, hiM, hzM, hsM, hbM⟩ := info_parts infoM
  have M1 : Hid (Try.prog.info? 65 = some iM) := hiM
  have M2 : Hid (iM.zero = some (.agg #[.int .i64 0, .int .i64 0, .string ⟨#[]⟩])) := hzM
  have M3 : Hid (iM.size = 3) := hsM
  have M4 : Hid (iM.bytes = 32) := hbM
  clear hiM hzM hsM hbM
  obtain ⟨xf, xt, xl⟩ := x
  simp only
  have f1 : Fr (fun _ => False) w (w.alloc (.cells #[.int .i64 0, .int .i64 0, .string ⟨#[]⟩] 65)) := (Fr.refl _ w).alloc _
  have f2 : Fr (fun _ => False) w ((w.alloc (.cells #[.int .i64 0, .int .i64 0, .string ⟨#[]⟩] 65)).alloc (.cells #[.int .i64 xf, .int .i64 xt, .string (strOf xl)] 65)) := f1.alloc _
  have h1 := h.same f1
  have h2 := h.same f2
  have hc1 := h1.cell1
  have hc2 := h2.cell1
  obtain ⟨g, cap, rfl, hi, c0, c1, c2⟩ := h1.elem hx
  obtain ⟨n, hn⟩ : ∃ n, n = R.length := ⟨_, rfl⟩
  have HN : Hid (n = R.length) := hn
  have hn24 : n ≤ 1024 := by rw [hn]; exact h.len
  rw [← hn] at hc1 hc2 hi
  have hii : (i : Int) < (n : Int) := by omega
  have hdi : decide ((n : Int) ≤ (i : Int)) = false := by simp; omega
  have hdn : decide (n ≤ i) = false := by simp; omega
  have hd0 : decide ((i : Int) < 0) = false := by simp
  have b1 := two_first w (.cells #[.int .i64 0, .int .i64 0, .string ⟨#[]⟩] 65) (.cells #[.int .i64 xf, .int .i64 xt, .string (strOf xl)] 65)
  have b2 := two_second w (.cells #[.int .i64 0, .int .i64 0, .string ⟨#[]⟩] 65) (.cells #[.int .i64 xf, .int .i64 xt, .string (strOf xl)] 65)
  simp only at c0 c1 c2
  clear hn h1
  go_enter Try.func25, Try.ntmps25
  go_wp2_with fail
  have z2 : w.heap.size + 2 = ((w.alloc (.cells #[.int .i64 0, .int .i64 0, .string ⟨#[]⟩] 65)).alloc (.cells #[.int .i64 xf, .int .i64 xt, .string (strOf xl)] 65)).heap.size := by simp
  generalize ((w.alloc (.cells #[.int .i64 0, .int .i64 0, .string ⟨#[]⟩] 65)).alloc (.cells #[.int .i64 xf, .int .i64 xt, .string (strOf xl)] 65)) = W2 at *
  have Z2 : Hid (w.heap.size + 2 = W2.heap.size) := z2
  clear c0 c1 c2 hc1 f1 z2
  go_loopw [7, 34] (fun v t wr => ∃ (k : Nat) (ov : Value), ov = v ∧ k ≤ n ∧ t = .int .i64 k ∧ Has wr 3 ov ((R.take k).eraseIdx i).length (((R.take k).eraseIdx i).flatMap rc) ∧ (∀ b, ov.ownBlock = some b → W2.heap.size ≤ b) ∧ Fr (fun _ => False) W2 wr)
    (fun _ t _ => n - (intOf t).toNat)
  case atStart => exact ⟨0, _, rfl, by omega, rfl, by simpa using Has.nil W2 3, (fun b e => by cases e), Fr.refl _ _⟩
  case round =>
  obtain ⟨k, ov, rfl, hk, rfl, ho, hlow, hf⟩ := hrel
  by_cases hlt : k < n
  · obtain ⟨y, hy⟩ : ∃ y, R[k]? = some y := ⟨_, List.getElem?_eq_getElem (by rw [← HN.out]; exact hlt)⟩
    have h3 := h2.same hf
    obtain ⟨g', cap', hv, _, d0, d1, d2⟩ := h3.elem hy
    simp only [Value.slice.injEq, Option.some.injEq, Addr.mk.injEq, and_true, true_and] at hv
    obtain ⟨rfl, rfl⟩ := hv
    have hOl : ((R.take k).eraseIdx i).length ≤ 1024 := by
      have := List.length_eraseIdx_le (R.take k) i
      rw [List.length_take] at this
      omega
    have hki : (k : Int) < (n : Int) := by omega
    have hhit : k = i → (R.take (k + 1)).eraseIdx i = (R.take k).eraseIdx i := fun e => by subst e; exact left_hit hy
    have hmiss : k ≠ i → (R.take (k + 1)).eraseIdx i = (R.take k).eraseIdx i ++ [y] := fun e => left_miss hy e
    obtain ⟨yf, yt, yl⟩ := y
    simp only at d0 d1 d2
    have fX : Fr (fun _ => False) wr (wr.alloc (.cells #[.int .i64 yf, .int .i64 yt, .string (strOf yl)] 65)) := (Fr.refl (fun _ => False) wr).alloc _
    generalize (R.take k).eraseIdx i = O at *
    by_cases hki' : k = i
    · have HH : Hid ((R.take (k + 1)).eraseIdx i = O) := hhit hki'
      subst hki'
      clear hhit hmiss hy
      go_wp2
      go_roundw
      case rel => exact ⟨k + 1, _, rfl, by omega, by go_num, by rw [HH.out]; exact ho.fr fX (fun _ _ f => f), hlow, hf.false_trans fX⟩
      case measure => simp [intOf]; omega
    · have HH : Hid ((R.take (k + 1)).eraseIdx i = O ++ [(yf, yt, yl)]) := hmiss hki'
      have hne : ((k : Int) == (i : Int)) = false := by simp; omega
      have fY : Fr (fun _ => False) wr ((wr.alloc (.cells #[.int .i64 yf, .int .i64 yt, .string (strOf yl)] 65)).alloc (.cells #[.int .i64 yf, .int .i64 yt, .string (strOf yl)] 65)) := fX.alloc _
      have hoY := ho.fr fY (fun _ _ f => f)
      have hnews : From ((wr.alloc (.cells #[.int .i64 yf, .int .i64 yt, .string (strOf yl)] 65)).alloc (.cells #[.int .i64 yf, .int .i64 yt, .string (strOf yl)] 65)) (some ⟨wr.heap.size + 1, 0, none⟩) (rc (yf, yt, yl)) :=
        .inr ⟨_, _, rfl, range_block (two_second wr _ _) (fun j u hu => by rw [Nat.zero_add]; simpa [rc] using hu)⟩
      clear hhit hmiss hy ho
      go_wp2_with (at_builtin; refine wpList_append_has _ rfl _ _ 95 95 65 65 rfl iM _ 3 32 Try.underlying95 Try.underlying95 M1.out M2.out M3.out M4.out rfl (by omega) ov O.length (O.flatMap rc) rfl hoY (some ⟨wr.heap.size + 1, 0, none⟩) 1 1 (rc (yf, yt, yl)) rfl rfl hnews (rc_one _) (by unfold maxLen; omega) (by omega) ?_; intro a7 c7 w7 hown7 hfr7 hat7)
      have hz := hf.size
      go_roundw
      case rel =>
        have h8 : Has w7 3 (.slice a7 (O.length + 1) c7) ((R.take (k + 1)).eraseIdx i).length (((R.take (k + 1)).eraseIdx i).flatMap rc) := by rw [HH.out]; simpa using hown7
        have l8 : ∀ b, (Value.slice a7 (O.length + 1) c7).ownBlock = some b → W2.heap.size ≤ b := fun b hb => by
          rcases hat7 with e | e
          · exact hlow b (by rw [← e]; exact hb)
          · rw [e] at hb; simp at hb; omega
        have f8 : Fr (fun _ => False) W2 w7 := (hf.false_trans fY).above hfr7 (fun b e => hlow b e.1)
        exact ⟨k + 1, _, rfl, by omega, by go_num, h8, l8, f8⟩
      case measure => simp [intOf]; omega
  have hkn : n = k := by omega
  subst hkn
  have hall : R.take n = R := by rw [HN.out, List.take_length]
  rw [hall] at ho
  obtain ⟨ao, lo, co, rfl⟩ : ∃ a l c, ov = Value.slice a l c := by
    obtain ⟨a, c, e, _⟩ := ho.slice
    exact ⟨a, _, c, e⟩
  have hbx := hf.block_eq h2.box (fun f => f)
  have q1 := cell_at hbx 1
  have p1 := free_at hbx 1
  have bb1 := hf.block_eq b1 (fun f => f)
  have bb2 := hf.block_eq b2 (fun f => f)
  have hrlt := lt_of_block h.box
  have hglt : g < w.heap.size := h.row.lt rfl
  have F9 : Fr (fun k => k = rb) wr (wr.setCell ⟨rb, 1, none⟩ (Value.slice ao lo co)) := (Fr.refl (fun k => k = rb) wr).setCell (p := ⟨rb, 1, none⟩) (fun _ => rfl) _
  have e1 := F9.block_eq bb1 (fun e => by omega)
  have e2 := F9.block_eq bb2 (fun e => by omega)
  have s0 := cell_at e2 0
  have s1 := cell_at e2 1
  have s2 := cell_at e2 2
  have s3 := cell_at e1 0
  have s4 := cell_at e1 1
  have s5 := cell_at e1 2
  have y3 := free_at e1 0
  have y4 := free_at e1 1
  have y5 := free_at e1 2
  simp only [List.getElem?_toArray, List.getElem?_cons_zero, List.getElem?_cons_succ] at q1 s0 s1 s2 s3 s4 s5
  have hg := h.grow (X := True) (W := wr) (w1 := wr) (R2 := R.eraseIdx i) (v2 := Value.slice ao lo co) (f2.false_trans hf) ((Fr.refl _ wr)) ho (by
    rcases hob : (Value.slice ao lo co).ownBlock with _ | b
    · exact .inr (.inl rfl)
    · exact .inr (.inr ⟨b, rfl, by have := hlow b hob; have := Z2.out; omega⟩)) (by have := List.length_eraseIdx_le R i; have := h.len; omega)
  obtain ⟨gN, gF, gO⟩ := hg
  clear hlt hall hbx b1 b2 bb1 bb2 h2 hc2 e1 e2
  go_wp2
  have fin : ∀ {W : World}, Fr (fun k => k = w.heap.size) (wr.setCell ⟨rb, 1, none⟩ (Value.slice ao lo co)) W → ∃ rv', RN W rb nodes rv' (R.eraseIdx i) ∧ Fr (rnS rb (Value.slice (some ⟨g, 0, none⟩) R.length cap)) w W ∧ (∀ k, rnS rb rv' k → rnS rb (Value.slice (some ⟨g, 0, none⟩) R.length cap) k ∨ w.heap.size ≤ k) := fun {W} f => by
    refine ⟨(Value.slice ao lo co), gN.framed f (fun k hk e => ?_), gF.trans f (fun k hk e => by omega), gO⟩
    subst e
    rcases hk with e | e
    · omega
    · have := hlow _ e; have := Z2.out; omega
  refine bodyPost_ret (v := .tuple #[.agg #[.int .i64 xf, .int .i64 xt, .string (strOf xl)], .int .i64 0]) (by simp [results, Try.results25, go_sem, s3, s4, s5]) rfl ⟨rfl, fin ?_⟩
  exact (((Fr.refl (fun k => k = w.heap.size) _).setCell (p := ⟨w.heap.size, 0, none⟩) (fun _ => rfl) _).setCell (p := ⟨w.heap.size, 1, none⟩) (fun _ => rfl) _).setCell (p := ⟨w.heap.size, 2, none⟩) (fun _ => rfl) _
end
end Go.Proofs.Ytplkdjmajagpcaa
