
/- What the document's own pool does: without, Pages, Oldest, New; the program's Oldest. -/
import Derived.Test.YtneniagingoleaaPrChg2
namespace Go.Proofs.Ytneniagingoleaa
open Go.RowKit

theorem infoFm : (Try.prog.info? 68).map (fun i => (i.zero, i.size, i.bytes)) = some (some (.agg #[.int .i64 0, .int .i64 0, .int .i64 0, .int .i64 0, .bool false]), 5, 40) := by kernel_rfl
theorem infoIn : (Try.prog.info? 3).map (fun i => (i.zero, i.size, i.bytes)) = some (some (.int .i64 0), 1, 8) := by kernel_rfl
theorem infoOf {t : TypeId} {z : Value} {a b : Nat} (h : (Try.prog.info? t).map (fun i => (i.zero, i.size, i.bytes)) = some (some z, a, b)) : ∃ i, Try.prog.info? t = some i ∧ i.zero = some z ∧ i.size = a ∧ i.bytes = b := by
  cases hi : Try.prog.info? t with
  | none => rw [hi] at h; simp at h
  | some i => rw [hi] at h; simp at h; exact ⟨i, rfl, h.1, h.2.1, h.2.2⟩
theorem take_next {α : Type} {L : List α} {k : Nat} {f : α} (h : L[k]? = some f) : L.take (k + 1) = L.take k ++ [f] := by
  have hk := (List.getElem?_eq_some_iff.1 h).1
  rw [List.take_succ_eq_append_getElem hk, (List.getElem?_eq_some_iff.1 h).2]
theorem erase_next {α : Type} {L : List α} {j k : Nat} {f : α} (h : L[j]? = some f) : (L.take (j + 1)).eraseIdx k = if j = k then (L.take j).eraseIdx k else (L.take j).eraseIdx k ++ [f] := by
  have hj := (List.getElem?_eq_some_iff.1 h).1
  have hl : (L.take j).length = j := by rw [List.length_take]; omega
  rw [take_next h]
  by_cases e : k < j
  · rw [if_neg (by omega), List.eraseIdx_append_of_lt_length (by omega)]
  · rw [List.eraseIdx_append_of_length_le (by omega), List.eraseIdx_of_length_le (by omega : (L.take j).length ≤ k), hl]
    by_cases e2 : j = k
    · rw [if_pos e2, e2, Nat.sub_self]; simp
    · rw [if_neg e2, List.eraseIdx_of_length_le (by simp; omega)]
set_option maxRecDepth 100000 in
set_option maxHeartbeats 2000000 in
theorem rwithout_rp (rv : Value) (L : List Fm) (at_ : Nat) (w : World) (hfew : L.length ≤ 1000) (h : Has w 5 rv L.length (L.flatMap fmC)) : Calls Try.prog 41 #[rv, .int .i64 at_] w fun e w' => ∃ v', e = .returned v' ∧ Has w' 5 v' (L.eraseIdx at_).length ((L.eraseIdx at_).flatMap fmC) ∧ (∀ g, v'.ownBlock = some g → w.heap.size ≤ g) ∧ Fr (fun _ => False) w w' := by
  obtain ⟨iR, hiR, hR0, hR1, hR2⟩ := infoOf infoFm
  have R1 : Hid (Try.prog.info? 68 = some iR) := hiR
  have R2 : Hid (iR.zero = some (.agg #[.int .i64 0, .int .i64 0, .int .i64 0, .int .i64 0, .bool false])) := hR0
  have R3 : Hid (iR.size = 5) := hR1
  have R4 : Hid (iR.bytes = 40) := hR2
  clear hiR hR0 hR1 hR2
  have HH : Hid (∀ W, Fr (fun _ => False) w W → Has W 5 rv L.length (L.flatMap fmC)) := fun W f => h.fr f (fun _ _ f => f)
  obtain ⟨ar, cr, rfl, hlc, hcr⟩ := h.slice
  have hcr' : cr ≤ 9223372036854775807 := by unfold maxLen at hcr; exact hcr
  clear hcr h
  go_enter Try.func41, Try.ntmps41
  go_wp2
  go_loopw [10, 5] (fun i t wr => ∃ (k : Nat) (vt : Value) (ms : List Fm), k ≤ L.length ∧ i = .int .i64 k ∧ t = vt ∧ Hid (ms = (L.take k).eraseIdx at_) ∧ Has wr 5 vt ms.length (ms.flatMap fmC) ∧ (∀ g, vt.ownBlock = some g → w.heap.size ≤ g) ∧ Fr (fun _ => False) w wr) (fun i _ _ => L.length - (intOf i).toNat)
  case atStart => exact ⟨0, .slice none 0 0, [], by omega, rfl, rfl, by show _ = _; simp, Has.nil _ _, (fun g e => by cases e), Fr.refl _ _⟩
  case round =>
    obtain ⟨k, vt, ms, hk, rfl, rfl, HM, ht, hown, F⟩ := hrel
    by_cases hlt : k < L.length
    · obtain ⟨f, hf⟩ : ∃ f, L[k]? = some f := ⟨_, List.getElem?_eq_getElem hlt⟩
      have hhk := HH.out _ F
      obtain ⟨g, cap, hv, _⟩ := hhk.form (by omega)
      simp only [Value.slice.injEq, true_and] at hv
      obtain ⟨rfl, rfl⟩ := hv
      obtain ⟨q0, q1, q2, q3, q4⟩ := fm_range (hhk.elem fmC_length hf)
      have HST : Hid ((L.take (k + 1)).eraseIdx at_ = if k = at_ then ms else ms ++ [f]) := by
        show _ = _
        rw [erase_next hf, ← HM.out]
      have HML : Hid (ms.length ≤ 1000) := by show _ ≤ _; rw [HM.out]; have := List.length_eraseIdx_le (L.take k) at_; rw [List.length_take] at this; omega
      have hml := HML.out
      have hki : (k : Int) < (L.length : Int) := by omega
      obtain ⟨pg, pi, ls, fi, di⟩ := f
      dsimp only at q0 q1 q2 q3 q4
      have fb := Fr.box wr (.cells #[.int .i64 pg, .int .i64 pi, .int .i64 ls, .int .i64 fi, .bool di] 68)
      have FB := F.seq' fb
      have htb := ht.fr fb (fun _ _ f => f)
      clear hf hhk
      obtain ⟨av, cv, rfl, _, _⟩ := ht.slice
      by_cases h1 : k = at_
      · have HS2 : Hid (ms = (L.take (k + 1)).eraseIdx at_) := by show _ = _; rw [HST.out, if_pos h1]
        have hb : ((k : Int) != (at_ : Int)) = false := by rw [bne_eq_false_iff_eq]; omega
        clear HST h1
        go_wp2
        go_roundw
        case rel => exact ⟨k + 1, _, ms, by omega, by go_num, rfl, HS2, htb, hown, FB⟩
        case measure => simp [intOf]; omega
      · have HS2 : Hid (ms ++ [⟨pg, pi, ls, fi, di⟩] = (L.take (k + 1)).eraseIdx at_) := by show _ = _; rw [HST.out, if_neg h1]
        have hb : ((k : Int) != (at_ : Int)) = true := by rw [bne_iff_ne]; omega
        have P6 := fb.alloc (.cells #[.int .i64 pg, .int .i64 pi, .int .i64 ls, .int .i64 fi, .bool di] 68)
        have hrow := ht.fr P6 (fun _ _ f => f)
        have FF := F.seq' P6
        have hsz : (wr.alloc (.cells #[.int .i64 pg, .int .i64 pi, .int .i64 ls, .int .i64 fi, .bool di] 68)).heap.size = wr.heap.size + 1 := by simp
        have hnews : From ((wr.alloc (.cells #[.int .i64 pg, .int .i64 pi, .int .i64 ls, .int .i64 fi, .bool di] 68)).alloc (.cells #[.int .i64 pg, .int .i64 pi, .int .i64 ls, .int .i64 fi, .bool di] 68)) (some ⟨wr.heap.size + 1, 0, none⟩) (fmC ⟨pg, pi, ls, fi, di⟩) := .inr ⟨_, _, rfl, by
          have := range_block (heap_alloc_new (wr.alloc (.cells #[.int .i64 pg, .int .i64 pi, .int .i64 ls, .int .i64 fi, .bool di] 68)) (.cells #[.int .i64 pg, .int .i64 pi, .int .i64 ls, .int .i64 fi, .bool di] 68)) (xs := fmC ⟨pg, pi, ls, fi, di⟩) (o := 0) (fun j v hv => by rw [Nat.zero_add]; simpa [fmC] using hv)
          rwa [hsz] at this⟩
        clear HST h1 hsz htb
        go_wp2_with (at_builtin; refine wpList_append_has _ rfl (.tmp 18) (.tmp 20) 55 55 68 68 rfl iR (.agg #[.int .i64 0, .int .i64 0, .int .i64 0, .int .i64 0, .bool false]) 5 40 Try.underlying55 Try.underlying55 R1.out R2.out R3.out R4.out rfl (by omega) (.slice av ms.length cv) ms.length (ms.flatMap fmC) rfl hrow (some ⟨wr.heap.size + 1, 0, none⟩) 1 1 (fmC ⟨pg, pi, ls, fi, di⟩) rfl rfl hnews (fmC_one _) (by unfold maxLen; omega) (by omega) ?_; intro a4 c4 w8 ht4 f34 hat4)
        have hl2 : ms.length + 1 = (ms ++ [(⟨pg, pi, ls, fi, di⟩ : Fm)]).length := by rw [List.length_append]; rfl
        have ht5 : Has w8 5 (.slice a4 (ms ++ [(⟨pg, pi, ls, fi, di⟩ : Fm)]).length c4) (ms ++ [(⟨pg, pi, ls, fi, di⟩ : Fm)]).length ((ms ++ [(⟨pg, pi, ls, fi, di⟩ : Fm)]).flatMap fmC) := by
          rw [← hl2, List.flatMap_append]
          simpa using ht4
        rw [hl2] at hat4 ⊢
        have hR1 : ∀ g, (Value.slice a4 (ms ++ [(⟨pg, pi, ls, fi, di⟩ : Fm)]).length c4).ownBlock = some g → w.heap.size ≤ g := fun g e => by
          have hz := FF.size
          rcases hat4 with h1 | h1
          · rw [h1] at e; exact hown g e
          · rw [h1] at e; simp only [Option.some.injEq] at e; omega
        have hR2 : Fr (fun _ => False) w w8 := FF.trans f34 (fun i hi e => by have := hown i e.1; omega)
        clear hl2 ht4 q0 q1 q2 q3 q4
        go_wp2
        go_roundw
        case rel => exact ⟨k + 1, _, ms ++ [⟨pg, pi, ls, fi, di⟩], by omega, by go_num, rfl, HS2, ht5, hR1, hR2⟩
        case measure => simp [intOf]; omega
    · have hkl : L.take k = L := List.take_of_length_le (by omega)
      have HMM : Hid (ms = L.eraseIdx at_) := by show _ = _; rw [HM.out, hkl]
      clear hkl
      go_wp2
      go_ret
      rw [← HMM.out]
      exact ⟨_, rfl, ht, hown, F⟩
/-- A row of numbers that a call has made. -/
def intC (ts : List Int) : List Value := ts.map (fun x => Value.int .i64 x)
set_option maxRecDepth 100000 in
set_option maxHeartbeats 2000000 in
theorem rpages_rp (pb : Nat) (fr fl : Int) (rv : Value) (L : List Fm) (w : World) (h : Rp w pb fr fl rv L) : Calls Try.prog 15 #[.pointer (some ⟨pb, 0, none⟩)] w fun e w' => ∃ v', e = .returned v' ∧ Has w' 1 v' (L.map Fm.page).length (intC (L.map Fm.page)) ∧ Fr (fun _ => False) w w' := by
  obtain ⟨iR, hiR, hR0, hR1, hR2⟩ := infoOf infoIn
  have R1 : Hid (Try.prog.info? 3 = some iR) := hiR
  have R2 : Hid (iR.zero = some (.int .i64 0)) := hR0
  have R3 : Hid (iR.size = 1) := hR1
  have R4 : Hid (iR.bytes = 8) := hR2
  clear hiR hR0 hR1 hR2
  have HH : Hid (∀ W, Fr (fun _ => False) w W → Has W 5 rv L.length (L.flatMap fmC)) := fun W f => h.has.fr f (fun _ _ f => f)
  obtain ⟨⟨h0, h1, h2⟩, _⟩ := rp_cells h.box
  have hfew := h.few
  obtain ⟨ar, cr, rfl, hlc, hcr⟩ := h.has.slice
  have hcr' : cr ≤ 9223372036854775807 := by unfold maxLen at hcr; exact hcr
  clear hcr h
  go_enter Try.func15, Try.ntmps15
  go_wp2
  clear h0 h1 h2
  go_loopw [11, 3] (fun i t wr => ∃ (k : Nat) (vt : Value) (ms : List Int), k ≤ L.length ∧ i = .int .i64 k ∧ t = vt ∧ Hid (ms = (L.take k).map Fm.page) ∧ Has wr 1 vt ms.length (intC ms) ∧ (∀ g, vt.ownBlock = some g → w.heap.size ≤ g) ∧ Fr (fun _ => False) w wr) (fun i _ _ => L.length - (intOf i).toNat)
  case atStart => exact ⟨0, .slice none 0 0, [], by omega, rfl, rfl, by show _ = _; simp, Has.nil _ _, (fun g e => by cases e), Fr.refl _ _⟩
  case round =>
    obtain ⟨k, vt, ms, hk, rfl, rfl, HM, ht, hown, F⟩ := hrel
    by_cases hlt : k < L.length
    · obtain ⟨f, hf⟩ : ∃ f, L[k]? = some f := ⟨_, List.getElem?_eq_getElem hlt⟩
      have hhk := HH.out _ F
      obtain ⟨g, cap, hv, _⟩ := hhk.form (by omega)
      simp only [Value.slice.injEq, true_and] at hv
      obtain ⟨rfl, rfl⟩ := hv
      obtain ⟨q0, q1, q2, q3, q4⟩ := fm_range (hhk.elem fmC_length hf)
      have hml : ms.length ≤ 1000 := by rw [HM.out]; simp; omega
      have hki : (k : Int) < (L.length : Int) := by omega
      obtain ⟨pg, pi, ls, fi, di⟩ := f
      have HS2 : Hid (ms ++ [pg] = (L.take (k + 1)).map Fm.page) := by show _ = _; rw [take_next hf, List.map_append, ← HM.out]; rfl
      dsimp only at q0 q1 q2 q3 q4
      have fb := Fr.box wr (.cells #[.int .i64 pg, .int .i64 pi, .int .i64 ls, .int .i64 fi, .bool di] 68)
      have P6 := fb.alloc (.cells #[.int .i64 pg] 3)
      have hrow := ht.fr P6 (fun _ _ f => f)
      have FF := F.seq' P6
      clear hf hhk
      obtain ⟨av, cv, rfl, _, _⟩ := ht.slice
      have hsz : (wr.alloc (.cells #[.int .i64 pg, .int .i64 pi, .int .i64 ls, .int .i64 fi, .bool di] 68)).heap.size = wr.heap.size + 1 := by simp
      have hnews : From ((wr.alloc (.cells #[.int .i64 pg, .int .i64 pi, .int .i64 ls, .int .i64 fi, .bool di] 68)).alloc (.cells #[.int .i64 pg] 3)) (some ⟨wr.heap.size + 1, 0, none⟩) [.int .i64 pg] := .inr ⟨_, _, rfl, by
        have := range_block (heap_alloc_new (wr.alloc (.cells #[.int .i64 pg, .int .i64 pi, .int .i64 ls, .int .i64 fi, .bool di] 68)) (.cells #[.int .i64 pg] 3)) (xs := [.int .i64 pg]) (o := 0) (fun j v hv => by rw [Nat.zero_add]; simpa using hv)
        rwa [hsz] at this⟩
      clear hsz fb
      go_wp2_with (at_builtin; refine wpList_append_has _ rfl (.tmp 15) (.tmp 18) 37 37 3 3 rfl iR (.int .i64 0) 1 8 Try.underlying37 Try.underlying37 R1.out R2.out R3.out R4.out rfl (by omega) (.slice av ms.length cv) ms.length (intC ms) rfl hrow (some ⟨wr.heap.size + 1, 0, none⟩) 1 1 [.int .i64 pg] rfl rfl hnews (by simp [Value.oneCell']) (by unfold maxLen; omega) (by omega) ?_; intro a4 c4 w8 ht4 f34 hat4)
      have hl2 : ms.length + 1 = (ms ++ [pg]).length := by rw [List.length_append]; rfl
      have ht5 : Has w8 1 (.slice a4 (ms ++ [pg]).length c4) (ms ++ [pg]).length (intC (ms ++ [pg])) := by
        rw [← hl2, intC, List.map_append]
        exact ht4
      rw [hl2] at hat4 ⊢
      have hR1 : ∀ g, (Value.slice a4 (ms ++ [pg]).length c4).ownBlock = some g → w.heap.size ≤ g := fun g e => by
        have hz := FF.size
        rcases hat4 with h1 | h1
        · rw [h1] at e; exact hown g e
        · rw [h1] at e; simp only [Option.some.injEq] at e; omega
      have hR2 : Fr (fun _ => False) w w8 := FF.trans f34 (fun i hi e => by have := hown i e.1; omega)
      clear hl2 ht4 q0 q1 q2 q3 q4
      go_wp2
      go_roundw
      case rel => exact ⟨k + 1, _, ms ++ [pg], by omega, by go_num, rfl, HS2, ht5, hR1, hR2⟩
      case measure => simp [intOf]; omega
    · have hkl : L.take k = L := List.take_of_length_le (by omega)
      have HMM : Hid (ms = L.map Fm.page) := by show _ = _; rw [HM.out, hkl]
      clear hkl
      go_wp2
      go_ret
      rw [← HMM.out]
      exact ⟨_, rfl, ht, F⟩
end Go.Proofs.Ytneniagingoleaa
