
/- A log is cut: slices.Delete of all behind a place, at records. -/
import Derived.Test.YtimpoincnfiibaaShWlFrom
import Derived.Shelf.Slices.Delete
namespace Go.Proofs.Ytimpoincnfiibaa
open Go.RowKit Crcm

theorem zero_cells (n : Nat) : ∃ Z : List Value, (Builtin.zeroCells #[.int .i64 0, .int .i64 0, .int .i64 0, .int .i64 0, .int .i64 0, .int .i64 0, .string ⟨#[]⟩, .string ⟨#[]⟩] n).toList = Z ∧ Z.length = n * 8 ∧ ∀ v ∈ Z, v.oneCell' = true := by
  refine ⟨_, rfl, by simp [Builtin.zeroCells], fun v hv => ?_⟩
  simp only [Builtin.zeroCells, Array.toList_map, List.mem_map] at hv
  obtain ⟨i, _, rfl⟩ := hv
  have : ∀ k : Fin 8, ((#[.int .i64 0, .int .i64 0, .int .i64 0, .int .i64 0, .int .i64 0, .int .i64 0, .string ⟨#[]⟩, .string ⟨#[]⟩] : Array Value)[k.val]!).oneCell' = true := by decide
  exact this ⟨i % 8, Nat.mod_lt _ (by omega)⟩

theorem clear_recs (w : World) (ty : TypeId) (b o n c : Nat) (hn : 0 < n) (Z : List Value) (hZ : (Builtin.zeroCells #[.int .i64 0, .int .i64 0, .int .i64 0, .int .i64 0, .int .i64 0, .int .i64 0, .string ⟨#[]⟩, .string ⟨#[]⟩] n).toList = Z) (h1 : ∀ v ∈ Z, v.oneCell' = true)
    (hc : ∀ j, j < Z.length → (w.cell? ⟨b, o + j, none⟩).isSome = true) (hf : ∀ j, j < Z.length → w.frozen? ⟨b, o + j, none⟩ = false) :
    (Builtin.clear_ #[22] ty #[.slice (some ⟨b, o, none⟩) n c]).run Try.prog w = .ok (.tuple #[]) (w.setCells b o Z) := by
  have hst := run_storeCells_cells (P := Try.prog) b o Z 0 w (by simpa using hc) (by simpa using hf) h1
  simp only [Nat.add_zero] at hst
  obtain ⟨m, rfl⟩ : ∃ m, n = m + 1 := ⟨n - 1, by omega⟩
  have hv := fun w => Try.zeroValue47 (w := w)
  simp [Builtin.clear_, run_underlying Try.underlying22, Value.cells, hv, hZ, hst]

theorem Has.shrink {w : World} {size g n cap i : Nat} {xs : List Value} (h : Has w size (.slice (some ⟨g, 0, none⟩) n cap) n xs) (hi : i ≤ n) : Has w size (.slice (some ⟨g, 0, none⟩) i cap) i (xs.take (i * size)) := by
  refine ⟨?_, ?_⟩
  · rw [List.length_take, h.1]
    exact Nat.min_eq_left (Nat.mul_le_mul_right _ hi)
  · rcases h.2 with ⟨h2, _⟩ | ⟨g', cap', hv, hg, h1, h2, h3, h4⟩
    · cases h2
    · simp only [Value.slice.injEq, Option.some.injEq, Addr.mk.injEq, and_true, true_and] at hv
      obtain ⟨rfl, rfl⟩ := hv
      refine .inr ⟨g, cap, rfl, hg, by omega, h2, h3, fun j v hv => ?_⟩
      refine h4 j v ?_
      rw [List.getElem?_take] at hv
      split at hv
      · exact hv
      · cases hv

set_option maxRecDepth 100000 in
set_option maxHeartbeats 1000000 in
theorem delete_recs (g cap i m : Nat) (ls : List Rec) (hm : m = ls.length) (hi : i ≤ m) (hs : m ≤ 65536) (w : World) (h : Has w 8 (.slice (some ⟨g, 0, none⟩) m cap) m (ls.flatMap recC)) :
    Calls Try.prog 43 #[.slice (some ⟨g, 0, none⟩) m cap, .int .i64 i, .int .i64 m] w fun e w' => e = .returned (.slice (some ⟨g, 0, none⟩) i cap) ∧ Has w' 8 (.slice (some ⟨g, 0, none⟩) i cap) i ((ls.take i).flatMap recC) ∧ Fr (fun k => k = g) w w' := by
  obtain ⟨iR, hiR, hR0, hR1, hR2⟩ := info_parts infoRec
  obtain ⟨hmc, hcx, hth⟩ : m ≤ cap ∧ cap ≤ maxLen ∧ w.there g 0 (cap * 8) := by
    rcases h.2 with ⟨h2, _⟩ | ⟨g', cap', hv, hg, h1, h2, h3, h4⟩
    · cases h2
    · simp only [Value.slice.injEq, Option.some.injEq, Addr.mk.injEq, and_true, true_and] at hv
      obtain ⟨rfl, rfl⟩ := hv
      exact ⟨h1, h2, h3⟩
  have hcm : cap ≤ 9223372036854775807 := by unfold maxLen at hcx; omega
  by_cases heq : i = m
  · have HT : Hid (ls.take i = ls) := by show _ = _; rw [List.take_of_length_le (by omega)]
    subst heq
    have H : Hid (Has w 8 (.slice (some ⟨g, 0, none⟩) i cap) i (ls.flatMap recC)) := h
    clear h hth hm
    go_enter Try.func43, Try.ntmps43
    go_wp2
    all_goals (go_ret; exact ⟨rfl, by rw [HT.out]; exact H.out, Fr.refl _ _⟩)
  · have hlt : i < m := by omega
    obtain ⟨Z, hZ, hZl, hZ1⟩ := zero_cells (m - i)
    have hcl : ∀ ty, (Builtin.clear_ #[22] ty #[.slice (some ⟨g, i * 8, none⟩) (m - i) (cap - i)]).run Try.prog w.drew = .ok (.tuple #[]) (w.drew.setCells g (i * 8) Z) := fun ty =>
      clear_recs w.drew ty g (i * 8) (m - i) (cap - i) (by omega) Z hZ hZ1 (fun j hj => by have := (hth (i * 8 + j) (by rw [hZl] at hj; omega)).1; rw [Nat.zero_add] at this; exact this) (fun j hj => by have := (hth (i * 8 + j) (by rw [hZl] at hj; omega)).2; rw [Nat.zero_add] at this; exact this)
    have HD : Has w.drew 8 (.slice (some ⟨g, 0, none⟩) m cap) m (ls.flatMap recC) := h.fr (Fr.drew (S := fun _ => False) (Fr.refl _ _)) (fun _ _ f => f)
    have hfl : (ls.flatMap recC).length = m * 8 := by rw [flat_length recC_length, hm]
    have HS := (HD.set (i * 8) Z (by rw [hfl, hZl]; omega)).shrink hi
    have htk : (List.take (i * 8) (ls.flatMap recC) ++ Z ++ List.drop (i * 8 + Z.length) (ls.flatMap recC)).take (i * 8) = (ls.take i).flatMap recC := by
      rw [List.append_assoc, List.take_append_of_le_length (by rw [List.length_take, hfl]; omega), List.take_take, Nat.min_self, flat_take recC_length]
    rw [htk] at HS
    have Fset : Fr (fun k => k = g) w (w.drew.setCells g (i * 8) Z) := Fr.setCells (S := fun k => k = g) (a := w) (b := g) (fun _ => rfl) Z (i * 8) (Fr.drew (Fr.refl _ _))
    have HSH : Hid (Has (w.drew.setCells g (i * 8) Z) 8 (.slice (some ⟨g, 0, none⟩) i cap) i ((ls.take i).flatMap recC)) := HS
    have FSH : Hid (Fr (fun k => k = g) w (w.drew.setCells g (i * 8) Z)) := Fset
    obtain ⟨W2, hW2⟩ : ∃ W, W = w.drew.setCells g (i * 8) Z := ⟨_, rfl⟩
    rw [← hW2] at hcl HSH FSH
    obtain ⟨A, hA⟩ : ∃ A : Addr, (if cap = m then some (⟨g, 0, none⟩ : Addr) else some ⟨g, m * 8, none⟩) = some A := by
      by_cases h : cap = m
      · exact ⟨_, by rw [if_pos h]⟩
      · exact ⟨_, by rw [if_neg h]⟩
    have hic : i ≤ cap := by omega
    have hse : w.drew.setCells g (0 + i * 8) [] = w.drew := rfl
    have HSE : Hid (w.drew.setCells g (0 + i * 8) [] = w.drew) := hse
    have mixed : Try.prog.follows Departure.mixedOrders = true := by kernel_rfl
    clear hW2 HS Fset htk hfl HD h hth hZ hZ1 hZl hm hse
    go_enter Try.func43, Try.ntmps43
    go_wp2_with fail
    go_region_law_o (refine step_append_room rfl (.tmp 22) (.tmp 25) 22 rfl 47 iR 8 Try.underlying22 hiR hR1 g 0 i cap (by simp [Act.eval, Act.put]) A 0 (cap - m) [] (by simp [Act.eval, Act.put]) rfl (by simp) (by simp) (by omega) (by simp) ?_; rw [HSE.out])
    go_wp2
    go_ret
    exact ⟨rfl, HSH.out, FSH.out⟩

theorem delete_none (w : World) : Calls Try.prog 43 #[.slice none 0 0, .int .i64 0, .int .i64 0] w fun e w' => e = .returned (.slice none 0 0) ∧ w' = w := by
  go_enter Try.func43, Try.ntmps43
  go_wp2
  go_ret
  exact ⟨rfl, rfl⟩
theorem delete_any (rv : Value) (i m : Nat) (ls : List Rec) (hm : m = ls.length) (hi : i ≤ m) (hs : m ≤ 65536) (w : World) (h : Has w 8 rv m (ls.flatMap recC)) :
    Calls Try.prog 43 #[rv, .int .i64 i, .int .i64 m] w fun e w' => ∃ rv', e = .returned rv' ∧ Has w' 8 rv' i ((ls.take i).flatMap recC) ∧ rv'.ownBlock = rv.ownBlock ∧ Fr (fun k => rv.ownBlock = some k ∧ 0 < 1) w w' := by
  rcases h.2 with ⟨h2, h3⟩ | ⟨g', cap', hv, _⟩
  · subst h2
    have h0 : ls = [] := List.eq_nil_of_length_eq_zero (by omega)
    have hi0 : i = 0 := by omega
    subst h0
    subst hi0
    subst h3
    refine (delete_none w).mono ?_
    rintro e w' ⟨rfl, rfl⟩
    exact ⟨_, rfl, by simpa using Has.nil _ _, rfl, Fr.refl _ _⟩
  · subst hv
    refine (delete_recs g' cap' i m ls hm hi hs w h).mono ?_
    rintro e w' ⟨rfl, h1, f1⟩
    exact ⟨_, rfl, h1, rfl, f1.mono (fun k _ e => ⟨by simp [Value.ownBlock, e], by omega⟩)⟩

set_option maxRecDepth 100000 in
set_option maxHeartbeats 1000000 in
theorem cut_no (n : Int) (lb : Nat) (rv : Value) (ls : List Rec) (fl : Int) (w : World) (h : Lg w lb rv ls fl) (hm : ls.length ≤ 65536) (hn : ¬ (0 ≤ n ∧ n ≤ ls.length)) :
    Calls Try.prog 36 #[.pointer (some ⟨lb, 0, none⟩), .int .i64 n] w fun e w' => e = .returned (.int .i64 1) ∧ w' = w := by
  have hrc := reaches_lg n lb rv ls fl w h hm
  rw [decide_eq_false hn] at hrc
  clear hn
  go_enter Try.func36, Try.ntmps36
  go_wp2_with (go_at_call 30; refine hrc.mono ?_; rintro e w' ⟨rfl, rfl⟩)
  go_ret
  exact ⟨rfl, rfl⟩

set_option maxRecDepth 100000 in
set_option maxHeartbeats 2000000 in
theorem cut_yes (n : Nat) (lb : Nat) (rv : Value) (ls : List Rec) (w : World) (h : Lg w lb rv ls 0) (hm : ls.length ≤ 65536) (hn : n ≤ ls.length) :
    Calls Try.prog 36 #[.pointer (some ⟨lb, 0, none⟩), .int .i64 (n : Int)] w fun e w' => e = .returned (.int .i64 0) ∧
      ∃ rv', Lg w' lb rv' (ls.take n) 0 ∧ Fr (lgS lb rv) w w' ∧ (rv'.ownBlock = rv.ownBlock ∨ ∃ g, rv'.ownBlock = some g ∧ w.heap.size ≤ g) := by
  have hrc := reaches_lg n lb rv ls 0 w h hm
  rw [decide_eq_true (by omega)] at hrc
  obtain ⟨a, c, rfl, _, _⟩ := h.has.slice
  have FD : Fr (fun _ => False) w w.drew := Fr.drew (Fr.refl _ _)
  obtain ⟨k0, k1, z0, z1⟩ := cell_of_two (h.same FD).box
  have hde := delete_any _ n ls.length ls rfl hn hm w.drew (h.has.fr FD (fun _ _ f => f))
  have HTL : Hid ((ls.take n).length = n) := by show _ = _; rw [List.length_take]; omega
  have HHB : Hid (∀ w5 rv' , Has w5 8 rv' n ((ls.take n).flatMap recC) → rv'.ownBlock = (Value.slice a ls.length c).ownBlock → Fr (fun k => (Value.slice a ls.length c).ownBlock = some k ∧ 0 < 1) w.drew w5 → w5.heap[lb]? = some (.cells #[.slice a ls.length c, .int .i64 0] 52 (0, 0)) ∧ Lg (w5.setCell ⟨lb, 0, none⟩ rv') lb rv' (ls.take n) 0 ∧ Fr (lgS lb (.slice a ls.length c)) w (w5.setCell ⟨lb, 0, none⟩ rv')) := fun w5 rv' hh ho f => by
    have hb := (h.same FD).box
    have hp := h.push FD f (ls' := ls.take n) (by rw [HTL.out]; exact hh) (.inl ho)
    exact ⟨by rw [f.block lb (lt_of_block hb) (fun e => by have := h.own lb e.1; omega)]; exact hb, hp.1, hp.2.1⟩
  have h00 : ¬ ((n : Int) < 0) := by omega
  clear hm hn h
  go_enter Try.func36, Try.ntmps36
  go_wp2_with (go_at_call 30; refine hrc.mono ?_; rintro e w' ⟨rfl, rfl⟩)
  clear hrc
  go_region_law
    ((refine step_of (by rfl) ?_; go_simp; go_at_call 43; refine hde.mono ?_; rintro e w5 ⟨rv', rfl, hown, hob, hfr⟩; obtain ⟨a', c', rfl, _, _⟩ := hown.slice; obtain ⟨hb5, hlg, hff⟩ := HHB.out _ _ hown hob hfr; obtain ⟨k5, k6, z5, z6⟩ := cell_of_two hb5))
  all_goals
    obtain ⟨W6, hW6⟩ : ∃ W, W = w5.setCell ⟨lb, 0, none⟩ (.slice a' n c') := ⟨_, rfl⟩
    rw [← hW6] at hlg hff ⊢
    clear hb5 k5 k6 z5 z6 hW6 hown hfr
    obtain ⟨j0, j1, y0, y1⟩ := cell_of_two hlg.box
    obtain ⟨l7, f7⟩ := hlg.flush 0
    clear hlg
    go_wp2
    go_ret
    exact ⟨rfl, _, l7, hff.trans f7 (fun i _ e => .inl e), .inl hob⟩
end Go.Proofs.Ytimpoincnfiibaa
