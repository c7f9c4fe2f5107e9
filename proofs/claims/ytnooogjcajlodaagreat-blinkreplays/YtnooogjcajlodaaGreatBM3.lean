
/- BkIns2, BkIns3, BkWith2, BkDo2. -/
import Derived.Test.YtnooogjcajlodaaGreatBB30
import Derived.Test.YtnooogjcajlodaaGreatBN7
import Derived.Test.YtnooogjcajlodaaGreatBkSay
import Derived.Deep.RegionWith
/- A page more among pages: slices.Insert itself. -/
namespace Go.Proofs.YtnooogjcajlodaaGreat
open Go.RowKit Go.Lib
set_option linter.unusedVariables false

set_option maxRecDepth 100000 in
set_option maxHeartbeats 4000000 in
set_option maxRecDepth 100000 in
theorem bins8_shift (g n c i vb : Nat) (cs xs : List Value) (hx : xs.length = 8) (w : World) (hi : i < n) (hroom : n + 1 ≤ c) (hs : n ≤ 100000) (hvb : vb ≠ g) (t : TypeId) (h : Has w 8 (.slice (some ⟨g, 0, none⟩) n c) n cs) (h1c : ∀ v ∈ cs, v.oneCell' = true) (h1v : ∀ v ∈ xs, v.oneCell' = true) (hv : w.heap[vb]? = some (.cells xs.toArray t (0, 0))) :
    Calls Tryz.prog 100 #[.slice (some ⟨g, 0, none⟩) n c, .int .i64 i, .slice (some ⟨vb, 0, none⟩) 1 1] w fun e w' => e = .returned (.slice (some ⟨g, 0, none⟩) (n + 1) c) ∧ w' = (w.drew.setCells g (0 + (i + 1) * 8) (cs.drop (i * 8))).setCells g (0 + i * 8) xs := by
  have hl : cs.length = n * 8 := h.1
  obtain ⟨g2, c2, e0, hg, hnc, hcm, hth, hra⟩ := h.form (by omega)
  simp only [Value.slice.injEq, Option.some.injEq, Addr.mk.injEq, and_true, true_and] at e0
  obtain ⟨rfl, rfl⟩ := e0
  have hc63 : c ≤ 9223372036854775807 := by unfold maxLen at hcm; omega
  obtain ⟨tB, kB, hsb, hkB⟩ := shape_of (w := w) (b := g) (fun j hj => hth j (by omega))
  have hsa : w.shape? vb = some (t, 8) := by unfold World.shape?; rw [hv]; simp [hx]
  have hfa : w.frozen? ⟨vb, 0, none⟩ = false := by simp [World.frozen?, hv]
  have hfe : w.frozen? ⟨vb, 8, none⟩ = false := by simp [World.frozen?, hv]
  have hvs : ∀ j v, xs[j]? = some v → w.cell? ⟨vb, 0 + j, none⟩ = some v := fun j v hv2 => (range_block hv (xs := xs) (o := 0) (fun j v h => by rw [Nat.zero_add]; simpa using h)) j v hv2
  have hov : ∀ lb cb, (callFunc 106 #[.slice (some ⟨vb, 0, none⟩) 1 1, .slice (some ⟨g, (i + 1) * 8, none⟩) lb cb]).run Tryz.prog w = .ok (.value (.bool false)) w := fun lb cb => by
    rw [run_callFunc_extern Tryz.func106 (by kernel_rfl) (by kernel_rfl) (by kernel_rfl) (e := Extern.SlicesOverlaps.overlaps #[22, 22] #[4]) (by kernel_rfl),
      Lib.run_overlaps_apart w 22 4 61 Tryz.underlying22 8 sizeSl ⟨vb, 0, none⟩ ⟨g, (i + 1) * 8, none⟩ 1 1 lb cb hvb t tB 8 kB hsa hsb hkB hfa hfe]
    rfl
  have hsz : (Tryz.prog.info? 61).map (·.size) = some 8 := by kernel_rfl
  have hdl : (cs.drop (i * 8)).length = (n - i) * 8 := by rw [List.length_drop, hl]; omega
  have mixed : Tryz.prog.follows Departure.mixedOrders = true := by kernel_rfl
  have hin : i ≤ n := by omega
  have htn : ((i : Int) + 1).toNat = i + 1 := by omega
  have hb1 : (0 : Int) ≤ (i : Int) + 1 := by omega
  have hw1 : IntKind.i64.wrap ((i : Int) + 1) = (i : Int) + 1 := by simp [IntKind.wrap, IntKind.bits, IntKind.signed]; omega
  have hb2 : ¬ (c = i + 1) := by omega
  have hb3 : (i : Int) ≤ (n : Int) + 1 := by omega
  have hb4 : ¬ (c = i) := by omega
  have hcp1 : ∀ ty dc sc, (Builtin.copy_ #[69, 69] ty #[.slice (some ⟨g, (i + 1) * 8, none⟩) (n - i) dc, .slice (some ⟨g, i * 8, none⟩) (n + 1 - i) sc]).run Tryz.prog w.drew = .ok (goInt (Nat.min (n + 1 - i) (n - i))) (w.drew.setCells g ((i + 1) * 8) (cs.drop (i * 8))) := fun ty dc sc =>
    run_copyK w.drew _ _ ty 61 8 g ((i + 1) * 8) (n - i) dc ⟨g, i * 8, none⟩ (n + 1 - i) sc (cs.drop (i * 8)) Tryz.underlying69 hsz (by rw [hdl]; simp only [Nat.min_def]; split <;> omega)
      (fun j v hj => by rw [Addr.add_lit]; have := hra (i * 8 + j) v (by rwa [List.getElem?_drop] at hj); rwa [Nat.zero_add] at this)
      (fun j hj => by have := (hth ((i + 1) * 8 + j) (by omega)).1; rwa [Nat.zero_add] at this) (fun j hj => by have := (hth ((i + 1) * 8 + j) (by omega)).2; rwa [Nat.zero_add] at this) (fun v hv => h1c v (List.mem_of_mem_drop hv))
  obtain ⟨W1, hW1⟩ : ∃ W1, W1 = w.drew.setCells g ((i + 1) * 8) (cs.drop (i * 8)) := ⟨_, rfl⟩
  have ht1 : W1.there g 0 (c * 8) := by rw [hW1]; exact World.there_setCells ((World.there_drew _ _ _ _).2 hth) _ _ _
  have hcp2 : ∀ (W : World), (∀ x, W.cell? x = W1.cell? x) → (∀ x, W.frozen? x = W1.frozen? x) → ∀ ty dc, (Builtin.copy_ #[69, 22] ty #[.slice (some ⟨g, i * 8, none⟩) (n + 1 - i) dc, .slice (some ⟨vb, 0, none⟩) 1 1]).run Tryz.prog W = .ok (goInt (Nat.min 1 (n + 1 - i))) (W.setCells g (i * 8) xs) := fun W hWc hWf ty dc =>
    run_copyK W _ _ ty 61 8 g (i * 8) (n + 1 - i) dc ⟨vb, 0, none⟩ 1 1 xs Tryz.underlying69 hsz (by rw [hx]; simp only [Nat.min_def]; split <;> omega)
      (fun j v hj => by rw [Addr.add_lit, hWc, hW1, World.cell?_setCells_out g _ _ _ _ (fun h _ => absurd h hvb)]; exact hvs j v hj)
      (fun j hj => by rw [hWc]; have := (ht1 (i * 8 + j) (by omega)).1; rwa [Nat.zero_add] at this) (fun j hj => by rw [hWf]; have := (ht1 (i * 8 + j) (by omega)).2; rwa [Nat.zero_add] at this) h1v
  rw [← hW1] at hcp1
  have HW1 : Hid (W1 = w.drew.setCells g ((i + 1) * 8) (cs.drop (i * 8))) := hW1
  rw [Nat.zero_add, Nat.zero_add, ← hW1]
  clear hW1 hth hra hv hvs hsb hsa hfa hfe h hl hdl
  go_enter Tryz.func100, Tryz.ntmps100
  go_wp2_with (simp only [hov])
  go_region_law_o (refine step_copy_runI rfl _ _ 69 69 rfl _ _ (by simp [Act.eval, Act.put]) (by simp [Act.eval, Act.put]) (hcp1 _ _ _) ?_)
  go_wp2_with (at_builtin; refine wpList_copy_runI _ rfl _ _ 69 22 rfl _ _ rfl rfl (hcp2 _ (fun _ => rfl) (fun _ => rfl) _ _) ?_)
  go_ret
  exact ⟨rfl, rfl⟩
set_option maxRecDepth 100000 in
set_option maxHeartbeats 4000000 in
set_option maxRecDepth 100000 in
theorem bins8_grow (g n c i vb : Nat) (cs xs : List Value) (hx : xs.length = 8) (w : World) (hi : i < n) (hroom : c < n + 1) (hs : n ≤ 100000) (t : TypeId) (h : Has w 8 (.slice (some ⟨g, 0, none⟩) n c) n cs) (h1c : ∀ v ∈ cs, v.oneCell' = true) (h1v : ∀ v ∈ xs, v.oneCell' = true) (hv : w.heap[vb]? = some (.cells xs.toArray t (0, 0))) :
    Calls Tryz.prog 100 #[.slice (some ⟨g, 0, none⟩) n c, .int .i64 i, .slice (some ⟨vb, 0, none⟩) 1 1] w fun e w' => InsO8 w (.slice (some ⟨g, 0, none⟩) n c) (n + 1) (cs.take (i * 8) ++ (xs ++ cs.drop (i * 8))) e w' := by
  have hl : cs.length = n * 8 := h.1
  obtain ⟨g2, c2, e0, hg, hnc, hcm, hth, hra⟩ := h.form (by omega)
  simp only [Value.slice.injEq, Option.some.injEq, Addr.mk.injEq, and_true, true_and] at e0
  obtain ⟨rfl, rfl⟩ := e0
  have hc63 : c ≤ 9223372036854775807 := by unfold maxLen at hcm; omega
  obtain ⟨i0, hi0, hz0, hzs, hzb⟩ := info_parts infoSl
  have hvw : vb < w.heap.size := lt_of_block hv
  have hvs : ∀ j v, xs[j]? = some v → w.cell? ⟨vb, 0 + j, none⟩ = some v := fun j v hv2 => (range_block hv (xs := xs) (o := 0) (fun j v h => by rw [Nat.zero_add]; simpa using h)) j v hv2
  have hsz : (Tryz.prog.info? 61).map (·.size) = some 8 := by kernel_rfl
  have mixed : Tryz.prog.follows Departure.mixedOrders = true := by kernel_rfl
  have hdl : (cs.drop (i * 8)).length = (n - i) * 8 := by rw [List.length_drop, hl]; omega
  have hkk : (n : Int) + 1 - (i : Int) = ((n + 1 - i : Nat) : Int) := by omega
  have hik : i + (n + 1 - i) = n + 1 := by omega
  have hold : (Builtin.firstCells i0.size i (.slice (some ⟨g, 0, none⟩) i c)).run Tryz.prog w.drew = .ok (cs.take (i * 8)).toArray w.drew := by
    rw [hzs]
    exact run_firstCells_some w.drew 8 i ⟨g, 0, none⟩ i c (cs.take (i * 8)) (by rw [List.length_take]; omega) (fun j v hj => by
      rw [Addr.add_lit]
      rw [List.getElem?_take] at hj
      split at hj
      · exact hra j v hj
      · cases hj)
  have hrz : ∀ ty, (Builtin.append_ #[69, 3] ty #[.slice (some ⟨g, 0, none⟩) i c, .int .i64 ((n : Int) + 1 - (i : Int))]).run Tryz.prog w =
      .ok (.slice (some ⟨w.heap.size, 0, none⟩) (n + 1) (grownCap w (n + 1) c 61)) (w.drew.alloc (.cells ((cs.take (i * 8)).toArray ++ Builtin.zeroCells (Value.agg #[.int .i64 0, .int .i64 0, .int .i64 0, .int .i64 0, .string ⟨#[]⟩, .slice none 0 0, .slice none 0 0, .slice none 0 0]).cells (n + 1 - i) ++ Builtin.zeroCells (Value.agg #[.int .i64 0, .int .i64 0, .int .i64 0, .int .i64 0, .string ⟨#[]⟩, .slice none 0 0, .slice none 0 0, .slice none 0 0]).cells (grownCap w (n + 1) c 61 - (n + 1))) 61)) := fun ty => by
    have h := Lib.run_append_grow_zeros w 69 3 ty 61 i0 _ .i64 .i64 Tryz.underlying69 Tryz.underlying3 hi0 hz0 (some ⟨g, 0, none⟩) i c (cs.take (i * 8)) hold (n + 1 - i) (by omega) (by omega) (by omega) (by omega) (by rw [hzb]; omega) (by rw [hzb, hik]; exact growslice_fits hroom (by omega))
    rw [hik] at h
    rw [hkk]
    exact h
  have hfin := has_grow8 w n c i 61 (.agg #[.int .i64 0, .int .i64 0, .int .i64 0, .int .i64 0, .string ⟨#[]⟩, .slice none 0 0, .slice none 0 0, .slice none 0 0]) rfl cs xs hx hl hi (by unfold maxLen; omega)
  obtain ⟨G, hG⟩ : ∃ G, G = grownCap w (n + 1) c 61 := ⟨_, rfl⟩
  have hGn : n + 1 ≤ G := by rw [hG]; exact grownCap_ge w _ _ _
  have hG63 : G ≤ 9223372036854775807 := by
    have := grownCap_le_maxLen w (n + 1) c 61 (by unfold maxLen; omega)
    rw [← hG] at this
    unfold maxLen at this
    omega
  obtain ⟨ROW, hROW⟩ : ∃ ROW : Array Value, ROW = (cs.take (i * 8)).toArray ++ Builtin.zeroCells (Value.agg #[.int .i64 0, .int .i64 0, .int .i64 0, .int .i64 0, .string ⟨#[]⟩, .slice none 0 0, .slice none 0 0, .slice none 0 0]).cells (n + 1 - i) ++ Builtin.zeroCells (Value.agg #[.int .i64 0, .int .i64 0, .int .i64 0, .int .i64 0, .string ⟨#[]⟩, .slice none 0 0, .slice none 0 0, .slice none 0 0]).cells (G - (n + 1)) := ⟨_, rfl⟩
  rw [← hG] at hrz hfin
  rw [← hROW] at hrz hfin
  have hRl : (n + 1) * 8 ≤ ROW.size := by
    rw [hROW]
    simp only [Array.size_append, List.size_toArray, size_zeroCells, List.length_take, hl]
    simp [Value.cells]
    omega
  obtain ⟨W1, hW1⟩ : ∃ W1, W1 = w.drew.alloc (.cells ROW 61) := ⟨_, rfl⟩
  rw [← hW1] at hrz
  have hN : ∀ j, j < (n + 1) * 8 → (W1.cell? ⟨w.heap.size, j, none⟩).isSome = true := fun j hj => by
    rw [hW1, World.cell?_alloc_at (w := w.drew) ROW _ w.heap.size j rfl, Array.getElem?_eq_getElem (by omega)]; rfl
  have hNf : ∀ j, W1.frozen? ⟨w.heap.size, j, none⟩ = false := fun j => by rw [hW1]; exact World.frozen?_alloc_at (w := w.drew) ROW _ w.heap.size j rfl
  have hOb : ∀ j v, w.cell? ⟨g, j, none⟩ = some v → W1.cell? ⟨g, j, none⟩ = some v := fun j v h => by rw [hW1, World.cell?_alloc_past (w := w.drew) _ g j hg]; exact h
  have hOv : ∀ j v, w.cell? ⟨vb, j, none⟩ = some v → W1.cell? ⟨vb, j, none⟩ = some v := fun j v h => by rw [hW1, World.cell?_alloc_past (w := w.drew) _ vb j hvw]; exact h
  have hcpA : ∀ (W : World), (∀ x, W.cell? x = W1.cell? x) → (∀ x, W.frozen? x = W1.frozen? x) → ∀ ty dc, (Builtin.copy_ #[69, 22] ty #[.slice (some ⟨w.heap.size, i * 8, none⟩) (n + 1 - i) dc, .slice (some ⟨vb, 0, none⟩) 1 1]).run Tryz.prog W = .ok (goInt (Nat.min 1 (n + 1 - i))) (W.setCells w.heap.size (i * 8) xs) := fun W hWc hWf ty dc =>
    run_copyK W _ _ ty 61 8 w.heap.size (i * 8) (n + 1 - i) dc ⟨vb, 0, none⟩ 1 1 xs Tryz.underlying69 hsz (by rw [hx]; simp only [Nat.min_def]; split <;> omega)
      (fun j v hj => by rw [Addr.add_lit, hWc]; exact hOv _ v (hvs j v hj))
      (fun j hj => by rw [hWc]; exact hN _ (by omega)) (fun j hj => by rw [hWf]; exact hNf _) h1v
  have hbN : g ≠ w.heap.size := by omega
  have hcpB : ∀ (W : World), (∀ x, W.cell? x = (W1.setCells w.heap.size (i * 8) xs).cell? x) → (∀ x, W.frozen? x = (W1.setCells w.heap.size (i * 8) xs).frozen? x) → ∀ ty dc sc, (Builtin.copy_ #[69, 69] ty #[.slice (some ⟨w.heap.size, (i + 1) * 8, none⟩) (n - i) dc, .slice (some ⟨g, i * 8, none⟩) (n - i) sc]).run Tryz.prog W = .ok (goInt (Nat.min (n - i) (n - i))) (W.setCells w.heap.size ((i + 1) * 8) (cs.drop (i * 8))) := fun W hWc hWf ty dc sc =>
    run_copyK W _ _ ty 61 8 w.heap.size ((i + 1) * 8) (n - i) dc ⟨g, i * 8, none⟩ (n - i) sc (cs.drop (i * 8)) Tryz.underlying69 hsz (by rw [hdl]; simp only [Nat.min_def]; split <;> omega)
      (fun j v hj => by
        rw [Addr.add_lit, hWc, World.cell?_setCells_out _ _ _ _ _ (fun h _ => absurd h hbN)]
        have := hra (i * 8 + j) v (by rwa [List.getElem?_drop] at hj)
        rw [Nat.zero_add] at this
        exact hOb _ v this)
      (fun j hj => by rw [hWc]; exact isSome_setCells _ _ _ _ (fun t ht => hN _ (by omega)) _ (hN _ (by omega)))
      (fun j hj => by rw [hWf, World.frozen?_setCells]; exact hNf _) (fun v hv => h1c v (List.mem_of_mem_drop hv))
  subst hW1
  have hE1 : ∀ x, ((w.alloc (.cells ROW 61)).drew).cell? x = (w.drew.alloc (.cells ROW 61)).cell? x := fun x => rfl
  have hE2 : ∀ x, ((w.alloc (.cells ROW 61)).drew).frozen? x = (w.drew.alloc (.cells ROW 61)).frozen? x := fun x => rfl
  have hF1 : ∀ x, (((w.alloc (.cells ROW 61)).drew.setCells w.heap.size (i * 8) xs).drew).cell? x = ((w.drew.alloc (.cells ROW 61)).setCells w.heap.size (i * 8) xs).cell? x := fun x => rfl
  have hF2 : ∀ x, (((w.alloc (.cells ROW 61)).drew.setCells w.heap.size (i * 8) xs).drew).frozen? x = ((w.drew.alloc (.cells ROW 61)).setCells w.heap.size (i * 8) xs).frozen? x := fun x => rfl
  have hw1 : IntKind.i64.wrap ((i : Int) + 1) = (i : Int) + 1 := by simp [IntKind.wrap, IntKind.bits, IntKind.signed]; omega
  have hw2 : IntKind.i64.wrap ((n : Int) + 1) = (n : Int) + 1 := by simp [IntKind.wrap, IntKind.bits, IntKind.signed]; omega
  have hw3 : IntKind.i64.wrap ((n : Int) + 1 - (i : Int)) = (n : Int) + 1 - (i : Int) := by simp [IntKind.wrap, IntKind.bits, IntKind.signed]; omega
  have hb1 : (0 : Int) ≤ (i : Int) + 1 := by omega
  have hin : i ≤ n := by omega
  have htn : ((i : Int) + 1).toNat = i + 1 := by omega
  have hb3 : (i : Int) ≤ (n : Int) := by omega
  have hz3 : (c : Int) < (n : Int) + 1 := by omega
  have hz2 : ((i : Int) == (n : Int)) = false := by rw [beq_eq_false_iff_ne]; omega
  have hGi : ¬ (G = i) := by omega
  have hGim : ¬ (G = i + 1) := by omega
  have hci : ¬ (c = i) := by omega
  have HFIN : Hid _ := hfin
  clear hkk hik hold hROW hG hRl hth hra hv hvs h hl hdl hfin
  go_enter Tryz.func100, Tryz.ntmps100
  go_wp2_with (first
    | (at_builtin; refine Lib.wpList_append_run _ rfl _ _ _ _ rfl _ _ rfl rfl _ _ (hrz _) ?_)
    | (at_builtin; refine wpList_copy_runI _ rfl _ _ 69 22 rfl _ _ rfl rfl (hcpA _ hE1 hE2 _ _) ?_))
  go_region_law_o (refine step_copy_runI rfl _ _ 69 69 rfl (.slice (some ⟨w.heap.size, (i + 1) * 8, none⟩) (n - i) (G - (i + 1))) (.slice (some ⟨g, i * 8, none⟩) (n - i) (c - i)) (by simp [Act.eval, Act.put]) (by simp [Act.eval, Act.put]) (hcpB _ hF1 hF2 3 (G - (i + 1)) (c - i)) ?_)
  go_wp2
  go_ret
  exact ⟨_, _, rfl, HFIN.out, Fr.setCells (fun h => absurd h (by omega)) _ _ (Fr.setCells (fun h => absurd h (by omega)) _ _ ((Fr.refl _ w).alloc _).drew).drew, .inr ⟨_, rfl, Nat.le_refl _⟩⟩
end Go.Proofs.YtnooogjcajlodaaGreat

/- A page more among pages: slices.Insert over all its roads. -/
namespace Go.Proofs.YtnooogjcajlodaaGreat
open Go.RowKit Go.Lib
set_option linter.unusedVariables false

set_option maxRecDepth 100000 in
set_option maxHeartbeats 4000000 in
set_option maxRecDepth 100000 in
theorem bins8_end (a : Option Addr) (n c vb : Nat) (cs xs : List Value) (hx : xs.length = 8) (w : World) (hs : n ≤ 100000) (t : TypeId) (h : Has w 8 (.slice a n c) n cs) (hca : c ≤ 9223372036854775807) (hnc : n ≤ c) (ha : a = none → c = 0) (h1v : ∀ v ∈ xs, v.oneCell' = true) (hv : w.heap[vb]? = some (.cells xs.toArray t (0, 0))) :
    Calls Tryz.prog 100 #[.slice a n c, .int .i64 n, .slice (some ⟨vb, 0, none⟩) 1 1] w fun e w' => InsO8 w (.slice a n c) (n + 1) (cs ++ xs) e w' := by
  obtain ⟨i0, hi0, hz0, hzs, hzb⟩ := info_parts infoSl
  have hra : w.rangeAt vb 0 xs := range_block hv (xs := xs) (o := 0) (fun j v h => by rw [Nat.zero_add]; simpa using h)
  have HH : Hid (Has w 8 (.slice a n c) n cs) := h
  have HV : Hid (From w (some ⟨vb, 0, none⟩) xs) := .inr ⟨_, _, rfl, hra⟩
  clear h hra hv
  by_cases hcn : c = n
  · subst hcn
    go_enter Tryz.func100, Tryz.ntmps100
    go_wp2_with (at_builtin; refine wpList_append_has _ rfl _ _ 69 22 61 61 rfl i0 _ 8 120 Tryz.underlying69 Tryz.underlying22 hi0 hz0 hzs hzb rfl (by omega) (.slice a c c) c cs rfl HH.out (some ⟨vb, 0, none⟩) 1 1 xs rfl (by rw [hx]) HV.out h1v (by unfold maxLen; omega) (by omega) ?_; intro am cm w2 hown hfr hat)
    go_ret
    exact ⟨_, _, rfl, hown, hfr.mono (fun _ _ h => h.1), hat.imp id (fun h => ⟨_, h, Nat.le_refl _⟩)⟩
  · go_enter Tryz.func100, Tryz.ntmps100
    go_wp2_with (at_builtin; refine wpList_append_has _ rfl _ _ 69 22 61 61 rfl i0 _ 8 120 Tryz.underlying69 Tryz.underlying22 hi0 hz0 hzs hzb rfl (by omega) (.slice a n c) n cs rfl HH.out (some ⟨vb, 0, none⟩) 1 1 xs rfl (by rw [hx]) HV.out h1v (by unfold maxLen; omega) (by omega) ?_; intro am cm w2 hown hfr hat)
    go_ret
    exact ⟨_, _, rfl, hown, hfr.mono (fun _ _ h => h.1), hat.imp id (fun h => ⟨_, h, Nat.le_refl _⟩)⟩
theorem bins8_any (a : Option Addr) (n c i vb : Nat) (cs xs : List Value) (hx : xs.length = 8) (w : World) (hi : i ≤ n) (hs : n ≤ 100000) (t : TypeId) (h : Has w 8 (.slice a n c) n cs) (hne : (Value.slice a n c).ownBlock ≠ some vb) (h1c : ∀ v ∈ cs, v.oneCell' = true) (h1v : ∀ v ∈ xs, v.oneCell' = true) (hv : w.heap[vb]? = some (.cells xs.toArray t (0, 0))) :
    Calls Tryz.prog 100 #[.slice a n c, .int .i64 i, .slice (some ⟨vb, 0, none⟩) 1 1] w fun e w' => InsO8 w (.slice a n c) (n + 1) (cs.take (i * 8) ++ (xs ++ cs.drop (i * 8))) e w' := by
  have hl : cs.length = n * 8 := h.1
  rcases Nat.lt_or_eq_of_le hi with hlt | heq
  · obtain ⟨g, c2, e0, hg, hnc, hcm, hth, hra⟩ := h.form (by omega)
    simp only [Value.slice.injEq, true_and] at e0
    obtain ⟨rfl, rfl⟩ := e0
    by_cases hroom : n + 1 ≤ c
    · refine (bins8_shift g n c i vb cs xs hx w hlt hroom hs (fun e => hne (by rw [e]; rfl)) t h h1c h1v hv).mono ?_
      rintro e w' ⟨rfl, rfl⟩
      exact ⟨_, _, rfl, has_shift8 hx h hroom hi, Fr.ownB (Fr.setCells (S := fun k => k = g) (fun _ => rfl) _ _ (Fr.setCells (S := fun k => k = g) (fun _ => rfl) _ _ ((Fr.refl _ w).drew))), .inl rfl⟩
    · exact bins8_grow g n c i vb cs xs hx w hlt (by omega) hs t h h1c h1v hv
  · subst heq
    rw [List.take_of_length_le (by omega), List.drop_eq_nil_of_le (by omega), List.append_nil]
    rcases h.2 with ⟨e, h0⟩ | ⟨g, cap, e, hg, hnc, hcm, hth, hra⟩
    · simp only [Value.slice.injEq] at e
      obtain ⟨rfl, rfl, rfl⟩ := e
      exact bins8_end none 0 0 vb cs xs hx w hs t h (by omega) (by omega) (fun _ => rfl) h1v hv
    · simp only [Value.slice.injEq, true_and] at e
      obtain ⟨rfl, rfl⟩ := e
      exact bins8_end _ i c vb cs xs hx w hs t h (by unfold maxLen at hcm; omega) hnc (fun e => by cases e) h1v hv
end Go.Proofs.YtnooogjcajlodaaGreat

/- Pages with a page's node, where the page is not there. -/
namespace Go.Proofs.YtnooogjcajlodaaGreat
open Go.RowKit

set_option maxRecDepth 100000 in
set_option maxHeartbeats 4000000 in
theorem bwith_no (a : Option Addr) (n c : Nat) (lp : List Sl) (x : Int) (m : Nd) (q : Pt) (hn : n = lp.length) (hf : lp.length ≤ 10000) (hr : Rise lp) (hb : hasB lp x = false) (w : World) (h : Sv w (.slice a n c) lp) (hm : Nod w m q) (ho : Off (fun k => (Value.slice a n c).ownBlock = some k) m q) :
    Calls Tryz.prog 65 #[.slice a n c, .int .i64 x, (.agg #[.int .i64 m.lev, .int .i64 m.lsn, .int .i64 m.rgt, .string m.high, .slice q.k m.keys.length q.kc, .slice q.v m.vals.length q.vc, .slice q.i m.kids.length q.ic])] w fun e w' => ∃ a' c', e = .returned (.slice a' (n + 1) c') ∧ Sv w' (.slice a' (n + 1) c') (lp.take (ahead lp x) ++ ⟨x, m, q⟩ :: lp.drop (ahead lp x)) ∧ Fr (fun k => (Value.slice a n c).ownBlock = some k) w w' ∧ ((Value.slice a' (n + 1) c').ownBlock = (Value.slice a n c).ownBlock ∨ ∃ g, (Value.slice a' (n + 1) c').ownBlock = some g ∧ w.heap.size ≤ g) := by
  have f0 := Fr.box w (.cells #[.int .i64 m.lev, .int .i64 m.lsn, .int .i64 m.rgt, .string m.high, .slice q.k m.keys.length q.kc, .slice q.v m.vals.length q.vc, .slice q.i m.kids.length q.ic] 59)
  have hsv := h.same f0
  have hpl := bplace_any a n c lp hn (by omega) hr x _ (hsv.slots hn)
  rw [hb] at hpl
  have hile : ahead lp x ≤ n := by rw [hn]; exact ahead_le lp x
  obtain ⟨i, hi⟩ : ∃ i, i = ahead lp x := ⟨_, rfl⟩
  rw [← hi] at hpl hile ⊢
  have HB : Hid (∀ W, Fr (fun _ => False) (w.alloc (.cells #[.int .i64 m.lev, .int .i64 m.lsn, .int .i64 m.rgt, .string m.high, .slice q.k m.keys.length q.kc, .slice q.v m.vals.length q.vc, .slice q.i m.kids.length q.ic] 59)) W → W.heap[w.heap.size]? = some (.cells #[.int .i64 m.lev, .int .i64 m.lsn, .int .i64 m.rgt, .string m.high, .slice q.k m.keys.length q.kc, .slice q.v m.vals.length q.vc, .slice q.i m.kids.length q.ic] 59 (0, 0))) := fun W f => f.blk (heap_alloc_new w _) (fun f => f)
  have HSV : Hid (∀ W, Fr (fun _ => False) (w.alloc (.cells #[.int .i64 m.lev, .int .i64 m.lsn, .int .i64 m.rgt, .string m.high, .slice q.k m.keys.length q.kc, .slice q.v m.vals.length q.vc, .slice q.i m.kids.length q.ic] 59)) W → Sv W (.slice a n c) lp) := fun W f => hsv.same f
  have HND : Hid (∀ W, Fr (fun _ => False) (w.alloc (.cells #[.int .i64 m.lev, .int .i64 m.lsn, .int .i64 m.rgt, .string m.high, .slice q.k m.keys.length q.kc, .slice q.v m.vals.length q.vc, .slice q.i m.kids.length q.ic] 59)) W → Nod W m q) := fun W f => (hm.same f0).same f
  have HOF : Hid (Off (fun k => (Value.slice a n c).ownBlock = some k) m q) := ho
  have HN : Hid (n = lp.length) := hn
  have HF0 : Hid (Fr (fun _ => False) w (w.alloc (.cells #[.int .i64 m.lev, .int .i64 m.lsn, .int .i64 m.rgt, .string m.high, .slice q.k m.keys.length q.kc, .slice q.v m.vals.length q.vc, .slice q.i m.kids.length q.ic] 59))) := f0
  have HLO : Hid (∀ k, (Value.slice a n c).ownBlock = some k → k < w.heap.size) := fun k hk => h.has.lt hk
  have hn4 : n ≤ 10000 := by omega
  clear h hm ho hr hb hi hsv f0 hn hf
  go_enter Tryz.func65, Tryz.ntmps65
  go_wp2_with fail
  refine hpl.mono ?_
  rintro e w1 ⟨rfl, f1⟩
  obtain ⟨c0, c1, c2, c3, c4, c5, c6⟩ := box_cells (HB.out _ f1)
  have fA := (Fr.refl (fun _ => False) w1).alloc (.cells #[.int .i64 x, .int .i64 m.lev, .int .i64 m.lsn, .int .i64 m.rgt, .string m.high, .slice q.k m.keys.length q.kc, .slice q.v m.vals.length q.vc, .slice q.i m.kids.length q.ic] 61)
  have hsA := HSV.out _ (f1.seq' fA)
  have hNA := HND.out _ (f1.seq' fA)
  have hz1 : w.heap.size + 1 ≤ w1.heap.size := by have := f1.size; simp at this; omega
  have hin := bins8_any a n c i w1.heap.size (lp.flatMap slC) (slC ⟨x, m, q⟩) rfl (w1.alloc (.cells #[.int .i64 x, .int .i64 m.lev, .int .i64 m.lsn, .int .i64 m.rgt, .string m.high, .slice q.k m.keys.length q.kc, .slice q.v m.vals.length q.vc, .slice q.i m.kids.length q.ic] 61)) hile (by omega) 61 (by have := hsA.has; rwa [← HN.out] at this) (fun e => by have := HLO.out _ e; omega) (slCs_one lp) (slC_one _) (heap_alloc_new w1 _)
  have HIN : Hid (∀ e w', InsO8 (w1.alloc (.cells #[.int .i64 x, .int .i64 m.lev, .int .i64 m.lsn, .int .i64 m.rgt, .string m.high, .slice q.k m.keys.length q.kc, .slice q.v m.vals.length q.vc, .slice q.i m.kids.length q.ic] 61)) (.slice a n c) (n + 1) ((lp.flatMap slC).take (i * 8) ++ (slC ⟨x, m, q⟩ ++ (lp.flatMap slC).drop (i * 8))) e w' → ∃ a' c', e = .returned (.slice a' (n + 1) c') ∧ Sv w' (.slice a' (n + 1) c') (lp.take i ++ ⟨x, m, q⟩ :: lp.drop i) ∧ Fr (fun k => (Value.slice a n c).ownBlock = some k) w w' ∧ ((Value.slice a' (n + 1) c').ownBlock = (Value.slice a n c).ownBlock ∨ ∃ g, (Value.slice a' (n + 1) c').ownBlock = some g ∧ w.heap.size ≤ g)) := by
    rintro e w' ⟨a', c', rfl, hh, hfr, hat⟩
    have hsv := hsA.ins HN.out ⟨x, m, q⟩ hNA HOF.out hh hfr hat
    refine ⟨a', c', rfl, hsv, ?_, ?_⟩
    · exact ((HF0.out.seq' (f1.seq' fA)).mono (T := fun k => (Value.slice a n c).ownBlock = some k) (fun _ _ f => f.elim)).trans hfr (fun k _ e => e)
    · rcases hat with e | ⟨g, e, hg⟩
      · exact .inl e
      · exact .inr ⟨g, e, by simp at hg; omega⟩
  clear hsA hNA hpl
  go_wp2_with fail
  refine hin.mono ?_
  intro e w5 ho5
  obtain ⟨a', c', rfl, hout⟩ := HIN.out e w5 ho5
  go_wp2
  go_ret
  exact ⟨a', c', rfl, hout⟩
end Go.Proofs.YtnooogjcajlodaaGreat

/- A record done to a page of a tree, whether it is there or not. -/
namespace Go.Proofs.YtnooogjcajlodaaGreat
open Go.RowKit

theorem put_facts {W V : World} {tb B R : Nat} {r : Rec} {m : Nd} {q : Pt} {t2 t3 : TypeId} {u : Value} (h1 : W.heap[R]? = some (.cells #[.int .i64 r.lsn, .int .i64 r.ep, .int .i64 r.kind, .int .i64 r.page, .int .i64 r.other, .int .i64 r.req, .string r.key, .string r.val] t2 (0, 0))) (h2 : W.heap[B]? = some (.cells #[.int .i64 m.lev, .int .i64 m.lsn, .int .i64 m.rgt, .string m.high, .slice q.k m.keys.length q.kc, .slice q.v m.vals.length q.vc, .slice q.i m.kids.length q.ic] t3 (0, 0))) (hr : R ≠ tb) (hb : B ≠ tb) (hV : W.setCell ⟨tb, 0, none⟩ u = V) : (V.cell? ⟨R, 0, none⟩ = some (.int .i64 r.lsn) ∧ V.cell? ⟨R, 1, none⟩ = some (.int .i64 r.ep) ∧ V.cell? ⟨R, 2, none⟩ = some (.int .i64 r.kind) ∧ V.cell? ⟨R, 3, none⟩ = some (.int .i64 r.page) ∧ V.cell? ⟨R, 4, none⟩ = some (.int .i64 r.other) ∧ V.cell? ⟨R, 5, none⟩ = some (.int .i64 r.req) ∧ V.cell? ⟨R, 6, none⟩ = some (.string r.key) ∧ V.cell? ⟨R, 7, none⟩ = some (.string r.val)) ∧ V.cell? ⟨B, 0, none⟩ = some (.int .i64 m.lev) ∧ V.cell? ⟨B, 1, none⟩ = some (.int .i64 m.lsn) ∧ V.cell? ⟨B, 2, none⟩ = some (.int .i64 m.rgt) ∧ V.cell? ⟨B, 3, none⟩ = some (.string m.high) ∧ V.cell? ⟨B, 4, none⟩ = some (.slice q.k m.keys.length q.kc) ∧ V.cell? ⟨B, 5, none⟩ = some (.slice q.v m.vals.length q.vc) ∧ V.cell? ⟨B, 6, none⟩ = some (.slice q.i m.kids.length q.ic) := by
  subst hV
  have f : Fr (fun k => k = tb) W (W.setCell ⟨tb, 0, none⟩ u) := (Fr.refl (fun k => k = tb) W).setCell (p := ⟨tb, 0, none⟩) (fun _ => rfl) _
  exact ⟨(rec_cells (f.blk h1 hr)).1, box_cells (f.blk h2 hb)⟩
set_option maxRecDepth 100000 in
set_option maxHeartbeats 8000000 in
theorem do_put (r : Rec) (hkz : r.key.size ≤ 140737488351232) (hvz : r.val.size ≤ 140737488351232) (tb mb : Nat) (a : Option Addr) (n c : Nat) (lp : List Sl) (last : Int) (nd0 : Nd) (pt0 : Pt) (th : Bool) (P : Nd → List (Int × Nd)) (hE : apE nd0 th r = 0)
    (hfi0 : ∀ W, Slots W a c lp → Calls Tryz.prog 63 #[.slice a n c, .int .i64 r.page] W fun e w' => e = .returned (.tuple #[(.agg #[.int .i64 nd0.lev, .int .i64 nd0.lsn, .int .i64 nd0.rgt, .string nd0.high, .slice pt0.k nd0.keys.length pt0.kc, .slice pt0.v nd0.vals.length pt0.vc, .slice pt0.i nd0.kids.length pt0.ic]), .bool th]) ∧ Fr (fun _ => False) W w')
    (hnd0 : ∀ W, Sv W (.slice a n c) lp → Nod W nd0 pt0)
    (hwi0 : ∀ m q W, Sv W (.slice a n c) lp → Nod W m q → Off (fun k => (Value.slice a n c).ownBlock = some k) m q → Calls Tryz.prog 65 #[.slice a n c, .int .i64 r.page, (.agg #[.int .i64 m.lev, .int .i64 m.lsn, .int .i64 m.rgt, .string m.high, .slice q.k m.keys.length q.kc, .slice q.v m.vals.length q.vc, .slice q.i m.kids.length q.ic])] W fun e w' => ∃ a' n' c' lp', e = .returned (.slice a' n' c') ∧ n' = lp'.length ∧ psOf lp' = P m ∧ (∀ s ∈ lp', s ∈ lp ∨ s = ⟨r.page, m, q⟩) ∧ Sv w' (.slice a' n' c') lp' ∧ Fr (fun k => (Value.slice a n c).ownBlock = some k) W w' ∧ ((Value.slice a' n' c').ownBlock = (Value.slice a n c).ownBlock ∨ ∃ g, (Value.slice a' n' c').ownBlock = some g ∧ W.heap.size ≤ g))
    (w : World) (h : TrS w tb mb a n c lp last) :
    Calls Tryz.prog 31 #[.pointer (some ⟨tb, 0, none⟩), (.agg #[.int .i64 r.lsn, .int .i64 r.ep, .int .i64 r.kind, .int .i64 r.page, .int .i64 r.other, .int .i64 r.req, .string r.key, .string r.val])] w fun e w' => ∃ q a' n' c' lp', e = .returned (.int .i64 0) ∧ Nw w q ∧ psOf lp' = P (apN nd0 th r) ∧ (∀ s ∈ lp', s ∈ lp ∨ s = ⟨r.page, apN nd0 th r, q⟩) ∧ TrS w' tb mb a' n' c' lp' last ∧ Fr (fun k => (Value.slice a n c).ownBlock = some k ∨ k = tb ∨ k = mb) w w' ∧ ((Value.slice a' n' c').ownBlock = (Value.slice a n c).ownBlock ∨ ∃ g, (Value.slice a' n' c').ownBlock = some g ∧ w.heap.size ≤ g) := by
  have f0 := Fr.box w (.cells #[.int .i64 r.lsn, .int .i64 r.ep, .int .i64 r.kind, .int .i64 r.page, .int .i64 r.other, .int .i64 r.req, .string r.key, .string r.val] 42)
  have h1 := h.same f0
  have htl : tb < w.heap.size := lt_of_block h.tr.box
  have hml : mb < w.heap.size := by obtain ⟨U, hU⟩ := h.tr.map; exact hU.lt
  have HSX : Hid (∀ W, Fr (fun _ => False) (w.alloc (.cells #[.int .i64 r.lsn, .int .i64 r.ep, .int .i64 r.kind, .int .i64 r.page, .int .i64 r.other, .int .i64 r.req, .string r.key, .string r.val] 42)) W → TrS W tb mb a n c lp last) := fun W f => h1.same f
  have HRB : Hid (∀ W, Fr (fun _ => False) (w.alloc (.cells #[.int .i64 r.lsn, .int .i64 r.ep, .int .i64 r.kind, .int .i64 r.page, .int .i64 r.other, .int .i64 r.req, .string r.key, .string r.val] 42)) W → W.heap[w.heap.size]? = some (.cells #[.int .i64 r.lsn, .int .i64 r.ep, .int .i64 r.kind, .int .i64 r.page, .int .i64 r.other, .int .i64 r.req, .string r.key, .string r.val] 42 (0, 0))) := fun W f => f.blk (heap_alloc_new w _) (fun f => f)
  have HQ : Hid (∀ W, Fr (fun _ => False) (w.alloc (.cells #[.int .i64 r.lsn, .int .i64 r.ep, .int .i64 r.kind, .int .i64 r.page, .int .i64 r.other, .int .i64 r.req, .string r.key, .string r.val] 42)) W → (W.cell? ⟨tb, 0, none⟩ = some (.slice a n c) ∧ W.cell? ⟨tb, 1, none⟩ = some (.pointer (some ⟨mb, 0, none⟩)) ∧ W.cell? ⟨tb, 2, none⟩ = some (.int .i64 last)) ∧ W.cell? ⟨w.heap.size, 0, none⟩ = some (.int .i64 r.lsn) ∧ W.cell? ⟨w.heap.size, 1, none⟩ = some (.int .i64 r.ep) ∧ W.cell? ⟨w.heap.size, 2, none⟩ = some (.int .i64 r.kind) ∧ W.cell? ⟨w.heap.size, 3, none⟩ = some (.int .i64 r.page) ∧ W.cell? ⟨w.heap.size, 4, none⟩ = some (.int .i64 r.other) ∧ W.cell? ⟨w.heap.size, 5, none⟩ = some (.int .i64 r.req) ∧ W.cell? ⟨w.heap.size, 6, none⟩ = some (.string r.key) ∧ W.cell? ⟨w.heap.size, 7, none⟩ = some (.string r.val)) := fun W f => ⟨(tree_cells (HSX.out W f).tr.box).1, (rec_cells (HRB.out W f)).1⟩
  have g0 := (Fr.refl (fun _ => False) (w.alloc (.cells #[.int .i64 r.lsn, .int .i64 r.ep, .int .i64 r.kind, .int .i64 r.page, .int .i64 r.other, .int .i64 r.req, .string r.key, .string r.val] 42))).drew
  have ga := ((Fr.refl (fun _ => False) (w.alloc (.cells #[.int .i64 r.lsn, .int .i64 r.ep, .int .i64 r.kind, .int .i64 r.page, .int .i64 r.other, .int .i64 r.req, .string r.key, .string r.val] 42))).alloc (.cells #[.int .i64 0, .int .i64 0, .int .i64 0, .string ⟨#[]⟩, .slice none 0 0, .slice none 0 0, .slice none 0 0] 59)).drew
  have hba : ((w.alloc (.cells #[.int .i64 r.lsn, .int .i64 r.ep, .int .i64 r.kind, .int .i64 r.page, .int .i64 r.other, .int .i64 r.req, .string r.key, .string r.val] 42)).alloc (.cells #[.int .i64 0, .int .i64 0, .int .i64 0, .string ⟨#[]⟩, .slice none 0 0, .slice none 0 0, .slice none 0 0] 59)).drew.heap[w.heap.size + 1]? = some (.cells #[.int .i64 0, .int .i64 0, .int .i64 0, .string ⟨#[]⟩, .slice none 0 0, .slice none 0 0, .slice none 0 0] 59 (0, 0)) := by
    have := heap_alloc_new (w.alloc (.cells #[.int .i64 r.lsn, .int .i64 r.ep, .int .i64 r.kind, .int .i64 r.page, .int .i64 r.other, .int .i64 r.req, .string r.key, .string r.val] 42)) (.cells #[.int .i64 0, .int .i64 0, .int .i64 0, .string ⟨#[]⟩, .slice none 0 0, .slice none 0 0, .slice none 0 0] 59)
    rw [show (w.alloc (.cells #[.int .i64 r.lsn, .int .i64 r.ep, .int .i64 r.kind, .int .i64 r.page, .int .i64 r.other, .int .i64 r.req, .string r.key, .string r.val] 42)).heap.size = w.heap.size + 1 by simp] at this
    exact this
  have q0 := HQ.out _ g0
  have qa := HQ.out _ ga
  have hnb : w.heap.size + 1 < (w.alloc (.cells #[.int .i64 r.lsn, .int .i64 r.ep, .int .i64 r.kind, .int .i64 r.page, .int .i64 r.other, .int .i64 r.req, .string r.key, .string r.val] 42)).heap.size → False := fun h => by simp at h
  have hfi := fun W (f : Fr (fun _ => False) (w.alloc (.cells #[.int .i64 r.lsn, .int .i64 r.ep, .int .i64 r.kind, .int .i64 r.page, .int .i64 r.other, .int .i64 r.req, .string r.key, .string r.val] 42)) W) => hfi0 W ((h1.same f).sv.slots h.len)
  have HND : Hid (∀ W, Fr (fun _ => False) (w.alloc (.cells #[.int .i64 r.lsn, .int .i64 r.ep, .int .i64 r.kind, .int .i64 r.page, .int .i64 r.other, .int .i64 r.req, .string r.key, .string r.val] 42)) W → Nod W nd0 pt0) := fun W f => hnd0 W (h1.same f).sv
  have hap := fun W (f : Fr (fun _ => False) (w.alloc (.cells #[.int .i64 r.lsn, .int .i64 r.ep, .int .i64 r.kind, .int .i64 r.page, .int .i64 r.other, .int .i64 r.req, .string r.key, .string r.val] 42)) W) => apply_any nd0 pt0 th r hkz hvz W (HND.out W f)
  rw [hE] at hap
  have hwi := hwi0
  have HLE : Hid (n = lp.length) := h.len
  have HOW : Hid (∀ g, (Value.slice a n c).ownBlock = some g → g ≠ tb ∧ g ≠ mb) := h.own
  have HLO : Hid (∀ g, (Value.slice a n c).ownBlock = some g → g < w.heap.size) := fun g e => h.sv.has.lt e
  have HOF : Hid (∀ x ∈ lp, Off (fun k => k = tb ∨ k = mb) x.nd x.pt) := h.off
  have hne := h.tr.ne
  unfold ApOut at hap
  generalize apN nd0 th r = m at *
  generalize apD nd0 th r = d at *
  clear h h1 hE hkz hvz hfi0 hnd0 hwi0
  go_enter Tryz.func31, Tryz.ntmps31
  go_wp2_with fail
  go_region_held3 (fun W => (W.cell? ⟨tb, 0, none⟩ = some (.slice a n c) ∧ W.cell? ⟨tb, 1, none⟩ = some (.pointer (some ⟨mb, 0, none⟩)) ∧ W.cell? ⟨tb, 2, none⟩ = some (.int .i64 last)) ∧ W.cell? ⟨w.heap.size, 0, none⟩ = some (.int .i64 r.lsn) ∧ W.cell? ⟨w.heap.size, 1, none⟩ = some (.int .i64 r.ep) ∧ W.cell? ⟨w.heap.size, 2, none⟩ = some (.int .i64 r.kind) ∧ W.cell? ⟨w.heap.size, 3, none⟩ = some (.int .i64 r.page) ∧ W.cell? ⟨w.heap.size, 4, none⟩ = some (.int .i64 r.other) ∧ W.cell? ⟨w.heap.size, 5, none⟩ = some (.int .i64 r.req) ∧ W.cell? ⟨w.heap.size, 6, none⟩ = some (.string r.key) ∧ W.cell? ⟨w.heap.size, 7, none⟩ = some (.string r.val))
    (first | with_reducible exact q0 | with_reducible exact qa | with_reducible exact q1 | with_reducible exact q2 | with_reducible exact q3 | with_reducible exact q4)
    (first
      | (go_at_call 63; refine (hfi _ g0).mono ?_; rintro en w1 ⟨rfl, m1⟩; have fr1 := g0.seq' m1; have q1 := HQ.out _ fr1; have fr2 := fr1.alloc (.cells #[.int .i64 0, .int .i64 0, .int .i64 0, .string ⟨#[]⟩, .slice none 0 0, .slice none 0 0, .slice none 0 0] 59); have q2 := HQ.out _ fr2; have fr3 := fr1.alloc (.cells #[.int .i64 nd0.lev, .int .i64 nd0.lsn, .int .i64 nd0.rgt, .string nd0.high, .slice pt0.k nd0.keys.length pt0.kc, .slice pt0.v nd0.vals.length pt0.vc, .slice pt0.i nd0.kids.length pt0.ic] 59); have q3 := HQ.out _ fr3)
      | (go_at_call 63; refine (hfi _ ga).mono ?_; rintro en w1 ⟨rfl, m1⟩; have frb := ga.seq' m1; have q1 := HQ.out _ frb; have b1 := m1.blk hba (fun f => f); obtain ⟨⟨r0, r1, r2, r3, r4, r5, r6⟩, rz⟩ := node_cells b1; have z0 := rz 0; have z1 := rz 1; have z2 := rz 2; have z3 := rz 3; have z4 := rz 4; have z5 := rz 5; have z6 := rz 6; obtain ⟨hq1, fq1⟩ := fin7 b1 (.int .i64 nd0.lev) (.int .i64 nd0.lsn) (.int .i64 nd0.rgt) (.string nd0.high) (.slice pt0.k nd0.keys.length pt0.kc) (.slice pt0.v nd0.vals.length pt0.vc) (.slice pt0.i nd0.kids.length pt0.ic); have fr4 := frb.trans fq1 (S := fun _ => False) (fun i hi e => by subst e; exact hnb hi); have q4 := HQ.out _ fr4))
  · have hB := heap_alloc_new w1 (.cells #[.int .i64 nd0.lev, .int .i64 nd0.lsn, .int .i64 nd0.rgt, .string nd0.high, .slice pt0.k nd0.keys.length pt0.kc, .slice pt0.v nd0.vals.length pt0.vc, .slice pt0.i nd0.kids.length pt0.ic] 59)
    have fr5 := fr3
    have hBg : w.heap.size < w1.heap.size := by have := fr1.size; simp at this; omega
    clear q0 qa q1 q2 q3 fr1 fr2 fr3 m1 hba ga g0 hnb hfi
    generalize w1.alloc (.cells #[.int .i64 nd0.lev, .int .i64 nd0.lsn, .int .i64 nd0.rgt, .string nd0.high, .slice pt0.k nd0.keys.length pt0.kc, .slice pt0.v nd0.vals.length pt0.vc, .slice pt0.i nd0.kids.length pt0.ic] 59) = W5 at *
    generalize w1.heap.size = B5 at *
    obtain ⟨x0, x1, x2, x3, x4, x5, x6⟩ := box_cells hB
    obtain ⟨_, y0, y1, y2, y3, y4, y5, y6, y7⟩ := HQ.out _ fr5
    go_wp2_with fail
    refine (hap _ fr5).mono ?_
    rintro e w6 ⟨q, rfl, nd6, f6, hnw⟩
    have fr6 := fr5.seq' f6
    have fr7 := fr6.alloc (.cells #[.int .i64 m.lev, .int .i64 m.lsn, .int .i64 m.rgt, .string m.high, .slice q.k m.keys.length q.kc, .slice q.v m.vals.length q.vc, .slice q.i m.kids.length q.ic] 59)
    have hB7 := heap_alloc_new w6 (.cells #[.int .i64 m.lev, .int .i64 m.lsn, .int .i64 m.rgt, .string m.high, .slice q.k m.keys.length q.kc, .slice q.v m.vals.length q.vc, .slice q.i m.kids.length q.ic] 59)
    have hz6 : w.heap.size < w6.heap.size := by have := fr6.size; simp at this; omega
    have nd7 := nd6.same (Fr.box w6 (.cells #[.int .i64 m.lev, .int .i64 m.lsn, .int .i64 m.rgt, .string m.high, .slice q.k m.keys.length q.kc, .slice q.v m.vals.length q.vc, .slice q.i m.kids.length q.ic] 59))
    have hz5 : w.heap.size ≤ W5.heap.size := by have := fr5.size; simp at this; omega
    have HNW : Hid (Nw w q) := fun b off hb => Nat.le_trans hz5 (hnw b off hb)
    have HOQ : Hid (∀ S : Nat → Prop, (∀ k, w.heap.size ≤ k → ¬ S k) → Off S m q) := fun S hS => hnw.off (fun b hb e => hS b (by omega) e)
    clear x0 x1 x2 x3 x4 x5 x6 y0 y1 y2 y3 y4 y5 y6 y7 hap fr5 fr6 f6 hnw nd6 hB hBg
    go_upto_region 5 with fail
    generalize w6.alloc (.cells #[.int .i64 m.lev, .int .i64 m.lsn, .int .i64 m.rgt, .string m.high, .slice q.k m.keys.length q.kc, .slice q.v m.vals.length q.vc, .slice q.i m.kids.length q.ic] 59) = W7 at *
    generalize w6.heap.size = B7 at *
    have hT7 := HSX.out _ fr7
    have HQ7 : Hid (∀ W, Fr (fun k => (Value.slice a n c).ownBlock = some k) W7 W → W.heap[tb]? = some (.cells #[.slice a n c, .pointer (some ⟨mb, 0, none⟩), .int .i64 last] 83 (0, 0)) ∧ W.heap[w.heap.size]? = some (.cells #[.int .i64 r.lsn, .int .i64 r.ep, .int .i64 r.kind, .int .i64 r.page, .int .i64 r.other, .int .i64 r.req, .string r.key, .string r.val] 42 (0, 0)) ∧ W.heap[B7]? = some (.cells #[.int .i64 m.lev, .int .i64 m.lsn, .int .i64 m.rgt, .string m.high, .slice q.k m.keys.length q.kc, .slice q.v m.vals.length q.vc, .slice q.i m.kids.length q.ic] 59 (0, 0)) ∧ ∃ U, Al.Mp W mb 4096 U) := fun W f => by
      obtain ⟨U, hU⟩ := hT7.tr.map
      exact ⟨f.blk hT7.tr.box (fun e => (HOW.out tb e).1 rfl), f.blk (HRB.out _ fr7) (fun e => by have := HLO.out _ e; omega), f.blk hB7 (fun e => by have := HLO.out _ e; omega), U, hU.fr f (fun e => (HOW.out mb e).2 rfl)⟩
    have HC7 : Hid (∀ W, Fr (fun k => (Value.slice a n c).ownBlock = some k) W7 W → (W.cell? ⟨w.heap.size, 0, none⟩ = some (.int .i64 r.lsn) ∧ W.cell? ⟨w.heap.size, 1, none⟩ = some (.int .i64 r.ep) ∧ W.cell? ⟨w.heap.size, 2, none⟩ = some (.int .i64 r.kind) ∧ W.cell? ⟨w.heap.size, 3, none⟩ = some (.int .i64 r.page) ∧ W.cell? ⟨w.heap.size, 4, none⟩ = some (.int .i64 r.other) ∧ W.cell? ⟨w.heap.size, 5, none⟩ = some (.int .i64 r.req) ∧ W.cell? ⟨w.heap.size, 6, none⟩ = some (.string r.key) ∧ W.cell? ⟨w.heap.size, 7, none⟩ = some (.string r.val)) ∧ W.cell? ⟨B7, 0, none⟩ = some (.int .i64 m.lev) ∧ W.cell? ⟨B7, 1, none⟩ = some (.int .i64 m.lsn) ∧ W.cell? ⟨B7, 2, none⟩ = some (.int .i64 m.rgt) ∧ W.cell? ⟨B7, 3, none⟩ = some (.string m.high) ∧ W.cell? ⟨B7, 4, none⟩ = some (.slice q.k m.keys.length q.kc) ∧ W.cell? ⟨B7, 5, none⟩ = some (.slice q.v m.vals.length q.vc) ∧ W.cell? ⟨B7, 6, none⟩ = some (.slice q.i m.kids.length q.ic)) := fun W f => by
      obtain ⟨h1, h2, h3, _⟩ := HQ7.out W f
      exact ⟨(rec_cells h2).1, box_cells h3⟩
    have HSV7 : Hid (Sv W7 (.slice a n c) lp) := hT7.sv
    have g7 := (Fr.refl (fun _ => False) W7).drew
    have g7' : Fr (fun k => (Value.slice a n c).ownBlock = some k) W7 W7.drew := g7.widen (fun _ f => f.elim)
    have q7 := HC7.out _ g7'
    have u7 := (tree_cells (HQ7.out _ g7').1).1.1
    have hz7 : w.heap.size < W7.heap.size := by have := fr7.size; simp at this; omega
    have hwi2 := hwi m q _ (HSV7.out.same g7) (nd7.same g7) (HOQ.out _ (fun k hk e => by have := HLO.out k e; omega))
    clear hT7 hwi
    go_wp2_with fail
    obtain ⟨⟨y0, y1, y2, y3, y4, y5, y6, y7⟩, x0, x1, x2, x3, x4, x5, x6⟩ := q7
    go_region_with
      (first
        | (go_at_call 65; refine hwi2.mono ?_; rintro e w9 ⟨a', n', c', lp', rfl, hlen, hps, hmem, hsv9, f9, hat⟩; have HLN : Hid (n' = lp'.length) := hlen; have HPS : Hid (psOf lp' = P m) := hps; clear hlen hps; have fr9 := g7'.trans f9 (S := fun k => (Value.slice a n c).ownBlock = some k) (fun _ _ e => e); have u9 := (tree_cells (HQ7.out _ fr9).1).1.1; have hfz9 := (tree_cells (HQ7.out _ fr9).1).2 0))
    all_goals
      have f10 : Fr (fun k => k = tb) w9 (w9.setCell ⟨tb, 0, none⟩ (.slice a' n' c')) := (Fr.refl (fun k => k = tb) w9).setCell (p := ⟨tb, 0, none⟩) (fun _ => rfl) _
      obtain ⟨t9, hr9, _, U, hU9⟩ := HQ7.out _ fr9
      have t10 := tree_set0 t9 (.slice a' n' c')
      have hU10 := hU9.fr f10 (by omega)
      have hrec10 := f10.blk hr9 (by omega)
      have HOX : Hid (∀ g, (Value.slice a' n' c').ownBlock = some g → g ≠ tb ∧ g ≠ mb) := fun g e => by
        rcases hat with h | ⟨g', h, hg⟩
        · rw [h] at e; exact HOW.out g e
        · rw [h] at e; have e2 := Option.some.inj e; have hg2 : W7.heap.size ≤ g' := hg; exact ⟨by omega, by omega⟩
      have HAT : Hid ((Value.slice a' n' c').ownBlock = (Value.slice a n c).ownBlock ∨ ∃ g, (Value.slice a' n' c').ownBlock = some g ∧ w.heap.size ≤ g) := by
        rcases hat with h | ⟨g', h, hg⟩
        · exact .inl h
        · have hg2 : W7.heap.size ≤ g' := hg; exact .inr ⟨g', h, by omega⟩
      have HSV10 : Hid (Sv (w9.setCell ⟨tb, 0, none⟩ (.slice a' n' c')) (.slice a' n' c') lp') := hsv9.frS f10 (fun k e1 e2 => (HOX.out k e1).1 e2) (fun x hx => by
        rcases hmem x hx with hx | rfl
        · exact (HOF.out x hx).sub (fun k e => .inl e)
        · exact HOQ.out _ (fun k hk e => by omega))
      have F10 : Fr (fun k => (Value.slice a n c).ownBlock = some k ∨ k = tb ∨ k = mb) w (w9.setCell ⟨tb, 0, none⟩ (.slice a' n' c')) := (((f0.seq' fr7).widen (T := fun k => (Value.slice a n c).ownBlock = some k ∨ k = tb ∨ k = mb) (fun _ f => f.elim)).trans fr9 (fun i _ e => .inl e)).trans f10 (fun i _ e => .inr (.inl e))
      have HME : Hid (∀ s ∈ lp', s ∈ lp ∨ s = ⟨r.page, m, q⟩) := hmem
      clear hwi2 hsv9 t9 hU9 f10 f9 g7 g7' hfz9 fr9 hB7 u7 u9 hat hmem hr9 x0 x1 x2 x3 x4 x5 x6 y0 y1 y2 y3 y4 y5 y6 y7
      generalize w9.setCell ⟨tb, 0, none⟩ (.slice a' n' c') = W10 at *
      have g10 := (Fr.refl (fun _ => False) W10).drew
      have HC10 : Hid (∀ W, Fr (fun k => k = mb) W10 W → (W.cell? ⟨tb, 0, none⟩ = some (.slice a' n' c') ∧ W.cell? ⟨tb, 1, none⟩ = some (.pointer (some ⟨mb, 0, none⟩)) ∧ W.cell? ⟨tb, 2, none⟩ = some (.int .i64 last)) ∧ W.cell? ⟨w.heap.size, 0, none⟩ = some (.int .i64 r.lsn) ∧ W.cell? ⟨w.heap.size, 1, none⟩ = some (.int .i64 r.ep) ∧ W.cell? ⟨w.heap.size, 2, none⟩ = some (.int .i64 r.kind) ∧ W.cell? ⟨w.heap.size, 3, none⟩ = some (.int .i64 r.page) ∧ W.cell? ⟨w.heap.size, 4, none⟩ = some (.int .i64 r.other) ∧ W.cell? ⟨w.heap.size, 5, none⟩ = some (.int .i64 r.req) ∧ W.cell? ⟨w.heap.size, 6, none⟩ = some (.string r.key) ∧ W.cell? ⟨w.heap.size, 7, none⟩ = some (.string r.val)) := fun W f => ⟨(tree_cells (f.blk t10 (by omega))).1, (rec_cells (f.blk hrec10 (by omega))).1⟩
      have q10 := HC10.out _ (g10.widen (fun _ f => f.elim))
      have HT10 : Hid (W10.heap[tb]? = some (.cells #[.slice a' n' c', .pointer (some ⟨mb, 0, none⟩), .int .i64 last] 83 (0, 0))) := t10
      have hmk := Al.mark_any mb 4096 U _ (hU10.same g10) r.page
      obtain ⟨re, hre⟩ : ∃ x, x = Al.setE 4096 U true r.page := ⟨_, rfl⟩
      rw [← hre] at hmk
      clear hre hU10 t10 hrec10
      go_wp2_with fail
      go_region_held3 (fun W => (W.cell? ⟨tb, 0, none⟩ = some (.slice a' n' c') ∧ W.cell? ⟨tb, 1, none⟩ = some (.pointer (some ⟨mb, 0, none⟩)) ∧ W.cell? ⟨tb, 2, none⟩ = some (.int .i64 last)) ∧ W.cell? ⟨w.heap.size, 0, none⟩ = some (.int .i64 r.lsn) ∧ W.cell? ⟨w.heap.size, 1, none⟩ = some (.int .i64 r.ep) ∧ W.cell? ⟨w.heap.size, 2, none⟩ = some (.int .i64 r.kind) ∧ W.cell? ⟨w.heap.size, 3, none⟩ = some (.int .i64 r.page) ∧ W.cell? ⟨w.heap.size, 4, none⟩ = some (.int .i64 r.other) ∧ W.cell? ⟨w.heap.size, 5, none⟩ = some (.int .i64 r.req) ∧ W.cell? ⟨w.heap.size, 6, none⟩ = some (.string r.key) ∧ W.cell? ⟨w.heap.size, 7, none⟩ = some (.string r.val))
        (first | with_reducible exact q10 | with_reducible exact q11)
        (first | (go_at_call 53; refine hmk.mono ?_; rintro e w11 ⟨rfl, hmp11, f11⟩; have G11 : Fr (fun k => k = mb) W10 w11 := (g10.widen (T := fun k => k = mb) (fun _ f => f.elim)).trans f11 (fun _ _ e => e); have q11 := HC10.out _ G11))
      have HF : Hid (TrS w11 tb mb a' n' c' lp' last) := ⟨⟨G11.blk HT10.out (by omega), ⟨_, hmp11⟩, hne⟩, HLN.out, HSV10.out.frS G11 (fun k e1 e2 => (HOX.out k e1).2 e2) (fun x hx => by
        rcases HME.out x hx with hx | rfl
        · exact (HOF.out x hx).sub (fun k e => .inr e)
        · exact HOQ.out _ (fun k hk e => by omega)), HOX.out, fun x hx => by
        rcases HME.out x hx with hx | rfl
        · exact HOF.out x hx
        · exact HOQ.out _ (fun k hk e => by omega)⟩
      have F11 := F10.trans G11 (S := fun k => (Value.slice a n c).ownBlock = some k ∨ k = tb ∨ k = mb) (fun i _ e => .inr (.inr e))
      clear q10 q11 hmk hmp11 f11 g10
      go_wp2
      go_ret
      exact ⟨q, a', n', c', lp', rfl, HNW.out, HPS.out, HME.out, HF.out, F11, HAT.out⟩
  · have hB := hq1
    have fr5 := fr4
    have hBg : w.heap.size < w.heap.size + 1 := by omega
    clear q0 qa q1 q4 frb fr4 m1 hba ga g0 hnb hfi b1 r0 r1 r2 r3 r4 r5 r6 rz z0 z1 z2 z3 z4 z5 z6 fq1 hq1
    generalize (((((((w1.setCell ⟨w.heap.size + 1, 0, none⟩ (.int .i64 nd0.lev)).setCell ⟨w.heap.size + 1, 1, none⟩ (.int .i64 nd0.lsn)).setCell ⟨w.heap.size + 1, 2, none⟩ (.int .i64 nd0.rgt)).setCell ⟨w.heap.size + 1, 3, none⟩ (.string nd0.high)).setCell ⟨w.heap.size + 1, 4, none⟩ (.slice pt0.k nd0.keys.length pt0.kc)).setCell ⟨w.heap.size + 1, 5, none⟩ (.slice pt0.v nd0.vals.length pt0.vc)).setCell ⟨w.heap.size + 1, 6, none⟩ (.slice pt0.i nd0.kids.length pt0.ic)) = W5 at *
    generalize hb5 : w.heap.size + 1 = B5 at *
    obtain ⟨x0, x1, x2, x3, x4, x5, x6⟩ := box_cells hB
    obtain ⟨_, y0, y1, y2, y3, y4, y5, y6, y7⟩ := HQ.out _ fr5
    go_wp2_with fail
    refine (hap _ fr5).mono ?_
    rintro e w6 ⟨q, rfl, nd6, f6, hnw⟩
    have fr6 := fr5.seq' f6
    have fr7 := fr6.alloc (.cells #[.int .i64 m.lev, .int .i64 m.lsn, .int .i64 m.rgt, .string m.high, .slice q.k m.keys.length q.kc, .slice q.v m.vals.length q.vc, .slice q.i m.kids.length q.ic] 59)
    have hB7 := heap_alloc_new w6 (.cells #[.int .i64 m.lev, .int .i64 m.lsn, .int .i64 m.rgt, .string m.high, .slice q.k m.keys.length q.kc, .slice q.v m.vals.length q.vc, .slice q.i m.kids.length q.ic] 59)
    have hz6 : w.heap.size < w6.heap.size := by have := fr6.size; simp at this; omega
    have nd7 := nd6.same (Fr.box w6 (.cells #[.int .i64 m.lev, .int .i64 m.lsn, .int .i64 m.rgt, .string m.high, .slice q.k m.keys.length q.kc, .slice q.v m.vals.length q.vc, .slice q.i m.kids.length q.ic] 59))
    have hz5 : w.heap.size ≤ W5.heap.size := by have := fr5.size; simp at this; omega
    have HNW : Hid (Nw w q) := fun b off hb => Nat.le_trans hz5 (hnw b off hb)
    have HOQ : Hid (∀ S : Nat → Prop, (∀ k, w.heap.size ≤ k → ¬ S k) → Off S m q) := fun S hS => hnw.off (fun b hb e => hS b (by omega) e)
    clear x0 x1 x2 x3 x4 x5 x6 y0 y1 y2 y3 y4 y5 y6 y7 hap fr5 fr6 f6 hnw nd6 hB hBg
    go_upto_region 5 with fail
    generalize w6.alloc (.cells #[.int .i64 m.lev, .int .i64 m.lsn, .int .i64 m.rgt, .string m.high, .slice q.k m.keys.length q.kc, .slice q.v m.vals.length q.vc, .slice q.i m.kids.length q.ic] 59) = W7 at *
    generalize w6.heap.size = B7 at *
    have hT7 := HSX.out _ fr7
    have HQ7 : Hid (∀ W, Fr (fun k => (Value.slice a n c).ownBlock = some k) W7 W → W.heap[tb]? = some (.cells #[.slice a n c, .pointer (some ⟨mb, 0, none⟩), .int .i64 last] 83 (0, 0)) ∧ W.heap[w.heap.size]? = some (.cells #[.int .i64 r.lsn, .int .i64 r.ep, .int .i64 r.kind, .int .i64 r.page, .int .i64 r.other, .int .i64 r.req, .string r.key, .string r.val] 42 (0, 0)) ∧ W.heap[B7]? = some (.cells #[.int .i64 m.lev, .int .i64 m.lsn, .int .i64 m.rgt, .string m.high, .slice q.k m.keys.length q.kc, .slice q.v m.vals.length q.vc, .slice q.i m.kids.length q.ic] 59 (0, 0)) ∧ ∃ U, Al.Mp W mb 4096 U) := fun W f => by
      obtain ⟨U, hU⟩ := hT7.tr.map
      exact ⟨f.blk hT7.tr.box (fun e => (HOW.out tb e).1 rfl), f.blk (HRB.out _ fr7) (fun e => by have := HLO.out _ e; omega), f.blk hB7 (fun e => by have := HLO.out _ e; omega), U, hU.fr f (fun e => (HOW.out mb e).2 rfl)⟩
    have HC7 : Hid (∀ W, Fr (fun k => (Value.slice a n c).ownBlock = some k) W7 W → (W.cell? ⟨w.heap.size, 0, none⟩ = some (.int .i64 r.lsn) ∧ W.cell? ⟨w.heap.size, 1, none⟩ = some (.int .i64 r.ep) ∧ W.cell? ⟨w.heap.size, 2, none⟩ = some (.int .i64 r.kind) ∧ W.cell? ⟨w.heap.size, 3, none⟩ = some (.int .i64 r.page) ∧ W.cell? ⟨w.heap.size, 4, none⟩ = some (.int .i64 r.other) ∧ W.cell? ⟨w.heap.size, 5, none⟩ = some (.int .i64 r.req) ∧ W.cell? ⟨w.heap.size, 6, none⟩ = some (.string r.key) ∧ W.cell? ⟨w.heap.size, 7, none⟩ = some (.string r.val)) ∧ W.cell? ⟨B7, 0, none⟩ = some (.int .i64 m.lev) ∧ W.cell? ⟨B7, 1, none⟩ = some (.int .i64 m.lsn) ∧ W.cell? ⟨B7, 2, none⟩ = some (.int .i64 m.rgt) ∧ W.cell? ⟨B7, 3, none⟩ = some (.string m.high) ∧ W.cell? ⟨B7, 4, none⟩ = some (.slice q.k m.keys.length q.kc) ∧ W.cell? ⟨B7, 5, none⟩ = some (.slice q.v m.vals.length q.vc) ∧ W.cell? ⟨B7, 6, none⟩ = some (.slice q.i m.kids.length q.ic)) := fun W f => by
      obtain ⟨h1, h2, h3, _⟩ := HQ7.out W f
      exact ⟨(rec_cells h2).1, box_cells h3⟩
    have HSV7 : Hid (Sv W7 (.slice a n c) lp) := hT7.sv
    have g7 := (Fr.refl (fun _ => False) W7).drew
    have g7' : Fr (fun k => (Value.slice a n c).ownBlock = some k) W7 W7.drew := g7.widen (fun _ f => f.elim)
    have q7 := HC7.out _ g7'
    have u7 := (tree_cells (HQ7.out _ g7').1).1.1
    have hz7 : w.heap.size < W7.heap.size := by have := fr7.size; simp at this; omega
    have hwi2 := hwi m q _ (HSV7.out.same g7) (nd7.same g7) (HOQ.out _ (fun k hk e => by have := HLO.out k e; omega))
    clear hT7 hwi
    go_wp2_with fail
    obtain ⟨⟨y0, y1, y2, y3, y4, y5, y6, y7⟩, x0, x1, x2, x3, x4, x5, x6⟩ := q7
    go_region_with
      (first
        | (go_at_call 65; refine hwi2.mono ?_; rintro e w9 ⟨a', n', c', lp', rfl, hlen, hps, hmem, hsv9, f9, hat⟩; have HLN : Hid (n' = lp'.length) := hlen; have HPS : Hid (psOf lp' = P m) := hps; clear hlen hps; have fr9 := g7'.trans f9 (S := fun k => (Value.slice a n c).ownBlock = some k) (fun _ _ e => e); have u9 := (tree_cells (HQ7.out _ fr9).1).1.1; have hfz9 := (tree_cells (HQ7.out _ fr9).1).2 0))
    all_goals
      have f10 : Fr (fun k => k = tb) w9 (w9.setCell ⟨tb, 0, none⟩ (.slice a' n' c')) := (Fr.refl (fun k => k = tb) w9).setCell (p := ⟨tb, 0, none⟩) (fun _ => rfl) _
      obtain ⟨t9, hr9, _, U, hU9⟩ := HQ7.out _ fr9
      have t10 := tree_set0 t9 (.slice a' n' c')
      have hU10 := hU9.fr f10 (by omega)
      have hrec10 := f10.blk hr9 (by omega)
      have HOX : Hid (∀ g, (Value.slice a' n' c').ownBlock = some g → g ≠ tb ∧ g ≠ mb) := fun g e => by
        rcases hat with h | ⟨g', h, hg⟩
        · rw [h] at e; exact HOW.out g e
        · rw [h] at e; have e2 := Option.some.inj e; have hg2 : W7.heap.size ≤ g' := hg; exact ⟨by omega, by omega⟩
      have HAT : Hid ((Value.slice a' n' c').ownBlock = (Value.slice a n c).ownBlock ∨ ∃ g, (Value.slice a' n' c').ownBlock = some g ∧ w.heap.size ≤ g) := by
        rcases hat with h | ⟨g', h, hg⟩
        · exact .inl h
        · have hg2 : W7.heap.size ≤ g' := hg; exact .inr ⟨g', h, by omega⟩
      have HSV10 : Hid (Sv (w9.setCell ⟨tb, 0, none⟩ (.slice a' n' c')) (.slice a' n' c') lp') := hsv9.frS f10 (fun k e1 e2 => (HOX.out k e1).1 e2) (fun x hx => by
        rcases hmem x hx with hx | rfl
        · exact (HOF.out x hx).sub (fun k e => .inl e)
        · exact HOQ.out _ (fun k hk e => by omega))
      have F10 : Fr (fun k => (Value.slice a n c).ownBlock = some k ∨ k = tb ∨ k = mb) w (w9.setCell ⟨tb, 0, none⟩ (.slice a' n' c')) := (((f0.seq' fr7).widen (T := fun k => (Value.slice a n c).ownBlock = some k ∨ k = tb ∨ k = mb) (fun _ f => f.elim)).trans fr9 (fun i _ e => .inl e)).trans f10 (fun i _ e => .inr (.inl e))
      have HME : Hid (∀ s ∈ lp', s ∈ lp ∨ s = ⟨r.page, m, q⟩) := hmem
      clear hwi2 hsv9 t9 hU9 f10 f9 g7 g7' hfz9 fr9 hB7 u7 u9 hat hmem hr9 x0 x1 x2 x3 x4 x5 x6 y0 y1 y2 y3 y4 y5 y6 y7
      generalize w9.setCell ⟨tb, 0, none⟩ (.slice a' n' c') = W10 at *
      have g10 := (Fr.refl (fun _ => False) W10).drew
      have HC10 : Hid (∀ W, Fr (fun k => k = mb) W10 W → (W.cell? ⟨tb, 0, none⟩ = some (.slice a' n' c') ∧ W.cell? ⟨tb, 1, none⟩ = some (.pointer (some ⟨mb, 0, none⟩)) ∧ W.cell? ⟨tb, 2, none⟩ = some (.int .i64 last)) ∧ W.cell? ⟨w.heap.size, 0, none⟩ = some (.int .i64 r.lsn) ∧ W.cell? ⟨w.heap.size, 1, none⟩ = some (.int .i64 r.ep) ∧ W.cell? ⟨w.heap.size, 2, none⟩ = some (.int .i64 r.kind) ∧ W.cell? ⟨w.heap.size, 3, none⟩ = some (.int .i64 r.page) ∧ W.cell? ⟨w.heap.size, 4, none⟩ = some (.int .i64 r.other) ∧ W.cell? ⟨w.heap.size, 5, none⟩ = some (.int .i64 r.req) ∧ W.cell? ⟨w.heap.size, 6, none⟩ = some (.string r.key) ∧ W.cell? ⟨w.heap.size, 7, none⟩ = some (.string r.val)) := fun W f => ⟨(tree_cells (f.blk t10 (by omega))).1, (rec_cells (f.blk hrec10 (by omega))).1⟩
      have q10 := HC10.out _ (g10.widen (fun _ f => f.elim))
      have HT10 : Hid (W10.heap[tb]? = some (.cells #[.slice a' n' c', .pointer (some ⟨mb, 0, none⟩), .int .i64 last] 83 (0, 0))) := t10
      have hmk := Al.mark_any mb 4096 U _ (hU10.same g10) r.page
      obtain ⟨re, hre⟩ : ∃ x, x = Al.setE 4096 U true r.page := ⟨_, rfl⟩
      rw [← hre] at hmk
      clear hre hU10 t10 hrec10
      go_wp2_with fail
      go_region_held3 (fun W => (W.cell? ⟨tb, 0, none⟩ = some (.slice a' n' c') ∧ W.cell? ⟨tb, 1, none⟩ = some (.pointer (some ⟨mb, 0, none⟩)) ∧ W.cell? ⟨tb, 2, none⟩ = some (.int .i64 last)) ∧ W.cell? ⟨w.heap.size, 0, none⟩ = some (.int .i64 r.lsn) ∧ W.cell? ⟨w.heap.size, 1, none⟩ = some (.int .i64 r.ep) ∧ W.cell? ⟨w.heap.size, 2, none⟩ = some (.int .i64 r.kind) ∧ W.cell? ⟨w.heap.size, 3, none⟩ = some (.int .i64 r.page) ∧ W.cell? ⟨w.heap.size, 4, none⟩ = some (.int .i64 r.other) ∧ W.cell? ⟨w.heap.size, 5, none⟩ = some (.int .i64 r.req) ∧ W.cell? ⟨w.heap.size, 6, none⟩ = some (.string r.key) ∧ W.cell? ⟨w.heap.size, 7, none⟩ = some (.string r.val))
        (first | with_reducible exact q10 | with_reducible exact q11)
        (first | (go_at_call 53; refine hmk.mono ?_; rintro e w11 ⟨rfl, hmp11, f11⟩; have G11 : Fr (fun k => k = mb) W10 w11 := (g10.widen (T := fun k => k = mb) (fun _ f => f.elim)).trans f11 (fun _ _ e => e); have q11 := HC10.out _ G11))
      have HF : Hid (TrS w11 tb mb a' n' c' lp' last) := ⟨⟨G11.blk HT10.out (by omega), ⟨_, hmp11⟩, hne⟩, HLN.out, HSV10.out.frS G11 (fun k e1 e2 => (HOX.out k e1).2 e2) (fun x hx => by
        rcases HME.out x hx with hx | rfl
        · exact (HOF.out x hx).sub (fun k e => .inr e)
        · exact HOQ.out _ (fun k hk e => by omega)), HOX.out, fun x hx => by
        rcases HME.out x hx with hx | rfl
        · exact HOF.out x hx
        · exact HOQ.out _ (fun k hk e => by omega)⟩
      have F11 := F10.trans G11 (S := fun k => (Value.slice a n c).ownBlock = some k ∨ k = tb ∨ k = mb) (fun i _ e => .inr (.inr e))
      clear q10 q11 hmk hmp11 f11 g10
      go_wp2
      go_ret
      exact ⟨q, a', n', c', lp', rfl, HNW.out, HPS.out, HME.out, HF.out, F11, HAT.out⟩
end Go.Proofs.YtnooogjcajlodaaGreat
