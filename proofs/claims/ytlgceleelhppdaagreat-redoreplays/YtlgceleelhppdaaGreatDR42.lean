
/- RdIns2, RdIns3, RdFind. -/
import Derived.Test.YtlgceleelhppdaaGreatDR41
import Derived.Deep.DeepCutAuto
/- A page more among pages: slices.Insert itself. -/
namespace Go.Proofs.YtlgceleelhppdaaGreat
open Go.RowKit Go.Lib
set_option linter.unusedVariables false

theorem infoSl : (Tryz.prog.info? 45).map (fun i => (i.zero, i.size, i.bytes)) = some (some (.agg #[.int .i64 0, .int .i64 0, .int .i64 0, .int .i64 0, .string ⟨#[]⟩, .slice none 0 0, .slice none 0 0, .slice none 0 0]), 8, 120) := by kernel_rfl
theorem sizeSl (w : World) : (Go.sizeOf 45).run Tryz.prog w = .ok 8 w := by kernel_rfl
/-- What an insert leaves. -/
def InsO8 (w : World) (v : Value) (n : Nat) (xs : List Value) (e : Ending) (w' : World) : Prop := ∃ a c, e = .returned (.slice a n c) ∧ Has w' 8 (.slice a n c) n xs ∧ Fr (fun k => v.ownBlock = some k) w w' ∧ ((Value.slice a n c).ownBlock = v.ownBlock ∨ ∃ g, (Value.slice a n c).ownBlock = some g ∧ w.heap.size ≤ g)
set_option maxRecDepth 100000 in
set_option maxHeartbeats 4000000 in
set_option maxRecDepth 100000 in
theorem ins8_shift (g n c i vb : Nat) (cs xs : List Value) (hx : xs.length = 8) (w : World) (hi : i < n) (hroom : n + 1 ≤ c) (hs : n ≤ 100000) (hvb : vb ≠ g) (t : TypeId) (h : Has w 8 (.slice (some ⟨g, 0, none⟩) n c) n cs) (h1c : ∀ v ∈ cs, v.oneCell' = true) (h1v : ∀ v ∈ xs, v.oneCell' = true) (hv : w.heap[vb]? = some (.cells xs.toArray t (0, 0))) :
    Calls Tryz.prog 30 #[.slice (some ⟨g, 0, none⟩) n c, .int .i64 i, .slice (some ⟨vb, 0, none⟩) 1 1] w fun e w' => e = .returned (.slice (some ⟨g, 0, none⟩) (n + 1) c) ∧ w' = (w.drew.setCells g (0 + (i + 1) * 8) (cs.drop (i * 8))).setCells g (0 + i * 8) xs := by
  have hl : cs.length = n * 8 := h.1
  obtain ⟨g2, c2, e0, hg, hnc, hcm, hth, hra⟩ := h.form (by omega)
  simp only [Value.slice.injEq, Option.some.injEq, Addr.mk.injEq, and_true, true_and] at e0
  obtain ⟨rfl, rfl⟩ := e0
  have hc63 : c ≤ 9223372036854775807 := by unfold maxLen at hcm; omega
  obtain ⟨tB, kB, hsb, hkB⟩ := shape_of (w := w) (b := g) (fun j hj => hth j (by omega))
  have hsa : w.shape? vb = some (t, 8) := by unfold World.shape?; rw [hv]; simp [hx]
  have hfa : w.frozen? ⟨vb, 0, none⟩ = false := by simp [World.frozen?, hv]
  have hfe : w.frozen? ⟨vb, 8, none⟩ = false := by simp [World.frozen?, hv]
  have hvs : ∀ j v, xs[j]? = some v → w.cell? ⟨vb, 0 + j, none⟩ = some v := fun j v hv2 => (range_block hv (xs := xs) (o := 0) (fun j v h => by rw [Nat.zero_add]; simpa using h)) j v hv2
  have hov : ∀ lb cb, (callFunc 47 #[.slice (some ⟨vb, 0, none⟩) 1 1, .slice (some ⟨g, (i + 1) * 8, none⟩) lb cb]).run Tryz.prog w = .ok (.value (.bool false)) w := fun lb cb => by
    rw [run_callFunc_extern Tryz.func47 (by kernel_rfl) (by kernel_rfl) (by kernel_rfl) (e := Extern.SlicesOverlaps.overlaps #[22, 22] #[4]) (by kernel_rfl),
      Lib.run_overlaps_apart w 22 4 45 Tryz.underlying22 8 sizeSl ⟨vb, 0, none⟩ ⟨g, (i + 1) * 8, none⟩ 1 1 lb cb hvb t tB 8 kB hsa hsb hkB hfa hfe]
    rfl
  have hsz : (Tryz.prog.info? 45).map (·.size) = some 8 := by kernel_rfl
  have hdl : (cs.drop (i * 8)).length = (n - i) * 8 := by rw [List.length_drop, hl]; omega
  have mixed : Tryz.prog.follows Departure.mixedOrders = true := by kernel_rfl
  have hin : i ≤ n := by omega
  have htn : ((i : Int) + 1).toNat = i + 1 := by omega
  have hb1 : (0 : Int) ≤ (i : Int) + 1 := by omega
  have hw1 : IntKind.i64.wrap ((i : Int) + 1) = (i : Int) + 1 := by simp [IntKind.wrap, IntKind.bits, IntKind.signed]; omega
  have hb2 : ¬ (c = i + 1) := by omega
  have hb3 : (i : Int) ≤ (n : Int) + 1 := by omega
  have hb4 : ¬ (c = i) := by omega
  have hcp1 : ∀ ty dc sc, (Builtin.copy_ #[22, 22] ty #[.slice (some ⟨g, (i + 1) * 8, none⟩) (n - i) dc, .slice (some ⟨g, i * 8, none⟩) (n + 1 - i) sc]).run Tryz.prog w.drew = .ok (goInt (Nat.min (n + 1 - i) (n - i))) (w.drew.setCells g ((i + 1) * 8) (cs.drop (i * 8))) := fun ty dc sc =>
    run_copyK w.drew _ _ ty 45 8 g ((i + 1) * 8) (n - i) dc ⟨g, i * 8, none⟩ (n + 1 - i) sc (cs.drop (i * 8)) Tryz.underlying22 hsz (by rw [hdl]; simp only [Nat.min_def]; split <;> omega)
      (fun j v hj => by rw [Addr.add_lit]; have := hra (i * 8 + j) v (by rwa [List.getElem?_drop] at hj); rwa [Nat.zero_add] at this)
      (fun j hj => by have := (hth ((i + 1) * 8 + j) (by omega)).1; rwa [Nat.zero_add] at this) (fun j hj => by have := (hth ((i + 1) * 8 + j) (by omega)).2; rwa [Nat.zero_add] at this) (fun v hv => h1c v (List.mem_of_mem_drop hv))
  obtain ⟨W1, hW1⟩ : ∃ W1, W1 = w.drew.setCells g ((i + 1) * 8) (cs.drop (i * 8)) := ⟨_, rfl⟩
  have ht1 : W1.there g 0 (c * 8) := by rw [hW1]; exact World.there_setCells ((World.there_drew _ _ _ _).2 hth) _ _ _
  have hcp2 : ∀ (W : World), (∀ x, W.cell? x = W1.cell? x) → (∀ x, W.frozen? x = W1.frozen? x) → ∀ ty dc, (Builtin.copy_ #[22, 22] ty #[.slice (some ⟨g, i * 8, none⟩) (n + 1 - i) dc, .slice (some ⟨vb, 0, none⟩) 1 1]).run Tryz.prog W = .ok (goInt (Nat.min 1 (n + 1 - i))) (W.setCells g (i * 8) xs) := fun W hWc hWf ty dc =>
    run_copyK W _ _ ty 45 8 g (i * 8) (n + 1 - i) dc ⟨vb, 0, none⟩ 1 1 xs Tryz.underlying22 hsz (by rw [hx]; simp only [Nat.min_def]; split <;> omega)
      (fun j v hj => by rw [Addr.add_lit, hWc, hW1, World.cell?_setCells_out g _ _ _ _ (fun h _ => absurd h hvb)]; exact hvs j v hj)
      (fun j hj => by rw [hWc]; have := (ht1 (i * 8 + j) (by omega)).1; rwa [Nat.zero_add] at this) (fun j hj => by rw [hWf]; have := (ht1 (i * 8 + j) (by omega)).2; rwa [Nat.zero_add] at this) h1v
  rw [← hW1] at hcp1
  have HW1 : Hid (W1 = w.drew.setCells g ((i + 1) * 8) (cs.drop (i * 8))) := hW1
  rw [Nat.zero_add, Nat.zero_add, ← hW1]
  clear hW1 hth hra hv hvs hsb hsa hfa hfe h hl hdl
  go_enter Tryz.func30, Tryz.ntmps30
  go_wp2_with (simp only [hov])
  go_region_law_o (refine step_copy_runI rfl _ _ 22 22 rfl _ _ (by simp [Act.eval, Act.put]) (by simp [Act.eval, Act.put]) (hcp1 _ _ _) ?_)
  go_wp2_with (at_builtin; refine wpList_copy_runI _ rfl _ _ 22 22 rfl _ _ rfl rfl (hcp2 _ (fun _ => rfl) (fun _ => rfl) _ _) ?_)
  go_ret
  exact ⟨rfl, rfl⟩
set_option maxRecDepth 100000 in
set_option maxHeartbeats 4000000 in
set_option maxRecDepth 100000 in
theorem ins8_grow (g n c i vb : Nat) (cs xs : List Value) (hx : xs.length = 8) (w : World) (hi : i < n) (hroom : c < n + 1) (hs : n ≤ 100000) (t : TypeId) (h : Has w 8 (.slice (some ⟨g, 0, none⟩) n c) n cs) (h1c : ∀ v ∈ cs, v.oneCell' = true) (h1v : ∀ v ∈ xs, v.oneCell' = true) (hv : w.heap[vb]? = some (.cells xs.toArray t (0, 0))) :
    Calls Tryz.prog 30 #[.slice (some ⟨g, 0, none⟩) n c, .int .i64 i, .slice (some ⟨vb, 0, none⟩) 1 1] w fun e w' => InsO8 w (.slice (some ⟨g, 0, none⟩) n c) (n + 1) (cs.take (i * 8) ++ (xs ++ cs.drop (i * 8))) e w' := by
  have hl : cs.length = n * 8 := h.1
  obtain ⟨g2, c2, e0, hg, hnc, hcm, hth, hra⟩ := h.form (by omega)
  simp only [Value.slice.injEq, Option.some.injEq, Addr.mk.injEq, and_true, true_and] at e0
  obtain ⟨rfl, rfl⟩ := e0
  have hc63 : c ≤ 9223372036854775807 := by unfold maxLen at hcm; omega
  obtain ⟨i0, hi0, hz0, hzs, hzb⟩ := info_parts infoSl
  have hvw : vb < w.heap.size := lt_of_block hv
  have hvs : ∀ j v, xs[j]? = some v → w.cell? ⟨vb, 0 + j, none⟩ = some v := fun j v hv2 => (range_block hv (xs := xs) (o := 0) (fun j v h => by rw [Nat.zero_add]; simpa using h)) j v hv2
  have hsz : (Tryz.prog.info? 45).map (·.size) = some 8 := by kernel_rfl
  have mixed : Tryz.prog.follows Departure.mixedOrders = true := by kernel_rfl
  have hdl : (cs.drop (i * 8)).length = (n - i) * 8 := by rw [List.length_drop, hl]; omega
  have hkk : (n : Int) + 1 - (i : Int) = ((n + 1 - i : Nat) : Int) := by omega
  have hik : i + (n + 1 - i) = n + 1 := by omega
  have hold : (Builtin.firstCells i0.size i (.slice (some ⟨g, 0, none⟩) i c)).run Tryz.prog w.drew = .ok (cs.take (i * 8)).toArray w.drew := by
    rw [hzs]
    exact run_firstCells_some w.drew 8 i ⟨g, 0, none⟩ i c (cs.take (i * 8)) (by rw [List.length_take]; omega) (fun j v hj => by
      rw [Addr.add_lit]
      rw [List.getElem?_take] at hj
      split at hj
      · exact hra j v hj
      · cases hj)
  have hrz : ∀ ty, (Builtin.append_ #[22, 3] ty #[.slice (some ⟨g, 0, none⟩) i c, .int .i64 ((n : Int) + 1 - (i : Int))]).run Tryz.prog w =
      .ok (.slice (some ⟨w.heap.size, 0, none⟩) (n + 1) (grownCap w (n + 1) c 45)) (w.drew.alloc (.cells ((cs.take (i * 8)).toArray ++ Builtin.zeroCells (Value.agg #[.int .i64 0, .int .i64 0, .int .i64 0, .int .i64 0, .string ⟨#[]⟩, .slice none 0 0, .slice none 0 0, .slice none 0 0]).cells (n + 1 - i) ++ Builtin.zeroCells (Value.agg #[.int .i64 0, .int .i64 0, .int .i64 0, .int .i64 0, .string ⟨#[]⟩, .slice none 0 0, .slice none 0 0, .slice none 0 0]).cells (grownCap w (n + 1) c 45 - (n + 1))) 45)) := fun ty => by
    have h := Lib.run_append_grow_zeros w 22 3 ty 45 i0 _ .i64 .i64 Tryz.underlying22 Tryz.underlying3 hi0 hz0 (some ⟨g, 0, none⟩) i c (cs.take (i * 8)) hold (n + 1 - i) (by omega) (by omega) (by omega) (by omega) (by rw [hzb]; omega) (by rw [hzb, hik]; exact growslice_fits hroom (by omega))
    rw [hik] at h
    rw [hkk]
    exact h
  have hfin := has_grow8 w n c i 45 (.agg #[.int .i64 0, .int .i64 0, .int .i64 0, .int .i64 0, .string ⟨#[]⟩, .slice none 0 0, .slice none 0 0, .slice none 0 0]) rfl cs xs hx hl hi (by unfold maxLen; omega)
  obtain ⟨G, hG⟩ : ∃ G, G = grownCap w (n + 1) c 45 := ⟨_, rfl⟩
  have hGn : n + 1 ≤ G := by rw [hG]; exact grownCap_ge w _ _ _
  have hG63 : G ≤ 9223372036854775807 := by
    have := grownCap_le_maxLen w (n + 1) c 45 (by unfold maxLen; omega)
    rw [← hG] at this
    unfold maxLen at this
    omega
  obtain ⟨ROW, hROW⟩ : ∃ ROW : Array Value, ROW = (cs.take (i * 8)).toArray ++ Builtin.zeroCells (Value.agg #[.int .i64 0, .int .i64 0, .int .i64 0, .int .i64 0, .string ⟨#[]⟩, .slice none 0 0, .slice none 0 0, .slice none 0 0]).cells (n + 1 - i) ++ Builtin.zeroCells (Value.agg #[.int .i64 0, .int .i64 0, .int .i64 0, .int .i64 0, .string ⟨#[]⟩, .slice none 0 0, .slice none 0 0, .slice none 0 0]).cells (G - (n + 1)) := ⟨_, rfl⟩
  rw [← hG] at hrz hfin
  rw [← hROW] at hrz hfin
  have hRl : (n + 1) * 8 ≤ ROW.size := by
    rw [hROW]
    simp only [Array.size_append, List.size_toArray, size_zeroCells, List.length_take, hl]
    simp [Value.cells]
    omega
  obtain ⟨W1, hW1⟩ : ∃ W1, W1 = w.drew.alloc (.cells ROW 45) := ⟨_, rfl⟩
  rw [← hW1] at hrz
  have hN : ∀ j, j < (n + 1) * 8 → (W1.cell? ⟨w.heap.size, j, none⟩).isSome = true := fun j hj => by
    rw [hW1, World.cell?_alloc_at (w := w.drew) ROW _ w.heap.size j rfl, Array.getElem?_eq_getElem (by omega)]; rfl
  have hNf : ∀ j, W1.frozen? ⟨w.heap.size, j, none⟩ = false := fun j => by rw [hW1]; exact World.frozen?_alloc_at (w := w.drew) ROW _ w.heap.size j rfl
  have hOb : ∀ j v, w.cell? ⟨g, j, none⟩ = some v → W1.cell? ⟨g, j, none⟩ = some v := fun j v h => by rw [hW1, World.cell?_alloc_past (w := w.drew) _ g j hg]; exact h
  have hOv : ∀ j v, w.cell? ⟨vb, j, none⟩ = some v → W1.cell? ⟨vb, j, none⟩ = some v := fun j v h => by rw [hW1, World.cell?_alloc_past (w := w.drew) _ vb j hvw]; exact h
  have hcpA : ∀ (W : World), (∀ x, W.cell? x = W1.cell? x) → (∀ x, W.frozen? x = W1.frozen? x) → ∀ ty dc, (Builtin.copy_ #[22, 22] ty #[.slice (some ⟨w.heap.size, i * 8, none⟩) (n + 1 - i) dc, .slice (some ⟨vb, 0, none⟩) 1 1]).run Tryz.prog W = .ok (goInt (Nat.min 1 (n + 1 - i))) (W.setCells w.heap.size (i * 8) xs) := fun W hWc hWf ty dc =>
    run_copyK W _ _ ty 45 8 w.heap.size (i * 8) (n + 1 - i) dc ⟨vb, 0, none⟩ 1 1 xs Tryz.underlying22 hsz (by rw [hx]; simp only [Nat.min_def]; split <;> omega)
      (fun j v hj => by rw [Addr.add_lit, hWc]; exact hOv _ v (hvs j v hj))
      (fun j hj => by rw [hWc]; exact hN _ (by omega)) (fun j hj => by rw [hWf]; exact hNf _) h1v
  have hbN : g ≠ w.heap.size := by omega
  have hcpB : ∀ (W : World), (∀ x, W.cell? x = (W1.setCells w.heap.size (i * 8) xs).cell? x) → (∀ x, W.frozen? x = (W1.setCells w.heap.size (i * 8) xs).frozen? x) → ∀ ty dc sc, (Builtin.copy_ #[22, 22] ty #[.slice (some ⟨w.heap.size, (i + 1) * 8, none⟩) (n - i) dc, .slice (some ⟨g, i * 8, none⟩) (n - i) sc]).run Tryz.prog W = .ok (goInt (Nat.min (n - i) (n - i))) (W.setCells w.heap.size ((i + 1) * 8) (cs.drop (i * 8))) := fun W hWc hWf ty dc sc =>
    run_copyK W _ _ ty 45 8 w.heap.size ((i + 1) * 8) (n - i) dc ⟨g, i * 8, none⟩ (n - i) sc (cs.drop (i * 8)) Tryz.underlying22 hsz (by rw [hdl]; simp only [Nat.min_def]; split <;> omega)
      (fun j v hj => by
        rw [Addr.add_lit, hWc, World.cell?_setCells_out _ _ _ _ _ (fun h _ => absurd h hbN)]
        have := hra (i * 8 + j) v (by rwa [List.getElem?_drop] at hj)
        rw [Nat.zero_add] at this
        exact hOb _ v this)
      (fun j hj => by rw [hWc]; exact isSome_setCells _ _ _ _ (fun t ht => hN _ (by omega)) _ (hN _ (by omega)))
      (fun j hj => by rw [hWf, World.frozen?_setCells]; exact hNf _) (fun v hv => h1c v (List.mem_of_mem_drop hv))
  subst hW1
  have hE1 : ∀ x, ((w.alloc (.cells ROW 45)).drew).cell? x = (w.drew.alloc (.cells ROW 45)).cell? x := fun x => rfl
  have hE2 : ∀ x, ((w.alloc (.cells ROW 45)).drew).frozen? x = (w.drew.alloc (.cells ROW 45)).frozen? x := fun x => rfl
  have hF1 : ∀ x, (((w.alloc (.cells ROW 45)).drew.setCells w.heap.size (i * 8) xs).drew).cell? x = ((w.drew.alloc (.cells ROW 45)).setCells w.heap.size (i * 8) xs).cell? x := fun x => rfl
  have hF2 : ∀ x, (((w.alloc (.cells ROW 45)).drew.setCells w.heap.size (i * 8) xs).drew).frozen? x = ((w.drew.alloc (.cells ROW 45)).setCells w.heap.size (i * 8) xs).frozen? x := fun x => rfl
  have hw1 : IntKind.i64.wrap ((i : Int) + 1) = (i : Int) + 1 := by simp [IntKind.wrap, IntKind.bits, IntKind.signed]; omega
  have hw2 : IntKind.i64.wrap ((n : Int) + 1) = (n : Int) + 1 := by simp [IntKind.wrap, IntKind.bits, IntKind.signed]; omega
  have hw3 : IntKind.i64.wrap ((n : Int) + 1 - (i : Int)) = (n : Int) + 1 - (i : Int) := by simp [IntKind.wrap, IntKind.bits, IntKind.signed]; omega
  have hb1 : (0 : Int) ≤ (i : Int) + 1 := by omega
  have hin : i ≤ n := by omega
  have htn : ((i : Int) + 1).toNat = i + 1 := by omega
  have hb3 : (i : Int) ≤ (n : Int) := by omega
  have hz3 : (c : Int) < (n : Int) + 1 := by omega
  have hz2 : ((i : Int) == (n : Int)) = false := by rw [beq_eq_false_iff_ne]; omega
  have hGi : ¬ (G = i) := by omega
  have hGim : ¬ (G = i + 1) := by omega
  have hci : ¬ (c = i) := by omega
  have HFIN : Hid _ := hfin
  clear hkk hik hold hROW hG hRl hth hra hv hvs h hl hdl hfin
  go_enter Tryz.func30, Tryz.ntmps30
  go_wp2_with (first
    | (at_builtin; refine Lib.wpList_append_run _ rfl _ _ _ _ rfl _ _ rfl rfl _ _ (hrz _) ?_)
    | (at_builtin; refine wpList_copy_runI _ rfl _ _ 22 22 rfl _ _ rfl rfl (hcpA _ hE1 hE2 _ _) ?_))
  go_region_law_o (refine step_copy_runI rfl _ _ 22 22 rfl (.slice (some ⟨w.heap.size, (i + 1) * 8, none⟩) (n - i) (G - (i + 1))) (.slice (some ⟨g, i * 8, none⟩) (n - i) (c - i)) (by simp [Act.eval, Act.put]) (by simp [Act.eval, Act.put]) (hcpB _ hF1 hF2 3 (G - (i + 1)) (c - i)) ?_)
  go_wp2
  go_ret
  exact ⟨_, _, rfl, HFIN.out, Fr.setCells (fun h => absurd h (by omega)) _ _ (Fr.setCells (fun h => absurd h (by omega)) _ _ ((Fr.refl _ w).alloc _).drew).drew, .inr ⟨_, rfl, Nat.le_refl _⟩⟩
end Go.Proofs.YtlgceleelhppdaaGreat

/- A page more among pages: slices.Insert over all its roads. -/
namespace Go.Proofs.YtlgceleelhppdaaGreat
open Go.RowKit Go.Lib
set_option linter.unusedVariables false

set_option maxRecDepth 100000 in
set_option maxHeartbeats 4000000 in
set_option maxRecDepth 100000 in
theorem ins8_end (a : Option Addr) (n c vb : Nat) (cs xs : List Value) (hx : xs.length = 8) (w : World) (hs : n ≤ 100000) (t : TypeId) (h : Has w 8 (.slice a n c) n cs) (hca : c ≤ 9223372036854775807) (hnc : n ≤ c) (ha : a = none → c = 0) (h1v : ∀ v ∈ xs, v.oneCell' = true) (hv : w.heap[vb]? = some (.cells xs.toArray t (0, 0))) :
    Calls Tryz.prog 30 #[.slice a n c, .int .i64 n, .slice (some ⟨vb, 0, none⟩) 1 1] w fun e w' => InsO8 w (.slice a n c) (n + 1) (cs ++ xs) e w' := by
  obtain ⟨i0, hi0, hz0, hzs, hzb⟩ := info_parts infoSl
  have hra : w.rangeAt vb 0 xs := range_block hv (xs := xs) (o := 0) (fun j v h => by rw [Nat.zero_add]; simpa using h)
  have HH : Hid (Has w 8 (.slice a n c) n cs) := h
  have HV : Hid (From w (some ⟨vb, 0, none⟩) xs) := .inr ⟨_, _, rfl, hra⟩
  clear h hra hv
  by_cases hcn : c = n
  · subst hcn
    go_enter Tryz.func30, Tryz.ntmps30
    go_wp2_with (at_builtin; refine wpList_append_has _ rfl _ _ 22 22 45 45 rfl i0 _ 8 120 Tryz.underlying22 Tryz.underlying22 hi0 hz0 hzs hzb rfl (by omega) (.slice a c c) c cs rfl HH.out (some ⟨vb, 0, none⟩) 1 1 xs rfl (by rw [hx]) HV.out h1v (by unfold maxLen; omega) (by omega) ?_; intro am cm w2 hown hfr hat)
    go_ret
    exact ⟨_, _, rfl, hown, hfr.mono (fun _ _ h => h.1), hat.imp id (fun h => ⟨_, h, Nat.le_refl _⟩)⟩
  · go_enter Tryz.func30, Tryz.ntmps30
    go_wp2_with (at_builtin; refine wpList_append_has _ rfl _ _ 22 22 45 45 rfl i0 _ 8 120 Tryz.underlying22 Tryz.underlying22 hi0 hz0 hzs hzb rfl (by omega) (.slice a n c) n cs rfl HH.out (some ⟨vb, 0, none⟩) 1 1 xs rfl (by rw [hx]) HV.out h1v (by unfold maxLen; omega) (by omega) ?_; intro am cm w2 hown hfr hat)
    go_ret
    exact ⟨_, _, rfl, hown, hfr.mono (fun _ _ h => h.1), hat.imp id (fun h => ⟨_, h, Nat.le_refl _⟩)⟩
theorem ins8_any (a : Option Addr) (n c i vb : Nat) (cs xs : List Value) (hx : xs.length = 8) (w : World) (hi : i ≤ n) (hs : n ≤ 100000) (t : TypeId) (h : Has w 8 (.slice a n c) n cs) (hne : (Value.slice a n c).ownBlock ≠ some vb) (h1c : ∀ v ∈ cs, v.oneCell' = true) (h1v : ∀ v ∈ xs, v.oneCell' = true) (hv : w.heap[vb]? = some (.cells xs.toArray t (0, 0))) :
    Calls Tryz.prog 30 #[.slice a n c, .int .i64 i, .slice (some ⟨vb, 0, none⟩) 1 1] w fun e w' => InsO8 w (.slice a n c) (n + 1) (cs.take (i * 8) ++ (xs ++ cs.drop (i * 8))) e w' := by
  have hl : cs.length = n * 8 := h.1
  rcases Nat.lt_or_eq_of_le hi with hlt | heq
  · obtain ⟨g, c2, e0, hg, hnc, hcm, hth, hra⟩ := h.form (by omega)
    simp only [Value.slice.injEq, true_and] at e0
    obtain ⟨rfl, rfl⟩ := e0
    by_cases hroom : n + 1 ≤ c
    · refine (ins8_shift g n c i vb cs xs hx w hlt hroom hs (fun e => hne (by rw [e]; rfl)) t h h1c h1v hv).mono ?_
      rintro e w' ⟨rfl, rfl⟩
      exact ⟨_, _, rfl, has_shift8 hx h hroom hi, Fr.ownB (Fr.setCells (S := fun k => k = g) (fun _ => rfl) _ _ (Fr.setCells (S := fun k => k = g) (fun _ => rfl) _ _ ((Fr.refl _ w).drew))), .inl rfl⟩
    · exact ins8_grow g n c i vb cs xs hx w hlt (by omega) hs t h h1c h1v hv
  · subst heq
    rw [List.take_of_length_le (by omega), List.drop_eq_nil_of_le (by omega), List.append_nil]
    rcases h.2 with ⟨e, h0⟩ | ⟨g, cap, e, hg, hnc, hcm, hth, hra⟩
    · simp only [Value.slice.injEq] at e
      obtain ⟨rfl, rfl, rfl⟩ := e
      exact ins8_end none 0 0 vb cs xs hx w hs t h (by omega) (by omega) (fun _ => rfl) h1v hv
    · simp only [Value.slice.injEq, true_and] at e
      obtain ⟨rfl, rfl⟩ := e
      exact ins8_end _ i c vb cs xs hx w hs t h (by unfold maxLen at hcm; omega) hnc (fun e => by cases e) h1v hv
end Go.Proofs.YtlgceleelhppdaaGreat

/- Where a page stands among pages. -/
namespace Go.Proofs.YtlgceleelhppdaaGreat
open Go.RowKit

def cmpI (a b : Int) : Int := if a < b then -1 else if b < a then 1 else 0
theorem inan_any (a : Int) (w : World) : Calls Tryz.prog 46 #[.int .i64 a] w fun e w' => e = .returned (.bool false) ∧ w' = w := by
  go_enter Tryz.func46, Tryz.ntmps46
  go_wp2
  go_ret
  exact ⟨by simp, rfl⟩
theorem icmp_any (a b : Int) (w : World) : Calls Tryz.prog 29 #[.int .i64 a, .int .i64 b] w fun e w' => e = .returned (.int .i64 (cmpI a b)) ∧ w' = w := by
  by_cases h : a < b
  · have e1 : cmpI a b = -1 := if_pos h
    rw [e1]
    go_enter Tryz.func29, Tryz.ntmps29
    go_wp2_with (go_at_call 46; refine (inan_any _ _).mono ?_; rintro e w' ⟨rfl, rfl⟩)
    go_ret
    exact ⟨rfl, rfl⟩
  · by_cases h2 : b < a
    · have e1 : cmpI a b = 1 := (if_neg h).trans (if_pos h2)
      rw [e1]
      go_enter Tryz.func29, Tryz.ntmps29
      go_wp2_with (go_at_call 46; refine (inan_any _ _).mono ?_; rintro e w' ⟨rfl, rfl⟩)
      go_ret
      exact ⟨rfl, rfl⟩
    · have e1 : cmpI a b = 0 := (if_neg h).trans (if_neg h2)
      rw [e1]
      go_enter Tryz.func29, Tryz.ntmps29
      go_wp2_with (go_at_call 46; refine (inan_any _ _).mono ?_; rintro e w' ⟨rfl, rfl⟩)
      go_ret
      exact ⟨rfl, rfl⟩

theorem slotCmp_any (s : Sl) (x : Int) (w : World) : Calls Tryz.prog 28 #[(.agg #[.int .i64 s.page, .int .i64 s.nd.lev, .int .i64 s.nd.lsn, .int .i64 s.nd.rgt, .string s.nd.high, .slice s.pt.k s.nd.keys.length s.pt.kc, .slice s.pt.v s.nd.vals.length s.pt.vc, .slice s.pt.i s.nd.kids.length s.pt.ic]), .int .i64 x] w fun e w' => e = .returned (.int .i64 (cmpI s.page x)) ∧ Fr (fun _ => False) w w' := by
  have f0 := Fr.box w (.cells #[.int .i64 s.page, .int .i64 s.nd.lev, .int .i64 s.nd.lsn, .int .i64 s.nd.rgt, .string s.nd.high, .slice s.pt.k s.nd.keys.length s.pt.kc, .slice s.pt.v s.nd.vals.length s.pt.vc, .slice s.pt.i s.nd.kids.length s.pt.ic] 45)
  have hc := fun W => icmp_any s.page x W
  go_enter Tryz.func28, Tryz.ntmps28
  go_wp2_with (go_at_call 29; refine (hc _).mono ?_; rintro e w' ⟨rfl, rfl⟩)
  go_ret
  exact ⟨rfl, f0⟩
/-- Pages rise. -/
def Rise (ls : List Sl) : Prop := ∀ (i j : Nat) (s t : Sl), i < j → ls[i]? = some s → ls[j]? = some t → s.page < t.page
/-- How many pages stand ahead of a page. -/
def ahead : List Sl → Int → Nat
  | [], _ => 0
  | s :: l, x => if s.page < x then ahead l x + 1 else 0
theorem Rise.tail {s : Sl} {l : List Sl} (h : Rise (s :: l)) : Rise l := fun i j a b hij hi hj => h (i + 1) (j + 1) a b (by omega) (by simpa using hi) (by simpa using hj)
theorem ahead_le (ls : List Sl) (x : Int) : ahead ls x ≤ ls.length := by
  induction ls with
  | nil => exact Nat.le_refl _
  | cons s l ih => unfold ahead; split <;> simp <;> omega
theorem ahead_lt {ls : List Sl} {x : Int} (hr : Rise ls) {i : Nat} {s : Sl} (hi : ls[i]? = some s) : s.page < x ↔ i < ahead ls x := by
  induction ls generalizing i with
  | nil => simp at hi
  | cons t l ih =>
    unfold ahead
    cases i with
    | zero =>
      simp at hi; subst hi
      split
      · rename_i h; simp [h]
      · rename_i h; simp [h]
    | succ i =>
      have hi' : l[i]? = some s := by simpa using hi
      split
      · rw [ih hr.tail hi']; omega
      · rename_i h
        have := hr 0 (i + 1) t s (by omega) rfl hi
        constructor
        · intro e; omega
        · intro e; omega
theorem ahead_eq {ls : List Sl} {x : Int} (hr : Rise ls) {k : Nat} (hk : k ≤ ls.length) (h1 : ∀ i s, ls[i]? = some s → i < k → s.page < x) (h2 : ∀ i s, ls[i]? = some s → k ≤ i → ¬ s.page < x) : ahead ls x = k := by
  have hle := ahead_le ls x
  rcases Nat.lt_trichotomy (ahead ls x) k with e | e | e
  · obtain ⟨s, hs⟩ : ∃ s, ls[ahead ls x]? = some s := ⟨_, List.getElem?_eq_getElem (by omega)⟩
    have := (ahead_lt hr hs).1 (h1 _ s hs e)
    omega
  · exact e
  · obtain ⟨s, hs⟩ : ∃ s, ls[k]? = some s := ⟨_, List.getElem?_eq_getElem (by omega)⟩
    exact absurd ((ahead_lt hr hs).2 e) (h2 _ s hs (Nat.le_refl _))
def hasB (ls : List Sl) (x : Int) : Bool := match ls[ahead ls x]? with | none => false | some s => s.page == x
set_option maxRecDepth 100000 in
set_option maxHeartbeats 4000000 in
theorem bs_any (a : Option Addr) (len cap : Nat) (ls : List Sl) (hl : len = ls.length) (hf : ls.length ≤ 100000) (hr : Rise ls) (x : Int) (w : World) (h : Slots w a cap ls) : Calls Tryz.prog 27 #[.slice a len cap, .int .i64 x, .func (.func 28) #[] #[]] w fun e w' => e = .returned (.tuple #[.int .i64 (ahead ls x : Nat), .bool (hasB ls x)]) ∧ Fr (fun _ => False) w w' := by
  subst hl
  have hle := h.le
  have hmx := h.max
  have HS : Hid (∀ W, Fr (fun _ => False) w W → Slots W a cap ls) := fun W f => h.same f
  have HRI : Hid (Rise ls) := hr
  clear h hr
  go_enter Tryz.func27, Tryz.ntmps27
  go_wp2
  go_loopw [9, 10] (fun i j wr => ∃ (p q : Nat), p ≤ q ∧ q ≤ ls.length ∧ i = .int .i64 p ∧ j = .int .i64 q ∧ Hid (∀ i s, ls[i]? = some s → i < p → s.page < x) ∧ Hid (∀ i s, ls[i]? = some s → q ≤ i → x ≤ s.page) ∧ Fr (fun _ => False) w wr) (fun i j _ => (intOf j).toNat - (intOf i).toNat)
  case atStart => exact ⟨0, ls.length, by omega, by omega, rfl, rfl, (fun i s _ h => by omega), (fun i s hs h => by have := (List.getElem?_eq_some_iff.1 hs).1; omega), Fr.refl _ _⟩
  case round =>
    obtain ⟨p, q, hpq, hq, rfl, rfl, H1, H2, F⟩ := hrel
    by_cases hlt : p < q
    · have hpm : p ≤ (p + q) / 2 := by omega
      have hmq : (p + q) / 2 < q := by omega
      obtain ⟨s, hs⟩ : ∃ s, ls[(p + q) / 2]? = some s := ⟨_, List.getElem?_eq_getElem (by omega)⟩
      obtain ⟨b, off, rfl, hb, hc⟩ := (HS.out _ F).some (by omega)
      obtain ⟨q0, q1, q2, q3, q4, q5, q6, q7⟩ := sl_range (hc ((p + q) / 2) s hs)
      have hcm := slotCmp_any s x
      have hpi : (p : Int) < (q : Int) := by omega
      have HSS : Hid (ls[(p + q) / 2]? = some s) := hs
      clear hs hc
      by_cases hx : s.page < x
      · have hce : cmpI s.page x = -1 := if_pos hx
        rw [hce] at hcm
        have HN1 : Hid (∀ i t, ls[i]? = some t → i < (p + q) / 2 + 1 → t.page < x) := fun i t ht hi => by
          rcases Nat.lt_or_ge i ((p + q) / 2) with e | e
          · have := HRI.out i ((p + q) / 2) t s e ht HSS.out; omega
          · have e2 : i = (p + q) / 2 := by omega
            rw [e2, HSS.out] at ht; cases ht; exact hx
        clear hx hce
        go_wp2_with fail
        refine (hcm _).mono ?_
        rintro e w1 ⟨rfl, f1⟩
        go_wp2
        go_roundw
        case rel => exact ⟨(p + q) / 2 + 1, q, by omega, by omega, by go_num, rfl, HN1, H2, F.seq' f1⟩
        case measure => simp [intOf]; omega
      · have hce : ∃ c, cmpI s.page x = c ∧ decide (c < 0) = false := by
          unfold cmpI
          rw [if_neg hx]
          split
          · exact ⟨1, rfl, rfl⟩
          · exact ⟨0, rfl, rfl⟩
        obtain ⟨c, hc1, hc2⟩ := hce
        rw [hc1] at hcm
        have HN2 : Hid (∀ i t, ls[i]? = some t → (p + q) / 2 ≤ i → x ≤ t.page) := fun i t ht hi => by
          rcases Nat.lt_or_ge ((p + q) / 2) i with e | e
          · have := HRI.out ((p + q) / 2) i s t e HSS.out ht; omega
          · have e2 : i = (p + q) / 2 := by omega
            rw [e2, HSS.out] at ht; cases ht; omega
        clear hx hc1
        go_wp2_with fail
        refine (hcm _).mono ?_
        rintro e w1 ⟨rfl, f1⟩
        go_wp2
        go_roundw
        case rel => exact ⟨p, (p + q) / 2, by omega, by omega, rfl, by go_num, H1, HN2, F.seq' f1⟩
        case measure => simp [intOf]; omega
    · obtain rfl : p = q := by omega
      have HA : Hid (ahead ls x = p) := ahead_eq HRI.out hq H1.out (fun i s hs hi => by have := H2.out i s hs hi; omega)
      have HHB : Hid (hasB ls x = match ls[p]? with | none => false | some s => s.page == x) := by show _ = _; unfold hasB; rw [HA.out]
      clear H1 H2
      by_cases hl2 : p < ls.length
      · obtain ⟨s, hs⟩ : ∃ s, ls[p]? = some s := ⟨_, List.getElem?_eq_getElem hl2⟩
        obtain ⟨b, off, rfl, hb, hc⟩ := (HS.out _ F).some (by omega)
        obtain ⟨q0, q1, q2, q3, q4, q5, q6, q7⟩ := sl_range (hc p s hs)
        have hcm := slotCmp_any s x
        have hpi : (p : Int) < (ls.length : Int) := by omega
        have HH2 : Hid (hasB ls x = (cmpI s.page x == 0)) := by
          show _ = _
          rw [HHB.out, hs]
          dsimp only
          unfold cmpI
          rw [Bool.eq_iff_iff]
          simp only [beq_iff_eq]
          split
          · constructor <;> intro e <;> omega
          · split <;> constructor <;> intro e <;> omega
        generalize cmpI s.page x = c at *
        clear hs hc
        go_wp2_with fail
        refine (hcm _).mono ?_
        rintro e w1 ⟨rfl, f1⟩
        go_wp2
        go_ret2
        exact ⟨by rw [HA.out, HH2.out]; rfl, F.seq' f1⟩
      · have HH2 : Hid (hasB ls x = false) := by show _ = _; rw [HHB.out, List.getElem?_eq_none (by omega)]
        have hpi : decide ((p : Int) < (ls.length : Int)) = false := decide_eq_false (by omega)
        go_wp2
        go_ret2
        exact ⟨by rw [HA.out, HH2.out]; rfl, F⟩
end Go.Proofs.YtlgceleelhppdaaGreat
