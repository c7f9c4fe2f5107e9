
/- RdIns, RdIns2, RdIns3. -/
import Derived.Test.YtkibbojiflklpaaGreatBB29
import Derived.Test.YtkibbojiflklpaaGreatBB22
import Derived.Shelf.Spec.SlicesInsertGrow
/- A page more among pages: slices.Insert at elements of eight cells. -/
namespace Go.Proofs.YtkibbojiflklpaaGreat
open Go.RowKit Go.Lib
set_option linter.unusedVariables false

/-- Elements of several cells are copied. -/
theorem run_copyK {P : Program} (w : World) (dT sT ty elem : TypeId) (size : Nat) (b o dLen dCap : Nat) (a : Addr) (sLen sCap : Nat) (cs : List Value)
    (hu : P.underlying dT = some (.slice elem)) (hs : (P.info? elem).map (·.size) = some size) (hn : cs.length = Nat.min sLen dLen * size)
    (hsrc : ∀ j v, cs[j]? = some v → w.cell? (a.add j) = some v) (hc : ∀ j, j < cs.length → (w.cell? ⟨b, o + j, none⟩).isSome = true) (hf : ∀ j, j < cs.length → w.frozen? ⟨b, o + j, none⟩ = false) (h1 : ∀ v ∈ cs, v.oneCell' = true) :
    (Builtin.copy_ #[dT, sT] ty #[.slice (some ⟨b, o, none⟩) dLen dCap, .slice (some a) sLen sCap]).run P w = .ok (goInt (Nat.min sLen dLen)) (w.setCells b o cs) := by
  have hl := run_loadCells_list (P := P) w a cs hsrc
  have hst := run_storeCells_cells (P := P) b o cs 0 w (by simpa using hc) (by simpa using hf) h1
  cases hq : P.info? elem with
  | none => simp [hq] at hs
  | some i =>
    have hi : i.size = size := by simpa [hq] using hs
    simp [Builtin.copy_, run_underlying hu, Builtin.lenOf, Builtin.firstCells, sizeOf, typeInfo, hq, hi, ← hn, hl, hst]
theorem has_shift8 {w : World} {g n cap i : Nat} {cs xs : List Value} (hx : xs.length = 8) (h : Has w 8 (.slice (some ⟨g, 0, none⟩) n cap) n cs) (hroom : n + 1 ≤ cap) (hi : i ≤ n) :
    Has ((w.drew.setCells g (0 + (i + 1) * 8) (cs.drop (i * 8))).setCells g (0 + i * 8) xs) 8 (.slice (some ⟨g, 0, none⟩) (n + 1) cap) (n + 1) (cs.take (i * 8) ++ (xs ++ cs.drop (i * 8))) := by
  have hl : cs.length = n * 8 := h.1
  rcases h.2 with ⟨h2, _⟩ | ⟨g', cap', hv, hg, h1, h2, h3, h4⟩
  · cases h2
  · simp only [Value.slice.injEq, Option.some.injEq, Addr.mk.injEq, and_true, true_and] at hv
    obtain ⟨rfl, rfl⟩ := hv
    have h3d : w.drew.there g 0 (cap * 8) := (World.there_drew _ _ _ _).2 h3
    have h4d : w.drew.rangeAt g 0 cs := h4
    have sub : ∀ {W : World} (o m : Nat), W.there g 0 (cap * 8) → o + m ≤ cap * 8 → W.there g o m := fun o m hh hm j hj => by have := hh (o + j) (by omega); simpa using this
    have t1 : (w.drew.setCells g (0 + (i + 1) * 8) (cs.drop (i * 8))).there g 0 (cap * 8) := World.there_setCells h3d _ _ _
    have a1 : (w.drew.setCells g (0 + (i + 1) * 8) (cs.drop (i * 8))).rangeAt g 0 (cs.take (i * 8)) := World.rangeAt_setCells_apart (cut_range h4d _) g _ _ (.inr (.inl (by simp; omega)))
    have b1 : (w.drew.setCells g (0 + (i + 1) * 8) (cs.drop (i * 8))).rangeAt g (0 + (i + 1) * 8) (cs.drop (i * 8)) := World.rangeAt_setCells_same _ _ _ _ (sub _ _ h3d (by simp; omega))
    have f1 : Fr (fun _ => True) w ((w.drew.setCells g (0 + (i + 1) * 8) (cs.drop (i * 8))).setCells g (0 + i * 8) xs) := Fr.setCells (fun _ => trivial) _ _ (Fr.setCells (fun _ => trivial) _ _ ((Fr.refl _ w).drew))
    generalize w.drew.setCells g (0 + (i + 1) * 8) (cs.drop (i * 8)) = W1 at t1 a1 b1 f1 ⊢
    have a2 : (W1.setCells g (0 + i * 8) xs).rangeAt g 0 (cs.take (i * 8)) := World.rangeAt_setCells_apart a1 g _ _ (.inr (.inl (by simp; omega)))
    have x2 : (W1.setCells g (0 + i * 8) xs).rangeAt g (0 + i * 8) xs := World.rangeAt_setCells_same _ _ _ _ (sub _ _ t1 (by omega))
    have b2 : (W1.setCells g (0 + i * 8) xs).rangeAt g (0 + (i + 1) * 8) (cs.drop (i * 8)) := World.rangeAt_setCells_apart b1 g _ _ (.inr (.inr (by omega)))
    have hlt : (cs.take (i * 8)).length = i * 8 := by simp; omega
    refine ⟨by simp; omega, .inr ⟨g, cap, rfl, Nat.lt_of_lt_of_le hg f1.size, hroom, h2, World.there_setCells t1 _ _ _, ?_⟩⟩
    refine range_join a2 ?_
    rw [hlt]
    exact range_join (xs := xs) x2 (by rw [hx, show 0 + i * 8 + 8 = 0 + (i + 1) * 8 by omega]; exact b2)
theorem has_grow8 (w : World) (n old i : Nat) (e : TypeId) (z : Value) (hz : z.cells.size = 8) (cs xs : List Value) (hx : xs.length = 8) (hl : cs.length = n * 8) (hi : i < n) (hn : n + 1 ≤ maxLen) :
    Has ((((w.alloc (.cells ((cs.take (i * 8)).toArray ++ Builtin.zeroCells z.cells (n + 1 - i) ++ Builtin.zeroCells z.cells (grownCap w (n + 1) old e - (n + 1))) e)).drew.setCells w.heap.size (i * 8) xs).drew).setCells w.heap.size ((i + 1) * 8) (cs.drop (i * 8))) 8 (.slice (some ⟨w.heap.size, 0, none⟩) (n + 1) (grownCap w (n + 1) old e)) (n + 1) (cs.take (i * 8) ++ (xs ++ cs.drop (i * 8))) := by
  have hge := grownCap_ge w (n + 1) old e
  have hcm : grownCap w (n + 1) old e ≤ maxLen := grownCap_le_maxLen w (n + 1) old e hn
  have hb := heap_alloc_new w (.cells ((cs.take (i * 8)).toArray ++ Builtin.zeroCells z.cells (n + 1 - i) ++ Builtin.zeroCells z.cells (grownCap w (n + 1) old e - (n + 1))) e)
  have hlt : (cs.take (i * 8)).length = i * 8 := by simp; omega
  have t0 : (w.alloc (.cells ((cs.take (i * 8)).toArray ++ Builtin.zeroCells z.cells (n + 1 - i) ++ Builtin.zeroCells z.cells (grownCap w (n + 1) old e - (n + 1))) e)).drew.there w.heap.size 0 (grownCap w (n + 1) old e * 8) := by
    refine (World.there_drew _ _ _ _).2 (there_block hb ?_)
    simp only [Array.size_append, List.size_toArray, hlt, size_zeroCells, hz]; omega
  have r0 : (w.alloc (.cells ((cs.take (i * 8)).toArray ++ Builtin.zeroCells z.cells (n + 1 - i) ++ Builtin.zeroCells z.cells (grownCap w (n + 1) old e - (n + 1))) e)).drew.rangeAt w.heap.size 0 (cs.take (i * 8)) := by
    refine range_block (w := (w.alloc _).drew) (by exact hb) (fun j u hu => ?_)
    have hj : j < (cs.take (i * 8)).length := (List.getElem?_eq_some_iff.1 hu).1
    rw [Nat.zero_add, Array.getElem?_append_left (by simp only [Array.size_append, List.size_toArray, hlt, size_zeroCells, hz]; omega), Array.getElem?_append_left (by simpa using hj)]
    simpa using hu
  have sz0 : w.heap.size < (w.alloc (.cells ((cs.take (i * 8)).toArray ++ Builtin.zeroCells z.cells (n + 1 - i) ++ Builtin.zeroCells z.cells (grownCap w (n + 1) old e - (n + 1))) e)).drew.heap.size := by simp
  generalize (w.alloc (.cells ((cs.take (i * 8)).toArray ++ Builtin.zeroCells z.cells (n + 1 - i) ++ Builtin.zeroCells z.cells (grownCap w (n + 1) old e - (n + 1))) e)).drew = W0 at t0 r0 sz0 ⊢
  generalize w.heap.size = g at t0 r0 sz0 ⊢
  generalize grownCap w (n + 1) old e = cap at *
  have sub : ∀ {W : World} (o m : Nat), W.there g 0 (cap * 8) → o + m ≤ cap * 8 → W.there g o m := fun o m hh hm j hj => by have := hh (o + j) (by omega); simpa using this
  have t1 : (W0.setCells g (i * 8) xs).drew.there g 0 (cap * 8) := (World.there_drew _ _ _ _).2 (World.there_setCells t0 _ _ _)
  have a1 : (W0.setCells g (i * 8) xs).drew.rangeAt g 0 (cs.take (i * 8)) := World.rangeAt_setCells_apart r0 g _ _ (.inr (.inl (by omega)))
  have x1 : (W0.setCells g (i * 8) xs).drew.rangeAt g (i * 8) xs := World.rangeAt_setCells_same W0 _ _ _ (sub _ _ t0 (by omega))
  have f1 : Fr (fun _ => True) W0 ((W0.setCells g (i * 8) xs).drew.setCells g ((i + 1) * 8) (cs.drop (i * 8))) := Fr.setCells (fun _ => trivial) _ _ (Fr.setCells (fun _ => trivial) _ _ (Fr.refl _ W0)).drew
  generalize (W0.setCells g (i * 8) xs).drew = W1 at t1 a1 x1 f1 ⊢
  have a2 : (W1.setCells g ((i + 1) * 8) (cs.drop (i * 8))).rangeAt g 0 (cs.take (i * 8)) := World.rangeAt_setCells_apart a1 g _ _ (.inr (.inl (by omega)))
  have x2 : (W1.setCells g ((i + 1) * 8) (cs.drop (i * 8))).rangeAt g (i * 8) xs := World.rangeAt_setCells_apart x1 g _ _ (.inr (.inl (by omega)))
  have b2 : (W1.setCells g ((i + 1) * 8) (cs.drop (i * 8))).rangeAt g ((i + 1) * 8) (cs.drop (i * 8)) := World.rangeAt_setCells_same _ _ _ _ (sub _ _ t1 (by simp; omega))
  refine ⟨by simp; omega, .inr ⟨g, cap, rfl, Nat.lt_of_lt_of_le sz0 f1.size, hge, hcm, World.there_setCells t1 _ _ _, ?_⟩⟩
  refine range_join a2 ?_
  rw [hlt, Nat.zero_add]
  exact range_join (xs := xs) x2 (by rw [hx, show i * 8 + 8 = (i + 1) * 8 by omega]; exact b2)
end Go.Proofs.YtkibbojiflklpaaGreat

/- A page more among pages: slices.Insert itself. -/
namespace Go.Proofs.YtkibbojiflklpaaGreat
open Go.RowKit Go.Lib
set_option linter.unusedVariables false

theorem infoSl : (Tryz.prog.info? 35).map (fun i => (i.zero, i.size, i.bytes)) = some (some (.agg #[.int .i64 0, .int .i64 0, .int .i64 0, .int .i64 0, .string ⟨#[]⟩, .slice none 0 0, .slice none 0 0, .slice none 0 0]), 8, 120) := by kernel_rfl
theorem sizeSl (w : World) : (Go.sizeOf 35).run Tryz.prog w = .ok 8 w := by kernel_rfl
/-- What an insert leaves. -/
def InsO8 (w : World) (v : Value) (n : Nat) (xs : List Value) (e : Ending) (w' : World) : Prop := ∃ a c, e = .returned (.slice a n c) ∧ Has w' 8 (.slice a n c) n xs ∧ Fr (fun k => v.ownBlock = some k) w w' ∧ ((Value.slice a n c).ownBlock = v.ownBlock ∨ ∃ g, (Value.slice a n c).ownBlock = some g ∧ w.heap.size ≤ g)
set_option maxRecDepth 100000 in
set_option maxHeartbeats 4000000 in
set_option maxRecDepth 100000 in
theorem ins8_shift (g n c i vb : Nat) (cs xs : List Value) (hx : xs.length = 8) (w : World) (hi : i < n) (hroom : n + 1 ≤ c) (hs : n ≤ 100000) (hvb : vb ≠ g) (t : TypeId) (h : Has w 8 (.slice (some ⟨g, 0, none⟩) n c) n cs) (h1c : ∀ v ∈ cs, v.oneCell' = true) (h1v : ∀ v ∈ xs, v.oneCell' = true) (hv : w.heap[vb]? = some (.cells xs.toArray t (0, 0))) :
    Calls Tryz.prog 78 #[.slice (some ⟨g, 0, none⟩) n c, .int .i64 i, .slice (some ⟨vb, 0, none⟩) 1 1] w fun e w' => e = .returned (.slice (some ⟨g, 0, none⟩) (n + 1) c) ∧ w' = (w.drew.setCells g (0 + (i + 1) * 8) (cs.drop (i * 8))).setCells g (0 + i * 8) xs := by
  have hl : cs.length = n * 8 := h.1
  obtain ⟨g2, c2, e0, hg, hnc, hcm, hth, hra⟩ := h.form (by omega)
  simp only [Value.slice.injEq, Option.some.injEq, Addr.mk.injEq, and_true, true_and] at e0
  obtain ⟨rfl, rfl⟩ := e0
  have hc63 : c ≤ 9223372036854775807 := by unfold maxLen at hcm; omega
  obtain ⟨tB, kB, hsb, hkB⟩ := shape_of (w := w) (b := g) (fun j hj => hth j (by omega))
  have hsa : w.shape? vb = some (t, 8) := by unfold World.shape?; rw [hv]; simp [hx]
  have hfa : w.frozen? ⟨vb, 0, none⟩ = false := by simp [World.frozen?, hv]
  have hfe : w.frozen? ⟨vb, 8, none⟩ = false := by simp [World.frozen?, hv]
  have hvs : ∀ j v, xs[j]? = some v → w.cell? ⟨vb, 0 + j, none⟩ = some v := fun j v hv2 => (range_block hv (xs := xs) (o := 0) (fun j v h => by rw [Nat.zero_add]; simpa using h)) j v hv2
  have hov : ∀ lb cb, (callFunc 110 #[.slice (some ⟨vb, 0, none⟩) 1 1, .slice (some ⟨g, (i + 1) * 8, none⟩) lb cb]).run Tryz.prog w = .ok (.value (.bool false)) w := fun lb cb => by
    rw [run_callFunc_extern Tryz.func110 (by kernel_rfl) (by kernel_rfl) (by kernel_rfl) (e := Extern.SlicesOverlaps.overlaps #[24, 24] #[4]) (by kernel_rfl),
      Lib.run_overlaps_apart w 24 4 35 Tryz.underlying24 8 sizeSl ⟨vb, 0, none⟩ ⟨g, (i + 1) * 8, none⟩ 1 1 lb cb hvb t tB 8 kB hsa hsb hkB hfa hfe]
    rfl
  have hsz : (Tryz.prog.info? 35).map (·.size) = some 8 := by kernel_rfl
  have hdl : (cs.drop (i * 8)).length = (n - i) * 8 := by rw [List.length_drop, hl]; omega
  have mixed : Tryz.prog.follows Departure.mixedOrders = true := by kernel_rfl
  have hin : i ≤ n := by omega
  have htn : ((i : Int) + 1).toNat = i + 1 := by omega
  have hb1 : (0 : Int) ≤ (i : Int) + 1 := by omega
  have hw1 : IntKind.i64.wrap ((i : Int) + 1) = (i : Int) + 1 := by simp [IntKind.wrap, IntKind.bits, IntKind.signed]; omega
  have hb2 : ¬ (c = i + 1) := by omega
  have hb3 : (i : Int) ≤ (n : Int) + 1 := by omega
  have hb4 : ¬ (c = i) := by omega
  have hcp1 : ∀ ty dc sc, (Builtin.copy_ #[24, 24] ty #[.slice (some ⟨g, (i + 1) * 8, none⟩) (n - i) dc, .slice (some ⟨g, i * 8, none⟩) (n + 1 - i) sc]).run Tryz.prog w.drew = .ok (goInt (Nat.min (n + 1 - i) (n - i))) (w.drew.setCells g ((i + 1) * 8) (cs.drop (i * 8))) := fun ty dc sc =>
    run_copyK w.drew _ _ ty 35 8 g ((i + 1) * 8) (n - i) dc ⟨g, i * 8, none⟩ (n + 1 - i) sc (cs.drop (i * 8)) Tryz.underlying24 hsz (by rw [hdl]; simp only [Nat.min_def]; split <;> omega)
      (fun j v hj => by rw [Addr.add_lit]; have := hra (i * 8 + j) v (by rwa [List.getElem?_drop] at hj); rwa [Nat.zero_add] at this)
      (fun j hj => by have := (hth ((i + 1) * 8 + j) (by omega)).1; rwa [Nat.zero_add] at this) (fun j hj => by have := (hth ((i + 1) * 8 + j) (by omega)).2; rwa [Nat.zero_add] at this) (fun v hv => h1c v (List.mem_of_mem_drop hv))
  obtain ⟨W1, hW1⟩ : ∃ W1, W1 = w.drew.setCells g ((i + 1) * 8) (cs.drop (i * 8)) := ⟨_, rfl⟩
  have ht1 : W1.there g 0 (c * 8) := by rw [hW1]; exact World.there_setCells ((World.there_drew _ _ _ _).2 hth) _ _ _
  have hcp2 : ∀ (W : World), (∀ x, W.cell? x = W1.cell? x) → (∀ x, W.frozen? x = W1.frozen? x) → ∀ ty dc, (Builtin.copy_ #[24, 24] ty #[.slice (some ⟨g, i * 8, none⟩) (n + 1 - i) dc, .slice (some ⟨vb, 0, none⟩) 1 1]).run Tryz.prog W = .ok (goInt (Nat.min 1 (n + 1 - i))) (W.setCells g (i * 8) xs) := fun W hWc hWf ty dc =>
    run_copyK W _ _ ty 35 8 g (i * 8) (n + 1 - i) dc ⟨vb, 0, none⟩ 1 1 xs Tryz.underlying24 hsz (by rw [hx]; simp only [Nat.min_def]; split <;> omega)
      (fun j v hj => by rw [Addr.add_lit, hWc, hW1, World.cell?_setCells_out g _ _ _ _ (fun h _ => absurd h hvb)]; exact hvs j v hj)
      (fun j hj => by rw [hWc]; have := (ht1 (i * 8 + j) (by omega)).1; rwa [Nat.zero_add] at this) (fun j hj => by rw [hWf]; have := (ht1 (i * 8 + j) (by omega)).2; rwa [Nat.zero_add] at this) h1v
  rw [← hW1] at hcp1
  have HW1 : Hid (W1 = w.drew.setCells g ((i + 1) * 8) (cs.drop (i * 8))) := hW1
  rw [Nat.zero_add, Nat.zero_add, ← hW1]
  clear hW1 hth hra hv hvs hsb hsa hfa hfe h hl hdl
  go_enter Tryz.func78, Tryz.ntmps78
  go_wp2_with (simp only [hov])
  go_region_law_o (refine step_copy_runI rfl _ _ 24 24 rfl _ _ (by simp [Act.eval, Act.put]) (by simp [Act.eval, Act.put]) (hcp1 _ _ _) ?_)
  go_wp2_with (at_builtin; refine wpList_copy_runI _ rfl _ _ 24 24 rfl _ _ rfl rfl (hcp2 _ (fun _ => rfl) (fun _ => rfl) _ _) ?_)
  go_ret
  exact ⟨rfl, rfl⟩
set_option maxRecDepth 100000 in
set_option maxHeartbeats 4000000 in
set_option maxRecDepth 100000 in
theorem ins8_grow (g n c i vb : Nat) (cs xs : List Value) (hx : xs.length = 8) (w : World) (hi : i < n) (hroom : c < n + 1) (hs : n ≤ 100000) (t : TypeId) (h : Has w 8 (.slice (some ⟨g, 0, none⟩) n c) n cs) (h1c : ∀ v ∈ cs, v.oneCell' = true) (h1v : ∀ v ∈ xs, v.oneCell' = true) (hv : w.heap[vb]? = some (.cells xs.toArray t (0, 0))) :
    Calls Tryz.prog 78 #[.slice (some ⟨g, 0, none⟩) n c, .int .i64 i, .slice (some ⟨vb, 0, none⟩) 1 1] w fun e w' => InsO8 w (.slice (some ⟨g, 0, none⟩) n c) (n + 1) (cs.take (i * 8) ++ (xs ++ cs.drop (i * 8))) e w' := by
  have hl : cs.length = n * 8 := h.1
  obtain ⟨g2, c2, e0, hg, hnc, hcm, hth, hra⟩ := h.form (by omega)
  simp only [Value.slice.injEq, Option.some.injEq, Addr.mk.injEq, and_true, true_and] at e0
  obtain ⟨rfl, rfl⟩ := e0
  have hc63 : c ≤ 9223372036854775807 := by unfold maxLen at hcm; omega
  obtain ⟨i0, hi0, hz0, hzs, hzb⟩ := info_parts infoSl
  have hvw : vb < w.heap.size := lt_of_block hv
  have hvs : ∀ j v, xs[j]? = some v → w.cell? ⟨vb, 0 + j, none⟩ = some v := fun j v hv2 => (range_block hv (xs := xs) (o := 0) (fun j v h => by rw [Nat.zero_add]; simpa using h)) j v hv2
  have hsz : (Tryz.prog.info? 35).map (·.size) = some 8 := by kernel_rfl
  have mixed : Tryz.prog.follows Departure.mixedOrders = true := by kernel_rfl
  have hdl : (cs.drop (i * 8)).length = (n - i) * 8 := by rw [List.length_drop, hl]; omega
  have hkk : (n : Int) + 1 - (i : Int) = ((n + 1 - i : Nat) : Int) := by omega
  have hik : i + (n + 1 - i) = n + 1 := by omega
  have hold : (Builtin.firstCells i0.size i (.slice (some ⟨g, 0, none⟩) i c)).run Tryz.prog w.drew = .ok (cs.take (i * 8)).toArray w.drew := by
    rw [hzs]
    exact run_firstCells_some w.drew 8 i ⟨g, 0, none⟩ i c (cs.take (i * 8)) (by rw [List.length_take]; omega) (fun j v hj => by
      rw [Addr.add_lit]
      rw [List.getElem?_take] at hj
      split at hj
      · exact hra j v hj
      · cases hj)
  have hrz : ∀ ty, (Builtin.append_ #[24, 3] ty #[.slice (some ⟨g, 0, none⟩) i c, .int .i64 ((n : Int) + 1 - (i : Int))]).run Tryz.prog w =
      .ok (.slice (some ⟨w.heap.size, 0, none⟩) (n + 1) (grownCap w (n + 1) c 35)) (w.drew.alloc (.cells ((cs.take (i * 8)).toArray ++ Builtin.zeroCells (Value.agg #[.int .i64 0, .int .i64 0, .int .i64 0, .int .i64 0, .string ⟨#[]⟩, .slice none 0 0, .slice none 0 0, .slice none 0 0]).cells (n + 1 - i) ++ Builtin.zeroCells (Value.agg #[.int .i64 0, .int .i64 0, .int .i64 0, .int .i64 0, .string ⟨#[]⟩, .slice none 0 0, .slice none 0 0, .slice none 0 0]).cells (grownCap w (n + 1) c 35 - (n + 1))) 35)) := fun ty => by
    have h := Lib.run_append_grow_zeros w 24 3 ty 35 i0 _ .i64 .i64 Tryz.underlying24 Tryz.underlying3 hi0 hz0 (some ⟨g, 0, none⟩) i c (cs.take (i * 8)) hold (n + 1 - i) (by omega) (by omega) (by omega) (by omega) (by rw [hzb]; omega) (by rw [hzb, hik]; exact growslice_fits hroom (by omega))
    rw [hik] at h
    rw [hkk]
    exact h
  have hfin := has_grow8 w n c i 35 (.agg #[.int .i64 0, .int .i64 0, .int .i64 0, .int .i64 0, .string ⟨#[]⟩, .slice none 0 0, .slice none 0 0, .slice none 0 0]) rfl cs xs hx hl hi (by unfold maxLen; omega)
  obtain ⟨G, hG⟩ : ∃ G, G = grownCap w (n + 1) c 35 := ⟨_, rfl⟩
  have hGn : n + 1 ≤ G := by rw [hG]; exact grownCap_ge w _ _ _
  have hG63 : G ≤ 9223372036854775807 := by
    have := grownCap_le_maxLen w (n + 1) c 35 (by unfold maxLen; omega)
    rw [← hG] at this
    unfold maxLen at this
    omega
  obtain ⟨ROW, hROW⟩ : ∃ ROW : Array Value, ROW = (cs.take (i * 8)).toArray ++ Builtin.zeroCells (Value.agg #[.int .i64 0, .int .i64 0, .int .i64 0, .int .i64 0, .string ⟨#[]⟩, .slice none 0 0, .slice none 0 0, .slice none 0 0]).cells (n + 1 - i) ++ Builtin.zeroCells (Value.agg #[.int .i64 0, .int .i64 0, .int .i64 0, .int .i64 0, .string ⟨#[]⟩, .slice none 0 0, .slice none 0 0, .slice none 0 0]).cells (G - (n + 1)) := ⟨_, rfl⟩
  rw [← hG] at hrz hfin
  rw [← hROW] at hrz hfin
  have hRl : (n + 1) * 8 ≤ ROW.size := by
    rw [hROW]
    simp only [Array.size_append, List.size_toArray, size_zeroCells, List.length_take, hl]
    simp [Value.cells]
    omega
  obtain ⟨W1, hW1⟩ : ∃ W1, W1 = w.drew.alloc (.cells ROW 35) := ⟨_, rfl⟩
  rw [← hW1] at hrz
  have hN : ∀ j, j < (n + 1) * 8 → (W1.cell? ⟨w.heap.size, j, none⟩).isSome = true := fun j hj => by
    rw [hW1, World.cell?_alloc_at (w := w.drew) ROW _ w.heap.size j rfl, Array.getElem?_eq_getElem (by omega)]; rfl
  have hNf : ∀ j, W1.frozen? ⟨w.heap.size, j, none⟩ = false := fun j => by rw [hW1]; exact World.frozen?_alloc_at (w := w.drew) ROW _ w.heap.size j rfl
  have hOb : ∀ j v, w.cell? ⟨g, j, none⟩ = some v → W1.cell? ⟨g, j, none⟩ = some v := fun j v h => by rw [hW1, World.cell?_alloc_past (w := w.drew) _ g j hg]; exact h
  have hOv : ∀ j v, w.cell? ⟨vb, j, none⟩ = some v → W1.cell? ⟨vb, j, none⟩ = some v := fun j v h => by rw [hW1, World.cell?_alloc_past (w := w.drew) _ vb j hvw]; exact h
  have hcpA : ∀ (W : World), (∀ x, W.cell? x = W1.cell? x) → (∀ x, W.frozen? x = W1.frozen? x) → ∀ ty dc, (Builtin.copy_ #[24, 24] ty #[.slice (some ⟨w.heap.size, i * 8, none⟩) (n + 1 - i) dc, .slice (some ⟨vb, 0, none⟩) 1 1]).run Tryz.prog W = .ok (goInt (Nat.min 1 (n + 1 - i))) (W.setCells w.heap.size (i * 8) xs) := fun W hWc hWf ty dc =>
    run_copyK W _ _ ty 35 8 w.heap.size (i * 8) (n + 1 - i) dc ⟨vb, 0, none⟩ 1 1 xs Tryz.underlying24 hsz (by rw [hx]; simp only [Nat.min_def]; split <;> omega)
      (fun j v hj => by rw [Addr.add_lit, hWc]; exact hOv _ v (hvs j v hj))
      (fun j hj => by rw [hWc]; exact hN _ (by omega)) (fun j hj => by rw [hWf]; exact hNf _) h1v
  have hbN : g ≠ w.heap.size := by omega
  have hcpB : ∀ (W : World), (∀ x, W.cell? x = (W1.setCells w.heap.size (i * 8) xs).cell? x) → (∀ x, W.frozen? x = (W1.setCells w.heap.size (i * 8) xs).frozen? x) → ∀ ty dc sc, (Builtin.copy_ #[24, 24] ty #[.slice (some ⟨w.heap.size, (i + 1) * 8, none⟩) (n - i) dc, .slice (some ⟨g, i * 8, none⟩) (n - i) sc]).run Tryz.prog W = .ok (goInt (Nat.min (n - i) (n - i))) (W.setCells w.heap.size ((i + 1) * 8) (cs.drop (i * 8))) := fun W hWc hWf ty dc sc =>
    run_copyK W _ _ ty 35 8 w.heap.size ((i + 1) * 8) (n - i) dc ⟨g, i * 8, none⟩ (n - i) sc (cs.drop (i * 8)) Tryz.underlying24 hsz (by rw [hdl]; simp only [Nat.min_def]; split <;> omega)
      (fun j v hj => by
        rw [Addr.add_lit, hWc, World.cell?_setCells_out _ _ _ _ _ (fun h _ => absurd h hbN)]
        have := hra (i * 8 + j) v (by rwa [List.getElem?_drop] at hj)
        rw [Nat.zero_add] at this
        exact hOb _ v this)
      (fun j hj => by rw [hWc]; exact isSome_setCells _ _ _ _ (fun t ht => hN _ (by omega)) _ (hN _ (by omega)))
      (fun j hj => by rw [hWf, World.frozen?_setCells]; exact hNf _) (fun v hv => h1c v (List.mem_of_mem_drop hv))
  subst hW1
  have hE1 : ∀ x, ((w.alloc (.cells ROW 35)).drew).cell? x = (w.drew.alloc (.cells ROW 35)).cell? x := fun x => rfl
  have hE2 : ∀ x, ((w.alloc (.cells ROW 35)).drew).frozen? x = (w.drew.alloc (.cells ROW 35)).frozen? x := fun x => rfl
  have hF1 : ∀ x, (((w.alloc (.cells ROW 35)).drew.setCells w.heap.size (i * 8) xs).drew).cell? x = ((w.drew.alloc (.cells ROW 35)).setCells w.heap.size (i * 8) xs).cell? x := fun x => rfl
  have hF2 : ∀ x, (((w.alloc (.cells ROW 35)).drew.setCells w.heap.size (i * 8) xs).drew).frozen? x = ((w.drew.alloc (.cells ROW 35)).setCells w.heap.size (i * 8) xs).frozen? x := fun x => rfl
  have hw1 : IntKind.i64.wrap ((i : Int) + 1) = (i : Int) + 1 := by simp [IntKind.wrap, IntKind.bits, IntKind.signed]; omega
  have hw2 : IntKind.i64.wrap ((n : Int) + 1) = (n : Int) + 1 := by simp [IntKind.wrap, IntKind.bits, IntKind.signed]; omega
  have hw3 : IntKind.i64.wrap ((n : Int) + 1 - (i : Int)) = (n : Int) + 1 - (i : Int) := by simp [IntKind.wrap, IntKind.bits, IntKind.signed]; omega
  have hb1 : (0 : Int) ≤ (i : Int) + 1 := by omega
  have hin : i ≤ n := by omega
  have htn : ((i : Int) + 1).toNat = i + 1 := by omega
  have hb3 : (i : Int) ≤ (n : Int) := by omega
  have hz3 : (c : Int) < (n : Int) + 1 := by omega
  have hz2 : ((i : Int) == (n : Int)) = false := by rw [beq_eq_false_iff_ne]; omega
  have hGi : ¬ (G = i) := by omega
  have hGim : ¬ (G = i + 1) := by omega
  have hci : ¬ (c = i) := by omega
  have HFIN : Hid _ := hfin
  clear hkk hik hold hROW hG hRl hth hra hv hvs h hl hdl hfin
  go_enter Tryz.func78, Tryz.ntmps78
  go_wp2_with (first
    | (at_builtin; refine Lib.wpList_append_run _ rfl _ _ _ _ rfl _ _ rfl rfl _ _ (hrz _) ?_)
    | (at_builtin; refine wpList_copy_runI _ rfl _ _ 24 24 rfl _ _ rfl rfl (hcpA _ hE1 hE2 _ _) ?_))
  go_region_law_o (refine step_copy_runI rfl _ _ 24 24 rfl (.slice (some ⟨w.heap.size, (i + 1) * 8, none⟩) (n - i) (G - (i + 1))) (.slice (some ⟨g, i * 8, none⟩) (n - i) (c - i)) (by simp [Act.eval, Act.put]) (by simp [Act.eval, Act.put]) (hcpB _ hF1 hF2 3 (G - (i + 1)) (c - i)) ?_)
  go_wp2
  go_ret
  exact ⟨_, _, rfl, HFIN.out, Fr.setCells (fun h => absurd h (by omega)) _ _ (Fr.setCells (fun h => absurd h (by omega)) _ _ ((Fr.refl _ w).alloc _).drew).drew, .inr ⟨_, rfl, Nat.le_refl _⟩⟩
end Go.Proofs.YtkibbojiflklpaaGreat

/- A page more among pages: slices.Insert over all its roads. -/
namespace Go.Proofs.YtkibbojiflklpaaGreat
open Go.RowKit Go.Lib
set_option linter.unusedVariables false

set_option maxRecDepth 100000 in
set_option maxHeartbeats 4000000 in
set_option maxRecDepth 100000 in
theorem ins8_end (a : Option Addr) (n c vb : Nat) (cs xs : List Value) (hx : xs.length = 8) (w : World) (hs : n ≤ 100000) (t : TypeId) (h : Has w 8 (.slice a n c) n cs) (hca : c ≤ 9223372036854775807) (hnc : n ≤ c) (ha : a = none → c = 0) (h1v : ∀ v ∈ xs, v.oneCell' = true) (hv : w.heap[vb]? = some (.cells xs.toArray t (0, 0))) :
    Calls Tryz.prog 78 #[.slice a n c, .int .i64 n, .slice (some ⟨vb, 0, none⟩) 1 1] w fun e w' => InsO8 w (.slice a n c) (n + 1) (cs ++ xs) e w' := by
  obtain ⟨i0, hi0, hz0, hzs, hzb⟩ := info_parts infoSl
  have hra : w.rangeAt vb 0 xs := range_block hv (xs := xs) (o := 0) (fun j v h => by rw [Nat.zero_add]; simpa using h)
  have HH : Hid (Has w 8 (.slice a n c) n cs) := h
  have HV : Hid (From w (some ⟨vb, 0, none⟩) xs) := .inr ⟨_, _, rfl, hra⟩
  clear h hra hv
  by_cases hcn : c = n
  · subst hcn
    go_enter Tryz.func78, Tryz.ntmps78
    go_wp2_with (at_builtin; refine wpList_append_has _ rfl _ _ 24 24 35 35 rfl i0 _ 8 120 Tryz.underlying24 Tryz.underlying24 hi0 hz0 hzs hzb rfl (by omega) (.slice a c c) c cs rfl HH.out (some ⟨vb, 0, none⟩) 1 1 xs rfl (by rw [hx]) HV.out h1v (by unfold maxLen; omega) (by omega) ?_; intro am cm w2 hown hfr hat)
    go_ret
    exact ⟨_, _, rfl, hown, hfr.mono (fun _ _ h => h.1), hat.imp id (fun h => ⟨_, h, Nat.le_refl _⟩)⟩
  · go_enter Tryz.func78, Tryz.ntmps78
    go_wp2_with (at_builtin; refine wpList_append_has _ rfl _ _ 24 24 35 35 rfl i0 _ 8 120 Tryz.underlying24 Tryz.underlying24 hi0 hz0 hzs hzb rfl (by omega) (.slice a n c) n cs rfl HH.out (some ⟨vb, 0, none⟩) 1 1 xs rfl (by rw [hx]) HV.out h1v (by unfold maxLen; omega) (by omega) ?_; intro am cm w2 hown hfr hat)
    go_ret
    exact ⟨_, _, rfl, hown, hfr.mono (fun _ _ h => h.1), hat.imp id (fun h => ⟨_, h, Nat.le_refl _⟩)⟩
theorem ins8_any (a : Option Addr) (n c i vb : Nat) (cs xs : List Value) (hx : xs.length = 8) (w : World) (hi : i ≤ n) (hs : n ≤ 100000) (t : TypeId) (h : Has w 8 (.slice a n c) n cs) (hne : (Value.slice a n c).ownBlock ≠ some vb) (h1c : ∀ v ∈ cs, v.oneCell' = true) (h1v : ∀ v ∈ xs, v.oneCell' = true) (hv : w.heap[vb]? = some (.cells xs.toArray t (0, 0))) :
    Calls Tryz.prog 78 #[.slice a n c, .int .i64 i, .slice (some ⟨vb, 0, none⟩) 1 1] w fun e w' => InsO8 w (.slice a n c) (n + 1) (cs.take (i * 8) ++ (xs ++ cs.drop (i * 8))) e w' := by
  have hl : cs.length = n * 8 := h.1
  rcases Nat.lt_or_eq_of_le hi with hlt | heq
  · obtain ⟨g, c2, e0, hg, hnc, hcm, hth, hra⟩ := h.form (by omega)
    simp only [Value.slice.injEq, true_and] at e0
    obtain ⟨rfl, rfl⟩ := e0
    by_cases hroom : n + 1 ≤ c
    · refine (ins8_shift g n c i vb cs xs hx w hlt hroom hs (fun e => hne (by rw [e]; rfl)) t h h1c h1v hv).mono ?_
      rintro e w' ⟨rfl, rfl⟩
      exact ⟨_, _, rfl, has_shift8 hx h hroom hi, Fr.ownB (Fr.setCells (S := fun k => k = g) (fun _ => rfl) _ _ (Fr.setCells (S := fun k => k = g) (fun _ => rfl) _ _ ((Fr.refl _ w).drew))), .inl rfl⟩
    · exact ins8_grow g n c i vb cs xs hx w hlt (by omega) hs t h h1c h1v hv
  · subst heq
    rw [List.take_of_length_le (by omega), List.drop_eq_nil_of_le (by omega), List.append_nil]
    rcases h.2 with ⟨e, h0⟩ | ⟨g, cap, e, hg, hnc, hcm, hth, hra⟩
    · simp only [Value.slice.injEq] at e
      obtain ⟨rfl, rfl, rfl⟩ := e
      exact ins8_end none 0 0 vb cs xs hx w hs t h (by omega) (by omega) (fun _ => rfl) h1v hv
    · simp only [Value.slice.injEq, true_and] at e
      obtain ⟨rfl, rfl⟩ := e
      exact ins8_end _ i c vb cs xs hx w hs t h (by unfold maxLen at hcm; omega) hnc (fun e => by cases e) h1v hv
end Go.Proofs.YtkibbojiflklpaaGreat
