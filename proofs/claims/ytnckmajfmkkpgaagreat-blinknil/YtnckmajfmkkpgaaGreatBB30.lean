
/- RdIns, RdIns2, RdIns3. -/
import Derived.Test.YtnckmajfmkkpgaaGreatBB29
import Derived.Test.YtnckmajfmkkpgaaGreatBB22
import Derived.Shelf.Spec.SlicesInsertGrow
/- A page more among pages: slices.Insert at elements of eight cells. -/
namespace Go.Proofs.YtnckmajfmkkpgaaGreat
open Go.RowKit Go.Lib
set_option linter.unusedVariables false

/-- Elements of several cells are copied. -/
theorem run_copyK {P : Program} (w : World) (dT sT ty elem : TypeId) (size : Nat) (b o dLen dCap : Nat) (a : Addr) (sLen sCap : Nat) (cs : List Value)
    (hu : P.underlying dT = some (.slice elem)) (hs : (P.info? elem).map (·.size) = some size) (hn : cs.length = Nat.min sLen dLen * size)
    (hsrc : ∀ j v, cs[j]? = some v → w.cell? (a.add j) = some v) (hc : ∀ j, j < cs.length → (w.cell? ⟨b, o + j, none⟩).isSome = true) (hf : ∀ j, j < cs.length → w.frozen? ⟨b, o + j, none⟩ = false) (h1 : ∀ v ∈ cs, v.oneCell' = true) :
    (Builtin.copy_ #[dT, sT] ty #[.slice (some ⟨b, o, none⟩) dLen dCap, .slice (some a) sLen sCap]).run P w = .ok (goInt (Nat.min sLen dLen)) (w.setCells b o cs) := by
  have hl := run_loadCells_list (P := P) w a cs hsrc
  have hst := run_storeCells_cells (P := P) b o cs 0 w (by simpa using hc) (by simpa using hf) h1
  cases hq : P.info? elem with
  | none => simp [hq] at hs
  | some i =>
    have hi : i.size = size := by simpa [hq] using hs
    simp [Builtin.copy_, run_underlying hu, Builtin.lenOf, Builtin.firstCells, sizeOf, typeInfo, hq, hi, ← hn, hl, hst]
theorem has_shift8 {w : World} {g n cap i : Nat} {cs xs : List Value} (hx : xs.length = 8) (h : Has w 8 (.slice (some ⟨g, 0, none⟩) n cap) n cs) (hroom : n + 1 ≤ cap) (hi : i ≤ n) :
    Has ((w.drew.setCells g (0 + (i + 1) * 8) (cs.drop (i * 8))).setCells g (0 + i * 8) xs) 8 (.slice (some ⟨g, 0, none⟩) (n + 1) cap) (n + 1) (cs.take (i * 8) ++ (xs ++ cs.drop (i * 8))) := by
  have hl : cs.length = n * 8 := h.1
  rcases h.2 with ⟨h2, _⟩ | ⟨g', cap', hv, hg, h1, h2, h3, h4⟩
  · cases h2
  · simp only [Value.slice.injEq, Option.some.injEq, Addr.mk.injEq, and_true, true_and] at hv
    obtain ⟨rfl, rfl⟩ := hv
    have h3d : w.drew.there g 0 (cap * 8) := (World.there_drew _ _ _ _).2 h3
    have h4d : w.drew.rangeAt g 0 cs := h4
    have sub : ∀ {W : World} (o m : Nat), W.there g 0 (cap * 8) → o + m ≤ cap * 8 → W.there g o m := fun o m hh hm j hj => by have := hh (o + j) (by omega); simpa using this
    have t1 : (w.drew.setCells g (0 + (i + 1) * 8) (cs.drop (i * 8))).there g 0 (cap * 8) := World.there_setCells h3d _ _ _
    have a1 : (w.drew.setCells g (0 + (i + 1) * 8) (cs.drop (i * 8))).rangeAt g 0 (cs.take (i * 8)) := World.rangeAt_setCells_apart (cut_range h4d _) g _ _ (.inr (.inl (by simp; omega)))
    have b1 : (w.drew.setCells g (0 + (i + 1) * 8) (cs.drop (i * 8))).rangeAt g (0 + (i + 1) * 8) (cs.drop (i * 8)) := World.rangeAt_setCells_same _ _ _ _ (sub _ _ h3d (by simp; omega))
    have f1 : Fr (fun _ => True) w ((w.drew.setCells g (0 + (i + 1) * 8) (cs.drop (i * 8))).setCells g (0 + i * 8) xs) := Fr.setCells (fun _ => trivial) _ _ (Fr.setCells (fun _ => trivial) _ _ ((Fr.refl _ w).drew))
    generalize w.drew.setCells g (0 + (i + 1) * 8) (cs.drop (i * 8)) = W1 at t1 a1 b1 f1 ⊢
    have a2 : (W1.setCells g (0 + i * 8) xs).rangeAt g 0 (cs.take (i * 8)) := World.rangeAt_setCells_apart a1 g _ _ (.inr (.inl (by simp; omega)))
    have x2 : (W1.setCells g (0 + i * 8) xs).rangeAt g (0 + i * 8) xs := World.rangeAt_setCells_same _ _ _ _ (sub _ _ t1 (by omega))
    have b2 : (W1.setCells g (0 + i * 8) xs).rangeAt g (0 + (i + 1) * 8) (cs.drop (i * 8)) := World.rangeAt_setCells_apart b1 g _ _ (.inr (.inr (by omega)))
    have hlt : (cs.take (i * 8)).length = i * 8 := by simp; omega
    refine ⟨by simp; omega, .inr ⟨g, cap, rfl, Nat.lt_of_lt_of_le hg f1.size, hroom, h2, World.there_setCells t1 _ _ _, ?_⟩⟩
    refine range_join a2 ?_
    rw [hlt]
    exact range_join (xs := xs) x2 (by rw [hx, show 0 + i * 8 + 8 = 0 + (i + 1) * 8 by omega]; exact b2)
theorem has_grow8 (w : World) (n old i : Nat) (e : TypeId) (z : Value) (hz : z.cells.size = 8) (cs xs : List Value) (hx : xs.length = 8) (hl : cs.length = n * 8) (hi : i < n) (hn : n + 1 ≤ maxLen) :
    Has ((((w.alloc (.cells ((cs.take (i * 8)).toArray ++ Builtin.zeroCells z.cells (n + 1 - i) ++ Builtin.zeroCells z.cells (grownCap w (n + 1) old e - (n + 1))) e)).drew.setCells w.heap.size (i * 8) xs).drew).setCells w.heap.size ((i + 1) * 8) (cs.drop (i * 8))) 8 (.slice (some ⟨w.heap.size, 0, none⟩) (n + 1) (grownCap w (n + 1) old e)) (n + 1) (cs.take (i * 8) ++ (xs ++ cs.drop (i * 8))) := by
  have hge := grownCap_ge w (n + 1) old e
  have hcm : grownCap w (n + 1) old e ≤ maxLen := grownCap_le_maxLen w (n + 1) old e hn
  have hb := heap_alloc_new w (.cells ((cs.take (i * 8)).toArray ++ Builtin.zeroCells z.cells (n + 1 - i) ++ Builtin.zeroCells z.cells (grownCap w (n + 1) old e - (n + 1))) e)
  have hlt : (cs.take (i * 8)).length = i * 8 := by simp; omega
  have t0 : (w.alloc (.cells ((cs.take (i * 8)).toArray ++ Builtin.zeroCells z.cells (n + 1 - i) ++ Builtin.zeroCells z.cells (grownCap w (n + 1) old e - (n + 1))) e)).drew.there w.heap.size 0 (grownCap w (n + 1) old e * 8) := by
    refine (World.there_drew _ _ _ _).2 (there_block hb ?_)
    simp only [Array.size_append, List.size_toArray, hlt, size_zeroCells, hz]; omega
  have r0 : (w.alloc (.cells ((cs.take (i * 8)).toArray ++ Builtin.zeroCells z.cells (n + 1 - i) ++ Builtin.zeroCells z.cells (grownCap w (n + 1) old e - (n + 1))) e)).drew.rangeAt w.heap.size 0 (cs.take (i * 8)) := by
    refine range_block (w := (w.alloc _).drew) (by exact hb) (fun j u hu => ?_)
    have hj : j < (cs.take (i * 8)).length := (List.getElem?_eq_some_iff.1 hu).1
    rw [Nat.zero_add, Array.getElem?_append_left (by simp only [Array.size_append, List.size_toArray, hlt, size_zeroCells, hz]; omega), Array.getElem?_append_left (by simpa using hj)]
    simpa using hu
  have sz0 : w.heap.size < (w.alloc (.cells ((cs.take (i * 8)).toArray ++ Builtin.zeroCells z.cells (n + 1 - i) ++ Builtin.zeroCells z.cells (grownCap w (n + 1) old e - (n + 1))) e)).drew.heap.size := by simp
  generalize (w.alloc (.cells ((cs.take (i * 8)).toArray ++ Builtin.zeroCells z.cells (n + 1 - i) ++ Builtin.zeroCells z.cells (grownCap w (n + 1) old e - (n + 1))) e)).drew = W0 at t0 r0 sz0 ⊢
  generalize w.heap.size = g at t0 r0 sz0 ⊢
  generalize grownCap w (n + 1) old e = cap at *
  have sub : ∀ {W : World} (o m : Nat), W.there g 0 (cap * 8) → o + m ≤ cap * 8 → W.there g o m := fun o m hh hm j hj => by have := hh (o + j) (by omega); simpa using this
  have t1 : (W0.setCells g (i * 8) xs).drew.there g 0 (cap * 8) := (World.there_drew _ _ _ _).2 (World.there_setCells t0 _ _ _)
  have a1 : (W0.setCells g (i * 8) xs).drew.rangeAt g 0 (cs.take (i * 8)) := World.rangeAt_setCells_apart r0 g _ _ (.inr (.inl (by omega)))
  have x1 : (W0.setCells g (i * 8) xs).drew.rangeAt g (i * 8) xs := World.rangeAt_setCells_same W0 _ _ _ (sub _ _ t0 (by omega))
  have f1 : Fr (fun _ => True) W0 ((W0.setCells g (i * 8) xs).drew.setCells g ((i + 1) * 8) (cs.drop (i * 8))) := Fr.setCells (fun _ => trivial) _ _ (Fr.setCells (fun _ => trivial) _ _ (Fr.refl _ W0)).drew
  generalize (W0.setCells g (i * 8) xs).drew = W1 at t1 a1 x1 f1 ⊢
  have a2 : (W1.setCells g ((i + 1) * 8) (cs.drop (i * 8))).rangeAt g 0 (cs.take (i * 8)) := World.rangeAt_setCells_apart a1 g _ _ (.inr (.inl (by omega)))
  have x2 : (W1.setCells g ((i + 1) * 8) (cs.drop (i * 8))).rangeAt g (i * 8) xs := World.rangeAt_setCells_apart x1 g _ _ (.inr (.inl (by omega)))
  have b2 : (W1.setCells g ((i + 1) * 8) (cs.drop (i * 8))).rangeAt g ((i + 1) * 8) (cs.drop (i * 8)) := World.rangeAt_setCells_same _ _ _ _ (sub _ _ t1 (by simp; omega))
  refine ⟨by simp; omega, .inr ⟨g, cap, rfl, Nat.lt_of_lt_of_le sz0 f1.size, hge, hcm, World.there_setCells t1 _ _ _, ?_⟩⟩
  refine range_join a2 ?_
  rw [hlt, Nat.zero_add]
  exact range_join (xs := xs) x2 (by rw [hx, show i * 8 + 8 = (i + 1) * 8 by omega]; exact b2)
end Go.Proofs.YtnckmajfmkkpgaaGreat

/- A page more among pages: slices.Insert itself. -/
namespace Go.Proofs.YtnckmajfmkkpgaaGreat
open Go.RowKit Go.Lib
set_option linter.unusedVariables false

theorem infoSl : (Tryz.prog.info? 62).map (fun i => (i.zero, i.size, i.bytes)) = some (some (.agg #[.int .i64 0, .int .i64 0, .int .i64 0, .int .i64 0, .string ⟨#[]⟩, .slice none 0 0, .slice none 0 0, .slice none 0 0]), 8, 120) := by kernel_rfl
theorem sizeSl (w : World) : (Go.sizeOf 62).run Tryz.prog w = .ok 8 w := by kernel_rfl
/-- What an insert leaves. -/
def InsO8 (w : World) (v : Value) (n : Nat) (xs : List Value) (e : Ending) (w' : World) : Prop := ∃ a c, e = .returned (.slice a n c) ∧ Has w' 8 (.slice a n c) n xs ∧ Fr (fun k => v.ownBlock = some k) w w' ∧ ((Value.slice a n c).ownBlock = v.ownBlock ∨ ∃ g, (Value.slice a n c).ownBlock = some g ∧ w.heap.size ≤ g)
end Go.Proofs.YtnckmajfmkkpgaaGreat

/- A page more among pages: slices.Insert over all its roads. -/
namespace Go.Proofs.YtnckmajfmkkpgaaGreat
open Go.RowKit Go.Lib
set_option linter.unusedVariables false

end Go.Proofs.YtnckmajfmkkpgaaGreat
