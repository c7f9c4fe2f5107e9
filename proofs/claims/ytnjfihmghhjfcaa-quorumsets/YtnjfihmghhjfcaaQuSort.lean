
/- slices.Sort of numbers as the shelf knows it, in this program; a copy of numbers. -/
import Derived.Test.YtnjfihmghhjfcaaQuKit
import Derived.Shelf.Sort.AssemblyIn
import Derived.Sort.EveryDepth
import Derived.Lib.SlBytesConst
namespace Go.Proofs.Ytnjfihmghhjfcaa
open Go.Shelf Go.RowKit Go.Sort

def renS : Ren := ⟨fun k => if k = 125 then 28 else if k = 128 then 38 else if k = 129 then 39 else if k = 189 then 25 else if k = 215 then 45 else if k = 216 then 35 else if k = 257 then 27 else if k = 294 then 29 else if k = 295 then 30 else if k = 296 then 31 else if k = 297 then 32 else if k = 298 then 33 else if k = 299 then 34 else if k = 300 then 36 else if k = 301 then 37 else if k = 328 then 40 else if k = 329 then 41 else if k = 330 then 42 else if k = 331 then 43 else if k = 332 then 44 else if k = 343 then 46 else 0, fun k => if k = 0 then 0 else if k = 3 then 3 else if k = 4 then 4 else if k = 5 then 5 else if k = 9 then 9 else if k = 28 then 28 else if k = 46 then 45 else if k = 51 then 62 else if k = 53 then 64 else if k = 131 then 59 else if k = 182 then 54 else if k = 183 then 55 else if k = 218 then 65 else if k = 222 then 69 else if k = 228 then 71 else if k = 229 then 34 else 0, fun g => g⟩
theorem laysS : Lays.n189 Try.prog renS := {
  mixed := by kernel_rfl
  f125 := Try.func28.trans (congrArg some (by kernel_rfl))
  f128 := Try.func38.trans (congrArg some (by kernel_rfl))
  f129 := Try.func39.trans (congrArg some (by kernel_rfl))
  f189 := Try.func25.trans (congrArg some (by kernel_rfl))
  f215 := Try.func45.trans (congrArg some (by kernel_rfl))
  f216 := Try.func35.trans (congrArg some (by kernel_rfl))
  f257 := Try.func27.trans (congrArg some (by kernel_rfl))
  f294 := Try.func29.trans (congrArg some (by kernel_rfl))
  f295 := Try.func30.trans (congrArg some (by kernel_rfl))
  f296 := Try.func31.trans (congrArg some (by kernel_rfl))
  f297 := Try.func32.trans (congrArg some (by kernel_rfl))
  f298 := Try.func33.trans (congrArg some (by kernel_rfl))
  f299 := Try.func34.trans (congrArg some (by kernel_rfl))
  f300 := Try.func36.trans (congrArg some (by kernel_rfl))
  f301 := Try.func37.trans (congrArg some (by kernel_rfl))
  f328 := Try.func40.trans (congrArg some (by kernel_rfl))
  f329 := Try.func41.trans (congrArg some (by kernel_rfl))
  f330 := Try.func42.trans (congrArg some (by kernel_rfl))
  f331 := Try.func43.trans (congrArg some (by kernel_rfl))
  f332 := Try.func44.trans (congrArg some (by kernel_rfl))
  f343 := Try.func46.trans (congrArg some (by kernel_rfl))
  t0 := Try.underlying0
  a0 := Try.isAgg0
  z0 := Try.sizeOf0
  v0 := Try.zeroValue0
  t3 := Try.underlying3
  a3 := Try.isAgg3
  z3 := Try.sizeOf3
  v3 := Try.zeroValue3
  t4 := Try.underlying4
  a4 := Try.isAgg4
  z4 := Try.sizeOf4
  v4 := Try.zeroValue4
  t5 := Try.underlying5
  a5 := Try.isAgg5
  z5 := Try.sizeOf5
  v5 := Try.zeroValue5
  t9 := Try.underlying9
  a9 := Try.isAgg9
  z9 := Try.sizeOf9
  v9 := Try.zeroValue9
  t28 := Try.underlying28
  a28 := Try.isAgg28
  z28 := Try.sizeOf28
  v28 := Try.zeroValue28
  t46 := Try.underlying45
  a46 := Try.isAgg45
  z46 := Try.sizeOf45
  v46 := Try.zeroValue45
  t51 := Try.underlying62
  a51 := Try.isAgg62
  z51 := Try.sizeOf62
  v51 := Try.zeroValue62
  t53 := Try.underlying64
  a53 := Try.isAgg64
  z53 := Try.sizeOf64
  v53 := Try.zeroValue64
  t131 := Try.underlying59
  a131 := Try.isAgg59
  z131 := Try.sizeOf59
  v131 := Try.zeroValue59
  t182 := Try.underlying54
  a182 := Try.isAgg54
  z182 := Try.sizeOf54
  v182 := Try.zeroValue54
  t183 := Try.underlying55
  a183 := Try.isAgg55
  z183 := Try.sizeOf55
  v183 := Try.zeroValue55
  t218 := Try.underlying65
  a218 := Try.isAgg65
  z218 := Try.sizeOf65
  v218 := Try.zeroValue65
  t222 := Try.underlying69
  a222 := Try.isAgg69
  z222 := Try.sizeOf69
  v222 := Try.zeroValue69
  t228 := Try.underlying71
  a228 := Try.isAgg71
  z228 := Try.sizeOf71
  v228 := Try.zeroValue71
  t229 := Try.underlying34
  a229 := Try.isAgg34
  z229 := Try.sizeOf34
  v229 := Try.zeroValue34 }

theorem grownS {w : World} {g n : Nat} {os : Array Obj} (d : Array Int) : w.grownBy (grow (putRow (Value.int .i64) (Sort.ahead w n) g 0 d) os) (some g) := by
  refine ⟨rfl, rfl, rfl, by simp [grow, putRow, mapBlock, Sort.ahead], fun k hk hne => ?_⟩
  rw [heap_grow_old _ _ (by simpa using hk)]
  have : g ≠ k := fun e => hne (by rw [e])
  simp [putRow, mapBlock, Sort.ahead, Array.getElem?_modify, this]
def sortI (l : List Int) : List Int := l.mergeSort fun x y => decide (x ≤ y)
theorem sort_any {w : World} {g cap : Nat} {l : List Int} (hg : g < w.heap.size) (ht : w.there g 0 l.length) (hr : w.rangeAt g 0 (l.map zI)) (hs : l.length ≤ 1099511627776) :
    Calls Try.prog 25 #[.slice (some ⟨g, 0, none⟩) l.length cap] w fun e w' => e = .returned (.tuple #[]) ∧ (∀ (i : Nat) x, (sortI l)[i]? = some x → w'.cell? ⟨g, i, none⟩ = some (.int .i64 x)) ∧ Fr (fun k => k = g) w w' := by
  have hH : Holds (Value.int .i64) w g 0 l.toArray := fun j hj => by
    have hj' : j < l.length := by simpa using hj
    refine ⟨?_, ?_⟩
    · have := hr j (zI l[j]) (by simp [hj'])
      rw [this, getElem!_pos l.toArray j hj]; simp [zI]
    · have := (ht j hj').2
      exact this
  have main : Calls Try.prog (renS.f 189) #[.slice (some ⟨g, 0, none⟩) l.length cap] w fun e w' => e = .returned (.tuple #[]) ∧ ∃ n os, w' = grow (putRow (Value.int .i64) (Sort.ahead w n) g 0 (l.mergeSort fun x y => decide (x ≤ y)).toArray) os :=
    calls_of_every_depth fun D => AnyS.slices_Sort_int_in laysS D g 0 cap l w hH hg (by omega)
  refine (show Calls Try.prog 25 _ _ _ from main).mono ?_
  rintro e w' ⟨rfl, n, os, rfl⟩
  refine ⟨rfl, fun i x hx => ?_, (Fr.refl _ w).grown (grownS _) (fun k e _ => by simp only [Option.some.injEq] at e; exact e.symm)⟩
  have hH2 : Holds (Value.int .i64) (grow (putRow (Value.int .i64) (Sort.ahead w n) g 0 (l.mergeSort fun x y => decide (x ≤ y)).toArray) os) g 0 (l.mergeSort fun x y => decide (x ≤ y)).toArray :=
    holds_grow _ _ _ _ _ _ (by simpa [putRow, mapBlock, Sort.ahead] using hg) (holds_putRow _ _ _ _ l.toArray _ (holds_ahead _ _ _ _ _ _ hH) (by simp))
  obtain ⟨hi, hx'⟩ := List.getElem?_eq_some_iff.1 hx
  have := (hH2 i (by simpa [sortI] using hi)).1
  rw [Nat.zero_add] at this
  rw [this, getElem!_pos _ _ (by simpa [sortI] using hi)]
  simp only [List.getElem_toArray]
  exact congrArg (fun z => some (Value.int .i64 z)) hx'
theorem has_emptyI (w : World) (s : Nat) (t : TypeId) : Has (w.alloc (.cells #[] t)) s (.slice (some ⟨w.heap.size, 0, none⟩) 0 0) 0 [] :=
  ⟨by simp, .inr ⟨_, _, rfl, by simp, Nat.le_refl _, by decide, (fun j hj => by omega), (fun j v hv => by cases hv)⟩⟩
theorem Is.from {w : World} {a : Option Addr} {cap : Nat} {xs : List Int} (h : Is w a cap xs) : From w a (xs.map zI) := by
  rcases h.at_ with h0 | ⟨b, off, rfl, hb, hc⟩
  · exact .inl (by rw [h0]; rfl)
  · refine .inr ⟨b, off, rfl, fun j v hv => ?_⟩
    rw [List.getElem?_map, Option.map_eq_some_iff] at hv
    obtain ⟨x, hx, rfl⟩ := hv
    exact hc j x hx
theorem zI_one (l : List Int) : ∀ u ∈ l.map zI, u.oneCell' = true := by
  intro u hu
  obtain ⟨x, _, rfl⟩ := List.mem_map.1 hu
  rfl
theorem infoI2 : ∃ i, Try.prog.info? 3 = some i ∧ i.zero = some (.int .i64 0) ∧ i.size = 1 ∧ i.bytes = 8 := by
  have := infoI
  cases hh : Try.prog.info? 3 with
  | none => rw [hh] at this; cases this
  | some i =>
    rw [hh] at this
    simp only [Option.map_some, Option.some.injEq, Prod.mk.injEq] at this
    exact ⟨i, rfl, this.1, this.2.1, this.2.2⟩
/-- Numbers that a call copied. -/
def InOut (w : World) (xs : List Int) (e : Ending) (w' : World) : Prop := ∃ a c, e = .returned (.slice a xs.length c) ∧ Has w' 1 (.slice a xs.length c) xs.length (xs.map zI) ∧ Fr (fun _ => False) w w' ∧ ∀ k, (Value.slice a xs.length c).ownBlock = some k → w.heap.size ≤ k
set_option maxRecDepth 100000 in
set_option maxHeartbeats 1000000 in
theorem cloneI (a : Option Addr) (n c : Nat) (xs : List Int) (w : World) (h : Is w a c xs) (hn : n = xs.length) (hs : xs.length ≤ 1099511627776) : Calls Try.prog 24 #[.slice a n c] w fun e w' => InOut w xs e w' := by
  obtain ⟨i0, hi, hz0, hz1, hz2⟩ := infoI2
  have hq := fun W => Lib.run_eql_slice_nil (P := Try.prog) W 28 3 a n c 0 0 Try.underlying28
  cases a with
  | none =>
    have hl : xs = [] := by
      rcases h.at_ with h | ⟨_, _, h, _⟩
      · exact h
      · cases h
    subst hl
    obtain rfl : n = 0 := by simpa using hn
    clear hn hs h
    go_enter Try.func24, Try.ntmps24
    go_wp2
    go_ret
    exact ⟨none, 0, rfl, Has.nil _ _, Fr.refl _ _, fun k hk => by cases hk⟩
  | some x =>
    have HE : Hid (Has (w.alloc (.cells #[] 3)) 1 (.slice (some ⟨w.heap.size, 0, none⟩) 0 0) 0 []) := has_emptyI w 1 _
    have f1 : Fr (fun _ => False) w (w.alloc (.cells #[] 3)) := (Fr.refl _ _).alloc _
    have hr1 := (h.same f1).from
    have HN : Hid (n = xs.length) := hn
    have hs' : n ≤ 1099511627776 := by omega
    clear hn hs h
    go_enter Try.func24, Try.ntmps24
    go_wp2_with (at_builtin; refine wpList_append_has _ rfl _ _ 28 28 3 3 rfl i0 _ 1 8 Try.underlying28 Try.underlying28 hi hz0 hz1 hz2 rfl (by omega) (.slice (some ⟨w.heap.size, 0, none⟩) 0 0) 0 [] rfl HE.out (some x) n c (xs.map zI) rfl (by rw [List.length_map, HN.out, Nat.mul_one]) hr1 (zI_one xs) (by unfold maxLen; omega) (by omega) ?_; intro am cm w2 hown hfr hat)
    go_ret
    rw [Nat.zero_add, List.nil_append] at hown
    rw [Nat.zero_add] at hat
    rw [HN.out] at hown hat
    have F : Fr (fun _ => False) w w2 := f1.trans hfr (by
      rintro i hi ⟨e, _⟩
      simp [Value.ownBlock] at e
      omega)
    have hnew : ∀ k, (Value.slice am xs.length cm).ownBlock = some k → w.heap.size ≤ k := fun k hk => by
      rw [hk] at hat
      rcases hat with e | e <;> simp [Value.ownBlock] at e <;> omega
    exact ⟨am, cm, by rw [← HN.out]; rfl, hown, F, hnew⟩
end Go.Proofs.Ytnjfihmghhjfcaa
