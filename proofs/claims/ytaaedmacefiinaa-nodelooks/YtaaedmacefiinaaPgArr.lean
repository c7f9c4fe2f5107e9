
/- An array that a call makes: how it is laid, and what is copied into it. -/
import Derived.Test.YtaaedmacefiinaaPgEnc2
import Derived.Test.YtaaedmacefiinaaHas
namespace Go.Proofs.Ytaaedmacefiinaa
open Go.RowKit Crcm

section
variable {P : Program}
theorem step_of {ops : Array Oper} {o : Oper} {ac : Act} {w : World} {K : Act → World → Prop} {Q : Exit → Act → World → Prop} {E : Prop} (hgd : o.guard = none) (h : Oper.wp P o ac w K Q) : if Region.wanted o (yielded ops ac.tmps) = true then Oper.wp P o ac w K Q else E := by
  have hw : Region.wanted o (yielded ops ac.tmps) = true := by simp [Region.wanted, hgd]
  rw [if_pos hw]
  exact h
theorem wp_alloc {o : Oper} {a : Act} {w : World} {K : Act → World → Prop} {Q : Exit → Act → World → Prop} (t : TypeId) (ho : o.op = .alloc t) (i : TypeInfo) (z : Value) (hi : P.info? t = some i) (hz : i.zero = some z)
    (h : K (a.put o.dst (.pointer (some ⟨w.heap.size, 0, none⟩))) (w.alloc (.cells z.cells t))) : o.wp P a w K Q := by
  have hzz : (zeroValue t).run P w = .ok z w := by simp [zeroValue, typeInfo, hi, hz]
  have hrun : (Instr.alloc t true (Value.tuple #[])).run P w = .ok (.pointer (some ⟨w.heap.size, 0, none⟩)) (w.alloc (.cells z.cells t)) := by
    simp [Instr.alloc, hzz, newVar, newRow]
  unfold Oper.wp execOp
  simp only [ho, Sem.run_bind, hrun, Result.andThen_ok]
  exact h
theorem wpList_alloc {ops : Array Oper} {rest : List Oper} {o : Oper} {a : Act} {w : World} {Q : Exit → Act → World → Prop} (hgd : o.guard = none) (t : TypeId) (ho : o.op = .alloc t) (i : TypeInfo) (z : Value) (hi : P.info? t = some i) (hz : i.zero = some z)
    (h : wpList P ops Q rest (a.put o.dst (.pointer (some ⟨w.heap.size, 0, none⟩))) (w.alloc (.cells z.cells t))) : wpList P ops Q (o :: rest) a w :=
  wpList_plain hgd fun _ hK => wp_alloc t ho i z hi hz (hK _ _ h)
theorem run_copy_arr (w : World) (ty dT sT : TypeId) (hu : P.underlying dT = some (.slice 5)) (hs : (P.info? 5).map (·.size) = some 1) (b off dLen dCap : Nat) (ad : Option Addr) (n cap : Nat) (l : List Nat) (hn : n = l.length) (hle : l.length ≤ dLen) (hr : Row w ad cap l) (ht : w.there b off l.length) :
    (Builtin.copy_ #[dT, sT] ty #[.slice (some ⟨b, off, none⟩) dLen dCap, .slice ad n cap]).run P w = .ok (goInt l.length) (w.setCells b off (cellsOf l)) := by
  subst hn
  rcases hr.at_ with h0 | ⟨b', off', rfl, _, hc⟩
  · subst h0
    exact run_copy_none w dT sT _ 5 _ _ dLen dCap 0 cap hu hs (by simp)
  · have := run_copy_cells (P := P) w dT sT ty 5 b off dLen dCap ⟨b', off', none⟩ l.length cap (cellsOf l) hu hs (by rw [cellsOf_length]; exact (Nat.min_eq_left hle).symm) (fun j v hv => by
      rw [Addr.add_lit]
      have hj : j < l.length := by have := (List.getElem?_eq_some_iff.1 hv).1; rwa [cellsOf_length] at this
      rw [cellsOf_get l j hj] at hv
      rw [hc j hj]; exact hv) (fun j hj => (ht j (by rwa [cellsOf_length] at hj)).1) (fun j hj => (ht j (by rwa [cellsOf_length] at hj)).2) (cellsOf_oneCell l)
    rwa [cellsOf_length] at this
end

def z256 : List Nat := List.replicate 256 0
theorem z256_length : z256.length = 256 := List.length_replicate
theorem z256_drop (k : Nat) : z256.drop k = List.replicate (256 - k) 0 := List.drop_replicate
theorem z256_octs : octs z256 := fun x hx => by have := (List.mem_replicate.1 hx).2; omega
theorem infoLay : (Try.prog.info? 69).map (fun i => (i.zero, i.size, i.bytes)) = some (some (.agg (cellsOf z256).toArray), 256, 256) := by kernel_rfl

/-- A slice over a whole array of so many bytes. -/
abbrev Arr (w : World) (g : Nat) (l : List Nat) : Prop := Has w 1 (.slice (some ⟨g, 0, none⟩) 256 256) 256 (cellsOf l)
theorem Arr.new (w : World) (t : TypeId) (l : List Nat) (hl : l.length = 256) : Arr (w.alloc (.cells (cellsOf l).toArray t)) w.heap.size l := by
  refine ⟨by rw [cellsOf_length, hl], .inr ⟨w.heap.size, 256, rfl, by simp, Nat.le_refl _, by unfold maxLen; omega, ?_, ?_⟩⟩
  · exact there_block (heap_alloc_new w _) (by simp [cellsOf_length, hl])
  · exact range_block (heap_alloc_new w _) (fun j v hv => by rw [Nat.zero_add]; simpa using hv)
theorem Arr.length {w : World} {g : Nat} {l : List Nat} (h : Arr w g l) : l.length = 256 := by have := h.1; rw [cellsOf_length] at this; omega
theorem Arr.there {w : World} {g : Nat} {l : List Nat} (h : Arr w g l) : w.there g 0 256 := by
  rcases h.2 with ⟨e, _⟩ | ⟨g', cap, e, _, _, _, ht, _⟩
  · cases e
  · simp only [Value.slice.injEq, Option.some.injEq, Addr.mk.injEq, and_true, true_and] at e
    obtain ⟨rfl, rfl⟩ := e
    simpa using ht
theorem Arr.lt {w : World} {g : Nat} {l : List Nat} (h : Arr w g l) : g < w.heap.size := Has.lt h rfl
theorem Arr.range {w : World} {g : Nat} {l : List Nat} (h : Arr w g l) : w.rangeAt g 0 (cellsOf l) := by
  rcases h.2 with ⟨e, _⟩ | ⟨g', cap, e, _, _, _, _, hr⟩
  · cases e
  · simp only [Value.slice.injEq, Option.some.injEq, Addr.mk.injEq, and_true, true_and] at e
    obtain ⟨rfl, rfl⟩ := e
    exact hr
theorem Arr.row {w : World} {g : Nat} {l : List Nat} (h : Arr w g l) (ho : octs l) (k : Nat) (hk : k ≤ 256) (cap : Nat) (hc : k ≤ cap) (hc2 : cap ≤ 256) : Row w (some ⟨g, 0, none⟩) cap (l.take k) := by
  have hl := h.length
  refine ⟨by simp; omega, by omega, by simp; omega, octs_take ho k, .inr ⟨g, 0, rfl, h.lt, fun i hi => ?_⟩⟩
  rw [List.length_take] at hi
  have := h.range i (.int .u8 ((l.getD i 0 : Nat) : Int)) (cellsOf_get l i (by omega))
  rw [this, List.getD_eq_getElem?_getD, List.getD_eq_getElem?_getD, List.getElem?_take, if_pos (by omega)]
theorem Arr.set {w : World} {g : Nat} {l : List Nat} (h : Arr w g l) (k : Nat) (m : List Nat) (hm : k + m.length ≤ 256) : Arr (w.setCells g k (cellsOf m)) g (l.take k ++ m ++ l.drop (k + m.length)) := by
  have hl := h.length
  have := Has.set h k (cellsOf m) (by rw [cellsOf_length, cellsOf_length, hl]; exact hm)
  rw [cellsOf_length] at this
  unfold Arr
  rw [cellsOf_append, cellsOf_append]
  simpa [cellsOf, List.map_take, List.map_drop] using this
end Go.Proofs.Ytaaedmacefiinaa
