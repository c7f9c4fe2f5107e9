
/- Operations on whole sectors, as the walks meet them. -/
import Derived.Test.YtkmjmbpdmgoknaaDisk1
import Derived.Great.BuildSlice
namespace Go.Proofs.Ytkmjmbpdmgoknaa
open Go.RowKit

section
variable {P : Program}
theorem step_of {ops : Array Oper} {o : Oper} {ac : Act} {w : World} {K : Act → World → Prop} {Q : Exit → Act → World → Prop} {E : Prop} (hgd : o.guard = none) (h : Oper.wp P o ac w K Q) : if Region.wanted o (yielded ops ac.tmps) = true then Oper.wp P o ac w K Q else E := by
  have hw : Region.wanted o (yielded ops ac.tmps) = true := by simp [Region.wanted, hgd]
  rw [if_pos hw]
  exact h
theorem wp_alloc {o : Oper} {a : Act} {w : World} {K : Act → World → Prop} {Q : Exit → Act → World → Prop} (t : TypeId) (ho : o.op = .alloc t) (i : TypeInfo) (z : Value) (hi : P.info? t = some i) (hz : i.zero = some z)
    (h : K (a.put o.dst (.pointer (some ⟨w.heap.size, 0, none⟩))) (w.alloc (.cells z.cells t))) : o.wp P a w K Q := by
  have hzz : (zeroValue t).run P w = .ok z w := by simp [zeroValue, typeInfo, hi, hz]
  have hrun : (Instr.alloc t true (Value.tuple #[])).run P w = .ok (.pointer (some ⟨w.heap.size, 0, none⟩)) (w.alloc (.cells z.cells t)) := by
    simp [Instr.alloc, hzz, newVar, newRow]
  unfold Oper.wp execOp
  simp only [ho, Sem.run_bind, hrun, Result.andThen_ok]
  exact h
theorem wpList_alloc {ops : Array Oper} {rest : List Oper} {o : Oper} {a : Act} {w : World} {Q : Exit → Act → World → Prop} (hgd : o.guard = none) (t : TypeId) (ho : o.op = .alloc t) (i : TypeInfo) (z : Value) (hi : P.info? t = some i) (hz : i.zero = some z)
    (h : wpList P ops Q rest (a.put o.dst (.pointer (some ⟨w.heap.size, 0, none⟩))) (w.alloc (.cells z.cells t))) : wpList P ops Q (o :: rest) a w :=
  wpList_plain hgd fun _ hK => wp_alloc t ho i z hi hz (hK _ _ h)
theorem wpList_store_new {ops : Array Oper} {rest : List Oper} {o : Oper} {a : Act} {w : World} {Q : Exit → Act → World → Prop} (hgd : o.guard = none) (t : TypeId) (x y : Operand) (ho : o.op = .store t x y) (c c' : Array Value)
    (hx : a.eval x = .pointer (some ⟨w.heap.size, 0, none⟩)) (hy : a.eval y = .agg c') (hi : (P.info? t).map (·.size) = some c'.size) (hc : c.size = c'.size) (h1 : c'.all (·.oneCell') = true)
    (h : wpList P ops Q rest (a.put o.dst undef) (w.alloc (.cells c' t))) : wpList P ops Q (o :: rest) a (w.alloc (.cells c t)) :=
  wpList_plain hgd fun _ hK => by
    unfold Oper.wp execOp
    simp only [ho, hx, hy, Sem.run_bind, run_storeAt_new w t c c' hi hc h1, Result.andThen_ok]
    exact hK _ _ h
theorem wpList_copy_row {ops : Array Oper} {rest : List Oper} {o : Oper} {a : Act} {w : World} {Q : Exit → Act → World → Prop} (hgd : o.guard = none) (x y : Operand) (dT sT : TypeId) (ho : o.op = .call { callee := .builtin .copy, args := #[x, y], argTypes := #[dT, sT] })
    (hu : P.underlying dT = some (.slice 5)) (hs : (P.info? 5).map (·.size) = some 1) (b off dLen dCap : Nat) (ad : Option Addr) (n cap : Nat) (l : List Nat) (hx : a.eval x = .slice (some ⟨b, off, none⟩) dLen dCap) (hy : a.eval y = .slice ad n cap) (hn : n = l.length) (hle : l.length ≤ dLen) (hr : Row w ad cap l) (ht : w.there b off l.length)
    (h : wpList P ops Q rest (a.put o.dst (goInt l.length)) (w.setCells b off (cellsOf l))) : wpList P ops Q (o :: rest) a w :=
  wpList_plain hgd fun _ hK => by
    subst hn
    have hrun : (Builtin.copy_ #[dT, sT] o.type #[.slice (some ⟨b, off, none⟩) dLen dCap, .slice ad l.length cap]).run P w = .ok (goInt l.length) (w.setCells b off (cellsOf l)) := by
      rcases hr.at_ with h0 | ⟨b', off', rfl, _, hc⟩
      · subst h0
        exact run_copy_none w dT sT _ 5 _ _ dLen dCap 0 cap hu hs (by simp)
      · have := run_copy_cells (P := P) w dT sT o.type 5 b off dLen dCap ⟨b', off', none⟩ l.length cap (cellsOf l) hu hs (by rw [cellsOf_length]; exact (Nat.min_eq_left hle).symm) (fun j v hv => by
          rw [Addr.add_lit]
          have hj : j < l.length := by have := (List.getElem?_eq_some_iff.1 hv).1; rwa [cellsOf_length] at this
          rw [cellsOf_get l j hj] at hv
          rw [hc j hj]; exact hv) (fun j hj => (ht j (by rwa [cellsOf_length] at hj)).1) (fun j hj => (ht j (by rwa [cellsOf_length] at hj)).2) (cellsOf_oneCell l)
        rwa [cellsOf_length] at this
    unfold Oper.wp execOp
    simp only [ho, resolve, invoke, builtin, Sem.run_bind, Sem.run_pure, Result.andThen_ok, List.map_toArray, List.map_cons, List.map_nil, hx, hy, hrun]
    exact hK _ _ h
theorem wp_build1 {o : Oper} {a : Act} {w : World} {K : Act → World → Prop} {Q : Exit → Act → World → Prop} (t e : TypeId) (x : Operand) (ho : o.op = .buildSlice t 1 #[(0, x)]) (c : Array Value) (hx : a.eval x = .agg c) (ie : TypeInfo) (z : Value) (size : Nat)
    (hu : P.underlying t = some (.slice e)) (hie : P.info? e = some ie) (hz : ie.zero = some z) (hsz : ie.size = size) (hsmall : size ≤ 16777216) (hpos : 0 < size) (hc : c.size = size)
    (h : K (a.put o.dst (.slice (some ⟨w.heap.size, 0, none⟩) 1 1)) (w.alloc (.cells c e))) : o.wp P a w K Q := by
  subst hsz
  refine wp_buildSlice t e 1 #[(0, x)] ho c ie z hu hie hz (by omega) (by omega) ?_ h
  have := Great.fill_whole (s := ie.size) hpos [.agg c] ((Array.range (1 * ie.size)).map (z.cells[· % z.cells.size]!)) (by intro v hv; obtain rfl := List.mem_singleton.1 hv; simpa [Value.cells] using hc) (by simp)
  simpa [hx, Value.cells] using this
end

theorem wpList_build82 {ops : Array Oper} {rest : List Oper} {o : Oper} {a : Act} {w : World} {Q : Exit → Act → World → Prop} (hgd : o.guard = none) (x : Operand) (ho : o.op = .build 55 #[(0, x)]) (i : Nat) (hx : a.eval x = .int .i64 i)
    (h : wpList Try.prog ops Q rest (a.put o.dst (.agg (wc (i, zeroSec)).toArray)) w) : wpList Try.prog ops Q (o :: rest) a w :=
  wpList_plain hgd fun _ hK => by
    have rb : (Instr.build 55 #[(0, .int .i64 i)]).run Try.prog w = .ok (.agg (wc (i, zeroSec)).toArray) w := run_build w _ _ _ (by kernel_rfl)
    unfold Oper.wp execOp
    simp only [ho, List.map_toArray, List.map_cons, List.map_nil, hx, Sem.run_bind, rb, Result.andThen_ok]
    exact hK _ _ h

/-! Loads and stores of whole sectors and writes, under names that the walks do not look into. -/
def ld80 (p : Value) := Instr.loadAt 53 p
def ld82 (p : Value) := Instr.loadAt 55 p
def st80 (p v : Value) := Instr.storeAt 53 p v
def bs75 (n : Nat) (parts : Array (Nat × Value)) := Instr.buildSlice 45 n parts
theorem ld80_eq (p : Value) : Instr.loadAt 53 p = ld80 p := by unfold ld80; rfl
theorem ld82_eq (p : Value) : Instr.loadAt 55 p = ld82 p := by unfold ld82; rfl
theorem st80_eq (p v : Value) : Instr.storeAt 53 p v = st80 p v := by unfold st80; rfl
theorem bs75_eq (n : Nat) (parts : Array (Nat × Value)) : Instr.buildSlice 45 n parts = bs75 n parts := by unfold bs75; rfl
theorem size80 : (Try.prog.info? 53).map (·.size) = some 256 := by kernel_rfl
theorem size82 : (Try.prog.info? 55).map (·.size) = some 257 := by kernel_rfl
theorem ld80_at {w : World} {b o : Nat} {s : Sec} (h : w.rangeAt b o (sc s)) : (ld80 (.pointer (some ⟨b, o, none⟩))).run Try.prog w = .ok (.agg (sc s).toArray) w := by
  rw [← ld80_eq]; exact run_loadAt_mid w b o _ (sc s) _ h Try.underlying53 rfl (by rw [sc_length]; exact size80)
theorem ld82_at {w : World} {b o : Nat} {q : Nat × Sec} (h : w.rangeAt b o (wc q)) : (ld82 (.pointer (some ⟨b, o, none⟩))).run Try.prog w = .ok (.agg (wc q).toArray) w := by
  rw [← ld82_eq]; exact run_loadAt_mid w b o _ (wc q) _ h Try.underlying55 rfl (by rw [wc_length]; exact size82)
theorem st80_at {w : World} {b o : Nat} (s : Sec) (h : w.there b o 256) : (st80 (.pointer (some ⟨b, o, none⟩)) (.agg (sc s).toArray)).run Try.prog w = .ok () (w.setCells b o (sc s)) := by
  rw [← st80_eq]
  have := run_storeAt_mid (P := Try.prog) w b o 53 (sc s).toArray (by rw [List.size_toArray, sc_length]; exact h) (by rw [List.size_toArray, sc_length]; exact size80) (all_oneCell_toArray (sc_one s))
  simpa using this
theorem bs75_at (q : Nat × Sec) (w : World) : (bs75 1 #[(0, .agg (wc q).toArray)]).run Try.prog w = .ok (.slice (some ⟨w.heap.size, 0, none⟩) 1 1) (w.alloc (.cells (wc q).toArray 55)) := by
  obtain ⟨i82, hi82, hz82, hs82, hb82⟩ := info_parts info82
  rw [← bs75_eq]
  refine run_buildSlice w 45 55 1 #[(0, .agg (wc q).toArray)] (wc q).toArray i82 _ Try.underlying45 hi82 hz82 (by rw [hs82]; omega) (by rw [hs82]; omega) ?_
  have := Great.fill_whole (s := i82.size) (by rw [hs82]; omega) [.agg (wc q).toArray] ((Array.range (1 * i82.size)).map ((Value.agg (wc (0, zeroSec)).toArray).cells[· % (Value.agg (wc (0, zeroSec)).toArray).cells.size]!)) (by intro v hv; obtain rfl := List.mem_singleton.1 hv; simp [Value.cells, hs82, wc_length]) (by simp)
  simpa [Value.cells] using this
end Go.Proofs.Ytkmjmbpdmgoknaa
