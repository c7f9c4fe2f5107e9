
/- What an append of a text's bytes onto a slice of the call's own makes. -/
import Derived.Test.YtdlnflcjodpkiaaGreatApp
import Derived.Lib.AppendStr
namespace Go.Proofs.YtdlnflcjodpkiaaGreat
open Go.RowKit

/-- A text's bytes. -/
def bsOf (s : ByteArray) : List Nat := s.data.toList.map UInt8.toNat
theorem bsOf_length (s : ByteArray) : (bsOf s).length = s.size := by
  unfold bsOf; rw [List.length_map, Array.length_toList]; rfl
theorem bsOf_octs (s : ByteArray) : octs (bsOf s) := by
  intro x hx
  simp only [bsOf, List.mem_map] at hx
  obtain ⟨b, _, rfl⟩ := hx
  exact b.toNat_lt
theorem strOf_bsOf (s : ByteArray) : strOf (bsOf s) = s := by
  unfold strOf bsOf
  rw [List.map_map]
  have e : ((fun (x : Nat) => UInt8.ofNat x) ∘ UInt8.toNat) = id := by funext b; simp
  rw [e, List.map_id]
theorem cells_bsOf (s : ByteArray) : Lib.strCells s = cellsOf (bsOf s) := by
  unfold Lib.strCells cellsOf bsOf
  rw [List.map_map]; rfl

section
variable {P : Program} (w : World)

theorem run_append_str (t tx ty : TypeId) (i : TypeInfo) (ht : P.underlying t = some (.slice 5)) (htx : P.underlying tx = some .string) (hi : P.info? 5 = some i) (hz : i.zero = some (.int .u8 0)) (hs : i.size = 1) (hb : i.bytes = 1)
    (base : Nat) (v : Value) (l : List Nat) (hown : Mine w base v l) (s : ByteArray) (hbytes : l.length + s.size ≤ 140737488355328) (hbase : base ≤ w.heap.size) :
    ∃ v' w', (Builtin.append_ #[t, tx] ty #[v, .string s]).run P w = .ok v' w' ∧ Mine w' base v' (l ++ bsOf s) ∧ w.grownBy w' v.ownBlock ∧ (v'.ownBlock = v.ownBlock ∨ v'.ownBlock = some w.heap.size) := by
  obtain ⟨v', w', hr, h2, h3, h4⟩ := Lib.run_append_own_string (P := P) w base t tx ty 5 i ht htx hi hz hs hb v l.length (cellsOf l) hown s (by unfold maxLen; omega) hbytes hbase
  refine ⟨v', w', hr, ?_, h3, ?_⟩
  · show w'.ownsRow base 5 1 v' (l ++ bsOf s).length (cellsOf (l ++ bsOf s))
    rw [List.length_append, bsOf_length, cellsOf_append, ← cells_bsOf]; exact h2
  · have hS : Src P i.size tx (.string s) s.size (Go.byteCells s) w := by rw [hs]; exact Src.ofString w htx s
    rcases hown.2 with ⟨hv, h0⟩ | ⟨g, cap, cur, hv, hg, hh, hnc, hcm, hcs, htake⟩
    · by_cases hz0 : s.size = 0
      · have : v' = .slice none 0 0 := h4.mpr ⟨hv, hz0⟩
        exact .inl (by rw [this, hv])
      · have hgr := run_append_grow_src (P := P) w t tx ty 5 i (.int .u8 0) ht hi hz none 0 0 [] (run_firstCells_none w.drew i.size 0 0 0) (.string s) s.size (Go.byteCells s) hS (by omega) (by omega) (growslice_fits (by omega) (by rw [hb, Nat.mul_one]; omega))
        rw [hv, hgr] at hr
        simp only [Result.ok.injEq] at hr
        exact .inr (by rw [← hr.1]; rfl)
    · by_cases hroom : l.length + s.size ≤ cap
      · have hrm := run_append_room_src (P := P) w t tx ty 5 i ht hi g 0 l.length cap (.string s) s.size (Go.byteCells s) hS hroom
          (fun j hj => by
            rw [Go.byteCells_length] at hj
            rw [cell_of_row w g _ cur 5 (0, 0) hh, Array.getElem?_eq_getElem (by rw [hcs, hs]; omega)]; rfl)
          (fun j _ => frozen_of_row w g _ cur 5 hh)
        rw [hv, hrm] at hr
        simp only [Result.ok.injEq] at hr
        exact .inl (by rw [← hr.1, hv]; rfl)
      · have hgr := run_append_grow_src (P := P) w t tx ty 5 i (.int .u8 0) ht hi hz (some ⟨g, 0, none⟩) l.length cap (cellsOf l)
          (run_firstCells_some w.drew i.size l.length ⟨g, 0, none⟩ l.length cap (cellsOf l) (by rw [hs, cellsOf_length]; omega) (fun j u hu => hown.cells (g := g) (by rw [hv]; rfl) j u hu))
          (.string s) s.size (Go.byteCells s) hS (by omega) (by omega) (growslice_fits (by omega) (by rw [hb, Nat.mul_one]; exact hbytes))
        rw [hv, hgr] at hr
        simp only [Result.ok.injEq] at hr
        exact .inr (by rw [← hr.1]; rfl)

theorem wp_append_str {o : Oper} {ac : Act} {K : Act → World → Prop} {Q : Exit → Act → World → Prop} (sl x : Operand) (t tx : TypeId)
    (ho : o.op = .call { callee := .builtin .append, args := #[sl, x], argTypes := #[t, tx] }) (i : TypeInfo) (ht : P.underlying t = some (.slice 5)) (htx : P.underlying tx = some .string) (hi : P.info? 5 = some i) (hz : i.zero = some (.int .u8 0)) (hs : i.size = 1) (hb : i.bytes = 1)
    (base : Nat) (v : Value) (l : List Nat) (hse : ac.eval sl = v) (hown : Mine w base v l) (s : ByteArray) (hxe : ac.eval x = .string s) (hbytes : l.length + s.size ≤ 140737488355328) (hbase : base ≤ w.heap.size)
    (h : ∀ a' c' w', Mine w' base (.slice a' (l.length + s.size) c') (l ++ bsOf s) → w.grownBy w' v.ownBlock → ((Value.slice a' (l.length + s.size) c').ownBlock = v.ownBlock ∨ (Value.slice a' (l.length + s.size) c').ownBlock = some w.heap.size) → K (ac.put o.dst (.slice a' (l.length + s.size) c')) w') : o.wp P ac w K Q := by
  obtain ⟨v', w', hrun, h2, h3, h4⟩ := run_append_str (P := P) w t tx o.type i ht htx hi hz hs hb base v l hown s hbytes hbase
  unfold Oper.wp execOp
  simp only [ho, resolve, invoke, builtin, Sem.run_bind, Sem.run_pure, Result.andThen_ok, List.map_toArray, List.map_cons, List.map_nil, hse, hxe, hrun]
  obtain ⟨a', c', rfl⟩ := h2.slice
  rw [List.length_append, bsOf_length] at h2 h4 ⊢
  exact h a' c' w' h2 h3 h4

theorem wpList_append_str {ops : Array Oper} {rest : List Oper} {o : Oper} {ac : Act} {Q : Exit → Act → World → Prop} (hgd : o.guard = none) (sl x : Operand) (t tx : TypeId)
    (ho : o.op = .call { callee := .builtin .append, args := #[sl, x], argTypes := #[t, tx] }) (i : TypeInfo) (ht : P.underlying t = some (.slice 5)) (htx : P.underlying tx = some .string) (hi : P.info? 5 = some i) (hz : i.zero = some (.int .u8 0)) (hs : i.size = 1) (hb : i.bytes = 1)
    (base : Nat) (v : Value) (l : List Nat) (hse : ac.eval sl = v) (hown : Mine w base v l) (s : ByteArray) (hxe : ac.eval x = .string s) (hbytes : l.length + s.size ≤ 140737488355328) (hbase : base ≤ w.heap.size)
    (h : ∀ a' c' w', Mine w' base (.slice a' (l.length + s.size) c') (l ++ bsOf s) → w.grownBy w' v.ownBlock → ((Value.slice a' (l.length + s.size) c').ownBlock = v.ownBlock ∨ (Value.slice a' (l.length + s.size) c').ownBlock = some w.heap.size) → wpList P ops Q rest (ac.put o.dst (.slice a' (l.length + s.size) c')) w') : wpList P ops Q (o :: rest) ac w :=
  wpList_plain hgd fun _ hK => wp_append_str w sl x t tx ho i ht htx hi hz hs hb base v l hse hown s hxe hbytes hbase fun a' c' w' h2 h3 h4 => hK _ _ (h a' c' w' h2 h3 h4)
end
end Go.Proofs.YtdlnflcjodpkiaaGreat
