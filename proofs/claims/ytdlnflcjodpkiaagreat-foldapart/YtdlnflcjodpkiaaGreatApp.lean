
/- What an append of bytes onto a slice of the call's own makes, wherever the bytes come from. -/
import Derived.Test.YtdlnflcjodpkiaaGreatBase
import Derived.Deep.AppendSrc
import Derived.Laws.IdiomStrings
namespace Go.Proofs.YtdlnflcjodpkiaaGreat
open Go.RowKit

section
variable {P : Program} (w : World)

/-- The second argument's own type does not matter, if it is a slice's. -/
theorem append_type (t tx ty e e' : TypeId) (i : TypeInfo) (ht : P.underlying t = some (.slice e)) (htx : P.underlying tx = some (.slice e')) (hi : P.info? e = some i) (b : Option Addr) (n c : Nat) (x : Value) :
    (Builtin.append_ #[t, tx] ty #[.slice b n c, x]).run P w = (Builtin.append_ #[t, t] ty #[.slice b n c, x]).run P w := by
  simp [Builtin.append_, run_underlying ht, run_underlying htx, sizeOf, typeInfo, hi]
theorem Mine.slice {w : World} {base : Nat} {v : Value} {l : List Nat} (h : Mine w base v l) : ∃ a c, v = .slice a l.length c := by
  rcases h.2 with ⟨rfl, h0⟩ | ⟨g, cap, cur, rfl, _⟩
  · exact ⟨none, 0, by rw [h0]⟩
  · exact ⟨_, _, rfl⟩

theorem Row.news {w : World} {b off : Nat} {l : List Nat} (hc : ∀ i, i < l.length → w.cell? ⟨b, off + i, none⟩ = some (.int .u8 ((l.getD i 0 : Nat) : Int))) :
    ∀ j u, (cellsOf l)[j]? = some u → w.cell? ((⟨b, off, none⟩ : Addr).add j) = some u := by
  intro j u hu
  have hj : j < l.length := by
    rcases Nat.lt_or_ge j l.length with h | h
    · exact h
    · rw [List.getElem?_eq_none (by simpa [cellsOf] using h)] at hu; cases hu
  rw [cellsOf_get l j hj] at hu
  rw [Addr.add_lit, hc j hj]; exact hu

theorem run_append_row (t tx ty e' : TypeId) (i : TypeInfo) (ht : P.underlying t = some (.slice 5)) (htx : P.underlying tx = some (.slice e')) (hi : P.info? 5 = some i) (hz : i.zero = some (.int .u8 0)) (hs : i.size = 1) (hb : i.bytes = 1)
    (base : Nat) (v : Value) (l : List Nat) (hown : Mine w base v l) (a : Option Addr) (cap : Nat) (news : List Nat) (hr : Row w a cap news) (hbytes : l.length + news.length ≤ 140737488355328) (hbase : base ≤ w.heap.size) :
    ∃ v' w', (Builtin.append_ #[t, tx] ty #[v, .slice a news.length cap]).run P w = .ok v' w' ∧ Mine w' base v' (l ++ news) ∧ w.grownBy w' v.ownBlock ∧ (v'.ownBlock = v.ownBlock ∨ v'.ownBlock = some w.heap.size) := by
  have hty : (Builtin.append_ #[t, tx] ty #[v, .slice a news.length cap]).run P w = (Builtin.append_ #[t, t] ty #[v, .slice a news.length cap]).run P w := by
    obtain ⟨a', c', rfl⟩ := hown.slice
    exact append_type w t tx ty 5 e' i ht htx hi a' _ c' _
  rw [hty]
  rcases hr.at_ with h0 | ⟨b, off, rfl, _, hc⟩
  · subst h0
    refine ⟨v, w, ?_, by simpa using hown, ⟨rfl, rfl, rfl, Nat.le_refl _, fun _ _ _ => rfl⟩, .inl rfl⟩
    rcases hown.2 with ⟨rfl, hn⟩ | ⟨g, c, cur, rfl, _, _, hnc, _⟩
    · simp [Builtin.append_, run_underlying ht, sizeOf, typeInfo, hi, Builtin.lenOf, Builtin.firstCells, loadCells, loadCellsFrom]
      cases a <;> simp
    · simp [Builtin.append_, run_underlying ht, sizeOf, typeInfo, hi, Builtin.lenOf, Builtin.firstCells, loadCells, loadCellsFrom, hnc]
      cases a <;> simp [storeCells]
  · obtain ⟨v', w', h1, h2, h3, _, h5⟩ := run_append_own_at (P := P) w base t ty 5 i (.int .u8 0) 1 1 ht hi hz hs hb rfl (by omega) v l.length (cellsOf l) hown ⟨b, off, none⟩ news.length cap (cellsOf news) (by simp [cellsOf])
      (Row.news hc) (cellsOf_oneCell news) (by unfold maxLen; omega) (by omega) hbase
    refine ⟨v', w', h1, ?_, h3, h5⟩
    show w'.ownsRow base 5 1 v' (l ++ news).length (cellsOf (l ++ news))
    rw [cellsOf_append, List.length_append]; exact h2

theorem wp_append_row {o : Oper} {ac : Act} {K : Act → World → Prop} {Q : Exit → Act → World → Prop} (s x : Operand) (t tx e' : TypeId)
    (ho : o.op = .call { callee := .builtin .append, args := #[s, x], argTypes := #[t, tx] }) (i : TypeInfo) (ht : P.underlying t = some (.slice 5)) (htx : P.underlying tx = some (.slice e')) (hi : P.info? 5 = some i) (hz : i.zero = some (.int .u8 0)) (hs : i.size = 1) (hb : i.bytes = 1)
    (base : Nat) (v : Value) (l : List Nat) (hse : ac.eval s = v) (hown : Mine w base v l) (a : Option Addr) (n cap : Nat) (news : List Nat) (hn : n = news.length) (hxe : ac.eval x = .slice a n cap) (hr : Row w a cap news) (hbytes : l.length + news.length ≤ 140737488355328) (hbase : base ≤ w.heap.size)
    (h : ∀ a' c' w', Mine w' base (.slice a' (l.length + news.length) c') (l ++ news) → w.grownBy w' v.ownBlock → ((Value.slice a' (l.length + news.length) c').ownBlock = v.ownBlock ∨ (Value.slice a' (l.length + news.length) c').ownBlock = some w.heap.size) → K (ac.put o.dst (.slice a' (l.length + news.length) c')) w') : o.wp P ac w K Q := by
  subst hn
  obtain ⟨v', w', hrun, h2, h3, h4⟩ := run_append_row (P := P) w t tx o.type e' i ht htx hi hz hs hb base v l hown a cap news hr hbytes hbase
  unfold Oper.wp execOp
  simp only [ho, resolve, invoke, builtin, Sem.run_bind, Sem.run_pure, Result.andThen_ok, List.map_toArray, List.map_cons, List.map_nil, hse, hxe, hrun]
  obtain ⟨a', c', rfl⟩ := h2.slice
  rw [List.length_append] at h2 h4 ⊢
  exact h a' c' w' h2 h3 h4

theorem wpList_append_row {ops : Array Oper} {rest : List Oper} {o : Oper} {ac : Act} {Q : Exit → Act → World → Prop} (hgd : o.guard = none) (s x : Operand) (t tx e' : TypeId)
    (ho : o.op = .call { callee := .builtin .append, args := #[s, x], argTypes := #[t, tx] }) (i : TypeInfo) (ht : P.underlying t = some (.slice 5)) (htx : P.underlying tx = some (.slice e')) (hi : P.info? 5 = some i) (hz : i.zero = some (.int .u8 0)) (hs : i.size = 1) (hb : i.bytes = 1)
    (base : Nat) (v : Value) (l : List Nat) (hse : ac.eval s = v) (hown : Mine w base v l) (a : Option Addr) (n cap : Nat) (news : List Nat) (hn : n = news.length) (hxe : ac.eval x = .slice a n cap) (hr : Row w a cap news) (hbytes : l.length + news.length ≤ 140737488355328) (hbase : base ≤ w.heap.size)
    (h : ∀ a' c' w', Mine w' base (.slice a' (l.length + news.length) c') (l ++ news) → w.grownBy w' v.ownBlock → ((Value.slice a' (l.length + news.length) c').ownBlock = v.ownBlock ∨ (Value.slice a' (l.length + news.length) c').ownBlock = some w.heap.size) → wpList P ops Q rest (ac.put o.dst (.slice a' (l.length + news.length) c')) w') : wpList P ops Q (o :: rest) ac w :=
  wpList_plain hgd fun _ hK => wp_append_row w s x t tx e' ho i ht htx hi hz hs hb base v l hse hown a n cap news hn hxe hr hbytes hbase fun a' c' w' h2 h3 h4 => hK _ _ (h a' c' w' h2 h3 h4)

end

/-- What is owned is a row of bytes, and its value a slice. -/
theorem Mine.row {w : World} {base : Nat} {v : Value} {l : List Nat} (h : Mine w base v l) (hl : octs l) (hs : l.length ≤ 140737488355328) : ∃ a c, v = .slice a l.length c ∧ Row w a c l := by
  rcases h.2 with ⟨rfl, h0⟩ | ⟨g, cap, cur, rfl, hg, hh, hnc, hcm, hcs, htake⟩
  · have : l = [] := List.eq_nil_of_length_eq_zero h0
    subst this
    exact ⟨none, 0, rfl, Nat.le_refl _, by omega, hs, hl, .inl rfl⟩
  · refine ⟨_, cap, rfl, hnc, by unfold maxLen at hcm; omega, hs, hl, .inr ⟨g, 0, rfl, lt_of_block hh, fun i hi => ?_⟩⟩
    have := h.cells (g := g) rfl i _ (cellsOf_get l i hi)
    rw [Addr.add_lit] at this
    exact this

/-- Bytes as a string. -/
def strOf (l : List Nat) : ByteArray := ⟨(l.map fun (x : Nat) => UInt8.ofNat x).toArray⟩
theorem strOf_toList (l : List Nat) : (strOf l).toList = l.map fun (x : Nat) => UInt8.ofNat x := by
  rw [ByteArray.toList_eq]; simp [strOf]
theorem ofNat_inj {l m : List Nat} (hl : octs l) (hm : octs m) (h : (l.map fun (x : Nat) => UInt8.ofNat x) = m.map fun (x : Nat) => UInt8.ofNat x) : l = m := by
  induction l generalizing m with
  | nil => cases m with
    | nil => rfl
    | cons => simp at h
  | cons x l ih => cases m with
    | nil => simp at h
    | cons y m =>
      simp only [List.map_cons, List.cons.injEq] at h
      have hx := hl x (by simp)
      have hy := hm y (by simp)
      have e : x = y := by
        have := congrArg UInt8.toNat h.1
        simpa [Nat.mod_eq_of_lt hx, Nat.mod_eq_of_lt hy] using this
      rw [e, ih (fun z hz => hl z (by simp [hz])) (fun z hz => hm z (by simp [hz])) h.2]
theorem str_eq {l m : List Nat} (hl : octs l) (hm : octs m) : ((strOf l).toList == (strOf m).toList) = decide (l = m) := by
  rw [strOf_toList, strOf_toList, Bool.eq_iff_iff]
  simp only [beq_iff_eq, decide_eq_true_eq]
  exact ⟨ofNat_inj hl hm, fun h => by rw [h]⟩
theorem run_str {P : Program} {w : World} {src dst e : TypeId} {a : Option Addr} {cap : Nat} {l : List Nat} (hs : P.underlying src = some (.slice e)) (he : P.underlying e = some (.int .u8)) (hd : P.underlying dst = some .string)
    (hr : Row w a cap l) (n : Nat) (hn : n = l.length) : (convert src dst (.slice a n cap)).run P w = .ok (.string (strOf l)) w := by
  subst hn
  rcases hr.at_ with h0 | ⟨b, off, rfl, _, hc⟩
  · subst h0
    rw [run_convert_bytes_string w src dst e a _ cap hs he hd]
    cases a with
    | none => simp [Conv.bytesToString, strOf]; rfl
    | some x => exact run_bytesToString w x 0 cap [] (by simp [loadCells, loadCellsFrom])
  · have hlen : (l.map fun (x : Nat) => UInt8.ofNat x).length = l.length := by simp
    have := run_convert_bytes_back (P := P) w src dst e ⟨b, off, none⟩ cap (l.map fun (x : Nat) => UInt8.ofNat x) hs he hd (fun j hj => by
      rw [hlen] at hj
      rw [Addr.add_lit, hc j hj]
      have hb := hr.byte _ (List.getElem_mem hj)
      simp [List.getD_eq_getElem?_getD, hj, Nat.mod_eq_of_lt hb])
    rw [hlen] at this
    exact this
end Go.Proofs.YtdlnflcjodpkiaaGreat
