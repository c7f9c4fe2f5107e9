
/- Base, App, AppStr, KMath, KText, KRef, KStrs, PgNode. -/
import Derived.Test.YtnoadmkkkeianaaGreatProg
import Derived.WalkKit
import Derived.WalkSpells
import Derived.WalkLawsBesides
import Derived.Laws.BitsAllLaws
import Derived.Laws.AppendOwnNone
import Derived.Deep.RegionHeld3
import Derived.Deep.AppendLies
import Derived.Deep.RegionLaw
import Derived.Deep.DrawnRows
import Derived.OneCell
import Derived.Outline
import Derived.Deep.AppendSrc
import Derived.Laws.IdiomStrings
import Derived.Lib.AppendStr
import Derived.Deep.QuietTactic
import Derived.BigQuiet
import Derived.Lib.Strings
/- Frames (what a call leaves as it was), rows of bytes in memory, and what an append makes of them. -/
namespace Go.Proofs.YtnoadmkkkeianaaGreat
open Go.RowKit

/-- Outside of S the blocks that were there are as they were. -/
structure Fr (S : Nat → Prop) (w w' : World) : Prop where
  os : w'.os = w.os
  tape : w'.tape = w.tape
  output : w'.output = w.output
  size : w.heap.size ≤ w'.heap.size
  block : ∀ k, k < w.heap.size → ¬ S k → w'.heap[k]? = w.heap[k]?

theorem Fr.refl (S : Nat → Prop) (w : World) : Fr S w w := ⟨rfl, rfl, rfl, Nat.le_refl _, fun _ _ _ => rfl⟩
theorem Fr.trans {S T : Nat → Prop} {a b c : World} (h : Fr S a b) (k : Fr T b c) (hT : ∀ i, i < a.heap.size → T i → S i) : Fr S a c :=
  ⟨k.os.trans h.os, k.tape.trans h.tape, k.output.trans h.output, Nat.le_trans h.size k.size, fun i hi hs =>
    (k.block i (Nat.lt_of_lt_of_le hi h.size) (fun t => hs (hT i hi t))).trans (h.block i hi hs)⟩
theorem Fr.drew {S : Nat → Prop} {a w : World} (h : Fr S a w) : Fr S a w.drew := ⟨h.os, h.tape, h.output, h.size, h.block⟩
theorem Fr.drewN {S : Nat → Prop} {a w : World} (h : Fr S a w) (n : Nat) : Fr S a (w.drewN n) := ⟨h.os, h.tape, h.output, h.size, h.block⟩
theorem Fr.alloc {S : Nat → Prop} {a w : World} (h : Fr S a w) (o : Obj) : Fr S a (w.alloc o) :=
  h.trans (T := fun _ => False) ⟨rfl, rfl, rfl, by simp, fun k hk _ => Below.heap_alloc _ _ _ hk⟩ (fun _ _ f => f.elim)
theorem Fr.setCell {S : Nat → Prop} {a w : World} (h : Fr S a w) {p : Addr} (hp : p.block < a.heap.size → S p.block) (u : Value) : Fr S a (w.setCell p u) :=
  h.trans (T := fun k => k = p.block) ⟨rfl, rfl, rfl, by simp [World.setCell], fun k _ hk => Below.heap_setCell _ _ _ _ hk⟩ (fun i hi e => by rw [e]; exact hp (e ▸ hi))
theorem Fr.grown {S : Nat → Prop} {a w w' : World} {row : Option Nat} (h : Fr S a w) (hg : w.grownBy w' row) (hr : ∀ k, row = some k → k < a.heap.size → S k) : Fr S a w' :=
  h.trans (T := fun k => row = some k) ⟨hg.os, hg.tape, hg.output, hg.size, fun k hk hn => hg.block k hk (fun e => hn e.symm)⟩ (fun i hi e => hr i e hi)
theorem Fr.of_below {S : Nat → Prop} {w w' : World} {B : Nat} (h : Below B w w') (hS : ∀ k, k < w.heap.size → ¬ S k → k < B) : Fr S w w' :=
  ⟨h.os, h.tape, h.output, h.size, fun k hk hn => h.block k (hS k hk hn)⟩
theorem Fr.below {S : Nat → Prop} {w w' : World} {B : Nat} (h : Fr S w w') (hB : B ≤ w.heap.size) (hS : ∀ k, S k → B ≤ k) : Below B w w' :=
  ⟨h.os, h.tape, h.output, h.size, fun k hk => h.block k (by omega) (fun s => by have := hS k s; omega)⟩
theorem Fr.mono {S T : Nat → Prop} {w w' : World} (h : Fr S w w') (hT : ∀ i, i < w.heap.size → S i → T i) : Fr T w w' :=
  ⟨h.os, h.tape, h.output, h.size, fun k hk hn => h.block k hk (fun s => hn (hT k hk s))⟩
theorem Fr.cell {S : Nat → Prop} {w w' : World} (h : Fr S w w') {p : Addr} (hp : p.block < w.heap.size) (hn : ¬ S p.block) : w'.cell? p = w.cell? p := World.cell?_of_block (h.block p.block hp hn)

/-- Bytes as cells. -/
def cellsOf (l : List Nat) : List Value := l.map fun (x : Nat) => Value.int .u8 (x : Int)
theorem cellsOf_length (l : List Nat) : (cellsOf l).length = l.length := by simp [cellsOf]
theorem cellsOf_append (l m : List Nat) : cellsOf (l ++ m) = cellsOf l ++ cellsOf m := by simp [cellsOf]
theorem cellsOf_one (x : Nat) : cellsOf [x] = [.int .u8 (x : Int)] := rfl
theorem cellsOf_get (l : List Nat) (i : Nat) (h : i < l.length) : (cellsOf l)[i]? = some (.int .u8 ((l.getD i 0 : Nat) : Int)) := by
  simp [cellsOf, List.getD_eq_getElem?_getD, h]
theorem cellsOf_oneCell (l : List Nat) : ∀ u ∈ cellsOf l, u.oneCell' = true := by
  intro u hu
  simp only [cellsOf, List.mem_map] at hu
  obtain ⟨x, _, rfl⟩ := hu
  rfl

/-- v is a slice of bytes of the call's own that holds l; its row is no block below base. -/
abbrev Mine (w : World) (base : Nat) (v : Value) (l : List Nat) : Prop := w.ownsRow base 5 1 v l.length (cellsOf l)

theorem Mine.fr {S : Nat → Prop} {w w' : World} {base : Nat} {v : Value} {l : List Nat} (h : Mine w base v l) (f : Fr S w w') (hn : ∀ k, v.ownBlock = some k → ¬ S k) : Mine w' base v l := by
  obtain ⟨h1, h2⟩ := h
  refine ⟨h1, ?_⟩
  rcases h2 with h2 | ⟨g, cap, cur, hv, hg, hh, r⟩
  · exact .inl h2
  · refine .inr ⟨g, cap, cur, hv, hg, ?_, r⟩
    rw [f.block g (lt_of_block hh) (hn g (by rw [hv]; rfl))]
    exact hh

/-- Bytes are below 256. -/
def octs (l : List Nat) : Prop := ∀ x ∈ l, x < 256
/-- A slice of bytes as a walk sees it: its elements l lie in memory. -/
structure Row (w : World) (a : Option Addr) (cap : Nat) (l : List Nat) : Prop where
  le : l.length ≤ cap
  max : cap ≤ 9223372036854775807
  small : l.length ≤ 140737488355328
  byte : octs l
  at_ : l = [] ∨ ∃ b off, a = some ⟨b, off, none⟩ ∧ b < w.heap.size ∧ ∀ i, i < l.length → w.cell? ⟨b, off + i, none⟩ = some (.int .u8 ((l.getD i 0 : Nat) : Int))

theorem take_snoc (l : List Nat) (k : Nat) (h : k < l.length) : l.take (k + 1) = l.take k ++ [l.getD k 0] := by
  rw [List.take_succ_eq_append_getElem h, List.getD_eq_getElem?_getD, List.getElem?_eq_getElem h]; rfl
theorem octs_take {l : List Nat} (h : octs l) (k : Nat) : octs (l.take k) := fun x hx => h x (List.mem_of_mem_take hx)
theorem octs_getD {l : List Nat} (h : octs l) (k : Nat) : l.getD k 0 < 256 := by
  rw [List.getD_eq_getElem?_getD]
  rcases Nat.lt_or_ge k l.length with hk | hk
  · rw [List.getElem?_eq_getElem hk]; exact h _ (List.getElem_mem hk)
  · rw [List.getElem?_eq_none hk]; simp

theorem ret_int {k : IntKind} {a b : Int} (h : a = b) : Ending.returned (.int k a) = .returned (.int k b) := by rw [h]
theorem val_int {k : IntKind} {a b : Int} (h : a = b) : Value.int k a = .int k b := by rw [h]


theorem info8 : (Tryz.prog.info? 5).map (fun i => (i.zero, i.size, i.bytes)) = some (some (.int .u8 0), 1, 1) := by kernel_rfl

/-- The number that bytes are, the lowest first. -/
def val : List Nat → Nat
  | [] => 0
  | x :: r => x + 256 * val r
theorem val_snoc (l : List Nat) (x : Nat) : val (l ++ [x]) = val l + x * 256 ^ l.length := by
  induction l with
  | nil => simp [val]
  | cons y l ih =>
    simp only [List.cons_append, val, ih, List.length_cons, Nat.pow_succ]
    rw [Nat.mul_add, Nat.mul_comm (256 ^ l.length) 256, ← Nat.mul_assoc x, Nat.mul_comm x 256, Nat.mul_assoc 256 x, Nat.add_assoc]
theorem val_lt {l : List Nat} (h : octs l) : val l < 256 ^ l.length := by
  induction l with
  | nil => simp [val]
  | cons y l ih =>
    have h1 := h y (by simp)
    have h2 := ih (fun x hx => h x (by simp [hx]))
    simp only [val, List.length_cons, Nat.pow_succ]
    omega
theorem pow_le8 {k : Nat} (h : k ≤ 8) : 256 ^ k ≤ 18446744073709551616 := by
  have := Nat.pow_le_pow_right (n := 256) (by omega) h
  simpa using this

end Go.Proofs.YtnoadmkkkeianaaGreat

/- What an append of bytes onto a slice of the call's own makes, wherever the bytes come from. -/
namespace Go.Proofs.YtnoadmkkkeianaaGreat
open Go.RowKit

section
variable {P : Program} (w : World)

/-- The second argument's own type does not matter, if it is a slice's. -/
theorem append_type (t tx ty e e' : TypeId) (i : TypeInfo) (ht : P.underlying t = some (.slice e)) (htx : P.underlying tx = some (.slice e')) (hi : P.info? e = some i) (b : Option Addr) (n c : Nat) (x : Value) :
    (Builtin.append_ #[t, tx] ty #[.slice b n c, x]).run P w = (Builtin.append_ #[t, t] ty #[.slice b n c, x]).run P w := by
  simp [Builtin.append_, run_underlying ht, run_underlying htx, sizeOf, typeInfo, hi]
theorem Mine.slice {w : World} {base : Nat} {v : Value} {l : List Nat} (h : Mine w base v l) : ∃ a c, v = .slice a l.length c := by
  rcases h.2 with ⟨rfl, h0⟩ | ⟨g, cap, cur, rfl, _⟩
  · exact ⟨none, 0, by rw [h0]⟩
  · exact ⟨_, _, rfl⟩

theorem Row.news {w : World} {b off : Nat} {l : List Nat} (hc : ∀ i, i < l.length → w.cell? ⟨b, off + i, none⟩ = some (.int .u8 ((l.getD i 0 : Nat) : Int))) :
    ∀ j u, (cellsOf l)[j]? = some u → w.cell? ((⟨b, off, none⟩ : Addr).add j) = some u := by
  intro j u hu
  have hj : j < l.length := by
    rcases Nat.lt_or_ge j l.length with h | h
    · exact h
    · rw [List.getElem?_eq_none (by simpa [cellsOf] using h)] at hu; cases hu
  rw [cellsOf_get l j hj] at hu
  rw [Addr.add_lit, hc j hj]; exact hu

theorem run_append_row (t tx ty e' : TypeId) (i : TypeInfo) (ht : P.underlying t = some (.slice 5)) (htx : P.underlying tx = some (.slice e')) (hi : P.info? 5 = some i) (hz : i.zero = some (.int .u8 0)) (hs : i.size = 1) (hb : i.bytes = 1)
    (base : Nat) (v : Value) (l : List Nat) (hown : Mine w base v l) (a : Option Addr) (cap : Nat) (news : List Nat) (hr : Row w a cap news) (hbytes : l.length + news.length ≤ 140737488355328) (hbase : base ≤ w.heap.size) :
    ∃ v' w', (Builtin.append_ #[t, tx] ty #[v, .slice a news.length cap]).run P w = .ok v' w' ∧ Mine w' base v' (l ++ news) ∧ w.grownBy w' v.ownBlock ∧ (v'.ownBlock = v.ownBlock ∨ v'.ownBlock = some w.heap.size) := by
  have hty : (Builtin.append_ #[t, tx] ty #[v, .slice a news.length cap]).run P w = (Builtin.append_ #[t, t] ty #[v, .slice a news.length cap]).run P w := by
    obtain ⟨a', c', rfl⟩ := hown.slice
    exact append_type w t tx ty 5 e' i ht htx hi a' _ c' _
  rw [hty]
  rcases hr.at_ with h0 | ⟨b, off, rfl, _, hc⟩
  · subst h0
    refine ⟨v, w, ?_, by simpa using hown, ⟨rfl, rfl, rfl, Nat.le_refl _, fun _ _ _ => rfl⟩, .inl rfl⟩
    rcases hown.2 with ⟨rfl, hn⟩ | ⟨g, c, cur, rfl, _, _, hnc, _⟩
    · simp [Builtin.append_, run_underlying ht, sizeOf, typeInfo, hi, Builtin.lenOf, Builtin.firstCells, loadCells, loadCellsFrom]
      cases a <;> simp
    · simp [Builtin.append_, run_underlying ht, sizeOf, typeInfo, hi, Builtin.lenOf, Builtin.firstCells, loadCells, loadCellsFrom, hnc]
      cases a <;> simp [storeCells]
  · obtain ⟨v', w', h1, h2, h3, _, h5⟩ := run_append_own_at (P := P) w base t ty 5 i (.int .u8 0) 1 1 ht hi hz hs hb rfl (by omega) v l.length (cellsOf l) hown ⟨b, off, none⟩ news.length cap (cellsOf news) (by simp [cellsOf])
      (Row.news hc) (cellsOf_oneCell news) (by unfold maxLen; omega) (by omega) hbase
    refine ⟨v', w', h1, ?_, h3, h5⟩
    show w'.ownsRow base 5 1 v' (l ++ news).length (cellsOf (l ++ news))
    rw [cellsOf_append, List.length_append]; exact h2

theorem wp_append_row {o : Oper} {ac : Act} {K : Act → World → Prop} {Q : Exit → Act → World → Prop} (s x : Operand) (t tx e' : TypeId)
    (ho : o.op = .call { callee := .builtin .append, args := #[s, x], argTypes := #[t, tx] }) (i : TypeInfo) (ht : P.underlying t = some (.slice 5)) (htx : P.underlying tx = some (.slice e')) (hi : P.info? 5 = some i) (hz : i.zero = some (.int .u8 0)) (hs : i.size = 1) (hb : i.bytes = 1)
    (base : Nat) (v : Value) (l : List Nat) (hse : ac.eval s = v) (hown : Mine w base v l) (a : Option Addr) (n cap : Nat) (news : List Nat) (hn : n = news.length) (hxe : ac.eval x = .slice a n cap) (hr : Row w a cap news) (hbytes : l.length + news.length ≤ 140737488355328) (hbase : base ≤ w.heap.size)
    (h : ∀ a' c' w', Mine w' base (.slice a' (l.length + news.length) c') (l ++ news) → w.grownBy w' v.ownBlock → ((Value.slice a' (l.length + news.length) c').ownBlock = v.ownBlock ∨ (Value.slice a' (l.length + news.length) c').ownBlock = some w.heap.size) → K (ac.put o.dst (.slice a' (l.length + news.length) c')) w') : o.wp P ac w K Q := by
  subst hn
  obtain ⟨v', w', hrun, h2, h3, h4⟩ := run_append_row (P := P) w t tx o.type e' i ht htx hi hz hs hb base v l hown a cap news hr hbytes hbase
  unfold Oper.wp execOp
  simp only [ho, resolve, invoke, builtin, Sem.run_bind, Sem.run_pure, Result.andThen_ok, List.map_toArray, List.map_cons, List.map_nil, hse, hxe, hrun]
  obtain ⟨a', c', rfl⟩ := h2.slice
  rw [List.length_append] at h2 h4 ⊢
  exact h a' c' w' h2 h3 h4

theorem wpList_append_row {ops : Array Oper} {rest : List Oper} {o : Oper} {ac : Act} {Q : Exit → Act → World → Prop} (hgd : o.guard = none) (s x : Operand) (t tx e' : TypeId)
    (ho : o.op = .call { callee := .builtin .append, args := #[s, x], argTypes := #[t, tx] }) (i : TypeInfo) (ht : P.underlying t = some (.slice 5)) (htx : P.underlying tx = some (.slice e')) (hi : P.info? 5 = some i) (hz : i.zero = some (.int .u8 0)) (hs : i.size = 1) (hb : i.bytes = 1)
    (base : Nat) (v : Value) (l : List Nat) (hse : ac.eval s = v) (hown : Mine w base v l) (a : Option Addr) (n cap : Nat) (news : List Nat) (hn : n = news.length) (hxe : ac.eval x = .slice a n cap) (hr : Row w a cap news) (hbytes : l.length + news.length ≤ 140737488355328) (hbase : base ≤ w.heap.size)
    (h : ∀ a' c' w', Mine w' base (.slice a' (l.length + news.length) c') (l ++ news) → w.grownBy w' v.ownBlock → ((Value.slice a' (l.length + news.length) c').ownBlock = v.ownBlock ∨ (Value.slice a' (l.length + news.length) c').ownBlock = some w.heap.size) → wpList P ops Q rest (ac.put o.dst (.slice a' (l.length + news.length) c')) w') : wpList P ops Q (o :: rest) ac w :=
  wpList_plain hgd fun _ hK => wp_append_row w s x t tx e' ho i ht htx hi hz hs hb base v l hse hown a n cap news hn hxe hr hbytes hbase fun a' c' w' h2 h3 h4 => hK _ _ (h a' c' w' h2 h3 h4)

end

/-- What is owned is a row of bytes, and its value a slice. -/
theorem Mine.row {w : World} {base : Nat} {v : Value} {l : List Nat} (h : Mine w base v l) (hl : octs l) (hs : l.length ≤ 140737488355328) : ∃ a c, v = .slice a l.length c ∧ Row w a c l := by
  rcases h.2 with ⟨rfl, h0⟩ | ⟨g, cap, cur, rfl, hg, hh, hnc, hcm, hcs, htake⟩
  · have : l = [] := List.eq_nil_of_length_eq_zero h0
    subst this
    exact ⟨none, 0, rfl, Nat.le_refl _, by omega, hs, hl, .inl rfl⟩
  · refine ⟨_, cap, rfl, hnc, by unfold maxLen at hcm; omega, hs, hl, .inr ⟨g, 0, rfl, lt_of_block hh, fun i hi => ?_⟩⟩
    have := h.cells (g := g) rfl i _ (cellsOf_get l i hi)
    rw [Addr.add_lit] at this
    exact this

/-- Bytes as a string. -/
def strOf (l : List Nat) : ByteArray := ⟨(l.map fun (x : Nat) => UInt8.ofNat x).toArray⟩
theorem strOf_toList (l : List Nat) : (strOf l).toList = l.map fun (x : Nat) => UInt8.ofNat x := by
  rw [ByteArray.toList_eq]; simp [strOf]
theorem ofNat_inj {l m : List Nat} (hl : octs l) (hm : octs m) (h : (l.map fun (x : Nat) => UInt8.ofNat x) = m.map fun (x : Nat) => UInt8.ofNat x) : l = m := by
  induction l generalizing m with
  | nil => cases m with
    | nil => rfl
    | cons => simp at h
  | cons x l ih => cases m with
    | nil => simp at h
    | cons y m =>
      simp only [List.map_cons, List.cons.injEq] at h
      have hx := hl x (by simp)
      have hy := hm y (by simp)
      have e : x = y := by
        have := congrArg UInt8.toNat h.1
        simpa [Nat.mod_eq_of_lt hx, Nat.mod_eq_of_lt hy] using this
      rw [e, ih (fun z hz => hl z (by simp [hz])) (fun z hz => hm z (by simp [hz])) h.2]
theorem str_eq {l m : List Nat} (hl : octs l) (hm : octs m) : ((strOf l).toList == (strOf m).toList) = decide (l = m) := by
  rw [strOf_toList, strOf_toList, Bool.eq_iff_iff]
  simp only [beq_iff_eq, decide_eq_true_eq]
  exact ⟨ofNat_inj hl hm, fun h => by rw [h]⟩
theorem run_str {P : Program} {w : World} {src dst e : TypeId} {a : Option Addr} {cap : Nat} {l : List Nat} (hs : P.underlying src = some (.slice e)) (he : P.underlying e = some (.int .u8)) (hd : P.underlying dst = some .string)
    (hr : Row w a cap l) (n : Nat) (hn : n = l.length) : (convert src dst (.slice a n cap)).run P w = .ok (.string (strOf l)) w := by
  subst hn
  rcases hr.at_ with h0 | ⟨b, off, rfl, _, hc⟩
  · subst h0
    rw [run_convert_bytes_string w src dst e a _ cap hs he hd]
    cases a with
    | none => simp [Conv.bytesToString, strOf]; rfl
    | some x => exact run_bytesToString w x 0 cap [] (by simp [loadCells, loadCellsFrom])
  · have hlen : (l.map fun (x : Nat) => UInt8.ofNat x).length = l.length := by simp
    have := run_convert_bytes_back (P := P) w src dst e ⟨b, off, none⟩ cap (l.map fun (x : Nat) => UInt8.ofNat x) hs he hd (fun j hj => by
      rw [hlen] at hj
      rw [Addr.add_lit, hc j hj]
      have hb := hr.byte _ (List.getElem_mem hj)
      simp [List.getD_eq_getElem?_getD, hj, Nat.mod_eq_of_lt hb])
    rw [hlen] at this
    exact this
end Go.Proofs.YtnoadmkkkeianaaGreat

/- What an append of a text's bytes onto a slice of the call's own makes. -/
namespace Go.Proofs.YtnoadmkkkeianaaGreat
open Go.RowKit

/-- A text's bytes. -/
def bsOf (s : ByteArray) : List Nat := s.data.toList.map UInt8.toNat
theorem bsOf_length (s : ByteArray) : (bsOf s).length = s.size := by
  unfold bsOf; rw [List.length_map, Array.length_toList]; rfl
theorem bsOf_octs (s : ByteArray) : octs (bsOf s) := by
  intro x hx
  simp only [bsOf, List.mem_map] at hx
  obtain ⟨b, _, rfl⟩ := hx
  exact b.toNat_lt
theorem strOf_bsOf (s : ByteArray) : strOf (bsOf s) = s := by
  unfold strOf bsOf
  rw [List.map_map]
  have e : ((fun (x : Nat) => UInt8.ofNat x) ∘ UInt8.toNat) = id := by funext b; simp
  rw [e, List.map_id]
theorem cells_bsOf (s : ByteArray) : Lib.strCells s = cellsOf (bsOf s) := by
  unfold Lib.strCells cellsOf bsOf
  rw [List.map_map]; rfl

section
variable {P : Program} (w : World)

theorem run_append_str (t tx ty : TypeId) (i : TypeInfo) (ht : P.underlying t = some (.slice 5)) (htx : P.underlying tx = some .string) (hi : P.info? 5 = some i) (hz : i.zero = some (.int .u8 0)) (hs : i.size = 1) (hb : i.bytes = 1)
    (base : Nat) (v : Value) (l : List Nat) (hown : Mine w base v l) (s : ByteArray) (hbytes : l.length + s.size ≤ 140737488355328) (hbase : base ≤ w.heap.size) :
    ∃ v' w', (Builtin.append_ #[t, tx] ty #[v, .string s]).run P w = .ok v' w' ∧ Mine w' base v' (l ++ bsOf s) ∧ w.grownBy w' v.ownBlock ∧ (v'.ownBlock = v.ownBlock ∨ v'.ownBlock = some w.heap.size) := by
  obtain ⟨v', w', hr, h2, h3, h4⟩ := Lib.run_append_own_string (P := P) w base t tx ty 5 i ht htx hi hz hs hb v l.length (cellsOf l) hown s (by unfold maxLen; omega) hbytes hbase
  refine ⟨v', w', hr, ?_, h3, ?_⟩
  · show w'.ownsRow base 5 1 v' (l ++ bsOf s).length (cellsOf (l ++ bsOf s))
    rw [List.length_append, bsOf_length, cellsOf_append, ← cells_bsOf]; exact h2
  · have hS : Src P i.size tx (.string s) s.size (Go.byteCells s) w := by rw [hs]; exact Src.ofString w htx s
    rcases hown.2 with ⟨hv, h0⟩ | ⟨g, cap, cur, hv, hg, hh, hnc, hcm, hcs, htake⟩
    · by_cases hz0 : s.size = 0
      · have : v' = .slice none 0 0 := h4.mpr ⟨hv, hz0⟩
        exact .inl (by rw [this, hv])
      · have hgr := run_append_grow_src (P := P) w t tx ty 5 i (.int .u8 0) ht hi hz none 0 0 [] (run_firstCells_none w.drew i.size 0 0 0) (.string s) s.size (Go.byteCells s) hS (by omega) (by omega) (growslice_fits (by omega) (by rw [hb, Nat.mul_one]; omega))
        rw [hv, hgr] at hr
        simp only [Result.ok.injEq] at hr
        exact .inr (by rw [← hr.1]; rfl)
    · by_cases hroom : l.length + s.size ≤ cap
      · have hrm := run_append_room_src (P := P) w t tx ty 5 i ht hi g 0 l.length cap (.string s) s.size (Go.byteCells s) hS hroom
          (fun j hj => by
            rw [Go.byteCells_length] at hj
            rw [cell_of_row w g _ cur 5 (0, 0) hh, Array.getElem?_eq_getElem (by rw [hcs, hs]; omega)]; rfl)
          (fun j _ => frozen_of_row w g _ cur 5 hh)
        rw [hv, hrm] at hr
        simp only [Result.ok.injEq] at hr
        exact .inl (by rw [← hr.1, hv]; rfl)
      · have hgr := run_append_grow_src (P := P) w t tx ty 5 i (.int .u8 0) ht hi hz (some ⟨g, 0, none⟩) l.length cap (cellsOf l)
          (run_firstCells_some w.drew i.size l.length ⟨g, 0, none⟩ l.length cap (cellsOf l) (by rw [hs, cellsOf_length]; omega) (fun j u hu => hown.cells (g := g) (by rw [hv]; rfl) j u hu))
          (.string s) s.size (Go.byteCells s) hS (by omega) (by omega) (growslice_fits (by omega) (by rw [hb, Nat.mul_one]; exact hbytes))
        rw [hv, hgr] at hr
        simp only [Result.ok.injEq] at hr
        exact .inr (by rw [← hr.1]; rfl)

theorem wp_append_str {o : Oper} {ac : Act} {K : Act → World → Prop} {Q : Exit → Act → World → Prop} (sl x : Operand) (t tx : TypeId)
    (ho : o.op = .call { callee := .builtin .append, args := #[sl, x], argTypes := #[t, tx] }) (i : TypeInfo) (ht : P.underlying t = some (.slice 5)) (htx : P.underlying tx = some .string) (hi : P.info? 5 = some i) (hz : i.zero = some (.int .u8 0)) (hs : i.size = 1) (hb : i.bytes = 1)
    (base : Nat) (v : Value) (l : List Nat) (hse : ac.eval sl = v) (hown : Mine w base v l) (s : ByteArray) (hxe : ac.eval x = .string s) (hbytes : l.length + s.size ≤ 140737488355328) (hbase : base ≤ w.heap.size)
    (h : ∀ a' c' w', Mine w' base (.slice a' (l.length + s.size) c') (l ++ bsOf s) → w.grownBy w' v.ownBlock → ((Value.slice a' (l.length + s.size) c').ownBlock = v.ownBlock ∨ (Value.slice a' (l.length + s.size) c').ownBlock = some w.heap.size) → K (ac.put o.dst (.slice a' (l.length + s.size) c')) w') : o.wp P ac w K Q := by
  obtain ⟨v', w', hrun, h2, h3, h4⟩ := run_append_str (P := P) w t tx o.type i ht htx hi hz hs hb base v l hown s hbytes hbase
  unfold Oper.wp execOp
  simp only [ho, resolve, invoke, builtin, Sem.run_bind, Sem.run_pure, Result.andThen_ok, List.map_toArray, List.map_cons, List.map_nil, hse, hxe, hrun]
  obtain ⟨a', c', rfl⟩ := h2.slice
  rw [List.length_append, bsOf_length] at h2 h4 ⊢
  exact h a' c' w' h2 h3 h4

theorem wpList_append_str {ops : Array Oper} {rest : List Oper} {o : Oper} {ac : Act} {Q : Exit → Act → World → Prop} (hgd : o.guard = none) (sl x : Operand) (t tx : TypeId)
    (ho : o.op = .call { callee := .builtin .append, args := #[sl, x], argTypes := #[t, tx] }) (i : TypeInfo) (ht : P.underlying t = some (.slice 5)) (htx : P.underlying tx = some .string) (hi : P.info? 5 = some i) (hz : i.zero = some (.int .u8 0)) (hs : i.size = 1) (hb : i.bytes = 1)
    (base : Nat) (v : Value) (l : List Nat) (hse : ac.eval sl = v) (hown : Mine w base v l) (s : ByteArray) (hxe : ac.eval x = .string s) (hbytes : l.length + s.size ≤ 140737488355328) (hbase : base ≤ w.heap.size)
    (h : ∀ a' c' w', Mine w' base (.slice a' (l.length + s.size) c') (l ++ bsOf s) → w.grownBy w' v.ownBlock → ((Value.slice a' (l.length + s.size) c').ownBlock = v.ownBlock ∨ (Value.slice a' (l.length + s.size) c').ownBlock = some w.heap.size) → wpList P ops Q rest (ac.put o.dst (.slice a' (l.length + s.size) c')) w') : wpList P ops Q (o :: rest) ac w :=
  wpList_plain hgd fun _ hK => wp_append_str w sl x t tx ho i ht htx hi hz hs hb base v l hse hown s hxe hbytes hbase fun a' c' w' h2 h3 h4 => hK _ _ (h a' c' w' h2 h3 h4)
end
end Go.Proofs.YtnoadmkkkeianaaGreat

/- The plain mathematics of the order of texts: what two begin with, which is less, the shortest beginning above another, the last byte that can grow. -/
namespace Go.Proofs.YtnoadmkkkeianaaGreat
open Go.RowKit

/-- How many bytes both begin with. -/
def cmn : List Nat → List Nat → Nat
  | x :: l, y :: m => if x = y then cmn l m + 1 else 0
  | _, _ => 0
/-- The order. -/
def cpl : List Nat → List Nat → Int
  | [], [] => 0
  | [], _ :: _ => -1
  | _ :: _, [] => 1
  | x :: l, y :: m => if x < y then -1 else if y < x then 1 else cpl l m
/-- The order of two numbers. -/
def cpn (x y : Nat) : Int := if x < y then -1 else if y < x then 1 else 0

theorem cmn_le (a b : List Nat) : cmn a b ≤ a.length ∧ cmn a b ≤ b.length := by
  induction a generalizing b with
  | nil => simp [cmn]
  | cons x l ih => cases b with
    | nil => simp [cmn]
    | cons y m =>
      have := ih m
      simp only [cmn]
      split
      · simp; omega
      · simp
theorem cmn_is (a b : List Nat) (k : Nat) (ha : k ≤ a.length) (hb : k ≤ b.length) (he : ∀ j, j < k → a.getD j 0 = b.getD j 0) (hx : k = a.length ∨ k = b.length ∨ a.getD k 0 ≠ b.getD k 0) : cmn a b = k := by
  induction a generalizing b k with
  | nil => simp at ha; subst ha; simp [cmn]
  | cons x l ih => cases b with
    | nil => simp at hb; subst hb; simp [cmn]
    | cons y m =>
      cases k with
      | zero =>
        simp at hx
        simp [cmn, hx]
      | succ k =>
        have h0 := he 0 (by omega)
        simp at h0
        simp only [cmn, if_pos h0]
        rw [ih m k (by simpa using ha) (by simpa using hb) (fun j hj => by have := he (j + 1) (by omega); simpa using this) (by simpa using hx)]
theorem cmn_same (a b : List Nat) (j : Nat) (h : j < cmn a b) : a.getD j 0 = b.getD j 0 := by
  induction a generalizing b j with
  | nil => simp [cmn] at h
  | cons x l ih => cases b with
    | nil => simp [cmn] at h
    | cons y m =>
      simp only [cmn] at h
      split at h
      · cases j with
        | zero => simp; assumption
        | succ j => have := ih m j (by omega); simpa using this
      · omega
theorem cmn_comm (a b : List Nat) : cmn a b = cmn b a := by
  induction a generalizing b with
  | nil => cases b <;> simp [cmn]
  | cons x l ih => cases b with
    | nil => simp [cmn]
    | cons y m => simp only [cmn, ih m]; by_cases h : x = y <;> simp [h, eq_comm]

theorem cpl_refl (a : List Nat) : cpl a a = 0 := by
  induction a with
  | nil => rfl
  | cons x l ih => simp [cpl, ih]
theorem cpl_neg (a b : List Nat) : cpl b a = -cpl a b := by
  induction a generalizing b with
  | nil => cases b <;> simp [cpl]
  | cons x l ih => cases b with
    | nil => simp [cpl]
    | cons y m =>
      simp only [cpl]
      by_cases h : x < y
      · rw [if_neg (by omega), if_pos h, if_pos h]; rfl
      · by_cases h2 : y < x
        · rw [if_pos h2, if_neg h, if_pos h2]
        · rw [if_neg h2, if_neg h, if_neg h, if_neg h2, ih]
theorem cpl_vals (a b : List Nat) : cpl a b = -1 ∨ cpl a b = 0 ∨ cpl a b = 1 := by
  induction a generalizing b with
  | nil => cases b <;> simp [cpl]
  | cons x l ih => cases b with
    | nil => simp [cpl]
    | cons y m =>
      simp only [cpl]
      split
      · exact .inl rfl
      · split
        · exact .inr (.inr rfl)
        · exact ih m
theorem cpl_eq (a b : List Nat) : cpl a b = 0 ↔ a = b := by
  constructor
  · intro h
    induction a generalizing b with
    | nil => cases b with
      | nil => rfl
      | cons => simp [cpl] at h
    | cons x l ih => cases b with
      | nil => simp [cpl] at h
      | cons y m =>
        simp only [cpl] at h
        split at h
        · omega
        · split at h
          · omega
          · rw [ih m h, show x = y by omega]
  · rintro rfl; exact cpl_refl _
theorem cpl_trans (a b c : List Nat) (h1 : cpl a b ≤ 0) (h2 : cpl b c ≤ 0) : cpl a c ≤ 0 := by
  induction a generalizing b c with
  | nil => cases c <;> simp [cpl]
  | cons x l ih => cases b with
    | nil => simp [cpl] at h1
    | cons y m => cases c with
      | nil => simp [cpl] at h2
      | cons z n =>
        simp only [cpl] at h1 h2 ⊢
        by_cases a1 : x < y
        · by_cases a2 : z < y
          · rw [if_neg (by omega), if_pos a2] at h2; omega
          · rw [if_pos (by omega)]; omega
        · rw [if_neg a1] at h1
          by_cases a2 : y < x
          · rw [if_pos a2] at h1; omega
          · rw [if_neg a2] at h1
            have e : x = y := by omega
            subst e
            by_cases a3 : x < z
            · rw [if_pos a3]; omega
            · rw [if_neg a3] at h2 ⊢
              by_cases a4 : z < x
              · rw [if_pos a4] at h2; omega
              · rw [if_neg a4] at h2 ⊢
                exact ih m n h1 h2
/-- How the code tells the order: by the first byte in which they part. -/
theorem cpl_at (a b : List Nat) : cpl a b = if cmn a b < a.length ∧ cmn a b < b.length then cpn (a.getD (cmn a b) 0) (b.getD (cmn a b) 0) else cpn a.length b.length := by
  induction a generalizing b with
  | nil => cases b <;> simp [cpl, cmn, cpn]
  | cons x l ih => cases b with
    | nil => simp [cpl, cmn, cpn]
    | cons y m =>
      by_cases h : x = y
      · subst h
        have e : cmn (x :: l) (x :: m) = cmn l m + 1 := by simp [cmn]
        have e2 : cpl (x :: l) (x :: m) = cpl l m := by simp [cpl]
        rw [e, e2, ih m]
        simp only [List.length_cons, Nat.add_lt_add_iff_right, List.getD_cons_succ, cpn]
      · have e : cmn (x :: l) (y :: m) = 0 := by simp [cmn, h]
        rw [e]
        simp only [cpl, List.length_cons, Nat.zero_lt_succ, and_self, if_true, List.getD_cons_zero, cpn]
        by_cases h1 : x < y
        · rw [if_pos h1, if_pos h1]
        · rw [if_neg h1, if_neg h1, if_pos (by omega), if_pos (by omega)]
/-- How the document tells it: byte by byte. -/
theorem cpl_skip (a b : List Nat) (k : Nat) (ha : k ≤ a.length) (hb : k ≤ b.length) (he : ∀ j, j < k → a.getD j 0 = b.getD j 0) : cpl a b = cpl (a.drop k) (b.drop k) := by
  induction k generalizing a b with
  | zero => simp
  | succ k ih =>
    cases a with
    | nil => simp at ha
    | cons x l => cases b with
      | nil => simp at hb
      | cons y m =>
        have h0 := he 0 (by omega)
        simp at h0
        subst h0
        have e2 : cpl (x :: l) (x :: m) = cpl l m := by simp [cpl]
        rw [e2, ih l m (by simpa using ha) (by simpa using hb) (fun j hj => by have := he (j + 1) (by omega); simpa using this)]
        simp
theorem drop_at (a : List Nat) (k : Nat) (h : k < a.length) : a.drop k = a.getD k 0 :: a.drop (k + 1) := by
  rw [List.drop_eq_getElem_cons h, List.getD_eq_getElem?_getD, List.getElem?_eq_getElem h]; rfl
theorem cpl_lt (a b : List Nat) (k : Nat) (ha : k < a.length) (hb : k < b.length) (he : ∀ j, j < k → a.getD j 0 = b.getD j 0) (h : a.getD k 0 < b.getD k 0) : cpl a b = -1 := by
  rw [cpl_skip a b k (by omega) (by omega) he, drop_at a k ha, drop_at b k hb]; simp only [cpl, if_pos h]
theorem cpl_gt (a b : List Nat) (k : Nat) (ha : k < a.length) (hb : k < b.length) (he : ∀ j, j < k → a.getD j 0 = b.getD j 0) (h : b.getD k 0 < a.getD k 0) : cpl a b = 1 := by
  rw [cpl_neg b a, cpl_lt b a k hb ha (fun j hj => (he j hj).symm) h]; rfl
theorem cpl_len (a b : List Nat) (k : Nat) (hk : k = a.length ∨ k = b.length) (ha : k ≤ a.length) (hb : k ≤ b.length) (he : ∀ j, j < k → a.getD j 0 = b.getD j 0) : cpl a b = cpn a.length b.length := by
  rw [cpl_at, cmn_is a b k ha hb he (by omega), if_neg (by omega)]

/-- The order over bounds: what is greater than 'a' among b's beginnings. -/
theorem cpl_take_le (a b : List Nat) (i : Nat) (h : i ≤ cmn a b) : cpl (b.take i) a ≤ 0 := by
  induction a generalizing b i with
  | nil => simp [cmn] at h; subst h; simp [cpl]
  | cons x l ih => cases b with
    | nil => simp [cpl]
    | cons y m => cases i with
      | zero => simp [cpl]
      | succ i =>
        simp only [cmn] at h
        split at h
        · rename_i e; subst e
          have := ih m i (by omega)
          simpa [cpl] using this
        · omega
theorem cpl_take_gt (a b : List Nat) (hlt : cpl a b = -1) : cpl (b.take (cmn a b + 1)) a = 1 ∧ cmn a b < b.length := by
  induction a generalizing b with
  | nil => cases b with
    | nil => simp [cpl] at hlt
    | cons y m => simp [cmn, cpl]
  | cons x l ih => cases b with
    | nil => simp [cpl] at hlt
    | cons y m =>
      by_cases h : x = y
      · subst h
        have e2 : cpl (x :: l) (x :: m) = cpl l m := by simp [cpl]
        rw [e2] at hlt
        have e : cmn (x :: l) (x :: m) = cmn l m + 1 := by simp [cmn]
        rw [e]
        have := ih m hlt
        refine ⟨?_, by simp; omega⟩
        rw [List.take_succ_cons]
        have e3 : ∀ p q : List Nat, cpl (x :: p) (x :: q) = cpl p q := by intro p q; simp [cpl]
        rw [e3]; exact this.1
      · have e : cmn (x :: l) (y :: m) = 0 := by simp [cmn, h]
        have h1 : x < y := by
          simp only [cpl] at hlt
          by_cases h1 : x < y
          · exact h1
          · rw [if_neg h1, if_pos (by omega)] at hlt; omega
        rw [e]
        simp [cpl, show ¬ y < x by omega, h1]
theorem cpl_take_no (a b : List Nat) (i : Nat) (h : 0 ≤ cpl a b) : cpl (b.take i) a ≤ 0 := by
  have h1 : cpl b a ≤ 0 := by rw [cpl_neg a b]; omega
  have h2 : cpl (b.take i) b ≤ 0 := by
    clear h h1
    induction b generalizing i with
    | nil => simp [cpl]
    | cons y m ih => cases i with
      | zero => simp [cpl]
      | succ i => have := ih i; simpa [cpl] using this
  exact cpl_trans _ _ _ h2 h1

/-- One more than the place of the last byte below 255; 0: there is none. -/
def low : List Nat → Nat
  | [] => 0
  | x :: l => if low l = 0 then (if x < 255 then 1 else 0) else low l + 1
theorem low_le (l : List Nat) : low l ≤ l.length := by
  induction l with
  | nil => simp [low]
  | cons x l ih => simp only [low]; split <;> (try split) <;> simp <;> omega
theorem low_is (l : List Nat) (k : Nat) (hk : k < l.length) (hx : l.getD k 0 < 255) (hr : ∀ j, k < j → j < l.length → 255 ≤ l.getD j 0) : low l = k + 1 := by
  induction l generalizing k with
  | nil => simp at hk
  | cons x l ih => cases k with
    | zero =>
      have h0 : low l = 0 := by
        clear ih hk hx
        induction l with
        | nil => rfl
        | cons y m ih2 =>
          have h1 := hr 1 (by omega) (by simp)
          simp at h1
          have := ih2 (fun j hj hl => by
            cases j with
            | zero => omega
            | succ j => have := hr (j + 2) (by omega) (by simp at hl ⊢; omega); simpa using this)
          simp [low, this]; omega
      simp at hx
      simp [low, h0, hx]
    | succ k =>
      have := ih k (by simpa using hk) (by simpa using hx) (fun j hj hl => by have := hr (j + 1) (by omega) (by simpa using hl); simpa using this)
      simp [low, this]
theorem low_none (l : List Nat) (hr : ∀ j, j < l.length → 255 ≤ l.getD j 0) : low l = 0 := by
  induction l with
  | nil => rfl
  | cons y m ih =>
    have h1 := hr 0 (by simp)
    simp at h1
    have := ih (fun j hl => by have := hr (j + 1) (by simpa using hl); simpa using this)
    simp [low, this]; omega
theorem low_snoc (l : List Nat) (x : Nat) : low (l ++ [x]) = if x < 255 then l.length + 1 else low l := by
  induction l with
  | nil => simp [low]
  | cons y m ih =>
    simp only [List.cons_append, low, ih, List.length_cons]
    by_cases h : x < 255
    · simp [h]
    · simp [h]
theorem low_at (l : List Nat) (h : low l ≠ 0) : l.getD (low l - 1) 0 < 255 := by
  induction l with
  | nil => simp [low] at h
  | cons y m ih =>
    simp only [low] at h ⊢
    by_cases h0 : low m = 0
    · rw [if_pos h0] at h ⊢
      split at h
      · rename_i h1; rw [if_pos h1]; simpa using h1
      · omega
    · rw [if_neg h0]
      have := ih h0
      rw [show low m + 1 - 1 = (low m - 1) + 1 by omega, List.getD_cons_succ]; exact this
/-- The least text above all that begin with l, where low l is not 0. -/
def up (l : List Nat) : List Nat := l.take (low l - 1) ++ [l.getD (low l - 1) 0 + 1]
/-- A text begins with l just if it is not less than it and less than what is above. -/
theorem up_begins (l s : List Nat) (ho : ∀ x ∈ s, x < 256) (hp : ∀ x ∈ l, x < 256) : (l.length ≤ s.length ∧ s.take l.length = l) ↔ (0 ≤ cpl s l ∧ (low l = 0 ∨ cpl s (up l) < 0)) := by
  induction l generalizing s with
  | nil =>
    have : 0 ≤ cpl s [] := by cases s <;> simp [cpl]
    simp [low, this]
  | cons x l ih =>
    cases s with
    | nil => simp [cpl]
    | cons y s =>
      have hy := ho y (by simp)
      have hx := hp x (by simp)
      have := ih s (fun z hz => ho z (by simp [hz])) (fun z hz => hp z (by simp [hz]))
      simp only [List.length_cons, Nat.add_le_add_iff_right, List.take_succ_cons, List.cons.injEq, cpl]
      by_cases h0 : low l = 0
      · have hl : low (x :: l) = if x < 255 then 1 else 0 := by simp [low, h0]
        rw [hl]
        by_cases h255 : x < 255
        · rw [if_pos h255]
          have eu : up (x :: l) = [x + 1] := by simp [up, hl, h255]
          rw [eu]
          simp only [cpl]
          by_cases a1 : y < x
          · simp [a1]; omega
          · by_cases a2 : x < y
            · rw [if_neg a1, if_pos a2, if_neg (by omega)]
              by_cases a3 : x + 1 < y
              · simp [a3]; omega
              · rw [if_neg a3]
                have : 0 ≤ cpl s [] := by cases s <;> simp [cpl]
                constructor
                · rintro ⟨_, h, _⟩; omega
                · rintro ⟨_, h⟩; rcases h with h | h <;> omega
            · have e : y = x := by omega
              subst e
              rw [if_neg a1, if_neg a1, if_pos (by omega)]
              rw [h0] at this
              simp only [true_or, and_true] at this
              constructor
              · rintro ⟨b1, _, b2⟩; exact ⟨this.mp ⟨b1, b2⟩, .inr (by omega)⟩
              · rintro ⟨b1, _⟩; have := this.mpr b1; exact ⟨this.1, rfl, this.2⟩
        · rw [if_neg h255]
          have e255 : x = 255 := by omega
          rw [h0] at this
          simp only [true_or, and_true] at this ⊢
          by_cases a1 : y < x
          · simp [a1]; omega
          · have e : y = x := by omega
            subst e
            rw [if_neg a1, if_neg a1]
            constructor
            · rintro ⟨b1, _, b2⟩; exact this.mp ⟨b1, b2⟩
            · intro b1; have := this.mpr b1; exact ⟨this.1, rfl, this.2⟩
      · have hl : low (x :: l) = low l + 1 := by simp [low, h0]
        have eu : up (x :: l) = x :: up l := by
          have e1 : low l + 1 - 1 = (low l - 1) + 1 := by omega
          simp only [up, hl, e1, List.take_succ_cons, List.getD_cons_succ, List.cons_append]
        rw [hl, eu]
        simp only [cpl]
        by_cases a1 : y < x
        · simp [a1]; omega
        · by_cases a2 : x < y
          · simp [a1, a2]; omega
          · have e : y = x := by omega
            subst e
            rw [if_neg a1, if_neg a1, if_neg a1, if_neg a1]
            simp only [h0, false_or] at this
            constructor
            · rintro ⟨b1, _, b2⟩; have := this.mp ⟨b1, b2⟩; exact ⟨this.1, .inr this.2⟩
            · rintro ⟨b1, b2⟩
              have := this.mpr ⟨b1, by rcases b2 with b | b; omega; exact b⟩
              exact ⟨this.1, rfl, this.2⟩
end Go.Proofs.YtnoadmkkkeianaaGreat

/- What key.Check, Value, Common and Compare tell, and what the document's own tell. -/
namespace Go.Proofs.YtnoadmkkkeianaaGreat
open Go.RowKit

theorem bs_at (s : ByteArray) (k : Nat) (h : k < s.size) : s[k].toNat = (bsOf s).getD k 0 := by
  have h' : k < s.data.toList.length := by simpa using h
  unfold bsOf
  rw [List.getD_eq_getElem?_getD, List.getElem?_map, List.getElem?_eq_getElem h']
  rfl
theorem bs_nil {s : ByteArray} (h : s.size = 0) : s.toList.isEmpty = true := by
  rw [Lib.toList_data, List.isEmpty_iff, ← List.length_eq_zero_iff, ← Lib.size_eq]; exact h
theorem bs_not_nil {s : ByteArray} (h : s.size ≠ 0) : s.toList.isEmpty = false := by
  rw [Lib.toList_data, ← Bool.not_eq_true, List.isEmpty_iff, ← List.length_eq_zero_iff, ← Lib.size_eq]; exact h
theorem bs_extract (s : ByteArray) (k : Nat) : bsOf (s.extract 0 k) = (bsOf s).take k := by
  unfold bsOf; rw [Lib.extract_data]; simp [List.map_take]
theorem bs_inj {a b : ByteArray} (h : bsOf a = bsOf b) : a = b := by rw [← strOf_bsOf a, ← strOf_bsOf b, h]


def ekey (n : Nat) : Nat := if n = 0 ∨ 16 < n then 50 else 0
def evalu (n : Nat) : Nat := if 32 < n then 51 else 0
theorem ekey_no {n : Nat} (h : n = 0 ∨ 16 < n) : ekey n = 50 := if_pos h
theorem ekey_ok {n : Nat} (h : n ≠ 0) (k : n ≤ 16) : ekey n = 0 := if_neg (by omega)
theorem ekey_lt (n : Nat) : ekey n < 256 := by unfold ekey; split <;> omega
theorem evalu_lt (n : Nat) : evalu n < 256 := by unfold evalu; split <;> omega

set_option maxRecDepth 100000 in
set_option maxHeartbeats 400000 in
theorem kcheck_any (s : ByteArray) (w : World) :
    Calls Tryz.prog 77 #[.string s] w fun e w' => e = .returned (.int .i64 (ekey s.size : Nat)) ∧ w' = w := by
  by_cases h0 : s.size = 0
  · have he := bs_nil h0
    rw [ekey_no (.inl h0)]
    clear h0
    go_enter Tryz.func77, Tryz.ntmps77
    go_wp2
    go_ret
    exact ⟨rfl, rfl⟩
  · have he := bs_not_nil h0
    by_cases h1 : 16 < s.size
    · rw [ekey_no (.inr h1)]
      have h2 : (16 : Int) < (s.size : Int) := by omega
      clear h0
      go_enter Tryz.func77, Tryz.ntmps77
      go_wp2
      go_ret
      exact ⟨rfl, rfl⟩
    · rw [ekey_ok h0 (by omega)]
      have h2 : ¬ (16 : Int) < (s.size : Int) := by omega
      clear h0
      go_enter Tryz.func77, Tryz.ntmps77
      go_wp2
      go_ret
      exact ⟨rfl, rfl⟩
set_option maxRecDepth 100000 in
set_option maxHeartbeats 400000 in
theorem rcheck_any (s : ByteArray) (w : World) :
    Calls Tryz.prog 43 #[.string s] w fun e w' => e = .returned (.int .i64 (ekey s.size : Nat)) ∧ w' = w := by
  by_cases h0 : s.size = 0
  · rw [ekey_no (.inl h0)]
    have h2 : (s.size : Int) < 1 := by omega
    clear h0
    go_enter Tryz.func43, Tryz.ntmps43
    go_wp2
    go_ret
    exact ⟨rfl, rfl⟩
  · have h3 : ¬ (s.size : Int) < 1 := by omega
    by_cases h1 : 16 < s.size
    · rw [ekey_no (.inr h1)]
      have h2 : (16 : Int) < (s.size : Int) := by omega
      clear h0
      go_enter Tryz.func43, Tryz.ntmps43
      go_wp2
      go_ret
      exact ⟨rfl, rfl⟩
    · rw [ekey_ok h0 (by omega)]
      have h2 : ¬ (16 : Int) < (s.size : Int) := by omega
      clear h0
      go_enter Tryz.func43, Tryz.ntmps43
      go_wp2
      go_ret
      exact ⟨rfl, rfl⟩
set_option maxRecDepth 100000 in
set_option maxHeartbeats 400000 in
theorem kvalue_any (s : ByteArray) (w : World) :
    Calls Tryz.prog 78 #[.string s] w fun e w' => e = .returned (.int .i64 (evalu s.size : Nat)) ∧ w' = w := by
  by_cases h1 : 32 < s.size
  · rw [show evalu s.size = 51 from if_pos h1]
    have h2 : (32 : Int) < (s.size : Int) := by omega
    go_enter Tryz.func78, Tryz.ntmps78
    go_wp2
    go_ret
    exact ⟨rfl, rfl⟩
  · rw [show evalu s.size = 0 from if_neg h1]
    have h2 : ¬ (32 : Int) < (s.size : Int) := by omega
    go_enter Tryz.func78, Tryz.ntmps78
    go_wp2
    go_ret
    exact ⟨rfl, rfl⟩
set_option maxRecDepth 100000 in
set_option maxHeartbeats 400000 in
theorem rvalue_any (s : ByteArray) (w : World) :
    Calls Tryz.prog 44 #[.string s] w fun e w' => e = .returned (.int .i64 (evalu s.size : Nat)) ∧ w' = w := by
  by_cases h1 : 32 < s.size
  · rw [show evalu s.size = 51 from if_pos h1]
    have h2 : (32 : Int) < (s.size : Int) := by omega
    go_enter Tryz.func44, Tryz.ntmps44
    go_wp2
    go_ret
    exact ⟨rfl, rfl⟩
  · rw [show evalu s.size = 0 from if_neg h1]
    have h2 : ¬ (32 : Int) < (s.size : Int) := by omega
    go_enter Tryz.func44, Tryz.ntmps44
    go_wp2
    go_ret
    exact ⟨rfl, rfl⟩

theorem bne_nat {x y : Nat} (h : ((x : Int) != (y : Int)) = true) : x ≠ y := by
  intro e; subst e; simp at h
theorem beq_nat {x y : Nat} (h : ((x : Int) != (y : Int)) = false) : x = y := by
  have : (x : Int) = (y : Int) := by simpa using h
  omega

set_option maxRecDepth 100000 in
set_option maxHeartbeats 1000000 in
theorem common_any (a b : ByteArray) (ha : a.size ≤ maxLen) (hb : b.size ≤ maxLen) (w : World) :
    Calls Tryz.prog 107 #[.string a, .string b] w fun e w' => e = .returned (.int .i64 (cmn (bsOf a) (bsOf b) : Nat)) ∧ Fr (fun _ => False) w w' := by
  unfold maxLen at ha hb
  by_cases hm : (b.size : Int) < (a.size : Int)
  all_goals
    go_enter Tryz.func107, Tryz.ntmps107
    go_wp2
    go_loopw [13, 6] (fun i _ wr => ∃ k : Nat, k ≤ a.size ∧ k ≤ b.size ∧ i = .int .i64 k ∧ Hid (∀ j, j < k → (bsOf a).getD j 0 = (bsOf b).getD j 0) ∧ Fr (fun _ => False) w wr) (fun i _ _ => a.size - (intOf i).toNat)
    case atStart => exact ⟨0, by omega, by omega, rfl, (fun j h => by omega), Fr.refl _ _⟩
    case round =>
      obtain ⟨k, hk, hk2, rfl, HE, hf⟩ := hrel
      by_cases hlt : k < a.size ∧ k < b.size
      · obtain ⟨h1, h2⟩ := hlt
        have HA : Hid (a[k].toNat = (bsOf a).getD k 0) := bs_at a k h1
        have HB : Hid (b[k].toNat = (bsOf b).getD k 0) := bs_at b k h2
        go_wp2
        go_quiet (fail)
        go_wp2
        · go_ret
          exact ⟨ret_int (by rw [cmn_is (bsOf a) (bsOf b) k (by rw [bsOf_length]; omega) (by rw [bsOf_length]; omega) HE.out (.inr (.inr (by rw [← HA.out, ← HB.out]; exact bne_nat ‹_›)))]), hf.drewN _⟩
        · go_roundw
          case rel =>
            refine ⟨k + 1, by omega, by omega, by go_num, fun j hj => ?_, hf.drewN _⟩
            rcases Nat.lt_or_ge j k with h | h
            · exact HE.out j h
            · have e : j = k := by omega
              rw [e, ← HA.out, ← HB.out]; exact beq_nat ‹_›
          case measure => simp [intOf]; omega
      · have e : k = a.size ∨ k = b.size := by omega
        have HM : Hid (k = a.size ∨ k = b.size) := e
        have hge : ¬ (k : Int) < (a.size : Int) ∨ ¬ (k : Int) < (b.size : Int) := by omega
        clear e hlt
        go_wp2
        go_ret
        exact ⟨ret_int (by rw [cmn_is (bsOf a) (bsOf b) k (by rw [bsOf_length]; omega) (by rw [bsOf_length]; omega) HE.out (by rw [bsOf_length, bsOf_length]; have := HM.out; omega)]; omega), hf⟩

set_option maxRecDepth 100000 in
set_option maxHeartbeats 400000 in
theorem cmpb_any (x y : Nat) (w : World) :
    Calls Tryz.prog 108 #[.int .u8 x, .int .u8 y] w fun e w' => e = .returned (.int .i64 (cpn x y)) ∧ w' = w := by
  by_cases h1 : x < y
  · rw [show cpn x y = -1 from if_pos h1]
    go_enter Tryz.func108, Tryz.ntmps108
    go_wp2
    go_ret
    exact ⟨rfl, rfl⟩
  · by_cases h2 : y < x
    · rw [show cpn x y = 1 by unfold cpn; rw [if_neg h1, if_pos h2]]
      go_enter Tryz.func108, Tryz.ntmps108
      go_wp2
      go_ret
      exact ⟨rfl, rfl⟩
    · rw [show cpn x y = 0 by unfold cpn; rw [if_neg h1, if_neg h2]]
      go_enter Tryz.func108, Tryz.ntmps108
      go_wp2
      go_ret
      exact ⟨rfl, rfl⟩
set_option maxRecDepth 100000 in
set_option maxHeartbeats 400000 in
theorem cmpi_any (x y : Nat) (w : World) :
    Calls Tryz.prog 109 #[.int .i64 x, .int .i64 y] w fun e w' => e = .returned (.int .i64 (cpn x y)) ∧ w' = w := by
  by_cases h1 : x < y
  · rw [show cpn x y = -1 from if_pos h1]
    go_enter Tryz.func109, Tryz.ntmps109
    go_wp2
    go_ret
    exact ⟨rfl, rfl⟩
  · by_cases h2 : y < x
    · rw [show cpn x y = 1 by unfold cpn; rw [if_neg h1, if_pos h2]]
      go_enter Tryz.func109, Tryz.ntmps109
      go_wp2
      go_ret
      exact ⟨rfl, rfl⟩
    · rw [show cpn x y = 0 by unfold cpn; rw [if_neg h1, if_neg h2]]
      go_enter Tryz.func109, Tryz.ntmps109
      go_wp2
      go_ret
      exact ⟨rfl, rfl⟩

set_option maxRecDepth 100000 in
set_option maxHeartbeats 1000000 in
theorem compare_any (a b : ByteArray) (ha : a.size ≤ maxLen) (hb : b.size ≤ maxLen) (w : World) :
    Calls Tryz.prog 102 #[.string a, .string b] w fun e w' => e = .returned (.int .i64 (cpl (bsOf a) (bsOf b))) ∧ Fr (fun _ => False) w w' := by
  have hc := cpl_at (bsOf a) (bsOf b)
  have hl := cmn_le (bsOf a) (bsOf b)
  have common := common_any a b ha hb w
  unfold maxLen at ha hb
  rw [bsOf_length, bsOf_length] at hc hl
  obtain ⟨n, hn⟩ : ∃ n, n = cmn (bsOf a) (bsOf b) := ⟨_, rfl⟩
  rw [← hn] at hc hl common
  clear hn
  have l1 := hl.1
  have l2 := hl.2
  clear hl
  by_cases hx : n < a.size ∧ n < b.size
  · rw [if_pos hx] at hc
    obtain ⟨h1, h2⟩ := hx
    have HA := bs_at a n h1
    have HB := bs_at b n h2
    rw [← HA, ← HB] at hc
    have HC : Hid (cpl (bsOf a) (bsOf b) = cpn a[n].toNat b[n].toNat) := hc
    clear hc HA HB
    go_enter Tryz.func102, Tryz.ntmps102
    go_wp2_with fail
    refine common.mono ?_
    rintro e w1 ⟨rfl, hf⟩
    clear common
    go_wp2
    go_quiet ((go_at_call 108; exact Calls.quiet_of_same (cmpb_any _ _ _)))
    go_wp2
    go_ret
    exact ⟨ret_int HC.out.symm, hf.drewN _⟩
  · rw [if_neg hx] at hc
    have HC : Hid (cpl (bsOf a) (bsOf b) = cpn a.size b.size) := hc
    clear hc
    by_cases h1 : n < a.size
    · have h2 : ¬ (n : Int) < (b.size : Int) := by omega
      have h3 : decide ((n : Int) < (b.size : Int)) = false := by simpa using h2
      clear hx
      go_enter Tryz.func102, Tryz.ntmps102
      go_wp2_with fail
      refine common.mono ?_
      rintro e w1 ⟨rfl, hf⟩
      clear common
      go_wp2_with (go_at_call 109; refine (cmpi_any _ _ _).mono ?_; rintro e w2 ⟨rfl, rfl⟩)
      go_ret
      exact ⟨ret_int HC.out.symm, hf⟩
    · have h2 : ¬ (n : Int) < (a.size : Int) := by omega
      have h3 : decide ((n : Int) < (a.size : Int)) = false := by simpa using h2
      clear hx
      go_enter Tryz.func102, Tryz.ntmps102
      go_wp2_with fail
      refine common.mono ?_
      rintro e w1 ⟨rfl, hf⟩
      clear common
      go_wp2_with (go_at_call 109; refine (cmpi_any _ _ _).mono ?_; rintro e w2 ⟨rfl, rfl⟩)
      go_ret
      exact ⟨ret_int HC.out.symm, hf⟩
end Go.Proofs.YtnoadmkkkeianaaGreat

/- What the document's own Common and Compare tell. -/
namespace Go.Proofs.YtnoadmkkkeianaaGreat
open Go.RowKit

set_option maxRecDepth 100000 in
set_option maxHeartbeats 1000000 in
theorem rcompare_any (a b : ByteArray) (ha : a.size ≤ maxLen) (hb : b.size ≤ maxLen) (w : World) :
    Calls Tryz.prog 91 #[.string a, .string b] w fun e w' => e = .returned (.int .i64 (cpl (bsOf a) (bsOf b))) ∧ Fr (fun _ => False) w w' := by
  unfold maxLen at ha hb
  go_enter Tryz.func91, Tryz.ntmps91
  go_wp2
  go_loopw [5] (fun i wr => ∃ k : Nat, k ≤ a.size ∧ k ≤ b.size ∧ i = .int .i64 k ∧ Hid (∀ j, j < k → (bsOf a).getD j 0 = (bsOf b).getD j 0) ∧ Fr (fun _ => False) w wr) (fun i _ => a.size - (intOf i).toNat)
  case atStart => exact ⟨0, by omega, by omega, rfl, (fun j h => by omega), Fr.refl _ _⟩
  case round =>
    obtain ⟨k, hk, hk2, rfl, HE, hf⟩ := hrel
    have ks1 : k ≤ (bsOf a).length := by rw [bsOf_length]; omega
    have ks2 : k ≤ (bsOf b).length := by rw [bsOf_length]; omega
    have KS1 : Hid (k ≤ (bsOf a).length) := ks1
    have KS2 : Hid (k ≤ (bsOf b).length) := ks2
    clear ks1 ks2
    by_cases hlt : k < a.size ∧ k < b.size
    · obtain ⟨h1, h2⟩ := hlt
      have HA : Hid (a[k].toNat = (bsOf a).getD k 0) := bs_at a k h1
      have HB : Hid (b[k].toNat = (bsOf b).getD k 0) := bs_at b k h2
      have K1 : Hid (k < (bsOf a).length) := by show _ < _; rw [bsOf_length]; exact h1
      have K2 : Hid (k < (bsOf b).length) := by show _ < _; rw [bsOf_length]; exact h2
      by_cases x1 : a[k].toNat < b[k].toNat
      · have X1 : Hid (a[k].toNat < b[k].toNat) := x1
        go_wp2
        go_quiet (fail)
        go_wp2
        go_ret
        exact ⟨ret_int (by rw [cpl_lt (bsOf a) (bsOf b) k K1.out K2.out HE.out (by rw [← HA.out, ← HB.out]; exact X1.out)]), hf.drewN _⟩
      · by_cases x2 : b[k].toNat < a[k].toNat
        · have X2 : Hid (b[k].toNat < a[k].toNat) := x2
          go_wp2
          go_quiet (fail)
          go_wp2
          go_quiet (fail)
          go_wp2
          go_ret
          exact ⟨ret_int (by rw [cpl_gt (bsOf a) (bsOf b) k K1.out K2.out HE.out (by rw [← HA.out, ← HB.out]; exact X2.out)]), (hf.drewN _).drewN _⟩
        · have X3 : Hid (a[k].toNat = b[k].toNat) := by show _ = _; omega
          go_wp2
          go_quiet (fail)
          go_wp2
          go_quiet (fail)
          go_wp2
          go_roundw
          case rel =>
            refine ⟨k + 1, by omega, by omega, by go_num, fun j hj => ?_, hf.drewN _⟩
            rcases Nat.lt_or_ge j k with h | h
            · exact HE.out j h
            · have e : j = k := by omega
              rw [e, ← HA.out, ← HB.out]; exact X3.out
          case measure => simp [intOf]; omega
    · have hkk : k = a.size ∨ k = b.size := by omega
      have HC : Hid (cpl (bsOf a) (bsOf b) = cpn a.size b.size) := by
        have := cpl_len (bsOf a) (bsOf b) k (by rw [bsOf_length, bsOf_length]; exact hkk) KS1.out KS2.out HE.out
        rw [bsOf_length, bsOf_length] at this; exact this
      clear hkk
      by_cases x1 : a.size < b.size
      · have X1 : Hid (cpn a.size b.size = -1) := if_pos x1
        have e : ¬ (k : Int) < (a.size : Int) := by omega
        clear hlt
        go_wp2
        go_ret
        exact ⟨ret_int (by rw [HC.out, X1.out]), hf⟩
      · by_cases x2 : b.size < a.size
        · have X1 : Hid (cpn a.size b.size = 1) := by show cpn _ _ = _; unfold cpn; rw [if_neg x1, if_pos x2]
          have e : ¬ (k : Int) < (b.size : Int) := by omega
          have e2 : (k : Int) < (a.size : Int) := by omega
          clear hlt
          go_wp2
          go_ret
          exact ⟨ret_int (by rw [HC.out, X1.out]), hf⟩
        · have X1 : Hid (cpn a.size b.size = 0) := by show cpn _ _ = _; unfold cpn; rw [if_neg x1, if_neg x2]
          have e : ¬ (k : Int) < (a.size : Int) := by omega
          clear hlt
          go_wp2
          go_ret
          exact ⟨ret_int (by rw [HC.out, X1.out]), hf⟩
end Go.Proofs.YtnoadmkkkeianaaGreat

/- Lists of texts in memory. -/
namespace Go.Proofs.YtnoadmkkkeianaaGreat
open Go.RowKit

/-- A slice of texts as a walk sees it. -/
structure Strs (w : World) (a : Option Addr) (cap : Nat) (l : List ByteArray) : Prop where
  le : l.length ≤ cap
  max : cap ≤ 9223372036854775807
  text : ∀ s ∈ l, s.size ≤ maxLen
  at_ : l = [] ∨ ∃ b off, a = some ⟨b, off, none⟩ ∧ b < w.heap.size ∧ ∀ i, i < l.length → w.cell? ⟨b, off + i, none⟩ = some (.string (l.getD i ByteArray.empty))
theorem Strs.fr {S : Nat → Prop} {w w' : World} {a : Option Addr} {cap : Nat} {l : List ByteArray} (h : Strs w a cap l) (f : Fr S w w') (hn : ∀ b, b < w.heap.size → (∃ o, a = some ⟨b, o, none⟩) → ¬ S b) : Strs w' a cap l := by
  refine ⟨h.le, h.max, h.text, ?_⟩
  rcases h.at_ with h0 | ⟨b, off, ha, hb, hc⟩
  · exact .inl h0
  · refine .inr ⟨b, off, ha, Nat.lt_of_lt_of_le hb f.size, fun i hi => ?_⟩
    rw [f.cell (p := ⟨b, off + i, none⟩) hb (hn b hb ⟨off, ha⟩)]
    exact hc i hi
theorem Strs.same {w w' : World} {a : Option Addr} {cap : Nat} {l : List ByteArray} (h : Strs w a cap l) (f : Fr (fun _ => False) w w') : Strs w' a cap l := h.fr f (fun _ _ _ f => f)
theorem strs_get {l : List ByteArray} {i : Nat} (h : i < l.length) : l.getD i ByteArray.empty ∈ l := by
  rw [List.getD_eq_getElem?_getD, List.getElem?_eq_getElem h]; exact List.getElem_mem h
end Go.Proofs.YtnoadmkkkeianaaGreat

/- Nodes: what they hold, how they lie in memory, which are right, and how large they are. -/
namespace Go.Proofs.YtnoadmkkkeianaaGreat
open Go.RowKit

/-- A node's parts. -/
structure Nd where
  lev : Int
  lsn : Int
  rgt : Int
  high : ByteArray
  keys : List ByteArray
  vals : List ByteArray
  kids : List Int
/-- Where a node's lists lie. -/
structure Pt where
  k : Option Addr
  kc : Nat
  v : Option Addr
  vc : Nat
  i : Option Addr
  ic : Nat
/-- A slice of numbers as a walk sees it. -/
structure Ints (w : World) (a : Option Addr) (cap : Nat) (l : List Int) : Prop where
  le : l.length ≤ cap
  max : cap ≤ 9223372036854775807
  at_ : l = [] ∨ ∃ b off, a = some ⟨b, off, none⟩ ∧ b < w.heap.size ∧ ∀ i, i < l.length → w.cell? ⟨b, off + i, none⟩ = some (.int .i64 (l.getD i 0))
theorem Ints.same {w w' : World} {a : Option Addr} {cap : Nat} {l : List Int} (h : Ints w a cap l) (f : Fr (fun _ => False) w w') : Ints w' a cap l := by
  refine ⟨h.le, h.max, ?_⟩
  rcases h.at_ with h0 | ⟨b, off, ha, hb, hc⟩
  · exact .inl h0
  · refine .inr ⟨b, off, ha, Nat.lt_of_lt_of_le hb f.size, fun i hi => ?_⟩
    rw [f.cell (p := ⟨b, off + i, none⟩) hb (fun f => f)]
    exact hc i hi
/-- A node in memory. -/
structure Nod (w : World) (n : Nd) (p : Pt) : Prop where
  keys : Strs w p.k p.kc n.keys
  vals : Strs w p.v p.vc n.vals
  kids : Ints w p.i p.ic n.kids
  high : n.high.size ≤ 140737488351232
  ksz : ∀ s ∈ n.keys, s.size ≤ 140737488351232
  vsz : ∀ s ∈ n.vals, s.size ≤ 140737488351232
  klen : n.keys.length ≤ 140737488351232
  vlen : n.vals.length ≤ 140737488351232
  ilen : n.kids.length ≤ 140737488351232
theorem Nod.same {w w' : World} {n : Nd} {p : Pt} (h : Nod w n p) (f : Fr (fun _ => False) w w') : Nod w' n p :=
  ⟨h.keys.same f, h.vals.same f, h.kids.same f, h.high, h.ksz, h.vsz, h.klen, h.vlen, h.ilen⟩

/-- How many bytes texts need. -/
def tsz (l : List ByteArray) : Nat := (l.map fun (s : ByteArray) => s.size + 2).sum
theorem tsz_snoc (l : List ByteArray) (k : Nat) (h : k < l.length) : tsz (l.take (k + 1)) = tsz (l.take k) + ((l.getD k ByteArray.empty).size + 2) := by
  rw [List.take_succ_eq_append_getElem h, List.getD_eq_getElem?_getD, List.getElem?_eq_getElem h]
  simp only [tsz, List.map_append, List.sum_append, List.map_cons, List.map_nil, List.sum_cons, List.sum_nil, Option.getD_some]; omega
theorem tsz_le (l : List ByteArray) (m : Nat) (h : ∀ s ∈ l, s.size ≤ m) : tsz l ≤ l.length * (m + 2) := by
  induction l with
  | nil => simp [tsz]
  | cons x r ih =>
    have h1 := h x (by simp)
    have h2 := ih (fun s hs => h s (by simp [hs]))
    have e : tsz (x :: r) = (x.size + 2) + tsz r := by simp [tsz]
    rw [e, List.length_cons, Nat.succ_mul]; omega
def sizeN (n : Nd) : Nat := 21 + n.high.size + tsz n.keys + (if n.lev = 0 then tsz n.vals else 4 * n.kids.length)
def wthB (x a b : Int) : Bool := decide (a ≤ x ∧ x ≤ b)
def headB (n : Nd) : Bool := wthB n.lev 0 20 && (wthB n.lsn 0 1099511627776 && (wthB n.rgt 0 4096 && decide (n.high.size ≤ 16)))
/-- A key in its place. -/
abbrev kok (hi : ByteArray) (l : List ByteArray) (i : Nat) : Prop :=
  (1 ≤ (l.getD i ByteArray.empty).size ∧ (l.getD i ByteArray.empty).size ≤ 16) ∧ (0 < i → cpl (bsOf (l.getD (i - 1) ByteArray.empty)) (bsOf (l.getD i ByteArray.empty)) < 0) ∧ (hi.size ≠ 0 → cpl (bsOf (l.getD i ByteArray.empty)) (bsOf hi) < 0)
def keysB (n : Nd) : Bool := decide (∀ i, i < n.keys.length → kok n.high n.keys i)
def valsB (l : List ByteArray) : Bool := decide (∀ i, i < l.length → (l.getD i ByteArray.empty).size ≤ 32)
def kidsB (l : List Int) : Bool := decide (∀ i, i < l.length → wthB (l.getD i 0) 1 4096 = true)
def entB (n : Nd) : Bool := if n.lev = 0 then (n.vals.length == n.keys.length) && ((n.kids.length == 0) && valsB n.vals) else (n.kids.length == n.keys.length + 1) && ((n.vals.length == 0) && kidsB n.kids)
/-- Whether a node is right. -/
def rightB (n : Nd) : Bool := headB n && (keysB n && (entB n && decide (sizeN n ≤ 256)))
theorem keysB_no {n : Nd} (i : Nat) (hi : i < n.keys.length) (h : ¬ kok n.high n.keys i) : keysB n = false := by
  unfold keysB; rw [decide_eq_false_iff_not]; exact fun f => h (f i hi)
theorem keysB_yes {n : Nd} (h : ∀ i, i < n.keys.length → kok n.high n.keys i) : keysB n = true := by unfold keysB; rw [decide_eq_true_eq]; exact h
theorem keysB_of {n : Nd} (h : keysB n = true) : ∀ i, i < n.keys.length → kok n.high n.keys i := by unfold keysB at h; rwa [decide_eq_true_eq] at h
theorem valsB_no {l : List ByteArray} (i : Nat) (hi : i < l.length) (h : ¬ (l.getD i ByteArray.empty).size ≤ 32) : valsB l = false := by
  unfold valsB; rw [decide_eq_false_iff_not]; exact fun f => h (f i hi)
theorem valsB_yes {l : List ByteArray} (h : ∀ i, i < l.length → (l.getD i ByteArray.empty).size ≤ 32) : valsB l = true := by unfold valsB; rw [decide_eq_true_eq]; exact h
theorem valsB_of {l : List ByteArray} (h : valsB l = true) : ∀ i, i < l.length → (l.getD i ByteArray.empty).size ≤ 32 := by unfold valsB at h; rwa [decide_eq_true_eq] at h
theorem kidsB_no {l : List Int} (i : Nat) (hi : i < l.length) (h : ¬ wthB (l.getD i 0) 1 4096 = true) : kidsB l = false := by
  unfold kidsB; rw [decide_eq_false_iff_not]; exact fun f => h (f i hi)
theorem kidsB_yes {l : List Int} (h : ∀ i, i < l.length → wthB (l.getD i 0) 1 4096 = true) : kidsB l = true := by unfold kidsB; rw [decide_eq_true_eq]; exact h
theorem kidsB_of {l : List Int} (h : kidsB l = true) : ∀ i, i < l.length → wthB (l.getD i 0) 1 4096 = true := by unfold kidsB at h; rwa [decide_eq_true_eq] at h
end Go.Proofs.YtnoadmkkkeianaaGreat
