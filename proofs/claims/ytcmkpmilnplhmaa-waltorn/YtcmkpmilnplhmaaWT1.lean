
/- Base, Args, App, AppStr, AppW. -/
import Derived.Test.YtcmkpmilnplhmaaProg
import Derived.WalkKit
import Derived.WalkSpells
import Derived.WalkLawsBesides
import Derived.Laws.BitsAllLaws
import Derived.Laws.AppendOwnNone
import Derived.Deep.RegionHeld3
import Derived.Deep.AppendLies
import Derived.Deep.RegionLaw
import Derived.Deep.DrawnRows
import Derived.OneCell
import Derived.Outline
import Derived.Test.YtcmkpmilnplhmaaRows
import Derived.ProofKit
import Derived.OpenShut
import Derived.ShutString
import Derived.ChangeOld
import Derived.SizedLaws
import Derived.Deep.AppendSrc
import Derived.Laws.IdiomStrings
import Derived.Lib.AppendStr
import Derived.Deep.DeepAppendWide
/- Frames (what a call leaves as it was), rows of bytes in memory, and what an append makes of them. -/
namespace Go.Proofs.Ytcmkpmilnplhmaa
open Go.RowKit

/-- Outside of S the blocks that were there are as they were. -/
structure Fr (S : Nat → Prop) (w w' : World) : Prop where
  os : w'.os = w.os
  tape : w'.tape = w.tape
  output : w'.output = w.output
  size : w.heap.size ≤ w'.heap.size
  block : ∀ k, k < w.heap.size → ¬ S k → w'.heap[k]? = w.heap[k]?

theorem Fr.refl (S : Nat → Prop) (w : World) : Fr S w w := ⟨rfl, rfl, rfl, Nat.le_refl _, fun _ _ _ => rfl⟩
theorem Fr.trans {S T : Nat → Prop} {a b c : World} (h : Fr S a b) (k : Fr T b c) (hT : ∀ i, i < a.heap.size → T i → S i) : Fr S a c :=
  ⟨k.os.trans h.os, k.tape.trans h.tape, k.output.trans h.output, Nat.le_trans h.size k.size, fun i hi hs =>
    (k.block i (Nat.lt_of_lt_of_le hi h.size) (fun t => hs (hT i hi t))).trans (h.block i hi hs)⟩
theorem Fr.drew {S : Nat → Prop} {a w : World} (h : Fr S a w) : Fr S a w.drew := ⟨h.os, h.tape, h.output, h.size, h.block⟩
theorem Fr.drewN {S : Nat → Prop} {a w : World} (h : Fr S a w) (n : Nat) : Fr S a (w.drewN n) := ⟨h.os, h.tape, h.output, h.size, h.block⟩
theorem Fr.alloc {S : Nat → Prop} {a w : World} (h : Fr S a w) (o : Obj) : Fr S a (w.alloc o) :=
  h.trans (T := fun _ => False) ⟨rfl, rfl, rfl, by simp, fun k hk _ => Below.heap_alloc _ _ _ hk⟩ (fun _ _ f => f.elim)
theorem Fr.setCell {S : Nat → Prop} {a w : World} (h : Fr S a w) {p : Addr} (hp : p.block < a.heap.size → S p.block) (u : Value) : Fr S a (w.setCell p u) :=
  h.trans (T := fun k => k = p.block) ⟨rfl, rfl, rfl, by simp [World.setCell], fun k _ hk => Below.heap_setCell _ _ _ _ hk⟩ (fun i hi e => by rw [e]; exact hp (e ▸ hi))
theorem Fr.grown {S : Nat → Prop} {a w w' : World} {row : Option Nat} (h : Fr S a w) (hg : w.grownBy w' row) (hr : ∀ k, row = some k → k < a.heap.size → S k) : Fr S a w' :=
  h.trans (T := fun k => row = some k) ⟨hg.os, hg.tape, hg.output, hg.size, fun k hk hn => hg.block k hk (fun e => hn e.symm)⟩ (fun i hi e => hr i e hi)
theorem Fr.of_below {S : Nat → Prop} {w w' : World} {B : Nat} (h : Below B w w') (hS : ∀ k, k < w.heap.size → ¬ S k → k < B) : Fr S w w' :=
  ⟨h.os, h.tape, h.output, h.size, fun k hk hn => h.block k (hS k hk hn)⟩
theorem Fr.below {S : Nat → Prop} {w w' : World} {B : Nat} (h : Fr S w w') (hB : B ≤ w.heap.size) (hS : ∀ k, S k → B ≤ k) : Below B w w' :=
  ⟨h.os, h.tape, h.output, h.size, fun k hk => h.block k (by omega) (fun s => by have := hS k s; omega)⟩
theorem Fr.mono {S T : Nat → Prop} {w w' : World} (h : Fr S w w') (hT : ∀ i, i < w.heap.size → S i → T i) : Fr T w w' :=
  ⟨h.os, h.tape, h.output, h.size, fun k hk hn => h.block k hk (fun s => hn (hT k hk s))⟩
theorem Fr.cell {S : Nat → Prop} {w w' : World} (h : Fr S w w') {p : Addr} (hp : p.block < w.heap.size) (hn : ¬ S p.block) : w'.cell? p = w.cell? p := World.cell?_of_block (h.block p.block hp hn)

/-- Bytes as cells. -/
def cellsOf (l : List Nat) : List Value := l.map fun (x : Nat) => Value.int .u8 (x : Int)
theorem cellsOf_length (l : List Nat) : (cellsOf l).length = l.length := by simp [cellsOf]
theorem cellsOf_append (l m : List Nat) : cellsOf (l ++ m) = cellsOf l ++ cellsOf m := by simp [cellsOf]
theorem cellsOf_one (x : Nat) : cellsOf [x] = [.int .u8 (x : Int)] := rfl
theorem cellsOf_get (l : List Nat) (i : Nat) (h : i < l.length) : (cellsOf l)[i]? = some (.int .u8 ((l.getD i 0 : Nat) : Int)) := by
  simp [cellsOf, List.getD_eq_getElem?_getD, h]
theorem cellsOf_oneCell (l : List Nat) : ∀ u ∈ cellsOf l, u.oneCell' = true := by
  intro u hu
  simp only [cellsOf, List.mem_map] at hu
  obtain ⟨x, _, rfl⟩ := hu
  rfl

/-- v is a slice of bytes of the call's own that holds l; its row is no block below base. -/
abbrev Mine (w : World) (base : Nat) (v : Value) (l : List Nat) : Prop := w.ownsRow base 5 1 v l.length (cellsOf l)

theorem Mine.fr {S : Nat → Prop} {w w' : World} {base : Nat} {v : Value} {l : List Nat} (h : Mine w base v l) (f : Fr S w w') (hn : ∀ k, v.ownBlock = some k → ¬ S k) : Mine w' base v l := by
  obtain ⟨h1, h2⟩ := h
  refine ⟨h1, ?_⟩
  rcases h2 with h2 | ⟨g, cap, cur, hv, hg, hh, r⟩
  · exact .inl h2
  · refine .inr ⟨g, cap, cur, hv, hg, ?_, r⟩
    rw [f.block g (lt_of_block hh) (hn g (by rw [hv]; rfl))]
    exact hh

/-- Bytes are below 256. -/
def octs (l : List Nat) : Prop := ∀ x ∈ l, x < 256
/-- A slice of bytes as a walk sees it: its elements l lie in memory. -/
structure Row (w : World) (a : Option Addr) (cap : Nat) (l : List Nat) : Prop where
  le : l.length ≤ cap
  max : cap ≤ 9223372036854775807
  small : l.length ≤ 140737600000000
  byte : octs l
  at_ : l = [] ∨ ∃ b off, a = some ⟨b, off, none⟩ ∧ b < w.heap.size ∧ ∀ i, i < l.length → w.cell? ⟨b, off + i, none⟩ = some (.int .u8 ((l.getD i 0 : Nat) : Int))

theorem take_snoc (l : List Nat) (k : Nat) (h : k < l.length) : l.take (k + 1) = l.take k ++ [l.getD k 0] := by
  rw [List.take_succ_eq_append_getElem h, List.getD_eq_getElem?_getD, List.getElem?_eq_getElem h]; rfl
theorem octs_take {l : List Nat} (h : octs l) (k : Nat) : octs (l.take k) := fun x hx => h x (List.mem_of_mem_take hx)
theorem octs_getD {l : List Nat} (h : octs l) (k : Nat) : l.getD k 0 < 256 := by
  rw [List.getD_eq_getElem?_getD]
  rcases Nat.lt_or_ge k l.length with hk | hk
  · rw [List.getElem?_eq_getElem hk]; exact h _ (List.getElem_mem hk)
  · rw [List.getElem?_eq_none hk]; simp

theorem ret_int {k : IntKind} {a b : Int} (h : a = b) : Ending.returned (.int k a) = .returned (.int k b) := by rw [h]
theorem val_int {k : IntKind} {a b : Int} (h : a = b) : Value.int k a = .int k b := by rw [h]


theorem info8 : (Try.prog.info? 5).map (fun i => (i.zero, i.size, i.bytes)) = some (some (.int .u8 0), 1, 1) := by kernel_rfl

/-- The number that bytes are, the lowest first. -/
def val : List Nat → Nat
  | [] => 0
  | x :: r => x + 256 * val r
theorem val_snoc (l : List Nat) (x : Nat) : val (l ++ [x]) = val l + x * 256 ^ l.length := by
  induction l with
  | nil => simp [val]
  | cons y l ih =>
    simp only [List.cons_append, val, ih, List.length_cons, Nat.pow_succ]
    rw [Nat.mul_add, Nat.mul_comm (256 ^ l.length) 256, ← Nat.mul_assoc x, Nat.mul_comm x 256, Nat.mul_assoc 256 x, Nat.add_assoc]
theorem val_lt {l : List Nat} (h : octs l) : val l < 256 ^ l.length := by
  induction l with
  | nil => simp [val]
  | cons y l ih =>
    have h1 := h y (by simp)
    have h2 := ih (fun x hx => h x (by simp [hx]))
    simp only [val, List.length_cons, Nat.pow_succ]
    omega
theorem pow_le8 {k : Nat} (h : k ≤ 8) : 256 ^ k ≤ 18446744073709551616 := by
  have := Nat.pow_le_pow_right (n := 256) (by omega) h
  simpa using this

end Go.Proofs.Ytcmkpmilnplhmaa

/- A slice of bytes that came in, as a row. -/
namespace Go.Proofs.Ytcmkpmilnplhmaa
open Go.ChangeShapes Go.WideShapes Go.ChangeAt Go.RowKit

theorem row_nil (w : World) (a : Option Addr) : Row w a 0 [] := ⟨Nat.le_refl _, by omega, by simp, (fun x hx => by cases hx), .inl rfl⟩
theorem row_of_ints {w : World} {x : Addr} {len cap : Nat} {zs : List Int} (hl : len ≤ cap) (hcap : cap ≤ 140737488351232) (hz : zs.length = cap)
    (hcell : ∀ i, i < zs.length → w.cell? (x.add i) = some (.int .u8 (zs.getD i 0))) (hwz : ∀ n ∈ zs, (Lit.int .u8 n).wf = true) : ∃ l : List Nat, len = l.length ∧ Row w (some x) cap l := by
  have hr := range_u8 hwz
  refine ⟨(zs.take len).map Int.toNat, by simp; omega, ?_⟩
  refine ⟨by simp; omega, by omega, by simp; omega, ?_, ?_⟩
  · intro y hy
    simp only [List.mem_map] at hy
    obtain ⟨z, hzm, rfl⟩ := hy
    have hz2 := List.mem_of_mem_take hzm
    obtain ⟨i, hi, he⟩ := List.getElem_of_mem hz2
    have := hr i
    rw [List.getElem?_eq_getElem hi, Option.getD_some, he] at this
    omega
  · by_cases h0 : len = 0
    · exact .inl (by simp [h0])
    · obtain ⟨b, off, spot⟩ := x
      have hc := hcell 0 (by omega)
      have hspot : spot = none := by simpa [Addr.add] using World.cell?_spot hc
      subst hspot
      refine .inr ⟨b, off, rfl, World.block_lt_of_cell? w ⟨b, off + 0, none⟩ (by rw [Addr.add_lit] at hc; exact hc), fun i hi => ?_⟩
      simp at hi
      have h1 := hcell i (by omega)
      rw [Addr.add_lit] at h1
      rw [h1]
      have h2 := hr i
      simp only [List.getD_eq_getElem?_getD, List.getElem?_map, List.getElem?_take, if_pos (show i < len by omega)]
      rw [List.getElem?_eq_getElem (show i < zs.length by omega)] at h2 ⊢
      simp only [Option.getD_some, Option.map_some] at h2 ⊢
      rw [Int.toNat_of_nonneg h2.1]
end Go.Proofs.Ytcmkpmilnplhmaa

/- What an append of bytes onto a slice of the call's own makes, wherever the bytes come from. -/
namespace Go.Proofs.Ytcmkpmilnplhmaa
open Go.RowKit

section
variable {P : Program} (w : World)

/-- The second argument's own type does not matter, if it is a slice's. -/
theorem append_type (t tx ty e e' : TypeId) (i : TypeInfo) (ht : P.underlying t = some (.slice e)) (htx : P.underlying tx = some (.slice e')) (hi : P.info? e = some i) (b : Option Addr) (n c : Nat) (x : Value) :
    (Builtin.append_ #[t, tx] ty #[.slice b n c, x]).run P w = (Builtin.append_ #[t, t] ty #[.slice b n c, x]).run P w := by
  simp [Builtin.append_, run_underlying ht, run_underlying htx, sizeOf, typeInfo, hi]
theorem Mine.slice {w : World} {base : Nat} {v : Value} {l : List Nat} (h : Mine w base v l) : ∃ a c, v = .slice a l.length c := by
  rcases h.2 with ⟨rfl, h0⟩ | ⟨g, cap, cur, rfl, _⟩
  · exact ⟨none, 0, by rw [h0]⟩
  · exact ⟨_, _, rfl⟩

theorem Row.news {w : World} {b off : Nat} {l : List Nat} (hc : ∀ i, i < l.length → w.cell? ⟨b, off + i, none⟩ = some (.int .u8 ((l.getD i 0 : Nat) : Int))) :
    ∀ j u, (cellsOf l)[j]? = some u → w.cell? ((⟨b, off, none⟩ : Addr).add j) = some u := by
  intro j u hu
  have hj : j < l.length := by
    rcases Nat.lt_or_ge j l.length with h | h
    · exact h
    · rw [List.getElem?_eq_none (by simpa [cellsOf] using h)] at hu; cases hu
  rw [cellsOf_get l j hj] at hu
  rw [Addr.add_lit, hc j hj]; exact hu

theorem run_append_row (t tx ty e' : TypeId) (i : TypeInfo) (ht : P.underlying t = some (.slice 5)) (htx : P.underlying tx = some (.slice e')) (hi : P.info? 5 = some i) (hz : i.zero = some (.int .u8 0)) (hs : i.size = 1) (hb : i.bytes = 1)
    (base : Nat) (v : Value) (l : List Nat) (hown : Mine w base v l) (a : Option Addr) (cap : Nat) (news : List Nat) (hr : Row w a cap news) (hbytes : l.length + news.length ≤ 140737488355328) (hbase : base ≤ w.heap.size) :
    ∃ v' w', (Builtin.append_ #[t, tx] ty #[v, .slice a news.length cap]).run P w = .ok v' w' ∧ Mine w' base v' (l ++ news) ∧ w.grownBy w' v.ownBlock ∧ (v'.ownBlock = v.ownBlock ∨ v'.ownBlock = some w.heap.size) := by
  have hty : (Builtin.append_ #[t, tx] ty #[v, .slice a news.length cap]).run P w = (Builtin.append_ #[t, t] ty #[v, .slice a news.length cap]).run P w := by
    obtain ⟨a', c', rfl⟩ := hown.slice
    exact append_type w t tx ty 5 e' i ht htx hi a' _ c' _
  rw [hty]
  rcases hr.at_ with h0 | ⟨b, off, rfl, _, hc⟩
  · subst h0
    refine ⟨v, w, ?_, by simpa using hown, ⟨rfl, rfl, rfl, Nat.le_refl _, fun _ _ _ => rfl⟩, .inl rfl⟩
    rcases hown.2 with ⟨rfl, hn⟩ | ⟨g, c, cur, rfl, _, _, hnc, _⟩
    · simp [Builtin.append_, run_underlying ht, sizeOf, typeInfo, hi, Builtin.lenOf, Builtin.firstCells, loadCells, loadCellsFrom]
      cases a <;> simp
    · simp [Builtin.append_, run_underlying ht, sizeOf, typeInfo, hi, Builtin.lenOf, Builtin.firstCells, loadCells, loadCellsFrom, hnc]
      cases a <;> simp [storeCells]
  · obtain ⟨v', w', h1, h2, h3, _, h5⟩ := run_append_own_at (P := P) w base t ty 5 i (.int .u8 0) 1 1 ht hi hz hs hb rfl (by omega) v l.length (cellsOf l) hown ⟨b, off, none⟩ news.length cap (cellsOf news) (by simp [cellsOf])
      (Row.news hc) (cellsOf_oneCell news) (by unfold maxLen; omega) (by omega) hbase
    refine ⟨v', w', h1, ?_, h3, h5⟩
    show w'.ownsRow base 5 1 v' (l ++ news).length (cellsOf (l ++ news))
    rw [cellsOf_append, List.length_append]; exact h2

theorem wp_append_row {o : Oper} {ac : Act} {K : Act → World → Prop} {Q : Exit → Act → World → Prop} (s x : Operand) (t tx e' : TypeId)
    (ho : o.op = .call { callee := .builtin .append, args := #[s, x], argTypes := #[t, tx] }) (i : TypeInfo) (ht : P.underlying t = some (.slice 5)) (htx : P.underlying tx = some (.slice e')) (hi : P.info? 5 = some i) (hz : i.zero = some (.int .u8 0)) (hs : i.size = 1) (hb : i.bytes = 1)
    (base : Nat) (v : Value) (l : List Nat) (hse : ac.eval s = v) (hown : Mine w base v l) (a : Option Addr) (n cap : Nat) (news : List Nat) (hn : n = news.length) (hxe : ac.eval x = .slice a n cap) (hr : Row w a cap news) (hbytes : l.length + news.length ≤ 140737488355328) (hbase : base ≤ w.heap.size)
    (h : ∀ a' c' w', Mine w' base (.slice a' (l.length + news.length) c') (l ++ news) → w.grownBy w' v.ownBlock → ((Value.slice a' (l.length + news.length) c').ownBlock = v.ownBlock ∨ (Value.slice a' (l.length + news.length) c').ownBlock = some w.heap.size) → K (ac.put o.dst (.slice a' (l.length + news.length) c')) w') : o.wp P ac w K Q := by
  subst hn
  obtain ⟨v', w', hrun, h2, h3, h4⟩ := run_append_row (P := P) w t tx o.type e' i ht htx hi hz hs hb base v l hown a cap news hr hbytes hbase
  unfold Oper.wp execOp
  simp only [ho, resolve, invoke, builtin, Sem.run_bind, Sem.run_pure, Result.andThen_ok, List.map_toArray, List.map_cons, List.map_nil, hse, hxe, hrun]
  obtain ⟨a', c', rfl⟩ := h2.slice
  rw [List.length_append] at h2 h4 ⊢
  exact h a' c' w' h2 h3 h4

theorem wpList_append_row {ops : Array Oper} {rest : List Oper} {o : Oper} {ac : Act} {Q : Exit → Act → World → Prop} (hgd : o.guard = none) (s x : Operand) (t tx e' : TypeId)
    (ho : o.op = .call { callee := .builtin .append, args := #[s, x], argTypes := #[t, tx] }) (i : TypeInfo) (ht : P.underlying t = some (.slice 5)) (htx : P.underlying tx = some (.slice e')) (hi : P.info? 5 = some i) (hz : i.zero = some (.int .u8 0)) (hs : i.size = 1) (hb : i.bytes = 1)
    (base : Nat) (v : Value) (l : List Nat) (hse : ac.eval s = v) (hown : Mine w base v l) (a : Option Addr) (n cap : Nat) (news : List Nat) (hn : n = news.length) (hxe : ac.eval x = .slice a n cap) (hr : Row w a cap news) (hbytes : l.length + news.length ≤ 140737488355328) (hbase : base ≤ w.heap.size)
    (h : ∀ a' c' w', Mine w' base (.slice a' (l.length + news.length) c') (l ++ news) → w.grownBy w' v.ownBlock → ((Value.slice a' (l.length + news.length) c').ownBlock = v.ownBlock ∨ (Value.slice a' (l.length + news.length) c').ownBlock = some w.heap.size) → wpList P ops Q rest (ac.put o.dst (.slice a' (l.length + news.length) c')) w') : wpList P ops Q (o :: rest) ac w :=
  wpList_plain hgd fun _ hK => wp_append_row w s x t tx e' ho i ht htx hi hz hs hb base v l hse hown a n cap news hn hxe hr hbytes hbase fun a' c' w' h2 h3 h4 => hK _ _ (h a' c' w' h2 h3 h4)

end

/-- What is owned is a row of bytes, and its value a slice. -/
theorem Mine.row {w : World} {base : Nat} {v : Value} {l : List Nat} (h : Mine w base v l) (hl : octs l) (hs : l.length ≤ 140737488355328) : ∃ a c, v = .slice a l.length c ∧ Row w a c l := by
  rcases h.2 with ⟨rfl, h0⟩ | ⟨g, cap, cur, rfl, hg, hh, hnc, hcm, hcs, htake⟩
  · have : l = [] := List.eq_nil_of_length_eq_zero h0
    subst this
    exact ⟨none, 0, rfl, Nat.le_refl _, by omega, by omega, hl, .inl rfl⟩
  · refine ⟨_, cap, rfl, hnc, by unfold maxLen at hcm; omega, by omega, hl, .inr ⟨g, 0, rfl, lt_of_block hh, fun i hi => ?_⟩⟩
    have := h.cells (g := g) rfl i _ (cellsOf_get l i hi)
    rw [Addr.add_lit] at this
    exact this

/-- Bytes as a string. -/
def strOf (l : List Nat) : ByteArray := ⟨(l.map fun (x : Nat) => UInt8.ofNat x).toArray⟩
theorem strOf_toList (l : List Nat) : (strOf l).toList = l.map fun (x : Nat) => UInt8.ofNat x := by
  rw [ByteArray.toList_eq]; simp [strOf]
theorem ofNat_inj {l m : List Nat} (hl : octs l) (hm : octs m) (h : (l.map fun (x : Nat) => UInt8.ofNat x) = m.map fun (x : Nat) => UInt8.ofNat x) : l = m := by
  induction l generalizing m with
  | nil => cases m with
    | nil => rfl
    | cons => simp at h
  | cons x l ih => cases m with
    | nil => simp at h
    | cons y m =>
      simp only [List.map_cons, List.cons.injEq] at h
      have hx := hl x (by simp)
      have hy := hm y (by simp)
      have e : x = y := by
        have := congrArg UInt8.toNat h.1
        simpa [Nat.mod_eq_of_lt hx, Nat.mod_eq_of_lt hy] using this
      rw [e, ih (fun z hz => hl z (by simp [hz])) (fun z hz => hm z (by simp [hz])) h.2]
theorem str_eq {l m : List Nat} (hl : octs l) (hm : octs m) : ((strOf l).toList == (strOf m).toList) = decide (l = m) := by
  rw [strOf_toList, strOf_toList, Bool.eq_iff_iff]
  simp only [beq_iff_eq, decide_eq_true_eq]
  exact ⟨ofNat_inj hl hm, fun h => by rw [h]⟩
theorem run_str {P : Program} {w : World} {src dst e : TypeId} {a : Option Addr} {cap : Nat} {l : List Nat} (hs : P.underlying src = some (.slice e)) (he : P.underlying e = some (.int .u8)) (hd : P.underlying dst = some .string)
    (hr : Row w a cap l) (n : Nat) (hn : n = l.length) : (convert src dst (.slice a n cap)).run P w = .ok (.string (strOf l)) w := by
  subst hn
  rcases hr.at_ with h0 | ⟨b, off, rfl, _, hc⟩
  · subst h0
    rw [run_convert_bytes_string w src dst e a _ cap hs he hd]
    cases a with
    | none => simp [Conv.bytesToString, strOf]; rfl
    | some x => exact run_bytesToString w x 0 cap [] (by simp [loadCells, loadCellsFrom])
  · have hlen : (l.map fun (x : Nat) => UInt8.ofNat x).length = l.length := by simp
    have := run_convert_bytes_back (P := P) w src dst e ⟨b, off, none⟩ cap (l.map fun (x : Nat) => UInt8.ofNat x) hs he hd (fun j hj => by
      rw [hlen] at hj
      rw [Addr.add_lit, hc j hj]
      have hb := hr.byte _ (List.getElem_mem hj)
      simp [List.getD_eq_getElem?_getD, hj, Nat.mod_eq_of_lt hb])
    rw [hlen] at this
    exact this
end Go.Proofs.Ytcmkpmilnplhmaa

/- What an append of a text's bytes onto a slice of the call's own makes. -/
namespace Go.Proofs.Ytcmkpmilnplhmaa
open Go.RowKit

/-- A text's bytes. -/
def bsOf (s : ByteArray) : List Nat := s.data.toList.map UInt8.toNat
theorem bsOf_length (s : ByteArray) : (bsOf s).length = s.size := by
  unfold bsOf; rw [List.length_map, Array.length_toList]; rfl
theorem bsOf_octs (s : ByteArray) : octs (bsOf s) := by
  intro x hx
  simp only [bsOf, List.mem_map] at hx
  obtain ⟨b, _, rfl⟩ := hx
  exact b.toNat_lt
theorem strOf_bsOf (s : ByteArray) : strOf (bsOf s) = s := by
  unfold strOf bsOf
  rw [List.map_map]
  have e : ((fun (x : Nat) => UInt8.ofNat x) ∘ UInt8.toNat) = id := by funext b; simp
  rw [e, List.map_id]
theorem cells_bsOf (s : ByteArray) : Lib.strCells s = cellsOf (bsOf s) := by
  unfold Lib.strCells cellsOf bsOf
  rw [List.map_map]; rfl

section
variable {P : Program} (w : World)

theorem run_append_str (t tx ty : TypeId) (i : TypeInfo) (ht : P.underlying t = some (.slice 5)) (htx : P.underlying tx = some .string) (hi : P.info? 5 = some i) (hz : i.zero = some (.int .u8 0)) (hs : i.size = 1) (hb : i.bytes = 1)
    (base : Nat) (v : Value) (l : List Nat) (hown : Mine w base v l) (s : ByteArray) (hbytes : l.length + s.size ≤ 140737488355328) (hbase : base ≤ w.heap.size) :
    ∃ v' w', (Builtin.append_ #[t, tx] ty #[v, .string s]).run P w = .ok v' w' ∧ Mine w' base v' (l ++ bsOf s) ∧ w.grownBy w' v.ownBlock ∧ (v'.ownBlock = v.ownBlock ∨ v'.ownBlock = some w.heap.size) := by
  obtain ⟨v', w', hr, h2, h3, h4⟩ := Lib.run_append_own_string (P := P) w base t tx ty 5 i ht htx hi hz hs hb v l.length (cellsOf l) hown s (by unfold maxLen; omega) hbytes hbase
  refine ⟨v', w', hr, ?_, h3, ?_⟩
  · show w'.ownsRow base 5 1 v' (l ++ bsOf s).length (cellsOf (l ++ bsOf s))
    rw [List.length_append, bsOf_length, cellsOf_append, ← cells_bsOf]; exact h2
  · have hS : Src P i.size tx (.string s) s.size (Go.byteCells s) w := by rw [hs]; exact Src.ofString w htx s
    rcases hown.2 with ⟨hv, h0⟩ | ⟨g, cap, cur, hv, hg, hh, hnc, hcm, hcs, htake⟩
    · by_cases hz0 : s.size = 0
      · have : v' = .slice none 0 0 := h4.mpr ⟨hv, hz0⟩
        exact .inl (by rw [this, hv])
      · have hgr := run_append_grow_src (P := P) w t tx ty 5 i (.int .u8 0) ht hi hz none 0 0 [] (run_firstCells_none w.drew i.size 0 0 0) (.string s) s.size (Go.byteCells s) hS (by omega) (by omega) (growslice_fits (by omega) (by rw [hb, Nat.mul_one]; omega))
        rw [hv, hgr] at hr
        simp only [Result.ok.injEq] at hr
        exact .inr (by rw [← hr.1]; rfl)
    · by_cases hroom : l.length + s.size ≤ cap
      · have hrm := run_append_room_src (P := P) w t tx ty 5 i ht hi g 0 l.length cap (.string s) s.size (Go.byteCells s) hS hroom
          (fun j hj => by
            rw [Go.byteCells_length] at hj
            rw [cell_of_row w g _ cur 5 (0, 0) hh, Array.getElem?_eq_getElem (by rw [hcs, hs]; omega)]; rfl)
          (fun j _ => frozen_of_row w g _ cur 5 hh)
        rw [hv, hrm] at hr
        simp only [Result.ok.injEq] at hr
        exact .inl (by rw [← hr.1, hv]; rfl)
      · have hgr := run_append_grow_src (P := P) w t tx ty 5 i (.int .u8 0) ht hi hz (some ⟨g, 0, none⟩) l.length cap (cellsOf l)
          (run_firstCells_some w.drew i.size l.length ⟨g, 0, none⟩ l.length cap (cellsOf l) (by rw [hs, cellsOf_length]; omega) (fun j u hu => hown.cells (g := g) (by rw [hv]; rfl) j u hu))
          (.string s) s.size (Go.byteCells s) hS (by omega) (by omega) (growslice_fits (by omega) (by rw [hb, Nat.mul_one]; exact hbytes))
        rw [hv, hgr] at hr
        simp only [Result.ok.injEq] at hr
        exact .inr (by rw [← hr.1]; rfl)

theorem wp_append_str {o : Oper} {ac : Act} {K : Act → World → Prop} {Q : Exit → Act → World → Prop} (sl x : Operand) (t tx : TypeId)
    (ho : o.op = .call { callee := .builtin .append, args := #[sl, x], argTypes := #[t, tx] }) (i : TypeInfo) (ht : P.underlying t = some (.slice 5)) (htx : P.underlying tx = some .string) (hi : P.info? 5 = some i) (hz : i.zero = some (.int .u8 0)) (hs : i.size = 1) (hb : i.bytes = 1)
    (base : Nat) (v : Value) (l : List Nat) (hse : ac.eval sl = v) (hown : Mine w base v l) (s : ByteArray) (hxe : ac.eval x = .string s) (hbytes : l.length + s.size ≤ 140737488355328) (hbase : base ≤ w.heap.size)
    (h : ∀ a' c' w', Mine w' base (.slice a' (l.length + s.size) c') (l ++ bsOf s) → w.grownBy w' v.ownBlock → ((Value.slice a' (l.length + s.size) c').ownBlock = v.ownBlock ∨ (Value.slice a' (l.length + s.size) c').ownBlock = some w.heap.size) → K (ac.put o.dst (.slice a' (l.length + s.size) c')) w') : o.wp P ac w K Q := by
  obtain ⟨v', w', hrun, h2, h3, h4⟩ := run_append_str (P := P) w t tx o.type i ht htx hi hz hs hb base v l hown s hbytes hbase
  unfold Oper.wp execOp
  simp only [ho, resolve, invoke, builtin, Sem.run_bind, Sem.run_pure, Result.andThen_ok, List.map_toArray, List.map_cons, List.map_nil, hse, hxe, hrun]
  obtain ⟨a', c', rfl⟩ := h2.slice
  rw [List.length_append, bsOf_length] at h2 h4 ⊢
  exact h a' c' w' h2 h3 h4

theorem wpList_append_str {ops : Array Oper} {rest : List Oper} {o : Oper} {ac : Act} {Q : Exit → Act → World → Prop} (hgd : o.guard = none) (sl x : Operand) (t tx : TypeId)
    (ho : o.op = .call { callee := .builtin .append, args := #[sl, x], argTypes := #[t, tx] }) (i : TypeInfo) (ht : P.underlying t = some (.slice 5)) (htx : P.underlying tx = some .string) (hi : P.info? 5 = some i) (hz : i.zero = some (.int .u8 0)) (hs : i.size = 1) (hb : i.bytes = 1)
    (base : Nat) (v : Value) (l : List Nat) (hse : ac.eval sl = v) (hown : Mine w base v l) (s : ByteArray) (hxe : ac.eval x = .string s) (hbytes : l.length + s.size ≤ 140737488355328) (hbase : base ≤ w.heap.size)
    (h : ∀ a' c' w', Mine w' base (.slice a' (l.length + s.size) c') (l ++ bsOf s) → w.grownBy w' v.ownBlock → ((Value.slice a' (l.length + s.size) c').ownBlock = v.ownBlock ∨ (Value.slice a' (l.length + s.size) c').ownBlock = some w.heap.size) → wpList P ops Q rest (ac.put o.dst (.slice a' (l.length + s.size) c')) w') : wpList P ops Q (o :: rest) ac w :=
  wpList_plain hgd fun _ hK => wp_append_str w sl x t tx ho i ht htx hi hz hs hb base v l hse hown s hxe hbytes hbase fun a' c' w' h2 h3 h4 => hK _ _ (h a' c' w' h2 h3 h4)
end
end Go.Proofs.Ytcmkpmilnplhmaa

/- An append of bytes onto a slice of the call's own, of more bytes than an argument may have by itself. -/
namespace Go.Proofs.Ytcmkpmilnplhmaa
open Go.RowKit

section
variable {P : Program} (w : World)

theorem run_append_rowW (t tx ty e' : TypeId) (i : TypeInfo) (ht : P.underlying t = some (.slice 5)) (htx : P.underlying tx = some (.slice e')) (hi : P.info? 5 = some i) (hz : i.zero = some (.int .u8 0)) (hs : i.size = 1) (hb : i.bytes = 1)
    (base : Nat) (v : Value) (l : List Nat) (hown : Mine w base v l) (a : Option Addr) (cap : Nat) (news : List Nat) (hr : Row w a cap news) (hbytes : l.length + news.length ≤ 140737600000000) (hbase : base ≤ w.heap.size) :
    ∃ v' w', (Builtin.append_ #[t, tx] ty #[v, .slice a news.length cap]).run P w = .ok v' w' ∧ Mine w' base v' (l ++ news) ∧ w.grownBy w' v.ownBlock := by
  have hty : (Builtin.append_ #[t, tx] ty #[v, .slice a news.length cap]).run P w = (Builtin.append_ #[t, t] ty #[v, .slice a news.length cap]).run P w := by
    obtain ⟨a', c', rfl⟩ := hown.slice
    exact append_type w t tx ty 5 e' i ht htx hi a' _ c' _
  rw [hty]
  rcases hr.at_ with h0 | ⟨b, off, rfl, _, hc⟩
  · subst h0
    refine ⟨v, w, ?_, by simpa using hown, ⟨rfl, rfl, rfl, Nat.le_refl _, fun _ _ _ => rfl⟩⟩
    rcases hown.2 with ⟨rfl, hn⟩ | ⟨g, c, cur, rfl, _, _, hnc, _⟩
    · simp [Builtin.append_, run_underlying ht, sizeOf, typeInfo, hi, Builtin.lenOf, Builtin.firstCells, loadCells, loadCellsFrom]
      cases a <;> simp
    · simp [Builtin.append_, run_underlying ht, sizeOf, typeInfo, hi, Builtin.lenOf, Builtin.firstCells, loadCells, loadCellsFrom, hnc]
      cases a <;> simp [storeCells]
  · obtain ⟨v', w', h1, h2, h3, _⟩ := run_append_own_wide (P := P) w base t ty 5 i (.int .u8 0) 1 1 ht hi hz hs hb rfl (by omega) v l.length (cellsOf l) hown ⟨b, off, none⟩ news.length cap (cellsOf news) (by simp [cellsOf])
      (Row.news hc) (cellsOf_oneCell news) (by unfold maxLen; omega) (by omega) hbase
    refine ⟨v', w', h1, ?_, h3⟩
    show w'.ownsRow base 5 1 v' (l ++ news).length (cellsOf (l ++ news))
    rw [cellsOf_append, List.length_append]; exact h2

theorem wp_append_rowW {o : Oper} {ac : Act} {K : Act → World → Prop} {Q : Exit → Act → World → Prop} (s x : Operand) (t tx e' : TypeId)
    (ho : o.op = .call { callee := .builtin .append, args := #[s, x], argTypes := #[t, tx] }) (i : TypeInfo) (ht : P.underlying t = some (.slice 5)) (htx : P.underlying tx = some (.slice e')) (hi : P.info? 5 = some i) (hz : i.zero = some (.int .u8 0)) (hs : i.size = 1) (hb : i.bytes = 1)
    (base : Nat) (v : Value) (l : List Nat) (hse : ac.eval s = v) (hown : Mine w base v l) (a : Option Addr) (n cap : Nat) (news : List Nat) (hn : n = news.length) (hxe : ac.eval x = .slice a n cap) (hr : Row w a cap news) (hbytes : l.length + news.length ≤ 140737600000000) (hbase : base ≤ w.heap.size)
    (h : ∀ a' c' w', Mine w' base (.slice a' (l.length + news.length) c') (l ++ news) → w.grownBy w' v.ownBlock → K (ac.put o.dst (.slice a' (l.length + news.length) c')) w') : o.wp P ac w K Q := by
  subst hn
  obtain ⟨v', w', hrun, h2, h3⟩ := run_append_rowW (P := P) w t tx o.type e' i ht htx hi hz hs hb base v l hown a cap news hr hbytes hbase
  unfold Oper.wp execOp
  simp only [ho, resolve, invoke, builtin, Sem.run_bind, Sem.run_pure, Result.andThen_ok, List.map_toArray, List.map_cons, List.map_nil, hse, hxe, hrun]
  obtain ⟨a', c', rfl⟩ := h2.slice
  rw [List.length_append] at h2 ⊢
  exact h a' c' w' h2 h3

theorem wpList_append_rowW {ops : Array Oper} {rest : List Oper} {o : Oper} {ac : Act} {Q : Exit → Act → World → Prop} (hgd : o.guard = none) (s x : Operand) (t tx e' : TypeId)
    (ho : o.op = .call { callee := .builtin .append, args := #[s, x], argTypes := #[t, tx] }) (i : TypeInfo) (ht : P.underlying t = some (.slice 5)) (htx : P.underlying tx = some (.slice e')) (hi : P.info? 5 = some i) (hz : i.zero = some (.int .u8 0)) (hs : i.size = 1) (hb : i.bytes = 1)
    (base : Nat) (v : Value) (l : List Nat) (hse : ac.eval s = v) (hown : Mine w base v l) (a : Option Addr) (n cap : Nat) (news : List Nat) (hn : n = news.length) (hxe : ac.eval x = .slice a n cap) (hr : Row w a cap news) (hbytes : l.length + news.length ≤ 140737600000000) (hbase : base ≤ w.heap.size)
    (h : ∀ a' c' w', Mine w' base (.slice a' (l.length + news.length) c') (l ++ news) → w.grownBy w' v.ownBlock → wpList P ops Q rest (ac.put o.dst (.slice a' (l.length + news.length) c')) w') : wpList P ops Q (o :: rest) ac w :=
  wpList_plain hgd fun _ hK => wp_append_rowW w s x t tx e' ho i ht htx hi hz hs hb base v l hse hown a n cap news hn hxe hr hbytes hbase fun a' c' w' h2 h3 => hK _ _ (h a' c' w' h2 h3)

end

theorem Mine.rowW {w : World} {base : Nat} {v : Value} {l : List Nat} (h : Mine w base v l) (hl : octs l) (hs : l.length ≤ 140737600000000) : ∃ a c, v = .slice a l.length c ∧ Row w a c l := by
  rcases h.2 with ⟨rfl, h0⟩ | ⟨g, cap, cur, rfl, hg, hh, hnc, hcm, hcs, htake⟩
  · have : l = [] := List.eq_nil_of_length_eq_zero h0
    subst this
    exact ⟨none, 0, rfl, Nat.le_refl _, by omega, by omega, hl, .inl rfl⟩
  · refine ⟨_, cap, rfl, hnc, by unfold maxLen at hcm; omega, by omega, hl, .inr ⟨g, 0, rfl, lt_of_block hh, fun i hi => ?_⟩⟩
    have := h.cells (g := g) rfl i _ (cellsOf_get l i hi)
    rw [Addr.add_lit] at this
    exact this

end Go.Proofs.Ytcmkpmilnplhmaa
