
/- A page of a row with its low end; rows that a loop over an iterator gathers. -/
import Derived.Test.YtnckmajfmkkpgaaGreatOver
import Derived.Test.YtnckmajfmkkpgaaGreatBB13
import Derived.Test.YtnckmajfmkkpgaaGreatBB3
import Derived.Test.YtnckmajfmkkpgaaGreatBB20
import Derived.Shelf.Abstract
import Derived.Shelf.RegionOpen
import Derived.WalkKit
import Derived.OwnWalkIn
import Derived.TacticsInMore
import Derived.LoopNIn
import Derived.LoopIn
namespace Go.Proofs.YtnckmajfmkkpgaaGreat
open Go.RowKit Go.Shelf
attribute [local go_sem] Oper.semAt_some

/-- A page of a row, with its low end. -/
structure Spt where
  page : Int
  nd : Nd
  pt : Pt
  low : ByteArray
def spC (s : Spt) : List Value := [.int .i64 s.page, .int .i64 s.nd.lev, .int .i64 s.nd.lsn, .int .i64 s.nd.rgt, .string s.nd.high, .slice s.pt.k s.nd.keys.length s.pt.kc, .slice s.pt.v s.nd.vals.length s.pt.vc, .slice s.pt.i s.nd.kids.length s.pt.ic, .string s.low]
theorem spC_length (s : Spt) : (spC s).length = 9 := rfl
theorem spC_one (s : Spt) : ∀ u ∈ spC s, u.oneCell' = true := by
  intro u hu
  simp only [spC, List.mem_cons, List.not_mem_nil, or_false] at hu
  rcases hu with h | h | h | h | h | h | h | h | h <;> (subst h; rfl)
theorem sp_range {w : World} {b o : Nat} {s : Spt} (h : w.rangeAt b o (spC s)) : (w.cell? ⟨b, o, none⟩ = some (.int .i64 s.page) ∧ w.cell? ⟨b, o + 1, none⟩ = some (.int .i64 s.nd.lev) ∧ w.cell? ⟨b, o + 2, none⟩ = some (.int .i64 s.nd.lsn) ∧ w.cell? ⟨b, o + 3, none⟩ = some (.int .i64 s.nd.rgt) ∧ w.cell? ⟨b, o + 4, none⟩ = some (.string s.nd.high) ∧ w.cell? ⟨b, o + 5, none⟩ = some (.slice s.pt.k s.nd.keys.length s.pt.kc) ∧ w.cell? ⟨b, o + 6, none⟩ = some (.slice s.pt.v s.nd.vals.length s.pt.vc) ∧ w.cell? ⟨b, o + 7, none⟩ = some (.slice s.pt.i s.nd.kids.length s.pt.ic) ∧ w.cell? ⟨b, o + 8, none⟩ = some (.string s.low)) :=
  ⟨h 0 _ rfl, h 1 _ rfl, h 2 _ rfl, h 3 _ rfl, h 4 _ rfl, h 5 _ rfl, h 6 _ rfl, h 7 _ rfl, h 8 _ rfl⟩
theorem wpListIn_append_has {F : Fence} {nd : Nat} {P : Program} (w : World) {ops : Array Oper} {rest : List Oper} {o : Oper} {ac : Act} {Q : Exit → Act → World → Prop} (hgd : o.guard = none) (s x : Operand) (t tx e e' : TypeId)
    (ho : o.op = .call { callee := .builtin .append, args := #[s, x], argTypes := #[t, tx] }) (i : TypeInfo) (z : Value) (size bytes : Nat) (ht : P.underlying t = some (.slice e)) (hx : P.underlying tx = some (.slice e')) (hi : P.info? e = some i) (hz : i.zero = some z)
    (hsize : i.size = size) (hby : i.bytes = bytes) (hzs : z.cells.size = size) (hsz : 0 < size)
    (v : Value) (n : Nat) (xs : List Value) (hse : ac.eval s = v) (hown : Has w size v n xs)
    (a : Option Addr) (m c : Nat) (news : List Value) (hxe : ac.eval x = .slice a m c) (hl : news.length = m * size) (hnews : From w a news) (h1 : ∀ u ∈ news, u.oneCell' = true)
    (h63 : n + m ≤ maxLen) (hbytes : (n + m) * bytes ≤ 140737488355328)
    (h : ∀ a' c' w', Has w' size (.slice a' (n + m) c') (n + m) (xs ++ news) → Fr (fun k => v.ownBlock = some k ∧ 0 < m) w w' → ((Value.slice a' (n + m) c').ownBlock = v.ownBlock ∨ (Value.slice a' (n + m) c').ownBlock = some w.heap.size) → wpListIn F nd P ops Q rest (ac.put o.dst (.slice a' (n + m) c')) w') : wpListIn F nd P ops Q (o :: rest) ac w := by
  refine wpListIn_plain hgd fun K hK' => ?_
  obtain ⟨v', w', hrun, h2, h3, h4⟩ := run_append_has (P := P) w t tx o.type e e' i z size bytes ht hx hi hz hsize hby hzs hsz v n xs hown a m c news hl hnews h1 h63 hbytes
  obtain ⟨a', c', rfl, _⟩ := h2.slice
  unfold Oper.wpIn
  refine ⟨?_, ?_⟩
  · simp [Oper.about, ho, resolve, Target.leads, Sem.run_pure]
  · rw [Oper.semAt_plain F _ _ (by rw [ho]; intro c hc'; cases hc')]
    simp [execOp, ho, resolve, invoke, builtin, hse, hxe, hrun, Result.andThen]
    exact hK' _ _ (h a' c' w' h2 h3 h4)
theorem one_cells {W : World} {B : Nat} {v : Value} {t : TypeId} (h : W.heap[B]? = some (.cells #[v] t (0, 0))) : W.cell? ⟨B, 0, none⟩ = some v ∧ W.frozen? ⟨B, 0, none⟩ = false := by
  constructor <;> simp [World.cell?, World.frozen?, h]
theorem one_setCell {W : World} {B : Nat} {v : Value} {t : TypeId} (h : W.heap[B]? = some (.cells #[v] t (0, 0))) (u : Value) : (W.setCell ⟨B, 0, none⟩ u).heap[B]? = some (.cells #[u] t (0, 0)) := by
  obtain ⟨hlt, he⟩ := Array.getElem?_eq_some_iff.1 h
  show (W.heap.modify B _)[B]? = _
  rw [Array.getElem?_eq_getElem (by rw [Array.size_modify]; exact hlt), Array.getElem_modify_self, he]
  rfl
/-- A row that is being gathered: its slice lies in a box, its memory in blocks that are new. -/
structure Gat (W : World) (B lo : Nat) (t : TypeId) (sz : Nat) (v : Value) (n : Nat) (cs : List Value) : Prop where
  blk : W.heap[B]? = some (.cells #[v] t (0, 0))
  has : Has W sz v n cs
  own : ∀ g, v.ownBlock = some g → lo ≤ g
  low : B < lo
theorem Gat.fr {S : Nat → Prop} {W W' : World} {B lo : Nat} {t : TypeId} {sz : Nat} {v : Value} {n : Nat} {cs : List Value} (h : Gat W B lo t sz v n cs) (f : Fr S W W') (hB : ¬ S B) (hS : ∀ k, lo ≤ k → ¬ S k) : Gat W' B lo t sz v n cs :=
  ⟨f.blk h.blk hB, h.has.fr f (fun k hk => hS k (h.own k hk)), h.own, h.low⟩
theorem Gat.next {W W8 : World} {B lo : Nat} {t : TypeId} {sz : Nat} {v v4 : Value} {n : Nat} {cs news : List Value} (h : Gat W B lo t sz v n cs) (hlo : lo ≤ W.heap.size) (ht : Has W8 sz v4 (n + 1) (cs ++ news)) (f : Fr (fun k => v.ownBlock = some k ∧ 0 < 1) W W8) (hat : v4.ownBlock = v.ownBlock ∨ v4.ownBlock = some W.heap.size) :
    W8.heap[B]? = some (.cells #[v] t (0, 0)) ∧ Gat (W8.setCell ⟨B, 0, none⟩ v4) B lo t sz v4 (n + 1) (cs ++ news) ∧ Fr (fun k => k = B ∨ v.ownBlock = some k) W (W8.setCell ⟨B, 0, none⟩ v4) := by
  have hb : W8.heap[B]? = some (.cells #[v] t (0, 0)) := f.blk h.blk (fun e => by have := h.own _ e.1; have := h.low; omega)
  have ho : ∀ g, v4.ownBlock = some g → lo ≤ g := fun g e => by
    rcases hat with e1 | e1
    · rw [e1] at e; exact h.own g e
    · rw [e1] at e; simp at e; omega
  have fs : Fr (fun k => k = B) W8 (W8.setCell ⟨B, 0, none⟩ v4) := (Fr.refl (fun k => k = B) W8).setCell (p := ⟨B, 0, none⟩) (fun _ => rfl) v4
  refine ⟨hb, ⟨one_setCell hb v4, ht.fr fs (fun k hk e => by have := ho k hk; have := h.low; omega), ho, h.low⟩, ?_⟩
  exact (f.widen (fun k e => .inr e.1)).trans fs (fun i _ e => .inl e)
end Go.Proofs.YtnckmajfmkkpgaaGreat
