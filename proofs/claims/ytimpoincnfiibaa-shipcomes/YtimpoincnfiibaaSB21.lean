
/- NdPart. -/
import Derived.Test.YtimpoincnfiibaaSB20
import Derived.Test.YtimpoincnfiibaaSB13
/- Parts of a node: what piece, parted, Left and Rest make. -/
namespace Go.Proofs.Ytimpoincnfiibaa
open Go.RowKit
attribute [local go_sem ↓] slS_eq slI_eq

theorem Fr.blk {S : Nat → Prop} {w w' : World} (f : Fr S w w') {k : Nat} {o : Obj} (h : w.heap[k]? = some o) (hn : ¬ S k) : w'.heap[k]? = some o := by
  rw [f.block k (lt_of_block h) hn]; exact h
/-- The entries from b on, ahead of e. -/
def pieceN (n : Nd) (b e : Nat) : Nd := ⟨n.lev, n.lsn, n.rgt, n.high, (n.keys.take e).drop b, if n.lev = 0 then (n.vals.take e).drop b else [], if n.lev = 0 then [] else (n.kids.take (e + 1)).drop b⟩
/-- What a call leaves that answers a node. -/
def NdOut (m : Nd) (w : World) (e : Ending) (w' : World) : Prop := ∃ p : Pt, e = .returned (.agg #[.int .i64 m.lev, .int .i64 m.lsn, .int .i64 m.rgt, .string m.high, .slice p.k m.keys.length p.kc, .slice p.v m.vals.length p.vc, .slice p.i m.kids.length p.ic]) ∧ Nod w' m p ∧ (∀ b off, (p.k = some ⟨b, off, none⟩ ∨ p.v = some ⟨b, off, none⟩ ∨ p.i = some ⟨b, off, none⟩) → w.heap.size ≤ b) ∧ Fr (fun _ => False) w w'
def NdOut2 (m : Nd) (err : Int) (w : World) (e : Ending) (w' : World) : Prop := ∃ p : Pt, e = .returned (.tuple #[(.agg #[.int .i64 m.lev, .int .i64 m.lsn, .int .i64 m.rgt, .string m.high, .slice p.k m.keys.length p.kc, .slice p.v m.vals.length p.vc, .slice p.i m.kids.length p.ic]), .int .i64 err]) ∧ Nod w' m p ∧ Fr (fun _ => False) w w' ∧ Nw w p
theorem strs_nil (w : World) : Strs w none 0 [] := ⟨Nat.le_refl _, by omega, (fun s hs => by cases hs), .inl rfl⟩
theorem ints_nil (w : World) : Ints w none 0 [] := ⟨Nat.le_refl _, by omega, .inl rfl⟩
theorem CpS.strs {w' : World} {l : List ByteArray} {a' : Option Addr} {c' : Nat} (h : Has w' 1 (.slice a' l.length c') l.length (strCells l)) (hz : ∀ s ∈ l, s.size ≤ 65535) : Strs w' a' c' l := by
  obtain ⟨a, c, e, hs⟩ := Has.strs h hz
  simp only [Value.slice.injEq, true_and] at e
  obtain ⟨rfl, rfl⟩ := e
  exact hs
theorem CpI.ints {w' : World} {l : List Int} {a' : Option Addr} {c' : Nat} (h : Has w' 1 (.slice a' l.length c') l.length (intCells l)) : Ints w' a' c' l := by
  obtain ⟨a, c, e, hs⟩ := Has.ints h
  simp only [Value.slice.injEq, true_and] at e
  obtain ⟨rfl, rfl⟩ := e
  exact hs
end Go.Proofs.Ytimpoincnfiibaa
