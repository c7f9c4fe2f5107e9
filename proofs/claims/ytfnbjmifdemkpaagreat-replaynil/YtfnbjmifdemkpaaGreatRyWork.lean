
/- A worker does a record. -/
import Derived.Test.YtfnbjmifdemkpaaGreatRyFeed
import Derived.Test.YtfnbjmifdemkpaaGreatRyCut
namespace Go.Proofs.YtfnbjmifdemkpaaGreat
open Go.RowKit Go.Shelf

def pupd (P : Int → Option Nd) (x : Int) (n : Nd) : Int → Option Nd := fun y => if y = x then some n else P y
section
variable {S : Nat → Prop} {b : Nat} {R : RSt} {N : Nat}
/-- A page is stored. -/
theorem RyI.page {V : World} {A : Array Value} {m cnt : Nat} {q : Nat → QA} {pt : Int → Pt} (h : RyI V S b R N A m cnt q pt) (hN : N ≤ 1000000) (x : Int) (hx : wfK x) (nd : Nd) (p : Pt) (hn : Nod V nd p) (ho : Off S nd p) :
    ∃ w4, (Instr.mapUpdate 87 (.map (some m)) (.int .i64 x) (.agg #[.int .i64 nd.lev, .int .i64 nd.lsn, .int .i64 nd.rgt, .string nd.high, .slice p.k nd.keys.length p.kc, .slice p.v nd.vals.length p.vc, .slice p.i nd.kids.length p.ic])).run Tryz.prog V = .ok () w4 ∧ Ry w4 S b { R with pg := pupd R.pg x nd } (N + 1) ∧ Fr (fun k => k = m) V w4 := by
  obtain ⟨w4, hrun, hmp, hf⟩ := h.pages.store (mt := 87) Tryz.underlying87 (by have := h.cntN; omega) hx (.agg #[.int .i64 nd.lev, .int .i64 nd.lsn, .int .i64 nd.rgt, .string nd.high, .slice p.k nd.keys.length p.kc, .slice p.v nd.vals.length p.vc, .slice p.i nd.kids.length p.ic])
  obtain ⟨c2, hc2, hmp⟩ : ∃ c2, c2 ≤ cnt + 1 ∧ Mp w4 m c2 (vupd (fun y => (R.pg y).map (fun n => (.agg #[.int .i64 n.lev, .int .i64 n.lsn, .int .i64 n.rgt, .string n.high, .slice (pt y).k n.keys.length (pt y).kc, .slice (pt y).v n.vals.length (pt y).vc, .slice (pt y).i n.kids.length (pt y).ic]))) x (some (.agg #[.int .i64 nd.lev, .int .i64 nd.lsn, .int .i64 nd.rgt, .string nd.high, .slice p.k nd.keys.length p.kc, .slice p.v nd.vals.length p.vc, .slice p.i nd.kids.length p.ic]))) := ⟨_, by split <;> omega, hmp⟩
  have fS : Fr S V w4 := (Fr.refl S V).trans hf (fun k _ e => by rw [e]; exact h.om)
  refine ⟨w4, hrun, ⟨A, m, c2, q, fun y => if y = x then p else pt y, (hf.block _ (lt_of_block h.blk) (fun e => h.bm e)).trans h.blk, ⟨h.cells.size, h.cells.map, h.cells.wk, h.cells.row, h.cells.done, h.cells.fed, h.cells.point, h.cells.top⟩, h.few, fun i hi => ?_, ?_, ?_, fun y n hy => ?_, h.ob, h.om, h.bm, h.oq, h.apart, fun k hk => Nat.lt_of_lt_of_le (h.lt k hk) hf.size⟩, hf⟩
  · obtain ⟨a1, a2, a3, a4⟩ := h.rows i hi
    exact ⟨a1.fr hf (fun k e ek => (h.oq i k hi e).2.2 ek), a2, by omega, a4⟩
  · have e : (fun y => (pupd R.pg x nd y).map (fun n => (.agg #[.int .i64 n.lev, .int .i64 n.lsn, .int .i64 n.rgt, .string n.high, .slice (if y = x then p else pt y).k n.keys.length (if y = x then p else pt y).kc, .slice (if y = x then p else pt y).v n.vals.length (if y = x then p else pt y).vc, .slice (if y = x then p else pt y).i n.kids.length (if y = x then p else pt y).ic]))) = vupd (fun y => (R.pg y).map (fun n => (.agg #[.int .i64 n.lev, .int .i64 n.lsn, .int .i64 n.rgt, .string n.high, .slice (pt y).k n.keys.length (pt y).kc, .slice (pt y).v n.vals.length (pt y).vc, .slice (pt y).i n.kids.length (pt y).ic]))) x (some (.agg #[.int .i64 nd.lev, .int .i64 nd.lsn, .int .i64 nd.rgt, .string nd.high, .slice p.k nd.keys.length p.kc, .slice p.v nd.vals.length p.vc, .slice p.i nd.kids.length p.ic])) := by
      funext y
      unfold pupd vupd
      by_cases e : y = x
      · simp [e]
      · simp [e]
    show Mp w4 m c2 (fun y => (pupd R.pg x nd y).map (fun n => (.agg #[.int .i64 n.lev, .int .i64 n.lsn, .int .i64 n.rgt, .string n.high, .slice (if y = x then p else pt y).k n.keys.length (if y = x then p else pt y).kc, .slice (if y = x then p else pt y).v n.vals.length (if y = x then p else pt y).vc, .slice (if y = x then p else pt y).i n.kids.length (if y = x then p else pt y).ic])))
    rw [e]; exact hmp
  · have := h.cntN; omega
  · show Nod w4 n (if y = x then p else pt y) ∧ Off S n (if y = x then p else pt y)
    have hy' : pupd R.pg x nd y = some n := hy
    unfold pupd at hy'
    by_cases e : y = x
    · rw [if_pos e] at hy' ⊢
      cases hy'
      exact ⟨hn.frS fS ho, ho⟩
    · rw [if_neg e] at hy' ⊢
      obtain ⟨k1, k2⟩ := h.nods y n hy'
      exact ⟨k1.frS fS k2, k2⟩
theorem ry_cutq (w : World) (h : Ry w S b R N) (hN : N ≤ 1000000) (i : Nat) (hi : i < 8) {x : Wg} {t : List Wg} (hL : R.L i = x :: t) : Calls Tryz.prog 51 #[.pointer (some ⟨b, 2 + i * 2, none⟩)] w fun e w' => e = .returned (.tuple #[]) ∧ RyTo w S b { R with L := qupd R.L i t } (N + 1) w' := by
  obtain ⟨A, m, cnt, q, pt, h⟩ := h
  obtain ⟨h1, h2, h3, h4⟩ := h.rows i hi
  have hd : (q i).d < (q i).n := by
    have : ((q i).ws.drop (q i).d).length = (x :: t).length := by rw [h4, hL]
    rw [List.length_drop, ← h1.1] at this
    simp at this
    omega
  have hq := q_cut (qb := b) (qo := 2 + 2 * i) w h.blk (h.cells.row i hi) (h.cells.done i hi) hd h1 (by omega) (fun k e => (h.oq i k hi e).2.1)
  have ht : (q i).ws.drop ((q i).d + 1) = t := by
    rw [← List.drop_drop, h4, hL]; rfl
  rw [ht, show 2 + 2 * i = 2 + i * 2 by omega] at hq
  refine hq.mono ?_
  rintro e w' ⟨rfl, hto⟩
  refine ⟨rfl, ?_⟩
  rw [show 2 + i * 2 = 2 + 2 * i by omega] at hto
  exact h.que hi hto
end
end Go.Proofs.YtfnbjmifdemkpaaGreat
