
/- A node that is built field by field, its lists by appends, beside a reader. -/
import Derived.Test.YtcmkpmilnplhmaaWTB
namespace Go.Proofs.Ytcmkpmilnplhmaa
open Go.RowKit Crcm

/-! Appends under names that the walks do not look into. -/
def apS (v u : Value) := Builtin.append_ #[81, 81] 81 #[v, u]
def apI (v u : Value) := Builtin.append_ #[26, 26] 26 #[v, u]
theorem apS_eq (v u : Value) : Builtin.append_ #[81, 81] 81 #[v, u] = apS v u := by unfold apS; rfl
theorem apI_eq (v u : Value) : Builtin.append_ #[26, 26] 26 #[v, u] = apI v u := by unfold apI; rfl
theorem wp_append_run {P : Program} {o : Oper} {ac : Act} {w w' : World} {K : Act → World → Prop} {Q : Exit → Act → World → Prop} (x y : Operand) (t tx : TypeId) (ho : o.op = .call { callee := .builtin .append, args := #[x, y], argTypes := #[t, tx] }) {v u v' : Value} (hx : ac.eval x = v) (hy : ac.eval y = u)
    (hrun : (Builtin.append_ #[t, tx] o.type #[v, u]).run P w = .ok v' w') (h : K (ac.put o.dst v') w') : o.wp P ac w K Q := by
  unfold Oper.wp execOp
  simp only [ho, resolve, invoke, builtin, Sem.run_bind, Sem.run_pure, Result.andThen_ok, List.map_toArray, List.map_cons, List.map_nil, hx, hy, hrun]
  exact h
theorem wp_num {o : Oper} {ac : Act} {w : World} {K : Act → World → Prop} {Q : Exit → Act → World → Prop} (x y : Operand) (ts : Array TypeId) (ho : o.op = .call { callee := .value (.func 59), args := #[x, y], argTypes := ts }) {v u : Value} (hx : ac.eval x = v) (hy : ac.eval y = u)
    (h : Oper.upon Try.prog o ac K Q (.ok (.enter 59 #[v, u]) w)) : o.wp Try.prog ac w K Q := by
  have hr : (execOp ac.eval o).run Try.prog w = .ok (.enter 59 #[ac.eval x, ac.eval y]) w := by
    unfold execOp
    simp only [ho]
    go_simp
    try simp [Act.eval]
  unfold Oper.wp
  rw [hr, hx, hy]
  exact h
theorem wp_text {o : Oper} {ac : Act} {w : World} {K : Act → World → Prop} {Q : Exit → Act → World → Prop} (x y : Operand) (ts : Array TypeId) (ho : o.op = .call { callee := .value (.func 60), args := #[x, y], argTypes := ts }) {v u : Value} (hx : ac.eval x = v) (hy : ac.eval y = u)
    (h : Oper.upon Try.prog o ac K Q (.ok (.enter 60 #[v, u]) w)) : o.wp Try.prog ac w K Q := by
  have hr : (execOp ac.eval o).run Try.prog w = .ok (.enter 60 #[ac.eval x, ac.eval y]) w := by
    unfold execOp
    simp only [ho]
    go_simp
    try simp [Act.eval]
  unfold Oper.wp
  rw [hr, hx, hy]
  exact h
def strCells (l : List ByteArray) : List Value := l.map fun (s : ByteArray) => Value.string s
def intCells (l : List Int) : List Value := l.map fun (x : Int) => Value.int .i64 x
theorem strCells_one (l : List ByteArray) : ∀ u ∈ strCells l, u.oneCell' = true := by
  intro u hu; simp only [strCells, List.mem_map] at hu; obtain ⟨x, _, rfl⟩ := hu; rfl
theorem intCells_one (l : List Int) : ∀ u ∈ intCells l, u.oneCell' = true := by
  intro u hu; simp only [intCells, List.mem_map] at hu; obtain ⟨x, _, rfl⟩ := hu; rfl
theorem infoStr : (Try.prog.info? 9).map (fun i => (i.zero, i.size, i.bytes)) = some (some (.string ⟨#[]⟩), 1, 16) := by kernel_rfl
theorem infoInt : (Try.prog.info? 3).map (fun i => (i.zero, i.size, i.bytes)) = some (some (.int .i64 0), 1, 8) := by kernel_rfl

theorem node_cells {w' : World} {c0 c1 c2 c3 c4 c5 c6 : Value} {b : Nat} {t : TypeId} (h : w'.heap[b]? = some (.cells #[c0, c1, c2, c3, c4, c5, c6] t (0, 0))) :
    (w'.cell? ⟨b, 0, none⟩ = some c0 ∧ w'.cell? ⟨b, 1, none⟩ = some c1 ∧ w'.cell? ⟨b, 2, none⟩ = some c2 ∧ w'.cell? ⟨b, 3, none⟩ = some c3 ∧ w'.cell? ⟨b, 4, none⟩ = some c4 ∧ w'.cell? ⟨b, 5, none⟩ = some c5 ∧ w'.cell? ⟨b, 6, none⟩ = some c6) ∧ ∀ j, w'.frozen? ⟨b, j, none⟩ = false := by
  refine ⟨⟨?_, ?_, ?_, ?_, ?_, ?_, ?_⟩, fun j => ?_⟩
  all_goals simp [World.cell?, World.frozen?, h]
theorem node_setCell {w : World} {b j : Nat} {C : Array Value} {t : TypeId} (h : w.heap[b]? = some (.cells C t (0, 0))) (x : Value) : (w.setCell ⟨b, j, none⟩ x).heap[b]? = some (.cells (C.setIfInBounds j x) t (0, 0)) := by
  have hlt := lt_of_block h
  have h' : w.heap[b] = .cells C t (0, 0) := by simpa [Array.getElem?_eq_getElem hlt] using h
  show (w.heap.modify b _)[b]? = _
  rw [Array.getElem?_eq_getElem (by simpa using hlt), Array.getElem_modify_self, h']
  rfl

/-- A node under way at block nk; what was there at W0 is as it was but for the reader. -/
structure Bd (W0 w : World) (nk qb rb : Nat) (a : Option Addr) (cap : Nat) (s : RF) (n : Nd) (kv vv iv : Value) : Prop where
  box : w.heap[nk]? = some (.cells #[.int .i64 n.lev, .int .i64 n.lsn, .int .i64 n.rgt, .string n.high, kv, vv, iv] 83 (0, 0))
  new : W0.heap.size < nk
  keys : Has w 1 kv n.keys.length (strCells n.keys)
  vals : Has w 1 vv n.vals.length (strCells n.vals)
  kids : Has w 1 iv n.kids.length (intCells n.kids)
  ok : ∀ g, kv.ownBlock = some g → nk < g
  ov : ∀ g, vv.ownBlock = some g → nk < g
  oi : ∀ g, iv.ownBlock = some g → nk < g
  nkv : ∀ g, kv.ownBlock = some g → vv.ownBlock ≠ some g
  nki : ∀ g, kv.ownBlock = some g → iv.ownBlock ≠ some g
  nvi : ∀ g, vv.ownBlock = some g → iv.ownBlock ≠ some g
  rr : Rr w qb rb a cap s
  qlt : qb < W0.heap.size
  rlt : rb < W0.heap.size
  alt : ∀ b off sp, a = some ⟨b, off, sp⟩ → b < W0.heap.size
  fr : Fr (rrS qb rb) W0 w
  res : w.heap[W0.heap.size]? = some (.cells #[.int .i64 0, .int .i64 0, .int .i64 0, .string ⟨#[]⟩, .slice none 0 0, .slice none 0 0, .slice none 0 0] 83 (0, 0))

section
variable {W0 w w' : World} {nk qb rb : Nat} {a a' : Option Addr} {cap c' : Nat} {s s' : RF} {n : Nd} {kv vv iv : Value}
/-- What leaves everything leaves it. -/
theorem Bd.same (h : Bd W0 w nk qb rb a cap s n kv vv iv) (f : Fr (fun _ => False) w w') : Bd W0 w' nk qb rb a cap s n kv vv iv :=
  ⟨by rw [f.block nk (lt_of_block h.box) (fun f => f)]; exact h.box, h.new, h.keys.fr f (fun _ _ f => f), h.vals.fr f (fun _ _ f => f), h.kids.fr f (fun _ _ f => f), h.ok, h.ov, h.oi, h.nkv, h.nki, h.nvi, h.rr.same f, h.qlt, h.rlt, h.alt, h.fr.trans f (fun _ _ f => f.elim), by rw [f.block _ (lt_of_block h.res) (fun f => f)]; exact h.res⟩
/-- The reader has gone on. -/
theorem Bd.goR (h : Bd W0 w nk qb rb a cap s n kv vv iv) (r : Rr w' qb rb a' c' s') (f : Fr (rrS qb rb) w w') (na : Near a a') : Bd W0 w' nk qb rb a' c' s' n kv vv iv := by
  have hq := h.qlt
  have hr := h.rlt
  have hn := h.new
  have nS : ∀ g, W0.heap.size ≤ g → ¬ rrS qb rb g := fun g hg e => by rcases e with e | e <;> omega
  exact ⟨by rw [f.block nk (lt_of_block h.box) (nS nk (by omega))]; exact h.box, h.new, h.keys.fr f (fun g e => nS g (by have := h.ok g e; omega)), h.vals.fr f (fun g e => nS g (by have := h.ov g e; omega)), h.kids.fr f (fun g e => nS g (by have := h.oi g e; omega)),
    h.ok, h.ov, h.oi, h.nkv, h.nki, h.nvi, r, h.qlt, h.rlt, (fun b off sp e => by obtain ⟨o, t, e2⟩ := na b off sp e; exact h.alt b o t e2), h.fr.trans f (fun _ _ e => e), by rw [f.block _ (lt_of_block h.res) (nS _ (Nat.le_refl _))]; exact h.res⟩
/-- A field of the node, or one of its lists, is stored anew. -/
theorem Bd.put (h : Bd W0 w nk qb rb a cap s n kv vv iv) (j : Nat) (x : Value) (m : Nd) (kv' vv' iv' : Value)
    (hb : (#[.int .i64 n.lev, .int .i64 n.lsn, .int .i64 n.rgt, .string n.high, kv, vv, iv] : Array Value).setIfInBounds j x = #[.int .i64 m.lev, .int .i64 m.lsn, .int .i64 m.rgt, .string m.high, kv', vv', iv'])
    (hk : Has w 1 kv' m.keys.length (strCells m.keys)) (hv : Has w 1 vv' m.vals.length (strCells m.vals)) (hi : Has w 1 iv' m.kids.length (intCells m.kids))
    (ok : ∀ g, kv'.ownBlock = some g → nk < g) (ov : ∀ g, vv'.ownBlock = some g → nk < g) (oi : ∀ g, iv'.ownBlock = some g → nk < g)
    (nkv : ∀ g, kv'.ownBlock = some g → vv'.ownBlock ≠ some g) (nki : ∀ g, kv'.ownBlock = some g → iv'.ownBlock ≠ some g) (nvi : ∀ g, vv'.ownBlock = some g → iv'.ownBlock ≠ some g) :
    Bd W0 (w.setCell ⟨nk, j, none⟩ x) nk qb rb a cap s m kv' vv' iv' := by
  have hq := h.qlt
  have hr := h.rlt
  have hn := h.new
  have f : Fr (fun k => k = nk) w (w.setCell ⟨nk, j, none⟩ x) := (Fr.refl (fun k => k = nk) w).setCell (p := ⟨nk, j, none⟩) (fun _ => rfl) _
  exact ⟨by rw [node_setCell h.box, hb], h.new, hk.fr f (fun g e e2 => by have := ok g e; omega), hv.fr f (fun g e e2 => by have := ov g e; omega), hi.fr f (fun g e e2 => by have := oi g e; omega),
    ok, ov, oi, nkv, nki, nvi, h.rr.fr f (by omega) (by omega) (fun b off sp e => by have := h.alt b off sp e; omega), h.qlt, h.rlt, h.alt, h.fr.trans f (fun i hi e => by omega), by rw [f.block _ (lt_of_block h.res) (by omega)]; exact h.res⟩
end
section
variable {W0 w : World} {nk qb rb : Nat} {a : Option Addr} {cap : Nat} {s : RF} {n : Nd} {kv vv iv : Value}
theorem Bd.lev (h : Bd W0 w nk qb rb a cap s n kv vv iv) (x : Int) : Bd W0 (w.setCell ⟨nk, 0, none⟩ (.int .i64 x)) nk qb rb a cap s { n with lev := x } kv vv iv :=
  h.put 0 _ { n with lev := x } kv vv iv rfl h.keys h.vals h.kids h.ok h.ov h.oi h.nkv h.nki h.nvi
theorem Bd.lsn (h : Bd W0 w nk qb rb a cap s n kv vv iv) (x : Int) : Bd W0 (w.setCell ⟨nk, 1, none⟩ (.int .i64 x)) nk qb rb a cap s { n with lsn := x } kv vv iv :=
  h.put 1 _ { n with lsn := x } kv vv iv rfl h.keys h.vals h.kids h.ok h.ov h.oi h.nkv h.nki h.nvi
theorem Bd.rgt (h : Bd W0 w nk qb rb a cap s n kv vv iv) (x : Int) : Bd W0 (w.setCell ⟨nk, 2, none⟩ (.int .i64 x)) nk qb rb a cap s { n with rgt := x } kv vv iv :=
  h.put 2 _ { n with rgt := x } kv vv iv rfl h.keys h.vals h.kids h.ok h.ov h.oi h.nkv h.nki h.nvi
theorem Bd.high (h : Bd W0 w nk qb rb a cap s n kv vv iv) (x : ByteArray) : Bd W0 (w.setCell ⟨nk, 3, none⟩ (.string x)) nk qb rb a cap s { n with high := x } kv vv iv :=
  h.put 3 _ { n with high := x } kv vv iv rfl h.keys h.vals h.kids h.ok h.ov h.oi h.nkv h.nki h.nvi
theorem own_new {v v' : Value} {w : World} {nk : Nat} (h : v'.ownBlock = v.ownBlock ∨ v'.ownBlock = some (w.heap.size + 1)) (hk : nk < w.heap.size) (ok : ∀ g, v.ownBlock = some g → nk < g) : ∀ g, v'.ownBlock = some g → nk < g := fun g e => by
  rcases h with h | h
  · rw [h] at e; exact ok g e
  · rw [h] at e; simp at e; omega
theorem own_apart {v v' u : Value} {w : World} (h : v'.ownBlock = v.ownBlock ∨ v'.ownBlock = some (w.heap.size + 1)) (hu : ∀ g, u.ownBlock = some g → g < w.heap.size) (hn : ∀ g, v.ownBlock = some g → u.ownBlock ≠ some g) : ∀ g, v'.ownBlock = some g → u.ownBlock ≠ some g := fun g e e2 => by
  rcases h with h | h
  · rw [h] at e; exact hn g e e2
  · rw [h] at e; simp at e; have := hu g e2; omega
theorem own_apart' {v v' u : Value} {w : World} (h : v'.ownBlock = v.ownBlock ∨ v'.ownBlock = some (w.heap.size + 1)) (hu : ∀ g, u.ownBlock = some g → g < w.heap.size) (hn : ∀ g, u.ownBlock = some g → v.ownBlock ≠ some g) : ∀ g, u.ownBlock = some g → v'.ownBlock ≠ some g := fun g e e2 =>
  own_apart h hu (fun x hx hy => hn x hy hx) g e2 e

/-- What an append onto one of its lists leaves. -/
theorem Bd.grow {w1 : World} {v : Value} (h : Bd W0 w nk qb rb a cap s n kv vv iv) (f : Fr (fun k => v.ownBlock = some k ∧ 0 < 1) w w1) (ov : ∀ g, v.ownBlock = some g → nk < g) :
    w1.heap[nk]? = some (.cells #[.int .i64 n.lev, .int .i64 n.lsn, .int .i64 n.rgt, .string n.high, kv, vv, iv] 83 (0, 0)) ∧ Rr w1 qb rb a cap s ∧ Fr (rrS qb rb) W0 w1 ∧
    w1.heap[W0.heap.size]? = some (.cells #[.int .i64 0, .int .i64 0, .int .i64 0, .string ⟨#[]⟩, .slice none 0 0, .slice none 0 0, .slice none 0 0] 83 (0, 0)) := by
  have hq := h.qlt
  have hr := h.rlt
  have hn := h.new
  refine ⟨by rw [f.block nk (lt_of_block h.box) (fun e => by have := ov nk e.1; omega)]; exact h.box, h.rr.fr f (fun e => by have := ov _ e.1; omega) (fun e => by have := ov _ e.1; omega) (fun b off sp e e2 => by have := h.alt b off sp e; have := ov _ e2.1; omega), h.fr.trans f (fun i hi e => by have := ov _ e.1; omega), by rw [f.block _ (lt_of_block h.res) (fun e => by have := ov _ e.1; omega)]; exact h.res⟩

theorem Bd.key (h : Bd W0 w nk qb rb a cap s n kv vv iv) (x : ByteArray) (hl : n.keys.length ≤ 100000) :
    ∃ a7 c7 w7, (apS kv (.slice (some ⟨w.heap.size, 0, none⟩) 1 1)).run Try.prog (w.alloc (.cells #[.string x] 9)) = .ok (.slice a7 (n.keys.length + 1) c7) w7 ∧
      w7.cell? ⟨nk, 4, none⟩ = some kv ∧ w7.frozen? ⟨nk, 4, none⟩ = false ∧ Bd W0 (w7.setCell ⟨nk, 4, none⟩ (.slice a7 (n.keys.length + 1) c7)) nk qb rb a cap s { n with keys := n.keys ++ [x] } (.slice a7 (n.keys.length + 1) c7) vv iv := by
  obtain ⟨i0, hi, hz0, hz1, hz2⟩ := info_parts infoStr
  have h1 := h.same (Fr.box w (.cells #[.string x] 9))
  have hb := heap_alloc_new w (.cells #[.string x] 9)
  obtain ⟨v', w7, hrun, hh, hf, ho⟩ := run_append_has (P := Try.prog) (w.alloc (.cells #[.string x] 9)) 81 81 81 9 9 i0 (.string ⟨#[]⟩) 1 16 Try.underlying81 Try.underlying81 hi hz0 hz1 hz2 rfl (by omega) kv n.keys.length (strCells n.keys) h1.keys
    (some ⟨w.heap.size, 0, none⟩) 1 1 [.string x] rfl (.inr ⟨w.heap.size, 0, rfl, range_block hb (fun j v hv => by rw [Nat.zero_add]; simpa using hv)⟩) (by simp [Value.oneCell']) (by unfold maxLen; omega) (by omega)
  obtain ⟨a7, c7, rfl, _, _⟩ := hh.slice
  obtain ⟨g1, g2, g3, g4⟩ := h1.grow hf h1.ok
  obtain ⟨⟨_, _, _, _, c4, _, _⟩, fz⟩ := node_cells g1
  have hsz : (w.alloc (.cells #[.string x] 9)).heap.size = w.heap.size + 1 := by simp
  rw [hsz] at ho
  have hnk := lt_of_block h.box
  have hv7 := h1.vals.fr hf (fun g e e2 => h.nkv g e2.1 e)
  have hi7 := h1.kids.fr hf (fun g e e2 => h.nki g e2.1 e)
  have f : Fr (fun k => k = nk) w7 (w7.setCell ⟨nk, 4, none⟩ (.slice a7 (n.keys.length + 1) c7)) := (Fr.refl (fun k => k = nk) w7).setCell (p := ⟨nk, 4, none⟩) (fun _ => rfl) _
  have hq := h.qlt
  have hr := h.rlt
  have hn := h.new
  have ok' := own_new ho hnk h.ok
  refine ⟨a7, c7, w7, hrun, c4, fz 4, ⟨by rw [node_setCell g1]; rfl, h.new, ?_, hv7.fr f (fun g e e2 => by have := h.ov g e; omega), hi7.fr f (fun g e e2 => by have := h.oi g e; omega), ok', h.ov, h.oi, own_apart ho (fun g e => h.vals.lt e) h.nkv, own_apart ho (fun g e => h.kids.lt e) h.nki, h.nvi, g2.fr f (by omega) (by omega) (fun b off sp e => by have := h.alt b off sp e; omega), h.qlt, h.rlt, h.alt, g3.trans f (fun i hi e => by omega), by rw [f.block _ (lt_of_block g4) (by omega)]; exact g4⟩⟩
  have : Has w7 1 (.slice a7 (n.keys.length + 1) c7) (n.keys ++ [x]).length (strCells (n.keys ++ [x])) := by
    rw [List.length_append]; simpa [strCells] using hh
  exact this.fr f (fun g e e2 => by have := ok' g e; omega)
theorem Bd.val (h : Bd W0 w nk qb rb a cap s n kv vv iv) (x : ByteArray) (hl : n.vals.length ≤ 100000) :
    ∃ a7 c7 w7, (apS vv (.slice (some ⟨w.heap.size, 0, none⟩) 1 1)).run Try.prog (w.alloc (.cells #[.string x] 9)) = .ok (.slice a7 (n.vals.length + 1) c7) w7 ∧
      w7.cell? ⟨nk, 5, none⟩ = some vv ∧ w7.frozen? ⟨nk, 5, none⟩ = false ∧ Bd W0 (w7.setCell ⟨nk, 5, none⟩ (.slice a7 (n.vals.length + 1) c7)) nk qb rb a cap s { n with vals := n.vals ++ [x] } kv (.slice a7 (n.vals.length + 1) c7) iv := by
  obtain ⟨i0, hi, hz0, hz1, hz2⟩ := info_parts infoStr
  have h1 := h.same (Fr.box w (.cells #[.string x] 9))
  have hb := heap_alloc_new w (.cells #[.string x] 9)
  obtain ⟨v', w7, hrun, hh, hf, ho⟩ := run_append_has (P := Try.prog) (w.alloc (.cells #[.string x] 9)) 81 81 81 9 9 i0 (.string ⟨#[]⟩) 1 16 Try.underlying81 Try.underlying81 hi hz0 hz1 hz2 rfl (by omega) vv n.vals.length (strCells n.vals) h1.vals
    (some ⟨w.heap.size, 0, none⟩) 1 1 [.string x] rfl (.inr ⟨w.heap.size, 0, rfl, range_block hb (fun j v hv => by rw [Nat.zero_add]; simpa using hv)⟩) (by simp [Value.oneCell']) (by unfold maxLen; omega) (by omega)
  obtain ⟨a7, c7, rfl, _, _⟩ := hh.slice
  obtain ⟨g1, g2, g3, g4⟩ := h1.grow hf h1.ov
  obtain ⟨⟨_, _, _, _, _, c5, _⟩, fz⟩ := node_cells g1
  have hsz : (w.alloc (.cells #[.string x] 9)).heap.size = w.heap.size + 1 := by simp
  rw [hsz] at ho
  have hnk := lt_of_block h.box
  have hk7 := h1.keys.fr hf (fun g e e2 => h.nkv g e e2.1)
  have hi7 := h1.kids.fr hf (fun g e e2 => h.nvi g e2.1 e)
  have f : Fr (fun k => k = nk) w7 (w7.setCell ⟨nk, 5, none⟩ (.slice a7 (n.vals.length + 1) c7)) := (Fr.refl (fun k => k = nk) w7).setCell (p := ⟨nk, 5, none⟩) (fun _ => rfl) _
  have hq := h.qlt
  have hr := h.rlt
  have hn := h.new
  have ok' := own_new ho hnk h.ov
  refine ⟨a7, c7, w7, hrun, c5, fz 5, ⟨by rw [node_setCell g1]; rfl, h.new, hk7.fr f (fun g e e2 => by have := h.ok g e; omega), ?_, hi7.fr f (fun g e e2 => by have := h.oi g e; omega), h.ok, ok', h.oi, own_apart' ho (fun g e => h.keys.lt e) h.nkv, h.nki, own_apart ho (fun g e => h.kids.lt e) h.nvi, g2.fr f (by omega) (by omega) (fun b off sp e => by have := h.alt b off sp e; omega), h.qlt, h.rlt, h.alt, g3.trans f (fun i hi e => by omega), by rw [f.block _ (lt_of_block g4) (by omega)]; exact g4⟩⟩
  have : Has w7 1 (.slice a7 (n.vals.length + 1) c7) (n.vals ++ [x]).length (strCells (n.vals ++ [x])) := by
    rw [List.length_append]; simpa [strCells] using hh
  exact this.fr f (fun g e e2 => by have := ok' g e; omega)
theorem Bd.kid (h : Bd W0 w nk qb rb a cap s n kv vv iv) (x : Int) (hl : n.kids.length ≤ 100000) :
    ∃ a7 c7 w7, (apI iv (.slice (some ⟨w.heap.size, 0, none⟩) 1 1)).run Try.prog (w.alloc (.cells #[.int .i64 x] 3)) = .ok (.slice a7 (n.kids.length + 1) c7) w7 ∧
      w7.cell? ⟨nk, 6, none⟩ = some iv ∧ w7.frozen? ⟨nk, 6, none⟩ = false ∧ Bd W0 (w7.setCell ⟨nk, 6, none⟩ (.slice a7 (n.kids.length + 1) c7)) nk qb rb a cap s { n with kids := n.kids ++ [x] } kv vv (.slice a7 (n.kids.length + 1) c7) := by
  obtain ⟨i0, hi, hz0, hz1, hz2⟩ := info_parts infoInt
  have h1 := h.same (Fr.box w (.cells #[.int .i64 x] 3))
  have hb := heap_alloc_new w (.cells #[.int .i64 x] 3)
  obtain ⟨v', w7, hrun, hh, hf, ho⟩ := run_append_has (P := Try.prog) (w.alloc (.cells #[.int .i64 x] 3)) 26 26 26 3 3 i0 (.int .i64 0) 1 8 Try.underlying26 Try.underlying26 hi hz0 hz1 hz2 rfl (by omega) iv n.kids.length (intCells n.kids) h1.kids
    (some ⟨w.heap.size, 0, none⟩) 1 1 [.int .i64 x] rfl (.inr ⟨w.heap.size, 0, rfl, range_block hb (fun j v hv => by rw [Nat.zero_add]; simpa using hv)⟩) (by simp [Value.oneCell']) (by unfold maxLen; omega) (by omega)
  obtain ⟨a7, c7, rfl, _, _⟩ := hh.slice
  obtain ⟨g1, g2, g3, g4⟩ := h1.grow hf h1.oi
  obtain ⟨⟨_, _, _, _, _, _, c6⟩, fz⟩ := node_cells g1
  have hsz : (w.alloc (.cells #[.int .i64 x] 3)).heap.size = w.heap.size + 1 := by simp
  rw [hsz] at ho
  have hnk := lt_of_block h.box
  have hk7 := h1.keys.fr hf (fun g e e2 => h.nki g e e2.1)
  have hv7 := h1.vals.fr hf (fun g e e2 => h.nvi g e e2.1)
  have f : Fr (fun k => k = nk) w7 (w7.setCell ⟨nk, 6, none⟩ (.slice a7 (n.kids.length + 1) c7)) := (Fr.refl (fun k => k = nk) w7).setCell (p := ⟨nk, 6, none⟩) (fun _ => rfl) _
  have hq := h.qlt
  have hr := h.rlt
  have hn := h.new
  have ok' := own_new ho hnk h.oi
  refine ⟨a7, c7, w7, hrun, c6, fz 6, ⟨by rw [node_setCell g1]; rfl, h.new, hk7.fr f (fun g e e2 => by have := h.ok g e; omega), hv7.fr f (fun g e e2 => by have := h.ov g e; omega), ?_, h.ok, h.ov, ok', h.nkv, own_apart' ho (fun g e => h.keys.lt e) h.nki, own_apart' ho (fun g e => h.vals.lt e) h.nvi, g2.fr f (by omega) (by omega) (fun b off sp e => by have := h.alt b off sp e; omega), h.qlt, h.rlt, h.alt, g3.trans f (fun i hi e => by omega), by rw [f.block _ (lt_of_block g4) (by omega)]; exact g4⟩⟩
  have : Has w7 1 (.slice a7 (n.kids.length + 1) c7) (n.kids ++ [x]).length (intCells (n.kids ++ [x])) := by
    rw [List.length_append]; simpa [intCells] using hh
  exact this.fr f (fun g e e2 => by have := ok' g e; omega)
end
end Go.Proofs.Ytcmkpmilnplhmaa
