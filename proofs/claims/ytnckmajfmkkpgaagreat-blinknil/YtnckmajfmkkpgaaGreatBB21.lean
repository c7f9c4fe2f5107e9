
/- NdPart2, NdBx, NdShelf. -/
import Derived.Test.YtnckmajfmkkpgaaGreatBB20
import Derived.Test.YtnckmajfmkkpgaaGreatProg
import Derived.Shelf.Spec.SlicesInsertGrow
import Derived.Shelf.Spec.SlicesInsert
import Derived.Shelf.Slices.Delete
/- What parted, Left and Rest make. -/
namespace Go.Proofs.YtnckmajfmkkpgaaGreat
open Go.RowKit

theorem piece_any (n : Nd) (p : Pt) (r : Rt n) (b e : Nat) (h1 : b ≤ e) (h2 : e ≤ n.keys.length) (w : World) (h : Nod w n p) : Calls Tryz.prog 101 #[(.agg #[.int .i64 n.lev, .int .i64 n.lsn, .int .i64 n.rgt, .string n.high, .slice p.k n.keys.length p.kc, .slice p.v n.vals.length p.vc, .slice p.i n.kids.length p.ic]), .int .i64 b, .int .i64 e] w fun en w' => NdOut (pieceN n b e) w en w' := by
  by_cases h0 : n.lev = 0
  · exact piece_leaf n p r b e h1 h2 h0 w h
  · exact piece_inner n p r b e h1 h2 h0 w h
theorem plc_le (k : List Nat) (l : List ByteArray) : (plc k l).1 ≤ l.length := by
  induction l with
  | nil => simp [plc]
  | cons x r ih =>
    simp only [plc]
    split
    · simp
    · simp only [List.length_cons]; omega
theorem plc_lt (k : List Nat) (l : List ByteArray) (h : (plc k l).2 = true) : (plc k l).1 < l.length := by
  induction l with
  | nil => simp [plc] at h
  | cons x r ih =>
    simp only [plc] at h ⊢
    split at h
    · rename_i e; rw [if_pos e]; simp
    · rename_i e; rw [if_neg e]; simp only [List.length_cons] at h ⊢; have := ih h; omega
/-- Where a node is parted by a key: the error, the left part's end, the right part's beginning. -/
def parE (n : Nd) (k : ByteArray) : Int := if n.lev = 0 ∨ (plc (bsOf k) n.keys).2 = true then 0 else 6
def parA (n : Nd) (k : ByteArray) : Nat := if parE n k = 0 then (plc (bsOf k) n.keys).1 else 0
def parB (n : Nd) (k : ByteArray) : Nat := if parE n k = 0 then (if n.lev = 0 then (plc (bsOf k) n.keys).1 else (plc (bsOf k) n.keys).1 + 1) else 0
theorem parE_leaf {n : Nd} {k : ByteArray} (h : n.lev = 0) : parE n k = 0 := if_pos (Or.inl h)
theorem parE_hit {n : Nd} {k : ByteArray} (h : (plc (bsOf k) n.keys).2 = true) : parE n k = 0 := if_pos (Or.inr h)
theorem parE_miss {n : Nd} {k : ByteArray} (h : ¬ n.lev = 0) (hf : (plc (bsOf k) n.keys).2 = false) : parE n k = 6 := if_neg (fun e => by rcases e with e | e; exact h e; rw [hf] at e; cases e)
theorem parA_ok {n : Nd} {k : ByteArray} (h : parE n k = 0) : parA n k = (plc (bsOf k) n.keys).1 := if_pos h
theorem parB_leaf {n : Nd} {k : ByteArray} (h : n.lev = 0) : parB n k = (plc (bsOf k) n.keys).1 := by unfold parB; rw [if_pos (parE_leaf h), if_pos h]
theorem parB_hit {n : Nd} {k : ByteArray} (h : ¬ n.lev = 0) (hf : (plc (bsOf k) n.keys).2 = true) : parB n k = (plc (bsOf k) n.keys).1 + 1 := by unfold parB; rw [if_pos (parE_hit hf), if_neg h]
theorem parA_no {n : Nd} {k : ByteArray} (h : parE n k ≠ 0) : parA n k = 0 := if_neg h
theorem parB_no {n : Nd} {k : ByteArray} (h : parE n k ≠ 0) : parB n k = 0 := if_neg h
theorem parA_le (n : Nd) (k : ByteArray) : parA n k ≤ n.keys.length := by
  have := plc_le (bsOf k) n.keys
  unfold parA
  split <;> omega
theorem parB_le (n : Nd) (k : ByteArray) : parB n k ≤ n.keys.length := by
  have h1 := plc_le (bsOf k) n.keys
  by_cases h0 : n.lev = 0
  · rw [parB_leaf h0]; exact h1
  · cases hf : (plc (bsOf k) n.keys).2
    · unfold parB; rw [parE_miss h0 hf, if_neg (by omega)]; omega
    · have := plc_lt _ _ hf
      rw [parB_hit h0 hf]; omega
theorem ret_iii {a b c d e f : Int} (h : a = b) (k : c = d) (l : e = f) : Ending.returned (.tuple #[.int .i64 a, .int .i64 c, .int .i64 e]) = .returned (.tuple #[.int .i64 b, .int .i64 d, .int .i64 f]) := by rw [h, k, l]
set_option maxRecDepth 100000 in
set_option maxHeartbeats 1000000 in
theorem parted_any (n : Nd) (p : Pt) (k : ByteArray) (hk : k.size ≤ maxLen) (w : World) (h : Nod w n p) : Calls Tryz.prog 100 #[(.agg #[.int .i64 n.lev, .int .i64 n.lsn, .int .i64 n.rgt, .string n.high, .slice p.k n.keys.length p.kc, .slice p.v n.vals.length p.vc, .slice p.i n.kids.length p.ic]), .string k] w fun e w' => e = .returned (.tuple #[.int .i64 (parA n k : Nat), .int .i64 (parB n k : Nat), .int .i64 (parE n k)]) ∧ Fr (fun _ => False) w w' := by
  have f0 := Fr.box w (.cells #[.int .i64 n.lev, .int .i64 n.lsn, .int .i64 n.rgt, .string n.high, .slice p.k n.keys.length p.kc, .slice p.v n.vals.length p.vc, .slice p.i n.kids.length p.ic] 28)
  have HB : Hid (∀ W, Fr (fun _ => False) (w.alloc (.cells #[.int .i64 n.lev, .int .i64 n.lsn, .int .i64 n.rgt, .string n.high, .slice p.k n.keys.length p.kc, .slice p.v n.vals.length p.vc, .slice p.i n.kids.length p.ic] 28)) W → W.cell? ⟨w.heap.size, 0, none⟩ = some (.int .i64 n.lev) ∧ W.cell? ⟨w.heap.size, 1, none⟩ = some (.int .i64 n.lsn) ∧ W.cell? ⟨w.heap.size, 2, none⟩ = some (.int .i64 n.rgt) ∧ W.cell? ⟨w.heap.size, 3, none⟩ = some (.string n.high) ∧ W.cell? ⟨w.heap.size, 4, none⟩ = some (.slice p.k n.keys.length p.kc) ∧ W.cell? ⟨w.heap.size, 5, none⟩ = some (.slice p.v n.vals.length p.vc) ∧ W.cell? ⟨w.heap.size, 6, none⟩ = some (.slice p.i n.kids.length p.ic)) := fun W f => box_cells (box_at w n p 28 f)
  have hpc := place_any p.k n.keys.length p.kc n.keys rfl k hk _ (h.same f0).keys
  have hlf := fun W => isLeafN_any n p W
  have hpl : (plc (bsOf k) n.keys).1 ≤ n.keys.length := plc_le (bsOf k) n.keys
  have hkl := h.klen
  obtain ⟨pi, pf, hpe⟩ : ∃ pi pf, plc (bsOf k) n.keys = (pi, pf) := ⟨_, _, rfl⟩
  rw [hpe] at hpc hpl
  simp only at hpc hpl
  by_cases h0 : n.lev = 0
  · have hb : (n.lev == 0) = true := by simpa using h0
    rw [hb] at hlf
    rw [parA_ok (parE_leaf h0), parB_leaf h0, parE_leaf h0, hpe]
    clear h0 hb hpe
    go_enter Tryz.func100, Tryz.ntmps100
    go_wp2_with fail
    refine hpc.mono ?_
    rintro e w1 ⟨rfl, f1⟩
    obtain ⟨c0, c1, c2, c3, c4, c5, c6⟩ := HB.out _ f1
    go_wp2_with fail
    refine (hlf _).mono ?_
    rintro e w2 ⟨rfl, f2⟩
    go_wp2
    go_ret3
    exact ⟨rfl, (f0.seq' f1).seq' f2⟩
  · have hb : (n.lev == 0) = false := by simpa using h0
    rw [hb] at hlf
    cases pf
    · have e6 := parE_miss (k := k) h0 (by rw [hpe])
      rw [parA_no (by rw [e6]; omega), parB_no (by rw [e6]; omega), e6]
      clear e6
      clear h0 hb hpe
      go_enter Tryz.func100, Tryz.ntmps100
      go_wp2_with fail
      refine hpc.mono ?_
      rintro e w1 ⟨rfl, f1⟩
      obtain ⟨c0, c1, c2, c3, c4, c5, c6⟩ := HB.out _ f1
      go_wp2_with fail
      refine (hlf _).mono ?_
      rintro e w2 ⟨rfl, f2⟩
      go_wp2
      go_ret3
      exact ⟨rfl, (f0.seq' f1).seq' f2⟩
    · have ht : (plc (bsOf k) n.keys).2 = true := by rw [hpe]
      rw [parA_ok (parE_hit ht), parB_hit h0 ht, parE_hit ht, hpe]
      clear ht
      clear h0 hb hpe
      go_enter Tryz.func100, Tryz.ntmps100
      go_wp2_with fail
      refine hpc.mono ?_
      rintro e w1 ⟨rfl, f1⟩
      obtain ⟨c0, c1, c2, c3, c4, c5, c6⟩ := HB.out _ f1
      go_wp2_with fail
      refine (hlf _).mono ?_
      rintro e w2 ⟨rfl, f2⟩
      go_wp2
      go_ret3
      exact ⟨ret_iii rfl (by omega) rfl, (f0.seq' f1).seq' f2⟩
/-- A node, where there is no error. -/
def okN (e : Int) (m : Nd) : Nd := if e = 0 then m else zn
theorem okN_ok (m : Nd) : okN 0 m = m := if_pos rfl
theorem okN_no {e : Int} (h : e ≠ 0) (m : Nd) : okN e m = zn := if_neg h
/-- The error of Left and Rest. -/
def lrE (n : Nd) (k : ByteArray) (en : Int) : Int := if askE n k 0 en 0 = 0 then parE n k else askE n k 0 en 0
def leftN (n : Nd) (k : ByteArray) (right : Int) : Nd := { pieceN n 0 (parA n k) with high := k, rgt := right }
def restN (n : Nd) (k : ByteArray) : Nd := pieceN n (parB n k) n.keys.length
end Go.Proofs.YtnckmajfmkkpgaaGreat

/- A node that is built by appends, in a block of its own. -/
namespace Go.Proofs.YtnckmajfmkkpgaaGreat
open Go.RowKit

theorem wpList_append_run {P : Program} {ops : Array Oper} {rest : List Oper} {o : Oper} {ac : Act} {w w' : World} {Q : Exit → Act → World → Prop} (hgd : o.guard = none) (x y : Operand) (t tx : TypeId) (ho : o.op = .call { callee := .builtin .append, args := #[x, y], argTypes := #[t, tx] }) {v u v' : Value} (hx : ac.eval x = v) (hy : ac.eval y = u)
    (hrun : (Builtin.append_ #[t, tx] o.type #[v, u]).run P w = .ok v' w') (h : wpList P ops Q rest (ac.put o.dst v') w') : wpList P ops Q (o :: rest) ac w :=
  wpList_plain hgd fun _ hK => wp_append_run x y t tx ho hx hy hrun (hK _ _ h)

/-- A node under way at block nk; what was there at W0 is as it was. -/
structure Bx (W0 w : World) (nk : Nat) (n : Nd) (kv vv iv : Value) : Prop where
  box : w.heap[nk]? = some (.cells #[.int .i64 n.lev, .int .i64 n.lsn, .int .i64 n.rgt, .string n.high, kv, vv, iv] 28 (0, 0))
  new : W0.heap.size ≤ nk
  keys : Has w 1 kv n.keys.length (strCells n.keys)
  vals : Has w 1 vv n.vals.length (strCells n.vals)
  kids : Has w 1 iv n.kids.length (intCells n.kids)
  ok : ∀ g, kv.ownBlock = some g → nk < g
  ov : ∀ g, vv.ownBlock = some g → nk < g
  oi : ∀ g, iv.ownBlock = some g → nk < g
  nkv : ∀ g, kv.ownBlock = some g → vv.ownBlock ≠ some g
  nki : ∀ g, kv.ownBlock = some g → iv.ownBlock ≠ some g
  nvi : ∀ g, vv.ownBlock = some g → iv.ownBlock ≠ some g
  fr : Fr (fun _ => False) W0 w

section
variable {W0 w w' : World} {nk : Nat} {n : Nd} {kv vv iv : Value}
/-- What leaves everything leaves it. -/
theorem Bx.same (h : Bx W0 w nk n kv vv iv) (f : Fr (fun _ => False) w w') : Bx W0 w' nk n kv vv iv :=
  ⟨by rw [f.block nk (lt_of_block h.box) (fun f => f)]; exact h.box, h.new, h.keys.fr f (fun _ _ f => f), h.vals.fr f (fun _ _ f => f), h.kids.fr f (fun _ _ f => f), h.ok, h.ov, h.oi, h.nkv, h.nki, h.nvi, h.fr.seq' f⟩
/-- The beginning. -/
theorem Bx.start (w : World) (n : Nd) (hk : n.keys = []) (hv : n.vals = []) (hi : n.kids = []) : Bx w (w.alloc (.cells #[.int .i64 n.lev, .int .i64 n.lsn, .int .i64 n.rgt, .string n.high, .slice none 0 0, .slice none 0 0, .slice none 0 0] 28)) w.heap.size n (.slice none 0 0) (.slice none 0 0) (.slice none 0 0) :=
  ⟨heap_alloc_new w _, Nat.le_refl _, by rw [hk]; exact Has.nil _ _, by rw [hv]; exact Has.nil _ _, by rw [hi]; exact Has.nil _ _, (fun g e => by cases e), (fun g e => by cases e), (fun g e => by cases e), (fun g e => by cases e), (fun g e => by cases e), (fun g e => by cases e), (Fr.refl _ w).alloc _⟩
/-- Its right and its bound are stored. -/
theorem Bx.put (h : Bx W0 w nk n kv vv iv) (j : Nat) (x : Value) (m : Nd) (hk : m.keys = n.keys) (hv : m.vals = n.vals) (hi : m.kids = n.kids)
    (hb : (#[.int .i64 n.lev, .int .i64 n.lsn, .int .i64 n.rgt, .string n.high, kv, vv, iv] : Array Value).setIfInBounds j x = #[.int .i64 m.lev, .int .i64 m.lsn, .int .i64 m.rgt, .string m.high, kv, vv, iv]) :
    Bx W0 (w.setCell ⟨nk, j, none⟩ x) nk m kv vv iv := by
  have hn := h.new
  have f : Fr (fun k => k = nk) w (w.setCell ⟨nk, j, none⟩ x) := (Fr.refl (fun k => k = nk) w).setCell (p := ⟨nk, j, none⟩) (fun _ => rfl) _
  exact ⟨by rw [node_setCell h.box, hb], h.new, by rw [hk]; exact h.keys.fr f (fun g e e2 => by have := h.ok g e; omega), by rw [hv]; exact h.vals.fr f (fun g e e2 => by have := h.ov g e; omega), by rw [hi]; exact h.kids.fr f (fun g e e2 => by have := h.oi g e; omega),
    h.ok, h.ov, h.oi, h.nkv, h.nki, h.nvi, h.fr.trans f (fun i hi e => by omega)⟩
theorem Bx.rgt (h : Bx W0 w nk n kv vv iv) (x : Int) : Bx W0 (w.setCell ⟨nk, 2, none⟩ (.int .i64 x)) nk { n with rgt := x } kv vv iv := h.put 2 _ { n with rgt := x } rfl rfl rfl rfl
theorem Bx.high (h : Bx W0 w nk n kv vv iv) (x : ByteArray) : Bx W0 (w.setCell ⟨nk, 3, none⟩ (.string x)) nk { n with high := x } kv vv iv := h.put 3 _ { n with high := x } rfl rfl rfl rfl
/-- What an append onto one of its lists leaves. -/
theorem Bx.grow {w1 : World} {v : Value} (h : Bx W0 w nk n kv vv iv) (f : Fr (fun k => v.ownBlock = some k ∧ 0 < 1) w w1) (ov : ∀ g, v.ownBlock = some g → nk < g) :
    w1.heap[nk]? = some (.cells #[.int .i64 n.lev, .int .i64 n.lsn, .int .i64 n.rgt, .string n.high, kv, vv, iv] 28 (0, 0)) ∧ Fr (fun _ => False) W0 w1 := by
  have hn := h.new
  exact ⟨by rw [f.block nk (lt_of_block h.box) (fun e => by have := ov nk e.1; omega)]; exact h.box, h.fr.trans f (fun i hi e => by have := ov _ e.1; omega)⟩

theorem Bx.key (h : Bx W0 w nk n kv vv iv) (x : ByteArray) (hl : n.keys.length ≤ 100000) :
    ∃ a7 c7 w7, (Builtin.append_ #[25, 25] 25 #[kv, .slice (some ⟨w.heap.size, 0, none⟩) 1 1]).run Tryz.prog (w.alloc (.cells #[.string x] 9)) = .ok (.slice a7 (n.keys.length + 1) c7) w7 ∧
      w7.cell? ⟨nk, 4, none⟩ = some kv ∧ w7.frozen? ⟨nk, 4, none⟩ = false ∧ Bx W0 (w7.setCell ⟨nk, 4, none⟩ (.slice a7 (n.keys.length + 1) c7)) nk { n with keys := n.keys ++ [x] } (.slice a7 (n.keys.length + 1) c7) vv iv := by
  obtain ⟨i0, hi, hz0, hz1, hz2⟩ := info_parts infoStr
  have h1 := h.same (Fr.box w (.cells #[.string x] 9))
  have hb := heap_alloc_new w (.cells #[.string x] 9)
  obtain ⟨v', w7, hrun, hh, hf, ho⟩ := run_append_has (P := Tryz.prog) (w.alloc (.cells #[.string x] 9)) 25 25 25 9 9 i0 (.string ⟨#[]⟩) 1 16 Tryz.underlying25 Tryz.underlying25 hi hz0 hz1 hz2 rfl (by omega) kv n.keys.length (strCells n.keys) h1.keys
    (some ⟨w.heap.size, 0, none⟩) 1 1 [.string x] rfl (.inr ⟨w.heap.size, 0, rfl, range_block hb (fun j v hv => by rw [Nat.zero_add]; simpa using hv)⟩) (by simp [Value.oneCell']) (by unfold maxLen; omega) (by omega)
  obtain ⟨a7, c7, rfl, _, _⟩ := hh.slice
  obtain ⟨g1, g3⟩ := h1.grow hf h1.ok
  obtain ⟨⟨_, _, _, _, c4, _, _⟩, fz⟩ := node_cells g1
  have hsz : (w.alloc (.cells #[.string x] 9)).heap.size = w.heap.size + 1 := by simp
  rw [hsz] at ho
  have hnk := lt_of_block h.box
  have hv7 := h1.vals.fr hf (fun g e e2 => h.nkv g e2.1 e)
  have hi7 := h1.kids.fr hf (fun g e e2 => h.nki g e2.1 e)
  have f : Fr (fun k => k = nk) w7 (w7.setCell ⟨nk, 4, none⟩ (.slice a7 (n.keys.length + 1) c7)) := (Fr.refl (fun k => k = nk) w7).setCell (p := ⟨nk, 4, none⟩) (fun _ => rfl) _
  have hn := h.new
  have ok' := own_new ho hnk h.ok
  refine ⟨a7, c7, w7, hrun, c4, fz 4, ⟨by rw [node_setCell g1]; rfl, h.new, ?_, hv7.fr f (fun g e e2 => by have := h.ov g e; omega), hi7.fr f (fun g e e2 => by have := h.oi g e; omega), ok', h.ov, h.oi, own_apart ho (fun g e => h.vals.lt e) h.nkv, own_apart ho (fun g e => h.kids.lt e) h.nki, h.nvi, g3.trans f (fun i hi e => by omega)⟩⟩
  have : Has w7 1 (.slice a7 (n.keys.length + 1) c7) (n.keys ++ [x]).length (strCells (n.keys ++ [x])) := by
    rw [List.length_append]; simpa [strCells] using hh
  exact this.fr f (fun g e e2 => by have := ok' g e; omega)
theorem Bx.val (h : Bx W0 w nk n kv vv iv) (x : ByteArray) (hl : n.vals.length ≤ 100000) :
    ∃ a7 c7 w7, (Builtin.append_ #[25, 25] 25 #[vv, .slice (some ⟨w.heap.size, 0, none⟩) 1 1]).run Tryz.prog (w.alloc (.cells #[.string x] 9)) = .ok (.slice a7 (n.vals.length + 1) c7) w7 ∧
      w7.cell? ⟨nk, 5, none⟩ = some vv ∧ w7.frozen? ⟨nk, 5, none⟩ = false ∧ Bx W0 (w7.setCell ⟨nk, 5, none⟩ (.slice a7 (n.vals.length + 1) c7)) nk { n with vals := n.vals ++ [x] } kv (.slice a7 (n.vals.length + 1) c7) iv := by
  obtain ⟨i0, hi, hz0, hz1, hz2⟩ := info_parts infoStr
  have h1 := h.same (Fr.box w (.cells #[.string x] 9))
  have hb := heap_alloc_new w (.cells #[.string x] 9)
  obtain ⟨v', w7, hrun, hh, hf, ho⟩ := run_append_has (P := Tryz.prog) (w.alloc (.cells #[.string x] 9)) 25 25 25 9 9 i0 (.string ⟨#[]⟩) 1 16 Tryz.underlying25 Tryz.underlying25 hi hz0 hz1 hz2 rfl (by omega) vv n.vals.length (strCells n.vals) h1.vals
    (some ⟨w.heap.size, 0, none⟩) 1 1 [.string x] rfl (.inr ⟨w.heap.size, 0, rfl, range_block hb (fun j v hv => by rw [Nat.zero_add]; simpa using hv)⟩) (by simp [Value.oneCell']) (by unfold maxLen; omega) (by omega)
  obtain ⟨a7, c7, rfl, _, _⟩ := hh.slice
  obtain ⟨g1, g3⟩ := h1.grow hf h1.ov
  obtain ⟨⟨_, _, _, _, _, c5, _⟩, fz⟩ := node_cells g1
  have hsz : (w.alloc (.cells #[.string x] 9)).heap.size = w.heap.size + 1 := by simp
  rw [hsz] at ho
  have hnk := lt_of_block h.box
  have hk7 := h1.keys.fr hf (fun g e e2 => h.nkv g e e2.1)
  have hi7 := h1.kids.fr hf (fun g e e2 => h.nvi g e2.1 e)
  have f : Fr (fun k => k = nk) w7 (w7.setCell ⟨nk, 5, none⟩ (.slice a7 (n.vals.length + 1) c7)) := (Fr.refl (fun k => k = nk) w7).setCell (p := ⟨nk, 5, none⟩) (fun _ => rfl) _
  have hn := h.new
  have ok' := own_new ho hnk h.ov
  refine ⟨a7, c7, w7, hrun, c5, fz 5, ⟨by rw [node_setCell g1]; rfl, h.new, hk7.fr f (fun g e e2 => by have := h.ok g e; omega), ?_, hi7.fr f (fun g e e2 => by have := h.oi g e; omega), h.ok, ok', h.oi, own_apart' ho (fun g e => h.keys.lt e) h.nkv, h.nki, own_apart ho (fun g e => h.kids.lt e) h.nvi, g3.trans f (fun i hi e => by omega)⟩⟩
  have : Has w7 1 (.slice a7 (n.vals.length + 1) c7) (n.vals ++ [x]).length (strCells (n.vals ++ [x])) := by
    rw [List.length_append]; simpa [strCells] using hh
  exact this.fr f (fun g e e2 => by have := ok' g e; omega)
theorem Bx.kid (h : Bx W0 w nk n kv vv iv) (x : Int) (hl : n.kids.length ≤ 100000) :
    ∃ a7 c7 w7, (Builtin.append_ #[26, 26] 26 #[iv, .slice (some ⟨w.heap.size, 0, none⟩) 1 1]).run Tryz.prog (w.alloc (.cells #[.int .i64 x] 3)) = .ok (.slice a7 (n.kids.length + 1) c7) w7 ∧
      w7.cell? ⟨nk, 6, none⟩ = some iv ∧ w7.frozen? ⟨nk, 6, none⟩ = false ∧ Bx W0 (w7.setCell ⟨nk, 6, none⟩ (.slice a7 (n.kids.length + 1) c7)) nk { n with kids := n.kids ++ [x] } kv vv (.slice a7 (n.kids.length + 1) c7) := by
  obtain ⟨i0, hi, hz0, hz1, hz2⟩ := info_parts infoInt
  have h1 := h.same (Fr.box w (.cells #[.int .i64 x] 3))
  have hb := heap_alloc_new w (.cells #[.int .i64 x] 3)
  obtain ⟨v', w7, hrun, hh, hf, ho⟩ := run_append_has (P := Tryz.prog) (w.alloc (.cells #[.int .i64 x] 3)) 26 26 26 3 3 i0 (.int .i64 0) 1 8 Tryz.underlying26 Tryz.underlying26 hi hz0 hz1 hz2 rfl (by omega) iv n.kids.length (intCells n.kids) h1.kids
    (some ⟨w.heap.size, 0, none⟩) 1 1 [.int .i64 x] rfl (.inr ⟨w.heap.size, 0, rfl, range_block hb (fun j v hv => by rw [Nat.zero_add]; simpa using hv)⟩) (by simp [Value.oneCell']) (by unfold maxLen; omega) (by omega)
  obtain ⟨a7, c7, rfl, _, _⟩ := hh.slice
  obtain ⟨g1, g3⟩ := h1.grow hf h1.oi
  obtain ⟨⟨_, _, _, _, _, _, c6⟩, fz⟩ := node_cells g1
  have hsz : (w.alloc (.cells #[.int .i64 x] 3)).heap.size = w.heap.size + 1 := by simp
  rw [hsz] at ho
  have hnk := lt_of_block h.box
  have hk7 := h1.keys.fr hf (fun g e e2 => h.nki g e e2.1)
  have hv7 := h1.vals.fr hf (fun g e e2 => h.nvi g e e2.1)
  have f : Fr (fun k => k = nk) w7 (w7.setCell ⟨nk, 6, none⟩ (.slice a7 (n.kids.length + 1) c7)) := (Fr.refl (fun k => k = nk) w7).setCell (p := ⟨nk, 6, none⟩) (fun _ => rfl) _
  have hn := h.new
  have ok' := own_new ho hnk h.oi
  refine ⟨a7, c7, w7, hrun, c6, fz 6, ⟨by rw [node_setCell g1]; rfl, h.new, hk7.fr f (fun g e e2 => by have := h.ok g e; omega), hv7.fr f (fun g e e2 => by have := h.ov g e; omega), ?_, h.ok, h.ov, ok', h.nkv, own_apart' ho (fun g e => h.keys.lt e) h.nki, own_apart' ho (fun g e => h.vals.lt e) h.nvi, g3.trans f (fun i hi e => by omega)⟩⟩
  have : Has w7 1 (.slice a7 (n.kids.length + 1) c7) (n.kids ++ [x]).length (intCells (n.kids ++ [x])) := by
    rw [List.length_append]; simpa [intCells] using hh
  exact this.fr f (fun g e e2 => by have := ok' g e; omega)
/-- The lists as a node's. -/
theorem Bx.nod (h : Bx W0 w nk n kv vv iv) (sh : Short n) (hk : n.keys.length ≤ 100000) (hv : n.vals.length ≤ 100000) (hi : n.kids.length ≤ 100000) :
    ∃ p : Pt, kv = .slice p.k n.keys.length p.kc ∧ vv = .slice p.v n.vals.length p.vc ∧ iv = .slice p.i n.kids.length p.ic ∧ Nod w n p := by
  obtain ⟨ak, ck, e1, s1⟩ := h.keys.strs sh.keys
  obtain ⟨av, cv, e2, s2⟩ := h.vals.strs sh.vals
  obtain ⟨ai, ci, e3, s3⟩ := h.kids.ints
  exact ⟨⟨ak, ck, av, cv, ai, ci⟩, e1, e2, e3, s1, s2, s3, by have := sh.high; omega, (fun s hs => by have := sh.keys s hs; omega), (fun s hs => by have := sh.vals s hs; omega), by omega, by omega, by omega⟩
/-- The end: the node is stored as the answer, at block rb, which is zero. -/
theorem Bx.done {w1 : World} {rb : Nat} {r0 r1 r2 r3 r4 r5 r6 : Value} (h : Bx W0 w nk n kv vv iv) (sh : Short n) (hk : n.keys.length ≤ 100000) (hv : n.vals.length ≤ 100000) (hi : n.kids.length ≤ 100000) (hR : w.heap[rb]? = some (.cells #[r0, r1, r2, r3, r4, r5, r6] 28 (0, 0))) (h1 : w1.heap.size ≤ rb) (h2 : rb < W0.heap.size) (f1 : Fr (fun _ => False) w1 W0) :
    ∃ p : Pt, (kv = .slice p.k n.keys.length p.kc ∧ vv = .slice p.v n.vals.length p.vc ∧ iv = .slice p.i n.kids.length p.ic) ∧
      (((((((w.setCell ⟨rb, 0, none⟩ (.int .i64 n.lev)).setCell ⟨rb, 1, none⟩ (.int .i64 n.lsn)).setCell ⟨rb, 2, none⟩ (.int .i64 n.rgt)).setCell ⟨rb, 3, none⟩ (.string n.high)).setCell ⟨rb, 4, none⟩ kv).setCell ⟨rb, 5, none⟩ vv).setCell ⟨rb, 6, none⟩ iv).heap[rb]? = some (.cells #[.int .i64 n.lev, .int .i64 n.lsn, .int .i64 n.rgt, .string n.high, kv, vv, iv] 28 (0, 0)) ∧
      Nod (((((((w.setCell ⟨rb, 0, none⟩ (.int .i64 n.lev)).setCell ⟨rb, 1, none⟩ (.int .i64 n.lsn)).setCell ⟨rb, 2, none⟩ (.int .i64 n.rgt)).setCell ⟨rb, 3, none⟩ (.string n.high)).setCell ⟨rb, 4, none⟩ kv).setCell ⟨rb, 5, none⟩ vv).setCell ⟨rb, 6, none⟩ iv) n p ∧
      Fr (fun _ => False) w1 (((((((w.setCell ⟨rb, 0, none⟩ (.int .i64 n.lev)).setCell ⟨rb, 1, none⟩ (.int .i64 n.lsn)).setCell ⟨rb, 2, none⟩ (.int .i64 n.rgt)).setCell ⟨rb, 3, none⟩ (.string n.high)).setCell ⟨rb, 4, none⟩ kv).setCell ⟨rb, 5, none⟩ vv).setCell ⟨rb, 6, none⟩ iv) ∧ Nw w1 p := by
  obtain ⟨hq, ff⟩ := fin7 hR (.int .i64 n.lev) (.int .i64 n.lsn) (.int .i64 n.rgt) (.string n.high) kv vv iv
  generalize (((((((w.setCell ⟨rb, 0, none⟩ (.int .i64 n.lev)).setCell ⟨rb, 1, none⟩ (.int .i64 n.lsn)).setCell ⟨rb, 2, none⟩ (.int .i64 n.rgt)).setCell ⟨rb, 3, none⟩ (.string n.high)).setCell ⟨rb, 4, none⟩ kv).setCell ⟨rb, 5, none⟩ vv).setCell ⟨rb, 6, none⟩ iv) = Wf at hq ff ⊢
  obtain ⟨p, e1, e2, e3, nd⟩ := h.nod sh hk hv hi
  have hn := h.new
  refine ⟨p, ⟨e1, e2, e3⟩, hq, nd_far nd ff (fun b off hx e => ?_), (f1.seq' h.fr).trans ff (S := fun _ => False) (fun i hi e => by omega), fun b off hx => ?_⟩
  all_goals
    rcases hx with hx | hx | hx
    · have := h.ok b (by rw [e1, hx]; rfl); omega
    · have := h.ov b (by rw [e2, hx]; rfl); omega
    · have := h.oi b (by rw [e3, hx]; rfl); omega
end
/-- A node without entries. -/
def bareN (n : Nd) : Nd := ⟨n.lev, n.lsn, n.rgt, n.high, [], [], []⟩
end Go.Proofs.YtnckmajfmkkpgaaGreat

/- The library texts slices.Insert and slices.Delete, as the shelf knows them, in this program. -/
namespace Go.Proofs.YtnckmajfmkkpgaaGreat
open Go.Shelf Go.RowKit

def renS : Ren := ⟨fun k => if k = 17 then 131 else if k = 22 then 96 else if k = 29 then 113 else if k = 30 then 114 else if k = 36 then 123 else 0, fun k => if k = 0 then 0 else if k = 3 then 3 else if k = 4 then 4 else if k = 9 then 9 else if k = 22 then 26 else if k = 24 then 25 else 0, fun g => g⟩
theorem laysS : Lays2.n22 Tryz.prog renS := {
  mixed := by kernel_rfl
  f17 := Tryz.func131.trans (congrArg some (by kernel_rfl))
  f22 := Tryz.func96.trans (congrArg some (by kernel_rfl))
  f29 := Tryz.func113.trans (congrArg some (by kernel_rfl))
  f30 := Tryz.func114.trans (congrArg some (by kernel_rfl))
  f36 := Tryz.func123.trans (congrArg some (by kernel_rfl))
  t0 := Tryz.underlying0
  a0 := Tryz.isAgg0
  z0 := Tryz.sizeOf0
  v0 := Tryz.zeroValue0
  t3 := Tryz.underlying3
  a3 := Tryz.isAgg3
  z3 := Tryz.sizeOf3
  v3 := Tryz.zeroValue3
  t4 := Tryz.underlying4
  a4 := Tryz.isAgg4
  z4 := Tryz.sizeOf4
  v4 := Tryz.zeroValue4
  t9 := Tryz.underlying9
  a9 := Tryz.isAgg9
  z9 := Tryz.sizeOf9
  v9 := Tryz.zeroValue9
  t24 := Tryz.underlying25
  a24 := Tryz.isAgg25
  z24 := Tryz.sizeOf25
  v24 := Tryz.zeroValue25
  i9 := by kernel_rfl }
def renD : Ren := ⟨fun k => if k = 24 then 98 else 0, fun k => if k = 0 then 0 else if k = 3 then 3 else if k = 4 then 4 else if k = 9 then 9 else if k = 22 then 26 else if k = 24 then 25 else 0, fun g => g⟩
theorem laysD : Lays2.n24 Tryz.prog renD := {
  mixed := by kernel_rfl
  f24 := Tryz.func98.trans (congrArg some (by kernel_rfl))
  t0 := Tryz.underlying0
  a0 := Tryz.isAgg0
  z0 := Tryz.sizeOf0
  v0 := Tryz.zeroValue0
  t3 := Tryz.underlying3
  a3 := Tryz.isAgg3
  z3 := Tryz.sizeOf3
  v3 := Tryz.zeroValue3
  t4 := Tryz.underlying4
  a4 := Tryz.isAgg4
  z4 := Tryz.sizeOf4
  v4 := Tryz.zeroValue4
  t9 := Tryz.underlying9
  a9 := Tryz.isAgg9
  z9 := Tryz.sizeOf9
  v9 := Tryz.zeroValue9
  t24 := Tryz.underlying25
  a24 := Tryz.isAgg25
  z24 := Tryz.sizeOf25
  v24 := Tryz.zeroValue25
  i9 := by kernel_rfl }
def renI : Ren := ⟨fun k => if k = 21 then 102 else if k = 27 then 115 else if k = 28 then 116 else if k = 35 then 124 else if k = 39 then 132 else 0, fun k => if k = 0 then 0 else if k = 3 then 3 else if k = 4 then 4 else if k = 9 then 9 else if k = 22 then 26 else if k = 24 then 25 else 0, fun g => g⟩
theorem laysI : Lays2.n21 Tryz.prog renI := {
  mixed := by kernel_rfl
  f21 := Tryz.func102.trans (congrArg some (by kernel_rfl))
  f27 := Tryz.func115.trans (congrArg some (by kernel_rfl))
  f28 := Tryz.func116.trans (congrArg some (by kernel_rfl))
  f35 := Tryz.func124.trans (congrArg some (by kernel_rfl))
  f39 := Tryz.func132.trans (congrArg some (by kernel_rfl))
  t0 := Tryz.underlying0
  a0 := Tryz.isAgg0
  z0 := Tryz.sizeOf0
  v0 := Tryz.zeroValue0
  t3 := Tryz.underlying3
  a3 := Tryz.isAgg3
  z3 := Tryz.sizeOf3
  v3 := Tryz.zeroValue3
  t4 := Tryz.underlying4
  a4 := Tryz.isAgg4
  z4 := Tryz.sizeOf4
  v4 := Tryz.zeroValue4
  t22 := Tryz.underlying26
  a22 := Tryz.isAgg26
  z22 := Tryz.sizeOf26
  v22 := Tryz.zeroValue26
  i3 := by kernel_rfl }
end Go.Proofs.YtnckmajfmkkpgaaGreat
