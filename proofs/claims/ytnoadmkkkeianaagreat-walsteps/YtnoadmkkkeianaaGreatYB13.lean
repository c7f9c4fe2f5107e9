
/- PgRx, PgRMath, PgREnc1, PgREnc2, PgREnc3. -/
import Derived.Test.YtnoadmkkkeianaaGreatYB6
import Derived.Test.YtnoadmkkkeianaaGreatYB10
import Derived.Test.YtnoadmkkkeianaaGreatYB7
import Derived.Test.YtnoadmkkkeianaaGreatYB12
import Derived.Test.YtnoadmkkkeianaaGreatYB4
import Derived.Test.YtnoadmkkkeianaaGreatYB3
/- A node that is built field by field beside the document's reader. -/
namespace Go.Proofs.YtnoadmkkkeianaaGreat
open Go.RowKit Crcm

theorem rf_fr {S : Nat → Prop} {w w' : World} {rb : Nat} {a : Option Addr} {cap : Nat} {l : List Nat} {err : Int} (h : Rf w rb a cap l err) (f : Fr S w w') (h1 : ¬ S rb) (h2 : ∀ b off sp, a = some ⟨b, off, sp⟩ → ¬ S b) : Rf w' rb a cap l err :=
  ⟨by rw [f.block rb (lt_of_block h.box) h1]; exact h.box, h.row.fr f h2, h.far⟩

/-- A node under way at block nk, a reader at rb, an answer at rs; what was there at W0 is as it was. -/
structure Rx (W0 w : World) (nk rb rs : Nat) (a : Option Addr) (cap : Nat) (s : RS) (n : Nd) (kv vv iv : Value) : Prop where
  box : w.heap[nk]? = some (.cells #[.int .i64 n.lev, .int .i64 n.lsn, .int .i64 n.rgt, .string n.high, kv, vv, iv] 84 (0, 0))
  nrb : rb < nk
  nrs : rs < nk
  rne : rs ≠ rb
  lrb : W0.heap.size ≤ rb
  lrs : W0.heap.size ≤ rs
  keys : Has w 1 kv n.keys.length (strCells n.keys)
  vals : Has w 1 vv n.vals.length (strCells n.vals)
  kids : Has w 1 iv n.kids.length (intCells n.kids)
  ok : ∀ g, kv.ownBlock = some g → nk < g
  ov : ∀ g, vv.ownBlock = some g → nk < g
  oi : ∀ g, iv.ownBlock = some g → nk < g
  nkv : ∀ g, kv.ownBlock = some g → vv.ownBlock ≠ some g
  nki : ∀ g, kv.ownBlock = some g → iv.ownBlock ≠ some g
  nvi : ∀ g, vv.ownBlock = some g → iv.ownBlock ≠ some g
  rf : Rf w rb a cap s.1 s.2
  alt : ∀ b off sp, a = some ⟨b, off, sp⟩ → b < W0.heap.size
  fr : Fr (fun _ => False) W0 w
  res : w.heap[rs]? = some (.cells #[.int .i64 0, .int .i64 0, .int .i64 0, .string ⟨#[]⟩, .slice none 0 0, .slice none 0 0, .slice none 0 0] 84 (0, 0))

section
variable {W0 w w' : World} {nk rb rs : Nat} {a a' : Option Addr} {cap c' : Nat} {s s' : RS} {n : Nd} {kv vv iv : Value}
/-- What leaves everything leaves it. -/
theorem Rx.same (h : Rx W0 w nk rb rs a cap s n kv vv iv) (f : Fr (fun _ => False) w w') : Rx W0 w' nk rb rs a cap s n kv vv iv :=
  ⟨by rw [f.block nk (lt_of_block h.box) (fun f => f)]; exact h.box, h.nrb, h.nrs, h.rne, h.lrb, h.lrs, h.keys.fr f (fun _ _ f => f), h.vals.fr f (fun _ _ f => f), h.kids.fr f (fun _ _ f => f), h.ok, h.ov, h.oi, h.nkv, h.nki, h.nvi, rf_fr h.rf f (fun f => f) (fun _ _ _ _ f => f), h.alt, h.fr.trans f (fun _ _ f => f), by rw [f.block _ (lt_of_block h.res) (fun f => f)]; exact h.res⟩
/-- The reader has gone on. -/
theorem Rx.goR (h : Rx W0 w nk rb rs a cap s n kv vv iv) (r : Rf w' rb a' c' s'.1 s'.2) (f : Fr (fun k => k = rb) w w') (na : Near a a') : Rx W0 w' nk rb rs a' c' s' n kv vv iv := by
  have h1 := h.nrb
  have h2 := h.rne
  have h3 := h.lrb
  exact ⟨by rw [f.block nk (lt_of_block h.box) (by omega)]; exact h.box, h.nrb, h.nrs, h.rne, h.lrb, h.lrs, h.keys.fr f (fun g e e2 => by have := h.ok g e; omega), h.vals.fr f (fun g e e2 => by have := h.ov g e; omega), h.kids.fr f (fun g e e2 => by have := h.oi g e; omega),
    h.ok, h.ov, h.oi, h.nkv, h.nki, h.nvi, r, (fun b off sp e => by obtain ⟨o, t, e2⟩ := na b off sp e; exact h.alt b o t e2), h.fr.trans f (S := fun _ => False) (fun i hi e => by omega), by rw [f.block _ (lt_of_block h.res) (by omega)]; exact h.res⟩
/-- A field of the node, or one of its lists, is stored anew. -/
theorem Rx.put (h : Rx W0 w nk rb rs a cap s n kv vv iv) (j : Nat) (x : Value) (m : Nd) (kv' vv' iv' : Value)
    (hb : (#[.int .i64 n.lev, .int .i64 n.lsn, .int .i64 n.rgt, .string n.high, kv, vv, iv] : Array Value).setIfInBounds j x = #[.int .i64 m.lev, .int .i64 m.lsn, .int .i64 m.rgt, .string m.high, kv', vv', iv'])
    (hk : Has w 1 kv' m.keys.length (strCells m.keys)) (hv : Has w 1 vv' m.vals.length (strCells m.vals)) (hi : Has w 1 iv' m.kids.length (intCells m.kids))
    (ok : ∀ g, kv'.ownBlock = some g → nk < g) (ov : ∀ g, vv'.ownBlock = some g → nk < g) (oi : ∀ g, iv'.ownBlock = some g → nk < g)
    (nkv : ∀ g, kv'.ownBlock = some g → vv'.ownBlock ≠ some g) (nki : ∀ g, kv'.ownBlock = some g → iv'.ownBlock ≠ some g) (nvi : ∀ g, vv'.ownBlock = some g → iv'.ownBlock ≠ some g) :
    Rx W0 (w.setCell ⟨nk, j, none⟩ x) nk rb rs a cap s m kv' vv' iv' := by
  have h1 := h.nrb
  have h2 := h.nrs
  have h3 := h.lrb
  have h4 := h.lrs
  have f : Fr (fun k => k = nk) w (w.setCell ⟨nk, j, none⟩ x) := (Fr.refl (fun k => k = nk) w).setCell (p := ⟨nk, j, none⟩) (fun _ => rfl) _
  exact ⟨by rw [node_setCell h.box, hb], h.nrb, h.nrs, h.rne, h.lrb, h.lrs, hk.fr f (fun g e e2 => by have := ok g e; omega), hv.fr f (fun g e e2 => by have := ov g e; omega), hi.fr f (fun g e e2 => by have := oi g e; omega),
    ok, ov, oi, nkv, nki, nvi, rf_fr h.rf f (by omega) (fun b off sp e => by have := h.alt b off sp e; omega), h.alt, h.fr.trans f (fun i hi e => by omega), by rw [f.block _ (lt_of_block h.res) (by omega)]; exact h.res⟩
end
section
variable {W0 w : World} {nk rb rs : Nat} {a : Option Addr} {cap : Nat} {s : RS} {n : Nd} {kv vv iv : Value}
theorem Rx.lev (h : Rx W0 w nk rb rs a cap s n kv vv iv) (x : Int) : Rx W0 (w.setCell ⟨nk, 0, none⟩ (.int .i64 x)) nk rb rs a cap s { n with lev := x } kv vv iv :=
  h.put 0 _ { n with lev := x } kv vv iv rfl h.keys h.vals h.kids h.ok h.ov h.oi h.nkv h.nki h.nvi
theorem Rx.lsn (h : Rx W0 w nk rb rs a cap s n kv vv iv) (x : Int) : Rx W0 (w.setCell ⟨nk, 1, none⟩ (.int .i64 x)) nk rb rs a cap s { n with lsn := x } kv vv iv :=
  h.put 1 _ { n with lsn := x } kv vv iv rfl h.keys h.vals h.kids h.ok h.ov h.oi h.nkv h.nki h.nvi
theorem Rx.rgt (h : Rx W0 w nk rb rs a cap s n kv vv iv) (x : Int) : Rx W0 (w.setCell ⟨nk, 2, none⟩ (.int .i64 x)) nk rb rs a cap s { n with rgt := x } kv vv iv :=
  h.put 2 _ { n with rgt := x } kv vv iv rfl h.keys h.vals h.kids h.ok h.ov h.oi h.nkv h.nki h.nvi
theorem Rx.high (h : Rx W0 w nk rb rs a cap s n kv vv iv) (x : ByteArray) : Rx W0 (w.setCell ⟨nk, 3, none⟩ (.string x)) nk rb rs a cap s { n with high := x } kv vv iv :=
  h.put 3 _ { n with high := x } kv vv iv rfl h.keys h.vals h.kids h.ok h.ov h.oi h.nkv h.nki h.nvi

/-- What an append onto one of its lists leaves. -/
theorem Rx.grow {w1 : World} {v : Value} (h : Rx W0 w nk rb rs a cap s n kv vv iv) (f : Fr (fun k => v.ownBlock = some k ∧ 0 < 1) w w1) (ov : ∀ g, v.ownBlock = some g → nk < g) :
    w1.heap[nk]? = some (.cells #[.int .i64 n.lev, .int .i64 n.lsn, .int .i64 n.rgt, .string n.high, kv, vv, iv] 84 (0, 0)) ∧ Rf w1 rb a cap s.1 s.2 ∧ Fr (fun _ => False) W0 w1 ∧
    w1.heap[rs]? = some (.cells #[.int .i64 0, .int .i64 0, .int .i64 0, .string ⟨#[]⟩, .slice none 0 0, .slice none 0 0, .slice none 0 0] 84 (0, 0)) := by
  have h1 := h.nrb
  have h2 := h.nrs
  have h3 := h.lrb
  have h4 := h.lrs
  refine ⟨by rw [f.block nk (lt_of_block h.box) (fun e => by have := ov nk e.1; omega)]; exact h.box, rf_fr h.rf f (fun e => by have := ov _ e.1; omega) (fun b off sp e e2 => by have := h.alt b off sp e; have := ov _ e2.1; omega), h.fr.trans f (fun i hi e => by have := ov _ e.1; omega), by rw [f.block _ (lt_of_block h.res) (fun e => by have := ov _ e.1; omega)]; exact h.res⟩

theorem Rx.key (h : Rx W0 w nk rb rs a cap s n kv vv iv) (x : ByteArray) (hl : n.keys.length ≤ 100000) :
    ∃ a7 c7 w7, (Builtin.append_ #[81, 81] 81 #[kv, (.slice (some ⟨w.heap.size, 0, none⟩) 1 1)]).run Tryz.prog (w.alloc (.cells #[.string x] 9)) = .ok (.slice a7 (n.keys.length + 1) c7) w7 ∧
      w7.cell? ⟨nk, 4, none⟩ = some kv ∧ w7.frozen? ⟨nk, 4, none⟩ = false ∧ Rx W0 (w7.setCell ⟨nk, 4, none⟩ (.slice a7 (n.keys.length + 1) c7)) nk rb rs a cap s { n with keys := n.keys ++ [x] } (.slice a7 (n.keys.length + 1) c7) vv iv := by
  obtain ⟨i0, hi, hz0, hz1, hz2⟩ := info_parts infoStr
  have h1 := h.same (Fr.box w (.cells #[.string x] 9))
  have hb := heap_alloc_new w (.cells #[.string x] 9)
  obtain ⟨v', w7, hrun, hh, hf, ho⟩ := run_append_has (P := Tryz.prog) (w.alloc (.cells #[.string x] 9)) 81 81 81 9 9 i0 (.string ⟨#[]⟩) 1 16 Tryz.underlying81 Tryz.underlying81 hi hz0 hz1 hz2 rfl (by omega) kv n.keys.length (strCells n.keys) h1.keys
    (some ⟨w.heap.size, 0, none⟩) 1 1 [.string x] rfl (.inr ⟨w.heap.size, 0, rfl, range_block hb (fun j v hv => by rw [Nat.zero_add]; simpa using hv)⟩) (by simp [Value.oneCell']) (by unfold maxLen; omega) (by omega)
  obtain ⟨a7, c7, rfl, _, _⟩ := hh.slice
  obtain ⟨g1, g2, g3, g4⟩ := h1.grow hf h1.ok
  obtain ⟨⟨_, _, _, _, c4, _, _⟩, fz⟩ := node_cells g1
  have hsz : (w.alloc (.cells #[.string x] 9)).heap.size = w.heap.size + 1 := by simp
  rw [hsz] at ho
  have hnk := lt_of_block h.box
  have hv7 := h1.vals.fr hf (fun g e e2 => h.nkv g e2.1 e)
  have hi7 := h1.kids.fr hf (fun g e e2 => h.nki g e2.1 e)
  have f : Fr (fun k => k = nk) w7 (w7.setCell ⟨nk, 4, none⟩ (.slice a7 (n.keys.length + 1) c7)) := (Fr.refl (fun k => k = nk) w7).setCell (p := ⟨nk, 4, none⟩) (fun _ => rfl) _
  have h1 := h.nrb
  have h2 := h.nrs
  have h3 := h.lrb
  have h4 := h.lrs
  have ok' := own_new ho hnk h.ok
  refine ⟨a7, c7, w7, hrun, c4, fz 4, ⟨by rw [node_setCell g1]; rfl, h.nrb, h.nrs, h.rne, h.lrb, h.lrs, ?_, hv7.fr f (fun g e e2 => by have := h.ov g e; omega), hi7.fr f (fun g e e2 => by have := h.oi g e; omega), ok', h.ov, h.oi, own_apart ho (fun g e => h.vals.lt e) h.nkv, own_apart ho (fun g e => h.kids.lt e) h.nki, h.nvi, rf_fr g2 f (by omega) (fun b off sp e => by have := h.alt b off sp e; omega), h.alt, g3.trans f (fun i hi e => by omega), by rw [f.block _ (lt_of_block g4) (by omega)]; exact g4⟩⟩
  have : Has w7 1 (.slice a7 (n.keys.length + 1) c7) (n.keys ++ [x]).length (strCells (n.keys ++ [x])) := by
    rw [List.length_append]; simpa [strCells] using hh
  exact this.fr f (fun g e e2 => by have := ok' g e; omega)
theorem Rx.val (h : Rx W0 w nk rb rs a cap s n kv vv iv) (x : ByteArray) (hl : n.vals.length ≤ 100000) :
    ∃ a7 c7 w7, (Builtin.append_ #[81, 81] 81 #[vv, (.slice (some ⟨w.heap.size, 0, none⟩) 1 1)]).run Tryz.prog (w.alloc (.cells #[.string x] 9)) = .ok (.slice a7 (n.vals.length + 1) c7) w7 ∧
      w7.cell? ⟨nk, 5, none⟩ = some vv ∧ w7.frozen? ⟨nk, 5, none⟩ = false ∧ Rx W0 (w7.setCell ⟨nk, 5, none⟩ (.slice a7 (n.vals.length + 1) c7)) nk rb rs a cap s { n with vals := n.vals ++ [x] } kv (.slice a7 (n.vals.length + 1) c7) iv := by
  obtain ⟨i0, hi, hz0, hz1, hz2⟩ := info_parts infoStr
  have h1 := h.same (Fr.box w (.cells #[.string x] 9))
  have hb := heap_alloc_new w (.cells #[.string x] 9)
  obtain ⟨v', w7, hrun, hh, hf, ho⟩ := run_append_has (P := Tryz.prog) (w.alloc (.cells #[.string x] 9)) 81 81 81 9 9 i0 (.string ⟨#[]⟩) 1 16 Tryz.underlying81 Tryz.underlying81 hi hz0 hz1 hz2 rfl (by omega) vv n.vals.length (strCells n.vals) h1.vals
    (some ⟨w.heap.size, 0, none⟩) 1 1 [.string x] rfl (.inr ⟨w.heap.size, 0, rfl, range_block hb (fun j v hv => by rw [Nat.zero_add]; simpa using hv)⟩) (by simp [Value.oneCell']) (by unfold maxLen; omega) (by omega)
  obtain ⟨a7, c7, rfl, _, _⟩ := hh.slice
  obtain ⟨g1, g2, g3, g4⟩ := h1.grow hf h1.ov
  obtain ⟨⟨_, _, _, _, _, c5, _⟩, fz⟩ := node_cells g1
  have hsz : (w.alloc (.cells #[.string x] 9)).heap.size = w.heap.size + 1 := by simp
  rw [hsz] at ho
  have hnk := lt_of_block h.box
  have hk7 := h1.keys.fr hf (fun g e e2 => h.nkv g e e2.1)
  have hi7 := h1.kids.fr hf (fun g e e2 => h.nvi g e2.1 e)
  have f : Fr (fun k => k = nk) w7 (w7.setCell ⟨nk, 5, none⟩ (.slice a7 (n.vals.length + 1) c7)) := (Fr.refl (fun k => k = nk) w7).setCell (p := ⟨nk, 5, none⟩) (fun _ => rfl) _
  have h1 := h.nrb
  have h2 := h.nrs
  have h3 := h.lrb
  have h4 := h.lrs
  have ok' := own_new ho hnk h.ov
  refine ⟨a7, c7, w7, hrun, c5, fz 5, ⟨by rw [node_setCell g1]; rfl, h.nrb, h.nrs, h.rne, h.lrb, h.lrs, hk7.fr f (fun g e e2 => by have := h.ok g e; omega), ?_, hi7.fr f (fun g e e2 => by have := h.oi g e; omega), h.ok, ok', h.oi, own_apart' ho (fun g e => h.keys.lt e) h.nkv, h.nki, own_apart ho (fun g e => h.kids.lt e) h.nvi, rf_fr g2 f (by omega) (fun b off sp e => by have := h.alt b off sp e; omega), h.alt, g3.trans f (fun i hi e => by omega), by rw [f.block _ (lt_of_block g4) (by omega)]; exact g4⟩⟩
  have : Has w7 1 (.slice a7 (n.vals.length + 1) c7) (n.vals ++ [x]).length (strCells (n.vals ++ [x])) := by
    rw [List.length_append]; simpa [strCells] using hh
  exact this.fr f (fun g e e2 => by have := ok' g e; omega)
theorem Rx.kid (h : Rx W0 w nk rb rs a cap s n kv vv iv) (x : Int) (hl : n.kids.length ≤ 100000) :
    ∃ a7 c7 w7, (Builtin.append_ #[82, 82] 82 #[iv, (.slice (some ⟨w.heap.size, 0, none⟩) 1 1)]).run Tryz.prog (w.alloc (.cells #[.int .i64 x] 3)) = .ok (.slice a7 (n.kids.length + 1) c7) w7 ∧
      w7.cell? ⟨nk, 6, none⟩ = some iv ∧ w7.frozen? ⟨nk, 6, none⟩ = false ∧ Rx W0 (w7.setCell ⟨nk, 6, none⟩ (.slice a7 (n.kids.length + 1) c7)) nk rb rs a cap s { n with kids := n.kids ++ [x] } kv vv (.slice a7 (n.kids.length + 1) c7) := by
  obtain ⟨i0, hi, hz0, hz1, hz2⟩ := info_parts infoInt
  have h1 := h.same (Fr.box w (.cells #[.int .i64 x] 3))
  have hb := heap_alloc_new w (.cells #[.int .i64 x] 3)
  obtain ⟨v', w7, hrun, hh, hf, ho⟩ := run_append_has (P := Tryz.prog) (w.alloc (.cells #[.int .i64 x] 3)) 82 82 82 3 3 i0 (.int .i64 0) 1 8 Tryz.underlying82 Tryz.underlying82 hi hz0 hz1 hz2 rfl (by omega) iv n.kids.length (intCells n.kids) h1.kids
    (some ⟨w.heap.size, 0, none⟩) 1 1 [.int .i64 x] rfl (.inr ⟨w.heap.size, 0, rfl, range_block hb (fun j v hv => by rw [Nat.zero_add]; simpa using hv)⟩) (by simp [Value.oneCell']) (by unfold maxLen; omega) (by omega)
  obtain ⟨a7, c7, rfl, _, _⟩ := hh.slice
  obtain ⟨g1, g2, g3, g4⟩ := h1.grow hf h1.oi
  obtain ⟨⟨_, _, _, _, _, _, c6⟩, fz⟩ := node_cells g1
  have hsz : (w.alloc (.cells #[.int .i64 x] 3)).heap.size = w.heap.size + 1 := by simp
  rw [hsz] at ho
  have hnk := lt_of_block h.box
  have hk7 := h1.keys.fr hf (fun g e e2 => h.nki g e e2.1)
  have hv7 := h1.vals.fr hf (fun g e e2 => h.nvi g e e2.1)
  have f : Fr (fun k => k = nk) w7 (w7.setCell ⟨nk, 6, none⟩ (.slice a7 (n.kids.length + 1) c7)) := (Fr.refl (fun k => k = nk) w7).setCell (p := ⟨nk, 6, none⟩) (fun _ => rfl) _
  have h1 := h.nrb
  have h2 := h.nrs
  have h3 := h.lrb
  have h4 := h.lrs
  have ok' := own_new ho hnk h.oi
  refine ⟨a7, c7, w7, hrun, c6, fz 6, ⟨by rw [node_setCell g1]; rfl, h.nrb, h.nrs, h.rne, h.lrb, h.lrs, hk7.fr f (fun g e e2 => by have := h.ok g e; omega), hv7.fr f (fun g e e2 => by have := h.ov g e; omega), ?_, h.ok, h.ov, ok', h.nkv, own_apart' ho (fun g e => h.keys.lt e) h.nki, own_apart' ho (fun g e => h.vals.lt e) h.nvi, rf_fr g2 f (by omega) (fun b off sp e => by have := h.alt b off sp e; omega), h.alt, g3.trans f (fun i hi e => by omega), by rw [f.block _ (lt_of_block g4) (by omega)]; exact g4⟩⟩
  have : Has w7 1 (.slice a7 (n.kids.length + 1) c7) (n.kids ++ [x]).length (intCells (n.kids ++ [x])) := by
    rw [List.length_append]; simpa [intCells] using hh
  exact this.fr f (fun g e e2 => by have := ok' g e; omega)
end
end Go.Proofs.YtnoadmkkkeianaaGreat

/- What the document's Decode reads. -/
namespace Go.Proofs.YtnoadmkkkeianaaGreat
open Go.RowKit Crcm

/-- The entries that the document reads, so many at most, until one fails. -/
def rentL (leaf : Bool) : Nat → Nd × RS → Nd × RS
  | 0, x => x
  | c + 1, x =>
    if x.2.2 = 0 then
      (if leaf = true then rentL leaf c (upL x.1 [strOf (textS x.2 256).1] [strOf (textS (textS x.2 256).2.2 256).1], (textS (textS x.2 256).2.2 256).2.2)
       else rentL leaf c (upI x.1 [strOf (textS x.2 256).1] [(numS (textS x.2 256).2.2 4).1], (numS (textS x.2 256).2.2 4).2.2))
    else x
def rnodeS (s : RS) : Nd × RS :=
  if (numS s 1).1 = 0 then
    rentL true (numS (numS (numS (numS s 1).2.2 8).2.2 4).2.2 2).1.toNat (⟨(numS s 1).1, (numS (numS s 1).2.2 8).1, (numS (numS (numS s 1).2.2 8).2.2 4).1, strOf (textS (numS (numS (numS (numS s 1).2.2 8).2.2 4).2.2 2).2.2 256).1, [], [], []⟩, (textS (numS (numS (numS (numS s 1).2.2 8).2.2 4).2.2 2).2.2 256).2.2)
  else
    rentL false (numS (numS (numS (numS s 1).2.2 8).2.2 4).2.2 2).1.toNat (⟨(numS s 1).1, (numS (numS s 1).2.2 8).1, (numS (numS (numS s 1).2.2 8).2.2 4).1, strOf (textS (numS (numS (numS (numS s 1).2.2 8).2.2 4).2.2 2).2.2 256).1, [], [], [(numS (textS (numS (numS (numS (numS s 1).2.2 8).2.2 4).2.2 2).2.2 256).2.2 4).1]⟩, (numS (textS (numS (numS (numS (numS s 1).2.2 8).2.2 4).2.2 2).2.2 256).2.2 4).2.2)
theorem rentL_stop (leaf : Bool) (c : Nat) (x : Nd × RS) (h : x.2.2 ≠ 0) : rentL leaf c x = x := by
  cases c with
  | zero => rfl
  | succ c => simp only [rentL]; rw [if_neg h]
theorem rentL_leaf (c : Nat) (n : Nd) (s : RS) (t u : List Nat × Int × RS) (h : s.2 = 0) (ht : t = textS s 256) (hu : u = textS t.2.2 256) : rentL true (c + 1) (n, s) = rentL true c ({ n with keys := n.keys ++ [strOf t.1], vals := n.vals ++ [strOf u.1] }, u.2.2) := by
  subst ht; subst hu
  simp only [rentL]
  rw [if_pos h, if_pos trivial]
theorem rentL_inner (c : Nat) (n : Nd) (s : RS) (t : List Nat × Int × RS) (u : Int × Int × RS) (h : s.2 = 0) (ht : t = textS s 256) (hu : u = numS t.2.2 4) : rentL false (c + 1) (n, s) = rentL false c ({ n with keys := n.keys ++ [strOf t.1], kids := n.kids ++ [u.1] }, u.2.2) := by
  subst ht; subst hu
  simp only [rentL]
  rw [if_pos h, if_neg (by simp)]
theorem numS_st (k v : Nat) (hk : k = 1 ∨ k = 2 ∨ k = 4 ∨ k = 8) (hv : v < 256 ^ k) (hv2 : v < 9223372036854775808) (r : List Nat) : (numS (le k v ++ r, 0) (k : Int)).1 = (v : Int) ∧ (numS (le k v ++ r, 0) (k : Int)).2.2 = (r, 0) := by
  have := numF_st k v hk hv hv2 r
  unfold numF at this
  simp only [Prod.mk.injEq] at this
  exact ⟨this.1, this.2.1⟩
theorem textS_st (s : ByteArray) (m : Nat) (hs : s.size ≤ m) (hm : m ≤ 65535) (r : List Nat) : strOf (textS (txt s ++ r, 0) (m : Int)).1 = s ∧ (textS (txt s ++ r, 0) (m : Int)).2.2 = (r, 0) := by
  have := textF_st s m hs hm r
  unfold textF at this
  simp only [Prod.mk.injEq] at this
  exact ⟨this.1, this.2.1⟩
theorem rleaf_fwd (c : Nat) : ∀ (n : Nd) (K V : List ByteArray) (r : List Nat), n.lev = 0 → n.vals.length = n.keys.length → K.length = c → V.length = c → (∀ s ∈ K, s.size ≤ 16) → (∀ s ∈ V, s.size ≤ 32) →
    rentL true c (n, (ensR (upL n K V) n.keys.length c ++ r, 0)) = (upL n K V, (r, 0)) := by
  induction c with
  | zero =>
    intro n K V r _ _ hK hV _ _
    rw [List.length_eq_zero_iff.1 hK, List.length_eq_zero_iff.1 hV]
    simp [rentL, upL, ensR]
  | succ c ih =>
    intro n K V r h0 hv hK hV sK sV
    obtain ⟨k, K', rfl⟩ := List.exists_cons_of_length_eq_add_one hK
    obtain ⟨v, V', rfl⟩ := List.exists_cons_of_length_eq_add_one hV
    rw [ensR, en_leaf n h0 hv, List.append_assoc, List.append_assoc]
    have e1 := textS_st k 256 (Nat.le_trans (sK k (by simp)) (by omega)) (by omega) (txt v ++ (ensR (upL n (k :: K') (v :: V')) (n.keys.length + 1) c ++ r))
    have e2 := textS_st v 256 (Nat.le_trans (sV v (by simp)) (by omega)) (by omega) (ensR (upL n (k :: K') (v :: V')) (n.keys.length + 1) c ++ r)
    rw [show ((256 : Nat) : Int) = 256 from rfl] at e1 e2
    simp only [rentL, if_true]
    rw [e1.1, e1.2, e2.1, e2.2]
    have := ih (upL n [k] [v]) K' V' r h0 (by simp [hv]) (by simpa using hK) (by simpa using hV) (fun s hs => sK s (by simp [hs])) (fun s hs => sV s (by simp [hs]))
    rw [upL_up] at this
    simpa [upL] using this
theorem rinner_fwd (c : Nat) : ∀ (n : Nd) (K : List ByteArray) (I : List Int) (r : List Nat), ¬ n.lev = 0 → n.kids.length = n.keys.length + 1 → K.length = c → I.length = c → (∀ s ∈ K, s.size ≤ 16) → (∀ x ∈ I, 0 ≤ x ∧ x ≤ 4096) →
    rentL false c (n, (ensR (upI n K I) n.keys.length c ++ r, 0)) = (upI n K I, (r, 0)) := by
  induction c with
  | zero =>
    intro n K I r _ _ hK hI _ _
    rw [List.length_eq_zero_iff.1 hK, List.length_eq_zero_iff.1 hI]
    simp [rentL, upI, ensR]
  | succ c ih =>
    intro n K I r h0 hv hK hI sK sI
    obtain ⟨k, K', rfl⟩ := List.exists_cons_of_length_eq_add_one hK
    obtain ⟨v, I', rfl⟩ := List.exists_cons_of_length_eq_add_one hI
    have hvb := sI v (by simp)
    rw [ensR, en_inner n h0 hv, List.append_assoc, List.append_assoc]
    have e1 := textS_st k 256 (Nat.le_trans (sK k (by simp)) (by omega)) (by omega) (le 4 v.toNat ++ (ensR (upI n (k :: K') (v :: I')) (n.keys.length + 1) c ++ r))
    have e2 := numS_st 4 v.toNat (by omega) (by omega) (by omega) (ensR (upI n (k :: K') (v :: I')) (n.keys.length + 1) c ++ r)
    rw [show ((256 : Nat) : Int) = 256 from rfl] at e1
    rw [show ((4 : Nat) : Int) = 4 from rfl, Int.toNat_of_nonneg hvb.1] at e2
    simp only [rentL, if_true, Bool.false_eq_true, if_false]
    rw [e1.1, e1.2, e2.1, e2.2]
    have := ih (upI n [k] [v]) K' I' r h0 (by simp [hv]) (by simpa using hK) (by simpa using hI) (fun s hs => sK s (by simp [hs])) (fun s hs => sI s (by simp [hs]))
    rw [upI_up] at this
    simpa [upI] using this
theorem rnode_fwd (n : Nd) (r : Rt n) (z : List Nat) : rnodeS (nb n ++ z, 0) = (n, (z, 0)) := by
  have hfew := keys_few r
  have a1 := r.lev0
  have a2 := r.lev1
  have a3 := r.lsn0
  have a4 := r.lsn1
  have a5 := r.rgt0
  have a6 := r.rgt1
  have a7 := r.high
  have hk := size_of_mem (fun i hi => (r.keys i hi).1.2)
  obtain ⟨lev, lsn, rgt, hi, keys, vals, kids⟩ := n
  simp only [] at hfew a1 a2 a3 a4 a5 a6 a7 hk
  obtain ⟨v1, rfl⟩ := Int.eq_ofNat_of_zero_le a1
  obtain ⟨v2, rfl⟩ := Int.eq_ofNat_of_zero_le a3
  obtain ⟨v3, rfl⟩ := Int.eq_ofNat_of_zero_le a5
  by_cases h0 : (v1 : Int) = 0
  · obtain ⟨hv, hkd, hx⟩ := r.leaf h0
    have hxs := size_of_mem hx
    simp only [] at hv hkd hxs
    have ek : kids = [] := List.length_eq_zero_iff.1 hkd
    subst ek
    have en0 : nb ⟨v1, v2, v3, hi, keys, vals, []⟩ ++ z = le 1 v1 ++ (le 8 v2 ++ (le 4 v3 ++ (le 2 keys.length ++ (txt hi ++ (ensR ⟨v1, v2, v3, hi, keys, vals, []⟩ 0 keys.length ++ z))))) := by
      unfold nb hd
      rw [if_pos h0, ens_all]
      simp only [Int.toNat_natCast, List.append_nil, List.append_assoc]
    rw [en0]
    have b1 := numS_st 1 v1 (by omega) (by omega) (by omega) (le 8 v2 ++ (le 4 v3 ++ (le 2 keys.length ++ (txt hi ++ (ensR ⟨v1, v2, v3, hi, keys, vals, []⟩ 0 keys.length ++ z)))))
    have b2 := numS_st 8 v2 (by omega) (by omega) (by omega) (le 4 v3 ++ (le 2 keys.length ++ (txt hi ++ (ensR ⟨v1, v2, v3, hi, keys, vals, []⟩ 0 keys.length ++ z))))
    have b3 := numS_st 4 v3 (by omega) (by omega) (by omega) (le 2 keys.length ++ (txt hi ++ (ensR ⟨v1, v2, v3, hi, keys, vals, []⟩ 0 keys.length ++ z)))
    have b4 := numS_st 2 keys.length (by omega) (by omega) (by omega) (txt hi ++ (ensR ⟨v1, v2, v3, hi, keys, vals, []⟩ 0 keys.length ++ z))
    have b5 := textS_st hi 256 (by omega) (by omega) (ensR ⟨v1, v2, v3, hi, keys, vals, []⟩ 0 keys.length ++ z)
    rw [show ((1 : Nat) : Int) = 1 from rfl] at b1
    rw [show ((8 : Nat) : Int) = 8 from rfl] at b2
    rw [show ((4 : Nat) : Int) = 4 from rfl] at b3
    rw [show ((2 : Nat) : Int) = 2 from rfl] at b4
    rw [show ((256 : Nat) : Int) = 256 from rfl] at b5
    unfold rnodeS
    rw [b1.1, b1.2, b2.1, b2.2, b3.1, b3.2, b4.1, b4.2, b5.1, b5.2, if_pos h0, Int.toNat_natCast]
    have := rleaf_fwd keys.length ⟨v1, v2, v3, hi, [], [], []⟩ keys vals z h0 rfl rfl hv hk hxs
    simpa [upL] using this
  · obtain ⟨hv, hkd, hx⟩ := r.inner h0
    have hxs := kid_of_mem hx
    simp only [] at hv hkd hxs
    have ek : vals = [] := List.length_eq_zero_iff.1 hkd
    subst ek
    obtain ⟨v, I, rfl⟩ := List.exists_cons_of_length_eq_add_one hv
    have hvb := hxs v (by simp)
    obtain ⟨v6, rfl⟩ := Int.eq_ofNat_of_zero_le hvb.1
    have en0 : nb ⟨v1, v2, v3, hi, keys, [], (v6 : Int) :: I⟩ ++ z = le 1 v1 ++ (le 8 v2 ++ (le 4 v3 ++ (le 2 keys.length ++ (txt hi ++ (le 4 v6 ++ (ensR ⟨v1, v2, v3, hi, keys, [], (v6 : Int) :: I⟩ 0 keys.length ++ z)))))) := by
      unfold nb hd
      rw [if_neg h0, ens_all]
      simp only [Int.toNat_natCast, List.append_assoc, List.getD_cons_zero]
    rw [en0]
    have b1 := numS_st 1 v1 (by omega) (by omega) (by omega) (le 8 v2 ++ (le 4 v3 ++ (le 2 keys.length ++ (txt hi ++ (le 4 v6 ++ (ensR ⟨v1, v2, v3, hi, keys, [], (v6 : Int) :: I⟩ 0 keys.length ++ z))))))
    have b2 := numS_st 8 v2 (by omega) (by omega) (by omega) (le 4 v3 ++ (le 2 keys.length ++ (txt hi ++ (le 4 v6 ++ (ensR ⟨v1, v2, v3, hi, keys, [], (v6 : Int) :: I⟩ 0 keys.length ++ z)))))
    have b3 := numS_st 4 v3 (by omega) (by omega) (by omega) (le 2 keys.length ++ (txt hi ++ (le 4 v6 ++ (ensR ⟨v1, v2, v3, hi, keys, [], (v6 : Int) :: I⟩ 0 keys.length ++ z))))
    have b4 := numS_st 2 keys.length (by omega) (by omega) (by omega) (txt hi ++ (le 4 v6 ++ (ensR ⟨v1, v2, v3, hi, keys, [], (v6 : Int) :: I⟩ 0 keys.length ++ z)))
    have b5 := textS_st hi 256 (by omega) (by omega) (le 4 v6 ++ (ensR ⟨v1, v2, v3, hi, keys, [], (v6 : Int) :: I⟩ 0 keys.length ++ z))
    have b6 := numS_st 4 v6 (by omega) (by omega) (by omega) (ensR ⟨v1, v2, v3, hi, keys, [], (v6 : Int) :: I⟩ 0 keys.length ++ z)
    rw [show ((1 : Nat) : Int) = 1 from rfl] at b1
    rw [show ((8 : Nat) : Int) = 8 from rfl] at b2
    rw [show ((4 : Nat) : Int) = 4 from rfl] at b3 b6
    rw [show ((2 : Nat) : Int) = 2 from rfl] at b4
    rw [show ((256 : Nat) : Int) = 256 from rfl] at b5
    unfold rnodeS
    rw [b1.1, b1.2, b2.1, b2.2, b3.1, b3.2, b4.1, b4.2, b5.1, b5.2, b6.1, b6.2, if_neg h0, Int.toNat_natCast]
    have := rinner_fwd keys.length ⟨v1, v2, v3, hi, [], [], [(v6 : Int)]⟩ keys I z h0 rfl rfl (by simpa using hv) hk (fun x hx => hxs x (by simp [hx]))
    simpa [upI] using this
/-- What the document's Decode takes is what Decode takes. -/
theorem rdec_yes (l : List Nat) (m : Nd) (r : Rt m) (h : pg m = l) : decF l = some m := by
  rw [← h]
  exact dec_pg m r (by have := nb_length r; have := r.size; omega)
theorem rdec_no (l : List Nat) (ho : octs l) (m : Nd) (s : RS) (hm : rnodeS (l.take 252, 0) = (m, s)) (h : s.2 ≠ 0 ∨ rightB m = false ∨ pg m ≠ l) : decF l = none := by
  cases hd : decF l with
  | none => rfl
  | some n =>
    obtain ⟨r, hl⟩ := dec_some l ho n hd
    have hnb : (nb n).length ≤ 252 := by have := nb_length r; have := r.size; omega
    have hp := pad_length hnb
    have ht : l.take 252 = nb n ++ List.replicate (252 - (nb n).length) 0 := by
      rw [hl]; unfold pg; rw [List.take_append_of_le_length (by omega), List.take_of_length_le (by omega)]; rfl
    rw [ht, rnode_fwd n r] at hm
    simp only [Prod.mk.injEq] at hm
    obtain ⟨rfl, rfl⟩ := hm
    rcases h with h | h | h
    · exact absurd rfl h
    · rw [(right_iff n).2 r] at h; cases h
    · exact absurd hl.symm h
end Go.Proofs.YtnoadmkkkeianaaGreat

/- What the document's own Encode is made of. -/
namespace Go.Proofs.YtnoadmkkkeianaaGreat
open Go.RowKit Crcm

theorem rnum_i (x : Int) (size : Nat) (h0 : 0 ≤ x) (h1 : x < 9223372036854775808) (hs : size ≤ 8) (w : World) :
    Calls Tryz.prog 52 #[.int .i64 x, .int .i64 size] w fun e w' => ∃ a c, e = .returned (.slice a size c) ∧ Row w' a c (le size x.toNat) ∧ Fr (fun _ => False) w w' := by
  obtain ⟨m, rfl⟩ := Int.eq_ofNat_of_zero_le h0
  refine (refNum_any m size (by omega) hs w).mono ?_
  rintro e w' ⟨v, rfl, m1⟩
  obtain ⟨a, c, rfl, hr⟩ := m1.own.row (le_octs' _ _) (by rw [le_length]; omega)
  exact ⟨a, c, by rw [le_length], hr, m1.fr⟩
theorem rtext_i (s : ByteArray) (hs : s.size ≤ 65535) (w : World) :
    Calls Tryz.prog 53 #[.string s] w fun e w' => ∃ a c, e = .returned (.slice a (s.size + 2) c) ∧ Row w' a c (txt s) ∧ Fr (fun _ => False) w w' := by
  refine (refText_any s hs w).mono ?_
  rintro e w' ⟨v, rfl, m1⟩
  obtain ⟨a, c, rfl, hr⟩ := m1.own.row (txt_octs s) (by have := txt_length s; unfold txt at this; omega)
  have := txt_length s
  unfold txt at this
  exact ⟨a, c, by rw [this], hr, m1.fr⟩
/-- A row of the call's own over W0. -/
def Ast (W0 w : World) (v : Value) (l : List Nat) : Prop := Mine w W0.heap.size v l ∧ Fr (fun _ => False) W0 w
theorem Ast.go {W0 w w' : World} {v : Value} {l : List Nat} (h : Ast W0 w v l) (f : Fr (fun _ => False) w w') : Ast W0 w' v l := ⟨h.1.fr f (fun _ _ f => f), h.2.seq' f⟩
theorem Ast.grow {W0 w w' : World} {v : Value} {l : List Nat} {a : Option Addr} {k c : Nat} {m : List Nat} (h : Ast W0 w v l) (o : Mine w' W0.heap.size (.slice a k c) m) (g : w.grownBy w' v.ownBlock) : Ast W0 w' (.slice a k c) m :=
  ⟨o, h.2.fresh g (fun k e => (h.1.lt k e).1)⟩

set_option maxRecDepth 100000 in
set_option maxHeartbeats 400000 in
theorem rencode_no (n : Nd) (p : Pt) (w : World) (h : Nod w n p) (hr : rightB n = false) : Calls Tryz.prog 67 #[(.agg #[.int .i64 n.lev, .int .i64 n.lsn, .int .i64 n.rgt, .string n.high, .slice p.k n.keys.length p.kc, .slice p.v n.vals.length p.vc, .slice p.i n.kids.length p.ic])] w fun e w' => e = .returned (.tuple #[.slice none 0 0, .int .i64 60]) ∧ Fr (fun _ => False) w w' := by
  have f0 := Fr.box w (.cells #[.int .i64 n.lev, .int .i64 n.lsn, .int .i64 n.rgt, .string n.high, .slice p.k n.keys.length p.kc, .slice p.v n.vals.length p.vc, .slice p.i n.kids.length p.ic] 84)
  have HR : Hid (rightB n = false) := hr
  clear hr
  go_enter Tryz.func67, Tryz.ntmps67
  go_wp2_with fail
  refine (rright_any n p _ (h.same f0)).mono ?_
  rw [HR.out]
  rintro e w1 ⟨rfl, f1⟩
  go_wp2
  go_ret2
  exact ⟨rfl, f0.seq' f1⟩
end Go.Proofs.YtnoadmkkkeianaaGreat

/- What the document's own Encode makes. -/
namespace Go.Proofs.YtnoadmkkkeianaaGreat
open Go.RowKit Crcm

def lenV : Value → Nat
  | .slice _ k _ => k
  | _ => 0
theorem ens_octs' (n : Nd) (k : Nat) : octs (ens n k) := ens_octs n k
set_option maxRecDepth 100000 in
set_option maxHeartbeats 4000000 in
theorem rencode_leaf (n : Nd) (pk : Option Addr) (pkc : Nat) (pv : Option Addr) (pvc : Nat) (pi : Option Addr) (pic : Nat) (w : World) (h : Nod w n ⟨pk, pkc, pv, pvc, pi, pic⟩) (hr : Rt n) (h0 : n.lev = 0) :
    Calls Tryz.prog 67 #[(.agg #[.int .i64 n.lev, .int .i64 n.lsn, .int .i64 n.rgt, .string n.high, .slice pk n.keys.length pkc, .slice pv n.vals.length pvc, .slice pi n.kids.length pic])] w fun e w' => ∃ a c, e = .returned (.tuple #[.slice a 256 c, .int .i64 0]) ∧ Row w' a c (pg n) ∧ Fr (fun _ => False) w w' := by
  obtain ⟨i0, hi, hz0, hz1, hz2⟩ := info_parts info8
  obtain ⟨W0, hW0⟩ : ∃ W0, W0 = w.alloc (.cells #[.int .i64 n.lev, .int .i64 n.lsn, .int .i64 n.rgt, .string n.high, .slice pk n.keys.length pkc, .slice pv n.vals.length pvc, .slice pi n.kids.length pic] 84) := ⟨_, rfl⟩
  have f0 : Fr (fun _ => False) w W0 := by rw [hW0]; exact Fr.box w _
  have HB : Hid (∀ w', Fr (fun _ => False) W0 w' → w'.cell? ⟨w.heap.size, 0, none⟩ = some (.int .i64 n.lev) ∧ w'.cell? ⟨w.heap.size, 1, none⟩ = some (.int .i64 n.lsn) ∧ w'.cell? ⟨w.heap.size, 2, none⟩ = some (.int .i64 n.rgt) ∧ w'.cell? ⟨w.heap.size, 3, none⟩ = some (.string n.high) ∧
    w'.cell? ⟨w.heap.size, 4, none⟩ = some (.slice pk n.keys.length pkc) ∧ w'.cell? ⟨w.heap.size, 5, none⟩ = some (.slice pv n.vals.length pvc) ∧ w'.cell? ⟨w.heap.size, 6, none⟩ = some (.slice pi n.kids.length pic)) := fun w' f => by
      rw [hW0] at f
      exact box_cells (p := ⟨pk, pkc, pv, pvc, pi, pic⟩) (box_at w n ⟨pk, pkc, pv, pvc, pi, pic⟩ 84 f)
  have hW := h.same f0
  have HR : Hid (Rt n) := hr
  have HT : Hid (rightB n = true) := (right_iff n).2 hr
  have hks := keys_small hr
  have hkc := h.keys.le
  have hkm := h.keys.max
  have hvc := h.vals.le
  have hvm := h.vals.max
  have hic := h.kids.le
  have him := h.kids.max
  simp only at hkc hkm hvc hvm hic him
  have hl0 := hr.lev0
  have H0 : Hid (n.lev = 0) := h0
  have HVL : Hid (n.vals.length = n.keys.length) := (hr.leaf h0).1
  have HKS : Hid (∀ i, i < n.keys.length → (n.keys.getD i ByteArray.empty).size ≤ 16) := fun i hi => (hr.keys i hi).1.2
  have HVS : Hid (∀ i, i < n.vals.length → (n.vals.getD i ByteArray.empty).size ≤ 32) := (hr.leaf h0).2.2
  have HNB : Hid ((nb n).length ≤ 252) := by show _ ≤ _; have := nb_length hr; have := hr.size; omega
  clear h0
  have hh16 := hr.high
  clear hr
  have hrt := rright_any n ⟨pk, pkc, pv, pvc, pi, pic⟩ W0 hW
  rw [HT.out] at hrt
  simp only at hrt
  go_enter Tryz.func67, Tryz.ntmps67
  go_wp2_with fail
  rw [← hW0]
  refine hrt.mono ?_
  clear hrt hW0
  rintro e w1 ⟨rfl, f1⟩
  have s1 : Ast W0 w1 (.slice none 0 0) [] := ⟨World.ownsRow_nil _ _ _ _, f1⟩
  have B1 : Hid (([] : List Nat).length ≤ 400 + 1 * 70) := Nat.zero_le _
  obtain ⟨c0, c1, c2, c3, c4, c5, c6⟩ := HB.out _ s1.2
  go_wp2_with fail
  refine (rnum_i n.lev 1 HR.out.lev0 (by have := HR.out.lev1; omega) (by omega) _).mono ?_
  rintro e w1a ⟨x1, y1, rfl, r1, g1⟩
  clear c0 c1 c2 c3 c4 c5 c6
  have t1 := s1.go g1
  have HL1 : Hid ((le 1 n.lev.toNat).length = 1) := le_length _ _
  go_wp2_with (at_builtin; refine wpList_append_row _ rfl (.tmp 10) (.tmp 13) 41 41 5 rfl i0 Tryz.underlying41 Tryz.underlying41 hi hz0 hz1 hz2 W0.heap.size (.slice none 0 0) ([] : List Nat) rfl t1.1 x1 (1) y1 (le 1 n.lev.toNat) HL1.out.symm rfl r1 ?hb ?hs ?_)
  case hb => have := HL1.out; have := B1.out; omega
  case hs => exact t1.2.size
  intro b1 d1 w2 own1 grow1 _
  have s2 := t1.grow own1 grow1
  obtain ⟨L2, hE2⟩ : ∃ L, L = le 1 n.lev.toNat := ⟨_, rfl⟩
  have HE2 : Hid (L2 = le 1 n.lev.toNat) := hE2
  have B2 : Hid (L2.length ≤ 400 + 2 * 70) := by show _ ≤ _; rw [hE2, HL1.out]; omega
  rw [← hE2] at s2
  try simp only [List.length_nil, Nat.zero_add]
  rw [← hE2]
  clear hE2 own1 grow1 r1 g1 t1 s1
  obtain ⟨c0, c1, c2, c3, c4, c5, c6⟩ := HB.out _ s2.2
  go_wp2_with fail
  refine (rnum_i n.lsn 8 HR.out.lsn0 (by have := HR.out.lsn1; omega) (by omega) _).mono ?_
  rintro e w2a ⟨x2, y2, rfl, r2, g2⟩
  clear c0 c1 c2 c3 c4 c5 c6
  have t2 := s2.go g2
  have HL2 : Hid ((le 8 n.lsn.toNat).length = 8) := le_length _ _
  go_wp2_with (at_builtin; refine wpList_append_row _ rfl (.tmp 15) (.tmp 18) 41 41 5 rfl i0 Tryz.underlying41 Tryz.underlying41 hi hz0 hz1 hz2 W0.heap.size (.slice b1 L2.length d1) L2 rfl t2.1 x2 (8) y2 (le 8 n.lsn.toNat) HL2.out.symm rfl r2 ?hb ?hs ?_)
  case hb => have := HL2.out; have := B2.out; omega
  case hs => exact t2.2.size
  intro b2 d2 w3 own2 grow2 _
  have s3 := t2.grow own2 grow2
  obtain ⟨L3, hE3⟩ : ∃ L, L = L2 ++ (le 8 n.lsn.toNat) := ⟨_, rfl⟩
  have HE3 : Hid (L3 = L2 ++ (le 8 n.lsn.toNat)) := hE3
  have B3 : Hid (L3.length ≤ 400 + 3 * 70) := by show _ ≤ _; rw [hE3, List.length_append, HL2.out]; have := B2.out; omega
  have hll3 : L2.length + (le 8 n.lsn.toNat).length = L3.length := by rw [hE3, List.length_append]
  rw [← hE3, hll3] at s3
  rw [hll3]
  clear hE3 hll3 own2 grow2 r2 g2 t2 s2
  obtain ⟨c0, c1, c2, c3, c4, c5, c6⟩ := HB.out _ s3.2
  go_wp2_with fail
  refine (rnum_i n.rgt 4 HR.out.rgt0 (by have := HR.out.rgt1; omega) (by omega) _).mono ?_
  rintro e w3a ⟨x3, y3, rfl, r3, g3⟩
  clear c0 c1 c2 c3 c4 c5 c6
  have t3 := s3.go g3
  have HL3 : Hid ((le 4 n.rgt.toNat).length = 4) := le_length _ _
  go_wp2_with (at_builtin; refine wpList_append_row _ rfl (.tmp 20) (.tmp 23) 41 41 5 rfl i0 Tryz.underlying41 Tryz.underlying41 hi hz0 hz1 hz2 W0.heap.size (.slice b2 L3.length d2) L3 rfl t3.1 x3 (4) y3 (le 4 n.rgt.toNat) HL3.out.symm rfl r3 ?hb ?hs ?_)
  case hb => have := HL3.out; have := B3.out; omega
  case hs => exact t3.2.size
  intro b3 d3 w4 own3 grow3 _
  have s4 := t3.grow own3 grow3
  obtain ⟨L4, hE4⟩ : ∃ L, L = L3 ++ (le 4 n.rgt.toNat) := ⟨_, rfl⟩
  have HE4 : Hid (L4 = L3 ++ (le 4 n.rgt.toNat)) := hE4
  have B4 : Hid (L4.length ≤ 400 + 4 * 70) := by show _ ≤ _; rw [hE4, List.length_append, HL3.out]; have := B3.out; omega
  have hll4 : L3.length + (le 4 n.rgt.toNat).length = L4.length := by rw [hE4, List.length_append]
  rw [← hE4, hll4] at s4
  rw [hll4]
  clear hE4 hll4 own3 grow3 r3 g3 t3 s3
  obtain ⟨c0, c1, c2, c3, c4, c5, c6⟩ := HB.out _ s4.2
  go_wp2_with fail
  refine (rnum_i (n.keys.length : Int) 2 (by omega) (by omega) (by omega) _).mono ?_
  rintro e w4a ⟨x4, y4, rfl, r4, g4⟩
  clear c0 c1 c2 c3 c4 c5 c6
  have t4 := s4.go g4
  have HL4 : Hid ((le 2 ((n.keys.length : Int)).toNat).length = 2) := le_length _ _
  go_wp2_with (at_builtin; refine wpList_append_row _ rfl (.tmp 25) (.tmp 29) 41 41 5 rfl i0 Tryz.underlying41 Tryz.underlying41 hi hz0 hz1 hz2 W0.heap.size (.slice b3 L4.length d3) L4 rfl t4.1 x4 (2) y4 (le 2 ((n.keys.length : Int)).toNat) HL4.out.symm rfl r4 ?hb ?hs ?_)
  case hb => have := HL4.out; have := B4.out; omega
  case hs => exact t4.2.size
  intro b4 d4 w5 own4 grow4 _
  have s5 := t4.grow own4 grow4
  obtain ⟨L5, hE5⟩ : ∃ L, L = L4 ++ (le 2 n.keys.length) := ⟨_, rfl⟩
  have HE5 : Hid (L5 = L4 ++ (le 2 n.keys.length)) := hE5
  have B5 : Hid (L5.length ≤ 400 + 5 * 70) := by show _ ≤ _; rw [hE5, List.length_append, le_length]; have := B4.out; omega
  have hll5 : L4.length + (le 2 n.keys.length).length = L5.length := by rw [hE5, List.length_append]
  rw [← hE5, hll5] at s5
  rw [hll5]
  clear hE5 hll5 own4 grow4 r4 g4 t4 s4
  obtain ⟨c0, c1, c2, c3, c4, c5, c6⟩ := HB.out _ s5.2
  go_wp2_with fail
  refine (rtext_i n.high (by omega) _).mono ?_
  rintro e w5a ⟨x5, y5, rfl, r5, g5⟩
  clear c0 c1 c2 c3 c4 c5 c6
  have t5 := s5.go g5
  have HL5 : Hid ((txt n.high).length = n.high.size + 2) := txt_length _
  go_wp2_with (at_builtin; refine wpList_append_row _ rfl (.tmp 31) (.tmp 34) 41 41 5 rfl i0 Tryz.underlying41 Tryz.underlying41 hi hz0 hz1 hz2 W0.heap.size (.slice b4 L5.length d4) L5 rfl t5.1 x5 (n.high.size + 2) y5 (txt n.high) HL5.out.symm rfl r5 ?hb ?hs ?_)
  case hb => have := HL5.out; have := B5.out; omega
  case hs => exact t5.2.size
  intro b5 d5 w6 own5 grow5 _
  have s6 := t5.grow own5 grow5
  obtain ⟨L6, hE6⟩ : ∃ L, L = L5 ++ (txt n.high) := ⟨_, rfl⟩
  have HE6 : Hid (L6 = L5 ++ (txt n.high)) := hE6
  have B6 : Hid (L6.length ≤ 400 + 6 * 70) := by show _ ≤ _; rw [hE6, List.length_append, HL5.out]; have := B5.out; omega
  have hll6 : L5.length + (txt n.high).length = L6.length := by rw [hE6, List.length_append]
  rw [← hE6, hll6] at s6
  rw [hll6]
  clear hE6 hll6 own5 grow5 r5 g5 t5 s5
  have hng : decide (0 < n.lev) = false := by have := H0.out; simp; omega
  have HHD : Hid (L6 = hd n) := by
    show _ = _
    unfold hd
    rw [if_pos H0.out, HE6.out, HE5.out, HE4.out, HE3.out, HE2.out]
    simp only [List.append_assoc, List.append_nil]
  clear HE6 HE5 HE4 HE3 HE2 HL1 HL2 HL3 HL4 HL5 B1 B2 B3 B4 B5
  obtain ⟨c0, c1, c2, c3, c4, c5, c6⟩ := HB.out _ s6.2
  go_wp2
  go_loopw [4, 49] (fun v i wr => ∃ (k : Nat) (a : Option Addr) (c : Nat) (L : List Nat), k ≤ n.keys.length ∧ v = .slice a L.length c ∧ i = .int .i64 k ∧ Hid (L = L6 ++ ens n k) ∧ Hid (L.length ≤ 1000 + 100 * k) ∧ Ast W0 wr (.slice a L.length c) L)
    (fun _ i _ => n.keys.length - (intOf i).toNat)
  case atStart => exact ⟨0, b5, d5, L6, by omega, rfl, rfl, by show _ = _; simp [ens], by show _ ≤ _; have := B6.out; omega, s6⟩
  case round =>
    obtain ⟨k, a, c, L, hkk, rfl, rfl, HL, BL, sL⟩ := hrel
    obtain ⟨c0, c1, c2, c3, c4, c5, c6⟩ := HB.out _ sL.2
    by_cases hlt : k < n.keys.length
    · have hr1 := hW.keys.same sL.2
      have hlv : k < n.vals.length := by have := HVL.out; omega
      obtain ⟨b, off, ee, hb, hc⟩ := strs_some hr1 hlt
      obtain ⟨bv, offv, eev, hbv, hcv⟩ := strs_some hW.vals hlv
      simp only at ee eev
      have hcell := hc k hlt
      have hcellv := hcv k hlv
      have hsz := HKS.out k hlt
      have hszv := HVS.out k hlv
      obtain ⟨sk, hsk⟩ : ∃ s, s = n.keys.getD k ByteArray.empty := ⟨_, rfl⟩
      obtain ⟨sv, hsv⟩ : ∃ s, s = n.vals.getD k ByteArray.empty := ⟨_, rfl⟩
      rw [← hsk] at hcell hsz
      rw [← hsv] at hcellv hszv
      have HEN : Hid (en n k = txt sk ++ txt sv) := by show _ = _; unfold en; rw [if_pos H0.out, hsk, hsv]
      have HCV : Hid (∀ W, Fr (fun _ => False) W0 W → W.cell? ⟨bv, offv + k, none⟩ = some (.string sv)) := fun W f => (f.cell (p := ⟨bv, offv + k, none⟩) hbv (fun f => f)).trans hcellv
      clear hsk hsv hc hcv hr1 hcellv
      subst ee
      subst eev
      go_wp2_with fail
      refine (rtext_i sk (by omega) _).mono ?_
      rintro e wa ⟨xa, ya, rfl, ra, ga⟩
      clear c0 c1 c2 c3 c4 c5 c6
      have ta := sL.go ga
      have hla := txt_length sk
      have HLA : Hid ((txt sk).length = sk.size + 2) := hla
      clear hcell hla
      go_wp2_with (at_builtin; refine wpList_append_row _ rfl (.tmp 54) (.tmp 56) 41 41 5 rfl i0 Tryz.underlying41 Tryz.underlying41 hi hz0 hz1 hz2 W0.heap.size (.slice a L.length c) L rfl ta.1 xa (sk.size + 2) ya (txt sk) HLA.out.symm rfl ra ?hb ?hs ?_)
      case hb => have := HLA.out; have := BL.out; omega
      case hs => exact ta.2.size
      intro a2 c2' w2b own2 grow2 _
      have s2 := ta.grow own2 grow2
      obtain ⟨M, hM⟩ : ∃ M, M = L ++ txt sk := ⟨_, rfl⟩
      have HM : Hid (M = L ++ txt sk) := hM
      have BM : Hid (M.length ≤ 1000 + 100 * k + 18) := by show _ ≤ _; rw [hM, List.length_append, HLA.out]; have := BL.out; omega
      have hll : L.length + (txt sk).length = M.length := by rw [hM, List.length_append]
      rw [← hM, hll] at s2
      rw [hll]
      clear hM hll own2 grow2 ra ga ta sL
      obtain ⟨c0, c1, c2, c3, c4, c5, c6⟩ := HB.out _ s2.2
      have hcv3 := HCV.out _ s2.2
      go_wp2_with fail
      refine (rtext_i sv (by omega) _).mono ?_
      rintro e wb ⟨xb, yb, rfl, rb, gb⟩
      clear c0 c1 c2 c3 c4 c5 c6 hcv3
      have tb := s2.go gb
      have HLB : Hid ((txt sv).length = sv.size + 2) := txt_length sv
      go_wp2_with (at_builtin; refine wpList_append_row _ rfl (.tmp 70) (.tmp 76) 41 41 5 rfl i0 Tryz.underlying41 Tryz.underlying41 hi hz0 hz1 hz2 W0.heap.size (.slice a2 M.length c2') M rfl tb.1 xb (sv.size + 2) yb (txt sv) HLB.out.symm rfl rb ?hb ?hs ?_)
      case hb => have := HLB.out; have := BM.out; omega
      case hs => exact tb.2.size
      intro a3 c3' w3b own3' grow3' _
      have s3 := tb.grow own3' grow3'
      obtain ⟨N, hN⟩ : ∃ N, N = M ++ txt sv := ⟨_, rfl⟩
      have HN : Hid (N = M ++ txt sv) := hN
      have BN : Hid (N.length ≤ 1000 + 100 * (k + 1)) := by show _ ≤ _; rw [hN, List.length_append, HLB.out]; have := BM.out; omega
      have hll : M.length + (txt sv).length = N.length := by rw [hN, List.length_append]
      rw [← hN, hll] at s3
      rw [hll]
      clear hN hll own3' grow3' rb gb tb s2
      go_wp2
      go_roundw
      case rel =>
        exact ⟨k + 1, a3, c3', N, by omega, rfl, by go_num, by show _ = _; rw [HN.out, HM.out, HL.out, ens, HEN.out]; simp only [List.append_assoc], BN.out, s3⟩
      case measure => simp [intOf]; omega
    · have ek : k = n.keys.length := by omega
      subst ek
      have HLN : Hid (L = nb n) := by show _ = _; rw [HL.out, HHD.out]; rfl
      clear c0 c1 c2 c3 c4 c5 c6
      go_wp2
      go_loopw [4] (fun v wr => ∃ (j : Nat) (a' : Option Addr) (c' : Nat) (K : List Nat), v = .slice a' K.length c' ∧ Hid (K = nb n ++ List.replicate j 0) ∧ K.length ≤ 252 ∧ Ast W0 wr (.slice a' K.length c') K)
        (fun v _ => 252 - lenV v)
      case atStart => exact ⟨0, a, c, L, rfl, by show _ = _; rw [HLN.out]; simp, by have := HNB.out; rw [HLN.out]; omega, sL⟩
      case round =>
        obtain ⟨j, a', c', K, rfl, HK, hK, sK⟩ := hrel
        by_cases hlt2 : K.length < 252
        · have hro : Row (wr.alloc (.cells #[.int .u8 0] 5)) (some ⟨wr.heap.size, 0, none⟩) 1 [0] := row_lit (octs_one (by omega)) (by simp) (heap_alloc_new wr _)
          have hsz := sK.2.size
          go_wp2_with (at_builtin; refine wpList_append_row _ rfl _ _ 41 41 5 rfl i0 Tryz.underlying41 Tryz.underlying41 hi hz0 hz1 hz2 W0.heap.size (.slice a' K.length c') K rfl (sK.1.alloc _) (some ⟨wr.heap.size, 0, none⟩) 1 1 [0] rfl rfl hro (by simp; omega) (by simp; omega) ?_; intro a4 c4' w4b hown4 hgrow4 hat4)
          go_roundw
          case rel =>
            refine ⟨j + 1, a4, c4', K ++ [0], by simp, by show _ = _; rw [HK.out, List.append_assoc, ← List.replicate_succ'], by simp; omega, ?_, ?_⟩
            · simpa using hown4
            · exact (sK.2.alloc _).fresh hgrow4 (fun j e => (sK.1.lt j e).1)
          case measure => simp [lenV]; omega
        · have e252 : K.length = 252 := by omega
          have HKP : Hid (K = pad (nb n)) := by
            show _ = _
            have hj : (nb n).length + j = 252 := by rw [← e252, HK.out]; simp
            rw [HK.out]; unfold pad
            congr 2; omega
          have HE : Hid (K.length = 252) := e252
          clear e252
          have hoK : octs K := by rw [HKP.out]; exact pad_octs (nb_octs n)
          obtain ⟨ax, cx, hvx, hrx⟩ := sK.1.row hoK (by omega)
          simp only [Value.slice.injEq, true_and] at hvx
          obtain ⟨rfl, rfl⟩ := hvx
          go_wp2_with fail
          refine (refSeal_any _ _ _ K rfl (by omega) _ hrx).mono ?_
          rintro e w9 ⟨v9, rfl, m9⟩
          have hpg : K ++ le4 (crc K) = pg n := by rw [HKP.out, ← le_le4]; rfl
          rw [hpg] at m9
          have hl9 : (pg n).length = 256 := by rw [← hpg, List.length_append, HE.out]; simp [le4]
          obtain ⟨a9, c9, rfl, hr9⟩ := m9.own.row (pg_octs n) (by omega)
          rw [hl9]
          have f9 := f0.seq' (sK.2.seq' m9.fr)
          clear hl9 hpg m9
          go_wp2
          go_ret2
          exact ⟨a9, c9, rfl, hr9, f9⟩
end Go.Proofs.YtnoadmkkkeianaaGreat

/- What the document's own Encode makes of an inner node; and of any. -/
namespace Go.Proofs.YtnoadmkkkeianaaGreat
open Go.RowKit Crcm

set_option maxRecDepth 100000 in
set_option maxHeartbeats 4000000 in
theorem rencode_inner (n : Nd) (pk : Option Addr) (pkc : Nat) (pv : Option Addr) (pvc : Nat) (pi : Option Addr) (pic : Nat) (w : World) (h : Nod w n ⟨pk, pkc, pv, pvc, pi, pic⟩) (hr : Rt n) (h0 : n.lev ≠ 0) :
    Calls Tryz.prog 67 #[(.agg #[.int .i64 n.lev, .int .i64 n.lsn, .int .i64 n.rgt, .string n.high, .slice pk n.keys.length pkc, .slice pv n.vals.length pvc, .slice pi n.kids.length pic])] w fun e w' => ∃ a c, e = .returned (.tuple #[.slice a 256 c, .int .i64 0]) ∧ Row w' a c (pg n) ∧ Fr (fun _ => False) w w' := by
  obtain ⟨i0, hi, hz0, hz1, hz2⟩ := info_parts info8
  obtain ⟨W0, hW0⟩ : ∃ W0, W0 = w.alloc (.cells #[.int .i64 n.lev, .int .i64 n.lsn, .int .i64 n.rgt, .string n.high, .slice pk n.keys.length pkc, .slice pv n.vals.length pvc, .slice pi n.kids.length pic] 84) := ⟨_, rfl⟩
  have f0 : Fr (fun _ => False) w W0 := by rw [hW0]; exact Fr.box w _
  have HB : Hid (∀ w', Fr (fun _ => False) W0 w' → w'.cell? ⟨w.heap.size, 0, none⟩ = some (.int .i64 n.lev) ∧ w'.cell? ⟨w.heap.size, 1, none⟩ = some (.int .i64 n.lsn) ∧ w'.cell? ⟨w.heap.size, 2, none⟩ = some (.int .i64 n.rgt) ∧ w'.cell? ⟨w.heap.size, 3, none⟩ = some (.string n.high) ∧
    w'.cell? ⟨w.heap.size, 4, none⟩ = some (.slice pk n.keys.length pkc) ∧ w'.cell? ⟨w.heap.size, 5, none⟩ = some (.slice pv n.vals.length pvc) ∧ w'.cell? ⟨w.heap.size, 6, none⟩ = some (.slice pi n.kids.length pic)) := fun w' f => by
      rw [hW0] at f
      exact box_cells (p := ⟨pk, pkc, pv, pvc, pi, pic⟩) (box_at w n ⟨pk, pkc, pv, pvc, pi, pic⟩ 84 f)
  have hW := h.same f0
  have HR : Hid (Rt n) := hr
  have HT : Hid (rightB n = true) := (right_iff n).2 hr
  have hks := keys_small hr
  have hkc := h.keys.le
  have hkm := h.keys.max
  have hvc := h.vals.le
  have hvm := h.vals.max
  have hic := h.kids.le
  have him := h.kids.max
  simp only at hkc hkm hvc hvm hic him
  have hl0 := hr.lev0
  have H0 : Hid (n.lev ≠ 0) := h0
  have HVL : Hid (n.kids.length = n.keys.length + 1) := (hr.inner h0).1
  have HKS : Hid (∀ i, i < n.keys.length → (n.keys.getD i ByteArray.empty).size ≤ 16) := fun i hi => (hr.keys i hi).1.2
  have HVS : Hid (∀ i, i < n.kids.length → 1 ≤ n.kids.getD i 0 ∧ n.kids.getD i 0 ≤ 4096) := (hr.inner h0).2.2
  have HNB : Hid ((nb n).length ≤ 252) := by show _ ≤ _; have := nb_length hr; have := hr.size; omega
  clear h0
  have hh16 := hr.high
  clear hr
  have hrt := rright_any n ⟨pk, pkc, pv, pvc, pi, pic⟩ W0 hW
  rw [HT.out] at hrt
  simp only at hrt
  go_enter Tryz.func67, Tryz.ntmps67
  go_wp2_with fail
  rw [← hW0]
  refine hrt.mono ?_
  clear hrt hW0
  rintro e w1 ⟨rfl, f1⟩
  have s1 : Ast W0 w1 (.slice none 0 0) [] := ⟨World.ownsRow_nil _ _ _ _, f1⟩
  have B1 : Hid (([] : List Nat).length ≤ 400 + 1 * 70) := Nat.zero_le _
  obtain ⟨c0, c1, c2, c3, c4, c5, c6⟩ := HB.out _ s1.2
  go_wp2_with fail
  refine (rnum_i n.lev 1 HR.out.lev0 (by have := HR.out.lev1; omega) (by omega) _).mono ?_
  rintro e w1a ⟨x1, y1, rfl, r1, g1⟩
  clear c0 c1 c2 c3 c4 c5 c6
  have t1 := s1.go g1
  have HL1 : Hid ((le 1 n.lev.toNat).length = 1) := le_length _ _
  go_wp2_with (at_builtin; refine wpList_append_row _ rfl (.tmp 10) (.tmp 13) 41 41 5 rfl i0 Tryz.underlying41 Tryz.underlying41 hi hz0 hz1 hz2 W0.heap.size (.slice none 0 0) ([] : List Nat) rfl t1.1 x1 (1) y1 (le 1 n.lev.toNat) HL1.out.symm rfl r1 ?hb ?hs ?_)
  case hb => have := HL1.out; have := B1.out; omega
  case hs => exact t1.2.size
  intro b1 d1 w2 own1 grow1 _
  have s2 := t1.grow own1 grow1
  obtain ⟨L2, hE2⟩ : ∃ L, L = le 1 n.lev.toNat := ⟨_, rfl⟩
  have HE2 : Hid (L2 = le 1 n.lev.toNat) := hE2
  have B2 : Hid (L2.length ≤ 400 + 2 * 70) := by show _ ≤ _; rw [hE2, HL1.out]; omega
  rw [← hE2] at s2
  try simp only [List.length_nil, Nat.zero_add]
  rw [← hE2]
  clear hE2 own1 grow1 r1 g1 t1 s1
  obtain ⟨c0, c1, c2, c3, c4, c5, c6⟩ := HB.out _ s2.2
  go_wp2_with fail
  refine (rnum_i n.lsn 8 HR.out.lsn0 (by have := HR.out.lsn1; omega) (by omega) _).mono ?_
  rintro e w2a ⟨x2, y2, rfl, r2, g2⟩
  clear c0 c1 c2 c3 c4 c5 c6
  have t2 := s2.go g2
  have HL2 : Hid ((le 8 n.lsn.toNat).length = 8) := le_length _ _
  go_wp2_with (at_builtin; refine wpList_append_row _ rfl (.tmp 15) (.tmp 18) 41 41 5 rfl i0 Tryz.underlying41 Tryz.underlying41 hi hz0 hz1 hz2 W0.heap.size (.slice b1 L2.length d1) L2 rfl t2.1 x2 (8) y2 (le 8 n.lsn.toNat) HL2.out.symm rfl r2 ?hb ?hs ?_)
  case hb => have := HL2.out; have := B2.out; omega
  case hs => exact t2.2.size
  intro b2 d2 w3 own2 grow2 _
  have s3 := t2.grow own2 grow2
  obtain ⟨L3, hE3⟩ : ∃ L, L = L2 ++ (le 8 n.lsn.toNat) := ⟨_, rfl⟩
  have HE3 : Hid (L3 = L2 ++ (le 8 n.lsn.toNat)) := hE3
  have B3 : Hid (L3.length ≤ 400 + 3 * 70) := by show _ ≤ _; rw [hE3, List.length_append, HL2.out]; have := B2.out; omega
  have hll3 : L2.length + (le 8 n.lsn.toNat).length = L3.length := by rw [hE3, List.length_append]
  rw [← hE3, hll3] at s3
  rw [hll3]
  clear hE3 hll3 own2 grow2 r2 g2 t2 s2
  obtain ⟨c0, c1, c2, c3, c4, c5, c6⟩ := HB.out _ s3.2
  go_wp2_with fail
  refine (rnum_i n.rgt 4 HR.out.rgt0 (by have := HR.out.rgt1; omega) (by omega) _).mono ?_
  rintro e w3a ⟨x3, y3, rfl, r3, g3⟩
  clear c0 c1 c2 c3 c4 c5 c6
  have t3 := s3.go g3
  have HL3 : Hid ((le 4 n.rgt.toNat).length = 4) := le_length _ _
  go_wp2_with (at_builtin; refine wpList_append_row _ rfl (.tmp 20) (.tmp 23) 41 41 5 rfl i0 Tryz.underlying41 Tryz.underlying41 hi hz0 hz1 hz2 W0.heap.size (.slice b2 L3.length d2) L3 rfl t3.1 x3 (4) y3 (le 4 n.rgt.toNat) HL3.out.symm rfl r3 ?hb ?hs ?_)
  case hb => have := HL3.out; have := B3.out; omega
  case hs => exact t3.2.size
  intro b3 d3 w4 own3 grow3 _
  have s4 := t3.grow own3 grow3
  obtain ⟨L4, hE4⟩ : ∃ L, L = L3 ++ (le 4 n.rgt.toNat) := ⟨_, rfl⟩
  have HE4 : Hid (L4 = L3 ++ (le 4 n.rgt.toNat)) := hE4
  have B4 : Hid (L4.length ≤ 400 + 4 * 70) := by show _ ≤ _; rw [hE4, List.length_append, HL3.out]; have := B3.out; omega
  have hll4 : L3.length + (le 4 n.rgt.toNat).length = L4.length := by rw [hE4, List.length_append]
  rw [← hE4, hll4] at s4
  rw [hll4]
  clear hE4 hll4 own3 grow3 r3 g3 t3 s3
  obtain ⟨c0, c1, c2, c3, c4, c5, c6⟩ := HB.out _ s4.2
  go_wp2_with fail
  refine (rnum_i (n.keys.length : Int) 2 (by omega) (by omega) (by omega) _).mono ?_
  rintro e w4a ⟨x4, y4, rfl, r4, g4⟩
  clear c0 c1 c2 c3 c4 c5 c6
  have t4 := s4.go g4
  have HL4 : Hid ((le 2 ((n.keys.length : Int)).toNat).length = 2) := le_length _ _
  go_wp2_with (at_builtin; refine wpList_append_row _ rfl (.tmp 25) (.tmp 29) 41 41 5 rfl i0 Tryz.underlying41 Tryz.underlying41 hi hz0 hz1 hz2 W0.heap.size (.slice b3 L4.length d3) L4 rfl t4.1 x4 (2) y4 (le 2 ((n.keys.length : Int)).toNat) HL4.out.symm rfl r4 ?hb ?hs ?_)
  case hb => have := HL4.out; have := B4.out; omega
  case hs => exact t4.2.size
  intro b4 d4 w5 own4 grow4 _
  have s5 := t4.grow own4 grow4
  obtain ⟨L5, hE5⟩ : ∃ L, L = L4 ++ (le 2 n.keys.length) := ⟨_, rfl⟩
  have HE5 : Hid (L5 = L4 ++ (le 2 n.keys.length)) := hE5
  have B5 : Hid (L5.length ≤ 400 + 5 * 70) := by show _ ≤ _; rw [hE5, List.length_append, le_length]; have := B4.out; omega
  have hll5 : L4.length + (le 2 n.keys.length).length = L5.length := by rw [hE5, List.length_append]
  rw [← hE5, hll5] at s5
  rw [hll5]
  clear hE5 hll5 own4 grow4 r4 g4 t4 s4
  obtain ⟨c0, c1, c2, c3, c4, c5, c6⟩ := HB.out _ s5.2
  go_wp2_with fail
  refine (rtext_i n.high (by omega) _).mono ?_
  rintro e w5a ⟨x5, y5, rfl, r5, g5⟩
  clear c0 c1 c2 c3 c4 c5 c6
  have t5 := s5.go g5
  have HL5 : Hid ((txt n.high).length = n.high.size + 2) := txt_length _
  go_wp2_with (at_builtin; refine wpList_append_row _ rfl (.tmp 31) (.tmp 34) 41 41 5 rfl i0 Tryz.underlying41 Tryz.underlying41 hi hz0 hz1 hz2 W0.heap.size (.slice b4 L5.length d4) L5 rfl t5.1 x5 (n.high.size + 2) y5 (txt n.high) HL5.out.symm rfl r5 ?hb ?hs ?_)
  case hb => have := HL5.out; have := B5.out; omega
  case hs => exact t5.2.size
  intro b5 d5 w6 own5 grow5 _
  have s6 := t5.grow own5 grow5
  obtain ⟨L6, hE6⟩ : ∃ L, L = L5 ++ (txt n.high) := ⟨_, rfl⟩
  have HE6 : Hid (L6 = L5 ++ (txt n.high)) := hE6
  have B6 : Hid (L6.length ≤ 400 + 6 * 70) := by show _ ≤ _; rw [hE6, List.length_append, HL5.out]; have := B5.out; omega
  have hll6 : L5.length + (txt n.high).length = L6.length := by rw [hE6, List.length_append]
  rw [← hE6, hll6] at s6
  rw [hll6]
  clear hE6 hll6 own5 grow5 r5 g5 t5 s5
  have hng : 0 < n.lev := by have := H0.out; omega
  obtain ⟨bi, offi, eei, hbi, hci⟩ := ints_some hW.kids (k := 0) (by have := HVL.out; omega)
  simp only at eei
  have hk0 := hci 0 (by have := HVL.out; omega)
  have hkr := HVS.out 0 (by have := HVL.out; omega)
  have HKC : Hid (∀ i, i < n.kids.length → ∀ W, Fr (fun _ => False) W0 W → W.cell? ⟨bi, offi + i, none⟩ = some (.int .i64 (n.kids.getD i 0))) := fun i hi W f => (f.cell (p := ⟨bi, offi + i, none⟩) hbi (fun f => f)).trans (hci i hi)
  have hkl : (0 : Int) < (n.kids.length : Int) := by have := HVL.out; omega
  obtain ⟨x0, hx0⟩ : ∃ x, x = n.kids.getD 0 0 := ⟨_, rfl⟩
  have HX0 : Hid (x0 = n.kids.getD 0 0) := hx0
  rw [← hx0] at hkr hk0
  have hk06 := (s6.2.cell (p := ⟨bi, offi + 0, none⟩) hbi (fun f => f)).trans hk0
  rw [Nat.add_zero] at hk06
  clear hx0 hci hk0
  subst eei
  obtain ⟨c0, c1, c2, c3, c4, c5, c6⟩ := HB.out _ s6.2
  go_wp2_with fail
  refine (rnum_i x0 4 (by omega) (by omega) (by omega) _).mono ?_
  rintro e w6a ⟨x6, y6, rfl, r6, g6⟩
  clear c0 c1 c2 c3 c4 c5 c6 hk06
  have t6 := s6.go g6
  have HL6 : Hid ((le 4 x0.toNat).length = 4) := le_length _ _
  go_wp2_with (at_builtin; refine wpList_append_row _ rfl (.tmp 39) (.tmp 44) 41 41 5 rfl i0 Tryz.underlying41 Tryz.underlying41 hi hz0 hz1 hz2 W0.heap.size (.slice b5 L6.length d5) L6 rfl t6.1 x6 (4) y6 (le 4 x0.toNat) HL6.out.symm rfl r6 ?hb ?hs ?_)
  case hb => have := HL6.out; have := B6.out; omega
  case hs => exact t6.2.size
  intro b6 d6 w7 own6 grow6 _
  have s7 := t6.grow own6 grow6
  obtain ⟨L7, hE7⟩ : ∃ L, L = L6 ++ (le 4 x0.toNat) := ⟨_, rfl⟩
  have HE7 : Hid (L7 = L6 ++ (le 4 x0.toNat)) := hE7
  have B7 : Hid (L7.length ≤ 400 + 7 * 70) := by show _ ≤ _; rw [hE7, List.length_append, HL6.out]; have := B6.out; omega
  have hll7 : L6.length + (le 4 x0.toNat).length = L7.length := by rw [hE7, List.length_append]
  rw [← hE7, hll7] at s7
  rw [hll7]
  clear hE7 hll7 own6 grow6 r6 g6 t6 s6
  have HHD : Hid (L7 = hd n) := by
    show _ = _
    unfold hd
    rw [if_neg H0.out, HE7.out, HE6.out, HE5.out, HE4.out, HE3.out, HE2.out, HX0.out]
  clear HE7 HE6 HE5 HE4 HE3 HE2 HL1 HL2 HL3 HL4 HL5 HL6 B1 B2 B3 B4 B5 B6 HX0
  obtain ⟨c0, c1, c2, c3, c4, c5, c6⟩ := HB.out _ s7.2
  go_wp2
  go_loopw [4, 49] (fun v i wr => ∃ (k : Nat) (a : Option Addr) (c : Nat) (L : List Nat), k ≤ n.keys.length ∧ v = .slice a L.length c ∧ i = .int .i64 k ∧ Hid (L = L7 ++ ens n k) ∧ Hid (L.length ≤ 1000 + 100 * k) ∧ Ast W0 wr (.slice a L.length c) L)
    (fun _ i _ => n.keys.length - (intOf i).toNat)
  case atStart => exact ⟨0, b6, d6, L7, by omega, rfl, rfl, by show _ = _; simp [ens], by show _ ≤ _; have := B7.out; omega, s7⟩
  case round =>
    obtain ⟨k, a, c, L, hkk, rfl, rfl, HL, BL, sL⟩ := hrel
    obtain ⟨c0, c1, c2, c3, c4, c5, c6⟩ := HB.out _ sL.2
    by_cases hlt : k < n.keys.length
    · have hr1 := hW.keys.same sL.2
      have hlv : k + 1 < n.kids.length := by have := HVL.out; omega
      have hlvi : (k : Int) + 1 < (n.kids.length : Int) := by omega
      obtain ⟨b, off, ee, hb, hc⟩ := strs_some hr1 hlt
      simp only at ee
      have hcell := hc k hlt
      have hsz := HKS.out k hlt
      have hszv := HVS.out (k + 1) hlv
      have HCV0 := HKC.out (k + 1) hlv
      obtain ⟨sk, hsk⟩ : ∃ s, s = n.keys.getD k ByteArray.empty := ⟨_, rfl⟩
      obtain ⟨sv, hsv⟩ : ∃ s, s = n.kids.getD (k + 1) 0 := ⟨_, rfl⟩
      rw [← hsk] at hcell hsz
      rw [← hsv] at HCV0 hszv
      have HEN : Hid (en n k = txt sk ++ le 4 sv.toNat) := by show _ = _; unfold en; rw [if_neg H0.out, hsk, hsv]
      have HCV : Hid (∀ W, Fr (fun _ => False) W0 W → W.cell? ⟨bi, offi + (k + 1), none⟩ = some (.int .i64 sv)) := HCV0
      clear hsk hsv hc hr1 HCV0
      subst ee
      go_wp2_with fail
      refine (rtext_i sk (by omega) _).mono ?_
      rintro e wa ⟨xa, ya, rfl, ra, ga⟩
      clear c0 c1 c2 c3 c4 c5 c6
      have ta := sL.go ga
      have hla := txt_length sk
      have HLA : Hid ((txt sk).length = sk.size + 2) := hla
      clear hcell hla
      go_wp2_with (at_builtin; refine wpList_append_row _ rfl (.tmp 54) (.tmp 56) 41 41 5 rfl i0 Tryz.underlying41 Tryz.underlying41 hi hz0 hz1 hz2 W0.heap.size (.slice a L.length c) L rfl ta.1 xa (sk.size + 2) ya (txt sk) HLA.out.symm rfl ra ?hb ?hs ?_)
      case hb => have := HLA.out; have := BL.out; omega
      case hs => exact ta.2.size
      intro a2 c2' w2b own2 grow2 _
      have s2 := ta.grow own2 grow2
      obtain ⟨M, hM⟩ : ∃ M, M = L ++ txt sk := ⟨_, rfl⟩
      have HM : Hid (M = L ++ txt sk) := hM
      have BM : Hid (M.length ≤ 1000 + 100 * k + 18) := by show _ ≤ _; rw [hM, List.length_append, HLA.out]; have := BL.out; omega
      have hll : L.length + (txt sk).length = M.length := by rw [hM, List.length_append]
      rw [← hM, hll] at s2
      rw [hll]
      clear hM hll own2 grow2 ra ga ta sL
      obtain ⟨c0, c1, c2, c3, c4, c5, c6⟩ := HB.out _ s2.2
      have hcv3 := HCV.out _ s2.2
      go_wp2_with fail
      refine (rnum_i sv 4 (by omega) (by omega) (by omega) _).mono ?_
      rintro e wb ⟨xb, yb, rfl, rb, gb⟩
      clear c0 c1 c2 c3 c4 c5 c6 hcv3
      have tb := s2.go gb
      have HLB : Hid ((le 4 sv.toNat).length = 4) := le_length _ _
      go_wp2_with (at_builtin; refine wpList_append_row _ rfl (.tmp 61) (.tmp 68) 41 41 5 rfl i0 Tryz.underlying41 Tryz.underlying41 hi hz0 hz1 hz2 W0.heap.size (.slice a2 M.length c2') M rfl tb.1 xb (4) yb (le 4 sv.toNat) HLB.out.symm rfl rb ?hb ?hs ?_)
      case hb => have := HLB.out; have := BM.out; omega
      case hs => exact tb.2.size
      intro a3 c3' w3b own3' grow3' _
      have s3 := tb.grow own3' grow3'
      obtain ⟨N, hN⟩ : ∃ N, N = M ++ le 4 sv.toNat := ⟨_, rfl⟩
      have HN : Hid (N = M ++ le 4 sv.toNat) := hN
      have BN : Hid (N.length ≤ 1000 + 100 * (k + 1)) := by show _ ≤ _; rw [hN, List.length_append, HLB.out]; have := BM.out; omega
      have hll : M.length + (le 4 sv.toNat).length = N.length := by rw [hN, List.length_append]
      rw [← hN, hll] at s3
      rw [hll]
      clear hN hll own3' grow3' rb gb tb s2
      go_wp2
      go_roundw
      case rel =>
        exact ⟨k + 1, a3, c3', N, by omega, rfl, by go_num, by show _ = _; rw [HN.out, HM.out, HL.out, ens, HEN.out]; simp only [List.append_assoc], BN.out, s3⟩
      case measure => simp [intOf]; omega
    · have ek : k = n.keys.length := by omega
      subst ek
      have HLN : Hid (L = nb n) := by show _ = _; rw [HL.out, HHD.out]; rfl
      clear c0 c1 c2 c3 c4 c5 c6
      go_wp2
      go_loopw [4] (fun v wr => ∃ (j : Nat) (a' : Option Addr) (c' : Nat) (K : List Nat), v = .slice a' K.length c' ∧ Hid (K = nb n ++ List.replicate j 0) ∧ K.length ≤ 252 ∧ Ast W0 wr (.slice a' K.length c') K)
        (fun v _ => 252 - lenV v)
      case atStart => exact ⟨0, a, c, L, rfl, by show _ = _; rw [HLN.out]; simp, by have := HNB.out; rw [HLN.out]; omega, sL⟩
      case round =>
        obtain ⟨j, a', c', K, rfl, HK, hK, sK⟩ := hrel
        by_cases hlt2 : K.length < 252
        · have hro : Row (wr.alloc (.cells #[.int .u8 0] 5)) (some ⟨wr.heap.size, 0, none⟩) 1 [0] := row_lit (octs_one (by omega)) (by simp) (heap_alloc_new wr _)
          have hsz := sK.2.size
          go_wp2_with (at_builtin; refine wpList_append_row _ rfl _ _ 41 41 5 rfl i0 Tryz.underlying41 Tryz.underlying41 hi hz0 hz1 hz2 W0.heap.size (.slice a' K.length c') K rfl (sK.1.alloc _) (some ⟨wr.heap.size, 0, none⟩) 1 1 [0] rfl rfl hro (by simp; omega) (by simp; omega) ?_; intro a4 c4' w4b hown4 hgrow4 hat4)
          go_roundw
          case rel =>
            refine ⟨j + 1, a4, c4', K ++ [0], by simp, by show _ = _; rw [HK.out, List.append_assoc, ← List.replicate_succ'], by simp; omega, ?_, ?_⟩
            · simpa using hown4
            · exact (sK.2.alloc _).fresh hgrow4 (fun j e => (sK.1.lt j e).1)
          case measure => simp [lenV]; omega
        · have e252 : K.length = 252 := by omega
          have HKP : Hid (K = pad (nb n)) := by
            show _ = _
            have hj : (nb n).length + j = 252 := by rw [← e252, HK.out]; simp
            rw [HK.out]; unfold pad
            congr 2; omega
          have HE : Hid (K.length = 252) := e252
          clear e252
          have hoK : octs K := by rw [HKP.out]; exact pad_octs (nb_octs n)
          obtain ⟨ax, cx, hvx, hrx⟩ := sK.1.row hoK (by omega)
          simp only [Value.slice.injEq, true_and] at hvx
          obtain ⟨rfl, rfl⟩ := hvx
          go_wp2_with fail
          refine (refSeal_any _ _ _ K rfl (by omega) _ hrx).mono ?_
          rintro e w9 ⟨v9, rfl, m9⟩
          have hpg : K ++ le4 (crc K) = pg n := by rw [HKP.out, ← le_le4]; rfl
          rw [hpg] at m9
          have hl9 : (pg n).length = 256 := by rw [← hpg, List.length_append, HE.out]; simp [le4]
          obtain ⟨a9, c9, rfl, hr9⟩ := m9.own.row (pg_octs n) (by omega)
          rw [hl9]
          have f9 := f0.seq' (sK.2.seq' m9.fr)
          clear hl9 hpg m9
          go_wp2
          go_ret2
          exact ⟨a9, c9, rfl, hr9, f9⟩
theorem rencode_yes (n : Nd) (p : Pt) (w : World) (h : Nod w n p) (hr : Rt n) : Calls Tryz.prog 67 #[(.agg #[.int .i64 n.lev, .int .i64 n.lsn, .int .i64 n.rgt, .string n.high, .slice p.k n.keys.length p.kc, .slice p.v n.vals.length p.vc, .slice p.i n.kids.length p.ic])] w fun e w' => ∃ a c, e = .returned (.tuple #[.slice a 256 c, .int .i64 0]) ∧ Row w' a c (pg n) ∧ Fr (fun _ => False) w w' := by
  obtain ⟨pk, pkc, pv, pvc, pi, pic⟩ := p
  by_cases h0 : n.lev = 0
  · exact rencode_leaf n pk pkc pv pvc pi pic w h hr h0
  · exact rencode_inner n pk pkc pv pvc pi pic w h hr h0
end Go.Proofs.YtnoadmkkkeianaaGreat
