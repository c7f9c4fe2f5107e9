
/- PgRx, PgRMath, PgREnc1. -/
import Derived.Test.YtkibbojiflklpaaGreatBB14
import Derived.Test.YtkibbojiflklpaaGreatRG1
import Derived.Test.YtkibbojiflklpaaGreatBB17
import Derived.Test.YtkibbojiflklpaaGreatBB21
import Derived.Test.YtkibbojiflklpaaGreatBB18
import Derived.Test.YtkibbojiflklpaaGreatBB5
import Derived.Test.YtkibbojiflklpaaGreatBB12
/- A node that is built field by field beside the document's reader. -/
namespace Go.Proofs.YtkibbojiflklpaaGreat
open Go.RowKit Crcm

theorem rf_fr {S : Nat → Prop} {w w' : World} {rb : Nat} {a : Option Addr} {cap : Nat} {l : List Nat} {err : Int} (h : Rf w rb a cap l err) (f : Fr S w w') (h1 : ¬ S rb) (h2 : ∀ b off sp, a = some ⟨b, off, sp⟩ → ¬ S b) : Rf w' rb a cap l err :=
  ⟨by rw [f.block rb (lt_of_block h.box) h1]; exact h.box, h.row.fr f h2, h.far⟩

/-- A node under way at block nk, a reader at rb, an answer at rs; what was there at W0 is as it was. -/
structure Rx (W0 w : World) (nk rb rs : Nat) (a : Option Addr) (cap : Nat) (s : RS) (n : Nd) (kv vv iv : Value) : Prop where
  box : w.heap[nk]? = some (.cells #[.int .i64 n.lev, .int .i64 n.lsn, .int .i64 n.rgt, .string n.high, kv, vv, iv] 33 (0, 0))
  nrb : rb < nk
  nrs : rs < nk
  rne : rs ≠ rb
  lrb : W0.heap.size ≤ rb
  lrs : W0.heap.size ≤ rs
  keys : Has w 1 kv n.keys.length (strCells n.keys)
  vals : Has w 1 vv n.vals.length (strCells n.vals)
  kids : Has w 1 iv n.kids.length (intCells n.kids)
  ok : ∀ g, kv.ownBlock = some g → nk < g
  ov : ∀ g, vv.ownBlock = some g → nk < g
  oi : ∀ g, iv.ownBlock = some g → nk < g
  nkv : ∀ g, kv.ownBlock = some g → vv.ownBlock ≠ some g
  nki : ∀ g, kv.ownBlock = some g → iv.ownBlock ≠ some g
  nvi : ∀ g, vv.ownBlock = some g → iv.ownBlock ≠ some g
  rf : Rf w rb a cap s.1 s.2
  alt : ∀ b off sp, a = some ⟨b, off, sp⟩ → b < W0.heap.size
  fr : Fr (fun _ => False) W0 w
  res : w.heap[rs]? = some (.cells #[.int .i64 0, .int .i64 0, .int .i64 0, .string ⟨#[]⟩, .slice none 0 0, .slice none 0 0, .slice none 0 0] 33 (0, 0))

section
variable {W0 w w' : World} {nk rb rs : Nat} {a a' : Option Addr} {cap c' : Nat} {s s' : RS} {n : Nd} {kv vv iv : Value}
/-- What leaves everything leaves it. -/
theorem Rx.same (h : Rx W0 w nk rb rs a cap s n kv vv iv) (f : Fr (fun _ => False) w w') : Rx W0 w' nk rb rs a cap s n kv vv iv :=
  ⟨by rw [f.block nk (lt_of_block h.box) (fun f => f)]; exact h.box, h.nrb, h.nrs, h.rne, h.lrb, h.lrs, h.keys.fr f (fun _ _ f => f), h.vals.fr f (fun _ _ f => f), h.kids.fr f (fun _ _ f => f), h.ok, h.ov, h.oi, h.nkv, h.nki, h.nvi, rf_fr h.rf f (fun f => f) (fun _ _ _ _ f => f), h.alt, h.fr.trans f (fun _ _ f => f), by rw [f.block _ (lt_of_block h.res) (fun f => f)]; exact h.res⟩
/-- The reader has gone on. -/
theorem Rx.goR (h : Rx W0 w nk rb rs a cap s n kv vv iv) (r : Rf w' rb a' c' s'.1 s'.2) (f : Fr (fun k => k = rb) w w') (na : Near a a') : Rx W0 w' nk rb rs a' c' s' n kv vv iv := by
  have h1 := h.nrb
  have h2 := h.rne
  have h3 := h.lrb
  exact ⟨by rw [f.block nk (lt_of_block h.box) (by omega)]; exact h.box, h.nrb, h.nrs, h.rne, h.lrb, h.lrs, h.keys.fr f (fun g e e2 => by have := h.ok g e; omega), h.vals.fr f (fun g e e2 => by have := h.ov g e; omega), h.kids.fr f (fun g e e2 => by have := h.oi g e; omega),
    h.ok, h.ov, h.oi, h.nkv, h.nki, h.nvi, r, (fun b off sp e => by obtain ⟨o, t, e2⟩ := na b off sp e; exact h.alt b o t e2), h.fr.trans f (S := fun _ => False) (fun i hi e => by omega), by rw [f.block _ (lt_of_block h.res) (by omega)]; exact h.res⟩
/-- A field of the node, or one of its lists, is stored anew. -/
theorem Rx.put (h : Rx W0 w nk rb rs a cap s n kv vv iv) (j : Nat) (x : Value) (m : Nd) (kv' vv' iv' : Value)
    (hb : (#[.int .i64 n.lev, .int .i64 n.lsn, .int .i64 n.rgt, .string n.high, kv, vv, iv] : Array Value).setIfInBounds j x = #[.int .i64 m.lev, .int .i64 m.lsn, .int .i64 m.rgt, .string m.high, kv', vv', iv'])
    (hk : Has w 1 kv' m.keys.length (strCells m.keys)) (hv : Has w 1 vv' m.vals.length (strCells m.vals)) (hi : Has w 1 iv' m.kids.length (intCells m.kids))
    (ok : ∀ g, kv'.ownBlock = some g → nk < g) (ov : ∀ g, vv'.ownBlock = some g → nk < g) (oi : ∀ g, iv'.ownBlock = some g → nk < g)
    (nkv : ∀ g, kv'.ownBlock = some g → vv'.ownBlock ≠ some g) (nki : ∀ g, kv'.ownBlock = some g → iv'.ownBlock ≠ some g) (nvi : ∀ g, vv'.ownBlock = some g → iv'.ownBlock ≠ some g) :
    Rx W0 (w.setCell ⟨nk, j, none⟩ x) nk rb rs a cap s m kv' vv' iv' := by
  have h1 := h.nrb
  have h2 := h.nrs
  have h3 := h.lrb
  have h4 := h.lrs
  have f : Fr (fun k => k = nk) w (w.setCell ⟨nk, j, none⟩ x) := (Fr.refl (fun k => k = nk) w).setCell (p := ⟨nk, j, none⟩) (fun _ => rfl) _
  exact ⟨by rw [node_setCell h.box, hb], h.nrb, h.nrs, h.rne, h.lrb, h.lrs, hk.fr f (fun g e e2 => by have := ok g e; omega), hv.fr f (fun g e e2 => by have := ov g e; omega), hi.fr f (fun g e e2 => by have := oi g e; omega),
    ok, ov, oi, nkv, nki, nvi, rf_fr h.rf f (by omega) (fun b off sp e => by have := h.alt b off sp e; omega), h.alt, h.fr.trans f (fun i hi e => by omega), by rw [f.block _ (lt_of_block h.res) (by omega)]; exact h.res⟩
end
section
variable {W0 w : World} {nk rb rs : Nat} {a : Option Addr} {cap : Nat} {s : RS} {n : Nd} {kv vv iv : Value}
theorem Rx.lev (h : Rx W0 w nk rb rs a cap s n kv vv iv) (x : Int) : Rx W0 (w.setCell ⟨nk, 0, none⟩ (.int .i64 x)) nk rb rs a cap s { n with lev := x } kv vv iv :=
  h.put 0 _ { n with lev := x } kv vv iv rfl h.keys h.vals h.kids h.ok h.ov h.oi h.nkv h.nki h.nvi
theorem Rx.lsn (h : Rx W0 w nk rb rs a cap s n kv vv iv) (x : Int) : Rx W0 (w.setCell ⟨nk, 1, none⟩ (.int .i64 x)) nk rb rs a cap s { n with lsn := x } kv vv iv :=
  h.put 1 _ { n with lsn := x } kv vv iv rfl h.keys h.vals h.kids h.ok h.ov h.oi h.nkv h.nki h.nvi
theorem Rx.rgt (h : Rx W0 w nk rb rs a cap s n kv vv iv) (x : Int) : Rx W0 (w.setCell ⟨nk, 2, none⟩ (.int .i64 x)) nk rb rs a cap s { n with rgt := x } kv vv iv :=
  h.put 2 _ { n with rgt := x } kv vv iv rfl h.keys h.vals h.kids h.ok h.ov h.oi h.nkv h.nki h.nvi
theorem Rx.high (h : Rx W0 w nk rb rs a cap s n kv vv iv) (x : ByteArray) : Rx W0 (w.setCell ⟨nk, 3, none⟩ (.string x)) nk rb rs a cap s { n with high := x } kv vv iv :=
  h.put 3 _ { n with high := x } kv vv iv rfl h.keys h.vals h.kids h.ok h.ov h.oi h.nkv h.nki h.nvi

/-- What an append onto one of its lists leaves. -/
theorem Rx.grow {w1 : World} {v : Value} (h : Rx W0 w nk rb rs a cap s n kv vv iv) (f : Fr (fun k => v.ownBlock = some k ∧ 0 < 1) w w1) (ov : ∀ g, v.ownBlock = some g → nk < g) :
    w1.heap[nk]? = some (.cells #[.int .i64 n.lev, .int .i64 n.lsn, .int .i64 n.rgt, .string n.high, kv, vv, iv] 33 (0, 0)) ∧ Rf w1 rb a cap s.1 s.2 ∧ Fr (fun _ => False) W0 w1 ∧
    w1.heap[rs]? = some (.cells #[.int .i64 0, .int .i64 0, .int .i64 0, .string ⟨#[]⟩, .slice none 0 0, .slice none 0 0, .slice none 0 0] 33 (0, 0)) := by
  have h1 := h.nrb
  have h2 := h.nrs
  have h3 := h.lrb
  have h4 := h.lrs
  refine ⟨by rw [f.block nk (lt_of_block h.box) (fun e => by have := ov nk e.1; omega)]; exact h.box, rf_fr h.rf f (fun e => by have := ov _ e.1; omega) (fun b off sp e e2 => by have := h.alt b off sp e; have := ov _ e2.1; omega), h.fr.trans f (fun i hi e => by have := ov _ e.1; omega), by rw [f.block _ (lt_of_block h.res) (fun e => by have := ov _ e.1; omega)]; exact h.res⟩

theorem Rx.key (h : Rx W0 w nk rb rs a cap s n kv vv iv) (x : ByteArray) (hl : n.keys.length ≤ 100000) :
    ∃ a7 c7 w7, (Builtin.append_ #[30, 30] 30 #[kv, (.slice (some ⟨w.heap.size, 0, none⟩) 1 1)]).run Tryz.prog (w.alloc (.cells #[.string x] 9)) = .ok (.slice a7 (n.keys.length + 1) c7) w7 ∧
      w7.cell? ⟨nk, 4, none⟩ = some kv ∧ w7.frozen? ⟨nk, 4, none⟩ = false ∧ Rx W0 (w7.setCell ⟨nk, 4, none⟩ (.slice a7 (n.keys.length + 1) c7)) nk rb rs a cap s { n with keys := n.keys ++ [x] } (.slice a7 (n.keys.length + 1) c7) vv iv := by
  obtain ⟨i0, hi, hz0, hz1, hz2⟩ := info_parts infoStr
  have h1 := h.same (Fr.box w (.cells #[.string x] 9))
  have hb := heap_alloc_new w (.cells #[.string x] 9)
  obtain ⟨v', w7, hrun, hh, hf, ho⟩ := run_append_has (P := Tryz.prog) (w.alloc (.cells #[.string x] 9)) 30 30 30 9 9 i0 (.string ⟨#[]⟩) 1 16 Tryz.underlying30 Tryz.underlying30 hi hz0 hz1 hz2 rfl (by omega) kv n.keys.length (strCells n.keys) h1.keys
    (some ⟨w.heap.size, 0, none⟩) 1 1 [.string x] rfl (.inr ⟨w.heap.size, 0, rfl, range_block hb (fun j v hv => by rw [Nat.zero_add]; simpa using hv)⟩) (by simp [Value.oneCell']) (by unfold maxLen; omega) (by omega)
  obtain ⟨a7, c7, rfl, _, _⟩ := hh.slice
  obtain ⟨g1, g2, g3, g4⟩ := h1.grow hf h1.ok
  obtain ⟨⟨_, _, _, _, c4, _, _⟩, fz⟩ := node_cells g1
  have hsz : (w.alloc (.cells #[.string x] 9)).heap.size = w.heap.size + 1 := by simp
  rw [hsz] at ho
  have hnk := lt_of_block h.box
  have hv7 := h1.vals.fr hf (fun g e e2 => h.nkv g e2.1 e)
  have hi7 := h1.kids.fr hf (fun g e e2 => h.nki g e2.1 e)
  have f : Fr (fun k => k = nk) w7 (w7.setCell ⟨nk, 4, none⟩ (.slice a7 (n.keys.length + 1) c7)) := (Fr.refl (fun k => k = nk) w7).setCell (p := ⟨nk, 4, none⟩) (fun _ => rfl) _
  have h1 := h.nrb
  have h2 := h.nrs
  have h3 := h.lrb
  have h4 := h.lrs
  have ok' := own_new ho hnk h.ok
  refine ⟨a7, c7, w7, hrun, c4, fz 4, ⟨by rw [node_setCell g1]; rfl, h.nrb, h.nrs, h.rne, h.lrb, h.lrs, ?_, hv7.fr f (fun g e e2 => by have := h.ov g e; omega), hi7.fr f (fun g e e2 => by have := h.oi g e; omega), ok', h.ov, h.oi, own_apart ho (fun g e => h.vals.lt e) h.nkv, own_apart ho (fun g e => h.kids.lt e) h.nki, h.nvi, rf_fr g2 f (by omega) (fun b off sp e => by have := h.alt b off sp e; omega), h.alt, g3.trans f (fun i hi e => by omega), by rw [f.block _ (lt_of_block g4) (by omega)]; exact g4⟩⟩
  have : Has w7 1 (.slice a7 (n.keys.length + 1) c7) (n.keys ++ [x]).length (strCells (n.keys ++ [x])) := by
    rw [List.length_append]; simpa [strCells] using hh
  exact this.fr f (fun g e e2 => by have := ok' g e; omega)
theorem Rx.val (h : Rx W0 w nk rb rs a cap s n kv vv iv) (x : ByteArray) (hl : n.vals.length ≤ 100000) :
    ∃ a7 c7 w7, (Builtin.append_ #[30, 30] 30 #[vv, (.slice (some ⟨w.heap.size, 0, none⟩) 1 1)]).run Tryz.prog (w.alloc (.cells #[.string x] 9)) = .ok (.slice a7 (n.vals.length + 1) c7) w7 ∧
      w7.cell? ⟨nk, 5, none⟩ = some vv ∧ w7.frozen? ⟨nk, 5, none⟩ = false ∧ Rx W0 (w7.setCell ⟨nk, 5, none⟩ (.slice a7 (n.vals.length + 1) c7)) nk rb rs a cap s { n with vals := n.vals ++ [x] } kv (.slice a7 (n.vals.length + 1) c7) iv := by
  obtain ⟨i0, hi, hz0, hz1, hz2⟩ := info_parts infoStr
  have h1 := h.same (Fr.box w (.cells #[.string x] 9))
  have hb := heap_alloc_new w (.cells #[.string x] 9)
  obtain ⟨v', w7, hrun, hh, hf, ho⟩ := run_append_has (P := Tryz.prog) (w.alloc (.cells #[.string x] 9)) 30 30 30 9 9 i0 (.string ⟨#[]⟩) 1 16 Tryz.underlying30 Tryz.underlying30 hi hz0 hz1 hz2 rfl (by omega) vv n.vals.length (strCells n.vals) h1.vals
    (some ⟨w.heap.size, 0, none⟩) 1 1 [.string x] rfl (.inr ⟨w.heap.size, 0, rfl, range_block hb (fun j v hv => by rw [Nat.zero_add]; simpa using hv)⟩) (by simp [Value.oneCell']) (by unfold maxLen; omega) (by omega)
  obtain ⟨a7, c7, rfl, _, _⟩ := hh.slice
  obtain ⟨g1, g2, g3, g4⟩ := h1.grow hf h1.ov
  obtain ⟨⟨_, _, _, _, _, c5, _⟩, fz⟩ := node_cells g1
  have hsz : (w.alloc (.cells #[.string x] 9)).heap.size = w.heap.size + 1 := by simp
  rw [hsz] at ho
  have hnk := lt_of_block h.box
  have hk7 := h1.keys.fr hf (fun g e e2 => h.nkv g e e2.1)
  have hi7 := h1.kids.fr hf (fun g e e2 => h.nvi g e2.1 e)
  have f : Fr (fun k => k = nk) w7 (w7.setCell ⟨nk, 5, none⟩ (.slice a7 (n.vals.length + 1) c7)) := (Fr.refl (fun k => k = nk) w7).setCell (p := ⟨nk, 5, none⟩) (fun _ => rfl) _
  have h1 := h.nrb
  have h2 := h.nrs
  have h3 := h.lrb
  have h4 := h.lrs
  have ok' := own_new ho hnk h.ov
  refine ⟨a7, c7, w7, hrun, c5, fz 5, ⟨by rw [node_setCell g1]; rfl, h.nrb, h.nrs, h.rne, h.lrb, h.lrs, hk7.fr f (fun g e e2 => by have := h.ok g e; omega), ?_, hi7.fr f (fun g e e2 => by have := h.oi g e; omega), h.ok, ok', h.oi, own_apart' ho (fun g e => h.keys.lt e) h.nkv, h.nki, own_apart ho (fun g e => h.kids.lt e) h.nvi, rf_fr g2 f (by omega) (fun b off sp e => by have := h.alt b off sp e; omega), h.alt, g3.trans f (fun i hi e => by omega), by rw [f.block _ (lt_of_block g4) (by omega)]; exact g4⟩⟩
  have : Has w7 1 (.slice a7 (n.vals.length + 1) c7) (n.vals ++ [x]).length (strCells (n.vals ++ [x])) := by
    rw [List.length_append]; simpa [strCells] using hh
  exact this.fr f (fun g e e2 => by have := ok' g e; omega)
theorem Rx.kid (h : Rx W0 w nk rb rs a cap s n kv vv iv) (x : Int) (hl : n.kids.length ≤ 100000) :
    ∃ a7 c7 w7, (Builtin.append_ #[31, 31] 31 #[iv, (.slice (some ⟨w.heap.size, 0, none⟩) 1 1)]).run Tryz.prog (w.alloc (.cells #[.int .i64 x] 3)) = .ok (.slice a7 (n.kids.length + 1) c7) w7 ∧
      w7.cell? ⟨nk, 6, none⟩ = some iv ∧ w7.frozen? ⟨nk, 6, none⟩ = false ∧ Rx W0 (w7.setCell ⟨nk, 6, none⟩ (.slice a7 (n.kids.length + 1) c7)) nk rb rs a cap s { n with kids := n.kids ++ [x] } kv vv (.slice a7 (n.kids.length + 1) c7) := by
  obtain ⟨i0, hi, hz0, hz1, hz2⟩ := info_parts infoInt
  have h1 := h.same (Fr.box w (.cells #[.int .i64 x] 3))
  have hb := heap_alloc_new w (.cells #[.int .i64 x] 3)
  obtain ⟨v', w7, hrun, hh, hf, ho⟩ := run_append_has (P := Tryz.prog) (w.alloc (.cells #[.int .i64 x] 3)) 31 31 31 3 3 i0 (.int .i64 0) 1 8 Tryz.underlying31 Tryz.underlying31 hi hz0 hz1 hz2 rfl (by omega) iv n.kids.length (intCells n.kids) h1.kids
    (some ⟨w.heap.size, 0, none⟩) 1 1 [.int .i64 x] rfl (.inr ⟨w.heap.size, 0, rfl, range_block hb (fun j v hv => by rw [Nat.zero_add]; simpa using hv)⟩) (by simp [Value.oneCell']) (by unfold maxLen; omega) (by omega)
  obtain ⟨a7, c7, rfl, _, _⟩ := hh.slice
  obtain ⟨g1, g2, g3, g4⟩ := h1.grow hf h1.oi
  obtain ⟨⟨_, _, _, _, _, _, c6⟩, fz⟩ := node_cells g1
  have hsz : (w.alloc (.cells #[.int .i64 x] 3)).heap.size = w.heap.size + 1 := by simp
  rw [hsz] at ho
  have hnk := lt_of_block h.box
  have hk7 := h1.keys.fr hf (fun g e e2 => h.nki g e e2.1)
  have hv7 := h1.vals.fr hf (fun g e e2 => h.nvi g e e2.1)
  have f : Fr (fun k => k = nk) w7 (w7.setCell ⟨nk, 6, none⟩ (.slice a7 (n.kids.length + 1) c7)) := (Fr.refl (fun k => k = nk) w7).setCell (p := ⟨nk, 6, none⟩) (fun _ => rfl) _
  have h1 := h.nrb
  have h2 := h.nrs
  have h3 := h.lrb
  have h4 := h.lrs
  have ok' := own_new ho hnk h.oi
  refine ⟨a7, c7, w7, hrun, c6, fz 6, ⟨by rw [node_setCell g1]; rfl, h.nrb, h.nrs, h.rne, h.lrb, h.lrs, hk7.fr f (fun g e e2 => by have := h.ok g e; omega), hv7.fr f (fun g e e2 => by have := h.ov g e; omega), ?_, h.ok, h.ov, ok', h.nkv, own_apart' ho (fun g e => h.keys.lt e) h.nki, own_apart' ho (fun g e => h.vals.lt e) h.nvi, rf_fr g2 f (by omega) (fun b off sp e => by have := h.alt b off sp e; omega), h.alt, g3.trans f (fun i hi e => by omega), by rw [f.block _ (lt_of_block g4) (by omega)]; exact g4⟩⟩
  have : Has w7 1 (.slice a7 (n.kids.length + 1) c7) (n.kids ++ [x]).length (intCells (n.kids ++ [x])) := by
    rw [List.length_append]; simpa [intCells] using hh
  exact this.fr f (fun g e e2 => by have := ok' g e; omega)
end
end Go.Proofs.YtkibbojiflklpaaGreat

/- What the document's Decode reads. -/
namespace Go.Proofs.YtkibbojiflklpaaGreat
open Go.RowKit Crcm

/-- The entries that the document reads, so many at most, until one fails. -/
def rentL (leaf : Bool) : Nat → Nd × RS → Nd × RS
  | 0, x => x
  | c + 1, x =>
    if x.2.2 = 0 then
      (if leaf = true then rentL leaf c (upL x.1 [strOf (textS x.2 256).1] [strOf (textS (textS x.2 256).2.2 256).1], (textS (textS x.2 256).2.2 256).2.2)
       else rentL leaf c (upI x.1 [strOf (textS x.2 256).1] [(numS (textS x.2 256).2.2 4).1], (numS (textS x.2 256).2.2 4).2.2))
    else x
def rnodeS (s : RS) : Nd × RS :=
  if (numS s 1).1 = 0 then
    rentL true (numS (numS (numS (numS s 1).2.2 8).2.2 4).2.2 2).1.toNat (⟨(numS s 1).1, (numS (numS s 1).2.2 8).1, (numS (numS (numS s 1).2.2 8).2.2 4).1, strOf (textS (numS (numS (numS (numS s 1).2.2 8).2.2 4).2.2 2).2.2 256).1, [], [], []⟩, (textS (numS (numS (numS (numS s 1).2.2 8).2.2 4).2.2 2).2.2 256).2.2)
  else
    rentL false (numS (numS (numS (numS s 1).2.2 8).2.2 4).2.2 2).1.toNat (⟨(numS s 1).1, (numS (numS s 1).2.2 8).1, (numS (numS (numS s 1).2.2 8).2.2 4).1, strOf (textS (numS (numS (numS (numS s 1).2.2 8).2.2 4).2.2 2).2.2 256).1, [], [], [(numS (textS (numS (numS (numS (numS s 1).2.2 8).2.2 4).2.2 2).2.2 256).2.2 4).1]⟩, (numS (textS (numS (numS (numS (numS s 1).2.2 8).2.2 4).2.2 2).2.2 256).2.2 4).2.2)
theorem rentL_stop (leaf : Bool) (c : Nat) (x : Nd × RS) (h : x.2.2 ≠ 0) : rentL leaf c x = x := by
  cases c with
  | zero => rfl
  | succ c => simp only [rentL]; rw [if_neg h]
theorem rentL_leaf (c : Nat) (n : Nd) (s : RS) (t u : List Nat × Int × RS) (h : s.2 = 0) (ht : t = textS s 256) (hu : u = textS t.2.2 256) : rentL true (c + 1) (n, s) = rentL true c ({ n with keys := n.keys ++ [strOf t.1], vals := n.vals ++ [strOf u.1] }, u.2.2) := by
  subst ht; subst hu
  simp only [rentL]
  rw [if_pos h, if_pos trivial]
theorem rentL_inner (c : Nat) (n : Nd) (s : RS) (t : List Nat × Int × RS) (u : Int × Int × RS) (h : s.2 = 0) (ht : t = textS s 256) (hu : u = numS t.2.2 4) : rentL false (c + 1) (n, s) = rentL false c ({ n with keys := n.keys ++ [strOf t.1], kids := n.kids ++ [u.1] }, u.2.2) := by
  subst ht; subst hu
  simp only [rentL]
  rw [if_pos h, if_neg (by simp)]
theorem numS_st (k v : Nat) (hk : k = 1 ∨ k = 2 ∨ k = 4 ∨ k = 8) (hv : v < 256 ^ k) (hv2 : v < 9223372036854775808) (r : List Nat) : (numS (le k v ++ r, 0) (k : Int)).1 = (v : Int) ∧ (numS (le k v ++ r, 0) (k : Int)).2.2 = (r, 0) := by
  have := numF_st k v hk hv hv2 r
  unfold numF at this
  simp only [Prod.mk.injEq] at this
  exact ⟨this.1, this.2.1⟩
theorem textS_st (s : ByteArray) (m : Nat) (hs : s.size ≤ m) (hm : m ≤ 65535) (r : List Nat) : strOf (textS (txt s ++ r, 0) (m : Int)).1 = s ∧ (textS (txt s ++ r, 0) (m : Int)).2.2 = (r, 0) := by
  have := textF_st s m hs hm r
  unfold textF at this
  simp only [Prod.mk.injEq] at this
  exact ⟨this.1, this.2.1⟩
theorem rleaf_fwd (c : Nat) : ∀ (n : Nd) (K V : List ByteArray) (r : List Nat), n.lev = 0 → n.vals.length = n.keys.length → K.length = c → V.length = c → (∀ s ∈ K, s.size ≤ 16) → (∀ s ∈ V, s.size ≤ 32) →
    rentL true c (n, (ensR (upL n K V) n.keys.length c ++ r, 0)) = (upL n K V, (r, 0)) := by
  induction c with
  | zero =>
    intro n K V r _ _ hK hV _ _
    rw [List.length_eq_zero_iff.1 hK, List.length_eq_zero_iff.1 hV]
    simp [rentL, upL, ensR]
  | succ c ih =>
    intro n K V r h0 hv hK hV sK sV
    obtain ⟨k, K', rfl⟩ := List.exists_cons_of_length_eq_add_one hK
    obtain ⟨v, V', rfl⟩ := List.exists_cons_of_length_eq_add_one hV
    rw [ensR, en_leaf n h0 hv, List.append_assoc, List.append_assoc]
    have e1 := textS_st k 256 (Nat.le_trans (sK k (by simp)) (by omega)) (by omega) (txt v ++ (ensR (upL n (k :: K') (v :: V')) (n.keys.length + 1) c ++ r))
    have e2 := textS_st v 256 (Nat.le_trans (sV v (by simp)) (by omega)) (by omega) (ensR (upL n (k :: K') (v :: V')) (n.keys.length + 1) c ++ r)
    rw [show ((256 : Nat) : Int) = 256 from rfl] at e1 e2
    simp only [rentL, if_true]
    rw [e1.1, e1.2, e2.1, e2.2]
    have := ih (upL n [k] [v]) K' V' r h0 (by simp [hv]) (by simpa using hK) (by simpa using hV) (fun s hs => sK s (by simp [hs])) (fun s hs => sV s (by simp [hs]))
    rw [upL_up] at this
    simpa [upL] using this
theorem rinner_fwd (c : Nat) : ∀ (n : Nd) (K : List ByteArray) (I : List Int) (r : List Nat), ¬ n.lev = 0 → n.kids.length = n.keys.length + 1 → K.length = c → I.length = c → (∀ s ∈ K, s.size ≤ 16) → (∀ x ∈ I, 0 ≤ x ∧ x ≤ 4096) →
    rentL false c (n, (ensR (upI n K I) n.keys.length c ++ r, 0)) = (upI n K I, (r, 0)) := by
  induction c with
  | zero =>
    intro n K I r _ _ hK hI _ _
    rw [List.length_eq_zero_iff.1 hK, List.length_eq_zero_iff.1 hI]
    simp [rentL, upI, ensR]
  | succ c ih =>
    intro n K I r h0 hv hK hI sK sI
    obtain ⟨k, K', rfl⟩ := List.exists_cons_of_length_eq_add_one hK
    obtain ⟨v, I', rfl⟩ := List.exists_cons_of_length_eq_add_one hI
    have hvb := sI v (by simp)
    rw [ensR, en_inner n h0 hv, List.append_assoc, List.append_assoc]
    have e1 := textS_st k 256 (Nat.le_trans (sK k (by simp)) (by omega)) (by omega) (le 4 v.toNat ++ (ensR (upI n (k :: K') (v :: I')) (n.keys.length + 1) c ++ r))
    have e2 := numS_st 4 v.toNat (by omega) (by omega) (by omega) (ensR (upI n (k :: K') (v :: I')) (n.keys.length + 1) c ++ r)
    rw [show ((256 : Nat) : Int) = 256 from rfl] at e1
    rw [show ((4 : Nat) : Int) = 4 from rfl, Int.toNat_of_nonneg hvb.1] at e2
    simp only [rentL, if_true, Bool.false_eq_true, if_false]
    rw [e1.1, e1.2, e2.1, e2.2]
    have := ih (upI n [k] [v]) K' I' r h0 (by simp [hv]) (by simpa using hK) (by simpa using hI) (fun s hs => sK s (by simp [hs])) (fun s hs => sI s (by simp [hs]))
    rw [upI_up] at this
    simpa [upI] using this
theorem rnode_fwd (n : Nd) (r : Rt n) (z : List Nat) : rnodeS (nb n ++ z, 0) = (n, (z, 0)) := by
  have hfew := keys_few r
  have a1 := r.lev0
  have a2 := r.lev1
  have a3 := r.lsn0
  have a4 := r.lsn1
  have a5 := r.rgt0
  have a6 := r.rgt1
  have a7 := r.high
  have hk := size_of_mem (fun i hi => (r.keys i hi).1.2)
  obtain ⟨lev, lsn, rgt, hi, keys, vals, kids⟩ := n
  simp only [] at hfew a1 a2 a3 a4 a5 a6 a7 hk
  obtain ⟨v1, rfl⟩ := Int.eq_ofNat_of_zero_le a1
  obtain ⟨v2, rfl⟩ := Int.eq_ofNat_of_zero_le a3
  obtain ⟨v3, rfl⟩ := Int.eq_ofNat_of_zero_le a5
  by_cases h0 : (v1 : Int) = 0
  · obtain ⟨hv, hkd, hx⟩ := r.leaf h0
    have hxs := size_of_mem hx
    simp only [] at hv hkd hxs
    have ek : kids = [] := List.length_eq_zero_iff.1 hkd
    subst ek
    have en0 : nb ⟨v1, v2, v3, hi, keys, vals, []⟩ ++ z = le 1 v1 ++ (le 8 v2 ++ (le 4 v3 ++ (le 2 keys.length ++ (txt hi ++ (ensR ⟨v1, v2, v3, hi, keys, vals, []⟩ 0 keys.length ++ z))))) := by
      unfold nb hd
      rw [if_pos h0, ens_all]
      simp only [Int.toNat_natCast, List.append_nil, List.append_assoc]
    rw [en0]
    have b1 := numS_st 1 v1 (by omega) (by omega) (by omega) (le 8 v2 ++ (le 4 v3 ++ (le 2 keys.length ++ (txt hi ++ (ensR ⟨v1, v2, v3, hi, keys, vals, []⟩ 0 keys.length ++ z)))))
    have b2 := numS_st 8 v2 (by omega) (by omega) (by omega) (le 4 v3 ++ (le 2 keys.length ++ (txt hi ++ (ensR ⟨v1, v2, v3, hi, keys, vals, []⟩ 0 keys.length ++ z))))
    have b3 := numS_st 4 v3 (by omega) (by omega) (by omega) (le 2 keys.length ++ (txt hi ++ (ensR ⟨v1, v2, v3, hi, keys, vals, []⟩ 0 keys.length ++ z)))
    have b4 := numS_st 2 keys.length (by omega) (by omega) (by omega) (txt hi ++ (ensR ⟨v1, v2, v3, hi, keys, vals, []⟩ 0 keys.length ++ z))
    have b5 := textS_st hi 256 (by omega) (by omega) (ensR ⟨v1, v2, v3, hi, keys, vals, []⟩ 0 keys.length ++ z)
    rw [show ((1 : Nat) : Int) = 1 from rfl] at b1
    rw [show ((8 : Nat) : Int) = 8 from rfl] at b2
    rw [show ((4 : Nat) : Int) = 4 from rfl] at b3
    rw [show ((2 : Nat) : Int) = 2 from rfl] at b4
    rw [show ((256 : Nat) : Int) = 256 from rfl] at b5
    unfold rnodeS
    rw [b1.1, b1.2, b2.1, b2.2, b3.1, b3.2, b4.1, b4.2, b5.1, b5.2, if_pos h0, Int.toNat_natCast]
    have := rleaf_fwd keys.length ⟨v1, v2, v3, hi, [], [], []⟩ keys vals z h0 rfl rfl hv hk hxs
    simpa [upL] using this
  · obtain ⟨hv, hkd, hx⟩ := r.inner h0
    have hxs := kid_of_mem hx
    simp only [] at hv hkd hxs
    have ek : vals = [] := List.length_eq_zero_iff.1 hkd
    subst ek
    obtain ⟨v, I, rfl⟩ := List.exists_cons_of_length_eq_add_one hv
    have hvb := hxs v (by simp)
    obtain ⟨v6, rfl⟩ := Int.eq_ofNat_of_zero_le hvb.1
    have en0 : nb ⟨v1, v2, v3, hi, keys, [], (v6 : Int) :: I⟩ ++ z = le 1 v1 ++ (le 8 v2 ++ (le 4 v3 ++ (le 2 keys.length ++ (txt hi ++ (le 4 v6 ++ (ensR ⟨v1, v2, v3, hi, keys, [], (v6 : Int) :: I⟩ 0 keys.length ++ z)))))) := by
      unfold nb hd
      rw [if_neg h0, ens_all]
      simp only [Int.toNat_natCast, List.append_assoc, List.getD_cons_zero]
    rw [en0]
    have b1 := numS_st 1 v1 (by omega) (by omega) (by omega) (le 8 v2 ++ (le 4 v3 ++ (le 2 keys.length ++ (txt hi ++ (le 4 v6 ++ (ensR ⟨v1, v2, v3, hi, keys, [], (v6 : Int) :: I⟩ 0 keys.length ++ z))))))
    have b2 := numS_st 8 v2 (by omega) (by omega) (by omega) (le 4 v3 ++ (le 2 keys.length ++ (txt hi ++ (le 4 v6 ++ (ensR ⟨v1, v2, v3, hi, keys, [], (v6 : Int) :: I⟩ 0 keys.length ++ z)))))
    have b3 := numS_st 4 v3 (by omega) (by omega) (by omega) (le 2 keys.length ++ (txt hi ++ (le 4 v6 ++ (ensR ⟨v1, v2, v3, hi, keys, [], (v6 : Int) :: I⟩ 0 keys.length ++ z))))
    have b4 := numS_st 2 keys.length (by omega) (by omega) (by omega) (txt hi ++ (le 4 v6 ++ (ensR ⟨v1, v2, v3, hi, keys, [], (v6 : Int) :: I⟩ 0 keys.length ++ z)))
    have b5 := textS_st hi 256 (by omega) (by omega) (le 4 v6 ++ (ensR ⟨v1, v2, v3, hi, keys, [], (v6 : Int) :: I⟩ 0 keys.length ++ z))
    have b6 := numS_st 4 v6 (by omega) (by omega) (by omega) (ensR ⟨v1, v2, v3, hi, keys, [], (v6 : Int) :: I⟩ 0 keys.length ++ z)
    rw [show ((1 : Nat) : Int) = 1 from rfl] at b1
    rw [show ((8 : Nat) : Int) = 8 from rfl] at b2
    rw [show ((4 : Nat) : Int) = 4 from rfl] at b3 b6
    rw [show ((2 : Nat) : Int) = 2 from rfl] at b4
    rw [show ((256 : Nat) : Int) = 256 from rfl] at b5
    unfold rnodeS
    rw [b1.1, b1.2, b2.1, b2.2, b3.1, b3.2, b4.1, b4.2, b5.1, b5.2, b6.1, b6.2, if_neg h0, Int.toNat_natCast]
    have := rinner_fwd keys.length ⟨v1, v2, v3, hi, [], [], [(v6 : Int)]⟩ keys I z h0 rfl rfl (by simpa using hv) hk (fun x hx => hxs x (by simp [hx]))
    simpa [upI] using this
/-- What the document's Decode takes is what Decode takes. -/
theorem rdec_yes (l : List Nat) (m : Nd) (r : Rt m) (h : pg m = l) : decF l = some m := by
  rw [← h]
  exact dec_pg m r (by have := nb_length r; have := r.size; omega)
theorem rdec_no (l : List Nat) (ho : octs l) (m : Nd) (s : RS) (hm : rnodeS (l.take 252, 0) = (m, s)) (h : s.2 ≠ 0 ∨ rightB m = false ∨ pg m ≠ l) : decF l = none := by
  cases hd : decF l with
  | none => rfl
  | some n =>
    obtain ⟨r, hl⟩ := dec_some l ho n hd
    have hnb : (nb n).length ≤ 252 := by have := nb_length r; have := r.size; omega
    have hp := pad_length hnb
    have ht : l.take 252 = nb n ++ List.replicate (252 - (nb n).length) 0 := by
      rw [hl]; unfold pg; rw [List.take_append_of_le_length (by omega), List.take_of_length_le (by omega)]; rfl
    rw [ht, rnode_fwd n r] at hm
    simp only [Prod.mk.injEq] at hm
    obtain ⟨rfl, rfl⟩ := hm
    rcases h with h | h | h
    · exact absurd rfl h
    · rw [(right_iff n).2 r] at h; cases h
    · exact absurd hl.symm h
end Go.Proofs.YtkibbojiflklpaaGreat

/- What the document's own Encode is made of. -/
namespace Go.Proofs.YtkibbojiflklpaaGreat
open Go.RowKit Crcm

theorem rnum_i (x : Int) (size : Nat) (h0 : 0 ≤ x) (h1 : x < 9223372036854775808) (hs : size ≤ 8) (w : World) :
    Calls Tryz.prog 33 #[.int .i64 x, .int .i64 size] w fun e w' => ∃ a c, e = .returned (.slice a size c) ∧ Row w' a c (le size x.toNat) ∧ Fr (fun _ => False) w w' := by
  obtain ⟨m, rfl⟩ := Int.eq_ofNat_of_zero_le h0
  refine (refNum_any m size (by omega) hs w).mono ?_
  rintro e w' ⟨v, rfl, m1⟩
  obtain ⟨a, c, rfl, hr⟩ := m1.own.row (le_octs' _ _) (by rw [le_length]; omega)
  exact ⟨a, c, by rw [le_length], hr, m1.fr⟩
theorem rtext_i (s : ByteArray) (hs : s.size ≤ 65535) (w : World) :
    Calls Tryz.prog 34 #[.string s] w fun e w' => ∃ a c, e = .returned (.slice a (s.size + 2) c) ∧ Row w' a c (txt s) ∧ Fr (fun _ => False) w w' := by
  refine (refText_any s hs w).mono ?_
  rintro e w' ⟨v, rfl, m1⟩
  obtain ⟨a, c, rfl, hr⟩ := m1.own.row (txt_octs s) (by have := txt_length s; unfold txt at this; omega)
  have := txt_length s
  unfold txt at this
  exact ⟨a, c, by rw [this], hr, m1.fr⟩
/-- A row of the call's own over W0. -/
def Ast (W0 w : World) (v : Value) (l : List Nat) : Prop := Mine w W0.heap.size v l ∧ Fr (fun _ => False) W0 w
theorem Ast.go {W0 w w' : World} {v : Value} {l : List Nat} (h : Ast W0 w v l) (f : Fr (fun _ => False) w w') : Ast W0 w' v l := ⟨h.1.fr f (fun _ _ f => f), h.2.seq' f⟩
theorem Ast.grow {W0 w w' : World} {v : Value} {l : List Nat} {a : Option Addr} {k c : Nat} {m : List Nat} (h : Ast W0 w v l) (o : Mine w' W0.heap.size (.slice a k c) m) (g : w.grownBy w' v.ownBlock) : Ast W0 w' (.slice a k c) m :=
  ⟨o, h.2.fresh g (fun k e => (h.1.lt k e).1)⟩

set_option maxRecDepth 100000 in
set_option maxHeartbeats 400000 in
theorem rencode_no (n : Nd) (p : Pt) (w : World) (h : Nod w n p) (hr : rightB n = false) : Calls Tryz.prog 7 #[(.agg #[.int .i64 n.lev, .int .i64 n.lsn, .int .i64 n.rgt, .string n.high, .slice p.k n.keys.length p.kc, .slice p.v n.vals.length p.vc, .slice p.i n.kids.length p.ic])] w fun e w' => e = .returned (.tuple #[.slice none 0 0, .int .i64 60]) ∧ Fr (fun _ => False) w w' := by
  have f0 := Fr.box w (.cells #[.int .i64 n.lev, .int .i64 n.lsn, .int .i64 n.rgt, .string n.high, .slice p.k n.keys.length p.kc, .slice p.v n.vals.length p.vc, .slice p.i n.kids.length p.ic] 33)
  have HR : Hid (rightB n = false) := hr
  clear hr
  go_enter Tryz.func7, Tryz.ntmps7
  go_wp2_with fail
  refine (rright_any n p _ (h.same f0)).mono ?_
  rw [HR.out]
  rintro e w1 ⟨rfl, f1⟩
  go_wp2
  go_ret2
  exact ⟨rfl, f0.seq' f1⟩
end Go.Proofs.YtkibbojiflklpaaGreat
