
/- PgPlain, RdSpeak, RcArg, RcList, RdSlot, RdIns. -/
import Derived.Test.YtlgceleelhppdaaGreatDR4
import Derived.Test.YtlgceleelhppdaaGreatDR29
import Derived.Test.YtlgceleelhppdaaGreatDR9
import Derived.Test.YtlgceleelhppdaaGreatDR23
import Derived.Test.YtlgceleelhppdaaGreatDR13
import Derived.Deep.Strs
import Derived.Test.YtlgceleelhppdaaGreatDR22
import Derived.Shelf.Spec.SlicesInsertGrow
/- That the plain comparison of two nodes that are the same is true. -/
namespace Go.Proofs.YtlgceleelhppdaaGreat
open Go.RowKit

set_option maxRecDepth 100000 in
set_option maxHeartbeats 1000000 in
theorem texts_same (a1 a2 : Option Addr) (n1 n2 c1 c2 : Nat) (l : List ByteArray) (h1 : n1 = l.length) (h2 : n2 = l.length) (w : World) (r1 : Strs w a1 c1 l) (r2 : Strs w a2 c2 l) :
    Calls Tryz.prog 21 #[.slice a1 n1 c1, .slice a2 n2 c2] w fun e w' => e = .returned (.bool true) ∧ Fr (fun _ => False) w w' := by
  subst h1
  have e2 : l.length = n2 := h2.symm
  subst e2
  have l1 := r1.le
  have m1 := r1.max
  have l2 := r2.le
  have m2 := r2.max
  go_enter Tryz.func21, Tryz.ntmps21
  go_wp2
  go_loopw [13] (fun i wr => ∃ k : Nat, k ≤ l.length ∧ i = .int .i64 k ∧ Fr (fun _ => False) w wr) (fun i _ => l.length - (intOf i).toNat)
  case atStart => exact ⟨0, by omega, rfl, Fr.refl _ _⟩
  case round =>
    obtain ⟨k, hk, rfl, hf⟩ := hrel
    by_cases hlt : k < l.length
    · obtain ⟨b1, o1, e1, hb1, hc1⟩ := strs_some (r1.same hf) hlt
      obtain ⟨b2, o2, e2, hb2, hc2⟩ := strs_some (r2.same hf) hlt
      have k1 := hc1 k hlt
      have k2 := hc2 k hlt
      obtain ⟨s, hs⟩ : ∃ s, s = l.getD k ByteArray.empty := ⟨_, rfl⟩
      rw [← hs] at k1 k2
      clear hs hc1 hc2
      subst e1 e2
      have i1 : (k : Int) < (l.length : Int) := by omega
      have hbe : (s.toList == s.toList) = true := by simp
      go_wp2
      go_quiet (fail)
      go_wp2
      go_roundw
      case rel => exact ⟨k + 1, by omega, by go_num, hf.drewN _⟩
      case measure => simp [intOf]; omega
    · go_wp2
      go_ret
      exact ⟨rfl, hf⟩
set_option maxRecDepth 100000 in
set_option maxHeartbeats 1000000 in
theorem ints_same (a1 a2 : Option Addr) (n1 n2 c1 c2 : Nat) (l : List Int) (h1 : n1 = l.length) (h2 : n2 = l.length) (w : World) (r1 : Ints w a1 c1 l) (r2 : Ints w a2 c2 l) :
    Calls Tryz.prog 22 #[.slice a1 n1 c1, .slice a2 n2 c2] w fun e w' => e = .returned (.bool true) ∧ Fr (fun _ => False) w w' := by
  subst h1
  have e2 : l.length = n2 := h2.symm
  subst e2
  have l1 := r1.le
  have m1 := r1.max
  have l2 := r2.le
  have m2 := r2.max
  go_enter Tryz.func22, Tryz.ntmps22
  go_wp2
  go_loopw [13] (fun i wr => ∃ k : Nat, k ≤ l.length ∧ i = .int .i64 k ∧ Fr (fun _ => False) w wr) (fun i _ => l.length - (intOf i).toNat)
  case atStart => exact ⟨0, by omega, rfl, Fr.refl _ _⟩
  case round =>
    obtain ⟨k, hk, rfl, hf⟩ := hrel
    by_cases hlt : k < l.length
    · obtain ⟨b1, o1, e1, hb1, hc1⟩ := ints_some (r1.same hf) hlt
      obtain ⟨b2, o2, e2, hb2, hc2⟩ := ints_some (r2.same hf) hlt
      have k1 := hc1 k hlt
      have k2 := hc2 k hlt
      obtain ⟨s, hs⟩ : ∃ s, s = l.getD k 0 := ⟨_, rfl⟩
      rw [← hs] at k1 k2
      clear hs hc1 hc2
      subst e1 e2
      have i1 : (k : Int) < (l.length : Int) := by omega
      go_wp2
      go_quiet (fail)
      go_wp2
      go_roundw
      case rel => exact ⟨k + 1, by omega, by go_num, hf.drewN _⟩
      case measure => simp [intOf]; omega
    · go_wp2
      go_ret
      exact ⟨rfl, hf⟩

set_option maxRecDepth 100000 in
set_option maxHeartbeats 1000000 in
theorem plain_same (n : Nd) (p q : Pt) (w : World) (h1 : Nod w n p) (h2 : Nod w n q) :
    Calls Tryz.prog 10 #[(.agg #[.int .i64 n.lev, .int .i64 n.lsn, .int .i64 n.rgt, .string n.high, .slice p.k n.keys.length p.kc, .slice p.v n.vals.length p.vc, .slice p.i n.kids.length p.ic]), (.agg #[.int .i64 n.lev, .int .i64 n.lsn, .int .i64 n.rgt, .string n.high, .slice q.k n.keys.length q.kc, .slice q.v n.vals.length q.vc, .slice q.i n.kids.length q.ic])] w fun e w' => e = .returned (.bool true) ∧ Fr (fun _ => False) w w' := by
  have f0 := (Fr.box w (.cells #[.int .i64 n.lev, .int .i64 n.lsn, .int .i64 n.rgt, .string n.high, .slice p.k n.keys.length p.kc, .slice p.v n.vals.length p.vc, .slice p.i n.kids.length p.ic] 34)).alloc (.cells #[.int .i64 n.lev, .int .i64 n.lsn, .int .i64 n.rgt, .string n.high, .slice q.k n.keys.length q.kc, .slice q.v n.vals.length q.vc, .slice q.i n.kids.length q.ic] 34)
  have hbe : (n.high.toList == n.high.toList) = true := by simp
  have hba : ∀ W, Fr (fun _ => False) ((w.alloc (.cells #[.int .i64 n.lev, .int .i64 n.lsn, .int .i64 n.rgt, .string n.high, .slice p.k n.keys.length p.kc, .slice p.v n.vals.length p.vc, .slice p.i n.kids.length p.ic] 34)).alloc (.cells #[.int .i64 n.lev, .int .i64 n.lsn, .int .i64 n.rgt, .string n.high, .slice q.k n.keys.length q.kc, .slice q.v n.vals.length q.vc, .slice q.i n.kids.length q.ic] 34)) W → W.heap[w.heap.size]? = some (.cells #[.int .i64 n.lev, .int .i64 n.lsn, .int .i64 n.rgt, .string n.high, .slice p.k n.keys.length p.kc, .slice p.v n.vals.length p.vc, .slice p.i n.kids.length p.ic] 34 (0, 0)) ∧ W.heap[w.heap.size + 1]? = some (.cells #[.int .i64 n.lev, .int .i64 n.lsn, .int .i64 n.rgt, .string n.high, .slice q.k n.keys.length q.kc, .slice q.v n.vals.length q.vc, .slice q.i n.kids.length q.ic] 34 (0, 0)) := fun W f => by
    refine ⟨box_at w n p 34 (((Fr.refl _ _).alloc _).seq' f), ?_⟩
    have := box_at (w.alloc (.cells #[.int .i64 n.lev, .int .i64 n.lsn, .int .i64 n.rgt, .string n.high, .slice p.k n.keys.length p.kc, .slice p.v n.vals.length p.vc, .slice p.i n.kids.length p.ic] 34)) n q 34 f
    simpa using this
  have HB := hba
  have HBB : Hid (∀ W, Fr (fun _ => False) ((w.alloc (.cells #[.int .i64 n.lev, .int .i64 n.lsn, .int .i64 n.rgt, .string n.high, .slice p.k n.keys.length p.kc, .slice p.v n.vals.length p.vc, .slice p.i n.kids.length p.ic] 34)).alloc (.cells #[.int .i64 n.lev, .int .i64 n.lsn, .int .i64 n.rgt, .string n.high, .slice q.k n.keys.length q.kc, .slice q.v n.vals.length q.vc, .slice q.i n.kids.length q.ic] 34)) W → W.heap[w.heap.size]? = some (.cells #[.int .i64 n.lev, .int .i64 n.lsn, .int .i64 n.rgt, .string n.high, .slice p.k n.keys.length p.kc, .slice p.v n.vals.length p.vc, .slice p.i n.kids.length p.ic] 34 (0, 0)) ∧ W.heap[w.heap.size + 1]? = some (.cells #[.int .i64 n.lev, .int .i64 n.lsn, .int .i64 n.rgt, .string n.high, .slice q.k n.keys.length q.kc, .slice q.v n.vals.length q.vc, .slice q.i n.kids.length q.ic] 34 (0, 0))) := hba
  clear hba HB
  go_enter Tryz.func10, Tryz.ntmps10
  go_wp2_with fail
  refine (texts_same _ _ _ _ _ _ n.keys rfl rfl _ (h1.same f0).keys (h2.same f0).keys).mono ?_
  rintro e w1 ⟨rfl, f1⟩
  obtain ⟨b1, b2⟩ := HBB.out w1 f1
  obtain ⟨c0, c1, c2, c3, c4, c5, c6⟩ := box_cells b1
  obtain ⟨d0, d1, d2, d3, d4, d5, d6⟩ := box_cells b2
  go_wp2_with fail
  refine (texts_same _ _ _ _ _ _ n.vals rfl rfl _ (h1.same (f0.seq' f1)).vals (h2.same (f0.seq' f1)).vals).mono ?_
  rintro e w2 ⟨rfl, f2⟩
  clear c0 c1 c2 c3 c4 c5 c6 d0 d1 d2 d3 d4 d5 d6 b1 b2
  obtain ⟨b1, b2⟩ := HBB.out w2 (f1.seq' f2)
  obtain ⟨c0, c1, c2, c3, c4, c5, c6⟩ := box_cells b1
  obtain ⟨d0, d1, d2, d3, d4, d5, d6⟩ := box_cells b2
  go_wp2_with fail
  refine (ints_same _ _ _ _ _ _ n.kids rfl rfl _ (h1.same ((f0.seq' f1).seq' f2)).kids (h2.same ((f0.seq' f1).seq' f2)).kids).mono ?_
  rintro e w3 ⟨rfl, f3⟩
  go_wp2
  go_ret
  exact ⟨rfl, ((f0.seq' f1).seq' f2).seq' f3⟩
end Go.Proofs.YtlgceleelhppdaaGreat

/- A record is done once. -/
namespace Go.Proofs.YtlgceleelhppdaaGreat
open Go.RowKit

def sn0 : Nd := ⟨0, 4, 0, ⟨#[]⟩, [], [], []⟩
def sn1 : Nd := ⟨0, 5, 0, ⟨#[]⟩, [⟨#[97]⟩], [⟨#[120]⟩], []⟩
def sr5 : Rec := ⟨5, 0, 2, 1, 0, 0, ⟨#[97]⟩, ⟨#[120]⟩⟩
theorem s_ap1 : apN sn0 true sr5 = sn1 ∧ apD sn0 true sr5 = true ∧ apE sn0 true sr5 = 0 := by
  refine ⟨?_, ?_, ?_⟩ <;> kernel_rfl
theorem s_ap2 : apN sn1 true sr5 = sn1 ∧ apD sn1 true sr5 = false ∧ apE sn1 true sr5 = 0 := by
  refine ⟨?_, ?_, ?_⟩ <;> kernel_rfl
theorem sn0_nod (w : World) : Nod w sn0 zp := ⟨⟨Nat.le_refl _, by simp [zp], (fun s hs => by cases hs), .inl rfl⟩, ⟨Nat.le_refl _, by simp [zp], (fun s hs => by cases hs), .inl rfl⟩, ⟨Nat.le_refl _, by simp [zp], .inl rfl⟩, by decide, (fun s hs => by cases hs), (fun s hs => by cases hs), by simp [sn0], by simp [sn0], by simp [sn0]⟩
theorem s_call1 (w : World) : Calls Tryz.prog 23 #[.agg #[.int .i64 0, .int .i64 4, .int .i64 0, .string ⟨#[]⟩, .slice none 0 0, .slice none 0 0, .slice none 0 0], .bool true, .agg #[.int .i64 5, .int .i64 0, .int .i64 2, .int .i64 1, .int .i64 0, .int .i64 0, .string ⟨#[97]⟩, .string ⟨#[120]⟩]] w fun e w' => ∃ q : Pt, e = .returned (.tuple #[.agg #[.int .i64 0, .int .i64 5, .int .i64 0, .string ⟨#[]⟩, .slice q.k 1 q.kc, .slice q.v 1 q.vc, .slice q.i 0 q.ic], .bool true, .int .i64 0]) ∧ Nod w' sn1 q ∧ Fr (fun _ => False) w w' ∧ Nw w q := by
  have h := apply_any sn0 zp true sr5 (by decide) (by decide) w (sn0_nod w)
  rw [s_ap1.1, s_ap1.2.1, s_ap1.2.2] at h
  exact h
theorem s_call2 (q : Pt) (w : World) (hn : Nod w sn1 q) : Calls Tryz.prog 23 #[.agg #[.int .i64 0, .int .i64 5, .int .i64 0, .string ⟨#[]⟩, .slice q.k 1 q.kc, .slice q.v 1 q.vc, .slice q.i 0 q.ic], .bool true, .agg #[.int .i64 5, .int .i64 0, .int .i64 2, .int .i64 1, .int .i64 0, .int .i64 0, .string ⟨#[97]⟩, .string ⟨#[120]⟩]] w fun e w' => ∃ q : Pt, e = .returned (.tuple #[.agg #[.int .i64 0, .int .i64 5, .int .i64 0, .string ⟨#[]⟩, .slice q.k 1 q.kc, .slice q.v 1 q.vc, .slice q.i 0 q.ic], .bool false, .int .i64 0]) ∧ Nod w' sn1 q ∧ Fr (fun _ => False) w w' ∧ Nw w q := by
  have h := apply_any sn1 q true sr5 (by decide) (by decide) w hn
  rw [s_ap2.1, s_ap2.2.1, s_ap2.2.2] at h
  exact h
theorem s_plain (p q : Pt) (w : World) (h1 : Nod w sn1 p) (h2 : Nod w sn1 q) : Calls Tryz.prog 10 #[.agg #[.int .i64 0, .int .i64 5, .int .i64 0, .string ⟨#[]⟩, .slice p.k 1 p.kc, .slice p.v 1 p.vc, .slice p.i 0 p.ic], .agg #[.int .i64 0, .int .i64 5, .int .i64 0, .string ⟨#[]⟩, .slice q.k 1 q.kc, .slice q.v 1 q.vc, .slice q.i 0 q.ic]] w fun e w' => e = .returned (.bool true) ∧ Fr (fun _ => False) w w' := plain_same sn1 p q w h1 h2
set_option maxRecDepth 100000 in
set_option maxHeartbeats 4000000 in
theorem dspeaks_any (w : World) : Calls Tryz.prog 11 #[] w fun e w' => e = .returned (.bool true) ∧ Fr (fun _ => False) w w' := by
  have f0 := Fr.box w (.cells #[.int .i64 5, .int .i64 0, .int .i64 2, .int .i64 1, .int .i64 0, .int .i64 0, .string ⟨#[97]⟩, .string ⟨#[120]⟩] 48)
  have hb0 := heap_alloc_new w (.cells #[.int .i64 5, .int .i64 0, .int .i64 2, .int .i64 1, .int .i64 0, .int .i64 0, .string ⟨#[97]⟩, .string ⟨#[120]⟩] 48)
  obtain ⟨⟨r0, r1, r2, r3, r4, r5, r6, r7⟩, _⟩ := rec_cells hb0
  go_enter Tryz.func11, Tryz.ntmps11
  go_wp2_with fail
  refine (s_call1 _).mono ?_
  rintro e w1 ⟨p, rfl, nd1, f1, _⟩
  clear r0 r1 r2 r3 r4 r5 r6 r7
  have fa := Fr.box w1 (.cells #[.int .i64 0, .int .i64 5, .int .i64 0, .string ⟨#[]⟩, .slice p.k 1 p.kc, .slice p.v 1 p.vc, .slice p.i 0 p.ic] 34)
  have hA := heap_alloc_new w1 (.cells #[.int .i64 0, .int .i64 5, .int .i64 0, .string ⟨#[]⟩, .slice p.k 1 p.kc, .slice p.v 1 p.vc, .slice p.i 0 p.ic] 34)
  have hb1 := fa.blk (f1.blk hb0 (fun f => f)) (fun f => f)
  obtain ⟨⟨r0, r1, r2, r3, r4, r5, r6, r7⟩, _⟩ := rec_cells hb1
  obtain ⟨⟨a0, a1, a2, a3, a4, a5, a6⟩, _⟩ := node_cells hA
  go_wp2_with fail
  refine (s_call2 p _ (nd1.same fa)).mono ?_
  rintro e w2 ⟨q, rfl, nd2, f2, _⟩
  clear r0 r1 r2 r3 r4 r5 r6 r7 a0 a1 a2 a3 a4 a5 a6
  have fc := Fr.box w2 (.cells #[.int .i64 0, .int .i64 5, .int .i64 0, .string ⟨#[]⟩, .slice q.k 1 q.kc, .slice q.v 1 q.vc, .slice q.i 0 q.ic] 34)
  have hA2 := fc.blk (f2.blk hA (fun f => f)) (fun f => f)
  obtain ⟨⟨a0, a1, a2, a3, a4, a5, a6⟩, _⟩ := node_cells hA2
  obtain ⟨⟨b0, b1, b2, b3, b4, b5, b6⟩, _⟩ := node_cells (heap_alloc_new w2 (.cells #[.int .i64 0, .int .i64 5, .int .i64 0, .string ⟨#[]⟩, .slice q.k 1 q.kc, .slice q.v 1 q.vc, .slice q.i 0 q.ic] 34))
  have nd1' := ((nd1.same fa).same f2).same fc
  have nd2' := nd2.same fc
  go_wp2_with fail
  refine (s_plain p q _ nd1' nd2').mono ?_
  rintro e w3 ⟨rfl, f3⟩
  go_wp2
  go_ret
  exact ⟨rfl, ((((f0.seq' f1).seq' fa).seq' f2).seq' fc).seq' f3⟩
end Go.Proofs.YtlgceleelhppdaaGreat

/- A record that came in. -/
namespace Go.Proofs.YtlgceleelhppdaaGreat
open Go.ChangeShapes Go.WideShapes Go.ChangeAt Go.RowKit

theorem rcellsI : Tryz.prog.cellsOf 3 = 1 := by kernel_rfl
theorem rcellsS : Tryz.prog.cellsOf 9 = 1 := by kernel_rfl
theorem rcellsR : Tryz.prog.cellsOf 48 = 8 := by kernel_rfl
theorem array8 {α : Type} {cs : Array α} (h : cs.size = 8) : ∃ c0 c1 c2 c3 c4 c5 c6 c7, cs = #[c0, c1, c2, c3, c4, c5, c6, c7] := by
  obtain ⟨l⟩ := cs
  match l, h with
  | [c0, c1, c2, c3, c4, c5, c6, c7], _ => exact ⟨c0, c1, c2, c3, c4, c5, c6, c7, rfl⟩
section
variable {H : Type} {enc : TypeId × Value → H} {w : World} {base : Nat} {spare : Nat → Bool} {held : Bool}
set_option maxRecDepth 100000 in
theorem rec_open {r : Reach} {b0 : Nat} {v : Value} {d : DataW H} {pl : List MemPlace} (hv : Value.okWide Tryz.prog w r b0 48 v) (h : DataW.Trod enc Tryz.prog w base spare held 48 v d pl) (hz : ∀ z ∈ d.weights Tryz.prog 48, z ≤ reachBytes) :
    ∃ (r : Rec), v = (.agg #[.int .i64 r.lsn, .int .i64 r.ep, .int .i64 r.kind, .int .i64 r.page, .int .i64 r.other, .int .i64 r.req, .string r.key, .string r.val]) ∧ r.key.size ≤ 140737488351232 ∧ r.val.size ≤ 140737488351232 := by
  obtain ⟨cs, rfl, hsz⟩ := okWide_struct Tryz.underlying48 hv
  obtain ⟨c0, c1, c2, c3, c4, c5, c6, c7, rfl⟩ := array8 (hsz.trans rcellsR)
  obtain ⟨fuel, hf⟩ := h
  obtain ⟨xs, m, _, hx, hl, hlen, hfs⟩ := DataW.trod_struct Tryz.underlying48 hf
  match xs, hlen with
  | [y0, y1, y2, y3, y4, y5, y6, y7], _ =>
    have t0 := hfs 0 _ rfl
    have t1 := hfs 1 _ rfl
    have t2 := hfs 2 _ rfl
    have t3 := hfs 3 _ rfl
    have t4 := hfs 4 _ rfl
    have t5 := hfs 5 _ rfl
    have t6 := hfs 6 _ rfl
    have t7 := hfs 7 _ rfl
    simp [Value.cells, rcellsI, rcellsS] at t0 t1 t2 t3 t4 t5 t6 t7
    have hd : d = .agg [y0.1, y1.1, y2.1, y3.1, y4.1, y5.1, y6.1, y7.1] := by simpa using congrArg Prod.fst hx
    rw [hd] at hz
    simp only [DataW.weights, Tryz.underlying48] at hz
    have z6 : ∀ z ∈ y6.1.weights Tryz.prog 9, z ≤ reachBytes := fun z h => hz z (DataW.weights_mem_each (j := 6) rfl rfl z h)
    have z7 : ∀ z ∈ y7.1.weights Tryz.prog 9, z ≤ reachBytes := fun z h => hz z (DataW.weights_mem_each (j := 7) rfl rfl z h)
    obtain ⟨b0, e0, _, _⟩ := DataW.trod_int Tryz.underlying3 t0
    obtain ⟨b1, e1, _, _⟩ := DataW.trod_int Tryz.underlying3 t1
    obtain ⟨b2, e2, _, _⟩ := DataW.trod_int Tryz.underlying3 t2
    obtain ⟨b3, e3, _, _⟩ := DataW.trod_int Tryz.underlying3 t3
    obtain ⟨b4, e4, _, _⟩ := DataW.trod_int Tryz.underlying3 t4
    obtain ⟨b5, e5, _, _⟩ := DataW.trod_int Tryz.underlying3 t5
    obtain ⟨b6, e6, e6', _⟩ := DataW.trod_string Tryz.underlying9 t6
    obtain ⟨b7, e7, e7', _⟩ := DataW.trod_string Tryz.underlying9 t7
    simp only [List.cons.injEq, and_true] at e0 e1 e2 e3 e4 e5 e6 e7
    subst e0 e1 e2 e3 e4 e5 e6 e7
    rw [e6'] at z6
    rw [e7'] at z7
    have w6 := z6 b6.data.toList.length (by simp [DataW.weights])
    have w7 := z7 b7.data.toList.length (by simp [DataW.weights])
    rw [← Lib.size_eq] at w6 w7
    exact ⟨⟨b0, b1, b2, b3, b4, b5, b6, b7⟩, rfl, by simpa [reachBytes] using w6, by simpa [reachBytes] using w7⟩
end
end Go.Proofs.YtlgceleelhppdaaGreat

/- Lists of records in memory; a slice of records that came in. -/
namespace Go.Proofs.YtlgceleelhppdaaGreat
open Go.ChangeShapes Go.WideShapes Go.ChangeAt Go.RowKit Go.Deep

/-- A record's cells. -/
def recC (r : Rec) : List Value := [.int .i64 r.lsn, .int .i64 r.ep, .int .i64 r.kind, .int .i64 r.page, .int .i64 r.other, .int .i64 r.req, .string r.key, .string r.val]
theorem recC_length (r : Rec) : (recC r).length = 8 := rfl
theorem recC_one (r : Rec) : ∀ u ∈ recC r, u.oneCell' = true := by
  intro u hu
  simp only [recC, List.mem_cons, List.not_mem_nil, or_false] at hu
  rcases hu with h | h | h | h | h | h | h | h <;> (subst h; rfl)
theorem rec_range {w : World} {b o : Nat} {r : Rec} (h : w.rangeAt b o (recC r)) : w.cell? ⟨b, o, none⟩ = some (.int .i64 r.lsn) ∧ w.cell? ⟨b, o + 1, none⟩ = some (.int .i64 r.ep) ∧ w.cell? ⟨b, o + 2, none⟩ = some (.int .i64 r.kind) ∧ w.cell? ⟨b, o + 3, none⟩ = some (.int .i64 r.page) ∧ w.cell? ⟨b, o + 4, none⟩ = some (.int .i64 r.other) ∧ w.cell? ⟨b, o + 5, none⟩ = some (.int .i64 r.req) ∧ w.cell? ⟨b, o + 6, none⟩ = some (.string r.key) ∧ w.cell? ⟨b, o + 7, none⟩ = some (.string r.val) :=
  ⟨h 0 _ rfl, h 1 _ rfl, h 2 _ rfl, h 3 _ rfl, h 4 _ rfl, h 5 _ rfl, h 6 _ rfl, h 7 _ rfl⟩
/-- A slice of records as a walk sees it. -/
structure Recs (w : World) (a : Option Addr) (cap : Nat) (ls : List Rec) : Prop where
  le : ls.length ≤ cap
  max : cap ≤ 9223372036854775807
  at_ : ls = [] ∨ ∃ b off, a = some ⟨b, off, none⟩ ∧ b < w.heap.size ∧ ∀ i r, ls[i]? = some r → w.rangeAt b (off + i * 8) (recC r)
theorem Recs.same {w w' : World} {a : Option Addr} {cap : Nat} {ls : List Rec} (h : Recs w a cap ls) (f : Fr (fun _ => False) w w') : Recs w' a cap ls := by
  refine ⟨h.le, h.max, ?_⟩
  rcases h.at_ with h0 | ⟨b, off, rfl, hb, hc⟩
  · exact .inl h0
  · exact .inr ⟨b, off, rfl, Nat.lt_of_lt_of_le hb f.size, fun i r hr => range_fr (hc i r hr) f (fun f => f)⟩
theorem Recs.some {w : World} {a : Option Addr} {cap : Nat} {ls : List Rec} (h : Recs w a cap ls) (hn : 0 < ls.length) : ∃ b off, a = some ⟨b, off, none⟩ ∧ b < w.heap.size ∧ ∀ i r, ls[i]? = some r → w.rangeAt b (off + i * 8) (recC r) := by
  rcases h.at_ with h0 | h
  · rw [h0] at hn; simp at hn
  · exact h

def rec0 : Rec := ⟨0, 0, 0, 0, 0, 0, ⟨#[]⟩, ⟨#[]⟩⟩
section
variable {H : Type} {enc : TypeId × Value → H} {w : World}
set_option maxRecDepth 100000 in
/-- A record's eight cells that came in. -/
theorem rec_in {fuel : Nat} {cs : List Value} {x : DataW H × List MemPlace} (hlen : cs.length = 8) (h : DataW.trod enc Tryz.prog w 0 (fun _ => true) true fuel 48 cs = some x) : ∃ r : Rec, cs = recC r := by
  obtain ⟨xs, n', _, _, _, hxl, hfl⟩ := DataW.trod_struct Tryz.underlying48 h
  have t0 := hfl 0 _ rfl
  have t1 := hfl 1 _ rfl
  have t2 := hfl 2 _ rfl
  have t3 := hfl 3 _ rfl
  have t4 := hfl 4 _ rfl
  have t5 := hfl 5 _ rfl
  have t6 := hfl 6 _ rfl
  have t7 := hfl 7 _ rfl
  match xs, hxl with
  | [y0, y1, y2, y3, y4, y5, y6, y7], _ =>
  match cs, hlen with
  | [c0, c1, c2, c3, c4, c5, c6, c7], _ =>
    simp [rcellsI, rcellsS] at t0 t1 t2 t3 t4 t5 t6 t7
    obtain ⟨b0, e0, _, _⟩ := DataW.trod_int Tryz.underlying3 t0
    obtain ⟨b1, e1, _, _⟩ := DataW.trod_int Tryz.underlying3 t1
    obtain ⟨b2, e2, _, _⟩ := DataW.trod_int Tryz.underlying3 t2
    obtain ⟨b3, e3, _, _⟩ := DataW.trod_int Tryz.underlying3 t3
    obtain ⟨b4, e4, _, _⟩ := DataW.trod_int Tryz.underlying3 t4
    obtain ⟨b5, e5, _, _⟩ := DataW.trod_int Tryz.underlying3 t5
    obtain ⟨b6, e6, _, _⟩ := DataW.trod_string Tryz.underlying9 t6
    obtain ⟨b7, e7, _, _⟩ := DataW.trod_string Tryz.underlying9 t7
    simp only [List.cons.injEq, and_true] at e0 e1 e2 e3 e4 e5 e6 e7
    subst e0 e1 e2 e3 e4 e5 e6 e7
    exact ⟨⟨b0, b1, b2, b3, b4, b5, b6, b7⟩, rfl⟩
set_option maxRecDepth 100000 in
theorem recs_open {fuel len cap : Nat} {a : Option Addr} {d : DataW H} {p : List MemPlace} 
    (h : DataW.trod enc Tryz.prog w 0 (fun _ => true) true fuel 23 [.slice a len cap] = some (d, p)) :
    ∃ ls : List Rec, len = ls.length ∧ Recs w a cap ls ∧ (d = .nil ∧ ls = [] ∨ ∃ elems spare, d = .slice elems spare ∧ elems.length = ls.length) := by
  rcases open_slice Tryz.underlying23 h with ⟨hcs, hx⟩ | ⟨x, l, c, m, n, D, Pl, hcs, _, hl, hm, hmm, hx, heach⟩
  · simp at hcs
    obtain ⟨rfl, rfl, rfl⟩ := hcs
    simp only [Prod.mk.injEq] at hx
    exact ⟨[], rfl, ⟨Nat.le_refl _, by omega, .inl rfl⟩, .inl ⟨hx.1, rfl⟩⟩
  · simp at hcs
    obtain ⟨rfl, rfl, rfl⟩ := hcs
    simp only [if_true] at hmm
    subst hmm
    rw [rcellsR] at heach
    have each : ∀ i, i < m → ∃ r : Rec, ∀ j v, (recC r)[j]? = some v → w.cell? (x.add (i * 8 + j)) = some v := by
      intro i hi
      obtain ⟨cs', hc, ht'⟩ := heach i hi
      obtain ⟨_, hlen, hcell⟩ := World.cells?_some hc
      obtain ⟨r, hr⟩ := rec_in hlen ht'
      refine ⟨r, fun j v hv => ?_⟩
      have hj : j < 8 := by have := (List.getElem?_eq_some_iff.1 hv).1; rwa [recC_length] at this
      have z := hcell j (by omega)
      rw [add_add] at z
      rw [z, hr]
      exact hv
    have inh : Inhabited Rec := ⟨rec0⟩
    obtain ⟨f, hf⟩ := choose_lt (α := Rec) each
    have hget : ∀ i s, ((List.range len).map f)[i]? = some s → i < len ∧ s = f i := by
      intro i s hs
      have hi : i < len := by have := (List.getElem?_eq_some_iff.1 hs).1; simpa using this
      refine ⟨hi, ?_⟩
      simp [hi] at hs
      exact hs.symm
    refine ⟨(List.range len).map f, by simp, ⟨by simpa using hl, by unfold maxLen at hm; omega, ?_⟩, .inr ?_⟩
    · by_cases h0 : len = 0
      · exact .inl (by simp [h0])
      · obtain ⟨b, off, spot⟩ := x
        have hc := hf 0 (by omega) 0 _ rfl
        have hspot : spot = none := by simpa [Addr.add] using World.cell?_spot hc
        subst hspot
        refine .inr ⟨b, off, rfl, World.block_lt_of_cell? w ⟨b, off + (0 * 8 + 0), none⟩ (by rw [Addr.add_lit] at hc; exact hc), fun i s hs => ?_⟩
        obtain ⟨hi, rfl⟩ := hget i s hs
        intro j v hv
        have := hf i (by omega) j v hv
        rw [Addr.add_lit, ← Nat.add_assoc] at this
        exact this
    · simp only [Prod.mk.injEq] at hx
      exact ⟨_, _, hx.1, by simp⟩
end
end Go.Proofs.YtlgceleelhppdaaGreat

/- Pages with their nodes in memory. -/
namespace Go.Proofs.YtlgceleelhppdaaGreat
open Go.RowKit

/-- A page and its node, and where the node's lists lie. -/
structure Sl where
  page : Int
  nd : Nd
  pt : Pt
def slC (s : Sl) : List Value := [.int .i64 s.page, .int .i64 s.nd.lev, .int .i64 s.nd.lsn, .int .i64 s.nd.rgt, .string s.nd.high, .slice s.pt.k s.nd.keys.length s.pt.kc, .slice s.pt.v s.nd.vals.length s.pt.vc, .slice s.pt.i s.nd.kids.length s.pt.ic]
theorem slC_length (s : Sl) : (slC s).length = 8 := rfl
theorem slC_one (s : Sl) : ∀ u ∈ slC s, u.oneCell' = true := by
  intro u hu
  simp only [slC, List.mem_cons, List.not_mem_nil, or_false] at hu
  rcases hu with h | h | h | h | h | h | h | h <;> (subst h; rfl)
theorem sl_range {w : World} {b o : Nat} {s : Sl} (h : w.rangeAt b o (slC s)) : w.cell? ⟨b, o, none⟩ = some (.int .i64 s.page) ∧ w.cell? ⟨b, o + 1, none⟩ = some (.int .i64 s.nd.lev) ∧ w.cell? ⟨b, o + 2, none⟩ = some (.int .i64 s.nd.lsn) ∧ w.cell? ⟨b, o + 3, none⟩ = some (.int .i64 s.nd.rgt) ∧ w.cell? ⟨b, o + 4, none⟩ = some (.string s.nd.high) ∧ w.cell? ⟨b, o + 5, none⟩ = some (.slice s.pt.k s.nd.keys.length s.pt.kc) ∧ w.cell? ⟨b, o + 6, none⟩ = some (.slice s.pt.v s.nd.vals.length s.pt.vc) ∧ w.cell? ⟨b, o + 7, none⟩ = some (.slice s.pt.i s.nd.kids.length s.pt.ic) :=
  ⟨h 0 _ rfl, h 1 _ rfl, h 2 _ rfl, h 3 _ rfl, h 4 _ rfl, h 5 _ rfl, h 6 _ rfl, h 7 _ rfl⟩
/-- A slice of pages as a walk sees it. -/
structure Slots (w : World) (a : Option Addr) (cap : Nat) (ls : List Sl) : Prop where
  le : ls.length ≤ cap
  max : cap ≤ 9223372036854775807
  at_ : ls = [] ∨ ∃ b off, a = some ⟨b, off, none⟩ ∧ b < w.heap.size ∧ ∀ i s, ls[i]? = some s → w.rangeAt b (off + i * 8) (slC s)
  nod : ∀ s ∈ ls, Nod w s.nd s.pt
theorem Slots.same {w w' : World} {a : Option Addr} {cap : Nat} {ls : List Sl} (h : Slots w a cap ls) (f : Fr (fun _ => False) w w') : Slots w' a cap ls := by
  refine ⟨h.le, h.max, ?_, fun s hs => (h.nod s hs).same f⟩
  rcases h.at_ with h0 | ⟨b, off, rfl, hb, hc⟩
  · exact .inl h0
  · exact .inr ⟨b, off, rfl, Nat.lt_of_lt_of_le hb f.size, fun i r hr => range_fr (hc i r hr) f (fun f => f)⟩
theorem Slots.some {w : World} {a : Option Addr} {cap : Nat} {ls : List Sl} (h : Slots w a cap ls) (hn : 0 < ls.length) : ∃ b off, a = some ⟨b, off, none⟩ ∧ b < w.heap.size ∧ ∀ i s, ls[i]? = some s → w.rangeAt b (off + i * 8) (slC s) := by
  rcases h.at_ with h0 | h
  · rw [h0] at hn; simp at hn
  · exact h
/-- Whether pages rise behind a page, up to 4096, and their nodes are right. -/
def ariB : Int → List (Int × Nd) → Bool
  | _, [] => true
  | x, (y, n) :: l => decide (x < y) && decide (y ≤ 4096) && rightB n && ariB y l
def psOf (ls : List Sl) : List (Int × Nd) := ls.map (fun s => (s.page, s.nd))
theorem ari_next {ls : List Sl} {j : Nat} {s : Sl} (x : Int) (h : ls[j]? = some s) : ariB x (psOf (ls.drop j)) = (decide (x < s.page) && decide (s.page ≤ 4096) && rightB s.nd && ariB s.page (psOf (ls.drop (j + 1)))) := by
  have hj := (List.getElem?_eq_some_iff.1 h).1
  rw [List.drop_eq_getElem_cons hj, (List.getElem?_eq_some_iff.1 h).2]
  rfl
set_option maxRecDepth 100000 in
set_option maxHeartbeats 2000000 in
theorem areRight_any (a : Option Addr) (len cap : Nat) (ls : List Sl) (hl : len = ls.length) (w : World) (h : Slots w a cap ls) : Calls Tryz.prog 12 #[.slice a len cap] w fun e w' => e = .returned (.bool (ariB 0 (psOf ls))) ∧ Fr (fun _ => False) w w' := by
  subst hl
  have hle := h.le
  have hmx := h.max
  have HS : Hid (∀ W, Fr (fun _ => False) w W → Slots W a cap ls) := fun W f => h.same f
  clear h
  go_enter Tryz.func12, Tryz.ntmps12
  go_wp2
  go_loopw [8, 3] (fun i t wr => ∃ (k : Nat) (x : Int), k ≤ ls.length ∧ i = .int .i64 k ∧ t = .int .i64 x ∧ Hid (ariB x (psOf (ls.drop k)) = ariB 0 (psOf ls)) ∧ Fr (fun _ => False) w wr) (fun i _ _ => ls.length - (intOf i).toNat)
  case atStart => exact ⟨0, 0, by omega, rfl, rfl, rfl, Fr.refl _ _⟩
  case round =>
    obtain ⟨k, x, hk, rfl, rfl, HE, F⟩ := hrel
    by_cases hlt : k < ls.length
    · obtain ⟨s, hs⟩ : ∃ s, ls[k]? = some s := ⟨_, List.getElem?_eq_getElem hlt⟩
      obtain ⟨b, off, rfl, hb, hc⟩ := (HS.out _ F).some (by omega)
      obtain ⟨q0, q1, q2, q3, q4, q5, q6, q7⟩ := sl_range (hc k s hs)
      have HNX : Hid (ariB x (psOf (ls.drop k)) = (decide (x < s.page) && decide (s.page ≤ 4096) && rightB s.nd && ariB s.page (psOf (ls.drop (k + 1))))) := ari_next x hs
      have hnd := (HS.out _ F).nod s (List.mem_of_getElem? hs)
      have hki : (k : Int) < (ls.length : Int) := by omega
      have FB := F.alloc (.cells #[.int .i64 s.page, .int .i64 s.nd.lev, .int .i64 s.nd.lsn, .int .i64 s.nd.rgt, .string s.nd.high, .slice s.pt.k s.nd.keys.length s.pt.kc, .slice s.pt.v s.nd.vals.length s.pt.vc, .slice s.pt.i s.nd.kids.length s.pt.ic] 45)
      have hnb := hnd.same (Fr.box wr (.cells #[.int .i64 s.page, .int .i64 s.nd.lev, .int .i64 s.nd.lsn, .int .i64 s.nd.rgt, .string s.nd.high, .slice s.pt.k s.nd.keys.length s.pt.kc, .slice s.pt.v s.nd.vals.length s.pt.vc, .slice s.pt.i s.nd.kids.length s.pt.ic] 45))
      have hck := check_any s.nd s.pt _ hnb
      clear hs hc hnd
      by_cases h1 : x < s.page
      · have d1 : decide (s.page ≤ x) = false := decide_eq_false (by omega)
        by_cases h2 : s.page ≤ 4096
        · have d2 : decide (4096 < s.page) = false := decide_eq_false (by omega)
          rw [decide_eq_true h1, decide_eq_true h2, Bool.true_and, Bool.true_and] at HNX
          cases hr : rightB s.nd
          · rw [epage_no hr] at hck
            have HR : Hid (ariB 0 (psOf ls) = false) := by show _ = _; rw [← HE.out, HNX.out, hr]; rfl
            clear hr h1 h2 HNX
            go_wp2_with fail
            refine hck.mono ?_
            rintro e w1 ⟨rfl, f1⟩
            go_wp2
            go_ret
            exact ⟨ret_bool HR.out.symm, FB.seq' f1⟩
          · rw [epage_yes hr] at hck
            have HR : Hid (ariB s.page (psOf (ls.drop (k + 1))) = ariB 0 (psOf ls)) := by show _ = _; rw [← HE.out, HNX.out, hr]; rfl
            clear hr h1 h2 HNX
            go_wp2_with fail
            refine hck.mono ?_
            rintro e w1 ⟨rfl, f1⟩
            have hbx := f1.blk (heap_alloc_new wr (.cells #[.int .i64 s.page, .int .i64 s.nd.lev, .int .i64 s.nd.lsn, .int .i64 s.nd.rgt, .string s.nd.high, .slice s.pt.k s.nd.keys.length s.pt.kc, .slice s.pt.v s.nd.vals.length s.pt.vc, .slice s.pt.i s.nd.kids.length s.pt.ic] 45)) (fun f => f)
            obtain ⟨⟨e0, e1, e2, e3, e4, e5, e6, e7⟩, _⟩ := rec_cells hbx
            clear q0 q1 q2 q3 q4 q5 q6 q7 hck
            go_wp2
            go_roundw
            case rel => exact ⟨k + 1, s.page, by omega, by go_num, rfl, HR, FB.seq' f1⟩
            case measure => simp [intOf]; omega
        · have d2 : decide (4096 < s.page) = true := decide_eq_true (by omega)
          have HR : Hid (ariB 0 (psOf ls) = false) := by show _ = _; rw [← HE.out, HNX.out, decide_eq_false h2]; simp
          clear h1 h2 HNX
          go_wp2
          go_ret
          exact ⟨ret_bool HR.out.symm, FB⟩
      · have d1 : decide (s.page ≤ x) = true := decide_eq_true (by omega)
        have HR : Hid (ariB 0 (psOf ls) = false) := by show _ = _; rw [← HE.out, HNX.out, decide_eq_false h1]; rfl
        clear h1 HNX
        go_wp2
        go_ret
        exact ⟨ret_bool HR.out.symm, FB⟩
    · have HR : Hid (ariB 0 (psOf ls) = true) := by
        show _ = _
        rw [← HE.out, List.drop_of_length_le (by omega)]; rfl
      go_wp2
      go_ret
      exact ⟨ret_bool HR.out.symm, F⟩
end Go.Proofs.YtlgceleelhppdaaGreat

/- A page more among pages: slices.Insert at elements of eight cells. -/
namespace Go.Proofs.YtlgceleelhppdaaGreat
open Go.RowKit Go.Lib
set_option linter.unusedVariables false

/-- Elements of several cells are copied. -/
theorem run_copyK {P : Program} (w : World) (dT sT ty elem : TypeId) (size : Nat) (b o dLen dCap : Nat) (a : Addr) (sLen sCap : Nat) (cs : List Value)
    (hu : P.underlying dT = some (.slice elem)) (hs : (P.info? elem).map (·.size) = some size) (hn : cs.length = Nat.min sLen dLen * size)
    (hsrc : ∀ j v, cs[j]? = some v → w.cell? (a.add j) = some v) (hc : ∀ j, j < cs.length → (w.cell? ⟨b, o + j, none⟩).isSome = true) (hf : ∀ j, j < cs.length → w.frozen? ⟨b, o + j, none⟩ = false) (h1 : ∀ v ∈ cs, v.oneCell' = true) :
    (Builtin.copy_ #[dT, sT] ty #[.slice (some ⟨b, o, none⟩) dLen dCap, .slice (some a) sLen sCap]).run P w = .ok (goInt (Nat.min sLen dLen)) (w.setCells b o cs) := by
  have hl := run_loadCells_list (P := P) w a cs hsrc
  have hst := run_storeCells_cells (P := P) b o cs 0 w (by simpa using hc) (by simpa using hf) h1
  cases hq : P.info? elem with
  | none => simp [hq] at hs
  | some i =>
    have hi : i.size = size := by simpa [hq] using hs
    simp [Builtin.copy_, run_underlying hu, Builtin.lenOf, Builtin.firstCells, sizeOf, typeInfo, hq, hi, ← hn, hl, hst]
theorem has_shift8 {w : World} {g n cap i : Nat} {cs xs : List Value} (hx : xs.length = 8) (h : Has w 8 (.slice (some ⟨g, 0, none⟩) n cap) n cs) (hroom : n + 1 ≤ cap) (hi : i ≤ n) :
    Has ((w.drew.setCells g (0 + (i + 1) * 8) (cs.drop (i * 8))).setCells g (0 + i * 8) xs) 8 (.slice (some ⟨g, 0, none⟩) (n + 1) cap) (n + 1) (cs.take (i * 8) ++ (xs ++ cs.drop (i * 8))) := by
  have hl : cs.length = n * 8 := h.1
  rcases h.2 with ⟨h2, _⟩ | ⟨g', cap', hv, hg, h1, h2, h3, h4⟩
  · cases h2
  · simp only [Value.slice.injEq, Option.some.injEq, Addr.mk.injEq, and_true, true_and] at hv
    obtain ⟨rfl, rfl⟩ := hv
    have h3d : w.drew.there g 0 (cap * 8) := (World.there_drew _ _ _ _).2 h3
    have h4d : w.drew.rangeAt g 0 cs := h4
    have sub : ∀ {W : World} (o m : Nat), W.there g 0 (cap * 8) → o + m ≤ cap * 8 → W.there g o m := fun o m hh hm j hj => by have := hh (o + j) (by omega); simpa using this
    have t1 : (w.drew.setCells g (0 + (i + 1) * 8) (cs.drop (i * 8))).there g 0 (cap * 8) := World.there_setCells h3d _ _ _
    have a1 : (w.drew.setCells g (0 + (i + 1) * 8) (cs.drop (i * 8))).rangeAt g 0 (cs.take (i * 8)) := World.rangeAt_setCells_apart (cut_range h4d _) g _ _ (.inr (.inl (by simp; omega)))
    have b1 : (w.drew.setCells g (0 + (i + 1) * 8) (cs.drop (i * 8))).rangeAt g (0 + (i + 1) * 8) (cs.drop (i * 8)) := World.rangeAt_setCells_same _ _ _ _ (sub _ _ h3d (by simp; omega))
    have f1 : Fr (fun _ => True) w ((w.drew.setCells g (0 + (i + 1) * 8) (cs.drop (i * 8))).setCells g (0 + i * 8) xs) := Fr.setCells (fun _ => trivial) _ _ (Fr.setCells (fun _ => trivial) _ _ ((Fr.refl _ w).drew))
    generalize w.drew.setCells g (0 + (i + 1) * 8) (cs.drop (i * 8)) = W1 at t1 a1 b1 f1 ⊢
    have a2 : (W1.setCells g (0 + i * 8) xs).rangeAt g 0 (cs.take (i * 8)) := World.rangeAt_setCells_apart a1 g _ _ (.inr (.inl (by simp; omega)))
    have x2 : (W1.setCells g (0 + i * 8) xs).rangeAt g (0 + i * 8) xs := World.rangeAt_setCells_same _ _ _ _ (sub _ _ t1 (by omega))
    have b2 : (W1.setCells g (0 + i * 8) xs).rangeAt g (0 + (i + 1) * 8) (cs.drop (i * 8)) := World.rangeAt_setCells_apart b1 g _ _ (.inr (.inr (by omega)))
    have hlt : (cs.take (i * 8)).length = i * 8 := by simp; omega
    refine ⟨by simp; omega, .inr ⟨g, cap, rfl, Nat.lt_of_lt_of_le hg f1.size, hroom, h2, World.there_setCells t1 _ _ _, ?_⟩⟩
    refine range_join a2 ?_
    rw [hlt]
    exact range_join (xs := xs) x2 (by rw [hx, show 0 + i * 8 + 8 = 0 + (i + 1) * 8 by omega]; exact b2)
theorem has_grow8 (w : World) (n old i : Nat) (e : TypeId) (z : Value) (hz : z.cells.size = 8) (cs xs : List Value) (hx : xs.length = 8) (hl : cs.length = n * 8) (hi : i < n) (hn : n + 1 ≤ maxLen) :
    Has ((((w.alloc (.cells ((cs.take (i * 8)).toArray ++ Builtin.zeroCells z.cells (n + 1 - i) ++ Builtin.zeroCells z.cells (grownCap w (n + 1) old e - (n + 1))) e)).drew.setCells w.heap.size (i * 8) xs).drew).setCells w.heap.size ((i + 1) * 8) (cs.drop (i * 8))) 8 (.slice (some ⟨w.heap.size, 0, none⟩) (n + 1) (grownCap w (n + 1) old e)) (n + 1) (cs.take (i * 8) ++ (xs ++ cs.drop (i * 8))) := by
  have hge := grownCap_ge w (n + 1) old e
  have hcm : grownCap w (n + 1) old e ≤ maxLen := grownCap_le_maxLen w (n + 1) old e hn
  have hb := heap_alloc_new w (.cells ((cs.take (i * 8)).toArray ++ Builtin.zeroCells z.cells (n + 1 - i) ++ Builtin.zeroCells z.cells (grownCap w (n + 1) old e - (n + 1))) e)
  have hlt : (cs.take (i * 8)).length = i * 8 := by simp; omega
  have t0 : (w.alloc (.cells ((cs.take (i * 8)).toArray ++ Builtin.zeroCells z.cells (n + 1 - i) ++ Builtin.zeroCells z.cells (grownCap w (n + 1) old e - (n + 1))) e)).drew.there w.heap.size 0 (grownCap w (n + 1) old e * 8) := by
    refine (World.there_drew _ _ _ _).2 (there_block hb ?_)
    simp only [Array.size_append, List.size_toArray, hlt, size_zeroCells, hz]; omega
  have r0 : (w.alloc (.cells ((cs.take (i * 8)).toArray ++ Builtin.zeroCells z.cells (n + 1 - i) ++ Builtin.zeroCells z.cells (grownCap w (n + 1) old e - (n + 1))) e)).drew.rangeAt w.heap.size 0 (cs.take (i * 8)) := by
    refine range_block (w := (w.alloc _).drew) (by exact hb) (fun j u hu => ?_)
    have hj : j < (cs.take (i * 8)).length := (List.getElem?_eq_some_iff.1 hu).1
    rw [Nat.zero_add, Array.getElem?_append_left (by simp only [Array.size_append, List.size_toArray, hlt, size_zeroCells, hz]; omega), Array.getElem?_append_left (by simpa using hj)]
    simpa using hu
  have sz0 : w.heap.size < (w.alloc (.cells ((cs.take (i * 8)).toArray ++ Builtin.zeroCells z.cells (n + 1 - i) ++ Builtin.zeroCells z.cells (grownCap w (n + 1) old e - (n + 1))) e)).drew.heap.size := by simp
  generalize (w.alloc (.cells ((cs.take (i * 8)).toArray ++ Builtin.zeroCells z.cells (n + 1 - i) ++ Builtin.zeroCells z.cells (grownCap w (n + 1) old e - (n + 1))) e)).drew = W0 at t0 r0 sz0 ⊢
  generalize w.heap.size = g at t0 r0 sz0 ⊢
  generalize grownCap w (n + 1) old e = cap at *
  have sub : ∀ {W : World} (o m : Nat), W.there g 0 (cap * 8) → o + m ≤ cap * 8 → W.there g o m := fun o m hh hm j hj => by have := hh (o + j) (by omega); simpa using this
  have t1 : (W0.setCells g (i * 8) xs).drew.there g 0 (cap * 8) := (World.there_drew _ _ _ _).2 (World.there_setCells t0 _ _ _)
  have a1 : (W0.setCells g (i * 8) xs).drew.rangeAt g 0 (cs.take (i * 8)) := World.rangeAt_setCells_apart r0 g _ _ (.inr (.inl (by omega)))
  have x1 : (W0.setCells g (i * 8) xs).drew.rangeAt g (i * 8) xs := World.rangeAt_setCells_same W0 _ _ _ (sub _ _ t0 (by omega))
  have f1 : Fr (fun _ => True) W0 ((W0.setCells g (i * 8) xs).drew.setCells g ((i + 1) * 8) (cs.drop (i * 8))) := Fr.setCells (fun _ => trivial) _ _ (Fr.setCells (fun _ => trivial) _ _ (Fr.refl _ W0)).drew
  generalize (W0.setCells g (i * 8) xs).drew = W1 at t1 a1 x1 f1 ⊢
  have a2 : (W1.setCells g ((i + 1) * 8) (cs.drop (i * 8))).rangeAt g 0 (cs.take (i * 8)) := World.rangeAt_setCells_apart a1 g _ _ (.inr (.inl (by omega)))
  have x2 : (W1.setCells g ((i + 1) * 8) (cs.drop (i * 8))).rangeAt g (i * 8) xs := World.rangeAt_setCells_apart x1 g _ _ (.inr (.inl (by omega)))
  have b2 : (W1.setCells g ((i + 1) * 8) (cs.drop (i * 8))).rangeAt g ((i + 1) * 8) (cs.drop (i * 8)) := World.rangeAt_setCells_same _ _ _ _ (sub _ _ t1 (by simp; omega))
  refine ⟨by simp; omega, .inr ⟨g, cap, rfl, Nat.lt_of_lt_of_le sz0 f1.size, hge, hcm, World.there_setCells t1 _ _ _, ?_⟩⟩
  refine range_join a2 ?_
  rw [hlt, Nat.zero_add]
  exact range_join (xs := xs) x2 (by rw [hx, show i * 8 + 8 = (i + 1) * 8 by omega]; exact b2)
end Go.Proofs.YtlgceleelhppdaaGreat
