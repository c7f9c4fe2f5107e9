
/- Answer: what an operation gives of entries, or why nothing. -/
import Derived.Test.YtdlnflcjodpkiaaGreatFdIsM
import Derived.Test.YtdlnflcjodpkiaaGreatFdRGiv2
namespace Go.Proofs.YtdlnflcjodpkiaaGreat
open Go.RowKit Go.Shelf

def rs0 : Rs := ⟨false, ⟨#[]⟩, []⟩
def AnsOut (w : World) (r : Rs) (err : Int) (e : Ending) (w' : World) : Prop := ∃ a c, e = .returned (.tuple #[.agg #[.bool r.found, .string r.val, .slice a r.ents.length c], .int .i64 err]) ∧ Ens w' a c r.ents ∧ (∀ b off, a = some ⟨b, off, none⟩ → w.heap.size ≤ b) ∧ Fr (fun _ => False) w w'
def ansR (L : List En) (o : Opn) : Rs := if mapB L = true ∧ kindB o.kind = true then givF o L else rs0
def ansE (L : List En) (o : Opn) : Int := if mapB L = false then 4 else if kindB o.kind = false then 1 else 0
/-- given over slices.Values. -/
theorem given_vals (o : Opn) (hok : o.key.size ≤ maxLen) (hov : o.val.size ≤ maxLen) (a : Option Addr) (n c : Nat) (L : List En) (hn : n = L.length) (hL : n * 32 ≤ 140737488355328) (hsm : ∀ e ∈ L, e.1.size ≤ maxLen) (w : World) (h : Ens w a c L) (W : World) (hW : Fr (fun _ => False) (w.alloc (.cells #[.slice a n c] 24)) W) :
    Calls Tryz.prog 48 #[.agg #[.int .i64 o.kind, .string o.key, .string o.val], .func (.func 80) #[] #[.pointer (some ⟨w.heap.size, 0, none⟩)]] W fun e w' => RsOut W (givF o L) e w' := by
  have f0 := (Fr.box w (.cells #[.slice a n c] 24)).seq' hW
  have hb := hW.blk (heap_alloc_new w (.cells #[.slice a n c] 24)) (fun f => f)
  have hE := h.same f0
  have keep : ∀ {V : World}, Fr (fun k => ¬ (fun k => k < W.heap.size) k) W V → Fr (fun _ => False) W V := fun f => ⟨f.os, f.tape, f.output, f.size, fun k hk _ => f.block k hk (fun e => e hk)⟩
  have hit := values_iter a n c L hn w.heap.size (fun k => k < W.heap.size) W (fun V f => hE.same (keep f)) (fun V f => (one_cells ((keep f).blk hb (fun f => f))).1)
  exact given_any o hok hov 80 #[.pointer (some ⟨w.heap.size, 0, none⟩)] (enters_of Tryz.func80 (by kernel_rfl) rfl) (fun k => k < W.heap.size) _ L (by omega) hsm W W (fun pre y V h => h) hit (Fr.refl _ _) (fun k h => h)
theorem two_new (w : World) (A B : Obj) : ((w.alloc A).alloc B).heap[w.heap.size]? = some A ∧ ((w.alloc A).alloc B).heap[w.heap.size + 1]? = some B := by
  refine ⟨?_, ?_⟩
  · exact ((Fr.refl (fun _ => False) _).alloc _).blk (heap_alloc_new w _) (fun f => f)
  · have h1 := heap_alloc_new (w.alloc A) B
    rwa [show (w.alloc A).heap.size = w.heap.size + 1 by simp] at h1
theorem set_fr (W : World) (B : Nat) (u0 u1 u2 : Value) : Fr (fun q => q = B) W (((W.setCell ⟨B, 0, none⟩ u0).setCell ⟨B, 1, none⟩ u1).setCell ⟨B, 2, none⟩ u2) := (((Fr.refl (fun q => q = B) W).setCell (p := ⟨B, 0, none⟩) (fun _ => rfl) _).setCell (p := ⟨B, 1, none⟩) (fun _ => rfl) _).setCell (p := ⟨B, 2, none⟩) (fun _ => rfl) _
set_option maxRecDepth 100000 in
set_option maxHeartbeats 4000000 in
theorem answer_yes (o : Opn) (hok : o.key.size ≤ maxLen) (hov : o.val.size ≤ maxLen) (a : Option Addr) (n c : Nat) (L : List En) (hn : n = L.length) (hL : n * 32 ≤ 140737488355328) (hm : mapB L = true) (hk : kindB o.kind = true) (w : World) (h : Ens w a c L) :
    Calls Tryz.prog 20 #[.slice a n c, .agg #[.int .i64 o.kind, .string o.key, .string o.val]] w fun e w' => AnsOut w (givF o L) 0 e w' := by
  have him := fun W (f : Fr (fun _ => False) w W) => isMap_any a n c L hn W (h.same f)
  rw [hm] at him
  have hik := isKind_any o.kind
  rw [hk] at hik
  have HGV : Hid (∀ W, Fr (fun _ => False) w W → ∀ W2, Fr (fun _ => False) (W.alloc (.cells #[.slice a n c] 24)) W2 → Calls Tryz.prog 48 #[.agg #[.int .i64 o.kind, .string o.key, .string o.val], .func (.func 80) #[] #[.pointer (some ⟨W.heap.size, 0, none⟩)]] W2 fun e w' => RsOut W2 (givF o L) e w') := fun W f W2 f2 => given_vals o hok hov a n c L hn hL (mapB_ok hm).sml W (h.same f) W2 f2
  obtain ⟨B0, B1⟩ := two_new w (.cells #[.int .i64 o.kind, .string o.key, .string o.val] 35) (.cells #[.bool false, .string ⟨#[]⟩, .slice none 0 0] 37)
  have f0 : Fr (fun _ => False) w ((w.alloc (.cells #[.int .i64 o.kind, .string o.key, .string o.val] 35)).alloc (.cells #[.bool false, .string ⟨#[]⟩, .slice none 0 0] 37)) := ((Fr.refl _ _).alloc _).alloc _
  have hv := values_call a n c
  generalize givF o L = g at *
  obtain ⟨kind, key, val⟩ := o
  dsimp only at *
  clear h hn hL hm hk hok hov
  have h1 := him _ f0
  clear him
  go_enter Tryz.func20, Tryz.ntmps20
  go_wp2_with fail
  generalize (w.alloc (.cells #[.int .i64 kind, .string key, .string val] 35)).alloc (.cells #[.bool false, .string ⟨#[]⟩, .slice none 0 0] 37) = V at *
  refine h1.mono ?_
  rintro e w1 ⟨rfl, f1⟩
  clear h1
  obtain ⟨⟨d0, d1, d2⟩, _⟩ := three_cells (f1.blk B0 (fun f => f))
  go_wp2_with (go_at_call 47; refine (hik _).mono ?_; rintro e w' ⟨rfl, hw⟩; have hw2 := hw.symm; clear hw; subst hw2)
  have HF1 : Hid (Fr (fun _ => False) w w1.drew) := (f0.seq' f1).drew
  have q0 : w1.drew.cell? ⟨w.heap.size, 0, none⟩ = some (.int .i64 kind) ∧ w1.drew.cell? ⟨w.heap.size, 1, none⟩ = some (.string key) ∧ w1.drew.cell? ⟨w.heap.size, 2, none⟩ = some (.string val) := ⟨d0, d1, d2⟩
  have HQ : Hid (∀ W, Fr (fun _ => False) w1.drew W → W.cell? ⟨w.heap.size, 0, none⟩ = some (.int .i64 kind) ∧ W.cell? ⟨w.heap.size, 1, none⟩ = some (.string key) ∧ W.cell? ⟨w.heap.size, 2, none⟩ = some (.string val)) := fun W f => (three_cells (((f1.drew).seq' f).blk B0 (fun f => f))).1
  have HST : Hid (∀ W, Fr (fun _ => False) w1.drew W → ∀ u0 u1 u2, (((W.setCell ⟨w.heap.size + 1, 0, none⟩ u0).setCell ⟨w.heap.size + 1, 1, none⟩ u1).setCell ⟨w.heap.size + 1, 2, none⟩ u2).cell? ⟨w.heap.size, 0, none⟩ = some (.int .i64 kind) ∧ (((W.setCell ⟨w.heap.size + 1, 0, none⟩ u0).setCell ⟨w.heap.size + 1, 1, none⟩ u1).setCell ⟨w.heap.size + 1, 2, none⟩ u2).cell? ⟨w.heap.size, 1, none⟩ = some (.string key) ∧ (((W.setCell ⟨w.heap.size + 1, 0, none⟩ u0).setCell ⟨w.heap.size + 1, 1, none⟩ u1).setCell ⟨w.heap.size + 1, 2, none⟩ u2).cell? ⟨w.heap.size, 2, none⟩ = some (.string val)) := fun W f u0 u1 u2 => (three_cells ((set_fr W (w.heap.size + 1) u0 u1 u2).blk (((f1.drew).seq' f).blk B0 (fun f => f)) (by omega))).1
  have HB : Hid (∀ W, Fr (fun _ => False) w1.drew W → W.heap[w.heap.size + 1]? = some (.cells #[.bool false, .string ⟨#[]⟩, .slice none 0 0] 37 (0, 0))) := fun W f => ((f1.drew).seq' f).blk B1 (fun f => f)
  have HQ1 : Hid ((w1.alloc (.cells #[.slice a n c] 24)).drew.cell? ⟨w.heap.size, 0, none⟩ = some (.int .i64 kind) ∧ (w1.alloc (.cells #[.slice a n c] 24)).drew.cell? ⟨w.heap.size, 1, none⟩ = some (.string key) ∧ (w1.alloc (.cells #[.slice a n c] 24)).drew.cell? ⟨w.heap.size, 2, none⟩ = some (.string val)) := HQ.out _ (Fr.box w1.drew (.cells #[.slice a n c] 24))
  clear d0 d1 d2 f1 f0 B0 B1
  go_region_held3 (fun W => W.cell? ⟨w.heap.size, 0, none⟩ = some (.int .i64 kind) ∧ W.cell? ⟨w.heap.size, 1, none⟩ = some (.string key) ∧ W.cell? ⟨w.heap.size, 2, none⟩ = some (.string val))
    (first | with_reducible exact q0 | with_reducible exact q1 | with_reducible exact q2 | with_reducible exact q3 | fail)
    (first
      | (go_at_call 49; refine (hv _).mono ?_; rintro e w4 ⟨rfl, rfl⟩; have q1 := HQ1.out)
      | (go_at_call 48; refine (HGV.out _ HF1.out _ (Fr.refl _ _)).mono ?_; rintro e w5 ⟨a5, c5, rfl, hE, ho, f5⟩; have q2 := HQ.out _ ((Fr.box w1.drew (.cells #[.slice a n c] 24)).seq' f5); have q3 := HST.out _ ((Fr.box w1.drew (.cells #[.slice a n c] 24)).seq' f5) (.bool g.found) (.string g.val) (.slice a5 g.ents.length c5); have hb5 := HB.out _ ((Fr.box w1.drew (.cells #[.slice a n c] 24)).seq' f5); obtain ⟨⟨g0, g1, g2⟩, z0, z1, z2⟩ := three_cells hb5))
  have hs5 := set_all hb5 (.bool g.found) (.string g.val) (.slice a5 g.ents.length c5)
  obtain ⟨⟨y0, y1, y2⟩, _⟩ := three_cells hs5
  have HOUT : Hid (AnsOut w g 0 (.returned (.tuple #[.agg #[.bool g.found, .string g.val, .slice a5 g.ents.length c5], .int .i64 0])) (((w5.setCell ⟨w.heap.size + 1, 0, none⟩ (.bool g.found)).setCell ⟨w.heap.size + 1, 1, none⟩ (.string g.val)).setCell ⟨w.heap.size + 1, 2, none⟩ (.slice a5 g.ents.length c5))) := by
    have f9 := (HF1.out.seq' (Fr.box w1.drew (.cells #[.slice a n c] 24))).seq' f5
    have hz := HF1.out.size
    have hz1 := lt_of_block (HB.out _ (Fr.refl _ _))
    refine ⟨a5, c5, rfl, hE.fr (set_fr w5 (w.heap.size + 1) _ _ _) (fun b off e => ?_), fun b off e => ?_, f9.trans (set_fr w5 (w.heap.size + 1) _ _ _) (fun i hi e => by omega)⟩
    · have := ho b off e; rw [World.size_alloc] at this; omega
    · have := ho b off e; rw [World.size_alloc] at this; omega
  clear hE ho f5 hb5 hs5 q0 q1 q2 q3 g0 g1 g2 z0 z1 z2
  go_wp2
  refine bodyPost_ret (v := .tuple #[.agg #[.bool g.found, .string g.val, .slice a5 g.ents.length c5], .int .i64 0]) (by simp [results, Tryz.results20, go_sem, y0, y1, y2]) rfl ?_
  exact HOUT.out
end Go.Proofs.YtdlnflcjodpkiaaGreat
