
/- FdGvs2. -/
import Derived.Test.YthdbkanbgfajbaaGreatTB13
/- Whether an operation gives a result of a map. -/
namespace Go.Proofs.YthdbkanbgfajbaaGreat
open Go.RowKit Go.Shelf

/-- given over a map's own iterator. -/
theorem given_rise (o : Opn) (hok : o.key.size ≤ maxLen) (hov : o.val.size ≤ maxLen) (b : Nat) (L : List En) (hL : L.length ≤ 1000000) (Bl : Nat) (W : World) (h : Em W b L) (hb : W.heap[Bl]? = some (.cells #[.map (some b)] 91 (0, 0))) :
    Calls Tryz.prog 64 #[.agg #[.int .i64 o.kind, .string o.key, .string o.val], .func (.func 80) #[] #[.pointer (some ⟨Bl, 0, none⟩)]] W fun e w' => RsOut W (givF o L) e w' := by
  have keep : ∀ {V : World}, Fr (fun k => ¬ (fun k => k < W.heap.size) k) W V → Fr (fun _ => False) W V := fun f => ⟨f.os, f.tape, f.output, f.size, fun k hk _ => f.block k hk (fun e => e hk)⟩
  have hit := rising_iter b L hL Bl (fun k => k < W.heap.size) W (fun V f => h.same (keep f)) (fun V f => (one_cells ((keep f).blk hb (fun f => f))).1)
  exact given_any o hok hov 80 #[.pointer (some ⟨Bl, 0, none⟩)] (enters_of Tryz.func80 (by kernel_rfl) rfl) (fun k => k < W.heap.size) _ L (by omega) h.sml W W (fun pre y V h => h) hit (Fr.refl _ _) (fun k h => h)
theorem size_drew (w : World) : w.drew.heap.size = w.heap.size := rfl
/-- How things stand behind given's answer: the result's block, that of what is asked for. -/
structure Fin (w w1 w5 : World) (G x : Rs) (a5 : Option Addr) (c5 : Nat) (a : Option Addr) (n c B : Nat) (W : World) : Prop where
  fr : Fr (fun _ => False) w W
  ens : Ens W a5 c5 G.ents
  bx : W.heap[w.heap.size + 1]? = some (.cells #[.bool x.found, .string x.val, .slice a n c] 47 (0, 0))
  by_ : W.heap[B]? = some (.cells #[.bool G.found, .string G.val, .slice a5 G.ents.length c5] 47 (0, 0))
theorem fin_new {w w1 w5 : World} {G x : Rs} {a5 a : Option Addr} {c5 n c : Nat} (f1 : Fr (fun _ => False) w w1) (f5 : Fr (fun _ => False) w1 w5) (hE : Ens w5 a5 c5 G.ents) (hb : w5.heap[w.heap.size + 1]? = some (.cells #[.bool x.found, .string x.val, .slice a n c] 47 (0, 0))) : Fin w w1 w5 G x a5 c5 a n c w5.heap.size (w5.alloc (.cells #[.bool G.found, .string G.val, .slice a5 G.ents.length c5] 47)) :=
  ⟨(f1.seq' f5).seq' (Fr.box w5 _), hE.same (Fr.box w5 _), (Fr.box w5 _).blk hb (fun f => f), heap_alloc_new w5 _⟩
theorem fin_old {w w1 w5 : World} {G x : Rs} {a5 a : Option Addr} {c5 n c B : Nat} (f1 : Fr (fun _ => False) w w1) (f5 : Fr (fun _ => False) w1 w5) (hE : Ens w5 a5 c5 G.ents) (hb : w5.heap[w.heap.size + 1]? = some (.cells #[.bool x.found, .string x.val, .slice a n c] 47 (0, 0))) (hY : w5.heap[B]? = some (.cells #[.bool false, .string ⟨#[]⟩, .slice none 0 0] 47 (0, 0))) (h1 : w1.heap.size ≤ B) (h2 : w.heap.size + 1 < w1.heap.size) (ho : ∀ b off, a5 = some ⟨b, off, none⟩ → B < b) : Fin w w1 w5 G x a5 c5 a n c B (((w5.setCell ⟨B, 0, none⟩ (.bool G.found)).setCell ⟨B, 1, none⟩ (.string G.val)).setCell ⟨B, 2, none⟩ (.slice a5 G.ents.length c5)) :=
  ⟨(f1.seq' f5).trans (set_fr w5 B _ _ _) (fun i hi e => by omega), hE.fr (set_fr w5 B _ _ _) (fun b off e => by have := ho b off e; omega), (set_fr w5 B _ _ _).blk hb (by omega), set_all hY _ _ _⟩
set_option maxRecDepth 100000 in
set_option maxHeartbeats 4000000 in
theorem gives_any (o : Opn) (hok : o.key.size ≤ maxLen) (hov : o.val.size ≤ maxLen) (b : Nat) (L : List En) (hL : L.length ≤ 1000000) (hlook : ∀ e ∈ L, lookB o e.1 = true) (x : Rs) (a : Option Addr) (n c : Nat) (hn : n = x.ents.length) (hsm : ∀ e ∈ x.ents, e.1.size ≤ maxLen) (w : World) (h : Em w b L) (r : Ens w a c x.ents) :
    Calls Tryz.prog 54 #[.map (some b), .agg #[.int .i64 o.kind, .string o.key, .string o.val], .agg #[.bool x.found, .string x.val, .slice a n c]] w fun e w' => e = .returned (.bool (sameB (givF o L) x)) ∧ Fr (fun _ => False) w w' := by
  obtain ⟨B0, B1⟩ := two_new w (.cells #[.int .i64 o.kind, .string o.key, .string o.val] 30) (.cells #[.bool x.found, .string x.val, .slice a n c] 47)
  have f0 : Fr (fun _ => False) w ((w.alloc (.cells #[.int .i64 o.kind, .string o.key, .string o.val] 30)).alloc (.cells #[.bool x.found, .string x.val, .slice a n c] 47)) := ((Fr.refl _ _).alloc _).alloc _
  have HJU : Hid (∀ W, Fr (fun _ => False) w W → Calls Tryz.prog 63 #[.map (some b), .slice a n c] W fun e w' => e = .returned (.bool (justB L x.ents)) ∧ Fr (fun _ => False) W w') := fun W f => just_any b L a n c x.ents hn hsm W (h.same f) (r.same f)
  have HGV : Hid (∀ (Bl : Nat) (W : World), Fr (fun _ => False) w W → W.heap[Bl]? = some (.cells #[.map (some b)] 91 (0, 0)) → Calls Tryz.prog 64 #[.agg #[.int .i64 o.kind, .string o.key, .string o.val], .func (.func 80) #[] #[.pointer (some ⟨Bl, 0, none⟩)]] W fun e w' => RsOut W (givF o L) e w') := fun Bl W f hb => given_rise o hok hov b L hL Bl W (h.same f) hb
  have HNJ : Hid (o.kind = 4 → justB L x.ents = false → sameB (givF o L) x = false) := fun hk hj => sameB_just hk hlook hj
  have HX : Hid (∀ W, Fr (fun _ => False) w W → Ens W a c x.ents) := fun W f => r.same f
  have HN : Hid (n = x.ents.length) := hn
  have hri := rising_call b
  obtain ⟨G, hG⟩ : ∃ G, G = givF o L := ⟨_, rfl⟩
  rw [← hG] at HGV HNJ ⊢
  have HSB : Hid (sameB G x = ((G.found == x.found) && ((G.val.toList == x.val.toList) && decide (G.ents = x.ents)))) := rfl
  obtain ⟨j, hj⟩ : ∃ j, j = justB L x.ents := ⟨_, rfl⟩
  rw [← hj] at HJU HNJ
  obtain ⟨kind, key, val⟩ := o
  dsimp only at *
  clear h r hn hsm hlook hL hok hov hG hj
  -- the way behind hasJust
  have HGO : Hid (∀ (tl : Array Value) (w1 : World), True) := fun _ _ => trivial
  by_cases hk : kind = 4
  · subst hk
    cases j with
    | false =>
      have HF : Hid (sameB G x = false) := HNJ.out rfl rfl
      rw [HF.out]
      have hju := HJU.out _ f0
      clear HJU HGV HNJ HSB hri
      go_enter Tryz.func54, Tryz.ntmps54
      go_wp2_with fail
      refine hju.mono ?_
      rintro e w1 ⟨rfl, f1⟩
      clear hju
      go_wp2
      go_ret
      exact ⟨rfl, f0.seq' f1⟩
    | true =>
      have hju := HJU.out _ f0
      clear HJU HNJ
      go_enter Tryz.func54, Tryz.ntmps54
      go_wp2_with fail
      refine hju.mono ?_
      rintro e w1 ⟨rfl, f1⟩
      clear hju
      obtain ⟨⟨d0, d1, d2⟩, _⟩ := three_cells (f1.blk B0 (fun f => f))
      have hz0 := lt_of_block (f1.blk B0 (fun f => f))
      have hz1 := lt_of_block (f1.blk B1 (fun f => f))
      have HF1 : Hid (Fr (fun _ => False) w w1) := f0.seq' f1
      have HB1 : Hid (∀ W, Fr (fun _ => False) w1 W → W.heap[w.heap.size + 1]? = some (.cells #[.bool x.found, .string x.val, .slice a n c] 47 (0, 0))) := fun W f => (f1.seq' f).blk B1 (fun f => f)
      have HQ : Hid (∀ W, Fr (fun _ => False) w1 W → W.cell? ⟨w.heap.size, 0, none⟩ = some (.int .i64 4) ∧ W.cell? ⟨w.heap.size, 1, none⟩ = some (.string key) ∧ W.cell? ⟨w.heap.size, 2, none⟩ = some (.string val)) := fun W f => (three_cells ((f1.seq' f).blk B0 (fun f => f))).1
      have HQS : Hid (∀ W, Fr (fun _ => False) w1 W → ∀ B, w.heap.size < B → ∀ u0 u1 u2, (((W.setCell ⟨B, 0, none⟩ u0).setCell ⟨B, 1, none⟩ u1).setCell ⟨B, 2, none⟩ u2).cell? ⟨w.heap.size, 0, none⟩ = some (.int .i64 4) ∧ (((W.setCell ⟨B, 0, none⟩ u0).setCell ⟨B, 1, none⟩ u1).setCell ⟨B, 2, none⟩ u2).cell? ⟨w.heap.size, 1, none⟩ = some (.string key) ∧ (((W.setCell ⟨B, 0, none⟩ u0).setCell ⟨B, 1, none⟩ u1).setCell ⟨B, 2, none⟩ u2).cell? ⟨w.heap.size, 2, none⟩ = some (.string val)) := fun W f B hB u0 u1 u2 => (three_cells ((set_fr W B u0 u1 u2).blk ((f1.seq' f).blk B0 (fun f => f)) (by omega))).1
      have HQS2 : Hid (∀ W, Fr (fun _ => False) w1 W → ∀ u0 u1 u2, (((W.setCell ⟨w1.heap.size + 1, 0, none⟩ u0).setCell ⟨w1.heap.size + 1, 1, none⟩ u1).setCell ⟨w1.heap.size + 1, 2, none⟩ u2).cell? ⟨w.heap.size, 0, none⟩ = some (.int .i64 4) ∧ (((W.setCell ⟨w1.heap.size + 1, 0, none⟩ u0).setCell ⟨w1.heap.size + 1, 1, none⟩ u1).setCell ⟨w1.heap.size + 1, 2, none⟩ u2).cell? ⟨w.heap.size, 1, none⟩ = some (.string key) ∧ (((W.setCell ⟨w1.heap.size + 1, 0, none⟩ u0).setCell ⟨w1.heap.size + 1, 1, none⟩ u1).setCell ⟨w1.heap.size + 1, 2, none⟩ u2).cell? ⟨w.heap.size, 2, none⟩ = some (.string val)) := fun W f => HQS.out W f _ (by omega)
      have HQS3 : Hid (∀ W, Fr (fun _ => False) w1 W → ∀ u0 u1 u2, (((W.setCell ⟨w1.heap.size, 0, none⟩ u0).setCell ⟨w1.heap.size, 1, none⟩ u1).setCell ⟨w1.heap.size, 2, none⟩ u2).cell? ⟨w.heap.size, 0, none⟩ = some (.int .i64 4) ∧ (((W.setCell ⟨w1.heap.size, 0, none⟩ u0).setCell ⟨w1.heap.size, 1, none⟩ u1).setCell ⟨w1.heap.size, 2, none⟩ u2).cell? ⟨w.heap.size, 1, none⟩ = some (.string key) ∧ (((W.setCell ⟨w1.heap.size, 0, none⟩ u0).setCell ⟨w1.heap.size, 1, none⟩ u1).setCell ⟨w1.heap.size, 2, none⟩ u2).cell? ⟨w.heap.size, 2, none⟩ = some (.string val)) := fun W f => HQS.out W f _ (by omega)
      have HG1 : Hid (Calls Tryz.prog 64 #[.agg #[.int .i64 4, .string key, .string val], .func (.func 80) #[] #[.pointer (some ⟨w1.heap.size, 0, none⟩)]] ((w1.alloc (.cells #[.map (some b)] 91)).drew) fun e w' => RsOut ((w1.alloc (.cells #[.map (some b)] 91)).drew) G e w') := HGV.out _ _ ((HF1.out.seq' (Fr.box w1 _)).drew) (heap_alloc_new w1 _)
      have HG2 : Hid (Calls Tryz.prog 64 #[.agg #[.int .i64 4, .string key, .string val], .func (.func 80) #[] #[.pointer (some ⟨w1.heap.size, 0, none⟩)]] (((w1.alloc (.cells #[.map (some b)] 91)).alloc (.cells #[.bool false, .string ⟨#[]⟩, .slice none 0 0] 47)).drew) fun e w' => RsOut (((w1.alloc (.cells #[.map (some b)] 91)).alloc (.cells #[.bool false, .string ⟨#[]⟩, .slice none 0 0] 47)).drew) G e w') := HGV.out _ _ ((HF1.out.seq' ((Fr.box w1 _).alloc _)).drew) (two_new w1 _ _).1
      have HG3 : Hid (Calls Tryz.prog 64 #[.agg #[.int .i64 4, .string key, .string val], .func (.func 80) #[] #[.pointer (some ⟨w1.heap.size + 1, 0, none⟩)]] (((w1.alloc (.cells #[.bool false, .string ⟨#[]⟩, .slice none 0 0] 47)).alloc (.cells #[.map (some b)] 91)).drew) fun e w' => RsOut (((w1.alloc (.cells #[.bool false, .string ⟨#[]⟩, .slice none 0 0] 47)).alloc (.cells #[.map (some b)] 91)).drew) G e w') := HGV.out _ _ ((HF1.out.seq' ((Fr.box w1 _).alloc _)).drew) (two_new w1 _ _).2
      have HR2 : Hid (∀ W, Fr (fun _ => False) (((w1.alloc (.cells #[.map (some b)] 91)).alloc (.cells #[.bool false, .string ⟨#[]⟩, .slice none 0 0] 47)).drew) W → W.heap[w1.heap.size + 1]? = some (.cells #[.bool false, .string ⟨#[]⟩, .slice none 0 0] 47 (0, 0))) := fun W f => f.blk (two_new w1 _ _).2 (fun f => f)
      have HR3 : Hid (∀ W, Fr (fun _ => False) (((w1.alloc (.cells #[.bool false, .string ⟨#[]⟩, .slice none 0 0] 47)).alloc (.cells #[.map (some b)] 91)).drew) W → W.heap[w1.heap.size]? = some (.cells #[.bool false, .string ⟨#[]⟩, .slice none 0 0] 47 (0, 0))) := fun W f => f.blk (two_new w1 _ _).1 (fun f => f)
      have HFO2 : Hid (∀ w5 a5 c5, Fr (fun _ => False) (((w1.alloc (.cells #[.map (some b)] 91)).alloc (.cells #[.bool false, .string ⟨#[]⟩, .slice none 0 0] 47)).drew) w5 → Ens w5 a5 c5 G.ents → (∀ b9 off, a5 = some ⟨b9, off, none⟩ → (((w1.alloc (.cells #[.map (some b)] 91)).alloc (.cells #[.bool false, .string ⟨#[]⟩, .slice none 0 0] 47)).drew).heap.size ≤ b9) → Fin w w1 w5 G x a5 c5 a n c (w1.heap.size + 1) (((w5.setCell ⟨w1.heap.size + 1, 0, none⟩ (.bool G.found)).setCell ⟨w1.heap.size + 1, 1, none⟩ (.string G.val)).setCell ⟨w1.heap.size + 1, 2, none⟩ (.slice a5 G.ents.length c5))) := fun w5 a5 c5 f5 hE ho => fin_old HF1.out ((((Fr.box w1 _).alloc _).drew).seq' f5) hE (HB1.out _ ((((Fr.box w1 _).alloc _).drew).seq' f5)) (HR2.out _ f5) (by omega) (by omega) (fun b off e => by have := ho b off e; simp only [World.size_alloc, size_drew] at this; omega)
      have HFO3 : Hid (∀ w5 a5 c5, Fr (fun _ => False) (((w1.alloc (.cells #[.bool false, .string ⟨#[]⟩, .slice none 0 0] 47)).alloc (.cells #[.map (some b)] 91)).drew) w5 → Ens w5 a5 c5 G.ents → (∀ b9 off, a5 = some ⟨b9, off, none⟩ → (((w1.alloc (.cells #[.bool false, .string ⟨#[]⟩, .slice none 0 0] 47)).alloc (.cells #[.map (some b)] 91)).drew).heap.size ≤ b9) → Fin w w1 w5 G x a5 c5 a n c w1.heap.size (((w5.setCell ⟨w1.heap.size, 0, none⟩ (.bool G.found)).setCell ⟨w1.heap.size, 1, none⟩ (.string G.val)).setCell ⟨w1.heap.size, 2, none⟩ (.slice a5 G.ents.length c5))) := fun w5 a5 c5 f5 hE ho => fin_old HF1.out ((((Fr.box w1 _).alloc _).drew).seq' f5) hE (HB1.out _ ((((Fr.box w1 _).alloc _).drew).seq' f5)) (HR3.out _ f5) (by omega) (by omega) (fun b off e => by have := ho b off e; simp only [World.size_alloc, size_drew] at this; omega)
      have HQP : Hid (∀ W, Fr (fun _ => False) w1 W → W.cell? ⟨w.heap.size, 0, none⟩ = some (.int .i64 4) ∧ W.cell? ⟨w.heap.size, 1, none⟩ = some (.string key) ∧ W.cell? ⟨w.heap.size, 2, none⟩ = some (.string val)) := HQ.out
      have q0 : w1.drew.cell? ⟨w.heap.size, 0, none⟩ = some (.int .i64 4) ∧ w1.drew.cell? ⟨w.heap.size, 1, none⟩ = some (.string key) ∧ w1.drew.cell? ⟨w.heap.size, 2, none⟩ = some (.string val) := ⟨d0, d1, d2⟩
      have HQA : Hid ((w1.alloc (.cells #[.bool false, .string ⟨#[]⟩, .slice none 0 0] 47)).drew.cell? ⟨w.heap.size, 0, none⟩ = some (.int .i64 4) ∧ (w1.alloc (.cells #[.bool false, .string ⟨#[]⟩, .slice none 0 0] 47)).drew.cell? ⟨w.heap.size, 1, none⟩ = some (.string key) ∧ (w1.alloc (.cells #[.bool false, .string ⟨#[]⟩, .slice none 0 0] 47)).drew.cell? ⟨w.heap.size, 2, none⟩ = some (.string val)) := HQ.out _ ((Fr.box w1 _).drew)
      have HQB : Hid (((w1.alloc (.cells #[.bool false, .string ⟨#[]⟩, .slice none 0 0] 47)).alloc (.cells #[.map (some b)] 91)).drew.cell? ⟨w.heap.size, 0, none⟩ = some (.int .i64 4) ∧ ((w1.alloc (.cells #[.bool false, .string ⟨#[]⟩, .slice none 0 0] 47)).alloc (.cells #[.map (some b)] 91)).drew.cell? ⟨w.heap.size, 1, none⟩ = some (.string key) ∧ ((w1.alloc (.cells #[.bool false, .string ⟨#[]⟩, .slice none 0 0] 47)).alloc (.cells #[.map (some b)] 91)).drew.cell? ⟨w.heap.size, 2, none⟩ = some (.string val)) := HQ.out _ (((Fr.box w1 _).alloc _).drew)
      have HQC : Hid ((w1.alloc (.cells #[.map (some b)] 91)).drew.cell? ⟨w.heap.size, 0, none⟩ = some (.int .i64 4) ∧ (w1.alloc (.cells #[.map (some b)] 91)).drew.cell? ⟨w.heap.size, 1, none⟩ = some (.string key) ∧ (w1.alloc (.cells #[.map (some b)] 91)).drew.cell? ⟨w.heap.size, 2, none⟩ = some (.string val)) := HQ.out _ ((Fr.box w1 _).drew)
      have HQD : Hid (((w1.alloc (.cells #[.map (some b)] 91)).alloc (.cells #[.bool false, .string ⟨#[]⟩, .slice none 0 0] 47)).drew.cell? ⟨w.heap.size, 0, none⟩ = some (.int .i64 4) ∧ ((w1.alloc (.cells #[.map (some b)] 91)).alloc (.cells #[.bool false, .string ⟨#[]⟩, .slice none 0 0] 47)).drew.cell? ⟨w.heap.size, 1, none⟩ = some (.string key) ∧ ((w1.alloc (.cells #[.map (some b)] 91)).alloc (.cells #[.bool false, .string ⟨#[]⟩, .slice none 0 0] 47)).drew.cell? ⟨w.heap.size, 2, none⟩ = some (.string val)) := HQ.out _ (((Fr.box w1 _).alloc _).drew)
      clear f1 f0 B0 B1 HGV
      have HZ1 : Hid (w.heap.size + 1 < w1.heap.size) := hz1
      go_wp2
      clear d0 d1 d2 hz0 hz1 HQS HQ
      go_region_held3 (fun W => W.cell? ⟨w.heap.size, 0, none⟩ = some (.int .i64 4) ∧ W.cell? ⟨w.heap.size, 1, none⟩ = some (.string key) ∧ W.cell? ⟨w.heap.size, 2, none⟩ = some (.string val))
        (first | with_reducible exact q0 | with_reducible exact HQ3.out | with_reducible exact q2 | with_reducible exact HQA.out | with_reducible exact HQB.out | with_reducible exact HQC.out | with_reducible exact HQD.out | with_reducible exact HQ4.out | with_reducible exact HQ6.out | fail)
        (first
          | (go_at_call 65; refine (hri _).mono ?_; rintro e w4 ⟨rfl, rfl⟩)
          | (go_at_call 64; (with_reducible refine HG1.out.mono ?_); rintro e w5 ⟨a5, c5, rfl, hE, ho, f5⟩; have HF5 : Hid (Fr (fun _ => False) w1 w5) := (((Fr.box w1 _).drew).seq' f5); have q2 := HQP.out _ HF5.out; have HQ4 : Hid _ := HQP.out (w5.alloc (.cells #[.bool false, .string ⟨#[]⟩, .slice none 0 0] 47)) (HF5.out.seq' (Fr.box w5 _)); have HQ6 : Hid _ := HQP.out (w5.alloc (.cells #[.bool G.found, .string G.val, .slice a5 G.ents.length c5] 47)) (HF5.out.seq' (Fr.box w5 _)); have HFIN : Hid (Fin w w1 w5 G x a5 c5 a n c w5.heap.size (w5.alloc (.cells #[.bool G.found, .string G.val, .slice a5 G.ents.length c5] 47))) := fin_new HF1.out HF5.out hE (HB1.out _ HF5.out); clear hE ho f5)
          | (go_at_call 64; (with_reducible refine HG3.out.mono ?_); rintro e w5 ⟨a5, c5, rfl, hE, ho, f5⟩; have HF5 : Hid (Fr (fun _ => False) w1 w5) := ((((Fr.box w1 _).alloc _).drew).seq' f5); have q2 := HQP.out _ HF5.out; have hY := HR3.out _ f5; obtain ⟨⟨t0, t1, t2⟩, tz0, tz1, tz2⟩ := three_cells hY; have HQ3 : Hid _ := HQS3.out w5 HF5.out (.bool G.found) (.string G.val) (.slice a5 G.ents.length c5); have HFIN : Hid (Fin w w1 w5 G x a5 c5 a n c (w1.heap.size) (((w5.setCell ⟨w1.heap.size, 0, none⟩ (.bool G.found)).setCell ⟨w1.heap.size, 1, none⟩ (.string G.val)).setCell ⟨w1.heap.size, 2, none⟩ (.slice a5 G.ents.length c5))) := HFO3.out w5 a5 c5 f5 hE ho; clear hE ho f5 hY)
          | (go_at_call 64; (with_reducible refine HG2.out.mono ?_); rintro e w5 ⟨a5, c5, rfl, hE, ho, f5⟩; have HF5 : Hid (Fr (fun _ => False) w1 w5) := ((((Fr.box w1 _).alloc _).drew).seq' f5); have q2 := HQP.out _ HF5.out; have hY := HR2.out _ f5; obtain ⟨⟨t0, t1, t2⟩, tz0, tz1, tz2⟩ := three_cells hY; have HQ3 : Hid _ := HQS2.out w5 HF5.out (.bool G.found) (.string G.val) (.slice a5 G.ents.length c5); have HFIN : Hid (Fin w w1 w5 G x a5 c5 a n c (w1.heap.size + 1) (((w5.setCell ⟨w1.heap.size + 1, 0, none⟩ (.bool G.found)).setCell ⟨w1.heap.size + 1, 1, none⟩ (.string G.val)).setCell ⟨w1.heap.size + 1, 2, none⟩ (.slice a5 G.ents.length c5))) := HFO2.out w5 a5 c5 f5 hE ho; clear hE ho f5 hY))
      all_goals
        have heq := equal_any a5 a G.ents.length n c5 c G.ents x.ents rfl HN.out _ HFIN.out.ens (HX.out _ HFIN.out.fr)
        obtain ⟨⟨x0, x1, x2⟩, _⟩ := three_cells HFIN.out.bx
        obtain ⟨⟨y0, y1, y2⟩, _⟩ := three_cells HFIN.out.by_
        have HFF : Hid (Fr (fun _ => False) w _) := HFIN.out.fr
        obtain ⟨q9, hq9⟩ : ∃ q9, q9 = decide (G.ents = x.ents) := ⟨_, rfl⟩
        rw [← hq9] at heq HSB
        clear hq9 HFIN HG1 HG2 HG3 HR2 HR3 HFO2 HFO3 HQS2 HQS3 HQA HQB HQC HQD
        revert x0 x1 x2 y0 y1 y2 HFF heq
        generalize G.ents.length = m9
        intro x0 x1 x2 y0 y1 y2 HFF heq
        cases e1 : (G.found == x.found) with
        | false =>
          have HR : Hid (sameB G x = false) := by show _ = _; rw [HSB.out, e1]; rfl
          have e1' : decide (G.found = x.found) = false := by rw [← e1]; cases G.found <;> cases x.found <;> rfl
          clear heq
          go_wp2
          go_ret
          exact ⟨ret_bool HR.out.symm, HFF.out⟩
        | true =>
          have e1' : decide (G.found = x.found) = true := by rw [← e1]; cases G.found <;> cases x.found <;> rfl
          cases e2 : (G.val.toList == x.val.toList) with
          | false =>
            have HR : Hid (sameB G x = false) := by show _ = _; rw [HSB.out, e1, e2]; rfl
            clear heq
            go_wp2
            go_ret
            exact ⟨ret_bool HR.out.symm, HFF.out⟩
          | true =>
            have HR : Hid (sameB G x = q9) := by show _ = _; rw [HSB.out, e1, e2]; rfl
            go_wp2_with fail
            refine heq.mono ?_
            rintro e w7 ⟨rfl, f7⟩
            clear heq
            go_wp2
            go_ret
            exact ⟨ret_bool HR.out.symm, HFF.out.seq' f7⟩
  · have hk' : (kind == 4) = false := by simpa using hk
    clear HJU HNJ hk
    have f1 := Fr.refl (fun _ => False) ((w.alloc (.cells #[.int .i64 kind, .string key, .string val] 30)).alloc (.cells #[.bool x.found, .string x.val, .slice a n c] 47))
    go_enter Tryz.func54, Tryz.ntmps54
    go_wp2
    generalize (w.alloc (.cells #[.int .i64 kind, .string key, .string val] 30)).alloc (.cells #[.bool x.found, .string x.val, .slice a n c] 47) = w1 at *
    obtain ⟨⟨d0, d1, d2⟩, _⟩ := three_cells (f1.blk B0 (fun f => f))
    have hz0 := lt_of_block (f1.blk B0 (fun f => f))
    have hz1 := lt_of_block (f1.blk B1 (fun f => f))
    have HF1 : Hid (Fr (fun _ => False) w w1) := f0.seq' f1
    have HB1 : Hid (∀ W, Fr (fun _ => False) w1 W → W.heap[w.heap.size + 1]? = some (.cells #[.bool x.found, .string x.val, .slice a n c] 47 (0, 0))) := fun W f => (f1.seq' f).blk B1 (fun f => f)
    have HQ : Hid (∀ W, Fr (fun _ => False) w1 W → W.cell? ⟨w.heap.size, 0, none⟩ = some (.int .i64 kind) ∧ W.cell? ⟨w.heap.size, 1, none⟩ = some (.string key) ∧ W.cell? ⟨w.heap.size, 2, none⟩ = some (.string val)) := fun W f => (three_cells ((f1.seq' f).blk B0 (fun f => f))).1
    have HQS : Hid (∀ W, Fr (fun _ => False) w1 W → ∀ B, w.heap.size < B → ∀ u0 u1 u2, (((W.setCell ⟨B, 0, none⟩ u0).setCell ⟨B, 1, none⟩ u1).setCell ⟨B, 2, none⟩ u2).cell? ⟨w.heap.size, 0, none⟩ = some (.int .i64 kind) ∧ (((W.setCell ⟨B, 0, none⟩ u0).setCell ⟨B, 1, none⟩ u1).setCell ⟨B, 2, none⟩ u2).cell? ⟨w.heap.size, 1, none⟩ = some (.string key) ∧ (((W.setCell ⟨B, 0, none⟩ u0).setCell ⟨B, 1, none⟩ u1).setCell ⟨B, 2, none⟩ u2).cell? ⟨w.heap.size, 2, none⟩ = some (.string val)) := fun W f B hB u0 u1 u2 => (three_cells ((set_fr W B u0 u1 u2).blk ((f1.seq' f).blk B0 (fun f => f)) (by omega))).1
    have HQS2 : Hid (∀ W, Fr (fun _ => False) w1 W → ∀ u0 u1 u2, (((W.setCell ⟨w1.heap.size + 1, 0, none⟩ u0).setCell ⟨w1.heap.size + 1, 1, none⟩ u1).setCell ⟨w1.heap.size + 1, 2, none⟩ u2).cell? ⟨w.heap.size, 0, none⟩ = some (.int .i64 kind) ∧ (((W.setCell ⟨w1.heap.size + 1, 0, none⟩ u0).setCell ⟨w1.heap.size + 1, 1, none⟩ u1).setCell ⟨w1.heap.size + 1, 2, none⟩ u2).cell? ⟨w.heap.size, 1, none⟩ = some (.string key) ∧ (((W.setCell ⟨w1.heap.size + 1, 0, none⟩ u0).setCell ⟨w1.heap.size + 1, 1, none⟩ u1).setCell ⟨w1.heap.size + 1, 2, none⟩ u2).cell? ⟨w.heap.size, 2, none⟩ = some (.string val)) := fun W f => HQS.out W f _ (by omega)
    have HQS3 : Hid (∀ W, Fr (fun _ => False) w1 W → ∀ u0 u1 u2, (((W.setCell ⟨w1.heap.size, 0, none⟩ u0).setCell ⟨w1.heap.size, 1, none⟩ u1).setCell ⟨w1.heap.size, 2, none⟩ u2).cell? ⟨w.heap.size, 0, none⟩ = some (.int .i64 kind) ∧ (((W.setCell ⟨w1.heap.size, 0, none⟩ u0).setCell ⟨w1.heap.size, 1, none⟩ u1).setCell ⟨w1.heap.size, 2, none⟩ u2).cell? ⟨w.heap.size, 1, none⟩ = some (.string key) ∧ (((W.setCell ⟨w1.heap.size, 0, none⟩ u0).setCell ⟨w1.heap.size, 1, none⟩ u1).setCell ⟨w1.heap.size, 2, none⟩ u2).cell? ⟨w.heap.size, 2, none⟩ = some (.string val)) := fun W f => HQS.out W f _ (by omega)
    have HG1 : Hid (Calls Tryz.prog 64 #[.agg #[.int .i64 kind, .string key, .string val], .func (.func 80) #[] #[.pointer (some ⟨w1.heap.size, 0, none⟩)]] ((w1.alloc (.cells #[.map (some b)] 91)).drew) fun e w' => RsOut ((w1.alloc (.cells #[.map (some b)] 91)).drew) G e w') := HGV.out _ _ ((HF1.out.seq' (Fr.box w1 _)).drew) (heap_alloc_new w1 _)
    have HG2 : Hid (Calls Tryz.prog 64 #[.agg #[.int .i64 kind, .string key, .string val], .func (.func 80) #[] #[.pointer (some ⟨w1.heap.size, 0, none⟩)]] (((w1.alloc (.cells #[.map (some b)] 91)).alloc (.cells #[.bool false, .string ⟨#[]⟩, .slice none 0 0] 47)).drew) fun e w' => RsOut (((w1.alloc (.cells #[.map (some b)] 91)).alloc (.cells #[.bool false, .string ⟨#[]⟩, .slice none 0 0] 47)).drew) G e w') := HGV.out _ _ ((HF1.out.seq' ((Fr.box w1 _).alloc _)).drew) (two_new w1 _ _).1
    have HG3 : Hid (Calls Tryz.prog 64 #[.agg #[.int .i64 kind, .string key, .string val], .func (.func 80) #[] #[.pointer (some ⟨w1.heap.size + 1, 0, none⟩)]] (((w1.alloc (.cells #[.bool false, .string ⟨#[]⟩, .slice none 0 0] 47)).alloc (.cells #[.map (some b)] 91)).drew) fun e w' => RsOut (((w1.alloc (.cells #[.bool false, .string ⟨#[]⟩, .slice none 0 0] 47)).alloc (.cells #[.map (some b)] 91)).drew) G e w') := HGV.out _ _ ((HF1.out.seq' ((Fr.box w1 _).alloc _)).drew) (two_new w1 _ _).2
    have HR2 : Hid (∀ W, Fr (fun _ => False) (((w1.alloc (.cells #[.map (some b)] 91)).alloc (.cells #[.bool false, .string ⟨#[]⟩, .slice none 0 0] 47)).drew) W → W.heap[w1.heap.size + 1]? = some (.cells #[.bool false, .string ⟨#[]⟩, .slice none 0 0] 47 (0, 0))) := fun W f => f.blk (two_new w1 _ _).2 (fun f => f)
    have HR3 : Hid (∀ W, Fr (fun _ => False) (((w1.alloc (.cells #[.bool false, .string ⟨#[]⟩, .slice none 0 0] 47)).alloc (.cells #[.map (some b)] 91)).drew) W → W.heap[w1.heap.size]? = some (.cells #[.bool false, .string ⟨#[]⟩, .slice none 0 0] 47 (0, 0))) := fun W f => f.blk (two_new w1 _ _).1 (fun f => f)
    have HFO2 : Hid (∀ w5 a5 c5, Fr (fun _ => False) (((w1.alloc (.cells #[.map (some b)] 91)).alloc (.cells #[.bool false, .string ⟨#[]⟩, .slice none 0 0] 47)).drew) w5 → Ens w5 a5 c5 G.ents → (∀ b9 off, a5 = some ⟨b9, off, none⟩ → (((w1.alloc (.cells #[.map (some b)] 91)).alloc (.cells #[.bool false, .string ⟨#[]⟩, .slice none 0 0] 47)).drew).heap.size ≤ b9) → Fin w w1 w5 G x a5 c5 a n c (w1.heap.size + 1) (((w5.setCell ⟨w1.heap.size + 1, 0, none⟩ (.bool G.found)).setCell ⟨w1.heap.size + 1, 1, none⟩ (.string G.val)).setCell ⟨w1.heap.size + 1, 2, none⟩ (.slice a5 G.ents.length c5))) := fun w5 a5 c5 f5 hE ho => fin_old HF1.out ((((Fr.box w1 _).alloc _).drew).seq' f5) hE (HB1.out _ ((((Fr.box w1 _).alloc _).drew).seq' f5)) (HR2.out _ f5) (by omega) (by omega) (fun b off e => by have := ho b off e; simp only [World.size_alloc, size_drew] at this; omega)
    have HFO3 : Hid (∀ w5 a5 c5, Fr (fun _ => False) (((w1.alloc (.cells #[.bool false, .string ⟨#[]⟩, .slice none 0 0] 47)).alloc (.cells #[.map (some b)] 91)).drew) w5 → Ens w5 a5 c5 G.ents → (∀ b9 off, a5 = some ⟨b9, off, none⟩ → (((w1.alloc (.cells #[.bool false, .string ⟨#[]⟩, .slice none 0 0] 47)).alloc (.cells #[.map (some b)] 91)).drew).heap.size ≤ b9) → Fin w w1 w5 G x a5 c5 a n c w1.heap.size (((w5.setCell ⟨w1.heap.size, 0, none⟩ (.bool G.found)).setCell ⟨w1.heap.size, 1, none⟩ (.string G.val)).setCell ⟨w1.heap.size, 2, none⟩ (.slice a5 G.ents.length c5))) := fun w5 a5 c5 f5 hE ho => fin_old HF1.out ((((Fr.box w1 _).alloc _).drew).seq' f5) hE (HB1.out _ ((((Fr.box w1 _).alloc _).drew).seq' f5)) (HR3.out _ f5) (by omega) (by omega) (fun b off e => by have := ho b off e; simp only [World.size_alloc, size_drew] at this; omega)
    have HQP : Hid (∀ W, Fr (fun _ => False) w1 W → W.cell? ⟨w.heap.size, 0, none⟩ = some (.int .i64 kind) ∧ W.cell? ⟨w.heap.size, 1, none⟩ = some (.string key) ∧ W.cell? ⟨w.heap.size, 2, none⟩ = some (.string val)) := HQ.out
    have q0 : w1.drew.cell? ⟨w.heap.size, 0, none⟩ = some (.int .i64 kind) ∧ w1.drew.cell? ⟨w.heap.size, 1, none⟩ = some (.string key) ∧ w1.drew.cell? ⟨w.heap.size, 2, none⟩ = some (.string val) := ⟨d0, d1, d2⟩
    have HQA : Hid ((w1.alloc (.cells #[.bool false, .string ⟨#[]⟩, .slice none 0 0] 47)).drew.cell? ⟨w.heap.size, 0, none⟩ = some (.int .i64 kind) ∧ (w1.alloc (.cells #[.bool false, .string ⟨#[]⟩, .slice none 0 0] 47)).drew.cell? ⟨w.heap.size, 1, none⟩ = some (.string key) ∧ (w1.alloc (.cells #[.bool false, .string ⟨#[]⟩, .slice none 0 0] 47)).drew.cell? ⟨w.heap.size, 2, none⟩ = some (.string val)) := HQ.out _ ((Fr.box w1 _).drew)
    have HQB : Hid (((w1.alloc (.cells #[.bool false, .string ⟨#[]⟩, .slice none 0 0] 47)).alloc (.cells #[.map (some b)] 91)).drew.cell? ⟨w.heap.size, 0, none⟩ = some (.int .i64 kind) ∧ ((w1.alloc (.cells #[.bool false, .string ⟨#[]⟩, .slice none 0 0] 47)).alloc (.cells #[.map (some b)] 91)).drew.cell? ⟨w.heap.size, 1, none⟩ = some (.string key) ∧ ((w1.alloc (.cells #[.bool false, .string ⟨#[]⟩, .slice none 0 0] 47)).alloc (.cells #[.map (some b)] 91)).drew.cell? ⟨w.heap.size, 2, none⟩ = some (.string val)) := HQ.out _ (((Fr.box w1 _).alloc _).drew)
    have HQC : Hid ((w1.alloc (.cells #[.map (some b)] 91)).drew.cell? ⟨w.heap.size, 0, none⟩ = some (.int .i64 kind) ∧ (w1.alloc (.cells #[.map (some b)] 91)).drew.cell? ⟨w.heap.size, 1, none⟩ = some (.string key) ∧ (w1.alloc (.cells #[.map (some b)] 91)).drew.cell? ⟨w.heap.size, 2, none⟩ = some (.string val)) := HQ.out _ ((Fr.box w1 _).drew)
    have HQD : Hid (((w1.alloc (.cells #[.map (some b)] 91)).alloc (.cells #[.bool false, .string ⟨#[]⟩, .slice none 0 0] 47)).drew.cell? ⟨w.heap.size, 0, none⟩ = some (.int .i64 kind) ∧ ((w1.alloc (.cells #[.map (some b)] 91)).alloc (.cells #[.bool false, .string ⟨#[]⟩, .slice none 0 0] 47)).drew.cell? ⟨w.heap.size, 1, none⟩ = some (.string key) ∧ ((w1.alloc (.cells #[.map (some b)] 91)).alloc (.cells #[.bool false, .string ⟨#[]⟩, .slice none 0 0] 47)).drew.cell? ⟨w.heap.size, 2, none⟩ = some (.string val)) := HQ.out _ (((Fr.box w1 _).alloc _).drew)
    clear f1 f0 B0 B1 HGV
    have HZ1 : Hid (w.heap.size + 1 < w1.heap.size) := hz1
    go_wp2
    clear d0 d1 d2 hz0 hz1 HQS HQ
    go_region_held3 (fun W => W.cell? ⟨w.heap.size, 0, none⟩ = some (.int .i64 kind) ∧ W.cell? ⟨w.heap.size, 1, none⟩ = some (.string key) ∧ W.cell? ⟨w.heap.size, 2, none⟩ = some (.string val))
      (first | with_reducible exact q0 | with_reducible exact HQ3.out | with_reducible exact q2 | with_reducible exact HQA.out | with_reducible exact HQB.out | with_reducible exact HQC.out | with_reducible exact HQD.out | with_reducible exact HQ4.out | with_reducible exact HQ6.out | fail)
      (first
        | (go_at_call 65; refine (hri _).mono ?_; rintro e w4 ⟨rfl, rfl⟩)
        | (go_at_call 64; (with_reducible refine HG1.out.mono ?_); rintro e w5 ⟨a5, c5, rfl, hE, ho, f5⟩; have HF5 : Hid (Fr (fun _ => False) w1 w5) := (((Fr.box w1 _).drew).seq' f5); have q2 := HQP.out _ HF5.out; have HQ4 : Hid _ := HQP.out (w5.alloc (.cells #[.bool false, .string ⟨#[]⟩, .slice none 0 0] 47)) (HF5.out.seq' (Fr.box w5 _)); have HQ6 : Hid _ := HQP.out (w5.alloc (.cells #[.bool G.found, .string G.val, .slice a5 G.ents.length c5] 47)) (HF5.out.seq' (Fr.box w5 _)); have HFIN : Hid (Fin w w1 w5 G x a5 c5 a n c w5.heap.size (w5.alloc (.cells #[.bool G.found, .string G.val, .slice a5 G.ents.length c5] 47))) := fin_new HF1.out HF5.out hE (HB1.out _ HF5.out); clear hE ho f5)
        | (go_at_call 64; (with_reducible refine HG3.out.mono ?_); rintro e w5 ⟨a5, c5, rfl, hE, ho, f5⟩; have HF5 : Hid (Fr (fun _ => False) w1 w5) := ((((Fr.box w1 _).alloc _).drew).seq' f5); have q2 := HQP.out _ HF5.out; have hY := HR3.out _ f5; obtain ⟨⟨t0, t1, t2⟩, tz0, tz1, tz2⟩ := three_cells hY; have HQ3 : Hid _ := HQS3.out w5 HF5.out (.bool G.found) (.string G.val) (.slice a5 G.ents.length c5); have HFIN : Hid (Fin w w1 w5 G x a5 c5 a n c (w1.heap.size) (((w5.setCell ⟨w1.heap.size, 0, none⟩ (.bool G.found)).setCell ⟨w1.heap.size, 1, none⟩ (.string G.val)).setCell ⟨w1.heap.size, 2, none⟩ (.slice a5 G.ents.length c5))) := HFO3.out w5 a5 c5 f5 hE ho; clear hE ho f5 hY)
        | (go_at_call 64; (with_reducible refine HG2.out.mono ?_); rintro e w5 ⟨a5, c5, rfl, hE, ho, f5⟩; have HF5 : Hid (Fr (fun _ => False) w1 w5) := ((((Fr.box w1 _).alloc _).drew).seq' f5); have q2 := HQP.out _ HF5.out; have hY := HR2.out _ f5; obtain ⟨⟨t0, t1, t2⟩, tz0, tz1, tz2⟩ := three_cells hY; have HQ3 : Hid _ := HQS2.out w5 HF5.out (.bool G.found) (.string G.val) (.slice a5 G.ents.length c5); have HFIN : Hid (Fin w w1 w5 G x a5 c5 a n c (w1.heap.size + 1) (((w5.setCell ⟨w1.heap.size + 1, 0, none⟩ (.bool G.found)).setCell ⟨w1.heap.size + 1, 1, none⟩ (.string G.val)).setCell ⟨w1.heap.size + 1, 2, none⟩ (.slice a5 G.ents.length c5))) := HFO2.out w5 a5 c5 f5 hE ho; clear hE ho f5 hY))
    all_goals
      have heq := equal_any a5 a G.ents.length n c5 c G.ents x.ents rfl HN.out _ HFIN.out.ens (HX.out _ HFIN.out.fr)
      obtain ⟨⟨x0, x1, x2⟩, _⟩ := three_cells HFIN.out.bx
      obtain ⟨⟨y0, y1, y2⟩, _⟩ := three_cells HFIN.out.by_
      have HFF : Hid (Fr (fun _ => False) w _) := HFIN.out.fr
      obtain ⟨q9, hq9⟩ : ∃ q9, q9 = decide (G.ents = x.ents) := ⟨_, rfl⟩
      rw [← hq9] at heq HSB
      clear hq9 HFIN HG1 HG2 HG3 HR2 HR3 HFO2 HFO3 HQS2 HQS3 HQA HQB HQC HQD
      revert x0 x1 x2 y0 y1 y2 HFF heq
      generalize G.ents.length = m9
      intro x0 x1 x2 y0 y1 y2 HFF heq
      cases e1 : (G.found == x.found) with
      | false =>
        have HR : Hid (sameB G x = false) := by show _ = _; rw [HSB.out, e1]; rfl
        have e1' : decide (G.found = x.found) = false := by rw [← e1]; cases G.found <;> cases x.found <;> rfl
        clear heq
        go_wp2
        go_ret
        exact ⟨ret_bool HR.out.symm, HFF.out⟩
      | true =>
        have e1' : decide (G.found = x.found) = true := by rw [← e1]; cases G.found <;> cases x.found <;> rfl
        cases e2 : (G.val.toList == x.val.toList) with
        | false =>
          have HR : Hid (sameB G x = false) := by show _ = _; rw [HSB.out, e1, e2]; rfl
          clear heq
          go_wp2
          go_ret
          exact ⟨ret_bool HR.out.symm, HFF.out⟩
        | true =>
          have HR : Hid (sameB G x = q9) := by show _ = _; rw [HSB.out, e1, e2]; rfl
          go_wp2_with fail
          refine heq.mono ?_
          rintro e w7 ⟨rfl, f7⟩
          clear heq
          go_wp2
          go_ret
          exact ⟨ret_bool HR.out.symm, HFF.out.seq' f7⟩
end Go.Proofs.YthdbkanbgfajbaaGreat
