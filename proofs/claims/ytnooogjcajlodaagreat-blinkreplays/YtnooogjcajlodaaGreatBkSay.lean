
/- A tree says a record of a page that is there. -/
import Derived.Test.YtnooogjcajlodaaGreatBkDo
namespace Go.Proofs.YtnooogjcajlodaaGreat
open Go.RowKit

theorem TrS.frS {S : Nat → Prop} {w w' : World} {tb mb : Nat} {a : Option Addr} {n c : Nat} {lp : List Sl} {last : Int} (h : TrS w tb mb a n c lp last) (f : Fr S w w') (h1 : ¬ S tb) (h2 : ¬ S mb) (h3 : ∀ g, (Value.slice a n c).ownBlock = some g → ¬ S g) (h4 : ∀ s ∈ lp, Off S s.nd s.pt) : TrS w' tb mb a n c lp last :=
  ⟨h.tr.fr f h1 h2, h.len, h.sv.frS f h3 h4, h.own, h.off⟩
def rnx (r : Rec) (l : Int) : Rec := ⟨l, r.ep, r.kind, r.page, r.other, r.req, r.key, r.val⟩
theorem tree_set2 {W : World} {b : Nat} {t : TypeId} {c0 c1 c2 : Value} (h : W.heap[b]? = some (.cells #[c0, c1, c2] t (0, 0))) (u : Value) : (W.setCell ⟨b, 2, none⟩ u).heap[b]? = some (.cells #[c0, c1, u] t (0, 0)) := cells_set h 2 u
set_option maxRecDepth 100000 in
set_option maxHeartbeats 8000000 in
theorem say_yes (r : Rec) (hkz : r.key.size ≤ 140737488351232) (hvz : r.val.size ≤ 140737488351232) (tb mb : Nat) (a : Option Addr) (n c : Nat) (lp : List Sl) (last : Int) (hl : 0 ≤ last ∧ last ≤ 4611686018427387904) (hf : lp.length ≤ 10000) (hr : Rise lp) (hb : hasB lp r.page = true) (s : Sl) (hs : lp[ahead lp r.page]? = some s) (hE : apE s.nd true (rnx r (last + 1)) = 0) (w : World) (h : TrS w tb mb a n c lp last) :
    Calls Tryz.prog 14 #[.pointer (some ⟨tb, 0, none⟩), (.agg #[.int .i64 r.lsn, .int .i64 r.ep, .int .i64 r.kind, .int .i64 r.page, .int .i64 r.other, .int .i64 r.req, .string r.key, .string r.val])] w fun e w' => ∃ q, e = .returned (.tuple #[(.agg #[.int .i64 (rnx r (last + 1)).lsn, .int .i64 (rnx r (last + 1)).ep, .int .i64 (rnx r (last + 1)).kind, .int .i64 (rnx r (last + 1)).page, .int .i64 (rnx r (last + 1)).other, .int .i64 (rnx r (last + 1)).req, .string (rnx r (last + 1)).key, .string (rnx r (last + 1)).val]), .int .i64 0]) ∧ TrS w' tb mb a n c (lp.set (ahead lp (rnx r (last + 1)).page) ⟨(rnx r (last + 1)).page, apN s.nd true (rnx r (last + 1)), q⟩) (last + 1) ∧ Fr (fun k => (Value.slice a n c).ownBlock = some k ∨ k = tb ∨ k = mb) w w' := by
  have f0 := (Fr.box w (.cells #[.int .i64 r.lsn, .int .i64 r.ep, .int .i64 r.kind, .int .i64 r.page, .int .i64 r.other, .int .i64 r.req, .string r.key, .string r.val] 42)).alloc (.cells #[.int .i64 0, .int .i64 0, .int .i64 0, .int .i64 0, .int .i64 0, .int .i64 0, .string ⟨#[]⟩, .string ⟨#[]⟩] 42)
  have htl : tb < w.heap.size := lt_of_block h.tr.box
  have hml : mb < w.heap.size := by obtain ⟨U, hU⟩ := h.tr.map; exact hU.lt
  have h1 := h.same f0
  have HLO : Hid (∀ g, (Value.slice a n c).ownBlock = some g → g < w.heap.size) := fun g e => h.sv.has.lt e
  have ha := last_some tb a n c mb last _ h1.tr
  have HSX : Hid (∀ W, Fr (fun _ => False) w W → TrS W tb mb a n c lp last) := fun W f => h.same f
  have hd := fun W hW => do_yes (rnx r (last + 1)) hkz hvz tb mb a n c lp last hf hr hb s hs hE W hW
  have HB0 : Hid (∀ W, Fr (fun _ => False) ((w.alloc (.cells #[.int .i64 r.lsn, .int .i64 r.ep, .int .i64 r.kind, .int .i64 r.page, .int .i64 r.other, .int .i64 r.req, .string r.key, .string r.val] 42)).alloc (.cells #[.int .i64 0, .int .i64 0, .int .i64 0, .int .i64 0, .int .i64 0, .int .i64 0, .string ⟨#[]⟩, .string ⟨#[]⟩] 42)) W → W.heap[w.heap.size]? = some (.cells #[.int .i64 r.lsn, .int .i64 r.ep, .int .i64 r.kind, .int .i64 r.page, .int .i64 r.other, .int .i64 r.req, .string r.key, .string r.val] 42 (0, 0)) ∧ W.heap[w.heap.size + 1]? = some (.cells #[.int .i64 0, .int .i64 0, .int .i64 0, .int .i64 0, .int .i64 0, .int .i64 0, .string ⟨#[]⟩, .string ⟨#[]⟩] 42 (0, 0))) := fun W f => by
    refine ⟨(((Fr.refl (fun _ => False) _).alloc _).seq' f).blk (heap_alloc_new w _) (fun f => f), ?_⟩
    have := f.blk (heap_alloc_new (w.alloc (.cells #[.int .i64 r.lsn, .int .i64 r.ep, .int .i64 r.kind, .int .i64 r.page, .int .i64 r.other, .int .i64 r.req, .string r.key, .string r.val] 42)) (.cells #[.int .i64 0, .int .i64 0, .int .i64 0, .int .i64 0, .int .i64 0, .int .i64 0, .string ⟨#[]⟩, .string ⟨#[]⟩] 42)) (fun f => f)
    rw [show (w.alloc (.cells #[.int .i64 r.lsn, .int .i64 r.ep, .int .i64 r.kind, .int .i64 r.page, .int .i64 r.other, .int .i64 r.req, .string r.key, .string r.val] 42)).heap.size = w.heap.size + 1 by simp] at this
    exact this
  have e1 : IntKind.i64.wrap (last + 1) = last + 1 := by simp [IntKind.wrap, IntKind.bits, IntKind.signed]; omega
  obtain ⟨rn, hrn⟩ : ∃ x, x = rnx r (last + 1) := ⟨_, rfl⟩
  rw [← hrn] at hd ⊢
  have HSET : Hid (∀ W : World, W.heap[w.heap.size]? = some (.cells #[.int .i64 r.lsn, .int .i64 r.ep, .int .i64 r.kind, .int .i64 r.page, .int .i64 r.other, .int .i64 r.req, .string r.key, .string r.val] 42 (0, 0)) → (W.setCell ⟨w.heap.size, 0, none⟩ (.int .i64 (last + 1))).heap[w.heap.size]? = some (.cells #[.int .i64 rn.lsn, .int .i64 rn.ep, .int .i64 rn.kind, .int .i64 rn.page, .int .i64 rn.other, .int .i64 rn.req, .string rn.key, .string rn.val] 42 (0, 0))) := fun W h => by
    rw [hrn]; exact rec_set0 h
  have HLS : Hid (rn.lsn = last + 1) := by show _ = _; rw [hrn]; rfl
  generalize ahead lp rn.page = ix at *
  have HOL : Hid (∀ s ∈ lp, Off (fun k => k = w.heap.size + 1) s.nd s.pt) := fun s hs => (h.sv.nod s hs).far (fun b hb e => by omega)
  generalize apN s.nd true rn = m at *
  clear h h1 hr hb hs hE hf hkz hvz hrn
  go_enter Tryz.func14, Tryz.ntmps14
  go_wp2_with fail
  refine ha.mono ?_
  rintro e w1 ⟨rfl, f1⟩
  have hx1 := HB0.out _ f1
  have hx2 := HSET.out _ hx1.1
  have g2 : Fr (fun k => k = w.heap.size) w1 (w1.setCell ⟨w.heap.size, 0, none⟩ (.int .i64 (last + 1))) := (Fr.refl (fun k => k = w.heap.size) w1).setCell (p := ⟨w.heap.size, 0, none⟩) (fun _ => rfl) _
  have hy2 := g2.blk hx1.2 (by omega)
  have F2 := (f0.seq' f1).trans g2 (S := fun _ => False) (fun i hi e => by omega)
  obtain ⟨⟨a0, a1, a2, a3, a4, a5, a6, a7⟩, za⟩ := rec_cells hx1.1
  obtain ⟨⟨b0, b1, b2, b3, b4, b5, b6, b7⟩, zb⟩ := rec_cells hx2
  have za0 := za 0
  clear hx1 za
  go_upto_region 2 with fail
  generalize w1.setCell ⟨w.heap.size, 0, none⟩ (.int .i64 (last + 1)) = W2 at *
  clear a0 a1 a2 a3 a4 a5 a6 a7 za0 g2
  go_wp2_with fail
  refine (hd _ (HSX.out _ F2)).mono ?_
  rintro e w3 ⟨q, rfl, hnw, ht3, f3⟩
  have HOQ : Hid (Off (fun k => k = w.heap.size + 1) m q) := hnw.off (fun b hb e => by have h1 := lt_of_block hy2; omega)
  have hx3 := f3.blk hx2 (fun e => by rcases e with e | e | e; · have := HLO.out _ e; omega
                                      · omega
                                      · omega)
  have hy3 := f3.blk hy2 (fun e => by rcases e with e | e | e; · have := HLO.out _ e; omega
                                      · omega
                                      · omega)
  have F3 : Fr (fun k => (Value.slice a n c).ownBlock = some k ∨ k = tb ∨ k = mb) w w3 := (F2.widen (T := fun k => (Value.slice a n c).ownBlock = some k ∨ k = tb ∨ k = mb) (fun _ f => f.elim)).trans f3 (fun i _ e => e)
  clear b0 b1 b2 b3 b4 b5 b6 b7 zb hd ha
  obtain ⟨⟨b0, b1, b2, b3, b4, b5, b6, b7⟩, _⟩ := rec_cells hx3
  obtain ⟨⟨t0, t1, t2⟩, tz⟩ := tree_cells ht3.tr.box
  have tz2 := tz 2
  have f4 : Fr (fun k => k = tb) w3 (w3.setCell ⟨tb, 2, none⟩ (.int .i64 rn.lsn)) := (Fr.refl (fun k => k = tb) w3).setCell (p := ⟨tb, 2, none⟩) (fun _ => rfl) _
  have hbx4 := tree_set2 ht3.tr.box (.int .i64 rn.lsn)
  have hx4 := f4.blk hx3 (by omega)
  have hy4 := f4.blk hy3 (by omega)
  have HT3 : Hid (TrS w3 tb mb a n c (lp.set ix ⟨rn.page, m, q⟩) last) := ht3
  have HT4 : Hid (TrS (w3.setCell ⟨tb, 2, none⟩ (.int .i64 rn.lsn)) tb mb a n c (lp.set ix ⟨rn.page, m, q⟩) (last + 1)) := by
    have h3 := HT3.out
    rw [HLS.out] at hbx4 f4 ⊢
    obtain ⟨U, hU⟩ := h3.tr.map
    exact ⟨⟨hbx4, ⟨U, hU.fr f4 (by have := h3.tr.ne; omega)⟩, h3.tr.ne⟩, h3.len, h3.sv.frS f4 (fun k e1 e2 => (h3.own k e1).1 e2) (fun x hx => (h3.off x hx).sub (fun k e => .inl e)), h3.own, h3.off⟩
  have F4 := F3.trans f4 (S := fun k => (Value.slice a n c).ownBlock = some k ∨ k = tb ∨ k = mb) (fun i _ e => .inr (.inl e))
  clear ht3 tz hbx4 hx3 hy3
  go_upto_region 6 with fail
  generalize w3.setCell ⟨tb, 2, none⟩ (.int .i64 rn.lsn) = W4 at *
  clear b0 b1 b2 b3 b4 b5 b6 b7 t0 t1 t2 tz2
  obtain ⟨⟨b0, b1, b2, b3, b4, b5, b6, b7⟩, _⟩ := rec_cells hx4
  obtain ⟨⟨z0, z1, z2, z3, z4, z5, z6, z7⟩, zz⟩ := rec_cells hy4
  have x0 := zz 0; have x1 := zz 1; have x2 := zz 2; have x3 := zz 3; have x4 := zz 4; have x5 := zz 5; have x6 := zz 6; have x7 := zz 7
  clear zz
  go_wp2
  obtain ⟨hq, ff⟩ := fin8 hy4 (.int .i64 rn.lsn) (.int .i64 rn.ep) (.int .i64 rn.kind) (.int .i64 rn.page) (.int .i64 rn.other) (.int .i64 rn.req) (.string rn.key) (.string rn.val)
  have HT5 : Hid (TrS ((((((((W4.setCell ⟨w.heap.size + 1, 0, none⟩ (.int .i64 rn.lsn)).setCell ⟨w.heap.size + 1, 1, none⟩ (.int .i64 rn.ep)).setCell ⟨w.heap.size + 1, 2, none⟩ (.int .i64 rn.kind)).setCell ⟨w.heap.size + 1, 3, none⟩ (.int .i64 rn.page)).setCell ⟨w.heap.size + 1, 4, none⟩ (.int .i64 rn.other)).setCell ⟨w.heap.size + 1, 5, none⟩ (.int .i64 rn.req)).setCell ⟨w.heap.size + 1, 6, none⟩ (.string rn.key)).setCell ⟨w.heap.size + 1, 7, none⟩ (.string rn.val)) tb mb a n c (lp.set ix ⟨rn.page, m, q⟩) (last + 1)) := by
    exact HT4.out.frS ff (by omega) (by omega) (fun g e h => by have := HLO.out g e; omega) (fun x hx => by
      rcases List.mem_or_eq_of_mem_set hx with hx | rfl
      · exact HOL.out x hx
      · exact HOQ.out)
  have fff := F4.trans ff (S := fun k => (Value.slice a n c).ownBlock = some k ∨ k = tb ∨ k = mb) (fun i hi e => by omega)
  generalize ((((((((W4.setCell ⟨w.heap.size + 1, 0, none⟩ (.int .i64 rn.lsn)).setCell ⟨w.heap.size + 1, 1, none⟩ (.int .i64 rn.ep)).setCell ⟨w.heap.size + 1, 2, none⟩ (.int .i64 rn.kind)).setCell ⟨w.heap.size + 1, 3, none⟩ (.int .i64 rn.page)).setCell ⟨w.heap.size + 1, 4, none⟩ (.int .i64 rn.other)).setCell ⟨w.heap.size + 1, 5, none⟩ (.int .i64 rn.req)).setCell ⟨w.heap.size + 1, 6, none⟩ (.string rn.key)).setCell ⟨w.heap.size + 1, 7, none⟩ (.string rn.val)) = Wf at hq fff HT5 ⊢
  obtain ⟨⟨q0, q1, q2, q3, q4, q5, q6, q7⟩, _⟩ := rec_cells hq
  exact bodyPost_ret (v := .tuple #[(.agg #[.int .i64 rn.lsn, .int .i64 rn.ep, .int .i64 rn.kind, .int .i64 rn.page, .int .i64 rn.other, .int .i64 rn.req, .string rn.key, .string rn.val]), .int .i64 0]) (by simp [results, Tryz.results14, go_sem, q0, q1, q2, q3, q4, q5, q6, q7]) rfl ⟨q, rfl, HT5.out, fff⟩
end Go.Proofs.YtnooogjcajlodaaGreat
