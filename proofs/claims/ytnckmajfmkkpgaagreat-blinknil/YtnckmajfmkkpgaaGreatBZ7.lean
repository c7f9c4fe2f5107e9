
/- BkScan, BkDo, BkSay. -/
import Derived.Test.YtnckmajfmkkpgaaGreatBZ5
/- Scan of a nil tree. -/
namespace Go.Proofs.YtnckmajfmkkpgaaGreat
open Go.RowKit

theorem lv_nil : treeE [] = [] := by kernel_rfl
/-- What stands between rounds, of which none comes. -/
structure ScI (w : World) (B : Nat) (pre : List (ByteArray × ByteArray)) (W : World) : Prop where
  no : pre = []
  fr : Fr (fun _ => False) w W
  bx : W.heap[B]? = some (.cells #[.slice none 0 0] 41 (0, 0))
set_option maxRecDepth 100000 in
set_option maxHeartbeats 4000000 in
theorem scan_none (k1 k2 : ByteArray) (most : Int) (w : World) : Calls Tryz.prog 10 #[.pointer none, .string k1, .string k2, .int .i64 most] w fun e w' => e = .returned (.slice none 0 0) ∧ Fr (fun _ => False) w w' := by
  have f0 : Fr (fun _ => False) w ((((w.alloc (.cells #[.string k1] 9)).alloc (.cells #[.string k2] 9)).alloc (.cells #[.int .i64 most] 3)).alloc (.cells #[.slice none 0 0] 41)) := ((((Fr.refl _ _).alloc _).alloc _).alloc _).alloc _
  have hB := heap_alloc_new (((w.alloc (.cells #[.string k1] 9)).alloc (.cells #[.string k2] 9)).alloc (.cells #[.int .i64 most] 3)) (.cells #[.slice none 0 0] 41)
  rw [show (((w.alloc (.cells #[.string k1] 9)).alloc (.cells #[.string k2] 9)).alloc (.cells #[.int .i64 most] 3)).heap.size = w.heap.size + 3 by simp] at hB
  have hsz : ((((w.alloc (.cells #[.string k1] 9)).alloc (.cells #[.string k2] 9)).alloc (.cells #[.int .i64 most] 3)).alloc (.cells #[.slice none 0 0] 41)).heap.size = w.heap.size + 4 := by simp
  have HLV : Hid (∀ W, Calls Tryz.prog 13 #[.slice none 0 0] W fun e w' => LvOut [] W e w') := fun W => leaves_any none 0 0 [] rfl W ⟨Nat.le_refl _, by omega, .inl rfl, fun s hs => by cases hs⟩
  refine (callsIn_wide (n := 0)).1 ?_
  refine callsIn_of_wp_marks Tryz.func10 rfl trivial ?_ rfl
  simp only [Tryz.ntmps10, List.size_toArray, List.length_cons, List.length_nil, Nat.reduceAdd, Nat.reduceSub, Array.replicate_succ, Array.replicate_zero, List.push_toArray, List.append_toArray, List.nil_append, List.cons_append]
  gi_wp2
  generalize (((w.alloc (.cells #[.string k1] 9)).alloc (.cells #[.string k2] 9)).alloc (.cells #[.int .i64 most] 3)).alloc (.cells #[.slice none 0 0] 41) = V0 at *
  refine ⟨trivial, rfl, (callsIn_wide.2 (all_none _)).mono ?_⟩
  rintro e w1 ⟨rfl, f1⟩
  gi_wp2
  refine ⟨trivial, rfl, (callsIn_wide.2 (HLV.out _)).mono ?_⟩
  intro e w2 hlv
  obtain ⟨la, ln, lc, lb, rfl, _, hln, hsp, hkv, f2⟩ := lv_both hlv
  have hTE : lvE ((leavesF []).getD []) = [] := lv_nil
  generalize (leavesF []).getD [] = sp at *
  clear hlv
  have HLN : Hid (ln = sp.length) := hln
  clear hln
  gi_wp2
  refine ⟨trivial, rfl, (callsIn_wide.2 (entsOf_call la ln lc _)).mono ?_⟩
  rintro e w' ⟨rfl, rfl⟩
  gi_wp2
  have fa := Fr.box w2 (.cells #[.slice la ln lc] 45)
  have hbl := heap_alloc_new w2 (.cells #[.slice la ln lc] 45)
  have hs2 : (w2.alloc (.cells #[.slice la ln lc] 45)).heap.size = w2.heap.size + 1 := by simp
  have F2 := (f1.seq' f2).seq' fa
  have hz2 := (f1.seq' f2).size
  have fV := f0.seq' F2
  have hv3 := F2.blk hB (fun f => f)
  have hsV := hsp.same fa
  generalize w2.alloc (.cells #[.slice la ln lc] 45) = V at *
  have hit := ent_iter la ln lc sp HLN.out (fun s hs => (hkv s hs).1) w2.heap.size (fun q => q < V.heap.size) V ?S ?C
  case S =>
    intro W f
    refine hsV.on f (ls := []) (pa := none) ⟨Nat.le_refl _, by simp, .inl rfl, fun s hs => by cases hs⟩ (fun s hs => (hkv s hs).2) (fun b off hne ha => ?_)
    rcases hsV.at_ with h0 | ⟨b', off', e, hb, _⟩
    · exact absurd h0 hne
    · rw [ha] at e; cases e; exact hb
  case C => intro W f; exact (one_cells (f.blk hbl (fun e => e (by omega)))).1
  refine over (gf := 27) (lb := #[.pointer (some ⟨w2.heap.size, 0, none⟩)]) rfl (enters_of Tryz.func27 (by kernel_rfl) rfl) hit (Fr.refl _ _) (fun _ => rfl)
    (fun _ _ => False) (ScI w (w.heap.size + 3)) (fun _ _ _ => False) ?st ?stx ?ol ?bk ?ap ?h0 ?round ?done ?stop
  case st => intro pre A B hI f; exact ⟨hI.no, hI.fr.trans f (fun i hi e => by omega), f.blk hI.bx (by omega)⟩
  case stx => intro cd pre A B hX; exact hX.elim
  case ol => intro pre A q hI h; exact h.elim
  case bk => intro pre A B q _ _ h; exact h
  case ap => intro pre A q _ h; exact h.elim
  case h0 => exact ⟨rfl, fV, hv3⟩
  case round =>
    intro pre x W hI hpx
    rw [hTE] at hpx
    have := hpx.length_le
    simp at this
  case stop => intro cd pre W hX; exact hX.elim
  case done =>
    rintro xs W rfl hI hK
    obtain ⟨c1, c2⟩ := one_cells hI.bx
    have fp := Fr.put W V.heap.size (.deferred none)
    have fE := hI.fr.trans fp (S := fun _ => False) (fun i hi e => by omega)
    clear hs2
    gi_wp2
    refine ⟨by simp, .inl ⟨_, _, rfl, run_takeDeferred hK, ?_⟩⟩
    exact ⟨.slice none 0 0, by simp [results, Tryz.results10, go_sem], rfl, fE⟩
end Go.Proofs.YtnckmajfmkkpgaaGreat

/- A record done to a page that is there. -/
namespace Go.Proofs.YtnckmajfmkkpgaaGreat
open Go.RowKit

theorem Sv.frS {S : Nat → Prop} {w w' : World} {rv : Value} {ls : List Sl} (h : Sv w rv ls) (f : Fr S w w') (h1 : ∀ k, rv.ownBlock = some k → ¬ S k) (h2 : ∀ s ∈ ls, Off S s.nd s.pt) : Sv w' rv ls :=
  ⟨h.has.fr f h1, fun s hs => (h.nod s hs).frS f (h2 s hs), h.off⟩
theorem Off.sub {S T : Nat → Prop} {n : Nd} {p : Pt} (h : Off S n p) (hs : ∀ k, T k → S k) : Off T n p :=
  ⟨h.1.imp id (fun h b o e t => h b o e (hs b t)), h.2.1.imp id (fun h b o e t => h b o e (hs b t)), h.2.2.imp id (fun h b o e t => h b o e (hs b t))⟩
theorem tree_set0 {W : World} {b : Nat} {t : TypeId} {c0 c1 c2 : Value} (h : W.heap[b]? = some (.cells #[c0, c1, c2] t (0, 0))) (u : Value) : (W.setCell ⟨b, 0, none⟩ u).heap[b]? = some (.cells #[u, c1, c2] t (0, 0)) := cells_set h 0 u
theorem set_facts {W V : World} {tb mb B R : Nat} {a : Option Addr} {n c : Nat} {last : Int} {r : Rec} {m : Nd} {q : Pt} {t1 t2 t3 : TypeId} {X : Prop} (h : W.heap[tb]? = some (.cells #[.slice a n c, .pointer (some ⟨mb, 0, none⟩), .int .i64 last] t1 (0, 0)) ∧ W.heap[R]? = some (.cells #[.int .i64 r.lsn, .int .i64 r.ep, .int .i64 r.kind, .int .i64 r.page, .int .i64 r.other, .int .i64 r.req, .string r.key, .string r.val] t2 (0, 0)) ∧ W.heap[B]? = some (.cells #[.int .i64 m.lev, .int .i64 m.lsn, .int .i64 m.rgt, .string m.high, .slice q.k m.keys.length q.kc, .slice q.v m.vals.length q.vc, .slice q.i m.kids.length q.ic] t3 (0, 0)) ∧ X) (h1 : R ≠ tb) (h2 : B ≠ tb) (hV : W.setCell ⟨tb, 0, none⟩ (.slice a n c) = V) :
    (V.cell? ⟨tb, 0, none⟩ = some (.slice a n c) ∧ V.cell? ⟨tb, 1, none⟩ = some (.pointer (some ⟨mb, 0, none⟩)) ∧ V.cell? ⟨tb, 2, none⟩ = some (.int .i64 last)) ∧ (V.cell? ⟨R, 0, none⟩ = some (.int .i64 r.lsn) ∧ V.cell? ⟨R, 1, none⟩ = some (.int .i64 r.ep) ∧ V.cell? ⟨R, 2, none⟩ = some (.int .i64 r.kind) ∧ V.cell? ⟨R, 3, none⟩ = some (.int .i64 r.page) ∧ V.cell? ⟨R, 4, none⟩ = some (.int .i64 r.other) ∧ V.cell? ⟨R, 5, none⟩ = some (.int .i64 r.req) ∧ V.cell? ⟨R, 6, none⟩ = some (.string r.key) ∧ V.cell? ⟨R, 7, none⟩ = some (.string r.val)) ∧ V.cell? ⟨B, 0, none⟩ = some (.int .i64 m.lev) ∧ V.cell? ⟨B, 1, none⟩ = some (.int .i64 m.lsn) ∧ V.cell? ⟨B, 2, none⟩ = some (.int .i64 m.rgt) ∧ V.cell? ⟨B, 3, none⟩ = some (.string m.high) ∧ V.cell? ⟨B, 4, none⟩ = some (.slice q.k m.keys.length q.kc) ∧ V.cell? ⟨B, 5, none⟩ = some (.slice q.v m.vals.length q.vc) ∧ V.cell? ⟨B, 6, none⟩ = some (.slice q.i m.kids.length q.ic) := by
  subst hV
  have f : Fr (fun k => k = tb) W (W.setCell ⟨tb, 0, none⟩ (.slice a n c)) := (Fr.refl (fun k => k = tb) W).setCell (p := ⟨tb, 0, none⟩) (fun _ => rfl) _
  exact ⟨(tree_cells (tree_set0 h.1 _)).1, (rec_cells (f.blk h.2.1 h1)).1, box_cells (f.blk h.2.2.1 h2)⟩
set_option maxRecDepth 100000 in
set_option maxHeartbeats 8000000 in
theorem do_yes (r : Rec) (hkz : r.key.size ≤ 140737488351232) (hvz : r.val.size ≤ 140737488351232) (tb mb : Nat) (a : Option Addr) (n c : Nat) (lp : List Sl) (last : Int) (hf : lp.length ≤ 10000) (hr : Rise lp) (hb : hasB lp r.page = true) (s : Sl) (hs : lp[ahead lp r.page]? = some s) (hE : apE s.nd true r = 0) (w : World) (h : TrS w tb mb a n c lp last) :
    Calls Tryz.prog 18 #[.pointer (some ⟨tb, 0, none⟩), (.agg #[.int .i64 r.lsn, .int .i64 r.ep, .int .i64 r.kind, .int .i64 r.page, .int .i64 r.other, .int .i64 r.req, .string r.key, .string r.val])] w fun e w' => ∃ q, e = .returned (.int .i64 0) ∧ Nw w q ∧ TrS w' tb mb a n c (lp.set (ahead lp r.page) ⟨r.page, apN s.nd true r, q⟩) last ∧ Fr (fun k => (Value.slice a n c).ownBlock = some k ∨ k = tb ∨ k = mb) w w' := by
  have f0 := Fr.box w (.cells #[.int .i64 r.lsn, .int .i64 r.ep, .int .i64 r.kind, .int .i64 r.page, .int .i64 r.other, .int .i64 r.req, .string r.key, .string r.val] 35)
  have h1 := h.same f0
  have htl : tb < w.heap.size := lt_of_block h.tr.box
  have hml : mb < w.heap.size := by obtain ⟨U, hU⟩ := h.tr.map; exact hU.lt
  have HSX : Hid (∀ W, Fr (fun _ => False) (w.alloc (.cells #[.int .i64 r.lsn, .int .i64 r.ep, .int .i64 r.kind, .int .i64 r.page, .int .i64 r.other, .int .i64 r.req, .string r.key, .string r.val] 35)) W → TrS W tb mb a n c lp last) := fun W f => h1.same f
  have HRB : Hid (∀ W, Fr (fun _ => False) (w.alloc (.cells #[.int .i64 r.lsn, .int .i64 r.ep, .int .i64 r.kind, .int .i64 r.page, .int .i64 r.other, .int .i64 r.req, .string r.key, .string r.val] 35)) W → W.heap[w.heap.size]? = some (.cells #[.int .i64 r.lsn, .int .i64 r.ep, .int .i64 r.kind, .int .i64 r.page, .int .i64 r.other, .int .i64 r.req, .string r.key, .string r.val] 35 (0, 0))) := fun W f => f.blk (heap_alloc_new w _) (fun f => f)
  have HQ : Hid (∀ W, Fr (fun _ => False) (w.alloc (.cells #[.int .i64 r.lsn, .int .i64 r.ep, .int .i64 r.kind, .int .i64 r.page, .int .i64 r.other, .int .i64 r.req, .string r.key, .string r.val] 35)) W → (W.cell? ⟨tb, 0, none⟩ = some (.slice a n c) ∧ W.cell? ⟨tb, 1, none⟩ = some (.pointer (some ⟨mb, 0, none⟩)) ∧ W.cell? ⟨tb, 2, none⟩ = some (.int .i64 last)) ∧ W.cell? ⟨w.heap.size, 0, none⟩ = some (.int .i64 r.lsn) ∧ W.cell? ⟨w.heap.size, 1, none⟩ = some (.int .i64 r.ep) ∧ W.cell? ⟨w.heap.size, 2, none⟩ = some (.int .i64 r.kind) ∧ W.cell? ⟨w.heap.size, 3, none⟩ = some (.int .i64 r.page) ∧ W.cell? ⟨w.heap.size, 4, none⟩ = some (.int .i64 r.other) ∧ W.cell? ⟨w.heap.size, 5, none⟩ = some (.int .i64 r.req) ∧ W.cell? ⟨w.heap.size, 6, none⟩ = some (.string r.key) ∧ W.cell? ⟨w.heap.size, 7, none⟩ = some (.string r.val)) := fun W f => ⟨(tree_cells (HSX.out W f).tr.box).1, (rec_cells (HRB.out W f)).1⟩
  have g0 := (Fr.refl (fun _ => False) (w.alloc (.cells #[.int .i64 r.lsn, .int .i64 r.ep, .int .i64 r.kind, .int .i64 r.page, .int .i64 r.other, .int .i64 r.req, .string r.key, .string r.val] 35))).drew
  have ga := ((Fr.refl (fun _ => False) (w.alloc (.cells #[.int .i64 r.lsn, .int .i64 r.ep, .int .i64 r.kind, .int .i64 r.page, .int .i64 r.other, .int .i64 r.req, .string r.key, .string r.val] 35))).alloc (.cells #[.int .i64 0, .int .i64 0, .int .i64 0, .string ⟨#[]⟩, .slice none 0 0, .slice none 0 0, .slice none 0 0] 28)).drew
  have hba : ((w.alloc (.cells #[.int .i64 r.lsn, .int .i64 r.ep, .int .i64 r.kind, .int .i64 r.page, .int .i64 r.other, .int .i64 r.req, .string r.key, .string r.val] 35)).alloc (.cells #[.int .i64 0, .int .i64 0, .int .i64 0, .string ⟨#[]⟩, .slice none 0 0, .slice none 0 0, .slice none 0 0] 28)).drew.heap[w.heap.size + 1]? = some (.cells #[.int .i64 0, .int .i64 0, .int .i64 0, .string ⟨#[]⟩, .slice none 0 0, .slice none 0 0, .slice none 0 0] 28 (0, 0)) := by
    have := heap_alloc_new (w.alloc (.cells #[.int .i64 r.lsn, .int .i64 r.ep, .int .i64 r.kind, .int .i64 r.page, .int .i64 r.other, .int .i64 r.req, .string r.key, .string r.val] 35)) (.cells #[.int .i64 0, .int .i64 0, .int .i64 0, .string ⟨#[]⟩, .slice none 0 0, .slice none 0 0, .slice none 0 0] 28)
    rw [show (w.alloc (.cells #[.int .i64 r.lsn, .int .i64 r.ep, .int .i64 r.kind, .int .i64 r.page, .int .i64 r.other, .int .i64 r.req, .string r.key, .string r.val] 35)).heap.size = w.heap.size + 1 by simp] at this
    exact this
  have q0 := HQ.out _ g0
  have qa := HQ.out _ ga
  have hnb : w.heap.size + 1 < (w.alloc (.cells #[.int .i64 r.lsn, .int .i64 r.ep, .int .i64 r.kind, .int .i64 r.page, .int .i64 r.other, .int .i64 r.req, .string r.key, .string r.val] 35)).heap.size → False := fun h => by simp at h
  have hfi := fun W (f : Fr (fun _ => False) (w.alloc (.cells #[.int .i64 r.lsn, .int .i64 r.ep, .int .i64 r.kind, .int .i64 r.page, .int .i64 r.other, .int .i64 r.req, .string r.key, .string r.val] 35)) W) => bfind_yes (bfind_any a n c lp h.len (by omega) hr r.page W ((h1.same f).sv.slots h.len)) hb hs
  have hsm : s ∈ lp := List.mem_of_getElem? hs
  have HND : Hid (∀ W, Fr (fun _ => False) (w.alloc (.cells #[.int .i64 r.lsn, .int .i64 r.ep, .int .i64 r.kind, .int .i64 r.page, .int .i64 r.other, .int .i64 r.req, .string r.key, .string r.val] 35)) W → Nod W s.nd s.pt) := fun W f => (h1.same f).sv.nod s hsm
  have hap := fun W (f : Fr (fun _ => False) (w.alloc (.cells #[.int .i64 r.lsn, .int .i64 r.ep, .int .i64 r.kind, .int .i64 r.page, .int .i64 r.other, .int .i64 r.req, .string r.key, .string r.val] 35)) W) => apply_any s.nd s.pt true r hkz hvz W (HND.out W f)
  rw [hE] at hap
  have hwi := fun m q W (hS : Sv W (.slice a n c) lp) (hN : Nod W m q) (hO : Off (fun k => (Value.slice a n c).ownBlock = some k) m q) => bwith_yes a n c lp r.page m q h.len hf hr hb W hS hN hO
  have HLE : Hid (n = lp.length) := h.len
  have HOW : Hid (∀ g, (Value.slice a n c).ownBlock = some g → g ≠ tb ∧ g ≠ mb) := h.own
  have HLO : Hid (∀ g, (Value.slice a n c).ownBlock = some g → g < w.heap.size) := fun g e => h.sv.has.lt e
  have HOF : Hid (∀ s ∈ lp, Off (fun k => k = tb ∨ k = mb) s.nd s.pt) := h.off
  have hne := h.tr.ne
  unfold ApOut at hap
  generalize apN s.nd true r = m at *
  generalize apD s.nd true r = d at *
  generalize ahead lp r.page = ix at *
  clear h h1 hr hb hs hE hf hkz hvz hsm
  go_enter Tryz.func18, Tryz.ntmps18
  go_wp2_with fail
  go_region_held3 (fun W => (W.cell? ⟨tb, 0, none⟩ = some (.slice a n c) ∧ W.cell? ⟨tb, 1, none⟩ = some (.pointer (some ⟨mb, 0, none⟩)) ∧ W.cell? ⟨tb, 2, none⟩ = some (.int .i64 last)) ∧ W.cell? ⟨w.heap.size, 0, none⟩ = some (.int .i64 r.lsn) ∧ W.cell? ⟨w.heap.size, 1, none⟩ = some (.int .i64 r.ep) ∧ W.cell? ⟨w.heap.size, 2, none⟩ = some (.int .i64 r.kind) ∧ W.cell? ⟨w.heap.size, 3, none⟩ = some (.int .i64 r.page) ∧ W.cell? ⟨w.heap.size, 4, none⟩ = some (.int .i64 r.other) ∧ W.cell? ⟨w.heap.size, 5, none⟩ = some (.int .i64 r.req) ∧ W.cell? ⟨w.heap.size, 6, none⟩ = some (.string r.key) ∧ W.cell? ⟨w.heap.size, 7, none⟩ = some (.string r.val))
    (first | with_reducible exact q0 | with_reducible exact qa | with_reducible exact q1 | with_reducible exact q2 | with_reducible exact q3 | with_reducible exact q4)
    (first
      | (go_at_call 15; refine (hfi _ g0).mono ?_; rintro en w1 ⟨rfl, m1⟩; have fr1 := g0.seq' m1; have q1 := HQ.out _ fr1; have fr2 := fr1.alloc (.cells #[.int .i64 0, .int .i64 0, .int .i64 0, .string ⟨#[]⟩, .slice none 0 0, .slice none 0 0, .slice none 0 0] 28); have q2 := HQ.out _ fr2; have fr3 := fr1.alloc (.cells #[.int .i64 s.nd.lev, .int .i64 s.nd.lsn, .int .i64 s.nd.rgt, .string s.nd.high, .slice s.pt.k s.nd.keys.length s.pt.kc, .slice s.pt.v s.nd.vals.length s.pt.vc, .slice s.pt.i s.nd.kids.length s.pt.ic] 28); have q3 := HQ.out _ fr3)
      | (go_at_call 15; refine (hfi _ ga).mono ?_; rintro en w1 ⟨rfl, m1⟩; have frb := ga.seq' m1; have q1 := HQ.out _ frb; have b1 := m1.blk hba (fun f => f); obtain ⟨⟨r0, r1, r2, r3, r4, r5, r6⟩, rz⟩ := node_cells b1; have z0 := rz 0; have z1 := rz 1; have z2 := rz 2; have z3 := rz 3; have z4 := rz 4; have z5 := rz 5; have z6 := rz 6; obtain ⟨hq1, fq1⟩ := fin7 b1 (.int .i64 s.nd.lev) (.int .i64 s.nd.lsn) (.int .i64 s.nd.rgt) (.string s.nd.high) (.slice s.pt.k s.nd.keys.length s.pt.kc) (.slice s.pt.v s.nd.vals.length s.pt.vc) (.slice s.pt.i s.nd.kids.length s.pt.ic); have fr4 := frb.trans fq1 (S := fun _ => False) (fun i hi e => by subst e; exact hnb hi); have q4 := HQ.out _ fr4))
  · have hB := heap_alloc_new w1 (.cells #[.int .i64 s.nd.lev, .int .i64 s.nd.lsn, .int .i64 s.nd.rgt, .string s.nd.high, .slice s.pt.k s.nd.keys.length s.pt.kc, .slice s.pt.v s.nd.vals.length s.pt.vc, .slice s.pt.i s.nd.kids.length s.pt.ic] 28)
    have fr5 := fr3
    have hBg : w.heap.size < w1.heap.size := by have := fr1.size; simp at this; omega
    clear q0 qa q1 q2 q3 fr1 fr2 fr3 m1 hba ga g0 hnb hfi
    generalize w1.alloc (.cells #[.int .i64 s.nd.lev, .int .i64 s.nd.lsn, .int .i64 s.nd.rgt, .string s.nd.high, .slice s.pt.k s.nd.keys.length s.pt.kc, .slice s.pt.v s.nd.vals.length s.pt.vc, .slice s.pt.i s.nd.kids.length s.pt.ic] 28) = W5 at *
    generalize w1.heap.size = B5 at *
    obtain ⟨x0, x1, x2, x3, x4, x5, x6⟩ := box_cells hB
    obtain ⟨_, y0, y1, y2, y3, y4, y5, y6, y7⟩ := HQ.out _ fr5
    go_wp2_with fail
    refine (hap _ fr5).mono ?_
    rintro e w6 ⟨q, rfl, nd6, f6, hnw⟩
    have fr6 := fr5.seq' f6
    have fr7 := fr6.alloc (.cells #[.int .i64 m.lev, .int .i64 m.lsn, .int .i64 m.rgt, .string m.high, .slice q.k m.keys.length q.kc, .slice q.v m.vals.length q.vc, .slice q.i m.kids.length q.ic] 28)
    have hB7 := heap_alloc_new w6 (.cells #[.int .i64 m.lev, .int .i64 m.lsn, .int .i64 m.rgt, .string m.high, .slice q.k m.keys.length q.kc, .slice q.v m.vals.length q.vc, .slice q.i m.kids.length q.ic] 28)
    have hz6 : w.heap.size < w6.heap.size := by have := fr6.size; simp at this; omega
    have nd7 := nd6.same (Fr.box w6 (.cells #[.int .i64 m.lev, .int .i64 m.lsn, .int .i64 m.rgt, .string m.high, .slice q.k m.keys.length q.kc, .slice q.v m.vals.length q.vc, .slice q.i m.kids.length q.ic] 28))
    have hz5 : w.heap.size ≤ W5.heap.size := by have := fr5.size; simp at this; omega
    have HNW : Hid (Nw w q) := fun b off hb => Nat.le_trans hz5 (hnw b off hb)
    have HOQ : Hid (∀ S : Nat → Prop, (∀ k, w.heap.size ≤ k → ¬ S k) → Off S m q) := fun S hS => hnw.off (fun b hb e => hS b (by omega) e)
    clear x0 x1 x2 x3 x4 x5 x6 y0 y1 y2 y3 y4 y5 y6 y7 hap fr5 fr6 f6 hnw nd6 hB hBg
    go_upto_region 5 with fail
    generalize w6.alloc (.cells #[.int .i64 m.lev, .int .i64 m.lsn, .int .i64 m.rgt, .string m.high, .slice q.k m.keys.length q.kc, .slice q.v m.vals.length q.vc, .slice q.i m.kids.length q.ic] 28) = W7 at *
    generalize w6.heap.size = B7 at *
    obtain ⟨x0, x1, x2, x3, x4, x5, x6⟩ := box_cells hB7
    have hT7 := HSX.out _ fr7
    have HQ7 : Hid (∀ W, Fr (fun k => (Value.slice a n c).ownBlock = some k) W7 W → W.heap[tb]? = some (.cells #[.slice a n c, .pointer (some ⟨mb, 0, none⟩), .int .i64 last] 58 (0, 0)) ∧ W.heap[w.heap.size]? = some (.cells #[.int .i64 r.lsn, .int .i64 r.ep, .int .i64 r.kind, .int .i64 r.page, .int .i64 r.other, .int .i64 r.req, .string r.key, .string r.val] 35 (0, 0)) ∧ W.heap[B7]? = some (.cells #[.int .i64 m.lev, .int .i64 m.lsn, .int .i64 m.rgt, .string m.high, .slice q.k m.keys.length q.kc, .slice q.v m.vals.length q.vc, .slice q.i m.kids.length q.ic] 28 (0, 0)) ∧ ∃ U, Al.Mp W mb 4096 U) := fun W f => by
      obtain ⟨U, hU⟩ := hT7.tr.map
      exact ⟨f.blk hT7.tr.box (fun e => (HOW.out tb e).1 rfl), f.blk (HRB.out _ fr7) (fun e => by have := HLO.out _ e; omega), f.blk hB7 (fun e => by have := HLO.out _ e; omega), U, hU.fr f (fun e => (HOW.out mb e).2 rfl)⟩
    have HC7 : Hid (∀ W, Fr (fun k => (Value.slice a n c).ownBlock = some k) W7 W → (W.cell? ⟨tb, 0, none⟩ = some (.slice a n c) ∧ W.cell? ⟨tb, 1, none⟩ = some (.pointer (some ⟨mb, 0, none⟩)) ∧ W.cell? ⟨tb, 2, none⟩ = some (.int .i64 last)) ∧ (W.cell? ⟨w.heap.size, 0, none⟩ = some (.int .i64 r.lsn) ∧ W.cell? ⟨w.heap.size, 1, none⟩ = some (.int .i64 r.ep) ∧ W.cell? ⟨w.heap.size, 2, none⟩ = some (.int .i64 r.kind) ∧ W.cell? ⟨w.heap.size, 3, none⟩ = some (.int .i64 r.page) ∧ W.cell? ⟨w.heap.size, 4, none⟩ = some (.int .i64 r.other) ∧ W.cell? ⟨w.heap.size, 5, none⟩ = some (.int .i64 r.req) ∧ W.cell? ⟨w.heap.size, 6, none⟩ = some (.string r.key) ∧ W.cell? ⟨w.heap.size, 7, none⟩ = some (.string r.val)) ∧ W.cell? ⟨B7, 0, none⟩ = some (.int .i64 m.lev) ∧ W.cell? ⟨B7, 1, none⟩ = some (.int .i64 m.lsn) ∧ W.cell? ⟨B7, 2, none⟩ = some (.int .i64 m.rgt) ∧ W.cell? ⟨B7, 3, none⟩ = some (.string m.high) ∧ W.cell? ⟨B7, 4, none⟩ = some (.slice q.k m.keys.length q.kc) ∧ W.cell? ⟨B7, 5, none⟩ = some (.slice q.v m.vals.length q.vc) ∧ W.cell? ⟨B7, 6, none⟩ = some (.slice q.i m.kids.length q.ic)) := fun W f => by
      obtain ⟨h1, h2, h3, _⟩ := HQ7.out W f
      exact ⟨(tree_cells h1).1, (rec_cells h2).1, box_cells h3⟩
    have HSV7 : Hid (Sv W7 (.slice a n c) lp) := hT7.sv
    have g7 := (Fr.refl (fun _ => False) W7).drew
    have g7' : Fr (fun k => (Value.slice a n c).ownBlock = some k) W7 W7.drew := g7.widen (fun _ f => f.elim)
    have q7 := HC7.out _ g7'
    have hwi2 := hwi m q _ (HSV7.out.same g7) (nd7.same g7) (HOQ.out _ (fun k hk e => by have := HLO.out k e; omega))
    clear hT7 hwi
    go_wp2_with fail
    clear x0 x1 x2 x3 x4 x5 x6
    go_region_held3 (fun W => (W.cell? ⟨tb, 0, none⟩ = some (.slice a n c) ∧ W.cell? ⟨tb, 1, none⟩ = some (.pointer (some ⟨mb, 0, none⟩)) ∧ W.cell? ⟨tb, 2, none⟩ = some (.int .i64 last)) ∧ (W.cell? ⟨w.heap.size, 0, none⟩ = some (.int .i64 r.lsn) ∧ W.cell? ⟨w.heap.size, 1, none⟩ = some (.int .i64 r.ep) ∧ W.cell? ⟨w.heap.size, 2, none⟩ = some (.int .i64 r.kind) ∧ W.cell? ⟨w.heap.size, 3, none⟩ = some (.int .i64 r.page) ∧ W.cell? ⟨w.heap.size, 4, none⟩ = some (.int .i64 r.other) ∧ W.cell? ⟨w.heap.size, 5, none⟩ = some (.int .i64 r.req) ∧ W.cell? ⟨w.heap.size, 6, none⟩ = some (.string r.key) ∧ W.cell? ⟨w.heap.size, 7, none⟩ = some (.string r.val)) ∧ W.cell? ⟨B7, 0, none⟩ = some (.int .i64 m.lev) ∧ W.cell? ⟨B7, 1, none⟩ = some (.int .i64 m.lsn) ∧ W.cell? ⟨B7, 2, none⟩ = some (.int .i64 m.rgt) ∧ W.cell? ⟨B7, 3, none⟩ = some (.string m.high) ∧ W.cell? ⟨B7, 4, none⟩ = some (.slice q.k m.keys.length q.kc) ∧ W.cell? ⟨B7, 5, none⟩ = some (.slice q.v m.vals.length q.vc) ∧ W.cell? ⟨B7, 6, none⟩ = some (.slice q.i m.kids.length q.ic))
      (first | with_reducible exact q7 | with_reducible exact q9 | with_reducible exact q10)
      (first
        | (go_at_call 36; refine hwi2.mono ?_; rintro e w9 ⟨rfl, hsv9, f9⟩; have fr9 := g7'.trans f9 (S := fun k => (Value.slice a n c).ownBlock = some k) (fun _ _ e => e); have q9 := HC7.out _ fr9; have hfz9 := (tree_cells (HQ7.out _ fr9).1).2 0; have q10 := set_facts (HQ7.out _ fr9) (by omega) (by omega) rfl))
    have f10 : Fr (fun k => k = tb) w9 (w9.setCell ⟨tb, 0, none⟩ (.slice a n c)) := (Fr.refl (fun k => k = tb) w9).setCell (p := ⟨tb, 0, none⟩) (fun _ => rfl) _
    obtain ⟨t9, _, _, U, hU9⟩ := HQ7.out _ fr9
    have t10 := tree_set0 t9 (.slice a n c)
    have hU10 := hU9.fr f10 (by omega)
    have hrec10 := f10.blk (HQ7.out _ fr9).2.1 (by omega)
    have HSV10 : Hid (Sv (w9.setCell ⟨tb, 0, none⟩ (.slice a n c)) (.slice a n c) (lp.set ix ⟨r.page, m, q⟩)) := hsv9.frS f10 (fun k e1 e2 => (HOW.out k e1).1 e2) (fun x hx => by
      rcases List.mem_or_eq_of_mem_set hx with hx | rfl
      · exact (HOF.out x hx).sub (fun k e => .inl e)
      · exact HOQ.out _ (fun k hk e => by omega))
    have F10 : Fr (fun k => (Value.slice a n c).ownBlock = some k ∨ k = tb ∨ k = mb) w (w9.setCell ⟨tb, 0, none⟩ (.slice a n c)) := (((f0.seq' fr7).widen (T := fun k => (Value.slice a n c).ownBlock = some k ∨ k = tb ∨ k = mb) (fun _ f => f.elim)).trans fr9 (fun i _ e => .inl e)).trans f10 (fun i _ e => .inr (.inl e))
    clear q7 q9 q10 hwi2 hsv9 t9 hU9 f10 f9 g7 g7' hfz9 fr9 hB7
    generalize w9.setCell ⟨tb, 0, none⟩ (.slice a n c) = W10 at *
    have g10 := (Fr.refl (fun _ => False) W10).drew
    have HC10 : Hid (∀ W, Fr (fun k => k = mb) W10 W → (W.cell? ⟨tb, 0, none⟩ = some (.slice a n c) ∧ W.cell? ⟨tb, 1, none⟩ = some (.pointer (some ⟨mb, 0, none⟩)) ∧ W.cell? ⟨tb, 2, none⟩ = some (.int .i64 last)) ∧ W.cell? ⟨w.heap.size, 0, none⟩ = some (.int .i64 r.lsn) ∧ W.cell? ⟨w.heap.size, 1, none⟩ = some (.int .i64 r.ep) ∧ W.cell? ⟨w.heap.size, 2, none⟩ = some (.int .i64 r.kind) ∧ W.cell? ⟨w.heap.size, 3, none⟩ = some (.int .i64 r.page) ∧ W.cell? ⟨w.heap.size, 4, none⟩ = some (.int .i64 r.other) ∧ W.cell? ⟨w.heap.size, 5, none⟩ = some (.int .i64 r.req) ∧ W.cell? ⟨w.heap.size, 6, none⟩ = some (.string r.key) ∧ W.cell? ⟨w.heap.size, 7, none⟩ = some (.string r.val)) := fun W f => ⟨(tree_cells (f.blk t10 (by omega))).1, (rec_cells (f.blk hrec10 (by omega))).1⟩
    have q10 := HC10.out _ (g10.widen (fun _ f => f.elim))
    have HT10 : Hid (W10.heap[tb]? = some (.cells #[.slice a n c, .pointer (some ⟨mb, 0, none⟩), .int .i64 last] 58 (0, 0))) := t10
    have hmk := Al.mark_any mb 4096 U _ (hU10.same g10) r.page
    obtain ⟨re, hre⟩ : ∃ x, x = Al.setE 4096 U true r.page := ⟨_, rfl⟩
    rw [← hre] at hmk
    clear hre hU10 t10 hrec10
    go_wp2_with fail
    go_region_held3 (fun W => (W.cell? ⟨tb, 0, none⟩ = some (.slice a n c) ∧ W.cell? ⟨tb, 1, none⟩ = some (.pointer (some ⟨mb, 0, none⟩)) ∧ W.cell? ⟨tb, 2, none⟩ = some (.int .i64 last)) ∧ W.cell? ⟨w.heap.size, 0, none⟩ = some (.int .i64 r.lsn) ∧ W.cell? ⟨w.heap.size, 1, none⟩ = some (.int .i64 r.ep) ∧ W.cell? ⟨w.heap.size, 2, none⟩ = some (.int .i64 r.kind) ∧ W.cell? ⟨w.heap.size, 3, none⟩ = some (.int .i64 r.page) ∧ W.cell? ⟨w.heap.size, 4, none⟩ = some (.int .i64 r.other) ∧ W.cell? ⟨w.heap.size, 5, none⟩ = some (.int .i64 r.req) ∧ W.cell? ⟨w.heap.size, 6, none⟩ = some (.string r.key) ∧ W.cell? ⟨w.heap.size, 7, none⟩ = some (.string r.val))
      (first | with_reducible exact q10 | with_reducible exact q11)
      (first | (go_at_call 37; refine hmk.mono ?_; rintro e w11 ⟨rfl, hmp11, f11⟩; have G11 : Fr (fun k => k = mb) W10 w11 := (g10.widen (T := fun k => k = mb) (fun _ f => f.elim)).trans f11 (fun _ _ e => e); have q11 := HC10.out _ G11))
    have HF : Hid (TrS w11 tb mb a n c (lp.set ix ⟨r.page, m, q⟩) last) := ⟨⟨G11.blk HT10.out (by omega), ⟨_, hmp11⟩, hne⟩, by rw [List.length_set]; exact HLE.out, HSV10.out.frS G11 (fun k e1 e2 => (HOW.out k e1).2 e2) (fun x hx => by
      rcases List.mem_or_eq_of_mem_set hx with hx | rfl
      · exact (HOF.out x hx).sub (fun k e => .inr e)
      · exact HOQ.out _ (fun k hk e => by omega)), HOW.out, fun x hx => by
      rcases List.mem_or_eq_of_mem_set hx with hx | rfl
      · exact HOF.out x hx
      · exact HOQ.out _ (fun k hk e => by omega)⟩
    have F11 := F10.trans G11 (S := fun k => (Value.slice a n c).ownBlock = some k ∨ k = tb ∨ k = mb) (fun i _ e => .inr (.inr e))
    clear q10 q11 hmk hmp11 f11 g10
    go_wp2
    go_ret
    exact ⟨q, rfl, HNW.out, HF.out, F11⟩
  · have hB := hq1
    have fr5 := fr4
    have hBg : w.heap.size < w.heap.size + 1 := by omega
    clear q0 qa q1 q4 frb fr4 m1 hba ga g0 hnb hfi b1 r0 r1 r2 r3 r4 r5 r6 rz z0 z1 z2 z3 z4 z5 z6 fq1 hq1
    generalize (((((((w1.setCell ⟨w.heap.size + 1, 0, none⟩ (.int .i64 s.nd.lev)).setCell ⟨w.heap.size + 1, 1, none⟩ (.int .i64 s.nd.lsn)).setCell ⟨w.heap.size + 1, 2, none⟩ (.int .i64 s.nd.rgt)).setCell ⟨w.heap.size + 1, 3, none⟩ (.string s.nd.high)).setCell ⟨w.heap.size + 1, 4, none⟩ (.slice s.pt.k s.nd.keys.length s.pt.kc)).setCell ⟨w.heap.size + 1, 5, none⟩ (.slice s.pt.v s.nd.vals.length s.pt.vc)).setCell ⟨w.heap.size + 1, 6, none⟩ (.slice s.pt.i s.nd.kids.length s.pt.ic)) = W5 at *
    generalize hb5 : w.heap.size + 1 = B5 at *
    obtain ⟨x0, x1, x2, x3, x4, x5, x6⟩ := box_cells hB
    obtain ⟨_, y0, y1, y2, y3, y4, y5, y6, y7⟩ := HQ.out _ fr5
    go_wp2_with fail
    refine (hap _ fr5).mono ?_
    rintro e w6 ⟨q, rfl, nd6, f6, hnw⟩
    have fr6 := fr5.seq' f6
    have fr7 := fr6.alloc (.cells #[.int .i64 m.lev, .int .i64 m.lsn, .int .i64 m.rgt, .string m.high, .slice q.k m.keys.length q.kc, .slice q.v m.vals.length q.vc, .slice q.i m.kids.length q.ic] 28)
    have hB7 := heap_alloc_new w6 (.cells #[.int .i64 m.lev, .int .i64 m.lsn, .int .i64 m.rgt, .string m.high, .slice q.k m.keys.length q.kc, .slice q.v m.vals.length q.vc, .slice q.i m.kids.length q.ic] 28)
    have hz6 : w.heap.size < w6.heap.size := by have := fr6.size; simp at this; omega
    have nd7 := nd6.same (Fr.box w6 (.cells #[.int .i64 m.lev, .int .i64 m.lsn, .int .i64 m.rgt, .string m.high, .slice q.k m.keys.length q.kc, .slice q.v m.vals.length q.vc, .slice q.i m.kids.length q.ic] 28))
    have hz5 : w.heap.size ≤ W5.heap.size := by have := fr5.size; simp at this; omega
    have HNW : Hid (Nw w q) := fun b off hb => Nat.le_trans hz5 (hnw b off hb)
    have HOQ : Hid (∀ S : Nat → Prop, (∀ k, w.heap.size ≤ k → ¬ S k) → Off S m q) := fun S hS => hnw.off (fun b hb e => hS b (by omega) e)
    clear x0 x1 x2 x3 x4 x5 x6 y0 y1 y2 y3 y4 y5 y6 y7 hap fr5 fr6 f6 hnw nd6 hB hBg
    go_upto_region 5 with fail
    generalize w6.alloc (.cells #[.int .i64 m.lev, .int .i64 m.lsn, .int .i64 m.rgt, .string m.high, .slice q.k m.keys.length q.kc, .slice q.v m.vals.length q.vc, .slice q.i m.kids.length q.ic] 28) = W7 at *
    generalize w6.heap.size = B7 at *
    obtain ⟨x0, x1, x2, x3, x4, x5, x6⟩ := box_cells hB7
    have hT7 := HSX.out _ fr7
    have HQ7 : Hid (∀ W, Fr (fun k => (Value.slice a n c).ownBlock = some k) W7 W → W.heap[tb]? = some (.cells #[.slice a n c, .pointer (some ⟨mb, 0, none⟩), .int .i64 last] 58 (0, 0)) ∧ W.heap[w.heap.size]? = some (.cells #[.int .i64 r.lsn, .int .i64 r.ep, .int .i64 r.kind, .int .i64 r.page, .int .i64 r.other, .int .i64 r.req, .string r.key, .string r.val] 35 (0, 0)) ∧ W.heap[B7]? = some (.cells #[.int .i64 m.lev, .int .i64 m.lsn, .int .i64 m.rgt, .string m.high, .slice q.k m.keys.length q.kc, .slice q.v m.vals.length q.vc, .slice q.i m.kids.length q.ic] 28 (0, 0)) ∧ ∃ U, Al.Mp W mb 4096 U) := fun W f => by
      obtain ⟨U, hU⟩ := hT7.tr.map
      exact ⟨f.blk hT7.tr.box (fun e => (HOW.out tb e).1 rfl), f.blk (HRB.out _ fr7) (fun e => by have := HLO.out _ e; omega), f.blk hB7 (fun e => by have := HLO.out _ e; omega), U, hU.fr f (fun e => (HOW.out mb e).2 rfl)⟩
    have HC7 : Hid (∀ W, Fr (fun k => (Value.slice a n c).ownBlock = some k) W7 W → (W.cell? ⟨tb, 0, none⟩ = some (.slice a n c) ∧ W.cell? ⟨tb, 1, none⟩ = some (.pointer (some ⟨mb, 0, none⟩)) ∧ W.cell? ⟨tb, 2, none⟩ = some (.int .i64 last)) ∧ (W.cell? ⟨w.heap.size, 0, none⟩ = some (.int .i64 r.lsn) ∧ W.cell? ⟨w.heap.size, 1, none⟩ = some (.int .i64 r.ep) ∧ W.cell? ⟨w.heap.size, 2, none⟩ = some (.int .i64 r.kind) ∧ W.cell? ⟨w.heap.size, 3, none⟩ = some (.int .i64 r.page) ∧ W.cell? ⟨w.heap.size, 4, none⟩ = some (.int .i64 r.other) ∧ W.cell? ⟨w.heap.size, 5, none⟩ = some (.int .i64 r.req) ∧ W.cell? ⟨w.heap.size, 6, none⟩ = some (.string r.key) ∧ W.cell? ⟨w.heap.size, 7, none⟩ = some (.string r.val)) ∧ W.cell? ⟨B7, 0, none⟩ = some (.int .i64 m.lev) ∧ W.cell? ⟨B7, 1, none⟩ = some (.int .i64 m.lsn) ∧ W.cell? ⟨B7, 2, none⟩ = some (.int .i64 m.rgt) ∧ W.cell? ⟨B7, 3, none⟩ = some (.string m.high) ∧ W.cell? ⟨B7, 4, none⟩ = some (.slice q.k m.keys.length q.kc) ∧ W.cell? ⟨B7, 5, none⟩ = some (.slice q.v m.vals.length q.vc) ∧ W.cell? ⟨B7, 6, none⟩ = some (.slice q.i m.kids.length q.ic)) := fun W f => by
      obtain ⟨h1, h2, h3, _⟩ := HQ7.out W f
      exact ⟨(tree_cells h1).1, (rec_cells h2).1, box_cells h3⟩
    have HSV7 : Hid (Sv W7 (.slice a n c) lp) := hT7.sv
    have g7 := (Fr.refl (fun _ => False) W7).drew
    have g7' : Fr (fun k => (Value.slice a n c).ownBlock = some k) W7 W7.drew := g7.widen (fun _ f => f.elim)
    have q7 := HC7.out _ g7'
    have hwi2 := hwi m q _ (HSV7.out.same g7) (nd7.same g7) (HOQ.out _ (fun k hk e => by have := HLO.out k e; omega))
    clear hT7 hwi
    go_wp2_with fail
    clear x0 x1 x2 x3 x4 x5 x6
    go_region_held3 (fun W => (W.cell? ⟨tb, 0, none⟩ = some (.slice a n c) ∧ W.cell? ⟨tb, 1, none⟩ = some (.pointer (some ⟨mb, 0, none⟩)) ∧ W.cell? ⟨tb, 2, none⟩ = some (.int .i64 last)) ∧ (W.cell? ⟨w.heap.size, 0, none⟩ = some (.int .i64 r.lsn) ∧ W.cell? ⟨w.heap.size, 1, none⟩ = some (.int .i64 r.ep) ∧ W.cell? ⟨w.heap.size, 2, none⟩ = some (.int .i64 r.kind) ∧ W.cell? ⟨w.heap.size, 3, none⟩ = some (.int .i64 r.page) ∧ W.cell? ⟨w.heap.size, 4, none⟩ = some (.int .i64 r.other) ∧ W.cell? ⟨w.heap.size, 5, none⟩ = some (.int .i64 r.req) ∧ W.cell? ⟨w.heap.size, 6, none⟩ = some (.string r.key) ∧ W.cell? ⟨w.heap.size, 7, none⟩ = some (.string r.val)) ∧ W.cell? ⟨B7, 0, none⟩ = some (.int .i64 m.lev) ∧ W.cell? ⟨B7, 1, none⟩ = some (.int .i64 m.lsn) ∧ W.cell? ⟨B7, 2, none⟩ = some (.int .i64 m.rgt) ∧ W.cell? ⟨B7, 3, none⟩ = some (.string m.high) ∧ W.cell? ⟨B7, 4, none⟩ = some (.slice q.k m.keys.length q.kc) ∧ W.cell? ⟨B7, 5, none⟩ = some (.slice q.v m.vals.length q.vc) ∧ W.cell? ⟨B7, 6, none⟩ = some (.slice q.i m.kids.length q.ic))
      (first | with_reducible exact q7 | with_reducible exact q9 | with_reducible exact q10)
      (first
        | (go_at_call 36; refine hwi2.mono ?_; rintro e w9 ⟨rfl, hsv9, f9⟩; have fr9 := g7'.trans f9 (S := fun k => (Value.slice a n c).ownBlock = some k) (fun _ _ e => e); have q9 := HC7.out _ fr9; have hfz9 := (tree_cells (HQ7.out _ fr9).1).2 0; have q10 := set_facts (HQ7.out _ fr9) (by omega) (by omega) rfl))
    have f10 : Fr (fun k => k = tb) w9 (w9.setCell ⟨tb, 0, none⟩ (.slice a n c)) := (Fr.refl (fun k => k = tb) w9).setCell (p := ⟨tb, 0, none⟩) (fun _ => rfl) _
    obtain ⟨t9, _, _, U, hU9⟩ := HQ7.out _ fr9
    have t10 := tree_set0 t9 (.slice a n c)
    have hU10 := hU9.fr f10 (by omega)
    have hrec10 := f10.blk (HQ7.out _ fr9).2.1 (by omega)
    have HSV10 : Hid (Sv (w9.setCell ⟨tb, 0, none⟩ (.slice a n c)) (.slice a n c) (lp.set ix ⟨r.page, m, q⟩)) := hsv9.frS f10 (fun k e1 e2 => (HOW.out k e1).1 e2) (fun x hx => by
      rcases List.mem_or_eq_of_mem_set hx with hx | rfl
      · exact (HOF.out x hx).sub (fun k e => .inl e)
      · exact HOQ.out _ (fun k hk e => by omega))
    have F10 : Fr (fun k => (Value.slice a n c).ownBlock = some k ∨ k = tb ∨ k = mb) w (w9.setCell ⟨tb, 0, none⟩ (.slice a n c)) := (((f0.seq' fr7).widen (T := fun k => (Value.slice a n c).ownBlock = some k ∨ k = tb ∨ k = mb) (fun _ f => f.elim)).trans fr9 (fun i _ e => .inl e)).trans f10 (fun i _ e => .inr (.inl e))
    clear q7 q9 q10 hwi2 hsv9 t9 hU9 f10 f9 g7 g7' hfz9 fr9 hB7
    generalize w9.setCell ⟨tb, 0, none⟩ (.slice a n c) = W10 at *
    have g10 := (Fr.refl (fun _ => False) W10).drew
    have HC10 : Hid (∀ W, Fr (fun k => k = mb) W10 W → (W.cell? ⟨tb, 0, none⟩ = some (.slice a n c) ∧ W.cell? ⟨tb, 1, none⟩ = some (.pointer (some ⟨mb, 0, none⟩)) ∧ W.cell? ⟨tb, 2, none⟩ = some (.int .i64 last)) ∧ W.cell? ⟨w.heap.size, 0, none⟩ = some (.int .i64 r.lsn) ∧ W.cell? ⟨w.heap.size, 1, none⟩ = some (.int .i64 r.ep) ∧ W.cell? ⟨w.heap.size, 2, none⟩ = some (.int .i64 r.kind) ∧ W.cell? ⟨w.heap.size, 3, none⟩ = some (.int .i64 r.page) ∧ W.cell? ⟨w.heap.size, 4, none⟩ = some (.int .i64 r.other) ∧ W.cell? ⟨w.heap.size, 5, none⟩ = some (.int .i64 r.req) ∧ W.cell? ⟨w.heap.size, 6, none⟩ = some (.string r.key) ∧ W.cell? ⟨w.heap.size, 7, none⟩ = some (.string r.val)) := fun W f => ⟨(tree_cells (f.blk t10 (by omega))).1, (rec_cells (f.blk hrec10 (by omega))).1⟩
    have q10 := HC10.out _ (g10.widen (fun _ f => f.elim))
    have HT10 : Hid (W10.heap[tb]? = some (.cells #[.slice a n c, .pointer (some ⟨mb, 0, none⟩), .int .i64 last] 58 (0, 0))) := t10
    have hmk := Al.mark_any mb 4096 U _ (hU10.same g10) r.page
    obtain ⟨re, hre⟩ : ∃ x, x = Al.setE 4096 U true r.page := ⟨_, rfl⟩
    rw [← hre] at hmk
    clear hre hU10 t10 hrec10
    go_wp2_with fail
    go_region_held3 (fun W => (W.cell? ⟨tb, 0, none⟩ = some (.slice a n c) ∧ W.cell? ⟨tb, 1, none⟩ = some (.pointer (some ⟨mb, 0, none⟩)) ∧ W.cell? ⟨tb, 2, none⟩ = some (.int .i64 last)) ∧ W.cell? ⟨w.heap.size, 0, none⟩ = some (.int .i64 r.lsn) ∧ W.cell? ⟨w.heap.size, 1, none⟩ = some (.int .i64 r.ep) ∧ W.cell? ⟨w.heap.size, 2, none⟩ = some (.int .i64 r.kind) ∧ W.cell? ⟨w.heap.size, 3, none⟩ = some (.int .i64 r.page) ∧ W.cell? ⟨w.heap.size, 4, none⟩ = some (.int .i64 r.other) ∧ W.cell? ⟨w.heap.size, 5, none⟩ = some (.int .i64 r.req) ∧ W.cell? ⟨w.heap.size, 6, none⟩ = some (.string r.key) ∧ W.cell? ⟨w.heap.size, 7, none⟩ = some (.string r.val))
      (first | with_reducible exact q10 | with_reducible exact q11)
      (first | (go_at_call 37; refine hmk.mono ?_; rintro e w11 ⟨rfl, hmp11, f11⟩; have G11 : Fr (fun k => k = mb) W10 w11 := (g10.widen (T := fun k => k = mb) (fun _ f => f.elim)).trans f11 (fun _ _ e => e); have q11 := HC10.out _ G11))
    have HF : Hid (TrS w11 tb mb a n c (lp.set ix ⟨r.page, m, q⟩) last) := ⟨⟨G11.blk HT10.out (by omega), ⟨_, hmp11⟩, hne⟩, by rw [List.length_set]; exact HLE.out, HSV10.out.frS G11 (fun k e1 e2 => (HOW.out k e1).2 e2) (fun x hx => by
      rcases List.mem_or_eq_of_mem_set hx with hx | rfl
      · exact (HOF.out x hx).sub (fun k e => .inr e)
      · exact HOQ.out _ (fun k hk e => by omega)), HOW.out, fun x hx => by
      rcases List.mem_or_eq_of_mem_set hx with hx | rfl
      · exact HOF.out x hx
      · exact HOQ.out _ (fun k hk e => by omega)⟩
    have F11 := F10.trans G11 (S := fun k => (Value.slice a n c).ownBlock = some k ∨ k = tb ∨ k = mb) (fun i _ e => .inr (.inr e))
    clear q10 q11 hmk hmp11 f11 g10
    go_wp2
    go_ret
    exact ⟨q, rfl, HNW.out, HF.out, F11⟩
end Go.Proofs.YtnckmajfmkkpgaaGreat

/- A tree says a record of a page that is there. -/
namespace Go.Proofs.YtnckmajfmkkpgaaGreat
open Go.RowKit

theorem TrS.frS {S : Nat → Prop} {w w' : World} {tb mb : Nat} {a : Option Addr} {n c : Nat} {lp : List Sl} {last : Int} (h : TrS w tb mb a n c lp last) (f : Fr S w w') (h1 : ¬ S tb) (h2 : ¬ S mb) (h3 : ∀ g, (Value.slice a n c).ownBlock = some g → ¬ S g) (h4 : ∀ s ∈ lp, Off S s.nd s.pt) : TrS w' tb mb a n c lp last :=
  ⟨h.tr.fr f h1 h2, h.len, h.sv.frS f h3 h4, h.own, h.off⟩
def rnx (r : Rec) (l : Int) : Rec := ⟨l, r.ep, r.kind, r.page, r.other, r.req, r.key, r.val⟩
theorem tree_set2 {W : World} {b : Nat} {t : TypeId} {c0 c1 c2 : Value} (h : W.heap[b]? = some (.cells #[c0, c1, c2] t (0, 0))) (u : Value) : (W.setCell ⟨b, 2, none⟩ u).heap[b]? = some (.cells #[c0, c1, u] t (0, 0)) := cells_set h 2 u
set_option maxRecDepth 100000 in
set_option maxHeartbeats 8000000 in
theorem say_yes (r : Rec) (hkz : r.key.size ≤ 140737488351232) (hvz : r.val.size ≤ 140737488351232) (tb mb : Nat) (a : Option Addr) (n c : Nat) (lp : List Sl) (last : Int) (hl : 0 ≤ last ∧ last ≤ 4611686018427387904) (hf : lp.length ≤ 10000) (hr : Rise lp) (hb : hasB lp r.page = true) (s : Sl) (hs : lp[ahead lp r.page]? = some s) (hE : apE s.nd true (rnx r (last + 1)) = 0) (w : World) (h : TrS w tb mb a n c lp last) :
    Calls Tryz.prog 7 #[.pointer (some ⟨tb, 0, none⟩), (.agg #[.int .i64 r.lsn, .int .i64 r.ep, .int .i64 r.kind, .int .i64 r.page, .int .i64 r.other, .int .i64 r.req, .string r.key, .string r.val])] w fun e w' => ∃ q, e = .returned (.tuple #[(.agg #[.int .i64 (rnx r (last + 1)).lsn, .int .i64 (rnx r (last + 1)).ep, .int .i64 (rnx r (last + 1)).kind, .int .i64 (rnx r (last + 1)).page, .int .i64 (rnx r (last + 1)).other, .int .i64 (rnx r (last + 1)).req, .string (rnx r (last + 1)).key, .string (rnx r (last + 1)).val]), .int .i64 0]) ∧ TrS w' tb mb a n c (lp.set (ahead lp (rnx r (last + 1)).page) ⟨(rnx r (last + 1)).page, apN s.nd true (rnx r (last + 1)), q⟩) (last + 1) ∧ Fr (fun k => (Value.slice a n c).ownBlock = some k ∨ k = tb ∨ k = mb) w w' := by
  have f0 := (Fr.box w (.cells #[.int .i64 r.lsn, .int .i64 r.ep, .int .i64 r.kind, .int .i64 r.page, .int .i64 r.other, .int .i64 r.req, .string r.key, .string r.val] 35)).alloc (.cells #[.int .i64 0, .int .i64 0, .int .i64 0, .int .i64 0, .int .i64 0, .int .i64 0, .string ⟨#[]⟩, .string ⟨#[]⟩] 35)
  have htl : tb < w.heap.size := lt_of_block h.tr.box
  have hml : mb < w.heap.size := by obtain ⟨U, hU⟩ := h.tr.map; exact hU.lt
  have h1 := h.same f0
  have HLO : Hid (∀ g, (Value.slice a n c).ownBlock = some g → g < w.heap.size) := fun g e => h.sv.has.lt e
  have ha := last_some tb a n c mb last _ h1.tr
  have HSX : Hid (∀ W, Fr (fun _ => False) w W → TrS W tb mb a n c lp last) := fun W f => h.same f
  have hd := fun W hW => do_yes (rnx r (last + 1)) hkz hvz tb mb a n c lp last hf hr hb s hs hE W hW
  have HB0 : Hid (∀ W, Fr (fun _ => False) ((w.alloc (.cells #[.int .i64 r.lsn, .int .i64 r.ep, .int .i64 r.kind, .int .i64 r.page, .int .i64 r.other, .int .i64 r.req, .string r.key, .string r.val] 35)).alloc (.cells #[.int .i64 0, .int .i64 0, .int .i64 0, .int .i64 0, .int .i64 0, .int .i64 0, .string ⟨#[]⟩, .string ⟨#[]⟩] 35)) W → W.heap[w.heap.size]? = some (.cells #[.int .i64 r.lsn, .int .i64 r.ep, .int .i64 r.kind, .int .i64 r.page, .int .i64 r.other, .int .i64 r.req, .string r.key, .string r.val] 35 (0, 0)) ∧ W.heap[w.heap.size + 1]? = some (.cells #[.int .i64 0, .int .i64 0, .int .i64 0, .int .i64 0, .int .i64 0, .int .i64 0, .string ⟨#[]⟩, .string ⟨#[]⟩] 35 (0, 0))) := fun W f => by
    refine ⟨(((Fr.refl (fun _ => False) _).alloc _).seq' f).blk (heap_alloc_new w _) (fun f => f), ?_⟩
    have := f.blk (heap_alloc_new (w.alloc (.cells #[.int .i64 r.lsn, .int .i64 r.ep, .int .i64 r.kind, .int .i64 r.page, .int .i64 r.other, .int .i64 r.req, .string r.key, .string r.val] 35)) (.cells #[.int .i64 0, .int .i64 0, .int .i64 0, .int .i64 0, .int .i64 0, .int .i64 0, .string ⟨#[]⟩, .string ⟨#[]⟩] 35)) (fun f => f)
    rw [show (w.alloc (.cells #[.int .i64 r.lsn, .int .i64 r.ep, .int .i64 r.kind, .int .i64 r.page, .int .i64 r.other, .int .i64 r.req, .string r.key, .string r.val] 35)).heap.size = w.heap.size + 1 by simp] at this
    exact this
  have e1 : IntKind.i64.wrap (last + 1) = last + 1 := by simp [IntKind.wrap, IntKind.bits, IntKind.signed]; omega
  obtain ⟨rn, hrn⟩ : ∃ x, x = rnx r (last + 1) := ⟨_, rfl⟩
  rw [← hrn] at hd ⊢
  have HSET : Hid (∀ W : World, W.heap[w.heap.size]? = some (.cells #[.int .i64 r.lsn, .int .i64 r.ep, .int .i64 r.kind, .int .i64 r.page, .int .i64 r.other, .int .i64 r.req, .string r.key, .string r.val] 35 (0, 0)) → (W.setCell ⟨w.heap.size, 0, none⟩ (.int .i64 (last + 1))).heap[w.heap.size]? = some (.cells #[.int .i64 rn.lsn, .int .i64 rn.ep, .int .i64 rn.kind, .int .i64 rn.page, .int .i64 rn.other, .int .i64 rn.req, .string rn.key, .string rn.val] 35 (0, 0))) := fun W h => by
    rw [hrn]; exact rec_set0 h
  have HLS : Hid (rn.lsn = last + 1) := by show _ = _; rw [hrn]; rfl
  generalize ahead lp rn.page = ix at *
  have HOL : Hid (∀ s ∈ lp, Off (fun k => k = w.heap.size + 1) s.nd s.pt) := fun s hs => (h.sv.nod s hs).far (fun b hb e => by omega)
  generalize apN s.nd true rn = m at *
  clear h h1 hr hb hs hE hf hkz hvz hrn
  go_enter Tryz.func7, Tryz.ntmps7
  go_wp2_with fail
  refine ha.mono ?_
  rintro e w1 ⟨rfl, f1⟩
  have hx1 := HB0.out _ f1
  have hx2 := HSET.out _ hx1.1
  have g2 : Fr (fun k => k = w.heap.size) w1 (w1.setCell ⟨w.heap.size, 0, none⟩ (.int .i64 (last + 1))) := (Fr.refl (fun k => k = w.heap.size) w1).setCell (p := ⟨w.heap.size, 0, none⟩) (fun _ => rfl) _
  have hy2 := g2.blk hx1.2 (by omega)
  have F2 := (f0.seq' f1).trans g2 (S := fun _ => False) (fun i hi e => by omega)
  obtain ⟨⟨a0, a1, a2, a3, a4, a5, a6, a7⟩, za⟩ := rec_cells hx1.1
  obtain ⟨⟨b0, b1, b2, b3, b4, b5, b6, b7⟩, zb⟩ := rec_cells hx2
  have za0 := za 0
  clear hx1 za
  go_upto_region 2 with fail
  generalize w1.setCell ⟨w.heap.size, 0, none⟩ (.int .i64 (last + 1)) = W2 at *
  clear a0 a1 a2 a3 a4 a5 a6 a7 za0 g2
  go_wp2_with fail
  refine (hd _ (HSX.out _ F2)).mono ?_
  rintro e w3 ⟨q, rfl, hnw, ht3, f3⟩
  have HOQ : Hid (Off (fun k => k = w.heap.size + 1) m q) := hnw.off (fun b hb e => by have h1 := lt_of_block hy2; omega)
  have hx3 := f3.blk hx2 (fun e => by rcases e with e | e | e; · have := HLO.out _ e; omega
                                      · omega
                                      · omega)
  have hy3 := f3.blk hy2 (fun e => by rcases e with e | e | e; · have := HLO.out _ e; omega
                                      · omega
                                      · omega)
  have F3 : Fr (fun k => (Value.slice a n c).ownBlock = some k ∨ k = tb ∨ k = mb) w w3 := (F2.widen (T := fun k => (Value.slice a n c).ownBlock = some k ∨ k = tb ∨ k = mb) (fun _ f => f.elim)).trans f3 (fun i _ e => e)
  clear b0 b1 b2 b3 b4 b5 b6 b7 zb hd ha
  obtain ⟨⟨b0, b1, b2, b3, b4, b5, b6, b7⟩, _⟩ := rec_cells hx3
  obtain ⟨⟨t0, t1, t2⟩, tz⟩ := tree_cells ht3.tr.box
  have tz2 := tz 2
  have f4 : Fr (fun k => k = tb) w3 (w3.setCell ⟨tb, 2, none⟩ (.int .i64 rn.lsn)) := (Fr.refl (fun k => k = tb) w3).setCell (p := ⟨tb, 2, none⟩) (fun _ => rfl) _
  have hbx4 := tree_set2 ht3.tr.box (.int .i64 rn.lsn)
  have hx4 := f4.blk hx3 (by omega)
  have hy4 := f4.blk hy3 (by omega)
  have HT3 : Hid (TrS w3 tb mb a n c (lp.set ix ⟨rn.page, m, q⟩) last) := ht3
  have HT4 : Hid (TrS (w3.setCell ⟨tb, 2, none⟩ (.int .i64 rn.lsn)) tb mb a n c (lp.set ix ⟨rn.page, m, q⟩) (last + 1)) := by
    have h3 := HT3.out
    rw [HLS.out] at hbx4 f4 ⊢
    obtain ⟨U, hU⟩ := h3.tr.map
    exact ⟨⟨hbx4, ⟨U, hU.fr f4 (by have := h3.tr.ne; omega)⟩, h3.tr.ne⟩, h3.len, h3.sv.frS f4 (fun k e1 e2 => (h3.own k e1).1 e2) (fun x hx => (h3.off x hx).sub (fun k e => .inl e)), h3.own, h3.off⟩
  have F4 := F3.trans f4 (S := fun k => (Value.slice a n c).ownBlock = some k ∨ k = tb ∨ k = mb) (fun i _ e => .inr (.inl e))
  clear ht3 tz hbx4 hx3 hy3
  go_upto_region 6 with fail
  generalize w3.setCell ⟨tb, 2, none⟩ (.int .i64 rn.lsn) = W4 at *
  clear b0 b1 b2 b3 b4 b5 b6 b7 t0 t1 t2 tz2
  obtain ⟨⟨b0, b1, b2, b3, b4, b5, b6, b7⟩, _⟩ := rec_cells hx4
  obtain ⟨⟨z0, z1, z2, z3, z4, z5, z6, z7⟩, zz⟩ := rec_cells hy4
  have x0 := zz 0; have x1 := zz 1; have x2 := zz 2; have x3 := zz 3; have x4 := zz 4; have x5 := zz 5; have x6 := zz 6; have x7 := zz 7
  clear zz
  go_wp2
  obtain ⟨hq, ff⟩ := fin8 hy4 (.int .i64 rn.lsn) (.int .i64 rn.ep) (.int .i64 rn.kind) (.int .i64 rn.page) (.int .i64 rn.other) (.int .i64 rn.req) (.string rn.key) (.string rn.val)
  have HT5 : Hid (TrS ((((((((W4.setCell ⟨w.heap.size + 1, 0, none⟩ (.int .i64 rn.lsn)).setCell ⟨w.heap.size + 1, 1, none⟩ (.int .i64 rn.ep)).setCell ⟨w.heap.size + 1, 2, none⟩ (.int .i64 rn.kind)).setCell ⟨w.heap.size + 1, 3, none⟩ (.int .i64 rn.page)).setCell ⟨w.heap.size + 1, 4, none⟩ (.int .i64 rn.other)).setCell ⟨w.heap.size + 1, 5, none⟩ (.int .i64 rn.req)).setCell ⟨w.heap.size + 1, 6, none⟩ (.string rn.key)).setCell ⟨w.heap.size + 1, 7, none⟩ (.string rn.val)) tb mb a n c (lp.set ix ⟨rn.page, m, q⟩) (last + 1)) := by
    exact HT4.out.frS ff (by omega) (by omega) (fun g e h => by have := HLO.out g e; omega) (fun x hx => by
      rcases List.mem_or_eq_of_mem_set hx with hx | rfl
      · exact HOL.out x hx
      · exact HOQ.out)
  have fff := F4.trans ff (S := fun k => (Value.slice a n c).ownBlock = some k ∨ k = tb ∨ k = mb) (fun i hi e => by omega)
  generalize ((((((((W4.setCell ⟨w.heap.size + 1, 0, none⟩ (.int .i64 rn.lsn)).setCell ⟨w.heap.size + 1, 1, none⟩ (.int .i64 rn.ep)).setCell ⟨w.heap.size + 1, 2, none⟩ (.int .i64 rn.kind)).setCell ⟨w.heap.size + 1, 3, none⟩ (.int .i64 rn.page)).setCell ⟨w.heap.size + 1, 4, none⟩ (.int .i64 rn.other)).setCell ⟨w.heap.size + 1, 5, none⟩ (.int .i64 rn.req)).setCell ⟨w.heap.size + 1, 6, none⟩ (.string rn.key)).setCell ⟨w.heap.size + 1, 7, none⟩ (.string rn.val)) = Wf at hq fff HT5 ⊢
  obtain ⟨⟨q0, q1, q2, q3, q4, q5, q6, q7⟩, _⟩ := rec_cells hq
  exact bodyPost_ret (v := .tuple #[(.agg #[.int .i64 rn.lsn, .int .i64 rn.ep, .int .i64 rn.kind, .int .i64 rn.page, .int .i64 rn.other, .int .i64 rn.req, .string rn.key, .string rn.val]), .int .i64 0]) (by simp [results, Tryz.results7, go_sem, q0, q1, q2, q3, q4, q5, q6, q7]) rfl ⟨q, rfl, HT5.out, fff⟩
end Go.Proofs.YtnckmajfmkkpgaaGreat
