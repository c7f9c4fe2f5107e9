
/- slices.Collect of what an iterator gives. -/
import Derived.Test.YtlnkbjjohdmihaaGreatBkSpot
namespace Go.Proofs.YtlnkbjjohdmihaaGreat
open Go.RowKit Go.Shelf
attribute [local go_sem] Oper.semAt_some
theorem nine_cells {W : World} {b : Nat} {t : TypeId} {c0 c1 c2 c3 c4 c5 c6 c7 c8 : Value} (h : W.heap[b]? = some (.cells #[c0, c1, c2, c3, c4, c5, c6, c7, c8] t (0, 0))) : W.cell? ⟨b, 0, none⟩ = some c0 ∧ W.cell? ⟨b, 1, none⟩ = some c1 ∧ W.cell? ⟨b, 2, none⟩ = some c2 ∧ W.cell? ⟨b, 3, none⟩ = some c3 ∧ W.cell? ⟨b, 4, none⟩ = some c4 ∧ W.cell? ⟨b, 5, none⟩ = some c5 ∧ W.cell? ⟨b, 6, none⟩ = some c6 ∧ W.cell? ⟨b, 7, none⟩ = some c7 ∧ W.cell? ⟨b, 8, none⟩ = some c8 := by
  refine ⟨?_, ?_, ?_, ?_, ?_, ?_, ?_, ?_, ?_⟩ <;> simp [World.cell?, h]

theorem infoSpt : (Tryz.prog.info? 96).map (fun i => (i.zero, i.size, i.bytes)) = some (some (.agg #[.int .i64 0, .int .i64 0, .int .i64 0, .int .i64 0, .string ⟨#[]⟩, .slice none 0 0, .slice none 0 0, .slice none 0 0, .string ⟨#[]⟩]), 9, 136) := by kernel_rfl
/-- What gathers Spt. -/
def GthSpt (w : World) (L pre : List Spt) (W : World) : Prop := pre <+: L ∧ Fr (fun _ => False) w W ∧ ∃ v, Gat W w.heap.size (w.heap.size + 3) 65 9 v pre.length (pre.flatMap spC)
set_option maxRecDepth 100000 in
set_option maxHeartbeats 4000000 in
theorem appendSeqSpt (gf : Nat) (lb : Array Value) (eg : ∀ args w, (callFunc gf args).run Tryz.prog w = .ok (.enter gf args) w) (R : Nat → Prop) (M : List Spt → Spt → World → Prop) (L : List Spt) (hL : L.length ≤ 100000000) (w0 w : World)
    (hM : ∀ pre x W, M pre x W → pre ++ [x] <+: L) (hit : Iter Tryz.prog gf lb (fun s : Spt => #[(.agg #[.int .i64 s.page, .int .i64 s.nd.lev, .int .i64 s.nd.lsn, .int .i64 s.nd.rgt, .string s.nd.high, .slice s.pt.k s.nd.keys.length s.pt.kc, .slice s.pt.v s.nd.vals.length s.pt.vc, .slice s.pt.i s.nd.kids.length s.pt.ic, .string s.low])]) R M (fun xs => xs = L) w0) (hw : Fr (fun k => ¬ R k) w0 w) (hR : ∀ k, R k → k < w.heap.size) :
    Calls Tryz.prog 87 #[.slice none 0 0, .func (.func gf) #[] lb] w fun e W' => ∃ v, e = .returned v ∧ Has W' 9 v L.length (L.flatMap spC) ∧ (∀ g, v.ownBlock = some g → w.heap.size ≤ g) ∧ Fr (fun _ => False) w W' := by
  obtain ⟨i0, hi, hz0, hz1, hz2⟩ := info_parts infoSpt
  refine (callsIn_wide (n := 0)).1 ?_
  refine callsIn_of_wp_marks Tryz.func87 rfl trivial ?_ rfl
  simp only [Tryz.ntmps87, List.size_toArray, List.length_cons, List.length_nil, Nat.reduceAdd, Nat.reduceSub, Array.replicate_succ, Array.replicate_zero, List.push_toArray, List.append_toArray, List.nil_append, List.cons_append]
  gi_wp2
  have f0 : Fr (fun _ => False) w (w.alloc (.cells #[.slice none 0 0] 65)) := Fr.box w _
  have hb0 := heap_alloc_new w (.cells #[.slice none 0 0] 65)
  refine over (gf := gf) (lb := lb) rfl eg hit (hw.trans f0 (fun _ _ f => f.elim)) (fun _ => rfl)
    (fun W k => k = w.heap.size ∨ ∃ v, W.cell? ⟨w.heap.size, 0, none⟩ = some v ∧ v.ownBlock = some k) (GthSpt w L) (fun _ _ _ => False) ?st (fun _ _ _ _ h _ => h) ?ol ?bk ?ap ?h0 ?round ?done (fun _ _ _ h => h.elim)
  case st =>
    rintro pre A B ⟨hp, f, v, hg⟩ fn
    simp only [World.size_alloc] at fn
    exact ⟨hp, f.trans fn (fun i hi e => by omega), v, hg.fr fn (by omega) (fun k hk e => by omega)⟩
  case ol =>
    rintro pre A k ⟨hp, f, v, hg⟩ (rfl | ⟨u, hu, ho⟩)
    · exact lt_of_block hg.blk
    · rw [(one_cells hg.blk).1] at hu
      cases hu
      exact hg.has.lt ho
  case bk =>
    rintro pre A B k ⟨hp, f, v, hg⟩ fn (rfl | ⟨u, hu, ho⟩)
    · exact .inl rfl
    · simp only [World.size_alloc] at fn
      have hg2 := hg.fr fn (by omega) (fun k hk e => by omega)
      rw [(one_cells hg2.blk).1] at hu
      cases hu
      exact .inr ⟨v, (one_cells hg.blk).1, ho⟩
  case ap =>
    rintro pre A k ⟨hp, f, v, hg⟩ (rfl | ⟨u, hu, ho⟩)
    · exact ⟨fun h => by have := hR _ h; omega, by simp, by simp; omega⟩
    · rw [(one_cells hg.blk).1] at hu
      cases hu
      have := hg.own k ho
      exact ⟨fun h => by have := hR _ h; omega, by simp; omega, by simp; omega⟩
  case h0 => exact ⟨List.nil_prefix, f0, .slice none 0 0, hb0, Has.nil _ _, (fun g e => by cases e), by omega⟩
  case round =>
    rintro pre x W ⟨hp, f, v, hg⟩ hm hz _
    simp only [World.size_alloc] at hz ⊢
    have hpx := hM _ _ _ hm
    clear hm
    gi_wp2
    refine ⟨Fr.box W _, fun W2 f2 => ?_⟩
    have hg2 := (hg.fr (Fr.box W (.cells #[.int .i64 x.page, .int .i64 x.nd.lev, .int .i64 x.nd.lsn, .int .i64 x.nd.rgt, .string x.nd.high, .slice x.pt.k x.nd.keys.length x.pt.kc, .slice x.pt.v x.nd.vals.length x.pt.vc, .slice x.pt.i x.nd.kids.length x.pt.ic, .string x.low] 96)) (fun f => f) (fun _ _ f => f)).fr f2 (by omega) (fun k hk e => by omega)
    have hbx := f2.blk (heap_alloc_new W (.cells #[.int .i64 x.page, .int .i64 x.nd.lev, .int .i64 x.nd.lsn, .int .i64 x.nd.rgt, .string x.nd.high, .slice x.pt.k x.nd.keys.length x.pt.kc, .slice x.pt.v x.nd.vals.length x.pt.vc, .slice x.pt.i x.nd.kids.length x.pt.ic, .string x.low] 96)) (by omega)
    have hsz2 := f2.size
    simp only [World.size_alloc] at hsz2
    have hfw : Fr (fun _ => False) w W2 := (f.seq' (Fr.box W _)).trans f2 (fun i hi e => by omega)
    have hlen : pre.length ≤ 100000000 := by have := hpx.length_le; simp at this; omega
    obtain ⟨c0, _⟩ := one_cells hg2.blk
    obtain ⟨e0, e1, e2, e3, e4, e5, e6, e7, e8⟩ := nine_cells hbx
    have hg3 := hg2.fr (Fr.box W2 (.cells #[.int .i64 x.page, .int .i64 x.nd.lev, .int .i64 x.nd.lsn, .int .i64 x.nd.rgt, .string x.nd.high, .slice x.pt.k x.nd.keys.length x.pt.kc, .slice x.pt.v x.nd.vals.length x.pt.vc, .slice x.pt.i x.nd.kids.length x.pt.ic, .string x.low] 96)) (fun f => f) (fun _ _ f => f)
    have HG3 : Hid (Gat (W2.alloc (.cells #[.int .i64 x.page, .int .i64 x.nd.lev, .int .i64 x.nd.lsn, .int .i64 x.nd.rgt, .string x.nd.high, .slice x.pt.k x.nd.keys.length x.pt.kc, .slice x.pt.v x.nd.vals.length x.pt.vc, .slice x.pt.i x.nd.kids.length x.pt.ic, .string x.low] 96)) w.heap.size (w.heap.size + 3) 65 9 v pre.length (pre.flatMap spC)) := hg3
    have HFR : Hid (From (W2.alloc (.cells #[.int .i64 x.page, .int .i64 x.nd.lev, .int .i64 x.nd.lsn, .int .i64 x.nd.rgt, .string x.nd.high, .slice x.pt.k x.nd.keys.length x.pt.kc, .slice x.pt.v x.nd.vals.length x.pt.vc, .slice x.pt.i x.nd.kids.length x.pt.ic, .string x.low] 96)) (some ⟨W2.heap.size, 0, none⟩) (spC x)) := .inr ⟨_, _, rfl, range_block (heap_alloc_new W2 (.cells #[.int .i64 x.page, .int .i64 x.nd.lev, .int .i64 x.nd.lsn, .int .i64 x.nd.rgt, .string x.nd.high, .slice x.pt.k x.nd.keys.length x.pt.kc, .slice x.pt.v x.nd.vals.length x.pt.vc, .slice x.pt.i x.nd.kids.length x.pt.ic, .string x.low] 96)) (xs := spC x) (o := 0) (fun j u hu => by rw [Nat.zero_add]; simpa [spC] using hu)⟩
    have HFW : Hid (Fr (fun _ => False) w W2) := hfw
    have HPX : Hid (pre ++ [x] <+: L) := hpx
    have HV : Hid (W2.cell? ⟨w.heap.size, 0, none⟩ = some v) := c0
    obtain ⟨av, cv, hvv, _, _⟩ := hg3.has.slice
    subst hvv
    obtain ⟨n, hn⟩ : ∃ n, n = pre.length := ⟨_, rfl⟩
    rw [← hn] at HG3 hlen HV c0
    have HNN : Hid (n = pre.length) := hn
    clear hn hg hg2 hg3 hp hbx hfw hpx f f2 hb0 f0
    gi_wp2_with (gi_at_builtin; refine Hid.out (?_ : Hid _))
    unfold Hid
    refine wpListIn_append_has _ rfl (.tmp 8) (.tmp 10) 65 65 96 96 rfl i0 _ 9 136 Tryz.underlying65 Tryz.underlying65 hi hz0 hz1 hz2 rfl (by omega) (.slice av n cv) n (pre.flatMap spC) rfl HG3.out.has (some ⟨W2.heap.size, 0, none⟩) 1 1 (spC x) rfl rfl HFR.out (spC_one _) (by unfold maxLen; omega) (by omega) ?_
    intro a4 c4 w8 ht4 f4 hat4
    obtain ⟨hb8, hg8, f8⟩ := HG3.out.next (by simp; omega) ht4 f4 hat4
    obtain ⟨d0, d1⟩ := one_cells hb8
    gi_wp2
    refine ⟨?_, ?_, HPX.out, ?_, .slice a4 (n + 1) c4, ?_⟩
    · refine ((Fr.box W2 (.cells #[.int .i64 x.page, .int .i64 x.nd.lev, .int .i64 x.nd.lsn, .int .i64 x.nd.rgt, .string x.nd.high, .slice x.pt.k x.nd.keys.length x.pt.kc, .slice x.pt.v x.nd.vals.length x.pt.vc, .slice x.pt.i x.nd.kids.length x.pt.ic, .string x.low] 96)).widen (fun _ f => f.elim)).trans f8 (fun i hi e => ?_)
      rcases e with e | e
      · exact .inl e
      · exact .inr ⟨_, HV.out, e⟩
    · rintro k (e | ⟨u, hu, ho⟩)
      · exact .inl (.inl e)
      · rw [(one_cells hg8.blk).1] at hu
        cases hu
        rcases hat4 with e | e
        · rw [e] at ho; exact .inl (.inr ⟨_, HV.out, ho⟩)
        · rw [e] at ho; simp at ho; exact .inr (by omega)
    · exact HFW.out.trans (((Fr.box W2 (.cells #[.int .i64 x.page, .int .i64 x.nd.lev, .int .i64 x.nd.lsn, .int .i64 x.nd.rgt, .string x.nd.high, .slice x.pt.k x.nd.keys.length x.pt.kc, .slice x.pt.v x.nd.vals.length x.pt.vc, .slice x.pt.i x.nd.kids.length x.pt.ic, .string x.low] 96)).widen (T := fun k => k = w.heap.size ∨ (Value.slice av n cv).ownBlock = some k) (fun _ f => f.elim)).trans f8 (fun i _ e => e)) (fun i hi e => by
        rcases e with e | e
        · omega
        · have := HG3.out.own _ e; omega)
    · rw [List.length_append, List.flatMap_append, ← HNN.out]
      simpa using hg8
  case done =>
    rintro xs W rfl ⟨hp, f, v, hg⟩ hK
    obtain ⟨c0, _⟩ := one_cells hg.blk
    have hKd := run_takeDeferred (P := Tryz.prog) hK
    gi_wp2
    refine ⟨by simp, .inl ⟨_, _, rfl, hKd, ?_⟩⟩
    have fd := Fr.put W (w.alloc (.cells #[.slice none 0 0] 65)).heap.size (.deferred none)
    exact ⟨_, results_tmp rfl _ _ _, v, rfl, hg.has.fr fd (fun k hk e => by have := hg.own k hk; simp at e; omega), (fun g e => by have := hg.own g e; omega), f.trans fd (fun i hi e => by simp at e; omega)⟩
end Go.Proofs.YtlnkbjjohdmihaaGreat
