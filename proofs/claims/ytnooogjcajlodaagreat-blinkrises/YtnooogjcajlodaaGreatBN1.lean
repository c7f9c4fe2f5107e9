
/- BkSeqE, BkScan2, BkEntA, BkEntB, BkEntr. -/
import Derived.Test.YtnooogjcajlodaaGreatBN6
import Derived.Test.YtnooogjcajlodaaGreatBN9
import Derived.Test.YtnooogjcajlodaaGreatBkScan
/- slices.Collect of entries. -/
namespace Go.Proofs.YtnooogjcajlodaaGreat
open Go.RowKit Go.Shelf
attribute [local go_sem] Oper.semAt_some

/-- An entry's cells. -/
def enC (e : ByteArray × ByteArray) : List Value := [.string e.1, .string e.2]
theorem enC_one (e : ByteArray × ByteArray) : ∀ u ∈ enC e, u.oneCell' = true := by
  intro u hu
  simp only [enC, List.mem_cons, List.not_mem_nil, or_false] at hu
  rcases hu with rfl | rfl <;> rfl
theorem enC_length (e : ByteArray × ByteArray) : (enC e).length = 2 := rfl

theorem infoEnt : (Tryz.prog.info? 35).map (fun i => (i.zero, i.size, i.bytes)) = some (some (.agg #[.string ⟨#[]⟩, .string ⟨#[]⟩]), 2, 32) := by kernel_rfl
/-- What gathers Ent. -/
def GthEnt (w : World) (L pre : List (ByteArray × ByteArray)) (W : World) : Prop := pre <+: L ∧ Fr (fun _ => False) w W ∧ ∃ v, Gat W w.heap.size (w.heap.size + 3) 29 2 v pre.length (pre.flatMap enC)
set_option maxRecDepth 100000 in
set_option maxHeartbeats 4000000 in
theorem appendSeqEnt (gf : Nat) (lb : Array Value) (eg : ∀ args w, (callFunc gf args).run Tryz.prog w = .ok (.enter gf args) w) (R : Nat → Prop) (M : List (ByteArray × ByteArray) → (ByteArray × ByteArray) → World → Prop) (L : List (ByteArray × ByteArray)) (hL : L.length ≤ 100000000) (w0 w : World)
    (hM : ∀ pre x W, M pre x W → pre ++ [x] <+: L) (hit : Iter Tryz.prog gf lb (fun s : (ByteArray × ByteArray) => #[.agg #[.string s.1, .string s.2]]) R M (fun xs => xs = L) w0) (hw : Fr (fun k => ¬ R k) w0 w) (hR : ∀ k, R k → k < w.heap.size) :
    Calls Tryz.prog 60 #[.slice none 0 0, .func (.func gf) #[] lb] w fun e W' => ∃ v, e = .returned v ∧ Has W' 2 v L.length (L.flatMap enC) ∧ (∀ g, v.ownBlock = some g → w.heap.size ≤ g) ∧ Fr (fun _ => False) w W' := by
  obtain ⟨i0, hi, hz0, hz1, hz2⟩ := info_parts infoEnt
  refine (callsIn_wide (n := 0)).1 ?_
  refine callsIn_of_wp_marks Tryz.func60 rfl trivial ?_ rfl
  simp only [Tryz.ntmps60, List.size_toArray, List.length_cons, List.length_nil, Nat.reduceAdd, Nat.reduceSub, Array.replicate_succ, Array.replicate_zero, List.push_toArray, List.append_toArray, List.nil_append, List.cons_append]
  gi_wp2
  have f0 : Fr (fun _ => False) w (w.alloc (.cells #[.slice none 0 0] 29)) := Fr.box w _
  have hb0 := heap_alloc_new w (.cells #[.slice none 0 0] 29)
  refine over (gf := gf) (lb := lb) rfl eg hit (hw.trans f0 (fun _ _ f => f.elim)) (fun _ => rfl)
    (fun W k => k = w.heap.size ∨ ∃ v, W.cell? ⟨w.heap.size, 0, none⟩ = some v ∧ v.ownBlock = some k) (GthEnt w L) (fun _ _ _ => False) ?st (fun _ _ _ _ h _ => h) ?ol ?bk ?ap ?h0 ?round ?done (fun _ _ _ h => h.elim)
  case st =>
    rintro pre A B ⟨hp, f, v, hg⟩ fn
    simp only [World.size_alloc] at fn
    exact ⟨hp, f.trans fn (fun i hi e => by omega), v, hg.fr fn (by omega) (fun k hk e => by omega)⟩
  case ol =>
    rintro pre A k ⟨hp, f, v, hg⟩ (rfl | ⟨u, hu, ho⟩)
    · exact lt_of_block hg.blk
    · rw [(one_cells hg.blk).1] at hu
      cases hu
      exact hg.has.lt ho
  case bk =>
    rintro pre A B k ⟨hp, f, v, hg⟩ fn (rfl | ⟨u, hu, ho⟩)
    · exact .inl rfl
    · simp only [World.size_alloc] at fn
      have hg2 := hg.fr fn (by omega) (fun k hk e => by omega)
      rw [(one_cells hg2.blk).1] at hu
      cases hu
      exact .inr ⟨v, (one_cells hg.blk).1, ho⟩
  case ap =>
    rintro pre A k ⟨hp, f, v, hg⟩ (rfl | ⟨u, hu, ho⟩)
    · exact ⟨fun h => by have := hR _ h; omega, by simp, by simp; omega⟩
    · rw [(one_cells hg.blk).1] at hu
      cases hu
      have := hg.own k ho
      exact ⟨fun h => by have := hR _ h; omega, by simp; omega, by simp; omega⟩
  case h0 => exact ⟨List.nil_prefix, f0, .slice none 0 0, hb0, Has.nil _ _, (fun g e => by cases e), by omega⟩
  case round =>
    rintro pre x W ⟨hp, f, v, hg⟩ hm hz _
    simp only [World.size_alloc] at hz ⊢
    have hpx := hM _ _ _ hm
    clear hm
    gi_wp2
    refine ⟨Fr.box W _, fun W2 f2 => ?_⟩
    have hg2 := (hg.fr (Fr.box W (.cells #[.string x.1, .string x.2] 35)) (fun f => f) (fun _ _ f => f)).fr f2 (by omega) (fun k hk e => by omega)
    have hbx := f2.blk (heap_alloc_new W (.cells #[.string x.1, .string x.2] 35)) (by omega)
    have hsz2 := f2.size
    simp only [World.size_alloc] at hsz2
    have hfw : Fr (fun _ => False) w W2 := (f.seq' (Fr.box W _)).trans f2 (fun i hi e => by omega)
    have hlen : pre.length ≤ 100000000 := by have := hpx.length_le; simp at this; omega
    obtain ⟨c0, _⟩ := one_cells hg2.blk
    obtain ⟨e0, e1⟩ := two_cells hbx
    have hg3 := hg2.fr (Fr.box W2 (.cells #[.string x.1, .string x.2] 35)) (fun f => f) (fun _ _ f => f)
    have HG3 : Hid (Gat (W2.alloc (.cells #[.string x.1, .string x.2] 35)) w.heap.size (w.heap.size + 3) 29 2 v pre.length (pre.flatMap enC)) := hg3
    have HFR : Hid (From (W2.alloc (.cells #[.string x.1, .string x.2] 35)) (some ⟨W2.heap.size, 0, none⟩) (enC x)) := .inr ⟨_, _, rfl, range_block (heap_alloc_new W2 (.cells #[.string x.1, .string x.2] 35)) (xs := enC x) (o := 0) (fun j u hu => by rw [Nat.zero_add]; simpa [enC] using hu)⟩
    have HFW : Hid (Fr (fun _ => False) w W2) := hfw
    have HPX : Hid (pre ++ [x] <+: L) := hpx
    have HV : Hid (W2.cell? ⟨w.heap.size, 0, none⟩ = some v) := c0
    obtain ⟨av, cv, hvv, _, _⟩ := hg3.has.slice
    subst hvv
    obtain ⟨n, hn⟩ : ∃ n, n = pre.length := ⟨_, rfl⟩
    rw [← hn] at HG3 hlen HV c0
    have HNN : Hid (n = pre.length) := hn
    clear hn hg hg2 hg3 hp hbx hfw hpx f f2 hb0 f0
    gi_wp2_with (gi_at_builtin; refine Hid.out (?_ : Hid _))
    unfold Hid
    refine wpListIn_append_has _ rfl (.tmp 8) (.tmp 10) 29 29 35 35 rfl i0 _ 2 32 Tryz.underlying29 Tryz.underlying29 hi hz0 hz1 hz2 rfl (by omega) (.slice av n cv) n (pre.flatMap enC) rfl HG3.out.has (some ⟨W2.heap.size, 0, none⟩) 1 1 (enC x) rfl rfl HFR.out (enC_one _) (by unfold maxLen; omega) (by omega) ?_
    intro a4 c4 w8 ht4 f4 hat4
    obtain ⟨hb8, hg8, f8⟩ := HG3.out.next (by simp; omega) ht4 f4 hat4
    obtain ⟨d0, d1⟩ := one_cells hb8
    gi_wp2
    refine ⟨?_, ?_, HPX.out, ?_, .slice a4 (n + 1) c4, ?_⟩
    · refine ((Fr.box W2 (.cells #[.string x.1, .string x.2] 35)).widen (fun _ f => f.elim)).trans f8 (fun i hi e => ?_)
      rcases e with e | e
      · exact .inl e
      · exact .inr ⟨_, HV.out, e⟩
    · rintro k (e | ⟨u, hu, ho⟩)
      · exact .inl (.inl e)
      · rw [(one_cells hg8.blk).1] at hu
        cases hu
        rcases hat4 with e | e
        · rw [e] at ho; exact .inl (.inr ⟨_, HV.out, ho⟩)
        · rw [e] at ho; simp at ho; exact .inr (by omega)
    · exact HFW.out.trans (((Fr.box W2 (.cells #[.string x.1, .string x.2] 35)).widen (T := fun k => k = w.heap.size ∨ (Value.slice av n cv).ownBlock = some k) (fun _ f => f.elim)).trans f8 (fun i _ e => e)) (fun i hi e => by
        rcases e with e | e
        · omega
        · have := HG3.out.own _ e; omega)
    · rw [List.length_append, List.flatMap_append, ← HNN.out]
      simpa using hg8
  case done =>
    rintro xs W rfl ⟨hp, f, v, hg⟩ hK
    obtain ⟨c0, _⟩ := one_cells hg.blk
    have hKd := run_takeDeferred (P := Tryz.prog) hK
    gi_wp2
    refine ⟨by simp, .inl ⟨_, _, rfl, hKd, ?_⟩⟩
    have fd := Fr.put W (w.alloc (.cells #[.slice none 0 0] 29)).heap.size (.deferred none)
    exact ⟨_, results_tmp rfl _ _ _, v, rfl, hg.has.fr fd (fun k hk e => by have := hg.own k hk; simp at e; omega), (fun g e => by have := hg.own g e; omega), f.trans fd (fun i hi e => by simp at e; omega)⟩
end Go.Proofs.YtnooogjcajlodaaGreat

/- Scan of all entries of a tree. -/
namespace Go.Proofs.YtnooogjcajlodaaGreat
open Go.RowKit Go.Shelf
attribute [local go_sem] Oper.semAt_some

/-- What stands between two rounds of Scan. -/
structure ScJ (w : World) (k1 k2 : ByteArray) (most : Int) (lo : Nat) (L pre : List (ByteArray × ByteArray)) (W : World) : Prop where
  pre_ : pre <+: L
  fr : Fr (fun _ => False) w W
  b1 : W.heap[w.heap.size]? = some (.cells #[.string k1] 9 (0, 0))
  b2 : W.heap[w.heap.size + 1]? = some (.cells #[.string k2] 9 (0, 0))
  b3 : W.heap[w.heap.size + 2]? = some (.cells #[.int .i64 most] 3 (0, 0))
  gat : ∃ v, Gat W (w.heap.size + 3) lo 29 2 v pre.length (pre.flatMap enC)
theorem ScJ.on {w : World} {k1 k2 : ByteArray} {most : Int} {lo : Nat} {L pre : List (ByteArray × ByteArray)} {W W' : World} {S : Nat → Prop} (h : ScJ w k1 k2 most lo L pre W) (f : Fr S W W') (h1 : ∀ k, k < w.heap.size + 4 → ¬ S k) (h2 : ∀ k, lo ≤ k → ¬ S k) : ScJ w k1 k2 most lo L pre W' := by
  obtain ⟨v, hg⟩ := h.gat
  exact ⟨h.pre_, h.fr.trans f (fun i hi e => h1 i (by omega) e), f.blk h.b1 (h1 _ (by omega)), f.blk h.b2 (h1 _ (by omega)), f.blk h.b3 (h1 _ (by omega)), v, hg.fr f (h1 _ (by omega)) h2⟩
set_option maxRecDepth 100000 in
set_option maxHeartbeats 4000000 in
theorem scan_all (tp : Option Addr) (k1 k2 : ByteArray) (most : Int) (hk1 : ∀ x : ByteArray, Op.bytesLess x.toList k1.toList = false) (hk2 : k2.toList = []) (a : Option Addr) (n c : Nat) (ls : List Sl) (hn : n = ls.length) (hmost : ((treeE ls).length : Int) < most) (hlen : (treeE ls).length ≤ 100000000) (w : World) (h : Slots w a c ls) (hall : ∀ W, Fr (fun _ => False) w W → Calls Tryz.prog 30 #[.pointer tp] W fun e w' => e = .returned (.slice a n c) ∧ Fr (fun _ => False) W w') :
    Calls Tryz.prog 11 #[.pointer tp, .string k1, .string k2, .int .i64 most] w fun e w' => ∃ v, e = .returned v ∧ Has w' 2 v (treeE ls).length ((treeE ls).flatMap enC) ∧ Fr (fun _ => False) w w' := by
  obtain ⟨i0, ji, jz0, jz1, jz2⟩ := info_parts infoEnt
  have hk3 : k2.toList.isEmpty = true := by rw [hk2]; rfl
  have f0 : Fr (fun _ => False) w ((((w.alloc (.cells #[.string k1] 9)).alloc (.cells #[.string k2] 9)).alloc (.cells #[.int .i64 most] 3)).alloc (.cells #[.slice none 0 0] 29)) := ((((Fr.refl _ _).alloc _).alloc _).alloc _).alloc _
  have hB := heap_alloc_new (((w.alloc (.cells #[.string k1] 9)).alloc (.cells #[.string k2] 9)).alloc (.cells #[.int .i64 most] 3)) (.cells #[.slice none 0 0] 29)
  rw [show (((w.alloc (.cells #[.string k1] 9)).alloc (.cells #[.string k2] 9)).alloc (.cells #[.int .i64 most] 3)).heap.size = w.heap.size + 3 by simp] at hB
  have hB1 : ((((w.alloc (.cells #[.string k1] 9)).alloc (.cells #[.string k2] 9)).alloc (.cells #[.int .i64 most] 3)).alloc (.cells #[.slice none 0 0] 29)).heap[w.heap.size]? = some (.cells #[.string k1] 9 (0, 0)) := ((((Fr.refl (fun _ => False) _).alloc _).alloc _).alloc _).blk (heap_alloc_new w _) (fun f => f)
  have hB2 : ((((w.alloc (.cells #[.string k1] 9)).alloc (.cells #[.string k2] 9)).alloc (.cells #[.int .i64 most] 3)).alloc (.cells #[.slice none 0 0] 29)).heap[w.heap.size + 1]? = some (.cells #[.string k2] 9 (0, 0)) := by
    have h1 := heap_alloc_new (w.alloc (.cells #[.string k1] 9)) (.cells #[.string k2] 9)
    rw [show (w.alloc (.cells #[.string k1] 9)).heap.size = w.heap.size + 1 by simp] at h1
    exact (((Fr.refl (fun _ => False) _).alloc _).alloc _).blk h1 (fun f => f)
  have hB3 : ((((w.alloc (.cells #[.string k1] 9)).alloc (.cells #[.string k2] 9)).alloc (.cells #[.int .i64 most] 3)).alloc (.cells #[.slice none 0 0] 29)).heap[w.heap.size + 2]? = some (.cells #[.int .i64 most] 3 (0, 0)) := by
    have h1 := heap_alloc_new ((w.alloc (.cells #[.string k1] 9)).alloc (.cells #[.string k2] 9)) (.cells #[.int .i64 most] 3)
    rw [show ((w.alloc (.cells #[.string k1] 9)).alloc (.cells #[.string k2] 9)).heap.size = w.heap.size + 2 by simp] at h1
    exact ((Fr.refl (fun _ => False) _).alloc _).blk h1 (fun f => f)
  have hsz : ((((w.alloc (.cells #[.string k1] 9)).alloc (.cells #[.string k2] 9)).alloc (.cells #[.int .i64 most] 3)).alloc (.cells #[.slice none 0 0] 29)).heap.size = w.heap.size + 4 := by simp
  have HAL : Hid (∀ W, Fr (fun _ => False) w W → Calls Tryz.prog 30 #[.pointer tp] W fun e w' => e = .returned (.slice a n c) ∧ Fr (fun _ => False) W w') := hall
  have HLV : Hid (∀ W, Fr (fun _ => False) w W → Calls Tryz.prog 25 #[.slice a n c] W fun e w' => LvOut ls W e w') := fun W f => leaves_any a n c ls hn W (h.same f)
  have HSL : Hid (∀ W, Fr (fun _ => False) w W → Slots W a c ls) := fun W f => h.same f
  have HMO : Hid (((treeE ls).length : Int) < most) := hmost
  have HK1 : Hid (∀ x : ByteArray, Op.bytesLess x.toList k1.toList = false) := hk1
  have HLN0 : Hid ((treeE ls).length ≤ 100000000) := hlen
  clear hall h hn hmost hk1 hlen
  refine (callsIn_wide (n := 0)).1 ?_
  refine callsIn_of_wp_marks Tryz.func11 rfl trivial ?_ rfl
  simp only [Tryz.ntmps11, List.size_toArray, List.length_cons, List.length_nil, Nat.reduceAdd, Nat.reduceSub, Array.replicate_succ, Array.replicate_zero, List.push_toArray, List.append_toArray, List.nil_append, List.cons_append]
  gi_wp2
  generalize (((w.alloc (.cells #[.string k1] 9)).alloc (.cells #[.string k2] 9)).alloc (.cells #[.int .i64 most] 3)).alloc (.cells #[.slice none 0 0] 29) = V0 at *
  refine ⟨trivial, rfl, (callsIn_wide.2 (HAL.out _ f0)).mono ?_⟩
  rintro e w1 ⟨rfl, f1⟩
  gi_wp2
  refine ⟨trivial, rfl, (callsIn_wide.2 (HLV.out _ (f0.seq' f1))).mono ?_⟩
  intro e w2 hlv
  obtain ⟨la, ln, lc, lb, rfl, _, hln, hsp, hkv, f2⟩ := lv_both hlv
  have hTE : treeE ls = lvE ((leavesF ls).getD []) := rfl
  generalize (leavesF ls).getD [] = sp at *
  clear hlv
  have HLN : Hid (ln = sp.length) := hln
  clear hln
  gi_wp2
  refine ⟨trivial, rfl, (callsIn_wide.2 (entsOf_call la ln lc _)).mono ?_⟩
  rintro e w' ⟨rfl, rfl⟩
  gi_wp2
  have fa := Fr.box w2 (.cells #[.slice la ln lc] 71)
  have hbl := heap_alloc_new w2 (.cells #[.slice la ln lc] 71)
  have hs2 : (w2.alloc (.cells #[.slice la ln lc] 71)).heap.size = w2.heap.size + 1 := by simp
  have F2 := (f1.seq' f2).seq' fa
  have hz2 := (f1.seq' f2).size
  have fV := f0.seq' F2
  have hv0 := F2.blk hB (fun f => f)
  have hv1 := F2.blk hB1 (fun f => f)
  have hv2 := F2.blk hB2 (fun f => f)
  have hv3 := F2.blk hB3 (fun f => f)
  have hsV := hsp.same fa
  generalize w2.alloc (.cells #[.slice la ln lc] 71) = V at *
  have hit := ent_iter la ln lc sp HLN.out (fun s hs => (hkv s hs).1) w2.heap.size (fun q => q < V.heap.size ∧ q ≠ w.heap.size + 3) V ?S ?C
  case S =>
    intro W f
    refine hsV.on f (HSL.out _ (fV.trans f (fun i hi e => e ⟨by have := fV.size; omega, by omega⟩))) (fun s hs => (hkv s hs).2) (fun b off hne ha => ?_)
    have hlt : b < V.heap.size := by
      rcases hsV.at_ with h0 | ⟨b', off', e, hb, _⟩
      · exact absurd h0 hne
      · rw [ha] at e; cases e; exact hb
    exact ⟨hlt, hsV.wide hne ha hv0⟩
  case C => intro W f; exact (one_cells (f.blk hbl (fun e => e ⟨by omega, by omega⟩))).1
  refine over (gf := 61) (lb := #[.pointer (some ⟨w2.heap.size, 0, none⟩)]) rfl (enters_of Tryz.func61 (by kernel_rfl) rfl) hit (Fr.refl _ _) (fun _ => rfl)
    (fun W k => k = w.heap.size + 3 ∨ ∃ v, W.cell? ⟨w.heap.size + 3, 0, none⟩ = some v ∧ v.ownBlock = some k) (ScJ w k1 k2 most (V.heap.size + 2) (lvE sp)) (fun _ _ _ => False) ?st ?stx ?ol ?bk ?ap ?h0 ?round ?done ?stop
  case st => intro pre A B hI f; exact hI.on f (fun k hk e => by omega) (fun k hk e => by omega)
  case stx => intro cd pre A B hX; exact hX.elim
  case ol =>
    rintro pre A k hI (rfl | ⟨u, hu, ho⟩)
    · obtain ⟨v, hg⟩ := hI.gat; exact lt_of_block hg.blk
    · obtain ⟨v, hg⟩ := hI.gat
      rw [(one_cells hg.blk).1] at hu
      cases hu
      exact hg.has.lt ho
  case bk =>
    rintro pre A B k hI fn (rfl | ⟨u, hu, ho⟩)
    · exact .inl rfl
    · obtain ⟨v, hg⟩ := hI.gat
      have hg2 := hg.fr fn (by omega) (fun k hk e => by omega)
      rw [(one_cells hg2.blk).1] at hu
      cases hu
      exact .inr ⟨_, (one_cells hg.blk).1, ho⟩
  case ap =>
    rintro pre A k hI (rfl | ⟨u, hu, ho⟩)
    · exact ⟨fun h => h.2 rfl, by omega, by omega⟩
    · obtain ⟨v, hg⟩ := hI.gat
      rw [(one_cells hg.blk).1] at hu
      cases hu
      have := hg.own k ho
      exact ⟨fun h => by have := h.1; omega, by omega, by omega⟩
  case h0 => exact ⟨List.nil_prefix, fV, hv1, hv2, hv3, .slice none 0 0, hv0, Has.nil _ _, (fun g e => by cases e), by omega⟩
  case round =>
    rintro pre ⟨x, y⟩ W hI hpx hz _
    dsimp only
    gi_wp2
    refine ⟨Fr.box W _, fun W2 f2 => ?_⟩
    have hbx := f2.blk (heap_alloc_new W (.cells #[.string x, .string y] 35)) (by omega)
    have FW : Fr (fun q => q = V.heap.size + 1) W W2 := ((Fr.box W (.cells #[.string x, .string y] 35)).widen (fun _ f => f.elim)).trans f2 (fun _ _ e => e)
    have hI2 := hI.on FW (fun k hk e => by omega) (fun k hk e => by omega)
    have hzz := FW.size
    obtain ⟨e0, e1⟩ := two_cells hbx
    obtain ⟨c1, _⟩ := one_cells hI2.b1
    obtain ⟨c2, _⟩ := one_cells hI2.b2
    obtain ⟨c3, _⟩ := one_cells hI2.b3
    obtain ⟨v, hg2⟩ := hI2.gat
    obtain ⟨c0, _⟩ := one_cells hg2.blk
    have hg3 := hg2.fr (Fr.box W2 (.cells #[.string x, .string y] 35)) (fun f => f) (fun _ _ f => f)
    obtain ⟨av, cv, hvv, _, _⟩ := hg3.has.slice
    subst hvv
    have hpl : pre.length < (treeE ls).length := by have := hpx.length_le; rw [hTE]; simp at this; omega
    have hmo : ¬ (most ≤ (pre.length : Int)) := by have := HMO.out; omega
    have hln : pre.length ≤ 100000000 := by have := HLN0.out; omega
    have hx1 := HK1.out x
    obtain ⟨n', hn'⟩ : ∃ n', n' = pre.length := ⟨_, rfl⟩
    have HG3 : Hid (Gat (W2.alloc (.cells #[.string x, .string y] 35)) (w.heap.size + 3) (V.heap.size + 2) 29 2 (.slice av n' cv) n' (pre.flatMap enC)) := by rw [hn']; exact hg3
    have HFR : Hid (From (W2.alloc (.cells #[.string x, .string y] 35)) (some ⟨W2.heap.size, 0, none⟩) (enC (x, y))) := .inr ⟨_, _, rfl, range_block (heap_alloc_new W2 (.cells #[.string x, .string y] 35)) (xs := enC (x, y)) (o := 0) (fun j u hu => by rw [Nat.zero_add]; simpa [enC] using hu)⟩
    have HV : Hid (W2.cell? ⟨w.heap.size + 3, 0, none⟩ = some (.slice av n' cv)) := by show _ = _; rw [hn']; exact c0
    have HNN : Hid (n' = pre.length) := hn'
    have HPX : Hid (pre ++ [(x, y)] <+: lvE sp) := hpx
    have HI2 : Hid (ScJ w k1 k2 most (V.heap.size + 2) (lvE sp) pre W2) := hI2
    rw [← hn'] at c0 hmo hln
    clear hn' hI hI2 hg2 hg3 hbx hpx FW f2 hpl hB hB1 hB2 hB3
    gi_wp2_with (gi_at_builtin; refine Hid.out (?_ : Hid _))
    unfold Hid
    refine wpListIn_append_has _ rfl (.tmp 40) (.tmp 42) 29 29 35 35 rfl i0 _ 2 32 Tryz.underlying29 Tryz.underlying29 ji jz0 jz1 jz2 rfl (by omega) (.slice av n' cv) n' (pre.flatMap enC) rfl HG3.out.has (some ⟨W2.heap.size, 0, none⟩) 1 1 (enC (x, y)) rfl rfl HFR.out (enC_one _) (by unfold maxLen; omega) (by omega) ?_
    intro a4 c4 w8 ht4 f4 hat4
    obtain ⟨hb8, hg8, f8⟩ := HG3.out.next (by simp; omega) ht4 f4 hat4
    obtain ⟨d0, d1⟩ := one_cells hb8
    have FB : Fr (fun k => k = w.heap.size + 3 ∨ (Value.slice av n' cv).ownBlock = some k) W2 (w8.setCell ⟨w.heap.size + 3, 0, none⟩ (.slice a4 (n' + 1) c4)) := ((Fr.box W2 (.cells #[.string x, .string y] 35)).widen (fun _ f => f.elim)).trans f8 (fun i _ e => e)
    have HFB : Hid (Fr (fun k => k = w.heap.size + 3 ∨ (Value.slice av n' cv).ownBlock = some k) W2 (w8.setCell ⟨w.heap.size + 3, 0, none⟩ (.slice a4 (n' + 1) c4))) := FB
    have HG8 : Hid (Gat (w8.setCell ⟨w.heap.size + 3, 0, none⟩ (.slice a4 (n' + 1) c4)) (w.heap.size + 3) (V.heap.size + 2) 29 2 (.slice a4 (n' + 1) c4) (n' + 1) (pre.flatMap enC ++ enC (x, y))) := hg8
    have HAT : Hid ((Value.slice a4 (n' + 1) c4).ownBlock = (Value.slice av n' cv).ownBlock ∨ (Value.slice a4 (n' + 1) c4).ownBlock = some (W2.heap.size + 1)) := by show _ ∨ _; simpa using hat4
    clear FB hg8 f8 f4 ht4 hat4 hb8
    gi_wp2
    have hown : ∀ k, (Value.slice av n' cv).ownBlock = some k → V.heap.size + 2 ≤ k := HG3.out.own
    refine ⟨?_, ?_, HPX.out, ?_, ?_, ?_, ?_, .slice a4 (n' + 1) c4, ?_⟩
    · exact HFB.out.mono (fun i hi e => by
        rcases e with e | e
        · exact .inl e
        · exact .inr ⟨_, HV.out, e⟩)
    · rintro k (e | ⟨u, hu, ho⟩)
      · exact .inl (.inl e)
      · rw [(one_cells HG8.out.blk).1] at hu
        cases hu
        rcases HAT.out with e | e
        · rw [e] at ho; exact .inl (.inr ⟨_, HV.out, ho⟩)
        · rw [e] at ho; simp at ho; exact .inr (by omega)
    · exact HI2.out.fr.trans HFB.out (fun i hi e => by
        rcases e with e | e
        · omega
        · have := hown _ e; omega)
    · exact HFB.out.blk HI2.out.b1 (fun e => by
        rcases e with e | e
        · omega
        · have := hown _ e; omega)
    · exact HFB.out.blk HI2.out.b2 (fun e => by
        rcases e with e | e
        · omega
        · have := hown _ e; omega)
    · exact HFB.out.blk HI2.out.b3 (fun e => by
        rcases e with e | e
        · omega
        · have := hown _ e; omega)
    · rw [List.length_append, List.flatMap_append, ← HNN.out]
      simpa using HG8.out
  case stop => intro cd pre W hX; exact hX.elim
  case done =>
    rintro xs W rfl hI hK
    obtain ⟨v, hg⟩ := hI.gat
    obtain ⟨c0, _⟩ := one_cells hg.blk
    have fp := Fr.put W V.heap.size (.deferred none)
    have fE := hI.fr.trans fp (S := fun _ => False) (fun i hi e => by omega)
    have hh := hg.has.fr fp (fun k hk e => by have := hg.own k hk; omega)
    rw [← hTE] at hh
    have HH : Hid (Has (W.putObj V.heap.size (.deferred none)) 2 v (treeE ls).length ((treeE ls).flatMap enC)) := hh
    clear hs2 hh
    gi_wp2
    refine ⟨by simp, .inl ⟨_, _, rfl, run_takeDeferred hK, ?_⟩⟩
    exact ⟨v, by simp [results, Tryz.results11, go_sem], v, rfl, HH.out, fE⟩
end Go.Proofs.YtnooogjcajlodaaGreat

/- Entries: all entries of pages that are a tree. -/
namespace Go.Proofs.YtnooogjcajlodaaGreat
open Go.RowKit Go.Shelf
attribute [local go_sem] Oper.semAt_some

theorem keys_256 {n : Nd} (r : Rt n) : n.keys.length ≤ 256 := by
  have h1 := r.size
  have h2 : n.keys.length ≤ tsz n.keys := by
    generalize n.keys = l
    induction l with
    | nil => simp
    | cons x t ih => simp only [tsz, List.map_cons, List.sum_cons, List.length_cons] at ih ⊢; omega
  unfold sizeN at h1
  omega
theorem ndE_len (n : Nd) : (ndE n).length ≤ n.keys.length := by
  unfold ndE; rw [List.length_zip]; omega
theorem lvE_len (sp : List Spt) (m : Nat) (h : ∀ s ∈ sp, s.nd.keys.length ≤ m) : (lvE sp).length ≤ sp.length * m := by
  induction sp with
  | nil => simp [lvE]
  | cons s r ih =>
    have h1 := ih (fun t ht => h t (List.mem_cons_of_mem _ ht))
    have h2 := h s (by simp)
    have h3 := ndE_len s.nd
    have e : lvE (s :: r) = ndE s.nd ++ lvE r := rfl
    rw [e, List.length_append, List.length_cons, Nat.add_mul]
    omega
theorem leaves_few {ls : List Sl} {sp : List Spt} (h : leavesF ls = some sp) : sp.length ≤ 4096 := by
  unfold leavesF at h
  by_cases h1 : ariB 0 (psOf ls) = true
  · rw [if_pos h1] at h
    by_cases h2 : chkF [] (lvR ls) = true
    · rw [if_pos h2] at h
      obtain rfl := Option.some.inj h
      have hp := ari_ok 0 _ h1
      have hf := pw_few _ 1 hp.1 (fun y hy => by have := hp.2.1 y hy; omega)
      have hl : ls.length ≤ 4096 := by simp [psOf] at hf; omega
      rcases end_mem (l := lvR ls) with e | ⟨y, hy, e⟩
      · rw [e]; simp
      · rw [← e]
        have := rowsF_len _ _ y hy
        omega
    · rw [if_neg h2] at h; cases h
  · rw [if_neg h1] at h; cases h
theorem treeE_few (ls : List Sl) : (treeE ls).length ≤ 2000000 := by
  unfold treeE
  cases h : leavesF ls with
  | none => simp [lvE]
  | some sp =>
    have h1 := leaves_few h
    have h2 := lvE_len sp 400 (fun s hs => by
      have := keys_256 (leaves_in h s hs).2
      omega)
    simp only [Option.getD_some]
    omega
end Go.Proofs.YtnooogjcajlodaaGreat

/- Entries gathered. -/
namespace Go.Proofs.YtnooogjcajlodaaGreat
open Go.RowKit Go.Shelf
attribute [local go_sem] Oper.semAt_some

set_option maxRecDepth 100000 in
set_option maxHeartbeats 4000000 in
/-- What slices.Collect makes of the entries of leaves. -/
theorem collect_ent (a : Option Addr) (n c : Nat) (sp : List Spt) (hn : n = sp.length) (hkv : ∀ s ∈ sp, s.nd.keys.length ≤ s.nd.vals.length) (hf : (lvE sp).length ≤ 2000000) (w : World) (h : Spots w a c sp) :
    Calls Tryz.prog 28 #[.func (.func 61) #[] #[.pointer (some ⟨w.heap.size, 0, none⟩)]] (w.alloc (.cells #[.slice a n c] 71)) fun e W' => ∃ v, e = .returned v ∧ Has W' 2 v (lvE sp).length ((lvE sp).flatMap enC) ∧ Fr (fun _ => False) w W' := by
  have f0 : Fr (fun _ => False) w (w.alloc (.cells #[.slice a n c] 71)) := Fr.box w _
  have hb1 := heap_alloc_new w (.cells #[.slice a n c] 71)
  have hsz : (w.alloc (.cells #[.slice a n c] 71)).heap.size = w.heap.size + 1 := by simp
  have hS := h.same f0
  generalize w.alloc (.cells #[.slice a n c] 71) = V at *
  have keep : ∀ {W : World}, Fr (fun k => ¬ (fun k => k < V.heap.size) k) V W → Fr (fun _ => False) V W := fun f => ⟨f.os, f.tape, f.output, f.size, fun k hk _ => f.block k hk (fun e => e hk)⟩
  have hit := ent_iter a n c sp hn hkv w.heap.size (fun k => k < V.heap.size) V (fun W f => hS.same (keep f)) (fun W f => (one_cells ((keep f).blk hb1 (fun f => f))).1)
  have hap := appendSeqEnt 61 #[.pointer (some ⟨w.heap.size, 0, none⟩)] (enters_of Tryz.func61 (by kernel_rfl) rfl) (fun k => k < V.heap.size) _ (lvE sp) (by omega) V V (fun pre y W h => h) hit (Fr.refl _ _) (fun k h => h)
  clear hit hb1 hS
  obtain ⟨L, hL⟩ : ∃ L, L = lvE sp := ⟨_, rfl⟩
  rw [← hL] at hap ⊢
  clear hL hn hf hkv h
  obtain ⟨m, hm⟩ : ∃ m, m = L.length := ⟨_, rfl⟩
  rw [← hm] at hap ⊢
  clear hm
  go_enter Tryz.func28, Tryz.ntmps28
  go_wp2_with fail
  refine hap.mono ?_
  rintro e w1 ⟨v, rfl, hh, ho, f1⟩
  obtain ⟨av, cv, rfl, _, _⟩ := hh.slice
  go_wp2
  go_ret
  exact ⟨_, rfl, hh, f0.seq' f1⟩
end Go.Proofs.YtnooogjcajlodaaGreat

/- Entries. -/
namespace Go.Proofs.YtnooogjcajlodaaGreat
open Go.RowKit Go.Shelf
attribute [local go_sem] Oper.semAt_some

set_option maxRecDepth 100000 in
set_option maxHeartbeats 4000000 in
theorem entries_yes (a : Option Addr) (n c : Nat) (ls : List Sl) (hn : n = ls.length) (hs : (leavesF ls).isSome = true) (w : World) (h : Slots w a c ls) :
    Calls Tryz.prog 9 #[.slice a n c] w fun e w' => ∃ v, e = .returned (.tuple #[v, .int .i64 0]) ∧ Has w' 2 v (treeE ls).length ((treeE ls).flatMap enC) ∧ Fr (fun _ => False) w w' := by
  have hlv := leaves_any a n c ls hn w h
  obtain ⟨L, hL⟩ : ∃ L, L = treeE ls := ⟨_, rfl⟩
  have HF : Hid (L.length ≤ 2000000) := by show _ ≤ _; rw [hL]; exact treeE_few ls
  have HL : Hid (L = lvE ((leavesF ls).getD [])) := hL
  have HS : Hid ((leavesF ls).isSome = true) := hs
  rw [← hL]
  clear hL hs hn h
  go_enter Tryz.func9, Tryz.ntmps9
  go_wp2_with fail
  refine hlv.mono ?_
  clear hlv
  intro e w1 hl
  obtain ⟨la, ln, lc, lb, rfl, hlb, hln, hsp, hkv, f1⟩ := lv_both hl
  rw [HS.out] at hlb
  subst hlb
  obtain ⟨sp, hsp0⟩ : ∃ sp, sp = (leavesF ls).getD [] := ⟨_, rfl⟩
  have hL2 := HL.out
  rw [← hsp0] at hln hsp hkv hL2
  clear hl HL hsp0
  have HCE : Hid (Calls Tryz.prog 28 #[.func (.func 61) #[] #[.pointer (some ⟨w1.heap.size, 0, none⟩)]] (w1.alloc (.cells #[.slice la ln lc] 71)) fun e W' => ∃ v, e = .returned v ∧ Has W' 2 v L.length (L.flatMap enC) ∧ Fr (fun _ => False) w1 W') := by rw [hL2]; exact collect_ent la ln lc sp hln (fun s hs => (hkv s hs).1) (by rw [← hL2]; exact HF.out) w1 hsp
  clear hsp hkv hln hL2 HF
  go_wp2_with fail
  refine (entsOf_call la ln lc _).mono ?_
  rintro e w2 ⟨rfl, rfl⟩
  go_wp2_with fail
  refine HCE.out.mono ?_
  rintro e w3 ⟨v, rfl, hh, f3⟩
  go_wp2
  go_ret2
  exact ⟨v, rfl, hh, f1.seq' f3⟩
end Go.Proofs.YtnooogjcajlodaaGreat
