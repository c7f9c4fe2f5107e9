
/- The entries of a map in order, by the iterator rising; slices.Collect of them. -/
import Derived.Test.YtdlnflcjodpkiaaGreatFdGiv
import Derived.Test.YtdlnflcjodpkiaaGreatFdSort
namespace Go.Proofs.YtdlnflcjodpkiaaGreat
open Go.RowKit Go.Shelf
attribute [local go_sem] Oper.semAt_some

/-- What gathers Ent. -/
def GthEnt (w : World) (L pre : List (ByteArray × ByteArray)) (W : World) : Prop := pre <+: L ∧ Fr (fun _ => False) w W ∧ ∃ v, Gat W w.heap.size (w.heap.size + 3) 24 2 v pre.length (pre.flatMap enC)
set_option maxRecDepth 100000 in
set_option maxHeartbeats 4000000 in
theorem appendSeqEnt (gf : Nat) (lb : Array Value) (eg : ∀ args w, (callFunc gf args).run Tryz.prog w = .ok (.enter gf args) w) (R : Nat → Prop) (M : List (ByteArray × ByteArray) → (ByteArray × ByteArray) → World → Prop) (L : List (ByteArray × ByteArray)) (hL : L.length ≤ 100000000) (w0 w : World)
    (hM : ∀ pre x W, M pre x W → pre ++ [x] <+: L) (hit : Iter Tryz.prog gf lb (fun s : (ByteArray × ByteArray) => #[.agg #[.string s.1, .string s.2]]) R M (fun xs => xs = L) w0) (hw : Fr (fun k => ¬ R k) w0 w) (hR : ∀ k, R k → k < w.heap.size) :
    Calls Tryz.prog 70 #[.slice none 0 0, .func (.func gf) #[] lb] w fun e W' => ∃ v, e = .returned v ∧ Has W' 2 v L.length (L.flatMap enC) ∧ (∀ g, v.ownBlock = some g → w.heap.size ≤ g) ∧ Fr (fun _ => False) w W' := by
  obtain ⟨i0, hi, hz0, hz1, hz2⟩ := info_parts infoEnt
  refine (callsIn_wide (n := 0)).1 ?_
  refine callsIn_of_wp_marks Tryz.func70 rfl trivial ?_ rfl
  simp only [Tryz.ntmps70, List.size_toArray, List.length_cons, List.length_nil, Nat.reduceAdd, Nat.reduceSub, Array.replicate_succ, Array.replicate_zero, List.push_toArray, List.append_toArray, List.nil_append, List.cons_append]
  gi_wp2
  have f0 : Fr (fun _ => False) w (w.alloc (.cells #[.slice none 0 0] 24)) := Fr.box w _
  have hb0 := heap_alloc_new w (.cells #[.slice none 0 0] 24)
  refine over (gf := gf) (lb := lb) rfl eg hit (hw.trans f0 (fun _ _ f => f.elim)) (fun _ => rfl)
    (fun W k => k = w.heap.size ∨ ∃ v, W.cell? ⟨w.heap.size, 0, none⟩ = some v ∧ v.ownBlock = some k) (GthEnt w L) (fun _ _ _ => False) ?st (fun _ _ _ _ h _ => h) ?ol ?bk ?ap ?h0 ?round ?done (fun _ _ _ h => h.elim)
  case st =>
    rintro pre A B ⟨hp, f, v, hg⟩ fn
    simp only [World.size_alloc] at fn
    exact ⟨hp, f.trans fn (fun i hi e => by omega), v, hg.fr fn (by omega) (fun k hk e => by omega)⟩
  case ol =>
    rintro pre A k ⟨hp, f, v, hg⟩ (rfl | ⟨u, hu, ho⟩)
    · exact lt_of_block hg.blk
    · rw [(one_cells hg.blk).1] at hu
      cases hu
      exact hg.has.lt ho
  case bk =>
    rintro pre A B k ⟨hp, f, v, hg⟩ fn (rfl | ⟨u, hu, ho⟩)
    · exact .inl rfl
    · simp only [World.size_alloc] at fn
      have hg2 := hg.fr fn (by omega) (fun k hk e => by omega)
      rw [(one_cells hg2.blk).1] at hu
      cases hu
      exact .inr ⟨v, (one_cells hg.blk).1, ho⟩
  case ap =>
    rintro pre A k ⟨hp, f, v, hg⟩ (rfl | ⟨u, hu, ho⟩)
    · exact ⟨fun h => by have := hR _ h; omega, by simp, by simp; omega⟩
    · rw [(one_cells hg.blk).1] at hu
      cases hu
      have := hg.own k ho
      exact ⟨fun h => by have := hR _ h; omega, by simp; omega, by simp; omega⟩
  case h0 => exact ⟨List.nil_prefix, f0, .slice none 0 0, hb0, Has.nil _ _, (fun g e => by cases e), by omega⟩
  case round =>
    rintro pre x W ⟨hp, f, v, hg⟩ hm hz _
    simp only [World.size_alloc] at hz ⊢
    have hpx := hM _ _ _ hm
    clear hm
    gi_wp2
    refine ⟨Fr.box W _, fun W2 f2 => ?_⟩
    have hg2 := (hg.fr (Fr.box W (.cells #[.string x.1, .string x.2] 77)) (fun f => f) (fun _ _ f => f)).fr f2 (by omega) (fun k hk e => by omega)
    have hbx := f2.blk (heap_alloc_new W (.cells #[.string x.1, .string x.2] 77)) (by omega)
    have hsz2 := f2.size
    simp only [World.size_alloc] at hsz2
    have hfw : Fr (fun _ => False) w W2 := (f.seq' (Fr.box W _)).trans f2 (fun i hi e => by omega)
    have hlen : pre.length ≤ 100000000 := by have := hpx.length_le; simp at this; omega
    obtain ⟨c0, _⟩ := one_cells hg2.blk
    obtain ⟨e0, e1⟩ := two_cells hbx
    have hg3 := hg2.fr (Fr.box W2 (.cells #[.string x.1, .string x.2] 77)) (fun f => f) (fun _ _ f => f)
    have HG3 : Hid (Gat (W2.alloc (.cells #[.string x.1, .string x.2] 77)) w.heap.size (w.heap.size + 3) 24 2 v pre.length (pre.flatMap enC)) := hg3
    have HFR : Hid (From (W2.alloc (.cells #[.string x.1, .string x.2] 77)) (some ⟨W2.heap.size, 0, none⟩) (enC x)) := .inr ⟨_, _, rfl, range_block (heap_alloc_new W2 (.cells #[.string x.1, .string x.2] 77)) (xs := enC x) (o := 0) (fun j u hu => by rw [Nat.zero_add]; simpa [enC] using hu)⟩
    have HFW : Hid (Fr (fun _ => False) w W2) := hfw
    have HPX : Hid (pre ++ [x] <+: L) := hpx
    have HV : Hid (W2.cell? ⟨w.heap.size, 0, none⟩ = some v) := c0
    obtain ⟨av, cv, hvv, _, _⟩ := hg3.has.slice
    subst hvv
    obtain ⟨n, hn⟩ : ∃ n, n = pre.length := ⟨_, rfl⟩
    rw [← hn] at HG3 hlen HV c0
    have HNN : Hid (n = pre.length) := hn
    clear hn hg hg2 hg3 hp hbx hfw hpx f f2 hb0 f0
    gi_wp2_with (gi_at_builtin; refine Hid.out (?_ : Hid _))
    unfold Hid
    refine wpListIn_append_has _ rfl (.tmp 8) (.tmp 10) 24 24 77 77 rfl i0 _ 2 32 Tryz.underlying24 Tryz.underlying24 hi hz0 hz1 hz2 rfl (by omega) (.slice av n cv) n (pre.flatMap enC) rfl HG3.out.has (some ⟨W2.heap.size, 0, none⟩) 1 1 (enC x) rfl rfl HFR.out (enC_one _) (by unfold maxLen; omega) (by omega) ?_
    intro a4 c4 w8 ht4 f4 hat4
    obtain ⟨hb8, hg8, f8⟩ := HG3.out.next (by simp; omega) ht4 f4 hat4
    obtain ⟨d0, d1⟩ := one_cells hb8
    gi_wp2
    refine ⟨?_, ?_, HPX.out, ?_, .slice a4 (n + 1) c4, ?_⟩
    · refine ((Fr.box W2 (.cells #[.string x.1, .string x.2] 77)).widen (fun _ f => f.elim)).trans f8 (fun i hi e => ?_)
      rcases e with e | e
      · exact .inl e
      · exact .inr ⟨_, HV.out, e⟩
    · rintro k (e | ⟨u, hu, ho⟩)
      · exact .inl (.inl e)
      · rw [(one_cells hg8.blk).1] at hu
        cases hu
        rcases hat4 with e | e
        · rw [e] at ho; exact .inl (.inr ⟨_, HV.out, ho⟩)
        · rw [e] at ho; simp at ho; exact .inr (by omega)
    · exact HFW.out.trans (((Fr.box W2 (.cells #[.string x.1, .string x.2] 77)).widen (T := fun k => k = w.heap.size ∨ (Value.slice av n cv).ownBlock = some k) (fun _ f => f.elim)).trans f8 (fun i _ e => e)) (fun i hi e => by
        rcases e with e | e
        · omega
        · have := HG3.out.own _ e; omega)
    · rw [List.length_append, List.flatMap_append, ← HNN.out]
      simpa using hg8
  case done =>
    rintro xs W rfl ⟨hp, f, v, hg⟩ hK
    obtain ⟨c0, _⟩ := one_cells hg.blk
    have hKd := run_takeDeferred (P := Tryz.prog) hK
    gi_wp2
    refine ⟨by simp, .inl ⟨_, _, rfl, hKd, ?_⟩⟩
    have fd := Fr.put W (w.alloc (.cells #[.slice none 0 0] 24)).heap.size (.deferred none)
    exact ⟨_, results_tmp rfl _ _ _, v, rfl, hg.has.fr fd (fun k hk e => by have := hg.own k hk; simp at e; omega), (fun g e => by have := hg.own g e; omega), f.trans fd (fun i hi e => by simp at e; omega)⟩
set_option maxRecDepth 100000 in
set_option maxHeartbeats 4000000 in
theorem rising_iter (b : Nat) (L : List En) (hn : L.length ≤ 1000000) (Bl : Nat) (R : Nat → Prop) (w : World)
    (hS : ∀ W, Fr (fun k => ¬ R k) w W → Em W b L) (hcl : ∀ W, Fr (fun k => ¬ R k) w W → W.cell? ⟨Bl, 0, none⟩ = some (.map (some b))) :
    Iter Tryz.prog 71 #[.pointer (some ⟨Bl, 0, none⟩)] enE R (fun pre x _ => pre ++ [x] <+: L) (fun xs => xs = L) w := by
  intro l T J Jx W hW hT hJx hY h0
  have HS : Hid (∀ W, Fr (fun k => ¬ R k) w W → Em W b L) := hS
  have HCL : Hid (∀ W, Fr (fun k => ¬ R k) w W → W.cell? ⟨Bl, 0, none⟩ = some (.map (some b))) := hcl
  have HT : Hid (Tend R T J) := hT
  have HY : Hid (∀ pre x W1, J pre W1 → pre ++ [x] <+: L → YieldAt Fence.wide 0 Tryz.prog l #[.agg #[.string x.1, .string x.2]] W1 fun e W' => (e = .returned (.bool true) ∧ J (pre ++ [x]) W' ∧ Fr (T W1) W1 W' ∧ ∀ k, T W' k → T W1 k ∨ W1.heap.size ≤ k) ∨ (e = .returned (.bool false) ∧ Jx (pre ++ [x]) W')) := hY
  have c2 := hcl W hW
  have hbW := hW.size
  have hks := keys_st b W
  have fa := Fr.box W (.cells #[.map (some b)] 79)
  have hca := (one_cells (heap_alloc_new W (.cells #[.map (some b)] 79))).1
  have hso := sorted_st ((hS W hW).same fa) hn (by simp) hca
  have HJ0 : Hid (J [] (W.alloc (.cells #[.map (some b)] 79))) := hT.steady _ _ _ h0 fa
  have HTS : Hid (∀ k, T (W.alloc (.cells #[.map (some b)] 79)) k → k < W.heap.size) := fun k hk => hT.old _ _ _ h0 (hT.back _ _ _ _ h0 fa hk)
  have HF0 : Hid (Fr (fun k => ¬ R k) w (W.alloc (.cells #[.map (some b)] 79))) := hW.trans fa (fun _ _ f => f.elim)
  obtain ⟨n, hnn⟩ : ∃ n, n = L.length := ⟨_, rfl⟩
  have HN : Hid (n = L.length) := hnn
  have HNM : Hid (n ≤ 1000000) := by show _ ≤ _; omega
  clear hS hcl hT hJx hY h0 hW fa hca hn hnn
  refine callsIn_of_wp Tryz.func71 rfl trivial ?_ rfl
  simp only [Tryz.ntmps71, List.size_toArray, List.length_cons, List.length_nil, Nat.reduceAdd, Nat.reduceSub, Array.replicate_succ, Array.replicate_zero, List.push_toArray, List.append_toArray, List.nil_append, List.cons_append]
  gi_wp2
  refine ⟨trivial, rfl, (callsIn_wide.2 hks).mono ?_⟩
  rintro e w1 ⟨rfl, rfl⟩
  clear hks
  generalize hVV : W.alloc (.cells #[.map (some b)] 79) = V at *
  have HSZ : Hid (V.heap.size = W.heap.size + 1) := by show _ = _; rw [← hVV]; simp
  clear hVV
  gi_wp2
  refine ⟨trivial, rfl, (callsIn_wide.2 hso).mono ?_⟩
  rintro e w2 ⟨v, rfl, hrow, f2⟩
  clear hso c2
  have HJ2 : Hid (J [] w2) := HT.out.steady _ _ _ HJ0.out f2
  have F2 : Fr (fun k => ¬ R k) w w2 := HF0.out.trans f2 (fun _ _ f => f.elim)
  rcases hrow.2 with ⟨rfl, hz⟩ | ⟨gb, cap, cur, hv, hbase, hgb, r1, r2, r3, r4⟩
  · have HL0 : Hid (([] : List En) = L) := by show _ = _; exact (List.eq_nil_of_length_eq_zero hz).symm
    clear hrow
    gi_wp2
    refine wpIn_loop_rounds 1 ?_
    rw [roundsIn_succ]
    gi_wp2
    go_end0
    exact ⟨⟨_, rfl⟩, .inl ⟨[], HL0.out, HJ2.out⟩⟩
  · subst hv
    have hN := HN.out
    rw [← hN] at r1 r4 ⊢
    clear hN
    have HGB : Hid (w2.heap[gb]? = some (.cells cur 9 (0, 0))) := hgb
    have HR4 : Hid (∀ (k : Nat) (x : En), L[k]? = some x → cur[k]? = some (Value.string x.1)) := fun k x hx => by
      have h1 : (cur.toList.take (n * 1))[k]? = some (Value.string x.1) := by rw [r4]; simp [hx]
      have hk := (List.getElem?_eq_some_iff.1 hx).1
      rw [List.getElem?_take_of_lt (by have := HN.out; omega)] at h1
      simpa using h1
    have HNT : Hid (¬ T w2 gb) := fun e => by
      have h1 := HTS.out _ (HT.out.back _ _ _ _ HJ0.out f2 e)
      have h2 := HSZ.out
      omega
    have hz2 := lt_of_block hgb
    have hcm : cap ≤ 9223372036854775807 := by unfold maxLen at r2; omega
    clear hrow hgb r2 r3 r4 f2 hbase
    have hn' := HNM.out
    gi_wp2
    gi_loopw [9] (fun i wr => ∃ (k : Nat) (pre : List En), k ≤ n ∧ i = .int .i64 k ∧ Hid (pre = L.take k) ∧ Hid (J pre wr) ∧ Hid (wr.heap[gb]? = some (.cells cur 9 (0, 0))) ∧ Hid (¬ T wr gb) ∧ Fr (fun k => ¬ R k) w wr) (fun i _ => n - (intOf i).toNat)
    case atStart => exact ⟨0, [], by omega, rfl, rfl, HJ2, HGB, HNT, F2⟩
    case round =>
      obtain ⟨k, pre, hk, rfl, HE, HJ, HG, HNG, F⟩ := hrel
      by_cases hlt : k < n
      · obtain ⟨⟨x, y⟩, hs⟩ : ∃ s, L[k]? = some s := ⟨_, List.getElem?_eq_getElem (by have := HN.out; omega)⟩
        have hck := HR4.out k _ hs
        have q0 : wr.cell? ⟨gb, k, none⟩ = some (.string x) := by simp [World.cell?, HG.out, hck]
        have hem := HS.out _ F
        have hmem := List.mem_of_getElem? hs
        have hlk := hem.look1 (x := x) (hem.sml _ hmem)
        rw [fnd_mem hem.ris hmem] at hlk
        dsimp only [Option.getD_some] at hlk
        have cm := HCL.out _ F
        have hki : (k : Int) < (n : Int) := by omega
        have HE2 : Hid (pre ++ [(x, y)] = L.take (k + 1)) := by show _ = _; rw [take_snocH hs, HE.out]
        obtain ⟨fn, tmps, assign, body, hyr, hR⟩ := HY.out pre (x, y) _ HJ.out ⟨L.drop (k + 1), by rw [HE2.out]; exact List.take_append_drop _ _⟩
        dsimp only at hyr
        clear hs HE hck hem hmem
        gi_wp2
        refine ⟨rfl, hR.mono ?_⟩
        rintro e W3 (⟨rfl, hJ4, hk4, hg4⟩ | ⟨rfl, hJx4⟩)
        · have HJ4 : Hid (J (pre ++ [(x, y)]) W3) := hJ4
          have HG4 : Hid (W3.heap[gb]? = some (.cells cur 9 (0, 0))) := hk4.blk HG.out HNG.out
          have HN4 : Hid (¬ T W3 gb) := fun e => by
            rcases hg4 _ e with h | h
            · exact HNG.out h
            · have := lt_of_block HG.out; omega
          have G4 : Fr (fun k => ¬ R k) w W3 := F.trans hk4 (fun i _ e => HT.out.apart _ _ _ HJ.out e)
          clear hJ4 hk4 hg4 hR hyr hlk cm
          gi_wp2
          go_roundw
          case rel => exact ⟨k + 1, pre ++ [(x, y)], by omega, by go_num, HE2, HJ4, HG4, HN4, G4⟩
          case measure => simp [intOf]; omega
        · gi_wp2
          refine bodyPost_ret (results_none rfl _ _ _) rfl ?_
          exact ⟨⟨_, rfl⟩, .inr ⟨_, hJx4⟩⟩
      · have HS0 : Hid (pre = L) := by
          show _ = _
          rw [HE.out, List.take_of_length_le (by have := HN.out; omega)]
        gi_wp2
        go_end0
        exact ⟨⟨_, rfl⟩, .inl ⟨pre, HS0.out, HJ.out⟩⟩
end Go.Proofs.YtdlnflcjodpkiaaGreat
