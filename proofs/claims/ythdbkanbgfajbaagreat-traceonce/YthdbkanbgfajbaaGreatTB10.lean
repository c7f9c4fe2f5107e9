
/- FdRise, FdGiv3. -/
import Derived.Test.YthdbkanbgfajbaaGreatTB6
import Derived.Test.YthdbkanbgfajbaaGreatTB9
/- The entries of a map in order, by the iterator rising; slices.Collect of them. -/
namespace Go.Proofs.YthdbkanbgfajbaaGreat
open Go.RowKit Go.Shelf
attribute [local go_sem] Oper.semAt_some

/-- What gathers Ent. -/
def GthEnt (w : World) (L pre : List (ByteArray × ByteArray)) (W : World) : Prop := pre <+: L ∧ Fr (fun _ => False) w W ∧ ∃ v, Gat W w.heap.size (w.heap.size + 3) 45 2 v pre.length (pre.flatMap enC)
set_option maxRecDepth 100000 in
set_option maxHeartbeats 4000000 in
theorem rising_iter (b : Nat) (L : List En) (hn : L.length ≤ 1000000) (Bl : Nat) (R : Nat → Prop) (w : World)
    (hS : ∀ W, Fr (fun k => ¬ R k) w W → Em W b L) (hcl : ∀ W, Fr (fun k => ¬ R k) w W → W.cell? ⟨Bl, 0, none⟩ = some (.map (some b))) :
    Iter Tryz.prog 80 #[.pointer (some ⟨Bl, 0, none⟩)] enE R (fun pre x _ => pre ++ [x] <+: L) (fun xs => xs = L) w := by
  intro l T J Jx W hW hT hJx hY h0
  have HS : Hid (∀ W, Fr (fun k => ¬ R k) w W → Em W b L) := hS
  have HCL : Hid (∀ W, Fr (fun k => ¬ R k) w W → W.cell? ⟨Bl, 0, none⟩ = some (.map (some b))) := hcl
  have HT : Hid (Tend R T J) := hT
  have HY : Hid (∀ pre x W1, J pre W1 → pre ++ [x] <+: L → YieldAt Fence.wide 0 Tryz.prog l #[.agg #[.string x.1, .string x.2]] W1 fun e W' => (e = .returned (.bool true) ∧ J (pre ++ [x]) W' ∧ Fr (T W1) W1 W' ∧ ∀ k, T W' k → T W1 k ∨ W1.heap.size ≤ k) ∨ (e = .returned (.bool false) ∧ Jx (pre ++ [x]) W')) := hY
  have c2 := hcl W hW
  have hbW := hW.size
  have hks := keys_st b W
  have fa := Fr.box W (.cells #[.map (some b)] 91)
  have hca := (one_cells (heap_alloc_new W (.cells #[.map (some b)] 91))).1
  have hso := sorted_st ((hS W hW).same fa) hn (by simp) hca
  have HJ0 : Hid (J [] (W.alloc (.cells #[.map (some b)] 91))) := hT.steady _ _ _ h0 fa
  have HTS : Hid (∀ k, T (W.alloc (.cells #[.map (some b)] 91)) k → k < W.heap.size) := fun k hk => hT.old _ _ _ h0 (hT.back _ _ _ _ h0 fa hk)
  have HF0 : Hid (Fr (fun k => ¬ R k) w (W.alloc (.cells #[.map (some b)] 91))) := hW.trans fa (fun _ _ f => f.elim)
  obtain ⟨n, hnn⟩ : ∃ n, n = L.length := ⟨_, rfl⟩
  have HN : Hid (n = L.length) := hnn
  have HNM : Hid (n ≤ 1000000) := by show _ ≤ _; omega
  clear hS hcl hT hJx hY h0 hW fa hca hn hnn
  refine callsIn_of_wp Tryz.func80 rfl trivial ?_ rfl
  simp only [Tryz.ntmps80, List.size_toArray, List.length_cons, List.length_nil, Nat.reduceAdd, Nat.reduceSub, Array.replicate_succ, Array.replicate_zero, List.push_toArray, List.append_toArray, List.nil_append, List.cons_append]
  gi_wp2
  refine ⟨trivial, rfl, (callsIn_wide.2 hks).mono ?_⟩
  rintro e w1 ⟨rfl, rfl⟩
  clear hks
  generalize hVV : W.alloc (.cells #[.map (some b)] 91) = V at *
  have HSZ : Hid (V.heap.size = W.heap.size + 1) := by show _ = _; rw [← hVV]; simp
  clear hVV
  gi_wp2
  refine ⟨trivial, rfl, (callsIn_wide.2 hso).mono ?_⟩
  rintro e w2 ⟨v, rfl, hrow, f2⟩
  clear hso c2
  have HJ2 : Hid (J [] w2) := HT.out.steady _ _ _ HJ0.out f2
  have F2 : Fr (fun k => ¬ R k) w w2 := HF0.out.trans f2 (fun _ _ f => f.elim)
  rcases hrow.2 with ⟨rfl, hz⟩ | ⟨gb, cap, cur, hv, hbase, hgb, r1, r2, r3, r4⟩
  · have HL0 : Hid (([] : List En) = L) := by show _ = _; exact (List.eq_nil_of_length_eq_zero hz).symm
    clear hrow
    gi_wp2
    refine wpIn_loop_rounds 1 ?_
    rw [roundsIn_succ]
    gi_wp2
    go_end0
    exact ⟨⟨_, rfl⟩, .inl ⟨[], HL0.out, HJ2.out⟩⟩
  · subst hv
    have hN := HN.out
    rw [← hN] at r1 r4 ⊢
    clear hN
    have HGB : Hid (w2.heap[gb]? = some (.cells cur 9 (0, 0))) := hgb
    have HR4 : Hid (∀ (k : Nat) (x : En), L[k]? = some x → cur[k]? = some (Value.string x.1)) := fun k x hx => by
      have h1 : (cur.toList.take (n * 1))[k]? = some (Value.string x.1) := by rw [r4]; simp [hx]
      have hk := (List.getElem?_eq_some_iff.1 hx).1
      rw [List.getElem?_take_of_lt (by have := HN.out; omega)] at h1
      simpa using h1
    have HNT : Hid (¬ T w2 gb) := fun e => by
      have h1 := HTS.out _ (HT.out.back _ _ _ _ HJ0.out f2 e)
      have h2 := HSZ.out
      omega
    have hz2 := lt_of_block hgb
    have hcm : cap ≤ 9223372036854775807 := by unfold maxLen at r2; omega
    clear hrow hgb r2 r3 r4 f2 hbase
    have hn' := HNM.out
    gi_wp2
    gi_loopw [9] (fun i wr => ∃ (k : Nat) (pre : List En), k ≤ n ∧ i = .int .i64 k ∧ Hid (pre = L.take k) ∧ Hid (J pre wr) ∧ Hid (wr.heap[gb]? = some (.cells cur 9 (0, 0))) ∧ Hid (¬ T wr gb) ∧ Fr (fun k => ¬ R k) w wr) (fun i _ => n - (intOf i).toNat)
    case atStart => exact ⟨0, [], by omega, rfl, rfl, HJ2, HGB, HNT, F2⟩
    case round =>
      obtain ⟨k, pre, hk, rfl, HE, HJ, HG, HNG, F⟩ := hrel
      by_cases hlt : k < n
      · obtain ⟨⟨x, y⟩, hs⟩ : ∃ s, L[k]? = some s := ⟨_, List.getElem?_eq_getElem (by have := HN.out; omega)⟩
        have hck := HR4.out k _ hs
        have q0 : wr.cell? ⟨gb, k, none⟩ = some (.string x) := by simp [World.cell?, HG.out, hck]
        have hem := HS.out _ F
        have hmem := List.mem_of_getElem? hs
        have hlk := hem.look1 (x := x) (hem.sml _ hmem)
        rw [fnd_mem hem.ris hmem] at hlk
        dsimp only [Option.getD_some] at hlk
        have cm := HCL.out _ F
        have hki : (k : Int) < (n : Int) := by omega
        have HE2 : Hid (pre ++ [(x, y)] = L.take (k + 1)) := by show _ = _; rw [take_snocH hs, HE.out]
        obtain ⟨fn, tmps, assign, body, hyr, hR⟩ := HY.out pre (x, y) _ HJ.out ⟨L.drop (k + 1), by rw [HE2.out]; exact List.take_append_drop _ _⟩
        dsimp only at hyr
        clear hs HE hck hem hmem
        gi_wp2
        refine ⟨rfl, hR.mono ?_⟩
        rintro e W3 (⟨rfl, hJ4, hk4, hg4⟩ | ⟨rfl, hJx4⟩)
        · have HJ4 : Hid (J (pre ++ [(x, y)]) W3) := hJ4
          have HG4 : Hid (W3.heap[gb]? = some (.cells cur 9 (0, 0))) := hk4.blk HG.out HNG.out
          have HN4 : Hid (¬ T W3 gb) := fun e => by
            rcases hg4 _ e with h | h
            · exact HNG.out h
            · have := lt_of_block HG.out; omega
          have G4 : Fr (fun k => ¬ R k) w W3 := F.trans hk4 (fun i _ e => HT.out.apart _ _ _ HJ.out e)
          clear hJ4 hk4 hg4 hR hyr hlk cm
          gi_wp2
          go_roundw
          case rel => exact ⟨k + 1, pre ++ [(x, y)], by omega, by go_num, HE2, HJ4, HG4, HN4, G4⟩
          case measure => simp [intOf]; omega
        · gi_wp2
          refine bodyPost_ret (results_none rfl _ _ _) rfl ?_
          exact ⟨⟨_, rfl⟩, .inr ⟨_, hJx4⟩⟩
      · have HS0 : Hid (pre = L) := by
          show _ = _
          rw [HE.out, List.take_of_length_le (by have := HN.out; omega)]
        gi_wp2
        go_end0
        exact ⟨⟨_, rfl⟩, .inl ⟨pre, HS0.out, HJ.out⟩⟩
end Go.Proofs.YthdbkanbgfajbaaGreat

/- What an operation on one key gives of the entries of an iterator. -/
namespace Go.Proofs.YthdbkanbgfajbaaGreat
open Go.RowKit Go.Shelf
attribute [local go_sem] Oper.semAt_some

theorem look_key {o : Opn} (h : o.kind ≠ 4) (k : ByteArray) : lookB o k = decide (k = o.key) := if_neg h
theorem fnd_snoc_no {L : List En} {k : ByteArray} {e : En} (h : fnd L k = none) (he : e.1 ≠ k) : fnd (L ++ [e]) k = none := by
  unfold fnd at h ⊢
  rw [List.find?_append, h, List.find?_cons, show decide (e.1 = k) = false by simpa using he]; rfl
theorem fnd_pre {L pre : List En} {k : ByteArray} {e : En} (h : fnd pre k = none) (he : e.1 = k) (hp : pre ++ [e] <+: L) : fnd L k = some e := by
  obtain ⟨r, rfl⟩ := hp
  unfold fnd at h ⊢
  rw [List.append_assoc, List.find?_append, h, List.singleton_append, List.find?_cons, show decide (e.1 = k) = true by simpa using he]; rfl
/-- Between two rounds of an operation on one key. -/
structure GvK (w : World) (o : Opn) (L pre : List En) (W : World) : Prop where
  pre_ : pre <+: L
  no : fnd pre o.key = none
  fr : Fr (fun _ => False) w W
  b0 : W.heap[w.heap.size]? = some (.cells #[.int .i64 o.kind, .string o.key, .string o.val] 30 (0, 0))
  b1 : W.heap[w.heap.size + 1]? = some (.cells #[.bool false, .string ⟨#[]⟩, .slice none 0 0] 47 (0, 0))
  b2 : W.heap[w.heap.size + 2]? = some (.cells #[.bool false, .string ⟨#[]⟩, .slice none 0 0] 47 (0, 0))
theorem GvK.on {w : World} {o : Opn} {L pre : List En} {W W' : World} {S : Nat → Prop} (h : GvK w o L pre W) (f : Fr S W W') (h1 : ∀ k, k < w.heap.size + 3 → ¬ S k) : GvK w o L pre W' :=
  ⟨h.pre_, h.no, h.fr.trans f (fun i hi e => h1 i (by omega) e), f.blk h.b0 (h1 _ (by omega)), f.blk h.b1 (h1 _ (by omega)), f.blk h.b2 (h1 _ (by omega))⟩
structure GvX (w : World) (o : Opn) (L : List En) (c : Code) (pre : List En) (W : World) : Prop where
  ret : c = .ret
  fr : Fr (fun _ => False) w W
  hit : ∃ x, fnd L o.key = some x ∧ W.heap[w.heap.size + 1]? = some (.cells #[.bool true, .string (if o.kind = 1 then x.2 else ⟨#[]⟩), .slice none 0 0] 47 (0, 0))
set_option maxRecDepth 100000 in
set_option maxHeartbeats 4000000 in
theorem given_key (o : Opn) (hk4 : o.kind ≠ 4) (hok : o.key.size ≤ maxLen) (hov : o.val.size ≤ maxLen) (gf : Nat) (lb : Array Value) (eg : ∀ args w, (callFunc gf args).run Tryz.prog w = .ok (.enter gf args) w) (R : Nat → Prop) (M : List En → En → World → Prop) (L : List En) (hsm : ∀ e ∈ L, e.1.size ≤ maxLen) (w0 w : World)
    (hM : ∀ pre x W, M pre x W → pre ++ [x] <+: L) (hit : Iter Tryz.prog gf lb enE R M (fun xs => xs = L) w0) (hw : Fr (fun k => ¬ R k) w0 w) (hR : ∀ k, R k → k < w.heap.size) :
    Calls Tryz.prog 64 #[.agg #[.int .i64 o.kind, .string o.key, .string o.val], .func (.func gf) #[] lb] w fun e w' => RsOut w (givF o L) e w' := by
  have HLK : Hid (∀ k, k.size ≤ maxLen → ∀ W, Calls Tryz.prog 52 #[.agg #[.int .i64 o.kind, .string o.key, .string o.val], .string k] W fun e w' => e = .returned (.bool (decide (k = o.key))) ∧ Fr (fun _ => False) W w') := fun k hk W => by rw [← look_key hk4]; exact looksAt_any o k hk hok hov W
  have HSM : Hid (∀ e ∈ L, e.1.size ≤ maxLen) := hsm
  have HK4 : Hid (o.kind ≠ 4) := hk4
  have hk4' : (o.kind == 4) = false := by simpa using hk4
  have f0 : Fr (fun _ => False) w (((w.alloc (.cells #[.int .i64 o.kind, .string o.key, .string o.val] 30)).alloc (.cells #[.bool false, .string ⟨#[]⟩, .slice none 0 0] 47)).alloc (.cells #[.bool false, .string ⟨#[]⟩, .slice none 0 0] 47)) := (((Fr.refl _ _).alloc _).alloc _).alloc _
  obtain ⟨_, hB0, hB1, hB2⟩ := three_new w (.cells #[.int .i64 o.kind, .string o.key, .string o.val] 30) (.cells #[.bool false, .string ⟨#[]⟩, .slice none 0 0] 47) (.cells #[.bool false, .string ⟨#[]⟩, .slice none 0 0] 47)
  have hsz : (((w.alloc (.cells #[.int .i64 o.kind, .string o.key, .string o.val] 30)).alloc (.cells #[.bool false, .string ⟨#[]⟩, .slice none 0 0] 47)).alloc (.cells #[.bool false, .string ⟨#[]⟩, .slice none 0 0] 47)).heap.size = w.heap.size + 3 := by simp
  obtain ⟨kind, key, val⟩ := o
  dsimp only at *
  clear hsm hok hov hk4
  refine (callsIn_wide (n := 0)).1 ?_
  refine callsIn_of_wp_marks Tryz.func64 rfl trivial ?_ rfl
  simp only [Tryz.ntmps64, List.size_toArray, List.length_cons, List.length_nil, Nat.reduceAdd, Nat.reduceSub, Array.replicate_succ, Array.replicate_zero, List.push_toArray, List.append_toArray, List.nil_append, List.cons_append]
  gi_wp2
  generalize ((w.alloc (.cells #[.int .i64 kind, .string key, .string val] 30)).alloc (.cells #[.bool false, .string ⟨#[]⟩, .slice none 0 0] 47)).alloc (.cells #[.bool false, .string ⟨#[]⟩, .slice none 0 0] 47) = V at *
  refine over (gf := gf) (lb := lb) rfl eg hit (hw.trans f0 (fun _ _ f => f.elim)) (fun _ => rfl)
    (fun _ k => k = w.heap.size + 1) (GvK w ⟨kind, key, val⟩ L) (GvX w ⟨kind, key, val⟩ L) ?st ?stx ?ol ?bk ?ap ?h0 ?round ?done ?stop
  case st => intro pre A B hI f; exact hI.on f (fun k hk e => by omega)
  case stx =>
    intro cd pre A B hX f
    obtain ⟨x, h1, h2⟩ := hX.hit
    exact ⟨hX.ret, hX.fr.trans f (fun i hi e => by omega), x, h1, f.blk h2 (by omega)⟩
  case ol => rintro pre A k hI rfl; exact lt_of_block hI.b1
  case bk => intro pre A B q _ _ h; exact h
  case ap => rintro pre A k hI rfl; exact ⟨fun h => by have := hR _ h; omega, by omega, by omega⟩
  case h0 => exact ⟨List.nil_prefix, rfl, f0, hB0, hB1, hB2⟩
  case round =>
    rintro pre ⟨x, y⟩ W hI hm hz _
    have hpx := hM _ _ _ hm
    clear hm
    dsimp only
    gi_wp2
    refine ⟨Fr.box W _, fun W2 f2 => ?_⟩
    have hbx := f2.blk (heap_alloc_new W (.cells #[.string x, .string y] 107)) (by omega)
    have FW : Fr (fun q => q = V.heap.size + 1) W W2 := ((Fr.box W (.cells #[.string x, .string y] 107)).widen (fun _ f => f.elim)).trans f2 (fun _ _ e => e)
    have hI2 := hI.on FW (fun k hk e => by omega)
    have hxs : x.size ≤ maxLen := HSM.out (x, y) (hpx.subset (by simp))
    have HPX : Hid (pre ++ [(x, y)] <+: L) := hpx
    have HI2 : Hid (GvK w ⟨kind, key, val⟩ L pre W2) := hI2
    obtain ⟨⟨d0, d1, d2⟩, _⟩ := three_cells hI2.b0
    obtain ⟨e0, e1⟩ := two_cells hbx
    have HBX : Hid (W2.heap[W.heap.size]? = some (.cells #[.string x, .string y] 107 (0, 0))) := hbx
    clear hI hI2 hpx f2
    gi_wp2
    refine ⟨trivial, rfl, (CallsIn.inRound _ (callsIn_wide.2 (HLK.out x hxs _))).mono ?_⟩
    rintro e w3 ⟨rfl, f3⟩
    have HI3 : Hid (GvK w ⟨kind, key, val⟩ L pre w3) := HI2.out.on f3 (fun _ _ f => f)
    by_cases hlk : x = key
    · obtain ⟨⟨d0', d1', d2'⟩, _⟩ := three_cells HI3.out.b0
      obtain ⟨⟨c0, c1, c2⟩, z0, z1, z2⟩ := three_cells HI3.out.b1
      obtain ⟨e0', e1'⟩ := two_cells (f3.blk HBX.out (fun f => f))
      have HFN : Hid (fnd L key = some (x, y)) := fnd_pre HI2.out.no hlk HPX.out
      have HF3 : Hid (Fr (fun q => q = w.heap.size + 1) W2 w3) := f3.widen (fun _ f => f.elim)
      have hld : decide (x = key) = true := by simpa using hlk
      rw [hld]
      clear f3 hlk hld d0 d1 d2 e0 e1 HBX
      by_cases h1 : kind = 1
      · subst h1
        have fs : Fr (fun q => q = w.heap.size + 1) w3 (((w3.setCell ⟨w.heap.size + 1, 0, none⟩ (.bool true)).setCell ⟨w.heap.size + 1, 1, none⟩ (.string y)).setCell ⟨w.heap.size + 1, 2, none⟩ (.slice none 0 0)) := (((Fr.refl (fun q => q = w.heap.size + 1) w3).setCell (p := ⟨w.heap.size + 1, 0, none⟩) (fun _ => rfl) _).setCell (p := ⟨w.heap.size + 1, 1, none⟩) (fun _ => rfl) _).setCell (p := ⟨w.heap.size + 1, 2, none⟩) (fun _ => rfl) _
        have hb1 := set_all HI3.out.b1 (.bool true) (.string y) (.slice none 0 0)
        gi_wp2
        exact ⟨HF3.out.trans fs (fun _ _ e => e), rfl, HI3.out.fr.trans fs (fun i hi e => by omega), (x, y), HFN.out, hb1⟩
      · have h1' : (kind == 1) = false := by simpa using h1
        have HV : Hid (∀ z : ByteArray, (if kind = 1 then z else ⟨#[]⟩) = ⟨#[]⟩) := fun z => if_neg h1
        have fs : Fr (fun q => q = w.heap.size + 1) w3 (((w3.setCell ⟨w.heap.size + 1, 0, none⟩ (.bool true)).setCell ⟨w.heap.size + 1, 1, none⟩ (.string ⟨#[]⟩)).setCell ⟨w.heap.size + 1, 2, none⟩ (.slice none 0 0)) := (((Fr.refl (fun q => q = w.heap.size + 1) w3).setCell (p := ⟨w.heap.size + 1, 0, none⟩) (fun _ => rfl) _).setCell (p := ⟨w.heap.size + 1, 1, none⟩) (fun _ => rfl) _).setCell (p := ⟨w.heap.size + 1, 2, none⟩) (fun _ => rfl) _
        have hb1 := set_all HI3.out.b1 (.bool true) (.string ⟨#[]⟩) (.slice none 0 0)
        clear h1
        gi_wp2
        exact ⟨HF3.out.trans fs (fun _ _ e => e), rfl, HI3.out.fr.trans fs (fun i hi e => by omega), (x, y), HFN.out, by dsimp only; rw [HV.out]; exact hb1⟩
    · have hld : decide (x = key) = false := by simpa using hlk
      rw [hld]
      have HN3 : Hid (GvK w ⟨kind, key, val⟩ L (pre ++ [(x, y)]) w3) := ⟨HPX.out, fnd_snoc_no HI3.out.no hlk, HI3.out.fr, HI3.out.b0, HI3.out.b1, HI3.out.b2⟩
      have HF3 : Hid (Fr (fun q => q = w.heap.size + 1) W2 w3) := f3.widen (fun _ f => f.elim)
      clear f3 hlk hld
      gi_wp2
      exact ⟨HF3.out, fun k h => .inl h, HN3.out⟩
  case done =>
    rintro xs W rfl hI hK
    obtain ⟨⟨c0, c1, c2⟩, _⟩ := three_cells hI.b2
    obtain ⟨⟨d0, d1, d2⟩, z0, z1, z2⟩ := three_cells hI.b1
    have fs : Fr (fun q => q = w.heap.size + 1) W (((W.setCell ⟨w.heap.size + 1, 0, none⟩ (.bool false)).setCell ⟨w.heap.size + 1, 1, none⟩ (.string ⟨#[]⟩)).setCell ⟨w.heap.size + 1, 2, none⟩ (.slice none 0 0)) := (((Fr.refl (fun q => q = w.heap.size + 1) W).setCell (p := ⟨w.heap.size + 1, 0, none⟩) (fun _ => rfl) _).setCell (p := ⟨w.heap.size + 1, 1, none⟩) (fun _ => rfl) _).setCell (p := ⟨w.heap.size + 1, 2, none⟩) (fun _ => rfl) _
    have hb1 := set_all hI.b1 (.bool false) (.string ⟨#[]⟩) (.slice none 0 0)
    have hK2 := fs.blk hK (by omega)
    have fp := Fr.put (((W.setCell ⟨w.heap.size + 1, 0, none⟩ (.bool false)).setCell ⟨w.heap.size + 1, 1, none⟩ (.string ⟨#[]⟩)).setCell ⟨w.heap.size + 1, 2, none⟩ (.slice none 0 0)) V.heap.size (.deferred none)
    have fE := (hI.fr.trans fs (S := fun _ => False) (fun i hi e => by omega)).trans fp (S := fun _ => False) (fun i hi e => by omega)
    obtain ⟨⟨g0, g1, g2⟩, _⟩ := three_cells (fp.blk hb1 (by omega))
    have HG : Hid (givF ⟨kind, key, val⟩ xs = ⟨false, ⟨#[]⟩, []⟩) := givF_none HK4.out hI.no
    have HFE : Hid (Fr (fun _ => False) w ((((W.setCell ⟨w.heap.size + 1, 0, none⟩ (.bool false)).setCell ⟨w.heap.size + 1, 1, none⟩ (.string ⟨#[]⟩)).setCell ⟨w.heap.size + 1, 2, none⟩ (.slice none 0 0)).putObj V.heap.size (.deferred none))) := fE
    clear fE fp fs hb1 hI hsz
    gi_wp2
    refine ⟨by simp, .inl ⟨_, _, rfl, run_takeDeferred hK2, ?_⟩⟩
    exact ⟨.agg #[.bool false, .string ⟨#[]⟩, .slice none 0 0], by simp [results, Tryz.results64, go_sem, g0, g1, g2], by rw [HG.out]; exact ⟨none, 0, rfl, Ens.nil _, (fun b off e => by cases e), HFE.out⟩⟩
  case stop =>
    rintro cd pre W hX hK
    obtain rfl := hX.ret
    obtain ⟨x, hx, hb1⟩ := hX.hit
    have fp := Fr.put W V.heap.size (.deferred none)
    have fE := hX.fr.trans fp (S := fun _ => False) (fun i hi e => by omega)
    obtain ⟨⟨g0, g1, g2⟩, _⟩ := three_cells (fp.blk hb1 (by omega))
    have HG : Hid (givF ⟨kind, key, val⟩ L = ⟨true, if kind = 1 then x.2 else ⟨#[]⟩, []⟩) := givF_some HK4.out hx
    dsimp only at g0 g1 g2
    obtain ⟨vv, hvv⟩ : ∃ vv, vv = if kind = 1 then x.2 else ⟨#[]⟩ := ⟨_, rfl⟩
    rw [← hvv] at g1 HG
    have HFE : Hid (Fr (fun _ => False) w (W.putObj V.heap.size (.deferred none))) := fE
    clear fE fp hb1 hX hsz hvv
    gi_wp2
    refine ⟨by simp, .inl ⟨_, _, rfl, run_takeDeferred hK, ?_⟩⟩
    exact ⟨.agg #[.bool true, .string vv, .slice none 0 0], by simp [results, Tryz.results64, go_sem, g0, g1, g2], by rw [HG.out]; exact ⟨none, 0, rfl, Ens.nil _, (fun b off e => by cases e), HFE.out⟩⟩
/-- What an operation gives of the entries of an iterator. -/
theorem given_any (o : Opn) (hok : o.key.size ≤ maxLen) (hov : o.val.size ≤ maxLen) (gf : Nat) (lb : Array Value) (eg : ∀ args w, (callFunc gf args).run Tryz.prog w = .ok (.enter gf args) w) (R : Nat → Prop) (M : List En → En → World → Prop) (L : List En) (hL : L.length * 32 ≤ 140737488355328) (hsm : ∀ e ∈ L, e.1.size ≤ maxLen) (w0 w : World)
    (hM : ∀ pre x W, M pre x W → pre ++ [x] <+: L) (hit : Iter Tryz.prog gf lb enE R M (fun xs => xs = L) w0) (hw : Fr (fun k => ¬ R k) w0 w) (hR : ∀ k, R k → k < w.heap.size) :
    Calls Tryz.prog 64 #[.agg #[.int .i64 o.kind, .string o.key, .string o.val], .func (.func gf) #[] lb] w fun e w' => RsOut w (givF o L) e w' := by
  by_cases h : o.kind = 4
  · exact given_scan o h hok hov gf lb eg R M L hL hsm w0 w hM hit hw hR
  · exact given_key o h hok hov gf lb eg R M L hsm w0 w hM hit hw hR
end Go.Proofs.YthdbkanbgfajbaaGreat
