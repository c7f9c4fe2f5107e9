
/- What the document's own Given gives of a map, for a scan. -/
import Derived.Test.YtdlnflcjodpkiaaGreatFdRGiv
namespace Go.Proofs.YtdlnflcjodpkiaaGreat
open Go.RowKit Go.Shelf

theorem filt_yes {L : List En} {k : Nat} {e : En} {p : En → Bool} (h : L[k]? = some e) (hp : p e = true) : (L.take (k + 1)).filter p = (L.take k).filter p ++ [e] := by
  rw [take_snocH h, List.filter_append, List.filter_cons_of_pos hp]; rfl
theorem filt_no {L : List En} {k : Nat} {e : En} {p : En → Bool} (h : L[k]? = some e) (hp : p e = false) : (L.take (k + 1)).filter p = (L.take k).filter p := by
  rw [take_snocH h, List.filter_append, List.filter_cons_of_neg (by simp [hp])]; simp
set_option maxRecDepth 100000 in
set_option maxHeartbeats 4000000 in
theorem rgiven_scan (o : Opn) (hk4 : o.kind = 4) (hok : o.key.size ≤ maxLen) (hov : o.val.size ≤ maxLen) (a : Option Addr) (n c : Nat) (L : List En) (hn : n = L.length) (hL : n * 32 ≤ 140737488355328) (hsm : ∀ e ∈ L, e.1.size ≤ maxLen) (w : World) (h : Ens w a c L) :
    Calls Tryz.prog 53 #[.slice a n c, .agg #[.int .i64 o.kind, .string o.key, .string o.val]] w fun e w' => RsOut w (givF o L) e w' := by
  obtain ⟨iR, hiR, hR0, hR1, hR2⟩ := info_parts infoEnt
  have hle : n ≤ c := by rw [hn]; exact h.le
  have hmx := h.max
  have HS : Hid (∀ W, Fr (fun _ => False) w W → Ens W a c L) := fun W f => h.same f
  have HN : Hid (n = L.length) := hn
  have HSM : Hid (∀ e ∈ L, e.1.size ≤ maxLen) := hsm
  obtain ⟨_, hB0, hB1, hB2⟩ := three_new w (.cells #[.int .i64 o.kind, .string o.key, .string o.val] 35) (.cells #[.bool false, .string ⟨#[]⟩, .slice none 0 0] 37) (.cells #[.bool false, .string ⟨#[]⟩, .slice none 0 0] 37)
  have HG0 : Hid (GvR w o (((w.alloc (.cells #[.int .i64 o.kind, .string o.key, .string o.val] 35)).alloc (.cells #[.bool false, .string ⟨#[]⟩, .slice none 0 0] 37)).alloc (.cells #[.bool false, .string ⟨#[]⟩, .slice none 0 0] 37)) false ⟨#[]⟩ (.slice none 0 0)) := ⟨(((Fr.refl _ _).alloc _).alloc _).alloc _, hB0, hB1, hB2⟩
  rw [givF_scan hk4]
  have HYES : Hid (∀ (k : Nat) (e : En), L[k]? = some e → lookB o e.1 = true → (L.take (k + 1)).filter (fun e => lookB o e.1) = (L.take k).filter (fun e => lookB o e.1) ++ [e]) := fun k e he hek => filt_yes he hek
  have HNO : Hid (∀ (k : Nat) (e : En), L[k]? = some e → lookB o e.1 = false → (L.take (k + 1)).filter (fun e => lookB o e.1) = (L.take k).filter (fun e => lookB o e.1)) := fun k e he hek => filt_no he hek
  have HLK : Hid (∀ x : ByteArray, lookB o x = ((decide (0 ≤ cp x o.key)) && (o.val.toList.isEmpty || decide (cp x o.val < 0)))) := fun x => by
    unfold lookB
    rw [if_pos hk4]
    have : (!decide (cp x o.key < 0)) = decide (0 ≤ cp x o.key) := by rw [Bool.eq_iff_iff]; simp
    rw [this]
    rfl
  have HC1 : Hid (∀ x : ByteArray, x.size ≤ maxLen → ∀ W, Calls Tryz.prog 52 #[.string x, .string o.key] W fun e w' => e = .returned (.int .i64 (cp x o.key)) ∧ Fr (fun _ => False) W w') := fun x hx W => rcompare_any x o.key hx hok W
  have HC2 : Hid (∀ x : ByteArray, x.size ≤ maxLen → ∀ W, Calls Tryz.prog 52 #[.string x, .string o.val] W fun e w' => e = .returned (.int .i64 (cp x o.val)) ∧ Fr (fun _ => False) W w') := fun x hx W => rcompare_any x o.val hx hov W
  have HFL : Hid (∀ k, ((L.take k).filter (fun e => lookB o e.1)).length ≤ k) := fun k => Nat.le_trans (List.length_filter_le _ _) (List.length_take_le _ _)
  obtain ⟨kind, key, val⟩ := o
  dsimp only at hk4
  subst hk4
  dsimp only at HG0 HLK HC1 HC2 ⊢
  obtain ⟨P, hP⟩ : ∃ P : Nat → List En, P = fun k => (L.take k).filter (fun e => lookB ⟨4, key, val⟩ e.1) := ⟨_, rfl⟩
  have HP : Hid (∀ k, (L.take k).filter (fun e => lookB ⟨4, key, val⟩ e.1) = P k) := fun k => by rw [hP]
  have HPE : Hid (L.filter (fun e => lookB ⟨4, key, val⟩ e.1) = P n) := by show _ = _; rw [hP]; dsimp only; rw [List.take_of_length_le (by omega)]
  have HP0 : Hid (P 0 = []) := by show _ = _; rw [hP]; rfl
  rw [HPE.out]
  clear h hn hB0 hB1 hB2 hok hov hsm hP
  go_enter Tryz.func53, Tryz.ntmps53
  go_wp2
  generalize ((w.alloc (.cells #[.int .i64 4, .string key, .string val] 35)).alloc (.cells #[.bool false, .string ⟨#[]⟩, .slice none 0 0] 37)).alloc (.cells #[.bool false, .string ⟨#[]⟩, .slice none 0 0] 37) = V at *
  go_loopw [11] (fun i wr => ∃ (k m : Nat) (a' : Option Addr) (c' : Nat), k ≤ n ∧ i = .int .i64 k ∧ m ≤ k ∧ Hid (m = (P k).length) ∧ Hid (Has wr 2 (.slice a' m c') m ((P k).flatMap enC)) ∧ Hid (∀ g, (Value.slice a' m c').ownBlock = some g → w.heap.size + 3 ≤ g) ∧ Hid (GvR w ⟨4, key, val⟩ wr false ⟨#[]⟩ (.slice a' m c'))) (fun i _ => n - (intOf i).toNat)
  case atStart => exact ⟨0, 0, none, 0, by omega, rfl, by omega, by show _ = _; rw [HP0.out]; rfl, by show Has _ _ _ _ _; rw [HP0.out]; exact Has.nil _ _, (fun g e => by cases e), HG0⟩
  case round =>
    obtain ⟨k, m, a', c', hk, rfl, hmk, HM, HH, HO, HG⟩ := hrel
    by_cases hlt : k < n
    · obtain ⟨⟨x, y⟩, hs⟩ : ∃ s, L[k]? = some s := ⟨_, List.getElem?_eq_getElem (by have := HN.out; omega)⟩
      obtain ⟨bb, off, rfl, hbb, hcc⟩ := (HS.out _ HG.out.fr).some (by have := HN.out; omega)
      obtain ⟨q0, q1⟩ := hcc k _ hs
      dsimp only at q0 q1
      have hki : (k : Int) < (n : Int) := by omega
      have hxs := HSM.out _ (List.mem_of_getElem? hs)
      have hc1 := HC1.out x hxs
      have hc2 := HC2.out x hxs
      have hlk := HLK.out x
      have HY := HYES.out k _ hs
      have HNn := HNO.out k _ hs
      rw [HP.out, HP.out] at HY HNn
      dsimp only at HY HNn
      have HYY : Hid (lookB ⟨4, key, val⟩ x = true → P (k + 1) = P k ++ [(x, y)]) := HY
      have HNN : Hid (lookB ⟨4, key, val⟩ x = false → P (k + 1) = P k) := HNn
      obtain ⟨⟨d0, d1, d2⟩, _⟩ := three_cells HG.out.b0
      have hz0 := lt_of_block HG.out.b0
      have hz2 := lt_of_block HG.out.b2
      have HG1 : Hid (GvR w ⟨4, key, val⟩ (wr.alloc (.cells #[.string x, .string y] 77)) false ⟨#[]⟩ (.slice a' m c')) := HG.out.same (Fr.box wr _)
      have HH1 : Hid (Has (wr.alloc (.cells #[.string x, .string y] 77)) 2 (.slice a' m c') m ((P k).flatMap enC)) := HH.out.fr (Fr.box wr _) (fun _ _ f => f)
      have HX : Hid (∀ W, Fr (fun _ => False) (wr.alloc (.cells #[.string x, .string y] 77)) W → W.heap[wr.heap.size]? = some (.cells #[.string x, .string y] 77 (0, 0))) := fun W f => f.blk (heap_alloc_new wr _) (fun f => f)
      have HXO : Hid (∀ g, (Value.slice a' m c').ownBlock = some g → wr.heap.size ≠ g) := fun g e => by have := HH.out.lt e; omega
      -- how a round ends, where nothing comes
      have HSK : Hid (∀ W, Fr (fun _ => False) (wr.alloc (.cells #[.string x, .string y] 77)) W → lookB ⟨4, key, val⟩ x = false → Hid (m = (P (k + 1)).length) ∧ Hid (Has W 2 (.slice a' m c') m ((P (k + 1)).flatMap enC)) ∧ Hid (GvR w ⟨4, key, val⟩ W false ⟨#[]⟩ (.slice a' m c'))) := fun W f hl => by
        rw [HNN.out hl]
        exact ⟨HM, HH1.out.fr f (fun _ _ f => f), HG1.out.same f⟩
      clear hs hcc HY HNn hxs
      have HYP : Hid (lookB ⟨4, key, val⟩ x = true → ∀ (W W8 : World) (a4 : Option Addr) (c4 : Nat), Fr (fun _ => False) (wr.alloc (.cells #[.string x, .string y] 77)) W → Has W8 2 (.slice a4 (m + 1) c4) (m + 1) ((P k).flatMap enC ++ enC (x, y)) → Fr (fun q => (Value.slice a' m c').ownBlock = some q ∧ 0 < 1) (W.alloc (.cells #[.string x, .string y] 77)) W8 → ((Value.slice a4 (m + 1) c4).ownBlock = (Value.slice a' m c').ownBlock ∨ (Value.slice a4 (m + 1) c4).ownBlock = some (W.alloc (.cells #[.string x, .string y] 77)).heap.size) →
          W8.cell? ⟨w.heap.size + 2, 2, none⟩ = some (.slice a' m c') ∧ W8.frozen? ⟨w.heap.size + 2, 2, none⟩ = false ∧ Hid (m + 1 = (P (k + 1)).length) ∧ Hid (Has (W8.setCell ⟨w.heap.size + 2, 2, none⟩ (.slice a4 (m + 1) c4)) 2 (.slice a4 (m + 1) c4) (m + 1) ((P (k + 1)).flatMap enC)) ∧ Hid (∀ g, (Value.slice a4 (m + 1) c4).ownBlock = some g → w.heap.size + 3 ≤ g) ∧ Hid (GvR w ⟨4, key, val⟩ (W8.setCell ⟨w.heap.size + 2, 2, none⟩ (.slice a4 (m + 1) c4)) false ⟨#[]⟩ (.slice a4 (m + 1) c4))) := fun hl W W8 a4 c4 f ht f8 hat => by
        have hG3 := (HG1.out.same f).same (Fr.box W (.cells #[.string x, .string y] 77))
        have hG8 : GvR w ⟨4, key, val⟩ W8 false ⟨#[]⟩ (.slice a' m c') := hG3.on f8 (fun k hk e => by have := HO.out k e.1; omega)
        have hz := lt_of_block hG3.b2
        have ho4 : ∀ g, (Value.slice a4 (m + 1) c4).ownBlock = some g → w.heap.size + 3 ≤ g := fun g e => by
          rcases hat with h1 | h1
          · rw [h1] at e; exact HO.out g e
          · rw [h1] at e; simp only [Option.some.injEq] at e; omega
        have fs : Fr (fun k => k = w.heap.size + 2) W8 (W8.setCell ⟨w.heap.size + 2, 2, none⟩ (.slice a4 (m + 1) c4)) := (Fr.refl (fun k => k = w.heap.size + 2) W8).setCell (p := ⟨w.heap.size + 2, 2, none⟩) (fun _ => rfl) _
        obtain ⟨⟨_, _, g2⟩, _, _, gz⟩ := three_cells hG8.b2
        refine ⟨g2, gz, ?_, ?_, ho4, ?_⟩
        · show _ = _
          rw [HYY.out hl]; have := HM.out; simp; omega
        · show Has _ _ _ _ _
          rw [HYY.out hl, List.flatMap_append]
          have := ht.fr fs (fun k hk e => by have := ho4 k hk; omega)
          simpa using this
        · exact ⟨hG8.fr.trans fs (fun i hi e => by omega), fs.blk hG8.b0 (by omega), fs.blk hG8.b1 (by omega), set_third hG8.b2 _⟩
      generalize cp x key = z1 at *
      generalize cp x val = z2 at *
      by_cases hz1 : 0 ≤ z1
      · go_wp2_with fail
        refine (hc1 _).mono ?_
        rintro e w3 ⟨rfl, f3⟩
        clear hc1
        have hG3 := HG1.out.same f3
        obtain ⟨⟨r0, r1, r2⟩, _⟩ := three_cells hG3.b0
        obtain ⟨x0, x1⟩ := two_cells (HX.out _ f3)
        have hw0 := lt_of_block hG3.b0
        have hw2 := lt_of_block hG3.b2
        have hwx := lt_of_block (HX.out _ f3)
        cases hv : val.toList.isEmpty with
        | true =>
          obtain ⟨⟨y0, y1, y2⟩, _⟩ := three_cells hG3.b2
          have hl : lookB ⟨4, key, val⟩ x = true := by rw [hlk, hv]; simp [hz1]
          have HHW : Hid (Has (w3.alloc (.cells #[.string x, .string y] 77)) 2 (.slice a' m c') m ((P k).flatMap enC)) := (HH1.out.fr f3 (fun _ _ f => f)).fr (Fr.box w3 _) (fun _ _ f => f)
          have HYP2 := HYP.out hl w3
          have HF3 : Hid (Fr (fun _ => False) (wr.alloc (.cells #[.string x, .string y] 77)) w3) := f3
          have HFR : Hid (From (w3.alloc (.cells #[.string x, .string y] 77)) (some ⟨w3.heap.size, 0, none⟩) (enC (x, y))) := en_from _ _ _
          have HYH : Hid (∀ (W8 : World) (a4 : Option Addr) (c4 : Nat), Fr (fun _ => False) (wr.alloc (.cells #[.string x, .string y] 77)) w3 → Has W8 2 (.slice a4 (m + 1) c4) (m + 1) ((P k).flatMap enC ++ enC (x, y)) → Fr (fun q => (Value.slice a' m c').ownBlock = some q ∧ 0 < 1) (w3.alloc (.cells #[.string x, .string y] 77)) W8 → ((Value.slice a4 (m + 1) c4).ownBlock = (Value.slice a' m c').ownBlock ∨ (Value.slice a4 (m + 1) c4).ownBlock = some (w3.alloc (.cells #[.string x, .string y] 77)).heap.size) → _) := HYP2
          clear HYP2 f3 hG3 hlk hl hc2 q0 q1 d0 d1 d2
          go_wp2_with (at_builtin; refine Hid.out (?_ : Hid _))
          unfold Hid
          refine wpList_append_has _ rfl (.tmp 38) (.tmp 40) 24 24 77 77 rfl iR _ 2 32 Tryz.underlying24 Tryz.underlying24 hiR hR0 hR1 hR2 rfl (by omega) (.slice a' m c') m ((P k).flatMap enC) rfl HHW.out (some ⟨w3.heap.size, 0, none⟩) 1 1 (enC (x, y)) rfl rfl HFR.out (enC_one _) (by unfold maxLen; omega) (by omega) ?_
          intro a4 c4 w8 ht4 f4 hat4
          obtain ⟨j1, j2, HM8, HH8, HO8, HG8⟩ := HYH.out w8 a4 c4 HF3.out ht4 f4 hat4
          clear ht4 f4 hat4 HYH HFR HHW r0 r1 r2 x0 x1 y0 y1 y2
          go_wp2
          go_roundw
          case rel => exact ⟨k + 1, m + 1, a4, c4, by omega, by go_num, by omega, HM8, HH8, HO8, HG8⟩
          case measure => simp [intOf]; omega
        | false =>
          clear q0 q1 d0 d1 d2
          go_wp2_with fail
          refine (hc2 _).mono ?_
          rintro e w4 ⟨rfl, f4⟩
          clear hc2 r0 r1 r2 x0 x1
          have F4 := f3.seq' f4
          have hG4 := HG1.out.same F4
          obtain ⟨x0, x1⟩ := two_cells (HX.out _ F4)
          have hw0' := lt_of_block hG4.b0
          have hw2' := lt_of_block hG4.b2
          have hwx' := lt_of_block (HX.out _ F4)
          by_cases hz2' : z2 < 0
          · obtain ⟨⟨y0, y1, y2⟩, _⟩ := three_cells hG4.b2
            have hl : lookB ⟨4, key, val⟩ x = true := by rw [hlk]; simp [hz1, hz2']
            have HHW : Hid (Has (w4.alloc (.cells #[.string x, .string y] 77)) 2 (.slice a' m c') m ((P k).flatMap enC)) := (HH1.out.fr F4 (fun _ _ f => f)).fr (Fr.box w4 _) (fun _ _ f => f)
            have HYP2 := HYP.out hl w4
            have HF3 : Hid (Fr (fun _ => False) (wr.alloc (.cells #[.string x, .string y] 77)) w4) := F4
            have HFR : Hid (From (w4.alloc (.cells #[.string x, .string y] 77)) (some ⟨w4.heap.size, 0, none⟩) (enC (x, y))) := en_from _ _ _
            have HYH : Hid (∀ (W8 : World) (a4 : Option Addr) (c4 : Nat), Fr (fun _ => False) (wr.alloc (.cells #[.string x, .string y] 77)) w4 → Has W8 2 (.slice a4 (m + 1) c4) (m + 1) ((P k).flatMap enC ++ enC (x, y)) → Fr (fun q => (Value.slice a' m c').ownBlock = some q ∧ 0 < 1) (w4.alloc (.cells #[.string x, .string y] 77)) W8 → ((Value.slice a4 (m + 1) c4).ownBlock = (Value.slice a' m c').ownBlock ∨ (Value.slice a4 (m + 1) c4).ownBlock = some (w4.alloc (.cells #[.string x, .string y] 77)).heap.size) → _) := HYP2
            clear HYP2 f3 f4 F4 hG3 hG4 hlk hl
            go_wp2_with (at_builtin; refine Hid.out (?_ : Hid _))
            unfold Hid
            refine wpList_append_has _ rfl (.tmp 38) (.tmp 40) 24 24 77 77 rfl iR _ 2 32 Tryz.underlying24 Tryz.underlying24 hiR hR0 hR1 hR2 rfl (by omega) (.slice a' m c') m ((P k).flatMap enC) rfl HHW.out (some ⟨w4.heap.size, 0, none⟩) 1 1 (enC (x, y)) rfl rfl HFR.out (enC_one _) (by unfold maxLen; omega) (by omega) ?_
            intro a4 c4 w8 ht4 f4 hat4
            obtain ⟨j1, j2, HM8, HH8, HO8, HG8⟩ := HYH.out w8 a4 c4 HF3.out ht4 f4 hat4
            clear ht4 f4 hat4 HYH HFR HHW x0 x1 y0 y1 y2
            go_wp2
            go_roundw
            case rel => exact ⟨k + 1, m + 1, a4, c4, by omega, by go_num, by omega, HM8, HH8, HO8, HG8⟩
            case measure => simp [intOf]; omega
          · have hl : lookB ⟨4, key, val⟩ x = false := by rw [hlk, hv]; simp [hz2']
            obtain ⟨HM8, HH8, HG8⟩ := HSK.out w4 F4 hl
            clear f3 f4 F4 hG3 hG4 hlk hl
            go_wp2
            go_roundw
            case rel => exact ⟨k + 1, m, a', c', by omega, by go_num, by omega, HM8, HH8, HO, HG8⟩
            case measure => simp [intOf]; omega
      · have hz1' : decide (0 ≤ z1) = false := by simpa using hz1
        have hl : lookB ⟨4, key, val⟩ x = false := by rw [hlk, hz1']; rfl
        go_wp2_with fail
        refine (hc1 _).mono ?_
        rintro e w3 ⟨rfl, f3⟩
        obtain ⟨HM8, HH8, HG8⟩ := HSK.out w3 f3 hl
        clear hc1 hc2 f3 hlk hl q0 q1 d0 d1 d2
        go_wp2
        go_roundw
        case rel => exact ⟨k + 1, m, a', c', by omega, by go_num, by omega, HM8, HH8, HO, HG8⟩
        case measure => simp [intOf]; omega
    · obtain rfl : k = n := by omega
      have hg := HG.out
      obtain ⟨⟨c0, c1, c2⟩, z0, z1, z2⟩ := three_cells hg.b2
      obtain ⟨⟨d0, d1, d2⟩, y0, y1, y2⟩ := three_cells hg.b1
      have fs : Fr (fun q => q = w.heap.size + 1) wr (((wr.setCell ⟨w.heap.size + 1, 0, none⟩ (.bool false)).setCell ⟨w.heap.size + 1, 1, none⟩ (.string ⟨#[]⟩)).setCell ⟨w.heap.size + 1, 2, none⟩ (.slice a' m c')) := (((Fr.refl (fun q => q = w.heap.size + 1) wr).setCell (p := ⟨w.heap.size + 1, 0, none⟩) (fun _ => rfl) _).setCell (p := ⟨w.heap.size + 1, 1, none⟩) (fun _ => rfl) _).setCell (p := ⟨w.heap.size + 1, 2, none⟩) (fun _ => rfl) _
      have hb1 := set_all hg.b1 (.bool false) (.string ⟨#[]⟩) (.slice a' m c')
      obtain ⟨⟨g0, g1, g2⟩, _⟩ := three_cells hb1
      have HOUT : Hid (RsOut w ⟨false, ⟨#[]⟩, P k⟩ (.returned (.agg #[.bool false, .string ⟨#[]⟩, .slice a' m c'])) (((wr.setCell ⟨w.heap.size + 1, 0, none⟩ (.bool false)).setCell ⟨w.heap.size + 1, 1, none⟩ (.string ⟨#[]⟩)).setCell ⟨w.heap.size + 1, 2, none⟩ (.slice a' m c'))) := by
        have hh := HH.out
        have ho := HO.out
        have hm := HM.out
        subst hm
        obtain ⟨a9, c9, e9, he⟩ := Ens.of hh
        simp only [Value.slice.injEq, true_and] at e9
        obtain ⟨rfl, rfl⟩ := e9
        exact ⟨_, _, rfl, he.fr fs (fun b off e => by have := own_at ho b off e; omega), fun b off e => by have := own_at ho b off e; omega, hg.fr.trans fs (fun i hi e => by omega)⟩
      clear HG hg fs hb1 HH HO HM
      go_wp2
      refine bodyPost_ret (v := .agg #[.bool false, .string ⟨#[]⟩, .slice a' m c']) (by simp [results, Tryz.results53, go_sem, g0, g1, g2]) rfl ?_
      exact HOUT.out
theorem rgiven_any (o : Opn) (hok : o.key.size ≤ maxLen) (hov : o.val.size ≤ maxLen) (a : Option Addr) (n c : Nat) (L : List En) (hn : n = L.length) (hL : n * 32 ≤ 140737488355328) (hr : Ris L) (hsm : ∀ e ∈ L, e.1.size ≤ maxLen) (w : World) (h : Ens w a c L) :
    Calls Tryz.prog 53 #[.slice a n c, .agg #[.int .i64 o.kind, .string o.key, .string o.val]] w fun e w' => RsOut w (givF o L) e w' := by
  by_cases h4 : o.kind = 4
  · exact rgiven_scan o h4 hok hov a n c L hn hL hsm w h
  · exact rgiven_key o h4 a n c L hn hr w h
end Go.Proofs.YtdlnflcjodpkiaaGreat
