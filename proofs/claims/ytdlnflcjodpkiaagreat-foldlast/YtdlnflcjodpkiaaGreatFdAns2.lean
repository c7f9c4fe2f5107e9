
/- Answer where it is refused, and the document's own Answer. -/
import Derived.Test.YtdlnflcjodpkiaaGreatFdAns
namespace Go.Proofs.YtdlnflcjodpkiaaGreat
open Go.RowKit Go.Shelf

theorem kindB_lt {k : Int} : kindB k = false → k < 1 ∨ (¬ k < 1 ∧ 4 < k) := fun h => by unfold kindB at h; rw [decide_eq_false_iff_not] at h; omega
theorem kindB_in {k : Int} : kindB k = true → ¬ k < 1 ∧ ¬ 4 < k := fun h => by unfold kindB at h; rw [decide_eq_true_eq] at h; omega
set_option maxRecDepth 100000 in
set_option maxHeartbeats 4000000 in
theorem answer_no (o : Opn) (a : Option Addr) (n c : Nat) (L : List En) (hn : n = L.length) (hm : mapB L = false ∨ (mapB L = true ∧ kindB o.kind = false)) (w : World) (h : Ens w a c L) :
    Calls Tryz.prog 20 #[.slice a n c, .agg #[.int .i64 o.kind, .string o.key, .string o.val]] w fun e w' => AnsOut w rs0 (if mapB L = false then 4 else 1) e w' := by
  have him := fun W (f : Fr (fun _ => False) w W) => isMap_any a n c L hn W (h.same f)
  have hik := isKind_any o.kind
  obtain ⟨B0, B1⟩ := two_new w (.cells #[.int .i64 o.kind, .string o.key, .string o.val] 35) (.cells #[.bool false, .string ⟨#[]⟩, .slice none 0 0] 37)
  have f0 : Fr (fun _ => False) w ((w.alloc (.cells #[.int .i64 o.kind, .string o.key, .string o.val] 35)).alloc (.cells #[.bool false, .string ⟨#[]⟩, .slice none 0 0] 37)) := ((Fr.refl _ _).alloc _).alloc _
  obtain ⟨kind, key, val⟩ := o
  dsimp only at *
  have h1 := him _ f0
  clear him
  rcases hm with hm | ⟨hm, hk⟩
  · rw [hm] at h1 ⊢
    simp only [if_true]
    clear h hn hik
    go_enter Tryz.func20, Tryz.ntmps20
    go_wp2_with fail
    generalize (w.alloc (.cells #[.int .i64 kind, .string key, .string val] 35)).alloc (.cells #[.bool false, .string ⟨#[]⟩, .slice none 0 0] 37) = V at *
    refine h1.mono ?_
    rintro e w1 ⟨rfl, f1⟩
    clear h1
    obtain ⟨⟨g0, g1, g2⟩, z0, z1, z2⟩ := three_cells (f1.blk B1 (fun f => f))
    have hs5 := set_all (f1.blk B1 (fun f => f)) (.bool false) (.string ⟨#[]⟩) (.slice none 0 0)
    obtain ⟨⟨y0, y1, y2⟩, _⟩ := three_cells hs5
    have HF : Hid (Fr (fun _ => False) w (((w1.setCell ⟨w.heap.size + 1, 0, none⟩ (.bool false)).setCell ⟨w.heap.size + 1, 1, none⟩ (.string ⟨#[]⟩)).setCell ⟨w.heap.size + 1, 2, none⟩ (.slice none 0 0))) := (f0.seq' f1).trans (set_fr w1 (w.heap.size + 1) _ _ _) (fun i hi e => by omega)
    clear f0 f1 B0 B1 hs5
    go_wp2
    refine bodyPost_ret (v := .tuple #[.agg #[.bool false, .string ⟨#[]⟩, .slice none 0 0], .int .i64 4]) (by simp [results, Tryz.results20, go_sem, y0, y1, y2]) rfl ?_
    exact ⟨none, 0, rfl, Ens.nil _, (fun b off e => by cases e), HF.out⟩
  · rw [hm] at h1 ⊢
    simp only [Bool.true_eq_false, if_false]
    rw [hk] at hik
    clear h hn
    go_enter Tryz.func20, Tryz.ntmps20
    go_wp2_with fail
    generalize (w.alloc (.cells #[.int .i64 kind, .string key, .string val] 35)).alloc (.cells #[.bool false, .string ⟨#[]⟩, .slice none 0 0] 37) = V at *
    refine h1.mono ?_
    rintro e w1 ⟨rfl, f1⟩
    clear h1
    obtain ⟨⟨d0, d1, d2⟩, _⟩ := three_cells (f1.blk B0 (fun f => f))
    obtain ⟨⟨g0, g1, g2⟩, z0, z1, z2⟩ := three_cells (f1.blk B1 (fun f => f))
    have hs5 := set_all (f1.blk B1 (fun f => f)) (.bool false) (.string ⟨#[]⟩) (.slice none 0 0)
    obtain ⟨⟨y0, y1, y2⟩, _⟩ := three_cells hs5
    have HF : Hid (Fr (fun _ => False) w (((w1.setCell ⟨w.heap.size + 1, 0, none⟩ (.bool false)).setCell ⟨w.heap.size + 1, 1, none⟩ (.string ⟨#[]⟩)).setCell ⟨w.heap.size + 1, 2, none⟩ (.slice none 0 0))) := (f0.seq' f1).trans (set_fr w1 (w.heap.size + 1) _ _ _) (fun i hi e => by omega)
    clear f0 f1 B0 B1 hs5
    go_wp2_with (go_at_call 47; refine (hik _).mono ?_; rintro e w' ⟨rfl, hw⟩; have hw2 := hw.symm; clear hw; subst hw2)
    refine bodyPost_ret (v := .tuple #[.agg #[.bool false, .string ⟨#[]⟩, .slice none 0 0], .int .i64 1]) (by simp [results, Tryz.results20, go_sem, y0, y1, y2]) rfl ?_
    exact ⟨none, 0, rfl, Ens.nil _, (fun b off e => by cases e), HF.out⟩
theorem answer_any (o : Opn) (hok : o.key.size ≤ maxLen) (hov : o.val.size ≤ maxLen) (a : Option Addr) (n c : Nat) (L : List En) (hn : n = L.length) (hL : n * 32 ≤ 140737488355328) (w : World) (h : Ens w a c L) :
    Calls Tryz.prog 20 #[.slice a n c, .agg #[.int .i64 o.kind, .string o.key, .string o.val]] w fun e w' => AnsOut w (ansR L o) (ansE L o) e w' := by
  unfold ansR ansE
  cases hm : mapB L with
  | false =>
    rw [if_neg (by simp), if_pos rfl]
    have := answer_no o a n c L hn (.inl hm) w h
    rwa [hm, if_pos rfl] at this
  | true =>
    cases hk : kindB o.kind with
    | false =>
      rw [if_neg (by simp), if_neg (by simp), if_pos rfl]
      have := answer_no o a n c L hn (.inr ⟨hm, hk⟩) w h
      rwa [hm, if_neg (by simp)] at this
    | true =>
      rw [if_pos ⟨rfl, rfl⟩, if_neg (by simp), if_neg (by simp)]
      exact answer_yes o hok hov a n c L hn hL hm hk w h
set_option maxRecDepth 100000 in
set_option maxHeartbeats 4000000 in
theorem ranswer_any (o : Opn) (hok : o.key.size ≤ maxLen) (hov : o.val.size ≤ maxLen) (a : Option Addr) (n c : Nat) (L : List En) (hn : n = L.length) (hL : n * 32 ≤ 140737488355328) (w : World) (h : Ens w a c L) :
    Calls Tryz.prog 21 #[.slice a n c, .agg #[.int .i64 o.kind, .string o.key, .string o.val]] w fun e w' => AnsOut w (ansR L o) (ansE L o) e w' := by
  have HGV : Hid (mapB L = true → ∀ W, Fr (fun _ => False) w W → Calls Tryz.prog 53 #[.slice a n c, .agg #[.int .i64 o.kind, .string o.key, .string o.val]] W fun e w' => RsOut W (givF o L) e w') := fun hm W f => rgiven_any o hok hov a n c L hn hL (mapB_ok hm).ris (mapB_ok hm).sml W (h.same f)
  have HNOA : Hid (mapB L = false → ansR L o = rs0 ∧ ansE L o = 4) := fun hm => by
    unfold ansR ansE
    rw [hm]
    exact ⟨if_neg (by simp), if_pos rfl⟩
  have HNOK : Hid (mapB L = true → kindB o.kind = false → ansR L o = rs0 ∧ ansE L o = 1) := fun hm hk => by
    unfold ansR ansE
    rw [hm, hk]
    exact ⟨if_neg (by simp), by rw [if_neg (by simp), if_pos rfl]⟩
  have HYES : Hid (mapB L = true → kindB o.kind = true → ansR L o = givF o L ∧ ansE L o = 0) := fun hm hk => by
    unfold ansR ansE
    rw [hm, hk]
    exact ⟨if_pos ⟨rfl, rfl⟩, by rw [if_neg (by simp), if_neg (by simp)]⟩
  obtain ⟨B0, B1⟩ := two_new w (.cells #[.int .i64 o.kind, .string o.key, .string o.val] 35) (.cells #[.bool false, .string ⟨#[]⟩, .slice none 0 0] 37)
  have f0 : Fr (fun _ => False) w ((w.alloc (.cells #[.int .i64 o.kind, .string o.key, .string o.val] 35)).alloc (.cells #[.bool false, .string ⟨#[]⟩, .slice none 0 0] 37)) := ((Fr.refl _ _).alloc _).alloc _
  obtain ⟨R0, hR0⟩ : ∃ R0, R0 = ansR L o := ⟨_, rfl⟩
  obtain ⟨E0, hE0⟩ : ∃ E0, E0 = ansE L o := ⟨_, rfl⟩
  rw [← hR0] at HNOA HNOK HYES ⊢
  rw [← hE0] at HNOA HNOK HYES ⊢
  obtain ⟨G0, hG0⟩ : ∃ G0, G0 = givF o L := ⟨_, rfl⟩
  rw [← hG0] at HGV HYES
  obtain ⟨kind, key, val⟩ := o
  dsimp only at HGV HNOK HYES B0 B1 f0 ⊢
  clear hok hov hL hR0 hE0 hG0
  have hle : n ≤ c := by rw [hn]; exact h.le
  have hmx := h.max
  have HS : Hid (∀ W, Fr (fun _ => False) w W → Ens W a c L) := fun W f => h.same f
  have HN : Hid (n = L.length) := hn
  clear h hn
  go_enter Tryz.func21, Tryz.ntmps21
  go_wp2
  generalize (w.alloc (.cells #[.int .i64 kind, .string key, .string val] 35)).alloc (.cells #[.bool false, .string ⟨#[]⟩, .slice none 0 0] 37) = V at *
  have HF0 : Hid (Fr (fun _ => False) w V) := f0
  have HB0 : Hid (∀ W, Fr (fun _ => False) V W → W.heap[w.heap.size]? = some (.cells #[.int .i64 kind, .string key, .string val] 35 (0, 0))) := fun W f => f.blk B0 (fun f => f)
  have HB1 : Hid (∀ W, Fr (fun _ => False) V W → W.heap[w.heap.size + 1]? = some (.cells #[.bool false, .string ⟨#[]⟩, .slice none 0 0] 37 (0, 0))) := fun W f => f.blk B1 (fun f => f)
  have HZR : Hid (∀ W, Fr (fun _ => False) V W → ∀ e, (R0 = rs0 ∧ E0 = e) → W.cell? ⟨w.heap.size + 1, 0, none⟩ = some (.bool false) ∧ W.cell? ⟨w.heap.size + 1, 1, none⟩ = some (.string ⟨#[]⟩) ∧ W.cell? ⟨w.heap.size + 1, 2, none⟩ = some (.slice none 0 0) ∧ W.frozen? ⟨w.heap.size + 1, 0, none⟩ = false ∧ W.frozen? ⟨w.heap.size + 1, 1, none⟩ = false ∧ W.frozen? ⟨w.heap.size + 1, 2, none⟩ = false ∧ (((W.setCell ⟨w.heap.size + 1, 0, none⟩ (.bool false)).setCell ⟨w.heap.size + 1, 1, none⟩ (.string ⟨#[]⟩)).setCell ⟨w.heap.size + 1, 2, none⟩ (.slice none 0 0)).cell? ⟨w.heap.size + 1, 0, none⟩ = some (.bool false) ∧ (((W.setCell ⟨w.heap.size + 1, 0, none⟩ (.bool false)).setCell ⟨w.heap.size + 1, 1, none⟩ (.string ⟨#[]⟩)).setCell ⟨w.heap.size + 1, 2, none⟩ (.slice none 0 0)).cell? ⟨w.heap.size + 1, 1, none⟩ = some (.string ⟨#[]⟩) ∧ (((W.setCell ⟨w.heap.size + 1, 0, none⟩ (.bool false)).setCell ⟨w.heap.size + 1, 1, none⟩ (.string ⟨#[]⟩)).setCell ⟨w.heap.size + 1, 2, none⟩ (.slice none 0 0)).cell? ⟨w.heap.size + 1, 2, none⟩ = some (.slice none 0 0) ∧ Hid (AnsOut w R0 E0 (.returned (.tuple #[.agg #[.bool false, .string ⟨#[]⟩, .slice none 0 0], .int .i64 e])) (((W.setCell ⟨w.heap.size + 1, 0, none⟩ (.bool false)).setCell ⟨w.heap.size + 1, 1, none⟩ (.string ⟨#[]⟩)).setCell ⟨w.heap.size + 1, 2, none⟩ (.slice none 0 0)))) := fun W f e hre => by
    obtain ⟨⟨g0, g1, g2⟩, z0, z1, z2⟩ := three_cells (f.blk B1 (fun f => f))
    obtain ⟨⟨y0, y1, y2⟩, _⟩ := three_cells (set_all (f.blk B1 (fun f => f)) (.bool false) (.string ⟨#[]⟩) (.slice none 0 0))
    rw [hre.1, hre.2]
    exact ⟨g0, g1, g2, z0, z1, z2, y0, y1, y2, none, 0, rfl, Ens.nil _, (fun b off e => by cases e), (f0.seq' f).trans (set_fr W (w.heap.size + 1) _ _ _) (fun i hi e => by omega)⟩
  clear B0 B1 f0
  go_loopw [10] (fun i wr => ∃ k : Nat, k ≤ n ∧ i = .int .i64 k ∧ Hid (∀ j, j < k → okAt L j) ∧ Fr (fun _ => False) V wr) (fun i _ => n - (intOf i).toNat)
  case atStart => exact ⟨0, by omega, rfl, (fun j h => by omega), Fr.refl _ _⟩
  case round =>
    obtain ⟨k, hk, rfl, HE, F⟩ := hrel
    by_cases hlt : k < n
    · obtain ⟨⟨x, y⟩, hs⟩ : ∃ s, L[k]? = some s := ⟨_, List.getElem?_eq_getElem (by have := HN.out; omega)⟩
      obtain ⟨bb, off, rfl, hbb, hcc⟩ := (HS.out _ (HF0.out.seq' F)).some (by have := HN.out; omega)
      obtain ⟨q0, q1⟩ := hcc k _ hs
      dsimp only at q0 q1
      have hki : (k : Int) < (n : Int) := by omega
      have HNO : Hid (¬ okAt L k → mapB L = false) := fun h => mapB_no (by have := HN.out; omega) h
      have HST : Hid (okAt L k → ∀ j, j < k + 1 → okAt L j) := fun h j hj => by
        rcases Nat.lt_or_ge j k with h1 | h1
        · exact HE.out j h1
        · have : j = k := by omega
          rw [this]; exact h
      have HSX : Hid (L[k]? = some (x, y)) := hs
      have k1 := rcheck_any x
      have k2 := rvalue_any y
      have fb := Fr.box wr (.cells #[.string x, .string y] 77)
      have HF1 : Hid (Fr (fun _ => False) V (wr.alloc (.cells #[.string x, .string y] 77))) := F.seq' fb
      by_cases hA : ekey x.size = 0
      · rw [hA] at k1
        have HA : Hid (ekey x.size = 0) := hA
        clear hA
        by_cases hB : evalu y.size = 0
        · rw [hB] at k2
          have HB : Hid (evalu y.size = 0) := hB
          clear hB
          by_cases hk0 : k = 0
          · have HOK : Hid (okAt L k) := fun e he => by
              rw [HSX.out] at he
              cases he
              exact ⟨HA.out, HB.out, fun p h => by omega⟩
            have hk0' : decide ((0 : Int) < (k : Int)) = false := by simp; omega
            have hk0'' : decide (0 < k) = false := by simp; omega
            clear hs hcc hk0
            go_wp2
            go_quiet (first | (go_at_call 50; exact Calls.quiet_of_same (k1 _)) | (go_at_call 51; exact Calls.quiet_of_same (k2 _)))
            go_wp2
            go_roundw
            case rel => exact ⟨k + 1, by omega, by go_num, HST.out HOK.out, HF1.out.drewN _⟩
            case measure => simp [intOf]; omega
          · obtain ⟨j, rfl⟩ : ∃ j, k = j + 1 := ⟨k - 1, by omega⟩
            obtain ⟨⟨px, py⟩, hp⟩ : ∃ s, L[j]? = some s := ⟨_, List.getElem?_eq_getElem (by have := HN.out; omega)⟩
            obtain ⟨r0, r1⟩ := hcc j _ hp
            dsimp only at r0 r1
            have hpk := (HE.out j (by omega) _ hp).1
            dsimp only at hpk
            have hkp : (0 : Int) < ((j + 1 : Nat) : Int) := by omega
            have hsx : px.size ≤ maxLen := by have := ekey_le hpk; unfold maxLen; omega
            have hxx : x.size ≤ maxLen := by have := ekey_le HA.out; unfold maxLen; omega
            have k3 := rcompareD_any px x hsx hxx
            have hcc3 : ∀ W : World, Calls Tryz.prog 52 #[.string px, .string x] W fun e w' => e = .returned (.int .i64 (cp px x)) ∧ ∃ m, w' = W.drewN m := fun W => (k3 W).mono fun e w' ⟨h1, h2⟩ => ⟨h1, h2.ex⟩
            have hj1 : IntKind.i64.wrap ((j : Int) + 1 - 1) = (j : Int) := by rw [IntKind.wrap_i64]; omega
            have hj2 : (j : Int) + 1 - 1 = (j : Int) := by omega
            have hj3 : IntKind.i64.wrap (j : Int) = (j : Int) := by rw [IntKind.wrap_i64]; omega
            have hjn : (j : Int) < (n : Int) := by omega
            have HPJ : Hid (L[j]? = some (px, py)) := hp
            have HC : Hid (cp px x < 0 → okAt L (j + 1)) := fun hc e he => by
              rw [HSX.out] at he
              cases he
              exact ⟨HA.out, HB.out, fun p _ h => by rw [show j + 1 - 1 = j by omega, HPJ.out] at h; cases h; exact hc⟩
            have HCN : Hid (¬ cp px x < 0 → ¬ okAt L (j + 1)) := fun hc h => hc ((h _ HSX.out).2.2 (px, py) (by omega) (by rw [show j + 1 - 1 = j by omega]; exact HPJ.out))
            generalize cp px x = z at *
            clear hs hcc hk0 k3 hp hpk hsx hxx
            by_cases hz : z < 0
            · have hz' : decide (0 ≤ z) = false := by simp; omega
              go_wp2
              go_quiet (first | (go_at_call 50; exact Calls.quiet_of_same (k1 _)) | (go_at_call 51; exact Calls.quiet_of_same (k2 _)) | (go_at_call 52; exact Calls.quiet_of (hcc3 _)))
              go_wp2
              go_roundw
              case rel => exact ⟨j + 1 + 1, by omega, by go_num, HST.out (HC.out hz), HF1.out.drewN _⟩
              case measure => simp [intOf]; omega
            · have hz' : decide (0 ≤ z) = true := by simp; omega
              have HFA : Hid (mapB L = false) := HNO.out (HCN.out hz)
              clear hz
              go_wp2
              go_quiet (first | (go_at_call 50; exact Calls.quiet_of_same (k1 _)) | (go_at_call 51; exact Calls.quiet_of_same (k2 _)) | (go_at_call 52; exact Calls.quiet_of (hcc3 _)))
              obtain ⟨g0, g1, g2, z0, z1, z2, y0, y1, y2, HOUT⟩ := HZR.out _ (HF1.out.drewN nq) 4 (HNOA.out HFA.out)
              go_wp2
              refine bodyPost_ret (v := .tuple #[.agg #[.bool false, .string ⟨#[]⟩, .slice none 0 0], .int .i64 4]) (by simp [results, Tryz.results21, go_sem, y0, y1, y2]) rfl ?_
              exact HOUT.out
        · have HFA : Hid (mapB L = false) := HNO.out (fun h => hB (h _ HSX.out).2.1)
          have hb' : (((evalu y.size : Nat) : Int) != 0) = true := by simp; omega
          generalize ((evalu y.size : Nat) : Int) = z at *
          clear hs hcc hB
          go_wp2
          go_quiet (first | (go_at_call 50; exact Calls.quiet_of_same (k1 _)) | (go_at_call 51; exact Calls.quiet_of_same (k2 _)))
          obtain ⟨g0, g1, g2, z0, z1, z2, y0, y1, y2, HOUT⟩ := HZR.out _ (HF1.out.drewN nq) 4 (HNOA.out HFA.out)
          go_wp2
          refine bodyPost_ret (v := .tuple #[.agg #[.bool false, .string ⟨#[]⟩, .slice none 0 0], .int .i64 4]) (by simp [results, Tryz.results21, go_sem, y0, y1, y2]) rfl ?_
          exact HOUT.out
      · have HFA : Hid (mapB L = false) := HNO.out (fun h => hA (h _ HSX.out).1)
        have ha' : (((ekey x.size : Nat) : Int) != 0) = true := by simp; omega
        generalize ((ekey x.size : Nat) : Int) = z at *
        clear hs hcc hA
        go_wp2
        go_quiet (first | (go_at_call 50; exact Calls.quiet_of_same (k1 _)) | (go_at_call 51; exact Calls.quiet_of_same (k2 _)))
        obtain ⟨g0, g1, g2, z0, z1, z2, y0, y1, y2, HOUT⟩ := HZR.out _ (HF1.out.drewN nq) 4 (HNOA.out HFA.out)
        go_wp2
        refine bodyPost_ret (v := .tuple #[.agg #[.bool false, .string ⟨#[]⟩, .slice none 0 0], .int .i64 4]) (by simp [results, Tryz.results21, go_sem, y0, y1, y2]) rfl ?_
        exact HOUT.out
    · obtain rfl : k = n := by omega
      have HTR : Hid (mapB L = true) := mapB_yes (fun j hj => HE.out j (by have := HN.out; omega))
      obtain ⟨⟨d0, d1, d2⟩, _⟩ := three_cells (HB0.out _ F)
      cases hkb : kindB kind with
      | false =>
        obtain ⟨g0, g1, g2, z0, z1, z2, y0, y1, y2, HOUT⟩ := HZR.out _ F 1 (HNOK.out HTR.out hkb)
        rcases kindB_lt hkb with h1 | ⟨h1, h2⟩
        all_goals
          clear hkb
          go_wp2
          refine bodyPost_ret (v := .tuple #[.agg #[.bool false, .string ⟨#[]⟩, .slice none 0 0], .int .i64 1]) (by simp [results, Tryz.results21, go_sem, y0, y1, y2]) rfl ?_
          exact HOUT.out
      | true =>
        obtain ⟨h1, h2⟩ := kindB_in hkb
        obtain ⟨e1, e2⟩ := HYES.out HTR.out hkb
        have hgv := HGV.out HTR.out wr (HF0.out.seq' F)
        have HE1 : Hid (R0 = G0) := e1
        have HE2 : Hid (E0 = 0) := e2
        clear hkb e1 e2
        go_wp2_with fail
        refine hgv.mono ?_
        rintro e w5 ⟨a5, c5, rfl, hE, ho, f5⟩
        have hb5 := HB1.out _ (F.seq' f5)
        obtain ⟨⟨g0, g1, g2⟩, z0, z1, z2⟩ := three_cells hb5
        have hs5 := set_all hb5 (.bool G0.found) (.string G0.val) (.slice a5 G0.ents.length c5)
        obtain ⟨⟨y0, y1, y2⟩, _⟩ := three_cells hs5
        have HOUT : Hid (AnsOut w R0 E0 (.returned (.tuple #[.agg #[.bool G0.found, .string G0.val, .slice a5 G0.ents.length c5], .int .i64 0])) (((w5.setCell ⟨w.heap.size + 1, 0, none⟩ (.bool G0.found)).setCell ⟨w.heap.size + 1, 1, none⟩ (.string G0.val)).setCell ⟨w.heap.size + 1, 2, none⟩ (.slice a5 G0.ents.length c5))) := by
          show AnsOut _ _ _ _ _
          rw [HE1.out, HE2.out]
          have f9 := (HF0.out.seq' F).seq' f5
          have hz := lt_of_block (HB1.out _ F)
          refine ⟨a5, c5, rfl, hE.fr (set_fr w5 (w.heap.size + 1) _ _ _) (fun b off e => ?_), fun b off e => ?_, f9.trans (set_fr w5 (w.heap.size + 1) _ _ _) (fun i hi e => by omega)⟩
          · have := ho b off e; omega
          · have := ho b off e; omega
        clear hE ho f5 hb5 hs5 hgv d0 d1 d2
        go_wp2
        refine bodyPost_ret (v := .tuple #[.agg #[.bool G0.found, .string G0.val, .slice a5 G0.ents.length c5], .int .i64 0]) (by simp [results, Tryz.results21, go_sem, y0, y1, y2]) rfl ?_
        exact HOUT.out
end Go.Proofs.YtdlnflcjodpkiaaGreat
