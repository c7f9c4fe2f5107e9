
/- What the document's own Given gives of a map. -/
import Derived.Test.YtdlnflcjodpkiaaGreatFdGiv3
import Derived.Test.YtdlnflcjodpkiaaGreatFdWith
namespace Go.Proofs.YtdlnflcjodpkiaaGreat
open Go.RowKit Go.Shelf

theorem fnd_take_yes {L : List En} (hr : Ris L) {k : Nat} {e : En} (h : L[k]? = some e) : fnd (L.take k) e.1 = none ∧ fnd (L.take (k + 1)) e.1 = some e := by
  have h1 : fnd (L.take k) e.1 = none := by
    cases hf : fnd (L.take k) e.1 with
    | none => rfl
    | some x =>
      exfalso
      obtain ⟨h2, h3⟩ := fnd_key hf
      have hp : (L.take (k + 1)).Pairwise (fun x y => cp x.1 y.1 < 0) := hr.sublist (List.take_sublist _ _)
      rw [take_snocH h] at hp
      have := (List.pairwise_append.1 hp).2.2 x h3 e (by simp)
      rw [h2, cp_refl] at this
      omega
  refine ⟨h1, ?_⟩
  rw [take_snocH h]
  unfold fnd at h1 ⊢
  rw [List.find?_append, h1]
  simp
theorem fnd_take_no {L : List En} {k : Nat} {e : En} {key : ByteArray} (h : L[k]? = some e) (hn : e.1 ≠ key) : fnd (L.take (k + 1)) key = fnd (L.take k) key := by
  rw [take_snocH h]
  unfold fnd
  rw [List.find?_append, List.find?_cons, show decide (e.1 = key) = false by simpa using hn]
  simp
theorem givF_fnd {o : Opn} (h : o.kind ≠ 4) {A B : List En} (hf : fnd A o.key = fnd B o.key) : givF o A = givF o B := by unfold givF; rw [if_neg h, if_neg h, hf]
/-- Between two rounds of Given: the operation's block, the answer's, the result's. -/
structure GvR (w : World) (o : Opn) (W : World) (f : Bool) (v : ByteArray) (u : Value) : Prop where
  fr : Fr (fun _ => False) w W
  b0 : W.heap[w.heap.size]? = some (.cells #[.int .i64 o.kind, .string o.key, .string o.val] 35 (0, 0))
  b1 : W.heap[w.heap.size + 1]? = some (.cells #[.bool false, .string ⟨#[]⟩, .slice none 0 0] 37 (0, 0))
  b2 : W.heap[w.heap.size + 2]? = some (.cells #[.bool f, .string v, u] 37 (0, 0))
theorem GvR.on {w : World} {o : Opn} {W W' : World} {f : Bool} {v : ByteArray} {u : Value} {S : Nat → Prop} (h : GvR w o W f v u) (fr : Fr S W W') (h1 : ∀ k, k < w.heap.size + 3 → ¬ S k) : GvR w o W' f v u :=
  ⟨h.fr.trans fr (fun i hi e => h1 i (by omega) e), fr.blk h.b0 (h1 _ (by omega)), fr.blk h.b1 (h1 _ (by omega)), fr.blk h.b2 (h1 _ (by omega))⟩
theorem GvR.same {w : World} {o : Opn} {W W' : World} {f : Bool} {v : ByteArray} {u : Value} (h : GvR w o W f v u) (fr : Fr (fun _ => False) W W') : GvR w o W' f v u := h.on fr (fun _ _ f => f)
theorem set_first {W : World} {B : Nat} {c0 c1 c2 : Value} {t : TypeId} (h : W.heap[B]? = some (.cells #[c0, c1, c2] t (0, 0))) (u : Value) : (W.setCell ⟨B, 0, none⟩ u).heap[B]? = some (.cells #[u, c1, c2] t (0, 0)) := by
  obtain ⟨hlt, he⟩ := Array.getElem?_eq_some_iff.1 h
  show (W.heap.modify B _)[B]? = _
  rw [Array.getElem?_eq_getElem (by rw [Array.size_modify]; exact hlt), Array.getElem_modify_self, he]
  rfl
theorem set_second {W : World} {B : Nat} {c0 c1 c2 : Value} {t : TypeId} (h : W.heap[B]? = some (.cells #[c0, c1, c2] t (0, 0))) (u : Value) : (W.setCell ⟨B, 1, none⟩ u).heap[B]? = some (.cells #[c0, u, c2] t (0, 0)) := by
  obtain ⟨hlt, he⟩ := Array.getElem?_eq_some_iff.1 h
  show (W.heap.modify B _)[B]? = _
  rw [Array.getElem?_eq_getElem (by rw [Array.size_modify]; exact hlt), Array.getElem_modify_self, he]
  rfl
set_option maxRecDepth 100000 in
set_option maxHeartbeats 4000000 in
theorem rgiven_key (o : Opn) (hk4 : o.kind ≠ 4) (a : Option Addr) (n c : Nat) (L : List En) (hn : n = L.length) (hr : Ris L) (w : World) (h : Ens w a c L) :
    Calls Tryz.prog 53 #[.slice a n c, .agg #[.int .i64 o.kind, .string o.key, .string o.val]] w fun e w' => RsOut w (givF o L) e w' := by
  have hle : n ≤ c := by rw [hn]; exact h.le
  have hmx := h.max
  have HS : Hid (∀ W, Fr (fun _ => False) w W → Ens W a c L) := fun W f => h.same f
  have HN : Hid (n = L.length) := hn
  have HRI : Hid (Ris L) := hr
  have HK4 : Hid (o.kind ≠ 4) := hk4
  have hk4' : (o.kind == 4) = false := by simpa using hk4
  obtain ⟨_, hB0, hB1, hB2⟩ := three_new w (.cells #[.int .i64 o.kind, .string o.key, .string o.val] 35) (.cells #[.bool false, .string ⟨#[]⟩, .slice none 0 0] 37) (.cells #[.bool false, .string ⟨#[]⟩, .slice none 0 0] 37)
  have HG0 : Hid (GvR w o (((w.alloc (.cells #[.int .i64 o.kind, .string o.key, .string o.val] 35)).alloc (.cells #[.bool false, .string ⟨#[]⟩, .slice none 0 0] 37)).alloc (.cells #[.bool false, .string ⟨#[]⟩, .slice none 0 0] 37)) false ⟨#[]⟩ (.slice none 0 0)) := ⟨(((Fr.refl _ _).alloc _).alloc _).alloc _, hB0, hB1, hB2⟩
  have HGV0 : Hid (givF o (L.take 0) = ⟨false, ⟨#[]⟩, []⟩) := by show _ = _; rw [List.take_zero]; exact givF_none hk4 rfl
  have HYES : Hid (∀ (k : Nat) (e : En), L[k]? = some e → e.1 = o.key → givF o (L.take k) = ⟨false, ⟨#[]⟩, []⟩ ∧ givF o (L.take (k + 1)) = ⟨true, if o.kind = 1 then e.2 else ⟨#[]⟩, []⟩) := fun k e he hek => by
    obtain ⟨h1, h2⟩ := fnd_take_yes hr he
    rw [hek] at h1 h2
    exact ⟨givF_none hk4 h1, givF_some hk4 h2⟩
  have HNO : Hid (∀ (k : Nat) (e : En), L[k]? = some e → e.1 ≠ o.key → givF o (L.take (k + 1)) = givF o (L.take k)) := fun k e he hek => givF_fnd hk4 (fnd_take_no he hek)
  have HNIL : Hid (∀ A, (givF o A).ents = []) := fun A => by unfold givF; rw [if_neg hk4]; split <;> rfl
  obtain ⟨kind, key, val⟩ := o
  dsimp only at hk4' HG0 HK4 ⊢
  clear h hn hr hk4 hB0 hB1 hB2
  go_enter Tryz.func53, Tryz.ntmps53
  go_wp2
  generalize ((w.alloc (.cells #[.int .i64 kind, .string key, .string val] 35)).alloc (.cells #[.bool false, .string ⟨#[]⟩, .slice none 0 0] 37)).alloc (.cells #[.bool false, .string ⟨#[]⟩, .slice none 0 0] 37) = V at *
  go_loopw [11] (fun i wr => ∃ k : Nat, k ≤ n ∧ i = .int .i64 k ∧ Hid (GvR w ⟨kind, key, val⟩ wr (givF ⟨kind, key, val⟩ (L.take k)).found (givF ⟨kind, key, val⟩ (L.take k)).val (.slice none 0 0))) (fun i _ => n - (intOf i).toNat)
  case atStart => exact ⟨0, by omega, rfl, by show GvR _ _ _ _ _ _; rw [HGV0.out]; exact HG0.out⟩
  case round =>
    obtain ⟨k, hk, rfl, HG⟩ := hrel
    by_cases hlt : k < n
    · obtain ⟨⟨x, y⟩, hs⟩ : ∃ s, L[k]? = some s := ⟨_, List.getElem?_eq_getElem (by have := HN.out; omega)⟩
      obtain ⟨bb, off, rfl, hbb, hcc⟩ := (HS.out _ HG.out.fr).some (by have := HN.out; omega)
      obtain ⟨q0, q1⟩ := hcc k _ hs
      dsimp only at q0 q1
      have hki : (k : Int) < (n : Int) := by omega
      obtain ⟨⟨d0, d1, d2⟩, _⟩ := three_cells HG.out.b0
      have hz0 := lt_of_block HG.out.b0
      have hz2 := lt_of_block HG.out.b2
      by_cases hxk : x = key
      · have hq : (x.toList == key.toList) = true := by rw [beq_bytes]; simpa using hxk
        obtain ⟨g1, g2⟩ := HYES.out k _ hs hxk
        have hG1 := HG.out
        rw [g1] at hG1
        dsimp only at hG1
        obtain ⟨⟨c0, c1, c2⟩, z0, z1, z2⟩ := three_cells hG1.b2
        have hs1 := set_first hG1.b2 (.bool true)
        have f1 : Fr (fun q => q = w.heap.size + 2) wr (wr.setCell ⟨w.heap.size + 2, 0, none⟩ (.bool true)) := (Fr.refl (fun q => q = w.heap.size + 2) _).setCell (p := ⟨w.heap.size + 2, 0, none⟩) (fun _ => rfl) _
        by_cases h1 : kind = 1
        · subst h1
          have hs2 := set_second hs1 (.string y)
          have f2 : Fr (fun q => q = w.heap.size + 2) (wr.setCell ⟨w.heap.size + 2, 0, none⟩ (.bool true)) ((wr.setCell ⟨w.heap.size + 2, 0, none⟩ (.bool true)).setCell ⟨w.heap.size + 2, 1, none⟩ (.string y)) := (Fr.refl (fun q => q = w.heap.size + 2) _).setCell (p := ⟨w.heap.size + 2, 1, none⟩) (fun _ => rfl) _
          have F12 := f1.trans f2 (fun _ _ e => e)
          have HN : Hid (GvR w ⟨1, key, val⟩ (((wr.setCell ⟨w.heap.size + 2, 0, none⟩ (.bool true)).setCell ⟨w.heap.size + 2, 1, none⟩ (.string y)).alloc (.cells #[.string x, .string y] 77)) (givF ⟨1, key, val⟩ (L.take (k + 1))).found (givF ⟨1, key, val⟩ (L.take (k + 1))).val (.slice none 0 0)) := by
            show GvR _ _ _ _ _ _
            rw [g2]
            have hG3 : GvR w ⟨1, key, val⟩ ((wr.setCell ⟨w.heap.size + 2, 0, none⟩ (.bool true)).setCell ⟨w.heap.size + 2, 1, none⟩ (.string y)) true y (.slice none 0 0) := ⟨hG1.fr.trans F12 (fun i hi e => by omega), F12.blk hG1.b0 (by omega), F12.blk hG1.b1 (by omega), hs2⟩
            exact hG3.same (Fr.box _ _)
          clear hs hcc HG hG1 hs1 hs2 f1 f2 F12 g1 g2 hxk
          go_wp2
          go_roundw
          case rel => exact ⟨k + 1, by omega, by go_num, HN⟩
          case measure => simp [intOf]; omega
        · have h1' : (kind == 1) = false := by simpa using h1
          have HN : Hid (GvR w ⟨kind, key, val⟩ ((wr.setCell ⟨w.heap.size + 2, 0, none⟩ (.bool true)).alloc (.cells #[.string x, .string y] 77)) (givF ⟨kind, key, val⟩ (L.take (k + 1))).found (givF ⟨kind, key, val⟩ (L.take (k + 1))).val (.slice none 0 0)) := by
            show GvR _ _ _ _ _ _
            rw [g2]
            dsimp only
            rw [if_neg h1]
            have hG3 : GvR w ⟨kind, key, val⟩ (wr.setCell ⟨w.heap.size + 2, 0, none⟩ (.bool true)) true ⟨#[]⟩ (.slice none 0 0) := ⟨hG1.fr.trans f1 (fun i hi e => by omega), f1.blk hG1.b0 (by omega), f1.blk hG1.b1 (by omega), hs1⟩
            exact hG3.same (Fr.box _ _)
          clear hs hcc HG hG1 hs1 f1 g1 g2 hxk h1
          go_wp2
          go_roundw
          case rel => exact ⟨k + 1, by omega, by go_num, HN⟩
          case measure => simp [intOf]; omega
      · have hq : (x.toList == key.toList) = false := by rw [beq_bytes]; simpa using hxk
        have HN : Hid (GvR w ⟨kind, key, val⟩ (wr.alloc (.cells #[.string x, .string y] 77)) (givF ⟨kind, key, val⟩ (L.take (k + 1))).found (givF ⟨kind, key, val⟩ (L.take (k + 1))).val (.slice none 0 0)) := by
          show GvR _ _ _ _ _ _
          rw [HNO.out k _ hs hxk]
          exact HG.out.same (Fr.box wr _)
        clear hs hcc HG hxk
        go_wp2
        go_roundw
        case rel => exact ⟨k + 1, by omega, by go_num, HN⟩
        case measure => simp [intOf]; omega
    · obtain rfl : k = n := by omega
      have hg := HG.out
      rw [List.take_of_length_le (by have := HN.out; omega)] at hg
      have HEN := HNIL.out L
      obtain ⟨g, hgg⟩ : ∃ g, g = givF ⟨kind, key, val⟩ L := ⟨_, rfl⟩
      rw [← hgg] at hg HEN
      have HGG : Hid (g = givF ⟨kind, key, val⟩ L) := hgg
      clear hgg
      obtain ⟨f, v, es⟩ := g
      dsimp only at hg HEN
      subst HEN
      obtain ⟨⟨c0, c1, c2⟩, z0, z1, z2⟩ := three_cells hg.b2
      obtain ⟨⟨d0, d1, d2⟩, y0, y1, y2⟩ := three_cells hg.b1
      have fs : Fr (fun q => q = w.heap.size + 1) wr (((wr.setCell ⟨w.heap.size + 1, 0, none⟩ (.bool f)).setCell ⟨w.heap.size + 1, 1, none⟩ (.string v)).setCell ⟨w.heap.size + 1, 2, none⟩ (.slice none 0 0)) := (((Fr.refl (fun q => q = w.heap.size + 1) wr).setCell (p := ⟨w.heap.size + 1, 0, none⟩) (fun _ => rfl) _).setCell (p := ⟨w.heap.size + 1, 1, none⟩) (fun _ => rfl) _).setCell (p := ⟨w.heap.size + 1, 2, none⟩) (fun _ => rfl) _
      have hb1 := set_all hg.b1 (.bool f) (.string v) (.slice none 0 0)
      obtain ⟨⟨g0, g1, g2⟩, _⟩ := three_cells hb1
      have HFE : Hid (Fr (fun _ => False) w (((wr.setCell ⟨w.heap.size + 1, 0, none⟩ (.bool f)).setCell ⟨w.heap.size + 1, 1, none⟩ (.string v)).setCell ⟨w.heap.size + 1, 2, none⟩ (.slice none 0 0))) := hg.fr.trans fs (fun i hi e => by omega)
      clear HG hg fs hb1
      go_wp2
      refine bodyPost_ret (v := .agg #[.bool f, .string v, .slice none 0 0]) (by simp [results, Tryz.results53, go_sem, g0, g1, g2]) rfl ?_
      rw [← HGG.out]
      exact ⟨none, 0, rfl, Ens.nil _, (fun b off e => by cases e), HFE.out⟩
end Go.Proofs.YtdlnflcjodpkiaaGreat
