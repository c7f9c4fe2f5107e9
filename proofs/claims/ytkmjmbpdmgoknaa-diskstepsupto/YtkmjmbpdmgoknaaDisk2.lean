
/- What a disk's Write does. -/
import Derived.Test.YtkmjmbpdmgoknaaDkOps
namespace Go.Proofs.Ytkmjmbpdmgoknaa
open Go.RowKit
attribute [local go_sem ↓] ld80_eq ld82_eq st80_eq bs75_eq

section
variable (db : Nat) (lv wv : Value) (L : List Sec) (Q : List (Nat × Sec)) (w : World)
theorem write_nil (i : Int) (x : Value) : Calls Try.prog 7 #[.pointer none, .int .i64 i, x] w fun e w' => e = .returned (.int .i64 6) ∧ w' = w := by
  go_enter Try.func7, Try.ntmps7
  go_wp2_with (refine (dhas_nil _ _).mono ?_; rintro e w' ⟨rfl, rfl⟩)
  go_ret
  exact ⟨rfl, rfl⟩
theorem write_none (h : Dk w db lv wv L Q) (i : Int) (hi : i < 0 ∨ (L.length : Int) ≤ i) (x : Value) : Calls Try.prog 7 #[.pointer (some ⟨db, 0, none⟩), .int .i64 i, x] w fun e w' => e = .returned (.int .i64 6) ∧ w' = w := by
  have HI : Hid (i < 0 ∨ (L.length : Int) ≤ i) := hi
  clear hi
  go_enter Try.func7, Try.ntmps7
  go_wp2_with (refine (dhas_no db lv wv L Q _ h i HI.out).mono ?_; rintro e w' ⟨rfl, rfl⟩)
  go_ret
  exact ⟨rfl, rfl⟩
theorem write_long (h : Dk w db lv wv L Q) (i : Nat) (hi : i < L.length) (a : Option Addr) (n c : Nat) (hn : 256 < n) : Calls Try.prog 7 #[.pointer (some ⟨db, 0, none⟩), .int .i64 i, .slice a n c] w fun e w' => e = .returned (.int .i64 2) ∧ w' = w := by
  have hn' : (256 : Int) < n := by omega
  go_enter Try.func7, Try.ntmps7
  go_wp2_with (refine (dhas_yes db lv wv L Q _ h i hi).mono ?_; rintro e w' ⟨rfl, rfl⟩)
  go_ret
  exact ⟨rfl, rfl⟩

/-- Bytes, with bytes 0 behind. -/
def padSec (l : List Nat) (hn : l.length ≤ 256) (hl : octs l) : Sec := ⟨l ++ List.replicate (256 - l.length) 0, by rw [List.length_append, List.length_replicate]; omega, fun x hx => by
  rcases List.mem_append.1 hx with h | h
  · exact hl x h
  · obtain ⟨_, rfl⟩ := List.mem_replicate.1 h; omega⟩
theorem wc_pad (i : Nat) (l : List Nat) (hn : l.length ≤ 256) (hl : octs l) : (wc (i, zeroSec)).take 1 ++ cellsOf l ++ (wc (i, zeroSec)).drop (1 + (cellsOf l).length) = wc (i, padSec l hn hl) := by
  have e1 : wc (i, zeroSec) = .int .i64 i :: cellsOf (List.replicate 256 0) := by unfold zeroSec; rfl
  have e2 : wc (i, padSec l hn hl) = .int .i64 i :: (cellsOf l ++ cellsOf (List.replicate (256 - l.length) 0)) := by rw [← cellsOf_append]; rfl
  rw [e1, e2, cellsOf_length, Nat.add_comm 1, List.drop_succ_cons, List.take_succ_cons, List.take_zero]
  simp only [List.cons_append, List.nil_append, cellsOf, ← List.map_drop, List.drop_replicate]
theorem has_one (w : World) (i : Nat) : Has (w.alloc (.cells (wc (i, zeroSec)).toArray 55)) 257 (.slice (some ⟨w.heap.size, 0, none⟩) 1 1) 1 (wc (i, zeroSec)) := by
  have hb := heap_alloc_new w (.cells (wc (i, zeroSec)).toArray 55)
  refine ⟨by rw [wc_length], .inr ⟨_, _, rfl, by simp, Nat.le_refl _, by unfold maxLen; omega, there_block hb (by rw [List.size_toArray, wc_length]; omega), range_block hb (fun j u hu => by rw [Nat.zero_add]; simpa using hu)⟩⟩
theorem pair_setCell1 {w : World} {b : Nat} {x y : Value} {t : TypeId} (h : w.heap[b]? = some (.cells #[x, y] t (0, 0))) (u : Value) : (w.setCell ⟨b, 1, none⟩ u).heap[b]? = some (.cells #[x, u] t (0, 0)) := by
  have hlt := lt_of_block h
  have : w.heap[b] = .cells #[x, y] t (0, 0) := by rw [Array.getElem?_eq_getElem hlt] at h; exact Option.some.inj h
  simp [World.setCell, Array.getElem?_modify, h]

/-- A disk whose row of waiting writes is stored anew. -/
theorem Dk.grow {w W w1 : World} {db : Nat} {lv wv v2 : Value} {L : List Sec} {Q Q2 : List (Nat × Sec)} {X : Prop} (h : Dk w db lv wv L Q) (F : Fr (fun _ => False) w W) (hfr : Fr (fun k => wv.ownBlock = some k ∧ X) W w1)
    (hrow : Has w1 257 v2 Q2.length (Q2.flatMap wc)) (hat : v2.ownBlock = wv.ownBlock ∨ ∃ g, v2.ownBlock = some g ∧ W.heap.size ≤ g) (hmem : ∀ q ∈ Q2, q.1 < L.length) :
    Dk (w1.setCell ⟨db, 1, none⟩ v2) db lv v2 L Q2 ∧ Fr (dkS db lv wv) w (w1.setCell ⟨db, 1, none⟩ v2) ∧ (v2.ownBlock = wv.ownBlock ∨ ∃ g, v2.ownBlock = some g ∧ w.heap.size ≤ g) := by
  have hlt := lt_of_block h.box
  have F2 : Fr (fun k => wv.ownBlock = some k) w w1 := (F.any (S := fun k => wv.ownBlock = some k)).trans hfr (fun i _ e => e.1)
  have F3 : Fr (fun k => k = db) w1 (w1.setCell ⟨db, 1, none⟩ v2) := (Fr.refl (fun k => k = db) w1).setCell (p := ⟨db, 1, none⟩) (fun _ => rfl) v2
  have hs := F.size
  have hne : v2.ownBlock ≠ some db := by
    rcases hat with e | ⟨g, e, hg⟩
    · rw [e]; exact h.ne2
    · rw [e]; simp; omega
  have F4 : Fr (dkS db lv wv) w (w1.setCell ⟨db, 1, none⟩ v2) := (F2.mono (T := dkS db lv wv) (fun i _ e => .inr (.inr e))).setCell (fun _ => .inl rfl) v2
  refine ⟨⟨pair_setCell1 (F2.block_eq h.box h.ne2) v2, (h.lasts.fr F2 (fun k hk e => h.ne3 k hk e)).fr F3 (fun k hk e => h.ne1 (by rw [hk, e])), hrow.fr F3 (fun k hk e => hne (by rw [hk, e])), h.ne1, hne, fun k hk e => ?_, hmem, h.pos, h.top⟩, F4, ?_⟩
  · rcases hat with e2 | ⟨g, e2, hg⟩
    · exact h.ne3 k hk (by rw [← e2]; exact e)
    · have := h.lasts.lt hk
      rw [e2] at e
      simp at e
      omega
  · rcases hat with e2 | ⟨g, e2, hg⟩
    · exact .inl e2
    · exact .inr ⟨g, e2, by omega⟩

set_option maxRecDepth 100000 in
set_option maxHeartbeats 1000000 in
theorem write_ok (h : Dk w db lv wv L Q) (i : Nat) (hi : i < L.length) (a : Option Addr) (c : Nat) (l : List Nat) (hr : Row w a c l) (hn : l.length ≤ 256) (hQ : Q.length ≤ 10000000) : Calls Try.prog 7 #[.pointer (some ⟨db, 0, none⟩), .int .i64 i, .slice a l.length c] w fun e w' => e = .returned (.int .i64 0) ∧
    ∃ wv', Dk w' db lv wv' L (Q ++ [(i, padSec l hn hr.byte)]) ∧ Fr (dkS db lv wv) w w' ∧ (wv'.ownBlock = wv.ownBlock ∨ ∃ g, wv'.ownBlock = some g ∧ w.heap.size ≤ g) := by
  obtain ⟨i80, hi80, hz80, hs80, hb80⟩ := info_parts info80
  obtain ⟨i82, hi82, hz82, hs82, hb82⟩ := info_parts info82
  have hn' : (l.length : Int) ≤ 256 := by omega
  have HI : Hid (i < L.length) := hi
  have h8 : (Try.prog.info? 5).map (·.size) = some 1 := by kernel_rfl
  have h82 : (Try.prog.info? 55).map (·.size) = some (wc (i, zeroSec)).toArray.size := by rw [hi82]; simp [hs82, wc_length]
  have ho := has_one w i
  have f0 : Fr (fun _ => False) w (w.alloc (.cells (wc (i, zeroSec)).toArray 55)) := (Fr.refl (fun _ => False) w).alloc _
  have hr1 := hr.same f0
  have hp := ho.set 1 (cellsOf l) (by rw [cellsOf_length, wc_length]; omega)
  rw [wc_pad i l hn hr.byte] at hp
  have H1 : Hid (Try.prog.info? 55 = some i82) := hi82
  have H2 : Hid (i82.zero = some (.agg (wc (0, zeroSec)).toArray)) := hz82
  have H3 : Hid (i82.size = 257) := hs82
  have H4 : Hid (i82.bytes = 264) := hb82
  have H5 : Hid ((Try.prog.info? 55).map (·.size) = some (wc (i, zeroSec)).toArray.size) := h82
  have H6 : Hid ((Try.prog.info? 5).map (·.size) = some 1) := h8
  have hth : (w.alloc (.cells (wc (i, zeroSec)).toArray 55)).there w.heap.size 1 l.length := fun j hj => by
    obtain ⟨g', cap', hv, _, _, _, hth, _⟩ := ho.form (by omega)
    simp only [Value.slice.injEq, Option.some.injEq, Addr.mk.injEq, and_true, true_and] at hv
    obtain ⟨rfl, rfl⟩ := hv
    have := hth (1 + j) (by omega)
    rwa [Nat.zero_add] at this
  clear hi hi80 hz80 hs80 hb80 hi82 hz82 hs82 hb82 h82 h8
  go_enter Try.func7, Try.ntmps7
  go_wp2_with fail
  refine (dhas_yes db lv wv L Q _ h i HI.out).mono ?_
  rintro e w' ⟨rfl, rfl⟩
  go_wp2_with (first
    | (refine wpList_build82 rfl _ rfl i rfl ?_)
    | (refine wpList_alloc rfl 55 rfl i82 _ H1.out H2.out ?_)
    | (refine wpList_store_new rfl 55 _ _ rfl _ _ rfl rfl H5.out (by simp [wc_length, Value.cells]) (all_oneCell_toArray (wc_one _)) ?_)
    | (refine wpList_copy_row rfl _ _ 31 31 rfl Try.underlying31 H6.out w'.heap.size 1 256 256 a l.length c l rfl rfl rfl hn hr1 hth ?_))
  have F0 : Fr (fun _ => False) w' ((w'.alloc (.cells (wc (i, zeroSec)).toArray 55)).setCells w'.heap.size 1 (cellsOf l)) := Fr.setCells (fun h => absurd h (by simp)) _ _ f0
  clear hr1 hth ho f0
  generalize ((w'.alloc (.cells (wc (i, zeroSec)).toArray 55)).setCells w'.heap.size 1 (cellsOf l)) = W at F0 hp ⊢
  obtain ⟨s, hs⟩ : ∃ s, s = padSec l hn hr.byte := ⟨_, rfl⟩
  rw [← hs] at hp
  have HS : Hid (s = padSec l hn hr.byte) := hs
  clear hs
  obtain ⟨g', cap', hv, _, _, _, _, hra⟩ := hp.form (by omega)
  simp only [Value.slice.injEq, Option.some.injEq, Addr.mk.injEq, and_true, true_and] at hv
  obtain ⟨rfl, rfl⟩ := hv
  have hW := h.same F0
  have hbx := hW.box
  have hc1 := cell_at hbx 1
  simp only [List.getElem?_toArray, List.getElem?_cons_zero, List.getElem?_cons_succ] at hc1
  have hwaits := hW.waits
  have hne2 := h.ne2
  obtain ⟨aw, cw, rfl, _⟩ := hwaits.slice
  obtain ⟨n, hnn⟩ : ∃ n, n = Q.length := ⟨_, rfl⟩
  have HN : Hid (n = Q.length) := hnn
  rw [← hnn] at hwaits hbx hc1 hQ hne2
  clear hnn hp
  have hld := ld82_at (q := (i, s)) (show W.drew.rangeAt w'.heap.size 0 (wc (i, s)) from hra)
  have hbs := bs75_at (i, s)
  have hc2 := (World.cell?_of_block (a := ⟨db, 1, none⟩) (Below.heap_alloc W (.cells (wc (i, s)).toArray 55) db (lt_of_block hbx))).trans hc1
  go_region_law
    ((refine step_append_has _ (by rfl) _ _ 45 45 55 55 (by rfl) i82 _ 257 264 Try.underlying45 Try.underlying45 H1.out H2.out H3.out H4.out (by simp [Value.cells, wc_length]) (by omega) (.slice aw n cw) n (Q.flatMap wc) (by rfl) (hwaits.fr (((Fr.refl (fun _ => False) W).alloc (.cells (wc (i, s)).toArray 55)).drew) (fun _ _ f => f))
        (some ⟨W.heap.size, 0, none⟩) 1 1 (wc (i, s)) (by rfl) (by rw [wc_length]) (.inr ⟨_, _, rfl, range_block (w := (W.alloc _).drew) (heap_alloc_new W _) (fun j u hu => by rw [Nat.zero_add]; simpa using hu)⟩) (wc_one _) (by unfold maxLen; omega) (by omega) ?_; intro a' c' w1 hown hfr hat; have hb3 := hfr.block_eq (show ((W.alloc (.cells (wc (i, s)).toArray 55)).drew).heap[db]? = _ from (Below.heap_alloc W _ _ (lt_of_block hbx)).trans hbx) (fun e => hne2 e.1); have q3 := cell_at hb3 1; have z3 := free_at hb3 1; simp only [List.getElem?_toArray, List.getElem?_cons_zero, List.getElem?_cons_succ] at q3))
  all_goals
    go_wp2
    go_ret
    obtain rfl := HN.out
    have hat' : (Value.slice a' (Q.length + 1) c').ownBlock = (Value.slice aw Q.length cw).ownBlock ∨ ∃ g, (Value.slice a' (Q.length + 1) c').ownBlock = some g ∧ W.heap.size ≤ g := by
      rcases hat with e | e
      · exact .inl e
      · exact .inr ⟨_, e, by simp⟩
    rw [← HS.out]
    refine ⟨rfl, _, h.grow (X := True) F0 ((((Fr.refl (fun k => (Value.slice aw Q.length cw).ownBlock = some k ∧ True) W).alloc _).drew).trans hfr (fun k _ e => ⟨e.1, trivial⟩)) (Q2 := Q ++ [(i, s)]) (by simpa using hown) hat' (fun q hq => ?_)⟩
    rcases List.mem_append.1 hq with h1 | h1
    · exact h.at_ q h1
    · obtain rfl := List.mem_singleton.1 h1
      exact HI.out
end
end Go.Proofs.Ytkmjmbpdmgoknaa
