
/- A tree in memory; the tree of pages. -/
import Derived.Test.YtnckmajfmkkpgaaGreatBZ4
import Derived.Test.YtnckmajfmkkpgaaGreatAlAll
namespace Go.Proofs.YtnckmajfmkkpgaaGreat
open Go.RowKit

/-- A tree: where its pages lie, its map of pages, its last LSN. -/
structure Tr (w : World) (tb : Nat) (a : Option Addr) (n c mb : Nat) (last : Int) : Prop where
  box : w.heap[tb]? = some (.cells #[.slice a n c, .pointer (some ⟨mb, 0, none⟩), .int .i64 last] 58 (0, 0))
  map : ∃ U, Al.Mp w mb 4096 U
  ne : mb ≠ tb
theorem Tr.fr {S : Nat → Prop} {w w' : World} {tb : Nat} {a : Option Addr} {n c mb : Nat} {last : Int} (h : Tr w tb a n c mb last) (f : Fr S w w') (h1 : ¬ S tb) (h2 : ¬ S mb) : Tr w' tb a n c mb last := by
  obtain ⟨U, hU⟩ := h.map
  exact ⟨f.blk h.box h1, ⟨U, hU.fr f h2⟩, h.ne⟩
theorem tree_cells {W : World} {b : Nat} {t : TypeId} {c0 c1 c2 : Value} (h : W.heap[b]? = some (.cells #[c0, c1, c2] t (0, 0))) : (W.cell? ⟨b, 0, none⟩ = some c0 ∧ W.cell? ⟨b, 1, none⟩ = some c1 ∧ W.cell? ⟨b, 2, none⟩ = some c2) ∧ ∀ j, W.frozen? ⟨b, j, none⟩ = false := by
  refine ⟨⟨?_, ?_, ?_⟩, fun j => ?_⟩
  all_goals simp [World.cell?, World.frozen?, h]
theorem tree_set {W : World} {b : Nat} {t : TypeId} {c0 c1 c2 : Value} (h : W.heap[b]? = some (.cells #[c0, c1, c2] t (0, 0))) (u : Value) : (W.setCell ⟨b, 2, none⟩ u).heap[b]? = some (.cells #[c0, c1, u] t (0, 0)) := by
  obtain ⟨hlt, he⟩ := Array.getElem?_eq_some_iff.1 h
  show (W.heap.modify b _)[b]? = _
  rw [Array.getElem?_eq_getElem (by rw [Array.size_modify]; exact hlt), Array.getElem_modify_self, he]
  rfl
def mx (a b : Int) : Int := max a b
def maxL (ls : List Sl) : Int := ls.foldl (fun m s => mx m s.nd.lsn) 0
theorem maxL_take {ls : List Sl} {k : Nat} {s : Sl} (h : ls[k]? = some s) : maxL (ls.take (k + 1)) = mx (maxL (ls.take k)) s.nd.lsn := by
  obtain ⟨hk, e⟩ := List.getElem?_eq_some_iff.1 h
  unfold maxL
  rw [List.take_succ_eq_append_getElem hk, List.foldl_append, e]
  rfl
theorem all_some (tb : Nat) (a : Option Addr) (n c mb : Nat) (last : Int) (w : World) (h : Tr w tb a n c mb last) : Calls Tryz.prog 12 #[.pointer (some ⟨tb, 0, none⟩)] w fun e w' => e = .returned (.slice a n c) ∧ Fr (fun _ => False) w w' := by
  obtain ⟨⟨c0, c1, c2⟩, _⟩ := tree_cells h.box
  go_enter Tryz.func12, Tryz.ntmps12
  go_wp2
  go_ret
  exact ⟨rfl, Fr.refl _ _⟩
theorem all_none (w : World) : Calls Tryz.prog 12 #[.pointer none] w fun e w' => e = .returned (.slice none 0 0) ∧ Fr (fun _ => False) w w' := by
  go_enter Tryz.func12, Tryz.ntmps12
  go_wp2
  go_ret
  exact ⟨rfl, Fr.refl _ _⟩
/-- What Check tells. -/
def ckE (ls : List Sl) : Int := if (leavesF ls).isSome = true then 0 else 130
theorem check_call (a : Option Addr) (n c : Nat) (ls : List Sl) (hn : n = ls.length) (w : World) (h : Slots w a c ls) : Calls Tryz.prog 22 #[.slice a n c] w fun e w' => e = .returned (.int .i64 (ckE ls)) ∧ Fr (fun _ => False) w w' := by
  have hlv := leaves_any a n c ls hn w h
  clear h hn
  go_enter Tryz.func22, Tryz.ntmps22
  go_wp2_with fail
  refine hlv.mono ?_
  intro e w1 ho
  obtain ⟨la, ln, lc, lb, rfl, hlb, _, _, _, f1⟩ := lv_both ho
  have HLB : Hid (lb = (leavesF ls).isSome) := hlb
  clear hlv ho hlb
  cases lb
  · go_wp2
    go_ret
    exact ⟨by unfold ckE; rw [← HLB.out]; rfl, f1⟩
  · go_wp2
    go_ret
    exact ⟨by unfold ckE; rw [← HLB.out]; rfl, f1⟩
theorem last_some (tb : Nat) (a : Option Addr) (n c mb : Nat) (last : Int) (w : World) (h : Tr w tb a n c mb last) : Calls Tryz.prog 9 #[.pointer (some ⟨tb, 0, none⟩)] w fun e w' => e = .returned (.int .i64 last) ∧ Fr (fun _ => False) w w' := by
  obtain ⟨⟨c0, c1, c2⟩, _⟩ := tree_cells h.box
  go_enter Tryz.func9, Tryz.ntmps9
  go_wp2
  go_ret
  exact ⟨rfl, Fr.refl _ _⟩
theorem last_none (w : World) : Calls Tryz.prog 9 #[.pointer none] w fun e w' => e = .returned (.int .i64 0) ∧ Fr (fun _ => False) w w' := by
  go_enter Tryz.func9, Tryz.ntmps9
  go_wp2
  go_ret
  exact ⟨rfl, Fr.refl _ _⟩
theorem take_none (w : World) : Calls Tryz.prog 6 #[.pointer none] w fun e w' => e = .returned (.tuple #[.int .i64 0, .int .i64 5]) ∧ Fr (fun _ => False) w w' := by
  go_enter Tryz.func6, Tryz.ntmps6
  go_wp2
  go_ret2
  exact ⟨rfl, Fr.refl _ _⟩
set_option maxRecDepth 100000 in
set_option maxHeartbeats 8000000 in
theorem treeOf_any (a : Option Addr) (n c : Nat) (ls : List Sl) (hn : n = ls.length) (w : World) (h : Slots w a c ls) : Calls Tryz.prog 39 #[.slice a n c] w fun e w' => ∃ tb mb, e = .returned (.pointer (some ⟨tb, 0, none⟩)) ∧ Tr w' tb a n c mb (maxL ls) ∧ w.heap.size ≤ tb ∧ w.heap.size ≤ mb ∧ Fr (fun _ => False) w w' := by
  have hle : n ≤ c := by rw [hn]; exact h.le
  have hmx := h.max
  have HS : Hid (∀ W, Fr (fun _ => False) w W → Slots W a c ls) := fun W f => h.same f
  have HN : Hid (n = ls.length) := hn
  have hnw := Al.anew_ok 4096 (by omega) (by omega) w
  clear h hn
  go_enter Tryz.func39, Tryz.ntmps39
  go_wp2_with fail
  refine hnw.mono ?_
  rintro e w1 ⟨rfl, hmp, f1⟩
  have hlt := hmp.lt
  have fa := Fr.box w1 (.cells #[.slice a n c, .pointer (some ⟨w.heap.size, 0, none⟩), .int .i64 0] 58)
  have HT0 : Hid (Tr (w1.alloc (.cells #[.slice a n c, .pointer (some ⟨w.heap.size, 0, none⟩), .int .i64 0] 58)) w1.heap.size a n c w.heap.size 0) := ⟨heap_alloc_new w1 _, ⟨_, hmp.same fa⟩, by omega⟩
  have F1 := f1.seq' fa
  clear hnw hmp f1 fa
  go_wp2
  go_loopw [18] (fun i wr => ∃ (k : Nat), k ≤ n ∧ i = .int .i64 k ∧ Hid (Tr wr w1.heap.size a n c w.heap.size (maxL (ls.take k))) ∧ Fr (fun _ => False) w wr) (fun i _ => n - (intOf i).toNat)
  case atStart => exact ⟨0, by omega, rfl, HT0, F1⟩
  case round =>
    obtain ⟨k, hk, rfl, HT, F⟩ := hrel
    by_cases hlt2 : k < n
    · obtain ⟨s, hs⟩ : ∃ s, ls[k]? = some s := ⟨_, List.getElem?_eq_getElem (by have := HN.out; omega)⟩
      obtain ⟨b, off, rfl, hb, hc⟩ := (HS.out _ F).some (by have := HN.out; omega)
      obtain ⟨q0, q1, q2, q3, q4, q5, q6, q7⟩ := sl_range (hc k s hs)
      have hki : (k : Int) < (n : Int) := by omega
      have HMX := maxL_take hs
      have FB := F.alloc (.cells #[.int .i64 s.page, .int .i64 s.nd.lev, .int .i64 s.nd.lsn, .int .i64 s.nd.rgt, .string s.nd.high, .slice s.pt.k s.nd.keys.length s.pt.kc, .slice s.pt.v s.nd.vals.length s.pt.vc, .slice s.pt.i s.nd.kids.length s.pt.ic] 62)
      have hT1 := HT.out.fr (Fr.box wr (.cells #[.int .i64 s.page, .int .i64 s.nd.lev, .int .i64 s.nd.lsn, .int .i64 s.nd.rgt, .string s.nd.high, .slice s.pt.k s.nd.keys.length s.pt.kc, .slice s.pt.v s.nd.vals.length s.pt.vc, .slice s.pt.i s.nd.kids.length s.pt.ic] 62)) (fun f => f) (fun f => f)
      have hbx := heap_alloc_new wr (.cells #[.int .i64 s.page, .int .i64 s.nd.lev, .int .i64 s.nd.lsn, .int .i64 s.nd.rgt, .string s.nd.high, .slice s.pt.k s.nd.keys.length s.pt.kc, .slice s.pt.v s.nd.vals.length s.pt.vc, .slice s.pt.i s.nd.kids.length s.pt.ic] 62)
      have htl := lt_of_block HT.out.box
      have g0 := (Fr.refl (fun _ => False) (wr.alloc (.cells #[.int .i64 s.page, .int .i64 s.nd.lev, .int .i64 s.nd.lsn, .int .i64 s.nd.rgt, .string s.nd.high, .slice s.pt.k s.nd.keys.length s.pt.kc, .slice s.pt.v s.nd.vals.length s.pt.vc, .slice s.pt.i s.nd.kids.length s.pt.ic] 62))).drew
      obtain ⟨U, hU⟩ := hT1.map
      have hmk := Al.mark_any w.heap.size 4096 U _ (hU.same g0) s.page
      obtain ⟨lm, hlm⟩ : ∃ m, m = maxL (ls.take k) := ⟨_, rfl⟩
      rw [← hlm] at HMX hT1
      have HQ : Hid (∀ W, Fr (fun q => q = w.heap.size) (wr.alloc (.cells #[.int .i64 s.page, .int .i64 s.nd.lev, .int .i64 s.nd.lsn, .int .i64 s.nd.rgt, .string s.nd.high, .slice s.pt.k s.nd.keys.length s.pt.kc, .slice s.pt.v s.nd.vals.length s.pt.vc, .slice s.pt.i s.nd.kids.length s.pt.ic] 62)) W → (W.cell? ⟨w1.heap.size, 0, none⟩ = some (.slice (some ⟨b, off, none⟩) n c) ∧ W.cell? ⟨w1.heap.size, 1, none⟩ = some (.pointer (some ⟨w.heap.size, 0, none⟩)) ∧ W.cell? ⟨w1.heap.size, 2, none⟩ = some (.int .i64 lm)) ∧ W.cell? ⟨wr.heap.size, 0, none⟩ = some (.int .i64 s.page) ∧ W.cell? ⟨wr.heap.size, 2, none⟩ = some (.int .i64 s.nd.lsn)) := fun W f => by
        refine ⟨(tree_cells (f.blk hT1.box (by omega))).1, ?_⟩
        obtain ⟨⟨e0, _, e2, _⟩, _⟩ := rec_cells (f.blk hbx (by omega))
        exact ⟨e0, e2⟩
      have HBT : Hid ((wr.alloc (.cells #[.int .i64 s.page, .int .i64 s.nd.lev, .int .i64 s.nd.lsn, .int .i64 s.nd.rgt, .string s.nd.high, .slice s.pt.k s.nd.keys.length s.pt.kc, .slice s.pt.v s.nd.vals.length s.pt.vc, .slice s.pt.i s.nd.kids.length s.pt.ic] 62)).heap[w1.heap.size]? = some (.cells #[.slice (some ⟨b, off, none⟩) n c, .pointer (some ⟨w.heap.size, 0, none⟩), .int .i64 lm] 58 (0, 0))) := hT1.box
      have HMX2 : Hid (maxL (ls.take (k + 1)) = mx lm s.nd.lsn) := HMX
      obtain ⟨re, hre⟩ : ∃ x, x = Al.setE 4096 U true s.page := ⟨_, rfl⟩
      rw [← hre] at hmk
      have hne := HT.out.ne
      clear hs hc HMX hT1 hbx HT hlm hU hre
      go_wp2_with fail
      go_region_held3 (fun W => (W.cell? ⟨w1.heap.size, 0, none⟩ = some (.slice (some ⟨b, off, none⟩) n c) ∧ W.cell? ⟨w1.heap.size, 1, none⟩ = some (.pointer (some ⟨w.heap.size, 0, none⟩)) ∧ W.cell? ⟨w1.heap.size, 2, none⟩ = some (.int .i64 lm)) ∧ W.cell? ⟨wr.heap.size, 0, none⟩ = some (.int .i64 s.page) ∧ W.cell? ⟨wr.heap.size, 2, none⟩ = some (.int .i64 s.nd.lsn))
        (first | with_reducible exact HQ.out _ (g0.widen (fun _ f => f.elim)) | with_reducible exact HQ.out _ g1)
        (first | (go_at_call 37; refine hmk.mono ?_; rintro e w5 ⟨rfl, hmp5, f5⟩; have g1 := (g0.widen (T := fun q => q = w.heap.size) (fun _ f => f.elim)).trans f5 (fun _ _ e => e)))
      obtain ⟨⟨t0, t1, t2⟩, p0, p2⟩ := HQ.out _ g1.drew
      have hfz := (tree_cells (g1.drew.blk HBT.out (by omega))).2 2
      clear hmk q0 q1 q2 q3 q4 q5 q6 q7
      have hb6 := tree_set (g1.blk HBT.out (by omega)) (.int .i64 (max lm s.nd.lsn))
      have f6 : Fr (fun q => q = w1.heap.size) w5 (w5.setCell ⟨w1.heap.size, 2, none⟩ (.int .i64 (max lm s.nd.lsn))) := (Fr.refl (fun q => q = w1.heap.size) w5).setCell (p := ⟨w1.heap.size, 2, none⟩) (fun _ => rfl) _
      have f7 : Fr (fun _ => False) (w5.setCell ⟨w1.heap.size, 2, none⟩ (.int .i64 (max lm s.nd.lsn))) (w5.setCell ⟨w1.heap.size, 2, none⟩ (.int .i64 (max lm s.nd.lsn))).drew := (Fr.refl _ _).drew
      have HT6 : Hid (Tr (w5.setCell ⟨w1.heap.size, 2, none⟩ (.int .i64 (max lm s.nd.lsn))).drew w1.heap.size (some ⟨b, off, none⟩) n c w.heap.size (maxL (ls.take (k + 1)))) := by
        show Tr _ _ _ _ _ _ _
        rw [HMX2.out]
        exact ⟨f7.blk hb6 (fun f => f), ⟨_, (hmp5.fr f6 (by omega)).same f7⟩, hne⟩
      have F6 : Fr (fun _ => False) w (w5.setCell ⟨w1.heap.size, 2, none⟩ (.int .i64 (max lm s.nd.lsn))).drew := ((FB.trans g1 (fun i hi e => by omega)).trans f6 (fun i hi e => by omega)).seq' f7
      clear hb6 f6 f7 hmp5 f5
      go_wp2_with fail
      go_region_law (fail)
      all_goals
        go_wp2
        go_roundw
        case rel => exact ⟨k + 1, by omega, by go_num, HT6, F6⟩
        case measure => simp [intOf]; omega
    · obtain rfl : k = n := by omega
      have HT2 : Hid (Tr wr w1.heap.size a k c w.heap.size (maxL ls)) := by
        have := HT.out
        rw [List.take_of_length_le (by have := HN.out; omega)] at this
        exact this
      have HZ : Hid (w.heap.size ≤ w1.heap.size) := Nat.le_of_lt hlt
      clear HT hlt
      go_wp2
      go_ret
      exact ⟨w1.heap.size, w.heap.size, rfl, HT2.out, HZ.out, Nat.le_refl _, F⟩
end Go.Proofs.YtnckmajfmkkpgaaGreat
