
/- BkRow, BkSeq, BkRows. -/
import Derived.Test.YtnckmajfmkkpgaaGreatBkFind
import Derived.Test.YtnckmajfmkkpgaaGreatBkSpot
import Derived.Shelf.Abstract
import Derived.Shelf.RegionOpen
import Derived.WalkKit
import Derived.OwnWalkIn
import Derived.TacticsInMore
import Derived.LoopNIn
import Derived.LoopIn
/- The pages of a row, as the iterator row gives them. -/
namespace Go.Proofs.YtnckmajfmkkpgaaGreat
open Go.RowKit Go.Shelf
attribute [local go_sem] Oper.semAt_some

/-- The pages of a row, from a page on. -/
def rowS (ls : List Sl) : Nat → Int → ByteArray → List Spt
  | 0, _, _ => []
  | k + 1, x, low => if hasB ls x = true then (match ls[ahead ls x]? with | none => [] | some s => ⟨x, s.nd, s.pt, low⟩ :: rowS ls k s.nd.rgt s.nd.high) else []
theorem rowS_no {ls : List Sl} {x : Int} (k : Nat) (low : ByteArray) (h : hasB ls x = false) : rowS ls k x low = [] := by
  cases k with
  | zero => rfl
  | succ k => simp [rowS, h]
theorem rowS_yes {ls : List Sl} {x : Int} {s : Sl} (k : Nat) (low : ByteArray) (h : hasB ls x = true) (hs : ls[ahead ls x]? = some s) : rowS ls (k + 1) x low = ⟨x, s.nd, s.pt, low⟩ :: rowS ls k s.nd.rgt s.nd.high := by
  simp [rowS, h, hs]
theorem bfind_yes {a : Option Addr} {len cap : Nat} {ls : List Sl} {x : Int} {w : World} {s : Sl} (h : Calls Tryz.prog 15 #[.slice a len cap, .int .i64 x] w fun e w' => BfOut ls x w e w') (hb : hasB ls x = true) (hs : ls[ahead ls x]? = some s) :
    Calls Tryz.prog 15 #[.slice a len cap, .int .i64 x] w fun e w' => e = .returned (.tuple #[(.agg #[.int .i64 s.nd.lev, .int .i64 s.nd.lsn, .int .i64 s.nd.rgt, .string s.nd.high, .slice s.pt.k s.nd.keys.length s.pt.kc, .slice s.pt.v s.nd.vals.length s.pt.vc, .slice s.pt.i s.nd.kids.length s.pt.ic]), .bool true]) ∧ Fr (fun _ => False) w w' := h.mono fun e w' ⟨f, ho⟩ => by
  rcases ho with ⟨t, _, ht, _, _, rfl⟩ | ⟨hn, _⟩
  · rw [hs] at ht; cases ht; exact ⟨rfl, f⟩
  · rw [hb] at hn; cases hn
theorem bfind_no {a : Option Addr} {len cap : Nat} {ls : List Sl} {x : Int} {w : World} (h : Calls Tryz.prog 15 #[.slice a len cap, .int .i64 x] w fun e w' => BfOut ls x w e w') (hb : hasB ls x = false) :
    Calls Tryz.prog 15 #[.slice a len cap, .int .i64 x] w fun e w' => e = .returned (.tuple #[.agg #[.int .i64 0, .int .i64 0, .int .i64 0, .string ⟨#[]⟩, .slice none 0 0, .slice none 0 0, .slice none 0 0], .bool false]) ∧ Fr (fun _ => False) w w' := h.mono fun e w' ⟨f, ho⟩ => by
  rcases ho with ⟨t, _, _, hn, _, _⟩ | ⟨_, rfl⟩
  · rw [hb] at hn; cases hn
  · exact ⟨rfl, f⟩
theorem has_some {ls : List Sl} {x : Int} (h : hasB ls x = true) : ∃ s, ls[ahead ls x]? = some s ∧ s.page = x := by
  unfold hasB at h
  split at h
  · cases h
  · rename_i s hs; exact ⟨s, hs, by simpa using h⟩
/-- What a round leaves of what an iterator holds. -/
theorem Tend.on {α : Type} {R : Nat → Prop} {T : World → Nat → Prop} {J : List α → World → Prop} (h : Tend R T J) {pre : List α} {w A B C : World} (hA : J pre A) (f : Fr (fun _ => False) A B) (g : Fr (T B) B C) (hw : Fr (fun k => ¬ R k) w A) : Fr (fun k => ¬ R k) w C ∧ ∀ k, A.heap.size ≤ k → k < B.heap.size → C.heap[k]? = B.heap[k]? :=
  ⟨(hw.trans f (fun _ _ f => f.elim)).trans g (fun i _ e => h.apart pre A i hA (h.back pre A B i hA f e)), fun k hk hk2 => g.block k hk2 (fun e => by have := h.old pre A k hA (h.back pre A B k hA f e); omega)⟩
set_option maxRecDepth 100000 in
set_option maxHeartbeats 4000000 in
theorem row_iter (a : Option Addr) (n c : Nat) (ls : List Sl) (hn : n = ls.length) (hf : ls.length ≤ 100000) (hr : Rise ls) (first : Int) (Bf Bl : Nat) (R : Nat → Prop) (w : World)
    (hS : ∀ W, Fr (fun k => ¬ R k) w W → Slots W a c ls) (hcf : ∀ W, Fr (fun k => ¬ R k) w W → W.cell? ⟨Bf, 0, none⟩ = some (.int .i64 first)) (hcl : ∀ W, Fr (fun k => ¬ R k) w W → W.cell? ⟨Bl, 0, none⟩ = some (.slice a n c)) :
    Iter Tryz.prog 66 #[.pointer (some ⟨Bf, 0, none⟩), .pointer (some ⟨Bl, 0, none⟩)] (fun s : Spt => #[(.agg #[.int .i64 s.page, .int .i64 s.nd.lev, .int .i64 s.nd.lsn, .int .i64 s.nd.rgt, .string s.nd.high, .slice s.pt.k s.nd.keys.length s.pt.kc, .slice s.pt.v s.nd.vals.length s.pt.vc, .slice s.pt.i s.nd.kids.length s.pt.ic, .string s.low])]) R (fun pre x _ => pre ++ [x] <+: rowS ls n first ByteArray.empty) (fun xs => xs = rowS ls n first ByteArray.empty) w := by
  intro l T J Jx W hW hT hJx hY h0
  have hle : n ≤ c := by rw [hn]; exact (hS W hW).le
  have hmx := (hS W hW).max
  have HFD : Hid (∀ W x, Fr (fun k => ¬ R k) w W → Calls Tryz.prog 15 #[.slice a n c, .int .i64 x] W fun e w' => BfOut ls x W e w') := fun W x f => bfind_any a n c ls hn hf hr x W (hS W f)
  have HCL : Hid (∀ W, Fr (fun k => ¬ R k) w W → W.cell? ⟨Bl, 0, none⟩ = some (.slice a n c)) := hcl
  have HN : Hid (n = ls.length) := hn
  have HT : Hid (Tend R T J) := hT
  have HJX : Hid (∀ pre A B, Jx pre A → Fr (fun _ => False) A B → Jx pre B) := hJx
  have HY : Hid (∀ pre x W1, J pre W1 → pre ++ [x] <+: rowS ls n first ByteArray.empty → YieldAt Fence.wide 0 Tryz.prog l #[(.agg #[.int .i64 x.page, .int .i64 x.nd.lev, .int .i64 x.nd.lsn, .int .i64 x.nd.rgt, .string x.nd.high, .slice x.pt.k x.nd.keys.length x.pt.kc, .slice x.pt.v x.nd.vals.length x.pt.vc, .slice x.pt.i x.nd.kids.length x.pt.ic, .string x.low])] W1 fun e W' => (e = .returned (.bool true) ∧ J (pre ++ [x]) W' ∧ Fr (T W1) W1 W' ∧ ∀ k, T W' k → T W1 k ∨ W1.heap.size ≤ k) ∨ (e = .returned (.bool false) ∧ Jx (pre ++ [x]) W')) := hY
  have HJ0 : Hid (J [] W) := h0
  have HW : Hid (Fr (fun k => ¬ R k) w W) := hW
  have c1 := hcf W hW
  have c2 := hcl W hW
  clear hS hcf hcl hT hJx hY h0 hn hr hf hW
  refine callsIn_of_wp Tryz.func66 rfl trivial ?_ rfl
  simp only [Tryz.ntmps66, List.size_toArray, List.length_cons, List.length_nil, Nat.reduceAdd, Nat.reduceSub, Array.replicate_succ, Array.replicate_zero, List.push_toArray, List.append_toArray, List.nil_append, List.cons_append]
  gi_wp2
  gi_loopw [11, 4, 5] (fun i nx lw wr => ∃ (k : Nat) (x : Int) (low : ByteArray) (pre : List Spt), k ≤ n ∧ i = .int .i64 k ∧ nx = .int .i64 x ∧ lw = .string low ∧ Hid (pre ++ rowS ls (n - k) x low = rowS ls n first ByteArray.empty) ∧ Hid (J pre wr) ∧ Fr (fun k => ¬ R k) w wr) (fun i _ _ _ => n - (intOf i).toNat)
  case atStart => exact ⟨0, first, ByteArray.empty, [], by omega, rfl, rfl, rfl, rfl, HJ0, HW.out⟩
  case round =>
    obtain ⟨k, x, low, pre, hk, rfl, rfl, rfl, HE, HJ, F⟩ := hrel
    by_cases hlt : k < n
    · have hki : (k : Int) < (n : Int) := by omega
      have c2 := HCL.out _ F
      have hfd := HFD.out _ x F
      have HSZ : Hid (n - k = (n - (k + 1)) + 1) := by show _ = _; omega
      cases hh : hasB ls x
      · have hfn := bfind_no hfd hh
        have HS0 : Hid (pre = rowS ls n first ByteArray.empty) := by show _ = _; rw [← HE.out, rowS_no _ _ hh, List.append_nil]
        clear hfd hh HE
        gi_wp2
        refine ⟨trivial, rfl, (callsIn_wide.2 hfn).mono ?_⟩
        rintro e w1 ⟨rfl, f1⟩
        gi_wp2
        refine ⟨fun _ h => (by cases h), ?_⟩
        gi_wp2
        refine bodyPost_ret (results_none rfl _ _ _) rfl ?_
        exact ⟨⟨_, rfl⟩, .inl ⟨pre, HS0.out, HT.out.steady _ _ _ HJ.out (f1.alloc _)⟩⟩
      · obtain ⟨s, hs, hsx⟩ := has_some hh
        have hfy := bfind_yes hfd hh hs
        have HR2 : Hid (rowS ls (n - k) x low = ⟨x, s.nd, s.pt, low⟩ :: rowS ls (n - (k + 1)) s.nd.rgt s.nd.high) := by show _ = _; rw [HSZ.out]; exact rowS_yes _ _ hh hs
        clear hfd hh hs hsx
        gi_wp2
        refine ⟨trivial, rfl, (callsIn_wide.2 hfy).mono ?_⟩
        rintro e w1 ⟨rfl, f1⟩
        have fB := f1.alloc (.cells #[.int .i64 s.nd.lev, .int .i64 s.nd.lsn, .int .i64 s.nd.rgt, .string s.nd.high, .slice s.pt.k s.nd.keys.length s.pt.kc, .slice s.pt.v s.nd.vals.length s.pt.vc, .slice s.pt.i s.nd.kids.length s.pt.ic] 28)
        have hJ1 := HT.out.steady _ _ _ HJ.out fB
        obtain ⟨fn, tmps, assign, body, hy, hR⟩ := HY.out pre ⟨x, s.nd, s.pt, low⟩ _ hJ1 (by rw [← HE.out, HR2.out]; exact ⟨rowS ls (n - (k + 1)) s.nd.rgt s.nd.high, by simp⟩)
        dsimp only at hy
        gi_wp2
        refine ⟨rfl, hR.mono ?_⟩
        rintro e W3 (⟨rfl, hJ3, hk3, _⟩ | ⟨rfl, hJx3⟩)
        · obtain ⟨FW3, hbl⟩ := HT.out.on HJ.out fB hk3 F
          have hbx := (hbl w1.heap.size (by have := f1.size; omega) (by simp)).trans (heap_alloc_new w1 (.cells #[.int .i64 s.nd.lev, .int .i64 s.nd.lsn, .int .i64 s.nd.rgt, .string s.nd.high, .slice s.pt.k s.nd.keys.length s.pt.kc, .slice s.pt.v s.nd.vals.length s.pt.vc, .slice s.pt.i s.nd.kids.length s.pt.ic] 28))
          obtain ⟨c0, c1, c2', c3, c4, c5, c6⟩ := box_cells hbx
          have HE2 : Hid ((pre ++ [⟨x, s.nd, s.pt, low⟩]) ++ rowS ls (n - (k + 1)) s.nd.rgt s.nd.high = rowS ls n first ByteArray.empty) := by show _ = _; rw [← HE.out, HR2.out]; simp
          have HJ3 : Hid (J (pre ++ [⟨x, s.nd, s.pt, low⟩]) W3) := hJ3
          clear hJ3 hk3 hbl hbx hR hy hJ1
          have hmo : Tryz.prog.follows .mixedOrders = true := by kernel_rfl
          gi_wp2
          gi_region_with_o (fail)
          all_goals gi_wp2
          all_goals go_roundw
          all_goals first
            | exact ⟨k + 1, s.nd.rgt, s.nd.high, pre ++ [⟨x, s.nd, s.pt, low⟩], by omega, by go_num, rfl, rfl, HE2, HT.out.steady _ _ _ HJ3.out ((Fr.refl _ W3).drew), FW3.trans ((Fr.refl (fun _ => False) W3).drew) (fun _ _ f => f.elim)⟩
            | (simp [intOf]; omega)
        · gi_wp2
          refine bodyPost_ret (results_none rfl _ _ _) rfl ?_
          exact ⟨⟨_, rfl⟩, .inr ⟨_, hJx3⟩⟩
    · have HS0 : Hid (pre = rowS ls n first ByteArray.empty) := by
        show _ = _
        rw [← HE.out, show n - k = 0 by omega]
        simp [rowS]
      gi_wp2
      go_end0
      exact ⟨⟨_, rfl⟩, .inl ⟨pre, HS0.out, HJ.out⟩⟩
end Go.Proofs.YtnckmajfmkkpgaaGreat

/- slices.Collect of what an iterator gives. -/
namespace Go.Proofs.YtnckmajfmkkpgaaGreat
open Go.RowKit Go.Shelf
attribute [local go_sem] Oper.semAt_some
theorem nine_cells {W : World} {b : Nat} {t : TypeId} {c0 c1 c2 c3 c4 c5 c6 c7 c8 : Value} (h : W.heap[b]? = some (.cells #[c0, c1, c2, c3, c4, c5, c6, c7, c8] t (0, 0))) : W.cell? ⟨b, 0, none⟩ = some c0 ∧ W.cell? ⟨b, 1, none⟩ = some c1 ∧ W.cell? ⟨b, 2, none⟩ = some c2 ∧ W.cell? ⟨b, 3, none⟩ = some c3 ∧ W.cell? ⟨b, 4, none⟩ = some c4 ∧ W.cell? ⟨b, 5, none⟩ = some c5 ∧ W.cell? ⟨b, 6, none⟩ = some c6 ∧ W.cell? ⟨b, 7, none⟩ = some c7 ∧ W.cell? ⟨b, 8, none⟩ = some c8 := by
  refine ⟨?_, ?_, ?_, ?_, ?_, ?_, ?_, ?_, ?_⟩ <;> simp [World.cell?, h]

theorem infoSpt : (Tryz.prog.info? 73).map (fun i => (i.zero, i.size, i.bytes)) = some (some (.agg #[.int .i64 0, .int .i64 0, .int .i64 0, .int .i64 0, .string ⟨#[]⟩, .slice none 0 0, .slice none 0 0, .slice none 0 0, .string ⟨#[]⟩]), 9, 136) := by kernel_rfl
/-- What gathers Spt. -/
def GthSpt (w : World) (L pre : List Spt) (W : World) : Prop := pre <+: L ∧ Fr (fun _ => False) w W ∧ ∃ v, Gat W w.heap.size (w.heap.size + 3) 45 9 v pre.length (pre.flatMap spC)
set_option maxRecDepth 100000 in
set_option maxHeartbeats 4000000 in
theorem appendSeqSpt (gf : Nat) (lb : Array Value) (eg : ∀ args w, (callFunc gf args).run Tryz.prog w = .ok (.enter gf args) w) (R : Nat → Prop) (M : List Spt → Spt → World → Prop) (L : List Spt) (hL : L.length ≤ 100000000) (w0 w : World)
    (hM : ∀ pre x W, M pre x W → pre ++ [x] <+: L) (hit : Iter Tryz.prog gf lb (fun s : Spt => #[(.agg #[.int .i64 s.page, .int .i64 s.nd.lev, .int .i64 s.nd.lsn, .int .i64 s.nd.rgt, .string s.nd.high, .slice s.pt.k s.nd.keys.length s.pt.kc, .slice s.pt.v s.nd.vals.length s.pt.vc, .slice s.pt.i s.nd.kids.length s.pt.ic, .string s.low])]) R M (fun xs => xs = L) w0) (hw : Fr (fun k => ¬ R k) w0 w) (hR : ∀ k, R k → k < w.heap.size) :
    Calls Tryz.prog 65 #[.slice none 0 0, .func (.func gf) #[] lb] w fun e W' => ∃ v, e = .returned v ∧ Has W' 9 v L.length (L.flatMap spC) ∧ (∀ g, v.ownBlock = some g → w.heap.size ≤ g) ∧ Fr (fun _ => False) w W' := by
  obtain ⟨i0, hi, hz0, hz1, hz2⟩ := info_parts infoSpt
  refine (callsIn_wide (n := 0)).1 ?_
  refine callsIn_of_wp_marks Tryz.func65 rfl trivial ?_ rfl
  simp only [Tryz.ntmps65, List.size_toArray, List.length_cons, List.length_nil, Nat.reduceAdd, Nat.reduceSub, Array.replicate_succ, Array.replicate_zero, List.push_toArray, List.append_toArray, List.nil_append, List.cons_append]
  gi_wp2
  have f0 : Fr (fun _ => False) w (w.alloc (.cells #[.slice none 0 0] 45)) := Fr.box w _
  have hb0 := heap_alloc_new w (.cells #[.slice none 0 0] 45)
  refine over (gf := gf) (lb := lb) rfl eg hit (hw.trans f0 (fun _ _ f => f.elim)) (fun _ => rfl)
    (fun W k => k = w.heap.size ∨ ∃ v, W.cell? ⟨w.heap.size, 0, none⟩ = some v ∧ v.ownBlock = some k) (GthSpt w L) (fun _ _ _ => False) ?st (fun _ _ _ _ h _ => h) ?ol ?bk ?ap ?h0 ?round ?done (fun _ _ _ h => h.elim)
  case st =>
    rintro pre A B ⟨hp, f, v, hg⟩ fn
    simp only [World.size_alloc] at fn
    exact ⟨hp, f.trans fn (fun i hi e => by omega), v, hg.fr fn (by omega) (fun k hk e => by omega)⟩
  case ol =>
    rintro pre A k ⟨hp, f, v, hg⟩ (rfl | ⟨u, hu, ho⟩)
    · exact lt_of_block hg.blk
    · rw [(one_cells hg.blk).1] at hu
      cases hu
      exact hg.has.lt ho
  case bk =>
    rintro pre A B k ⟨hp, f, v, hg⟩ fn (rfl | ⟨u, hu, ho⟩)
    · exact .inl rfl
    · simp only [World.size_alloc] at fn
      have hg2 := hg.fr fn (by omega) (fun k hk e => by omega)
      rw [(one_cells hg2.blk).1] at hu
      cases hu
      exact .inr ⟨v, (one_cells hg.blk).1, ho⟩
  case ap =>
    rintro pre A k ⟨hp, f, v, hg⟩ (rfl | ⟨u, hu, ho⟩)
    · exact ⟨fun h => by have := hR _ h; omega, by simp, by simp; omega⟩
    · rw [(one_cells hg.blk).1] at hu
      cases hu
      have := hg.own k ho
      exact ⟨fun h => by have := hR _ h; omega, by simp; omega, by simp; omega⟩
  case h0 => exact ⟨List.nil_prefix, f0, .slice none 0 0, hb0, Has.nil _ _, (fun g e => by cases e), by omega⟩
  case round =>
    rintro pre x W ⟨hp, f, v, hg⟩ hm hz _
    simp only [World.size_alloc] at hz ⊢
    have hpx := hM _ _ _ hm
    clear hm
    gi_wp2
    refine ⟨Fr.box W _, fun W2 f2 => ?_⟩
    have hg2 := (hg.fr (Fr.box W (.cells #[.int .i64 x.page, .int .i64 x.nd.lev, .int .i64 x.nd.lsn, .int .i64 x.nd.rgt, .string x.nd.high, .slice x.pt.k x.nd.keys.length x.pt.kc, .slice x.pt.v x.nd.vals.length x.pt.vc, .slice x.pt.i x.nd.kids.length x.pt.ic, .string x.low] 73)) (fun f => f) (fun _ _ f => f)).fr f2 (by omega) (fun k hk e => by omega)
    have hbx := f2.blk (heap_alloc_new W (.cells #[.int .i64 x.page, .int .i64 x.nd.lev, .int .i64 x.nd.lsn, .int .i64 x.nd.rgt, .string x.nd.high, .slice x.pt.k x.nd.keys.length x.pt.kc, .slice x.pt.v x.nd.vals.length x.pt.vc, .slice x.pt.i x.nd.kids.length x.pt.ic, .string x.low] 73)) (by omega)
    have hsz2 := f2.size
    simp only [World.size_alloc] at hsz2
    have hfw : Fr (fun _ => False) w W2 := (f.seq' (Fr.box W _)).trans f2 (fun i hi e => by omega)
    have hlen : pre.length ≤ 100000000 := by have := hpx.length_le; simp at this; omega
    obtain ⟨c0, _⟩ := one_cells hg2.blk
    obtain ⟨e0, e1, e2, e3, e4, e5, e6, e7, e8⟩ := nine_cells hbx
    have hg3 := hg2.fr (Fr.box W2 (.cells #[.int .i64 x.page, .int .i64 x.nd.lev, .int .i64 x.nd.lsn, .int .i64 x.nd.rgt, .string x.nd.high, .slice x.pt.k x.nd.keys.length x.pt.kc, .slice x.pt.v x.nd.vals.length x.pt.vc, .slice x.pt.i x.nd.kids.length x.pt.ic, .string x.low] 73)) (fun f => f) (fun _ _ f => f)
    have HG3 : Hid (Gat (W2.alloc (.cells #[.int .i64 x.page, .int .i64 x.nd.lev, .int .i64 x.nd.lsn, .int .i64 x.nd.rgt, .string x.nd.high, .slice x.pt.k x.nd.keys.length x.pt.kc, .slice x.pt.v x.nd.vals.length x.pt.vc, .slice x.pt.i x.nd.kids.length x.pt.ic, .string x.low] 73)) w.heap.size (w.heap.size + 3) 45 9 v pre.length (pre.flatMap spC)) := hg3
    have HFR : Hid (From (W2.alloc (.cells #[.int .i64 x.page, .int .i64 x.nd.lev, .int .i64 x.nd.lsn, .int .i64 x.nd.rgt, .string x.nd.high, .slice x.pt.k x.nd.keys.length x.pt.kc, .slice x.pt.v x.nd.vals.length x.pt.vc, .slice x.pt.i x.nd.kids.length x.pt.ic, .string x.low] 73)) (some ⟨W2.heap.size, 0, none⟩) (spC x)) := .inr ⟨_, _, rfl, range_block (heap_alloc_new W2 (.cells #[.int .i64 x.page, .int .i64 x.nd.lev, .int .i64 x.nd.lsn, .int .i64 x.nd.rgt, .string x.nd.high, .slice x.pt.k x.nd.keys.length x.pt.kc, .slice x.pt.v x.nd.vals.length x.pt.vc, .slice x.pt.i x.nd.kids.length x.pt.ic, .string x.low] 73)) (xs := spC x) (o := 0) (fun j u hu => by rw [Nat.zero_add]; simpa [spC] using hu)⟩
    have HFW : Hid (Fr (fun _ => False) w W2) := hfw
    have HPX : Hid (pre ++ [x] <+: L) := hpx
    have HV : Hid (W2.cell? ⟨w.heap.size, 0, none⟩ = some v) := c0
    obtain ⟨av, cv, hvv, _, _⟩ := hg3.has.slice
    subst hvv
    obtain ⟨n, hn⟩ : ∃ n, n = pre.length := ⟨_, rfl⟩
    rw [← hn] at HG3 hlen HV c0
    have HNN : Hid (n = pre.length) := hn
    clear hn hg hg2 hg3 hp hbx hfw hpx f f2 hb0 f0
    gi_wp2_with (gi_at_builtin; refine Hid.out (?_ : Hid _))
    unfold Hid
    refine wpListIn_append_has _ rfl (.tmp 8) (.tmp 10) 45 45 73 73 rfl i0 _ 9 136 Tryz.underlying45 Tryz.underlying45 hi hz0 hz1 hz2 rfl (by omega) (.slice av n cv) n (pre.flatMap spC) rfl HG3.out.has (some ⟨W2.heap.size, 0, none⟩) 1 1 (spC x) rfl rfl HFR.out (spC_one _) (by unfold maxLen; omega) (by omega) ?_
    intro a4 c4 w8 ht4 f4 hat4
    obtain ⟨hb8, hg8, f8⟩ := HG3.out.next (by simp; omega) ht4 f4 hat4
    obtain ⟨d0, d1⟩ := one_cells hb8
    gi_wp2
    refine ⟨?_, ?_, HPX.out, ?_, .slice a4 (n + 1) c4, ?_⟩
    · refine ((Fr.box W2 (.cells #[.int .i64 x.page, .int .i64 x.nd.lev, .int .i64 x.nd.lsn, .int .i64 x.nd.rgt, .string x.nd.high, .slice x.pt.k x.nd.keys.length x.pt.kc, .slice x.pt.v x.nd.vals.length x.pt.vc, .slice x.pt.i x.nd.kids.length x.pt.ic, .string x.low] 73)).widen (fun _ f => f.elim)).trans f8 (fun i hi e => ?_)
      rcases e with e | e
      · exact .inl e
      · exact .inr ⟨_, HV.out, e⟩
    · rintro k (e | ⟨u, hu, ho⟩)
      · exact .inl (.inl e)
      · rw [(one_cells hg8.blk).1] at hu
        cases hu
        rcases hat4 with e | e
        · rw [e] at ho; exact .inl (.inr ⟨_, HV.out, ho⟩)
        · rw [e] at ho; simp at ho; exact .inr (by omega)
    · exact HFW.out.trans (((Fr.box W2 (.cells #[.int .i64 x.page, .int .i64 x.nd.lev, .int .i64 x.nd.lsn, .int .i64 x.nd.rgt, .string x.nd.high, .slice x.pt.k x.nd.keys.length x.pt.kc, .slice x.pt.v x.nd.vals.length x.pt.vc, .slice x.pt.i x.nd.kids.length x.pt.ic, .string x.low] 73)).widen (T := fun k => k = w.heap.size ∨ (Value.slice av n cv).ownBlock = some k) (fun _ f => f.elim)).trans f8 (fun i _ e => e)) (fun i hi e => by
        rcases e with e | e
        · omega
        · have := HG3.out.own _ e; omega)
    · rw [List.length_append, List.flatMap_append, ← HNN.out]
      simpa using hg8
  case done =>
    rintro xs W rfl ⟨hp, f, v, hg⟩ hK
    obtain ⟨c0, _⟩ := one_cells hg.blk
    have hKd := run_takeDeferred (P := Tryz.prog) hK
    gi_wp2
    refine ⟨by simp, .inl ⟨_, _, rfl, hKd, ?_⟩⟩
    have fd := Fr.put W (w.alloc (.cells #[.slice none 0 0] 45)).heap.size (.deferred none)
    exact ⟨_, results_tmp rfl _ _ _, v, rfl, hg.has.fr fd (fun k hk e => by have := hg.own k hk; simp at e; omega), (fun g e => by have := hg.own g e; omega), f.trans fd (fun i hi e => by simp at e; omega)⟩
end Go.Proofs.YtnckmajfmkkpgaaGreat

/- The rows of pages, level by level, as the iterator rows gives them. -/
namespace Go.Proofs.YtnckmajfmkkpgaaGreat
open Go.RowKit Go.Shelf
attribute [local go_sem] Oper.semAt_some

theorem row_call (a : Option Addr) (n c : Nat) (x : Int) (w : World) : Calls Tryz.prog 43 #[.slice a n c, .int .i64 x] w fun e w' => e = .returned (.func (.func 66) #[] #[.pointer (some ⟨w.heap.size + 1, 0, none⟩), .pointer (some ⟨w.heap.size, 0, none⟩)]) ∧ w' = (w.alloc (.cells #[.slice a n c] 47)).alloc (.cells #[.int .i64 x] 3) := by
  go_enter Tryz.func43, Tryz.ntmps43
  go_wp2
  go_ret
  exact ⟨rfl, rfl⟩
theorem rowS_len (ls : List Sl) (k : Nat) (x : Int) (low : ByteArray) : (rowS ls k x low).length ≤ k := by
  induction k generalizing x low with
  | zero => simp [rowS]
  | succ k ih =>
    cases hh : hasB ls x
    · rw [rowS_no _ _ hh]; simp
    · obtain ⟨s, hs, _⟩ := has_some hh
      rw [rowS_yes _ _ hh hs]
      have := ih s.nd.rgt s.nd.high
      simp
      omega
/-- What slices.Collect makes of a row. -/
theorem collect_row (a : Option Addr) (n c : Nat) (ls : List Sl) (hn : n = ls.length) (hf : ls.length ≤ 100000) (hr : Rise ls) (x : Int) (w : World) (h : Slots w a c ls) :
    Calls Tryz.prog 42 #[.func (.func 66) #[] #[.pointer (some ⟨w.heap.size + 1, 0, none⟩), .pointer (some ⟨w.heap.size, 0, none⟩)]] ((w.alloc (.cells #[.slice a n c] 47)).alloc (.cells #[.int .i64 x] 3)) fun e W' => ∃ v, e = .returned v ∧ Has W' 9 v (rowS ls n x ByteArray.empty).length ((rowS ls n x ByteArray.empty).flatMap spC) ∧ (∀ g, v.ownBlock = some g → w.heap.size ≤ g) ∧ Fr (fun _ => False) w W' := by
  have f0 : Fr (fun _ => False) w ((w.alloc (.cells #[.slice a n c] 47)).alloc (.cells #[.int .i64 x] 3)) := ((Fr.refl _ _).alloc _).alloc _
  have hb1 : ((w.alloc (.cells #[.slice a n c] 47)).alloc (.cells #[.int .i64 x] 3)).heap[w.heap.size]? = some (.cells #[.slice a n c] 47 (0, 0)) := (Fr.box (w.alloc (.cells #[.slice a n c] 47)) (.cells #[.int .i64 x] 3)).blk (heap_alloc_new w _) (fun f => f)
  have hb2 : ((w.alloc (.cells #[.slice a n c] 47)).alloc (.cells #[.int .i64 x] 3)).heap[w.heap.size + 1]? = some (.cells #[.int .i64 x] 3 (0, 0)) := by
    have := heap_alloc_new (w.alloc (.cells #[.slice a n c] 47)) (.cells #[.int .i64 x] 3)
    rwa [show (w.alloc (.cells #[.slice a n c] 47)).heap.size = w.heap.size + 1 by simp] at this
  have hsz : ((w.alloc (.cells #[.slice a n c] 47)).alloc (.cells #[.int .i64 x] 3)).heap.size = w.heap.size + 2 := by simp
  have hS := h.same f0
  generalize (w.alloc (.cells #[.slice a n c] 47)).alloc (.cells #[.int .i64 x] 3) = V at *
  have keep : ∀ {W : World}, Fr (fun k => ¬ (fun k => k < V.heap.size) k) V W → Fr (fun _ => False) V W := fun f => ⟨f.os, f.tape, f.output, f.size, fun k hk _ => f.block k hk (fun e => e hk)⟩
  have hit := row_iter a n c ls hn hf hr x (w.heap.size + 1) w.heap.size (fun k => k < V.heap.size) V (fun W f => hS.same (keep f)) (fun W f => (one_cells ((keep f).blk hb2 (fun f => f))).1) (fun W f => (one_cells ((keep f).blk hb1 (fun f => f))).1)
  have hap := appendSeqSpt 66 #[.pointer (some ⟨w.heap.size + 1, 0, none⟩), .pointer (some ⟨w.heap.size, 0, none⟩)] (enters_of Tryz.func66 (by kernel_rfl) rfl) (fun k => k < V.heap.size) _ (rowS ls n x ByteArray.empty) (by have := rowS_len ls n x ByteArray.empty; omega) V V (fun pre y W h => h) hit (Fr.refl _ _) (fun k h => h)
  clear hit hb1 hb2 hS
  obtain ⟨L, hL⟩ : ∃ L, L = rowS ls n x ByteArray.empty := ⟨_, rfl⟩
  rw [← hL] at hap ⊢
  clear hL hn hf hr h
  obtain ⟨m, hm⟩ : ∃ m, m = L.length := ⟨_, rfl⟩
  rw [← hm] at hap ⊢
  clear hm
  go_enter Tryz.func42, Tryz.ntmps42
  go_wp2_with fail
  refine hap.mono ?_
  rintro e w1 ⟨v, rfl, hh, ho, f1⟩
  obtain ⟨av, cv, rfl, _, _⟩ := hh.slice
  go_wp2
  go_ret
  exact ⟨_, rfl, hh, fun g e => by have := ho g e; omega, f0.seq' f1⟩
/-- A level and its row, and where the row lies. -/
structure Lvl where
  lev : Int
  row : List Spt
  a : Option Addr
  c : Nat
def lvK (x : Lvl) : Int × List Spt := (x.lev, x.row)
def nxt (f : Int → List (Int × List Spt)) : List Spt → List (Int × List Spt)
  | [] => []
  | s :: _ => match s.nd.kids with | [] => [] | y :: _ => f y
theorem nxt_leaf (f : Int → List (Int × List Spt)) {s : Spt} (r : List Spt) (h : s.nd.kids = []) : nxt f (s :: r) = [] := by simp [nxt, h]
theorem nxt_kid (f : Int → List (Int × List Spt)) {s : Spt} (r : List Spt) {y : Int} {ys : List Int} (h : s.nd.kids = y :: ys) : nxt f (s :: r) = f y := by simp [nxt, h]
/-- The rows from a level down, the first page of the first one being given. -/
def rowsF (ls : List Sl) : Nat → Int → List (Int × List Spt)
  | 0, _ => []
  | k + 1, x => ((k : Int), rowS ls ls.length x ByteArray.empty) :: nxt (rowsF ls k) (rowS ls ls.length x ByteArray.empty)
/-- What a round is handed: the row lies in new memory. -/
def LvM (L : List (Int × List Spt)) (lo : Nat) (pre : List Lvl) (x : Lvl) (W : World) : Prop := (pre ++ [x]).map lvK <+: L ∧ Has W 9 (.slice x.a x.row.length x.c) x.row.length (x.row.flatMap spC) ∧ ∀ g, (Value.slice x.a x.row.length x.c).ownBlock = some g → lo ≤ g
theorem has_first {W : World} {g n c : Nat} {s : Spt} {r : List Spt} (h : Has W 9 (.slice (some ⟨g, 0, none⟩) n c) n ((s :: r).flatMap spC)) : W.cell? ⟨g, 0, none⟩ = some (.int .i64 s.page) ∧ W.cell? ⟨g, 7, none⟩ = some (.slice s.pt.i s.nd.kids.length s.pt.ic) := by
  have h2 := h.elem (i := 0) spC_length (l := s :: r) rfl
  have h3 := sp_range h2
  simp only [Nat.zero_mul, Nat.zero_add] at h3
  exact ⟨h3.1, h3.2.2.2.2.2.2.2.1⟩
theorem rowS_mem {ls : List Sl} (k : Nat) (x : Int) (low : ByteArray) : ∀ s ∈ rowS ls k x low, ∃ t ∈ ls, s.nd = t.nd ∧ s.pt = t.pt ∧ s.page = t.page := by
  induction k generalizing x low with
  | zero => intro s hs; simp [rowS] at hs
  | succ k ih =>
    cases hh : hasB ls x
    · rw [rowS_no _ _ hh]; intro s hs; cases hs
    · obtain ⟨t, ht, htx⟩ := has_some hh
      rw [rowS_yes _ _ hh ht]
      intro s hs
      rcases List.mem_cons.1 hs with rfl | hs
      · exact ⟨t, List.mem_of_getElem? ht, rfl, rfl, htx.symm⟩
      · exact ih _ _ s hs
set_option maxRecDepth 100000 in
set_option maxHeartbeats 4000000 in
theorem rows_iter (a : Option Addr) (n c : Nat) (ls : List Sl) (hn : n = ls.length) (hf : ls.length ≤ 100000) (hr : Rise ls) (top : Nat) (htop : top ≤ 21) (Bl : Nat) (R : Nat → Prop) (w : World)
    (hz : (if hasB ls 1 = true then ((ls[ahead ls 1]?).map (fun s => s.nd.lev)).getD 0 else 0) = (top : Int) - 1)
    (hS : ∀ W, Fr (fun k => ¬ R k) w W → Slots W a c ls) (hcl : ∀ W, Fr (fun k => ¬ R k) w W → W.cell? ⟨Bl, 0, none⟩ = some (.slice a n c)) :
    Iter Tryz.prog 41 #[.pointer (some ⟨Bl, 0, none⟩)] (fun x : Lvl => #[.int .i64 x.lev, .slice x.a x.row.length x.c]) R (LvM (rowsF ls top 1) w.heap.size) (fun xs => xs.map lvK = rowsF ls top 1) w := by
  intro l T J Jx W hW hT hJx hY h0
  have hmx := (hS W hW).max
  have HN : Hid (n = ls.length) := hn
  have HS : Hid (∀ W, Fr (fun k => ¬ R k) w W → Slots W a c ls) := hS
  have HCL : Hid (∀ W, Fr (fun k => ¬ R k) w W → W.cell? ⟨Bl, 0, none⟩ = some (.slice a n c)) := hcl
  have HCO : Hid (∀ (x : Int) (W : World), Fr (fun k => ¬ R k) w W → Calls Tryz.prog 42 #[.func (.func 66) #[] #[.pointer (some ⟨W.heap.size + 1, 0, none⟩), .pointer (some ⟨W.heap.size, 0, none⟩)]] ((W.alloc (.cells #[.slice a n c] 47)).alloc (.cells #[.int .i64 x] 3)) fun e W' => ∃ v, e = .returned v ∧ Has W' 9 v (rowS ls n x ByteArray.empty).length ((rowS ls n x ByteArray.empty).flatMap spC) ∧ (∀ g, v.ownBlock = some g → W.heap.size ≤ g) ∧ Fr (fun _ => False) W W') := fun x W f => collect_row a n c ls hn hf hr x W (hS W f)
  have hfd := bfind_any a n c ls hn hf hr 1 W (hS W hW)
  have HT : Hid (Tend R T J) := hT
  have HY : Hid (∀ pre x W1, J pre W1 → LvM (rowsF ls top 1) w.heap.size pre x W1 → YieldAt Fence.wide 0 Tryz.prog l #[.int .i64 x.lev, .slice x.a x.row.length x.c] W1 fun e W' => (e = .returned (.bool true) ∧ J (pre ++ [x]) W' ∧ Fr (T W1) W1 W' ∧ ∀ k, T W' k → T W1 k ∨ W1.heap.size ≤ k) ∨ (e = .returned (.bool false) ∧ Jx (pre ++ [x]) W')) := hY
  have c2 := hcl W hW
  have hroot : ∃ (n0 : Nd) (p0 : Pt) (b0 : Bool), n0.lev = (top : Int) - 1 ∧ Calls Tryz.prog 15 #[.slice a n c, .int .i64 1] W fun e w' => e = .returned (.tuple #[(.agg #[.int .i64 n0.lev, .int .i64 n0.lsn, .int .i64 n0.rgt, .string n0.high, .slice p0.k n0.keys.length p0.kc, .slice p0.v n0.vals.length p0.vc, .slice p0.i n0.kids.length p0.ic]), .bool b0]) ∧ Fr (fun _ => False) W w' := by
    cases hh : hasB ls 1
    · rw [hh] at hz
      exact ⟨zn, zp, false, by rw [← hz]; rfl, bfind_no hfd hh⟩
    · obtain ⟨s, hs, _⟩ := has_some hh
      rw [hh, hs] at hz
      exact ⟨s.nd, s.pt, true, by rw [← hz]; rfl, bfind_yes hfd hh hs⟩
  obtain ⟨n0, p0, b0, hlev, hroot⟩ := hroot
  have HLV : Hid (n0.lev = (top : Int) - 1) := hlev
  have HJ0 : Hid (J [] W) := h0
  have HW : Hid (Fr (fun k => ¬ R k) w W) := hW
  clear hS hcl hT hJx hY h0 hn hr hf hW hfd hz hlev
  refine callsIn_of_wp Tryz.func41 rfl trivial ?_ rfl
  simp only [Tryz.ntmps41, List.size_toArray, List.length_cons, List.length_nil, Nat.reduceAdd, Nat.reduceSub, Array.replicate_succ, Array.replicate_zero, List.push_toArray, List.append_toArray, List.nil_append, List.cons_append]
  gi_wp2
  refine ⟨trivial, rfl, (callsIn_wide.2 hroot).mono ?_⟩
  rintro e w1 ⟨rfl, f1⟩
  rw [HLV.out]
  have f1a := f1.alloc (.cells #[.int .i64 n0.lev, .int .i64 n0.lsn, .int .i64 n0.rgt, .string n0.high, .slice p0.k n0.keys.length p0.kc, .slice p0.v n0.vals.length p0.vc, .slice p0.i n0.kids.length p0.ic] 28)
  have HJ1 : Hid (J [] (w1.alloc (.cells #[.int .i64 n0.lev, .int .i64 n0.lsn, .int .i64 n0.rgt, .string n0.high, .slice p0.k n0.keys.length p0.kc, .slice p0.v n0.vals.length p0.vc, .slice p0.i n0.kids.length p0.ic] 28))) := HT.out.steady _ _ _ HJ0.out f1a
  have F1 : Hid (Fr (fun k => ¬ R k) w (w1.alloc (.cells #[.int .i64 n0.lev, .int .i64 n0.lsn, .int .i64 n0.rgt, .string n0.high, .slice p0.k n0.keys.length p0.kc, .slice p0.v n0.vals.length p0.vc, .slice p0.i n0.kids.length p0.ic] 28))) := HW.out.trans f1a (fun _ _ f => f.elim)
  rw [HLV.out] at HJ1 F1
  clear hroot f1 f1a
  gi_wp2
  gi_loopw [6, 3] (fun lv fi wr => ∃ (k : Nat) (x : Int) (pre : List Lvl), k ≤ top ∧ lv = .int .i64 ((k : Int) - 1) ∧ fi = .int .i64 x ∧ Hid (pre.map lvK ++ rowsF ls k x = rowsF ls top 1) ∧ Hid (J pre wr) ∧ Hid (Fr (fun k => ¬ R k) w wr)) (fun lv _ _ => (intOf lv + 1).toNat)
  case atStart => exact ⟨top, 1, [], by omega, rfl, rfl, rfl, HJ1, F1⟩
  case round =>
    obtain ⟨k, x, pre, hk, rfl, rfl, HE, HJ, F⟩ := hrel
    cases k with
    | zero =>
      have HS0 : Hid (pre.map lvK = rowsF ls top 1) := by show _ = _; rw [← HE.out]; simp [rowsF]
      have e0 : ((0 : Nat) : Int) - 1 = -1 := by omega
      rw [e0]
      gi_wp2
      go_end0
      exact ⟨⟨_, rfl⟩, .inl ⟨pre, HS0.out, HJ.out⟩⟩
    | succ j =>
      have e0 : ((j + 1 : Nat) : Int) - 1 = (j : Int) := by omega
      rw [e0]
      have c2 := HCL.out _ F.out
      have hj0 : (0 : Int) ≤ (j : Int) := by omega
      have hco := HCO.out x wr F.out
      obtain ⟨r, hr⟩ : ∃ r, r = rowS ls n x ByteArray.empty := ⟨_, rfl⟩
      rw [← hr] at hco
      have HRX : Hid (rowsF ls (j + 1) x = ((j : Int), r) :: nxt (rowsF ls j) r) := by show _ = _; rw [hr, HN.out]; rfl
      have HMB : Hid (∀ s ∈ r, ∃ t ∈ ls, s.nd = t.nd ∧ s.pt = t.pt ∧ s.page = t.page) := by rw [hr]; exact rowS_mem _ _ _
      clear hr
      gi_wp2
      refine ⟨trivial, rfl, (callsIn_wide.2 (row_call a n c x _)).mono ?_⟩
      rintro e w' ⟨rfl, rfl⟩
      gi_wp2
      refine ⟨trivial, rfl, (callsIn_wide.2 hco).mono ?_⟩
      rintro e w2 ⟨v, rfl, hh, ho, f2⟩
      obtain ⟨av, cv, rfl, hcv, hcm⟩ := hh.slice
      have hJ2 := HT.out.steady _ _ _ HJ.out f2
      have hzw := F.out.size
      obtain ⟨fn, tmps, assign, body, hy, hR⟩ := HY.out pre (Lvl.mk (j : Int) r av cv) _ hJ2 ⟨by rw [List.map_append, ← HE.out, HRX.out]; exact ⟨nxt (rowsF ls j) r, by simp [lvK]⟩, hh, fun g e => by have := ho g e; omega⟩
      dsimp only at hy
      have HH : Hid (Has w2 9 (.slice av r.length cv) r.length (r.flatMap spC)) := hh
      have HO : Hid (∀ g, (Value.slice av r.length cv).ownBlock = some g → wr.heap.size ≤ g) := ho
      obtain ⟨m, hm⟩ : ∃ m, m = r.length := ⟨_, rfl⟩
      rw [← hm] at hy HH HO ⊢
      have HM : Hid (m = r.length) := hm
      have hmc : m ≤ cv ∧ cv ≤ 9223372036854775807 := by rw [hm]; unfold maxLen at hcm; exact ⟨hcv, hcm⟩
      clear hco hh ho hm hcv hcm
      gi_wp2
      refine ⟨rfl, hR.mono ?_⟩
      rintro e W3 (⟨rfl, hJ3, hk3, _⟩ | ⟨rfl, hJx3⟩)
      · obtain ⟨FW3, _⟩ := HT.out.on HJ.out f2 hk3 F.out
        have hH3 := HH.out.fr hk3 (fun g hg e => by have := HO.out g hg; have := HT.out.old _ _ _ HJ.out (HT.out.back _ _ _ _ HJ.out f2 e); omega)
        have hS3 := HS.out _ FW3
        have HE3 : Hid ((pre ++ [(Lvl.mk (j : Int) r av cv)]).map lvK ++ nxt (rowsF ls j) r = rowsF ls top 1) := by show _ = _; rw [← HE.out, HRX.out]; simp [lvK]
        have HJ3 : Hid (J (pre ++ [(Lvl.mk (j : Int) r av cv)]) W3) := hJ3
        have FW : Hid (Fr (fun k => ¬ R k) w W3) := FW3
        clear hk3 hR hy hJ2 f2 hJ3 FW3
        cases r with
        | nil =>
          obtain rfl : m = 0 := HM.out
          have HS0 : Hid ((pre ++ [(Lvl.mk (j : Int) [] av cv)]).map lvK = rowsF ls top 1) := by show _ = _; rw [← HE3.out]; simp [nxt]
          clear hH3 hS3 HE HE3 HRX HMB
          gi_wp2
          refine bodyPost_ret (results_none rfl _ _ _) rfl ?_
          exact ⟨⟨_, rfl⟩, .inl ⟨_, HS0.out, HJ3.out⟩⟩
        | cons s r =>
          obtain ⟨g, c3, e3, hg3, _⟩ := hH3.form (by rw [HM.out]; simp)
          simp only [Value.slice.injEq, true_and] at e3
          obtain ⟨rfl, rfl⟩ := e3
          obtain ⟨k0, k7⟩ := has_first hH3
          obtain ⟨t, ht, hnd, hpt, _⟩ := HMB.out s (by simp)
          have hki := (hS3.nod t ht).kids
          rw [← hnd, ← hpt] at hki
          have hmp : (0 : Int) < (m : Int) := by have := HM.out; simp at this; omega
          have hm0 : ((m : Int) == 0) = false := by simp; omega
          have hil := hki.le
          have him := hki.max
          cases hkd : s.nd.kids with
          | nil =>
            have HS0 : Hid ((pre ++ [(Lvl.mk (j : Int) (s :: r) (some ⟨g, 0, none⟩) cv)]).map lvK = rowsF ls top 1) := by show _ = _; rw [← HE3.out, nxt_leaf _ _ hkd]; simp
            rw [hkd] at k7
            clear hH3 hS3 HE HE3 HRX HMB hki hkd hnd hpt ht
            gi_wp2
            refine bodyPost_ret (results_none rfl _ _ _) rfl ?_
            exact ⟨⟨_, rfl⟩, .inl ⟨_, HS0.out, HJ3.out⟩⟩
          | cons y ys =>
            rw [hkd] at hki
            obtain ⟨bk, ok, hpk, hbk, hck⟩ := ints_some hki (k := 0) (by simp)
            have q0 := hck 0 (by simp)
            have HE4 : Hid ((pre ++ [(Lvl.mk (j : Int) (s :: r) (some ⟨g, 0, none⟩) cv)]).map lvK ++ rowsF ls j y = rowsF ls top 1) := by show _ = _; rw [← HE3.out, nxt_kid _ _ hkd]
            rw [hkd, hpk] at k7
            rw [hkd] at hil
            simp only [List.length_cons] at k7 hil
            simp only [List.getD_cons_zero, Nat.add_zero] at q0
            obtain ⟨z, hz⟩ : ∃ z, z = ys.length := ⟨_, rfl⟩
            rw [← hz] at k7 hil
            have hz0 : (((z : Int) + 1) == 0) = false := by simp; omega
            clear hH3 hS3 HE HE3 HRX HMB hki hkd hnd hpt ht hck hpk hz
            gi_wp2
            go_roundw
            case rel => exact ⟨j, y, _, by omega, by go_num, rfl, HE4, HJ3, FW⟩
            case measure => simp [intOf]
      · gi_wp2
        refine bodyPost_ret (results_none rfl _ _ _) rfl ?_
        exact ⟨⟨_, rfl⟩, .inr ⟨_, hJx3⟩⟩
end Go.Proofs.YtnckmajfmkkpgaaGreat
