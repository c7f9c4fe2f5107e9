
/- The rows of pages, level by level, as the iterator rows gives them. -/
import Derived.Test.YtlnkbjjohdmihaaGreatBkRow
import Derived.Test.YtlnkbjjohdmihaaGreatBkSeq
namespace Go.Proofs.YtlnkbjjohdmihaaGreat
open Go.RowKit Go.Shelf
attribute [local go_sem] Oper.semAt_some

theorem row_call (a : Option Addr) (n c : Nat) (x : Int) (w : World) : Calls Tryz.prog 66 #[.slice a n c, .int .i64 x] w fun e w' => e = .returned (.func (.func 88) #[] #[.pointer (some ⟨w.heap.size + 1, 0, none⟩), .pointer (some ⟨w.heap.size, 0, none⟩)]) ∧ w' = (w.alloc (.cells #[.slice a n c] 63)).alloc (.cells #[.int .i64 x] 3) := by
  go_enter Tryz.func66, Tryz.ntmps66
  go_wp2
  go_ret
  exact ⟨rfl, rfl⟩
theorem rowS_len (ls : List Sl) (k : Nat) (x : Int) (low : ByteArray) : (rowS ls k x low).length ≤ k := by
  induction k generalizing x low with
  | zero => simp [rowS]
  | succ k ih =>
    cases hh : hasB ls x
    · rw [rowS_no _ _ hh]; simp
    · obtain ⟨s, hs, _⟩ := has_some hh
      rw [rowS_yes _ _ hh hs]
      have := ih s.nd.rgt s.nd.high
      simp
      omega
/-- What slices.Collect makes of a row. -/
theorem collect_row (a : Option Addr) (n c : Nat) (ls : List Sl) (hn : n = ls.length) (hf : ls.length ≤ 100000) (hr : Rise ls) (x : Int) (w : World) (h : Slots w a c ls) :
    Calls Tryz.prog 65 #[.func (.func 88) #[] #[.pointer (some ⟨w.heap.size + 1, 0, none⟩), .pointer (some ⟨w.heap.size, 0, none⟩)]] ((w.alloc (.cells #[.slice a n c] 63)).alloc (.cells #[.int .i64 x] 3)) fun e W' => ∃ v, e = .returned v ∧ Has W' 9 v (rowS ls n x ByteArray.empty).length ((rowS ls n x ByteArray.empty).flatMap spC) ∧ (∀ g, v.ownBlock = some g → w.heap.size ≤ g) ∧ Fr (fun _ => False) w W' := by
  have f0 : Fr (fun _ => False) w ((w.alloc (.cells #[.slice a n c] 63)).alloc (.cells #[.int .i64 x] 3)) := ((Fr.refl _ _).alloc _).alloc _
  have hb1 : ((w.alloc (.cells #[.slice a n c] 63)).alloc (.cells #[.int .i64 x] 3)).heap[w.heap.size]? = some (.cells #[.slice a n c] 63 (0, 0)) := (Fr.box (w.alloc (.cells #[.slice a n c] 63)) (.cells #[.int .i64 x] 3)).blk (heap_alloc_new w _) (fun f => f)
  have hb2 : ((w.alloc (.cells #[.slice a n c] 63)).alloc (.cells #[.int .i64 x] 3)).heap[w.heap.size + 1]? = some (.cells #[.int .i64 x] 3 (0, 0)) := by
    have := heap_alloc_new (w.alloc (.cells #[.slice a n c] 63)) (.cells #[.int .i64 x] 3)
    rwa [show (w.alloc (.cells #[.slice a n c] 63)).heap.size = w.heap.size + 1 by simp] at this
  have hsz : ((w.alloc (.cells #[.slice a n c] 63)).alloc (.cells #[.int .i64 x] 3)).heap.size = w.heap.size + 2 := by simp
  have hS := h.same f0
  generalize (w.alloc (.cells #[.slice a n c] 63)).alloc (.cells #[.int .i64 x] 3) = V at *
  have keep : ∀ {W : World}, Fr (fun k => ¬ (fun k => k < V.heap.size) k) V W → Fr (fun _ => False) V W := fun f => ⟨f.os, f.tape, f.output, f.size, fun k hk _ => f.block k hk (fun e => e hk)⟩
  have hit := row_iter a n c ls hn hf hr x (w.heap.size + 1) w.heap.size (fun k => k < V.heap.size) V (fun W f => hS.same (keep f)) (fun W f => (one_cells ((keep f).blk hb2 (fun f => f))).1) (fun W f => (one_cells ((keep f).blk hb1 (fun f => f))).1)
  have hap := appendSeqSpt 88 #[.pointer (some ⟨w.heap.size + 1, 0, none⟩), .pointer (some ⟨w.heap.size, 0, none⟩)] (enters_of Tryz.func88 (by kernel_rfl) rfl) (fun k => k < V.heap.size) _ (rowS ls n x ByteArray.empty) (by have := rowS_len ls n x ByteArray.empty; omega) V V (fun pre y W h => h) hit (Fr.refl _ _) (fun k h => h)
  clear hit hb1 hb2 hS
  obtain ⟨L, hL⟩ : ∃ L, L = rowS ls n x ByteArray.empty := ⟨_, rfl⟩
  rw [← hL] at hap ⊢
  clear hL hn hf hr h
  obtain ⟨m, hm⟩ : ∃ m, m = L.length := ⟨_, rfl⟩
  rw [← hm] at hap ⊢
  clear hm
  go_enter Tryz.func65, Tryz.ntmps65
  go_wp2_with fail
  refine hap.mono ?_
  rintro e w1 ⟨v, rfl, hh, ho, f1⟩
  obtain ⟨av, cv, rfl, _, _⟩ := hh.slice
  go_wp2
  go_ret
  exact ⟨_, rfl, hh, fun g e => by have := ho g e; omega, f0.seq' f1⟩
/-- A level and its row, and where the row lies. -/
structure Lvl where
  lev : Int
  row : List Spt
  a : Option Addr
  c : Nat
def lvK (x : Lvl) : Int × List Spt := (x.lev, x.row)
def nxt (f : Int → List (Int × List Spt)) : List Spt → List (Int × List Spt)
  | [] => []
  | s :: _ => match s.nd.kids with | [] => [] | y :: _ => f y
theorem nxt_leaf (f : Int → List (Int × List Spt)) {s : Spt} (r : List Spt) (h : s.nd.kids = []) : nxt f (s :: r) = [] := by simp [nxt, h]
theorem nxt_kid (f : Int → List (Int × List Spt)) {s : Spt} (r : List Spt) {y : Int} {ys : List Int} (h : s.nd.kids = y :: ys) : nxt f (s :: r) = f y := by simp [nxt, h]
/-- The rows from a level down, the first page of the first one being given. -/
def rowsF (ls : List Sl) : Nat → Int → List (Int × List Spt)
  | 0, _ => []
  | k + 1, x => ((k : Int), rowS ls ls.length x ByteArray.empty) :: nxt (rowsF ls k) (rowS ls ls.length x ByteArray.empty)
/-- What a round is handed: the row lies in new memory. -/
def LvM (L : List (Int × List Spt)) (lo : Nat) (pre : List Lvl) (x : Lvl) (W : World) : Prop := (pre ++ [x]).map lvK <+: L ∧ Has W 9 (.slice x.a x.row.length x.c) x.row.length (x.row.flatMap spC) ∧ ∀ g, (Value.slice x.a x.row.length x.c).ownBlock = some g → lo ≤ g
theorem has_first {W : World} {g n c : Nat} {s : Spt} {r : List Spt} (h : Has W 9 (.slice (some ⟨g, 0, none⟩) n c) n ((s :: r).flatMap spC)) : W.cell? ⟨g, 0, none⟩ = some (.int .i64 s.page) ∧ W.cell? ⟨g, 7, none⟩ = some (.slice s.pt.i s.nd.kids.length s.pt.ic) := by
  have h2 := h.elem (i := 0) spC_length (l := s :: r) rfl
  have h3 := sp_range h2
  simp only [Nat.zero_mul, Nat.zero_add] at h3
  exact ⟨h3.1, h3.2.2.2.2.2.2.2.1⟩
theorem rowS_mem {ls : List Sl} (k : Nat) (x : Int) (low : ByteArray) : ∀ s ∈ rowS ls k x low, ∃ t ∈ ls, s.nd = t.nd ∧ s.pt = t.pt ∧ s.page = t.page := by
  induction k generalizing x low with
  | zero => intro s hs; simp [rowS] at hs
  | succ k ih =>
    cases hh : hasB ls x
    · rw [rowS_no _ _ hh]; intro s hs; cases hs
    · obtain ⟨t, ht, htx⟩ := has_some hh
      rw [rowS_yes _ _ hh ht]
      intro s hs
      rcases List.mem_cons.1 hs with rfl | hs
      · exact ⟨t, List.mem_of_getElem? ht, rfl, rfl, htx.symm⟩
      · exact ih _ _ s hs
set_option maxRecDepth 100000 in
set_option maxHeartbeats 4000000 in
theorem rows_iter (a : Option Addr) (n c : Nat) (ls : List Sl) (hn : n = ls.length) (hf : ls.length ≤ 100000) (hr : Rise ls) (top : Nat) (htop : top ≤ 21) (Bl : Nat) (R : Nat → Prop) (w : World)
    (hz : (if hasB ls 1 = true then ((ls[ahead ls 1]?).map (fun s => s.nd.lev)).getD 0 else 0) = (top : Int) - 1)
    (hS : ∀ W, Fr (fun k => ¬ R k) w W → Slots W a c ls) (hcl : ∀ W, Fr (fun k => ¬ R k) w W → W.cell? ⟨Bl, 0, none⟩ = some (.slice a n c)) :
    Iter Tryz.prog 64 #[.pointer (some ⟨Bl, 0, none⟩)] (fun x : Lvl => #[.int .i64 x.lev, .slice x.a x.row.length x.c]) R (LvM (rowsF ls top 1) w.heap.size) (fun xs => xs.map lvK = rowsF ls top 1) w := by
  intro l T J Jx W hW hT hJx hY h0
  have hmx := (hS W hW).max
  have HN : Hid (n = ls.length) := hn
  have HS : Hid (∀ W, Fr (fun k => ¬ R k) w W → Slots W a c ls) := hS
  have HCL : Hid (∀ W, Fr (fun k => ¬ R k) w W → W.cell? ⟨Bl, 0, none⟩ = some (.slice a n c)) := hcl
  have HCO : Hid (∀ (x : Int) (W : World), Fr (fun k => ¬ R k) w W → Calls Tryz.prog 65 #[.func (.func 88) #[] #[.pointer (some ⟨W.heap.size + 1, 0, none⟩), .pointer (some ⟨W.heap.size, 0, none⟩)]] ((W.alloc (.cells #[.slice a n c] 63)).alloc (.cells #[.int .i64 x] 3)) fun e W' => ∃ v, e = .returned v ∧ Has W' 9 v (rowS ls n x ByteArray.empty).length ((rowS ls n x ByteArray.empty).flatMap spC) ∧ (∀ g, v.ownBlock = some g → W.heap.size ≤ g) ∧ Fr (fun _ => False) W W') := fun x W f => collect_row a n c ls hn hf hr x W (hS W f)
  have hfd := bfind_any a n c ls hn hf hr 1 W (hS W hW)
  have HT : Hid (Tend R T J) := hT
  have HY : Hid (∀ pre x W1, J pre W1 → LvM (rowsF ls top 1) w.heap.size pre x W1 → YieldAt Fence.wide 0 Tryz.prog l #[.int .i64 x.lev, .slice x.a x.row.length x.c] W1 fun e W' => (e = .returned (.bool true) ∧ J (pre ++ [x]) W' ∧ Fr (T W1) W1 W' ∧ ∀ k, T W' k → T W1 k ∨ W1.heap.size ≤ k) ∨ (e = .returned (.bool false) ∧ Jx (pre ++ [x]) W')) := hY
  have c2 := hcl W hW
  have hroot : ∃ (n0 : Nd) (p0 : Pt) (b0 : Bool), n0.lev = (top : Int) - 1 ∧ Calls Tryz.prog 35 #[.slice a n c, .int .i64 1] W fun e w' => e = .returned (.tuple #[(.agg #[.int .i64 n0.lev, .int .i64 n0.lsn, .int .i64 n0.rgt, .string n0.high, .slice p0.k n0.keys.length p0.kc, .slice p0.v n0.vals.length p0.vc, .slice p0.i n0.kids.length p0.ic]), .bool b0]) ∧ Fr (fun _ => False) W w' := by
    cases hh : hasB ls 1
    · rw [hh] at hz
      exact ⟨zn, zp, false, by rw [← hz]; rfl, bfind_no hfd hh⟩
    · obtain ⟨s, hs, _⟩ := has_some hh
      rw [hh, hs] at hz
      exact ⟨s.nd, s.pt, true, by rw [← hz]; rfl, bfind_yes hfd hh hs⟩
  obtain ⟨n0, p0, b0, hlev, hroot⟩ := hroot
  have HLV : Hid (n0.lev = (top : Int) - 1) := hlev
  have HJ0 : Hid (J [] W) := h0
  have HW : Hid (Fr (fun k => ¬ R k) w W) := hW
  clear hS hcl hT hJx hY h0 hn hr hf hW hfd hz hlev
  refine callsIn_of_wp Tryz.func64 rfl trivial ?_ rfl
  simp only [Tryz.ntmps64, List.size_toArray, List.length_cons, List.length_nil, Nat.reduceAdd, Nat.reduceSub, Array.replicate_succ, Array.replicate_zero, List.push_toArray, List.append_toArray, List.nil_append, List.cons_append]
  gi_wp2
  refine ⟨trivial, rfl, (callsIn_wide.2 hroot).mono ?_⟩
  rintro e w1 ⟨rfl, f1⟩
  rw [HLV.out]
  have f1a := f1.alloc (.cells #[.int .i64 n0.lev, .int .i64 n0.lsn, .int .i64 n0.rgt, .string n0.high, .slice p0.k n0.keys.length p0.kc, .slice p0.v n0.vals.length p0.vc, .slice p0.i n0.kids.length p0.ic] 55)
  have HJ1 : Hid (J [] (w1.alloc (.cells #[.int .i64 n0.lev, .int .i64 n0.lsn, .int .i64 n0.rgt, .string n0.high, .slice p0.k n0.keys.length p0.kc, .slice p0.v n0.vals.length p0.vc, .slice p0.i n0.kids.length p0.ic] 55))) := HT.out.steady _ _ _ HJ0.out f1a
  have F1 : Hid (Fr (fun k => ¬ R k) w (w1.alloc (.cells #[.int .i64 n0.lev, .int .i64 n0.lsn, .int .i64 n0.rgt, .string n0.high, .slice p0.k n0.keys.length p0.kc, .slice p0.v n0.vals.length p0.vc, .slice p0.i n0.kids.length p0.ic] 55))) := HW.out.trans f1a (fun _ _ f => f.elim)
  rw [HLV.out] at HJ1 F1
  clear hroot f1 f1a
  gi_wp2
  gi_loopw [6, 3] (fun lv fi wr => ∃ (k : Nat) (x : Int) (pre : List Lvl), k ≤ top ∧ lv = .int .i64 ((k : Int) - 1) ∧ fi = .int .i64 x ∧ Hid (pre.map lvK ++ rowsF ls k x = rowsF ls top 1) ∧ Hid (J pre wr) ∧ Hid (Fr (fun k => ¬ R k) w wr)) (fun lv _ _ => (intOf lv + 1).toNat)
  case atStart => exact ⟨top, 1, [], by omega, rfl, rfl, rfl, HJ1, F1⟩
  case round =>
    obtain ⟨k, x, pre, hk, rfl, rfl, HE, HJ, F⟩ := hrel
    cases k with
    | zero =>
      have HS0 : Hid (pre.map lvK = rowsF ls top 1) := by show _ = _; rw [← HE.out]; simp [rowsF]
      have e0 : ((0 : Nat) : Int) - 1 = -1 := by omega
      rw [e0]
      gi_wp2
      go_end0
      exact ⟨⟨_, rfl⟩, .inl ⟨pre, HS0.out, HJ.out⟩⟩
    | succ j =>
      have e0 : ((j + 1 : Nat) : Int) - 1 = (j : Int) := by omega
      rw [e0]
      have c2 := HCL.out _ F.out
      have hj0 : (0 : Int) ≤ (j : Int) := by omega
      have hco := HCO.out x wr F.out
      obtain ⟨r, hr⟩ : ∃ r, r = rowS ls n x ByteArray.empty := ⟨_, rfl⟩
      rw [← hr] at hco
      have HRX : Hid (rowsF ls (j + 1) x = ((j : Int), r) :: nxt (rowsF ls j) r) := by show _ = _; rw [hr, HN.out]; rfl
      have HMB : Hid (∀ s ∈ r, ∃ t ∈ ls, s.nd = t.nd ∧ s.pt = t.pt ∧ s.page = t.page) := by rw [hr]; exact rowS_mem _ _ _
      clear hr
      gi_wp2
      refine ⟨trivial, rfl, (callsIn_wide.2 (row_call a n c x _)).mono ?_⟩
      rintro e w' ⟨rfl, rfl⟩
      gi_wp2
      refine ⟨trivial, rfl, (callsIn_wide.2 hco).mono ?_⟩
      rintro e w2 ⟨v, rfl, hh, ho, f2⟩
      obtain ⟨av, cv, rfl, hcv, hcm⟩ := hh.slice
      have hJ2 := HT.out.steady _ _ _ HJ.out f2
      have hzw := F.out.size
      obtain ⟨fn, tmps, assign, body, hy, hR⟩ := HY.out pre (Lvl.mk (j : Int) r av cv) _ hJ2 ⟨by rw [List.map_append, ← HE.out, HRX.out]; exact ⟨nxt (rowsF ls j) r, by simp [lvK]⟩, hh, fun g e => by have := ho g e; omega⟩
      dsimp only at hy
      have HH : Hid (Has w2 9 (.slice av r.length cv) r.length (r.flatMap spC)) := hh
      have HO : Hid (∀ g, (Value.slice av r.length cv).ownBlock = some g → wr.heap.size ≤ g) := ho
      obtain ⟨m, hm⟩ : ∃ m, m = r.length := ⟨_, rfl⟩
      rw [← hm] at hy HH HO ⊢
      have HM : Hid (m = r.length) := hm
      have hmc : m ≤ cv ∧ cv ≤ 9223372036854775807 := by rw [hm]; unfold maxLen at hcm; exact ⟨hcv, hcm⟩
      clear hco hh ho hm hcv hcm
      gi_wp2
      refine ⟨rfl, hR.mono ?_⟩
      rintro e W3 (⟨rfl, hJ3, hk3, _⟩ | ⟨rfl, hJx3⟩)
      · obtain ⟨FW3, _⟩ := HT.out.on HJ.out f2 hk3 F.out
        have hH3 := HH.out.fr hk3 (fun g hg e => by have := HO.out g hg; have := HT.out.old _ _ _ HJ.out (HT.out.back _ _ _ _ HJ.out f2 e); omega)
        have hS3 := HS.out _ FW3
        have HE3 : Hid ((pre ++ [(Lvl.mk (j : Int) r av cv)]).map lvK ++ nxt (rowsF ls j) r = rowsF ls top 1) := by show _ = _; rw [← HE.out, HRX.out]; simp [lvK]
        have HJ3 : Hid (J (pre ++ [(Lvl.mk (j : Int) r av cv)]) W3) := hJ3
        have FW : Hid (Fr (fun k => ¬ R k) w W3) := FW3
        clear hk3 hR hy hJ2 f2 hJ3 FW3
        cases r with
        | nil =>
          obtain rfl : m = 0 := HM.out
          have HS0 : Hid ((pre ++ [(Lvl.mk (j : Int) [] av cv)]).map lvK = rowsF ls top 1) := by show _ = _; rw [← HE3.out]; simp [nxt]
          clear hH3 hS3 HE HE3 HRX HMB
          gi_wp2
          refine bodyPost_ret (results_none rfl _ _ _) rfl ?_
          exact ⟨⟨_, rfl⟩, .inl ⟨_, HS0.out, HJ3.out⟩⟩
        | cons s r =>
          obtain ⟨g, c3, e3, hg3, _⟩ := hH3.form (by rw [HM.out]; simp)
          simp only [Value.slice.injEq, true_and] at e3
          obtain ⟨rfl, rfl⟩ := e3
          obtain ⟨k0, k7⟩ := has_first hH3
          obtain ⟨t, ht, hnd, hpt, _⟩ := HMB.out s (by simp)
          have hki := (hS3.nod t ht).kids
          rw [← hnd, ← hpt] at hki
          have hmp : (0 : Int) < (m : Int) := by have := HM.out; simp at this; omega
          have hm0 : ((m : Int) == 0) = false := by simp; omega
          have hil := hki.le
          have him := hki.max
          cases hkd : s.nd.kids with
          | nil =>
            have HS0 : Hid ((pre ++ [(Lvl.mk (j : Int) (s :: r) (some ⟨g, 0, none⟩) cv)]).map lvK = rowsF ls top 1) := by show _ = _; rw [← HE3.out, nxt_leaf _ _ hkd]; simp
            rw [hkd] at k7
            clear hH3 hS3 HE HE3 HRX HMB hki hkd hnd hpt ht
            gi_wp2
            refine bodyPost_ret (results_none rfl _ _ _) rfl ?_
            exact ⟨⟨_, rfl⟩, .inl ⟨_, HS0.out, HJ3.out⟩⟩
          | cons y ys =>
            rw [hkd] at hki
            obtain ⟨bk, ok, hpk, hbk, hck⟩ := ints_some hki (k := 0) (by simp)
            have q0 := hck 0 (by simp)
            have HE4 : Hid ((pre ++ [(Lvl.mk (j : Int) (s :: r) (some ⟨g, 0, none⟩) cv)]).map lvK ++ rowsF ls j y = rowsF ls top 1) := by show _ = _; rw [← HE3.out, nxt_kid _ _ hkd]
            rw [hkd, hpk] at k7
            rw [hkd] at hil
            simp only [List.length_cons] at k7 hil
            simp only [List.getD_cons_zero, Nat.add_zero] at q0
            obtain ⟨z, hz⟩ : ∃ z, z = ys.length := ⟨_, rfl⟩
            rw [← hz] at k7 hil
            have hz0 : (((z : Int) + 1) == 0) = false := by simp; omega
            clear hH3 hS3 HE HE3 HRX HMB hki hkd hnd hpt ht hck hpk hz
            gi_wp2
            go_roundw
            case rel => exact ⟨j, y, _, by omega, by go_num, rfl, HE4, HJ3, FW⟩
            case measure => simp [intOf]
      · gi_wp2
        refine bodyPost_ret (results_none rfl _ _ _) rfl ?_
        exact ⟨⟨_, rfl⟩, .inr ⟨_, hJx3⟩⟩
end Go.Proofs.YtlnkbjjohdmihaaGreat
