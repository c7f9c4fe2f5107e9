
/- The pages of a row, as the iterator row gives them. -/
import Derived.Test.YtlnkbjjohdmihaaGreatBkFind
import Derived.Test.YtlnkbjjohdmihaaGreatBkSpot
import Derived.Shelf.Abstract
import Derived.Shelf.RegionOpen
import Derived.WalkKit
import Derived.OwnWalkIn
import Derived.TacticsInMore
import Derived.LoopNIn
import Derived.LoopIn
namespace Go.Proofs.YtlnkbjjohdmihaaGreat
open Go.RowKit Go.Shelf
attribute [local go_sem] Oper.semAt_some

/-- The pages of a row, from a page on. -/
def rowS (ls : List Sl) : Nat → Int → ByteArray → List Spt
  | 0, _, _ => []
  | k + 1, x, low => if hasB ls x = true then (match ls[ahead ls x]? with | none => [] | some s => ⟨x, s.nd, s.pt, low⟩ :: rowS ls k s.nd.rgt s.nd.high) else []
theorem rowS_no {ls : List Sl} {x : Int} (k : Nat) (low : ByteArray) (h : hasB ls x = false) : rowS ls k x low = [] := by
  cases k with
  | zero => rfl
  | succ k => simp [rowS, h]
theorem rowS_yes {ls : List Sl} {x : Int} {s : Sl} (k : Nat) (low : ByteArray) (h : hasB ls x = true) (hs : ls[ahead ls x]? = some s) : rowS ls (k + 1) x low = ⟨x, s.nd, s.pt, low⟩ :: rowS ls k s.nd.rgt s.nd.high := by
  simp [rowS, h, hs]
theorem bfind_yes {a : Option Addr} {len cap : Nat} {ls : List Sl} {x : Int} {w : World} {s : Sl} (h : Calls Tryz.prog 35 #[.slice a len cap, .int .i64 x] w fun e w' => BfOut ls x w e w') (hb : hasB ls x = true) (hs : ls[ahead ls x]? = some s) :
    Calls Tryz.prog 35 #[.slice a len cap, .int .i64 x] w fun e w' => e = .returned (.tuple #[(.agg #[.int .i64 s.nd.lev, .int .i64 s.nd.lsn, .int .i64 s.nd.rgt, .string s.nd.high, .slice s.pt.k s.nd.keys.length s.pt.kc, .slice s.pt.v s.nd.vals.length s.pt.vc, .slice s.pt.i s.nd.kids.length s.pt.ic]), .bool true]) ∧ Fr (fun _ => False) w w' := h.mono fun e w' ⟨f, ho⟩ => by
  rcases ho with ⟨t, _, ht, _, _, rfl⟩ | ⟨hn, _⟩
  · rw [hs] at ht; cases ht; exact ⟨rfl, f⟩
  · rw [hb] at hn; cases hn
theorem bfind_no {a : Option Addr} {len cap : Nat} {ls : List Sl} {x : Int} {w : World} (h : Calls Tryz.prog 35 #[.slice a len cap, .int .i64 x] w fun e w' => BfOut ls x w e w') (hb : hasB ls x = false) :
    Calls Tryz.prog 35 #[.slice a len cap, .int .i64 x] w fun e w' => e = .returned (.tuple #[.agg #[.int .i64 0, .int .i64 0, .int .i64 0, .string ⟨#[]⟩, .slice none 0 0, .slice none 0 0, .slice none 0 0], .bool false]) ∧ Fr (fun _ => False) w w' := h.mono fun e w' ⟨f, ho⟩ => by
  rcases ho with ⟨t, _, _, hn, _, _⟩ | ⟨_, rfl⟩
  · rw [hb] at hn; cases hn
  · exact ⟨rfl, f⟩
theorem has_some {ls : List Sl} {x : Int} (h : hasB ls x = true) : ∃ s, ls[ahead ls x]? = some s ∧ s.page = x := by
  unfold hasB at h
  split at h
  · cases h
  · rename_i s hs; exact ⟨s, hs, by simpa using h⟩
/-- What a round leaves of what an iterator holds. -/
theorem Tend.on {α : Type} {R : Nat → Prop} {T : World → Nat → Prop} {J : List α → World → Prop} (h : Tend R T J) {pre : List α} {w A B C : World} (hA : J pre A) (f : Fr (fun _ => False) A B) (g : Fr (T B) B C) (hw : Fr (fun k => ¬ R k) w A) : Fr (fun k => ¬ R k) w C ∧ ∀ k, A.heap.size ≤ k → k < B.heap.size → C.heap[k]? = B.heap[k]? :=
  ⟨(hw.trans f (fun _ _ f => f.elim)).trans g (fun i _ e => h.apart pre A i hA (h.back pre A B i hA f e)), fun k hk hk2 => g.block k hk2 (fun e => by have := h.old pre A k hA (h.back pre A B k hA f e); omega)⟩
set_option maxRecDepth 100000 in
set_option maxHeartbeats 4000000 in
theorem row_iter (a : Option Addr) (n c : Nat) (ls : List Sl) (hn : n = ls.length) (hf : ls.length ≤ 100000) (hr : Rise ls) (first : Int) (Bf Bl : Nat) (R : Nat → Prop) (w : World)
    (hS : ∀ W, Fr (fun k => ¬ R k) w W → Slots W a c ls) (hcf : ∀ W, Fr (fun k => ¬ R k) w W → W.cell? ⟨Bf, 0, none⟩ = some (.int .i64 first)) (hcl : ∀ W, Fr (fun k => ¬ R k) w W → W.cell? ⟨Bl, 0, none⟩ = some (.slice a n c)) :
    Iter Tryz.prog 88 #[.pointer (some ⟨Bf, 0, none⟩), .pointer (some ⟨Bl, 0, none⟩)] (fun s : Spt => #[(.agg #[.int .i64 s.page, .int .i64 s.nd.lev, .int .i64 s.nd.lsn, .int .i64 s.nd.rgt, .string s.nd.high, .slice s.pt.k s.nd.keys.length s.pt.kc, .slice s.pt.v s.nd.vals.length s.pt.vc, .slice s.pt.i s.nd.kids.length s.pt.ic, .string s.low])]) R (fun pre x _ => pre ++ [x] <+: rowS ls n first ByteArray.empty) (fun xs => xs = rowS ls n first ByteArray.empty) w := by
  intro l T J Jx W hW hT hJx hY h0
  have hle : n ≤ c := by rw [hn]; exact (hS W hW).le
  have hmx := (hS W hW).max
  have HFD : Hid (∀ W x, Fr (fun k => ¬ R k) w W → Calls Tryz.prog 35 #[.slice a n c, .int .i64 x] W fun e w' => BfOut ls x W e w') := fun W x f => bfind_any a n c ls hn hf hr x W (hS W f)
  have HCL : Hid (∀ W, Fr (fun k => ¬ R k) w W → W.cell? ⟨Bl, 0, none⟩ = some (.slice a n c)) := hcl
  have HN : Hid (n = ls.length) := hn
  have HT : Hid (Tend R T J) := hT
  have HJX : Hid (∀ pre A B, Jx pre A → Fr (fun _ => False) A B → Jx pre B) := hJx
  have HY : Hid (∀ pre x W1, J pre W1 → pre ++ [x] <+: rowS ls n first ByteArray.empty → YieldAt Fence.wide 0 Tryz.prog l #[(.agg #[.int .i64 x.page, .int .i64 x.nd.lev, .int .i64 x.nd.lsn, .int .i64 x.nd.rgt, .string x.nd.high, .slice x.pt.k x.nd.keys.length x.pt.kc, .slice x.pt.v x.nd.vals.length x.pt.vc, .slice x.pt.i x.nd.kids.length x.pt.ic, .string x.low])] W1 fun e W' => (e = .returned (.bool true) ∧ J (pre ++ [x]) W' ∧ Fr (T W1) W1 W' ∧ ∀ k, T W' k → T W1 k ∨ W1.heap.size ≤ k) ∨ (e = .returned (.bool false) ∧ Jx (pre ++ [x]) W')) := hY
  have HJ0 : Hid (J [] W) := h0
  have HW : Hid (Fr (fun k => ¬ R k) w W) := hW
  have c1 := hcf W hW
  have c2 := hcl W hW
  clear hS hcf hcl hT hJx hY h0 hn hr hf hW
  refine callsIn_of_wp Tryz.func88 rfl trivial ?_ rfl
  simp only [Tryz.ntmps88, List.size_toArray, List.length_cons, List.length_nil, Nat.reduceAdd, Nat.reduceSub, Array.replicate_succ, Array.replicate_zero, List.push_toArray, List.append_toArray, List.nil_append, List.cons_append]
  gi_wp2
  gi_loopw [11, 4, 5] (fun i nx lw wr => ∃ (k : Nat) (x : Int) (low : ByteArray) (pre : List Spt), k ≤ n ∧ i = .int .i64 k ∧ nx = .int .i64 x ∧ lw = .string low ∧ Hid (pre ++ rowS ls (n - k) x low = rowS ls n first ByteArray.empty) ∧ Hid (J pre wr) ∧ Fr (fun k => ¬ R k) w wr) (fun i _ _ _ => n - (intOf i).toNat)
  case atStart => exact ⟨0, first, ByteArray.empty, [], by omega, rfl, rfl, rfl, rfl, HJ0, HW.out⟩
  case round =>
    obtain ⟨k, x, low, pre, hk, rfl, rfl, rfl, HE, HJ, F⟩ := hrel
    by_cases hlt : k < n
    · have hki : (k : Int) < (n : Int) := by omega
      have c2 := HCL.out _ F
      have hfd := HFD.out _ x F
      have HSZ : Hid (n - k = (n - (k + 1)) + 1) := by show _ = _; omega
      cases hh : hasB ls x
      · have hfn := bfind_no hfd hh
        have HS0 : Hid (pre = rowS ls n first ByteArray.empty) := by show _ = _; rw [← HE.out, rowS_no _ _ hh, List.append_nil]
        clear hfd hh HE
        gi_wp2
        refine ⟨trivial, rfl, (callsIn_wide.2 hfn).mono ?_⟩
        rintro e w1 ⟨rfl, f1⟩
        gi_wp2
        refine ⟨fun _ h => (by cases h), ?_⟩
        gi_wp2
        refine bodyPost_ret (results_none rfl _ _ _) rfl ?_
        exact ⟨⟨_, rfl⟩, .inl ⟨pre, HS0.out, HT.out.steady _ _ _ HJ.out (f1.alloc _)⟩⟩
      · obtain ⟨s, hs, hsx⟩ := has_some hh
        have hfy := bfind_yes hfd hh hs
        have HR2 : Hid (rowS ls (n - k) x low = ⟨x, s.nd, s.pt, low⟩ :: rowS ls (n - (k + 1)) s.nd.rgt s.nd.high) := by show _ = _; rw [HSZ.out]; exact rowS_yes _ _ hh hs
        clear hfd hh hs hsx
        gi_wp2
        refine ⟨trivial, rfl, (callsIn_wide.2 hfy).mono ?_⟩
        rintro e w1 ⟨rfl, f1⟩
        have fB := f1.alloc (.cells #[.int .i64 s.nd.lev, .int .i64 s.nd.lsn, .int .i64 s.nd.rgt, .string s.nd.high, .slice s.pt.k s.nd.keys.length s.pt.kc, .slice s.pt.v s.nd.vals.length s.pt.vc, .slice s.pt.i s.nd.kids.length s.pt.ic] 55)
        have hJ1 := HT.out.steady _ _ _ HJ.out fB
        obtain ⟨fn, tmps, assign, body, hy, hR⟩ := HY.out pre ⟨x, s.nd, s.pt, low⟩ _ hJ1 (by rw [← HE.out, HR2.out]; exact ⟨rowS ls (n - (k + 1)) s.nd.rgt s.nd.high, by simp⟩)
        dsimp only at hy
        gi_wp2
        refine ⟨rfl, hR.mono ?_⟩
        rintro e W3 (⟨rfl, hJ3, hk3, _⟩ | ⟨rfl, hJx3⟩)
        · obtain ⟨FW3, hbl⟩ := HT.out.on HJ.out fB hk3 F
          have hbx := (hbl w1.heap.size (by have := f1.size; omega) (by simp)).trans (heap_alloc_new w1 (.cells #[.int .i64 s.nd.lev, .int .i64 s.nd.lsn, .int .i64 s.nd.rgt, .string s.nd.high, .slice s.pt.k s.nd.keys.length s.pt.kc, .slice s.pt.v s.nd.vals.length s.pt.vc, .slice s.pt.i s.nd.kids.length s.pt.ic] 55))
          obtain ⟨c0, c1, c2', c3, c4, c5, c6⟩ := box_cells hbx
          have HE2 : Hid ((pre ++ [⟨x, s.nd, s.pt, low⟩]) ++ rowS ls (n - (k + 1)) s.nd.rgt s.nd.high = rowS ls n first ByteArray.empty) := by show _ = _; rw [← HE.out, HR2.out]; simp
          have HJ3 : Hid (J (pre ++ [⟨x, s.nd, s.pt, low⟩]) W3) := hJ3
          clear hJ3 hk3 hbl hbx hR hy hJ1
          have hmo : Tryz.prog.follows .mixedOrders = true := by kernel_rfl
          gi_wp2
          gi_region_with_o (fail)
          all_goals gi_wp2
          all_goals go_roundw
          all_goals first
            | exact ⟨k + 1, s.nd.rgt, s.nd.high, pre ++ [⟨x, s.nd, s.pt, low⟩], by omega, by go_num, rfl, rfl, HE2, HT.out.steady _ _ _ HJ3.out ((Fr.refl _ W3).drew), FW3.trans ((Fr.refl (fun _ => False) W3).drew) (fun _ _ f => f.elim)⟩
            | (simp [intOf]; omega)
        · gi_wp2
          refine bodyPost_ret (results_none rfl _ _ _) rfl ?_
          exact ⟨⟨_, rfl⟩, .inr ⟨_, hJx3⟩⟩
    · have HS0 : Hid (pre = rowS ls n first ByteArray.empty) := by
        show _ = _
        rw [← HE.out, show n - k = 0 by omega]
        simp [rowS]
      gi_wp2
      go_end0
      exact ⟨⟨_, rfl⟩, .inl ⟨pre, HS0.out, HJ.out⟩⟩
end Go.Proofs.YtlnkbjjohdmihaaGreat
