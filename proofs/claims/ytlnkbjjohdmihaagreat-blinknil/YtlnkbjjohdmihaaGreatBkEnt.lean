
/- The entries of leaves, as the iterator entriesOf gives them. -/
import Derived.Test.YtlnkbjjohdmihaaGreatBkLv
namespace Go.Proofs.YtlnkbjjohdmihaaGreat
open Go.RowKit Go.Shelf
attribute [local go_sem] Oper.semAt_some

/-- The entries of a node, and of leaves. -/
def ndE (n : Nd) : List (ByteArray × ByteArray) := n.keys.zip n.vals
def lvE (sp : List Spt) : List (ByteArray × ByteArray) := sp.flatMap (fun s => ndE s.nd)
theorem lvE_next {sp : List Spt} {k : Nat} {s : Spt} (h : sp[k]? = some s) : lvE (sp.drop k) = ndE s.nd ++ lvE (sp.drop (k + 1)) := by
  have hj := (List.getElem?_eq_some_iff.1 h).1
  rw [List.drop_eq_getElem_cons hj, (List.getElem?_eq_some_iff.1 h).2]
  rfl
theorem ndE_next {n : Nd} {k : Nat} (hk : k < n.keys.length) (hv : k < n.vals.length) : (ndE n).drop k = (n.keys.getD k ByteArray.empty, n.vals.getD k ByteArray.empty) :: (ndE n).drop (k + 1) := by
  unfold ndE
  rw [List.drop_eq_getElem_cons (by simp; omega)]
  simp [List.getD_eq_getElem?_getD, hk, hv]
set_option maxRecDepth 100000 in
set_option maxHeartbeats 4000000 in
theorem ent_iter (a : Option Addr) (n c : Nat) (sp : List Spt) (hn : n = sp.length) (hkv : ∀ s ∈ sp, s.nd.keys.length ≤ s.nd.vals.length) (Bl : Nat) (R : Nat → Prop) (w : World)
    (hS : ∀ W, Fr (fun k => ¬ R k) w W → Spots W a c sp) (hcl : ∀ W, Fr (fun k => ¬ R k) w W → W.cell? ⟨Bl, 0, none⟩ = some (.slice a n c)) :
    Iter Tryz.prog 46 #[.pointer (some ⟨Bl, 0, none⟩)] (fun x : ByteArray × ByteArray => #[.agg #[.string x.1, .string x.2]]) R (fun pre x _ => pre ++ [x] <+: lvE sp) (fun xs => xs = lvE sp) w := by
  intro l T J Jx W hW hT hJx hY h0
  have hle : n ≤ c := by rw [hn]; exact (hS W hW).le
  have hmx := (hS W hW).max
  have HN : Hid (n = sp.length) := hn
  have HS : Hid (∀ W, Fr (fun k => ¬ R k) w W → Spots W a c sp) := hS
  have HKV : Hid (∀ s ∈ sp, s.nd.keys.length ≤ s.nd.vals.length) := hkv
  have HT : Hid (Tend R T J) := hT
  have HY : Hid (∀ pre x W1, J pre W1 → pre ++ [x] <+: lvE sp → YieldAt Fence.wide 0 Tryz.prog l #[.agg #[.string x.1, .string x.2]] W1 fun e W' => (e = .returned (.bool true) ∧ J (pre ++ [x]) W' ∧ Fr (T W1) W1 W' ∧ ∀ k, T W' k → T W1 k ∨ W1.heap.size ≤ k) ∨ (e = .returned (.bool false) ∧ Jx (pre ++ [x]) W')) := hY
  have HJ0 : Hid (J [] W) := h0
  have HW : Hid (Fr (fun k => ¬ R k) w W) := hW
  have c2 := hcl W hW
  clear hS hcl hT hJx hY h0 hn hW hkv
  refine callsIn_of_wp Tryz.func46 rfl trivial ?_ rfl
  simp only [Tryz.ntmps46, List.size_toArray, List.length_cons, List.length_nil, Nat.reduceAdd, Nat.reduceSub, Array.replicate_succ, Array.replicate_zero, List.push_toArray, List.append_toArray, List.nil_append, List.cons_append]
  gi_wp2
  gi_loopw [9] (fun i wr => ∃ (k : Nat) (pre : List (ByteArray × ByteArray)), k ≤ n ∧ i = .int .i64 k ∧ Hid (pre ++ lvE (sp.drop k) = lvE sp) ∧ Hid (J pre wr) ∧ Fr (fun k => ¬ R k) w wr) (fun i _ => n - (intOf i).toNat)
  case atStart => exact ⟨0, [], by omega, rfl, rfl, HJ0, HW.out⟩
  case round =>
    obtain ⟨k, pre, hk, rfl, HE, HJ, F⟩ := hrel
    by_cases hlt : k < n
    · obtain ⟨s, hs⟩ : ∃ s, sp[k]? = some s := ⟨_, List.getElem?_eq_getElem (by have := HN.out; omega)⟩
      obtain ⟨b, off, rfl, hb, hc⟩ := (HS.out _ F).some (by have := HN.out; omega)
      have hqq := sp_range (hc k s hs)
      have HNX := lvE_next hs
      have hsm := List.mem_of_getElem? hs
      have hkv := HKV.out s hsm
      have hnod := (HS.out _ F).nod s hsm
      have HKY : Hid (∀ W, Fr (fun k => ¬ R k) w W → Strs W s.pt.k s.pt.kc s.nd.keys ∧ Strs W s.pt.v s.pt.vc s.nd.vals) := fun W f => ⟨((HS.out _ f).nod s hsm).keys, ((HS.out _ f).nod s hsm).vals⟩
      obtain ⟨page, nd, ⟨pk, kc, pv, vc, pi, ic⟩, low⟩ := s
      dsimp only at hqq HNX hkv hnod HKY
      obtain ⟨q0, q1, q2, q3, q4, q5, q6, q7, q8⟩ := hqq
      have HE2 : Hid (pre ++ (ndE nd ++ lvE (sp.drop (k + 1))) = lvE sp) := by show _ = _; rw [← HNX]; exact HE.out
      have hki : (k : Int) < (n : Int) := by omega
      have hkl := hnod.keys.le
      have hkm := hnod.keys.max
      have hvl := hnod.vals.le
      have hvm := hnod.vals.max
      have HBX : Hid ((wr.alloc (.cells #[.int .i64 page, .int .i64 nd.lev, .int .i64 nd.lsn, .int .i64 nd.rgt, .string nd.high, .slice pk nd.keys.length kc, .slice pv nd.vals.length vc, .slice pi nd.kids.length ic, .string low] 96)).heap[wr.heap.size]? = some (.cells #[.int .i64 page, .int .i64 nd.lev, .int .i64 nd.lsn, .int .i64 nd.rgt, .string nd.high, .slice pk nd.keys.length kc, .slice pv nd.vals.length vc, .slice pi nd.kids.length ic, .string low] 96 (0, 0))) := heap_alloc_new wr _
      have HJ1 : Hid (J pre (wr.alloc (.cells #[.int .i64 page, .int .i64 nd.lev, .int .i64 nd.lsn, .int .i64 nd.rgt, .string nd.high, .slice pk nd.keys.length kc, .slice pv nd.vals.length vc, .slice pi nd.kids.length ic, .string low] 96))) := HT.out.steady _ _ _ HJ.out (Fr.box wr _)
      have HNT : Hid (¬ T (wr.alloc (.cells #[.int .i64 page, .int .i64 nd.lev, .int .i64 nd.lsn, .int .i64 nd.rgt, .string nd.high, .slice pk nd.keys.length kc, .slice pv nd.vals.length vc, .slice pi nd.kids.length ic, .string low] 96)) wr.heap.size) := fun e => by have := HT.out.old _ _ _ HJ.out (HT.out.back _ _ _ _ HJ.out (Fr.box wr _) e); omega
      have F1 : Fr (fun k => ¬ R k) w (wr.alloc (.cells #[.int .i64 page, .int .i64 nd.lev, .int .i64 nd.lsn, .int .i64 nd.rgt, .string nd.high, .slice pk nd.keys.length kc, .slice pv nd.vals.length vc, .slice pi nd.kids.length ic, .string low] 96)) := F.trans (Fr.box wr _) (fun _ _ f => f.elim)
      clear hs hc HNX HE hsm hnod
      rename World => W9
      gi_wp2
      gi_loopw [17] (fun jv wi => ∃ (j : Nat) (pre2 : List (ByteArray × ByteArray)), j ≤ nd.keys.length ∧ jv = .int .i64 j ∧ Hid (pre2 ++ ((ndE nd).drop j ++ lvE (sp.drop (k + 1))) = lvE sp) ∧ Hid (J pre2 wi) ∧ Hid (wi.heap[W9.heap.size]? = some (.cells #[.int .i64 page, .int .i64 nd.lev, .int .i64 nd.lsn, .int .i64 nd.rgt, .string nd.high, .slice pk nd.keys.length kc, .slice pv nd.vals.length vc, .slice pi nd.kids.length ic, .string low] 96 (0, 0))) ∧ Hid (¬ T wi W9.heap.size) ∧ Hid (W9.heap.size < wi.heap.size) ∧ Fr (fun k => ¬ R k) w wi) (fun jv _ => nd.keys.length - (intOf jv).toNat)
      case atStart => exact ⟨0, pre, by omega, rfl, HE2, HJ1, HBX, HNT, by show _ < _; simp, F1⟩
      case round =>
        obtain ⟨j, pre2, hj, rfl, HE3, HJ3, HB3, HN3, HZ3, G⟩ := hrel
        obtain ⟨d0, d1, d2, d3, d4, d5, d6, d7, d8⟩ := nine_cells HB3.out
        by_cases hjt : j < nd.keys.length
        · obtain ⟨hky, hvy⟩ := HKY.out _ G
          obtain ⟨bk, ok, rfl, hbk, hck⟩ := strs_some hky hjt
          obtain ⟨bv, ov, rfl, hbv, hcv⟩ := strs_some hvy (k := j) (by omega)
          have k0 := hck j hjt
          have v0 := hcv j (by omega)
          have HNX2 := ndE_next (n := nd) hjt (by omega)
          obtain ⟨x, hx⟩ : ∃ x, x = nd.keys.getD j ByteArray.empty := ⟨_, rfl⟩
          obtain ⟨y, hy⟩ : ∃ y, y = nd.vals.getD j ByteArray.empty := ⟨_, rfl⟩
          rw [← hx] at k0
          rw [← hy] at v0
          rw [← hx, ← hy] at HNX2
          have HE4 : Hid ((pre2 ++ [(x, y)]) ++ ((ndE nd).drop (j + 1) ++ lvE (sp.drop (k + 1))) = lvE sp) := by show _ = _; rw [← HE3.out, HNX2]; simp
          have hji : (j : Int) < (nd.keys.length : Int) := by omega
          have hjv : (j : Int) < (nd.vals.length : Int) := by omega
          obtain ⟨fn, tmps, assign, body, hyr, hR⟩ := HY.out pre2 (x, y) _ HJ3.out ⟨(ndE nd).drop (j + 1) ++ lvE (sp.drop (k + 1)), by rw [← HE4.out]⟩
          dsimp only at hyr
          clear hck hcv hx hy HNX2 HE3 hky hvy
          gi_wp2
          refine ⟨rfl, hR.mono ?_⟩
          rintro e W3 (⟨rfl, hJ4, hk4, hg4⟩ | ⟨rfl, hJx4⟩)
          · have HJ4 : Hid (J (pre2 ++ [(x, y)]) W3) := hJ4
            have HB4 := (show Hid _ from hk4.blk HB3.out HN3.out)
            have HN4 : Hid (¬ T W3 W9.heap.size) := fun e => by
              rcases hg4 _ e with h | h
              · exact HN3.out h
              · have := HZ3.out; omega
            have HZ4 : Hid (W9.heap.size < W3.heap.size) := by show _ < _; have := hk4.size; have := HZ3.out; omega
            have G4 : Fr (fun k => ¬ R k) w W3 := G.trans hk4 (fun i _ e => HT.out.apart _ _ _ HJ3.out e)
            clear hJ4 hk4 hg4 hR hyr
            gi_wp2
            go_roundw
            case rel => exact ⟨j + 1, pre2 ++ [(x, y)], by omega, by go_num, HE4, HJ4, HB4, HN4, HZ4, G4⟩
            case measure => simp [intOf]; omega
          · gi_wp2
            refine bodyPost_ret (results_none rfl _ _ _) rfl ?_
            exact ⟨⟨_, rfl⟩, .inr ⟨_, hJx4⟩⟩
        · have HE4 : Hid (pre2 ++ lvE (sp.drop (k + 1)) = lvE sp) := by
            show _ = _
            have e : (ndE nd).drop j = [] := List.drop_of_length_le (by unfold ndE; simp; omega)
            rw [← HE3.out, e]; rfl
          gi_wp2
          go_roundw
          case rel => exact ⟨k + 1, pre2, by omega, by go_num, HE4, HJ3, G⟩
          case measure => simp [intOf]; omega
    · have HS0 : Hid (pre = lvE sp) := by
        show _ = _
        rw [← HE.out, List.drop_of_length_le (by have := HN.out; omega)]
        simp [lvE]
      gi_wp2
      go_end0
      exact ⟨⟨_, rfl⟩, .inl ⟨pre, HS0.out, HJ.out⟩⟩
end Go.Proofs.YtlnkbjjohdmihaaGreat
