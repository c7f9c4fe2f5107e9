
/- The records that fit, as the iterator fitting gives them. -/
import Derived.Test.YtimpoincnfiibaaShTwo
import Derived.Shelf.Abstract
import Derived.Shelf.RegionOpen
import Derived.WalkKit
import Derived.OwnWalkIn
import Derived.TacticsInMore
import Derived.LoopNIn
import Derived.LoopIn
namespace Go.Proofs.Ytimpoincnfiibaa
open Go.RowKit Go.Shelf
attribute [local go_sem] Oper.semAt_some

/-- Does a record fit behind a mark? -/
def fitR (e l : Int) (r : Rec) : Bool := decide (r.lsn = l + 1) && decide (e ≤ r.ep)
/-- The records that fit, up to the first that does not. -/
def fitL : Int → Int → List Rec → List Rec
  | _, _, [] => []
  | e, l, r :: rs => if fitR e l r then r :: fitL r.ep r.lsn rs else []
theorem fitL_no {e l : Int} {rs : List Rec} {r : Rec} {k : Nat} (h : rs[k]? = some r) (hf : fitR e l r = false) : fitL e l (rs.drop k) = [] := by
  have hj := (List.getElem?_eq_some_iff.1 h).1
  rw [List.drop_eq_getElem_cons hj, (List.getElem?_eq_some_iff.1 h).2]
  unfold fitL; rw [hf]; rfl
theorem fitL_yes {e l : Int} {rs : List Rec} {r : Rec} {k : Nat} (h : rs[k]? = some r) (hf : fitR e l r = true) : fitL e l (rs.drop k) = r :: fitL r.ep r.lsn (rs.drop (k + 1)) := by
  have hj := (List.getElem?_eq_some_iff.1 h).1
  rw [List.drop_eq_getElem_cons hj, (List.getElem?_eq_some_iff.1 h).2]
  conv => lhs; unfold fitL
  rw [hf]; rfl
theorem fitR_parts {e l : Int} {r : Rec} : fitR e l r = true ↔ r.lsn = l + 1 ∧ e ≤ r.ep := by
  unfold fitR; rw [Bool.and_eq_true, decide_eq_true_eq, decide_eq_true_eq]
theorem markOf_any (r : Rec) (w : World) : Calls Try.prog 20 #[(.agg #[.int .i64 r.lsn, .int .i64 r.ep, .int .i64 r.kind, .int .i64 r.page, .int .i64 r.other, .int .i64 r.req, .string r.key, .string r.val])] w fun e w' => e = .returned (.agg #[.int .i64 r.ep, .int .i64 r.lsn]) ∧ Fr (fun _ => False) w w' := by
  have F : Fr (fun _ => False) w ((w.alloc (.cells #[.int .i64 r.lsn, .int .i64 r.ep, .int .i64 r.kind, .int .i64 r.page, .int .i64 r.other, .int .i64 r.req, .string r.key, .string r.val] 47)).alloc (.cells #[.int .i64 r.ep, .int .i64 r.lsn] 36)) := (Fr.box _ _).seq' (Fr.box _ _)
  have T := Two.new (w.alloc (.cells #[.int .i64 r.lsn, .int .i64 r.ep, .int .i64 r.kind, .int .i64 r.page, .int .i64 r.other, .int .i64 r.req, .string r.key, .string r.val] 47)) 36 (.int .i64 r.ep) (.int .i64 r.lsn)
  rw [World.size_alloc] at T
  obtain ⟨y0, y1, _⟩ := T.cells
  go_enter Try.func20, Try.ntmps20
  go_wp2
  refine bodyPost_ret (v := .agg #[.int .i64 r.ep, .int .i64 r.lsn]) (by simp [results, Try.results20, go_sem, y0, y1]) rfl ?_
  exact ⟨rfl, F⟩
set_option maxRecDepth 100000 in
set_option maxHeartbeats 4000000 in
theorem fit_iter (a : Option Addr) (n c : Nat) (rs : List Rec) (hn : n = rs.length) (hbd : ∀ r ∈ rs, r.lsn ≤ 1099511627776) (me ml : Int) (h0l : 0 ≤ ml) (h1l : ml ≤ 1099511627776) (Bm Br : Nat) (R : Nat → Prop) (w : World)
    (hS : ∀ W, Fr (fun k => ¬ R k) w W → Recs W a c rs) (hcm : ∀ W, Fr (fun k => ¬ R k) w W → Two W Bm 36 (.int .i64 me) (.int .i64 ml)) (hcr : ∀ W, Fr (fun k => ¬ R k) w W → W.cell? ⟨Br, 0, none⟩ = some (.slice a n c)) :
    Iter Try.prog 35 #[.pointer (some ⟨Bm, 0, none⟩), .pointer (some ⟨Br, 0, none⟩)] (fun r : Rec => #[(.agg #[.int .i64 r.lsn, .int .i64 r.ep, .int .i64 r.kind, .int .i64 r.page, .int .i64 r.other, .int .i64 r.req, .string r.key, .string r.val])]) R (fun pre x _ => pre ++ [x] <+: fitL me ml rs) (fun xs => xs = fitL me ml rs) w := by
  intro l T J Jx W hW hT hJx hY h0
  have hle : n ≤ c := by rw [hn]; exact (hS W hW).le
  have hmx := (hS W hW).max
  have HN : Hid (n = rs.length) := hn
  have HS : Hid (∀ W, Fr (fun k => ¬ R k) w W → Recs W a c rs) := hS
  have HBD : Hid (∀ r ∈ rs, r.lsn ≤ 1099511627776) := hbd
  have HT : Hid (Tend R T J W.heap.size) := hT
  have HY : Hid (∀ pre x W1, J pre W1 → pre ++ [x] <+: fitL me ml rs → YieldAt Fence.wide 0 Try.prog l #[(.agg #[.int .i64 x.lsn, .int .i64 x.ep, .int .i64 x.kind, .int .i64 x.page, .int .i64 x.other, .int .i64 x.req, .string x.key, .string x.val])] W1 fun e W' => (e = .returned (.bool true) ∧ J (pre ++ [x]) W' ∧ Fr (T W1) W1 W' ∧ ∀ k, T W' k → T W1 k ∨ W1.heap.size ≤ k) ∨ (e = .returned (.bool false) ∧ Jx (pre ++ [x]) W')) := hY
  have HW : Hid (Fr (fun k => ¬ R k) w W) := hW
  obtain ⟨c0, c1, _⟩ := (hcm W hW).cells
  have c2 := hcr W hW
  obtain ⟨W0, hW0⟩ : ∃ V, V = W.alloc (.cells #[.int .i64 me, .int .i64 ml] 36) := ⟨_, rfl⟩
  have fb : Fr (fun _ => False) W W0 := by rw [hW0]; exact Fr.box _ _
  have HX0 : Hid (Two W0 W.heap.size 36 (.int .i64 me) (.int .i64 ml)) := by rw [hW0]; exact Two.new _ _ _ _
  have HJ0 : Hid (J [] W0) := hT.steady _ _ _ h0 fb
  have HNT0 : Hid (¬ T W0 W.heap.size) := fun e => by have := hT.old _ _ _ h0 (hT.back _ _ _ _ h0 fb e); omega
  have HF0 : Hid (Fr (fun k => ¬ R k) w W0) := hW.trans fb (fun _ _ f => f.elim)
  have HW0 : Hid (W0 = W.alloc (.cells #[.int .i64 me, .int .i64 ml] 36)) := hW0
  have c3 : (W.alloc (.cells #[.int .i64 me, .int .i64 ml] 36)).cell? ⟨Br, 0, none⟩ = some (.slice a n c) := by rw [← hW0]; exact hcr _ HF0.out
  have HMB : Hid (0 ≤ ml ∧ ml ≤ 1099511627776) := ⟨h0l, h1l⟩
  have HWZ : Hid (w.heap.size ≤ W.heap.size) := hW.size
  clear hS hcm hcr hT hJx hY h0 hn hW hbd fb hW0 h0l h1l
  refine callsIn_of_wp Try.func35 rfl trivial ?_ rfl
  simp only [Try.ntmps35, List.size_toArray, List.length_cons, List.length_nil, Nat.reduceAdd, Nat.reduceSub, Array.replicate_succ, Array.replicate_zero, List.push_toArray, List.append_toArray, List.nil_append, List.cons_append]
  gi_wp2
  rw [← HW0.out]
  rename World => WW
  gi_loopw [10] (fun i wr => ∃ (k : Nat) (e l : Int) (pre : List Rec), k ≤ n ∧ i = .int .i64 k ∧ (0 ≤ l ∧ l ≤ 1099511627776) ∧ Hid (pre ++ fitL e l (rs.drop k) = fitL me ml rs) ∧ Hid (J pre wr) ∧ Hid (Two wr W.heap.size 36 (.int .i64 e) (.int .i64 l)) ∧ Hid (¬ T wr W.heap.size) ∧ Hid (W.heap.size < wr.heap.size) ∧ Fr (fun k => ¬ R k) w wr) (fun i _ => n - (intOf i).toNat)
  case atStart => exact ⟨0, me, ml, [], by omega, rfl, HMB.out, rfl, HJ0, HX0, HNT0, HX0.out.lt, HF0.out⟩
  case round =>
    obtain ⟨k, e, l, pre, hk, rfl, ⟨hl0, hl1⟩, HE, HJ, HX, HNT, HZ, F⟩ := hrel
    by_cases hlt : k < n
    · obtain ⟨r, hr⟩ : ∃ r, rs[k]? = some r := ⟨_, List.getElem?_eq_getElem (by have := HN.out; omega)⟩
      obtain ⟨b, off, rfl, hb, hc⟩ := (HS.out _ F).some (by have := HN.out; omega)
      obtain ⟨q0, q1, q2, q3, q4, q5, q6, q7⟩ := rec_range (hc k r hr)
      have hki : (k : Int) < (n : Int) := by omega
      have HNO : Hid (fitR e l r = false → fitL e l (rs.drop k) = []) := fitL_no hr
      have HYE : Hid (fitR e l r = true → fitL e l (rs.drop k) = r :: fitL r.ep r.lsn (rs.drop (k + 1))) := fitL_yes hr
      have HRB : Hid (r.lsn ≤ 1099511627776) := HBD.out r (List.mem_of_getElem? hr)
      have fB := Fr.box wr (.cells #[.int .i64 r.lsn, .int .i64 r.ep, .int .i64 r.kind, .int .i64 r.page, .int .i64 r.other, .int .i64 r.req, .string r.key, .string r.val] 47)
      have HJ1 : Hid (J pre (wr.alloc (.cells #[.int .i64 r.lsn, .int .i64 r.ep, .int .i64 r.kind, .int .i64 r.page, .int .i64 r.other, .int .i64 r.req, .string r.key, .string r.val] 47))) := HT.out.steady _ _ _ HJ.out fB
      have X1 := HX.out.fr fB (fun f => f)
      obtain ⟨x0, x1, x2, x3⟩ := X1.cells
      have hbx := heap_alloc_new wr (.cells #[.int .i64 r.lsn, .int .i64 r.ep, .int .i64 r.kind, .int .i64 r.page, .int .i64 r.other, .int .i64 r.req, .string r.key, .string r.val] 47)
      obtain ⟨⟨d0, d1, d2, d3, d4, d5, d6, d7⟩, _⟩ := rec_cells hbx
      have hw1 : IntKind.i64.wrap (l + 1) = l + 1 := by simp [IntKind.wrap, IntKind.bits, IntKind.signed]; omega
      have F1 : Fr (fun k => ¬ R k) w (wr.alloc (.cells #[.int .i64 r.lsn, .int .i64 r.ep, .int .i64 r.kind, .int .i64 r.page, .int .i64 r.other, .int .i64 r.req, .string r.key, .string r.val] 47)) := F.trans fB (fun _ _ f => f.elim)
      have HBX : Hid ((wr.alloc (.cells #[.int .i64 r.lsn, .int .i64 r.ep, .int .i64 r.kind, .int .i64 r.page, .int .i64 r.other, .int .i64 r.req, .string r.key, .string r.val] 47)).heap[wr.heap.size]? = some (.cells #[.int .i64 r.lsn, .int .i64 r.ep, .int .i64 r.kind, .int .i64 r.page, .int .i64 r.other, .int .i64 r.req, .string r.key, .string r.val] 47 (0, 0))) := hbx
      have HFB : Hid (Fr (fun _ => False) wr (wr.alloc (.cells #[.int .i64 r.lsn, .int .i64 r.ep, .int .i64 r.kind, .int .i64 r.page, .int .i64 r.other, .int .i64 r.req, .string r.key, .string r.val] 47))) := fB
      clear hc hr hbx fB X1
      by_cases h1 : r.lsn = l + 1
      · have d1 : (r.lsn != l + 1) = false := by rw [h1]; simp
        by_cases h2 : e ≤ r.ep
        · have d2' : decide (r.ep < e) = false := decide_eq_false (by omega)
          have hfit := HYE.out (fitR_parts.2 ⟨h1, h2⟩)
          have HE2 : Hid ((pre ++ [r]) ++ fitL r.ep r.lsn (rs.drop (k + 1)) = fitL me ml rs) := by show _ = _; rw [← HE.out, hfit]; simp
          have HLB : Hid (0 ≤ r.lsn ∧ r.lsn ≤ 1099511627776) := ⟨by omega, HRB.out⟩
          obtain ⟨fn, tmps, assign, body, hy, hR⟩ := HY.out pre r _ HJ1.out ⟨fitL r.ep r.lsn (rs.drop (k + 1)), HE2.out⟩
          have hmk := markOf_any r
          clear hfit HNO HYE h1 h2 HRB
          gi_wp2
          refine ⟨rfl, hR.mono ?_⟩
          rintro e2 W3 (⟨rfl, hJ3, hk3, hg3⟩ | ⟨rfl, hJx3⟩)
          · obtain ⟨FW3, hbl⟩ := HT.out.on HJ.out HFB.out hk3 F
            have hbx3 := (hbl wr.heap.size (Nat.le_refl _) (by simp)).trans HBX.out
            obtain ⟨⟨d0, d1, d2, d3, d4, d5, d6, d7⟩, _⟩ := rec_cells hbx3
            have hX3 : Two W3 W.heap.size 36 (.int .i64 e) (.int .i64 l) := (HX.out.fr HFB.out (fun f => f)).fr hk3 (fun t => HNT.out (HT.out.back _ _ _ _ HJ.out HFB.out t))
            have HJ3 : Hid (J (pre ++ [r]) W3) := hJ3
            have HN3 : Hid (¬ T W3 W.heap.size) := fun e => by
              rcases hg3 _ e with h | h
              · exact HNT.out (HT.out.back _ _ _ _ HJ.out HFB.out h)
              · have h9 := HZ.out; rw [World.size_alloc] at h; omega
            have HX3 : Hid (Two W3 W.heap.size 36 (.int .i64 e) (.int .i64 l)) := hX3
            clear hJ3 hk3 hg3 hR hy hbl hbx3 hX3 x0 x1 x2 x3
            gi_wp2
            refine ⟨trivial, rfl, (callsIn_wide.2 (hmk _)).mono ?_⟩
            rintro e3 w4 ⟨rfl, g4⟩
            have X4 := HX3.out.fr g4 (fun f => f)
            obtain ⟨x0, x1, x2, x3⟩ := X4.cells
            obtain ⟨X5, f5⟩ := X4.fin (.int .i64 r.ep) (.int .i64 r.lsn)
            have f6 : Fr (fun k => k = W.heap.size) W3 ((w4.setCell ⟨W.heap.size, 0, none⟩ (.int .i64 r.ep)).setCell ⟨W.heap.size, 1, none⟩ (.int .i64 r.lsn)) := (g4.widen (fun _ e => e.elim)).trans f5 (fun _ _ e => e)
            have HJ5 : Hid (J (pre ++ [r]) ((w4.setCell ⟨W.heap.size, 0, none⟩ (.int .i64 r.ep)).setCell ⟨W.heap.size, 1, none⟩ (.int .i64 r.lsn))) := HT.out.steadyX _ _ _ HJ3.out f6
            have HN5 : Hid (¬ T ((w4.setCell ⟨W.heap.size, 0, none⟩ (.int .i64 r.ep)).setCell ⟨W.heap.size, 1, none⟩ (.int .i64 r.lsn)) W.heap.size) := fun e => HN3.out (HT.out.backX _ _ _ _ HJ3.out f6 e)
            have HX5 : Hid (Two ((w4.setCell ⟨W.heap.size, 0, none⟩ (.int .i64 r.ep)).setCell ⟨W.heap.size, 1, none⟩ (.int .i64 r.lsn)) W.heap.size 36 (.int .i64 r.ep) (.int .i64 r.lsn)) := X5
            have HZ5 : Hid (W.heap.size < ((w4.setCell ⟨W.heap.size, 0, none⟩ (.int .i64 r.ep)).setCell ⟨W.heap.size, 1, none⟩ (.int .i64 r.lsn)).heap.size) := X5.lt
            have F5 : Fr (fun k => ¬ R k) w ((w4.setCell ⟨W.heap.size, 0, none⟩ (.int .i64 r.ep)).setCell ⟨W.heap.size, 1, none⟩ (.int .i64 r.lsn)) := FW3.trans f6 (fun i hi e => by have := HWZ.out; omega)
            clear X4 X5 f5 f6 g4 FW3 HX3 HN3 HJ3
            gi_wp2
            go_roundw
            case rel => exact ⟨k + 1, r.ep, r.lsn, pre ++ [r], by omega, by go_num, HLB.out, HE2, HJ5, HX5, HN5, HZ5, F5⟩
            case measure => simp [intOf]; omega
          · gi_wp2
            refine bodyPost_ret (results_none rfl _ _ _) rfl ?_
            exact ⟨⟨_, rfl⟩, .inr ⟨_, hJx3⟩⟩
        · have d2' : decide (r.ep < e) = true := decide_eq_true (by omega)
          have HS0 : Hid (pre = fitL me ml rs) := by
            show _ = _
            rw [← HE.out, HNO.out (by rw [← Bool.not_eq_true]; intro h; exact h2 (fitR_parts.1 h).2), List.append_nil]
          clear HNO HYE h1 h2
          gi_wp2
          refine ⟨fun _ h => (by cases h), ?_⟩
          gi_wp2
          refine bodyPost_ret (results_none rfl _ _ _) rfl ?_
          exact ⟨⟨_, rfl⟩, .inl ⟨pre, HS0.out, HJ1.out⟩⟩
      · have d1 : (r.lsn != l + 1) = true := by simpa using h1
        have HS0 : Hid (pre = fitL me ml rs) := by
          show _ = _
          rw [← HE.out, HNO.out (by rw [← Bool.not_eq_true]; intro h; exact h1 (fitR_parts.1 h).1), List.append_nil]
        clear HNO HYE h1
        gi_wp2
        refine ⟨fun _ h => (by cases h), ?_⟩
        gi_wp2
        refine bodyPost_ret (results_none rfl _ _ _) rfl ?_
        exact ⟨⟨_, rfl⟩, .inl ⟨pre, HS0.out, HJ1.out⟩⟩
    · have HS0 : Hid (pre = fitL me ml rs) := by
        show _ = _
        rw [← HE.out, List.drop_of_length_le (by have := HN.out; omega)]
        simp [fitL]
      gi_wp2
      go_end0
      exact ⟨⟨_, rfl⟩, .inl ⟨pre, HS0.out, HJ.out⟩⟩
end Go.Proofs.Ytimpoincnfiibaa
