
/- The document's 'with': pages with a page's node. -/
import Derived.Test.YtlgceleelhppdaaGreatRpPure
import Derived.Test.YtlgceleelhppdaaGreatDR45
namespace Go.Proofs.YtlgceleelhppdaaGreat
open Go.RowKit

/-- Pages that a call tells. -/
def WthOut (w : World) (ps : List (Int × Nd)) (e : Ending) (w' : World) : Prop := ∃ a' c' n' ls', e = .returned (.slice a' n' c') ∧ n' = ls'.length ∧ Slots w' a' c' ls' ∧ psOf ls' = ps ∧ Fr (fun _ => False) w w'
theorem Has.slots {w : World} {a : Option Addr} {n c : Nat} {ls : List Sl} (hn : n = ls.length) (h : Has w 8 (.slice a n c) n (ls.flatMap slC)) (hd : ∀ s ∈ ls, Nod w s.nd s.pt) : Slots w a c ls := by
  subst hn
  obtain ⟨a', c', he, h1, h2⟩ := h.slice
  simp only [Value.slice.injEq, true_and] at he
  obtain ⟨rfl, rfl⟩ := he
  refine ⟨h1, by unfold maxLen at h2; exact h2, ?_, hd⟩
  by_cases h0 : ls.length = 0
  · exact .inl (List.length_eq_zero_iff.1 h0)
  · obtain ⟨g, cap, hv, hg, _⟩ := h.form (by omega)
    simp only [Value.slice.injEq, true_and] at hv
    obtain ⟨rfl, rfl⟩ := hv
    refine .inr ⟨g, 0, rfl, hg, fun i m hm => ?_⟩
    rw [Nat.zero_add]
    exact h.elem slC_length hm
/-- Pages that are being gathered in memory of a call's own. -/
structure Ow (w wr : World) (v : Value) (k : Nat) (os : List Sl) : Prop where
  len : k = os.length
  has : Has wr 8 v k (os.flatMap slC)
  nod : ∀ t ∈ os, Nod w t.nd t.pt
  own : ∀ g, v.ownBlock = some g → w.heap.size ≤ g
  fr : Fr (fun _ => False) w wr
theorem Ow.nil (w : World) : Ow w w (.slice none 0 0) 0 [] := ⟨rfl, Has.nil _ _, (fun t ht => by cases ht), (fun g e => by cases e), Fr.refl _ _⟩
theorem Ow.same {w wr W : World} {v : Value} {k : Nat} {os : List Sl} (h : Ow w wr v k os) (f : Fr (fun _ => False) wr W) : Ow w W v k os := ⟨h.len, h.has.fr f (fun _ _ f => f), h.nod, h.own, h.fr.seq' f⟩
theorem ow_from {wr : World} (t : TypeId) (s : Sl) : From (wr.alloc (.cells #[.int .i64 s.page, .int .i64 s.nd.lev, .int .i64 s.nd.lsn, .int .i64 s.nd.rgt, .string s.nd.high, .slice s.pt.k s.nd.keys.length s.pt.kc, .slice s.pt.v s.nd.vals.length s.pt.vc, .slice s.pt.i s.nd.kids.length s.pt.ic] t)) (some ⟨wr.heap.size, 0, none⟩) (slC s) := .inr ⟨_, _, rfl, range_block (heap_alloc_new wr (.cells #[.int .i64 s.page, .int .i64 s.nd.lev, .int .i64 s.nd.lsn, .int .i64 s.nd.rgt, .string s.nd.high, .slice s.pt.k s.nd.keys.length s.pt.kc, .slice s.pt.v s.nd.vals.length s.pt.vc, .slice s.pt.i s.nd.kids.length s.pt.ic] t)) (xs := slC s) (o := 0) (fun j v hv => by rw [Nat.zero_add]; simpa [slC] using hv)⟩
theorem Ow.next {w wr w8 : World} {v v4 : Value} {k : Nat} {os : List Sl} (h : Ow w wr v k os) (s : Sl) (hs : Nod w s.nd s.pt) (ht : Has w8 8 v4 (k + 1) (os.flatMap slC ++ slC s)) (f : Fr (fun i => v.ownBlock = some i ∧ 0 < 1) wr w8) (hat : v4.ownBlock = v.ownBlock ∨ v4.ownBlock = some wr.heap.size) : Ow w w8 v4 (k + 1) (os ++ [s]) := by
  have hz := h.fr.size
  refine ⟨by simp [h.len], by rw [List.flatMap_append]; simpa using ht, ?_, ?_, ?_⟩
  · intro t ht
    rcases List.mem_append.1 ht with e | e
    · exact h.nod t e
    · obtain rfl := List.mem_singleton.1 e; exact hs
  · intro g e
    rcases hat with e1 | e1
    · rw [e1] at e; exact h.own g e
    · rw [e1] at e
      simp at e
      omega
  · exact h.fr.trans f (fun i hi e => by have := h.own i e.1; omega)
/-- A block that lies behind the gathered pages stays. -/
theorem Ow.apart {w wr w8 : World} {v : Value} {k : Nat} {os : List Sl} (_ : Ow w wr v k os) (f : Fr (fun i => v.ownBlock = some i ∧ 0 < 1) wr w8) {b : Nat} {o : Obj} (hb : wr.heap[b]? = some o) (hv : v.ownBlock ≠ some b) : w8.heap[b]? = some o := f.blk hb (fun e => hv e.1)
theorem wth_one {ls : List Sl} {j : Nat} {s : Sl} (x : Int) (m : Nd) (put : Bool) (h : ls[j]? = some s) : wthF x m put (psOf (ls.drop j)) = (if put = false ∧ x ≤ s.page then [(x, m)] else []) ++ ((if s.page ≠ x then [(s.page, s.nd)] else []) ++ wthF x m (put || decide (x ≤ s.page)) (psOf (ls.drop (j + 1)))) := by
  have hj := (List.getElem?_eq_some_iff.1 h).1
  rw [List.drop_eq_getElem_cons hj, (List.getElem?_eq_some_iff.1 h).2]
  rfl
theorem ps_snoc (os : List Sl) (s : Sl) : psOf (os ++ [s]) = psOf os ++ [(s.page, s.nd)] := by simp [psOf]

set_option maxRecDepth 100000 in
set_option maxHeartbeats 8000000 in
theorem rwith_any (a : Option Addr) (n c : Nat) (ls : List Sl) (x : Int) (m : Nd) (q : Pt) (hn : n = ls.length) (hf : n ≤ 10000) (w : World) (h : Slots w a c ls) (hm : Nod w m q) :
    Calls Tryz.prog 20 #[.slice a n c, .int .i64 x, (.agg #[.int .i64 m.lev, .int .i64 m.lsn, .int .i64 m.rgt, .string m.high, .slice q.k m.keys.length q.kc, .slice q.v m.vals.length q.vc, .slice q.i m.kids.length q.ic])] w fun e w' => WthOut w (wthF x m false (psOf ls)) e w' := by
  obtain ⟨iR, hiR, hR0, hR1, hR2⟩ := info_parts infoZl
  have hle : n ≤ c := by rw [hn]; exact h.le
  have hmx := h.max
  have f0 := Fr.box w (.cells #[.int .i64 m.lev, .int .i64 m.lsn, .int .i64 m.rgt, .string m.high, .slice q.k m.keys.length q.kc, .slice q.v m.vals.length q.vc, .slice q.i m.kids.length q.ic] 34)
  have HM : Hid (Nod (w.alloc (.cells #[.int .i64 m.lev, .int .i64 m.lsn, .int .i64 m.rgt, .string m.high, .slice q.k m.keys.length q.kc, .slice q.v m.vals.length q.vc, .slice q.i m.kids.length q.ic] 34)) m q) := hm.same f0
  have HS : Hid (∀ W, Fr (fun _ => False) (w.alloc (.cells #[.int .i64 m.lev, .int .i64 m.lsn, .int .i64 m.rgt, .string m.high, .slice q.k m.keys.length q.kc, .slice q.v m.vals.length q.vc, .slice q.i m.kids.length q.ic] 34)) W → Slots W a c ls) := fun W f => (h.same f0).same f
  have HB : Hid (∀ W, Fr (fun _ => False) (w.alloc (.cells #[.int .i64 m.lev, .int .i64 m.lsn, .int .i64 m.rgt, .string m.high, .slice q.k m.keys.length q.kc, .slice q.v m.vals.length q.vc, .slice q.i m.kids.length q.ic] 34)) W → W.heap[w.heap.size]? = some (.cells #[.int .i64 m.lev, .int .i64 m.lsn, .int .i64 m.rgt, .string m.high, .slice q.k m.keys.length q.kc, .slice q.v m.vals.length q.vc, .slice q.i m.kids.length q.ic] 34 (0, 0))) := fun W f => f.blk (heap_alloc_new w _) (fun f => f)
  have HN : Hid (n = ls.length) := hn
  have HSZ : Hid (w.heap.size + 1 = (w.alloc (.cells #[.int .i64 m.lev, .int .i64 m.lsn, .int .i64 m.rgt, .string m.high, .slice q.k m.keys.length q.kc, .slice q.v m.vals.length q.vc, .slice q.i m.kids.length q.ic] 34)).heap.size) := by show _ = _; simp
  have HF0 : Hid (Fr (fun _ => False) w (w.alloc (.cells #[.int .i64 m.lev, .int .i64 m.lsn, .int .i64 m.rgt, .string m.high, .slice q.k m.keys.length q.kc, .slice q.v m.vals.length q.vc, .slice q.i m.kids.length q.ic] 34))) := f0
  clear h hn hm f0
  go_enter Tryz.func20, Tryz.ntmps20
  go_wp2
  go_loopw [13, 7, 8] (fun i o p wr => ∃ (k j : Nat) (put : Bool) (a' : Option Addr) (c' : Nat) (os : List Sl), k ≤ n ∧ i = .int .i64 k ∧ o = .slice a' j c' ∧ p = .bool put ∧ j ≤ k + 1 ∧ Hid (psOf os ++ wthF x m put (psOf (ls.drop k)) = wthF x m false (psOf ls)) ∧ Hid (Ow (w.alloc (.cells #[.int .i64 m.lev, .int .i64 m.lsn, .int .i64 m.rgt, .string m.high, .slice q.k m.keys.length q.kc, .slice q.v m.vals.length q.vc, .slice q.i m.kids.length q.ic] 34)) wr (.slice a' j c') j os) ∧ (put = false → j ≤ k)) (fun i _ _ _ => n - (intOf i).toNat)
  case atStart => exact ⟨0, 0, false, none, 0, [], by omega, rfl, rfl, rfl, by omega, rfl, Ow.nil _, fun _ => by omega⟩
  case round =>
    obtain ⟨k, j, put, a', c', os, hk, rfl, rfl, rfl, hj, HE, HO, hjk⟩ := hrel
    have HJ : Hid (put = false → j ≤ k) := hjk
    clear hjk
    by_cases hlt : k < n
    · obtain ⟨s, hs⟩ : ∃ s, ls[k]? = some s := ⟨_, List.getElem?_eq_getElem (by have := HN.out; omega)⟩
      obtain ⟨b, off, rfl, hb, hc⟩ := (HS.out _ HO.out.fr).some (by have := HN.out; omega)
      obtain ⟨q0, q1, q2, q3, q4, q5, q6, q7⟩ := sl_range (hc k s hs)
      have hki : (k : Int) < (n : Int) := by omega
      have HW := wth_one x m put hs
      have HSN : Hid (Nod (w.alloc (.cells #[.int .i64 m.lev, .int .i64 m.lsn, .int .i64 m.rgt, .string m.high, .slice q.k m.keys.length q.kc, .slice q.v m.vals.length q.vc, .slice q.i m.kids.length q.ic] 34)) s.nd s.pt) := (HS.out _ (Fr.refl _ _)).nod s (List.mem_of_getElem? hs)
      have HO1 : Hid (Ow (w.alloc (.cells #[.int .i64 m.lev, .int .i64 m.lsn, .int .i64 m.rgt, .string m.high, .slice q.k m.keys.length q.kc, .slice q.v m.vals.length q.vc, .slice q.i m.kids.length q.ic] 34)) (wr.alloc (.cells #[.int .i64 s.page, .int .i64 s.nd.lev, .int .i64 s.nd.lsn, .int .i64 s.nd.rgt, .string s.nd.high, .slice s.pt.k s.nd.keys.length s.pt.kc, .slice s.pt.v s.nd.vals.length s.pt.vc, .slice s.pt.i s.nd.kids.length s.pt.ic] 55)) (.slice a' j c') j os) := HO.out.same (Fr.box _ _)
      have hbx := heap_alloc_new wr (.cells #[.int .i64 s.page, .int .i64 s.nd.lev, .int .i64 s.nd.lsn, .int .i64 s.nd.rgt, .string s.nd.high, .slice s.pt.k s.nd.keys.length s.pt.kc, .slice s.pt.v s.nd.vals.length s.pt.vc, .slice s.pt.i s.nd.kids.length s.pt.ic] 55)
      have HNB : Hid ((Value.slice a' j c').ownBlock ≠ some wr.heap.size) := fun e => by have := HO.out.has.lt e; omega
      have hzr := HO.out.fr.size
      rw [← HSZ.out] at hzr
      clear hs hc
      cases put
      · have hjk := HJ.out rfl
        by_cases hge : x ≤ s.page
        · have d1 : decide (x ≤ s.page) = true := decide_eq_true hge
          by_cases hne : s.page = x
          · have d2 : (s.page != x) = false := by simpa using hne
            have HE2 : Hid (psOf (os ++ [(Sl.mk x m q)]) ++ wthF x m true (psOf (ls.drop (k + 1))) = wthF x m false (psOf ls)) := by
              show _ = _
              rw [← HE.out, HW, if_pos ⟨rfl, hge⟩, if_neg (by simp [hne]), d1, ps_snoc]
              simp
            clear hge hne HE HW HJ HO
            have P1 := Fr.box (wr.alloc (.cells #[.int .i64 s.page, .int .i64 s.nd.lev, .int .i64 s.nd.lsn, .int .i64 s.nd.rgt, .string s.nd.high, .slice s.pt.k s.nd.keys.length s.pt.kc, .slice s.pt.v s.nd.vals.length s.pt.vc, .slice s.pt.i s.nd.kids.length s.pt.ic] 55)) (.cells #[.int .i64 x, .int .i64 m.lev, .int .i64 m.lsn, .int .i64 m.rgt, .string m.high, .slice q.k m.keys.length q.kc, .slice q.v m.vals.length q.vc, .slice q.i m.kids.length q.ic] 55)
            have HO2 : Hid (Ow (w.alloc (.cells #[.int .i64 m.lev, .int .i64 m.lsn, .int .i64 m.rgt, .string m.high, .slice q.k m.keys.length q.kc, .slice q.v m.vals.length q.vc, .slice q.i m.kids.length q.ic] 34)) ((wr.alloc (.cells #[.int .i64 s.page, .int .i64 s.nd.lev, .int .i64 s.nd.lsn, .int .i64 s.nd.rgt, .string s.nd.high, .slice s.pt.k s.nd.keys.length s.pt.kc, .slice s.pt.v s.nd.vals.length s.pt.vc, .slice s.pt.i s.nd.kids.length s.pt.ic] 55)).alloc (.cells #[.int .i64 x, .int .i64 m.lev, .int .i64 m.lsn, .int .i64 m.rgt, .string m.high, .slice q.k m.keys.length q.kc, .slice q.v m.vals.length q.vc, .slice q.i m.kids.length q.ic] 55)) (.slice a' j c') j os) := HO1.out.same P1
            have HFR : Hid (From ((wr.alloc (.cells #[.int .i64 s.page, .int .i64 s.nd.lev, .int .i64 s.nd.lsn, .int .i64 s.nd.rgt, .string s.nd.high, .slice s.pt.k s.nd.keys.length s.pt.kc, .slice s.pt.v s.nd.vals.length s.pt.vc, .slice s.pt.i s.nd.kids.length s.pt.ic] 55)).alloc (.cells #[.int .i64 x, .int .i64 m.lev, .int .i64 m.lsn, .int .i64 m.rgt, .string m.high, .slice q.k m.keys.length q.kc, .slice q.v m.vals.length q.vc, .slice q.i m.kids.length q.ic] 55)) (some ⟨wr.heap.size + 1, 0, none⟩) (slC (Sl.mk x m q))) := by
              have := ow_from (wr := wr.alloc (.cells #[.int .i64 s.page, .int .i64 s.nd.lev, .int .i64 s.nd.lsn, .int .i64 s.nd.rgt, .string s.nd.high, .slice s.pt.k s.nd.keys.length s.pt.kc, .slice s.pt.v s.nd.vals.length s.pt.vc, .slice s.pt.i s.nd.kids.length s.pt.ic] 55)) 55 (Sl.mk x m q)
              rwa [show (wr.alloc (.cells #[.int .i64 s.page, .int .i64 s.nd.lev, .int .i64 s.nd.lsn, .int .i64 s.nd.rgt, .string s.nd.high, .slice s.pt.k s.nd.keys.length s.pt.kc, .slice s.pt.v s.nd.vals.length s.pt.vc, .slice s.pt.i s.nd.kids.length s.pt.ic] 55)).heap.size = wr.heap.size + 1 by simp] at this
            obtain ⟨m0, m1, m2, m3, m4, m5, m6⟩ := box_cells (HB.out _ HO1.out.fr)
            go_wp2_with (at_builtin; refine wpList_append_has _ rfl (.tmp 25) (.tmp 29) 27 27 55 55 rfl iR _ 8 120 Tryz.underlying27 Tryz.underlying27 hiR hR0 hR1 hR2 rfl (by omega) (.slice a' j c') j (os.flatMap slC) rfl HO2.out.has (some ⟨wr.heap.size + 1, 0, none⟩) 1 1 (slC (Sl.mk x m q)) rfl rfl HFR.out (slC_one _) (by unfold maxLen; omega) (by omega) ?_; intro a4 c4 w8 ht4 f4 hat4; have HO3 : Hid (Ow (w.alloc (.cells #[.int .i64 m.lev, .int .i64 m.lsn, .int .i64 m.rgt, .string m.high, .slice q.k m.keys.length q.kc, .slice q.v m.vals.length q.vc, .slice q.i m.kids.length q.ic] 34)) w8 (.slice a4 (j + 1) c4) (j + 1) (os ++ [(Sl.mk x m q)])) := HO2.out.next (Sl.mk x m q) HM.out ht4 f4 hat4; have hb8 := HO2.out.apart f4 (P1.blk hbx (fun f => f)) HNB.out; obtain ⟨⟨e0, e1, e2, e3, e4, e5, e6, e7⟩, _⟩ := rec_cells hb8)
            clear m0 m1 m2 m3 m4 m5 m6 q0 q1 q2 q3 q4 q5 q6 q7 ht4 f4 hat4 P1 HO2 HFR hbx
            go_wp2
            go_roundw
            case rel => exact ⟨k + 1, j + 1, true, a4, c4, os ++ [(Sl.mk x m q)], by omega, by go_num, rfl, rfl, by omega, HE2, HO3, fun h => by cases h⟩
            case measure => simp [intOf]; omega
          · have d2 : (s.page != x) = true := by simpa using hne
            have HE2 : Hid (psOf ((os ++ [(Sl.mk x m q)]) ++ [s]) ++ wthF x m true (psOf (ls.drop (k + 1))) = wthF x m false (psOf ls)) := by
              show _ = _
              rw [← HE.out, HW, if_pos ⟨rfl, hge⟩, if_pos hne, d1, ps_snoc, ps_snoc]
              simp
            clear hge hne HE HW HJ HO
            have P1 := Fr.box (wr.alloc (.cells #[.int .i64 s.page, .int .i64 s.nd.lev, .int .i64 s.nd.lsn, .int .i64 s.nd.rgt, .string s.nd.high, .slice s.pt.k s.nd.keys.length s.pt.kc, .slice s.pt.v s.nd.vals.length s.pt.vc, .slice s.pt.i s.nd.kids.length s.pt.ic] 55)) (.cells #[.int .i64 x, .int .i64 m.lev, .int .i64 m.lsn, .int .i64 m.rgt, .string m.high, .slice q.k m.keys.length q.kc, .slice q.v m.vals.length q.vc, .slice q.i m.kids.length q.ic] 55)
            have HO2 : Hid (Ow (w.alloc (.cells #[.int .i64 m.lev, .int .i64 m.lsn, .int .i64 m.rgt, .string m.high, .slice q.k m.keys.length q.kc, .slice q.v m.vals.length q.vc, .slice q.i m.kids.length q.ic] 34)) ((wr.alloc (.cells #[.int .i64 s.page, .int .i64 s.nd.lev, .int .i64 s.nd.lsn, .int .i64 s.nd.rgt, .string s.nd.high, .slice s.pt.k s.nd.keys.length s.pt.kc, .slice s.pt.v s.nd.vals.length s.pt.vc, .slice s.pt.i s.nd.kids.length s.pt.ic] 55)).alloc (.cells #[.int .i64 x, .int .i64 m.lev, .int .i64 m.lsn, .int .i64 m.rgt, .string m.high, .slice q.k m.keys.length q.kc, .slice q.v m.vals.length q.vc, .slice q.i m.kids.length q.ic] 55)) (.slice a' j c') j os) := HO1.out.same P1
            have HFR : Hid (From ((wr.alloc (.cells #[.int .i64 s.page, .int .i64 s.nd.lev, .int .i64 s.nd.lsn, .int .i64 s.nd.rgt, .string s.nd.high, .slice s.pt.k s.nd.keys.length s.pt.kc, .slice s.pt.v s.nd.vals.length s.pt.vc, .slice s.pt.i s.nd.kids.length s.pt.ic] 55)).alloc (.cells #[.int .i64 x, .int .i64 m.lev, .int .i64 m.lsn, .int .i64 m.rgt, .string m.high, .slice q.k m.keys.length q.kc, .slice q.v m.vals.length q.vc, .slice q.i m.kids.length q.ic] 55)) (some ⟨wr.heap.size + 1, 0, none⟩) (slC (Sl.mk x m q))) := by
              have := ow_from (wr := wr.alloc (.cells #[.int .i64 s.page, .int .i64 s.nd.lev, .int .i64 s.nd.lsn, .int .i64 s.nd.rgt, .string s.nd.high, .slice s.pt.k s.nd.keys.length s.pt.kc, .slice s.pt.v s.nd.vals.length s.pt.vc, .slice s.pt.i s.nd.kids.length s.pt.ic] 55)) 55 (Sl.mk x m q)
              rwa [show (wr.alloc (.cells #[.int .i64 s.page, .int .i64 s.nd.lev, .int .i64 s.nd.lsn, .int .i64 s.nd.rgt, .string s.nd.high, .slice s.pt.k s.nd.keys.length s.pt.kc, .slice s.pt.v s.nd.vals.length s.pt.vc, .slice s.pt.i s.nd.kids.length s.pt.ic] 55)).heap.size = wr.heap.size + 1 by simp] at this
            obtain ⟨m0, m1, m2, m3, m4, m5, m6⟩ := box_cells (HB.out _ HO1.out.fr)
            go_wp2_with (first | (at_builtin; refine wpList_append_has _ rfl (.tmp 25) (.tmp 29) 27 27 55 55 rfl iR _ 8 120 Tryz.underlying27 Tryz.underlying27 hiR hR0 hR1 hR2 rfl (by omega) (.slice a' j c') j (os.flatMap slC) rfl HO2.out.has (some ⟨wr.heap.size + 1, 0, none⟩) 1 1 (slC (Sl.mk x m q)) rfl rfl HFR.out (slC_one _) (by unfold maxLen; omega) (by omega) ?_; intro a4 c4 w8 ht4 f4 hat4; have HO3 : Hid (Ow (w.alloc (.cells #[.int .i64 m.lev, .int .i64 m.lsn, .int .i64 m.rgt, .string m.high, .slice q.k m.keys.length q.kc, .slice q.v m.vals.length q.vc, .slice q.i m.kids.length q.ic] 34)) w8 (.slice a4 (j + 1) c4) (j + 1) (os ++ [(Sl.mk x m q)])) := HO2.out.next (Sl.mk x m q) HM.out ht4 f4 hat4; have hb8 := HO2.out.apart f4 (P1.blk hbx (fun f => f)) HNB.out; obtain ⟨⟨e0, e1, e2, e3, e4, e5, e6, e7⟩, _⟩ := rec_cells hb8; have P2 := Fr.box w8 (.cells #[.int .i64 s.page, .int .i64 s.nd.lev, .int .i64 s.nd.lsn, .int .i64 s.nd.rgt, .string s.nd.high, .slice s.pt.k s.nd.keys.length s.pt.kc, .slice s.pt.v s.nd.vals.length s.pt.vc, .slice s.pt.i s.nd.kids.length s.pt.ic] 55); have HO5 : Hid (Ow (w.alloc (.cells #[.int .i64 m.lev, .int .i64 m.lsn, .int .i64 m.rgt, .string m.high, .slice q.k m.keys.length q.kc, .slice q.v m.vals.length q.vc, .slice q.i m.kids.length q.ic] 34)) (w8.alloc (.cells #[.int .i64 s.page, .int .i64 s.nd.lev, .int .i64 s.nd.lsn, .int .i64 s.nd.rgt, .string s.nd.high, .slice s.pt.k s.nd.keys.length s.pt.kc, .slice s.pt.v s.nd.vals.length s.pt.vc, .slice s.pt.i s.nd.kids.length s.pt.ic] 55)) (.slice a4 (j + 1) c4) (j + 1) (os ++ [(Sl.mk x m q)])) := HO3.out.same P2; have HFR2 : Hid (From (w8.alloc (.cells #[.int .i64 s.page, .int .i64 s.nd.lev, .int .i64 s.nd.lsn, .int .i64 s.nd.rgt, .string s.nd.high, .slice s.pt.k s.nd.keys.length s.pt.kc, .slice s.pt.v s.nd.vals.length s.pt.vc, .slice s.pt.i s.nd.kids.length s.pt.ic] 55)) (some ⟨w8.heap.size, 0, none⟩) (slC s)) := ow_from (wr := w8) 55 s) | (at_builtin; refine wpList_append_has _ rfl (.tmp 35) (.tmp 37) 27 27 55 55 rfl iR _ 8 120 Tryz.underlying27 Tryz.underlying27 hiR hR0 hR1 hR2 rfl (by omega) (.slice a4 (j + 1) c4) (j + 1) ((os ++ [(Sl.mk x m q)]).flatMap slC) rfl HO5.out.has (some ⟨w8.heap.size, 0, none⟩) 1 1 (slC s) rfl rfl HFR2.out (slC_one _) (by unfold maxLen; omega) (by omega) ?_; intro a9 c9 w9 ht9 f9 hat9; have HO6 : Hid (Ow (w.alloc (.cells #[.int .i64 m.lev, .int .i64 m.lsn, .int .i64 m.rgt, .string m.high, .slice q.k m.keys.length q.kc, .slice q.v m.vals.length q.vc, .slice q.i m.kids.length q.ic] 34)) w9 (.slice a9 ((j + 1) + 1) c9) ((j + 1) + 1) ((os ++ [(Sl.mk x m q)]) ++ [s])) := HO5.out.next s HSN.out ht9 f9 hat9))
            clear m0 m1 m2 m3 m4 m5 m6 q0 q1 q2 q3 q4 q5 q6 q7 ht4 f4 hat4 P1 HO2 HFR hbx
            clear ht9 f9 hat9 P2 HO5 HFR2
            go_wp2
            go_roundw
            case rel => exact ⟨k + 1, j + 1 + 1, true, a9, c9, (os ++ [(Sl.mk x m q)]) ++ [s], by omega, by go_num, rfl, rfl, by omega, HE2, HO6, fun h => by cases h⟩
            case measure => simp [intOf]; omega
        · have d1 : decide (x ≤ s.page) = false := decide_eq_false hge
          have hne : s.page ≠ x := by omega
          have d2 : (s.page != x) = true := by simpa using hne
          have HE2 : Hid (psOf (os ++ [s]) ++ wthF x m false (psOf (ls.drop (k + 1))) = wthF x m false (psOf ls)) := by
            show _ = _
            rw [← HE.out, HW, if_neg (by simp [hge]), if_pos hne, d1, ps_snoc]
            simp
          clear hge hne HE HW HJ HO
          have P2 := Fr.box (wr.alloc (.cells #[.int .i64 s.page, .int .i64 s.nd.lev, .int .i64 s.nd.lsn, .int .i64 s.nd.rgt, .string s.nd.high, .slice s.pt.k s.nd.keys.length s.pt.kc, .slice s.pt.v s.nd.vals.length s.pt.vc, .slice s.pt.i s.nd.kids.length s.pt.ic] 55)) (.cells #[.int .i64 s.page, .int .i64 s.nd.lev, .int .i64 s.nd.lsn, .int .i64 s.nd.rgt, .string s.nd.high, .slice s.pt.k s.nd.keys.length s.pt.kc, .slice s.pt.v s.nd.vals.length s.pt.vc, .slice s.pt.i s.nd.kids.length s.pt.ic] 55)
          have HO5 : Hid (Ow (w.alloc (.cells #[.int .i64 m.lev, .int .i64 m.lsn, .int .i64 m.rgt, .string m.high, .slice q.k m.keys.length q.kc, .slice q.v m.vals.length q.vc, .slice q.i m.kids.length q.ic] 34)) ((wr.alloc (.cells #[.int .i64 s.page, .int .i64 s.nd.lev, .int .i64 s.nd.lsn, .int .i64 s.nd.rgt, .string s.nd.high, .slice s.pt.k s.nd.keys.length s.pt.kc, .slice s.pt.v s.nd.vals.length s.pt.vc, .slice s.pt.i s.nd.kids.length s.pt.ic] 55)).alloc (.cells #[.int .i64 s.page, .int .i64 s.nd.lev, .int .i64 s.nd.lsn, .int .i64 s.nd.rgt, .string s.nd.high, .slice s.pt.k s.nd.keys.length s.pt.kc, .slice s.pt.v s.nd.vals.length s.pt.vc, .slice s.pt.i s.nd.kids.length s.pt.ic] 55)) (.slice a' j c') j os) := HO1.out.same P2
          have HFR2 : Hid (From ((wr.alloc (.cells #[.int .i64 s.page, .int .i64 s.nd.lev, .int .i64 s.nd.lsn, .int .i64 s.nd.rgt, .string s.nd.high, .slice s.pt.k s.nd.keys.length s.pt.kc, .slice s.pt.v s.nd.vals.length s.pt.vc, .slice s.pt.i s.nd.kids.length s.pt.ic] 55)).alloc (.cells #[.int .i64 s.page, .int .i64 s.nd.lev, .int .i64 s.nd.lsn, .int .i64 s.nd.rgt, .string s.nd.high, .slice s.pt.k s.nd.keys.length s.pt.kc, .slice s.pt.v s.nd.vals.length s.pt.vc, .slice s.pt.i s.nd.kids.length s.pt.ic] 55)) (some ⟨wr.heap.size + 1, 0, none⟩) (slC s)) := by
            have := ow_from (wr := wr.alloc (.cells #[.int .i64 s.page, .int .i64 s.nd.lev, .int .i64 s.nd.lsn, .int .i64 s.nd.rgt, .string s.nd.high, .slice s.pt.k s.nd.keys.length s.pt.kc, .slice s.pt.v s.nd.vals.length s.pt.vc, .slice s.pt.i s.nd.kids.length s.pt.ic] 55)) 55 s
            rwa [show (wr.alloc (.cells #[.int .i64 s.page, .int .i64 s.nd.lev, .int .i64 s.nd.lsn, .int .i64 s.nd.rgt, .string s.nd.high, .slice s.pt.k s.nd.keys.length s.pt.kc, .slice s.pt.v s.nd.vals.length s.pt.vc, .slice s.pt.i s.nd.kids.length s.pt.ic] 55)).heap.size = wr.heap.size + 1 by simp] at this
          go_wp2_with (at_builtin; refine wpList_append_has _ rfl (.tmp 35) (.tmp 37) 27 27 55 55 rfl iR _ 8 120 Tryz.underlying27 Tryz.underlying27 hiR hR0 hR1 hR2 rfl (by omega) (.slice a' j c') j (os.flatMap slC) rfl HO5.out.has (some ⟨wr.heap.size + 1, 0, none⟩) 1 1 (slC s) rfl rfl HFR2.out (slC_one _) (by unfold maxLen; omega) (by omega) ?_; intro a9 c9 w9 ht9 f9 hat9)
          have HO6 : Hid (Ow (w.alloc (.cells #[.int .i64 m.lev, .int .i64 m.lsn, .int .i64 m.rgt, .string m.high, .slice q.k m.keys.length q.kc, .slice q.v m.vals.length q.vc, .slice q.i m.kids.length q.ic] 34)) w9 (.slice a9 (j + 1) c9) (j + 1) (os ++ [s])) := HO5.out.next s HSN.out ht9 f9 hat9
          clear ht9 f9 hat9 P2 HO5 HFR2
          go_wp2
          go_roundw
          case rel => exact ⟨k + 1, j + 1, false, a9, c9, os ++ [s], by omega, by go_num, rfl, rfl, by omega, HE2, HO6, fun _ => by omega⟩
          case measure => simp [intOf]; omega
      · by_cases hne : s.page = x
        · have d2 : (s.page != x) = false := by simpa using hne
          have HE2 : Hid (psOf os ++ wthF x m true (psOf (ls.drop (k + 1))) = wthF x m false (psOf ls)) := by
            show _ = _
            rw [← HE.out, HW, if_neg (by simp), if_neg (by simp [hne])]
            simp
          clear hne HE HW HJ HO
          go_wp2
          go_roundw
          case rel => exact ⟨k + 1, j, true, a', c', os, by omega, by go_num, rfl, rfl, by omega, HE2, HO1, fun h => by cases h⟩
          case measure => simp [intOf]; omega
        · have d2 : (s.page != x) = true := by simpa using hne
          have HE2 : Hid (psOf (os ++ [s]) ++ wthF x m true (psOf (ls.drop (k + 1))) = wthF x m false (psOf ls)) := by
            show _ = _
            rw [← HE.out, HW, if_neg (by simp), if_pos hne, ps_snoc]
            simp
          clear hne HE HW HJ HO
          have P2 := Fr.box (wr.alloc (.cells #[.int .i64 s.page, .int .i64 s.nd.lev, .int .i64 s.nd.lsn, .int .i64 s.nd.rgt, .string s.nd.high, .slice s.pt.k s.nd.keys.length s.pt.kc, .slice s.pt.v s.nd.vals.length s.pt.vc, .slice s.pt.i s.nd.kids.length s.pt.ic] 55)) (.cells #[.int .i64 s.page, .int .i64 s.nd.lev, .int .i64 s.nd.lsn, .int .i64 s.nd.rgt, .string s.nd.high, .slice s.pt.k s.nd.keys.length s.pt.kc, .slice s.pt.v s.nd.vals.length s.pt.vc, .slice s.pt.i s.nd.kids.length s.pt.ic] 55)
          have HO5 : Hid (Ow (w.alloc (.cells #[.int .i64 m.lev, .int .i64 m.lsn, .int .i64 m.rgt, .string m.high, .slice q.k m.keys.length q.kc, .slice q.v m.vals.length q.vc, .slice q.i m.kids.length q.ic] 34)) ((wr.alloc (.cells #[.int .i64 s.page, .int .i64 s.nd.lev, .int .i64 s.nd.lsn, .int .i64 s.nd.rgt, .string s.nd.high, .slice s.pt.k s.nd.keys.length s.pt.kc, .slice s.pt.v s.nd.vals.length s.pt.vc, .slice s.pt.i s.nd.kids.length s.pt.ic] 55)).alloc (.cells #[.int .i64 s.page, .int .i64 s.nd.lev, .int .i64 s.nd.lsn, .int .i64 s.nd.rgt, .string s.nd.high, .slice s.pt.k s.nd.keys.length s.pt.kc, .slice s.pt.v s.nd.vals.length s.pt.vc, .slice s.pt.i s.nd.kids.length s.pt.ic] 55)) (.slice a' j c') j os) := HO1.out.same P2
          have HFR2 : Hid (From ((wr.alloc (.cells #[.int .i64 s.page, .int .i64 s.nd.lev, .int .i64 s.nd.lsn, .int .i64 s.nd.rgt, .string s.nd.high, .slice s.pt.k s.nd.keys.length s.pt.kc, .slice s.pt.v s.nd.vals.length s.pt.vc, .slice s.pt.i s.nd.kids.length s.pt.ic] 55)).alloc (.cells #[.int .i64 s.page, .int .i64 s.nd.lev, .int .i64 s.nd.lsn, .int .i64 s.nd.rgt, .string s.nd.high, .slice s.pt.k s.nd.keys.length s.pt.kc, .slice s.pt.v s.nd.vals.length s.pt.vc, .slice s.pt.i s.nd.kids.length s.pt.ic] 55)) (some ⟨wr.heap.size + 1, 0, none⟩) (slC s)) := by
            have := ow_from (wr := wr.alloc (.cells #[.int .i64 s.page, .int .i64 s.nd.lev, .int .i64 s.nd.lsn, .int .i64 s.nd.rgt, .string s.nd.high, .slice s.pt.k s.nd.keys.length s.pt.kc, .slice s.pt.v s.nd.vals.length s.pt.vc, .slice s.pt.i s.nd.kids.length s.pt.ic] 55)) 55 s
            rwa [show (wr.alloc (.cells #[.int .i64 s.page, .int .i64 s.nd.lev, .int .i64 s.nd.lsn, .int .i64 s.nd.rgt, .string s.nd.high, .slice s.pt.k s.nd.keys.length s.pt.kc, .slice s.pt.v s.nd.vals.length s.pt.vc, .slice s.pt.i s.nd.kids.length s.pt.ic] 55)).heap.size = wr.heap.size + 1 by simp] at this
          go_wp2_with (at_builtin; refine wpList_append_has _ rfl (.tmp 35) (.tmp 37) 27 27 55 55 rfl iR _ 8 120 Tryz.underlying27 Tryz.underlying27 hiR hR0 hR1 hR2 rfl (by omega) (.slice a' j c') j (os.flatMap slC) rfl HO5.out.has (some ⟨wr.heap.size + 1, 0, none⟩) 1 1 (slC s) rfl rfl HFR2.out (slC_one _) (by unfold maxLen; omega) (by omega) ?_; intro a9 c9 w9 ht9 f9 hat9)
          have HO6 : Hid (Ow (w.alloc (.cells #[.int .i64 m.lev, .int .i64 m.lsn, .int .i64 m.rgt, .string m.high, .slice q.k m.keys.length q.kc, .slice q.v m.vals.length q.vc, .slice q.i m.kids.length q.ic] 34)) w9 (.slice a9 (j + 1) c9) (j + 1) (os ++ [s])) := HO5.out.next s HSN.out ht9 f9 hat9
          clear ht9 f9 hat9 P2 HO5 HFR2
          go_wp2
          go_roundw
          case rel => exact ⟨k + 1, j + 1, true, a9, c9, os ++ [s], by omega, by go_num, rfl, rfl, by omega, HE2, HO6, fun h => by cases h⟩
          case measure => simp [intOf]; omega
    · have hdr : psOf (ls.drop k) = [] := by rw [List.drop_of_length_le (by have := HN.out; omega)]; rfl
      cases put
      · have HE2 : Hid (psOf (os ++ [(Sl.mk x m q)]) = wthF x m false (psOf ls)) := by
          show _ = _
          rw [← HE.out, hdr, ps_snoc]; rfl
        have P1 := Fr.box wr (.cells #[.int .i64 x, .int .i64 m.lev, .int .i64 m.lsn, .int .i64 m.rgt, .string m.high, .slice q.k m.keys.length q.kc, .slice q.v m.vals.length q.vc, .slice q.i m.kids.length q.ic] 55)
        have HO2 : Hid (Ow (w.alloc (.cells #[.int .i64 m.lev, .int .i64 m.lsn, .int .i64 m.rgt, .string m.high, .slice q.k m.keys.length q.kc, .slice q.v m.vals.length q.vc, .slice q.i m.kids.length q.ic] 34)) (wr.alloc (.cells #[.int .i64 x, .int .i64 m.lev, .int .i64 m.lsn, .int .i64 m.rgt, .string m.high, .slice q.k m.keys.length q.kc, .slice q.v m.vals.length q.vc, .slice q.i m.kids.length q.ic] 55)) (.slice a' j c') j os) := HO.out.same P1
        have HFR : Hid (From (wr.alloc (.cells #[.int .i64 x, .int .i64 m.lev, .int .i64 m.lsn, .int .i64 m.rgt, .string m.high, .slice q.k m.keys.length q.kc, .slice q.v m.vals.length q.vc, .slice q.i m.kids.length q.ic] 55)) (some ⟨wr.heap.size, 0, none⟩) (slC (Sl.mk x m q))) := ow_from (wr := wr) 55 (Sl.mk x m q)
        obtain ⟨m0, m1, m2, m3, m4, m5, m6⟩ := box_cells (HB.out _ HO.out.fr)
        have hj2 : j ≤ 10001 := by omega
        clear hdr HE HJ HO hj
        go_wp2_with (at_builtin; refine wpList_append_has _ rfl (.tmp 42) (.tmp 46) 27 27 55 55 rfl iR _ 8 120 Tryz.underlying27 Tryz.underlying27 hiR hR0 hR1 hR2 rfl (by omega) (.slice a' j c') j (os.flatMap slC) rfl HO2.out.has (some ⟨wr.heap.size, 0, none⟩) 1 1 (slC (Sl.mk x m q)) rfl rfl HFR.out (slC_one _) (by unfold maxLen; omega) (by omega) ?_; intro a4 c4 w8 ht4 f4 hat4)
        have HO3 : Hid (Ow (w.alloc (.cells #[.int .i64 m.lev, .int .i64 m.lsn, .int .i64 m.rgt, .string m.high, .slice q.k m.keys.length q.kc, .slice q.v m.vals.length q.vc, .slice q.i m.kids.length q.ic] 34)) w8 (.slice a4 (j + 1) c4) (j + 1) (os ++ [(Sl.mk x m q)])) := HO2.out.next (Sl.mk x m q) HM.out ht4 f4 hat4
        have HFIN : Hid (WthOut w (wthF x m false (psOf ls)) (.returned (.slice a4 (j + 1) c4)) w8) := ⟨a4, c4, j + 1, os ++ [(Sl.mk x m q)], rfl, HO3.out.len, HO3.out.has.slots HO3.out.len (fun t ht => (HO3.out.nod t ht).same HO3.out.fr), HE2.out, HF0.out.seq' HO3.out.fr⟩
        clear m0 m1 m2 m3 m4 m5 m6 ht4 f4 hat4 P1 HO2 HFR HO3
        go_wp2
        go_ret
        exact HFIN.out
      · have HFIN : Hid (WthOut w (wthF x m false (psOf ls)) (.returned (.slice a' j c')) wr) := ⟨a', c', j, os, rfl, HO.out.len, HO.out.has.slots HO.out.len (fun t ht => (HO.out.nod t ht).same HO.out.fr), by rw [← HE.out, hdr]; simp [wthF], HF0.out.seq' HO.out.fr⟩
        clear hdr HE HJ HO
        go_wp2
        go_ret
        exact HFIN.out
end Go.Proofs.YtlgceleelhppdaaGreat
