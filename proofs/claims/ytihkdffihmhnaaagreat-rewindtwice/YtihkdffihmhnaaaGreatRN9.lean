
/- RwPags, RwSame. -/
import Derived.Test.YtihkdffihmhnaaaGreatBB33
/- Pages as the document's answer has them. -/
namespace Go.Proofs.YtihkdffihmhnaaaGreat
open Go.RowKit

set_option maxRecDepth 100000 in
set_option maxHeartbeats 4000000 in
theorem rwpages_any (a : Option Addr) (n c : Nat) (ls : List Sl) (hn : n = ls.length) (hf : n ≤ 100000) (w : World) (h : Slots w a c ls) :
    Calls Tryz.prog 38 #[.slice a n c] w fun e w' => SvOut w ls e w' := by
  obtain ⟨iR, hiR, hR0, hR1, hR2⟩ := info_parts infoZl
  have hle : n ≤ c := by rw [hn]; exact h.le
  have hmx := h.max
  have hnod := h.nod
  have HND : Hid (∀ s ∈ ls, Nod w s.nd s.pt) := hnod
  have HS : Hid (∀ W, Fr (fun _ => False) w W → Slots W a c ls) := fun W f => h.same f
  have HN : Hid (n = ls.length) := hn
  clear h hn hnod
  go_enter Tryz.func38, Tryz.ntmps38
  go_wp2
  go_loopw [8, 3] (fun i o wr => ∃ (k : Nat) (a' : Option Addr) (c' : Nat), k ≤ n ∧ i = .int .i64 k ∧ o = .slice a' k c' ∧ Hid (Has wr 8 (.slice a' k c') k ((ls.take k).flatMap slC)) ∧ Hid (∀ g, (Value.slice a' k c').ownBlock = some g → w.heap.size ≤ g) ∧ Fr (fun _ => False) w wr) (fun i _ _ => n - (intOf i).toNat)
  case atStart => exact ⟨0, none, 0, by omega, rfl, rfl, Has.nil _ _, (fun g e => by cases e), Fr.refl _ _⟩
  case round =>
    obtain ⟨k, a', c', hk, rfl, rfl, HH, HO, F⟩ := hrel
    by_cases hlt : k < n
    · obtain ⟨r, hr⟩ : ∃ r, ls[k]? = some r := ⟨_, List.getElem?_eq_getElem (by have := HN.out; omega)⟩
      obtain ⟨bb, off, rfl, hbb, hcc⟩ := (HS.out _ F).some (by have := HN.out; omega)
      obtain ⟨q0, q1, q2, q3, q4, q5, q6, q7⟩ := sl_range (hcc k r hr)
      have hki : (k : Int) < (n : Int) := by omega
      have HTK : Hid (ls.take (k + 1) = ls.take k ++ [r]) := take_snocR hr
      have P6 := (Fr.box wr (.cells #[.int .i64 r.page, .int .i64 r.nd.lev, .int .i64 r.nd.lsn, .int .i64 r.nd.rgt, .string r.nd.high, .slice r.pt.k r.nd.keys.length r.pt.kc, .slice r.pt.v r.nd.vals.length r.pt.vc, .slice r.pt.i r.nd.kids.length r.pt.ic] 35)).alloc (.cells #[.int .i64 r.page, .int .i64 r.nd.lev, .int .i64 r.nd.lsn, .int .i64 r.nd.rgt, .string r.nd.high, .slice r.pt.k r.nd.keys.length r.pt.kc, .slice r.pt.v r.nd.vals.length r.pt.vc, .slice r.pt.i r.nd.kids.length r.pt.ic] 40)
      have hrow := HH.out.fr P6 (fun _ _ f => f)
      have FF := F.seq' P6
      have HNE : Hid (From ((wr.alloc (.cells #[.int .i64 r.page, .int .i64 r.nd.lev, .int .i64 r.nd.lsn, .int .i64 r.nd.rgt, .string r.nd.high, .slice r.pt.k r.nd.keys.length r.pt.kc, .slice r.pt.v r.nd.vals.length r.pt.vc, .slice r.pt.i r.nd.kids.length r.pt.ic] 35)).alloc (.cells #[.int .i64 r.page, .int .i64 r.nd.lev, .int .i64 r.nd.lsn, .int .i64 r.nd.rgt, .string r.nd.high, .slice r.pt.k r.nd.keys.length r.pt.kc, .slice r.pt.v r.nd.vals.length r.pt.vc, .slice r.pt.i r.nd.kids.length r.pt.ic] 40)) (some ⟨wr.heap.size + 1, 0, none⟩) (slC r)) := .inr ⟨_, _, rfl, by
        have := range_block (heap_alloc_new (wr.alloc (.cells #[.int .i64 r.page, .int .i64 r.nd.lev, .int .i64 r.nd.lsn, .int .i64 r.nd.rgt, .string r.nd.high, .slice r.pt.k r.nd.keys.length r.pt.kc, .slice r.pt.v r.nd.vals.length r.pt.vc, .slice r.pt.i r.nd.kids.length r.pt.ic] 35)) (.cells #[.int .i64 r.page, .int .i64 r.nd.lev, .int .i64 r.nd.lsn, .int .i64 r.nd.rgt, .string r.nd.high, .slice r.pt.k r.nd.keys.length r.pt.kc, .slice r.pt.v r.nd.vals.length r.pt.vc, .slice r.pt.i r.nd.kids.length r.pt.ic] 40)) (xs := slC r) (o := 0) (fun j v hv => by rw [Nat.zero_add]; simpa [slC] using hv)
        rwa [show (wr.alloc (.cells #[.int .i64 r.page, .int .i64 r.nd.lev, .int .i64 r.nd.lsn, .int .i64 r.nd.rgt, .string r.nd.high, .slice r.pt.k r.nd.keys.length r.pt.kc, .slice r.pt.v r.nd.vals.length r.pt.vc, .slice r.pt.i r.nd.kids.length r.pt.ic] 35)).heap.size = wr.heap.size + 1 by simp] at this⟩
      have HRW : Hid (Has ((wr.alloc (.cells #[.int .i64 r.page, .int .i64 r.nd.lev, .int .i64 r.nd.lsn, .int .i64 r.nd.rgt, .string r.nd.high, .slice r.pt.k r.nd.keys.length r.pt.kc, .slice r.pt.v r.nd.vals.length r.pt.vc, .slice r.pt.i r.nd.kids.length r.pt.ic] 35)).alloc (.cells #[.int .i64 r.page, .int .i64 r.nd.lev, .int .i64 r.nd.lsn, .int .i64 r.nd.rgt, .string r.nd.high, .slice r.pt.k r.nd.keys.length r.pt.kc, .slice r.pt.v r.nd.vals.length r.pt.vc, .slice r.pt.i r.nd.kids.length r.pt.ic] 40)) 8 (.slice a' k c') k ((ls.take k).flatMap slC)) := hrow
      clear hr hcc hrow P6
      go_wp2_with (at_builtin; refine wpList_append_has _ rfl (.tmp 12) (.tmp 18) 29 29 40 40 rfl iR _ 8 120 Tryz.underlying29 Tryz.underlying29 hiR hR0 hR1 hR2 rfl (by omega) (.slice a' k c') k ((ls.take k).flatMap slC) rfl HRW.out (some ⟨wr.heap.size + 1, 0, none⟩) 1 1 (slC r) rfl rfl HNE.out (slC_one _) (by unfold maxLen; omega) (by omega) ?_; intro a4 c4 w8 ht4 f34 hat4)
      have HT5 : Hid (Has w8 8 (.slice a4 (k + 1) c4) (k + 1) ((ls.take (k + 1)).flatMap slC)) := by
        show Has _ _ _ _ _
        rw [HTK.out, List.flatMap_append]
        simpa using ht4
      have HO5 : Hid (∀ g, (Value.slice a4 (k + 1) c4).ownBlock = some g → w.heap.size ≤ g) := fun g e => by
        have hz := F.size
        rcases hat4 with h1 | h1
        · rw [h1] at e; exact HO.out g e
        · rw [h1] at e; simp at e; omega
      have F5 : Fr (fun _ => False) w w8 := FF.trans f34 (fun i hi e => by have := HO.out i e.1; omega)
      clear ht4 hat4 f34 FF q0 q1 q2 q3 q4 q5 q6 q7 HRW HNE HTK
      go_wp2
      go_roundw
      case rel => exact ⟨k + 1, a4, c4, by omega, by go_num, rfl, HT5, HO5, F5⟩
      case measure => simp [intOf]; omega
    · obtain rfl : k = n := by omega
      have HFIN : Hid (SvOut w ls (.returned (.slice a' k c')) wr) := by
        have hk := HN.out
        subst hk
        have hh := HH.out
        rw [List.take_of_length_le (by omega)] at hh
        exact ⟨a', c', rfl, ⟨hh, fun s hs => (HND.out s hs).same F, fun s hs => (HND.out s hs).far (fun b hb e => by have := HO.out b e; omega)⟩, F, HO.out⟩
      go_wp2
      go_ret
      exact HFIN.out
end Go.Proofs.YtihkdffihmhnaaaGreat

/- Equal pages. -/
namespace Go.Proofs.YtihkdffihmhnaaaGreat
open Go.RowKit

set_option maxRecDepth 100000 in
set_option maxHeartbeats 4000000 in
theorem rwsame_any (a a2 : Option Addr) (n n2 c c2 : Nat) (ls l2 : List Sl) (hn : n = ls.length) (hn2 : n2 = l2.length) (hp : psOf ls = psOf l2) (w : World) (h : Slots w a c ls) (h2 : Slots w a2 c2 l2) :
    Calls Tryz.prog 37 #[.slice a n c, .slice a2 n2 c2] w fun e w' => e = .returned (.bool true) ∧ Fr (fun _ => False) w w' := by
  obtain rfl : n2 = n := by have := congrArg List.length hp; rw [ps_length, ps_length] at this; omega
  have hle : n2 ≤ c := by rw [hn]; exact h.le
  have hmx := h.max
  have hle2 : n2 ≤ c2 := by rw [hn2]; exact h2.le
  have hmx2 := h2.max
  have HS : Hid (∀ W, Fr (fun _ => False) w W → Slots W a c ls) := fun W f => h.same f
  have HS2 : Hid (∀ W, Fr (fun _ => False) w W → Slots W a2 c2 l2) := fun W f => h2.same f
  have HN : Hid (n2 = ls.length) := hn
  have HN2 : Hid (n2 = l2.length) := hn2
  have HP : Hid (psOf ls = psOf l2) := hp
  clear h h2 hn hn2 hp
  go_enter Tryz.func37, Tryz.ntmps37
  go_wp2
  go_loopw [13] (fun i wr => ∃ (k : Nat), k ≤ n2 ∧ i = .int .i64 k ∧ Fr (fun _ => False) w wr) (fun i _ => n2 - (intOf i).toNat)
  case atStart => exact ⟨0, by omega, rfl, Fr.refl _ _⟩
  case round =>
    obtain ⟨k, hk, rfl, F⟩ := hrel
    by_cases hlt : k < n2
    · obtain ⟨s, hs⟩ : ∃ s, ls[k]? = some s := ⟨_, List.getElem?_eq_getElem (by have := HN.out; omega)⟩
      obtain ⟨t, ht⟩ : ∃ t, l2[k]? = some t := ⟨_, List.getElem?_eq_getElem (by have := HN2.out; omega)⟩
      have hst : s.page = t.page ∧ s.nd = t.nd := by
        have := congrArg (fun l => l[k]?) HP.out
        simp only [psOf, List.getElem?_map, hs, ht, Option.map_some, Option.some.injEq, Prod.mk.injEq] at this
        exact this
      obtain ⟨b1, o1, rfl, hb1, hc1⟩ := (HS.out _ F).some (by have := HN.out; omega)
      obtain ⟨b2, o2, rfl, hb2, hc2⟩ := (HS2.out _ F).some (by have := HN2.out; omega)
      obtain ⟨p0, p1, p2, p3, p4, p5, p6, p7⟩ := sl_range (hc1 k s hs)
      obtain ⟨q0, q1, q2, q3, q4, q5, q6, q7⟩ := sl_range (hc2 k t ht)
      have nd1 := (HS.out _ F).nod s (List.mem_of_getElem? hs)
      have nd2 := (HS2.out _ F).nod t (List.mem_of_getElem? ht)
      rw [← hst.1] at q0
      rw [← hst.2] at q1 q2 q3 q4 q5 q6 q7 nd2
      have hpl := fun W (f : Fr (fun _ => False) wr W) => plain_same s.nd s.pt t.pt W (nd1.same f) (nd2.same f)
      have hki : (k : Int) < (n2 : Int) := by omega
      have HQ : Hid (∀ W, Fr (fun _ => False) wr W → (W.cell? ⟨b1, o1 + k * 8, none⟩ = some (.int .i64 s.page) ∧ W.cell? ⟨b1, o1 + k * 8 + 1, none⟩ = some (.int .i64 s.nd.lev) ∧ W.cell? ⟨b1, o1 + k * 8 + 2, none⟩ = some (.int .i64 s.nd.lsn) ∧ W.cell? ⟨b1, o1 + k * 8 + 3, none⟩ = some (.int .i64 s.nd.rgt) ∧ W.cell? ⟨b1, o1 + k * 8 + 4, none⟩ = some (.string s.nd.high) ∧ W.cell? ⟨b1, o1 + k * 8 + 5, none⟩ = some (.slice s.pt.k s.nd.keys.length s.pt.kc) ∧ W.cell? ⟨b1, o1 + k * 8 + 6, none⟩ = some (.slice s.pt.v s.nd.vals.length s.pt.vc) ∧ W.cell? ⟨b1, o1 + k * 8 + 7, none⟩ = some (.slice s.pt.i s.nd.kids.length s.pt.ic)) ∧ (W.cell? ⟨b2, o2 + k * 8, none⟩ = some (.int .i64 s.page) ∧ W.cell? ⟨b2, o2 + k * 8 + 1, none⟩ = some (.int .i64 s.nd.lev) ∧ W.cell? ⟨b2, o2 + k * 8 + 2, none⟩ = some (.int .i64 s.nd.lsn) ∧ W.cell? ⟨b2, o2 + k * 8 + 3, none⟩ = some (.int .i64 s.nd.rgt) ∧ W.cell? ⟨b2, o2 + k * 8 + 4, none⟩ = some (.string s.nd.high) ∧ W.cell? ⟨b2, o2 + k * 8 + 5, none⟩ = some (.slice t.pt.k s.nd.keys.length t.pt.kc) ∧ W.cell? ⟨b2, o2 + k * 8 + 6, none⟩ = some (.slice t.pt.v s.nd.vals.length t.pt.vc) ∧ W.cell? ⟨b2, o2 + k * 8 + 7, none⟩ = some (.slice t.pt.i s.nd.kids.length t.pt.ic))) := fun W f => by
        refine ⟨?_, ?_⟩
        · exact sl_range (range_fr (hc1 k s hs) f (fun f => f))
        · have := sl_range (range_fr (hc2 k t ht) f (fun f => f))
          rw [← hst.1, ← hst.2] at this
          exact this
      have g0 := (Fr.refl (fun _ => False) wr).drew
      clear hs ht hst hc1 hc2 nd1 nd2 p0 p1 p2 p3 p4 p5 p6 p7 q0 q1 q2 q3 q4 q5 q6 q7
      go_wp2_with fail
      go_region_held3 (fun W => (W.cell? ⟨b1, o1 + k * 8, none⟩ = some (.int .i64 s.page) ∧ W.cell? ⟨b1, o1 + k * 8 + 1, none⟩ = some (.int .i64 s.nd.lev) ∧ W.cell? ⟨b1, o1 + k * 8 + 2, none⟩ = some (.int .i64 s.nd.lsn) ∧ W.cell? ⟨b1, o1 + k * 8 + 3, none⟩ = some (.int .i64 s.nd.rgt) ∧ W.cell? ⟨b1, o1 + k * 8 + 4, none⟩ = some (.string s.nd.high) ∧ W.cell? ⟨b1, o1 + k * 8 + 5, none⟩ = some (.slice s.pt.k s.nd.keys.length s.pt.kc) ∧ W.cell? ⟨b1, o1 + k * 8 + 6, none⟩ = some (.slice s.pt.v s.nd.vals.length s.pt.vc) ∧ W.cell? ⟨b1, o1 + k * 8 + 7, none⟩ = some (.slice s.pt.i s.nd.kids.length s.pt.ic)) ∧ (W.cell? ⟨b2, o2 + k * 8, none⟩ = some (.int .i64 s.page) ∧ W.cell? ⟨b2, o2 + k * 8 + 1, none⟩ = some (.int .i64 s.nd.lev) ∧ W.cell? ⟨b2, o2 + k * 8 + 2, none⟩ = some (.int .i64 s.nd.lsn) ∧ W.cell? ⟨b2, o2 + k * 8 + 3, none⟩ = some (.int .i64 s.nd.rgt) ∧ W.cell? ⟨b2, o2 + k * 8 + 4, none⟩ = some (.string s.nd.high) ∧ W.cell? ⟨b2, o2 + k * 8 + 5, none⟩ = some (.slice t.pt.k s.nd.keys.length t.pt.kc) ∧ W.cell? ⟨b2, o2 + k * 8 + 6, none⟩ = some (.slice t.pt.v s.nd.vals.length t.pt.vc) ∧ W.cell? ⟨b2, o2 + k * 8 + 7, none⟩ = some (.slice t.pt.i s.nd.kids.length t.pt.ic)))
        (first | with_reducible exact HQ.out _ g0 | with_reducible exact HQ.out _ g1)
        (first | (go_at_call 51; refine (hpl _ g0).mono ?_; rintro e w1 ⟨rfl, m1⟩; have g1 := g0.seq' m1))
      go_wp2
      go_roundw
      case rel => exact ⟨k + 1, by omega, by go_num, F.seq' g1⟩
      case measure => simp [intOf]; omega
    · obtain rfl : k = n2 := by omega
      go_wp2
      go_ret
      exact ⟨rfl, F⟩
end Go.Proofs.YtihkdffihmhnaaaGreat
