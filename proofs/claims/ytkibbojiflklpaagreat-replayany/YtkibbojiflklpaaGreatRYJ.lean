
/- RyPg17, RyCu, RyBeg. -/
import Derived.Test.YtkibbojiflklpaaGreatRYG
import Derived.Test.YtkibbojiflklpaaGreatRYF
import Derived.Test.YtkibbojiflklpaaGreatRYH
import Derived.Test.YtkibbojiflklpaaGreatRYI
import Derived.Test.YtkibbojiflklpaaGreatRYE
/- Pages as the document's answer has them, and equal pages, as the statement has them. -/
namespace Go.Proofs.YtkibbojiflklpaaGreat
open Go.RowKit

theorem infoZ17 : (Tryz.prog.info? 40).map (fun i => (i.zero, i.size, i.bytes)) = some (some (.agg #[.int .i64 0, .int .i64 0, .int .i64 0, .int .i64 0, .string ⟨#[]⟩, .slice none 0 0, .slice none 0 0, .slice none 0 0]), 8, 120) := by kernel_rfl
set_option maxRecDepth 100000 in
set_option maxHeartbeats 4000000 in
theorem pages17_any (a : Option Addr) (n c : Nat) (ls : List Sl) (hn : n = ls.length) (hf : n ≤ 100000) (w : World) (h : Slots w a c ls) :
    Calls Tryz.prog 18 #[.slice a n c] w fun e w' => SvOut w ls e w' := by
  obtain ⟨iR, hiR, hR0, hR1, hR2⟩ := info_parts infoZ17
  have hle : n ≤ c := by rw [hn]; exact h.le
  have hmx := h.max
  have hnod := h.nod
  have HND : Hid (∀ s ∈ ls, Nod w s.nd s.pt) := hnod
  have HS : Hid (∀ W, Fr (fun _ => False) w W → Slots W a c ls) := fun W f => h.same f
  have HN : Hid (n = ls.length) := hn
  clear h hn hnod
  go_enter Tryz.func18, Tryz.ntmps18
  go_wp2
  go_loopw [8, 3] (fun i o wr => ∃ (k : Nat) (a' : Option Addr) (c' : Nat), k ≤ n ∧ i = .int .i64 k ∧ o = .slice a' k c' ∧ Hid (Has wr 8 (.slice a' k c') k ((ls.take k).flatMap slC)) ∧ Hid (∀ g, (Value.slice a' k c').ownBlock = some g → w.heap.size ≤ g) ∧ Fr (fun _ => False) w wr) (fun i _ _ => n - (intOf i).toNat)
  case atStart => exact ⟨0, none, 0, by omega, rfl, rfl, Has.nil _ _, (fun g e => by cases e), Fr.refl _ _⟩
  case round =>
    obtain ⟨k, a', c', hk, rfl, rfl, HH, HO, F⟩ := hrel
    by_cases hlt : k < n
    · obtain ⟨r, hr⟩ : ∃ r, ls[k]? = some r := ⟨_, List.getElem?_eq_getElem (by have := HN.out; omega)⟩
      obtain ⟨bb, off, rfl, hbb, hcc⟩ := (HS.out _ F).some (by have := HN.out; omega)
      obtain ⟨q0, q1, q2, q3, q4, q5, q6, q7⟩ := sl_range (hcc k r hr)
      have hki : (k : Int) < (n : Int) := by omega
      have HTK : Hid (ls.take (k + 1) = ls.take k ++ [r]) := take_snocR hr
      have P6 := (Fr.box wr (.cells #[.int .i64 r.page, .int .i64 r.nd.lev, .int .i64 r.nd.lsn, .int .i64 r.nd.rgt, .string r.nd.high, .slice r.pt.k r.nd.keys.length r.pt.kc, .slice r.pt.v r.nd.vals.length r.pt.vc, .slice r.pt.i r.nd.kids.length r.pt.ic] 35)).alloc (.cells #[.int .i64 r.page, .int .i64 r.nd.lev, .int .i64 r.nd.lsn, .int .i64 r.nd.rgt, .string r.nd.high, .slice r.pt.k r.nd.keys.length r.pt.kc, .slice r.pt.v r.nd.vals.length r.pt.vc, .slice r.pt.i r.nd.kids.length r.pt.ic] 40)
      have hrow := HH.out.fr P6 (fun _ _ f => f)
      have FF := F.seq' P6
      have HNE : Hid (From ((wr.alloc (.cells #[.int .i64 r.page, .int .i64 r.nd.lev, .int .i64 r.nd.lsn, .int .i64 r.nd.rgt, .string r.nd.high, .slice r.pt.k r.nd.keys.length r.pt.kc, .slice r.pt.v r.nd.vals.length r.pt.vc, .slice r.pt.i r.nd.kids.length r.pt.ic] 35)).alloc (.cells #[.int .i64 r.page, .int .i64 r.nd.lev, .int .i64 r.nd.lsn, .int .i64 r.nd.rgt, .string r.nd.high, .slice r.pt.k r.nd.keys.length r.pt.kc, .slice r.pt.v r.nd.vals.length r.pt.vc, .slice r.pt.i r.nd.kids.length r.pt.ic] 40)) (some ⟨wr.heap.size + 1, 0, none⟩) (slC r)) := .inr ⟨_, _, rfl, by
        have := range_block (heap_alloc_new (wr.alloc (.cells #[.int .i64 r.page, .int .i64 r.nd.lev, .int .i64 r.nd.lsn, .int .i64 r.nd.rgt, .string r.nd.high, .slice r.pt.k r.nd.keys.length r.pt.kc, .slice r.pt.v r.nd.vals.length r.pt.vc, .slice r.pt.i r.nd.kids.length r.pt.ic] 35)) (.cells #[.int .i64 r.page, .int .i64 r.nd.lev, .int .i64 r.nd.lsn, .int .i64 r.nd.rgt, .string r.nd.high, .slice r.pt.k r.nd.keys.length r.pt.kc, .slice r.pt.v r.nd.vals.length r.pt.vc, .slice r.pt.i r.nd.kids.length r.pt.ic] 40)) (xs := slC r) (o := 0) (fun j v hv => by rw [Nat.zero_add]; simpa [slC] using hv)
        rwa [show (wr.alloc (.cells #[.int .i64 r.page, .int .i64 r.nd.lev, .int .i64 r.nd.lsn, .int .i64 r.nd.rgt, .string r.nd.high, .slice r.pt.k r.nd.keys.length r.pt.kc, .slice r.pt.v r.nd.vals.length r.pt.vc, .slice r.pt.i r.nd.kids.length r.pt.ic] 35)).heap.size = wr.heap.size + 1 by simp] at this⟩
      have HRW : Hid (Has ((wr.alloc (.cells #[.int .i64 r.page, .int .i64 r.nd.lev, .int .i64 r.nd.lsn, .int .i64 r.nd.rgt, .string r.nd.high, .slice r.pt.k r.nd.keys.length r.pt.kc, .slice r.pt.v r.nd.vals.length r.pt.vc, .slice r.pt.i r.nd.kids.length r.pt.ic] 35)).alloc (.cells #[.int .i64 r.page, .int .i64 r.nd.lev, .int .i64 r.nd.lsn, .int .i64 r.nd.rgt, .string r.nd.high, .slice r.pt.k r.nd.keys.length r.pt.kc, .slice r.pt.v r.nd.vals.length r.pt.vc, .slice r.pt.i r.nd.kids.length r.pt.ic] 40)) 8 (.slice a' k c') k ((ls.take k).flatMap slC)) := hrow
      clear hr hcc hrow P6
      go_wp2_with (at_builtin; refine wpList_append_has _ rfl (.tmp 12) (.tmp 18) 29 29 40 40 rfl iR _ 8 120 Tryz.underlying29 Tryz.underlying29 hiR hR0 hR1 hR2 rfl (by omega) (.slice a' k c') k ((ls.take k).flatMap slC) rfl HRW.out (some ⟨wr.heap.size + 1, 0, none⟩) 1 1 (slC r) rfl rfl HNE.out (slC_one _) (by unfold maxLen; omega) (by omega) ?_; intro a4 c4 w8 ht4 f34 hat4)
      have HT5 : Hid (Has w8 8 (.slice a4 (k + 1) c4) (k + 1) ((ls.take (k + 1)).flatMap slC)) := by
        show Has _ _ _ _ _
        rw [HTK.out, List.flatMap_append]
        simpa using ht4
      have HO5 : Hid (∀ g, (Value.slice a4 (k + 1) c4).ownBlock = some g → w.heap.size ≤ g) := fun g e => by
        have hz := F.size
        rcases hat4 with h1 | h1
        · rw [h1] at e; exact HO.out g e
        · rw [h1] at e; simp at e; omega
      have F5 : Fr (fun _ => False) w w8 := FF.trans f34 (fun i hi e => by have := HO.out i e.1; omega)
      clear ht4 hat4 f34 FF q0 q1 q2 q3 q4 q5 q6 q7 HRW HNE HTK
      go_wp2
      go_roundw
      case rel => exact ⟨k + 1, a4, c4, by omega, by go_num, rfl, HT5, HO5, F5⟩
      case measure => simp [intOf]; omega
    · obtain rfl : k = n := by omega
      have HFIN : Hid (SvOut w ls (.returned (.slice a' k c')) wr) := by
        have hk := HN.out
        subst hk
        have hh := HH.out
        rw [List.take_of_length_le (by omega)] at hh
        exact ⟨a', c', rfl, ⟨hh, fun s hs => (HND.out s hs).same F, fun s hs => (HND.out s hs).far (fun b hb e => by have := HO.out b e; omega)⟩, F, HO.out⟩
      go_wp2
      go_ret
      exact HFIN.out
set_option maxRecDepth 100000 in
set_option maxHeartbeats 4000000 in
theorem same17_any (a a2 : Option Addr) (n n2 c c2 : Nat) (ls l2 : List Sl) (hn : n = ls.length) (hn2 : n2 = l2.length) (hp : psOf ls = psOf l2) (w : World) (h : Slots w a c ls) (h2 : Slots w a2 c2 l2) :
    Calls Tryz.prog 16 #[.slice a n c, .slice a2 n2 c2] w fun e w' => e = .returned (.bool true) ∧ Fr (fun _ => False) w w' := by
  obtain rfl : n2 = n := by have := congrArg List.length hp; rw [ps_length, ps_length] at this; omega
  have hle : n2 ≤ c := by rw [hn]; exact h.le
  have hmx := h.max
  have hle2 : n2 ≤ c2 := by rw [hn2]; exact h2.le
  have hmx2 := h2.max
  have HS : Hid (∀ W, Fr (fun _ => False) w W → Slots W a c ls) := fun W f => h.same f
  have HS2 : Hid (∀ W, Fr (fun _ => False) w W → Slots W a2 c2 l2) := fun W f => h2.same f
  have HN : Hid (n2 = ls.length) := hn
  have HN2 : Hid (n2 = l2.length) := hn2
  have HP : Hid (psOf ls = psOf l2) := hp
  clear h h2 hn hn2 hp
  go_enter Tryz.func16, Tryz.ntmps16
  go_wp2
  go_loopw [13] (fun i wr => ∃ (k : Nat), k ≤ n2 ∧ i = .int .i64 k ∧ Fr (fun _ => False) w wr) (fun i _ => n2 - (intOf i).toNat)
  case atStart => exact ⟨0, by omega, rfl, Fr.refl _ _⟩
  case round =>
    obtain ⟨k, hk, rfl, F⟩ := hrel
    by_cases hlt : k < n2
    · obtain ⟨s, hs⟩ : ∃ s, ls[k]? = some s := ⟨_, List.getElem?_eq_getElem (by have := HN.out; omega)⟩
      obtain ⟨t, ht⟩ : ∃ t, l2[k]? = some t := ⟨_, List.getElem?_eq_getElem (by have := HN2.out; omega)⟩
      have hst : s.page = t.page ∧ s.nd = t.nd := by
        have := congrArg (fun l => l[k]?) HP.out
        simp only [psOf, List.getElem?_map, hs, ht, Option.map_some, Option.some.injEq, Prod.mk.injEq] at this
        exact this
      obtain ⟨b1, o1, rfl, hb1, hc1⟩ := (HS.out _ F).some (by have := HN.out; omega)
      obtain ⟨b2, o2, rfl, hb2, hc2⟩ := (HS2.out _ F).some (by have := HN2.out; omega)
      obtain ⟨p0, p1, p2, p3, p4, p5, p6, p7⟩ := sl_range (hc1 k s hs)
      obtain ⟨q0, q1, q2, q3, q4, q5, q6, q7⟩ := sl_range (hc2 k t ht)
      have nd1 := (HS.out _ F).nod s (List.mem_of_getElem? hs)
      have nd2 := (HS2.out _ F).nod t (List.mem_of_getElem? ht)
      rw [← hst.1] at q0
      rw [← hst.2] at q1 q2 q3 q4 q5 q6 q7 nd2
      have hpl := fun W (f : Fr (fun _ => False) wr W) => plain_same s.nd s.pt t.pt W (nd1.same f) (nd2.same f)
      have hki : (k : Int) < (n2 : Int) := by omega
      have HQ : Hid (∀ W, Fr (fun _ => False) wr W → (W.cell? ⟨b1, o1 + k * 8, none⟩ = some (.int .i64 s.page) ∧ W.cell? ⟨b1, o1 + k * 8 + 1, none⟩ = some (.int .i64 s.nd.lev) ∧ W.cell? ⟨b1, o1 + k * 8 + 2, none⟩ = some (.int .i64 s.nd.lsn) ∧ W.cell? ⟨b1, o1 + k * 8 + 3, none⟩ = some (.int .i64 s.nd.rgt) ∧ W.cell? ⟨b1, o1 + k * 8 + 4, none⟩ = some (.string s.nd.high) ∧ W.cell? ⟨b1, o1 + k * 8 + 5, none⟩ = some (.slice s.pt.k s.nd.keys.length s.pt.kc) ∧ W.cell? ⟨b1, o1 + k * 8 + 6, none⟩ = some (.slice s.pt.v s.nd.vals.length s.pt.vc) ∧ W.cell? ⟨b1, o1 + k * 8 + 7, none⟩ = some (.slice s.pt.i s.nd.kids.length s.pt.ic)) ∧ (W.cell? ⟨b2, o2 + k * 8, none⟩ = some (.int .i64 s.page) ∧ W.cell? ⟨b2, o2 + k * 8 + 1, none⟩ = some (.int .i64 s.nd.lev) ∧ W.cell? ⟨b2, o2 + k * 8 + 2, none⟩ = some (.int .i64 s.nd.lsn) ∧ W.cell? ⟨b2, o2 + k * 8 + 3, none⟩ = some (.int .i64 s.nd.rgt) ∧ W.cell? ⟨b2, o2 + k * 8 + 4, none⟩ = some (.string s.nd.high) ∧ W.cell? ⟨b2, o2 + k * 8 + 5, none⟩ = some (.slice t.pt.k s.nd.keys.length t.pt.kc) ∧ W.cell? ⟨b2, o2 + k * 8 + 6, none⟩ = some (.slice t.pt.v s.nd.vals.length t.pt.vc) ∧ W.cell? ⟨b2, o2 + k * 8 + 7, none⟩ = some (.slice t.pt.i s.nd.kids.length t.pt.ic))) := fun W f => by
        refine ⟨?_, ?_⟩
        · exact sl_range (range_fr (hc1 k s hs) f (fun f => f))
        · have := sl_range (range_fr (hc2 k t ht) f (fun f => f))
          rw [← hst.1, ← hst.2] at this
          exact this
      have g0 := (Fr.refl (fun _ => False) wr).drew
      clear hs ht hst hc1 hc2 nd1 nd2 p0 p1 p2 p3 p4 p5 p6 p7 q0 q1 q2 q3 q4 q5 q6 q7
      go_wp2_with fail
      go_region_held3 (fun W => (W.cell? ⟨b1, o1 + k * 8, none⟩ = some (.int .i64 s.page) ∧ W.cell? ⟨b1, o1 + k * 8 + 1, none⟩ = some (.int .i64 s.nd.lev) ∧ W.cell? ⟨b1, o1 + k * 8 + 2, none⟩ = some (.int .i64 s.nd.lsn) ∧ W.cell? ⟨b1, o1 + k * 8 + 3, none⟩ = some (.int .i64 s.nd.rgt) ∧ W.cell? ⟨b1, o1 + k * 8 + 4, none⟩ = some (.string s.nd.high) ∧ W.cell? ⟨b1, o1 + k * 8 + 5, none⟩ = some (.slice s.pt.k s.nd.keys.length s.pt.kc) ∧ W.cell? ⟨b1, o1 + k * 8 + 6, none⟩ = some (.slice s.pt.v s.nd.vals.length s.pt.vc) ∧ W.cell? ⟨b1, o1 + k * 8 + 7, none⟩ = some (.slice s.pt.i s.nd.kids.length s.pt.ic)) ∧ (W.cell? ⟨b2, o2 + k * 8, none⟩ = some (.int .i64 s.page) ∧ W.cell? ⟨b2, o2 + k * 8 + 1, none⟩ = some (.int .i64 s.nd.lev) ∧ W.cell? ⟨b2, o2 + k * 8 + 2, none⟩ = some (.int .i64 s.nd.lsn) ∧ W.cell? ⟨b2, o2 + k * 8 + 3, none⟩ = some (.int .i64 s.nd.rgt) ∧ W.cell? ⟨b2, o2 + k * 8 + 4, none⟩ = some (.string s.nd.high) ∧ W.cell? ⟨b2, o2 + k * 8 + 5, none⟩ = some (.slice t.pt.k s.nd.keys.length t.pt.kc) ∧ W.cell? ⟨b2, o2 + k * 8 + 6, none⟩ = some (.slice t.pt.v s.nd.vals.length t.pt.vc) ∧ W.cell? ⟨b2, o2 + k * 8 + 7, none⟩ = some (.slice t.pt.i s.nd.kids.length t.pt.ic)))
        (first | with_reducible exact HQ.out _ g0 | with_reducible exact HQ.out _ g1)
        (first | (go_at_call 36; refine (hpl _ g0).mono ?_; rintro e w1 ⟨rfl, m1⟩; have g1 := g0.seq' m1))
      go_wp2
      go_roundw
      case rel => exact ⟨k + 1, by omega, by go_num, F.seq' g1⟩
      case measure => simp [intOf]; omega
    · obtain rfl : k = n2 := by omega
      go_wp2
      go_ret
      exact ⟨rfl, F⟩
end Go.Proofs.YtkibbojiflklpaaGreat

/- A replay beside the records that it is fed: what each of its calls leaves. -/
namespace Go.Proofs.YtkibbojiflklpaaGreat
open Go.RowKit Go.Shelf

theorem rok_page {r : Rec} (h : rok r = true) : 0 ≤ r.page ∧ r.page ≤ 4096 := by
  have hs : suitB r = true := by
    unfold rok at h
    simp only [Bool.and_eq_true] at h
    exact h.2.2
  unfold suitB at hs
  by_cases e7 : r.kind = 7
  · rw [if_pos e7] at hs
    simp only [Bool.and_eq_true, beq_iff_eq] at hs
    omega
  · rw [if_neg e7] at hs
    simp only [Bool.and_eq_true] at hs
    have h2 := hs.2
    by_cases e1 : r.kind = 1
    · rw [if_pos e1] at h2
      simp only [Bool.and_eq_true, beq_iff_eq] at h2
      omega
    · rw [if_neg e1] at h2
      have hg : pgB r.page = true := by
        by_cases e2 : r.kind = 2
        · rw [if_pos e2] at h2; simp only [Bool.and_eq_true] at h2; exact h2.1
        · rw [if_neg e2] at h2
          by_cases e3 : r.kind = 3
          · rw [if_pos e3] at h2; simp only [Bool.and_eq_true] at h2; exact h2.1
          · rw [if_neg e3] at h2
            by_cases e4 : r.kind = 4
            · rw [if_pos e4] at h2; simp only [Bool.and_eq_true] at h2; exact h2.1
            · rw [if_neg e4] at h2
              by_cases e5 : r.kind = 5 ∨ r.kind = 6
              · rw [if_pos e5] at h2; simp only [Bool.and_eq_true] at h2; exact h2.1
              · rw [if_neg e5] at h2; cases h2
      unfold pgB wthB at hg
      simp only [decide_eq_true_eq] at hg
      omega
/-- What a statement's replay is fed, and where it lies. -/
structure Cx where
  w3 : World
  X : Nat → Prop
  b : Nat
  n0 : Nat
  rs : List Rec
  last : Int
  wk : Nat
  ps : List (Int × Nd)
  qs : List (Int × Nd)
structure Cx.Ok (c : Cx) : Prop where
  far : ∀ k, c.X k → k < c.w3.heap.size
  n0 : c.n0 ≤ 5000
  few : c.rs.length ≤ 100
  l0 : 0 ≤ c.last
  l1 : c.last ≤ 1000
  w1 : 1 ≤ c.wk
  w8 : c.wk ≤ 8
  ok : ∀ r ∈ c.rs, rok r = true
  lsn : ∀ (k : Nat) (r : Rec), c.rs[k]? = some r → r.lsn = c.last + k + 1
  sz : ∀ r ∈ c.rs, r.key.size ≤ 140737488351232 ∧ r.val.size ≤ 140737488351232
  ps : PsOk c.ps
  rt : ∀ p ∈ c.ps, rightB p.2 = true
  rpl : rplP c.ps c.rs = (c.qs, 0)
/-- How it stands: t calls were made, f records fed. -/
def Cu (c : Cx) (t f : Nat) (Q : RSt → Prop) (W : World) : Prop := ∃ S R dn N, N ≤ c.n0 + 2 * t ∧ Ry W S c.b R N ∧ RInv c.rs c.last c.wk (lk c.ps) R dn f ∧ Q R ∧ (∀ k, S k → ¬ c.X k) ∧ Fr (fun k => ¬ c.X k) c.w3 W
section
variable {c : Cx} {t f : Nat} {Q : RSt → Prop} {W : World}
theorem Cu.same {W' : World} (h : Cu c t f Q W) (g : Fr (fun _ => False) W W') : Cu c t f Q W' := by
  obtain ⟨S, R, dn, N, hN, hR, hI, hQ, hS, hF⟩ := h
  exact ⟨S, R, dn, N, hN, hR.same g, hI, hQ, hS, hF.trans g (fun _ _ e => e.elim)⟩
theorem Cu.imp {Q' : RSt → Prop} (h : Cu c t f Q W) (g : ∀ R, Q R → Q' R) : Cu c t f Q' W := by
  obtain ⟨S, R, dn, N, hN, hR, hI, hQ, hS, hF⟩ := h
  exact ⟨S, R, dn, N, hN, hR, hI, g R hQ, hS, hF⟩
theorem Cu.later {t' : Nat} (h : Cu c t f Q W) (ht : t ≤ t') : Cu c t' f Q W := by
  obtain ⟨S, R, dn, N, hN, r⟩ := h
  exact ⟨S, R, dn, N, by omega, r⟩
theorem Cu.fr (h : Cu c t f Q W) : Fr (fun k => ¬ c.X k) c.w3 W := by
  obtain ⟨S, R, dn, N, hN, hR, hI, hQ, hS, hF⟩ := h
  exact hF
theorem Cu.fed (h : Cu c t f Q W) : f ≤ c.rs.length := by
  obtain ⟨S, R, dn, N, hN, hR, hI, hQ, hS, hF⟩ := h
  exact hI.le
theorem Cu.to (hk : c.Ok) {W' : World} {S : Nat → Prop} {R : RSt} {N : Nat} {dn : Nat → Bool} (h : RyTo W S c.b R N W') (hN : N ≤ c.n0 + 2 * t) (hI : RInv c.rs c.last c.wk (lk c.ps) R dn f) (hQ : Q R) (hS : ∀ k, S k → ¬ c.X k) (hF : Fr (fun k => ¬ c.X k) c.w3 W) : Cu c t f Q W' := by
  obtain ⟨S', g1, g2, g3, g4⟩ := h
  refine ⟨S', R, dn, N, hN, g1, hI, hQ, fun k hk' hx => ?_, hF.trans g4 (fun k _ e => hS k e)⟩
  rcases g2 k hk' with e | e
  · exact hS k e hx
  · have := hk.far k hx
    have := hF.size
    omega
theorem Cx.Ok.wkf (hk : c.Ok) : ∀ r ∈ c.rs, realB r = true → wkfR c.wk r < c.wk := fun r hr _ => by
  have hp := rok_page (hk.ok r hr)
  have h1 := hk.w1
  have h2 := Int.tmod_lt_of_pos r.page (show (0 : Int) < (c.wk : Int) by omega)
  have h3 := Int.tmod_nonneg (c.wk : Int) hp.1
  unfold wkfR
  omega
theorem Cx.Ok.all (hk : c.Ok) : AllOk c.rs c.last (lk c.ps) := rpl_ok hk.ps hk.ok hk.lsn hk.rpl
theorem cu_feed (hk : c.Ok) (h : Cu c t f Q W) (ht : t ≤ 10000) {r : Rec} (hr : c.rs[f]? = some r) : Calls Tryz.prog 13 #[.pointer (some ⟨c.b, 0, none⟩), (.agg #[.int .i64 r.lsn, .int .i64 r.ep, .int .i64 r.kind, .int .i64 r.page, .int .i64 r.other, .int .i64 r.req, .string r.key, .string r.val])] W fun e W' => e = .returned (.int .i64 0) ∧ Cu c (t + 1) (f + 1) (fun _ => True) W' := by
  obtain ⟨S, R, dn, N, hN, hR, hI, hQ, hS, hF⟩ := h
  have hrm := List.mem_of_getElem? hr
  have hp := rok_page (hk.ok r hrm)
  have hl := hk.lsn f r hr
  have hfd := hI.fed
  have hle := hI.le
  have h0 := hk.few; have h1 := hk.l0; have h2 := hk.l1; have h3 := hk.n0
  refine (ry_feedg r W hR (by omega) (hk.ok r hrm) (by omega) (by omega) (by omega) (by rw [hI.wkE]; exact hk.w1) (by rw [hI.wkE]; exact hk.w8)).mono ?_
  rintro e W' ⟨rfl, g⟩
  exact ⟨rfl, Cu.to hk g (by omega) (hI.feed hr hl) trivial hS hF⟩
theorem cu_work (hk : c.Ok) (h : Cu c t f Q W) (ht : t ≤ 10000) (i : Nat) (Q' : RSt → Prop) (hq0 : ∀ R : RSt, R.wk = c.wk → Q R → (c.wk ≤ i ∨ R.L i = []) → Q' R) (hq1 : ∀ (R : RSt) x l n, Q R → R.L i = x :: l → Q' (workR R i x l n)) :
    Calls Tryz.prog 14 #[.pointer (some ⟨c.b, 0, none⟩), .int .i64 (i : Int)] W fun e W' => (∃ bo er, e = .returned (.tuple #[.bool bo, .int .i64 er]) ∧ (er = 0 ∨ er = 6)) ∧ Cu c (t + 1) f Q' W' := by
  obtain ⟨S, R, dn, N, hN, hR, hI, hQ, hS, hF⟩ := h
  have h3 := hk.n0
  by_cases hi : i < c.wk
  · have hi' : i < R.wk := by rw [hI.wkE]; exact hi
    cases hL : R.L i with
    | nil =>
      refine (ry_workidle i W hR (by omega) hi' hL).mono ?_
      rintro e W' ⟨rfl, g⟩
      exact ⟨⟨_, _, rfl, .inl rfl⟩, S, R, dn, N, by omega, hR.same g, hI, hq0 R hI.wkE hQ (.inr hL), hS, hF.trans g (fun _ _ e => e.elim)⟩
    | cons x l =>
      obtain ⟨he, k, hI2⟩ := hI.work hk.all hi hL
      obtain ⟨k', r, t', _, hr, _, _, rfl, _⟩ := hI.head hi hL
      have hrm := List.mem_of_getElem? hr
      have hp := rok_page (hk.ok r hrm)
      have hz := hk.sz r hrm
      refine (ry_workg i _ l W hR (by omega) hi' hL (wfK_of (by dsimp only; omega)) hz.1 hz.2 he).mono ?_
      rintro e W' ⟨rfl, g⟩
      exact ⟨⟨_, _, rfl, .inl rfl⟩, Cu.to hk g (by omega) hI2 (hq1 R _ l _ hQ hL) hS hF⟩
  · refine (ry_workno (i : Int) W hR (by rw [hI.wkE]; omega)).mono ?_
    rintro e W' ⟨rfl, rfl⟩
    exact ⟨⟨_, _, rfl, .inr rfl⟩, S, R, dn, N, by omega, hR, hI, hq0 R hI.wkE hQ (.inl (by omega)), hS, hF⟩
theorem cu_point (hk : c.Ok) (h : Cu c t f Q W) (ht : t ≤ 10000) : Calls Tryz.prog 15 #[.pointer (some ⟨c.b, 0, none⟩)] W fun e W' => Fr (fun _ => False) W W' ∧ ((e = .returned (.tuple #[.int .i64 0, .bool false]) ∧ Cu c t f (fun _ => True) W') ∨ ∃ m : Nat, m ≤ f ∧ e = .returned (.tuple #[.int .i64 (c.last + m), .bool true]) ∧ Cu c t f (fun R => ∀ x, R.pg x = ymS c.rs realB (·.page) stpR (lk c.ps) m x) W') := by
  obtain ⟨S, R, dn, N, hN, hR, hI, hQ, hS, hF⟩ := h
  have h3 := hk.n0
  refine (ry_pointv W hR (by omega) (by rw [hI.wkE]; exact hk.w1)).mono ?_
  rintro e W' ⟨rfl, g⟩
  refine ⟨g, ?_⟩
  by_cases hlt : pointR R < R.top
  · rw [if_pos hlt]
    exact .inl ⟨rfl, S, R, dn, N, hN, hR.same g, hI, trivial, hS, hF.trans g (fun _ _ e => e.elim)⟩
  · rw [if_neg hlt]
    obtain ⟨m, h1, h2, h3⟩ := hI.point hk.all hk.wkf hlt
    rw [h2]
    exact .inr ⟨m, h1, rfl, S, R, dn, N, hN, hR.same g, hI, h3, hS, hF.trans g (fun _ _ e => e.elim)⟩
theorem Cx.Ok.lkfew (hk : c.Ok) : ∀ x n, lk c.ps x = some n → Few n := by
  have : ∀ (l : List (Int × Nd)), (∀ p ∈ l, rightB p.2 = true) → ∀ x n, lk l x = some n → Few n := by
    intro l
    induction l with
    | nil => intro _ x n hx; cases hx
    | cons s l ih =>
      intro hl x n hx
      unfold lk at hx
      by_cases e : s.1 = x
      · rw [if_pos e] at hx
        cases hx
        exact rt_few ((right_iff _).1 (hl s (by simp)))
      · rw [if_neg e] at hx
        exact ih (fun p hp => hl p (by simp [hp])) x n hx
  exact this c.ps hk.rt
theorem cu_pages (hk : c.Ok) {m : Nat} (hm : m ≤ c.rs.length) {q : List (Int × Nd)} (hq : rplP c.ps (c.rs.take m) = (q, 0)) (h : Cu c t f (fun R => ∀ x, R.pg x = ymS c.rs realB (·.page) stpR (lk c.ps) m x) W) (ht : t ≤ 10000) :
    Calls Tryz.prog 17 #[.pointer (some ⟨c.b, 0, none⟩)] W fun e W' => ∃ ls, SvOut W ls e W' ∧ psOf ls = q := by
  obtain ⟨S, R, dn, N, hN, hR, hI, hQ, hS, hF⟩ := h
  have h3 := hk.n0
  obtain ⟨q', g1, _, g3, g4⟩ := rpl_take hk.ps hk.ok hk.rpl m hm
  rw [hq] at g1
  cases g1
  exact ry_pagesv q W hR (by omega) (fun x n hx => hk.all.few hk.lkfew m x n (by rw [← hQ x]; exact hx)) g3 (fun x => by rw [hQ x, g4 x])
/-- Behind all: as many records wait for each worker as none. -/
theorem cu_all (hk : c.Ok) (h : Cu c t c.rs.length (fun R => ∀ i, i < c.wk → R.L i = []) W) : Cu c t c.rs.length (fun R => (∀ x, R.pg x = ymS c.rs realB (·.page) stpR (lk c.ps) c.rs.length x) ∧ nextR R = none ∧ doneR R = c.last + c.rs.length) W := by
  obtain ⟨S, R, dn, N, hN, hR, hI, hQ, hS, hF⟩ := h
  obtain ⟨a1, a2, a3⟩ := hI.all hk.wkf hQ
  exact ⟨S, R, dn, N, hN, hR, hI, ⟨a3, a1, a2⟩, hS, hF⟩
theorem cu_done (hk : c.Ok) (h : Cu c t f (fun R => nextR R = none ∧ doneR R = c.last + c.rs.length) W) (ht : t ≤ 10000) : Calls Tryz.prog 19 #[.pointer (some ⟨c.b, 0, none⟩)] W fun e W' => e = .returned (.int .i64 (c.last + c.rs.length)) ∧ Fr (fun _ => False) W W' := by
  obtain ⟨S, R, dn, N, hN, hR, hI, ⟨hQ1, hQ2⟩, hS, hF⟩ := h
  have h3 := hk.n0
  have := ry_donev W hR (by omega) (fun x hx => by rw [hQ1] at hx; cases hx)
  rw [hQ2] at this
  exact this
/-- How many records may wait for a worker when the worker i mod 8 has been asked for each i below n. -/
def askN (L n w : Nat) : Nat := L - (n + 7 - w) / 8
theorem askN_zero (L w : Nat) (hw : w < 8) : askN L 0 w = L := by unfold askN; omega
theorem askN_same (L n w : Nat) (hw : w < 8) (h : n % 8 ≠ w) : askN L (n + 1) w = askN L n w := by unfold askN; omega
theorem askN_next (L n w : Nat) (hw : w < 8) (h : n % 8 = w) : askN L (n + 1) w = askN L n w - 1 := by unfold askN; omega
theorem askN_end (L w : Nat) (hw : w < 8) : askN L (8 * L) w = 0 := by unfold askN; omega
theorem cu_begin (h : Cu c t f Q W) (hk : c.Ok) : Cu c t f (fun R => ∀ i, i < c.wk → (R.L i).length ≤ askN c.rs.length 0 i) W := by
  obtain ⟨S, R, dn, N, hN, hR, hI, hQ, hS, hF⟩ := h
  refine ⟨S, R, dn, N, hN, hR, hI, fun i hi => ?_, hS, hF⟩
  have h8 := hk.w8
  rw [askN_zero _ _ (by omega), hI.que i hi, List.length_map]
  unfold ymQ
  have := List.length_filter_le (fun k => ymW c.rs realB (wkfR c.wk) i k && !dn k) (List.range f)
  rw [List.length_range] at this
  have := hI.le
  omega
theorem cu_turn (hk : c.Ok) {n : Nat} (h : Cu c t f (fun R => ∀ i, i < c.wk → (R.L i).length ≤ askN c.rs.length n i) W) (ht : t ≤ 10000) :
    Calls Tryz.prog 14 #[.pointer (some ⟨c.b, 0, none⟩), .int .i64 ((n % 8 : Nat) : Int)] W fun e W' => (∃ bo er, e = .returned (.tuple #[.bool bo, .int .i64 er]) ∧ (er = 0 ∨ er = 6)) ∧ Cu c (t + 1) f (fun R => ∀ i, i < c.wk → (R.L i).length ≤ askN c.rs.length (n + 1) i) W' := by
  have h8 := hk.w8
  refine cu_work hk h ht (n % 8) _ (fun R _ hq hor i hi => ?_) (fun R x l m hq hL i hi => ?_)
  · by_cases e : n % 8 = i
    · rcases hor with h1 | h1
      · omega
      · rw [e] at h1; rw [h1]; exact Nat.zero_le _
    · rw [askN_same _ _ _ (by omega) e]; exact hq i hi
  · show (qupd R.L (n % 8) l i).length ≤ _
    unfold qupd
    by_cases e : i = n % 8
    · rw [if_pos e, askN_next _ _ _ (by omega) e.symm]
      have := hq i hi
      rw [e, hL, List.length_cons] at this
      rw [e]
      omega
    · rw [if_neg e, askN_same _ _ _ (by omega) (fun h => e h.symm)]; exact hq i hi
theorem cu_end (hk : c.Ok) (h : Cu c t f (fun R => ∀ i, i < c.wk → (R.L i).length ≤ askN c.rs.length (8 * c.rs.length) i) W) : Cu c t f (fun R => ∀ i, i < c.wk → R.L i = []) W := h.imp fun R hq i hi => by
  have h8 := hk.w8
  have := hq i hi
  rw [askN_end _ _ (by omega)] at this
  exact List.eq_nil_of_length_eq_zero (by omega)
end
end Go.Proofs.YtkibbojiflklpaaGreat

/- What the walk of ReplayAny begins with. -/
namespace Go.Proofs.YtkibbojiflklpaaGreat
open Go.RowKit Go.Shelf

theorem Recs.takeY {w : World} {a : Option Addr} {c : Nat} {rs : List Rec} (h : Recs w a c rs) (k : Nat) : Recs w a c (rs.take k) := by
  refine ⟨by have := h.le; rw [List.length_take]; omega, h.max, ?_⟩
  rcases h.at_ with h0 | ⟨b, off, rfl, hb, hc⟩
  · left; rw [h0]; simp
  · refine .inr ⟨b, off, rfl, hb, fun i r hr => ?_⟩
    rw [List.getElem?_take] at hr
    split at hr
    · exact hc i r hr
    · cases hr
theorem three_cells {w : World} {b : Nat} {t : TypeId} {c0 c1 c2 : Value} (h : w.heap[b]? = some (.cells #[c0, c1, c2] t (0, 0))) : w.cell? ⟨b, 0, none⟩ = some c0 ∧ w.cell? ⟨b, 1, none⟩ = some c1 ∧ w.cell? ⟨b, 2, none⟩ = some c2 := by
  refine ⟨?_, ?_, ?_⟩ <;> simp [World.cell?, h]
/-- What stands when the records are laid and the whole is replayed. -/
structure Bg (c : Cx) (w w0 : World) (za : Option Addr) (zc : Nat) (zls : List Sl) (a1 : Option Addr) (c1 : Nat) (aw : Option Addr) (cw : Nat) (lw : List Sl) : Prop where
  ok : c.Ok
  sz : w.heap.size ≤ w0.heap.size
  old : ∀ k, k < w0.heap.size → c.X k
  f0 : Fr (fun _ => False) w w0
  f3 : Fr (fun _ => False) w0 c.w3
  ps : c.ps = psOf zls
  pages : Slots w za zc zls
  ari : ariB 0 c.ps = true
  has : Has c.w3 8 (.slice a1 c.rs.length c1) c.rs.length (c.rs.flatMap recC)
  hasX : ∀ g, (Value.slice a1 c.rs.length c1).ownBlock = some g → c.X g
  want : Sv c.w3 (.slice aw lw.length cw) lw
  wantX : ∀ g, (Value.slice aw lw.length cw).ownBlock = some g → c.X g
  nodX : ∀ s ∈ lw, Off (fun k => ¬ c.X k) s.nd s.pt
  wps : psOf lw = c.qs
section
variable {c : Cx} {w w0 : World} {za : Option Addr} {zc : Nat} {zls : List Sl} {a1 : Option Addr} {c1 : Nat} {aw : Option Addr} {cw : Nat} {lw : List Sl} {t f : Nat} {Q : RSt → Prop} {W : World}
theorem Bg.fr (h : Bg c w w0 za zc zls a1 c1 aw cw lw) (hc : Cu c t f Q W) : Fr (fun _ => False) w0 W := h.f3.trans hc.fr (fun k hk e => e (h.old k hk))
theorem Bg.slots (h : Bg c w w0 za zc zls a1 c1 aw cw lw) (hc : Cu c t f Q W) : Slots W za zc zls := (h.pages.same h.f0).same (h.fr hc)
theorem Bg.recs (h : Bg c w w0 za zc zls a1 c1 aw cw lw) (hc : Cu c t f Q W) : Recs W a1 c1 c.rs := Has.recsR rfl (h.has.fr hc.fr (fun g hg e => e (h.hasX g hg)))
theorem Bg.wants (h : Bg c w w0 za zc zls a1 c1 aw cw lw) (hc : Cu c t f Q W) : Slots W aw cw lw := by
  have : Sv W (.slice aw lw.length cw) lw := ⟨h.want.has.fr hc.fr (fun g hg e => e (h.wantX g hg)), fun s hs => (h.want.nod s hs).frS hc.fr (h.nodX s hs), h.want.off⟩
  exact this.slots rfl
/-- The pages of the replay up to a point. -/
theorem Bg.upto (h : Bg c w w0 za zc zls a1 c1 aw cw lw) (m : Nat) (hm : m ≤ c.rs.length) : ∃ q, rplP c.ps (c.rs.take m) = (q, 0) ∧ rplA (psOf zls) (c.rs.take m) = (q, 0) ∧ PsOk q := by
  obtain ⟨q, h1, _, h3, _⟩ := rpl_take h.ok.ps h.ok.ok h.ok.rpl m hm
  refine ⟨q, h1, ?_, h3⟩
  unfold rplA
  rw [← h.ps, if_pos h.ari]
  exact h1
end
/-- How it begins. -/
theorem bg_make {w0 w1 w2 w3 : World} {w : World} {S : Nat → Prop} {b wk : Nat} {last : Int} {za : Option Addr} {zc : Nat} {zls : List Sl} {L : List Rec} {a1 : Option Addr} {c1 : Nat} {aw : Option Addr} {cw : Nat} {lw : List Sl} {qs : List (Int × Nd)}
    (f0 : Fr (fun _ => False) w w0) (hz : Slots w za zc zls) (har : ariB 0 (psOf zls) = true) (hR : Ry w1 S b (mkR wk last (pgF (psOf zls))) zls.length) (hS : ∀ k, S k → w0.heap.size ≤ k) (f1 : Fr (fun _ => False) w0 w1)
    (hL : Has w2 8 (.slice a1 L.length c1) L.length (L.flatMap recC)) (hLn : ∀ g, (Value.slice a1 L.length c1).ownBlock = some g → w1.heap.size ≤ g) (f2 : Fr (fun _ => False) w1 w2)
    (hv : Sv w3 (.slice aw lw.length cw) lw) (hps : psOf lw = qs) (f3 : Fr (fun _ => False) w2 w3) (hnw : ∀ s ∈ lw, Nw w2 s.pt) (hvn : ∀ g, (Value.slice aw lw.length cw).ownBlock = some g → w2.heap.size ≤ g)
    (hrpl : rplA (psOf zls) L = (qs, 0)) (hfew : L.length ≤ 100) (hl : 0 ≤ last ∧ last ≤ 1000) (hw : 1 ≤ wk ∧ wk ≤ 8) (hok : ∀ r ∈ L, rok r = true) (hlsn : ∀ (k : Nat) (r : Rec), L[k]? = some r → r.lsn = last + k + 1) (hsz : ∀ r ∈ L, r.key.size ≤ 140737488351232 ∧ r.val.size ≤ 140737488351232) :
    ∃ c : Cx, c.b = b ∧ c.rs = L ∧ c.last = last ∧ Bg c w w0 za zc zls a1 c1 aw cw lw ∧ Cu c 0 0 (fun _ => True) w3 := by
  have hps0 := ari_psok har
  have hrp : rplP (psOf zls) L = (qs, 0) := by unfold rplA at hrpl; rwa [if_pos har] at hrpl
  have hf := hps0.few
  rw [ps_length] at hf
  have s1 := f1.size; have s2 := f2.size; have s3 := f3.size
  have hSlt := hR.own.2
  refine ⟨⟨w3, fun k => k < w0.heap.size ∨ (w1.heap.size ≤ k ∧ k < w3.heap.size), b, zls.length, L, last, wk, psOf zls, qs⟩, rfl, rfl, rfl, ⟨⟨fun k hk => by show k < w3.heap.size; rcases hk with h | h <;> omega, by show zls.length ≤ 5000; omega, hfew, hl.1, hl.2, hw.1, hw.2, hok, hlsn, hsz, hps0, (ari_ok 0 _ har).2.2, hrp⟩, f0.size, fun k hk => .inl hk, f0, (f1.seq' f2).seq' f3, rfl, hz, har, hL.fr f3 (fun _ _ e => e), fun g hg => ?_, hv, fun g hg => ?_, fun s hs => ?_, hps⟩, S, _, fun _ => false, zls.length, by show zls.length ≤ zls.length + 2 * 0; omega, hR.same (f2.seq' f3), ?_, trivial, fun k hk hx => ?_, Fr.refl _ _⟩
  · exact .inr ⟨hLn g hg, Nat.lt_of_lt_of_le (hL.lt hg) f3.size⟩
  · exact .inr ⟨by have := hvn g hg; omega, hv.has.lt hg⟩
  · have hn := hv.nod s hs
    have hw2 := hnw s hs
    refine ⟨?_, ?_, ?_⟩
    · rcases hn.keys.at_ with h0 | ⟨g, off, ha, hg, _⟩
      · exact .inl h0
      · exact .inr (fun g' o e hx => hx (.inr ⟨by have := hw2 g' o (.inl e); omega, by rw [ha] at e; cases e; exact hg⟩))
    · rcases hn.vals.at_ with h0 | ⟨g, off, ha, hg, _⟩
      · exact .inl h0
      · exact .inr (fun g' o e hx => hx (.inr ⟨by have := hw2 g' o (.inr (.inl e)); omega, by rw [ha] at e; cases e; exact hg⟩))
    · rcases hn.kids.at_ with h0 | ⟨g, off, ha, hg, _⟩
      · exact .inl h0
      · exact .inr (fun g' o e hx => hx (.inr ⟨by have := hw2 g' o (.inr (.inr e)); omega, by rw [ha] at e; cases e; exact hg⟩))
  · rw [pgF_lk _ hps0.1]
    exact RInv.start _ _ _ _
  · rcases hx with h | h
    · have := hS k hk; omega
    · have := hSlt k hk; omega
end Go.Proofs.YtkibbojiflklpaaGreat
