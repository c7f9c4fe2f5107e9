
/- RdRise, RdPages, RdSame, PgArg. -/
import Derived.Test.YtlgceleelhppdaaGreatDR44
import Derived.Test.YtlgceleelhppdaaGreatDR41
import Derived.Test.YtlgceleelhppdaaGreatDR9
import Derived.Test.YtlgceleelhppdaaGreatDR3
import Derived.SliceStrings
import Derived.Lib.SmallJoins
/- Records with the LSNs 1, 2, 3 and so on. -/
namespace Go.Proofs.YtlgceleelhppdaaGreat
open Go.RowKit

def lsnR (r : Rec) (l : Int) : Rec := ⟨l, r.ep, r.kind, r.page, r.other, r.req, r.key, r.val⟩
def riseR (rs : List Rec) : List Rec := rs.mapIdx (fun i r => lsnR r ((i : Int) + 1))
theorem riseR_length (rs : List Rec) : (riseR rs).length = rs.length := by simp [riseR]
theorem riseR_get {rs : List Rec} {k : Nat} {r : Rec} (h : rs[k]? = some r) : (riseR rs)[k]? = some (lsnR r ((k : Int) + 1)) := by
  unfold riseR; rw [List.getElem?_mapIdx, h]; rfl
theorem infoRc : (Tryz.prog.info? 48).map (fun i => (i.zero, i.size, i.bytes)) = some (some (.agg #[.int .i64 0, .int .i64 0, .int .i64 0, .int .i64 0, .int .i64 0, .int .i64 0, .string ⟨#[]⟩, .string ⟨#[]⟩]), 8, 80) := by kernel_rfl
theorem take_snocR {α : Type} {l : List α} {k : Nat} {x : α} (h : l[k]? = some x) : l.take (k + 1) = l.take k ++ [x] := by
  obtain ⟨h1, h2⟩ := List.getElem?_eq_some_iff.1 h
  rw [List.take_succ_eq_append_getElem h1, h2]
/-- Records of a call's own. -/
def RsOut (w : World) (ls : List Rec) (e : Ending) (w' : World) : Prop := ∃ a c, e = .returned (.slice a ls.length c) ∧ Has w' 8 (.slice a ls.length c) ls.length (ls.flatMap recC) ∧ Fr (fun _ => False) w w' ∧ ∀ k, (Value.slice a ls.length c).ownBlock = some k → w.heap.size ≤ k
end Go.Proofs.YtlgceleelhppdaaGreat

/- Pages as the document's answer has them. -/
namespace Go.Proofs.YtlgceleelhppdaaGreat
open Go.RowKit

theorem infoZl : (Tryz.prog.info? 55).map (fun i => (i.zero, i.size, i.bytes)) = some (some (.agg #[.int .i64 0, .int .i64 0, .int .i64 0, .int .i64 0, .string ⟨#[]⟩, .slice none 0 0, .slice none 0 0, .slice none 0 0]), 8, 120) := by kernel_rfl
set_option maxRecDepth 100000 in
set_option maxHeartbeats 4000000 in
theorem pages_any (a : Option Addr) (n c : Nat) (ls : List Sl) (hn : n = ls.length) (hf : n ≤ 100000) (w : World) (h : Slots w a c ls) :
    Calls Tryz.prog 6 #[.slice a n c] w fun e w' => SvOut w ls e w' := by
  obtain ⟨iR, hiR, hR0, hR1, hR2⟩ := info_parts infoZl
  have hle : n ≤ c := by rw [hn]; exact h.le
  have hmx := h.max
  have hnod := h.nod
  have HND : Hid (∀ s ∈ ls, Nod w s.nd s.pt) := hnod
  have HS : Hid (∀ W, Fr (fun _ => False) w W → Slots W a c ls) := fun W f => h.same f
  have HN : Hid (n = ls.length) := hn
  clear h hn hnod
  go_enter Tryz.func6, Tryz.ntmps6
  go_wp2
  go_loopw [8, 3] (fun i o wr => ∃ (k : Nat) (a' : Option Addr) (c' : Nat), k ≤ n ∧ i = .int .i64 k ∧ o = .slice a' k c' ∧ Hid (Has wr 8 (.slice a' k c') k ((ls.take k).flatMap slC)) ∧ Hid (∀ g, (Value.slice a' k c').ownBlock = some g → w.heap.size ≤ g) ∧ Fr (fun _ => False) w wr) (fun i _ _ => n - (intOf i).toNat)
  case atStart => exact ⟨0, none, 0, by omega, rfl, rfl, Has.nil _ _, (fun g e => by cases e), Fr.refl _ _⟩
  case round =>
    obtain ⟨k, a', c', hk, rfl, rfl, HH, HO, F⟩ := hrel
    by_cases hlt : k < n
    · obtain ⟨r, hr⟩ : ∃ r, ls[k]? = some r := ⟨_, List.getElem?_eq_getElem (by have := HN.out; omega)⟩
      obtain ⟨bb, off, rfl, hbb, hcc⟩ := (HS.out _ F).some (by have := HN.out; omega)
      obtain ⟨q0, q1, q2, q3, q4, q5, q6, q7⟩ := sl_range (hcc k r hr)
      have hki : (k : Int) < (n : Int) := by omega
      have HTK : Hid (ls.take (k + 1) = ls.take k ++ [r]) := take_snocR hr
      have P6 := (Fr.box wr (.cells #[.int .i64 r.page, .int .i64 r.nd.lev, .int .i64 r.nd.lsn, .int .i64 r.nd.rgt, .string r.nd.high, .slice r.pt.k r.nd.keys.length r.pt.kc, .slice r.pt.v r.nd.vals.length r.pt.vc, .slice r.pt.i r.nd.kids.length r.pt.ic] 45)).alloc (.cells #[.int .i64 r.page, .int .i64 r.nd.lev, .int .i64 r.nd.lsn, .int .i64 r.nd.rgt, .string r.nd.high, .slice r.pt.k r.nd.keys.length r.pt.kc, .slice r.pt.v r.nd.vals.length r.pt.vc, .slice r.pt.i r.nd.kids.length r.pt.ic] 55)
      have hrow := HH.out.fr P6 (fun _ _ f => f)
      have FF := F.seq' P6
      have HNE : Hid (From ((wr.alloc (.cells #[.int .i64 r.page, .int .i64 r.nd.lev, .int .i64 r.nd.lsn, .int .i64 r.nd.rgt, .string r.nd.high, .slice r.pt.k r.nd.keys.length r.pt.kc, .slice r.pt.v r.nd.vals.length r.pt.vc, .slice r.pt.i r.nd.kids.length r.pt.ic] 45)).alloc (.cells #[.int .i64 r.page, .int .i64 r.nd.lev, .int .i64 r.nd.lsn, .int .i64 r.nd.rgt, .string r.nd.high, .slice r.pt.k r.nd.keys.length r.pt.kc, .slice r.pt.v r.nd.vals.length r.pt.vc, .slice r.pt.i r.nd.kids.length r.pt.ic] 55)) (some ⟨wr.heap.size + 1, 0, none⟩) (slC r)) := .inr ⟨_, _, rfl, by
        have := range_block (heap_alloc_new (wr.alloc (.cells #[.int .i64 r.page, .int .i64 r.nd.lev, .int .i64 r.nd.lsn, .int .i64 r.nd.rgt, .string r.nd.high, .slice r.pt.k r.nd.keys.length r.pt.kc, .slice r.pt.v r.nd.vals.length r.pt.vc, .slice r.pt.i r.nd.kids.length r.pt.ic] 45)) (.cells #[.int .i64 r.page, .int .i64 r.nd.lev, .int .i64 r.nd.lsn, .int .i64 r.nd.rgt, .string r.nd.high, .slice r.pt.k r.nd.keys.length r.pt.kc, .slice r.pt.v r.nd.vals.length r.pt.vc, .slice r.pt.i r.nd.kids.length r.pt.ic] 55)) (xs := slC r) (o := 0) (fun j v hv => by rw [Nat.zero_add]; simpa [slC] using hv)
        rwa [show (wr.alloc (.cells #[.int .i64 r.page, .int .i64 r.nd.lev, .int .i64 r.nd.lsn, .int .i64 r.nd.rgt, .string r.nd.high, .slice r.pt.k r.nd.keys.length r.pt.kc, .slice r.pt.v r.nd.vals.length r.pt.vc, .slice r.pt.i r.nd.kids.length r.pt.ic] 45)).heap.size = wr.heap.size + 1 by simp] at this⟩
      have HRW : Hid (Has ((wr.alloc (.cells #[.int .i64 r.page, .int .i64 r.nd.lev, .int .i64 r.nd.lsn, .int .i64 r.nd.rgt, .string r.nd.high, .slice r.pt.k r.nd.keys.length r.pt.kc, .slice r.pt.v r.nd.vals.length r.pt.vc, .slice r.pt.i r.nd.kids.length r.pt.ic] 45)).alloc (.cells #[.int .i64 r.page, .int .i64 r.nd.lev, .int .i64 r.nd.lsn, .int .i64 r.nd.rgt, .string r.nd.high, .slice r.pt.k r.nd.keys.length r.pt.kc, .slice r.pt.v r.nd.vals.length r.pt.vc, .slice r.pt.i r.nd.kids.length r.pt.ic] 55)) 8 (.slice a' k c') k ((ls.take k).flatMap slC)) := hrow
      clear hr hcc hrow P6
      go_wp2_with (at_builtin; refine wpList_append_has _ rfl (.tmp 12) (.tmp 18) 27 27 55 55 rfl iR _ 8 120 Tryz.underlying27 Tryz.underlying27 hiR hR0 hR1 hR2 rfl (by omega) (.slice a' k c') k ((ls.take k).flatMap slC) rfl HRW.out (some ⟨wr.heap.size + 1, 0, none⟩) 1 1 (slC r) rfl rfl HNE.out (slC_one _) (by unfold maxLen; omega) (by omega) ?_; intro a4 c4 w8 ht4 f34 hat4)
      have HT5 : Hid (Has w8 8 (.slice a4 (k + 1) c4) (k + 1) ((ls.take (k + 1)).flatMap slC)) := by
        show Has _ _ _ _ _
        rw [HTK.out, List.flatMap_append]
        simpa using ht4
      have HO5 : Hid (∀ g, (Value.slice a4 (k + 1) c4).ownBlock = some g → w.heap.size ≤ g) := fun g e => by
        have hz := F.size
        rcases hat4 with h1 | h1
        · rw [h1] at e; exact HO.out g e
        · rw [h1] at e; simp at e; omega
      have F5 : Fr (fun _ => False) w w8 := FF.trans f34 (fun i hi e => by have := HO.out i e.1; omega)
      clear ht4 hat4 f34 FF q0 q1 q2 q3 q4 q5 q6 q7 HRW HNE HTK
      go_wp2
      go_roundw
      case rel => exact ⟨k + 1, a4, c4, by omega, by go_num, rfl, HT5, HO5, F5⟩
      case measure => simp [intOf]; omega
    · obtain rfl : k = n := by omega
      have HFIN : Hid (SvOut w ls (.returned (.slice a' k c')) wr) := by
        have hk := HN.out
        subst hk
        have hh := HH.out
        rw [List.take_of_length_le (by omega)] at hh
        exact ⟨a', c', rfl, ⟨hh, fun s hs => (HND.out s hs).same F, fun s hs => (HND.out s hs).far (fun b hb e => by have := HO.out b e; omega)⟩, F, HO.out⟩
      go_wp2
      go_ret
      exact HFIN.out
end Go.Proofs.YtlgceleelhppdaaGreat

/- Equal pages. -/
namespace Go.Proofs.YtlgceleelhppdaaGreat
open Go.RowKit

set_option maxRecDepth 100000 in
set_option maxHeartbeats 4000000 in
theorem same_any (a a2 : Option Addr) (n n2 c c2 : Nat) (ls l2 : List Sl) (hn : n = ls.length) (hn2 : n2 = l2.length) (hp : psOf ls = psOf l2) (w : World) (h : Slots w a c ls) (h2 : Slots w a2 c2 l2) :
    Calls Tryz.prog 9 #[.slice a n c, .slice a2 n2 c2] w fun e w' => e = .returned (.bool true) ∧ Fr (fun _ => False) w w' := by
  obtain rfl : n2 = n := by have := congrArg List.length hp; rw [ps_length, ps_length] at this; omega
  have hle : n2 ≤ c := by rw [hn]; exact h.le
  have hmx := h.max
  have hle2 : n2 ≤ c2 := by rw [hn2]; exact h2.le
  have hmx2 := h2.max
  have HS : Hid (∀ W, Fr (fun _ => False) w W → Slots W a c ls) := fun W f => h.same f
  have HS2 : Hid (∀ W, Fr (fun _ => False) w W → Slots W a2 c2 l2) := fun W f => h2.same f
  have HN : Hid (n2 = ls.length) := hn
  have HN2 : Hid (n2 = l2.length) := hn2
  have HP : Hid (psOf ls = psOf l2) := hp
  clear h h2 hn hn2 hp
  go_enter Tryz.func9, Tryz.ntmps9
  go_wp2
  go_loopw [13] (fun i wr => ∃ (k : Nat), k ≤ n2 ∧ i = .int .i64 k ∧ Fr (fun _ => False) w wr) (fun i _ => n2 - (intOf i).toNat)
  case atStart => exact ⟨0, by omega, rfl, Fr.refl _ _⟩
  case round =>
    obtain ⟨k, hk, rfl, F⟩ := hrel
    by_cases hlt : k < n2
    · obtain ⟨s, hs⟩ : ∃ s, ls[k]? = some s := ⟨_, List.getElem?_eq_getElem (by have := HN.out; omega)⟩
      obtain ⟨t, ht⟩ : ∃ t, l2[k]? = some t := ⟨_, List.getElem?_eq_getElem (by have := HN2.out; omega)⟩
      have hst : s.page = t.page ∧ s.nd = t.nd := by
        have := congrArg (fun l => l[k]?) HP.out
        simp only [psOf, List.getElem?_map, hs, ht, Option.map_some, Option.some.injEq, Prod.mk.injEq] at this
        exact this
      obtain ⟨b1, o1, rfl, hb1, hc1⟩ := (HS.out _ F).some (by have := HN.out; omega)
      obtain ⟨b2, o2, rfl, hb2, hc2⟩ := (HS2.out _ F).some (by have := HN2.out; omega)
      obtain ⟨p0, p1, p2, p3, p4, p5, p6, p7⟩ := sl_range (hc1 k s hs)
      obtain ⟨q0, q1, q2, q3, q4, q5, q6, q7⟩ := sl_range (hc2 k t ht)
      have nd1 := (HS.out _ F).nod s (List.mem_of_getElem? hs)
      have nd2 := (HS2.out _ F).nod t (List.mem_of_getElem? ht)
      rw [← hst.1] at q0
      rw [← hst.2] at q1 q2 q3 q4 q5 q6 q7 nd2
      have hpl := fun W (f : Fr (fun _ => False) wr W) => plain_same s.nd s.pt t.pt W (nd1.same f) (nd2.same f)
      have hki : (k : Int) < (n2 : Int) := by omega
      have HQ : Hid (∀ W, Fr (fun _ => False) wr W → (W.cell? ⟨b1, o1 + k * 8, none⟩ = some (.int .i64 s.page) ∧ W.cell? ⟨b1, o1 + k * 8 + 1, none⟩ = some (.int .i64 s.nd.lev) ∧ W.cell? ⟨b1, o1 + k * 8 + 2, none⟩ = some (.int .i64 s.nd.lsn) ∧ W.cell? ⟨b1, o1 + k * 8 + 3, none⟩ = some (.int .i64 s.nd.rgt) ∧ W.cell? ⟨b1, o1 + k * 8 + 4, none⟩ = some (.string s.nd.high) ∧ W.cell? ⟨b1, o1 + k * 8 + 5, none⟩ = some (.slice s.pt.k s.nd.keys.length s.pt.kc) ∧ W.cell? ⟨b1, o1 + k * 8 + 6, none⟩ = some (.slice s.pt.v s.nd.vals.length s.pt.vc) ∧ W.cell? ⟨b1, o1 + k * 8 + 7, none⟩ = some (.slice s.pt.i s.nd.kids.length s.pt.ic)) ∧ (W.cell? ⟨b2, o2 + k * 8, none⟩ = some (.int .i64 s.page) ∧ W.cell? ⟨b2, o2 + k * 8 + 1, none⟩ = some (.int .i64 s.nd.lev) ∧ W.cell? ⟨b2, o2 + k * 8 + 2, none⟩ = some (.int .i64 s.nd.lsn) ∧ W.cell? ⟨b2, o2 + k * 8 + 3, none⟩ = some (.int .i64 s.nd.rgt) ∧ W.cell? ⟨b2, o2 + k * 8 + 4, none⟩ = some (.string s.nd.high) ∧ W.cell? ⟨b2, o2 + k * 8 + 5, none⟩ = some (.slice t.pt.k s.nd.keys.length t.pt.kc) ∧ W.cell? ⟨b2, o2 + k * 8 + 6, none⟩ = some (.slice t.pt.v s.nd.vals.length t.pt.vc) ∧ W.cell? ⟨b2, o2 + k * 8 + 7, none⟩ = some (.slice t.pt.i s.nd.kids.length t.pt.ic))) := fun W f => by
        refine ⟨?_, ?_⟩
        · exact sl_range (range_fr (hc1 k s hs) f (fun f => f))
        · have := sl_range (range_fr (hc2 k t ht) f (fun f => f))
          rw [← hst.1, ← hst.2] at this
          exact this
      have g0 := (Fr.refl (fun _ => False) wr).drew
      clear hs ht hst hc1 hc2 nd1 nd2 p0 p1 p2 p3 p4 p5 p6 p7 q0 q1 q2 q3 q4 q5 q6 q7
      go_wp2_with fail
      go_region_held3 (fun W => (W.cell? ⟨b1, o1 + k * 8, none⟩ = some (.int .i64 s.page) ∧ W.cell? ⟨b1, o1 + k * 8 + 1, none⟩ = some (.int .i64 s.nd.lev) ∧ W.cell? ⟨b1, o1 + k * 8 + 2, none⟩ = some (.int .i64 s.nd.lsn) ∧ W.cell? ⟨b1, o1 + k * 8 + 3, none⟩ = some (.int .i64 s.nd.rgt) ∧ W.cell? ⟨b1, o1 + k * 8 + 4, none⟩ = some (.string s.nd.high) ∧ W.cell? ⟨b1, o1 + k * 8 + 5, none⟩ = some (.slice s.pt.k s.nd.keys.length s.pt.kc) ∧ W.cell? ⟨b1, o1 + k * 8 + 6, none⟩ = some (.slice s.pt.v s.nd.vals.length s.pt.vc) ∧ W.cell? ⟨b1, o1 + k * 8 + 7, none⟩ = some (.slice s.pt.i s.nd.kids.length s.pt.ic)) ∧ (W.cell? ⟨b2, o2 + k * 8, none⟩ = some (.int .i64 s.page) ∧ W.cell? ⟨b2, o2 + k * 8 + 1, none⟩ = some (.int .i64 s.nd.lev) ∧ W.cell? ⟨b2, o2 + k * 8 + 2, none⟩ = some (.int .i64 s.nd.lsn) ∧ W.cell? ⟨b2, o2 + k * 8 + 3, none⟩ = some (.int .i64 s.nd.rgt) ∧ W.cell? ⟨b2, o2 + k * 8 + 4, none⟩ = some (.string s.nd.high) ∧ W.cell? ⟨b2, o2 + k * 8 + 5, none⟩ = some (.slice t.pt.k s.nd.keys.length t.pt.kc) ∧ W.cell? ⟨b2, o2 + k * 8 + 6, none⟩ = some (.slice t.pt.v s.nd.vals.length t.pt.vc) ∧ W.cell? ⟨b2, o2 + k * 8 + 7, none⟩ = some (.slice t.pt.i s.nd.kids.length t.pt.ic)))
        (first | with_reducible exact HQ.out _ g0 | with_reducible exact HQ.out _ g1)
        (first | (go_at_call 10; refine (hpl _ g0).mono ?_; rintro e w1 ⟨rfl, m1⟩; have g1 := g0.seq' m1))
      go_wp2
      go_roundw
      case rel => exact ⟨k + 1, by omega, by go_num, F.seq' g1⟩
      case measure => simp [intOf]; omega
    · obtain rfl : k = n2 := by omega
      go_wp2
      go_ret
      exact ⟨rfl, F⟩
end Go.Proofs.YtlgceleelhppdaaGreat

/- A node that came in. -/
namespace Go.Proofs.YtlgceleelhppdaaGreat
open Go.ChangeShapes Go.WideShapes Go.ChangeAt Go.RowKit

theorem cellsI : Tryz.prog.cellsOf 3 = 1 := by kernel_rfl
theorem cellsS : Tryz.prog.cellsOf 9 = 1 := by kernel_rfl
theorem cellsSs : Tryz.prog.cellsOf 31 = 1 := by kernel_rfl
theorem cellsIs : Tryz.prog.cellsOf 32 = 1 := by kernel_rfl
theorem cellsN : Tryz.prog.cellsOf 34 = 7 := by kernel_rfl
theorem bytesS : Tryz.prog.bytesOf 9 = 16 := by kernel_rfl
theorem bytesI : Tryz.prog.bytesOf 3 = 8 := by kernel_rfl

section
variable {H : Type} {enc : TypeId × Value → H} {w : World} {base : Nat} {spare : Nat → Bool} {held : Bool}

theorem strs_part {fuel : Nat} {c : Value} {x : DataW H × List MemPlace} (h : DataW.trod enc Tryz.prog w base spare held fuel 31 [c] = some x) (hz : ∀ z ∈ x.1.weights Tryz.prog 31, z ≤ reachBytes) :
    ∃ (a : Option Addr) (cap : Nat) (l : List ByteArray), c = .slice a l.length cap ∧ Strs w a cap l ∧ (∀ s ∈ l, s.size ≤ 140737488351232) ∧ l.length ≤ 140737488351232 := by
  rcases open_strings Tryz.underlying31 Tryz.underlying9 cellsS h with ⟨hcs, _⟩ | ⟨y, len, cap, ss, hcs, _, hl, hm, hzz, hx, hcell, hsz⟩
  · simp only [List.cons.injEq, and_true] at hcs
    subst hcs
    exact ⟨none, 0, [], rfl, ⟨by simp, by omega, (fun s hs => by cases hs), .inl rfl⟩, (fun s hs => by cases hs), by simp⟩
  · simp only [List.cons.injEq, and_true] at hcs
    subst hcs
    have hlen : len ≤ ss.length := by rw [hzz]; split <;> omega
    have hll : (ss.take len).length = len := by simp; omega
    have hx1 : x.1 = .slice (strs (ss.take len)) (strs (ss.drop len)) := by rw [hx]
    rw [hx1] at hz
    have w1 := hz (((strs (H := H) (ss.take len)).length + (strs (H := H) (ss.drop len)).length) * Tryz.prog.bytesOf 9) (by simp [DataW.weights, Tryz.underlying31])
    have wl : len ≤ 140737488351232 := by
      rw [bytesS] at w1
      simp only [strs, List.length_map, List.length_take, List.length_drop, reachBytes] at w1
      omega
    have ws : ∀ s ∈ ss.take len, s.size ≤ 140737488351232 := fun s hs => by
      have : s.data.toList.length ∈ DataW.weights Tryz.prog 31 (.slice (strs (H := H) (ss.take len)) (strs (ss.drop len))) := by
        simp only [DataW.weights, Tryz.underlying31, List.mem_cons, List.mem_append]
        refine .inr (.inl ?_)
        have key : ∀ l : List ByteArray, s ∈ l → s.data.toList.length ∈ DataW.weightsAll Tryz.prog 9 (strs (H := H) l) := by
          intro l
          induction l with
          | nil => intro h; cases h
          | cons b r ih =>
            intro h
            simp only [strs, List.map_cons, DataW.weightsAll, List.mem_append]
            rcases List.mem_cons.1 h with rfl | h
            · left; simp [DataW.weights]
            · right; exact ih h
        exact key _ hs
      have := hz _ this
      rw [← Lib.size_eq] at this
      simpa [reachBytes] using this
    refine ⟨some y, cap, ss.take len, by rw [hll], ⟨by omega, by unfold maxLen at hm; omega, fun s hs => hsz s (List.mem_of_mem_take hs), ?_⟩, ws, by omega⟩
    by_cases h0 : len = 0
    · exact .inl (by simp [h0])
    · obtain ⟨b, off, spot⟩ := y
      have hc0 := hcell 0 (by omega)
      have hspot : spot = none := by simpa [Addr.add] using World.cell?_spot hc0
      subst hspot
      refine .inr ⟨b, off, rfl, World.block_lt_of_cell? w ⟨b, off + 0, none⟩ (by rw [Addr.add_lit] at hc0; exact hc0), fun i hi => ?_⟩
      rw [hll] at hi
      have h1 := hcell i (by omega)
      rw [Addr.add_lit] at h1
      rw [h1, List.getD_eq_getElem?_getD, List.getD_eq_getElem?_getD, List.getElem?_take, if_pos hi]
theorem ints_part {fuel : Nat} {c : Value} {x : DataW H × List MemPlace} (h : DataW.trod enc Tryz.prog w base spare held fuel 32 [c] = some x) (hz : ∀ z ∈ x.1.weights Tryz.prog 32, z ≤ reachBytes) :
    ∃ (a : Option Addr) (cap : Nat) (l : List Int), c = .slice a l.length cap ∧ Ints w a cap l ∧ l.length ≤ 140737488351232 := by
  rcases open_ints Tryz.underlying32 Tryz.underlying3 cellsI h with ⟨hcs, _⟩ | ⟨y, len, cap, ss, hcs, _, hl, hm, hzz, hx, hcell, _⟩
  · simp only [List.cons.injEq, and_true] at hcs
    subst hcs
    exact ⟨none, 0, [], rfl, ⟨by simp, by omega, .inl rfl⟩, by simp⟩
  · simp only [List.cons.injEq, and_true] at hcs
    subst hcs
    have hlen : len ≤ ss.length := by rw [hzz]; split <;> omega
    have hll : (ss.take len).length = len := by simp; omega
    have hx1 : x.1 = .slice (lits .i64 (ss.take len)) (lits .i64 (ss.drop len)) := by rw [hx]
    rw [hx1] at hz
    have w1 := hz (((lits (H := H) .i64 (ss.take len)).length + (lits (H := H) .i64 (ss.drop len)).length) * Tryz.prog.bytesOf 3) (by simp [DataW.weights, Tryz.underlying32])
    have wl : len ≤ 140737488351232 := by
      rw [bytesI] at w1
      simp only [lits, List.length_map, List.length_take, List.length_drop, reachBytes] at w1
      omega
    refine ⟨some y, cap, ss.take len, by rw [hll], ⟨by omega, by unfold maxLen at hm; omega, ?_⟩, by omega⟩
    by_cases h0 : len = 0
    · exact .inl (by simp [h0])
    · obtain ⟨b, off, spot⟩ := y
      have hc0 := hcell 0 (by omega)
      have hspot : spot = none := by simpa [Addr.add] using World.cell?_spot hc0
      subst hspot
      refine .inr ⟨b, off, rfl, World.block_lt_of_cell? w ⟨b, off + 0, none⟩ (by rw [Addr.add_lit] at hc0; exact hc0), fun i hi => ?_⟩
      rw [hll] at hi
      have h1 := hcell i (by omega)
      rw [Addr.add_lit] at h1
      rw [h1, List.getD_eq_getElem?_getD, List.getD_eq_getElem?_getD, List.getElem?_take, if_pos hi]

theorem array7 {α : Type} {cs : Array α} (h : cs.size = 7) : ∃ c0 c1 c2 c3 c4 c5 c6, cs = #[c0, c1, c2, c3, c4, c5, c6] := by
  obtain ⟨l⟩ := cs
  match l, h with
  | [c0, c1, c2, c3, c4, c5, c6], _ => exact ⟨c0, c1, c2, c3, c4, c5, c6, rfl⟩
set_option maxRecDepth 100000 in
theorem node_open {r : Reach} {b0 : Nat} {v : Value} {d : DataW H} {pl : List MemPlace} (hv : Value.okWide Tryz.prog w r b0 34 v) (h : DataW.Trod enc Tryz.prog w base spare held 34 v d pl) (hz : ∀ z ∈ d.weights Tryz.prog 34, z ≤ reachBytes) :
    ∃ (n : Nd) (p : Pt), v = (.agg #[.int .i64 n.lev, .int .i64 n.lsn, .int .i64 n.rgt, .string n.high, .slice p.k n.keys.length p.kc, .slice p.v n.vals.length p.vc, .slice p.i n.kids.length p.ic]) ∧ Nod w n p := by
  obtain ⟨cs, rfl, hsz⟩ := okWide_struct Tryz.underlying34 hv
  obtain ⟨c0, c1, c2, c3, c4, c5, c6, rfl⟩ := array7 (hsz.trans cellsN)
  obtain ⟨fuel, hf⟩ := h
  obtain ⟨xs, m, _, hx, hl, hlen, hfs⟩ := DataW.trod_struct Tryz.underlying34 hf
  match xs, hlen with
  | [y0, y1, y2, y3, y4, y5, y6], _ =>
    have t0 := hfs 0 _ rfl
    have t1 := hfs 1 _ rfl
    have t2 := hfs 2 _ rfl
    have t3 := hfs 3 _ rfl
    have t4 := hfs 4 _ rfl
    have t5 := hfs 5 _ rfl
    have t6 := hfs 6 _ rfl
    simp [Value.cells, cellsI, cellsS, cellsSs, cellsIs] at t0 t1 t2 t3 t4 t5 t6
    have hd : d = .agg [y0.1, y1.1, y2.1, y3.1, y4.1, y5.1, y6.1] := by simpa using congrArg Prod.fst hx
    rw [hd] at hz
    simp only [DataW.weights, Tryz.underlying34] at hz
    have z3 : ∀ z ∈ y3.1.weights Tryz.prog 9, z ≤ reachBytes := fun z h => hz z (DataW.weights_mem_each (j := 3) rfl rfl z h)
    have z4 : ∀ z ∈ y4.1.weights Tryz.prog 31, z ≤ reachBytes := fun z h => hz z (DataW.weights_mem_each (j := 4) rfl rfl z h)
    have z5 : ∀ z ∈ y5.1.weights Tryz.prog 31, z ≤ reachBytes := fun z h => hz z (DataW.weights_mem_each (j := 5) rfl rfl z h)
    have z6 : ∀ z ∈ y6.1.weights Tryz.prog 32, z ≤ reachBytes := fun z h => hz z (DataW.weights_mem_each (j := 6) rfl rfl z h)
    obtain ⟨b0, e0, _, _⟩ := DataW.trod_int Tryz.underlying3 t0
    obtain ⟨b1, e1, _, _⟩ := DataW.trod_int Tryz.underlying3 t1
    obtain ⟨b2, e2, _, _⟩ := DataW.trod_int Tryz.underlying3 t2
    obtain ⟨b3, e3, e3', _⟩ := DataW.trod_string Tryz.underlying9 t3
    simp only [List.cons.injEq, and_true] at e0 e1 e2 e3
    subst e0 e1 e2 e3
    rw [e3'] at z3
    have w3 := z3 b3.data.toList.length (by simp [DataW.weights])
    rw [← Lib.size_eq] at w3
    obtain ⟨ak, ck, lk, rfl, s4, s4s, s4l⟩ := strs_part t4 z4
    obtain ⟨av, cv, lv, rfl, s5, s5s, s5l⟩ := strs_part t5 z5
    obtain ⟨ai, ci, li, rfl, s6, s6l⟩ := ints_part t6 z6
    exact ⟨⟨b0, b1, b2, b3, lk, lv, li⟩, ⟨ak, ck, av, cv, ai, ci⟩, rfl, s4, s5, s6, by simpa [reachBytes] using w3, s4s, s5s, s4l, s5l, s6l⟩
end
end Go.Proofs.YtlgceleelhppdaaGreat
