
/- BkIs, BkIs2, BkMap, BkBel. -/
import Derived.Test.YtkibbojiflklpaaGreatRXA
import Derived.Maps.OwnSet
import Derived.Maps.RangeWalk
import Derived.Deep.QuietTactic
import Derived.BigQuiet
/- Whether a page keeps to its low end; whether pages are a row of a level. -/
namespace Go.Proofs.YtkibbojiflklpaaGreat
open Go.RowKit Go.Shelf

def lsB (a b : ByteArray) : Bool := Op.bytesLess a.toList b.toList
def kOk (b : Bool) (low k : ByteArray) : Bool := !(lsB k low || (b && (k.toList == low.toList)))
def keepN (n : Nd) (low : ByteArray) : Bool := n.keys.all (kOk (decide (0 < n.lev)) low) && (n.high.toList.isEmpty || !lsB n.high low)
def keepB (s : Spt) : Bool := keepN s.nd s.low
/-- A row of pages with their low ends, as a walk sees it. -/
structure Spots (w : World) (a : Option Addr) (cap : Nat) (sp : List Spt) : Prop where
  le : sp.length ≤ cap
  max : cap ≤ 9223372036854775807
  at_ : sp = [] ∨ ∃ b off, a = some ⟨b, off, none⟩ ∧ b < w.heap.size ∧ ∀ i s, sp[i]? = some s → w.rangeAt b (off + i * 9) (spC s)
  nod : ∀ s ∈ sp, Nod w s.nd s.pt
theorem Spots.same {w w' : World} {a : Option Addr} {cap : Nat} {sp : List Spt} (h : Spots w a cap sp) (f : Fr (fun _ => False) w w') : Spots w' a cap sp := by
  refine ⟨h.le, h.max, ?_, fun s hs => (h.nod s hs).same f⟩
  rcases h.at_ with h0 | ⟨b, off, rfl, hb, hc⟩
  · exact .inl h0
  · exact .inr ⟨b, off, rfl, Nat.lt_of_lt_of_le hb f.size, fun i r hr => range_fr (hc i r hr) f (fun f => f)⟩
theorem Spots.some {w : World} {a : Option Addr} {cap : Nat} {sp : List Spt} (h : Spots w a cap sp) (hn : 0 < sp.length) : ∃ b off, a = some ⟨b, off, none⟩ ∧ b < w.heap.size ∧ ∀ i s, sp[i]? = some s → w.rangeAt b (off + i * 9) (spC s) := by
  rcases h.at_ with h0 | h
  · rw [h0] at hn; simp at hn
  · exact h
theorem Has.spots {w : World} {a : Option Addr} {n c : Nat} {sp : List Spt} (hn : n = sp.length) (h : Has w 9 (.slice a n c) n (sp.flatMap spC)) (hd : ∀ s ∈ sp, Nod w s.nd s.pt) : Spots w a c sp := by
  subst hn
  obtain ⟨a', c', he, h1, h2⟩ := h.slice
  simp only [Value.slice.injEq, true_and] at he
  obtain ⟨rfl, rfl⟩ := he
  refine ⟨h1, by unfold maxLen at h2; exact h2, ?_, hd⟩
  by_cases h0 : sp.length = 0
  · exact .inl (List.length_eq_zero_iff.1 h0)
  · obtain ⟨g, cap, hv, hg, _⟩ := h.form (by omega)
    simp only [Value.slice.injEq, true_and] at hv
    obtain ⟨rfl, rfl⟩ := hv
    refine .inr ⟨g, 0, rfl, hg, fun i m hm => ?_⟩
    rw [Nat.zero_add]
    exact h.elem spC_length hm
theorem all_next {α : Type} {f : α → Bool} {l : List α} {j : Nat} {x : α} (h : l[j]? = some x) : (l.drop j).all f = (f x && (l.drop (j + 1)).all f) := by
  have hj := (List.getElem?_eq_some_iff.1 h).1
  rw [List.drop_eq_getElem_cons hj, (List.getElem?_eq_some_iff.1 h).2]
  rfl
set_option maxRecDepth 100000 in
set_option maxHeartbeats 4000000 in
theorem keeps_in (page : Int) (nd : Nd) (pk : Option Addr) (kc : Nat) (pv : Option Addr) (vc : Nat) (pi : Option Addr) (ic : Nat) (low : ByteArray) (e2 : decide (0 < nd.lev) = true) (w : World) (hN : Nod w nd ⟨pk, kc, pv, vc, pi, ic⟩) : Calls Tryz.prog 136 #[(.agg #[.int .i64 page, .int .i64 nd.lev, .int .i64 nd.lsn, .int .i64 nd.rgt, .string nd.high, .slice pk nd.keys.length kc, .slice pv nd.vals.length vc, .slice pi nd.kids.length ic, .string low])] w fun e w' => e = .returned (.bool (keepN nd low)) ∧ Fr (fun _ => False) w w' := by
  have hle := hN.keys.le
  have hmx := hN.keys.max
  have f0 := Fr.box w (.cells #[.int .i64 page, .int .i64 nd.lev, .int .i64 nd.lsn, .int .i64 nd.rgt, .string nd.high, .slice pk nd.keys.length kc, .slice pv nd.vals.length vc, .slice pi nd.kids.length ic, .string low] 194)
  have HB : Hid (∀ W, Fr (fun _ => False) (w.alloc (.cells #[.int .i64 page, .int .i64 nd.lev, .int .i64 nd.lsn, .int .i64 nd.rgt, .string nd.high, .slice pk nd.keys.length kc, .slice pv nd.vals.length vc, .slice pi nd.kids.length ic, .string low] 194)) W → W.heap[w.heap.size]? = some (.cells #[.int .i64 page, .int .i64 nd.lev, .int .i64 nd.lsn, .int .i64 nd.rgt, .string nd.high, .slice pk nd.keys.length kc, .slice pv nd.vals.length vc, .slice pi nd.kids.length ic, .string low] 194 (0, 0))) := fun W f => f.blk (heap_alloc_new w _) (fun f => f)
  have HK : Hid (∀ W, Fr (fun _ => False) (w.alloc (.cells #[.int .i64 page, .int .i64 nd.lev, .int .i64 nd.lsn, .int .i64 nd.rgt, .string nd.high, .slice pk nd.keys.length kc, .slice pv nd.vals.length vc, .slice pi nd.kids.length ic, .string low] 194)) W → Strs W pk kc nd.keys) := fun W f => (hN.keys.same f0).same f
  have HEN : Hid (keepN nd low = (nd.keys.all (kOk true low) && (nd.high.toList.isEmpty || !lsB nd.high low))) := by show _ = _; unfold keepN; rw [e2]
  clear hN
  go_enter Tryz.func136, Tryz.ntmps136
  go_wp2
  go_loopw [14] (fun i wr => ∃ (k : Nat), k ≤ nd.keys.length ∧ i = .int .i64 k ∧ Hid ((nd.keys.drop k).all (kOk true low) = nd.keys.all (kOk true low)) ∧ Fr (fun _ => False) (w.alloc (.cells #[.int .i64 page, .int .i64 nd.lev, .int .i64 nd.lsn, .int .i64 nd.rgt, .string nd.high, .slice pk nd.keys.length kc, .slice pv nd.vals.length vc, .slice pi nd.kids.length ic, .string low] 194)) wr) (fun i _ => nd.keys.length - (intOf i).toNat)
  case atStart => exact ⟨0, by omega, rfl, rfl, Fr.refl _ _⟩
  case round =>
    obtain ⟨k, hk, rfl, HE, F⟩ := hrel
    obtain ⟨c0, c1, c2, c3, c4, c5, c6, c7, c8⟩ := nine_cells (HB.out _ F)
    by_cases hlt : k < nd.keys.length
    · obtain ⟨bk, ok, rfl, hbk, hck⟩ := strs_some (HK.out _ F) (k := k) (by omega)
      have q0 := hck k (by omega)
      have hsk : nd.keys[k]? = some (nd.keys.getD k ByteArray.empty) := by rw [List.getD_eq_getElem?_getD, List.getElem?_eq_getElem (by omega)]; rfl
      obtain ⟨x, hx⟩ : ∃ x, x = nd.keys.getD k ByteArray.empty := ⟨_, rfl⟩
      rw [← hx] at q0 hsk
      have HX : Hid ((nd.keys.drop k).all (kOk true low) = (kOk true low x && (nd.keys.drop (k + 1)).all (kOk true low))) := all_next hsk
      have HKO : Hid (kOk true low x = !(Op.bytesLess x.toList low.toList || (true && (x.toList == low.toList)))) := rfl
      have hki : (k : Int) < (nd.keys.length : Int) := by omega
      clear hx hck hsk
      obtain ⟨b1, h1⟩ : ∃ b, b = Op.bytesLess x.toList low.toList := ⟨_, rfl⟩
      obtain ⟨b3, h3⟩ : ∃ b, b = (x.toList == low.toList) := ⟨_, rfl⟩
      rw [← h1, ← h3] at HKO
      have e1 := h1.symm
      have e3 := h3.symm
      clear h1 h3

      cases b1
      · cases b3
        · have HR : Hid ((nd.keys.drop (k + 1)).all (kOk true low) = nd.keys.all (kOk true low)) := by show _ = _; rw [← HE.out, HX.out, HKO.out]; rfl
          go_wp2
          go_roundw
          case rel => exact ⟨k + 1, by omega, by go_num, HR, F⟩
          case measure => simp [intOf]; omega
        · have HR : Hid (keepN nd low = false) := by show _ = _; rw [HEN.out, ← HE.out, HX.out, HKO.out]; rfl
          go_wp2
          go_ret
          exact ⟨ret_bool HR.out.symm, f0.seq' F⟩
      · have HR : Hid (keepN nd low = false) := by show _ = _; rw [HEN.out, ← HE.out, HX.out, HKO.out]; rfl
        go_wp2
        go_ret
        exact ⟨ret_bool HR.out.symm, f0.seq' F⟩
    · have HR : Hid (keepN nd low = (nd.high.toList.isEmpty || !Op.bytesLess nd.high.toList low.toList)) := by
        show _ = _
        rw [HEN.out, ← HE.out, List.drop_of_length_le (by omega)]; rfl
      obtain ⟨b1, h1⟩ : ∃ b, b = nd.high.toList.isEmpty := ⟨_, rfl⟩
      obtain ⟨b2, h2⟩ : ∃ b, b = Op.bytesLess nd.high.toList low.toList := ⟨_, rfl⟩
      rw [← h1, ← h2] at HR
      have e1 := h1.symm
      have e2 := h2.symm
      clear h1 h2
      cases b1 <;> cases b2 <;>
        (go_wp2
         go_ret
         exact ⟨ret_bool HR.out.symm, f0.seq' F⟩)
set_option maxRecDepth 100000 in
set_option maxHeartbeats 4000000 in
theorem keeps_leaf (page : Int) (nd : Nd) (pk : Option Addr) (kc : Nat) (pv : Option Addr) (vc : Nat) (pi : Option Addr) (ic : Nat) (low : ByteArray) (e2 : decide (0 < nd.lev) = false) (w : World) (hN : Nod w nd ⟨pk, kc, pv, vc, pi, ic⟩) : Calls Tryz.prog 136 #[(.agg #[.int .i64 page, .int .i64 nd.lev, .int .i64 nd.lsn, .int .i64 nd.rgt, .string nd.high, .slice pk nd.keys.length kc, .slice pv nd.vals.length vc, .slice pi nd.kids.length ic, .string low])] w fun e w' => e = .returned (.bool (keepN nd low)) ∧ Fr (fun _ => False) w w' := by
  have hle := hN.keys.le
  have hmx := hN.keys.max
  have f0 := Fr.box w (.cells #[.int .i64 page, .int .i64 nd.lev, .int .i64 nd.lsn, .int .i64 nd.rgt, .string nd.high, .slice pk nd.keys.length kc, .slice pv nd.vals.length vc, .slice pi nd.kids.length ic, .string low] 194)
  have HB : Hid (∀ W, Fr (fun _ => False) (w.alloc (.cells #[.int .i64 page, .int .i64 nd.lev, .int .i64 nd.lsn, .int .i64 nd.rgt, .string nd.high, .slice pk nd.keys.length kc, .slice pv nd.vals.length vc, .slice pi nd.kids.length ic, .string low] 194)) W → W.heap[w.heap.size]? = some (.cells #[.int .i64 page, .int .i64 nd.lev, .int .i64 nd.lsn, .int .i64 nd.rgt, .string nd.high, .slice pk nd.keys.length kc, .slice pv nd.vals.length vc, .slice pi nd.kids.length ic, .string low] 194 (0, 0))) := fun W f => f.blk (heap_alloc_new w _) (fun f => f)
  have HK : Hid (∀ W, Fr (fun _ => False) (w.alloc (.cells #[.int .i64 page, .int .i64 nd.lev, .int .i64 nd.lsn, .int .i64 nd.rgt, .string nd.high, .slice pk nd.keys.length kc, .slice pv nd.vals.length vc, .slice pi nd.kids.length ic, .string low] 194)) W → Strs W pk kc nd.keys) := fun W f => (hN.keys.same f0).same f
  have HEN : Hid (keepN nd low = (nd.keys.all (kOk false low) && (nd.high.toList.isEmpty || !lsB nd.high low))) := by show _ = _; unfold keepN; rw [e2]
  clear hN
  go_enter Tryz.func136, Tryz.ntmps136
  go_wp2
  go_loopw [14] (fun i wr => ∃ (k : Nat), k ≤ nd.keys.length ∧ i = .int .i64 k ∧ Hid ((nd.keys.drop k).all (kOk false low) = nd.keys.all (kOk false low)) ∧ Fr (fun _ => False) (w.alloc (.cells #[.int .i64 page, .int .i64 nd.lev, .int .i64 nd.lsn, .int .i64 nd.rgt, .string nd.high, .slice pk nd.keys.length kc, .slice pv nd.vals.length vc, .slice pi nd.kids.length ic, .string low] 194)) wr) (fun i _ => nd.keys.length - (intOf i).toNat)
  case atStart => exact ⟨0, by omega, rfl, rfl, Fr.refl _ _⟩
  case round =>
    obtain ⟨k, hk, rfl, HE, F⟩ := hrel
    obtain ⟨c0, c1, c2, c3, c4, c5, c6, c7, c8⟩ := nine_cells (HB.out _ F)
    by_cases hlt : k < nd.keys.length
    · obtain ⟨bk, ok, rfl, hbk, hck⟩ := strs_some (HK.out _ F) (k := k) (by omega)
      have q0 := hck k (by omega)
      have hsk : nd.keys[k]? = some (nd.keys.getD k ByteArray.empty) := by rw [List.getD_eq_getElem?_getD, List.getElem?_eq_getElem (by omega)]; rfl
      obtain ⟨x, hx⟩ : ∃ x, x = nd.keys.getD k ByteArray.empty := ⟨_, rfl⟩
      rw [← hx] at q0 hsk
      have HX : Hid ((nd.keys.drop k).all (kOk false low) = (kOk false low x && (nd.keys.drop (k + 1)).all (kOk false low))) := all_next hsk
      have HKO : Hid (kOk false low x = !(Op.bytesLess x.toList low.toList || (false && (x.toList == low.toList)))) := rfl
      have hki : (k : Int) < (nd.keys.length : Int) := by omega
      clear hx hck hsk
      obtain ⟨b1, h1⟩ : ∃ b, b = Op.bytesLess x.toList low.toList := ⟨_, rfl⟩
      obtain ⟨b3, h3⟩ : ∃ b, b = (x.toList == low.toList) := ⟨_, rfl⟩
      rw [← h1, ← h3] at HKO
      have e1 := h1.symm
      have e3 := h3.symm
      clear h1 h3

      cases b1
      · have HR : Hid ((nd.keys.drop (k + 1)).all (kOk false low) = nd.keys.all (kOk false low)) := by show _ = _; rw [← HE.out, HX.out, HKO.out]; rfl
        go_wp2
        go_roundw
        case rel => exact ⟨k + 1, by omega, by go_num, HR, F⟩
        case measure => simp [intOf]; omega
      · have HR : Hid (keepN nd low = false) := by show _ = _; rw [HEN.out, ← HE.out, HX.out, HKO.out]; rfl
        go_wp2
        go_ret
        exact ⟨ret_bool HR.out.symm, f0.seq' F⟩
    · have HR : Hid (keepN nd low = (nd.high.toList.isEmpty || !Op.bytesLess nd.high.toList low.toList)) := by
        show _ = _
        rw [HEN.out, ← HE.out, List.drop_of_length_le (by omega)]; rfl
      obtain ⟨b1, h1⟩ : ∃ b, b = nd.high.toList.isEmpty := ⟨_, rfl⟩
      obtain ⟨b2, h2⟩ : ∃ b, b = Op.bytesLess nd.high.toList low.toList := ⟨_, rfl⟩
      rw [← h1, ← h2] at HR
      have e1 := h1.symm
      have e2 := h2.symm
      clear h1 h2
      cases b1 <;> cases b2 <;>
        (go_wp2
         go_ret
         exact ⟨ret_bool HR.out.symm, f0.seq' F⟩)
theorem keeps_any (s : Spt) (w : World) (hN : Nod w s.nd s.pt) : Calls Tryz.prog 136 #[(.agg #[.int .i64 s.page, .int .i64 s.nd.lev, .int .i64 s.nd.lsn, .int .i64 s.nd.rgt, .string s.nd.high, .slice s.pt.k s.nd.keys.length s.pt.kc, .slice s.pt.v s.nd.vals.length s.pt.vc, .slice s.pt.i s.nd.kids.length s.pt.ic, .string s.low])] w fun e w' => e = .returned (.bool (keepB s)) ∧ Fr (fun _ => False) w w' := by
  obtain ⟨page, nd, ⟨pk, kc, pv, vc, pi, ic⟩, low⟩ := s
  cases h : decide (0 < nd.lev)
  · exact keeps_leaf page nd pk kc pv vc pi ic low h w hN
  · exact keeps_in page nd pk kc pv vc pi ic low h w hN
end Go.Proofs.YtkibbojiflklpaaGreat

/- Whether pages are a whole row of a level. -/
namespace Go.Proofs.YtkibbojiflklpaaGreat
open Go.RowKit Go.Shelf

def isRowB : List Spt → Int → Bool
  | [], _ => true
  | s :: r, lev => (s.nd.lev == lev) && (((s.nd.rgt == 0) == r.isEmpty) && ((s.nd.high.toList.isEmpty == r.isEmpty) && (keepB s && isRowB r lev)))
theorem isRow_next {sp : List Spt} {k n : Nat} {s : Spt} (lev : Int) (hn : n = sp.length) (h : sp[k]? = some s) : isRowB (sp.drop k) lev = ((s.nd.lev == lev) && (((s.nd.rgt == 0) == decide (k + 1 = n)) && ((s.nd.high.toList.isEmpty == decide (k + 1 = n)) && (keepB s && isRowB (sp.drop (k + 1)) lev)))) := by
  have hj := (List.getElem?_eq_some_iff.1 h).1
  rw [List.drop_eq_getElem_cons hj, (List.getElem?_eq_some_iff.1 h).2]
  have he : (sp.drop (k + 1)).isEmpty = decide (k + 1 = n) := by
    rw [Bool.eq_iff_iff, List.isEmpty_iff, List.drop_eq_nil_iff, decide_eq_true_eq]; omega
  simp only [isRowB]
  rw [he]
set_option maxRecDepth 100000 in
set_option maxHeartbeats 8000000 in
theorem isRow_any (a : Option Addr) (n c : Nat) (sp : List Spt) (hn : n = sp.length) (lev : Int) (w : World) (h : Spots w a c sp) : Calls Tryz.prog 96 #[.slice a n c, .int .i64 lev] w fun e w' => e = .returned (.bool (isRowB sp lev)) ∧ Fr (fun _ => False) w w' := by
  have hle : n ≤ c := by rw [hn]; exact h.le
  have hmx := h.max
  have HS : Hid (∀ W, Fr (fun _ => False) w W → Spots W a c sp) := fun W f => h.same f
  have HN : Hid (n = sp.length) := hn
  clear h hn
  go_enter Tryz.func96, Tryz.ntmps96
  go_wp2
  go_loopw [10] (fun i wr => ∃ (k : Nat), k ≤ n ∧ i = .int .i64 k ∧ Hid (isRowB (sp.drop k) lev = isRowB sp lev) ∧ Fr (fun _ => False) w wr) (fun i _ => n - (intOf i).toNat)
  case atStart => exact ⟨0, by omega, rfl, rfl, Fr.refl _ _⟩
  case round =>
    obtain ⟨k, hk, rfl, HE, F⟩ := hrel
    by_cases hlt : k < n
    · obtain ⟨s, hs⟩ : ∃ s, sp[k]? = some s := ⟨_, List.getElem?_eq_getElem (by have := HN.out; omega)⟩
      obtain ⟨b, off, rfl, hb, hc⟩ := (HS.out _ F).some (by have := HN.out; omega)
      obtain ⟨q0, q1, q2, q3, q4, q5, q6, q7, q8⟩ := sp_range (hc k s hs)
      have HX0 := isRow_next lev HN.out hs
      have hki : (k : Int) < (n : Int) := by omega
      have FB := F.alloc (.cells #[.int .i64 s.page, .int .i64 s.nd.lev, .int .i64 s.nd.lsn, .int .i64 s.nd.rgt, .string s.nd.high, .slice s.pt.k s.nd.keys.length s.pt.kc, .slice s.pt.v s.nd.vals.length s.pt.vc, .slice s.pt.i s.nd.kids.length s.pt.ic, .string s.low] 194)
      have hkp := keeps_any s (wr.alloc (.cells #[.int .i64 s.page, .int .i64 s.nd.lev, .int .i64 s.nd.lsn, .int .i64 s.nd.rgt, .string s.nd.high, .slice s.pt.k s.nd.keys.length s.pt.kc, .slice s.pt.v s.nd.vals.length s.pt.vc, .slice s.pt.i s.nd.kids.length s.pt.ic, .string s.low] 194)) ((HS.out _ FB).nod s (List.mem_of_getElem? hs))
      clear hs hc
      obtain ⟨b1, h1⟩ : ∃ b, b = (s.nd.lev == lev) := ⟨_, rfl⟩
      obtain ⟨b2, h2⟩ : ∃ b, b = (s.nd.rgt == 0) := ⟨_, rfl⟩
      obtain ⟨b3, h3⟩ : ∃ b, b = s.nd.high.toList.isEmpty := ⟨_, rfl⟩
      obtain ⟨b4, h4⟩ : ∃ b, b = keepB s := ⟨_, rfl⟩
      have HX : Hid (isRowB (sp.drop k) lev = (b1 && ((b2 == decide (k + 1 = n)) && ((b3 == decide (k + 1 = n)) && (b4 && isRowB (sp.drop (k + 1)) lev))))) := by show _ = _; rw [HX0, h1, h2, h3, h4]
      rw [← h4] at hkp
      have e1 : (s.nd.lev != lev) = !b1 := by rw [h1]; rfl
      have e2 := h2.symm
      have e3 := h3.symm
      clear h1 h2 h3 h4 HX0
      by_cases hlast : k + 1 = n
      · have hl : ((k : Int) == (n : Int) - 1) = true := by simp; omega
        rw [decide_eq_true hlast] at HX
        have hnw : 0 < n := by omega
        clear hlast
        cases b1
        · have HR : Hid (isRowB sp lev = false) := by show _ = _; rw [← HE.out, HX.out]; rfl
          go_wp2
          go_ret
          exact ⟨ret_bool HR.out.symm, FB⟩
        · cases b2
          · have HR : Hid (isRowB sp lev = false) := by show _ = _; rw [← HE.out, HX.out]; rfl
            go_wp2
            go_ret
            exact ⟨ret_bool HR.out.symm, FB⟩
          · cases b3
            · have HR : Hid (isRowB sp lev = false) := by show _ = _; rw [← HE.out, HX.out]; rfl
              go_wp2
              go_ret
              exact ⟨ret_bool HR.out.symm, FB⟩
            · cases b4
              · have HR : Hid (isRowB sp lev = false) := by show _ = _; rw [← HE.out, HX.out]; rfl
                go_wp2_with fail
                refine hkp.mono ?_
                rintro e w1 ⟨rfl, f1⟩
                go_wp2
                go_ret
                exact ⟨ret_bool HR.out.symm, FB.seq' f1⟩
              · have HR : Hid (isRowB (sp.drop (k + 1)) lev = isRowB sp lev) := by show _ = _; rw [← HE.out, HX.out]; rfl
                go_wp2_with fail
                refine hkp.mono ?_
                rintro e w1 ⟨rfl, f1⟩
                clear q0 q1 q2 q3 q4 q5 q6 q7 q8
                go_wp2
                go_roundw
                case rel => exact ⟨k + 1, by omega, by go_num, HR, FB.seq' f1⟩
                case measure => simp [intOf]; omega
      · have hl : ((k : Int) == (n : Int) - 1) = false := by simp; omega
        rw [decide_eq_false hlast] at HX
        clear hlast
        cases b1
        · have HR : Hid (isRowB sp lev = false) := by show _ = _; rw [← HE.out, HX.out]; rfl
          go_wp2
          go_ret
          exact ⟨ret_bool HR.out.symm, FB⟩
        · cases b2
          · cases b3
            · cases b4
              · have HR : Hid (isRowB sp lev = false) := by show _ = _; rw [← HE.out, HX.out]; rfl
                go_wp2_with fail
                refine hkp.mono ?_
                rintro e w1 ⟨rfl, f1⟩
                go_wp2
                go_ret
                exact ⟨ret_bool HR.out.symm, FB.seq' f1⟩
              · have HR : Hid (isRowB (sp.drop (k + 1)) lev = isRowB sp lev) := by show _ = _; rw [← HE.out, HX.out]; rfl
                go_wp2_with fail
                refine hkp.mono ?_
                rintro e w1 ⟨rfl, f1⟩
                clear q0 q1 q2 q3 q4 q5 q6 q7 q8
                go_wp2
                go_roundw
                case rel => exact ⟨k + 1, by omega, by go_num, HR, FB.seq' f1⟩
                case measure => simp [intOf]; omega
            · have HR : Hid (isRowB sp lev = false) := by show _ = _; rw [← HE.out, HX.out]; rfl
              go_wp2
              go_ret
              exact ⟨ret_bool HR.out.symm, FB⟩
          · have HR : Hid (isRowB sp lev = false) := by show _ = _; rw [← HE.out, HX.out]; rfl
            go_wp2
            go_ret
            exact ⟨ret_bool HR.out.symm, FB⟩
    · have HR : Hid (isRowB sp lev = true) := by
        show _ = _
        rw [← HE.out, List.drop_of_length_le (by have := HN.out; omega)]; rfl
      go_wp2
      go_ret
      exact ⟨ret_bool HR.out.symm, F⟩
end Go.Proofs.YtkibbojiflklpaaGreat

/- A map from pages to pages of a row, in memory. -/
namespace Go.Proofs.YtkibbojiflklpaaGreat
open Go.RowKit
open Go.Maps (Keyed)

abbrev Smap := Int → Option Spt
def supd (M : Smap) (x : Int) (v : Option Spt) : Smap := fun y => if y = x then v else M y
theorem supd_same (M : Smap) (x : Int) (v : Option Spt) : supd M x v x = v := if_pos rfl
theorem supd_other {M : Smap} {x y : Int} (v : Option Spt) (h : y ≠ x) : supd M x v y = M y := if_neg h
/-- A map's element is read as it lies there. -/
def vR : Value → Option (DataW Value × List MemPlace) := fun v => some (.held v, [])
def spV (s : Spt) : Value := (.agg #[.int .i64 s.page, .int .i64 s.nd.lev, .int .i64 s.nd.lsn, .int .i64 s.nd.rgt, .string s.nd.high, .slice s.pt.k s.nd.keys.length s.pt.kc, .slice s.pt.v s.nd.vals.length s.pt.vc, .slice s.pt.i s.nd.kids.length s.pt.ic, .string s.low])
def sp0 : Spt := ⟨0, zn, zp, ⟨#[]⟩⟩
def swf (x : Int) : Prop := (Lit.int .i64 x).wf = true
theorem swf_of {x : Int} (h : -9223372036854775808 ≤ x ∧ x ≤ 9223372036854775807) : swf x := by
  unfold swf
  have e1 : IntKind.i64.min = -9223372036854775808 := by decide
  have e2 : IntKind.i64.max = 9223372036854775807 := by decide
  simp [Lit.wf]
  omega
/-- A datum says what a plain map says. -/
structure SLike (D : DataW Value) (M : Smap) : Prop where
  has : ∀ x, swf x → Maps.has D (.int .i64 x) = (M x).isSome
  at_ : ∀ x s, swf x → M x = some s → ∀ z, D.atKey (.int .i64 x) z = .held (spV s)
theorem skeyed : Keyed Tryz.prog 3 := Maps.int_keyed Tryz.underlying3
theorem skey {x : Int} (h : swf x) : keyOf Tryz.prog 3 (.int .i64 x) = some (.int .i64 x) := Maps.keyOf_int_mk Tryz.underlying3 h
theorem szero (w : World) : (zeroValue 194).run Tryz.prog w = .ok (spV sp0) w := by kernel_rfl
def Sm (w : World) (b n : Nat) (M : Smap) : Prop := ∃ D, w.ownsMap Tryz.prog 3 vR b n D ∧ Maps.size D = n ∧ SLike D M
theorem sownsMap_fit {w : World} {b n : Nat} {D : DataW Value} (h : w.ownsMap Tryz.prog 3 vR b n D) : w.ownsMap Tryz.prog 3 vR b (Maps.size D) D := by
  obtain ⟨es, clock, hb, F, hs, rfl⟩ := h
  exact ⟨es, clock, hb, F, by simp [Maps.size, length_sorted], rfl⟩
theorem Sm.lt {w : World} {b n : Nat} {M : Smap} (h : Sm w b n M) : b < w.heap.size := by
  obtain ⟨D, h1, _⟩ := h
  exact h1.lt
theorem Sm.fr {S : Nat → Prop} {w w' : World} {b n : Nat} {M : Smap} (h : Sm w b n M) (f : Fr S w w') (hn : ¬ S b) : Sm w' b n M := by
  obtain ⟨D, h1, h2⟩ := h
  refine ⟨D, ?_, h2⟩
  have hlt := h1.lt
  obtain ⟨es, clock, hb, r⟩ := h1
  exact ⟨es, clock, (f.block b hlt hn).trans hb, r⟩
theorem Sm.same {w w' : World} {b n : Nat} {M : Smap} (h : Sm w b n M) (f : Fr (fun _ => False) w w') : Sm w' b n M := h.fr f (fun f => f)
theorem Sm.made (w : World) : Sm (w.alloc (.map #[] 0)) w.heap.size 0 (fun _ => none) :=
  ⟨.map [], World.ownsMap_made w Tryz.prog 3 vR, rfl, ⟨fun _ _ => rfl, (fun _ _ _ h => by cases h)⟩⟩
theorem Sm.look {w : World} {b n : Nat} {M : Smap} (h : Sm w b n M) {x : Int} (hx : swf x) :
    (Instr.lookup 198 (.map (some b)) (.int .i64 x) true).run Tryz.prog w = .ok (.tuple #[spV ((M x).getD sp0), .bool (M x).isSome]) w := by
  obtain ⟨D, h1, _, hl⟩ := h
  obtain ⟨v, ps, hrun, hv⟩ := h1.look_ok skeyed Tryz.underlying198 (szero w) (show vR (spV sp0) = some (.held (spV sp0), []) from rfl) (skey hx)
  have hd : D.atKey (.int .i64 x) (.held (spV sp0)) = .held (spV ((M x).getD sp0)) := by
    cases hm : M x with
    | none =>
      have := hl.has x hx
      rw [hm] at this
      exact Maps.atKey_of_not_has this _
    | some s => exact hl.at_ x s hx hm _
  rw [hd] at hv
  simp only [vR, Option.some.injEq, Prod.mk.injEq, DataW.held.injEq] at hv
  rw [hrun, hl.has x hx, hv.1]
theorem slit_ne {x y : Int} (h : x ≠ y) : (Lit.int .i64 x) ≠ (Lit.int .i64 y) := fun e => by cases e; exact h rfl
theorem Fr.sturned {w w' : World} {b : Nat} (h : w.mapTurned w' b) : Fr (fun k => k = b) w w' := (Fr.refl _ w).grown h.grown (fun k e _ => by simp only [Option.some.injEq] at e; exact e.symm)
theorem Sm.store {w : World} {b n : Nat} {M : Smap} (h : Sm w b n M) (hn : n ≤ 1000000) {x : Int} (hxw : swf x) (s : Spt) :
    ∃ w' n', (Instr.mapUpdate 198 (.map (some b)) (.int .i64 x) (.agg #[.int .i64 s.page, .int .i64 s.nd.lev, .int .i64 s.nd.lsn, .int .i64 s.nd.rgt, .string s.nd.high, .slice s.pt.k s.nd.keys.length s.pt.kc, .slice s.pt.v s.nd.vals.length s.pt.vc, .slice s.pt.i s.nd.kids.length s.pt.ic, .string s.low])).run Tryz.prog w = .ok () w' ∧ n' ≤ n + 1 ∧ Sm w' b n' (supd M x (some s)) ∧ Fr (fun k => k = b) w w' := by
  obtain ⟨D, h1, h2, hl⟩ := h
  obtain ⟨w', hrun, hown, hturn⟩ := h1.store skeyed Tryz.underlying198 (by unfold maxLen; omega) (skey hxw) (show vR (.agg #[.int .i64 s.page, .int .i64 s.nd.lev, .int .i64 s.nd.lsn, .int .i64 s.nd.rgt, .string s.nd.high, .slice s.pt.k s.nd.keys.length s.pt.kc, .slice s.pt.v s.nd.vals.length s.pt.vc, .slice s.pt.i s.nd.kids.length s.pt.ic, .string s.low]) = some (.held (spV s), []) from rfl)
  have hm := h1.isMap
  have hkl : WideAt.IsKeyLit (Lit.int .i64 x) := trivial
  have hsz : Maps.size (D.put (.int .i64 x) (.held (spV s))) = if (M x).isSome = true then n else n + 1 := by
    rw [Maps.size_put (h1.tidy skeyed), hl.has x hxw, h2]
  refine ⟨w', _, hrun, ?_, ⟨_, sownsMap_fit hown, rfl, ⟨fun y hy => ?_, fun y k hy hk z => ?_⟩⟩, Fr.sturned hturn⟩
  · rw [hsz]; split <;> omega
  · by_cases e : y = x
    · subst e; rw [supd_same, Maps.has_put_same hm hkl]; rfl
    · rw [supd_other _ e, Maps.has_put_other (slit_ne e), hl.has y hy]
  · by_cases e : y = x
    · subst e
      rw [supd_same] at hk
      simp only [Option.some.injEq] at hk
      subst hk
      exact Maps.atKey_put_same hm hkl _ _
    · rw [supd_other _ e] at hk
      rw [Maps.atKey_put_other (slit_ne e)]
      exact hl.at_ y k hy hk z
end Go.Proofs.YtkibbojiflklpaaGreat

/- Whether each kid of a row is a page of the row below, with its low end. -/
namespace Go.Proofs.YtkibbojiflklpaaGreat
open Go.RowKit

/-- The last page of that number. -/
def sm (row : List Spt) : Smap := fun x => row.reverse.find? (fun s => s.page == x)
theorem sm_snoc (row : List Spt) (s : Spt) : sm (row ++ [s]) = supd (sm row) s.page (some s) := by
  funext x
  unfold sm supd
  rw [List.reverse_append, List.reverse_cons, List.reverse_nil, List.nil_append, List.singleton_append, List.find?_cons]
  by_cases h : x = s.page
  · subst h; simp
  · rw [if_neg h]
    have : (s.page == x) = false := by simpa using fun e => h e.symm
    rw [this]
def kl1B (M : Smap) (low : ByteArray) (kid : Int) : Bool := (M kid).isSome && (((M kid).getD sp0).low.toList == low.toList)
def klB (M : Smap) (low : ByteArray) (keys : List ByteArray) : Nat → List Int → Bool
  | _, [] => true
  | i, y :: ys => kl1B M (if i = 0 then low else keys.getD (i - 1) ByteArray.empty) y && klB M low keys (i + 1) ys
def belB (row above : List Spt) : Bool := if above = [] then decide (row.length = 1) else above.all (fun s => klB (sm row) s.low s.nd.keys 0 s.nd.kids)
theorem kids_next (M : Smap) (low : ByteArray) (keys : List ByteArray) {kids : List Int} {j : Nat} {y : Int} (h : kids[j]? = some y) : klB M low keys j (kids.drop j) = (kl1B M (if j = 0 then low else keys.getD (j - 1) ByteArray.empty) y && klB M low keys (j + 1) (kids.drop (j + 1))) := by
  have hj := (List.getElem?_eq_some_iff.1 h).1
  rw [List.drop_eq_getElem_cons hj, (List.getElem?_eq_some_iff.1 h).2]
  rfl
theorem stake_snoc {l : List Spt} {k : Nat} {s : Spt} (h : l[k]? = some s) : l.take (k + 1) = l.take k ++ [s] := by
  obtain ⟨hk, e⟩ := List.getElem?_eq_some_iff.1 h
  rw [← e, List.take_succ_eq_append_getElem hk]
theorem isBelow_none (a a2 : Option Addr) (n c c2 : Nat) (row : List Spt) (hn : n = row.length) (w : World) : Calls Tryz.prog 97 #[.slice a n c, .slice a2 0 c2] w fun e w' => e = .returned (.bool (belB row [])) ∧ Fr (fun _ => False) w w' := by
  have HR : Hid (belB row [] = ((n : Int) == 1)) := by
    show _ = _
    unfold belB
    rw [if_pos rfl, ← hn, Bool.eq_iff_iff]
    simp
    omega
  clear hn
  go_enter Tryz.func97, Tryz.ntmps97
  go_wp2
  go_ret
  exact ⟨ret_bool HR.out.symm, Fr.refl _ _⟩
set_option maxRecDepth 100000 in
set_option maxHeartbeats 8000000 in
theorem isBelow_some (a a2 : Option Addr) (n c n2 c2 : Nat) (row above : List Spt) (hn : n = row.length) (hn2 : n2 = above.length) (h0 : 0 < n2) (hf : n ≤ 100000) (hp : ∀ s ∈ row, swf s.page) (hq : ∀ s ∈ above, (∀ y ∈ s.nd.kids, swf y) ∧ s.nd.kids.length ≤ s.nd.keys.length + 1) (w : World) (h : Spots w a c row) (h2 : Spots w a2 c2 above) : Calls Tryz.prog 97 #[.slice a n c, .slice a2 n2 c2] w fun e w' => e = .returned (.bool (belB row above)) ∧ Fr (fun _ => False) w w' := by
  have hle : n ≤ c := by rw [hn]; exact h.le
  have hmx := h.max
  have hle2 : n2 ≤ c2 := by rw [hn2]; exact h2.le
  have hmx2 := h2.max
  have HS : Hid (∀ W, Fr (fun _ => False) w W → Spots W a c row) := fun W f => h.same f
  have HS2 : Hid (∀ W, Fr (fun _ => False) w W → Spots W a2 c2 above) := fun W f => h2.same f
  have HN : Hid (n = row.length) := hn
  have HN2 : Hid (n2 = above.length) := hn2
  have HP : Hid (∀ s ∈ row, swf s.page) := hp
  have HQ : Hid (∀ s ∈ above, (∀ y ∈ s.nd.kids, swf y) ∧ s.nd.kids.length ≤ s.nd.keys.length + 1) := hq
  have HEV : Hid (belB row above = above.all (fun s => klB (sm row) s.low s.nd.keys 0 s.nd.kids)) := by
    show _ = _
    unfold belB
    rw [if_neg (by intro e; rw [e] at hn2; simp at hn2; omega)]
  have hmm := @run_makeMap Tryz.prog
  have hz0 : ((n2 : Int) == 0) = false := by simp; omega
  have HM0 : Hid (Sm (w.alloc (.map #[] 0)) w.heap.size 0 (fun _ => none)) := Sm.made w
  clear h h2 hn hn2 hp hq
  go_enter Tryz.func97, Tryz.ntmps97
  go_wp2
  go_loopw [24] (fun i wr => ∃ (k m : Nat), k ≤ n ∧ i = .int .i64 k ∧ m ≤ k ∧ Hid (Sm wr w.heap.size m (sm (row.take k))) ∧ Fr (fun _ => False) w wr) (fun i _ => n - (intOf i).toNat)
  case atStart => exact ⟨0, 0, by omega, rfl, by omega, HM0, Fr.box w _⟩
  case round =>
    obtain ⟨k, m, hk, rfl, hm, HM, F⟩ := hrel
    by_cases hlt : k < n
    · obtain ⟨s, hs⟩ : ∃ s, row[k]? = some s := ⟨_, List.getElem?_eq_getElem (by have := HN.out; omega)⟩
      obtain ⟨b, off, rfl, hb, hc⟩ := (HS.out _ F).some (by have := HN.out; omega)
      obtain ⟨q0, q1, q2, q3, q4, q5, q6, q7, q8⟩ := sp_range (hc k s hs)
      have hki : (k : Int) < (n : Int) := by omega
      have FB := F.alloc (.cells #[.int .i64 s.page, .int .i64 s.nd.lev, .int .i64 s.nd.lsn, .int .i64 s.nd.rgt, .string s.nd.high, .slice s.pt.k s.nd.keys.length s.pt.kc, .slice s.pt.v s.nd.vals.length s.pt.vc, .slice s.pt.i s.nd.kids.length s.pt.ic, .string s.low] 194)
      obtain ⟨w5, m5, hrun, hm5, hsm, hfr⟩ := (HM.out.same (Fr.box wr (.cells #[.int .i64 s.page, .int .i64 s.nd.lev, .int .i64 s.nd.lsn, .int .i64 s.nd.rgt, .string s.nd.high, .slice s.pt.k s.nd.keys.length s.pt.kc, .slice s.pt.v s.nd.vals.length s.pt.vc, .slice s.pt.i s.nd.kids.length s.pt.ic, .string s.low] 194))).store (by omega) (HP.out s (List.mem_of_getElem? hs)) s
      have HM5 : Hid (Sm w5 w.heap.size m5 (sm (row.take (k + 1)))) := by show Sm _ _ _ _; rw [stake_snoc hs, sm_snoc]; exact hsm
      have F5 : Fr (fun _ => False) w w5 := FB.trans hfr (fun i hi e => by omega)
      clear hs hc hsm hfr HM
      go_wp2
      go_roundw
      case rel => exact ⟨k + 1, m5, by omega, by go_num, by omega, HM5, F5⟩
      case measure => simp [intOf]; omega
    · obtain rfl : k = n := by omega
      have HM1 : Hid (Sm wr w.heap.size m (sm row)) := by
        have := HM.out
        rw [List.take_of_length_le (by have := HN.out; omega)] at this
        exact this
      clear HM hm
      go_wp2
      go_loopw [35] (fun i wr => ∃ (k : Nat), k ≤ n2 ∧ i = .int .i64 k ∧ Hid ((above.drop k).all (fun s => klB (sm row) s.low s.nd.keys 0 s.nd.kids) = above.all (fun s => klB (sm row) s.low s.nd.keys 0 s.nd.kids)) ∧ Hid (Sm wr w.heap.size m (sm row)) ∧ Fr (fun _ => False) w wr) (fun i _ => n2 - (intOf i).toNat)
      case atStart => exact ⟨0, by omega, rfl, rfl, HM1, F⟩
      case round =>
        clear F HM1
        obtain ⟨i, hi, rfl, HE, HM, F⟩ := hrel
        by_cases hlt : i < n2
        · obtain ⟨s, hs⟩ : ∃ s, above[i]? = some s := ⟨_, List.getElem?_eq_getElem (by have := HN2.out; omega)⟩
          obtain ⟨b, off, rfl, hb, hc⟩ := (HS2.out _ F).some (by have := HN2.out; omega)
          have hqq := sp_range (hc i s hs)
          have HQS := HQ.out s (List.mem_of_getElem? hs)
          have HNX0 := all_next (f := fun s => klB (sm row) s.low s.nd.keys 0 s.nd.kids) hs
          have hnod := (HS2.out _ F).nod s (List.mem_of_getElem? hs)
          obtain ⟨page, nd, ⟨pk, kc, pv, vc, pi, ic⟩, low⟩ := s
          dsimp only at hqq HQS HNX0 hnod
          obtain ⟨q0, q1, q2, q3, q4, q5, q6, q7, q8⟩ := hqq
          have HNX : Hid ((above.drop i).all (fun s => klB (sm row) s.low s.nd.keys 0 s.nd.kids) = (klB (sm row) low nd.keys 0 nd.kids && (above.drop (i + 1)).all (fun s => klB (sm row) s.low s.nd.keys 0 s.nd.kids))) := HNX0
          have HKW : Hid ((∀ y ∈ nd.kids, swf y) ∧ nd.kids.length ≤ nd.keys.length + 1) := HQS
          have hil := hnod.kids.le
          have him := hnod.kids.max
          have hkl := hnod.keys.le
          have hkm := hnod.keys.max
          have hki : (i : Int) < (n2 : Int) := by omega
          have FB := F.alloc (.cells #[.int .i64 page, .int .i64 nd.lev, .int .i64 nd.lsn, .int .i64 nd.rgt, .string nd.high, .slice pk nd.keys.length kc, .slice pv nd.vals.length vc, .slice pi nd.kids.length ic, .string low] 194)
          have HBX : Hid (∀ W, Fr (fun _ => False) (wr.alloc (.cells #[.int .i64 page, .int .i64 nd.lev, .int .i64 nd.lsn, .int .i64 nd.rgt, .string nd.high, .slice pk nd.keys.length kc, .slice pv nd.vals.length vc, .slice pi nd.kids.length ic, .string low] 194)) W → W.heap[wr.heap.size]? = some (.cells #[.int .i64 page, .int .i64 nd.lev, .int .i64 nd.lsn, .int .i64 nd.rgt, .string nd.high, .slice pk nd.keys.length kc, .slice pv nd.vals.length vc, .slice pi nd.kids.length ic, .string low] 194 (0, 0))) := fun W f => f.blk (heap_alloc_new wr _) (fun f => f)
          have HKI : Hid (∀ W, Fr (fun _ => False) w W → Ints W pi ic nd.kids) := fun W f => ((HS2.out _ f).nod _ (List.mem_of_getElem? hs)).kids
          have HKK : Hid (∀ W, Fr (fun _ => False) w W → Strs W pk kc nd.keys) := fun W f => ((HS2.out _ f).nod _ (List.mem_of_getElem? hs)).keys
          have HMB : Hid (Sm (wr.alloc (.cells #[.int .i64 page, .int .i64 nd.lev, .int .i64 nd.lsn, .int .i64 nd.rgt, .string nd.high, .slice pk nd.keys.length kc, .slice pv nd.vals.length vc, .slice pi nd.kids.length ic, .string low] 194)) w.heap.size m (sm row)) := HM.out.same (Fr.box _ _)
          clear hs hc HQS HNX0 hnod HM
          rename World => W9
          go_wp2
          go_loopw [45, 10] (fun jv lw wr => ∃ (j : Nat) (lo : ByteArray), j ≤ nd.kids.length ∧ jv = .int .i64 j ∧ lw = .string lo ∧ Hid (j = 0 → lo = low) ∧ Hid (klB (sm row) low nd.keys j (nd.kids.drop j) = klB (sm row) low nd.keys 0 nd.kids) ∧ Hid (Sm wr w.heap.size m (sm row)) ∧ Fr (fun _ => False) (W9.alloc (.cells #[.int .i64 page, .int .i64 nd.lev, .int .i64 nd.lsn, .int .i64 nd.rgt, .string nd.high, .slice pk nd.keys.length kc, .slice pv nd.vals.length vc, .slice pi nd.kids.length ic, .string low] 194)) wr) (fun jv _ _ => nd.kids.length - (intOf jv).toNat)
          case atStart => exact ⟨0, low, by omega, rfl, rfl, fun _ => rfl, rfl, HMB, Fr.refl _ _⟩
          case round =>
            obtain ⟨j, lo, hj, rfl, rfl, HL, HEE, HM, G⟩ := hrel
            have FG := FB.seq' G
            obtain ⟨d0, d1, d2, d3, d4, d5, d6, d7, d8⟩ := nine_cells (HBX.out _ G)
            by_cases hjt : j < nd.kids.length
            · obtain ⟨bi, oi, rfl, hbi, hci⟩ := ints_some (HKI.out _ FG) hjt
              have k0 := hci j hjt
              have hsj : nd.kids[j]? = some (nd.kids.getD j 0) := by rw [List.getD_eq_getElem?_getD, List.getElem?_eq_getElem hjt]; rfl
              obtain ⟨y, hy⟩ : ∃ y, y = nd.kids.getD j 0 := ⟨_, rfl⟩
              rw [← hy] at k0 hsj
              have HY := kids_next (sm row) low nd.keys hsj
              have hyw := HKW.out.1 y (List.mem_of_getElem? hsj)
              have hji : (j : Int) < (nd.kids.length : Int) := by omega
              have hlk := HM.out.look hyw
              obtain ⟨t, ht⟩ : ∃ t, t = ((sm row) y).getD sp0 := ⟨_, rfl⟩
              obtain ⟨tb, htb⟩ : ∃ b, b = ((sm row) y).isSome := ⟨_, rfl⟩
              rw [← ht, ← htb] at hlk
              unfold spV at hlk
              have HY0 : Hid (klB (sm row) low nd.keys j (nd.kids.drop j) = (kl1B (sm row) (if j = 0 then low else nd.keys.getD (j - 1) ByteArray.empty) y && klB (sm row) low nd.keys (j + 1) (nd.kids.drop (j + 1)))) := HY
              clear HY hsj hy hci
              cases j with
              | zero =>
                obtain rfl := HL.out rfl
                have HY : Hid (klB (sm row) lo nd.keys 0 (nd.kids.drop 0) = (kl1B (sm row) lo y && klB (sm row) lo nd.keys (0 + 1) (nd.kids.drop (0 + 1)))) := HY0.out
                rw [Nat.add_zero] at k0
                have hj0 : (0 : Int) < (nd.kids.length : Int) := by omega
                clear HY0 HL hji
                have HKB : Hid (kl1B (sm row) lo y = (tb && (t.low.toList == lo.toList))) := by show _ = _; rw [htb, ht]; rfl
                clear ht htb
                have HMB2 : Hid (Sm (wr.alloc (.cells #[.int .i64 t.page, .int .i64 t.nd.lev, .int .i64 t.nd.lsn, .int .i64 t.nd.rgt, .string t.nd.high, .slice t.pt.k t.nd.keys.length t.pt.kc, .slice t.pt.v t.nd.vals.length t.pt.vc, .slice t.pt.i t.nd.kids.length t.pt.ic, .string t.low] 194)) w.heap.size m (sm row)) := HM.out.same (Fr.box _ _)
                have FE := FG.alloc (.cells #[.int .i64 t.page, .int .i64 t.nd.lev, .int .i64 t.nd.lsn, .int .i64 t.nd.rgt, .string t.nd.high, .slice t.pt.k t.nd.keys.length t.pt.kc, .slice t.pt.v t.nd.vals.length t.pt.vc, .slice t.pt.i t.nd.kids.length t.pt.ic, .string t.low] 194)
                have GE := G.alloc (.cells #[.int .i64 t.page, .int .i64 t.nd.lev, .int .i64 t.nd.lsn, .int .i64 t.nd.rgt, .string t.nd.high, .slice t.pt.k t.nd.keys.length t.pt.kc, .slice t.pt.v t.nd.vals.length t.pt.vc, .slice t.pt.i t.nd.kids.length t.pt.ic, .string t.low] 194)
                cases tb
                · have HR : Hid (belB row above = false) := by show _ = _; rw [HEV.out, ← HE.out, HNX.out, ← HEE.out, HY.out, HKB.out]; rfl
                  go_wp2
                  go_ret
                  exact ⟨ret_bool HR.out.symm, FE⟩
                · obtain ⟨b4, h4⟩ : ∃ b, b = (t.low.toList == lo.toList) := ⟨_, rfl⟩
                  rw [← h4] at HKB
                  have e4 : (t.low.toList != lo.toList) = !b4 := by rw [h4]; rfl
                  have e5 := h4.symm
                  clear h4
                  cases b4
                  · have HR : Hid (belB row above = false) := by show _ = _; rw [HEV.out, ← HE.out, HNX.out, ← HEE.out, HY.out, HKB.out]; rfl
                    go_wp2
                    go_ret
                    exact ⟨ret_bool HR.out.symm, FE⟩
                  · have HR : Hid (klB (sm row) lo nd.keys (0 + 1) (nd.kids.drop (0 + 1)) = klB (sm row) lo nd.keys 0 nd.kids) := by show _ = _; rw [← HEE.out, HY.out, HKB.out]; rfl
                    go_wp2
                    go_roundw
                    case rel => exact ⟨0 + 1, lo, by omega, by go_num, rfl, (fun h => by omega), HR, HMB2, GE⟩
                    case measure => simp [intOf]; omega
              | succ j =>
                obtain ⟨bk, ok, rfl, hbk, hck⟩ := strs_some (HKK.out _ FG) (k := j) (by have := HKW.out.2; omega)
                have kk := hck j (by have := HKW.out.2; omega)
                have hjk : (j : Int) < (nd.keys.length : Int) := by have := HKW.out.2; omega
                obtain ⟨x, hx⟩ : ∃ x, x = nd.keys.getD j ByteArray.empty := ⟨_, rfl⟩
                rw [← hx] at kk
                have HY : Hid (klB (sm row) low nd.keys (j + 1) (nd.kids.drop (j + 1)) = (kl1B (sm row) x y && klB (sm row) low nd.keys (j + 1 + 1) (nd.kids.drop (j + 1 + 1)))) := by show _ = _; rw [HY0.out, hx]; rfl
                clear HY0 HL hck hx
                have HKB : Hid (kl1B (sm row) x y = (tb && (t.low.toList == x.toList))) := by show _ = _; rw [htb, ht]; rfl
                clear ht htb
                have HMB2 : Hid (Sm (wr.alloc (.cells #[.int .i64 t.page, .int .i64 t.nd.lev, .int .i64 t.nd.lsn, .int .i64 t.nd.rgt, .string t.nd.high, .slice t.pt.k t.nd.keys.length t.pt.kc, .slice t.pt.v t.nd.vals.length t.pt.vc, .slice t.pt.i t.nd.kids.length t.pt.ic, .string t.low] 194)) w.heap.size m (sm row)) := HM.out.same (Fr.box _ _)
                have FE := FG.alloc (.cells #[.int .i64 t.page, .int .i64 t.nd.lev, .int .i64 t.nd.lsn, .int .i64 t.nd.rgt, .string t.nd.high, .slice t.pt.k t.nd.keys.length t.pt.kc, .slice t.pt.v t.nd.vals.length t.pt.vc, .slice t.pt.i t.nd.kids.length t.pt.ic, .string t.low] 194)
                have GE := G.alloc (.cells #[.int .i64 t.page, .int .i64 t.nd.lev, .int .i64 t.nd.lsn, .int .i64 t.nd.rgt, .string t.nd.high, .slice t.pt.k t.nd.keys.length t.pt.kc, .slice t.pt.v t.nd.vals.length t.pt.vc, .slice t.pt.i t.nd.kids.length t.pt.ic, .string t.low] 194)
                cases tb
                · have HR : Hid (belB row above = false) := by show _ = _; rw [HEV.out, ← HE.out, HNX.out, ← HEE.out, HY.out, HKB.out]; rfl
                  go_wp2
                  go_ret
                  exact ⟨ret_bool HR.out.symm, FE⟩
                · obtain ⟨b4, h4⟩ : ∃ b, b = (t.low.toList == x.toList) := ⟨_, rfl⟩
                  rw [← h4] at HKB
                  have e4 : (t.low.toList != x.toList) = !b4 := by rw [h4]; rfl
                  have e5 := h4.symm
                  clear h4
                  cases b4
                  · have HR : Hid (belB row above = false) := by show _ = _; rw [HEV.out, ← HE.out, HNX.out, ← HEE.out, HY.out, HKB.out]; rfl
                    go_wp2
                    go_ret
                    exact ⟨ret_bool HR.out.symm, FE⟩
                  · have HR : Hid (klB (sm row) low nd.keys ((j + 1) + 1) (nd.kids.drop ((j + 1) + 1)) = klB (sm row) low nd.keys 0 nd.kids) := by show _ = _; rw [← HEE.out, HY.out, HKB.out]; rfl
                    go_wp2
                    go_roundw
                    case rel => exact ⟨(j + 1) + 1, x, by omega, by go_num, rfl, (fun h => by omega), HR, HMB2, GE⟩
                    case measure => simp [intOf]; omega
            · have HR : Hid ((above.drop (i + 1)).all (fun s => klB (sm row) s.low s.nd.keys 0 s.nd.kids) = above.all (fun s => klB (sm row) s.low s.nd.keys 0 s.nd.kids)) := by
                show _ = _
                have e : nd.kids.drop j = [] := List.drop_of_length_le (by omega)
                rw [← HE.out, HNX.out, ← HEE.out, e]; rfl
              go_wp2
              go_roundw
              case rel => exact ⟨i + 1, by omega, by go_num, HR, HM, FG⟩
              case measure => simp [intOf]; omega
        · have HR : Hid (belB row above = true) := by
            show _ = _
            rw [HEV.out, ← HE.out, List.drop_of_length_le (by have := HN2.out; omega)]; rfl
          go_wp2
          go_ret
          exact ⟨ret_bool HR.out.symm, F⟩
end Go.Proofs.YtkibbojiflklpaaGreat
