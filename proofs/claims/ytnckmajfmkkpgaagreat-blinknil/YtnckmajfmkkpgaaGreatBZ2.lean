
/- BkIs, BkIs2. -/
import Derived.Test.YtnckmajfmkkpgaaGreatBZ1
/- Whether a page keeps to its low end; whether pages are a row of a level. -/
namespace Go.Proofs.YtnckmajfmkkpgaaGreat
open Go.RowKit Go.Shelf

def lsB (a b : ByteArray) : Bool := Op.bytesLess a.toList b.toList
def kOk (b : Bool) (low k : ByteArray) : Bool := !(lsB k low || (b && (k.toList == low.toList)))
def keepN (n : Nd) (low : ByteArray) : Bool := n.keys.all (kOk (decide (0 < n.lev)) low) && (n.high.toList.isEmpty || !lsB n.high low)
def keepB (s : Spt) : Bool := keepN s.nd s.low
/-- A row of pages with their low ends, as a walk sees it. -/
structure Spots (w : World) (a : Option Addr) (cap : Nat) (sp : List Spt) : Prop where
  le : sp.length ≤ cap
  max : cap ≤ 9223372036854775807
  at_ : sp = [] ∨ ∃ b off, a = some ⟨b, off, none⟩ ∧ b < w.heap.size ∧ ∀ i s, sp[i]? = some s → w.rangeAt b (off + i * 9) (spC s)
  nod : ∀ s ∈ sp, Nod w s.nd s.pt
theorem Spots.same {w w' : World} {a : Option Addr} {cap : Nat} {sp : List Spt} (h : Spots w a cap sp) (f : Fr (fun _ => False) w w') : Spots w' a cap sp := by
  refine ⟨h.le, h.max, ?_, fun s hs => (h.nod s hs).same f⟩
  rcases h.at_ with h0 | ⟨b, off, rfl, hb, hc⟩
  · exact .inl h0
  · exact .inr ⟨b, off, rfl, Nat.lt_of_lt_of_le hb f.size, fun i r hr => range_fr (hc i r hr) f (fun f => f)⟩
theorem Spots.some {w : World} {a : Option Addr} {cap : Nat} {sp : List Spt} (h : Spots w a cap sp) (hn : 0 < sp.length) : ∃ b off, a = some ⟨b, off, none⟩ ∧ b < w.heap.size ∧ ∀ i s, sp[i]? = some s → w.rangeAt b (off + i * 9) (spC s) := by
  rcases h.at_ with h0 | h
  · rw [h0] at hn; simp at hn
  · exact h
theorem Has.spots {w : World} {a : Option Addr} {n c : Nat} {sp : List Spt} (hn : n = sp.length) (h : Has w 9 (.slice a n c) n (sp.flatMap spC)) (hd : ∀ s ∈ sp, Nod w s.nd s.pt) : Spots w a c sp := by
  subst hn
  obtain ⟨a', c', he, h1, h2⟩ := h.slice
  simp only [Value.slice.injEq, true_and] at he
  obtain ⟨rfl, rfl⟩ := he
  refine ⟨h1, by unfold maxLen at h2; exact h2, ?_, hd⟩
  by_cases h0 : sp.length = 0
  · exact .inl (List.length_eq_zero_iff.1 h0)
  · obtain ⟨g, cap, hv, hg, _⟩ := h.form (by omega)
    simp only [Value.slice.injEq, true_and] at hv
    obtain ⟨rfl, rfl⟩ := hv
    refine .inr ⟨g, 0, rfl, hg, fun i m hm => ?_⟩
    rw [Nat.zero_add]
    exact h.elem spC_length hm
theorem all_next {α : Type} {f : α → Bool} {l : List α} {j : Nat} {x : α} (h : l[j]? = some x) : (l.drop j).all f = (f x && (l.drop (j + 1)).all f) := by
  have hj := (List.getElem?_eq_some_iff.1 h).1
  rw [List.drop_eq_getElem_cons hj, (List.getElem?_eq_some_iff.1 h).2]
  rfl
set_option maxRecDepth 100000 in
set_option maxHeartbeats 4000000 in
theorem keeps_in (page : Int) (nd : Nd) (pk : Option Addr) (kc : Nat) (pv : Option Addr) (vc : Nat) (pi : Option Addr) (ic : Nat) (low : ByteArray) (e2 : decide (0 < nd.lev) = true) (w : World) (hN : Nod w nd ⟨pk, kc, pv, vc, pi, ic⟩) : Calls Tryz.prog 44 #[(.agg #[.int .i64 page, .int .i64 nd.lev, .int .i64 nd.lsn, .int .i64 nd.rgt, .string nd.high, .slice pk nd.keys.length kc, .slice pv nd.vals.length vc, .slice pi nd.kids.length ic, .string low])] w fun e w' => e = .returned (.bool (keepN nd low)) ∧ Fr (fun _ => False) w w' := by
  have hle := hN.keys.le
  have hmx := hN.keys.max
  have f0 := Fr.box w (.cells #[.int .i64 page, .int .i64 nd.lev, .int .i64 nd.lsn, .int .i64 nd.rgt, .string nd.high, .slice pk nd.keys.length kc, .slice pv nd.vals.length vc, .slice pi nd.kids.length ic, .string low] 73)
  have HB : Hid (∀ W, Fr (fun _ => False) (w.alloc (.cells #[.int .i64 page, .int .i64 nd.lev, .int .i64 nd.lsn, .int .i64 nd.rgt, .string nd.high, .slice pk nd.keys.length kc, .slice pv nd.vals.length vc, .slice pi nd.kids.length ic, .string low] 73)) W → W.heap[w.heap.size]? = some (.cells #[.int .i64 page, .int .i64 nd.lev, .int .i64 nd.lsn, .int .i64 nd.rgt, .string nd.high, .slice pk nd.keys.length kc, .slice pv nd.vals.length vc, .slice pi nd.kids.length ic, .string low] 73 (0, 0))) := fun W f => f.blk (heap_alloc_new w _) (fun f => f)
  have HK : Hid (∀ W, Fr (fun _ => False) (w.alloc (.cells #[.int .i64 page, .int .i64 nd.lev, .int .i64 nd.lsn, .int .i64 nd.rgt, .string nd.high, .slice pk nd.keys.length kc, .slice pv nd.vals.length vc, .slice pi nd.kids.length ic, .string low] 73)) W → Strs W pk kc nd.keys) := fun W f => (hN.keys.same f0).same f
  have HEN : Hid (keepN nd low = (nd.keys.all (kOk true low) && (nd.high.toList.isEmpty || !lsB nd.high low))) := by show _ = _; unfold keepN; rw [e2]
  clear hN
  go_enter Tryz.func44, Tryz.ntmps44
  go_wp2
  go_loopw [14] (fun i wr => ∃ (k : Nat), k ≤ nd.keys.length ∧ i = .int .i64 k ∧ Hid ((nd.keys.drop k).all (kOk true low) = nd.keys.all (kOk true low)) ∧ Fr (fun _ => False) (w.alloc (.cells #[.int .i64 page, .int .i64 nd.lev, .int .i64 nd.lsn, .int .i64 nd.rgt, .string nd.high, .slice pk nd.keys.length kc, .slice pv nd.vals.length vc, .slice pi nd.kids.length ic, .string low] 73)) wr) (fun i _ => nd.keys.length - (intOf i).toNat)
  case atStart => exact ⟨0, by omega, rfl, rfl, Fr.refl _ _⟩
  case round =>
    obtain ⟨k, hk, rfl, HE, F⟩ := hrel
    obtain ⟨c0, c1, c2, c3, c4, c5, c6, c7, c8⟩ := nine_cells (HB.out _ F)
    by_cases hlt : k < nd.keys.length
    · obtain ⟨bk, ok, rfl, hbk, hck⟩ := strs_some (HK.out _ F) (k := k) (by omega)
      have q0 := hck k (by omega)
      have hsk : nd.keys[k]? = some (nd.keys.getD k ByteArray.empty) := by rw [List.getD_eq_getElem?_getD, List.getElem?_eq_getElem (by omega)]; rfl
      obtain ⟨x, hx⟩ : ∃ x, x = nd.keys.getD k ByteArray.empty := ⟨_, rfl⟩
      rw [← hx] at q0 hsk
      have HX : Hid ((nd.keys.drop k).all (kOk true low) = (kOk true low x && (nd.keys.drop (k + 1)).all (kOk true low))) := all_next hsk
      have HKO : Hid (kOk true low x = !(Op.bytesLess x.toList low.toList || (true && (x.toList == low.toList)))) := rfl
      have hki : (k : Int) < (nd.keys.length : Int) := by omega
      clear hx hck hsk
      obtain ⟨b1, h1⟩ : ∃ b, b = Op.bytesLess x.toList low.toList := ⟨_, rfl⟩
      obtain ⟨b3, h3⟩ : ∃ b, b = (x.toList == low.toList) := ⟨_, rfl⟩
      rw [← h1, ← h3] at HKO
      have e1 := h1.symm
      have e3 := h3.symm
      clear h1 h3

      cases b1
      · cases b3
        · have HR : Hid ((nd.keys.drop (k + 1)).all (kOk true low) = nd.keys.all (kOk true low)) := by show _ = _; rw [← HE.out, HX.out, HKO.out]; rfl
          go_wp2
          go_roundw
          case rel => exact ⟨k + 1, by omega, by go_num, HR, F⟩
          case measure => simp [intOf]; omega
        · have HR : Hid (keepN nd low = false) := by show _ = _; rw [HEN.out, ← HE.out, HX.out, HKO.out]; rfl
          go_wp2
          go_ret
          exact ⟨ret_bool HR.out.symm, f0.seq' F⟩
      · have HR : Hid (keepN nd low = false) := by show _ = _; rw [HEN.out, ← HE.out, HX.out, HKO.out]; rfl
        go_wp2
        go_ret
        exact ⟨ret_bool HR.out.symm, f0.seq' F⟩
    · have HR : Hid (keepN nd low = (nd.high.toList.isEmpty || !Op.bytesLess nd.high.toList low.toList)) := by
        show _ = _
        rw [HEN.out, ← HE.out, List.drop_of_length_le (by omega)]; rfl
      obtain ⟨b1, h1⟩ : ∃ b, b = nd.high.toList.isEmpty := ⟨_, rfl⟩
      obtain ⟨b2, h2⟩ : ∃ b, b = Op.bytesLess nd.high.toList low.toList := ⟨_, rfl⟩
      rw [← h1, ← h2] at HR
      have e1 := h1.symm
      have e2 := h2.symm
      clear h1 h2
      cases b1 <;> cases b2 <;>
        (go_wp2
         go_ret
         exact ⟨ret_bool HR.out.symm, f0.seq' F⟩)
set_option maxRecDepth 100000 in
set_option maxHeartbeats 4000000 in
theorem keeps_leaf (page : Int) (nd : Nd) (pk : Option Addr) (kc : Nat) (pv : Option Addr) (vc : Nat) (pi : Option Addr) (ic : Nat) (low : ByteArray) (e2 : decide (0 < nd.lev) = false) (w : World) (hN : Nod w nd ⟨pk, kc, pv, vc, pi, ic⟩) : Calls Tryz.prog 44 #[(.agg #[.int .i64 page, .int .i64 nd.lev, .int .i64 nd.lsn, .int .i64 nd.rgt, .string nd.high, .slice pk nd.keys.length kc, .slice pv nd.vals.length vc, .slice pi nd.kids.length ic, .string low])] w fun e w' => e = .returned (.bool (keepN nd low)) ∧ Fr (fun _ => False) w w' := by
  have hle := hN.keys.le
  have hmx := hN.keys.max
  have f0 := Fr.box w (.cells #[.int .i64 page, .int .i64 nd.lev, .int .i64 nd.lsn, .int .i64 nd.rgt, .string nd.high, .slice pk nd.keys.length kc, .slice pv nd.vals.length vc, .slice pi nd.kids.length ic, .string low] 73)
  have HB : Hid (∀ W, Fr (fun _ => False) (w.alloc (.cells #[.int .i64 page, .int .i64 nd.lev, .int .i64 nd.lsn, .int .i64 nd.rgt, .string nd.high, .slice pk nd.keys.length kc, .slice pv nd.vals.length vc, .slice pi nd.kids.length ic, .string low] 73)) W → W.heap[w.heap.size]? = some (.cells #[.int .i64 page, .int .i64 nd.lev, .int .i64 nd.lsn, .int .i64 nd.rgt, .string nd.high, .slice pk nd.keys.length kc, .slice pv nd.vals.length vc, .slice pi nd.kids.length ic, .string low] 73 (0, 0))) := fun W f => f.blk (heap_alloc_new w _) (fun f => f)
  have HK : Hid (∀ W, Fr (fun _ => False) (w.alloc (.cells #[.int .i64 page, .int .i64 nd.lev, .int .i64 nd.lsn, .int .i64 nd.rgt, .string nd.high, .slice pk nd.keys.length kc, .slice pv nd.vals.length vc, .slice pi nd.kids.length ic, .string low] 73)) W → Strs W pk kc nd.keys) := fun W f => (hN.keys.same f0).same f
  have HEN : Hid (keepN nd low = (nd.keys.all (kOk false low) && (nd.high.toList.isEmpty || !lsB nd.high low))) := by show _ = _; unfold keepN; rw [e2]
  clear hN
  go_enter Tryz.func44, Tryz.ntmps44
  go_wp2
  go_loopw [14] (fun i wr => ∃ (k : Nat), k ≤ nd.keys.length ∧ i = .int .i64 k ∧ Hid ((nd.keys.drop k).all (kOk false low) = nd.keys.all (kOk false low)) ∧ Fr (fun _ => False) (w.alloc (.cells #[.int .i64 page, .int .i64 nd.lev, .int .i64 nd.lsn, .int .i64 nd.rgt, .string nd.high, .slice pk nd.keys.length kc, .slice pv nd.vals.length vc, .slice pi nd.kids.length ic, .string low] 73)) wr) (fun i _ => nd.keys.length - (intOf i).toNat)
  case atStart => exact ⟨0, by omega, rfl, rfl, Fr.refl _ _⟩
  case round =>
    obtain ⟨k, hk, rfl, HE, F⟩ := hrel
    obtain ⟨c0, c1, c2, c3, c4, c5, c6, c7, c8⟩ := nine_cells (HB.out _ F)
    by_cases hlt : k < nd.keys.length
    · obtain ⟨bk, ok, rfl, hbk, hck⟩ := strs_some (HK.out _ F) (k := k) (by omega)
      have q0 := hck k (by omega)
      have hsk : nd.keys[k]? = some (nd.keys.getD k ByteArray.empty) := by rw [List.getD_eq_getElem?_getD, List.getElem?_eq_getElem (by omega)]; rfl
      obtain ⟨x, hx⟩ : ∃ x, x = nd.keys.getD k ByteArray.empty := ⟨_, rfl⟩
      rw [← hx] at q0 hsk
      have HX : Hid ((nd.keys.drop k).all (kOk false low) = (kOk false low x && (nd.keys.drop (k + 1)).all (kOk false low))) := all_next hsk
      have HKO : Hid (kOk false low x = !(Op.bytesLess x.toList low.toList || (false && (x.toList == low.toList)))) := rfl
      have hki : (k : Int) < (nd.keys.length : Int) := by omega
      clear hx hck hsk
      obtain ⟨b1, h1⟩ : ∃ b, b = Op.bytesLess x.toList low.toList := ⟨_, rfl⟩
      obtain ⟨b3, h3⟩ : ∃ b, b = (x.toList == low.toList) := ⟨_, rfl⟩
      rw [← h1, ← h3] at HKO
      have e1 := h1.symm
      have e3 := h3.symm
      clear h1 h3

      cases b1
      · have HR : Hid ((nd.keys.drop (k + 1)).all (kOk false low) = nd.keys.all (kOk false low)) := by show _ = _; rw [← HE.out, HX.out, HKO.out]; rfl
        go_wp2
        go_roundw
        case rel => exact ⟨k + 1, by omega, by go_num, HR, F⟩
        case measure => simp [intOf]; omega
      · have HR : Hid (keepN nd low = false) := by show _ = _; rw [HEN.out, ← HE.out, HX.out, HKO.out]; rfl
        go_wp2
        go_ret
        exact ⟨ret_bool HR.out.symm, f0.seq' F⟩
    · have HR : Hid (keepN nd low = (nd.high.toList.isEmpty || !Op.bytesLess nd.high.toList low.toList)) := by
        show _ = _
        rw [HEN.out, ← HE.out, List.drop_of_length_le (by omega)]; rfl
      obtain ⟨b1, h1⟩ : ∃ b, b = nd.high.toList.isEmpty := ⟨_, rfl⟩
      obtain ⟨b2, h2⟩ : ∃ b, b = Op.bytesLess nd.high.toList low.toList := ⟨_, rfl⟩
      rw [← h1, ← h2] at HR
      have e1 := h1.symm
      have e2 := h2.symm
      clear h1 h2
      cases b1 <;> cases b2 <;>
        (go_wp2
         go_ret
         exact ⟨ret_bool HR.out.symm, f0.seq' F⟩)
theorem keeps_any (s : Spt) (w : World) (hN : Nod w s.nd s.pt) : Calls Tryz.prog 44 #[(.agg #[.int .i64 s.page, .int .i64 s.nd.lev, .int .i64 s.nd.lsn, .int .i64 s.nd.rgt, .string s.nd.high, .slice s.pt.k s.nd.keys.length s.pt.kc, .slice s.pt.v s.nd.vals.length s.pt.vc, .slice s.pt.i s.nd.kids.length s.pt.ic, .string s.low])] w fun e w' => e = .returned (.bool (keepB s)) ∧ Fr (fun _ => False) w w' := by
  obtain ⟨page, nd, ⟨pk, kc, pv, vc, pi, ic⟩, low⟩ := s
  cases h : decide (0 < nd.lev)
  · exact keeps_leaf page nd pk kc pv vc pi ic low h w hN
  · exact keeps_in page nd pk kc pv vc pi ic low h w hN
end Go.Proofs.YtnckmajfmkkpgaaGreat

/- Whether pages are a whole row of a level. -/
namespace Go.Proofs.YtnckmajfmkkpgaaGreat
open Go.RowKit Go.Shelf

def isRowB : List Spt → Int → Bool
  | [], _ => true
  | s :: r, lev => (s.nd.lev == lev) && (((s.nd.rgt == 0) == r.isEmpty) && ((s.nd.high.toList.isEmpty == r.isEmpty) && (keepB s && isRowB r lev)))
theorem isRow_next {sp : List Spt} {k n : Nat} {s : Spt} (lev : Int) (hn : n = sp.length) (h : sp[k]? = some s) : isRowB (sp.drop k) lev = ((s.nd.lev == lev) && (((s.nd.rgt == 0) == decide (k + 1 = n)) && ((s.nd.high.toList.isEmpty == decide (k + 1 = n)) && (keepB s && isRowB (sp.drop (k + 1)) lev)))) := by
  have hj := (List.getElem?_eq_some_iff.1 h).1
  rw [List.drop_eq_getElem_cons hj, (List.getElem?_eq_some_iff.1 h).2]
  have he : (sp.drop (k + 1)).isEmpty = decide (k + 1 = n) := by
    rw [Bool.eq_iff_iff, List.isEmpty_iff, List.drop_eq_nil_iff, decide_eq_true_eq]; omega
  simp only [isRowB]
  rw [he]
set_option maxRecDepth 100000 in
set_option maxHeartbeats 8000000 in
theorem isRow_any (a : Option Addr) (n c : Nat) (sp : List Spt) (hn : n = sp.length) (lev : Int) (w : World) (h : Spots w a c sp) : Calls Tryz.prog 25 #[.slice a n c, .int .i64 lev] w fun e w' => e = .returned (.bool (isRowB sp lev)) ∧ Fr (fun _ => False) w w' := by
  have hle : n ≤ c := by rw [hn]; exact h.le
  have hmx := h.max
  have HS : Hid (∀ W, Fr (fun _ => False) w W → Spots W a c sp) := fun W f => h.same f
  have HN : Hid (n = sp.length) := hn
  clear h hn
  go_enter Tryz.func25, Tryz.ntmps25
  go_wp2
  go_loopw [10] (fun i wr => ∃ (k : Nat), k ≤ n ∧ i = .int .i64 k ∧ Hid (isRowB (sp.drop k) lev = isRowB sp lev) ∧ Fr (fun _ => False) w wr) (fun i _ => n - (intOf i).toNat)
  case atStart => exact ⟨0, by omega, rfl, rfl, Fr.refl _ _⟩
  case round =>
    obtain ⟨k, hk, rfl, HE, F⟩ := hrel
    by_cases hlt : k < n
    · obtain ⟨s, hs⟩ : ∃ s, sp[k]? = some s := ⟨_, List.getElem?_eq_getElem (by have := HN.out; omega)⟩
      obtain ⟨b, off, rfl, hb, hc⟩ := (HS.out _ F).some (by have := HN.out; omega)
      obtain ⟨q0, q1, q2, q3, q4, q5, q6, q7, q8⟩ := sp_range (hc k s hs)
      have HX0 := isRow_next lev HN.out hs
      have hki : (k : Int) < (n : Int) := by omega
      have FB := F.alloc (.cells #[.int .i64 s.page, .int .i64 s.nd.lev, .int .i64 s.nd.lsn, .int .i64 s.nd.rgt, .string s.nd.high, .slice s.pt.k s.nd.keys.length s.pt.kc, .slice s.pt.v s.nd.vals.length s.pt.vc, .slice s.pt.i s.nd.kids.length s.pt.ic, .string s.low] 73)
      have hkp := keeps_any s (wr.alloc (.cells #[.int .i64 s.page, .int .i64 s.nd.lev, .int .i64 s.nd.lsn, .int .i64 s.nd.rgt, .string s.nd.high, .slice s.pt.k s.nd.keys.length s.pt.kc, .slice s.pt.v s.nd.vals.length s.pt.vc, .slice s.pt.i s.nd.kids.length s.pt.ic, .string s.low] 73)) ((HS.out _ FB).nod s (List.mem_of_getElem? hs))
      clear hs hc
      obtain ⟨b1, h1⟩ : ∃ b, b = (s.nd.lev == lev) := ⟨_, rfl⟩
      obtain ⟨b2, h2⟩ : ∃ b, b = (s.nd.rgt == 0) := ⟨_, rfl⟩
      obtain ⟨b3, h3⟩ : ∃ b, b = s.nd.high.toList.isEmpty := ⟨_, rfl⟩
      obtain ⟨b4, h4⟩ : ∃ b, b = keepB s := ⟨_, rfl⟩
      have HX : Hid (isRowB (sp.drop k) lev = (b1 && ((b2 == decide (k + 1 = n)) && ((b3 == decide (k + 1 = n)) && (b4 && isRowB (sp.drop (k + 1)) lev))))) := by show _ = _; rw [HX0, h1, h2, h3, h4]
      rw [← h4] at hkp
      have e1 : (s.nd.lev != lev) = !b1 := by rw [h1]; rfl
      have e2 := h2.symm
      have e3 := h3.symm
      clear h1 h2 h3 h4 HX0
      by_cases hlast : k + 1 = n
      · have hl : ((k : Int) == (n : Int) - 1) = true := by simp; omega
        rw [decide_eq_true hlast] at HX
        have hnw : 0 < n := by omega
        clear hlast
        cases b1
        · have HR : Hid (isRowB sp lev = false) := by show _ = _; rw [← HE.out, HX.out]; rfl
          go_wp2
          go_ret
          exact ⟨ret_bool HR.out.symm, FB⟩
        · cases b2
          · have HR : Hid (isRowB sp lev = false) := by show _ = _; rw [← HE.out, HX.out]; rfl
            go_wp2
            go_ret
            exact ⟨ret_bool HR.out.symm, FB⟩
          · cases b3
            · have HR : Hid (isRowB sp lev = false) := by show _ = _; rw [← HE.out, HX.out]; rfl
              go_wp2
              go_ret
              exact ⟨ret_bool HR.out.symm, FB⟩
            · cases b4
              · have HR : Hid (isRowB sp lev = false) := by show _ = _; rw [← HE.out, HX.out]; rfl
                go_wp2_with fail
                refine hkp.mono ?_
                rintro e w1 ⟨rfl, f1⟩
                go_wp2
                go_ret
                exact ⟨ret_bool HR.out.symm, FB.seq' f1⟩
              · have HR : Hid (isRowB (sp.drop (k + 1)) lev = isRowB sp lev) := by show _ = _; rw [← HE.out, HX.out]; rfl
                go_wp2_with fail
                refine hkp.mono ?_
                rintro e w1 ⟨rfl, f1⟩
                clear q0 q1 q2 q3 q4 q5 q6 q7 q8
                go_wp2
                go_roundw
                case rel => exact ⟨k + 1, by omega, by go_num, HR, FB.seq' f1⟩
                case measure => simp [intOf]; omega
      · have hl : ((k : Int) == (n : Int) - 1) = false := by simp; omega
        rw [decide_eq_false hlast] at HX
        clear hlast
        cases b1
        · have HR : Hid (isRowB sp lev = false) := by show _ = _; rw [← HE.out, HX.out]; rfl
          go_wp2
          go_ret
          exact ⟨ret_bool HR.out.symm, FB⟩
        · cases b2
          · cases b3
            · cases b4
              · have HR : Hid (isRowB sp lev = false) := by show _ = _; rw [← HE.out, HX.out]; rfl
                go_wp2_with fail
                refine hkp.mono ?_
                rintro e w1 ⟨rfl, f1⟩
                go_wp2
                go_ret
                exact ⟨ret_bool HR.out.symm, FB.seq' f1⟩
              · have HR : Hid (isRowB (sp.drop (k + 1)) lev = isRowB sp lev) := by show _ = _; rw [← HE.out, HX.out]; rfl
                go_wp2_with fail
                refine hkp.mono ?_
                rintro e w1 ⟨rfl, f1⟩
                clear q0 q1 q2 q3 q4 q5 q6 q7 q8
                go_wp2
                go_roundw
                case rel => exact ⟨k + 1, by omega, by go_num, HR, FB.seq' f1⟩
                case measure => simp [intOf]; omega
            · have HR : Hid (isRowB sp lev = false) := by show _ = _; rw [← HE.out, HX.out]; rfl
              go_wp2
              go_ret
              exact ⟨ret_bool HR.out.symm, FB⟩
          · have HR : Hid (isRowB sp lev = false) := by show _ = _; rw [← HE.out, HX.out]; rfl
            go_wp2
            go_ret
            exact ⟨ret_bool HR.out.symm, FB⟩
    · have HR : Hid (isRowB sp lev = true) := by
        show _ = _
        rw [← HE.out, List.drop_of_length_le (by have := HN.out; omega)]; rfl
      go_wp2
      go_ret
      exact ⟨ret_bool HR.out.symm, F⟩
end Go.Proofs.YtnckmajfmkkpgaaGreat
