
/- RwReach, RwThose, RwPages. -/
import Derived.Test.YtihkdffihmhnaaaGreatRNC
/- Whether records are a log that has an LSN. -/
namespace Go.Proofs.YtihkdffihmhnaaaGreat
open Go.RowKit

theorem lsn_next {rs : List Rec} {k : Nat} {r : Rec} (h : rs[k]? = some r) : lsnB k (rs.drop k) = (decide (r.lsn = (k : Int) + 1) && lsnB (k + 1) (rs.drop (k + 1))) := by
  have hj := (List.getElem?_eq_some_iff.1 h).1
  rw [List.drop_eq_getElem_cons hj, (List.getElem?_eq_some_iff.1 h).2]
  rfl
set_option maxRecDepth 100000 in
set_option maxHeartbeats 4000000 in
theorem rreaches_any (a : Option Addr) (n c : Nat) (rs : List Rec) (cut : Int) (hn : n = rs.length) (w : World) (h : Recs w a c rs) :
    Calls Tryz.prog 80 #[.slice a n c, .int .i64 cut] w fun e w' => e = .returned (.int .i64 (rchE rs cut)) ∧ Fr (fun _ => False) w w' := by
  have hle : n ≤ c := by rw [hn]; exact h.le
  have hmx := h.max
  have HS : Hid (∀ W, Fr (fun _ => False) w W → Recs W a c rs) := fun W f => h.same f
  have HN : Hid (n = rs.length) := hn
  obtain ⟨re, hre⟩ : ∃ re, re = rchE rs cut := ⟨_, rfl⟩
  rw [← hre]
  have HRE : Hid (rchE rs cut = re) := hre.symm
  clear h hn hre
  go_enter Tryz.func80, Tryz.ntmps80
  go_wp2
  go_loopw [9] (fun i wr => ∃ (k : Nat), k ≤ n ∧ i = .int .i64 k ∧ Hid (lsnB k (rs.drop k) = lsnB 0 rs) ∧ Hid (Fr (fun _ => False) w wr)) (fun i _ => n - (intOf i).toNat)
  case atStart => exact ⟨0, by omega, rfl, rfl, Fr.refl _ _⟩
  case round =>
    obtain ⟨k, hk, rfl, HB, HF⟩ := hrel
    by_cases hlt : k < n
    · obtain ⟨r, hr⟩ : ∃ r, rs[k]? = some r := ⟨_, List.getElem?_eq_getElem (by have := HN.out; omega)⟩
      obtain ⟨bb, off, rfl, hbb, hcc⟩ := (HS.out _ HF.out).some (by have := HN.out; omega)
      have HNX : Hid (lsnB k (rs.drop k) = (decide (r.lsn = (k : Int) + 1) && lsnB (k + 1) (rs.drop (k + 1)))) := lsn_next hr
      have hqq := rec_range (hcc k r hr)
      obtain ⟨lsn, ep, kind, page, other, req, key, val⟩ := r
      dsimp only at hqq HNX
      obtain ⟨q0, q1, q2, q3, q4, q5, q6, q7⟩ := hqq
      have hki : (k : Int) < (n : Int) := by omega
      have HF2 : Hid (Fr (fun _ => False) w (wr.alloc (.cells #[.int .i64 lsn, .int .i64 ep, .int .i64 kind, .int .i64 page, .int .i64 other, .int .i64 req, .string key, .string val] 54))) := HF.out.seq' (Fr.box _ _)
      clear hr hcc
      by_cases hl : lsn = (k : Int) + 1
      · have HB2 : Hid (lsnB (k + 1) (rs.drop (k + 1)) = lsnB 0 rs) := by show _ = _; rw [← HB.out, HNX.out, decide_eq_true hl]; simp
        subst hl
        clear HB HNX
        go_wp2
        go_roundw
        case rel => exact ⟨k + 1, by omega, by go_num, HB2, HF2⟩
        case measure => simp [intOf]; omega
      · have HE : Hid (re = 100) := by
          show re = 100
          have h0 : lsnB 0 rs = false := by rw [← HB.out, HNX.out, decide_eq_false hl]; rfl
          rw [← HRE.out]
          unfold rchE
          rw [h0]
          rfl
        have hne : (lsn == (k : Int) + 1) = false := by simpa using hl
        have hne2 : (lsn != (k : Int) + 1) = true := by simpa using hl
        clear HB HNX hl
        go_wp2
        go_ret
        exact ⟨ret_int HE.out.symm, HF2.out⟩
    · have hb0 : lsnB 0 rs = true := by
        rw [← HB.out, List.drop_eq_nil_of_le (by have := HN.out; omega)]
        rfl
      have HE : Hid (re = if 0 ≤ cut ∧ cut ≤ (n : Int) then 0 else 1) := by
        show re = _
        rw [← HRE.out]
        unfold rchE
        rw [if_pos hb0, HN.out]
      clear HB hb0
      by_cases g1 : cut < 0
      · have HE2 : Hid (re = 1) := by show re = 1; rw [HE.out, if_neg (by omega)]
        go_wp2
        go_ret
        exact ⟨ret_int HE2.out.symm, HF.out⟩
      · have g1' : decide (cut < 0) = false := by simpa using g1
        by_cases g2 : (n : Int) < cut
        · have HE2 : Hid (re = 1) := by show re = 1; rw [HE.out, if_neg (by omega)]
          go_wp2
          go_ret
          exact ⟨ret_int HE2.out.symm, HF.out⟩
        · have HE2 : Hid (re = 0) := by show re = 0; rw [HE.out, if_pos (by omega)]
          have g2' : decide ((n : Int) < cut) = false := by simpa using g2
          go_wp2
          go_ret
          exact ⟨ret_int HE2.out.symm, HF.out⟩
end Go.Proofs.YtihkdffihmhnaaaGreat

/- Pages that stay. -/
namespace Go.Proofs.YtihkdffihmhnaaaGreat
open Go.RowKit

def rS : Sl := ⟨1, zn, zp⟩
def staS (k : Int) (ls : List Sl) : List Sl := ls.filter fun s => decide (s.nd.lsn ≤ k)
theorem sta_ps (k : Int) (ls : List Sl) : psOf (staS k ls) = staP k (psOf ls) := by
  unfold psOf staS staP
  rw [List.filter_map]
  rfl
theorem sta_snoc (k : Int) (ls : List Sl) (s : Sl) : staS k (ls ++ [s]) = if s.nd.lsn ≤ k then staS k ls ++ [s] else staS k ls := by
  unfold staS
  by_cases h : s.nd.lsn ≤ k <;> simp [h]
set_option maxRecDepth 100000 in
set_option maxHeartbeats 2000000 in
theorem stays_any (s : Sl) (cb : Nat) (cut : Int) (w : World) (hc : w.cell? ⟨cb, 0, none⟩ = some (.int .i64 cut)) (hb : cb < w.heap.size) :
    Calls Tryz.prog 82 #[(.agg #[.int .i64 s.page, .int .i64 s.nd.lev, .int .i64 s.nd.lsn, .int .i64 s.nd.rgt, .string s.nd.high, .slice s.pt.k s.nd.keys.length s.pt.kc, .slice s.pt.v s.nd.vals.length s.pt.vc, .slice s.pt.i s.nd.kids.length s.pt.ic]), .pointer (some ⟨cb, 0, none⟩)] w fun e w' => e = .returned (.bool (decide (s.nd.lsn ≤ cut))) ∧ Fr (fun _ => False) w w' := by
  have F0 := Fr.box w (.cells #[.int .i64 s.page, .int .i64 s.nd.lev, .int .i64 s.nd.lsn, .int .i64 s.nd.rgt, .string s.nd.high, .slice s.pt.k s.nd.keys.length s.pt.kc, .slice s.pt.v s.nd.vals.length s.pt.vc, .slice s.pt.i s.nd.kids.length s.pt.ic] 35)
  have hc1 : (w.alloc (.cells #[.int .i64 s.page, .int .i64 s.nd.lev, .int .i64 s.nd.lsn, .int .i64 s.nd.rgt, .string s.nd.high, .slice s.pt.k s.nd.keys.length s.pt.kc, .slice s.pt.v s.nd.vals.length s.pt.vc, .slice s.pt.i s.nd.kids.length s.pt.ic] 35)).cell? ⟨cb, 0, none⟩ = some (.int .i64 cut) := (F0.cell (p := ⟨cb, 0, none⟩) hb (fun f => f)).trans hc
  obtain ⟨⟨e0, e1, e2, e3, e4, e5, e6, e7⟩, _⟩ := rec_cells (heap_alloc_new w (.cells #[.int .i64 s.page, .int .i64 s.nd.lev, .int .i64 s.nd.lsn, .int .i64 s.nd.rgt, .string s.nd.high, .slice s.pt.k s.nd.keys.length s.pt.kc, .slice s.pt.v s.nd.vals.length s.pt.vc, .slice s.pt.i s.nd.kids.length s.pt.ic] 35))
  have HF : Hid (Fr (fun _ => False) w (w.alloc (.cells #[.int .i64 s.page, .int .i64 s.nd.lev, .int .i64 s.nd.lsn, .int .i64 s.nd.rgt, .string s.nd.high, .slice s.pt.k s.nd.keys.length s.pt.kc, .slice s.pt.v s.nd.vals.length s.pt.vc, .slice s.pt.i s.nd.kids.length s.pt.ic] 35))) := F0
  clear F0 hc hb
  go_enter Tryz.func82, Tryz.ntmps82
  go_wp2
  go_ret
  exact ⟨rfl, HF.out⟩
theorem has_root (w : World) : Has (w.alloc (.cells #[.int .i64 rS.page, .int .i64 rS.nd.lev, .int .i64 rS.nd.lsn, .int .i64 rS.nd.rgt, .string rS.nd.high, .slice rS.pt.k rS.nd.keys.length rS.pt.kc, .slice rS.pt.v rS.nd.vals.length rS.pt.vc, .slice rS.pt.i rS.nd.kids.length rS.pt.ic] 35)) 8 (.slice (some ⟨w.heap.size, 0, none⟩) 1 1) 1 ([rS].flatMap slC) := by
  have hb := heap_alloc_new w (.cells #[.int .i64 rS.page, .int .i64 rS.nd.lev, .int .i64 rS.nd.lsn, .int .i64 rS.nd.rgt, .string rS.nd.high, .slice rS.pt.k rS.nd.keys.length rS.pt.kc, .slice rS.pt.v rS.nd.vals.length rS.pt.vc, .slice rS.pt.i rS.nd.kids.length rS.pt.ic] 35)
  refine ⟨by simp [slC_length], .inr ⟨w.heap.size, 1, rfl, by simp, by omega, by unfold maxLen; omega, there_block hb (by simp), ?_⟩⟩
  exact range_block hb (o := 0) (fun j v hv => by rw [Nat.zero_add]; simpa [slC, rS] using hv)
def ThOut (w : World) (ps : List (Int × Nd)) (e : Ending) (w' : World) : Prop := ∃ a c ks, e = .returned (.slice a ks.length c) ∧ Slots w' a c ks ∧ psOf ks = ps ∧ Fr (fun _ => False) w w'
theorem th_whole {w w' : World} {k : Int} {ls : List Sl} {a : Option Addr} {m c : Nat} (hm : m = (rS :: staS k ls).length) (h : Has w' 8 (.slice a m c) m ((rS :: staS k ls).flatMap slC)) (hn : ∀ s ∈ rS :: staS k ls, Nod w' s.nd s.pt) (f : Fr (fun _ => False) w w') (hr : rooB (staP k (psOf ls)) = false) : ThOut w (thoP k (psOf ls)) (.returned (.slice a m c)) w' := by
  subst hm
  refine ⟨a, c, rS :: staS k ls, rfl, ?_, ?_, f⟩
  · obtain ⟨a', c', he, h1, h2⟩ := h.slice
    simp only [Value.slice.injEq, true_and] at he
    obtain ⟨rfl, rfl⟩ := he
    refine ⟨h1, by unfold maxLen at h2; exact h2, ?_, hn⟩
    obtain ⟨g, cap, hv, hg, _⟩ := h.form (by simp)
    simp only [Value.slice.injEq, true_and] at hv
    obtain ⟨rfl, rfl⟩ := hv
    refine .inr ⟨g, 0, rfl, hg, fun i m hm => ?_⟩
    rw [Nat.zero_add]
    exact h.elem slC_length hm
  · unfold thoP
    rw [if_neg (by rw [hr]; simp), ← sta_ps]
    rfl
theorem th_cut {w w' : World} {k : Int} {ls : List Sl} {g m c : Nat} (hm : m = (rS :: staS k ls).length) (h : Has w' 8 (.slice (some ⟨g, 0, none⟩) m c) m ((rS :: staS k ls).flatMap slC)) (hn : ∀ s ∈ rS :: staS k ls, Nod w' s.nd s.pt) (f : Fr (fun _ => False) w w') (hr : rooB (staP k (psOf ls)) = true) : ThOut w (thoP k (psOf ls)) (.returned (.slice (some ⟨g, 8, none⟩) (m - 1) (c - 1))) w' := by
  subst hm
  refine ⟨some ⟨g, 8, none⟩, c - 1, staS k ls, by simp, ?_, ?_, f⟩
  · obtain ⟨a', c', he, h1, h2⟩ := h.slice
    simp only [Value.slice.injEq, true_and] at he
    obtain ⟨_, rfl⟩ := he
    simp only [List.length_cons] at h1
    refine ⟨by omega, by unfold maxLen at h2; omega, ?_, fun s hs => hn s (List.mem_cons_of_mem _ hs)⟩
    obtain ⟨g', cap, hv, hg, _⟩ := h.form (by simp)
    simp only [Value.slice.injEq, Option.some.injEq, Addr.mk.injEq, and_true, true_and] at hv
    obtain ⟨rfl, rfl⟩ := hv
    refine .inr ⟨g, 8, rfl, hg, fun i m hm => ?_⟩
    have he : (rS :: staS k ls)[i + 1]? = some m := by simpa using hm
    have := h.elem slC_length he
    rwa [show (i + 1) * 8 = 8 + i * 8 by omega] at this
  · unfold thoP
    rw [if_pos hr, ← sta_ps]
set_option maxRecDepth 100000 in
set_option maxHeartbeats 8000000 in
theorem those_any (a : Option Addr) (n c : Nat) (ls : List Sl) (cb : Nat) (cut : Int) (hn : n = ls.length) (hf : n ≤ 100000) (w : World) (h : Slots w a c ls) (hc : w.cell? ⟨cb, 0, none⟩ = some (.int .i64 cut)) (hb : cb < w.heap.size) :
    Calls Tryz.prog 81 #[.slice a n c, .func (.func 82) #[] #[.pointer (some ⟨cb, 0, none⟩)]] w fun e w' => ThOut w (thoP cut (psOf ls)) e w' := by
  obtain ⟨iR, hiR, hR0, hR1, hR2⟩ := info_parts infoSl
  have hle : n ≤ c := by rw [hn]; exact h.le
  have hmx := h.max
  have HND : Hid (∀ W, Fr (fun _ => False) w W → ∀ s ∈ rS :: ls, Nod W s.nd s.pt) := fun W f s hs => by
    rcases List.mem_cons.1 hs with rfl | hs
    · exact zn_nod W
    · exact (h.nod s hs).same f
  have HS : Hid (∀ W, Fr (fun _ => False) w W → Slots W a c ls) := fun W f => h.same f
  have HC : Hid (∀ W, Fr (fun _ => False) w W → W.cell? ⟨cb, 0, none⟩ = some (.int .i64 cut) ∧ cb < W.heap.size) := fun W f => ⟨(f.cell (p := ⟨cb, 0, none⟩) hb (fun f => f)).trans hc, Nat.lt_of_lt_of_le hb f.size⟩
  have HN : Hid (n = ls.length) := hn
  have HR0 : Hid (Has (w.alloc (.cells #[.int .i64 1, .int .i64 0, .int .i64 0, .int .i64 0, .string ⟨#[]⟩, .slice none 0 0, .slice none 0 0, .slice none 0 0] 35)) 8 (.slice (some ⟨w.heap.size, 0, none⟩) 1 1) 1 ((rS :: staS cut (ls.take 0)).flatMap slC)) := has_root w
  have HF0 : Hid (Fr (fun _ => False) w (w.alloc (.cells #[.int .i64 1, .int .i64 0, .int .i64 0, .int .i64 0, .string ⟨#[]⟩, .slice none 0 0, .slice none 0 0, .slice none 0 0] 35))) := Fr.box _ _
  obtain ⟨pp, hpp⟩ : ∃ pp, pp = thoP cut (psOf ls) := ⟨_, rfl⟩
  rw [← hpp]
  have HPP : Hid (thoP cut (psOf ls) = pp) := hpp.symm
  clear h hn hc hb hpp
  go_enter Tryz.func81, Tryz.ntmps81
  go_wp2
  go_loopw [5, 12] (fun o i wr => ∃ (k m : Nat) (a' : Option Addr) (c' : Nat), k ≤ n ∧ o = .slice a' m c' ∧ i = .int .i64 k ∧ Hid (m = (rS :: staS cut (ls.take k)).length) ∧ Hid (Has wr 8 (.slice a' m c') m ((rS :: staS cut (ls.take k)).flatMap slC)) ∧ Hid (∀ g, (Value.slice a' m c').ownBlock = some g → w.heap.size ≤ g) ∧ Hid (Fr (fun _ => False) w wr)) (fun _ i _ => n - (intOf i).toNat)
  case atStart => exact ⟨0, 1, some ⟨w.heap.size, 0, none⟩, 1, by omega, rfl, rfl, rfl, HR0, (fun g e => by simp [Value.ownBlock] at e; omega), HF0⟩
  case round =>
    obtain ⟨k, m, a', c', hk, rfl, rfl, HM, HH, HO, HF⟩ := hrel
    clear HR0 HF0
    have hml : m ≤ 100001 := by
      have h1 := HM.out
      have h2 : (staS cut (ls.take k)).length ≤ (ls.take k).length := List.length_filter_le _ _
      rw [List.length_cons] at h1
      rw [List.length_take] at h2
      omega
    by_cases hlt : k < n
    · obtain ⟨s, hs⟩ : ∃ s, ls[k]? = some s := ⟨_, List.getElem?_eq_getElem (by have := HN.out; omega)⟩
      obtain ⟨bb, off, rfl, hbb, hcc⟩ := (HS.out _ HF.out).some (by have := HN.out; omega)
      obtain ⟨q0, q1, q2, q3, q4, q5, q6, q7⟩ := sl_range (hcc k s hs)
      have hki : (k : Int) < (n : Int) := by omega
      have HSN : Hid (staS cut (ls.take (k + 1)) = if s.nd.lsn ≤ cut then staS cut (ls.take k) ++ [s] else staS cut (ls.take k)) := by show _ = _; rw [take_snocR hs, sta_snoc]
      have F1 := HF.out.seq' (Fr.box wr (.cells #[.int .i64 s.page, .int .i64 s.nd.lev, .int .i64 s.nd.lsn, .int .i64 s.nd.rgt, .string s.nd.high, .slice s.pt.k s.nd.keys.length s.pt.kc, .slice s.pt.v s.nd.vals.length s.pt.vc, .slice s.pt.i s.nd.kids.length s.pt.ic] 35))
      have hst := stays_any s cb cut _ (HC.out _ F1).1 (HC.out _ F1).2
      have HB : Hid (∀ W, Fr (fun _ => False) (wr.alloc (.cells #[.int .i64 s.page, .int .i64 s.nd.lev, .int .i64 s.nd.lsn, .int .i64 s.nd.rgt, .string s.nd.high, .slice s.pt.k s.nd.keys.length s.pt.kc, .slice s.pt.v s.nd.vals.length s.pt.vc, .slice s.pt.i s.nd.kids.length s.pt.ic] 35)) W → W.heap[wr.heap.size]? = some (.cells #[.int .i64 s.page, .int .i64 s.nd.lev, .int .i64 s.nd.lsn, .int .i64 s.nd.rgt, .string s.nd.high, .slice s.pt.k s.nd.keys.length s.pt.kc, .slice s.pt.v s.nd.vals.length s.pt.vc, .slice s.pt.i s.nd.kids.length s.pt.ic] 35 (0, 0))) := fun W f => f.blk (heap_alloc_new wr (.cells #[.int .i64 s.page, .int .i64 s.nd.lev, .int .i64 s.nd.lsn, .int .i64 s.nd.rgt, .string s.nd.high, .slice s.pt.k s.nd.keys.length s.pt.kc, .slice s.pt.v s.nd.vals.length s.pt.vc, .slice s.pt.i s.nd.kids.length s.pt.ic] 35)) (fun f => f)
      have HF1 : Hid (Fr (fun _ => False) w (wr.alloc (.cells #[.int .i64 s.page, .int .i64 s.nd.lev, .int .i64 s.nd.lsn, .int .i64 s.nd.rgt, .string s.nd.high, .slice s.pt.k s.nd.keys.length s.pt.kc, .slice s.pt.v s.nd.vals.length s.pt.vc, .slice s.pt.i s.nd.kids.length s.pt.ic] 35))) := F1
      have hB0 := (rec_cells (HB.out _ (Fr.refl _ _))).1
      clear hs hcc F1
      by_cases hl : s.nd.lsn ≤ cut
      · rw [decide_eq_true hl] at hst
        have HTK : Hid (rS :: staS cut (ls.take (k + 1)) = (rS :: staS cut (ls.take k)) ++ [s]) := by show _ = _; rw [HSN.out, if_pos hl]; rfl
        obtain ⟨e0, e1, e2, e3, e4, e5, e6, e7⟩ := hB0
        clear HSN hl
        go_wp2_with fail
        refine hst.mono ?_
        rintro e w3 ⟨rfl, f3⟩
        clear e0 e1 e2 e3 e4 e5 e6 e7 hst q0 q1 q2 q3 q4 q5 q6 q7
        obtain ⟨⟨e0, e1, e2, e3, e4, e5, e6, e7⟩, _⟩ := rec_cells (HB.out w3 f3)
        have F3 := HF1.out.seq' f3
        have P6 := Fr.box w3 (.cells #[.int .i64 s.page, .int .i64 s.nd.lev, .int .i64 s.nd.lsn, .int .i64 s.nd.rgt, .string s.nd.high, .slice s.pt.k s.nd.keys.length s.pt.kc, .slice s.pt.v s.nd.vals.length s.pt.vc, .slice s.pt.i s.nd.kids.length s.pt.ic] 35)
        have HRW : Hid (Has (w3.alloc (.cells #[.int .i64 s.page, .int .i64 s.nd.lev, .int .i64 s.nd.lsn, .int .i64 s.nd.rgt, .string s.nd.high, .slice s.pt.k s.nd.keys.length s.pt.kc, .slice s.pt.v s.nd.vals.length s.pt.vc, .slice s.pt.i s.nd.kids.length s.pt.ic] 35)) 8 (.slice a' m c') m ((rS :: staS cut (ls.take k)).flatMap slC)) := HH.out.fr (((Fr.box wr _).seq' f3).seq' P6) (fun _ _ f => f)
        have HNE : Hid (From (w3.alloc (.cells #[.int .i64 s.page, .int .i64 s.nd.lev, .int .i64 s.nd.lsn, .int .i64 s.nd.rgt, .string s.nd.high, .slice s.pt.k s.nd.keys.length s.pt.kc, .slice s.pt.v s.nd.vals.length s.pt.vc, .slice s.pt.i s.nd.kids.length s.pt.ic] 35)) (some ⟨w3.heap.size, 0, none⟩) (slC s)) := .inr ⟨_, _, rfl, range_block (heap_alloc_new w3 (.cells #[.int .i64 s.page, .int .i64 s.nd.lev, .int .i64 s.nd.lsn, .int .i64 s.nd.rgt, .string s.nd.high, .slice s.pt.k s.nd.keys.length s.pt.kc, .slice s.pt.v s.nd.vals.length s.pt.vc, .slice s.pt.i s.nd.kids.length s.pt.ic] 35)) (xs := slC s) (o := 0) (fun j v hv => by rw [Nat.zero_add]; simpa [slC] using hv)⟩
        have HFF : Hid (Fr (fun _ => False) w (w3.alloc (.cells #[.int .i64 s.page, .int .i64 s.nd.lev, .int .i64 s.nd.lsn, .int .i64 s.nd.rgt, .string s.nd.high, .slice s.pt.k s.nd.keys.length s.pt.kc, .slice s.pt.v s.nd.vals.length s.pt.vc, .slice s.pt.i s.nd.kids.length s.pt.ic] 35))) := F3.seq' P6
        clear P6 F3 f3
        go_wp2_with (at_builtin; refine wpList_append_has _ rfl (.tmp 19) (.tmp 21) 24 24 35 35 rfl iR _ 8 120 Tryz.underlying24 Tryz.underlying24 hiR hR0 hR1 hR2 rfl (by omega) (.slice a' m c') m ((rS :: staS cut (ls.take k)).flatMap slC) rfl HRW.out (some ⟨w3.heap.size, 0, none⟩) 1 1 (slC s) rfl rfl HNE.out (slC_one _) (by unfold maxLen; omega) (by omega) ?_; intro a4 c4 w8 ht4 f34 hat4)
        have HT5 : Hid (Has w8 8 (.slice a4 (m + 1) c4) (m + 1) ((rS :: staS cut (ls.take (k + 1))).flatMap slC)) := by
          show Has _ _ _ _ _
          rw [HTK.out, List.flatMap_append]
          simpa using ht4
        have HM5 : Hid (m + 1 = (rS :: staS cut (ls.take (k + 1))).length) := by show _ = _; rw [HTK.out, List.length_append, ← HM.out]; rfl
        have HO5 : Hid (∀ g, (Value.slice a4 (m + 1) c4).ownBlock = some g → w.heap.size ≤ g) := fun g e => by
          have hz := HFF.out.size
          rcases hat4 with h1 | h1
          · rw [h1] at e; exact HO.out g e
          · rw [h1] at e; simp at e; simp at hz; omega
        have HF5 : Hid (Fr (fun _ => False) w w8) := HFF.out.trans f34 (fun i hi e => by have := HO.out i e.1; omega)
        clear ht4 hat4 f34 HRW HNE HTK HFF HM HH HO HF
        go_wp2
        go_roundw
        case rel => exact ⟨k + 1, m + 1, a4, c4, by omega, rfl, by go_num, HM5, HT5, HO5, HF5⟩
        case measure => simp [intOf]; omega
      · rw [decide_eq_false hl] at hst
        have hE : rS :: staS cut (ls.take (k + 1)) = rS :: staS cut (ls.take k) := by rw [HSN.out, if_neg hl]
        have HM5 : Hid (m = (rS :: staS cut (ls.take (k + 1))).length) := by show _ = _; rw [hE]; exact HM.out
        have HT5 : Hid (∀ W, Fr (fun _ => False) wr W → Has W 8 (.slice a' m c') m ((rS :: staS cut (ls.take (k + 1))).flatMap slC)) := fun W f => by rw [hE]; exact HH.out.fr f (fun _ _ f => f)
        obtain ⟨e0, e1, e2, e3, e4, e5, e6, e7⟩ := hB0
        clear HSN hl hE
        go_wp2_with fail
        refine hst.mono ?_
        rintro e w3 ⟨rfl, f3⟩
        have HT6 : Hid (Has w3 8 (.slice a' m c') m ((rS :: staS cut (ls.take (k + 1))).flatMap slC)) := HT5.out _ ((Fr.box wr _).seq' f3)
        have HF5 : Hid (Fr (fun _ => False) w w3) := HF1.out.seq' f3
        clear e0 e1 e2 e3 e4 e5 e6 e7 hst q0 q1 q2 q3 q4 q5 q6 q7 f3 HH HM HF HF1 HT5
        go_wp2
        go_roundw
        case rel => exact ⟨k + 1, m, a', c', by omega, rfl, by go_num, HM5, HT6, HO, HF5⟩
        case measure => simp [intOf]; omega
    · have hta : ls.take k = ls := List.take_of_length_le (by have := HN.out; omega)
      have HM2 : Hid (m = (rS :: staS cut ls).length) := by have := HM.out; rw [hta] at this; exact this
      have HH2 : Hid (Has wr 8 (.slice a' m c') m ((rS :: staS cut ls).flatMap slC)) := by have := HH.out; rw [hta] at this; exact this
      have HN2 : Hid (∀ s ∈ rS :: staS cut ls, Nod wr s.nd s.pt) := fun s hs => HND.out wr HF.out s (by
        rcases List.mem_cons.1 hs with rfl | hs
        · exact List.mem_cons_self ..
        · exact List.mem_cons_of_mem _ (List.mem_filter.1 hs).1)
      clear HM HH hta
      have hmp : 1 ≤ m := by have := HM2.out; simp at this; omega
      obtain ⟨g, cap, hv, hg, hc1, hc2, _, hrg⟩ := HH2.out.form (by omega)
      simp only [Value.slice.injEq, true_and] at hv
      obtain ⟨rfl, rfl⟩ := hv
      have hc3 : c' ≤ 9223372036854775807 := by unfold maxLen at hc2; omega
      by_cases g1 : 1 < m
      · have g1' : decide ((1 : Int) < (m : Int)) = true := by simp; omega
        obtain ⟨t, tl, ht⟩ : ∃ t tl, staS cut ls = t :: tl := by
          cases hst : staS cut ls with
          | nil => have := HM2.out; rw [hst] at this; simp at this; omega
          | cons t tl => exact ⟨t, tl, rfl⟩
        have he1 : (rS :: staS cut ls)[1]? = some t := by rw [ht]; rfl
        have hct := (sl_range (HH2.out.elem slC_length he1)).1
        have HRO : Hid (rooB (staP cut (psOf ls)) = (t.page == 1)) := by show _ = _; rw [← sta_ps, ht]; rfl
        have hct' : wr.cell? ⟨g, 8, none⟩ = some (.int .i64 t.page) := hct
        clear hrg ht hct he1
        by_cases g2 : t.page = 1
        · have HFIN : Hid (ThOut w pp (.returned (.slice (some ⟨g, 8, none⟩) (m - 1) (c' - 1))) wr) := by
            rw [← HPP.out]
            exact th_cut HM2.out HH2.out HN2.out HF.out (by rw [HRO.out, g2]; rfl)
          rw [g2] at hct'
          clear g2 HRO HH2 HM2 HN2 HO
          go_wp2
          go_ret
          exact HFIN.out
        · have HFIN : Hid (ThOut w pp (.returned (.slice (some ⟨g, 0, none⟩) m c')) wr) := by
            rw [← HPP.out]
            exact th_whole HM2.out HH2.out HN2.out HF.out (by rw [HRO.out]; simpa using g2)
          have g2' : (t.page == 1) = false := by simpa using g2
          clear g2 HRO HH2 HM2 HN2 HO
          go_wp2
          go_ret
          exact HFIN.out
      · have g1' : decide ((1 : Int) < (m : Int)) = false := by simp; omega
        have g1'' : decide (1 < m) = false := by simpa using g1
        have HFIN : Hid (ThOut w pp (.returned (.slice (some ⟨g, 0, none⟩) m c')) wr) := by
          rw [← HPP.out]
          refine th_whole HM2.out HH2.out HN2.out HF.out ?_
          have : staS cut ls = [] := by
            cases hst : staS cut ls with
            | nil => rfl
            | cons t tl => have := HM2.out; rw [hst] at this; simp at this; omega
          rw [← sta_ps, this]; rfl
        clear hrg HH2 HM2 HN2 HO
        go_wp2
        go_ret
        exact HFIN.out
end Go.Proofs.YtihkdffihmhnaaaGreat

/- Pages that are rewound. -/
namespace Go.Proofs.YtihkdffihmhnaaaGreat
open Go.RowKit

theorem Recs.takeR {w : World} {a : Option Addr} {c : Nat} {rs : List Rec} (h : Recs w a c rs) (k : Nat) : Recs w a c (rs.take k) := by
  refine ⟨by have := h.le; rw [List.length_take]; omega, h.max, ?_⟩
  rcases h.at_ with h0 | ⟨b, off, rfl, hb, hc⟩
  · left; rw [h0]; simp
  · refine .inr ⟨b, off, rfl, hb, fun i r hr => ?_⟩
    rw [List.getElem?_take] at hr
    split at hr
    · exact hc i r hr
    · cases hr
theorem rpl_turn {w W w' : World} {o p : List (Int × Nd) × Int} {e : Ending} (h : RplOut W o e w') (ho : o = p) (f : Fr (fun _ => False) w W) : RplOut w p e w' := by
  subst ho
  obtain ⟨a, c, ls, h1, h2, h3, h4⟩ := h
  exact ⟨a, c, ls, h1, h2, h3, f.seq' h4⟩
set_option maxRecDepth 100000 in
set_option maxHeartbeats 8000000 in
theorem rpages_any (a a2 : Option Addr) (n c n2 c2 : Nat) (ls : List Sl) (rs : List Rec) (cut : Int) (hn : n = ls.length) (hn2 : n2 = rs.length) (hf : n ≤ 100000) (hz : ∀ r ∈ rs, r.key.size ≤ 140737488351232 ∧ r.val.size ≤ 140737488351232) (w : World) (h : Slots w a c ls) (h2 : Recs w a2 c2 rs) :
    Calls Tryz.prog 36 #[.slice a n c, .slice a2 n2 c2, .int .i64 cut] w fun e w' => RplOut w (rewP (psOf ls) rs cut) e w' := by
  have F0 := Fr.box w (.cells #[.int .i64 cut] 3)
  have c0 : (w.alloc (.cells #[.int .i64 cut] 3)).cell? ⟨w.heap.size, 0, none⟩ = some (.int .i64 cut) := by rw [cell_of_row _ _ _ _ _ _ (heap_alloc_new w (.cells #[.int .i64 cut] 3))]; rfl
  have hle2 : n2 ≤ c2 := by rw [hn2]; exact h2.le
  have hmx2 := h2.max
  have HF0 : Hid (Fr (fun _ => False) w (w.alloc (.cells #[.int .i64 cut] 3))) := F0
  have HC : Hid (∀ W, Fr (fun _ => False) (w.alloc (.cells #[.int .i64 cut] 3)) W → W.cell? ⟨w.heap.size, 0, none⟩ = some (.int .i64 cut) ∧ w.heap.size < W.heap.size) := fun W f => ⟨(f.cell (p := ⟨w.heap.size, 0, none⟩) (by show w.heap.size < _; simp) (fun f => f)).trans c0, by have := f.size; simp at this; omega⟩
  have hre := rreaches_any a2 n2 c2 rs cut hn2 _ (h2.same F0)
  have HS : Hid (∀ W, Fr (fun _ => False) w W → Slots W a c ls) := fun W f => h.same f
  have HR : Hid (∀ W, Fr (fun _ => False) w W → Recs W a2 c2 rs) := fun W f => h2.same f
  have HNN : Hid (n = ls.length ∧ n2 = rs.length ∧ n ≤ 100000) := ⟨hn, hn2, hf⟩
  have HZ : Hid (∀ r ∈ rs, r.key.size ≤ 140737488351232 ∧ r.val.size ≤ 140737488351232) := hz
  obtain ⟨re, hE⟩ : ∃ re, re = rchE rs cut := ⟨_, rfl⟩
  rw [← hE] at hre
  have HE : Hid (rchE rs cut = re) := hE.symm
  obtain ⟨o, hO⟩ : ∃ o, o = rewP (psOf ls) rs cut := ⟨_, rfl⟩
  rw [← hO]
  have HOO : Hid (rewP (psOf ls) rs cut = o) := hO.symm
  clear h h2 hn hn2 hf hz F0 hE hO
  by_cases g : re = 0
  · subst g
    have hcut : 0 ≤ cut ∧ cut ≤ (n2 : Int) := by
      have := HE.out
      unfold rchE at this
      split at this
      · split at this
        · rw [HNN.out.2.1]; assumption
        · cases this
      · cases this
    obtain ⟨k, rfl⟩ : ∃ k : Nat, cut = k := ⟨cut.toNat, by omega⟩
    have hkn : k ≤ n2 := by omega
    obtain ⟨rk, hrk⟩ : ∃ rk, rk = rs.take k := ⟨_, rfl⟩
    have HRK : Hid (rs.take k = rk) := hrk.symm
    have hkl : k = rk.length := by rw [hrk, List.length_take]; have := HNN.out.2.1; omega
    have HKL : Hid (k = rk.length) := hkl
    have HZK : Hid (∀ r ∈ rk, r.key.size ≤ 140737488351232 ∧ r.val.size ≤ 140737488351232) := fun r hr => HZ.out r (by rw [hrk] at hr; exact List.mem_of_mem_take hr)
    have HEV : Hid (o = if (rplA (thoP k (psOf ls)) rk).2 = 0 then (if ckP (rplA (thoP k (psOf ls)) rk).1 = 0 then ((rplA (thoP k (psOf ls)) rk).1, 0) else ([], ckP (rplA (thoP k (psOf ls)) rk).1)) else ([], (rplA (thoP k (psOf ls)) rk).2)) := by
      show o = _
      rw [← HOO.out]
      unfold rewP
      rw [if_pos HE.out, Int.toNat_natCast, HRK.out]
    have HRT : Hid (∀ W, Fr (fun _ => False) w W → Recs W a2 c2 rk) := fun W f => by rw [hrk]; exact (HR.out W f).takeR k
    clear hcut hrk hkl
    go_enter Tryz.func36, Tryz.ntmps36
    go_wp2_with fail
    refine hre.mono ?_
    rintro e w1 ⟨rfl, f1⟩
    have F1 := HF0.out.seq' f1
    have hth := those_any a n c ls w.heap.size k HNN.out.1 HNN.out.2.2 w1 (HS.out _ F1) (HC.out _ f1).1 (HC.out _ f1).2
    have HG1 : Hid (Fr (fun _ => False) (w.alloc (.cells #[.int .i64 (k : Int)] 3)) w1) := f1
    clear hre c0 F1 f1
    go_wp2_with fail
    refine hth.mono ?_
    rintro e w2 ⟨ka, kc, ks, rfl, hks, hkp, f2⟩
    have HG2 : Hid (Fr (fun _ => False) (w.alloc (.cells #[.int .i64 (k : Int)] 3)) w2) := HG1.out.seq' f2
    have F2 := HF0.out.seq' HG2.out
    have c2x := (HC.out _ HG2.out).1
    have hrp := replay_any ka a2 ks.length kc k c2 ks rk rfl HKL.out HZK.out w2 hks (HRT.out _ F2)
    rw [hkp] at hrp
    have HF2 : Hid (Fr (fun _ => False) w w2) := F2
    obtain ⟨q, hq⟩ : ∃ q, q = rplA (thoP k (psOf ls)) rk := ⟨_, rfl⟩
    rw [← hq] at hrp HEV
    obtain ⟨nk, hnk⟩ : ∃ nk, nk = ks.length := ⟨_, rfl⟩
    rw [← hnk] at hrp ⊢
    clear hth f2 F2 hks hkp hq hnk HG1 HG2
    go_wp2_with fail
    refine hrp.mono ?_
    rintro e w3 ⟨a3, c3, l3, rfl, hsv3, hp3, f3⟩
    obtain ⟨P, E⟩ := q
    dsimp only at hp3 HEV
    have HF3 : Hid (Fr (fun _ => False) w w3) := HF2.out.seq' f3
    have hck := check_call a3 l3.length c3 l3 rfl w3 (hsv3.slots rfl)
    rw [ck_ps, hp3] at hck
    have HSV : Hid (∀ W, Fr (fun _ => False) w3 W → Sv W (.slice a3 l3.length c3) l3) := fun W f => hsv3.same f
    have HP3 : Hid (psOf l3 = P) := hp3
    obtain ⟨n3, hn3⟩ : ∃ n3, n3 = l3.length := ⟨_, rfl⟩
    rw [← hn3] at hck ⊢
    have HN3 : Hid (n3 = l3.length) := hn3
    clear hrp hsv3 hp3 f3 hn3 c2x
    by_cases g3 : E = 0
    · subst g3
      by_cases g4 : ckP P = 0
      · rw [g4] at hck
        have HFIN : Hid (∀ W, Fr (fun _ => False) w3 W → RplOut w o (.returned (.tuple #[.slice a3 n3 c3, .int .i64 0])) W) := fun W f => by
          have ho := HEV.out
          rw [if_pos rfl, if_pos g4] at ho
          rw [ho, HN3.out]
          exact ⟨a3, c3, l3, rfl, HSV.out W f, HP3.out, HF3.out.seq' f⟩
        clear HEV g4 HSV HP3
        go_wp2_with (go_at_call 44; refine hck.mono ?_; rintro e w4 ⟨rfl, f4⟩)
        go_ret2
        exact HFIN.out _ f4
      · have HFIN : Hid (∀ W, Fr (fun _ => False) w3 W → RplOut w o (.returned (.tuple #[.slice none 0 0, .int .i64 (ckP P)])) W) := fun W f => by
          have ho := HEV.out
          rw [if_pos rfl, if_neg g4] at ho
          exact rpl_nil ho (HF3.out.seq' f)
        have g4' : (ckP P == 0) = false := by simpa using g4
        obtain ⟨cv, hcv⟩ : ∃ cv, cv = ckP P := ⟨_, rfl⟩
        rw [← hcv] at hck g4' HFIN
        have g5 : (cv != 0) = true := by simpa using g4'
        clear HEV g4 HSV HP3 hcv
        go_wp2_with (go_at_call 44; refine hck.mono ?_; rintro e w4 ⟨rfl, f4⟩)
        go_ret2
        exact HFIN.out _ f4
    · have HFIN : Hid (RplOut w o (.returned (.tuple #[.slice none 0 0, .int .i64 E])) w3) := by
        have ho := HEV.out
        rw [if_neg g3] at ho
        exact rpl_nil ho HF3.out
      have g3' : (E == 0) = false := by simpa using g3
      have g5 : (E != 0) = true := by simpa using g3
      clear HEV g3 HSV HP3 hck
      go_wp2
      go_ret2
      exact HFIN.out
  · have g1 : (re == 0) = false := by simpa using g
    have g2 : (re != 0) = true := by simpa using g
    have HEV : Hid (o = ([], re)) := by
      show o = _
      rw [← HOO.out]
      unfold rewP
      rw [if_neg (by rw [HE.out]; exact g), HE.out]
    clear g
    go_enter Tryz.func36, Tryz.ntmps36
    go_wp2_with fail
    refine hre.mono ?_
    rintro e w1 ⟨rfl, f1⟩
    clear hre
    go_wp2
    go_ret2
    exact rpl_nil HEV.out (HF0.out.seq' f1)
end Go.Proofs.YtihkdffihmhnaaaGreat
