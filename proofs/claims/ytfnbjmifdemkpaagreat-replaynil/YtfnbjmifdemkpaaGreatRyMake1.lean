
/- A replay that is made. -/
import Derived.Test.YtfnbjmifdemkpaaGreatRyMake0
namespace Go.Proofs.YtfnbjmifdemkpaaGreat
open Go.RowKit Go.Shelf

set_option maxRecDepth 100000 in
set_option maxHeartbeats 1000000 in
theorem ry_new (a : Option Addr) (n c : Nat) (ls : List Sl) (hn : n = ls.length) (hn2 : n ≤ 100000) (w : World) (h : Slots w a c ls) (hr : ariB 0 (psOf ls) = true) (last : Int) (wk : Nat) (hl : 0 ≤ last ∧ last ≤ 1099511627776) (hw1 : 1 ≤ wk) (hw8 : wk ≤ 8) :
    Calls Tryz.prog 11 #[.slice a n c, .int .i64 last, .int .i64 (wk : Int)] w fun e w' => ∃ b S, e = .returned (.tuple #[.pointer (some ⟨b, 0, none⟩), .int .i64 0]) ∧ Ry w' S b (mkR wk last (pgF (psOf ls))) n ∧ (∀ k, S k → w.heap.size ≤ k) ∧ Fr (fun _ => False) w w' := by
  have hrp := replay_any a none n c 0 0 ls [] hn rfl (fun r hr => by cases hr) w h ⟨Nat.le_refl _, by omega, .inl rfl⟩
  rw [show rplA (psOf ls) [] = (psOf ls, 0) by unfold rplA; rw [if_pos hr]; rfl] at hrp
  have HP : Hid (∀ e ∈ psOf ls, 0 < e.1 ∧ e.1 ≤ 4096) := ari_page _ _ hr
  have hmm := @run_makeMap Tryz.prog
  obtain ⟨hl1, hl2⟩ := hl
  have hla : ¬ last < 0 := by omega
  have hlb : ¬ last > 1099511627776 := by omega
  have hwa : ¬ (wk : Int) < 1 := by omega
  have hwb : ¬ (wk : Int) > 8 := by omega
  have HN : Hid (n = ls.length) := hn
  clear h hr hn
  go_enter Tryz.func11, Tryz.ntmps11
  go_wp2_with fail
  refine hrp.mono ?_
  rintro e w1 ⟨a', c', ls', rfl, hsv, hps, f1⟩
  have hll : ls'.length = n := by
    have := congrArg List.length hps
    unfold psOf at this
    rw [List.length_map, List.length_map] at this
    have := HN.out
    omega
  have HPS : Hid (psOf ls' = psOf ls) := hps
  have HP2 : Hid (∀ e ∈ psOf ls', 0 < e.1 ∧ e.1 ≤ 4096) := by show ∀ e ∈ psOf ls', _; rw [HPS.out]; exact HP.out
  have HS : Hid (∀ W, Fr (fun _ => False) w1 W → Slots W a' c' ls') := fun W f => (hsv.same f).slots rfl
  have HF1 : Hid (Fr (fun _ => False) w w1) := f1
  clear hrp hsv f1 hps HP
  dsimp only
  rw [hll]
  have HN2 : Hid (n = ls'.length) := hll.symm
  clear hll
  clear HN
  have HM0 : Hid (Ry ((w1.alloc (.map #[] 0)).alloc (.cells (mkC w1.heap.size wk last) 93)) (mkS w1.heap.size (w1.heap.size + 1)) (w1.heap.size + 1) (mkR wk last (pgF [])) 0) := mk_ry (by have := heap_alloc_new (w1.alloc (.map #[] 0)) (.cells (mkC w1.heap.size wk last) 93); rwa [World.size_alloc] at this) ((Mp.made w1).same (Fr.box _ _)) (by omega) hw8
  have HF2 : Hid (Fr (fun _ => False) w1 ((w1.alloc (.map #[] 0)).alloc (.cells (mkC w1.heap.size wk last) 93))) := (Fr.box _ _).seq' (Fr.box _ _)
  obtain ⟨b, hb⟩ : ∃ b, b = w1.heap.size + 1 := ⟨_, rfl⟩
  have HSB : Hid (∀ k, mkS w1.heap.size b k → w1.heap.size ≤ k) := fun k hk => by
    rcases hk with rfl | rfl <;> omega
  rw [← hb] at HM0
  obtain ⟨S, hS⟩ : ∃ S, S = mkS w1.heap.size b := ⟨_, rfl⟩
  rw [← hS] at HM0 HSB
  obtain ⟨V, hV⟩ : ∃ V, V = ((w1.alloc (.map #[] 0)).alloc (.cells (mkC w1.heap.size wk last) 93)) := ⟨_, rfl⟩
  rw [← hV] at HM0 HF2
  have HV : Hid (V = ((w1.alloc (.map #[] 0)).alloc (.cells (mkC w1.heap.size wk last) 93))) := hV
  have HBE : Hid (b = w1.heap.size + 1) := hb
  unfold mkC at HV
  clear hS hV hb
  go_upto_region 7 with fail
  rw [← HV.out]
  rw [← HBE.out]
  clear HV HBE hmm
  go_wp2
  go_loopw [43] (fun i wr => ∃ (k : Nat), k ≤ n ∧ i = .int .i64 k ∧ Hid (Ry wr S b (mkR wk last (pgF (psOf (ls'.take k)))) k) ∧ Fr (fun _ => False) w1 wr) (fun i _ => n - (intOf i).toNat)
  case atStart => exact ⟨0, by omega, rfl, HM0, HF2.out⟩
  case round =>
    obtain ⟨k, hk, rfl, HR, F⟩ := hrel
    by_cases hlt : k < n
    · obtain ⟨s, hs⟩ : ∃ s, ls'[k]? = some s := ⟨_, List.getElem?_eq_getElem (by have := HN2.out; omega)⟩
      obtain ⟨sb, off, rfl, hb, hc⟩ := (HS.out _ F).some (by have := HN2.out; omega)
      obtain ⟨q0, q1, q2, q3, q4, q5, q6, q7⟩ := sl_range (hc k s hs)
      have hki : (k : Int) < (n : Int) := by omega
      have HPG := pgF_snoc (psOf (ls'.take k)) (s.page, s.nd)
      rw [← ps_next hs] at HPG
      have hpp := HP2.out (s.page, s.nd) (List.mem_map.2 ⟨s, List.mem_of_getElem? hs, rfl⟩)
      have hnd := (HS.out _ F).nod s (List.mem_of_getElem? hs)
      have FB := Fr.box wr (.cells #[.int .i64 s.page, .int .i64 s.nd.lev, .int .i64 s.nd.lsn, .int .i64 s.nd.rgt, .string s.nd.high, .slice s.pt.k s.nd.keys.length s.pt.kc, .slice s.pt.v s.nd.vals.length s.pt.vc, .slice s.pt.i s.nd.kids.length s.pt.ic] 35)
      have FD := FB.drew
      have HB1 : Hid ((wr.alloc (.cells #[.int .i64 s.page, .int .i64 s.nd.lev, .int .i64 s.nd.lsn, .int .i64 s.nd.rgt, .string s.nd.high, .slice s.pt.k s.nd.keys.length s.pt.kc, .slice s.pt.v s.nd.vals.length s.pt.vc, .slice s.pt.i s.nd.kids.length s.pt.ic] 35)).heap[wr.heap.size]? = some (.cells #[.int .i64 s.page, .int .i64 s.nd.lev, .int .i64 s.nd.lsn, .int .i64 s.nd.rgt, .string s.nd.high, .slice s.pt.k s.nd.keys.length s.pt.kc, .slice s.pt.v s.nd.vals.length s.pt.vc, .slice s.pt.i s.nd.kids.length s.pt.ic] 35 (0, 0))) := heap_alloc_new wr _
      obtain ⟨A, m, cnt, q, pt, hI⟩ := HR.out.same FD
      obtain ⟨w4, hst, hR4, f4⟩ := hI.page (by omega) s.page (wfK_of (by omega)) s.nd s.pt (hnd.same FD) (((HS.out w1 (Fr.refl _ _)).nod s (List.mem_of_getElem? hs)).far (fun g hg hS => by have := HSB.out g hS; omega))
      have c0 := hI.cell.1
      have hbV := hI.cell.2.2.2.2.2.2
      have hom := hI.om
      have HR5 : Hid (Ry w4 S b (mkR wk last (pgF (psOf (ls'.take (k + 1))))) (k + 1)) := by show Ry _ _ _ _ _; rw [HPG]; exact hR4
      have F5 : Fr (fun _ => False) w1 w4 := (F.seq' FD).trans f4 (fun g hg e => by have := HSB.out m hom; omega)
      obtain ⟨⟨p0, p1, p2, p3, p4, p5, p6, p7⟩, pz⟩ := rec_cells HB1.out
      have hbw := lt_of_block HB1.out
      clear hs hc hI hR4 f4 FB FD HR HPG hpp hnd
      go_wp2_with fail
      go_region_law (fail)
      all_goals
        go_wp2
        go_roundw
        case rel => exact ⟨k + 1, by omega, by go_num, HR5, F5⟩
        case measure => simp [intOf]; omega
    · obtain rfl : k = n := by omega
      have HFIN : Hid (Ry wr S b (mkR wk last (pgF (psOf ls))) k) := by
        have := HR.out
        rw [List.take_of_length_le (by have := HN2.out; omega), HPS.out] at this
        exact this
      have HBD : Hid (∀ g, S g → w.heap.size ≤ g) := fun g hg => Nat.le_trans HF1.out.size (HSB.out g hg)
      have HFF : Hid (Fr (fun _ => False) w wr) := HF1.out.seq' F
      clear HR HS
      go_wp2
      go_ret2
      exact ⟨b, S, rfl, HFIN.out, HBD.out, HFF.out⟩
end Go.Proofs.YtfnbjmifdemkpaaGreat
