
/- Of any records, two logs that begin with the same ones and go on in other epochs part where they begin to differ, and the one that is cut there is a beginning of the other one, and the example speaks; with no condition but those of the statement's own form. -/
import Derived.Test.YtihkdffihmhnaaaGreatBB9
import Derived.Test.YtihkdffihmhnaaaGreatRNF
import Derived.Test.YtihkdffihmhnaaaGreatRN8
import Derived.Test.YtihkdffihmhnaaaGreatRN6
namespace Go.Proofs.YtihkdffihmhnaaaGreat.rewindFork
open Go.ChangeShapes Go.WideShapes Go.ChangeAt Go.RowKit
open Go.ChangeMaps (open_string shut_string)
set_option linter.unusedVariables false

theorem own : ownKnob Tryz.prog.godebug = none := by kernel_rfl
theorem laidOut : laidOutB Tryz.prog = true := by kernel_rfl
theorem bytes8 : Tryz.prog.bytesOf 5 = 1 := by kernel_rfl

open Go.RowKit
theorem frF_all {L : List Rec} (h : L.length ≤ 65536) : Rf.frF L 1 100000 = L := by
  unfold Rf.frF
  rw [if_neg (by omega)]
  show (L.drop 0).take 100000 = L
  rw [List.drop_zero, List.take_of_length_le (by omega)]
theorem frF_pre (Y : List Rec) (m : Nat) : Rf.frF Y 1 m = Y.take m := by
  unfold Rf.frF
  by_cases h : (m : Int) < 1
  · rw [if_pos h, show m = 0 by omega]; rfl
  · rw [if_neg h]
    show (Y.drop 0).take ((m : Int)).toNat = _
    rw [List.drop_zero, Int.toNat_natCast]
theorem lastE_bd {L : List Rec} (h : Rf.Wl L) : 0 ≤ Rf.lastE L ∧ Rf.lastE L ≤ 1099511627776 := by
  rcases List.eq_nil_or_concat L with h0 | ⟨l, r, rfl⟩
  · rw [h0, Rf.lastE_nil]; omega
  · rw [List.concat_eq_append] at h ⊢
    rw [Rf.lastE_snoc]
    have := Rf.rok_rg (Rf.wl_pre h).2.1
    exact ⟨this.ep0, this.ep1⟩
set_option maxRecDepth 100000 in
set_option maxHeartbeats 16000000 in
theorem walk (w : World) (a0 : Option Addr) (n0 c0 : Nat) (rs0 : List Rec) (hn0 : n0 = rs0.length) (hf0 : n0 * 80 ≤ 140737488355328) (h0 : Recs w a0 c0 rs0) (hz0 : ∀ r ∈ rs0, r.key.size ≤ 140737488351232 ∧ r.val.size ≤ 140737488351232) (a1 : Option Addr) (n1 c1 : Nat) (rs1 : List Rec) (hn1 : n1 = rs1.length) (hf1 : n1 * 80 ≤ 140737488355328) (h1 : Recs w a1 c1 rs1) (hz1 : ∀ r ∈ rs1, r.key.size ≤ 140737488351232 ∧ r.val.size ≤ 140737488351232) (a2 : Option Addr) (n2 c2 : Nat) (rs2 : List Rec) (hn2 : n2 = rs2.length) (hf2 : n2 * 80 ≤ 140737488355328) (h2 : Recs w a2 c2 rs2) (hz2 : ∀ r ∈ rs2, r.key.size ≤ 140737488351232 ∧ r.val.size ≤ 140737488351232) :
    Calls Tryz.prog 7 #[.slice a0 n0 c0, .slice a1 n1 c1, .slice a2 n2 c2] w fun e w' => e = .returned (.bool true) ∧ Fr (fun _ => False) w w' := by
  have HSP : Hid (∀ W, Calls Tryz.prog 28 #[] W fun e w' => e = .returned (.bool true) ∧ Fr (fun _ => False) W w') := rwspk_any
  have hle0 : n0 ≤ c0 := by rw [hn0]; exact h0.le
  have hle1 : n1 ≤ c1 := by rw [hn1]; exact h1.le
  have hle2 : n2 ≤ c2 := by rw [hn2]; exact h2.le
  have hmx0 := h0.max
  have hmx1 := h1.max
  have hmx2 := h2.max
  have HS0 : Hid (∀ W, Fr (fun _ => False) w W → Recs W a0 c0 rs0) := fun W f => h0.same f
  have HS1 : Hid (∀ W, Fr (fun _ => False) w W → Recs W a1 c1 rs1) := fun W f => h1.same f
  have HS2 : Hid (∀ W, Fr (fun _ => False) w W → Recs W a2 c2 rs2) := fun W f => h2.same f
  have HN0 : Hid (n0 = rs0.length) := hn0
  have HN1 : Hid (n1 = rs1.length) := hn1
  have HN2 : Hid (n2 = rs2.length) := hn2
  clear h0 h1 h2 hn0 hn1 hn2 hf0 hf1 hf2 hz0 hz1 hz2
  go_enter Tryz.func7, Tryz.ntmps7
  go_wp2_with fail
  refine (Rf.wnew_any w).mono ?_
  rintro e w1 ⟨rfl, hx1, f1, hs1⟩
  obtain ⟨xb, hxb⟩ : ∃ xb, xb = w.heap.size := ⟨_, rfl⟩
  rw [← hxb] at hx1 ⊢
  have HXB : Hid (xb = w.heap.size) := hxb
  have HF1 : Hid (Fr (fun _ => False) w w1) := f1
  have HX1 : Hid (Rf.Lg w1 xb (.slice none 0 0) [] 0) := hx1
  clear hxb f1 hx1 hs1
  go_wp2_with fail
  refine (Rf.wnew_any w1).mono ?_
  rintro e w2 ⟨rfl, hy2, f2, hs2⟩
  obtain ⟨yb, hyb⟩ : ∃ yb, yb = w1.heap.size := ⟨_, rfl⟩
  rw [← hyb] at hy2 ⊢
  have HT2 : Hid (Rf.Tl w w2 xb yb (.slice none 0 0) (.slice none 0 0) [] []) := ⟨HX1.out.fr f2 (fun f => f) (fun _ _ f => f), hy2, by have := HXB.out; omega, by have := HF1.out.size; omega, by have := HX1.out.bl; omega, (fun g h => by cases h), (fun g h => by cases h), HF1.out.seq' f2⟩
  clear hyb f2 hy2 hs2 HX1 HF1
  go_wp2
  go_loopw [32] (fun i wr => ∃ (k : Nat) (L : List Rec) (rx ry : Value), k ≤ n0 ∧ i = .int .i64 k ∧ Hid (Rf.Wl L) ∧ Hid (Rf.Tl w wr xb yb rx ry L L)) (fun i _ => n0 - (intOf i).toNat)
  case atStart => exact ⟨0, [], _, _, by omega, rfl, Rf.wl_nil, HT2⟩
  case round =>
    obtain ⟨k, L, rx, ry, hk, rfl, HW, HT⟩ := hrel
    clear HT2
    by_cases hlt : k < n0
    · obtain ⟨r, hr⟩ : ∃ r, rs0[k]? = some r := ⟨_, List.getElem?_eq_getElem (by have := HN0.out; omega)⟩
      obtain ⟨bb, off, rfl, hbb, hcc⟩ := (HS0.out _ HT.out.fr).some (by have := HN0.out; omega)
      have hqq := rec_range (hcc k r hr)
      obtain ⟨lsn, ep, kind, page, other, req, key, val⟩ := r
      dsimp only at hqq
      obtain ⟨q0, q1, q2, q3, q4, q5, q6, q7⟩ := hqq
      have hki : (k : Int) < (n0 : Int) := by omega

      have F0 := Fr.box wr (.cells #[.int .i64 lsn, .int .i64 ep, .int .i64 kind, .int .i64 page, .int .i64 other, .int .i64 req, .string key, .string val] 54)
      have T0 := HT.out.same F0
      have hb0 := heap_alloc_new wr (.cells #[.int .i64 lsn, .int .i64 ep, .int .i64 kind, .int .i64 page, .int .i64 other, .int .i64 req, .string key, .string val] 54)
      obtain ⟨⟨e0, e1, e2, e3, e4, e5, e6, e7⟩, _⟩ := rec_cells hb0
      have ha1 := Rf.append_lg ⟨lsn, ep, kind, page, other, req, key, val⟩ xb rx L 0 _ T0.lx HW.out
      have HT0 : Hid (Rf.Tl w (wr.alloc (.cells #[.int .i64 lsn, .int .i64 ep, .int .i64 kind, .int .i64 page, .int .i64 other, .int .i64 req, .string key, .string val] 54)) xb yb rx ry L L) := T0
      have HB0 : Hid ((wr.alloc (.cells #[.int .i64 lsn, .int .i64 ep, .int .i64 kind, .int .i64 page, .int .i64 other, .int .i64 req, .string key, .string val] 54)).heap[wr.heap.size]? = some (.cells #[.int .i64 lsn, .int .i64 ep, .int .i64 kind, .int .i64 page, .int .i64 other, .int .i64 req, .string key, .string val] 54 (0, 0))) := hb0
      have HXL : Hid (¬ Rf.lgS xb rx wr.heap.size) := fun h => by
        rcases h with h | h
        · have := HT.out.lx.bl; omega
        · have := HT.out.lx.has.lt h; omega
      clear hr hcc F0 T0 hb0
      go_wp2_with fail
      refine ha1.mono ?_
      rintro e w4 ⟨rfl, rx4, hl4, f4, ho4⟩
      have T4 := HT0.out.goX hl4 f4 ho4
      have hb4 := (f4.block wr.heap.size (by simp) HXL.out).trans HB0.out
      have ha2 := Rf.append_lg ⟨lsn, ep, kind, page, other, req, key, val⟩ yb ry L 0 w4 T4.ly HW.out
      have HT4 : Hid (Rf.Tl w w4 xb yb rx4 ry (Rf.apL L ⟨lsn, ep, kind, page, other, req, key, val⟩) L) := T4
      clear e0 e1 e2 e3 e4 e5 e6 e7 ha1 hl4 f4 ho4 T4 q0 q1 q2 q3 q4 q5 q6 q7
      obtain ⟨⟨e0, e1, e2, e3, e4, e5, e6, e7⟩, _⟩ := rec_cells hb4
      clear hb4
      generalize Rf.apN L ⟨lsn, ep, kind, page, other, req, key, val⟩ = an at *
      generalize Rf.apE L ⟨lsn, ep, kind, page, other, req, key, val⟩ = ae at *
      go_wp2_with fail
      refine ha2.mono ?_
      rintro e w5 ⟨rfl, ry5, hl5, f5, ho5⟩
      have HT5 : Hid (Rf.Tl w w5 xb yb rx4 ry5 (Rf.apL L ⟨lsn, ep, kind, page, other, req, key, val⟩) (Rf.apL L ⟨lsn, ep, kind, page, other, req, key, val⟩)) := HT4.out.goY hl5 f5 ho5
      have HW5 : Hid (Rf.Wl (Rf.apL L ⟨lsn, ep, kind, page, other, req, key, val⟩)) := Rf.wl_ap HW.out _
      clear e0 e1 e2 e3 e4 e5 e6 e7 ha2 hl5 f5 ho5 HT4 HT0 HB0 HXL HT HW
      go_wp2
      go_roundw
      case rel => exact ⟨k + 1, _, _, _, by omega, by go_num, HW5, HT5⟩
      case measure => simp [intOf]; omega
    · have hla := Rf.last_lg xb rx L 0 wr HT.out.lx HW.out
      obtain ⟨e, he⟩ : ∃ e, e = Rf.lastE L := ⟨_, rfl⟩
      rw [← he] at hla
      have heb : 0 ≤ e ∧ e ≤ 1099511627776 := by rw [he]; exact lastE_bd HW.out
      have HEB : Hid (Rf.lastE L = e) := he.symm
      obtain ⟨heb0, heb1⟩ := heb
      obtain ⟨m, hm⟩ : ∃ m, m = L.length := ⟨_, rfl⟩
      rw [← hm] at hla
      have HMM : Hid (m = L.length) := hm
      clear he hm
      go_wp2_with fail
      refine hla.mono ?_
      rintro e' w3 ⟨rfl, f3⟩
      have HT3 : Hid (Rf.Tl w w3 xb yb rx ry L L) := HT.out.same f3
      clear hla f3 HT hlt hk
      go_wp2
      go_loopw [50] (fun i wr => ∃ (k : Nat) (X : List Rec) (rx : Value), k ≤ n1 ∧ i = .int .i64 k ∧ Hid (Rf.Gx L X (e + 1)) ∧ Hid (Rf.Tl w wr xb yb rx ry X L)) (fun i _ => n1 - (intOf i).toNat)
      case atStart => exact ⟨0, L, rx, by omega, rfl, Rf.Gx.start HW.out _, HT3⟩
      case round =>
        obtain ⟨k, X, rx, hk, rfl, HGX, HT⟩ := hrel
        clear HT3
        by_cases hlt : k < n1
        · obtain ⟨r, hr⟩ : ∃ r, rs1[k]? = some r := ⟨_, List.getElem?_eq_getElem (by have := HN1.out; omega)⟩
          obtain ⟨bb, off, rfl, hbb, hcc⟩ := (HS1.out _ HT.out.fr).some (by have := HN1.out; omega)
          have hqq := rec_range (hcc k r hr)
          obtain ⟨lsn, ep, kind, page, other, req, key, val⟩ := r
          dsimp only at hqq
          obtain ⟨q0, q1, q2, q3, q4, q5, q6, q7⟩ := hqq
          have hki : (k : Int) < (n1 : Int) := by omega

          have F0 := Fr.box wr (.cells #[.int .i64 lsn, .int .i64 (e + 1), .int .i64 kind, .int .i64 page, .int .i64 other, .int .i64 req, .string key, .string val] 54)
          have T0 := HT.out.same F0
          obtain ⟨⟨e0, e1, e2, e3, e4, e5, e6, e7⟩, _⟩ := rec_cells (heap_alloc_new wr (.cells #[.int .i64 lsn, .int .i64 (e + 1), .int .i64 kind, .int .i64 page, .int .i64 other, .int .i64 req, .string key, .string val] 54))
          have ha1 := Rf.append_lg ⟨lsn, e + 1, kind, page, other, req, key, val⟩ xb rx X 0 _ T0.lx HGX.out.wl
          have HT0 : Hid (Rf.Tl w (wr.alloc (.cells #[.int .i64 lsn, .int .i64 (e + 1), .int .i64 kind, .int .i64 page, .int .i64 other, .int .i64 req, .string key, .string val] 54)) xb yb rx ry X L) := T0
          have HG4 : Hid (Rf.Gx L (Rf.apL X ⟨lsn, e + 1, kind, page, other, req, key, val⟩) (e + 1)) := HGX.out.step (by have := HEB.out; omega) rfl
          clear hr hcc F0 T0
          go_wp2_with fail
          refine ha1.mono ?_
          rintro e' w4 ⟨rfl, rx4, hl4, f4, ho4⟩
          have HT4 : Hid (Rf.Tl w w4 xb yb rx4 ry (Rf.apL X ⟨lsn, e + 1, kind, page, other, req, key, val⟩) L) := HT0.out.goX hl4 f4 ho4
          clear e0 e1 e2 e3 e4 e5 e6 e7 ha1 hl4 f4 ho4 q0 q1 q2 q3 q4 q5 q6 q7 HT0 HT HGX
          go_wp2
          go_roundw
          case rel => exact ⟨k + 1, _, _, by omega, by go_num, HG4, HT4⟩
          case measure => simp [intOf]; omega
        · have HT4 : Hid (Rf.Tl w wr xb yb rx ry X L) := HT
          have HGX0 : Hid (Rf.Gx L X (e + 1)) := HGX
          clear HT HGX
          rename World => WB
          go_wp2
          clear hlt hk
          go_loopw [63] (fun i wr => ∃ (k : Nat) (Y : List Rec) (ry : Value), k ≤ n2 ∧ i = .int .i64 k ∧ Hid (Rf.Gx L Y (e + 2)) ∧ Hid (Rf.Tl w wr xb yb rx ry X Y)) (fun i _ => n2 - (intOf i).toNat)
          case atStart => exact ⟨0, L, ry, by omega, rfl, Rf.Gx.start HW.out _, HT4⟩
          case round =>
            obtain ⟨k, Y, ry, hk, rfl, HGX, HT⟩ := hrel
            clear HT4
            by_cases hlt : k < n2
            · obtain ⟨r, hr⟩ : ∃ r, rs2[k]? = some r := ⟨_, List.getElem?_eq_getElem (by have := HN2.out; omega)⟩
              obtain ⟨bb, off, rfl, hbb, hcc⟩ := (HS2.out _ HT.out.fr).some (by have := HN2.out; omega)
              have hqq := rec_range (hcc k r hr)
              obtain ⟨lsn, ep, kind, page, other, req, key, val⟩ := r
              dsimp only at hqq
              obtain ⟨q0, q1, q2, q3, q4, q5, q6, q7⟩ := hqq
              have hki : (k : Int) < (n2 : Int) := by omega

              have F0 := Fr.box wr (.cells #[.int .i64 lsn, .int .i64 (e + 2), .int .i64 kind, .int .i64 page, .int .i64 other, .int .i64 req, .string key, .string val] 54)
              have T0 := HT.out.same F0
              obtain ⟨⟨e0, e1, e2, e3, e4, e5, e6, e7⟩, _⟩ := rec_cells (heap_alloc_new wr (.cells #[.int .i64 lsn, .int .i64 (e + 2), .int .i64 kind, .int .i64 page, .int .i64 other, .int .i64 req, .string key, .string val] 54))
              have ha1 := Rf.append_lg ⟨lsn, e + 2, kind, page, other, req, key, val⟩ yb ry Y 0 _ T0.ly HGX.out.wl
              have HT0 : Hid (Rf.Tl w (wr.alloc (.cells #[.int .i64 lsn, .int .i64 (e + 2), .int .i64 kind, .int .i64 page, .int .i64 other, .int .i64 req, .string key, .string val] 54)) xb yb rx ry X Y) := T0
              have HG4 : Hid (Rf.Gx L (Rf.apL Y ⟨lsn, e + 2, kind, page, other, req, key, val⟩) (e + 2)) := HGX.out.step (by have := HEB.out; omega) rfl
              clear hr hcc F0 T0
              go_wp2_with fail
              refine ha1.mono ?_
              rintro e' w4 ⟨rfl, ry4, hl4, f4, ho4⟩
              have HT4 : Hid (Rf.Tl w w4 xb yb rx ry4 X (Rf.apL Y ⟨lsn, e + 2, kind, page, other, req, key, val⟩)) := HT0.out.goY hl4 f4 ho4
              clear e0 e1 e2 e3 e4 e5 e6 e7 ha1 hl4 f4 ho4 q0 q1 q2 q3 q4 q5 q6 q7 HT0 HT HGX
              go_wp2
              go_roundw
              case rel => exact ⟨k + 1, _, _, by omega, by go_num, HG4, HT4⟩
              case measure => simp [intOf]; omega
            · have htx := Rf.timeline_any xb rx X 0 wr HT.out.lx HGX0.out.wl
              obtain ⟨MX, hMX⟩ : ∃ MX, MX = Rf.mks X := ⟨_, rfl⟩
              obtain ⟨MY, hMY⟩ : ∃ MY, MY = Rf.mks Y := ⟨_, rfl⟩
              obtain ⟨lx, hlx⟩ : ∃ lx, lx = X.length := ⟨_, rfl⟩
              obtain ⟨ly, hly⟩ : ∃ ly, ly = Y.length := ⟨_, rfl⟩
              have hfork : Ln.forkF MX MY lx ly = m := by rw [hMX, hMY, hlx, hly, HMM.out]; exact Rf.fork_two HGX0.out HGX.out (by omega)
              have hlin : (Ln.linB MX lx && Ln.linB MY ly) = true := by
                rw [Bool.and_eq_true]
                exact ⟨Ln.linB_iff.2 (by rw [hMX, hlx]; exact Rf.wl_right _ X rfl HGX0.out.wl), Ln.linB_iff.2 (by rw [hMY, hly]; exact Rf.wl_right _ Y rfl HGX.out.wl)⟩
              have har := Ln.arE_yes hlin
              rw [hfork] at har
              have hml : m ≤ lx := by rw [hlx, HMM.out]; exact HGX0.out.len
              rw [← hMX, ← hlx] at htx
              have HMX : Hid (Rf.mks X = MX) := hMX.symm
              have HMY : Hid (Rf.mks Y = MY) := hMY.symm
              have HLX : Hid (X.length = lx) := hlx.symm
              have HLY : Hid (Y.length = ly) := hly.symm
              have HAR : Hid (Ln.arE MX lx MY ly = 0 ∧ Ln.fkN MX lx MY ly = m) := har
              have HML : Hid (m ≤ lx) := hml
              clear hMX hMY hlx hly hfork hlin har hml
              go_wp2_with fail
              refine htx.mono ?_
              rintro e' w4 ⟨ax, cx, rfl, hmx, f4⟩
              have HT4 : Hid (Rf.Tl w w4 xb yb rx ry X Y) := HT.out.same f4
              have hty := Rf.timeline_any yb ry Y 0 w4 HT4.out.ly HGX.out.wl
              rw [HMY.out, HLY.out] at hty
              have HMKX : Hid (∀ W, Fr (fun _ => False) w4 W → Ln.Mks W ax cx MX) := fun W f => hmx.same f
              clear htx hmx f4 HT hlt hk
              go_wp2_with fail
              refine hty.mono ?_
              rintro e' w5 ⟨ay, cy, rfl, hmy, f5⟩
              have HT5 : Hid (Rf.Tl w w5 xb yb rx ry X Y) := HT4.out.same f5
              have hpt := point_any ax ay MX.length MY.length cx cy MX MY lx ly rfl rfl w5 (HMKX.out _ f5) hmy
              rw [show ptN MX lx MY ly = (m : Int) by unfold ptN; rw [if_pos HAR.out.1, HAR.out.2], show ptB MX lx MY ly = decide ((m : Int) < (lx : Int)) by unfold ptB; rw [HAR.out.1, HAR.out.2]; simp, HAR.out.1] at hpt
              clear hty hmy f5 HT4
              generalize MX.length = nx at *
              generalize MY.length = ny at *
              go_wp2_with fail
              refine hpt.mono ?_
              rintro e' w6 ⟨rfl, f6⟩
              have HT6 : Hid (Rf.Tl w w6 xb yb rx ry X Y) := HT5.out.same f6
              have hla := Rf.last_lg xb rx X 0 w6 HT6.out.lx HGX0.out.wl
              rw [HLX.out] at hla
              clear hpt f6 HT5
              generalize Rf.lastE X = lex at *
              go_wp2_with fail
              refine hla.mono ?_
              rintro e' w7 ⟨rfl, f7⟩
              have HT7 : Hid (Rf.Tl w w7 xb yb rx ry X Y) := HT6.out.same f7
              have hct := Rf.cut_yes m xb rx X w7 HT7.out.lx HGX0.out.wl.big (by rw [HLX.out]; exact HML.out)
              have hXm : X.take m = L := by rw [HMM.out]; exact HGX0.out.pre
              have hYm : Y.take m = L := by rw [HMM.out]; exact HGX.out.pre
              rw [hXm] at hct
              have HYM : Hid (Y.take m = L) := hYm
              clear hla f7 HT6 hXm hYm
              go_wp2_with fail
              refine hct.mono ?_
              rintro e' w8 ⟨rfl, rx8, hl8, f8, ho8⟩
              have HT8 : Hid (Rf.Tl w w8 xb yb rx8 ry L Y) := HT7.out.goX hl8 f8 ho8
              have hfx := Rf.from_lg 1 100000 (by omega) xb rx8 L 0 w8 HT8.out.lx HW.out.big
              rw [frF_all HW.out.big] at hfx
              obtain ⟨ml, hml⟩ : ∃ ml, ml = L.length := ⟨_, rfl⟩
              rw [← hml] at hfx
              have HLL : Hid (ml = L.length) := hml
              clear hct hl8 f8 ho8 HT7 hml
              go_wp2_with fail
              refine hfx.mono ?_
              rintro e' w9 ⟨a9, c9, rfl, hr9, _, f9⟩
              have HT9 : Hid (Rf.Tl w w9 xb yb rx8 ry L Y) := HT8.out.same f9
              have hfy := Rf.from_lg 1 m (by omega) yb ry Y 0 w9 HT9.out.ly HGX.out.wl.big
              rw [frF_pre, HYM.out, ← HLL.out] at hfy
              have HR9 : Hid (∀ W, Fr (fun _ => False) w9 W → Recs W a9 c9 L) := fun W f => hr9.same f
              clear hfx hr9 f9 HT8
              go_wp2_with fail
              refine hfy.mono ?_
              rintro e' wa ⟨aa, ca, rfl, hra, _, fa⟩
              have hpl := Rf.plain_recs a9 aa ml ml c9 ca L HLL.out HLL.out wa (HR9.out _ fa) hra
              have HTa : Hid (Fr (fun _ => False) w wa) := HT9.out.fr.seq' fa
              clear hfy hra fa HT9
              go_wp2_with fail
              refine hpl.mono ?_
              rintro e' wb ⟨rfl, fb⟩
              have HTb : Hid (Fr (fun _ => False) w wb) := HTa.out.seq' fb
              clear hpl fb HTa
              go_wp2_with fail
              refine (HSP.out _).mono ?_
              rintro e' wc ⟨rfl, fc⟩
              go_wp2
              go_ret
              exact ⟨rfl, HTb.out.seq' fc⟩

set_option maxRecDepth 100000 in
theorem lifted (os : Os) (started : os.Started) (H : Type) (enc : TypeId × Value → H) :
    ReturnsInHanded {} Tryz.checked os 7 .any (Rows.rewindForkSpec.pre6 enc Tryz.prog Tryz.f7 Rows.rewindForkRow.domain false) (Rows.rewindForkSpec.post enc Tryz.prog Tryz.f7 false true false false) := by
  refine returnsInHanded_of_change_sized (C := Tryz.checked) own started (by kernel_rfl) Tryz.func7
    (ChangeSpec.witness6 (enc := enc) (C := Tryz.checked) false ⟨#[], #[.slice none 0 0, .slice none 0 0, .slice none 0 0], []⟩ 8 (by kernel_rfl) (by kernel_rfl) (by kernel_rfl) (by kernel_rfl)) ?_
  intro W base args ds gs before hval0 hW hcnd hsz0 _
  have hsz : (DataW.weightsEach Tryz.prog (Tryz.f7.params.toList ++ Rows.rewindForkSpec.plain.varTypes Tryz.prog) (ds ++ gs)).all (· ≤ reachBytes) = true := hsz0
  clear hsz0
  have hval : ∀ (j : Nat) t v, Tryz.f7.params[j]? = some t → args[j]? = some v → Value.okWide Tryz.prog W .any base t v := hval0
  have hW' := hW
  obtain ⟨p, q, hA0, hV, rfl, hfz, hnd⟩ := hW
  have hA : DataW.TrodAll enc Tryz.prog W 0 (fun _ => true) true Tryz.f7.params.toList args.toList ds p := hA0
  rw [Tryz.params7] at hA hval hsz
  obtain ⟨v0, vs0, d0, ds0, p0, q0, hargs, rfl, rfl, h0, r0⟩ := trodAll_cons hA
  obtain ⟨v1, vs1, d1, ds1, p1, q1, rfl, rfl, rfl, h1, r1⟩ := trodAll_cons r0
  obtain ⟨v2, vs2, d2, ds2, p2, q2, rfl, rfl, rfl, h2, r2⟩ := trodAll_cons r1
  obtain ⟨rfl, rfl, rfl⟩ := trodAll_nil r2
  obtain rfl : args = #[v0, v1, v2] := by cases args; simp_all
  obtain ⟨rfl, rfl⟩ := trodVars_none hV
  obtain ⟨a0, len0, cap0, rfl⟩ := okWide_slice Tryz.underlying45 (hval 0 45 v0 rfl rfl)
  have k0 := h0
  have lt0 : ∀ x ∈ p0, x.block < W.heap.size := by obtain ⟨m, hm⟩ := k0; exact DataW.trod_lt m _ _ _ hm
  have wz0 : ∀ z ∈ d0.weights Tryz.prog 45, z ≤ reachBytes := fun z hz => by simpa using List.all_eq_true.1 hsz z (DataW.weights_mem_each (j := 0) rfl rfl z hz)
  obtain ⟨ls0, hl0, hb0, hr0, hz0⟩ : ∃ ls : List Rec, len0 = ls.length ∧ len0 * 80 ≤ 140737488355328 ∧ Recs W a0 cap0 ls ∧ ∀ r ∈ ls, r.key.size ≤ 140737488351232 ∧ r.val.size ≤ 140737488351232 := by
    obtain ⟨fuel, hf⟩ := h0
    exact recs_open2 hf wz0
  obtain ⟨a1, len1, cap1, rfl⟩ := okWide_slice Tryz.underlying45 (hval 1 45 v1 rfl rfl)
  have k1 := h1
  have lt1 : ∀ x ∈ p1, x.block < W.heap.size := by obtain ⟨m, hm⟩ := k1; exact DataW.trod_lt m _ _ _ hm
  have wz1 : ∀ z ∈ d1.weights Tryz.prog 45, z ≤ reachBytes := fun z hz => by simpa using List.all_eq_true.1 hsz z (DataW.weights_mem_each (j := 1) rfl rfl z hz)
  obtain ⟨ls1, hl1, hb1, hr1, hz1⟩ : ∃ ls : List Rec, len1 = ls.length ∧ len1 * 80 ≤ 140737488355328 ∧ Recs W a1 cap1 ls ∧ ∀ r ∈ ls, r.key.size ≤ 140737488351232 ∧ r.val.size ≤ 140737488351232 := by
    obtain ⟨fuel, hf⟩ := h1
    exact recs_open2 hf wz1
  obtain ⟨a2, len2, cap2, rfl⟩ := okWide_slice Tryz.underlying45 (hval 2 45 v2 rfl rfl)
  have k2 := h2
  have lt2 : ∀ x ∈ p2, x.block < W.heap.size := by obtain ⟨m, hm⟩ := k2; exact DataW.trod_lt m _ _ _ hm
  have wz2 : ∀ z ∈ d2.weights Tryz.prog 45, z ≤ reachBytes := fun z hz => by simpa using List.all_eq_true.1 hsz z (DataW.weights_mem_each (j := 2) rfl rfl z hz)
  obtain ⟨ls2, hl2, hb2, hr2, hz2⟩ : ∃ ls : List Rec, len2 = ls.length ∧ len2 * 80 ≤ 140737488355328 ∧ Recs W a2 cap2 ls ∧ ∀ r ∈ ls, r.key.size ≤ 140737488351232 ∧ r.val.size ≤ 140737488351232 := by
    obtain ⟨fuel, hf⟩ := h2
    exact recs_open2 hf wz2
  clear hA0 hval0
  refine (walk W a0 len0 cap0 ls0 hl0 hb0 hr0 hz0 a1 len1 cap1 ls1 hl1 hb1 hr1 hz1 a2 len2 cap2 ls2 hl2 hb2 hr2 hz2).mono fun e W' ⟨he, fr⟩ => ?_
  have bel : Below W.heap.size W W' := fr.below (Nat.le_refl _) (fun _ f => f.elim)
  subst he
  exact ⟨_, rfl, _, _, _, [], _, [], hW', trodAll_mk1 (shut_bool Tryz.underlying4 _), (trodAll_cons_mk (Below.trod laidOut (by kernel_rfl) (of_decide_eq_true (by kernel_rfl)) k0 bel lt0) (trodAll_cons_mk (Below.trod laidOut (by kernel_rfl) (of_decide_eq_true (by kernel_rfl)) k1 bel lt1) (trodAll_cons_mk (Below.trod laidOut (by kernel_rfl) (of_decide_eq_true (by kernel_rfl)) k2 bel lt2) trodAll_mk0))), rfl, bel.frame _, fun h => by cases h⟩

theorem proved : Rows.RewindForkSaid :=
  OpenClaim.holds_of_wide 7 Tryz.f7 rfl rfl rfl rfl rfl rfl rfl ⟨rfl, rfl, rfl, rfl, rfl⟩ rfl rfl rfl rfl rfl (by kernel_rfl) Tryz.func7 (by kernel_rfl)
    (of_decide_eq_true (by kernel_rfl)) (by unfold Func.isWrapper; first | (rw [if_pos (by decide +kernel)]; kernel_rfl) | (rw [if_neg (by decide +kernel)]; exact ⟨rfl, rfl⟩))
    (fun os started H enc _ => lifted os started H enc)
end Go.Proofs.YtihkdffihmhnaaaGreat.rewindFork
namespace Go.Proofs.YtihkdffihmhnaaaGreat
theorem rewindFork_holds : Rows.RewindForkSaid := rewindFork.proved
#print axioms rewindFork_holds
end Go.Proofs.YtihkdffihmhnaaaGreat
