
/- For every list of records, the frames of the right ones of the first 300, one behind the other, are decoded record by record to the end; no condition on the input. -/
import Derived.Test.YtdiphnfbbajfiaaYB4
import Derived.Test.YtdiphnfbbajfiaaYB9
import Derived.Test.YtdiphnfbbajfiaaYB15
import Derived.Deep.DeepCutAuto
namespace Go.Proofs.Ytdiphnfbbajfiaa.recordRow
open Go.ChangeShapes Go.WideShapes Go.ChangeAt Go.RowKit
open Go.ChangeMaps (open_string shut_string)
set_option linter.unusedVariables false

theorem own : ownKnob Try.prog.godebug = none := by kernel_rfl
theorem laidOut : laidOutB Try.prog = true := by kernel_rfl
theorem bytes8 : Try.prog.bytesOf 5 = 1 := by kernel_rfl

open Go.Proofs.Ytdiphnfbbajfiaa.Crcm

/-- The right ones, and their frames. -/
def gd (l : List Rec) : List Rec := l.filter (fun r => rok r)
def frs (l : List Rec) : List Nat := l.flatMap frm
theorem gd_snoc (l : List Rec) (r : Rec) : gd (l ++ [r]) = gd l ++ (if rok r = true then [r] else []) := by
  unfold gd; rw [List.filter_append]
  congr 1
  by_cases h : rok r = true
  · simp [h]
  · simp [h]
theorem frs_snoc (l : List Rec) (r : Rec) : frs (l ++ [r]) = frs l ++ frm r := by unfold frs; simp
theorem gd_ok {l : List Rec} : ∀ r ∈ gd l, rok r = true := fun r h => by unfold gd at h; exact (List.mem_filter.1 h).2
theorem gd_len (l : List Rec) : (gd l).length ≤ l.length := List.length_filter_le _ _
theorem frs_octs (l : List Rec) : octs (frs l) := fun x hx => by
  unfold frs at hx
  obtain ⟨r, _, h⟩ := List.mem_flatMap.1 hx
  exact frm_octs r x h
theorem frm_le {r : Rec} (h : rok r = true) : (frm r).length ≤ 400 := by have g := rok_rg h; have := g.key; have := g.val; rw [frm_length]; omega
theorem frs_len {l : List Rec} (h : ∀ r ∈ l, rok r = true) : (frs l).length ≤ 400 * l.length := by
  induction l with
  | nil => simp [frs]
  | cons r l ih =>
    have h1 := frm_le (h r (by simp))
    have h2 := ih (fun r hr => h r (by simp [hr]))
    unfold frs at *
    rw [List.flatMap_cons, List.length_append, List.length_cons]
    omega
theorem take_rec (l : List Rec) (k : Nat) (h : k < l.length) : ∃ r, l[k]? = some r ∧ l.take (k + 1) = l.take k ++ [r] := ⟨l[k], List.getElem?_eq_getElem h, List.take_succ_eq_append_getElem h⟩
theorem frs_drop (l : List Rec) (k : Nat) (r : Rec) (h : l[k]? = some r) : frs (l.drop k) = frm r ++ frs (l.drop (k + 1)) := by
  obtain ⟨hk, rfl⟩ := List.getElem?_eq_some_iff.1 h
  rw [List.drop_eq_getElem_cons hk]; unfold frs; rw [List.flatMap_cons]
theorem infoR : (Try.prog.info? 23).map (fun i => (i.zero, i.size, i.bytes)) = some (some (.agg #[.int .i64 0, .int .i64 0, .int .i64 0, .int .i64 0, .int .i64 0, .int .i64 0, .string ⟨#[]⟩, .string ⟨#[]⟩]), 8, 80) := by kernel_rfl

set_option maxRecDepth 100000 in
set_option maxHeartbeats 4000000 in
theorem walk (w : World) (a0 : Option Addr) (len0 cap0 : Nat) (ls : List Rec) (hl0 : len0 = ls.length) (hr0 : Recs w a0 cap0 ls) :
    Calls Try.prog 7 #[.slice a0 len0 cap0] w fun e w' => e = .returned (.bool true) ∧ Fr (fun _ => False) w w' := by
  obtain ⟨i0, hi, hz0, hz1, hz2⟩ := info_parts info8
  obtain ⟨iR, hiR, hR0, hR1, hR2⟩ := info_parts infoR
  have M1 : Hid (Try.prog.info? 23 = some iR) := hiR
  have M2 : Hid (iR.zero = some (.agg #[.int .i64 0, .int .i64 0, .int .i64 0, .int .i64 0, .int .i64 0, .int .i64 0, .string ⟨#[]⟩, .string ⟨#[]⟩])) := hR0
  have M3 : Hid (iR.size = 8) := hR1
  have M4 : Hid (iR.bytes = 80) := hR2
  clear hiR hR0 hR1 hR2
  subst hl0
  have hle := hr0.le
  have hmx := hr0.max
  have HRS : Hid (∀ W, Fr (fun _ => False) w W → Recs W a0 cap0 ls) := fun W f => hr0.same f
  clear hr0
  go_enter Try.func7, Try.ntmps7
  go_wp2
  go_loopw [16, 3, 4] (fun i b t wr => ∃ (k : Nat) (G : List Rec) (B : List Nat) (vb vt : Value), k ≤ ls.length ∧ k ≤ 300 ∧ i = .int .i64 k ∧ b = vb ∧ t = vt ∧ Hid (G = gd (ls.take k)) ∧ Hid (B = frs G) ∧ Mine wr w.heap.size vb B ∧ Has wr 8 vt G.length (G.flatMap recC) ∧ (∀ g, vt.ownBlock = some g → w.heap.size ≤ g ∧ vb.ownBlock ≠ some g) ∧ Fr (fun _ => False) w wr)
    (fun i _ _ _ => ls.length - (intOf i).toNat)
  case atStart => exact ⟨0, [], [], .slice none 0 0, .slice none 0 0, by omega, by omega, rfl, rfl, rfl, rfl, rfl, World.ownsRow_nil _ _ _ _, Has.nil _ _, (fun g e => by cases e), Fr.refl _ _⟩
  case round =>
    obtain ⟨k, G, B, vb, vt, hk, hk3, rfl, rfl, rfl, HG, HBB, mb, ht, hap, F⟩ := hrel
    by_cases hlt : k < ls.length
    · obtain ⟨ab, off, ea, hab, hcs⟩ := (HRS.out _ F).some (by omega)
      obtain ⟨r, hr, htk⟩ := take_rec ls k hlt
      have HTK : Hid (ls.take (k + 1) = ls.take k ++ [r]) := htk
      obtain ⟨q0, q1, q2, q3, q4, q5, q6, q7⟩ := rec_range (hcs k r hr)
      clear hr htk hcs
      subst ea
      have fb := Fr.box wr (.cells #[.int .i64 r.lsn, .int .i64 r.ep, .int .i64 r.kind, .int .i64 r.page, .int .i64 r.other, .int .i64 r.req, .string r.key, .string r.val] 23)
      by_cases h300 : k = 300
      · have h3 : (300 : Int) ≤ (k : Int) := by omega
        clear h300
        have HGO : Hid (∀ r ∈ G, rok r = true) := by show ∀ r ∈ G, rok r = true; rw [HG.out]; exact gd_ok
        have HGL : Hid (G.length ≤ 300) := by show _ ≤ _; rw [HG.out]; exact Nat.le_trans (gd_len _) (by rw [List.length_take]; omega)
        have HBL : Hid (B.length ≤ 120000) := by show _ ≤ _; rw [HBB.out]; have := frs_len HGO.out; have := HGL.out; omega
        have F2 := F.seq' fb
        have mb2 : Mine (wr.alloc (.cells #[.int .i64 r.lsn, .int .i64 r.ep, .int .i64 r.kind, .int .i64 r.page, .int .i64 r.other, .int .i64 r.req, .string r.key, .string r.val] 23)) w.heap.size u3 B := mb.fr fb (fun _ _ f => f)
        have ht2 : Has (wr.alloc (.cells #[.int .i64 r.lsn, .int .i64 r.ep, .int .i64 r.kind, .int .i64 r.page, .int .i64 r.other, .int .i64 r.req, .string r.key, .string r.val] 23)) 8 u4 G.length (G.flatMap recC) := ht.fr fb (fun _ _ f => f)
        obtain ⟨W2, hW2⟩ : ∃ W, W = wr.alloc (.cells #[.int .i64 r.lsn, .int .i64 r.ep, .int .i64 r.kind, .int .i64 r.page, .int .i64 r.other, .int .i64 r.req, .string r.key, .string r.val] 23) := ⟨_, rfl⟩
        rw [← hW2] at F2 mb2 ht2
        have HW2 : Hid (wr.alloc (.cells #[.int .i64 r.lsn, .int .i64 r.ep, .int .i64 r.kind, .int .i64 r.page, .int .i64 r.other, .int .i64 r.req, .string r.key, .string r.val] 23) = W2) := hW2.symm
        clear hW2 mb ht hap
        go_upto_region 12 with fail
        rw [HW2.out]
        clear q0 q1 q2 q3 q4 q5 q6 q7 fb
        obtain ⟨a3, c3, rfl, r3⟩ := mb2.row (by rw [HBB.out]; exact frs_octs G) (by have := HBL.out; omega)
        clear mb2
        obtain ⟨at4, c4, e4, hn4, hc4⟩ := ht2.slice
        have HR3 : Hid (Row W2 a3 c3 B) := r3
        have HT2 : Hid (Has W2 8 u4 G.length (G.flatMap recC)) := ht2
        subst e4
        clear r3 ht2
        have hm4 : G.length ≤ 300 := by have := HGL.out; omega
        have hc4' : c4 ≤ 9223372036854775807 := by unfold maxLen at hc4; exact hc4
        clear hc4
        go_wp2
        go_loopw [40, 3] (fun i b wq => ∃ (q : Nat) (ax : Option Addr) (cx : Nat) (D : List Nat), q ≤ G.length ∧ i = .int .i64 q ∧ b = .slice ax D.length cx ∧ Hid (D = frs (G.drop q)) ∧ Row wq ax cx D ∧ Fr (fun _ => False) W2 wq)
          (fun i _ _ => G.length - (intOf i).toNat)
        case atStart => exact ⟨0, a3, c3, B, by omega, rfl, rfl, by rw [List.drop_zero]; exact HBB, HR3.out, Fr.refl _ _⟩
        case round =>
          obtain ⟨q, ax, cx, D, hq, rfl, rfl, HD, rD, fq⟩ := hrel
          by_cases hql : q < G.length
          · obtain ⟨g, r, hgr⟩ : ∃ g r, at4 = some ⟨g, 0, none⟩ ∧ G[q]? = some r := by
              obtain ⟨g, cap, hv, _⟩ := HT2.out.form (by omega)
              simp only [Value.slice.injEq, true_and] at hv
              exact ⟨g, G[q], hv.1, List.getElem?_eq_getElem hql⟩
            obtain ⟨hg, hgr⟩ := hgr
            subst hg
            have hel := (HT2.out.fr fq (fun _ _ f => f)).elem recC_length hgr
            obtain ⟨q0, q1, q2, q3, q4, q5, q6, q7⟩ := rec_range hel
            have hrk : rok r = true := HGO.out r (List.mem_of_getElem? hgr)
            have HDD : Hid (D = frm r ++ frs (G.drop (q + 1))) := by show _ = _; rw [HD.out]; exact frs_drop G q r hgr
            have HDX : Hid (rdec D = (r, (frm r).length, 0)) := by show _ = _; rw [HDD.out]; exact rdec_frm r hrk _
            have hf43 : 43 ≤ (frm r).length := by rw [frm_length]; omega
            have hfle := frm_le hrk
            have hDl : (frm r).length ≤ D.length := by rw [HDD.out, List.length_append]; omega
            have HDR : Hid (D.drop (frm r).length = frs (G.drop (q + 1))) := by show _ = _; rw [HDD.out, List.drop_left]
            obtain ⟨m, hm⟩ : ∃ m, m = (frm r).length := ⟨_, rfl⟩
            rw [← hm] at HDX hf43 hfle hDl HDR
            clear hm hel hgr hrk HDD
            obtain ⟨bx, ox, rfl, hbx, hcx⟩ : ∃ b off, ax = some ⟨b, off, none⟩ ∧ b < wr.heap.size ∧ ∀ i, i < D.length → wr.cell? ⟨b, off + i, none⟩ = some (.int .u8 ((D.getD i 0 : Nat) : Int)) := by
              rcases rD.at_ with e | e
              · rw [e] at hDl; simp at hDl; omega
              · exact e
            have hlex := rD.le
            have hmxx := rD.max
            have fb := Fr.box wr (.cells #[.int .i64 r.lsn, .int .i64 r.ep, .int .i64 r.kind, .int .i64 r.page, .int .i64 r.other, .int .i64 r.req, .string r.key, .string r.val] 23)
            have hdc := decode_rec (some ⟨bx, ox, none⟩) D.length cx D rfl _ (rD.same fb)
            rw [HDX.out] at hdc
            unfold RdOut at hdc
            dsimp only at hdc
            have i1 : ¬ ((m : Int) < 1) := by omega
            have i2 : ¬ ((D.length : Int) < (m : Int)) := by omega
            have i3 : (m : Int) ≤ (D.length : Int) := by omega
            have i4 : (D.length : Int) ≤ (cx : Int) := by omega
            have i5 : (m : Int) ≤ (cx : Int) := by omega
            obtain ⟨off3, hoff, ho3⟩ : ∃ off3, off3 = (if cx = m then ox else ox + m) ∧ (cx = m ∨ off3 = ox + m) := by
              refine ⟨_, rfl, ?_⟩
              by_cases hc : cx = m
              · exact .inl hc
              · exact .inr (if_neg hc)
            have r4 := rD.drop m hDl off3 ho3 (.inr ⟨hbx, hcx⟩)
            clear hcx
            have hlm : D.length - m = (D.drop m).length := by rw [List.length_drop]
            have HLM : Hid (D.length - m = (D.drop m).length) := hlm
            clear hlm
            go_wp2_with fail
            refine hdc.mono ?_
            clear hdc
            rintro e w5 ⟨rfl, f5⟩
            have fb5 := Fr.box w5 (.cells #[.int .i64 r.lsn, .int .i64 r.ep, .int .i64 r.kind, .int .i64 r.page, .int .i64 r.other, .int .i64 r.req, .string r.key, .string r.val] 23)
            have L5 := f5.seq' fb5
            obtain ⟨⟨s0, s1, s2, s3, s4, s5, s6, s7⟩, _⟩ := rec_cells (rec_at wr _ _ L5)
            have fq5 := fq.seq' (fb.seq' L5)
            have r5 := r4.same (fb.seq' L5)
            by_cases hc : cx = m
            · rw [if_pos hc] at hoff
              subst hoff
              subst hc
              go_wp2
              go_roundw
              case rel => exact ⟨q + 1, some ⟨bx, off3, none⟩, cx - cx, D.drop cx, by omega, by go_num, by rw [← HLM.out]; simp; omega, HDR, r5, fq5⟩
              case measure => simp [intOf]; omega
            · rw [if_neg hc] at hoff
              subst hoff
              go_wp2
              go_roundw
              case rel => exact ⟨q + 1, some ⟨bx, ox + m, none⟩, cx - m, D.drop m, by omega, by go_num, by rw [← HLM.out], HDR, r5, fq5⟩
              case measure => simp [intOf]; omega
          · have hD0 : D.length = 0 := by
              have : G.drop q = [] := List.drop_eq_nil_of_le (by omega)
              rw [HD.out, this]; rfl
            rw [hD0]
            clear hD0
            go_wp2_with fail
            refine (rspeaks_any _).mono ?_
            rintro e w7 ⟨rfl, f7⟩
            go_wp2
            go_ret
            exact ⟨rfl, (F2.seq' fq).seq' f7⟩
      · have h3 : ¬ (300 : Int) ≤ (k : Int) := by omega
        have HGO : Hid (∀ r ∈ G, rok r = true) := by show ∀ r ∈ G, rok r = true; rw [HG.out]; exact gd_ok
        have HGL : Hid (G.length ≤ 300) := by show _ ≤ _; rw [HG.out]; exact Nat.le_trans (gd_len _) (by rw [List.length_take]; omega)
        have HBL : Hid (B.length ≤ 120000) := by show _ ≤ _; rw [HBB.out]; have := frs_len HGO.out; have := HGL.out; omega
        obtain ⟨W1, hW1⟩ : ∃ W, W = wr.alloc (.cells #[.int .i64 r.lsn, .int .i64 r.ep, .int .i64 r.kind, .int .i64 r.page, .int .i64 r.other, .int .i64 r.req, .string r.key, .string r.val] 23) := ⟨_, rfl⟩
        have HW1 : Hid (wr.alloc (.cells #[.int .i64 r.lsn, .int .i64 r.ep, .int .i64 r.kind, .int .i64 r.page, .int .i64 r.other, .int .i64 r.req, .string r.key, .string r.val] 23) = W1) := hW1.symm
        have HBX : Hid (∀ S W, Fr S W1 W → ¬ S wr.heap.size → W.cell? ⟨wr.heap.size, 0, none⟩ = some (.int .i64 r.lsn) ∧ W.cell? ⟨wr.heap.size, 1, none⟩ = some (.int .i64 r.ep) ∧ W.cell? ⟨wr.heap.size, 2, none⟩ = some (.int .i64 r.kind) ∧ W.cell? ⟨wr.heap.size, 3, none⟩ = some (.int .i64 r.page) ∧ W.cell? ⟨wr.heap.size, 4, none⟩ = some (.int .i64 r.other) ∧ W.cell? ⟨wr.heap.size, 5, none⟩ = some (.int .i64 r.req) ∧ W.cell? ⟨wr.heap.size, 6, none⟩ = some (.string r.key) ∧ W.cell? ⟨wr.heap.size, 7, none⟩ = some (.string r.val)) := fun S W f hS => by
          rw [hW1] at f
          exact (rec_cells (by rw [f.block wr.heap.size (by simp) hS]; exact heap_alloc_new wr _)).1
        have hz1' : W1.heap.size = wr.heap.size + 1 := by rw [hW1]; simp
        have HZ1 : Hid (W1.heap.size = wr.heap.size + 1) := hz1'
        rw [← hW1] at fb
        clear hW1 hz1'
        have mb1 := mb.fr fb (fun _ _ f => f)
        have ht1 := ht.fr fb (fun _ _ f => f)
        have HAP : Hid (∀ g, u4.ownBlock = some g → w.heap.size ≤ g ∧ u3.ownBlock ≠ some g) := hap
        have HLB : Hid (∀ g, u3.ownBlock = some g → w.heap.size ≤ g ∧ g < wr.heap.size) := mb.lt
        have HLT : Hid (∀ g, u4.ownBlock = some g → g < wr.heap.size) := fun g e => ht.lt e
        have hwr := F.size
        clear hap mb ht h300
        by_cases hr : rok r = true
        · have hen := encode_ryes r hr W1
          have HGS : Hid (G ++ [r] = gd (ls.take (k + 1))) := by show _ = _; rw [HTK.out, gd_snoc, if_pos hr, HG.out]
          have HBS : Hid (B ++ frm r = frs (G ++ [r])) := by show _ = _; rw [frs_snoc, HBB.out]
          have hfl := frm_le hr
          have HFO : Hid (octs (frm r)) := frm_octs r
          obtain ⟨L, hL⟩ : ∃ L, L = frm r := ⟨_, rfl⟩
          rw [← hL] at hen HBS hfl HFO
          clear hL hr
          go_wp2_with fail
          rw [HW1.out]
          refine hen.mono ?_
          clear hen
          rintro e w2 ⟨v2, rfl, m2⟩
          obtain ⟨a2, c2, rfl, r2⟩ := m2.own.row HFO.out (by omega)
          have f12 := m2.fr
          have mb2 := mb1.fr f12 (fun _ _ f => f)
          have ht2 := ht1.fr f12 (fun _ _ f => f)
          have hs12 := f12.size
          have hb1 := HBL.out
          have hg1 := HGL.out
          have G2 := (F.seq' fb).seq' f12
          clear m2 q0 q1 q2 q3 q4 q5 q6 q7 mb1 ht1
          go_wp2_with (first
            | (at_builtin; refine wpList_append_row _ rfl (.tmp 30) (.tmp 31) 24 24 5 rfl i0 Try.underlying24 Try.underlying24 hi hz0 hz1 hz2 w.heap.size u3 B rfl mb2 a2 L.length c2 L rfl rfl r2 (by omega) G2.size ?_; intro a3 c3 w3 mb3 hgrow3 hat3; have f23 : Fr (fun k => u3.ownBlock = some k) w2 w3 := (Fr.refl _ w2).grown hgrow3 (fun k e _ => e); have ht3 := ht2.fr f23 (fun g e e2 => (HAP.out g e).2 e2); have f13 : Fr (fun k => u3.ownBlock = some k) W1 w3 := (f12.mono (fun _ _ f => f.elim)).trans f23 (fun _ _ e => e); obtain ⟨s0, s1, s2, s3, s4, s5, s6, s7⟩ := HBX.out _ _ f13 (fun e => by have := (HLB.out _ e).2; omega))
            | (at_builtin; refine wpList_append_has _ rfl (.tmp 33) (.tmp 35) 42 42 23 23 rfl iR (.agg #[.int .i64 0, .int .i64 0, .int .i64 0, .int .i64 0, .int .i64 0, .int .i64 0, .string ⟨#[]⟩, .string ⟨#[]⟩]) 8 80 Try.underlying42 Try.underlying42 M1.out M2.out M3.out M4.out rfl (by omega) u4 G.length (G.flatMap recC) rfl (ht3.fr (Fr.box w3 _) (fun _ _ f => f)) (some ⟨w3.heap.size, 0, none⟩) 1 1 (recC r) rfl rfl (.inr ⟨w3.heap.size, 0, rfl, range_block (heap_alloc_new w3 _) (fun j v hv => by rw [Nat.zero_add]; simpa [recC] using hv)⟩) (recC_one r) (by unfold maxLen; omega) (by omega) ?_; intro a4 c4 w4 ht4 f34 hat4))
          have hsz3 : w2.heap.size ≤ w3.heap.size := f23.size
          have hal3 : (w3.alloc (.cells #[.int .i64 r.lsn, .int .i64 r.ep, .int .i64 r.kind, .int .i64 r.page, .int .i64 r.other, .int .i64 r.req, .string r.key, .string r.val] 23)).heap.size = w3.heap.size + 1 := by simp
          rw [hal3] at hat4
          have F3 := G2.grown hgrow3 (S := fun _ => False) (fun k e hk => by have := (HLB.out k e).1; omega)
          have F4 := (F3.alloc (.cells #[.int .i64 r.lsn, .int .i64 r.ep, .int .i64 r.kind, .int .i64 r.page, .int .i64 r.other, .int .i64 r.req, .string r.key, .string r.val] 23)).trans f34 (S := fun _ => False) (fun i hi e => by have := (HAP.out i e.1).1; omega)
          have ub : ∀ g, (Value.slice a3 (B.length + L.length) c3).ownBlock = some g → u3.ownBlock = some g ∨ g = w2.heap.size := fun g e => by
            rcases hat3 with h | h
            · rw [h] at e; exact .inl e
            · rw [h] at e; simp only [Option.some.injEq] at e; exact .inr e.symm
          have ut : ∀ g, (Value.slice a4 (G.length + 1) c4).ownBlock = some g → u4.ownBlock = some g ∨ g = w3.heap.size + 1 := fun g e => by
            rcases hat4 with h | h
            · rw [h] at e; exact .inl e
            · rw [h] at e; simp only [Option.some.injEq] at e; exact .inr e.symm
          have mb4 := (mb3.fr ((Fr.refl (fun _ => False) w3).alloc (.cells #[.int .i64 r.lsn, .int .i64 r.ep, .int .i64 r.kind, .int .i64 r.page, .int .i64 r.other, .int .i64 r.req, .string r.key, .string r.val] 23)) (fun _ _ f => f)).fr f34 (fun g e e2 => by
            rcases ub g e with h | h
            · exact (HAP.out g e2.1).2 h
            · have := HLT.out g e2.1; have := HZ1.out; omega)
          have hl1 : B.length + L.length = (B ++ L).length := by rw [List.length_append]
          rw [hl1] at mb4 ub ⊢
          have hl2 : G.length + 1 = (G ++ [r]).length := by rw [List.length_append]; rfl
          have ht5 : Has w4 8 (.slice a4 (G ++ [r]).length c4) (G ++ [r]).length ((G ++ [r]).flatMap recC) := by
            rw [← hl2, List.flatMap_append]
            simpa using ht4
          rw [hl2] at ut ⊢
          clear hl1 hl2 ht4 hat3 hat4 s0 s1 s2 s3 s4 s5 s6 s7
          go_wp2
          go_roundw
          case rel =>
            refine ⟨k + 1, G ++ [r], B ++ L, _, _, by omega, by omega, by go_num, rfl, rfl, HGS, HBS, mb4, ht5, fun g e => ?_, F4⟩
            rcases ut g e with h | h
            · refine ⟨(HAP.out g h).1, fun e2 => ?_⟩
              rcases ub g e2 with h2 | h2
              · exact (HAP.out g h).2 h2
              · have := HLT.out g h; have := HZ1.out; omega
            · refine ⟨by have := HZ1.out; omega, fun e2 => ?_⟩
              rcases ub g e2 with h2 | h2
              · have := (HLB.out g h2).2; have := HZ1.out; omega
              · omega
          case measure => simp [intOf]; omega
        · have hrf : rok r = false := by simpa using hr
          have hen := encode_rno r hrf W1
          have HGS : Hid (G = gd (ls.take (k + 1))) := by show _ = _; rw [HTK.out, gd_snoc, if_neg hr, List.append_nil, HG.out]
          clear hr hrf
          go_wp2_with fail
          rw [HW1.out]
          refine hen.mono ?_
          clear hen
          rintro e w2 ⟨rfl, f12⟩
          have mb2 := mb1.fr f12 (fun _ _ f => f)
          have ht2 := ht1.fr f12 (fun _ _ f => f)
          have G2 := (F.seq' fb).seq' f12
          clear q0 q1 q2 q3 q4 q5 q6 q7
          go_wp2
          go_roundw
          case rel => exact ⟨k + 1, G, B, u3, u4, by omega, by omega, by go_num, rfl, rfl, HGS, HBB, mb2, ht2, HAP.out, G2⟩
          case measure => simp [intOf]; omega
    · have hke : ls.take k = ls := List.take_of_length_le (by omega)
      have HGO : Hid (∀ r ∈ G, rok r = true) := by show ∀ r ∈ G, rok r = true; rw [HG.out]; exact gd_ok
      have HGL : Hid (G.length ≤ 300) := by show _ ≤ _; rw [HG.out]; exact Nat.le_trans (gd_len _) (by rw [List.length_take]; omega)
      have HBL : Hid (B.length ≤ 120000) := by show _ ≤ _; rw [HBB.out]; have := frs_len HGO.out; have := HGL.out; omega
      have F2 := F
      have mb2 := mb
      have ht2 := ht
      clear mb ht hap hke
      rename World => W2
      obtain ⟨a3, c3, rfl, r3⟩ := mb2.row (by rw [HBB.out]; exact frs_octs G) (by have := HBL.out; omega)
      clear mb2
      obtain ⟨at4, c4, e4, hn4, hc4⟩ := ht2.slice
      have HR3 : Hid (Row W2 a3 c3 B) := r3
      have HT2 : Hid (Has W2 8 u4 G.length (G.flatMap recC)) := ht2
      subst e4
      clear r3 ht2
      have hm4 : G.length ≤ 300 := by have := HGL.out; omega
      have hc4' : c4 ≤ 9223372036854775807 := by unfold maxLen at hc4; exact hc4
      clear hc4
      go_wp2
      go_loopw [40, 3] (fun i b wq => ∃ (q : Nat) (ax : Option Addr) (cx : Nat) (D : List Nat), q ≤ G.length ∧ i = .int .i64 q ∧ b = .slice ax D.length cx ∧ Hid (D = frs (G.drop q)) ∧ Row wq ax cx D ∧ Fr (fun _ => False) W2 wq)
        (fun i _ _ => G.length - (intOf i).toNat)
      case atStart => exact ⟨0, a3, c3, B, by omega, rfl, rfl, by rw [List.drop_zero]; exact HBB, HR3.out, Fr.refl _ _⟩
      case round =>
        obtain ⟨q, ax, cx, D, hq, rfl, rfl, HD, rD, fq⟩ := hrel
        by_cases hql : q < G.length
        · obtain ⟨g, r, hgr⟩ : ∃ g r, at4 = some ⟨g, 0, none⟩ ∧ G[q]? = some r := by
            obtain ⟨g, cap, hv, _⟩ := HT2.out.form (by omega)
            simp only [Value.slice.injEq, true_and] at hv
            exact ⟨g, G[q], hv.1, List.getElem?_eq_getElem hql⟩
          obtain ⟨hg, hgr⟩ := hgr
          subst hg
          have hel := (HT2.out.fr fq (fun _ _ f => f)).elem recC_length hgr
          obtain ⟨q0, q1, q2, q3, q4, q5, q6, q7⟩ := rec_range hel
          have hrk : rok r = true := HGO.out r (List.mem_of_getElem? hgr)
          have HDD : Hid (D = frm r ++ frs (G.drop (q + 1))) := by show _ = _; rw [HD.out]; exact frs_drop G q r hgr
          have HDX : Hid (rdec D = (r, (frm r).length, 0)) := by show _ = _; rw [HDD.out]; exact rdec_frm r hrk _
          have hf43 : 43 ≤ (frm r).length := by rw [frm_length]; omega
          have hfle := frm_le hrk
          have hDl : (frm r).length ≤ D.length := by rw [HDD.out, List.length_append]; omega
          have HDR : Hid (D.drop (frm r).length = frs (G.drop (q + 1))) := by show _ = _; rw [HDD.out, List.drop_left]
          obtain ⟨m, hm⟩ : ∃ m, m = (frm r).length := ⟨_, rfl⟩
          rw [← hm] at HDX hf43 hfle hDl HDR
          clear hm hel hgr hrk HDD
          obtain ⟨bx, ox, rfl, hbx, hcx⟩ : ∃ b off, ax = some ⟨b, off, none⟩ ∧ b < wr.heap.size ∧ ∀ i, i < D.length → wr.cell? ⟨b, off + i, none⟩ = some (.int .u8 ((D.getD i 0 : Nat) : Int)) := by
            rcases rD.at_ with e | e
            · rw [e] at hDl; simp at hDl; omega
            · exact e
          have hlex := rD.le
          have hmxx := rD.max
          have fb := Fr.box wr (.cells #[.int .i64 r.lsn, .int .i64 r.ep, .int .i64 r.kind, .int .i64 r.page, .int .i64 r.other, .int .i64 r.req, .string r.key, .string r.val] 23)
          have hdc := decode_rec (some ⟨bx, ox, none⟩) D.length cx D rfl _ (rD.same fb)
          rw [HDX.out] at hdc
          unfold RdOut at hdc
          dsimp only at hdc
          have i1 : ¬ ((m : Int) < 1) := by omega
          have i2 : ¬ ((D.length : Int) < (m : Int)) := by omega
          have i3 : (m : Int) ≤ (D.length : Int) := by omega
          have i4 : (D.length : Int) ≤ (cx : Int) := by omega
          have i5 : (m : Int) ≤ (cx : Int) := by omega
          obtain ⟨off3, hoff, ho3⟩ : ∃ off3, off3 = (if cx = m then ox else ox + m) ∧ (cx = m ∨ off3 = ox + m) := by
            refine ⟨_, rfl, ?_⟩
            by_cases hc : cx = m
            · exact .inl hc
            · exact .inr (if_neg hc)
          have r4 := rD.drop m hDl off3 ho3 (.inr ⟨hbx, hcx⟩)
          clear hcx
          have hlm : D.length - m = (D.drop m).length := by rw [List.length_drop]
          have HLM : Hid (D.length - m = (D.drop m).length) := hlm
          clear hlm
          go_wp2_with fail
          refine hdc.mono ?_
          clear hdc
          rintro e w5 ⟨rfl, f5⟩
          have fb5 := Fr.box w5 (.cells #[.int .i64 r.lsn, .int .i64 r.ep, .int .i64 r.kind, .int .i64 r.page, .int .i64 r.other, .int .i64 r.req, .string r.key, .string r.val] 23)
          have L5 := f5.seq' fb5
          obtain ⟨⟨s0, s1, s2, s3, s4, s5, s6, s7⟩, _⟩ := rec_cells (rec_at wr _ _ L5)
          have fq5 := fq.seq' (fb.seq' L5)
          have r5 := r4.same (fb.seq' L5)
          by_cases hc : cx = m
          · rw [if_pos hc] at hoff
            subst hoff
            subst hc
            go_wp2
            go_roundw
            case rel => exact ⟨q + 1, some ⟨bx, off3, none⟩, cx - cx, D.drop cx, by omega, by go_num, by rw [← HLM.out]; simp; omega, HDR, r5, fq5⟩
            case measure => simp [intOf]; omega
          · rw [if_neg hc] at hoff
            subst hoff
            go_wp2
            go_roundw
            case rel => exact ⟨q + 1, some ⟨bx, ox + m, none⟩, cx - m, D.drop m, by omega, by go_num, by rw [← HLM.out], HDR, r5, fq5⟩
            case measure => simp [intOf]; omega
        · have hD0 : D.length = 0 := by
            have : G.drop q = [] := List.drop_eq_nil_of_le (by omega)
            rw [HD.out, this]; rfl
          rw [hD0]
          clear hD0
          go_wp2_with fail
          refine (rspeaks_any _).mono ?_
          rintro e w7 ⟨rfl, f7⟩
          go_wp2
          go_ret
          exact ⟨rfl, (F2.seq' fq).seq' f7⟩

set_option maxRecDepth 100000 in
theorem lifted (os : Os) (started : os.Started) (H : Type) (enc : TypeId × Value → H) :
    ReturnsInHanded {} Try.checked os 7 .any (Rows.recordRowSpec.pre6 enc Try.prog Try.f7 Rows.recordRowRow.domain false) (Rows.recordRowSpec.post enc Try.prog Try.f7 false true false false) := by
  refine returnsInHanded_of_change_sized (C := Try.checked) own started (by kernel_rfl) Try.func7
    (ChangeSpec.witness6 (enc := enc) (C := Try.checked) false ⟨#[], #[.slice none 0 0], []⟩ 8 (by kernel_rfl) (by kernel_rfl) (by kernel_rfl) (by kernel_rfl)) ?_
  intro W base args ds gs before hval0 hW hcnd hsz0 _
  have hsz : (DataW.weightsEach Try.prog (Try.f7.params.toList ++ Rows.recordRowSpec.plain.varTypes Try.prog) (ds ++ gs)).all (· ≤ reachBytes) = true := hsz0
  clear hsz0
  have hval : ∀ (j : Nat) t v, Try.f7.params[j]? = some t → args[j]? = some v → Value.okWide Try.prog W .any base t v := hval0
  have hW' := hW
  obtain ⟨p, q, hA0, hV, rfl, hfz, hnd⟩ := hW
  have hA : DataW.TrodAll enc Try.prog W 0 (fun _ => true) true Try.f7.params.toList args.toList ds p := hA0
  rw [Try.params7] at hA hval hsz
  obtain ⟨v0, vs0, d0, ds0, p0, q0, hargs, rfl, rfl, h0, r0⟩ := trodAll_cons hA
  obtain ⟨rfl, rfl, rfl⟩ := trodAll_nil r0
  obtain rfl : args = #[v0] := by cases args; simp_all
  obtain ⟨rfl, rfl⟩ := trodVars_none hV
  obtain ⟨a0, len0, cap0, rfl⟩ := okWide_slice Try.underlying42 (hval 0 42 v0 rfl rfl)
  have k0 := h0
  have lt0 : ∀ x ∈ p0, x.block < W.heap.size := by obtain ⟨m, hm⟩ := k0; exact DataW.trod_lt m _ _ _ hm
  obtain ⟨ls0, hl0, hr0⟩ : ∃ ls : List Rec, len0 = ls.length ∧ Recs W a0 cap0 ls := by
    obtain ⟨fuel, hf⟩ := h0
    obtain ⟨ls, e1, e2, e3⟩ := recs_open hf
    exact ⟨ls, e1, e2⟩
  clear hA0 hval0
  refine (walk W a0 len0 cap0 ls0 hl0 hr0).mono fun e W' ⟨he, fr⟩ => ?_
  have bel : Below W.heap.size W W' := fr.below (Nat.le_refl _) (fun _ f => f.elim)
  subst he
  exact ⟨_, rfl, _, _, _, [], _, [], hW', trodAll_mk1 (shut_bool Try.underlying4 _), (trodAll_cons_mk (Below.trod laidOut (by kernel_rfl) (of_decide_eq_true (by kernel_rfl)) k0 bel lt0) trodAll_mk0), rfl, bel.frame _, fun h => by cases h⟩

theorem proved : Rows.RecordRowSaid :=
  OpenClaim.holds_of_wide 7 Try.f7 rfl rfl rfl rfl rfl rfl rfl ⟨rfl, rfl, rfl, rfl, rfl⟩ rfl rfl rfl rfl rfl (by kernel_rfl) Try.func7 (by kernel_rfl)
    (of_decide_eq_true (by kernel_rfl)) (by unfold Func.isWrapper; first | (rw [if_pos (by decide +kernel)]; kernel_rfl) | (rw [if_neg (by decide +kernel)]; exact ⟨rfl, rfl⟩))
    (fun os started H enc _ => lifted os started H enc)
end Go.Proofs.Ytdiphnfbbajfiaa.recordRow
namespace Go.Proofs.Ytdiphnfbbajfiaa
theorem recordRow_holds : Rows.RecordRowSaid := recordRow.proved
#print axioms recordRow_holds
end Go.Proofs.Ytdiphnfbbajfiaa
