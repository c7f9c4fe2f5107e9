
/- What wal.Read tells. -/
import Derived.Test.YtcmkpmilnplhmaaWTG
import Derived.WalkMore
namespace Go.Proofs.Ytcmkpmilnplhmaa
open Go.RowKit Crcm

/-- Whether one frame more is taken. -/
def more (b : List Nat) (ls : List Rec) (n : Nat) : Bool := decide ((rdec (b.drop n)).2.2 = 0 ∧ (rdec (b.drop n)).1.lsn = (ls.length : Int) + 1 ∧ refus ls (rdec (b.drop n)).1.ep = 0)
/-- The log with whose frames bytes begin. -/
def rdAll (b : List Nat) : Nat → List Rec → Nat → List Rec × Nat
  | 0, ls, n => (ls, n)
  | f + 1, ls, n => if more b ls n = true then rdAll b f (ls ++ [(rdec (b.drop n)).1]) (n + (rdec (b.drop n)).2.1) else (ls, n)
def wread (b : List Nat) : List Rec × Nat := rdAll b (b.length + 1) [] 0
theorem more_of {b : List Nat} {ls : List Rec} {n : Nat} {r : Rec} {m : Nat} {e : Nat} (h : rdec (b.drop n) = (r, m, e)) : more b ls n = decide (e = 0 ∧ r.lsn = (ls.length : Int) + 1 ∧ refus ls r.ep = 0) := by
  unfold more; rw [h]
theorem rdAll_no {b : List Nat} {ls : List Rec} {n f : Nat} (h : more b ls n = false) : rdAll b f ls n = (ls, n) := by
  cases f with
  | zero => rfl
  | succ f => unfold rdAll; rw [h]; rfl
theorem rdAll_yes {b : List Nat} {ls : List Rec} {n f : Nat} {r : Rec} {m e : Nat} (hr : rdec (b.drop n) = (r, m, e)) (h : more b ls n = true) : rdAll b (f + 1) ls n = rdAll b f (ls ++ [r]) (n + m) := by
  rw [rdAll, h, hr]; rfl

theorem Lg.flush {w : World} {lb : Nat} {rv : Value} {ls : List Rec} {fl : Int} (h : Lg w lb rv ls fl) (x : Int) : Lg (w.setCell ⟨lb, 1, none⟩ (.int .i64 x)) lb rv ls x ∧ Fr (fun k => k = lb) w (w.setCell ⟨lb, 1, none⟩ (.int .i64 x)) := by
  have fs : Fr (fun k => k = lb) w (w.setCell ⟨lb, 1, none⟩ (.int .i64 x)) := (Fr.refl (fun k => k = lb) w).setCell (p := ⟨lb, 1, none⟩) (fun _ => rfl) _
  exact ⟨⟨two_setCell1 h.box, h.has.fr fs (fun g e e2 => by have := h.own g e; omega), h.own⟩, fs⟩

set_option maxRecDepth 100000 in
set_option maxHeartbeats 4000000 in
theorem read_some (bb off cap : Nat) (l : List Nat) (w : World) (hr : Row w (some ⟨bb, off, none⟩) cap l) (hlb : bb < w.heap.size) (hc : ∀ i, i < l.length → w.cell? ⟨bb, off + i, none⟩ = some (.int .u8 ((l.getD i 0 : Nat) : Int))) :
    Calls Try.prog 7 #[.slice (some ⟨bb, off, none⟩) l.length cap] w fun e w' => e = .returned (.tuple #[.pointer (some ⟨w.heap.size, 0, none⟩), .int .i64 ((wread l).2 : Nat)]) ∧
      ∃ rv, Lg w' w.heap.size rv (wread l).1 ((wread l).1.length : Int) ∧ Wl (wread l).1 ∧ Fr (fun _ => False) w w' ∧ (wread l).2 ≤ l.length := by
  obtain ⟨iR, hiR, hR0, hR1, hR2⟩ := info_parts infoRec
  have hle := hr.le
  have hmx := hr.max
  have hsm := hr.small
  have HRD : Hid (∀ n, n ≤ l.length → ∀ off2, (cap = n ∨ off2 = off + n) → ∀ W, Fr (fun _ => False) w W → Row W (some ⟨bb, off2, none⟩) (cap - n) (l.drop n)) := fun n hn off2 ho W f => (hr.drop n hn off2 ho (.inr ⟨hlb, hc⟩)).same f
  have HOC : Hid (octs l) := hr.byte
  obtain ⟨X, hX⟩ : ∃ X, X = wread l := ⟨_, rfl⟩
  have HX : Hid (X = rdAll l (l.length + 1) [] 0) := hX
  rw [← hX]
  clear hX hr hc
  obtain ⟨lb, hlbd⟩ : ∃ lb, lb = w.heap.size := ⟨_, rfl⟩
  have HLB : Hid (lb = w.heap.size) := hlbd
  have hnw := wnew_any w
  rw [← hlbd] at hnw ⊢
  clear hlbd
  go_enter Try.func7, Try.ntmps7
  go_wp2_with fail
  go_step3
  go_wp2_with fail
  refine hnw.mono ?_
  clear hnw
  rintro e w1 ⟨rfl, l1, f1, hz1⟩
  go_wp2
  go_step3
  go_wp2
  go_loopw [5] (fun t wr => ∃ (k n : Nat) (ls : List Rec) (rv : Value), n ≤ l.length ∧ k ≤ n ∧ t = .int .i64 n ∧ Lg wr lb rv ls 0 ∧ Hid (Wl ls) ∧ Hid (X = rdAll l (l.length + 1 - k) ls n) ∧ Fr (fun _ => False) w wr)
    (fun t _ => l.length - (intOf t).toNat)
  case atStart => exact ⟨0, 0, [], .slice none 0 0, by omega, by omega, rfl, l1, wl_nil, HX, f1⟩
  case round =>
    obtain ⟨k, n, ls, rv, hn, hk, rfl, lg, WL, HK, F⟩ := hrel
    clear l1 f1 hz1
    have i1 : (n : Int) ≤ (l.length : Int) := by omega
    have i2 : (l.length : Int) ≤ (cap : Int) := by omega
    have i3 : (n : Int) ≤ (cap : Int) := by omega
    have hlw : lb < wr.heap.size := lt_of_block lg.box
    obtain ⟨r, m, e, hrd⟩ : ∃ r m e, rdec (l.drop n) = (r, m, e) := ⟨_, _, _, rfl⟩
    have hmo := more_of (ls := ls) hrd
    have HRDC : Hid (rdec (l.drop n) = (r, m, e)) := hrd
    obtain ⟨off3, hoff, ho3⟩ : ∃ off3, off3 = (if cap = n then off else off + n) ∧ (cap = n ∨ off3 = off + n) := by
      refine ⟨_, rfl, ?_⟩
      by_cases hc : cap = n
      · exact .inl hc
      · exact .inr (if_neg hc)
    have hdc := fun W f => decode_rec (some ⟨bb, off3, none⟩) (l.length - n) (cap - n) (l.drop n) (by rw [List.length_drop]) W (HRD.out n hn off3 ho3 W f)
    rw [hrd] at hdc
    unfold RdOut at hdc
    dsimp only at hdc
    have HM : Hid (more l ls n = decide (e = 0 ∧ r.lsn = (ls.length : Int) + 1 ∧ refus ls r.ep = 0)) := hmo
    clear hrd hmo
    have hdc1 := hdc wr F
    clear hdc
    by_cases hcn : cap = n
    · have hd0 : l.drop n = [] := List.drop_eq_nil_of_le (by omega)
      have hre := HRDC.out
      rw [hd0] at hre
      have hz : rdec [] = (zr, 0, 10) := by unfold rdec; rw [if_pos (by decide)]
      rw [hz] at hre
      simp only [Prod.mk.injEq] at hre
      obtain ⟨rfl, rfl, rfl⟩ := hre
      have HMF : Hid (more l ls n = false) := by show _ = _; rw [HM.out]; exact decide_eq_false (fun h => absurd h.1 (by decide))
      rw [if_pos hcn] at hoff
      subst hoff
      rw [zr_agg] at hdc1
      clear hd0 hz ho3
      have hcn' := hcn.symm
      clear hcn
      subst hcn'
      have e0 : l.length - n = 0 := by omega
      rw [e0, Nat.sub_self] at hdc1
      clear e0
      go_wp2_with fail
      refine hdc1.mono ?_
      clear hdc1
      rintro e2 w2 ⟨rfl, f2⟩
      have fb := Fr.box w2 (.cells #[.int .i64 0, .int .i64 0, .int .i64 0, .int .i64 0, .int .i64 0, .int .i64 0, .string ⟨#[]⟩, .string ⟨#[]⟩] 28)
      have FE := (F.seq' f2).seq' fb
      have lgE := lg.same (f2.seq' fb)
      have HXE : Hid (X = (ls, n)) := by show _ = _; rw [HK.out]; exact rdAll_no HMF.out
      have hla := last_lg lb rv ls 0 _ lgE WL.out
      go_wp2_with fail
      refine hla.mono ?_
      clear hla
      rintro e9 w9 ⟨rfl, f9⟩
      have lg9 := lgE.same f9
      obtain ⟨y0, y1, y2, y3⟩ := cell_of_two lg9.box
      obtain ⟨lgF, fF⟩ := lg9.flush (ls.length : Int)
      have F9 := (FE.seq' f9).trans fF (S := fun _ => False) (fun i hi e => by have := HLB.out; omega)
      go_wp2
      rw [Exit.noGoto_ret]
      go_ret2
      rw [HXE.out]
      exact ⟨rfl, rv, lgF, WL.out, F9, hn⟩
    · rw [if_neg hcn] at hoff
      subst hoff
      have fbx := fun w2 (f2 : Fr (fun _ => False) wr w2) => (F.seq' f2).seq' (Fr.box w2 (.cells #[.int .i64 r.lsn, .int .i64 r.ep, .int .i64 r.kind, .int .i64 r.page, .int .i64 r.other, .int .i64 r.req, .string r.key, .string r.val] 28))
      by_cases he : e = 0
      · subst he
        by_cases hl : r.lsn = (ls.length : Int) + 1
        · have hlb2 : (r.lsn != (ls.length : Int) + 1) = false := by simp [hl]
          by_cases hf : refus ls r.ep = 0
          · have HMT : Hid (more l ls n = true) := by show _ = _; rw [HM.out]; exact decide_eq_true ⟨rfl, hl, hf⟩
            obtain ⟨s1, s2, s3, s4⟩ := rdec_some (l.drop n) (fun x hx => HOC.out x (List.mem_of_mem_drop hx)) r m HRDC.out
            have hm43 : 43 ≤ m := by rw [s2, frm_length]; omega
            have hml : n + m ≤ l.length := by rw [List.length_drop] at s3; omega
            have HWS : Hid (Wl (ls ++ [r])) := wl_snoc WL.out r s1 hl hf
            have HXS : Hid (X = rdAll l (l.length + 1 - (k + 1)) (ls ++ [r]) (n + m)) := by
              show _ = _
              rw [HK.out]
              have hk1 : l.length + 1 - k = (l.length + 1 - (k + 1)) + 1 := by omega
              rw [hk1]
              exact rdAll_yes HRDC.out HMT.out
            have hbig := HWS.out.big
            rw [List.length_append, List.length_singleton] at hbig
            have e1 : IntKind.i64.wrap ((n : Int) + (m : Int)) = (n : Int) + (m : Int) := by simp [IntKind.wrap, IntKind.bits, IntKind.signed]; omega
            have hrf := fun W hW => refusal_lg lb rv ls 0 r W hW WL.out
            rw [hf] at hrf
            have hnx := fun W hW => next_lg lb rv ls 0 W hW (by omega)
            clear hl hf s1 s2 s3 s4 HM
            go_wp2_with fail
            refine hdc1.mono ?_
            clear hdc1
            rintro e2 w2 ⟨rfl, f2⟩
            have fb := Fr.box w2 (.cells #[.int .i64 r.lsn, .int .i64 r.ep, .int .i64 r.kind, .int .i64 r.page, .int .i64 r.other, .int .i64 r.req, .string r.key, .string r.val] 28)
            have FE := fbx w2 f2
            have lgE := lg.same (f2.seq' fb)
            obtain ⟨W2, hW2⟩ : ∃ W, W = w2.alloc (.cells #[.int .i64 r.lsn, .int .i64 r.ep, .int .i64 r.kind, .int .i64 r.page, .int .i64 r.other, .int .i64 r.req, .string r.key, .string r.val] 28) := ⟨_, rfl⟩
            rw [← hW2] at fb FE lgE
            have HW2 : Hid (w2.alloc (.cells #[.int .i64 r.lsn, .int .i64 r.ep, .int .i64 r.kind, .int .i64 r.page, .int .i64 r.other, .int .i64 r.req, .string r.key, .string r.val] 28) = W2) := hW2.symm
            have HBX : Hid (∀ W, Fr (fun _ => False) W2 W → W.cell? ⟨w2.heap.size, 0, none⟩ = some (.int .i64 r.lsn) ∧ W.cell? ⟨w2.heap.size, 1, none⟩ = some (.int .i64 r.ep) ∧ W.cell? ⟨w2.heap.size, 2, none⟩ = some (.int .i64 r.kind) ∧ W.cell? ⟨w2.heap.size, 3, none⟩ = some (.int .i64 r.page) ∧ W.cell? ⟨w2.heap.size, 4, none⟩ = some (.int .i64 r.other) ∧ W.cell? ⟨w2.heap.size, 5, none⟩ = some (.int .i64 r.req) ∧ W.cell? ⟨w2.heap.size, 6, none⟩ = some (.string r.key) ∧ W.cell? ⟨w2.heap.size, 7, none⟩ = some (.string r.val)) := fun W f => by rw [hW2] at f; exact (rec_cells (rec_at w2 _ _ f)).1
            have hz2 : w2.heap.size < W2.heap.size := by rw [hW2]; simp
            have hlw2 : lb < w2.heap.size := Nat.lt_of_lt_of_le hlw f2.size
            clear hW2 fbx
            have g0 := (Fr.refl (fun _ => False) W2).drew
            have b0 := HBX.out _ g0
            have hnx2 := hnx _ (lgE.same g0)
            go_wp2_with fail
            rw [HW2.out]
            go_region_held3 (fun W => W.cell? ⟨w2.heap.size, 0, none⟩ = some (.int .i64 r.lsn) ∧ W.cell? ⟨w2.heap.size, 1, none⟩ = some (.int .i64 r.ep) ∧ W.cell? ⟨w2.heap.size, 2, none⟩ = some (.int .i64 r.kind) ∧ W.cell? ⟨w2.heap.size, 3, none⟩ = some (.int .i64 r.page) ∧ W.cell? ⟨w2.heap.size, 4, none⟩ = some (.int .i64 r.other) ∧ W.cell? ⟨w2.heap.size, 5, none⟩ = some (.int .i64 r.req) ∧ W.cell? ⟨w2.heap.size, 6, none⟩ = some (.string r.key) ∧ W.cell? ⟨w2.heap.size, 7, none⟩ = some (.string r.val)) (exact b0) ((go_at_call 13; refine hnx2.mono ?_; rintro e w5 ⟨rfl, rfl⟩))
            clear hnx2 b0
            obtain ⟨c0, c1, c2, c3, c4, c5, c6, c7⟩ := HBX.out _ g0
            go_wp2_with fail
            refine (hrf _ (lgE.same g0)).mono ?_
            clear hrf hnx
            rintro e6 w6 ⟨rfl, f6⟩
            clear c0 c1 c2 c3 c4 c5 c6 c7
            have G6 := g0.seq' f6
            have F6 := FE.seq' G6
            have lg6 := lgE.same G6
            obtain ⟨k0, k1, z0, z1⟩ := cell_of_two lg6.box
            obtain ⟨c0, c1, c2, c3, c4, c5, c6, c7⟩ := HBX.out _ G6
            obtain ⟨ar, cr, rfl, _, _⟩ := lg.has.slice
            have G7 : Fr (fun _ => False) W2 ((w6.alloc (.cells #[.int .i64 r.lsn, .int .i64 r.ep, .int .i64 r.kind, .int .i64 r.page, .int .i64 r.other, .int .i64 r.req, .string r.key, .string r.val] 28)).drew) := (G6.alloc _).drew
            have P7 : Fr (fun _ => False) w6 ((w6.alloc (.cells #[.int .i64 r.lsn, .int .i64 r.ep, .int .i64 r.kind, .int .i64 r.page, .int .i64 r.other, .int .i64 r.req, .string r.key, .string r.val] 28)).drew) := ((Fr.refl _ w6).alloc _).drew
            have lg7 := lgE.same G7
            have hrow := lg7.has
            have hbx := lg7.box
            have hnews : From ((w6.alloc (.cells #[.int .i64 r.lsn, .int .i64 r.ep, .int .i64 r.kind, .int .i64 r.page, .int .i64 r.other, .int .i64 r.req, .string r.key, .string r.val] 28)).drew) (some ⟨w6.heap.size, 0, none⟩) (recC r) := .inr ⟨_, _, rfl, range_block (w := (w6.alloc _).drew) (heap_alloc_new w6 _) (fun j v hv => by rw [Nat.zero_add]; simpa [recC] using hv)⟩
            have HHB : Hid (∀ w8, Fr (fun k => (Value.slice ar ls.length cr).ownBlock = some k ∧ 0 < 1) ((w6.alloc (.cells #[.int .i64 r.lsn, .int .i64 r.ep, .int .i64 r.kind, .int .i64 r.page, .int .i64 r.other, .int .i64 r.req, .string r.key, .string r.val] 28)).drew) w8 → w8.heap[lb]? = some (.cells #[.slice ar ls.length cr, .int .i64 0] 43 (0, 0))) := fun w8 f => by
              rw [f.block lb (lt_of_block hbx) (fun e => by have := lg.own lb e.1; omega)]; exact hbx
            obtain ⟨y0, y1, y2, y3⟩ := cell_of_two hbx
            obtain ⟨t0, t1, t2, t3, t4, t5, t6, t7⟩ := HBX.out _ G7
            go_wp2_with fail
            go_region_law
              ((refine step_append_has _ (by rfl) _ _ 22 22 28 28 (by rfl) iR _ 8 80 Try.underlying22 Try.underlying22 hiR hR0 hR1 hR2 rfl (by omega) (.slice ar ls.length cr) ls.length (ls.flatMap recC) (by rfl) hrow
                  (some ⟨w6.heap.size, 0, none⟩) 1 1 (recC r) (by rfl) (by rfl) hnews (recC_one r) (by unfold maxLen; omega) (by omega) ?_; intro a' c' w8 hown hfr hat; have hb8 := HHB.out _ hfr; obtain ⟨k5, k6, z5, z6⟩ := cell_of_two hb8))
            all_goals
              have hp := lg6.push P7 hfr (ls' := ls ++ [r]) (by rw [List.length_append, List.flatMap_append]; simpa using hown) hat
              obtain ⟨hp1, hp2, hp3⟩ := hp
              have FF := F6.trans hp2 (S := fun _ => False) (fun i hi e => by
                rcases e with e | e
                · have := HLB.out; omega
                · have := lg.own i e; have := HLB.out; omega)
              go_wp2
              go_roundw
              case rel => exact ⟨k + 1, n + m, ls ++ [r], _, hml, by omega, by go_num, hp1, HWS, HXS, FF⟩
              case measure => simp [intOf]; omega
          · have HMF : Hid (more l ls n = false) := by show _ = _; rw [HM.out]; exact decide_eq_false (fun h => hf h.2.2)
            have hfb : (refus ls r.ep != 0) = true := by simpa using hf
            have hbig := WL.out.big
            have hrf := fun W hW => refusal_lg lb rv ls 0 r W hW WL.out
            have hnx := fun W hW => next_lg lb rv ls 0 W hW (by omega)
            generalize refus ls r.ep = er at *
            clear hl hf HM
            go_wp2_with fail
            refine hdc1.mono ?_
            clear hdc1
            rintro e2 w2 ⟨rfl, f2⟩
            have fb := Fr.box w2 (.cells #[.int .i64 r.lsn, .int .i64 r.ep, .int .i64 r.kind, .int .i64 r.page, .int .i64 r.other, .int .i64 r.req, .string r.key, .string r.val] 28)
            have FE1 := fbx w2 f2
            have lgE1 := lg.same (f2.seq' fb)
            obtain ⟨W2, hW2⟩ : ∃ W, W = w2.alloc (.cells #[.int .i64 r.lsn, .int .i64 r.ep, .int .i64 r.kind, .int .i64 r.page, .int .i64 r.other, .int .i64 r.req, .string r.key, .string r.val] 28) := ⟨_, rfl⟩
            rw [← hW2] at fb FE1 lgE1
            have HW2 : Hid (w2.alloc (.cells #[.int .i64 r.lsn, .int .i64 r.ep, .int .i64 r.kind, .int .i64 r.page, .int .i64 r.other, .int .i64 r.req, .string r.key, .string r.val] 28) = W2) := hW2.symm
            have HBX : Hid (∀ W, Fr (fun _ => False) W2 W → W.cell? ⟨w2.heap.size, 0, none⟩ = some (.int .i64 r.lsn) ∧ W.cell? ⟨w2.heap.size, 1, none⟩ = some (.int .i64 r.ep) ∧ W.cell? ⟨w2.heap.size, 2, none⟩ = some (.int .i64 r.kind) ∧ W.cell? ⟨w2.heap.size, 3, none⟩ = some (.int .i64 r.page) ∧ W.cell? ⟨w2.heap.size, 4, none⟩ = some (.int .i64 r.other) ∧ W.cell? ⟨w2.heap.size, 5, none⟩ = some (.int .i64 r.req) ∧ W.cell? ⟨w2.heap.size, 6, none⟩ = some (.string r.key) ∧ W.cell? ⟨w2.heap.size, 7, none⟩ = some (.string r.val)) := fun W f => by rw [hW2] at f; exact (rec_cells (rec_at w2 _ _ f)).1
            clear hW2 fbx
            have g0 := (Fr.refl (fun _ => False) W2).drew
            have b0 := HBX.out _ g0
            have hnx2 := hnx _ (lgE1.same g0)
            go_wp2_with fail
            rw [HW2.out]
            go_region_held3 (fun W => W.cell? ⟨w2.heap.size, 0, none⟩ = some (.int .i64 r.lsn) ∧ W.cell? ⟨w2.heap.size, 1, none⟩ = some (.int .i64 r.ep) ∧ W.cell? ⟨w2.heap.size, 2, none⟩ = some (.int .i64 r.kind) ∧ W.cell? ⟨w2.heap.size, 3, none⟩ = some (.int .i64 r.page) ∧ W.cell? ⟨w2.heap.size, 4, none⟩ = some (.int .i64 r.other) ∧ W.cell? ⟨w2.heap.size, 5, none⟩ = some (.int .i64 r.req) ∧ W.cell? ⟨w2.heap.size, 6, none⟩ = some (.string r.key) ∧ W.cell? ⟨w2.heap.size, 7, none⟩ = some (.string r.val)) (exact b0) ((go_at_call 13; refine hnx2.mono ?_; rintro e w5 ⟨rfl, rfl⟩))
            clear hnx2 b0
            obtain ⟨c0, c1, c2, c3, c4, c5, c6, c7⟩ := HBX.out _ g0
            go_wp2_with fail
            refine (hrf _ (lgE1.same g0)).mono ?_
            clear hrf hnx
            rintro e6 w6 ⟨rfl, f6⟩
            clear c0 c1 c2 c3 c4 c5 c6 c7
            have FE := FE1.seq' (g0.seq' f6)
            have lgE := lgE1.same (g0.seq' f6)
            have HXE : Hid (X = (ls, n)) := by show _ = _; rw [HK.out]; exact rdAll_no HMF.out
            have hla := last_lg lb rv ls 0 _ lgE WL.out
            go_wp2_with fail
            refine hla.mono ?_
            clear hla
            rintro e9 w9 ⟨rfl, f9⟩
            have lg9 := lgE.same f9
            obtain ⟨y0, y1, y2, y3⟩ := cell_of_two lg9.box
            obtain ⟨lgF, fF⟩ := lg9.flush (ls.length : Int)
            have F9 := (FE.seq' f9).trans fF (S := fun _ => False) (fun i hi e => by have := HLB.out; omega)
            go_wp2
            rw [Exit.noGoto_ret]
            go_ret2
            rw [HXE.out]
            exact ⟨rfl, rv, lgF, WL.out, F9, hn⟩
        · have HMF : Hid (more l ls n = false) := by show _ = _; rw [HM.out]; exact decide_eq_false (fun h => hl h.2.1)
          have hlb2 : (r.lsn != (ls.length : Int) + 1) = true := by simpa using hl
          have hbig := WL.out.big
          have hnx := fun W hW => next_lg lb rv ls 0 W hW (by omega)
          clear hl HM
          go_wp2_with fail
          refine hdc1.mono ?_
          clear hdc1
          rintro e2 w2 ⟨rfl, f2⟩
          have fb := Fr.box w2 (.cells #[.int .i64 r.lsn, .int .i64 r.ep, .int .i64 r.kind, .int .i64 r.page, .int .i64 r.other, .int .i64 r.req, .string r.key, .string r.val] 28)
          have FE1 := fbx w2 f2
          have lgE1 := lg.same (f2.seq' fb)
          obtain ⟨W2, hW2⟩ : ∃ W, W = w2.alloc (.cells #[.int .i64 r.lsn, .int .i64 r.ep, .int .i64 r.kind, .int .i64 r.page, .int .i64 r.other, .int .i64 r.req, .string r.key, .string r.val] 28) := ⟨_, rfl⟩
          rw [← hW2] at fb FE1 lgE1
          have HW2 : Hid (w2.alloc (.cells #[.int .i64 r.lsn, .int .i64 r.ep, .int .i64 r.kind, .int .i64 r.page, .int .i64 r.other, .int .i64 r.req, .string r.key, .string r.val] 28) = W2) := hW2.symm
          have HBX : Hid (∀ W, Fr (fun _ => False) W2 W → W.cell? ⟨w2.heap.size, 0, none⟩ = some (.int .i64 r.lsn) ∧ W.cell? ⟨w2.heap.size, 1, none⟩ = some (.int .i64 r.ep) ∧ W.cell? ⟨w2.heap.size, 2, none⟩ = some (.int .i64 r.kind) ∧ W.cell? ⟨w2.heap.size, 3, none⟩ = some (.int .i64 r.page) ∧ W.cell? ⟨w2.heap.size, 4, none⟩ = some (.int .i64 r.other) ∧ W.cell? ⟨w2.heap.size, 5, none⟩ = some (.int .i64 r.req) ∧ W.cell? ⟨w2.heap.size, 6, none⟩ = some (.string r.key) ∧ W.cell? ⟨w2.heap.size, 7, none⟩ = some (.string r.val)) := fun W f => by rw [hW2] at f; exact (rec_cells (rec_at w2 _ _ f)).1
          clear hW2 fbx
          have g0 := (Fr.refl (fun _ => False) W2).drew
          have b0 := HBX.out _ g0
          have hnx2 := hnx _ (lgE1.same g0)
          go_wp2_with fail
          rw [HW2.out]
          go_region_held3 (fun W => W.cell? ⟨w2.heap.size, 0, none⟩ = some (.int .i64 r.lsn) ∧ W.cell? ⟨w2.heap.size, 1, none⟩ = some (.int .i64 r.ep) ∧ W.cell? ⟨w2.heap.size, 2, none⟩ = some (.int .i64 r.kind) ∧ W.cell? ⟨w2.heap.size, 3, none⟩ = some (.int .i64 r.page) ∧ W.cell? ⟨w2.heap.size, 4, none⟩ = some (.int .i64 r.other) ∧ W.cell? ⟨w2.heap.size, 5, none⟩ = some (.int .i64 r.req) ∧ W.cell? ⟨w2.heap.size, 6, none⟩ = some (.string r.key) ∧ W.cell? ⟨w2.heap.size, 7, none⟩ = some (.string r.val)) (exact b0) ((go_at_call 13; refine hnx2.mono ?_; rintro e w5 ⟨rfl, rfl⟩))
          clear hnx2 b0
          have FE := FE1.seq' g0
          have lgE := lgE1.same g0
          have HXE : Hid (X = (ls, n)) := by show _ = _; rw [HK.out]; exact rdAll_no HMF.out
          have hla := last_lg lb rv ls 0 _ lgE WL.out
          go_wp2_with fail
          refine hla.mono ?_
          clear hla
          rintro e9 w9 ⟨rfl, f9⟩
          have lg9 := lgE.same f9
          obtain ⟨y0, y1, y2, y3⟩ := cell_of_two lg9.box
          obtain ⟨lgF, fF⟩ := lg9.flush (ls.length : Int)
          have F9 := (FE.seq' f9).trans fF (S := fun _ => False) (fun i hi e => by have := HLB.out; omega)
          go_wp2
          rw [Exit.noGoto_ret]
          go_ret2
          rw [HXE.out]
          exact ⟨rfl, rv, lgF, WL.out, F9, hn⟩
      · have HMF : Hid (more l ls n = false) := by show _ = _; rw [HM.out]; exact decide_eq_false (fun h => he h.1)
        have heb : ((e : Int) != 0) = true := by rw [bne_iff_ne]; omega
        clear he HM
        go_wp2_with fail
        refine hdc1.mono ?_
        clear hdc1
        rintro e2 w2 ⟨rfl, f2⟩
        have fb := Fr.box w2 (.cells #[.int .i64 r.lsn, .int .i64 r.ep, .int .i64 r.kind, .int .i64 r.page, .int .i64 r.other, .int .i64 r.req, .string r.key, .string r.val] 28)
        have FE := fbx w2 f2
        have lgE := lg.same (f2.seq' fb)
        have HXE : Hid (X = (ls, n)) := by show _ = _; rw [HK.out]; exact rdAll_no HMF.out
        have hla := last_lg lb rv ls 0 _ lgE WL.out
        go_wp2_with fail
        refine hla.mono ?_
        clear hla
        rintro e9 w9 ⟨rfl, f9⟩
        have lg9 := lgE.same f9
        obtain ⟨y0, y1, y2, y3⟩ := cell_of_two lg9.box
        obtain ⟨lgF, fF⟩ := lg9.flush (ls.length : Int)
        have F9 := (FE.seq' f9).trans fF (S := fun _ => False) (fun i hi e => by have := HLB.out; omega)
        go_wp2
        rw [Exit.noGoto_ret]
        go_ret2
        rw [HXE.out]
        exact ⟨rfl, rv, lgF, WL.out, F9, hn⟩

theorem wread_nil : wread [] = ([], 0) := by
  have h : more [] [] 0 = false := by
    unfold more
    have hz : rdec ([].drop 0) = (zr, 0, 10) := by unfold rdec; rw [if_pos (by decide)]
    rw [hz]; exact decide_eq_false (fun h => absurd h.1 (by decide))
  exact rdAll_no h
set_option maxRecDepth 100000 in
set_option maxHeartbeats 2000000 in
theorem read_none (a : Option Addr) (cap : Nat) (hmx : cap ≤ 9223372036854775807) (w : World) :
    Calls Try.prog 7 #[.slice a 0 cap] w fun e w' => e = .returned (.tuple #[.pointer (some ⟨w.heap.size, 0, none⟩), .int .i64 0]) ∧
      Lg w' w.heap.size (.slice none 0 0) [] 0 ∧ Fr (fun _ => False) w w' := by
  obtain ⟨lb, hlbd⟩ : ∃ lb, lb = w.heap.size := ⟨_, rfl⟩
  have HLB : Hid (lb = w.heap.size) := hlbd
  have hnw := wnew_any w
  rw [← hlbd] at hnw ⊢
  clear hlbd
  have i2 : (0 : Int) ≤ (cap : Int) := by omega
  have hz : rdec [] = (zr, 0, 10) := by unfold rdec; rw [if_pos (by decide)]
  have hdc := fun (x : Option Addr) (c : Nat) (hc : c ≤ 9223372036854775807) W => decode_rec x 0 c [] rfl W ⟨by simp, hc, by simp, octs_nil, .inl rfl⟩
  rw [hz] at hdc
  unfold RdOut at hdc
  dsimp only at hdc
  rw [zr_agg] at hdc
  clear hz
  go_enter Try.func7, Try.ntmps7
  go_wp2_with fail
  go_step3
  go_wp2_with fail
  refine hnw.mono ?_
  clear hnw
  rintro e w1 ⟨rfl, l1, f1, hz1⟩
  go_wp2
  go_step3
  go_wp2
  refine wp_loop_rounds 1 ?_
  rw [rounds_succ]
  go_wp2_with (go_at_call 18; refine (hdc _ _ (by omega) _).mono ?_; rintro e2 w2 ⟨rfl, f2⟩)
  have fb := Fr.box w2 (.cells #[.int .i64 0, .int .i64 0, .int .i64 0, .int .i64 0, .int .i64 0, .int .i64 0, .string ⟨#[]⟩, .string ⟨#[]⟩] 28)
  have lgE := l1.same (f2.seq' fb)
  refine (last_lg lb _ [] 0 _ lgE wl_nil).mono ?_
  rintro e9 w9 ⟨rfl, f9⟩
  have lg9 := lgE.same f9
  obtain ⟨y0, y1, y2, y3⟩ := cell_of_two lg9.box
  obtain ⟨lgF, fF⟩ := lg9.flush 0
  have F9 := (f1.seq' ((f2.seq' fb).seq' f9)).trans fF (S := fun _ => False) (fun i hi e => by have := HLB.out; omega)
  go_wp2
  rw [Exit.noGoto_ret]
  go_ret2
  exact ⟨rfl, lgF, F9⟩
/-- What Read tells of any bytes. -/
theorem read_any (a : Option Addr) (n cap : Nat) (l : List Nat) (hn : n = l.length) (w : World) (hr : Row w a cap l) :
    Calls Try.prog 7 #[.slice a n cap] w fun e w' => e = .returned (.tuple #[.pointer (some ⟨w.heap.size, 0, none⟩), .int .i64 ((wread l).2 : Nat)]) ∧
      ∃ rv, Lg w' w.heap.size rv (wread l).1 ((wread l).1.length : Int) ∧ Wl (wread l).1 ∧ Fr (fun _ => False) w w' ∧ (wread l).2 ≤ l.length := by
  subst hn
  rcases hr.at_ with h0 | ⟨b, off, rfl, hb, hc⟩
  · subst h0
    rw [wread_nil]
    refine (read_none a cap hr.max w).mono ?_
    rintro e w' ⟨rfl, h1, h2⟩
    exact ⟨rfl, _, h1, wl_nil, h2, Nat.le_refl _⟩
  · exact read_some b off cap l w hr hb hc
end Go.Proofs.Ytcmkpmilnplhmaa
