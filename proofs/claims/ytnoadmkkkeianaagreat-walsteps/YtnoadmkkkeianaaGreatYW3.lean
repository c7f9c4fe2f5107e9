
/- WlMarks, WlFrom. -/
import Derived.Test.YtnoadmkkkeianaaGreatYW1
import Derived.Deep.DeepCutAuto
/- What (*Log).Marks makes; plain comparisons of marks and of records. -/
namespace Go.Proofs.YtnoadmkkkeianaaGreat
open Go.RowKit Crcm

theorem infoMark : (Tryz.prog.info? 73).map (fun i => (i.zero, i.size, i.bytes)) = some (some (.agg #[.int .i64 0, .int .i64 0]), 2, 16) := by kernel_rfl
/-- A mark's cells. -/
def mkC (m : Int × Int) : List Value := [.int .i64 m.1, .int .i64 m.2]
theorem mkC_length (m : Int × Int) : (mkC m).length = 2 := rfl
theorem mkC_one (m : Int × Int) : ∀ u ∈ mkC m, u.oneCell' = true := by
  intro u hu
  simp only [mkC, List.mem_cons, List.not_mem_nil, or_false] at hu
  rcases hu with h | h <;> (subst h; rfl)
theorem mk_range {w : World} {b o : Nat} {m : Int × Int} (h : w.rangeAt b o (mkC m)) : w.cell? ⟨b, o, none⟩ = some (.int .i64 m.1) ∧ w.cell? ⟨b, o + 1, none⟩ = some (.int .i64 m.2) := ⟨h 0 _ rfl, h 1 _ rfl⟩
/-- One record more. -/
def mkS (ms : List (Int × Int)) (r : Rec) : List (Int × Int) := if ms = [] ∨ r.ep ≠ (ms.getLast?.getD (0, 0)).1 then ms ++ [(r.ep, r.lsn)] else ms
/-- The epochs, and where each begins. -/
def mks (ls : List Rec) : List (Int × Int) := ls.foldl mkS []
theorem mks_snoc (ls : List Rec) (r : Rec) : mks (ls ++ [r]) = mkS (mks ls) r := by unfold mks; rw [List.foldl_append]; rfl
theorem mks_nil : mks [] = [] := rfl
theorem mkS_ne (ms : List (Int × Int)) (r : Rec) : mkS ms r ≠ [] := by
  unfold mkS
  split
  · simp
  · rename_i h; exact fun e => h (.inl e)
theorem mks_empty {ls : List Rec} : mks ls = [] ↔ ls = [] := by
  constructor
  · intro h
    rcases List.eq_nil_or_concat ls with h0 | ⟨l, r, h0⟩
    · exact h0
    · rw [h0, List.concat_eq_append, mks_snoc] at h
      exact absurd h (mkS_ne _ _)
  · rintro rfl; rfl
theorem mkS_len (ms : List (Int × Int)) (r : Rec) : (mkS ms r).length ≤ ms.length + 1 := by
  unfold mkS; split <;> simp
theorem mks_len (ls : List Rec) : (mks ls).length ≤ ls.length := by
  have key : ∀ (l : List Rec) (ms : List (Int × Int)), (l.foldl mkS ms).length ≤ ms.length + l.length := by
    intro l
    induction l with
    | nil => intro ms; simp
    | cons r l ih => intro ms; rw [List.foldl_cons, List.length_cons]; have := ih (mkS ms r); have := mkS_len ms r; omega
  have := key ls []
  simpa [mks] using this

/-- A slice of marks as a walk sees it. -/
structure Mks (w : World) (a : Option Addr) (cap : Nat) (ms : List (Int × Int)) : Prop where
  le : ms.length ≤ cap
  max : cap ≤ 9223372036854775807
  at_ : ms = [] ∨ ∃ b off, a = some ⟨b, off, none⟩ ∧ b < w.heap.size ∧ ∀ (i : Nat) m, ms[i]? = some m → w.rangeAt b (off + i * 2) (mkC m)
theorem Mks.same {w w' : World} {a : Option Addr} {cap : Nat} {ms : List (Int × Int)} (h : Mks w a cap ms) (f : Fr (fun _ => False) w w') : Mks w' a cap ms := by
  refine ⟨h.le, h.max, ?_⟩
  rcases h.at_ with h0 | ⟨b, off, rfl, hb, hc⟩
  · exact .inl h0
  · exact .inr ⟨b, off, rfl, Nat.lt_of_lt_of_le hb f.size, fun i r hr => range_fr (hc i r hr) f (fun f => f)⟩
theorem Has.mks {w : World} {a : Option Addr} {n c : Nat} {ms : List (Int × Int)} (hn : n = ms.length) (h : Has w 2 (.slice a n c) n (ms.flatMap mkC)) : Mks w a c ms := by
  subst hn
  obtain ⟨a', c', he, h1, h2⟩ := h.slice
  simp only [Value.slice.injEq, true_and] at he
  obtain ⟨rfl, rfl⟩ := he
  refine ⟨h1, by unfold maxLen at h2; exact h2, ?_⟩
  by_cases h0 : ms.length = 0
  · exact .inl (List.length_eq_zero_iff.1 h0)
  · obtain ⟨g, cap, hv, hg, _⟩ := h.form (by omega)
    simp only [Value.slice.injEq, true_and] at hv
    obtain ⟨rfl, rfl⟩ := hv
    refine .inr ⟨g, 0, rfl, hg, fun i m hm => ?_⟩
    rw [Nat.zero_add]
    exact h.elem mkC_length hm
theorem Has.recs {w : World} {a : Option Addr} {n c : Nat} {ls : List Rec} (hn : n = ls.length) (h : Has w 8 (.slice a n c) n (ls.flatMap recC)) : Recs w a c ls := by
  subst hn
  obtain ⟨a', c', he, h1, h2⟩ := h.slice
  simp only [Value.slice.injEq, true_and] at he
  obtain ⟨rfl, rfl⟩ := he
  refine ⟨h1, by unfold maxLen at h2; exact h2, ?_⟩
  by_cases h0 : ls.length = 0
  · exact .inl (List.length_eq_zero_iff.1 h0)
  · obtain ⟨g, cap, hv, hg, _⟩ := h.form (by omega)
    simp only [Value.slice.injEq, true_and] at hv
    obtain ⟨rfl, rfl⟩ := hv
    refine .inr ⟨g, 0, rfl, hg, fun i m hm => ?_⟩
    rw [Nat.zero_add]
    exact h.elem recC_length hm

set_option maxRecDepth 100000 in
set_option maxHeartbeats 2000000 in
theorem plain_marks (a1 a2 : Option Addr) (n1 n2 c1 c2 : Nat) (ms : List (Int × Int)) (h1 : n1 = ms.length) (h2 : n2 = ms.length) (w : World) (m1 : Mks w a1 c1 ms) (m2 : Mks w a2 c2 ms) :
    Calls Tryz.prog 32 #[.slice a1 n1 c1, .slice a2 n2 c2] w fun e w' => e = .returned (.bool true) ∧ Fr (fun _ => False) w w' := by
  subst h1
  subst h2
  have hl1 := m1.le
  have hm1 := m1.max
  have hl2 := m2.le
  have hm2 := m2.max
  by_cases h0 : ms.length = 0
  · rw [h0]
    clear h0
    go_enter Tryz.func32, Tryz.ntmps32
    go_wp2
    refine wp_loop_rounds 1 ?_
    rw [rounds_succ]
    go_wp2
    go_ret
    exact ⟨rfl, Fr.refl _ _⟩
  · obtain ⟨b1, o1, rfl, hb1, k1⟩ : ∃ b off, a1 = some ⟨b, off, none⟩ ∧ b < w.heap.size ∧ ∀ (i : Nat) m, ms[i]? = some m → w.rangeAt b (off + i * 2) (mkC m) := by
      rcases m1.at_ with e | e
      · rw [e] at h0; simp at h0
      · exact e
    obtain ⟨b2, o2, rfl, hb2, k2⟩ : ∃ b off, a2 = some ⟨b, off, none⟩ ∧ b < w.heap.size ∧ ∀ (i : Nat) m, ms[i]? = some m → w.rangeAt b (off + i * 2) (mkC m) := by
      rcases m2.at_ with e | e
      · rw [e] at h0; simp at h0
      · exact e
    have K1 : Hid (∀ (i : Nat) m, ms[i]? = some m → w.rangeAt b1 (o1 + i * 2) (mkC m)) := k1
    have K2 : Hid (∀ (i : Nat) m, ms[i]? = some m → w.rangeAt b2 (o2 + i * 2) (mkC m)) := k2
    clear k1 k2 m1 m2 h0
    go_enter Tryz.func32, Tryz.ntmps32
    go_wp2
    go_loopw [13] (fun i wr => ∃ k q : Nat, k ≤ ms.length ∧ i = .int .i64 k ∧ wr = w.drewN q) (fun i _ => ms.length - (intOf i).toNat)
    case atStart => exact ⟨0, 0, by omega, rfl, rfl⟩
    case round =>
      obtain ⟨k, q, hk, rfl, rfl⟩ := hrel
      by_cases hlt : k < ms.length
      · obtain ⟨m, hm⟩ : ∃ m, ms[k]? = some m := ⟨_, List.getElem?_eq_getElem hlt⟩
        obtain ⟨x0, x1⟩ := mk_range (K1.out k m hm)
        obtain ⟨y0, y1⟩ := mk_range (K2.out k m hm)
        clear hm
        go_wp2
        go_quiet (fail)
        go_wp2
        exact ⟨⟨k + 1, _, by omega, by go_num, rfl⟩, by simp [intOf]; omega⟩
      · go_wp2
        go_ret
        exact ⟨rfl, Fr.drewN (Fr.refl _ _) _⟩
set_option maxRecDepth 100000 in
set_option maxHeartbeats 2000000 in
theorem plain_recs (a1 a2 : Option Addr) (n1 n2 c1 c2 : Nat) (ms : List Rec) (h1 : n1 = ms.length) (h2 : n2 = ms.length) (w : World) (m1 : Recs w a1 c1 ms) (m2 : Recs w a2 c2 ms) :
    Calls Tryz.prog 18 #[.slice a1 n1 c1, .slice a2 n2 c2] w fun e w' => e = .returned (.bool true) ∧ Fr (fun _ => False) w w' := by
  subst h1
  subst h2
  have hl1 := m1.le
  have hm1 := m1.max
  have hl2 := m2.le
  have hm2 := m2.max
  by_cases h0 : ms.length = 0
  · rw [h0]
    clear h0
    go_enter Tryz.func18, Tryz.ntmps18
    go_wp2
    refine wp_loop_rounds 1 ?_
    rw [rounds_succ]
    go_wp2
    go_ret
    exact ⟨rfl, Fr.refl _ _⟩
  · obtain ⟨b1, o1, rfl, hb1, k1⟩ : ∃ b off, a1 = some ⟨b, off, none⟩ ∧ b < w.heap.size ∧ ∀ (i : Nat) m, ms[i]? = some m → w.rangeAt b (off + i * 8) (recC m) := by
      rcases m1.at_ with e | e
      · rw [e] at h0; simp at h0
      · exact e
    obtain ⟨b2, o2, rfl, hb2, k2⟩ : ∃ b off, a2 = some ⟨b, off, none⟩ ∧ b < w.heap.size ∧ ∀ (i : Nat) m, ms[i]? = some m → w.rangeAt b (off + i * 8) (recC m) := by
      rcases m2.at_ with e | e
      · rw [e] at h0; simp at h0
      · exact e
    have K1 : Hid (∀ (i : Nat) m, ms[i]? = some m → w.rangeAt b1 (o1 + i * 8) (recC m)) := k1
    have K2 : Hid (∀ (i : Nat) m, ms[i]? = some m → w.rangeAt b2 (o2 + i * 8) (recC m)) := k2
    clear k1 k2 m1 m2 h0
    go_enter Tryz.func18, Tryz.ntmps18
    go_wp2
    go_loopw [13] (fun i wr => ∃ k q : Nat, k ≤ ms.length ∧ i = .int .i64 k ∧ wr = w.drewN q) (fun i _ => ms.length - (intOf i).toNat)
    case atStart => exact ⟨0, 0, by omega, rfl, rfl⟩
    case round =>
      obtain ⟨k, q, hk, rfl, rfl⟩ := hrel
      by_cases hlt : k < ms.length
      · obtain ⟨m, hm⟩ : ∃ m, ms[k]? = some m := ⟨_, List.getElem?_eq_getElem hlt⟩
        obtain ⟨x0, x1, x2, x3, x4, x5, x6, x7⟩ := rec_range (K1.out k m hm)
        obtain ⟨y0, y1, y2, y3, y4, y5, y6, y7⟩ := rec_range (K2.out k m hm)
        clear hm
        go_wp2
        go_quiet (fail)
        go_wp2
        exact ⟨⟨k + 1, _, by omega, by go_num, rfl⟩, by simp [intOf]; omega⟩
      · go_wp2
        go_ret
        exact ⟨rfl, Fr.drewN (Fr.refl _ _) _⟩

set_option maxRecDepth 100000 in
set_option maxHeartbeats 400000 in
theorem marks_wnil (w : World) : Calls Tryz.prog 33 #[.pointer none] w fun e w' => e = .returned (.slice none 0 0) ∧ w' = w := by
  go_enter Tryz.func33, Tryz.ntmps33
  go_wp2_with (go_at_call 35; refine (all_nil _).mono ?_; rintro e w' ⟨rfl, rfl⟩)
  refine wp_loop_rounds 1 ?_
  rw [rounds_succ]
  go_wp2
  go_ret
  exact ⟨rfl, rfl⟩
set_option maxRecDepth 100000 in
set_option maxHeartbeats 4000000 in
theorem marks_lg (lb : Nat) (rv : Value) (ls : List Rec) (fl : Int) (w : World) (h : Lg w lb rv ls fl) (hw : Wl ls) :
    Calls Tryz.prog 33 #[.pointer (some ⟨lb, 0, none⟩)] w fun e w' => ∃ a c, e = .returned (.slice a (mks ls).length c) ∧ Mks w' a c (mks ls) ∧ Fr (fun _ => False) w w' := by
  obtain ⟨iM, hiM, hM0, hM1, hM2⟩ := info_parts infoMark
  have M1 : Hid (Tryz.prog.info? 73 = some iM) := hiM
  have M2 : Hid (iM.zero = some (.agg #[.int .i64 0, .int .i64 0])) := hM0
  have M3 : Hid (iM.size = 2) := hM1
  have M4 : Hid (iM.bytes = 16) := hM2
  clear hiM hM0 hM1 hM2
  have hb := hw.big
  have hal := all_lg lb rv ls fl w h
  have HH : Hid (∀ W, Fr (fun _ => False) w W → Has W 8 rv ls.length (ls.flatMap recC)) := fun W f => h.has.fr f (fun _ _ f => f)
  obtain ⟨ar, cr, rfl, _, hcr⟩ := h.has.slice
  have hcr' : cr ≤ 9223372036854775807 := by unfold maxLen at hcr; exact hcr
  clear hcr hw h
  go_enter Tryz.func33, Tryz.ntmps33
  go_wp2_with fail
  refine hal.mono ?_
  rintro e w' ⟨rfl, rfl⟩
  clear hal
  go_wp2
  go_loopw [9, 3] (fun i t wr => ∃ (k : Nat) (vt : Value) (ms : List (Int × Int)), k ≤ ls.length ∧ i = .int .i64 k ∧ t = vt ∧ Hid (ms = mks (ls.take k)) ∧ Has wr 2 vt ms.length (ms.flatMap mkC) ∧ (∀ g, vt.ownBlock = some g → w'.heap.size ≤ g) ∧ Fr (fun _ => False) w' wr) (fun i _ _ => ls.length - (intOf i).toNat)
  case atStart => exact ⟨0, .slice none 0 0, [], by omega, rfl, rfl, rfl, Has.nil _ _, (fun g e => by cases e), Fr.refl _ _⟩
  case round =>
    obtain ⟨k, vt, ms, hk, rfl, rfl, HM, ht, hown, F⟩ := hrel
    by_cases hlt : k < ls.length
    · obtain ⟨r, hr, htk⟩ := take_one ls k hlt
      have HTK : Hid (ls.take (k + 1) = ls.take k ++ [r]) := htk
      have hhk := HH.out _ F
      obtain ⟨g, cap, hv, _⟩ := hhk.form (by omega)
      simp only [Value.slice.injEq, true_and] at hv
      obtain ⟨rfl, rfl⟩ := hv
      obtain ⟨q0, q1, q2, q3, q4, q5, q6, q7⟩ := rec_range (hhk.elem recC_length hr)
      have fb := Fr.box wr (.cells #[.int .i64 r.lsn, .int .i64 r.ep, .int .i64 r.kind, .int .i64 r.page, .int .i64 r.other, .int .i64 r.req, .string r.key, .string r.val] 30)
      have HMS : Hid (mks (ls.take (k + 1)) = mkS ms r) := by show _ = _; rw [HTK.out, mks_snoc, HM.out]
      have HML : Hid (ms.length ≤ 65536) := by show _ ≤ _; rw [HM.out]; have := mks_len (ls.take k); rw [List.length_take] at this; omega
      have HM0 : Hid (ms = [] ↔ k = 0) := by
        show _ ↔ _
        rw [HM.out, mks_empty]
        constructor
        · intro h0
          have : (ls.take k).length = 0 := by rw [h0]; rfl
          rw [List.length_take] at this; omega
        · rintro rfl; rfl
      clear hr htk hhk
      -- the append
      have HAP : Hid (∀ W, Fr (fun _ => False) (wr.alloc (.cells #[.int .i64 r.lsn, .int .i64 r.ep, .int .i64 r.kind, .int .i64 r.page, .int .i64 r.other, .int .i64 r.req, .string r.key, .string r.val] 30)) W → Has W 2 u3 ms.length (ms.flatMap mkC)) := fun W f => (ht.fr fb (fun _ _ f => f)).fr f (fun _ _ f => f)
      have hown' : Hid (∀ g, u3.ownBlock = some g → w'.heap.size ≤ g) := hown
      have FB := F.seq' fb
      have hrel2 : ∀ W (P : Fr (fun _ => False) (wr.alloc (.cells #[.int .i64 r.lsn, .int .i64 r.ep, .int .i64 r.kind, .int .i64 r.page, .int .i64 r.other, .int .i64 r.req, .string r.key, .string r.val] 30)) W) v' w8, Has w8 2 v' (ms ++ [(r.ep, r.lsn)]).length ((ms ++ [(r.ep, r.lsn)]).flatMap mkC) → Fr (fun k => u3.ownBlock = some k ∧ 0 < 1) W w8 → (v'.ownBlock = u3.ownBlock ∨ v'.ownBlock = some W.heap.size) → (∀ g, v'.ownBlock = some g → w'.heap.size ≤ g) ∧ Fr (fun _ => False) w' w8 := fun W P v' w8 hh f hat => by
        have hz := (FB.seq' P).size
        refine ⟨fun g e => ?_, (FB.seq' P).trans f (fun i hi e => by have := hown'.out i e.1; omega)⟩
        rcases hat with h1 | h1
        · rw [h1] at e; exact hown'.out g e
        · rw [h1] at e; simp only [Option.some.injEq] at e; omega
      have HR2 : Hid (∀ W (_P : Fr (fun _ => False) (wr.alloc (.cells #[.int .i64 r.lsn, .int .i64 r.ep, .int .i64 r.kind, .int .i64 r.page, .int .i64 r.other, .int .i64 r.req, .string r.key, .string r.val] 30)) W) v' w8, Has w8 2 v' (ms ++ [(r.ep, r.lsn)]).length ((ms ++ [(r.ep, r.lsn)]).flatMap mkC) → Fr (fun k => u3.ownBlock = some k ∧ 0 < 1) W w8 → (v'.ownBlock = u3.ownBlock ∨ v'.ownBlock = some W.heap.size) → (∀ g, v'.ownBlock = some g → w'.heap.size ≤ g) ∧ Fr (fun _ => False) w' w8) := hrel2
      clear hrel2 hown
      have hml := HML.out
      by_cases h0 : k = 0
      · have HADD : Hid (mkS ms r = ms ++ [(r.ep, r.lsn)]) := if_pos (.inl (HM0.out.2 h0))
        subst h0
        have gd := (Fr.refl (fun _ => False) (wr.alloc (.cells #[.int .i64 r.lsn, .int .i64 r.ep, .int .i64 r.kind, .int .i64 r.page, .int .i64 r.other, .int .i64 r.req, .string r.key, .string r.val] 30))).drew
        obtain ⟨⟨c0, c1, c2, c3, c4, c5, c6, c7⟩, _⟩ := rec_cells (rec_at wr _ _ gd)
        go_wp2_with fail
        go_quiet (fail)
        have PF : Fr (fun _ => False) (wr.alloc (.cells #[.int .i64 r.lsn, .int .i64 r.ep, .int .i64 r.kind, .int .i64 r.page, .int .i64 r.other, .int .i64 r.req, .string r.key, .string r.val] 30)) ((wr.alloc (.cells #[.int .i64 r.lsn, .int .i64 r.ep, .int .i64 r.kind, .int .i64 r.page, .int .i64 r.other, .int .i64 r.req, .string r.key, .string r.val] 30)).drewN nq) := Fr.drewN (Fr.refl _ _) _
        obtain ⟨W5, hW5⟩ : ∃ W, W = (wr.alloc (.cells #[.int .i64 r.lsn, .int .i64 r.ep, .int .i64 r.kind, .int .i64 r.page, .int .i64 r.other, .int .i64 r.req, .string r.key, .string r.val] 30)).drewN nq := ⟨_, rfl⟩
        rw [← hW5] at PF ⊢
        obtain ⟨⟨d0, d1, d2, d3, d4, d5, d6, d7⟩, _⟩ := rec_cells (rec_at wr _ _ PF)
        clear hW5
        have P6 := PF.alloc (.cells #[.int .i64 r.ep, .int .i64 r.lsn] 73)
        have hrow := HAP.out _ P6
        have hnews : From (W5.alloc (.cells #[.int .i64 r.ep, .int .i64 r.lsn] 73)) (some ⟨W5.heap.size, 0, none⟩) (mkC (r.ep, r.lsn)) := .inr ⟨_, _, rfl, range_block (heap_alloc_new W5 _) (fun j v hv => by rw [Nat.zero_add]; simpa [mkC] using hv)⟩
        go_wp2_with (at_builtin; refine wpList_append_has _ rfl (.tmp 28) (.tmp 34) 65 65 73 73 rfl iM (.agg #[.int .i64 0, .int .i64 0]) 2 16 Tryz.underlying65 Tryz.underlying65 M1.out M2.out M3.out M4.out rfl (by omega) u3 ms.length (ms.flatMap mkC) rfl hrow (some ⟨W5.heap.size, 0, none⟩) 1 1 (mkC (r.ep, r.lsn)) rfl rfl hnews (mkC_one _) (by unfold maxLen; omega) (by omega) ?_; intro a4 c4 w8 ht4 f34 hat4)
        have hl2 : ms.length + 1 = (ms ++ [(r.ep, r.lsn)]).length := by rw [List.length_append]; rfl
        have ht5 : Has w8 2 (.slice a4 (ms ++ [(r.ep, r.lsn)]).length c4) (ms ++ [(r.ep, r.lsn)]).length ((ms ++ [(r.ep, r.lsn)]).flatMap mkC) := by
          rw [← hl2, List.flatMap_append]
          simpa using ht4
        rw [hl2] at hat4 ⊢
        obtain ⟨hR1, hR2⟩ := HR2.out _ P6 _ _ ht5 f34 hat4
        clear hl2 ht4 d0 d1 d2 d3 d4 d5 d6 d7
        go_wp2
        go_roundw
        case rel => exact ⟨0 + 1, _, ms ++ [(r.ep, r.lsn)], by omega, by go_num, rfl, by rw [HMS.out, HADD.out]; exact rfl, ht5, hR1, hR2⟩
        case measure => simp [intOf]; omega
      · have hkb : ((k : Int) == 0) = false := by rw [beq_eq_false_iff_ne]; omega
        have hm1 : ms ≠ [] := fun e => h0 (HM0.out.1 e)
        have hm2 : 0 < ms.length := List.length_pos_iff.2 hm1
        obtain ⟨lm, hlm⟩ : ∃ lm, ms[ms.length - 1]? = some lm := ⟨_, List.getElem?_eq_getElem (by omega)⟩
        have hgl : ms.getLast?.getD (0, 0) = lm := by rw [List.getLast?_eq_getElem?, hlm]; rfl
        have gd := (Fr.refl (fun _ => False) (wr.alloc (.cells #[.int .i64 r.lsn, .int .i64 r.ep, .int .i64 r.kind, .int .i64 r.page, .int .i64 r.other, .int .i64 r.req, .string r.key, .string r.val] 30))).drew
        have hhm := HAP.out _ (Fr.refl _ _)
        obtain ⟨gm, cm, hv3, _⟩ := hhm.form hm2
        rw [hv3] at hhm
        obtain ⟨m0, m1⟩ := mk_range (hhm.elem mkC_length hlm)
        obtain ⟨⟨c0, c1, c2, c3, c4, c5, c6, c7⟩, _⟩ := rec_cells (rec_at wr _ _ gd)
        obtain ⟨p, hp⟩ : ∃ p, p + 1 = ms.length := ⟨ms.length - 1, by omega⟩
        have hp2 : ms.length - 1 = p := by omega
        rw [hp2] at m0 m1
        have HP : Hid (p + 1 = ms.length) := hp
        have hp6 : p + 1 ≤ 65536 := by omega
        have j1 : IntKind.i64.wrap (p : Int) = (p : Int) := by simp [IntKind.wrap, IntKind.bits, IntKind.signed]; omega
        have j2 : (0 : Int) ≤ (p : Int) := by omega
        have j3 : (p : Int) < (p : Int) + 1 := by omega
        have j4 : IntKind.i64.wrap ((p : Int) + 1 - 1) = (p : Int) := by simp [IntKind.wrap, IntKind.bits, IntKind.signed]; omega
        rw [← hp] at hv3
        have HV3 : Hid (u3 = .slice (some ⟨gm, 0, none⟩) (p + 1) cm) := hv3
        subst hv3
        clear hhm hlm hp2 hm1 hm2 h0
        by_cases hep : r.ep = lm.1
        · have hepb : (r.ep != lm.1) = false := by simp [hep]
          have HKEEP : Hid (mkS ms r = ms) := by
            show _ = _
            unfold mkS
            rw [hgl, if_neg (fun h => h.elim (fun h => by rw [h] at hp; simp at hp) (fun h => h hep))]
          clear hep hgl hp
          go_wp2_with fail
          go_quiet (fail)
          have PF : Fr (fun _ => False) (wr.alloc (.cells #[.int .i64 r.lsn, .int .i64 r.ep, .int .i64 r.kind, .int .i64 r.page, .int .i64 r.other, .int .i64 r.req, .string r.key, .string r.val] 30)) ((wr.alloc (.cells #[.int .i64 r.lsn, .int .i64 r.ep, .int .i64 r.kind, .int .i64 r.page, .int .i64 r.other, .int .i64 r.req, .string r.key, .string r.val] 30)).drewN nq) := Fr.drewN (Fr.refl _ _) _
          have hrow := HAP.out _ PF
          have FF := FB.seq' PF
          go_wp2
          go_roundw
          case rel => exact ⟨k + 1, _, ms, by omega, by go_num, rfl, by rw [HMS.out, HKEEP.out]; exact rfl, hrow, hown'.out, FF⟩
          case measure => simp [intOf]; omega
        · have hepb : (r.ep != lm.1) = true := by simpa using hep
          have HADD : Hid (mkS ms r = ms ++ [(r.ep, r.lsn)]) := by
            show _ = _
            unfold mkS
            rw [hgl, if_pos (.inr hep)]
          clear hep hgl hp
          go_wp2_with fail
          go_quiet (fail)
          have PF : Fr (fun _ => False) (wr.alloc (.cells #[.int .i64 r.lsn, .int .i64 r.ep, .int .i64 r.kind, .int .i64 r.page, .int .i64 r.other, .int .i64 r.req, .string r.key, .string r.val] 30)) ((wr.alloc (.cells #[.int .i64 r.lsn, .int .i64 r.ep, .int .i64 r.kind, .int .i64 r.page, .int .i64 r.other, .int .i64 r.req, .string r.key, .string r.val] 30)).drewN nq) := Fr.drewN (Fr.refl _ _) _
          obtain ⟨W5, hW5⟩ : ∃ W, W = (wr.alloc (.cells #[.int .i64 r.lsn, .int .i64 r.ep, .int .i64 r.kind, .int .i64 r.page, .int .i64 r.other, .int .i64 r.req, .string r.key, .string r.val] 30)).drewN nq := ⟨_, rfl⟩
          rw [← hW5] at PF ⊢
          obtain ⟨⟨d0, d1, d2, d3, d4, d5, d6, d7⟩, _⟩ := rec_cells (rec_at wr _ _ PF)
          clear hW5
          have P6 := PF.alloc (.cells #[.int .i64 r.ep, .int .i64 r.lsn] 73)
          have hrow := HAP.out _ P6
          have hnews : From (W5.alloc (.cells #[.int .i64 r.ep, .int .i64 r.lsn] 73)) (some ⟨W5.heap.size, 0, none⟩) (mkC (r.ep, r.lsn)) := .inr ⟨_, _, rfl, range_block (heap_alloc_new W5 _) (fun j v hv => by rw [Nat.zero_add]; simpa [mkC] using hv)⟩
          go_wp2_with (at_builtin; refine wpList_append_has _ rfl (.tmp 28) (.tmp 34) 65 65 73 73 rfl iM (.agg #[.int .i64 0, .int .i64 0]) 2 16 Tryz.underlying65 Tryz.underlying65 M1.out M2.out M3.out M4.out rfl (by omega) (.slice (some ⟨gm, 0, none⟩) (p + 1) cm) ms.length (ms.flatMap mkC) rfl hrow (some ⟨W5.heap.size, 0, none⟩) 1 1 (mkC (r.ep, r.lsn)) rfl rfl hnews (mkC_one _) (by unfold maxLen; omega) (by omega) ?_; intro a4 c4 w8 ht4 f34 hat4)
          have hl2 : ms.length + 1 = (ms ++ [(r.ep, r.lsn)]).length := by rw [List.length_append]; rfl
          have ht5 : Has w8 2 (.slice a4 (ms ++ [(r.ep, r.lsn)]).length c4) (ms ++ [(r.ep, r.lsn)]).length ((ms ++ [(r.ep, r.lsn)]).flatMap mkC) := by
            rw [← hl2, List.flatMap_append]
            simpa using ht4
          rw [hl2] at hat4 ⊢
          obtain ⟨hR1, hR2⟩ := HR2.out _ P6 _ _ ht5 f34 hat4
          clear hl2 ht4 d0 d1 d2 d3 d4 d5 d6 d7
          go_wp2
          go_roundw
          case rel => exact ⟨k + 1, _, ms ++ [(r.ep, r.lsn)], by omega, by go_num, rfl, by rw [HMS.out, HADD.out]; exact rfl, ht5, hR1, hR2⟩
          case measure => simp [intOf]; omega
    · have hkl : ls.take k = ls := List.take_of_length_le (by omega)
      have HMM : Hid (ms = mks ls) := by show _ = _; rw [HM.out, hkl]
      obtain ⟨a, c, rfl, _, _⟩ := ht.slice
      have hmk := Has.mks rfl ht
      clear hkl
      go_wp2
      go_ret
      exact ⟨a, c, by rw [← HMM.out]; rfl, by rw [← HMM.out]; exact hmk, F⟩
end Go.Proofs.YtnoadmkkkeianaaGreat

/- What (*Log).From makes; (*Log).Flushed. -/
namespace Go.Proofs.YtnoadmkkkeianaaGreat
open Go.RowKit Crcm

set_option maxRecDepth 100000 in
set_option maxHeartbeats 400000 in
theorem flushed_lg (lb : Nat) (rv : Value) (ls : List Rec) (fl : Int) (w : World) (h : Lg w lb rv ls fl) : Calls Tryz.prog 30 #[.pointer (some ⟨lb, 0, none⟩)] w fun e w' => e = .returned (.int .i64 fl) ∧ w' = w := by
  obtain ⟨h0, h1, f0, f1⟩ := cell_of_two h.box
  go_enter Tryz.func30, Tryz.ntmps30
  go_wp2
  go_ret
  exact ⟨rfl, rfl⟩
set_option maxRecDepth 100000 in
set_option maxHeartbeats 400000 in
theorem reaches_lg (n : Int) (lb : Nat) (rv : Value) (ls : List Rec) (fl : Int) (w : World) (h : Lg w lb rv ls fl) (hm : ls.length ≤ 65536) : Calls Tryz.prog 25 #[.pointer (some ⟨lb, 0, none⟩), .int .i64 n] w fun e w' => e = .returned (.bool (decide (0 ≤ n ∧ n ≤ ls.length))) ∧ w' = w := by
  have hnx := next_lg lb rv ls fl w h hm
  by_cases h0 : 0 ≤ n
  · go_enter Tryz.func25, Tryz.ntmps25
    go_wp2_with (go_at_call 20; refine hnx.mono ?_; rintro e w' ⟨rfl, rfl⟩)
    all_goals go_ret
    all_goals refine ⟨ret_bool ?_, rfl⟩
    all_goals (rw [Bool.eq_iff_iff]; simp; try omega)
  · have hf : decide (0 ≤ n ∧ n ≤ ls.length) = false := decide_eq_false (fun h => h0 h.1)
    rw [hf]
    go_enter Tryz.func25, Tryz.ntmps25
    go_wp2_with (go_at_call 20; refine hnx.mono ?_; rintro e w' ⟨rfl, rfl⟩)
    go_ret
    exact ⟨rfl, rfl⟩

/-- An empty slice that is new. -/
theorem has_emptyR (w : World) : Has (w.alloc (.cells #[] 30)) 8 (.slice (some ⟨w.heap.size, 0, none⟩) 0 0) 0 [] :=
  ⟨by simp, .inr ⟨w.heap.size, 0, rfl, by simp, Nat.le_refl _, by unfold maxLen; omega, (fun j hj => by simp at hj), (fun j v hv => by simp at hv)⟩⟩
set_option maxRecDepth 100000 in
set_option maxHeartbeats 1000000 in
theorem clone_any (x : Addr) (m c : Nat) (R : List Rec) (hm : m = R.length) (hs : m ≤ 65536) (w : World) (hx : From w (some x) (R.flatMap recC)) :
    Calls Tryz.prog 40 #[.slice (some x) m c] w fun e w' => ∃ a c', e = .returned (.slice a m c') ∧ Recs w' a c' R ∧ Fr (fun _ => False) w w' := by
  obtain ⟨iR, hiR, hR0, hR1, hR2⟩ := info_parts infoRec
  have hn := fun W => Lib.run_eql_slice_nil (P := Tryz.prog) W 26 30 (some x) m c 0 0 Tryz.underlying26
  have fb := Fr.box w (.cells #[] 30)
  have hnews : From (w.alloc (.cells #[] 30)) (some x) (R.flatMap recC) := by
    rcases hx with h | ⟨b, off, e, h⟩
    · exact .inl h
    · exact .inr ⟨b, off, e, range_fr h fb (fun f => f)⟩
  have hlen : (R.flatMap recC).length = m * 8 := by rw [flat_length recC_length, hm]
  have hone : ∀ u ∈ R.flatMap recC, u.oneCell' = true := fun u hu => by
    obtain ⟨r, _, h⟩ := List.mem_flatMap.1 hu
    exact recC_one r u h
  have HM : Hid (m = R.length) := hm
  clear hm
  go_enter Tryz.func40, Tryz.ntmps40
  go_wp2_with (at_builtin; refine wpList_append_has _ rfl (.tmp 5) (.tmp 6) 26 26 30 30 rfl iR _ 8 80 Tryz.underlying26 Tryz.underlying26 hiR hR0 hR1 hR2 rfl (by omega) (.slice (some ⟨w.heap.size, 0, none⟩) 0 0) 0 [] rfl (has_emptyR w) (some x) m c (R.flatMap recC) rfl hlen hnews hone (by unfold maxLen; omega) (by omega) ?_; intro a' c' w1 hown hfr hat)
  rw [Nat.zero_add, List.nil_append] at hown
  have hrec := Has.recs HM.out hown
  have F := fb.trans hfr (S := fun _ => False) (fun i hi e => by have := e.1; simp [Value.ownBlock] at this; omega)
  go_ret
  exact ⟨a', c', rfl, hrec, F⟩
/-- What From tells. -/
def frF (ls : List Rec) (n most : Int) : List Rec := if most < 1 then [] else (ls.drop (max n 1 - 1).toNat).take most.toNat
theorem recs_nil (w : World) (a : Option Addr) (c : Nat) (hc : c ≤ 9223372036854775807) : Recs w a c [] := ⟨by simp, hc, .inl rfl⟩

/-- A walk's part behind the number of those ahead. -/
theorem src_part {w : World} {g cr : Nat} {ls : List Rec} (h : Has w 8 (.slice (some ⟨g, 0, none⟩) ls.length cr) ls.length (ls.flatMap recC)) (ah m : Nat) : From w (some ⟨g, ah * 8, none⟩) (((ls.drop ah).take m).flatMap recC) := by
  refine .inr ⟨g, ah * 8, rfl, ?_⟩
  have hl : w.rangeAt g (ah * 8) ((ls.drop ah).flatMap recC) := by
    rw [← flat_drop recC_length]
    rcases h.2 with ⟨h2, _⟩ | ⟨g', cap', hv, hg, h1, h2, h3, h4⟩
    · cases h2
    · simp only [Value.slice.injEq, Option.some.injEq, Addr.mk.injEq, and_true, true_and] at hv
      obtain ⟨rfl, rfl⟩ := hv
      have := range_part (ys := (ls.flatMap recC).drop (ah * 8)) (ah * 8) h4 (fun j v hv => by rwa [List.getElem?_drop] at hv)
      rwa [Nat.zero_add] at this
  rw [← flat_take recC_length]
  intro j v hv
  rw [List.getElem?_take] at hv
  split at hv
  · exact hl j v hv
  · simp at hv
theorem clone_row (a : Option Addr) (m c : Nat) (w : World) (hm : m = 0) : Calls Tryz.prog 40 #[.slice a m c] w fun e w' => ∃ a' c', e = .returned (.slice a' 0 c') ∧ Recs w' a' c' [] ∧ Fr (fun _ => False) w w' := by
  subst hm
  cases a with
  | none =>
    have hn := fun W => Lib.run_eql_slice_nil (P := Tryz.prog) W 26 30 none 0 c 0 0 Tryz.underlying26
    go_enter Tryz.func40, Tryz.ntmps40
    go_wp2
    go_ret
    exact ⟨none, 0, rfl, recs_nil _ _ _ (by omega), Fr.refl _ _⟩
  | some x => exact clone_any x 0 c [] rfl (by omega) w (.inl rfl)

set_option maxRecDepth 100000 in
set_option maxHeartbeats 400000 in
theorem from_lg (n most : Int) (hb : -9223372036854775808 ≤ n ∧ n ≤ 9223372036854775807) (lb : Nat) (rv : Value) (ls : List Rec) (fl : Int) (w : World) (h : Lg w lb rv ls fl) (hm : ls.length ≤ 65536) :
    Calls Tryz.prog 19 #[.pointer (some ⟨lb, 0, none⟩), .int .i64 n, .int .i64 most] w fun e w' => ∃ a c, e = .returned (.slice a (frF ls n most).length c) ∧ Recs w' a c (frF ls n most) ∧ Fr (fun _ => False) w w' := by
  obtain ⟨ah, hah⟩ : ∃ ah : Nat, (ah : Int) = max n 1 - 1 := ⟨(max n 1 - 1).toNat, by omega⟩
  have HAH : Hid ((ah : Int) = max n 1 - 1) := hah
  have hdef : frF ls n most = if most < 1 then [] else (ls.drop ah).take most.toNat := by unfold frF; rw [← hah, Int.toNat_natCast]
  have HDEF : Hid (frF ls n most = if most < 1 then [] else (ls.drop ah).take most.toNat) := hdef
  have hre := reaches_lg (ah : Int) lb rv ls fl w h hm
  have hal := all_lg lb rv ls fl w h
  have HB : Hid (-9223372036854775808 ≤ n ∧ n ≤ 9223372036854775807) := hb
  have HH : Hid (Has w 8 rv ls.length (ls.flatMap recC)) := h.has
  obtain ⟨ar, cr, rfl, hlc, hcm⟩ := h.has.slice
  have hcm' : cr ≤ 9223372036854775807 := by unfold maxLen at hcm; exact hcm
  clear hdef hah hb h hcm
  go_enter Tryz.func19, Tryz.ntmps19
  go_upto_region 1 with fail
  go_cut [7] (fun t wc => t = .int .i64 (ah : Nat) ∧ w = wc)
  case first =>
    by_cases h1 : n ≤ 1
    · have e1 : max n 1 = 1 := by omega
      go_wp2
      all_goals go_meet
      all_goals exact ⟨val_int (by have := HAH.out; omega), rfl⟩
    · have e1 : max n 1 = n := by omega
      have e2 : IntKind.i64.wrap (n - 1) = n - 1 := by have := HB.out; simp [IntKind.wrap, IntKind.bits, IntKind.signed]; omega
      go_wp2
      all_goals go_meet
      all_goals exact ⟨val_int (by have := HAH.out; omega), rfl⟩
  case rest =>
  obtain ⟨rfl, rfl⟩ := hcut
  clear HAH HB
  by_cases h1 : most < 1
  · have HZ : Hid (frF ls n most = []) := by show _ = _; rw [HDEF.out, if_pos h1]
    go_wp2
    go_ret
    rw [HZ.out]
    exact ⟨none, 0, rfl, recs_nil _ _ _ (by omega), Fr.refl _ _⟩
  · by_cases h2 : ah ≤ ls.length
    · have hd : decide ((0 : Int) ≤ (ah : Int) ∧ (ah : Int) ≤ (ls.length : Int)) = true := decide_eq_true (by omega)
      rw [hd] at hre
      have i1 : (ah : Int) ≤ (ls.length : Int) := by omega
      have i2 : (ls.length : Int) ≤ (cr : Int) := by omega
      have i3 : (ah : Int) ≤ (cr : Int) := by omega
      by_cases hne : cr = ah
      · have e0 : ls.length - ah = 0 := by omega
        have e9 : cr - ah = 0 := by omega
        have HZ : Hid (frF ls n most = []) := by show _ = _; rw [HDEF.out, if_neg h1, List.drop_eq_nil_of_le (by omega), List.take_nil]
        have j2 : min most (0 : Int) = 0 := by omega
        have hcl := clone_row ar 0 0 w rfl
        clear HDEF
        go_wp2_with (first | (go_at_call 25; refine hre.mono ?_; rintro e w' ⟨rfl, rfl⟩) | (go_at_call 35; refine hal.mono ?_; rintro e w' ⟨rfl, rfl⟩))
        refine hcl.mono ?_
        clear hcl
        rintro e w2 ⟨a2, c2, rfl, hr2, f2⟩
        clear e0 e9 j2
        go_wp2
        go_ret
        rw [HZ.out]
        exact ⟨a2, c2, rfl, hr2, f2⟩
      · obtain ⟨g, rfl⟩ : ∃ g, ar = some ⟨g, 0, none⟩ := by
          rcases HH.out.2 with ⟨hv, h0⟩ | ⟨g, cap, hv, _⟩
          · simp only [Value.slice.injEq] at hv; omega
          · simp only [Value.slice.injEq, true_and] at hv; exact ⟨g, hv.1⟩
        by_cases h4 : most ≤ ((ls.length - ah : Nat) : Int)
        · obtain ⟨m, rfl⟩ := Int.eq_ofNat_of_zero_le (a := most) (by omega)
          have hR : frF ls n (m : Int) = (ls.drop ah).take m := by rw [HDEF.out, if_neg h1]; rfl
          have hml : m = ((ls.drop ah).take m).length := by rw [List.length_take, List.length_drop]; omega
          have hcl := fun c => clone_any ⟨g, ah * 8, none⟩ m c _ hml (by omega) w (src_part HH.out ah m)
          have HR : Hid (frF ls n (m : Int) = (ls.drop ah).take m) := hR
          have HML : Hid (m = ((ls.drop ah).take m).length) := hml
          have j2 : min (m : Int) ((ls.length - ah : Nat) : Int) = (m : Int) := by omega
          have j4 : (m : Int) ≤ ((cr - ah : Nat) : Int) := by omega
          clear hR hml HDEF
          go_wp2_with (first | (go_at_call 25; refine hre.mono ?_; rintro e w' ⟨rfl, rfl⟩) | (go_at_call 35; refine hal.mono ?_; rintro e w' ⟨rfl, rfl⟩))
          refine (hcl _).mono ?_
          rintro e w2 ⟨a2, c2, rfl, hr2, f2⟩
          go_wp2
          go_ret
          rw [HR.out]
          exact ⟨a2, c2, by rw [← HML.out]; rfl, hr2, f2⟩
        · have hR : frF ls n most = (ls.drop ah).take (ls.length - ah) := by
            rw [HDEF.out, if_neg h1, List.take_of_length_le (by rw [List.length_drop]; omega), List.take_of_length_le (by rw [List.length_drop]; omega)]
          have hml : ls.length - ah = ((ls.drop ah).take (ls.length - ah)).length := by rw [List.length_take, List.length_drop]; omega
          have HR : Hid (frF ls n most = (ls.drop ah).take (ls.length - ah)) := hR
          have HML : Hid (ls.length - ah = ((ls.drop ah).take (ls.length - ah)).length) := hml
          have HCL : Hid (∀ c, Calls Tryz.prog 40 #[.slice (some ⟨g, ah * 8, none⟩) (ls.length - ah) c] w fun e w' => ∃ a c', e = .returned (.slice a (ls.length - ah) c') ∧ Recs w' a c' ((ls.drop ah).take (ls.length - ah)) ∧ Fr (fun _ => False) w w') := fun c => clone_any ⟨g, ah * 8, none⟩ (ls.length - ah) c _ hml (by omega) w (src_part HH.out ah (ls.length - ah))
          have j2 : min most ((ls.length - ah : Nat) : Int) = ((ls.length - ah : Nat) : Int) := by omega
          have j4 : ((ls.length - ah : Nat) : Int) ≤ ((cr - ah : Nat) : Int) := by omega
          clear hR hml HDEF
          go_wp2_with (first | (go_at_call 25; refine hre.mono ?_; rintro e w' ⟨rfl, rfl⟩) | (go_at_call 35; refine hal.mono ?_; rintro e w' ⟨rfl, rfl⟩))
          refine (HCL.out _).mono ?_
          rintro e w2 ⟨a2, c2, rfl, hr2, f2⟩
          go_wp2
          go_ret
          rw [HR.out]
          exact ⟨a2, c2, by rw [← HML.out]; rfl, hr2, f2⟩
    · have hd : decide ((0 : Int) ≤ (ah : Int) ∧ (ah : Int) ≤ (ls.length : Int)) = false := decide_eq_false (by omega)
      rw [hd] at hre
      have HZ : Hid (frF ls n most = []) := by show _ = _; rw [HDEF.out, if_neg h1, List.drop_eq_nil_of_le (by omega), List.take_nil]
      go_wp2_with (first | (go_at_call 25; refine hre.mono ?_; rintro e w' ⟨rfl, rfl⟩) | (go_at_call 35; refine hal.mono ?_; rintro e w' ⟨rfl, rfl⟩))
      go_ret
      rw [HZ.out]
      exact ⟨none, 0, rfl, recs_nil _ _ _ (by omega), Fr.refl _ _⟩
end Go.Proofs.YtnoadmkkkeianaaGreat
