
/- WlMarks, WlSpeak. -/
import Derived.Test.YtcmkpmilnplhmaaWTG
import Derived.Test.YtcmkpmilnplhmaaWTH
/- What (*Log).Marks makes; plain comparisons of marks and of records. -/
namespace Go.Proofs.Ytcmkpmilnplhmaa
open Go.RowKit Crcm

theorem infoMark : (Try.prog.info? 56).map (fun i => (i.zero, i.size, i.bytes)) = some (some (.agg #[.int .i64 0, .int .i64 0]), 2, 16) := by kernel_rfl
/-- A mark's cells. -/
def mkC (m : Int × Int) : List Value := [.int .i64 m.1, .int .i64 m.2]
theorem mkC_length (m : Int × Int) : (mkC m).length = 2 := rfl
theorem mkC_one (m : Int × Int) : ∀ u ∈ mkC m, u.oneCell' = true := by
  intro u hu
  simp only [mkC, List.mem_cons, List.not_mem_nil, or_false] at hu
  rcases hu with h | h <;> (subst h; rfl)
theorem mk_range {w : World} {b o : Nat} {m : Int × Int} (h : w.rangeAt b o (mkC m)) : w.cell? ⟨b, o, none⟩ = some (.int .i64 m.1) ∧ w.cell? ⟨b, o + 1, none⟩ = some (.int .i64 m.2) := ⟨h 0 _ rfl, h 1 _ rfl⟩
/-- One record more. -/
def mkS (ms : List (Int × Int)) (r : Rec) : List (Int × Int) := if ms = [] ∨ r.ep ≠ (ms.getLast?.getD (0, 0)).1 then ms ++ [(r.ep, r.lsn)] else ms
/-- The epochs, and where each begins. -/
def mks (ls : List Rec) : List (Int × Int) := ls.foldl mkS []
theorem mks_snoc (ls : List Rec) (r : Rec) : mks (ls ++ [r]) = mkS (mks ls) r := by unfold mks; rw [List.foldl_append]; rfl
theorem mks_nil : mks [] = [] := rfl
theorem mkS_ne (ms : List (Int × Int)) (r : Rec) : mkS ms r ≠ [] := by
  unfold mkS
  split
  · simp
  · rename_i h; exact fun e => h (.inl e)
theorem mks_empty {ls : List Rec} : mks ls = [] ↔ ls = [] := by
  constructor
  · intro h
    rcases List.eq_nil_or_concat ls with h0 | ⟨l, r, h0⟩
    · exact h0
    · rw [h0, List.concat_eq_append, mks_snoc] at h
      exact absurd h (mkS_ne _ _)
  · rintro rfl; rfl
theorem mkS_len (ms : List (Int × Int)) (r : Rec) : (mkS ms r).length ≤ ms.length + 1 := by
  unfold mkS; split <;> simp
theorem mks_len (ls : List Rec) : (mks ls).length ≤ ls.length := by
  have key : ∀ (l : List Rec) (ms : List (Int × Int)), (l.foldl mkS ms).length ≤ ms.length + l.length := by
    intro l
    induction l with
    | nil => intro ms; simp
    | cons r l ih => intro ms; rw [List.foldl_cons, List.length_cons]; have := ih (mkS ms r); have := mkS_len ms r; omega
  have := key ls []
  simpa [mks] using this

/-- A slice of marks as a walk sees it. -/
structure Mks (w : World) (a : Option Addr) (cap : Nat) (ms : List (Int × Int)) : Prop where
  le : ms.length ≤ cap
  max : cap ≤ 9223372036854775807
  at_ : ms = [] ∨ ∃ b off, a = some ⟨b, off, none⟩ ∧ b < w.heap.size ∧ ∀ (i : Nat) m, ms[i]? = some m → w.rangeAt b (off + i * 2) (mkC m)
theorem Mks.same {w w' : World} {a : Option Addr} {cap : Nat} {ms : List (Int × Int)} (h : Mks w a cap ms) (f : Fr (fun _ => False) w w') : Mks w' a cap ms := by
  refine ⟨h.le, h.max, ?_⟩
  rcases h.at_ with h0 | ⟨b, off, rfl, hb, hc⟩
  · exact .inl h0
  · exact .inr ⟨b, off, rfl, Nat.lt_of_lt_of_le hb f.size, fun i r hr => range_fr (hc i r hr) f (fun f => f)⟩
theorem Has.mks {w : World} {a : Option Addr} {n c : Nat} {ms : List (Int × Int)} (hn : n = ms.length) (h : Has w 2 (.slice a n c) n (ms.flatMap mkC)) : Mks w a c ms := by
  subst hn
  obtain ⟨a', c', he, h1, h2⟩ := h.slice
  simp only [Value.slice.injEq, true_and] at he
  obtain ⟨rfl, rfl⟩ := he
  refine ⟨h1, by unfold maxLen at h2; exact h2, ?_⟩
  by_cases h0 : ms.length = 0
  · exact .inl (List.length_eq_zero_iff.1 h0)
  · obtain ⟨g, cap, hv, hg, _⟩ := h.form (by omega)
    simp only [Value.slice.injEq, true_and] at hv
    obtain ⟨rfl, rfl⟩ := hv
    refine .inr ⟨g, 0, rfl, hg, fun i m hm => ?_⟩
    rw [Nat.zero_add]
    exact h.elem mkC_length hm
theorem Has.recs {w : World} {a : Option Addr} {n c : Nat} {ls : List Rec} (hn : n = ls.length) (h : Has w 8 (.slice a n c) n (ls.flatMap recC)) : Recs w a c ls := by
  subst hn
  obtain ⟨a', c', he, h1, h2⟩ := h.slice
  simp only [Value.slice.injEq, true_and] at he
  obtain ⟨rfl, rfl⟩ := he
  refine ⟨h1, by unfold maxLen at h2; exact h2, ?_⟩
  by_cases h0 : ls.length = 0
  · exact .inl (List.length_eq_zero_iff.1 h0)
  · obtain ⟨g, cap, hv, hg, _⟩ := h.form (by omega)
    simp only [Value.slice.injEq, true_and] at hv
    obtain ⟨rfl, rfl⟩ := hv
    refine .inr ⟨g, 0, rfl, hg, fun i m hm => ?_⟩
    rw [Nat.zero_add]
    exact h.elem recC_length hm

set_option maxRecDepth 100000 in
set_option maxHeartbeats 2000000 in
theorem plain_marks (a1 a2 : Option Addr) (n1 n2 c1 c2 : Nat) (ms : List (Int × Int)) (h1 : n1 = ms.length) (h2 : n2 = ms.length) (w : World) (m1 : Mks w a1 c1 ms) (m2 : Mks w a2 c2 ms) :
    Calls Try.prog 21 #[.slice a1 n1 c1, .slice a2 n2 c2] w fun e w' => e = .returned (.bool true) ∧ Fr (fun _ => False) w w' := by
  subst h1
  subst h2
  have hl1 := m1.le
  have hm1 := m1.max
  have hl2 := m2.le
  have hm2 := m2.max
  by_cases h0 : ms.length = 0
  · rw [h0]
    clear h0
    go_enter Try.func21, Try.ntmps21
    go_wp2
    refine wp_loop_rounds 1 ?_
    rw [rounds_succ]
    go_wp2
    go_ret
    exact ⟨rfl, Fr.refl _ _⟩
  · obtain ⟨b1, o1, rfl, hb1, k1⟩ : ∃ b off, a1 = some ⟨b, off, none⟩ ∧ b < w.heap.size ∧ ∀ (i : Nat) m, ms[i]? = some m → w.rangeAt b (off + i * 2) (mkC m) := by
      rcases m1.at_ with e | e
      · rw [e] at h0; simp at h0
      · exact e
    obtain ⟨b2, o2, rfl, hb2, k2⟩ : ∃ b off, a2 = some ⟨b, off, none⟩ ∧ b < w.heap.size ∧ ∀ (i : Nat) m, ms[i]? = some m → w.rangeAt b (off + i * 2) (mkC m) := by
      rcases m2.at_ with e | e
      · rw [e] at h0; simp at h0
      · exact e
    have K1 : Hid (∀ (i : Nat) m, ms[i]? = some m → w.rangeAt b1 (o1 + i * 2) (mkC m)) := k1
    have K2 : Hid (∀ (i : Nat) m, ms[i]? = some m → w.rangeAt b2 (o2 + i * 2) (mkC m)) := k2
    clear k1 k2 m1 m2 h0
    go_enter Try.func21, Try.ntmps21
    go_wp2
    go_loopw [13] (fun i wr => ∃ k q : Nat, k ≤ ms.length ∧ i = .int .i64 k ∧ wr = w.drewN q) (fun i _ => ms.length - (intOf i).toNat)
    case atStart => exact ⟨0, 0, by omega, rfl, rfl⟩
    case round =>
      obtain ⟨k, q, hk, rfl, rfl⟩ := hrel
      by_cases hlt : k < ms.length
      · obtain ⟨m, hm⟩ : ∃ m, ms[k]? = some m := ⟨_, List.getElem?_eq_getElem hlt⟩
        obtain ⟨x0, x1⟩ := mk_range (K1.out k m hm)
        obtain ⟨y0, y1⟩ := mk_range (K2.out k m hm)
        clear hm
        go_wp2
        go_quiet (fail)
        go_wp2
        exact ⟨⟨k + 1, _, by omega, by go_num, rfl⟩, by simp [intOf]; omega⟩
      · go_wp2
        go_ret
        exact ⟨rfl, Fr.drewN (Fr.refl _ _) _⟩
set_option maxRecDepth 100000 in
set_option maxHeartbeats 2000000 in
theorem plain_recs (a1 a2 : Option Addr) (n1 n2 c1 c2 : Nat) (ms : List Rec) (h1 : n1 = ms.length) (h2 : n2 = ms.length) (w : World) (m1 : Recs w a1 c1 ms) (m2 : Recs w a2 c2 ms) :
    Calls Try.prog 9 #[.slice a1 n1 c1, .slice a2 n2 c2] w fun e w' => e = .returned (.bool true) ∧ Fr (fun _ => False) w w' := by
  subst h1
  subst h2
  have hl1 := m1.le
  have hm1 := m1.max
  have hl2 := m2.le
  have hm2 := m2.max
  by_cases h0 : ms.length = 0
  · rw [h0]
    clear h0
    go_enter Try.func9, Try.ntmps9
    go_wp2
    refine wp_loop_rounds 1 ?_
    rw [rounds_succ]
    go_wp2
    go_ret
    exact ⟨rfl, Fr.refl _ _⟩
  · obtain ⟨b1, o1, rfl, hb1, k1⟩ : ∃ b off, a1 = some ⟨b, off, none⟩ ∧ b < w.heap.size ∧ ∀ (i : Nat) m, ms[i]? = some m → w.rangeAt b (off + i * 8) (recC m) := by
      rcases m1.at_ with e | e
      · rw [e] at h0; simp at h0
      · exact e
    obtain ⟨b2, o2, rfl, hb2, k2⟩ : ∃ b off, a2 = some ⟨b, off, none⟩ ∧ b < w.heap.size ∧ ∀ (i : Nat) m, ms[i]? = some m → w.rangeAt b (off + i * 8) (recC m) := by
      rcases m2.at_ with e | e
      · rw [e] at h0; simp at h0
      · exact e
    have K1 : Hid (∀ (i : Nat) m, ms[i]? = some m → w.rangeAt b1 (o1 + i * 8) (recC m)) := k1
    have K2 : Hid (∀ (i : Nat) m, ms[i]? = some m → w.rangeAt b2 (o2 + i * 8) (recC m)) := k2
    clear k1 k2 m1 m2 h0
    go_enter Try.func9, Try.ntmps9
    go_wp2
    go_loopw [13] (fun i wr => ∃ k q : Nat, k ≤ ms.length ∧ i = .int .i64 k ∧ wr = w.drewN q) (fun i _ => ms.length - (intOf i).toNat)
    case atStart => exact ⟨0, 0, by omega, rfl, rfl⟩
    case round =>
      obtain ⟨k, q, hk, rfl, rfl⟩ := hrel
      by_cases hlt : k < ms.length
      · obtain ⟨m, hm⟩ : ∃ m, ms[k]? = some m := ⟨_, List.getElem?_eq_getElem hlt⟩
        obtain ⟨x0, x1, x2, x3, x4, x5, x6, x7⟩ := rec_range (K1.out k m hm)
        obtain ⟨y0, y1, y2, y3, y4, y5, y6, y7⟩ := rec_range (K2.out k m hm)
        clear hm
        go_wp2
        go_quiet (fail)
        go_wp2
        exact ⟨⟨k + 1, _, by omega, by go_num, rfl⟩, by simp [intOf]; omega⟩
      · go_wp2
        go_ret
        exact ⟨rfl, Fr.drewN (Fr.refl _ _) _⟩

set_option maxRecDepth 100000 in
set_option maxHeartbeats 400000 in
theorem marks_wnil (w : World) : Calls Try.prog 22 #[.pointer none] w fun e w' => e = .returned (.slice none 0 0) ∧ w' = w := by
  go_enter Try.func22, Try.ntmps22
  go_wp2_with (go_at_call 16; refine (all_nil _).mono ?_; rintro e w' ⟨rfl, rfl⟩)
  refine wp_loop_rounds 1 ?_
  rw [rounds_succ]
  go_wp2
  go_ret
  exact ⟨rfl, rfl⟩
set_option maxRecDepth 100000 in
set_option maxHeartbeats 4000000 in
theorem marks_lg (lb : Nat) (rv : Value) (ls : List Rec) (fl : Int) (w : World) (h : Lg w lb rv ls fl) (hw : Wl ls) :
    Calls Try.prog 22 #[.pointer (some ⟨lb, 0, none⟩)] w fun e w' => ∃ a c, e = .returned (.slice a (mks ls).length c) ∧ Mks w' a c (mks ls) ∧ Fr (fun _ => False) w w' := by
  obtain ⟨iM, hiM, hM0, hM1, hM2⟩ := info_parts infoMark
  have M1 : Hid (Try.prog.info? 56 = some iM) := hiM
  have M2 : Hid (iM.zero = some (.agg #[.int .i64 0, .int .i64 0])) := hM0
  have M3 : Hid (iM.size = 2) := hM1
  have M4 : Hid (iM.bytes = 16) := hM2
  clear hiM hM0 hM1 hM2
  have hb := hw.big
  have hal := all_lg lb rv ls fl w h
  have HH : Hid (∀ W, Fr (fun _ => False) w W → Has W 8 rv ls.length (ls.flatMap recC)) := fun W f => h.has.fr f (fun _ _ f => f)
  obtain ⟨ar, cr, rfl, _, hcr⟩ := h.has.slice
  have hcr' : cr ≤ 9223372036854775807 := by unfold maxLen at hcr; exact hcr
  clear hcr hw h
  go_enter Try.func22, Try.ntmps22
  go_wp2_with fail
  refine hal.mono ?_
  rintro e w' ⟨rfl, rfl⟩
  clear hal
  go_wp2
  go_loopw [9, 3] (fun i t wr => ∃ (k : Nat) (vt : Value) (ms : List (Int × Int)), k ≤ ls.length ∧ i = .int .i64 k ∧ t = vt ∧ Hid (ms = mks (ls.take k)) ∧ Has wr 2 vt ms.length (ms.flatMap mkC) ∧ (∀ g, vt.ownBlock = some g → w'.heap.size ≤ g) ∧ Fr (fun _ => False) w' wr) (fun i _ _ => ls.length - (intOf i).toNat)
  case atStart => exact ⟨0, .slice none 0 0, [], by omega, rfl, rfl, rfl, Has.nil _ _, (fun g e => by cases e), Fr.refl _ _⟩
  case round =>
    obtain ⟨k, vt, ms, hk, rfl, rfl, HM, ht, hown, F⟩ := hrel
    by_cases hlt : k < ls.length
    · obtain ⟨r, hr, htk⟩ := take_one ls k hlt
      have HTK : Hid (ls.take (k + 1) = ls.take k ++ [r]) := htk
      have hhk := HH.out _ F
      obtain ⟨g, cap, hv, _⟩ := hhk.form (by omega)
      simp only [Value.slice.injEq, true_and] at hv
      obtain ⟨rfl, rfl⟩ := hv
      obtain ⟨q0, q1, q2, q3, q4, q5, q6, q7⟩ := rec_range (hhk.elem recC_length hr)
      have fb := Fr.box wr (.cells #[.int .i64 r.lsn, .int .i64 r.ep, .int .i64 r.kind, .int .i64 r.page, .int .i64 r.other, .int .i64 r.req, .string r.key, .string r.val] 28)
      have HMS : Hid (mks (ls.take (k + 1)) = mkS ms r) := by show _ = _; rw [HTK.out, mks_snoc, HM.out]
      have HML : Hid (ms.length ≤ 65536) := by show _ ≤ _; rw [HM.out]; have := mks_len (ls.take k); rw [List.length_take] at this; omega
      have HM0 : Hid (ms = [] ↔ k = 0) := by
        show _ ↔ _
        rw [HM.out, mks_empty]
        constructor
        · intro h0
          have : (ls.take k).length = 0 := by rw [h0]; rfl
          rw [List.length_take] at this; omega
        · rintro rfl; rfl
      clear hr htk hhk
      -- the append
      have HAP : Hid (∀ W, Fr (fun _ => False) (wr.alloc (.cells #[.int .i64 r.lsn, .int .i64 r.ep, .int .i64 r.kind, .int .i64 r.page, .int .i64 r.other, .int .i64 r.req, .string r.key, .string r.val] 28)) W → Has W 2 u3 ms.length (ms.flatMap mkC)) := fun W f => (ht.fr fb (fun _ _ f => f)).fr f (fun _ _ f => f)
      have hown' : Hid (∀ g, u3.ownBlock = some g → w'.heap.size ≤ g) := hown
      have FB := F.seq' fb
      have hrel2 : ∀ W (P : Fr (fun _ => False) (wr.alloc (.cells #[.int .i64 r.lsn, .int .i64 r.ep, .int .i64 r.kind, .int .i64 r.page, .int .i64 r.other, .int .i64 r.req, .string r.key, .string r.val] 28)) W) v' w8, Has w8 2 v' (ms ++ [(r.ep, r.lsn)]).length ((ms ++ [(r.ep, r.lsn)]).flatMap mkC) → Fr (fun k => u3.ownBlock = some k ∧ 0 < 1) W w8 → (v'.ownBlock = u3.ownBlock ∨ v'.ownBlock = some W.heap.size) → (∀ g, v'.ownBlock = some g → w'.heap.size ≤ g) ∧ Fr (fun _ => False) w' w8 := fun W P v' w8 hh f hat => by
        have hz := (FB.seq' P).size
        refine ⟨fun g e => ?_, (FB.seq' P).trans f (fun i hi e => by have := hown'.out i e.1; omega)⟩
        rcases hat with h1 | h1
        · rw [h1] at e; exact hown'.out g e
        · rw [h1] at e; simp only [Option.some.injEq] at e; omega
      have HR2 : Hid (∀ W (_P : Fr (fun _ => False) (wr.alloc (.cells #[.int .i64 r.lsn, .int .i64 r.ep, .int .i64 r.kind, .int .i64 r.page, .int .i64 r.other, .int .i64 r.req, .string r.key, .string r.val] 28)) W) v' w8, Has w8 2 v' (ms ++ [(r.ep, r.lsn)]).length ((ms ++ [(r.ep, r.lsn)]).flatMap mkC) → Fr (fun k => u3.ownBlock = some k ∧ 0 < 1) W w8 → (v'.ownBlock = u3.ownBlock ∨ v'.ownBlock = some W.heap.size) → (∀ g, v'.ownBlock = some g → w'.heap.size ≤ g) ∧ Fr (fun _ => False) w' w8) := hrel2
      clear hrel2 hown
      have hml := HML.out
      by_cases h0 : k = 0
      · have HADD : Hid (mkS ms r = ms ++ [(r.ep, r.lsn)]) := if_pos (.inl (HM0.out.2 h0))
        subst h0
        have gd := (Fr.refl (fun _ => False) (wr.alloc (.cells #[.int .i64 r.lsn, .int .i64 r.ep, .int .i64 r.kind, .int .i64 r.page, .int .i64 r.other, .int .i64 r.req, .string r.key, .string r.val] 28))).drew
        obtain ⟨⟨c0, c1, c2, c3, c4, c5, c6, c7⟩, _⟩ := rec_cells (rec_at wr _ _ gd)
        go_wp2_with fail
        go_quiet (fail)
        have PF : Fr (fun _ => False) (wr.alloc (.cells #[.int .i64 r.lsn, .int .i64 r.ep, .int .i64 r.kind, .int .i64 r.page, .int .i64 r.other, .int .i64 r.req, .string r.key, .string r.val] 28)) ((wr.alloc (.cells #[.int .i64 r.lsn, .int .i64 r.ep, .int .i64 r.kind, .int .i64 r.page, .int .i64 r.other, .int .i64 r.req, .string r.key, .string r.val] 28)).drewN nq) := Fr.drewN (Fr.refl _ _) _
        obtain ⟨W5, hW5⟩ : ∃ W, W = (wr.alloc (.cells #[.int .i64 r.lsn, .int .i64 r.ep, .int .i64 r.kind, .int .i64 r.page, .int .i64 r.other, .int .i64 r.req, .string r.key, .string r.val] 28)).drewN nq := ⟨_, rfl⟩
        rw [← hW5] at PF ⊢
        obtain ⟨⟨d0, d1, d2, d3, d4, d5, d6, d7⟩, _⟩ := rec_cells (rec_at wr _ _ PF)
        clear hW5
        have P6 := PF.alloc (.cells #[.int .i64 r.ep, .int .i64 r.lsn] 56)
        have hrow := HAP.out _ P6
        have hnews : From (W5.alloc (.cells #[.int .i64 r.ep, .int .i64 r.lsn] 56)) (some ⟨W5.heap.size, 0, none⟩) (mkC (r.ep, r.lsn)) := .inr ⟨_, _, rfl, range_block (heap_alloc_new W5 _) (fun j v hv => by rw [Nat.zero_add]; simpa [mkC] using hv)⟩
        go_wp2_with (at_builtin; refine wpList_append_has _ rfl (.tmp 28) (.tmp 34) 53 53 56 56 rfl iM (.agg #[.int .i64 0, .int .i64 0]) 2 16 Try.underlying53 Try.underlying53 M1.out M2.out M3.out M4.out rfl (by omega) u3 ms.length (ms.flatMap mkC) rfl hrow (some ⟨W5.heap.size, 0, none⟩) 1 1 (mkC (r.ep, r.lsn)) rfl rfl hnews (mkC_one _) (by unfold maxLen; omega) (by omega) ?_; intro a4 c4 w8 ht4 f34 hat4)
        have hl2 : ms.length + 1 = (ms ++ [(r.ep, r.lsn)]).length := by rw [List.length_append]; rfl
        have ht5 : Has w8 2 (.slice a4 (ms ++ [(r.ep, r.lsn)]).length c4) (ms ++ [(r.ep, r.lsn)]).length ((ms ++ [(r.ep, r.lsn)]).flatMap mkC) := by
          rw [← hl2, List.flatMap_append]
          simpa using ht4
        rw [hl2] at hat4 ⊢
        obtain ⟨hR1, hR2⟩ := HR2.out _ P6 _ _ ht5 f34 hat4
        clear hl2 ht4 d0 d1 d2 d3 d4 d5 d6 d7
        go_wp2
        go_roundw
        case rel => exact ⟨0 + 1, _, ms ++ [(r.ep, r.lsn)], by omega, by go_num, rfl, by rw [HMS.out, HADD.out]; exact rfl, ht5, hR1, hR2⟩
        case measure => simp [intOf]; omega
      · have hkb : ((k : Int) == 0) = false := by rw [beq_eq_false_iff_ne]; omega
        have hm1 : ms ≠ [] := fun e => h0 (HM0.out.1 e)
        have hm2 : 0 < ms.length := List.length_pos_iff.2 hm1
        obtain ⟨lm, hlm⟩ : ∃ lm, ms[ms.length - 1]? = some lm := ⟨_, List.getElem?_eq_getElem (by omega)⟩
        have hgl : ms.getLast?.getD (0, 0) = lm := by rw [List.getLast?_eq_getElem?, hlm]; rfl
        have gd := (Fr.refl (fun _ => False) (wr.alloc (.cells #[.int .i64 r.lsn, .int .i64 r.ep, .int .i64 r.kind, .int .i64 r.page, .int .i64 r.other, .int .i64 r.req, .string r.key, .string r.val] 28))).drew
        have hhm := HAP.out _ (Fr.refl _ _)
        obtain ⟨gm, cm, hv3, _⟩ := hhm.form hm2
        rw [hv3] at hhm
        obtain ⟨m0, m1⟩ := mk_range (hhm.elem mkC_length hlm)
        obtain ⟨⟨c0, c1, c2, c3, c4, c5, c6, c7⟩, _⟩ := rec_cells (rec_at wr _ _ gd)
        obtain ⟨p, hp⟩ : ∃ p, p + 1 = ms.length := ⟨ms.length - 1, by omega⟩
        have hp2 : ms.length - 1 = p := by omega
        rw [hp2] at m0 m1
        have HP : Hid (p + 1 = ms.length) := hp
        have hp6 : p + 1 ≤ 65536 := by omega
        have j1 : IntKind.i64.wrap (p : Int) = (p : Int) := by simp [IntKind.wrap, IntKind.bits, IntKind.signed]; omega
        have j2 : (0 : Int) ≤ (p : Int) := by omega
        have j3 : (p : Int) < (p : Int) + 1 := by omega
        have j4 : IntKind.i64.wrap ((p : Int) + 1 - 1) = (p : Int) := by simp [IntKind.wrap, IntKind.bits, IntKind.signed]; omega
        rw [← hp] at hv3
        have HV3 : Hid (u3 = .slice (some ⟨gm, 0, none⟩) (p + 1) cm) := hv3
        subst hv3
        clear hhm hlm hp2 hm1 hm2 h0
        by_cases hep : r.ep = lm.1
        · have hepb : (r.ep != lm.1) = false := by simp [hep]
          have HKEEP : Hid (mkS ms r = ms) := by
            show _ = _
            unfold mkS
            rw [hgl, if_neg (fun h => h.elim (fun h => by rw [h] at hp; simp at hp) (fun h => h hep))]
          clear hep hgl hp
          go_wp2_with fail
          go_quiet (fail)
          have PF : Fr (fun _ => False) (wr.alloc (.cells #[.int .i64 r.lsn, .int .i64 r.ep, .int .i64 r.kind, .int .i64 r.page, .int .i64 r.other, .int .i64 r.req, .string r.key, .string r.val] 28)) ((wr.alloc (.cells #[.int .i64 r.lsn, .int .i64 r.ep, .int .i64 r.kind, .int .i64 r.page, .int .i64 r.other, .int .i64 r.req, .string r.key, .string r.val] 28)).drewN nq) := Fr.drewN (Fr.refl _ _) _
          have hrow := HAP.out _ PF
          have FF := FB.seq' PF
          go_wp2
          go_roundw
          case rel => exact ⟨k + 1, _, ms, by omega, by go_num, rfl, by rw [HMS.out, HKEEP.out]; exact rfl, hrow, hown'.out, FF⟩
          case measure => simp [intOf]; omega
        · have hepb : (r.ep != lm.1) = true := by simpa using hep
          have HADD : Hid (mkS ms r = ms ++ [(r.ep, r.lsn)]) := by
            show _ = _
            unfold mkS
            rw [hgl, if_pos (.inr hep)]
          clear hep hgl hp
          go_wp2_with fail
          go_quiet (fail)
          have PF : Fr (fun _ => False) (wr.alloc (.cells #[.int .i64 r.lsn, .int .i64 r.ep, .int .i64 r.kind, .int .i64 r.page, .int .i64 r.other, .int .i64 r.req, .string r.key, .string r.val] 28)) ((wr.alloc (.cells #[.int .i64 r.lsn, .int .i64 r.ep, .int .i64 r.kind, .int .i64 r.page, .int .i64 r.other, .int .i64 r.req, .string r.key, .string r.val] 28)).drewN nq) := Fr.drewN (Fr.refl _ _) _
          obtain ⟨W5, hW5⟩ : ∃ W, W = (wr.alloc (.cells #[.int .i64 r.lsn, .int .i64 r.ep, .int .i64 r.kind, .int .i64 r.page, .int .i64 r.other, .int .i64 r.req, .string r.key, .string r.val] 28)).drewN nq := ⟨_, rfl⟩
          rw [← hW5] at PF ⊢
          obtain ⟨⟨d0, d1, d2, d3, d4, d5, d6, d7⟩, _⟩ := rec_cells (rec_at wr _ _ PF)
          clear hW5
          have P6 := PF.alloc (.cells #[.int .i64 r.ep, .int .i64 r.lsn] 56)
          have hrow := HAP.out _ P6
          have hnews : From (W5.alloc (.cells #[.int .i64 r.ep, .int .i64 r.lsn] 56)) (some ⟨W5.heap.size, 0, none⟩) (mkC (r.ep, r.lsn)) := .inr ⟨_, _, rfl, range_block (heap_alloc_new W5 _) (fun j v hv => by rw [Nat.zero_add]; simpa [mkC] using hv)⟩
          go_wp2_with (at_builtin; refine wpList_append_has _ rfl (.tmp 28) (.tmp 34) 53 53 56 56 rfl iM (.agg #[.int .i64 0, .int .i64 0]) 2 16 Try.underlying53 Try.underlying53 M1.out M2.out M3.out M4.out rfl (by omega) (.slice (some ⟨gm, 0, none⟩) (p + 1) cm) ms.length (ms.flatMap mkC) rfl hrow (some ⟨W5.heap.size, 0, none⟩) 1 1 (mkC (r.ep, r.lsn)) rfl rfl hnews (mkC_one _) (by unfold maxLen; omega) (by omega) ?_; intro a4 c4 w8 ht4 f34 hat4)
          have hl2 : ms.length + 1 = (ms ++ [(r.ep, r.lsn)]).length := by rw [List.length_append]; rfl
          have ht5 : Has w8 2 (.slice a4 (ms ++ [(r.ep, r.lsn)]).length c4) (ms ++ [(r.ep, r.lsn)]).length ((ms ++ [(r.ep, r.lsn)]).flatMap mkC) := by
            rw [← hl2, List.flatMap_append]
            simpa using ht4
          rw [hl2] at hat4 ⊢
          obtain ⟨hR1, hR2⟩ := HR2.out _ P6 _ _ ht5 f34 hat4
          clear hl2 ht4 d0 d1 d2 d3 d4 d5 d6 d7
          go_wp2
          go_roundw
          case rel => exact ⟨k + 1, _, ms ++ [(r.ep, r.lsn)], by omega, by go_num, rfl, by rw [HMS.out, HADD.out]; exact rfl, ht5, hR1, hR2⟩
          case measure => simp [intOf]; omega
    · have hkl : ls.take k = ls := List.take_of_length_le (by omega)
      have HMM : Hid (ms = mks ls) := by show _ = _; rw [HM.out, hkl]
      obtain ⟨a, c, rfl, _, _⟩ := ht.slice
      have hmk := Has.mks rfl ht
      clear hkl
      go_wp2
      go_ret
      exact ⟨a, c, by rw [← HMM.out]; rfl, by rw [← HMM.out]; exact hmk, F⟩
end Go.Proofs.Ytcmkpmilnplhmaa

/- That wal speaks. -/
namespace Go.Proofs.Ytcmkpmilnplhmaa
open Go.RowKit Crcm

def s1 : Rec := ⟨0, 1, 1, 0, 0, 0, ⟨#[]⟩, ⟨#[]⟩⟩
def s2 : Rec := ⟨0, 3, 1, 0, 0, 0, ⟨#[]⟩, ⟨#[]⟩⟩
def t1 : Rec := ⟨1, 1, 1, 0, 0, 0, ⟨#[]⟩, ⟨#[]⟩⟩
def t2 : Rec := ⟨2, 3, 1, 0, 0, 0, ⟨#[]⟩, ⟨#[]⟩⟩
theorem t1_ok : rok t1 = true := by decide +kernel
theorem t2_ok : rok t2 = true := by decide +kernel
theorem ap1 : apE [] s1 = 0 := by decide +kernel
theorem ap1L : apL [] s1 = [t1] := by unfold apL; rw [if_pos ap1]; rfl
theorem ap1N : apN [] s1 = 1 := by unfold apN; rw [if_pos ap1]; rfl
theorem ap2 : apE [t1] s2 = 0 := by decide +kernel
theorem ap2L : apL [t1] s2 = [t1, t2] := by unfold apL; rw [if_pos ap2]; rfl
theorem ap2N : apN [t1] s2 = 2 := by unfold apN; rw [if_pos ap2]; rfl
theorem wlt1 : Wl [t1] := ap1L ▸ wl_ap wl_nil s1
theorem wlt2 : Wl [t1, t2] := ap2L ▸ wl_ap wlt1 s2
theorem lfr2 : (lfr [t1, t2]).length = 86 := by unfold lfr; rw [List.flatMap_cons, List.flatMap_cons, List.flatMap_nil, List.append_nil, List.length_append, frm_length, frm_length]; rfl
theorem lfr1 : (lfr [t1]).length = 43 := by unfold lfr; rw [List.flatMap_cons, List.flatMap_nil, List.append_nil, frm_length]; rfl
theorem read85 : wread ((lfr [t1, t2]).take 85) = ([t1], 43) := by
  have h1 : lfr [t1, t2] = lfr [t1] ++ frm t2 := by unfold lfr; simp
  have h2 : (lfr [t1, t2]).take 85 = lfr [t1] ++ (frm t2).take 42 := by
    rw [h1, List.take_append, lfr1, List.take_of_length_le (by rw [lfr1]; omega)]
  rw [h2, wread_torn [t1] wlt1 _ (by rw [rdec_cut t2 t2_ok 42 (by rw [frm_length]; decide)]; decide), lfr1]
theorem mks2 : mks [t1, t2] = [(1, 1), (3, 2)] := by decide
set_option maxRecDepth 100000 in
set_option maxHeartbeats 4000000 in
theorem wspeaks_any (w : World) : Calls Try.prog 12 #[] w fun e w' => e = .returned (.bool true) ∧ Fr (fun _ => False) w w' := by
  have HNL : Hid (∀ W, Lg W w.heap.size (.slice none 0 0) [] 0 → Calls Try.prog 5 #[.pointer (some ⟨w.heap.size, 0, none⟩), (.agg #[.int .i64 s1.lsn, .int .i64 s1.ep, .int .i64 s1.kind, .int .i64 s1.page, .int .i64 s1.other, .int .i64 s1.req, .string s1.key, .string s1.val])] W fun e w' => e = .returned (.tuple #[.int .i64 1, .int .i64 0]) ∧ ∃ rv', Lg w' w.heap.size rv' [t1] 0 ∧ Fr (lgS w.heap.size (.slice none 0 0)) W w') := fun W h => by
    refine (append_lg s1 _ _ [] 0 W h wl_nil).mono ?_
    rw [ap1, ap1N, ap1L]
    rintro e w' ⟨rfl, rv', h1, h2, _⟩
    exact ⟨rfl, rv', h1, h2⟩
  have HN2 : Hid (∀ W rv, Lg W w.heap.size rv [t1] 0 → Calls Try.prog 5 #[.pointer (some ⟨w.heap.size, 0, none⟩), (.agg #[.int .i64 s2.lsn, .int .i64 s2.ep, .int .i64 s2.kind, .int .i64 s2.page, .int .i64 s2.other, .int .i64 s2.req, .string s2.key, .string s2.val])] W fun e w' => e = .returned (.tuple #[.int .i64 2, .int .i64 0]) ∧ ∃ rv', Lg w' w.heap.size rv' [t1, t2] 0 ∧ Fr (lgS w.heap.size rv) W w') := fun W rv h => by
    refine (append_lg s2 _ _ [t1] 0 W h wlt1).mono ?_
    rw [ap2, ap2N, ap2L]
    rintro e w' ⟨rfl, rv', h1, h2, _⟩
    exact ⟨rfl, rv', h1, h2⟩
  have H86 : Hid ((lfr [t1, t2]).length = 86) := lfr2
  have HO : Hid (octs (lfr [t1, t2])) := lfr_octs _
  have HR85 : Hid (wread ((lfr [t1, t2]).take 85) = ([t1], 43)) := read85
  have HMK : Hid (mks [t1, t2] = [(1, 1), (3, 2)]) := mks2
  have HLE : Hid (lastE [t1] = 1) := rfl
  go_enter Try.func12, Try.ntmps12
  go_wp2_with fail
  refine (wnew_any w).mono ?_
  rintro e w1 ⟨rfl, l1, f1, hz1⟩
  go_wp2_with fail
  refine (HNL.out _ l1).mono ?_
  rintro e w2 ⟨rfl, rv2, l2, f2⟩
  have F2 := f1.trans f2 (S := fun _ => False) (fun i hi e => Or.elim e (fun e => by omega) (fun e => by cases e))
  clear l1
  go_wp2_with fail
  refine (HN2.out _ _ l2).mono ?_
  rintro e w3 ⟨rfl, rv3, l3, f3⟩
  have F3 := F2.trans f3 (S := fun _ => False) (fun i hi e => Or.elim e (fun e => by omega) (fun e => by have := l2.own i e; omega))
  clear l2
  go_wp2_with fail
  refine (bytes_lg _ _ _ _ _ l3 wlt2).mono ?_
  rintro e w4 ⟨v4, rfl, m4⟩
  obtain ⟨a4, c4, rfl, r4⟩ := m4.own.row HO.out (by rw [H86.out]; omega)
  have F4 := F3.seq' m4.fr
  have l4 := l3.same m4.fr
  rw [H86.out]
  have hle4 := r4.le
  rw [H86.out] at hle4
  have i1 : (85 : Int) ≤ (c4 : Int) := by omega
  have r85 := r4.take 85
  have H85 : Hid (((lfr [t1, t2]).take 85).length = 85) := by show _ = _; rw [List.length_take, H86.out]; rfl
  have hrd := read_any a4 85 c4 ((lfr [t1, t2]).take 85) H85.out.symm w4 r85
  rw [HR85.out] at hrd
  dsimp only at hrd
  clear m4 l3 r4 r85
  go_wp2_with fail
  refine hrd.mono ?_
  clear hrd
  rintro e w5 ⟨rfl, rv5, l5, wl5, f5, _⟩
  have F5 := F4.seq' f5
  have l45 := l4.same f5
  go_wp2_with fail
  refine (last_lg _ _ _ _ _ l5 wl5).mono ?_
  rw [HLE.out]
  rintro e w6 ⟨rfl, f6⟩
  have F6 := F5.seq' f6
  have l46 := l45.same f6
  have hmk := marks_lg _ _ _ _ _ l46 wlt2
  rw [HMK.out] at hmk
  go_wp2_with fail
  refine hmk.mono ?_
  clear hmk
  rintro e w7 ⟨a7, c7, rfl, mk7, f7⟩
  have F7 := F6.seq' f7
  have fb := Fr.box w7 (.cells #[.int .i64 1, .int .i64 1, .int .i64 3, .int .i64 2] 56)
  have mk8 : Mks (w7.alloc (.cells #[.int .i64 1, .int .i64 1, .int .i64 3, .int .i64 2] 56)) (some ⟨w7.heap.size, 0, none⟩) 2 [(1, 1), (3, 2)] := by
    refine ⟨Nat.le_refl _, by omega, .inr ⟨w7.heap.size, 0, rfl, by simp, fun i m hm => ?_⟩⟩
    refine range_block (heap_alloc_new w7 _) (fun j v hv => ?_)
    match i, hm with
    | 0, hm =>
      simp at hm; subst hm
      match j, hv with
      | 0, hv => simpa [mkC] using hv
      | 1, hv => simpa [mkC] using hv
    | 1, hm =>
      simp at hm; subst hm
      match j, hv with
      | 0, hv => simpa [mkC] using hv
      | 1, hv => simpa [mkC] using hv
  have hpl := plain_marks a7 (some ⟨w7.heap.size, 0, none⟩) 2 2 c7 2 [(1, 1), (3, 2)] rfl rfl _ (mk7.same fb) mk8
  go_wp2_with fail
  refine hpl.mono ?_
  rintro e w8 ⟨rfl, f8⟩
  go_wp2
  go_ret
  exact ⟨rfl, (F7.seq' fb).seq' f8⟩
end Go.Proofs.Ytcmkpmilnplhmaa
