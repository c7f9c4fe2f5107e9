
/- The document's Cut. -/
import Derived.Test.YtphfngboddnbmaaLnCut
namespace Go.Proofs.Ytphfngboddnbmaa
open Go.RowKit
open Go.Proofs.Ytphfngboddnbmaa.Ln

theorem filter_next {ms : List Mk} {k : Nat} {m : Mk} (h : ms[k]? = some m) (x : Int) : (ms.take (k + 1)).filter (fun m => decide (m.2 ≤ x)) = if m.2 ≤ x then (ms.take k).filter (fun m => decide (m.2 ≤ x)) ++ [m] else (ms.take k).filter (fun m => decide (m.2 ≤ x)) := by
  rw [take_next h, List.filter_append]
  by_cases hx : m.2 ≤ x
  · rw [if_pos hx, List.filter_cons_of_pos (by simpa using hx)]; rfl
  · rw [if_neg hx, List.filter_cons_of_neg (by simpa using hx)]; simp
/-- A timeline that is being laid: its struct at X, its marks in memory of its own, all of it from block B on. -/
structure Lay (B : Nat) (wr : World) (X : Nat) (t : TypeId) (a : Option Addr) (c : Nat) (tk : List Mk) (last : Int) : Prop where
  has : Has wr 2 (.slice a tk.length c) tk.length (tk.flatMap mkC)
  box : Two wr X t (.slice a tk.length c) (.int .i64 last)
  own : ∀ k, (Value.slice a tk.length c).ownBlock = some k → k ≠ X ∧ B ≤ k
  old : B ≤ X
theorem Lay.same {B : Nat} {wr wr' : World} {X : Nat} {t : TypeId} {a : Option Addr} {c : Nat} {tk : List Mk} {last : Int} (h : Lay B wr X t a c tk last) (f : Fr (fun _ => False) wr wr') : Lay B wr' X t a c tk last :=
  ⟨h.has.fr f (fun _ _ f => f), h.box.fr f (fun f => f), h.own, h.old⟩
/-- Marks that are appended, and the struct that gets the new slice. -/
theorem Lay.app {B : Nat} {wr wr' : World} {X : Nat} {t : TypeId} {a a' : Option Addr} {c c' : Nat} {tk ns : List Mk} {last : Int} (h : Lay B wr X t a c tk last)
    (hown : Has wr' 2 (.slice a' (tk.length + ns.length) c') (tk.length + ns.length) (tk.flatMap mkC ++ ns.flatMap mkC)) (hfr : Fr (fun k => (Value.slice a tk.length c).ownBlock = some k ∧ 0 < ns.length) wr wr')
    (hat : (Value.slice a' (tk.length + ns.length) c').ownBlock = (Value.slice a tk.length c).ownBlock ∨ (Value.slice a' (tk.length + ns.length) c').ownBlock = some wr.heap.size) :
    Lay B (wr'.setCell ⟨X, 0, none⟩ (.slice a' (tk.length + ns.length) c')) X t a' c' (tk ++ ns) last ∧ Fr (fun k => B ≤ k) wr (wr'.setCell ⟨X, 0, none⟩ (.slice a' (tk.length + ns.length) c')) := by
  have hl : (tk ++ ns).length = tk.length + ns.length := by simp
  have hb := h.box.fr hfr (fun e => (h.own X e.1).1 rfl)
  have f2 : Fr (fun k => k = X) wr' (wr'.setCell ⟨X, 0, none⟩ (.slice a' (tk.length + ns.length) c')) := (Fr.refl (fun i => i = X) wr').setCell (p := ⟨X, 0, none⟩) (fun _ => rfl) _
  have hX := h.box.lt
  have ho := h.old
  have own : ∀ k, (Value.slice a' (tk.length + ns.length) c').ownBlock = some k → k ≠ X ∧ B ≤ k := fun k hk => by
    rcases hat with e | e
    · exact h.own k (by rw [← e]; exact hk)
    · rw [hk] at e; cases e; omega
  refine ⟨⟨?_, ?_, ?_, h.old⟩, ?_⟩
  · rw [hl, List.flatMap_append]
    exact hown.fr f2 (fun k hk e => (own k hk).1 e)
  · rw [hl]; exact hb.set0 _
  · rw [hl]; exact own
  · exact (hfr.mono (fun k _ hk => (h.own k hk.1).2)).trans (f2.mono (fun k _ hk => by omega)) (fun _ _ e => e)
theorem Lay.put {B : Nat} {wr wr' : World} {X : Nat} {t : TypeId} {a a' : Option Addr} {c c' : Nat} {tk : List Mk} {m : Mk} {last : Int} (h : Lay B wr X t a c tk last)
    (hown : Has wr' 2 (.slice a' (tk.length + 1) c') (tk.length + 1) (tk.flatMap mkC ++ mkC m)) (hfr : Fr (fun k => (Value.slice a tk.length c).ownBlock = some k ∧ 0 < 1) wr wr')
    (hat : (Value.slice a' (tk.length + 1) c').ownBlock = (Value.slice a tk.length c).ownBlock ∨ (Value.slice a' (tk.length + 1) c').ownBlock = some wr.heap.size) :
    Lay B (wr'.setCell ⟨X, 0, none⟩ (.slice a' (tk.length + 1) c')) X t a' c' (tk ++ [m]) last ∧ Fr (fun k => B ≤ k) wr (wr'.setCell ⟨X, 0, none⟩ (.slice a' (tk.length + 1) c')) :=
  h.app (ns := [m]) (by rw [List.flatMap_singleton]; exact hown) hfr hat
theorem lay_new (w1 : World) (t : TypeId) (last : Int) : Lay w1.heap.size (w1.alloc (.cells #[.slice none 0 0, .int .i64 last] t)) w1.heap.size t none 0 [] last :=
  ⟨Has.nil _ _, Two.new _ _ _ _, (fun k hk => by cases hk), Nat.le_refl _⟩
theorem from_mark (W : World) (m : Mk) (t : TypeId) : From (W.alloc (.cells #[.int .i64 m.1, .int .i64 m.2] t)) (some ⟨W.heap.size, 0, none⟩) (mkC m) :=
  .inr ⟨_, _, rfl, range_block (heap_alloc_new W _) (fun j v hv => by
    match j, hv with
    | 0, hv => simpa [mkC] using hv
    | 1, hv => simpa [mkC] using hv)⟩
set_option maxRecDepth 100000 in
set_option maxHeartbeats 4000000 in
theorem rcut_any (a : Option Addr) (n c : Nat) (ms : List Mk) (last x : Int) (hn : n = ms.length) (w : World) (h : Mks w a c ms) : Calls Try.prog 18 #[.agg #[.slice a n c, .int .i64 last], .int .i64 x] w fun e w' => LnOut w (cutM ms last x) (cutL ms last x) (rcE ms last x) e w' := by
  subst hn
  obtain ⟨i0, hi, hz0, hz1, hz2⟩ := info_parts infoMark
  obtain ⟨T1, T2, F1⟩ := two_boxes w 30 (.slice a ms.length c) (.int .i64 last) (.slice none 0 0) (.int .i64 0)
  have hrr := rright_any a ms.length c ms last rfl _ (h.same F1)
  obtain ⟨x0, x1, _⟩ := T1.cells
  cases cl : linB ms last
  · rw [cl] at hrr
    rw [(rcE_no cl).1, (cut_no cl).1, (cut_no cl).2]
    clear cl h x0 x1
    obtain ⟨x0, x1, _⟩ := T1.cells
    go_enter Try.func18, Try.ntmps18
    go_wp2_with fail
    refine hrr.mono ?_
    rintro e w1 ⟨rfl, f1⟩
    obtain ⟨t1, f2⟩ := (T2.fr f1 (fun f => f)).fin (.slice none 0 0) (.int .i64 0)
    obtain ⟨z0, z1, z2, z3⟩ := (T2.fr f1 (fun f => f)).cells
    obtain ⟨s0, s1, _⟩ := t1.cells
    go_wp2
    refine bodyPost_ret (v := .tuple #[.agg #[.slice none 0 0, .int .i64 0], .int .i64 4]) (by simp [results, Try.results18, go_sem, s0, s1]) rfl ?_
    exact ⟨none, 0, rfl, Mks.nil _ _, (F1.seq' f1).trans f2 (fun i hi e => by omega)⟩
  · rw [cl] at hrr
    by_cases hx : 0 ≤ x ∧ x ≤ last
    · have d0 : decide (x < 0) = false := decide_eq_false (by omega)
      have d1 : decide (last < x) = false := decide_eq_false (by omega)
      have hll := right_len (linB_right cl)
      have hcx := h.max
      rw [(rcE_in cl hx).1, (cut_in cl hx).1, (cut_in cl hx).2]
      have HM : Hid (∀ W, Fr (fun _ => False) w W → Mks W a c ms) := fun W f => h.same f
      have HT1 : Hid (∀ W, Fr (fun _ => False) ((w.alloc (.cells #[.slice a ms.length c, .int .i64 last] 30)).alloc (.cells #[.slice none 0 0, .int .i64 0] 30)) W → Two W w.heap.size 30 (.slice a ms.length c) (.int .i64 last)) := fun W f => T1.fr f (fun f => f)
      have HT2 : Hid (∀ W, Fr (fun _ => False) ((w.alloc (.cells #[.slice a ms.length c, .int .i64 last] 30)).alloc (.cells #[.slice none 0 0, .int .i64 0] 30)) W → Two W (w.heap.size + 1) 30 (.slice none 0 0) (.int .i64 0)) := fun W f => T2.fr f (fun f => f)
      clear cl h hx
      go_enter Try.func18, Try.ntmps18
      go_wp2_with fail
      generalize ((w.alloc (.cells #[.slice a ms.length c, .int .i64 last] 30)).alloc (.cells #[.slice none 0 0, .int .i64 0] 30)) = V at *
      refine hrr.mono ?_
      rintro e w1 ⟨rfl, f1⟩
      clear hrr x0 x1 T1 T2
      obtain ⟨x0, x1, _⟩ := (HT1.out _ f1).cells
      have hz2' := (HT2.out _ f1).lt
      have HZ1 : Hid (w.heap.size + 1 < w1.heap.size) := hz2'
      obtain ⟨W2, hW2⟩ : ∃ W, W = w1.alloc (.cells #[.slice none 0 0, .int .i64 x] 30) := ⟨_, rfl⟩
      have HL0 : Hid (Lay w1.heap.size W2 w1.heap.size 30 none 0 [] x) := by rw [hW2]; exact lay_new w1 _ x
      have HF0 : Hid (Fr (fun _ => False) w1 W2) := by rw [hW2]; exact Fr.box _ _
      have HW2 : Hid (W2 = w1.alloc (.cells #[.slice none 0 0, .int .i64 x] 30)) := hW2
      obtain ⟨u0, u1, _⟩ := ((HT1.out _ f1).fr HF0.out (fun f => f)).cells
      rw [hW2] at u0 u1
      have HF1 : Hid (Fr (fun _ => False) V w1) := f1
      clear hW2 hz2' f1
      go_wp2
      rw [← HW2.out]
      go_loopw [27] (fun i wr => ∃ (k : Nat) (tk : List Mk) (at_ : Option Addr) (ct : Nat), k ≤ ms.length ∧ i = .int .i64 k ∧ Hid (tk = (ms.take k).filter (fun m => decide (m.2 ≤ x))) ∧ Hid (Lay w1.heap.size wr w1.heap.size 30 at_ ct tk x) ∧ Hid (Fr (fun _ => False) w1 wr)) (fun i _ => ms.length - (intOf i).toNat)
      case atStart => exact ⟨0, [], none, 0, by omega, rfl, rfl, HL0, HF0⟩
      case round =>
        obtain ⟨k, tk, at_, ct, hk, rfl, HK, HL, HF⟩ := hrel
        by_cases hlt : k < ms.length
        · obtain ⟨m, hm⟩ : ∃ m, ms[k]? = some m := ⟨_, List.getElem?_eq_getElem hlt⟩
          have HN : Hid ((ms.take (k + 1)).filter (fun m => decide (m.2 ≤ x)) = if m.2 ≤ x then tk ++ [m] else tk) := by show _ = _; rw [filter_next hm, ← HK.out]
          have htl : tk.length ≤ k := by rw [HK.out]; exact Nat.le_trans (List.length_filter_le _ _) (by rw [List.length_take]; omega)
          obtain ⟨b, off, rfl, hb, hc⟩ := (HM.out _ ((F1.seq' HF1.out).seq' HF.out)).some (by omega)
          obtain ⟨q0, q1⟩ := mk_range (hc k m hm)
          have hki : (k : Int) < (ms.length : Int) := by omega
          obtain ⟨m1, m2⟩ := m
          dsimp only at *
          clear hm hc HK
          have fb : Fr (fun _ => False) wr (wr.alloc (.cells #[.int .i64 m1, .int .i64 m2] 53)) := Fr.box _ _
          obtain ⟨z0, z1, _⟩ := (Two.new wr 53 (.int .i64 m1) (.int .i64 m2)).cells
          by_cases hg : m2 ≤ x
          · have HN2 : Hid (tk ++ [(m1, m2)] = (ms.take (k + 1)).filter (fun m => decide (m.2 ≤ x))) := by show _ = _; rw [HN.out, if_pos hg]
            obtain ⟨v0, v1, v2, v3⟩ := (HL.out.same fb).box.cells
            have fc : Fr (fun _ => False) wr ((wr.alloc (.cells #[.int .i64 m1, .int .i64 m2] 53)).alloc (.cells #[.int .i64 m1, .int .i64 m2] 53)) := fb.seq' (Fr.box _ _)
            have HL2 : Hid (Lay w1.heap.size ((wr.alloc (.cells #[.int .i64 m1, .int .i64 m2] 53)).alloc (.cells #[.int .i64 m1, .int .i64 m2] 53)) w1.heap.size 30 at_ ct tk x) := HL.out.same fc
            have hnews := from_mark (wr.alloc (.cells #[.int .i64 m1, .int .i64 m2] 53)) (m1, m2) 53
            rw [World.size_alloc] at hnews
            have HFC : Hid (Fr (fun _ => False) w1 ((wr.alloc (.cells #[.int .i64 m1, .int .i64 m2] 53)).alloc (.cells #[.int .i64 m1, .int .i64 m2] 53))) := HF.out.seq' fc
            clear HN HL fb fc
            go_wp2_with (at_builtin; refine Hid.out (?_ : Hid _))
            unfold Hid
            refine wpList_append_has _ rfl _ _ 22 22 53 53 rfl i0 _ 2 16 Try.underlying22 Try.underlying22 hi hz0 hz1 hz2 rfl (by omega) (.slice at_ tk.length ct) tk.length (tk.flatMap mkC) rfl HL2.out.has (some ⟨wr.heap.size + 1, 0, none⟩) 1 1 (mkC (m1, m2)) rfl rfl hnews (mkC_one _) (by unfold maxLen; omega) (by omega) ?_
            intro am cm w3 hown hfr hat
            obtain ⟨LP, FP⟩ := HL2.out.put (m := (m1, m2)) hown hfr hat
            have HLP : Hid _ := LP
            have HFP : Hid _ := FP
            obtain ⟨_, _, hsf, _⟩ := (HL2.out.box.fr hfr (fun e => (HL2.out.own _ e.1).1 rfl)).cells
            clear LP FP hown hfr hat
            go_wp2
            go_roundw
            case rel => exact ⟨k + 1, tk ++ [(m1, m2)], am, cm, by omega, by go_num, HN2, HLP, HFC.out.trans HFP.out (fun i hi e => by omega)⟩
            case measure => simp [intOf]; omega
          · have HN2 : Hid (tk = (ms.take (k + 1)).filter (fun m => decide (m.2 ≤ x))) := by show _ = _; rw [HN.out, if_neg hg]
            have hgd : decide (m2 ≤ x) = false := decide_eq_false hg
            have HLP : Hid (Lay w1.heap.size (wr.alloc (.cells #[.int .i64 m1, .int .i64 m2] 53)) w1.heap.size 30 at_ ct tk x) := HL.out.same fb
            have HFP : Hid (Fr (fun _ => False) w1 (wr.alloc (.cells #[.int .i64 m1, .int .i64 m2] 53))) := HF.out.seq' fb
            clear HN HL fb
            go_wp2
            go_roundw
            case rel => exact ⟨k + 1, tk, at_, ct, by omega, by go_num, HN2, HLP, HFP⟩
            case measure => simp [intOf]; omega
        · have HK2 : Hid (tk = ms.filter (fun m => decide (m.2 ≤ x))) := by show _ = _; rw [HK.out, List.take_of_length_le (by omega)]
          obtain ⟨v0, v1, _⟩ := HL.out.box.cells
          have T3 := (HT2.out _ HF1.out).fr HF.out (fun f => f)
          obtain ⟨z0, z1, z2, z3⟩ := T3.cells
          obtain ⟨t1, f4⟩ := T3.fin (.slice at_ tk.length ct) (.int .i64 x)
          obtain ⟨s0, s1, _⟩ := t1.cells
          have HFE : Hid (Fr (fun _ => False) w ((wr.setCell ⟨w.heap.size + 1, 0, none⟩ (.slice at_ tk.length ct)).setCell ⟨w.heap.size + 1, 1, none⟩ (.int .i64 x))) := ((F1.seq' HF1.out).seq' HF.out).trans f4 (fun i hi e => by omega)
          have HME : Hid (Mks ((wr.setCell ⟨w.heap.size + 1, 0, none⟩ (.slice at_ tk.length ct)).setCell ⟨w.heap.size + 1, 1, none⟩ (.int .i64 x)) at_ ct tk) := (HL.out.has.fr f4 (fun k hk e => by have := (HL.out.own k hk).2; have := HZ1.out; omega)).mks rfl
          clear HK t1 f4 T3
          go_wp2
          refine bodyPost_ret (v := .tuple #[.agg #[.slice at_ tk.length ct, .int .i64 x], .int .i64 0]) (by simp [results, Try.results18, go_sem, s0, s1]) rfl ?_
          rw [← HK2.out]
          exact ⟨at_, ct, rfl, HME.out, HFE.out⟩
    · have hd : decide (x < 0) = true ∨ (decide (x < 0) = false ∧ decide (last < x) = true) := by
        by_cases h0 : x < 0
        · exact .inl (decide_eq_true h0)
        · exact .inr ⟨decide_eq_false h0, decide_eq_true (by omega)⟩
      rw [(rcE_out cl hx).1, (cut_out cl hx).1, (cut_out cl hx).2]
      clear cl h hx
      rcases hd with d0 | ⟨d0, d1⟩
      all_goals
        go_enter Try.func18, Try.ntmps18
        go_wp2_with fail
        refine hrr.mono ?_
        rintro e w1 ⟨rfl, f1⟩
        obtain ⟨u0, u1, _⟩ := (T1.fr f1 (fun f => f)).cells
        obtain ⟨t1, f2⟩ := (T2.fr f1 (fun f => f)).fin (.slice none 0 0) (.int .i64 0)
        obtain ⟨z0, z1, z2, z3⟩ := (T2.fr f1 (fun f => f)).cells
        obtain ⟨s0, s1, _⟩ := t1.cells
        go_wp2
        refine bodyPost_ret (v := .tuple #[.agg #[.slice none 0 0, .int .i64 0], .int .i64 6]) (by simp [results, Try.results18, go_sem, s0, s1]) rfl ?_
        exact ⟨none, 0, rfl, Mks.nil _ _, (F1.seq' f1).trans f2 (fun i hi e => by omega)⟩
end Go.Proofs.Ytphfngboddnbmaa
