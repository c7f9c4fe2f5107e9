
/- WlFrom, WlTorn. -/
import Derived.Test.YtcmkpmilnplhmaaWTI
import Derived.Deep.DeepCutAuto
import Derived.Test.YtcmkpmilnplhmaaWTH
/- What (*Log).From makes; (*Log).Flushed. -/
namespace Go.Proofs.Ytcmkpmilnplhmaa
open Go.RowKit Crcm

set_option maxRecDepth 100000 in
set_option maxHeartbeats 400000 in
theorem flushed_lg (lb : Nat) (rv : Value) (ls : List Rec) (fl : Int) (w : World) (h : Lg w lb rv ls fl) : Calls Try.prog 11 #[.pointer (some ⟨lb, 0, none⟩)] w fun e w' => e = .returned (.int .i64 fl) ∧ w' = w := by
  obtain ⟨h0, h1, f0, f1⟩ := cell_of_two h.box
  go_enter Try.func11, Try.ntmps11
  go_wp2
  go_ret
  exact ⟨rfl, rfl⟩
set_option maxRecDepth 100000 in
set_option maxHeartbeats 400000 in
theorem reaches_lg (n : Int) (lb : Nat) (rv : Value) (ls : List Rec) (fl : Int) (w : World) (h : Lg w lb rv ls fl) (hm : ls.length ≤ 65536) : Calls Try.prog 19 #[.pointer (some ⟨lb, 0, none⟩), .int .i64 n] w fun e w' => e = .returned (.bool (decide (0 ≤ n ∧ n ≤ ls.length))) ∧ w' = w := by
  have hnx := next_lg lb rv ls fl w h hm
  by_cases h0 : 0 ≤ n
  · go_enter Try.func19, Try.ntmps19
    go_wp2_with (go_at_call 13; refine hnx.mono ?_; rintro e w' ⟨rfl, rfl⟩)
    all_goals go_ret
    all_goals refine ⟨ret_bool ?_, rfl⟩
    all_goals (rw [Bool.eq_iff_iff]; simp; try omega)
  · have hf : decide (0 ≤ n ∧ n ≤ ls.length) = false := decide_eq_false (fun h => h0 h.1)
    rw [hf]
    go_enter Try.func19, Try.ntmps19
    go_wp2_with (go_at_call 13; refine hnx.mono ?_; rintro e w' ⟨rfl, rfl⟩)
    go_ret
    exact ⟨rfl, rfl⟩

/-- An empty slice that is new. -/
theorem has_emptyR (w : World) : Has (w.alloc (.cells #[] 28)) 8 (.slice (some ⟨w.heap.size, 0, none⟩) 0 0) 0 [] :=
  ⟨by simp, .inr ⟨w.heap.size, 0, rfl, by simp, Nat.le_refl _, by unfold maxLen; omega, (fun j hj => by simp at hj), (fun j v hv => by simp at hv)⟩⟩
set_option maxRecDepth 100000 in
set_option maxHeartbeats 1000000 in
theorem clone_any (x : Addr) (m c : Nat) (R : List Rec) (hm : m = R.length) (hs : m ≤ 65536) (w : World) (hx : From w (some x) (R.flatMap recC)) :
    Calls Try.prog 20 #[.slice (some x) m c] w fun e w' => ∃ a c', e = .returned (.slice a m c') ∧ Recs w' a c' R ∧ Fr (fun _ => False) w w' := by
  obtain ⟨iR, hiR, hR0, hR1, hR2⟩ := info_parts infoRec
  have hn := fun W => Lib.run_eql_slice_nil (P := Try.prog) W 22 28 (some x) m c 0 0 Try.underlying22
  have fb := Fr.box w (.cells #[] 28)
  have hnews : From (w.alloc (.cells #[] 28)) (some x) (R.flatMap recC) := by
    rcases hx with h | ⟨b, off, e, h⟩
    · exact .inl h
    · exact .inr ⟨b, off, e, range_fr h fb (fun f => f)⟩
  have hlen : (R.flatMap recC).length = m * 8 := by rw [flat_length recC_length, hm]
  have hone : ∀ u ∈ R.flatMap recC, u.oneCell' = true := fun u hu => by
    obtain ⟨r, _, h⟩ := List.mem_flatMap.1 hu
    exact recC_one r u h
  have HM : Hid (m = R.length) := hm
  clear hm
  go_enter Try.func20, Try.ntmps20
  go_wp2_with (at_builtin; refine wpList_append_has _ rfl (.tmp 5) (.tmp 6) 22 22 28 28 rfl iR _ 8 80 Try.underlying22 Try.underlying22 hiR hR0 hR1 hR2 rfl (by omega) (.slice (some ⟨w.heap.size, 0, none⟩) 0 0) 0 [] rfl (has_emptyR w) (some x) m c (R.flatMap recC) rfl hlen hnews hone (by unfold maxLen; omega) (by omega) ?_; intro a' c' w1 hown hfr hat)
  rw [Nat.zero_add, List.nil_append] at hown
  have hrec := Has.recs HM.out hown
  have F := fb.trans hfr (S := fun _ => False) (fun i hi e => by have := e.1; simp [Value.ownBlock] at this; omega)
  go_ret
  exact ⟨a', c', rfl, hrec, F⟩
/-- What From tells. -/
def frF (ls : List Rec) (n most : Int) : List Rec := if most < 1 then [] else (ls.drop (max n 1 - 1).toNat).take most.toNat
theorem recs_nil (w : World) (a : Option Addr) (c : Nat) (hc : c ≤ 9223372036854775807) : Recs w a c [] := ⟨by simp, hc, .inl rfl⟩

/-- A walk's part behind the number of those ahead. -/
theorem src_part {w : World} {g cr : Nat} {ls : List Rec} (h : Has w 8 (.slice (some ⟨g, 0, none⟩) ls.length cr) ls.length (ls.flatMap recC)) (ah m : Nat) : From w (some ⟨g, ah * 8, none⟩) (((ls.drop ah).take m).flatMap recC) := by
  refine .inr ⟨g, ah * 8, rfl, ?_⟩
  have hl : w.rangeAt g (ah * 8) ((ls.drop ah).flatMap recC) := by
    rw [← flat_drop recC_length]
    rcases h.2 with ⟨h2, _⟩ | ⟨g', cap', hv, hg, h1, h2, h3, h4⟩
    · cases h2
    · simp only [Value.slice.injEq, Option.some.injEq, Addr.mk.injEq, and_true, true_and] at hv
      obtain ⟨rfl, rfl⟩ := hv
      have := range_part (ys := (ls.flatMap recC).drop (ah * 8)) (ah * 8) h4 (fun j v hv => by rwa [List.getElem?_drop] at hv)
      rwa [Nat.zero_add] at this
  rw [← flat_take recC_length]
  intro j v hv
  rw [List.getElem?_take] at hv
  split at hv
  · exact hl j v hv
  · simp at hv
theorem clone_row (a : Option Addr) (m c : Nat) (w : World) (hm : m = 0) : Calls Try.prog 20 #[.slice a m c] w fun e w' => ∃ a' c', e = .returned (.slice a' 0 c') ∧ Recs w' a' c' [] ∧ Fr (fun _ => False) w w' := by
  subst hm
  cases a with
  | none =>
    have hn := fun W => Lib.run_eql_slice_nil (P := Try.prog) W 22 28 none 0 c 0 0 Try.underlying22
    go_enter Try.func20, Try.ntmps20
    go_wp2
    go_ret
    exact ⟨none, 0, rfl, recs_nil _ _ _ (by omega), Fr.refl _ _⟩
  | some x => exact clone_any x 0 c [] rfl (by omega) w (.inl rfl)

set_option maxRecDepth 100000 in
set_option maxHeartbeats 400000 in
theorem from_lg (n most : Int) (hb : -9223372036854775808 ≤ n ∧ n ≤ 9223372036854775807) (lb : Nat) (rv : Value) (ls : List Rec) (fl : Int) (w : World) (h : Lg w lb rv ls fl) (hm : ls.length ≤ 65536) :
    Calls Try.prog 10 #[.pointer (some ⟨lb, 0, none⟩), .int .i64 n, .int .i64 most] w fun e w' => ∃ a c, e = .returned (.slice a (frF ls n most).length c) ∧ Recs w' a c (frF ls n most) ∧ Fr (fun _ => False) w w' := by
  obtain ⟨ah, hah⟩ : ∃ ah : Nat, (ah : Int) = max n 1 - 1 := ⟨(max n 1 - 1).toNat, by omega⟩
  have HAH : Hid ((ah : Int) = max n 1 - 1) := hah
  have hdef : frF ls n most = if most < 1 then [] else (ls.drop ah).take most.toNat := by unfold frF; rw [← hah, Int.toNat_natCast]
  have HDEF : Hid (frF ls n most = if most < 1 then [] else (ls.drop ah).take most.toNat) := hdef
  have hre := reaches_lg (ah : Int) lb rv ls fl w h hm
  have hal := all_lg lb rv ls fl w h
  have HB : Hid (-9223372036854775808 ≤ n ∧ n ≤ 9223372036854775807) := hb
  have HH : Hid (Has w 8 rv ls.length (ls.flatMap recC)) := h.has
  obtain ⟨ar, cr, rfl, hlc, hcm⟩ := h.has.slice
  have hcm' : cr ≤ 9223372036854775807 := by unfold maxLen at hcm; exact hcm
  clear hdef hah hb h hcm
  go_enter Try.func10, Try.ntmps10
  go_upto_region 1 with fail
  go_cut [7] (fun t wc => t = .int .i64 (ah : Nat) ∧ w = wc)
  case first =>
    by_cases h1 : n ≤ 1
    · have e1 : max n 1 = 1 := by omega
      go_wp2
      all_goals go_meet
      all_goals exact ⟨val_int (by have := HAH.out; omega), rfl⟩
    · have e1 : max n 1 = n := by omega
      have e2 : IntKind.i64.wrap (n - 1) = n - 1 := by have := HB.out; simp [IntKind.wrap, IntKind.bits, IntKind.signed]; omega
      go_wp2
      all_goals go_meet
      all_goals exact ⟨val_int (by have := HAH.out; omega), rfl⟩
  case rest =>
  obtain ⟨rfl, rfl⟩ := hcut
  clear HAH HB
  by_cases h1 : most < 1
  · have HZ : Hid (frF ls n most = []) := by show _ = _; rw [HDEF.out, if_pos h1]
    go_wp2
    go_ret
    rw [HZ.out]
    exact ⟨none, 0, rfl, recs_nil _ _ _ (by omega), Fr.refl _ _⟩
  · by_cases h2 : ah ≤ ls.length
    · have hd : decide ((0 : Int) ≤ (ah : Int) ∧ (ah : Int) ≤ (ls.length : Int)) = true := decide_eq_true (by omega)
      rw [hd] at hre
      have i1 : (ah : Int) ≤ (ls.length : Int) := by omega
      have i2 : (ls.length : Int) ≤ (cr : Int) := by omega
      have i3 : (ah : Int) ≤ (cr : Int) := by omega
      by_cases hne : cr = ah
      · have e0 : ls.length - ah = 0 := by omega
        have e9 : cr - ah = 0 := by omega
        have HZ : Hid (frF ls n most = []) := by show _ = _; rw [HDEF.out, if_neg h1, List.drop_eq_nil_of_le (by omega), List.take_nil]
        have j2 : min most (0 : Int) = 0 := by omega
        have hcl := clone_row ar 0 0 w rfl
        clear HDEF
        go_wp2_with (first | (go_at_call 19; refine hre.mono ?_; rintro e w' ⟨rfl, rfl⟩) | (go_at_call 16; refine hal.mono ?_; rintro e w' ⟨rfl, rfl⟩))
        refine hcl.mono ?_
        clear hcl
        rintro e w2 ⟨a2, c2, rfl, hr2, f2⟩
        clear e0 e9 j2
        go_wp2
        go_ret
        rw [HZ.out]
        exact ⟨a2, c2, rfl, hr2, f2⟩
      · obtain ⟨g, rfl⟩ : ∃ g, ar = some ⟨g, 0, none⟩ := by
          rcases HH.out.2 with ⟨hv, h0⟩ | ⟨g, cap, hv, _⟩
          · simp only [Value.slice.injEq] at hv; omega
          · simp only [Value.slice.injEq, true_and] at hv; exact ⟨g, hv.1⟩
        by_cases h4 : most ≤ ((ls.length - ah : Nat) : Int)
        · obtain ⟨m, rfl⟩ := Int.eq_ofNat_of_zero_le (a := most) (by omega)
          have hR : frF ls n (m : Int) = (ls.drop ah).take m := by rw [HDEF.out, if_neg h1]; rfl
          have hml : m = ((ls.drop ah).take m).length := by rw [List.length_take, List.length_drop]; omega
          have hcl := fun c => clone_any ⟨g, ah * 8, none⟩ m c _ hml (by omega) w (src_part HH.out ah m)
          have HR : Hid (frF ls n (m : Int) = (ls.drop ah).take m) := hR
          have HML : Hid (m = ((ls.drop ah).take m).length) := hml
          have j2 : min (m : Int) ((ls.length - ah : Nat) : Int) = (m : Int) := by omega
          have j4 : (m : Int) ≤ ((cr - ah : Nat) : Int) := by omega
          clear hR hml HDEF
          go_wp2_with (first | (go_at_call 19; refine hre.mono ?_; rintro e w' ⟨rfl, rfl⟩) | (go_at_call 16; refine hal.mono ?_; rintro e w' ⟨rfl, rfl⟩))
          refine (hcl _).mono ?_
          rintro e w2 ⟨a2, c2, rfl, hr2, f2⟩
          go_wp2
          go_ret
          rw [HR.out]
          exact ⟨a2, c2, by rw [← HML.out]; rfl, hr2, f2⟩
        · have hR : frF ls n most = (ls.drop ah).take (ls.length - ah) := by
            rw [HDEF.out, if_neg h1, List.take_of_length_le (by rw [List.length_drop]; omega), List.take_of_length_le (by rw [List.length_drop]; omega)]
          have hml : ls.length - ah = ((ls.drop ah).take (ls.length - ah)).length := by rw [List.length_take, List.length_drop]; omega
          have HR : Hid (frF ls n most = (ls.drop ah).take (ls.length - ah)) := hR
          have HML : Hid (ls.length - ah = ((ls.drop ah).take (ls.length - ah)).length) := hml
          have HCL : Hid (∀ c, Calls Try.prog 20 #[.slice (some ⟨g, ah * 8, none⟩) (ls.length - ah) c] w fun e w' => ∃ a c', e = .returned (.slice a (ls.length - ah) c') ∧ Recs w' a c' ((ls.drop ah).take (ls.length - ah)) ∧ Fr (fun _ => False) w w') := fun c => clone_any ⟨g, ah * 8, none⟩ (ls.length - ah) c _ hml (by omega) w (src_part HH.out ah (ls.length - ah))
          have j2 : min most ((ls.length - ah : Nat) : Int) = ((ls.length - ah : Nat) : Int) := by omega
          have j4 : ((ls.length - ah : Nat) : Int) ≤ ((cr - ah : Nat) : Int) := by omega
          clear hR hml HDEF
          go_wp2_with (first | (go_at_call 19; refine hre.mono ?_; rintro e w' ⟨rfl, rfl⟩) | (go_at_call 16; refine hal.mono ?_; rintro e w' ⟨rfl, rfl⟩))
          refine (HCL.out _).mono ?_
          rintro e w2 ⟨a2, c2, rfl, hr2, f2⟩
          go_wp2
          go_ret
          rw [HR.out]
          exact ⟨a2, c2, by rw [← HML.out]; rfl, hr2, f2⟩
    · have hd : decide ((0 : Int) ≤ (ah : Int) ∧ (ah : Int) ≤ (ls.length : Int)) = false := decide_eq_false (by omega)
      rw [hd] at hre
      have HZ : Hid (frF ls n most = []) := by show _ = _; rw [HDEF.out, if_neg h1, List.drop_eq_nil_of_le (by omega), List.take_nil]
      go_wp2_with (first | (go_at_call 19; refine hre.mono ?_; rintro e w' ⟨rfl, rfl⟩) | (go_at_call 16; refine hal.mono ?_; rintro e w' ⟨rfl, rfl⟩))
      go_ret
      rw [HZ.out]
      exact ⟨none, 0, rfl, recs_nil _ _ _ (by omega), Fr.refl _ _⟩
end Go.Proofs.Ytcmkpmilnplhmaa

/- What is whole of a torn log, by plain lists. -/
namespace Go.Proofs.Ytcmkpmilnplhmaa
open Go.RowKit Crcm

/-- Where each record's frame ends. -/
def ends (ls : List Rec) : List Int := (List.range ls.length).map (fun i => ((lfr (ls.take (i + 1))).length : Int))
theorem ends_length (ls : List Rec) : (ends ls).length = ls.length := by unfold ends; simp
theorem ends_snoc (ls : List Rec) (x : Rec) : ends (ls ++ [x]) = ends ls ++ [((lfr (ls ++ [x])).length : Int)] := by
  unfold ends
  rw [List.length_append, List.length_singleton, List.range_succ, List.map_append]
  congr 1
  · refine List.map_congr_left (fun i hi => ?_)
    have : i < ls.length := List.mem_range.1 hi
    rw [List.take_append_of_le_length (by omega)]
  · simp only [List.map_cons, List.map_nil]
    rw [List.take_of_length_le (by simp)]
theorem ends_get (ls : List Rec) (i : Nat) (h : i < ls.length) : (ends ls)[i]? = some ((lfr (ls.take (i + 1))).length : Int) := by
  unfold ends; simp [h]
/-- Numbers as cells. -/
def numC (x : Int) : List Value := [.int .i64 x]
theorem numC_length (x : Int) : (numC x).length = 1 := rfl
theorem infoNum : (Try.prog.info? 3).map (fun i => (i.zero, i.size, i.bytes)) = some (some (.int .i64 0), 1, 8) := by kernel_rfl
theorem frF_all (l : List Rec) (h : l.length ≤ 100000) : frF l 1 100000 = l := by
  unfold frF
  rw [if_neg (by decide)]
  have : (max (1 : Int) 1 - 1).toNat = 0 := by decide
  rw [this, List.drop_zero]
  exact List.take_of_length_le h
theorem frF_first (l : List Rec) (k : Nat) : frF l 1 (k : Int) = l.take k := by
  unfold frF
  have h0 : (max (1 : Int) 1 - 1).toNat = 0 := by decide
  by_cases h : (k : Int) < 1
  · rw [if_pos h]
    have : k = 0 := by omega
    rw [this]; rfl
  · rw [if_neg h, h0, List.drop_zero, Int.toNat_natCast]
end Go.Proofs.Ytcmkpmilnplhmaa
