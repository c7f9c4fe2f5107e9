
/- The history of records, on both sides. -/
import Derived.Test.YtdlnflcjodpkiaaGreatFdDel2
namespace Go.Proofs.YtdlnflcjodpkiaaGreat
open Go.RowKit

set_option maxRecDepth 100000 in
set_option maxHeartbeats 4000000 in
theorem history_any (a : Option Addr) (n c : Nat) (ls : List Rec) (hn : n = ls.length) (hf : n ≤ 1000000) (w : World) (h : Recs w a c ls) :
    Calls Tryz.prog 17 #[.slice a n c] w fun e w' => RcOut w (hist ls) e w' := by
  have hcl := cloneR a n c ls w h hn (by omega)
  have HN : Hid (n = ls.length) := hn
  clear hn h
  go_enter Tryz.func17, Tryz.ntmps17
  go_wp2_with fail
  refine hcl.mono ?_
  rintro e w1 ⟨a1, c1, rfl, h1, f1, ho⟩
  have hdl := delNo_any a1 ls.length c1 ls rfl (by have := HN.out; omega) w1 h1
  have HO : Hid (∀ k, (Value.slice a1 ls.length c1).ownBlock = some k → w.heap.size ≤ k) := ho
  clear hcl ho
  dsimp only
  go_wp2_with fail
  refine hdl.mono ?_
  rintro e w2 ⟨m, hm, rfl, h2, f2⟩
  have HFIN : Hid (RcOut w (hist ls) (.returned (.slice a1 m c1)) w2) := by
    subst hm
    refine ⟨a1, c1, rfl, h2.recs rfl, fun k hk => HO.out k ?_, f1.trans f2 (fun i hi e => by have := HO.out i e; omega)⟩
    cases a1 with
    | none => cases hk
    | some x => exact hk
  clear hdl h1 h2 f2 hm
  go_wp2
  go_ret
  exact HFIN.out

set_option maxRecDepth 100000 in
set_option maxHeartbeats 4000000 in
theorem rhistory_any (a : Option Addr) (n c : Nat) (ls : List Rec) (hn : n = ls.length) (hf : n ≤ 1000000) (w : World) (h : Recs w a c ls) :
    Calls Tryz.prog 18 #[.slice a n c] w fun e w' => RcOut w (hist ls) e w' := by
  obtain ⟨iR, hiR, hR0, hR1, hR2⟩ := info_parts infoRec
  have hle : n ≤ c := by rw [hn]; exact h.le
  have hmx := h.max
  have HS : Hid (∀ W, Fr (fun _ => False) w W → Recs W a c ls) := fun W f => h.same f
  have HN : Hid (n = ls.length) := hn
  clear h hn
  go_enter Tryz.func18, Tryz.ntmps18
  go_wp2
  go_loopw [8, 3] (fun i o wr => ∃ (k m : Nat) (a' : Option Addr) (c' : Nat), k ≤ n ∧ i = .int .i64 k ∧ o = .slice a' m c' ∧ Hid (m = (hist (ls.take k)).length) ∧ Hid (Has wr 8 (.slice a' m c') m ((hist (ls.take k)).flatMap recC)) ∧ Hid (∀ g, (Value.slice a' m c').ownBlock = some g → w.heap.size ≤ g) ∧ Fr (fun _ => False) w wr) (fun i _ _ => n - (intOf i).toNat)
  case atStart => exact ⟨0, 0, none, 0, by omega, rfl, rfl, rfl, Has.nil _ _, (fun g e => by cases e), Fr.refl _ _⟩
  case round =>
    obtain ⟨k, m, a', c', hk, rfl, rfl, HM, HH, HO, F⟩ := hrel
    by_cases hlt : k < n
    · obtain ⟨r, hr⟩ : ∃ r, ls[k]? = some r := ⟨_, List.getElem?_eq_getElem (by have := HN.out; omega)⟩
      obtain ⟨bb, off, rfl, hbb, hcc⟩ := (HS.out _ F).some (by have := HN.out; omega)
      have HY : Hid (comB r = true → hist (ls.take (k + 1)) = hist (ls.take k) ++ [r]) := hist_yes hr
      have HNO : Hid (comB r = false → hist (ls.take (k + 1)) = hist (ls.take k)) := hist_no hr
      have hml : m ≤ 1000000 := by have := HM.out; have := hist_len (ls.take k); have : (ls.take k).length ≤ k := List.length_take_le _ _; omega
      have hqq := rec_range (hcc k r hr)
      obtain ⟨lsn, ep, kind, page, other, req, key, val⟩ := r
      dsimp only at hqq
      obtain ⟨q0, q1, q2, q3, q4, q5, q6, q7⟩ := hqq
      have hki : (k : Int) < (n : Int) := by omega
      have HB : Hid (∀ W, Fr (fun _ => False) (wr.alloc (.cells #[.int .i64 lsn, .int .i64 ep, .int .i64 kind, .int .i64 page, .int .i64 other, .int .i64 req, .string key, .string val] 53)) W → W.heap[wr.heap.size]? = some (.cells #[.int .i64 lsn, .int .i64 ep, .int .i64 kind, .int .i64 page, .int .i64 other, .int .i64 req, .string key, .string val] 53 (0, 0))) := fun W f => rec_at wr _ _ f
      clear hr hcc
      by_cases h7 : kind = 7
      · subst h7
        have hck := right7 lsn ep page other req key val
        cases hcb : comB ⟨lsn, ep, 7, page, other, req, key, val⟩ with
        | true =>
          rw [hcb] at hck
          have HTK := HY.out hcb
          clear HY HNO
          go_wp2_with fail
          refine (hck _).mono ?_
          rintro e w3 ⟨rfl, f3⟩
          have F3 := (Fr.box wr (.cells #[.int .i64 lsn, .int .i64 ep, .int .i64 7, .int .i64 page, .int .i64 other, .int .i64 req, .string key, .string val] 53)).seq' f3
          obtain ⟨⟨p0, p1, p2, p3, p4, p5, p6, p7⟩, qz⟩ := rec_cells (HB.out w3 f3)
          have P6 := Fr.box w3 (.cells #[.int .i64 lsn, .int .i64 ep, .int .i64 7, .int .i64 page, .int .i64 other, .int .i64 req, .string key, .string val] 53)
          have HRW : Hid (Has (w3.alloc (.cells #[.int .i64 lsn, .int .i64 ep, .int .i64 7, .int .i64 page, .int .i64 other, .int .i64 req, .string key, .string val] 53)) 8 (.slice a' m c') m ((hist (ls.take k)).flatMap recC)) := HH.out.fr (F3.seq' P6) (fun _ _ f => f)
          have FF : Fr (fun _ => False) w (w3.alloc (.cells #[.int .i64 lsn, .int .i64 ep, .int .i64 7, .int .i64 page, .int .i64 other, .int .i64 req, .string key, .string val] 53)) := F.seq' (F3.seq' P6)
          have HNE : Hid (From (w3.alloc (.cells #[.int .i64 lsn, .int .i64 ep, .int .i64 7, .int .i64 page, .int .i64 other, .int .i64 req, .string key, .string val] 53)) (some ⟨w3.heap.size, 0, none⟩) (recC ⟨lsn, ep, 7, page, other, req, key, val⟩)) := .inr ⟨_, _, rfl, range_block (heap_alloc_new w3 _) (xs := recC ⟨lsn, ep, 7, page, other, req, key, val⟩) (o := 0) (fun j v hv => by rw [Nat.zero_add]; simpa [recC] using hv)⟩
          clear hck P6 F3 qz f3
          go_wp2_with (at_builtin; refine wpList_append_has _ rfl (.tmp 19) (.tmp 21) 22 22 53 53 rfl iR _ 8 80 Tryz.underlying22 Tryz.underlying22 hiR hR0 hR1 hR2 rfl (by omega) (.slice a' m c') m ((hist (ls.take k)).flatMap recC) rfl HRW.out (some ⟨w3.heap.size, 0, none⟩) 1 1 (recC ⟨lsn, ep, 7, page, other, req, key, val⟩) rfl rfl HNE.out (recC_one _) (by unfold maxLen; omega) (by omega) ?_; intro a4 c4 w8 ht4 f34 hat4)
          have HT5 : Hid (Has w8 8 (.slice a4 (m + 1) c4) (m + 1) ((hist (ls.take (k + 1))).flatMap recC)) := by
            show Has _ _ _ _ _
            rw [HTK, List.flatMap_append]
            simpa using ht4
          have HM5 : Hid (m + 1 = (hist (ls.take (k + 1))).length) := by show _ = _; rw [HTK]; have := HM.out; simp; omega
          have HO5 : Hid (∀ g, (Value.slice a4 (m + 1) c4).ownBlock = some g → w.heap.size ≤ g) := fun g e => by
            have hz := FF.size
            simp at hz
            rcases hat4 with h1 | h1
            · rw [h1] at e; exact HO.out g e
            · rw [h1] at e; simp at e; omega
          have F5 : Fr (fun _ => False) w w8 := FF.trans f34 (fun i hi e => by have := HO.out i e.1; omega)
          clear ht4 hat4 f34 FF q0 q1 q2 q3 q4 q5 q6 q7 p0 p1 p2 p3 p4 p5 p6 p7 HRW HNE HTK
          go_wp2
          go_roundw
          case rel => exact ⟨k + 1, m + 1, a4, c4, by omega, by go_num, rfl, HM5, HT5, HO5, F5⟩
          case measure => simp [intOf]; omega
        | false =>
          rw [hcb] at hck
          have HTK := HNO.out hcb
          clear HY HNO
          have HT5 : Hid (∀ W, Fr (fun _ => False) wr W → Has W 8 (.slice a' m c') m ((hist (ls.take (k + 1))).flatMap recC)) := fun W f => by rw [HTK]; exact HH.out.fr f (fun _ _ f => f)
          have HM5 : Hid (m = (hist (ls.take (k + 1))).length) := by show _ = _; rw [HTK]; exact HM.out
          clear HTK
          go_wp2_with fail
          refine (hck _).mono ?_
          rintro e w3 ⟨rfl, f3⟩
          have F3 := (Fr.box wr (.cells #[.int .i64 lsn, .int .i64 ep, .int .i64 7, .int .i64 page, .int .i64 other, .int .i64 req, .string key, .string val] 53)).seq' f3
          clear hck f3
          go_wp2
          go_roundw
          case rel => exact ⟨k + 1, m, a', c', by omega, by go_num, rfl, HM5, HT5.out _ F3, HO, F.seq' F3⟩
          case measure => simp [intOf]; omega
      · have h7' : (kind == 7) = false := by simpa using h7
        have HTK := HNO.out (comB_kind h7)
        have HT5 : Hid (∀ W, Fr (fun _ => False) wr W → Has W 8 (.slice a' m c') m ((hist (ls.take (k + 1))).flatMap recC)) := fun W f => by rw [HTK]; exact HH.out.fr f (fun _ _ f => f)
        have HM5 : Hid (m = (hist (ls.take (k + 1))).length) := by show _ = _; rw [HTK]; exact HM.out
        clear HTK HY HNO h7
        go_wp2
        go_roundw
        case rel => exact ⟨k + 1, m, a', c', by omega, by go_num, rfl, HM5, HT5.out _ (Fr.box wr _), HO, F.seq' (Fr.box wr _)⟩
        case measure => simp [intOf]; omega
    · obtain rfl : k = n := by omega
      have HFIN : Hid (RcOut w (hist ls) (.returned (.slice a' m c')) wr) := by
        have hk := HN.out
        subst hk
        have hh := HH.out
        have hm := HM.out
        have ho := HO.out
        rw [List.take_of_length_le (by omega)] at hh hm
        subst hm
        obtain ⟨a2, c2, e, hr⟩ := Recs.of hh
        simp only [Value.slice.injEq, true_and] at e
        obtain ⟨rfl, rfl⟩ := e
        exact ⟨_, _, rfl, hr, ho, F⟩
      go_wp2
      go_ret
      exact HFIN.out
end Go.Proofs.YtdlnflcjodpkiaaGreat
