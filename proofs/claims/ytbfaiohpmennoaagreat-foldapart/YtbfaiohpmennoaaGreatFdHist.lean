
/- The history of records, on both sides. -/
import Derived.Test.YtbfaiohpmennoaaGreatFdPure
namespace Go.Proofs.YtbfaiohpmennoaaGreat
open Go.RowKit

theorem infoRec : (Tryz.prog.info? 53).map (fun i => (i.zero, i.size, i.bytes)) = some (some (.agg #[.int .i64 0, .int .i64 0, .int .i64 0, .int .i64 0, .int .i64 0, .int .i64 0, .string ⟨#[]⟩, .string ⟨#[]⟩]), 8, 80) := by kernel_rfl
theorem take_snocH {α : Type} {l : List α} {k : Nat} {r : α} (h : l[k]? = some r) : l.take (k + 1) = l.take k ++ [r] := by
  rw [List.take_add_one, h]; rfl
theorem hist_yes {ls : List Rec} {k : Nat} {r : Rec} (h : ls[k]? = some r) (hc : comB r = true) : hist (ls.take (k + 1)) = hist (ls.take k) ++ [r] := by
  unfold hist; rw [take_snocH h, List.filter_append, List.filter_cons_of_pos (by simpa using hc)]; rfl
theorem hist_no {ls : List Rec} {k : Nat} {r : Rec} (h : ls[k]? = some r) (hc : comB r = false) : hist (ls.take (k + 1)) = hist (ls.take k) := by
  unfold hist; rw [take_snocH h, List.filter_append, List.filter_cons_of_neg (by simp [hc])]; simp
theorem hist_len (ls : List Rec) : (hist ls).length ≤ ls.length := List.length_filter_le _ _
theorem comB_kind {r : Rec} (h : r.kind ≠ 7) : comB r = false := by unfold comB; simp [h]
theorem Recs.of {w : World} {v : Value} {ls : List Rec} (h : Has w 8 v ls.length (ls.flatMap recC)) : ∃ a c, v = .slice a ls.length c ∧ Recs w a c ls := by
  obtain ⟨a, c, rfl, h1, h2⟩ := h.slice
  refine ⟨a, c, rfl, h1, by unfold maxLen at h2; omega, ?_⟩
  by_cases h0 : ls.length = 0
  · exact .inl (List.eq_nil_of_length_eq_zero h0)
  · obtain ⟨g, cap, hv, hg, _⟩ := h.form (by omega)
    simp only [Value.slice.injEq, true_and] at hv
    obtain ⟨rfl, rfl⟩ := hv
    refine .inr ⟨g, 0, rfl, hg, fun i e he => ?_⟩
    have hr := h.elem recC_length he
    rw [Nat.zero_add]
    exact hr
set_option maxRecDepth 100000 in
set_option maxHeartbeats 2000000 in
/-- record.Check of a commit. -/
theorem check7 (lsn ep page other req : Int) (key val : ByteArray) (w : World) : Calls Tryz.prog 33 #[.agg #[.int .i64 lsn, .int .i64 ep, .int .i64 7, .int .i64 page, .int .i64 other, .int .i64 req, .string key, .string val]] w fun e w' => e = .returned (.int .i64 (if comB ⟨lsn, ep, 7, page, other, req, key, val⟩ = true then 0 else 90)) ∧ Fr (fun _ => False) w w' := by
  have hs := suits_commit lsn ep page other req key val
  have HR : Hid (comB ⟨lsn, ep, 7, page, other, req, key, val⟩ = (wthB lsn 1 1099511627776 && (wthB ep 0 1099511627776 && ((page == 0) && (((other == 1 && valB val) || (other == 2 && emp val)) && (wthB req 1 1099511627776 && keyB key)))))) := by show _ = _; unfold comB; simp
  rw [HR.out]
  clear HR
  generalize ((page == 0) && (((other == 1 && valB val) || (other == 2 && emp val)) && (wthB req 1 1099511627776 && keyB key))) = b at *
  go_enter Tryz.func33, Tryz.ntmps33
  go_wp2_with (first | (go_at_call 57; refine (rwithin_any _ _ _ _).mono ?_; rintro e w' ⟨rfl, rfl⟩) | (go_at_call 58; refine (hs _).mono ?_; rintro e w9 ⟨rfl, f9⟩))
  all_goals go_ret
  all_goals refine ⟨ret_int ?_, by first | exact Fr.box w _ | exact (Fr.box w _).seq' f9⟩
  all_goals simp_all
/-- latticeref09.Right of a commit. -/
theorem right7 (lsn ep page other req : Int) (key val : ByteArray) (w : World) : Calls Tryz.prog 34 #[.agg #[.int .i64 lsn, .int .i64 ep, .int .i64 7, .int .i64 page, .int .i64 other, .int .i64 req, .string key, .string val]] w fun e w' => e = .returned (.bool (comB ⟨lsn, ep, 7, page, other, req, key, val⟩)) ∧ Fr (fun _ => False) w w' := by
  have HR : comB ⟨lsn, ep, 7, page, other, req, key, val⟩ = (wthB lsn 1 1099511627776 && (wthB ep 0 1099511627776 && ((page == 0) && (((other == 1 && valB val) || (other == 2 && emp val)) && (wthB req 1 1099511627776 && keyB key))))) := by unfold comB; simp
  rw [HR]
  by_cases h : wthB lsn 1 1099511627776 = false ∨ wthB ep 0 1099511627776 = false
  · have e : (wthB lsn 1 1099511627776 && (wthB ep 0 1099511627776 && ((page == 0) && (((other == 1 && valB val) || (other == 2 && emp val)) && (wthB req 1 1099511627776 && keyB key))))) = false := by rcases h with h | h <;> simp [h]
    rw [e]
    exact right_bad lsn ep 7 page other req key val h w
  · have h1 : wthB lsn 1 1099511627776 = true := by cases hq : wthB lsn 1 1099511627776 with | true => rfl | false => exact absurd (.inl hq) h
    have h2 : wthB ep 0 1099511627776 = true := by cases hq : wthB ep 0 1099511627776 with | true => rfl | false => exact absurd (.inr hq) h
    rw [h1, h2]
    exact right_commit lsn ep page other req key val h1 h2 w
/-- What a call leaves that answers a list of records of its own. -/
def RcOut (w : World) (ls : List Rec) (e : Ending) (w' : World) : Prop := ∃ a c, e = .returned (.slice a ls.length c) ∧ Recs w' a c ls ∧ (∀ g, (Value.slice a ls.length c).ownBlock = some g → w.heap.size ≤ g) ∧ Fr (fun _ => False) w w'

set_option maxRecDepth 100000 in
set_option maxHeartbeats 4000000 in
theorem history_any (a : Option Addr) (n c : Nat) (ls : List Rec) (hn : n = ls.length) (hf : n ≤ 1000000) (w : World) (h : Recs w a c ls) :
    Calls Tryz.prog 14 #[.slice a n c] w fun e w' => RcOut w (hist ls) e w' := by
  obtain ⟨iR, hiR, hR0, hR1, hR2⟩ := info_parts infoRec
  have hle : n ≤ c := by rw [hn]; exact h.le
  have hmx := h.max
  have HS : Hid (∀ W, Fr (fun _ => False) w W → Recs W a c ls) := fun W f => h.same f
  have HN : Hid (n = ls.length) := hn
  clear h hn
  go_enter Tryz.func14, Tryz.ntmps14
  go_wp2
  go_loopw [8, 3] (fun i o wr => ∃ (k m : Nat) (a' : Option Addr) (c' : Nat), k ≤ n ∧ i = .int .i64 k ∧ o = .slice a' m c' ∧ Hid (m = (hist (ls.take k)).length) ∧ Hid (Has wr 8 (.slice a' m c') m ((hist (ls.take k)).flatMap recC)) ∧ Hid (∀ g, (Value.slice a' m c').ownBlock = some g → w.heap.size ≤ g) ∧ Fr (fun _ => False) w wr) (fun i _ _ => n - (intOf i).toNat)
  case atStart => exact ⟨0, 0, none, 0, by omega, rfl, rfl, rfl, Has.nil _ _, (fun g e => by cases e), Fr.refl _ _⟩
  case round =>
    obtain ⟨k, m, a', c', hk, rfl, rfl, HM, HH, HO, F⟩ := hrel
    by_cases hlt : k < n
    · obtain ⟨r, hr⟩ : ∃ r, ls[k]? = some r := ⟨_, List.getElem?_eq_getElem (by have := HN.out; omega)⟩
      obtain ⟨bb, off, rfl, hbb, hcc⟩ := (HS.out _ F).some (by have := HN.out; omega)
      have HY : Hid (comB r = true → hist (ls.take (k + 1)) = hist (ls.take k) ++ [r]) := hist_yes hr
      have HNO : Hid (comB r = false → hist (ls.take (k + 1)) = hist (ls.take k)) := hist_no hr
      have hml : m ≤ 1000000 := by have := HM.out; have := hist_len (ls.take k); have : (ls.take k).length ≤ k := List.length_take_le _ _; omega
      have hqq := rec_range (hcc k r hr)
      obtain ⟨lsn, ep, kind, page, other, req, key, val⟩ := r
      dsimp only at hqq
      obtain ⟨q0, q1, q2, q3, q4, q5, q6, q7⟩ := hqq
      have hki : (k : Int) < (n : Int) := by omega
      have HB : Hid (∀ W, Fr (fun _ => False) (wr.alloc (.cells #[.int .i64 lsn, .int .i64 ep, .int .i64 kind, .int .i64 page, .int .i64 other, .int .i64 req, .string key, .string val] 53)) W → W.heap[wr.heap.size]? = some (.cells #[.int .i64 lsn, .int .i64 ep, .int .i64 kind, .int .i64 page, .int .i64 other, .int .i64 req, .string key, .string val] 53 (0, 0))) := fun W f => rec_at wr _ _ f
      clear hr hcc
      by_cases h7 : kind = 7
      · subst h7
        have hck := check7 lsn ep page other req key val
        cases hcb : comB ⟨lsn, ep, 7, page, other, req, key, val⟩ with
        | true =>
          rw [hcb] at hck
          simp only [if_true] at hck
          have HTK := HY.out hcb
          clear HY HNO
          go_wp2_with fail
          refine (hck _).mono ?_
          rintro e w3 ⟨rfl, f3⟩
          have F3 := (Fr.box wr (.cells #[.int .i64 lsn, .int .i64 ep, .int .i64 7, .int .i64 page, .int .i64 other, .int .i64 req, .string key, .string val] 53)).seq' f3
          obtain ⟨⟨p0, p1, p2, p3, p4, p5, p6, p7⟩, qz⟩ := rec_cells (HB.out w3 f3)
          have P6 := Fr.box w3 (.cells #[.int .i64 lsn, .int .i64 ep, .int .i64 7, .int .i64 page, .int .i64 other, .int .i64 req, .string key, .string val] 53)
          have HRW : Hid (Has (w3.alloc (.cells #[.int .i64 lsn, .int .i64 ep, .int .i64 7, .int .i64 page, .int .i64 other, .int .i64 req, .string key, .string val] 53)) 8 (.slice a' m c') m ((hist (ls.take k)).flatMap recC)) := HH.out.fr (F3.seq' P6) (fun _ _ f => f)
          have FF : Fr (fun _ => False) w (w3.alloc (.cells #[.int .i64 lsn, .int .i64 ep, .int .i64 7, .int .i64 page, .int .i64 other, .int .i64 req, .string key, .string val] 53)) := F.seq' (F3.seq' P6)
          have HNE : Hid (From (w3.alloc (.cells #[.int .i64 lsn, .int .i64 ep, .int .i64 7, .int .i64 page, .int .i64 other, .int .i64 req, .string key, .string val] 53)) (some ⟨w3.heap.size, 0, none⟩) (recC ⟨lsn, ep, 7, page, other, req, key, val⟩)) := .inr ⟨_, _, rfl, range_block (heap_alloc_new w3 _) (xs := recC ⟨lsn, ep, 7, page, other, req, key, val⟩) (o := 0) (fun j v hv => by rw [Nat.zero_add]; simpa [recC] using hv)⟩
          clear hck P6 F3 qz f3
          go_wp2_with (at_builtin; refine wpList_append_has _ rfl (.tmp 20) (.tmp 22) 22 22 53 53 rfl iR _ 8 80 Tryz.underlying22 Tryz.underlying22 hiR hR0 hR1 hR2 rfl (by omega) (.slice a' m c') m ((hist (ls.take k)).flatMap recC) rfl HRW.out (some ⟨w3.heap.size, 0, none⟩) 1 1 (recC ⟨lsn, ep, 7, page, other, req, key, val⟩) rfl rfl HNE.out (recC_one _) (by unfold maxLen; omega) (by omega) ?_; intro a4 c4 w8 ht4 f34 hat4)
          have HT5 : Hid (Has w8 8 (.slice a4 (m + 1) c4) (m + 1) ((hist (ls.take (k + 1))).flatMap recC)) := by
            show Has _ _ _ _ _
            rw [HTK, List.flatMap_append]
            simpa using ht4
          have HM5 : Hid (m + 1 = (hist (ls.take (k + 1))).length) := by show _ = _; rw [HTK]; have := HM.out; simp; omega
          have HO5 : Hid (∀ g, (Value.slice a4 (m + 1) c4).ownBlock = some g → w.heap.size ≤ g) := fun g e => by
            have hz := FF.size
            simp at hz
            rcases hat4 with h1 | h1
            · rw [h1] at e; exact HO.out g e
            · rw [h1] at e; simp at e; omega
          have F5 : Fr (fun _ => False) w w8 := FF.trans f34 (fun i hi e => by have := HO.out i e.1; omega)
          clear ht4 hat4 f34 FF q0 q1 q2 q3 q4 q5 q6 q7 p0 p1 p2 p3 p4 p5 p6 p7 HRW HNE HTK
          go_wp2
          go_roundw
          case rel => exact ⟨k + 1, m + 1, a4, c4, by omega, by go_num, rfl, HM5, HT5, HO5, F5⟩
          case measure => simp [intOf]; omega
        | false =>
          rw [hcb] at hck
          simp only [Bool.false_eq_true, if_false] at hck
          have HTK := HNO.out hcb
          clear HY HNO
          have HT5 : Hid (∀ W, Fr (fun _ => False) wr W → Has W 8 (.slice a' m c') m ((hist (ls.take (k + 1))).flatMap recC)) := fun W f => by rw [HTK]; exact HH.out.fr f (fun _ _ f => f)
          have HM5 : Hid (m = (hist (ls.take (k + 1))).length) := by show _ = _; rw [HTK]; exact HM.out
          clear HTK
          go_wp2_with fail
          refine (hck _).mono ?_
          rintro e w3 ⟨rfl, f3⟩
          have F3 := (Fr.box wr (.cells #[.int .i64 lsn, .int .i64 ep, .int .i64 7, .int .i64 page, .int .i64 other, .int .i64 req, .string key, .string val] 53)).seq' f3
          clear hck f3
          go_wp2
          go_roundw
          case rel => exact ⟨k + 1, m, a', c', by omega, by go_num, rfl, HM5, HT5.out _ F3, HO, F.seq' F3⟩
          case measure => simp [intOf]; omega
      · have h7' : (kind == 7) = false := by simpa using h7
        have HTK := HNO.out (comB_kind h7)
        have HT5 : Hid (∀ W, Fr (fun _ => False) wr W → Has W 8 (.slice a' m c') m ((hist (ls.take (k + 1))).flatMap recC)) := fun W f => by rw [HTK]; exact HH.out.fr f (fun _ _ f => f)
        have HM5 : Hid (m = (hist (ls.take (k + 1))).length) := by show _ = _; rw [HTK]; exact HM.out
        clear HTK HY HNO h7
        go_wp2
        go_roundw
        case rel => exact ⟨k + 1, m, a', c', by omega, by go_num, rfl, HM5, HT5.out _ (Fr.box wr _), HO, F.seq' (Fr.box wr _)⟩
        case measure => simp [intOf]; omega
    · obtain rfl : k = n := by omega
      have HFIN : Hid (RcOut w (hist ls) (.returned (.slice a' m c')) wr) := by
        have hk := HN.out
        subst hk
        have hh := HH.out
        have hm := HM.out
        have ho := HO.out
        rw [List.take_of_length_le (by omega)] at hh hm
        subst hm
        obtain ⟨a2, c2, e, hr⟩ := Recs.of hh
        simp only [Value.slice.injEq, true_and] at e
        obtain ⟨rfl, rfl⟩ := e
        exact ⟨_, _, rfl, hr, ho, F⟩
      go_wp2
      go_ret
      exact HFIN.out

set_option maxRecDepth 100000 in
set_option maxHeartbeats 4000000 in
theorem rhistory_any (a : Option Addr) (n c : Nat) (ls : List Rec) (hn : n = ls.length) (hf : n ≤ 1000000) (w : World) (h : Recs w a c ls) :
    Calls Tryz.prog 15 #[.slice a n c] w fun e w' => RcOut w (hist ls) e w' := by
  obtain ⟨iR, hiR, hR0, hR1, hR2⟩ := info_parts infoRec
  have hle : n ≤ c := by rw [hn]; exact h.le
  have hmx := h.max
  have HS : Hid (∀ W, Fr (fun _ => False) w W → Recs W a c ls) := fun W f => h.same f
  have HN : Hid (n = ls.length) := hn
  clear h hn
  go_enter Tryz.func15, Tryz.ntmps15
  go_wp2
  go_loopw [8, 3] (fun i o wr => ∃ (k m : Nat) (a' : Option Addr) (c' : Nat), k ≤ n ∧ i = .int .i64 k ∧ o = .slice a' m c' ∧ Hid (m = (hist (ls.take k)).length) ∧ Hid (Has wr 8 (.slice a' m c') m ((hist (ls.take k)).flatMap recC)) ∧ Hid (∀ g, (Value.slice a' m c').ownBlock = some g → w.heap.size ≤ g) ∧ Fr (fun _ => False) w wr) (fun i _ _ => n - (intOf i).toNat)
  case atStart => exact ⟨0, 0, none, 0, by omega, rfl, rfl, rfl, Has.nil _ _, (fun g e => by cases e), Fr.refl _ _⟩
  case round =>
    obtain ⟨k, m, a', c', hk, rfl, rfl, HM, HH, HO, F⟩ := hrel
    by_cases hlt : k < n
    · obtain ⟨r, hr⟩ : ∃ r, ls[k]? = some r := ⟨_, List.getElem?_eq_getElem (by have := HN.out; omega)⟩
      obtain ⟨bb, off, rfl, hbb, hcc⟩ := (HS.out _ F).some (by have := HN.out; omega)
      have HY : Hid (comB r = true → hist (ls.take (k + 1)) = hist (ls.take k) ++ [r]) := hist_yes hr
      have HNO : Hid (comB r = false → hist (ls.take (k + 1)) = hist (ls.take k)) := hist_no hr
      have hml : m ≤ 1000000 := by have := HM.out; have := hist_len (ls.take k); have : (ls.take k).length ≤ k := List.length_take_le _ _; omega
      have hqq := rec_range (hcc k r hr)
      obtain ⟨lsn, ep, kind, page, other, req, key, val⟩ := r
      dsimp only at hqq
      obtain ⟨q0, q1, q2, q3, q4, q5, q6, q7⟩ := hqq
      have hki : (k : Int) < (n : Int) := by omega
      have HB : Hid (∀ W, Fr (fun _ => False) (wr.alloc (.cells #[.int .i64 lsn, .int .i64 ep, .int .i64 kind, .int .i64 page, .int .i64 other, .int .i64 req, .string key, .string val] 53)) W → W.heap[wr.heap.size]? = some (.cells #[.int .i64 lsn, .int .i64 ep, .int .i64 kind, .int .i64 page, .int .i64 other, .int .i64 req, .string key, .string val] 53 (0, 0))) := fun W f => rec_at wr _ _ f
      clear hr hcc
      by_cases h7 : kind = 7
      · subst h7
        have hck := right7 lsn ep page other req key val
        cases hcb : comB ⟨lsn, ep, 7, page, other, req, key, val⟩ with
        | true =>
          rw [hcb] at hck
          have HTK := HY.out hcb
          clear HY HNO
          go_wp2_with fail
          refine (hck _).mono ?_
          rintro e w3 ⟨rfl, f3⟩
          have F3 := (Fr.box wr (.cells #[.int .i64 lsn, .int .i64 ep, .int .i64 7, .int .i64 page, .int .i64 other, .int .i64 req, .string key, .string val] 53)).seq' f3
          obtain ⟨⟨p0, p1, p2, p3, p4, p5, p6, p7⟩, qz⟩ := rec_cells (HB.out w3 f3)
          have P6 := Fr.box w3 (.cells #[.int .i64 lsn, .int .i64 ep, .int .i64 7, .int .i64 page, .int .i64 other, .int .i64 req, .string key, .string val] 53)
          have HRW : Hid (Has (w3.alloc (.cells #[.int .i64 lsn, .int .i64 ep, .int .i64 7, .int .i64 page, .int .i64 other, .int .i64 req, .string key, .string val] 53)) 8 (.slice a' m c') m ((hist (ls.take k)).flatMap recC)) := HH.out.fr (F3.seq' P6) (fun _ _ f => f)
          have FF : Fr (fun _ => False) w (w3.alloc (.cells #[.int .i64 lsn, .int .i64 ep, .int .i64 7, .int .i64 page, .int .i64 other, .int .i64 req, .string key, .string val] 53)) := F.seq' (F3.seq' P6)
          have HNE : Hid (From (w3.alloc (.cells #[.int .i64 lsn, .int .i64 ep, .int .i64 7, .int .i64 page, .int .i64 other, .int .i64 req, .string key, .string val] 53)) (some ⟨w3.heap.size, 0, none⟩) (recC ⟨lsn, ep, 7, page, other, req, key, val⟩)) := .inr ⟨_, _, rfl, range_block (heap_alloc_new w3 _) (xs := recC ⟨lsn, ep, 7, page, other, req, key, val⟩) (o := 0) (fun j v hv => by rw [Nat.zero_add]; simpa [recC] using hv)⟩
          clear hck P6 F3 qz f3
          go_wp2_with (at_builtin; refine wpList_append_has _ rfl (.tmp 19) (.tmp 21) 22 22 53 53 rfl iR _ 8 80 Tryz.underlying22 Tryz.underlying22 hiR hR0 hR1 hR2 rfl (by omega) (.slice a' m c') m ((hist (ls.take k)).flatMap recC) rfl HRW.out (some ⟨w3.heap.size, 0, none⟩) 1 1 (recC ⟨lsn, ep, 7, page, other, req, key, val⟩) rfl rfl HNE.out (recC_one _) (by unfold maxLen; omega) (by omega) ?_; intro a4 c4 w8 ht4 f34 hat4)
          have HT5 : Hid (Has w8 8 (.slice a4 (m + 1) c4) (m + 1) ((hist (ls.take (k + 1))).flatMap recC)) := by
            show Has _ _ _ _ _
            rw [HTK, List.flatMap_append]
            simpa using ht4
          have HM5 : Hid (m + 1 = (hist (ls.take (k + 1))).length) := by show _ = _; rw [HTK]; have := HM.out; simp; omega
          have HO5 : Hid (∀ g, (Value.slice a4 (m + 1) c4).ownBlock = some g → w.heap.size ≤ g) := fun g e => by
            have hz := FF.size
            simp at hz
            rcases hat4 with h1 | h1
            · rw [h1] at e; exact HO.out g e
            · rw [h1] at e; simp at e; omega
          have F5 : Fr (fun _ => False) w w8 := FF.trans f34 (fun i hi e => by have := HO.out i e.1; omega)
          clear ht4 hat4 f34 FF q0 q1 q2 q3 q4 q5 q6 q7 p0 p1 p2 p3 p4 p5 p6 p7 HRW HNE HTK
          go_wp2
          go_roundw
          case rel => exact ⟨k + 1, m + 1, a4, c4, by omega, by go_num, rfl, HM5, HT5, HO5, F5⟩
          case measure => simp [intOf]; omega
        | false =>
          rw [hcb] at hck
          have HTK := HNO.out hcb
          clear HY HNO
          have HT5 : Hid (∀ W, Fr (fun _ => False) wr W → Has W 8 (.slice a' m c') m ((hist (ls.take (k + 1))).flatMap recC)) := fun W f => by rw [HTK]; exact HH.out.fr f (fun _ _ f => f)
          have HM5 : Hid (m = (hist (ls.take (k + 1))).length) := by show _ = _; rw [HTK]; exact HM.out
          clear HTK
          go_wp2_with fail
          refine (hck _).mono ?_
          rintro e w3 ⟨rfl, f3⟩
          have F3 := (Fr.box wr (.cells #[.int .i64 lsn, .int .i64 ep, .int .i64 7, .int .i64 page, .int .i64 other, .int .i64 req, .string key, .string val] 53)).seq' f3
          clear hck f3
          go_wp2
          go_roundw
          case rel => exact ⟨k + 1, m, a', c', by omega, by go_num, rfl, HM5, HT5.out _ F3, HO, F.seq' F3⟩
          case measure => simp [intOf]; omega
      · have h7' : (kind == 7) = false := by simpa using h7
        have HTK := HNO.out (comB_kind h7)
        have HT5 : Hid (∀ W, Fr (fun _ => False) wr W → Has W 8 (.slice a' m c') m ((hist (ls.take (k + 1))).flatMap recC)) := fun W f => by rw [HTK]; exact HH.out.fr f (fun _ _ f => f)
        have HM5 : Hid (m = (hist (ls.take (k + 1))).length) := by show _ = _; rw [HTK]; exact HM.out
        clear HTK HY HNO h7
        go_wp2
        go_roundw
        case rel => exact ⟨k + 1, m, a', c', by omega, by go_num, rfl, HM5, HT5.out _ (Fr.box wr _), HO, F.seq' (Fr.box wr _)⟩
        case measure => simp [intOf]; omega
    · obtain rfl : k = n := by omega
      have HFIN : Hid (RcOut w (hist ls) (.returned (.slice a' m c')) wr) := by
        have hk := HN.out
        subst hk
        have hh := HH.out
        have hm := HM.out
        have ho := HO.out
        rw [List.take_of_length_le (by omega)] at hh hm
        subst hm
        obtain ⟨a2, c2, e, hr⟩ := Recs.of hh
        simp only [Value.slice.injEq, true_and] at e
        obtain ⟨rfl, rfl⟩ := e
        exact ⟨_, _, rfl, hr, ho, F⟩
      go_wp2
      go_ret
      exact HFIN.out
end Go.Proofs.YtbfaiohpmennoaaGreat
