
/- slices.Clone, IndexFunc and DeleteFunc at records: what is no commit is struck. -/
import Derived.Test.YtdlnflcjodpkiaaGreatFdH0
namespace Go.Proofs.YtdlnflcjodpkiaaGreat
open Go.RowKit

set_option maxRecDepth 100000 in
set_option maxHeartbeats 2000000 in
/-- fold.isNoCommit. -/
theorem noCommit_any (lsn ep kind page other req : Int) (key val : ByteArray) (w : World) : Calls Tryz.prog 44 #[.agg #[.int .i64 lsn, .int .i64 ep, .int .i64 kind, .int .i64 page, .int .i64 other, .int .i64 req, .string key, .string val]] w fun e w' => e = .returned (.bool (!comB ⟨lsn, ep, kind, page, other, req, key, val⟩)) ∧ Fr (fun _ => False) w w' := by
  have f0 := Fr.box w (.cells #[.int .i64 lsn, .int .i64 ep, .int .i64 kind, .int .i64 page, .int .i64 other, .int .i64 req, .string key, .string val] 53)
  by_cases h7 : kind = 7
  · subst h7
    have hck := check7 lsn ep page other req key val
    cases hcb : comB ⟨lsn, ep, 7, page, other, req, key, val⟩ with
    | true =>
      rw [hcb] at hck
      simp only [if_true] at hck
      clear hcb
      go_enter Tryz.func44, Tryz.ntmps44
      go_wp2_with (go_at_call 75; refine (hck _).mono ?_; rintro e w3 ⟨rfl, f3⟩)
      go_ret
      exact ⟨rfl, f0.seq' f3⟩
    | false =>
      rw [hcb] at hck
      simp only [Bool.false_eq_true, if_false] at hck
      clear hcb
      go_enter Tryz.func44, Tryz.ntmps44
      go_wp2_with (go_at_call 75; refine (hck _).mono ?_; rintro e w3 ⟨rfl, f3⟩)
      go_ret
      exact ⟨rfl, f0.seq' f3⟩
  · have h7' : (kind == 7) = false := by simpa using h7
    have h7'' : (kind != 7) = true := by simpa using h7
    have HC : Hid (comB ⟨lsn, ep, kind, page, other, req, key, val⟩ = false) := comB_kind h7
    clear h7
    go_enter Tryz.func44, Tryz.ntmps44
    go_wp2
    go_ret
    exact ⟨by rw [HC.out]; rfl, f0⟩

theorem recs_range {w : World} {b off : Nat} : ∀ {ls : List Rec}, (∀ i r, ls[i]? = some r → w.rangeAt b (off + i * 8) (recC r)) → w.rangeAt b off (ls.flatMap recC) := by
  intro ls h j v hv
  have hl := (List.getElem?_eq_some_iff.1 hv).1
  rw [flat_length recC_length] at hl
  have hi : j / 8 < ls.length := by omega
  have hx := List.getElem?_eq_getElem hi
  have hjj : j = j / 8 * 8 + j % 8 := by omega
  have h2 := flat_get recC_length ls (j / 8) _ hx (j % 8) (by omega)
  rw [← hjj, hv] at h2
  have := h (j / 8) _ hx (j % 8) v h2.symm
  rw [show off + j = off + j / 8 * 8 + j % 8 by omega]
  exact this
theorem Recs.from {w : World} {a : Option Addr} {cap : Nat} {ls : List Rec} (h : Recs w a cap ls) : From w a (ls.flatMap recC) := by
  rcases h.at_ with h0 | ⟨b, off, rfl, hb, hc⟩
  · exact .inl (by rw [h0]; rfl)
  · exact .inr ⟨b, off, rfl, recs_range hc⟩
theorem recCs_one (ls : List Rec) : ∀ u ∈ ls.flatMap recC, u.oneCell' = true := by
  intro u hu
  obtain ⟨r, _, h⟩ := List.mem_flatMap.1 hu
  exact recC_one r u h
theorem has_emptyR (w : World) (size : Nat) (e : TypeId) : Has (w.alloc (.cells #[] e)) size (.slice (some ⟨w.heap.size, 0, none⟩) 0 0) 0 [] :=
  ⟨by simp, .inr ⟨_, _, rfl, by simp, Nat.le_refl _, by decide, (fun j hj => by omega), (fun j v hv => by cases hv)⟩⟩
/-- Records of a call's own. -/
def RhOut (w : World) (ls : List Rec) (e : Ending) (w' : World) : Prop := ∃ a c, e = .returned (.slice a ls.length c) ∧ Has w' 8 (.slice a ls.length c) ls.length (ls.flatMap recC) ∧ Fr (fun _ => False) w w' ∧ ∀ k, (Value.slice a ls.length c).ownBlock = some k → w.heap.size ≤ k
set_option maxRecDepth 100000 in
set_option maxHeartbeats 1000000 in
theorem cloneR (a : Option Addr) (n c : Nat) (ls : List Rec) (w : World) (h : Recs w a c ls) (hn : n = ls.length) (hs : ls.length ≤ 1000000) : Calls Tryz.prog 43 #[.slice a n c] w fun e w' => RhOut w ls e w' := by
  obtain ⟨i0, hi, hz0, hz1, hz2⟩ := info_parts infoRec
  have hq := fun W => Lib.run_eql_slice_nil (P := Tryz.prog) W 22 53 a n c 0 0 Tryz.underlying22
  have hsl : (ls.flatMap recC).length = ls.length * 8 := flat_length recC_length ls
  cases a with
  | none =>
    have hl : ls = [] := by
      rcases h.at_ with h | ⟨_, _, h, _⟩
      · exact h
      · cases h
    subst hl
    obtain rfl : n = 0 := by simpa using hn
    clear hn hsl hs h
    go_enter Tryz.func43, Tryz.ntmps43
    go_wp2
    go_ret
    exact ⟨none, 0, rfl, Has.nil _ _, Fr.refl _ _, fun k hk => by cases hk⟩
  | some x =>
    have HE : Hid (Has (w.alloc (.cells #[] 53)) 8 (.slice (some ⟨w.heap.size, 0, none⟩) 0 0) 0 []) := has_emptyR w 8 _
    have f1 : Fr (fun _ => False) w (w.alloc (.cells #[] 53)) := (Fr.refl _ _).alloc _
    have hr1 := (h.same f1).from
    have HN : Hid (n = ls.length) := hn
    have HSL : Hid ((ls.flatMap recC).length = ls.length * 8) := hsl
    have hs' : n ≤ 1000000 := by omega
    clear hn hs hsl h
    go_enter Tryz.func43, Tryz.ntmps43
    go_wp2_with (at_builtin; refine wpList_append_has _ rfl _ _ 22 22 53 53 rfl i0 _ 8 80 Tryz.underlying22 Tryz.underlying22 hi hz0 hz1 hz2 rfl (by omega) (.slice (some ⟨w.heap.size, 0, none⟩) 0 0) 0 [] rfl HE.out (some x) n c (ls.flatMap recC) rfl (by rw [HSL.out, HN.out]) hr1 (recCs_one ls) (by unfold maxLen; omega) (by omega) ?_; intro am cm w2 hown hfr hat)
    go_ret
    rw [Nat.zero_add, List.nil_append] at hown
    rw [Nat.zero_add] at hat
    rw [HN.out] at hown hat
    have F : Fr (fun _ => False) w w2 := f1.trans hfr (by
      rintro i hi ⟨e, _⟩
      simp [Value.ownBlock] at e
      omega)
    have hnew : ∀ k, (Value.slice am ls.length cm).ownBlock = some k → w.heap.size ≤ k := fun k hk => by
      rw [hk] at hat
      rcases hat with e | e <;> simp [Value.ownBlock] at e <;> omega
    exact ⟨am, cm, by rw [← HN.out]; rfl, hown, F, hnew⟩
/-- Where the first is that is no commit. -/
def IxO (ls : List Rec) (z : Int) : Prop := (z = -1 ∧ hist ls = ls) ∨ ∃ k : Nat, z = k ∧ k < ls.length ∧ hist (ls.take (k + 1)) = ls.take k
set_option maxRecDepth 100000 in
set_option maxHeartbeats 4000000 in
theorem idxNo_any (a : Option Addr) (n c : Nat) (hs : List Rec) (hn : n = hs.length) (w : World) (r : Recs w a c hs) :
    Calls Tryz.prog 54 #[.slice a n c, .func (.func 44) #[] #[]] w fun e w' => (∃ z : Int, e = .returned (.int .i64 z) ∧ IxO hs z) ∧ Fr (fun _ => False) w w' := by
  have hl1 : n ≤ c := by rw [hn]; exact r.le
  have hm2 := r.max
  have HS1 : Hid (∀ W, Fr (fun _ => False) w W → Recs W a c hs) := fun W f => r.same f
  have HN : Hid (n = hs.length) := hn
  clear r hn
  go_enter Tryz.func54, Tryz.ntmps54
  go_wp2
  go_loopw [8] (fun i wr => ∃ k : Nat, k ≤ n ∧ i = .int .i64 k ∧ Hid (hist (hs.take k) = hs.take k) ∧ Fr (fun _ => False) w wr) (fun i _ => n - (intOf i).toNat)
  case atStart => exact ⟨0, by omega, rfl, (show _ = _ from rfl), Fr.refl _ _⟩
  case round =>
    obtain ⟨k, hk, rfl, HE, F⟩ := hrel
    by_cases hlt : k < n
    · obtain ⟨r, hr⟩ : ∃ r, hs[k]? = some r := ⟨_, List.getElem?_eq_getElem (by have := HN.out; omega)⟩
      obtain ⟨b1, o1, rfl, hb1, hcc1⟩ := (HS1.out _ F).some (by have := HN.out; omega)
      obtain ⟨q0, q1, q2, q3, q4, q5, q6, q7⟩ := rec_range (hcc1 k r hr)
      have hki : (k : Int) < (n : Int) := by omega
      have HY : Hid (comB r = true → hist (hs.take (k + 1)) = hs.take (k + 1)) := fun h => by
        rw [hist_yes hr h, HE.out, take_snocH hr]
      have HNO : Hid (comB r = false → hist (hs.take (k + 1)) = hs.take k) := fun h => by rw [hist_no hr h, HE.out]
      obtain ⟨lsn, ep, kind, page, other, req, key, val⟩ := r
      dsimp only at q0 q1 q2 q3 q4 q5 q6 q7
      have hp := noCommit_any lsn ep kind page other req key val wr
      clear hr hcc1
      cases hq : comB ⟨lsn, ep, kind, page, other, req, key, val⟩ with
      | false =>
        have HP : Hid (IxO hs (k : Int)) := .inr ⟨k, rfl, by have := HN.out; omega, HNO.out hq⟩
        rw [hq] at hp
        simp only [Bool.not_false] at hp
        clear HY HNO hq
        go_wp2_with fail
        refine hp.mono ?_
        rintro e w3 ⟨rfl, f3⟩
        clear hp
        go_wp2
        go_ret
        exact ⟨⟨_, rfl, HP.out⟩, F.seq' f3⟩
      | true =>
        have HN3 : Hid (hist (hs.take (k + 1)) = hs.take (k + 1)) := HY.out hq
        rw [hq] at hp
        simp only [Bool.not_true] at hp
        clear HY HNO hq
        go_wp2_with fail
        refine hp.mono ?_
        rintro e w3 ⟨rfl, f3⟩
        clear hp
        go_wp2
        go_roundw
        case rel => exact ⟨k + 1, by omega, by go_num, HN3, F.seq' f3⟩
        case measure => simp [intOf]; omega
    · obtain rfl : k = n := by omega
      have HP : Hid (IxO hs (-1)) := .inl ⟨rfl, by have h := HE.out; rw [HN.out, List.take_length] at h; exact h⟩
      go_wp2
      go_ret
      exact ⟨⟨_, rfl, HP.out⟩, F⟩
end Go.Proofs.YtdlnflcjodpkiaaGreat
