
/- The document's own Behind. -/
import Derived.Test.YtdlnflcjodpkiaaGreatFdWith
namespace Go.Proofs.YtdlnflcjodpkiaaGreat
open Go.RowKit Go.Shelf

theorem wth_sml {L : List En} (hr : Ris L) (hs : ∀ e ∈ L, e.1.size ≤ maxLen) (r : Rec) (hk : r.key.size ≤ 1000) : ∀ e ∈ wth L r, e.1.size ≤ maxLen := sml_wth hr hs (by unfold maxLen; omega) _
theorem beh_sml {hs : List Rec} (hk : ∀ r ∈ hs, r.key.size ≤ 1000) : ∀ e ∈ beh hs, e.1.size ≤ maxLen := by
  have : ∀ (L : List En), Ris L → (∀ e ∈ L, e.1.size ≤ maxLen) → ∀ e ∈ hs.foldl wth L, e.1.size ≤ maxLen := by
    induction hs with
    | nil => intro L _ h; exact h
    | cons r m ih =>
      intro L hr h
      exact ih (fun r' h' => hk r' (by simp [h'])) (wth L r) (ris_wth hr _) (wth_sml hr h r (hk r (by simp)))
  exact this [] List.Pairwise.nil (fun e h => by cases h)
set_option maxRecDepth 100000 in
set_option maxHeartbeats 4000000 in
theorem rbehind_ok (a : Option Addr) (n c : Nat) (ls : List Rec) (hn : n = ls.length) (hf : n ≤ 100000) (q : Nat) (hq : q ≤ (hist ls).length) (w : World) (h : Recs w a c ls) :
    Calls Tryz.prog 15 #[.slice a n c, .int .i64 q] w fun e w' => BhOut w (beh ((hist ls).take q)) 0 e w' := by
  have hh := rhistory_any a n c ls hn (by omega) w h
  have HKZ : Hid (∀ r ∈ hist ls, r.key.size ≤ 1000) := fun r hr => beh_key hr
  have hlen : (hist ls).length ≤ 100000 := by have := hist_len ls; omega
  generalize hist ls = hs at *
  obtain ⟨m, hm⟩ : ∃ m, m = hs.length := ⟨_, rfl⟩
  have HM : Hid (m = hs.length) := hm
  have hh2 : Calls Tryz.prog 18 #[.slice a n c] w fun e w' => ∃ a' c', e = .returned (.slice a' m c') ∧ Recs w' a' c' hs ∧ Fr (fun _ => False) w w' := hh.mono fun e w' ⟨a', c', he, hr, _, f⟩ => ⟨a', c', by rw [he, hm], hr, f⟩
  have hqm : q ≤ m := by omega
  have hq2 : ¬ (m : Int) < (q : Int) := by omega
  have hq3 : decide (m < q) = false := by simp; omega
  have hm9 : m ≤ 100000 := by omega
  clear hh h hn hf hm hq hlen
  go_enter Tryz.func15, Tryz.ntmps15
  go_wp2_with fail
  refine hh2.mono ?_
  rintro e w1 ⟨a', c', rfl, hr, f1⟩
  clear hh2
  have hle := hr.le
  have hmx := hr.max
  have hmc : (m : Int) ≤ (c' : Int) := by have := HM.out; omega
  have HR : Hid (∀ W, Fr (fun _ => False) w1 W → Recs W a' c' hs) := fun W f => hr.same f
  have HF1 : Hid (Fr (fun _ => False) w w1) := f1
  clear hr f1 hle
  go_wp2
  go_loopw [8, 7] (fun i o wr => ∃ (k m2 : Nat) (a2 : Option Addr) (c2 : Nat), k ≤ q ∧ i = .int .i64 k ∧ o = .slice a2 m2 c2 ∧ Hid (m2 = (beh (hs.take k)).length) ∧ Hid (Ens wr a2 c2 (beh (hs.take k))) ∧ Hid (∀ b off, a2 = some ⟨b, off, none⟩ → w.heap.size ≤ b) ∧ Fr (fun _ => False) w1 wr) (fun i _ _ => q - (intOf i).toNat)
  case atStart => exact ⟨0, 0, none, 0, by omega, rfl, rfl, rfl, Ens.nil _, (fun b off e => by cases e), Fr.refl _ _⟩
  case round =>
    obtain ⟨k, m2, a2, c2, hk, rfl, rfl, HM2, HE, HO, F⟩ := hrel
    by_cases hlt : k < q
    · obtain ⟨r, hr⟩ : ∃ r, hs[k]? = some r := ⟨_, List.getElem?_eq_getElem (by have := HM.out; omega)⟩
      obtain ⟨bb, off, rfl, hbb, hcc⟩ := (HR.out _ F).some (by have := HM.out; omega)
      have hqq := rec_range (hcc k r hr)
      have HT : Hid (beh (hs.take (k + 1)) = wth (beh (hs.take k)) r) := by show _ = _; rw [take_snocH hr, beh_snoc]
      have hm2 : m2 ≤ 100000 := by have := HM2.out; have := len_beh (hs.take k); have : (hs.take k).length ≤ k := List.length_take_le _ _; omega
      have hw := with_any a2 m2 c2 (beh (hs.take k)) HM2.out hm2 r (HKZ.out r (List.mem_of_getElem? hr)) (beh_sml (fun r hr => HKZ.out r (List.mem_of_mem_take hr))) wr HE.out
      rw [← HT.out] at hw
      obtain ⟨q0, q1, q2, q3, q4, q5, q6, q7⟩ := hqq
      have hki : (k : Int) < (q : Int) := by omega
      have hkm : (k : Int) < (m : Int) := by omega
      obtain ⟨lsn, ep, kind, page, other, req, key, val⟩ := r
      dsimp only at hw q0 q1 q2 q3 q4 q5 q6 q7
      obtain ⟨m4, hm4⟩ : ∃ m4, m4 = (beh (hs.take (k + 1))).length := ⟨_, rfl⟩
      have HM4 : Hid (m4 = (beh (hs.take (k + 1))).length) := hm4
      have hw2 : Calls Tryz.prog 41 #[.slice a2 m2 c2, .agg #[.int .i64 lsn, .int .i64 ep, .int .i64 kind, .int .i64 page, .int .i64 other, .int .i64 req, .string key, .string val]] wr fun e w' => ∃ a4 c4, e = .returned (.slice a4 m4 c4) ∧ Hid (Ens w' a4 c4 (beh (hs.take (k + 1)))) ∧ Hid (∀ b off, a4 = some ⟨b, off, none⟩ → w.heap.size ≤ b) ∧ Fr (fun _ => False) wr w' := hw.mono fun e w' ⟨a4, c4, he, h1, h2, h3⟩ => ⟨a4, c4, by rw [he, hm4], h1, fun b off e => by have := h2 b off e; have := (HF1.out.seq' F).size; omega, h3⟩
      clear hr hcc hw hm4 HT
      go_wp2_with fail
      refine hw2.mono ?_
      rintro e w3 ⟨a4, c4, rfl, HE4, HO4, f3⟩
      have F3 := F.seq' f3
      clear hw2 f3 q0 q1 q2 q3 q4 q5 q6 q7
      go_wp2
      go_roundw
      case rel => exact ⟨k + 1, m4, a4, c4, by omega, by go_num, rfl, HM4, HE4, HO4, F3⟩
      case measure => simp [intOf]; omega
    · obtain rfl : k = q := by omega
      have HOUT : Hid (BhOut w (beh (hs.take k)) 0 (.returned (.tuple #[.slice a2 m2 c2, .int .i64 0])) wr) := by
        refine ⟨a2, c2, ?_, HE.out, HO.out, HF1.out.seq' F⟩
        rw [HM2.out]
      go_wp2
      go_ret2
      exact HOUT.out
set_option maxRecDepth 100000 in
set_option maxHeartbeats 4000000 in
theorem rbehind_no (a : Option Addr) (n c : Nat) (ls : List Rec) (hn : n = ls.length) (hf : n ≤ 100000) (q : Int) (hq : q < 0 ∨ ((hist ls).length : Int) < q) (w : World) (h : Recs w a c ls) :
    Calls Tryz.prog 15 #[.slice a n c, .int .i64 q] w fun e w' => BhOut w [] 1 e w' := by
  have hh := rhistory_any a n c ls hn (by omega) w h
  generalize hist ls = hs at *
  obtain ⟨m, hm⟩ : ∃ m, m = hs.length := ⟨_, rfl⟩
  have hh2 : Calls Tryz.prog 18 #[.slice a n c] w fun e w' => ∃ a' c', e = .returned (.slice a' m c') ∧ Fr (fun _ => False) w w' := hh.mono fun e w' ⟨a', c', he, hr, _, f⟩ => ⟨a', c', by rw [he, hm], f⟩
  have hq2 : q < 0 ∨ (¬ q < 0 ∧ (m : Int) < q) := by omega
  clear hh h hn hf hm hq
  rcases hq2 with h1 | ⟨h1, h2⟩
  all_goals
    go_enter Tryz.func15, Tryz.ntmps15
    go_wp2_with fail
    refine hh2.mono ?_
    rintro e w1 ⟨a', c', rfl, f1⟩
    clear hh2
    go_wp2
    go_ret2
    exact ⟨none, 0, rfl, Ens.nil _, (fun b off e => by cases e), f1⟩
end Go.Proofs.YtdlnflcjodpkiaaGreat
