
/- The map behind the first of a history, on both sides. -/
import Derived.Test.YtdlnflcjodpkiaaGreatFdRise
namespace Go.Proofs.YtdlnflcjodpkiaaGreat
open Go.RowKit Go.Shelf

/-- Behind's answer. -/
def BhOut (w : World) (L : List En) (err : Int) (e : Ending) (w' : World) : Prop := ∃ a c, e = .returned (.tuple #[.slice a L.length c, .int .i64 err]) ∧ Ens w' a c L ∧ (∀ b off, a = some ⟨b, off, none⟩ → w.heap.size ≤ b) ∧ Fr (fun _ => False) w w'
set_option maxRecDepth 100000 in
set_option maxHeartbeats 4000000 in
/-- What slices.Collect makes of a map's entries. -/
theorem collect_rise (b : Nat) (L : List En) (hn : L.length ≤ 1000000) (w : World) (h : Em w b L) :
    Calls Tryz.prog 39 #[.func (.func 71) #[] #[.pointer (some ⟨w.heap.size, 0, none⟩)]] (w.alloc (.cells #[.map (some b)] 79)) fun e W' => EnOut w L e W' := by
  have f0 : Fr (fun _ => False) w (w.alloc (.cells #[.map (some b)] 79)) := Fr.box w _
  have hb1 := heap_alloc_new w (.cells #[.map (some b)] 79)
  have hsz : (w.alloc (.cells #[.map (some b)] 79)).heap.size = w.heap.size + 1 := by simp
  have hS := h.same f0
  generalize w.alloc (.cells #[.map (some b)] 79) = V at *
  have keep : ∀ {W : World}, Fr (fun k => ¬ (fun k => k < V.heap.size) k) V W → Fr (fun _ => False) V W := fun f => ⟨f.os, f.tape, f.output, f.size, fun k hk _ => f.block k hk (fun e => e hk)⟩
  have hit := rising_iter b L hn w.heap.size (fun k => k < V.heap.size) V (fun W f => hS.same (keep f)) (fun W f => (one_cells ((keep f).blk hb1 (fun f => f))).1)
  have hap := appendSeqEnt 71 #[.pointer (some ⟨w.heap.size, 0, none⟩)] (enters_of Tryz.func71 (by kernel_rfl) rfl) (fun k => k < V.heap.size) _ L (by omega) V V (fun pre y W h => h) hit (Fr.refl _ _) (fun k h => h)
  clear hit hb1 hS
  obtain ⟨m, hm⟩ : ∃ m, m = L.length := ⟨_, rfl⟩
  have HM : Hid (m = L.length) := hm
  have hap2 : Calls Tryz.prog 70 #[.slice none 0 0, .func (.func 71) #[] #[.pointer (some ⟨w.heap.size, 0, none⟩)]] V fun e W' => ∃ a c, e = .returned (.slice a m c) ∧ Hid (EnOut w L (.returned (.slice a m c)) W') := hap.mono fun e W' ⟨v, he, hh, ho, f1⟩ => by
    obtain ⟨a, c, hv, hE⟩ := Ens.of hh
    subst hv
    rw [hm]
    exact ⟨a, c, he, a, c, rfl, hE, own_at (fun g hg => by have := ho g hg; have := f0.size; omega), f0.seq' f1⟩
  clear hap hm hn h f0 hsz
  go_enter Tryz.func39, Tryz.ntmps39
  go_wp2_with fail
  refine hap2.mono ?_
  rintro e w1 ⟨av, cv, rfl, HO⟩
  clear hap2
  go_wp2
  go_ret
  exact HO.out
theorem beh_key {ls : List Rec} {r : Rec} (h : r ∈ hist ls) : r.key.size ≤ 1000 := by
  have := (List.mem_filter.1 h).2
  unfold comB at this
  simp only [Bool.and_eq_true] at this
  have hk := this.2.2.2.2.2.2
  unfold keyB ekey at hk
  simp only [beq_iff_eq] at hk
  split at hk
  · simp at hk
  · omega
set_option maxRecDepth 100000 in
set_option maxHeartbeats 4000000 in
theorem behind_ok (a : Option Addr) (n c : Nat) (ls : List Rec) (hn : n = ls.length) (hf : n ≤ 100000) (q : Nat) (hq : q ≤ (hist ls).length) (w : World) (h : Recs w a c ls) :
    Calls Tryz.prog 14 #[.slice a n c, .int .i64 q] w fun e w' => BhOut w (beh ((hist ls).take q)) 0 e w' := by
  have hh := history_any a n c ls hn (by omega) w h
  have HKZ : Hid (∀ r ∈ hist ls, r.key.size ≤ 1000) := fun r hr => beh_key hr
  have hlen : (hist ls).length ≤ 100000 := by have := hist_len ls; omega
  generalize hist ls = hs at *
  obtain ⟨m, hm⟩ : ∃ m, m = hs.length := ⟨_, rfl⟩
  have HM : Hid (m = hs.length) := hm
  have hh2 : Calls Tryz.prog 17 #[.slice a n c] w fun e w' => ∃ a' c', e = .returned (.slice a' m c') ∧ Recs w' a' c' hs ∧ Fr (fun _ => False) w w' := hh.mono fun e w' ⟨a', c', he, hr, _, f⟩ => ⟨a', c', by rw [he, hm], hr, f⟩
  have hqm : q ≤ m := by omega
  have hq2 : ¬ (m : Int) < (q : Int) := by omega
  have hq3 : decide (m < q) = false := by simp; omega
  have hm9 : m ≤ 100000 := by omega
  clear hh h hn hf hm hq hlen
  go_enter Tryz.func14, Tryz.ntmps14
  go_wp2_with fail
  refine hh2.mono ?_
  rintro e w1 ⟨a', c', rfl, hr, f1⟩
  clear hh2
  have hle := hr.le
  have hmx := hr.max
  have hmc : (m : Int) ≤ (c' : Int) := by have := HM.out; omega
  have hqc : (q : Int) ≤ (c' : Int) := by omega
  have HR : Hid (∀ W, Fr (fun k => k = w1.heap.size) w1 W → Recs W a' c' hs) := fun W f => by
    refine ⟨hr.le, hr.max, ?_⟩
    rcases hr.at_ with h0 | ⟨b, off, rfl, hb, hc⟩
    · exact .inl h0
    · exact .inr ⟨b, off, rfl, Nat.lt_of_lt_of_le hb f.size, fun i r hr => range_fr (hc i r hr) f (by omega)⟩
  have HF1 : Hid (Fr (fun _ => False) w w1) := f1
  have HE0 : Hid (Em (w1.alloc (.map #[] 0)) w1.heap.size []) := Em.made w1
  have HFA : Hid (Fr (fun k => k = w1.heap.size) w1 (w1.alloc (.map #[] 0))) := (Fr.refl _ _).alloc _
  clear hr f1 hle
  have hmm := @run_makeMap Tryz.prog
  go_wp2
  clear hmm
  go_loopw [24] (fun i wr => ∃ k : Nat, k ≤ q ∧ i = .int .i64 k ∧ Hid (Em wr w1.heap.size (beh (hs.take k))) ∧ Fr (fun k => k = w1.heap.size) w1 wr) (fun i _ => q - (intOf i).toNat)
  case atStart => exact ⟨0, by omega, rfl, HE0, HFA.out⟩
  case round =>
    obtain ⟨k, hk, rfl, HE, F⟩ := hrel
    by_cases hlt : k < q
    · obtain ⟨r, hr⟩ : ∃ r, hs[k]? = some r := ⟨_, List.getElem?_eq_getElem (by have := HM.out; omega)⟩
      obtain ⟨bb, off, rfl, hbb, hcc⟩ := (HR.out _ F).some (by have := HM.out; omega)
      have hqq := rec_range (hcc k r hr)
      have HT : Hid (beh (hs.take (k + 1)) = wth (beh (hs.take k)) r) := by show _ = _; rw [take_snocH hr, beh_snoc]
      have fb := Fr.box wr (.cells #[.int .i64 r.lsn, .int .i64 r.ep, .int .i64 r.kind, .int .i64 r.page, .int .i64 r.other, .int .i64 r.req, .string r.key, .string r.val] 53)
      have hw := write_any (HE.out.same fb) (by have := len_beh (hs.take k); have : (hs.take k).length ≤ k := List.length_take_le _ _; omega) r (HKZ.out r (List.mem_of_getElem? hr))
      have hsz := F.size
      obtain ⟨q0, q1, q2, q3, q4, q5, q6, q7⟩ := hqq
      have hki : (k : Int) < (q : Int) := by omega
      obtain ⟨lsn, ep, kind, page, other, req, key, val⟩ := r
      dsimp only at hw q0 q1 q2 q3 q4 q5 q6 q7 fb
      clear hr hcc
      go_wp2_with fail
      refine hw.mono ?_
      rintro e w3 ⟨rfl, hE3, f3⟩
      have HE3 : Hid (Em w3 w1.heap.size (beh (hs.take (k + 1)))) := by show Em _ _ _; rw [HT.out]; exact hE3
      have F3 : Fr (fun k => k = w1.heap.size) w1 w3 := (F.trans fb (fun _ _ f => f.elim)).trans f3 (fun _ _ e => e)
      clear hw hE3 f3 fb q0 q1 q2 q3 q4 q5 q6 q7
      go_wp2
      go_roundw
      case rel => exact ⟨k + 1, by omega, by go_num, HE3, F3⟩
      case measure => simp [intOf]; omega
    · obtain rfl : k = q := by omega
      have hrc := rising_call w1.heap.size wr
      have hco := collect_rise w1.heap.size (beh (hs.take k)) (by have := len_beh (hs.take k); have : (hs.take k).length ≤ k := List.length_take_le _ _; omega) wr HE.out
      obtain ⟨L, hL⟩ : ∃ L, L = beh (hs.take k) := ⟨_, rfl⟩
      rw [← hL] at hco
      have HL : Hid (L = beh (hs.take k)) := hL
      clear hL
      obtain ⟨m2, hm2⟩ : ∃ m2, m2 = L.length := ⟨_, rfl⟩
      have HFF : Hid (Fr (fun _ => False) w wr) := HF1.out.trans F (fun i hi e => by have := HF1.out.size; omega)
      have hco2 : Calls Tryz.prog 39 #[.func (.func 71) #[] #[.pointer (some ⟨wr.heap.size, 0, none⟩)]] (wr.alloc (.cells #[.map (some w1.heap.size)] 79)) fun e W' => ∃ a c, e = .returned (.slice a m2 c) ∧ Hid (BhOut w L 0 (.returned (.tuple #[.slice a m2 c, .int .i64 0])) W') := hco.mono fun e W' ⟨a, c, he, hE, ho, f⟩ => by
        rw [hm2]
        exact ⟨a, c, he, a, c, rfl, hE, fun b off hb => by have := ho b off hb; have := HFF.out.size; omega, HFF.out.seq' f⟩
      clear hco hm2 HE F
      go_wp2_with fail
      refine hrc.mono ?_
      rintro e w5 ⟨rfl, rfl⟩
      clear hrc
      go_wp2_with fail
      refine hco2.mono ?_
      rintro e w6 ⟨a6, c6, rfl, HO⟩
      clear hco2
      go_wp2
      go_ret2
      rw [← HL.out]
      exact HO.out
set_option maxRecDepth 100000 in
set_option maxHeartbeats 4000000 in
theorem behind_no (a : Option Addr) (n c : Nat) (ls : List Rec) (hn : n = ls.length) (hf : n ≤ 100000) (q : Int) (hq : q < 0 ∨ ((hist ls).length : Int) < q) (w : World) (h : Recs w a c ls) :
    Calls Tryz.prog 14 #[.slice a n c, .int .i64 q] w fun e w' => BhOut w [] 1 e w' := by
  have hh := history_any a n c ls hn (by omega) w h
  generalize hist ls = hs at *
  obtain ⟨m, hm⟩ : ∃ m, m = hs.length := ⟨_, rfl⟩
  have hh2 : Calls Tryz.prog 17 #[.slice a n c] w fun e w' => ∃ a' c', e = .returned (.slice a' m c') ∧ Fr (fun _ => False) w w' := hh.mono fun e w' ⟨a', c', he, hr, _, f⟩ => ⟨a', c', by rw [he, hm], f⟩
  have hq2 : q < 0 ∨ (¬ q < 0 ∧ (m : Int) < q) := by omega
  clear hh h hn hf hm hq
  rcases hq2 with h1 | ⟨h1, h2⟩
  all_goals
    go_enter Tryz.func14, Tryz.ntmps14
    go_wp2_with fail
    refine hh2.mono ?_
    rintro e w1 ⟨a', c', rfl, f1⟩
    clear hh2
    go_wp2
    go_ret2
    exact ⟨none, 0, rfl, Ens.nil _, (fun b off e => by cases e), f1⟩
end Go.Proofs.YtdlnflcjodpkiaaGreat
