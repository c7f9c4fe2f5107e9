
/- Place, on both sides. -/
import Derived.Test.YtdlnflcjodpkiaaGreatFdHist
namespace Go.Proofs.YtdlnflcjodpkiaaGreat
open Go.RowKit Go.Shelf

/-- The first record of a request. -/
def plc (hs : List Rec) (q : Int) : Option Nat := hs.findIdx? (fun r => r.req == q)
theorem plc_at {hs : List Rec} {q : Int} {k : Nat} {r : Rec} (hr : hs[k]? = some r) (he : r.req = q) (hn : ∀ (j : Nat) (x : Rec), j < k → hs[j]? = some x → x.req ≠ q) : plc hs q = some k := by
  unfold plc
  rw [List.findIdx?_eq_some_iff_getElem]
  obtain ⟨hk, hr'⟩ := List.getElem?_eq_some_iff.1 hr
  refine ⟨hk, by rw [hr']; simpa using he, fun j hj => ?_⟩
  have := hn j _ hj (List.getElem?_eq_getElem (by omega))
  simpa using this
theorem plc_none {hs : List Rec} {q : Int} (hn : ∀ (j : Nat) (x : Rec), hs[j]? = some x → x.req ≠ q) : plc hs q = none := by
  unfold plc
  rw [List.findIdx?_eq_none_iff]
  intro x hx
  obtain ⟨j, hj, rfl⟩ := List.getElem_of_mem hx
  simpa using hn j _ (List.getElem?_eq_getElem hj)
set_option maxRecDepth 100000 in
set_option maxHeartbeats 2000000 in
theorem place1_any (r : Rec) (q : Int) (B : Nat) (w : World) (hB : w.cell? ⟨B, 0, none⟩ = some (.int .i64 q)) (hz : B < w.heap.size) : Calls Tryz.prog 55 #[(.agg #[.int .i64 r.lsn, .int .i64 r.ep, .int .i64 r.kind, .int .i64 r.page, .int .i64 r.other, .int .i64 r.req, .string r.key, .string r.val]), .pointer (some ⟨B, 0, none⟩)] w fun e w' => e = .returned (.bool (r.req == q)) ∧ Fr (fun _ => False) w w' := by
  obtain ⟨lsn, ep, kind, page, other, req, key, val⟩ := r
  dsimp only
  have f0 := Fr.box w (.cells #[.int .i64 lsn, .int .i64 ep, .int .i64 kind, .int .i64 page, .int .i64 other, .int .i64 req, .string key, .string val] 53)
  go_enter Tryz.func55, Tryz.ntmps55
  go_wp2
  go_ret
  exact ⟨rfl, f0⟩
def plI (o : Option Nat) : Int := match o with | none => -1 | some k => k
set_option maxRecDepth 100000 in
set_option maxHeartbeats 4000000 in
theorem idxf_any (a : Option Addr) (n c : Nat) (hs : List Rec) (hn : n = hs.length) (q : Int) (B : Nat) (w : World) (hB : w.heap[B]? = some (.cells #[.int .i64 q] 3 (0, 0))) (r : Recs w a c hs) :
    Calls Tryz.prog 54 #[.slice a n c, .func (.func 55) #[] #[.pointer (some ⟨B, 0, none⟩)]] w fun e w' => e = .returned (.int .i64 (plI (plc hs q))) ∧ Fr (fun _ => False) w w' := by
  have hl1 : n ≤ c := by rw [hn]; exact r.le
  have hm2 := r.max
  have HS1 : Hid (∀ W, Fr (fun _ => False) w W → Recs W a c hs) := fun W f => r.same f
  have HB : Hid (∀ W, Fr (fun _ => False) w W → W.heap[B]? = some (.cells #[.int .i64 q] 3 (0, 0))) := fun W f => f.blk hB (fun f => f)
  have HN : Hid (n = hs.length) := hn
  clear r hn hB
  go_enter Tryz.func54, Tryz.ntmps54
  go_wp2
  go_loopw [8] (fun i wr => ∃ k : Nat, k ≤ n ∧ i = .int .i64 k ∧ Hid (∀ (j : Nat) (x : Rec), j < k → hs[j]? = some x → x.req ≠ q) ∧ Fr (fun _ => False) w wr) (fun i _ => n - (intOf i).toNat)
  case atStart => exact ⟨0, by omega, rfl, (fun j x h => by omega), Fr.refl _ _⟩
  case round =>
    obtain ⟨k, hk, rfl, HE, F⟩ := hrel
    by_cases hlt : k < n
    · obtain ⟨r, hr⟩ : ∃ r, hs[k]? = some r := ⟨_, List.getElem?_eq_getElem (by have := HN.out; omega)⟩
      obtain ⟨b1, o1, rfl, hb1, hcc1⟩ := (HS1.out _ F).some (by have := HN.out; omega)
      obtain ⟨q0, q1, q2, q3, q4, q5, q6, q7⟩ := rec_range (hcc1 k r hr)
      have hki : (k : Int) < (n : Int) := by omega
      have hp := place1_any r q B wr (one_cells (HB.out _ F)).1 (lt_of_block (HB.out _ F))
      have HY : Hid (r.req = q → plc hs q = some k) := fun h => plc_at hr h HE.out
      have HNO : Hid (r.req ≠ q → ∀ (j : Nat) (x : Rec), j < k + 1 → hs[j]? = some x → x.req ≠ q) := fun h j x hj hx => by
        rcases Nat.lt_or_ge j k with h1 | h1
        · exact HE.out j x h1 hx
        · have : j = k := by omega
          subst this
          rw [hr] at hx; cases hx; exact h
      obtain ⟨lsn, ep, kind, page, other, req, key, val⟩ := r
      dsimp only at q0 q1 q2 q3 q4 q5 q6 q7 hp HY HNO
      clear hr hcc1
      by_cases hq : req = q
      · have HP : Hid (plI (plc hs q) = (k : Int)) := by show _ = _; rw [HY.out hq]; rfl
        have hq' : (req == q) = true := by simpa using hq
        rw [hq'] at hp
        clear HY HNO hq hq'
        go_wp2_with fail
        refine hp.mono ?_
        rintro e w3 ⟨rfl, f3⟩
        clear hp
        go_wp2
        go_ret
        exact ⟨ret_int HP.out.symm, F.seq' f3⟩
      · have hq' : (req == q) = false := by simpa using hq
        have HN2 := HNO.out hq
        have HN3 : Hid (∀ (j : Nat) (x : Rec), j < k + 1 → hs[j]? = some x → x.req ≠ q) := HN2
        rw [hq'] at hp
        clear HY HNO hq hq' HN2
        go_wp2_with fail
        refine hp.mono ?_
        rintro e w3 ⟨rfl, f3⟩
        clear hp
        go_wp2
        go_roundw
        case rel => exact ⟨k + 1, by omega, by go_num, HN3, F.seq' f3⟩
        case measure => simp [intOf]; omega
    · obtain rfl : k = n := by omega
      have HP : Hid (plI (plc hs q) = -1) := by
        show _ = _
        rw [plc_none (fun j x hx => HE.out j x (by have := (List.getElem?_eq_some_iff.1 hx).1; have := HN.out; omega) hx)]; rfl
      go_wp2
      go_ret
      exact ⟨ret_int HP.out.symm, F⟩
def plV (o : Option Nat) : Value := .tuple #[.int .i64 ((o.getD 0 : Nat) : Int), .bool o.isSome]
set_option maxRecDepth 100000 in
set_option maxHeartbeats 4000000 in
theorem place_any (a : Option Addr) (n c : Nat) (ls : List Rec) (hn : n = ls.length) (hf : n ≤ 100000) (q : Int) (w : World) (h : Recs w a c ls) :
    Calls Tryz.prog 23 #[.slice a n c, .int .i64 q] w fun e w' => e = .returned (plV (plc (hist ls) q)) ∧ Fr (fun _ => False) w w' := by
  have f0 := Fr.box w (.cells #[.int .i64 q] 3)
  have hB := heap_alloc_new w (.cells #[.int .i64 q] 3)
  have hh := history_any a n c ls hn (by omega) _ (h.same f0)
  generalize hist ls = hs at *
  obtain ⟨m, hm⟩ : ∃ m, m = hs.length := ⟨_, rfl⟩
  have HM : Hid (m = hs.length) := hm
  have hh2 : Calls Tryz.prog 17 #[.slice a n c] (w.alloc (.cells #[.int .i64 q] 3)) fun e w' => ∃ a' c', e = .returned (.slice a' m c') ∧ Recs w' a' c' hs ∧ Fr (fun _ => False) (w.alloc (.cells #[.int .i64 q] 3)) w' := hh.mono fun e w' ⟨a', c', he, hr, _, f⟩ => ⟨a', c', by rw [he, hm], hr, f⟩
  clear hh h hn hf hm
  go_enter Tryz.func23, Tryz.ntmps23
  go_wp2_with fail
  refine hh2.mono ?_
  rintro e w1 ⟨a', c', rfl, hr, f1⟩
  clear hh2
  have hi := idxf_any a' m c' hs HM.out q w.heap.size w1 (f1.blk hB (fun f => f)) hr
  clear hr hB
  cases hp : plc hs q with
  | none =>
    rw [hp] at hi
    go_wp2_with fail
    refine hi.mono ?_
    rintro e w2 ⟨rfl, f2⟩
    clear hi
    show _
    simp only [plI]
    go_wp2
    go_ret2
    exact ⟨by rw [hp]; rfl, (f0.seq' f1).seq' f2⟩
  | some k =>
    rw [hp] at hi
    simp only [plI] at hi
    have hk0 : ¬ (k : Int) < 0 := by omega
    go_wp2_with fail
    refine hi.mono ?_
    rintro e w2 ⟨rfl, f2⟩
    clear hi
    go_wp2
    go_ret2
    exact ⟨by rw [hp]; rfl, (f0.seq' f1).seq' f2⟩
set_option maxRecDepth 100000 in
set_option maxHeartbeats 4000000 in
theorem rplace_any (a : Option Addr) (n c : Nat) (ls : List Rec) (hn : n = ls.length) (hf : n ≤ 100000) (q : Int) (w : World) (h : Recs w a c ls) :
    Calls Tryz.prog 24 #[.slice a n c, .int .i64 q] w fun e w' => e = .returned (plV (plc (hist ls) q)) ∧ Fr (fun _ => False) w w' := by
  have hh := rhistory_any a n c ls hn (by omega) w h
  generalize hist ls = hs at *
  obtain ⟨m, hm⟩ : ∃ m, m = hs.length := ⟨_, rfl⟩
  have HM : Hid (m = hs.length) := hm
  have hh2 : Calls Tryz.prog 18 #[.slice a n c] w fun e w' => ∃ a' c', e = .returned (.slice a' m c') ∧ Recs w' a' c' hs ∧ Fr (fun _ => False) w w' := hh.mono fun e w' ⟨a', c', he, hr, _, f⟩ => ⟨a', c', by rw [he, hm], hr, f⟩
  clear hh h hn hf hm
  go_enter Tryz.func24, Tryz.ntmps24
  go_wp2_with fail
  refine hh2.mono ?_
  rintro e w1 ⟨a', c', rfl, hr, f1⟩
  clear hh2
  have HS1 : Hid (∀ W, Fr (fun _ => False) w1 W → Recs W a' c' hs) := fun W f => hr.same f
  have hc3 : m ≤ c' := by have := hr.le; have := HM.out; omega
  have hc3m := hr.max
  have HF1 : Hid (Fr (fun _ => False) w w1) := f1
  clear hr f1
  go_wp2
  go_loopw [11] (fun i wr => ∃ k : Nat, k ≤ m ∧ i = .int .i64 k ∧ Hid (∀ (j : Nat) (x : Rec), j < k → hs[j]? = some x → x.req ≠ q) ∧ Fr (fun _ => False) w1 wr) (fun i _ => m - (intOf i).toNat)
  case atStart => exact ⟨0, by omega, rfl, (fun j x h => by omega), Fr.refl _ _⟩
  case round =>
    obtain ⟨k, hk, rfl, HE, F⟩ := hrel
    by_cases hlt : k < m
    · obtain ⟨r, hr⟩ : ∃ r, hs[k]? = some r := ⟨_, List.getElem?_eq_getElem (by have := HM.out; omega)⟩
      obtain ⟨b1, o1, rfl, hb1, hcc1⟩ := (HS1.out _ F).some (by have := HM.out; omega)
      obtain ⟨q0, q1, q2, q3, q4, q5, q6, q7⟩ := rec_range (hcc1 k r hr)
      have hki : (k : Int) < (m : Int) := by omega
      have HY : Hid (r.req = q → plc hs q = some k) := fun h => plc_at hr h HE.out
      have HNO : Hid (r.req ≠ q → ∀ (j : Nat) (x : Rec), j < k + 1 → hs[j]? = some x → x.req ≠ q) := fun h j x hj hx => by
        rcases Nat.lt_or_ge j k with h1 | h1
        · exact HE.out j x h1 hx
        · have : j = k := by omega
          subst this
          rw [hr] at hx; cases hx; exact h
      obtain ⟨lsn, ep, kind, page, other, req, key, val⟩ := r
      dsimp only at q0 q1 q2 q3 q4 q5 q6 q7 HY HNO
      have F1 := F.alloc (.cells #[.int .i64 lsn, .int .i64 ep, .int .i64 kind, .int .i64 page, .int .i64 other, .int .i64 req, .string key, .string val] 53)
      clear hr hcc1
      by_cases hq : req = q
      · have HP : Hid (plc hs q = some k) := HY.out hq
        have hq' : (req == q) = true := by simpa using hq
        clear HY HNO hq
        go_wp2
        go_ret2
        exact ⟨by rw [HP.out]; rfl, HF1.out.seq' F1⟩
      · have hq' : (req == q) = false := by simpa using hq
        have HN3 : Hid (∀ (j : Nat) (x : Rec), j < k + 1 → hs[j]? = some x → x.req ≠ q) := HNO.out hq
        clear HY HNO hq
        go_wp2
        go_roundw
        case rel => exact ⟨k + 1, by omega, by go_num, HN3, F1⟩
        case measure => simp [intOf]; omega
    · obtain rfl : k = m := by omega
      have HP : Hid (plc hs q = none) := plc_none (fun j x hx => HE.out j x (by have := (List.getElem?_eq_some_iff.1 hx).1; have := HM.out; omega) hx)
      go_wp2
      go_ret2
      exact ⟨by rw [HP.out]; rfl, HF1.out.seq' F⟩
end Go.Proofs.YtdlnflcjodpkiaaGreat
