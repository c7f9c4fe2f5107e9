/- For every row of bytes and every list of steps of up to 1048576 values together latticelaw03.DiskLasts answers true: what was synced lasts, whatever is written to other sectors, and however often it crashes, until it is written again (3.4). -/
import Derived.Test.YtplkdjmajagpcaaArgs
import Derived.Test.YtplkdjmajagpcaaDkAll
import Derived.Test.YtplkdjmajagpcaaSteps
import Derived.Test.YtplkdjmajagpcaaBulk
import Derived.JoinedCond
import Derived.Test.YtplkdjmajagpcaaDkAll
namespace Go.Proofs.Ytplkdjmajagpcaa.diskLasts
open Go.ChangeShapes Go.WideShapes Go.ChangeAt Go.RowKit
open Go.ChangeMaps (open_string shut_string)
set_option linter.unusedVariables false

theorem own : ownKnob Try.prog.godebug = none := by kernel_rfl
theorem laidOut : laidOutB Try.prog = true := by kernel_rfl
theorem bytes8 : Try.prog.bytesOf 5 = 1 := by kernel_rfl

/-- What is not written stays. -/
theorem doAll_far (L : List Sec) (Q : List (Nat × Sec)) (i : Nat) (h : ∀ q ∈ Q, q.1 ≠ i) : (doAll L Q).getD i zeroSec = L.getD i zeroSec := by
  induction Q generalizing L with
  | nil => rfl
  | cons q Q ih =>
    show (doAll (L.set q.1 q.2) Q).getD i zeroSec = _
    rw [ih _ (fun x hx => h x (List.mem_cons_of_mem _ hx)), List.getD_eq_getElem?_getD, List.getD_eq_getElem?_getD, List.getElem?_set_ne (h q (by simp))]
theorem seen_far (L : List Sec) (Q : List (Nat × Sec)) (i : Nat) (h : ∀ q ∈ Q, q.1 ≠ i) : seen L Q i = L.getD i zeroSec := by
  unfold seen
  generalize L.getD i zeroSec = s
  induction Q with
  | nil => rfl
  | cons q Q ih =>
    rw [List.foldl_cons, if_neg (h q (by simp))]
    exact ih (fun x hx => h x (List.mem_cons_of_mem _ hx))
theorem crashed_length (L : List Sec) (Q : List (Nat × Sec)) (k t : Nat) : (crashed L Q k t).length = L.length := by
  unfold crashed
  split
  · exact doAll_length _ _
  · rw [List.length_set]; exact doAll_length _ _
theorem crashed_far (L : List Sec) (Q : List (Nat × Sec)) (k t i : Nat) (h : ∀ q ∈ Q, q.1 ≠ i) : (crashed L Q k t).getD i zeroSec = L.getD i zeroSec := by
  have h1 := doAll_far L (Q.take k) i (fun q hq => h q (List.mem_of_mem_take hq))
  unfold crashed
  split
  · exact h1
  · rename_i q hq
    rw [List.getD_eq_getElem?_getD, List.getElem?_set_ne (h q (List.mem_of_getElem? hq)), ← List.getD_eq_getElem?_getD]
    exact h1
/-- How a step leaves a disk whose sector 3 lasts as s. -/
structure Keeps (s : Sec) (k : Nat) (L : List Sec) (Q : List (Nat × Sec)) : Prop where
  len : L.length = 8
  last : L.getD 3 zeroSec = s
  far : ∀ q ∈ Q, q.1 ≠ 3
  few : Q.length ≤ k
theorem Keeps.write {s : Sec} {k : Nat} {L : List Sec} {Q : List (Nat × Sec)} (h : Keeps s k L Q) (i : Int) (l : List Nat) (hi : ¬ i = 3) : Keeps s (k + 1) L (wrS L Q i l).2 := by
  unfold wrS
  split
  · exact ⟨h.len, h.last, h.far, by have := h.few; show Q.length ≤ _; omega⟩
  · split
    · exact ⟨h.len, h.last, h.far, by have := h.few; show Q.length ≤ _; omega⟩
    · refine ⟨h.len, h.last, fun q hq => ?_, by have := h.few; simp; omega⟩
      rcases List.mem_append.1 hq with h1 | h1
      · exact h.far q h1
      · obtain rfl := List.mem_singleton.1 h1
        show i.toNat ≠ 3
        omega
theorem Keeps.sync {s : Sec} {k : Nat} {L : List Sec} {Q : List (Nat × Sec)} (h : Keeps s k L Q) : Keeps s (k + 1) (doAll L Q) [] :=
  ⟨(doAll_length _ _).trans h.len, (doAll_far L Q 3 h.far).trans h.last, (fun q hq => by cases hq), by simp⟩
theorem Keeps.crash {s : Sec} {k : Nat} {L : List Sec} {Q : List (Nat × Sec)} (h : Keeps s k L Q) (a b : Int) : Keeps s (k + 1) (crS L Q a b).2.1 (crS L Q a b).2.2 := by
  unfold crS
  split
  · exact ⟨h.len, h.last, h.far, by have := h.few; show Q.length ≤ _; omega⟩
  · exact ⟨(crashed_length _ _ _ _).trans h.len, (crashed_far L Q _ _ 3 h.far).trans h.last, (fun q hq => by cases hq), by simp⟩
theorem Keeps.more {s : Sec} {k : Nat} {L : List Sec} {Q : List (Nat × Sec)} (h : Keeps s k L Q) : Keeps s (k + 1) L Q := ⟨h.len, h.last, h.far, by have := h.few; omega⟩

set_option maxRecDepth 100000 in
set_option maxHeartbeats 4000000 in
theorem walk (w : World) (a0 : Option Addr) (len0 cap0 : Nat) (l0 : List Nat) (hl0 : len0 = l0.length) (z0 : cap0 ≤ 1048576) (hr0 : Row w a0 cap0 l0) (a1 : Option Addr) (len1 cap1 : Nat) (ss1 : List St) (hl1 : len1 = ss1.length) (z1 : ss1.length ≤ 1048576) (hr1 : Steps w a1 cap1 ss1) :
    Calls Try.prog 4 #[.slice a0 len0 cap0, .slice a1 len1 cap1] w fun e w' => e = .returned (.bool true) ∧ Fr (fun _ => False) w w' := by
  subst hl0
  obtain ⟨n, hn⟩ : ∃ n, n = ss1.length := ⟨_, rfl⟩
  have HN : Hid (n = ss1.length) := hn
  rw [hl1, ← hn]
  rw [← hn] at z1
  clear hl1 hn
  by_cases hlong : 256 < l0.length
  · have hl' : (256 : Int) < (l0.length : Int) := by omega
    go_enter Try.func4, Try.ntmps4
    go_wp2_with fail
    refine (dnew_ok 8 (by omega) (by omega) _).mono ?_
    rintro e w1 ⟨rfl, k1, f1⟩
    go_wp2_with fail
    refine (write_long _ _ _ _ _ _ k1 3 (by simp) a0 l0.length cap0 hlong).mono ?_
    rintro e w2 ⟨rfl, rfl⟩
    go_wp2_with fail
    refine (dspeaks_any _).mono ?_
    rintro e w3 ⟨rfl, f3⟩
    go_wp2
    go_ret
    exact ⟨rfl, f1.false_trans f3⟩
  · have hshort : l0.length ≤ 256 := by omega
    clear hlong
    obtain ⟨s, hs⟩ : ∃ s, s = padSec l0 hshort hr0.byte := ⟨_, rfl⟩
    go_enter Try.func4, Try.ntmps4
    go_wp2_with fail
    refine (dnew_ok 8 (by omega) (by omega) _).mono ?_
    rintro e w1 ⟨rfl, k1, f1⟩
    have d1 := DkA.new k1 f1
    have r1 := hr0.same f1
    clear k1 f1
    obtain ⟨db, hdb⟩ : ∃ db, db = w.heap.size + 1 := ⟨_, rfl⟩
    obtain ⟨lv, hlv⟩ : ∃ lv, lv = Value.slice (some ⟨w.heap.size, 0, none⟩) 8 8 := ⟨_, rfl⟩
    rw [← hdb, ← hlv] at d1
    rw [← hdb]
    clear hdb hlv
    go_wp2_with fail
    refine (write_ok db lv _ _ [] _ d1.dk 3 (by simp) a0 cap0 l0 r1 hshort (by simp)).mono ?_
    rintro e w2 ⟨rfl, wv2, k2, f2, o2⟩
    have d2 := d1.step k2 f2 o2
    rw [← hs] at d2
    clear k2 f2 o2 d1 r1
    go_wp2_with fail
    refine (sync_any db lv _ _ _ _ d2.dk).mono ?_
    rintro e w3 ⟨rfl, k3, f3⟩
    have d3 := d2.emptied k3 f3
    have hK0 : Keeps s 0 (doAll (List.replicate 8 zeroSec) ([] ++ [(3, s)])) [] := by
      refine ⟨by rw [doAll_length, List.length_replicate], ?_, (fun q hq => by cases hq), by simp⟩
      show ((List.replicate 8 zeroSec).set 3 s).getD 3 zeroSec = s
      rfl
    generalize doAll (List.replicate 8 zeroSec) ([] ++ [(3, s)]) = M at *
    clear k3 f3 d2 hs
    go_wp2_with fail
    refine (lasts_ok db lv _ _ _ _ d3.dk 3 (by rw [hK0.len]; omega)).mono ?_
    rintro e w4 ⟨a4, rfl, r4, f4, n4⟩
    rw [hK0.last] at r4
    have o4 : Off w4 db lv (.slice none 0 0) a4 256 s.1 := ⟨r4, fun b off ha _ => dfar_new d3.dk n4 b off ha⟩
    have d4 := d3.same f4
    clear r4 n4 f4 d3
    go_wp2
    go_loopw [57] (fun t wr => ∃ (k : Nat) (wv : Value) (L : List Sec) (Q : List (Nat × Sec)), k ≤ n ∧ t = .int .i64 k ∧ DkA w wr db lv wv L Q ∧ Keeps s k L Q ∧ Off wr db lv wv a4 256 s.1)
      (fun t _ => n - (intOf t).toNat)
    case atStart => exact ⟨0, _, _, _, by omega, rfl, d4, hK0, o4⟩
    case round =>
    obtain ⟨k, wv, L, Q, hk, rfl, hd, hK, ho⟩ := hrel
    by_cases hlt : k < n
    · obtain ⟨st, hst⟩ : ∃ st, ss1[k]? = some st := ⟨_, List.getElem?_eq_getElem (by rw [← HN.out]; exact hlt)⟩
      have hS := hr1.same hd.fr
      have hmem := List.mem_of_getElem? hst
      have hrow := hS.row st hmem
      rcases hS.at_ with h0 | ⟨b, off, ha1, hb, hcell⟩
      · rw [h0] at hst; cases hst
      obtain ⟨c0, c1, c2, c3⟩ := hcell k st hst
      subst ha1
      obtain ⟨kk, aa, cc, ad, cp, l⟩ := st
      simp only at c0 c1 c2 c3 hrow
      have hki : (k : Int) < (n : Int) := by omega
      have fW : Fr (fun _ => False) wr (wr.alloc (.cells #[.int .i64 kk, .int .i64 aa, .int .i64 cc, .slice ad l.length cp] 33)) := (Fr.refl (fun _ => False) wr).alloc _
      have hdW := hd.same fW
      have hoW := ho.same fW
      have hrW : l.length ≤ 65535 → Row (wr.alloc (.cells #[.int .i64 kk, .int .i64 aa, .int .i64 cc, .slice ad l.length cp] 33)) ad cp l := fun h => (hrow h).same fW
      have hQ : Q.length ≤ 10000000 := by have := hK.few; omega
      have HKK : Hid (Keeps s k L Q) := hK
      clear hd ho hrow hst hmem hS hcell hK fW
      by_cases hk0 : kk = 0
      · subst hk0
        by_cases h3 : aa = 3
        · subst h3
          obtain ⟨L5, rfl⟩ : ∃ L5, L5 = L := ⟨_, rfl⟩
          obtain ⟨Q5, rfl⟩ : ∃ Q5, Q5 = Q := ⟨_, rfl⟩
          have hd5 := hdW
          have ho5 := hoW
          have hK5 := HKK.out.more
          clear hdW hoW hQ hrW
          go_wp2_with fail
          have HK : Hid (Keeps s (k + 1) L5 Q5) := hK5
          have hl5 : L5.length = 8 := hK5.len
          have hs5 : seen L5 Q5 3 = s := (seen_far L5 Q5 3 hK5.far).trans hK5.last
          have ht5 : L5.getD 3 zeroSec = s := hK5.last
          clear hK5
          refine (lasts_ok db lv _ _ _ _ hd5.dk 3 (by omega)).mono ?_
          rintro e w6 ⟨a6, rfl, r6, f6, _⟩
          rw [ht5] at r6
          have hd6 := hd5.same f6
          have ho6 := ho5.same f6
          clear hd5 ho5 f6 ht5
          go_wp2_with fail
          refine (read_ok db lv _ _ _ _ hd6.dk 3 (by omega)).mono ?_
          rintro e w7 ⟨a7, rfl, r7, f7, _⟩
          rw [hs5] at r7
          have r67 := r6.same f7
          have hd7 := hd6.same f7
          have ho7 := ho6.same f7
          have s256 := s.2.1
          have cva := run_str (P := Try.prog) (src := 31) (dst := 9) Try.underlying31 Try.underlying5 Try.underlying9 r67 256 s256.symm
          have cvb := run_str (P := Try.prog) (src := 31) (dst := 9) Try.underlying31 Try.underlying5 Try.underlying9 r7 256 s256.symm
          have cvc := run_str (P := Try.prog) (src := 31) (dst := 9) Try.underlying31 Try.underlying5 Try.underlying9 ho7.row 256 s256.symm
          clear r6 r67 r7 hd6 ho6 f7 hs5 s256 hl5
          go_wp2
          go_roundw
          case rel => exact ⟨k + 1, _, _, _, by omega, by go_num, hd7, HK.out, ho7⟩
          case measure => simp [intOf]; omega
        · have h3' : (aa == 3) = false := by simpa using h3
          have HW : Hid (Keeps s (k + 1) L (wrS L Q aa l).2) := HKK.out.write aa l h3
          go_wp2_with fail
          refine (write_all db lv wv L Q _ hdW.dk aa ad cp l hrW hQ).mono ?_
          rintro e w5 ⟨rfl, wv5, k5, f5, o5⟩
          have hd5 := hdW.go k5 f5 o5
          have ho5 := hoW.go f5 o5
          have hK5 := HW.out
          clear k5 f5 o5 hdW hoW HW
          generalize (wrS L Q aa l).2 = Q5 at *
          generalize (wrS L Q aa l).1 = r5 at *
          obtain ⟨L5, rfl⟩ : ∃ L5, L5 = L := ⟨_, rfl⟩
          go_wp2_with fail
          have HK : Hid (Keeps s (k + 1) L5 Q5) := hK5
          have hl5 : L5.length = 8 := hK5.len
          have hs5 : seen L5 Q5 3 = s := (seen_far L5 Q5 3 hK5.far).trans hK5.last
          have ht5 : L5.getD 3 zeroSec = s := hK5.last
          clear hK5
          refine (lasts_ok db lv _ _ _ _ hd5.dk 3 (by omega)).mono ?_
          rintro e w6 ⟨a6, rfl, r6, f6, _⟩
          rw [ht5] at r6
          have hd6 := hd5.same f6
          have ho6 := ho5.same f6
          clear hd5 ho5 f6 ht5
          go_wp2_with fail
          refine (read_ok db lv _ _ _ _ hd6.dk 3 (by omega)).mono ?_
          rintro e w7 ⟨a7, rfl, r7, f7, _⟩
          rw [hs5] at r7
          have r67 := r6.same f7
          have hd7 := hd6.same f7
          have ho7 := ho6.same f7
          have s256 := s.2.1
          have cva := run_str (P := Try.prog) (src := 31) (dst := 9) Try.underlying31 Try.underlying5 Try.underlying9 r67 256 s256.symm
          have cvb := run_str (P := Try.prog) (src := 31) (dst := 9) Try.underlying31 Try.underlying5 Try.underlying9 r7 256 s256.symm
          have cvc := run_str (P := Try.prog) (src := 31) (dst := 9) Try.underlying31 Try.underlying5 Try.underlying9 ho7.row 256 s256.symm
          clear r6 r67 r7 hd6 ho6 f7 hs5 s256 hl5
          go_wp2
          go_roundw
          case rel => exact ⟨k + 1, _, _, _, by omega, by go_num, hd7, HK.out, ho7⟩
          case measure => simp [intOf]; omega
      · have hk0' : (kk == 0) = false := by simpa using hk0
        by_cases hk1 : kk = 1
        · subst hk1
          go_wp2_with fail
          refine (sync_all db lv wv L Q _ hdW.dk).mono ?_
          rintro e w5 ⟨rfl, wv5, k5, f5, o5⟩
          have hd5 := hdW.go k5 f5 o5
          have ho5 := hoW.go f5 o5
          have hK5 := HKK.out.sync
          clear k5 f5 o5 hdW hoW hQ hrW
          generalize doAll L Q = L5 at *
          obtain ⟨Q5, hQ5⟩ : ∃ Q5, Q5 = ([] : List (Nat × Sec)) := ⟨_, rfl⟩
          rw [← hQ5] at hd5 hK5
          clear hQ5
          go_wp2_with fail
          have HK : Hid (Keeps s (k + 1) L5 Q5) := hK5
          have hl5 : L5.length = 8 := hK5.len
          have hs5 : seen L5 Q5 3 = s := (seen_far L5 Q5 3 hK5.far).trans hK5.last
          have ht5 : L5.getD 3 zeroSec = s := hK5.last
          clear hK5
          refine (lasts_ok db lv _ _ _ _ hd5.dk 3 (by omega)).mono ?_
          rintro e w6 ⟨a6, rfl, r6, f6, _⟩
          rw [ht5] at r6
          have hd6 := hd5.same f6
          have ho6 := ho5.same f6
          clear hd5 ho5 f6 ht5
          go_wp2_with fail
          refine (read_ok db lv _ _ _ _ hd6.dk 3 (by omega)).mono ?_
          rintro e w7 ⟨a7, rfl, r7, f7, _⟩
          rw [hs5] at r7
          have r67 := r6.same f7
          have hd7 := hd6.same f7
          have ho7 := ho6.same f7
          have s256 := s.2.1
          have cva := run_str (P := Try.prog) (src := 31) (dst := 9) Try.underlying31 Try.underlying5 Try.underlying9 r67 256 s256.symm
          have cvb := run_str (P := Try.prog) (src := 31) (dst := 9) Try.underlying31 Try.underlying5 Try.underlying9 r7 256 s256.symm
          have cvc := run_str (P := Try.prog) (src := 31) (dst := 9) Try.underlying31 Try.underlying5 Try.underlying9 ho7.row 256 s256.symm
          clear r6 r67 r7 hd6 ho6 f7 hs5 s256 hl5
          go_wp2
          go_roundw
          case rel => exact ⟨k + 1, _, _, _, by omega, by go_num, hd7, HK.out, ho7⟩
          case measure => simp [intOf]; omega
        · have hk1' : (kk == 1) = false := by simpa using hk1
          go_wp2_with fail
          refine (crash_all db lv wv L Q _ hdW.dk aa cc).mono ?_
          rintro e w5 ⟨rfl, wv5, k5, f5, o5⟩
          have hd5 := hdW.go k5 f5 o5
          have ho5 := hoW.go f5 o5
          have hK5 := HKK.out.crash aa cc
          clear k5 f5 o5 hdW hoW hQ hrW
          generalize (crS L Q aa cc).1 = r5 at *
          generalize (crS L Q aa cc).2.1 = L5 at *
          generalize (crS L Q aa cc).2.2 = Q5 at *
          go_wp2_with fail
          have HK : Hid (Keeps s (k + 1) L5 Q5) := hK5
          have hl5 : L5.length = 8 := hK5.len
          have hs5 : seen L5 Q5 3 = s := (seen_far L5 Q5 3 hK5.far).trans hK5.last
          have ht5 : L5.getD 3 zeroSec = s := hK5.last
          clear hK5
          refine (lasts_ok db lv _ _ _ _ hd5.dk 3 (by omega)).mono ?_
          rintro e w6 ⟨a6, rfl, r6, f6, _⟩
          rw [ht5] at r6
          have hd6 := hd5.same f6
          have ho6 := ho5.same f6
          clear hd5 ho5 f6 ht5
          go_wp2_with fail
          refine (read_ok db lv _ _ _ _ hd6.dk 3 (by omega)).mono ?_
          rintro e w7 ⟨a7, rfl, r7, f7, _⟩
          rw [hs5] at r7
          have r67 := r6.same f7
          have hd7 := hd6.same f7
          have ho7 := ho6.same f7
          have s256 := s.2.1
          have cva := run_str (P := Try.prog) (src := 31) (dst := 9) Try.underlying31 Try.underlying5 Try.underlying9 r67 256 s256.symm
          have cvb := run_str (P := Try.prog) (src := 31) (dst := 9) Try.underlying31 Try.underlying5 Try.underlying9 r7 256 s256.symm
          have cvc := run_str (P := Try.prog) (src := 31) (dst := 9) Try.underlying31 Try.underlying5 Try.underlying9 ho7.row 256 s256.symm
          clear r6 r67 r7 hd6 ho6 f7 hs5 s256 hl5
          go_wp2
          go_roundw
          case rel => exact ⟨k + 1, _, _, _, by omega, by go_num, hd7, HK.out, ho7⟩
          case measure => simp [intOf]; omega
    · have : k = n := by omega
      subst this
      go_wp2_with fail
      refine (dspeaks_any _).mono ?_
      rintro e w9 ⟨rfl, f9⟩
      go_wp2
      go_ret
      exact ⟨rfl, hd.fr.false_trans f9⟩

set_option maxRecDepth 100000 in
theorem lifted (os : Os) (started : os.Started) (H : Type) (enc : TypeId × Value → H) (F : Stop.Interp) :
    ReturnsInHanded {} Try.checked os 4 .any ((Rows.OpenSpec.upto Rows.diskLastsSpec).pre6 enc Try.prog Try.f4 Rows.diskLastsUptoRow.domain false) (((Rows.OpenSpec.upto Rows.diskLastsSpec).at F).post enc Try.prog Try.f4 false true false false) := by
  refine returnsInHanded_of_cond (C := Try.checked) (s := Rows.OpenSpec.upto Rows.diskLastsSpec) (k := Rows.uptoSmall) rfl own started (by kernel_rfl) Try.func4
    (OpenSpec.witness (enc := enc) (C := Try.checked) (s := Rows.OpenSpec.upto Rows.diskLastsSpec) (k := Rows.uptoSmall) rfl false ⟨#[], #[.slice none 0 0, .slice none 0 0], []⟩ 8 (by kernel_rfl) (by kernel_rfl) (by kernel_rfl)
      (x := ([.nil, .nil], [], [])) (by kernel_rfl) rfl (by kernel_rfl)) ?_
  intro W base args ds gs before hval0 hW hcnd hk0 _
  have hbulk : Rows.uptoBulkAll (ds ++ gs) ≤ 1048576 := of_decide_eq_true hk0
  clear hk0
  have hval : ∀ (j : Nat) t v, Try.f4.params[j]? = some t → args[j]? = some v → Value.okWide Try.prog W .any base t v := hval0
  have hW' := hW
  obtain ⟨p, q, hA0, hV, rfl, hfz, hnd⟩ := hW
  have hA : DataW.TrodAll enc Try.prog W 0 (fun _ => true) true Try.f4.params.toList args.toList ds p := hA0
  rw [Try.params4] at hA hval
  obtain ⟨v0, vs0, d0, ds0, p0, q0, hargs, rfl, rfl, h0, r0⟩ := trodAll_cons hA
  obtain ⟨v1, vs1, d1, ds1, p1, q1, rfl, rfl, rfl, h1, r1⟩ := trodAll_cons r0
  obtain ⟨rfl, rfl, rfl⟩ := trodAll_nil r1
  obtain rfl : args = #[v0, v1] := by cases args; simp_all
  obtain ⟨rfl, rfl⟩ := trodVars_none hV
  obtain ⟨a0, len0, cap0, rfl⟩ := okWide_slice Try.underlying31 (hval 0 31 v0 rfl rfl)
  have k0 := h0
  have lt0 : ∀ x ∈ p0, x.block < W.heap.size := by obtain ⟨m, hm⟩ := k0; exact DataW.trod_lt m _ _ _ hm
  obtain ⟨l0, hl0, z0, hr0⟩ : ∃ l : List Nat, len0 = l.length ∧ cap0 ≤ 1048576 ∧ Row W a0 cap0 l := by
    obtain ⟨fuel, hf⟩ := h0
    rcases open_ints Try.underlying31 Try.underlying5 (by kernel_rfl) hf with ⟨hcs, _⟩ | ⟨x, l, c, zs, hcs, _, hl, hm, hz, hx, hcell, hwz⟩
    · simp [Value.cells] at hcs
      obtain ⟨rfl, rfl, rfl⟩ := hcs
      exact ⟨[], rfl, by omega, row_nil _ _⟩
    · simp [Value.cells] at hcs
      obtain ⟨rfl, rfl, rfl⟩ := hcs
      have hz' : zs.length = cap0 := by simpa using hz
      have hd : d0 = .slice (lits .u8 (zs.take len0)) (lits .u8 (zs.drop len0)) := congrArg Prod.fst hx
      have hcap : cap0 ≤ 1048576 := by
        have h1 := Nat.le_trans (bulk_part (l := [d0, d1] ++ []) (j := 0) rfl) hbulk
        rw [hd] at h1
        have h2 := bulk_slice (lits (H := H) .u8 (zs.take len0)) (lits .u8 (zs.drop len0))
        simp only [lits, List.length_map, List.length_take, List.length_drop] at h1 h2
        omega
      obtain ⟨l, h1, h2⟩ := row_of_ints hl (Nat.le_trans hcap (by omega)) hz' hcell hwz
      exact ⟨l, h1, hcap, h2⟩
  obtain ⟨a1, len1, cap1, rfl⟩ := okWide_slice Try.underlying22 (hval 1 22 v1 rfl rfl)
  have k1 := h1
  have lt1 : ∀ x ∈ p1, x.block < W.heap.size := by obtain ⟨m, hm⟩ := k1; exact DataW.trod_lt m _ _ _ hm
  obtain ⟨ss1, hl1, z1, hr1⟩ : ∃ ss : List St, len1 = ss.length ∧ ss.length ≤ 1048576 ∧ Steps W a1 cap1 ss := by
    obtain ⟨fuel, hf⟩ := h1
    obtain ⟨ss, e1, e2, e3⟩ := steps_open Try.underlying22 Try.underlying33 ⟨⟨rfl, rfl⟩, ⟨rfl, rfl⟩, ⟨rfl, rfl⟩, ⟨rfl, rfl⟩⟩ (by kernel_rfl) hf
    refine ⟨ss, e1, ?_, e2⟩
    have hb := Nat.le_trans (bulk_part (l := [d0, d1] ++ []) (j := 1) rfl) hbulk
    rcases e3 with ⟨_, rfl⟩ | ⟨elems, spare, rfl, hel⟩
    · simp
    · have := bulk_slice elems spare
      omega
  clear hA0 hval0
  refine (walk W a0 len0 cap0 l0 hl0 z0 hr0 a1 len1 cap1 ss1 hl1 z1 hr1).mono fun e W' ⟨he, fr⟩ => ?_
  have bel : Below W.heap.size W W' := fr.below (Nat.le_refl _) (fun _ f => f.elim)
  subst he
  exact ⟨_, rfl, _, _, _, [], _, [], hW', trodAll_mk1 (shut_bool Try.underlying4 _), (trodAll_cons_mk (Below.trod laidOut (by kernel_rfl) (of_decide_eq_true (by kernel_rfl)) k0 bel lt0) (trodAll_cons_mk (Below.trod laidOut (by kernel_rfl) (of_decide_eq_true (by kernel_rfl)) k1 bel lt1) trodAll_mk0)), rfl, bel.frame _, fun h => by cases h⟩

theorem proved : Rows.DiskLastsUptoSaid :=
  OpenClaim.holds_of_cond 4 Try.f4 rfl rfl rfl rfl rfl rfl rfl ⟨rfl, rfl, rfl, rfl, rfl⟩ rfl rfl rfl rfl rfl (by kernel_rfl) Try.func4 (by kernel_rfl)
    (of_decide_eq_true (by kernel_rfl)) (by unfold Func.isWrapper; first | (rw [if_pos (by decide +kernel)]; kernel_rfl) | (rw [if_neg (by decide +kernel)]; exact ⟨rfl, rfl⟩))
    (fun os started H enc _ F => lifted os started H enc F)
end Go.Proofs.Ytplkdjmajagpcaa.diskLasts
namespace Go.Proofs.Ytplkdjmajagpcaa
theorem diskLasts_holds : Rows.DiskLastsUptoSaid := diskLasts.proved
#print axioms diskLasts_holds
end Go.Proofs.Ytplkdjmajagpcaa
