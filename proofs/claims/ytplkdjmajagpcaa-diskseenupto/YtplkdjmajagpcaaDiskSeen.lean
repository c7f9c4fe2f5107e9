/- For every list of steps of up to 1048576 values and every number latticelaw03.DiskSeen answers true: what is seen is the last write, and behind a crash what lasts is what is seen (3.4). -/
import Derived.Test.YtplkdjmajagpcaaArgs
import Derived.Test.YtplkdjmajagpcaaDkArr
import Derived.Test.YtplkdjmajagpcaaSteps
import Derived.Test.YtplkdjmajagpcaaBulk
import Derived.JoinedCond
import Derived.Test.YtplkdjmajagpcaaDkArr
namespace Go.Proofs.Ytplkdjmajagpcaa.diskSeen
open Go.ChangeShapes Go.WideShapes Go.ChangeAt Go.RowKit
open Go.ChangeMaps (open_string shut_string)
set_option linter.unusedVariables false

theorem own : ownKnob Try.prog.godebug = none := by kernel_rfl
theorem laidOut : laidOutB Try.prog = true := by kernel_rfl
theorem bytes8 : Try.prog.bytesOf 5 = 1 := by kernel_rfl

theorem shown0 : List.replicate 4 (strOf zeroSec.1) = shown (List.replicate 4 zeroSec) [] := by kernel_rfl
theorem acc_one {st : St} (h : (acc 4 st).length = 1) : acc 4 st = [(st.a.toNat, padS st.l)] ∧ 0 ≤ st.a ∧ st.a < 4 ∧ st.l.length ≤ 256 := by
  unfold acc at h ⊢
  split at h
  · simp at h
  · split at h
    · simp at h
    · rename_i h1 h2
      rw [if_neg h1, if_neg h2]
      exact ⟨rfl, by omega, by omega, by omega⟩
theorem zero_bytes : zeroSec.1 = List.replicate 256 0 := by unfold zeroSec; rfl
theorem infoT : (Try.prog.info? 47).map (fun i => (i.zero, i.size)) = some (some (.agg #[.string ⟨#[]⟩, .string ⟨#[]⟩, .string ⟨#[]⟩, .string ⟨#[]⟩]), 4) := by kernel_rfl

set_option maxRecDepth 100000 in
set_option maxHeartbeats 4000000 in
theorem walk (w : World) (a0 : Option Addr) (len0 cap0 : Nat) (ss0 : List St) (hl0 : len0 = ss0.length) (z0 : ss0.length ≤ 1048576) (hr0 : Steps w a0 cap0 ss0) (keep : Int) (w1 : (Lit.int .i64 keep).wf = true) :
    Calls Try.prog 5 #[.slice a0 len0 cap0, .int .i64 keep] w fun e w' => e = .returned (.bool true) ∧ Fr (fun _ => False) w w' := by
  clear w1
  obtain ⟨i8, hi8, hz8, hs8, hb8⟩ := info_parts info8
  have hmk := fun (w : World) => run_make (P := Try.prog) w 31 5 i8 _ Try.underlying31 hi8 hz8 .i64 .i64 256 256 (by omega) (by omega) (by rw [hb8]; omega) (by omega)
  simp only [hs8] at hmk
  have hmade := fun (w : World) => Has.made (fun x : Nat => [Value.int .u8 (x : Int)]) 0 (size := 1) (by omega) (z := .int .u8 0) rfl rfl 256 (by unfold maxLen; omega) w 5
  have hrep : (List.replicate 256 0).flatMap (fun x : Nat => [Value.int .u8 (x : Int)]) = cellsOf (List.replicate 256 0) := by simp [cellsOf]
  simp only [hrep] at hmade
  have HMADE : Hid (∀ w : World, Has (w.alloc (.cells (madeCells (Value.int .u8 0).cells (256 * 1)) 5)) 1 (.slice (some ⟨w.heap.size, 0, none⟩) 256 256) 256 (cellsOf (List.replicate 256 0))) := hmade
  have hmk2 : ∀ w : World, (Instr.makeSlice 31 (.int .i64 256) (.int .i64 256)).run Try.prog w = .ok (.slice (some ⟨w.heap.size, 0, none⟩) 256 256) (w.alloc (.cells (madeCells (Value.int .u8 0).cells (256 * 1)) 5)) := fun w => hmk w
  generalize madeCells (Value.int .u8 0).cells (256 * 1) = CZ at *
  obtain ⟨n, hn⟩ : ∃ n, n = ss0.length := ⟨_, rfl⟩
  have HN : Hid (n = ss0.length) := hn
  rw [hl0, ← hn]
  rw [← hn] at z0
  clear hl0 hn hmk hmade hrep hi8 hz8 hs8 hb8
  go_enter Try.func5, Try.ntmps5
  go_wp2_with fail
  refine (dnew_ok 4 (by omega) (by omega) _).mono ?_
  rintro e w1 ⟨rfl, k1, f1⟩
  have d1 := DkA.new k1 f1
  clear k1 f1
  generalize w.heap.size + 1 = db at d1 ⊢
  generalize Value.slice (some ⟨w.heap.size, 0, none⟩) 4 4 = lv at d1
  have fA : Fr (fun _ => False) w1 (w1.alloc (.cells #[.string ⟨#[]⟩, .string ⟨#[]⟩, .string ⟨#[]⟩, .string ⟨#[]⟩] 47)) := (Fr.refl (fun _ => False) w1).alloc _
  have dA := d1.same fA
  have hA : Arr (w1.alloc (.cells #[.string ⟨#[]⟩, .string ⟨#[]⟩, .string ⟨#[]⟩, .string ⟨#[]⟩] 47)) db lv (.slice none 0 0) w1.heap.size (List.replicate 4 ⟨#[]⟩) := by
    have hb := heap_alloc_new w1 (.cells #[.string ⟨#[]⟩, .string ⟨#[]⟩, .string ⟨#[]⟩, .string ⟨#[]⟩] 47)
    refine ⟨⟨rfl, .inr ⟨_, _, rfl, by simp, Nat.le_refl _, by unfold maxLen; omega, there_block hb (by simp), range_block hb (fun j u hu => by rw [Nat.zero_add]; simpa [tc] using hu)⟩⟩, fun e => ?_⟩
    have := d1.dk.lt e; omega
  go_wp2_with fail
  generalize w1.alloc (.cells #[.string ⟨#[]⟩, .string ⟨#[]⟩, .string ⟨#[]⟩, .string ⟨#[]⟩] 47) = wA at *
  have hlow : Hid (w.heap.size ≤ w1.heap.size) := d1.fr.size
  generalize w1.heap.size = lb at *
  clear d1 fA
  go_loopw [33] (fun t wr => ∃ k : Nat, k ≤ 4 ∧ t = .int .i64 k ∧ DkA w wr db lv (.slice none 0 0) (List.replicate 4 zeroSec) [] ∧ Arr wr db lv (.slice none 0 0) lb (List.replicate k (strOf zeroSec.1) ++ List.replicate (4 - k) ⟨#[]⟩))
    (fun t _ => 4 - (intOf t).toNat)
  case atStart => exact ⟨0, by omega, rfl, dA, hA⟩
  case round =>
  clear dA hA
  obtain ⟨k, hk, rfl, hd, hA⟩ := hrel
  by_cases hlt : k < 4
  · have hki : (k : Int) < 4 := by omega
    have fW : Fr (fun _ => False) wr (wr.alloc (.cells CZ 5)) := (Fr.refl (fun _ => False) wr).alloc _
    have hz := (HMADE.out wr).bytes (fun x hx => by obtain ⟨_, rfl⟩ := List.mem_replicate.1 hx; omega) (by rw [List.length_replicate]; omega)
    have cv := run_str (P := Try.prog) (src := 31) (dst := 9) Try.underlying31 Try.underlying5 Try.underlying9 hz 256 (List.length_replicate).symm
    rw [← zero_bytes] at cv
    have hdW := hd.same fW
    obtain ⟨c0, c1, hset⟩ := (hA.same fW).at_ hlt (s := (List.replicate k (strOf zeroSec.1) ++ List.replicate (4 - k) (⟨#[]⟩ : ByteArray)).getD k ⟨#[]⟩) (by rw [List.getD_eq_getElem?_getD, List.getElem?_eq_getElem (by simp; omega)]; rfl)
    have hA2 := hset (strOf zeroSec.1)
    have hl : (List.replicate k (strOf zeroSec.1) ++ List.replicate (4 - k) (⟨#[]⟩ : ByteArray)).set k (strOf zeroSec.1) = List.replicate (k + 1) (strOf zeroSec.1) ++ List.replicate (4 - (k + 1)) (⟨#[]⟩ : ByteArray) := by
      rw [List.set_append_right _ _ (by simp), List.length_replicate, Nat.sub_self, show 4 - k = (4 - (k + 1)) + 1 by omega, List.replicate_succ, List.set_cons_zero, List.replicate_succ', List.append_assoc]; rfl
    rw [hl] at hA2
    have hd2 := hdW.dk.framed (S := fun j => j = lb) ((Fr.refl (fun j => j = lb) _).setCell (p := ⟨lb, k, none⟩) (fun _ => rfl) (.string (strOf zeroSec.1))) (fun j hj e => hA.far (by rw [← e]; exact hj))
    have hf2 := hdW.fr.above (S := fun j => j = lb) ((Fr.refl (fun j => j = lb) _).setCell (p := ⟨lb, k, none⟩) (fun _ => rfl) (.string (strOf zeroSec.1))) (fun j e => by subst e; exact hlow.out)
    clear hl hz hset hd hA
    go_wp2
    go_roundw
    case rel => exact ⟨k + 1, by omega, by go_num, ⟨hd2, hdW.low, hf2⟩, hA2⟩
    case measure => simp [intOf]; omega
  have hk4 : 4 = k := by omega
  subst hk4
  rw [show ((4 : Nat) : Int) = 4 from rfl]
  rw [show (4 : Nat) - 4 = 0 from rfl, List.replicate_zero, List.append_nil, shown0] at hA
  clear hlt hk
  have hA' : Arr wr db lv (.slice none 0 0) lb (shown (List.replicate 4 zeroSec) (qs 4 (ss0.take 0))) := by simpa [qs] using hA
  have hd' : DkA w wr db lv (.slice none 0 0) (List.replicate 4 zeroSec) (qs 4 (ss0.take 0)) := by simpa [qs] using hd
  clear hA hd
  go_wp2
  go_loopw [43] (fun t wr => ∃ (k : Nat) (wv : Value), k ≤ n ∧ t = .int .i64 k ∧ DkA w wr db lv wv (List.replicate 4 zeroSec) (qs 4 (ss0.take k)) ∧ Arr wr db lv wv lb (shown (List.replicate 4 zeroSec) (qs 4 (ss0.take k))))
    (fun t _ => n - (intOf t).toNat)
  case atStart => exact ⟨0, _, by omega, rfl, hd', hA'⟩
  case round =>
  clear hd' hA'
  obtain ⟨k, wv, hk, rfl, hd, hA⟩ := hrel
  by_cases hlt : k < n
  · obtain ⟨st, hst⟩ : ∃ st, ss0[k]? = some st := ⟨_, List.getElem?_eq_getElem (by rw [← HN.out]; exact hlt)⟩
    have hS := hr0.same hd.fr
    have hmem := List.mem_of_getElem? hst
    have hrow := hS.row st hmem
    have hrow0 := hr0.row st hmem
    have HST : Hid (ss0[k]? = some st) := hst
    rcases hS.at_ with h0 | ⟨b, off, ha0, hb, hcell⟩
    · rw [h0] at hst; cases hst
    obtain ⟨c0, c1, c2, c3⟩ := hcell k st hst
    subst ha0
    have hki : (k : Int) < (n : Int) := by omega
    have fW : Fr (fun _ => False) wr (wr.alloc (.cells #[.int .i64 st.k, .int .i64 st.a, .int .i64 st.c, .slice st.ad st.l.length st.cap] 33)) := (Fr.refl (fun _ => False) wr).alloc _
    have hdW := hd.same fW
    have hAW := hA.same fW
    have hrW : st.l.length ≤ 65535 → Row (wr.alloc (.cells #[.int .i64 st.k, .int .i64 st.a, .int .i64 st.c, .slice st.ad st.l.length st.cap] 33)) st.ad st.cap st.l := fun h => (hrow h).same fW
    have hbS := heap_alloc_new wr (.cells #[.int .i64 st.k, .int .i64 st.a, .int .i64 st.c, .slice st.ad st.l.length st.cap] 33)
    have hnS : ¬ dkS db lv wv wr.heap.size := fun e => Nat.lt_irrefl _ (hd.dk.lt e)
    have hsl : lb < wr.heap.size := hA.lt
    obtain ⟨Q, hQ⟩ : ∃ Q, Q = qs 4 (ss0.take k) := ⟨_, rfl⟩
    have hQl : Q.length ≤ k := by rw [hQ]; exact qs_len 4 ss0 k
    have HQ : Hid (Q ++ acc 4 st = qs 4 (ss0.take (k + 1))) := by
      show _ = _
      rw [qs_snoc 4 HST.out, hQ]
    rw [← hQ] at hdW hAW
    clear hrow hst hmem hS hcell fW hd hA hQ HST
    go_wp2_with fail
    refine (write_all db lv wv _ Q _ hdW.dk st.a st.ad st.cap st.l hrW (by omega)).mono ?_
    obtain ⟨hw1, hw2⟩ := wrS_acc (List.replicate 4 zeroSec) Q st
    rw [List.length_replicate] at hw1 hw2
    rw [hw1]
    rintro e w5 ⟨rfl, wv5, k5, f5, o5⟩
    have d5 := hdW.go k5 f5 o5
    have A5 := hAW.go f5 o5
    have hb5 := f5.block_eq hbS hnS
    generalize (wrS (List.replicate 4 zeroSec) Q st.a st.l).1 = r5 at *
    have hsz5 := lt_of_block hb5
    clear k5 f5 o5 hdW hAW hw1 hrW hbS hnS
    generalize wr.heap.size = sB at *
    rcases hw2 with ⟨rfl, ha⟩ | ⟨hr5, ha⟩
    · obtain ⟨hacc, ha0, ha4, hlen⟩ := acc_one ha
      rw [hacc] at d5
      have HQ2 : Hid (Q ++ [(st.a.toNat, padS st.l)] = qs 4 (ss0.take (k + 1))) := by show _ = _; rw [← hacc]; exact HQ.out
      have hr0' := hrow0 (by omega)
      obtain ⟨a, haa⟩ : ∃ a : Nat, st.a = a := ⟨st.a.toNat, by omega⟩
      obtain ⟨sk, sa, sc', sad, scap, sl⟩ := st
      simp only at haa ha0 ha4 hlen hr0' d5 HQ2 hb5
      subst haa
      have ha' : a < 4 := by omega
      simp only [Int.toNat_natCast] at d5 HQ2
      clear ha hacc hrow0 HQ ha0 ha4
      have fM : Fr (fun _ => False) w5 (w5.alloc (.cells CZ 5)) := (Fr.refl (fun _ => False) w5).alloc _
      have dM := d5.same fM
      have AM := A5.same fM
      have hm3 := HMADE.out w5
      have hbM := fM.block_eq hb5 (fun f => f)
      have hover : over sl 0 = List.replicate 256 0 := rfl
      rw [← hover] at hm3
      have hB : ¬ dkS db lv wv5 w5.heap.size := fun e => Nat.lt_irrefl _ (d5.dk.lt e)
      have hBl : lb < w5.heap.size := A5.lt
      have q3 := cell_at hbM 3
      simp only [List.getElem?_toArray, List.getElem?_cons_zero, List.getElem?_cons_succ] at q3
      have hli : (sl.length : Int) ≤ 256 := by omega
      clear d5 A5 hb5
      go_wp2_with fail
      generalize w5.alloc (.cells CZ 5) = wM at *
      generalize w5.heap.size = B at *
      clear q3
      go_loopw [58] (fun t wr => ∃ j : Nat, j ≤ sl.length ∧ t = .int .i64 j ∧ Has wr 1 (.slice (some ⟨B, 0, none⟩) 256 256) 256 (cellsOf (over sl j)) ∧ Fr (fun k => k = B) wM wr)
        (fun t _ => sl.length - (intOf t).toNat)
      case atStart => exact ⟨0, by omega, rfl, hm3, Fr.refl _ _⟩
      case round =>
      obtain ⟨j, hj, rfl, hh, hf⟩ := hrel
      have d6 : DkA w wr db lv wv5 (List.replicate 4 zeroSec) (Q ++ [(a, padS sl)]) := ⟨dM.dk.framed hf (fun k hk e => hB (by rw [← e]; exact hk)), dM.low, dM.fr.above hf (fun k e => by have := hlow.out; omega)⟩
      have hrw := hr0'.same d6.fr
      by_cases hjl : j < sl.length
      · obtain ⟨ab, ao, rfl, _, hc⟩ : ∃ b off, sad = some ⟨b, off, none⟩ ∧ b < wr.heap.size ∧ ∀ i, i < sl.length → wr.cell? ⟨b, off + i, none⟩ = some (.int .u8 ((sl.getD i 0 : Nat) : Int)) := by
          rcases hrw.at_ with h0 | h0
          · rw [h0] at hjl; simp at hjl
          · exact h0
        have hcj := hc j hjl
        have hji : (j : Int) < (sl.length : Int) := by omega
        have hj256 : (j : Int) < 256 := by omega
        obtain ⟨g', cap', hv, _, _, _, hth, hra⟩ := hh.form (by omega)
        simp only [Value.slice.injEq, Option.some.injEq, Addr.mk.injEq, and_true, true_and] at hv
        obtain ⟨rfl, rfl⟩ := hv
        have t0 := hth j (by omega)
        rw [Nat.zero_add] at t0
        obtain ⟨t0, z0'⟩ := t0
        obtain ⟨u0, e0⟩ := Option.isSome_iff_exists.1 t0
        have hset := hh.set j [.int .u8 ((sl.getD j 0 : Nat) : Int)] (by rw [cellsOf_length, over_length sl j (by omega) hlen]; simp; omega)
        have hse : (cellsOf (over sl j)).take j ++ [.int .u8 ((sl.getD j 0 : Nat) : Int)] ++ (cellsOf (over sl j)).drop (j + [Value.int .u8 ((sl.getD j 0 : Nat) : Int)].length) = cellsOf (over sl (j + 1)) := by
          rw [← over_next sl j hjl hlen, List.set_eq_take_append_cons_drop, if_pos (by rw [over_length sl j (by omega) hlen]; omega)]
          simp [cellsOf]
        rw [hse] at hset
        generalize sl.getD j 0 = xj at *
        clear hth hra t0 hse hc hh
        go_wp2
        go_roundw
        case rel => exact ⟨j + 1, by omega, by go_num, hset, hf.setCell (p := ⟨B, j, none⟩) (fun _ => rfl) _⟩
        case measure => simp [intOf]; omega
      have hjn : sl.length = j := by omega
      subst hjn
      have A6 : Arr wr db lv wv5 lb (shown (List.replicate 4 zeroSec) Q) := ⟨AM.has.fr hf (fun k hk e => by simp [Value.ownBlock] at hk; omega), AM.far⟩
      have hb6 := hf.block_eq hbM (fun e => by omega)
      rw [over_all sl hlen hr0'.byte] at hh
      have hP := (padS sl).2.1
      have r6 := hh.bytes (padS sl).2.2 (by omega)
      have cv := run_str (P := Try.prog) (src := 31) (dst := 9) Try.underlying31 Try.underlying5 Try.underlying9 r6 256 hP.symm
      have q1 := cell_at hb6 1
      simp only [List.getElem?_toArray, List.getElem?_cons_zero, List.getElem?_cons_succ] at q1
      obtain ⟨c0', c1', hset⟩ := A6.at_ ha' (shown_get _ _ a ha')
      have A7 := hset (strOf (padS sl).1)
      rw [shown_snoc, HQ2.out] at A7
      have F7 : Fr (fun k => k = lb) wr (wr.setCell ⟨lb, a, none⟩ (.string (strOf (padS sl).1))) := (Fr.refl (fun k => k = lb) wr).setCell (p := ⟨lb, a, none⟩) (fun _ => rfl) _
      have d7 : DkA w (wr.setCell ⟨lb, a, none⟩ (.string (strOf (padS sl).1))) db lv wv5 (List.replicate 4 zeroSec) (qs 4 (ss0.take (k + 1))) := by
        rw [← HQ2.out]
        exact ⟨d6.dk.framed F7 (fun k hk e => A6.far (by rw [← e]; exact hk)), d6.low, d6.fr.above F7 (fun k e => by have := hlow.out; omega)⟩
      have hai : (a : Int) < 4 := by omega
      clear hjl hset hh hP r6 A6 d6 F7 hrw
      go_wp2
      go_roundw
      case rel => exact ⟨k + 1, _, by omega, by go_num, d7, A7⟩
      case measure => simp [intOf]; omega
    · rw [ha, List.append_nil] at d5
      have HQ2 : Hid (Q = qs 4 (ss0.take (k + 1))) := by
        have := HQ.out
        rw [ha, List.append_nil] at this
        exact this
      clear ha hb5 HQ
      go_wp2
      go_roundw
      case rel => exact ⟨k + 1, _, by omega, by go_num, by rw [← HQ2.out]; exact d5, by rw [← HQ2.out]; exact A5⟩
      case measure => simp [intOf]; omega
  have hkn : n = k := by omega
  subst hkn
  have hall : ss0.take n = ss0 := by rw [HN.out, List.take_length]
  have hqb : (qs 4 ss0).length ≤ 1048576 := by have := qs_len 4 ss0 n; rw [hall] at this; omega
  rw [hall] at hd hA
  clear hlt hall hk
  go_wp2
  go_loopw [14] (fun t wr => ∃ j : Nat, j ≤ 4 ∧ t = .int .i64 j ∧ DkA w wr db lv wv (List.replicate 4 zeroSec) (qs 4 ss0) ∧ Arr wr db lv wv lb (shown (List.replicate 4 zeroSec) (qs 4 ss0)))
    (fun t _ => 4 - (intOf t).toNat)
  case atStart => exact ⟨0, by omega, rfl, hd, hA⟩
  case round =>
  clear hd hA
  obtain ⟨j, hj, rfl, hd, hA⟩ := hrel
  by_cases hlt : j < 4
  · have hji : (j : Int) < 4 := by omega
    go_wp2_with fail
    refine (read_ok db lv _ _ _ _ hd.dk j (by simp; omega)).mono ?_
    rintro e w8 ⟨a8, rfl, r8, f8, _⟩
    have d8 := hd.same f8
    have A8 := hA.same f8
    obtain ⟨c9, _, _⟩ := A8.at_ hlt (shown_get _ _ j hlt)
    generalize seen (List.replicate 4 zeroSec) (qs 4 ss0) j = s at *
    have s256 := s.2.1
    have cva := run_str (P := Try.prog) (src := 31) (dst := 9) Try.underlying31 Try.underlying5 Try.underlying9 (r8.same ((Fr.refl (fun _ => False) w8).drew)) 256 s256.symm
    clear r8 hd hA f8 s256
    go_wp2
    go_region
    all_goals
      go_wp2
      go_roundw
      case rel => exact ⟨j + 1, by omega, by go_num, d8.same ((Fr.refl (fun _ => False) _).drew), A8.same ((Fr.refl (fun _ => False) _).drew)⟩
      case measure => simp [intOf]; omega
  have hj4 : 4 = j := by omega
  subst hj4
  rw [show ((4 : Nat) : Int) = 4 from rfl]
  clear hlt hj
  go_wp2_with fail
  refine (waits_any db lv _ _ _ _ hd.dk).mono ?_
  rintro e w3 ⟨rfl, rfl⟩
  by_cases hkeep : keep < 0 ∨ ((qs 4 ss0).length : Int) < keep
  · by_cases hneg : keep < 0
    · have hd0 : decide (keep < 0) = true := by simpa using hneg
      clear hkeep
      obtain ⟨M, hM⟩ : ∃ M, M = crashed (List.replicate 4 zeroSec) (qs 4 ss0) (qs 4 ss0).length 9 := ⟨_, rfl⟩
      have hMl : M.length = 4 := by rw [hM, crashed_length', List.length_replicate]
      have HM : Hid (∀ i, i < 4 → M.getD i zeroSec = seen (List.replicate 4 zeroSec) (qs 4 ss0) i) := fun i hi => by
        rw [hM, crashed_all]; exact doAll_seen _ _ i (by simp; omega)
      have hcr := crash_ok db lv wv _ _ _ hd.dk (qs 4 ss0).length 9 (Nat.le_refl _) (by omega)
      rw [← hM] at hcr
      clear hM
      go_wp2_with fail
      refine hcr.mono ?_
      rintro e w6 ⟨rfl, k6, f6⟩
      have d6 := hd.go k6 f6 (Ow.empty _ _ _ _)
      have A6 := hA.go f6 (Ow.empty _ _ _ _)
      clear k6 f6 hd hA hcr
      go_wp2_with fail
      refine (waits_any db lv _ _ _ _ d6.dk).mono ?_
      rintro e w6' ⟨rfl, rfl⟩
      go_wp2
      go_loopw [18] (fun t wr => ∃ j : Nat, j ≤ 4 ∧ t = .int .i64 j ∧ DkA w wr db lv (.slice none 0 0) M [] ∧ Arr wr db lv (.slice none 0 0) lb (shown (List.replicate 4 zeroSec) (qs 4 ss0)))
        (fun t _ => 4 - (intOf t).toNat)
      case atStart => exact ⟨0, by omega, rfl, d6, A6⟩
      case round =>
      clear d6 A6
      obtain ⟨j, hj, rfl, d7, A7⟩ := hrel
      by_cases hlt : j < 4
      · have hji : (j : Int) < 4 := by omega
        go_wp2_with fail
        refine (read_ok db lv _ _ _ _ d7.dk j (by omega)).mono ?_
        rintro e w8 ⟨a8, rfl, r8, f8, _⟩
        have d8 := d7.same f8
        have A8 := A7.same f8
        go_wp2_with fail
        refine (lasts_ok db lv _ _ _ _ d8.dk j (by omega)).mono ?_
        rintro e w9 ⟨a9, rfl, r9, f9, _⟩
        have d9 := d8.same f9
        have A9 := A8.same f9
        have hsn : seen M [] j = M.getD j zeroSec := rfl
        rw [hsn] at r8
        have r89 := r8.same f9
        have hs10 : M.getD j zeroSec = seen (List.replicate 4 zeroSec) (qs 4 ss0) j := HM.out j hlt
        obtain ⟨c9, _, _⟩ := A9.at_ hlt (shown_get _ _ j hlt)
        generalize M.getD j zeroSec = s at *
        have s256 := s.2.1
        have cva := run_str (P := Try.prog) (src := 31) (dst := 9) Try.underlying31 Try.underlying5 Try.underlying9 (r89.same ((Fr.refl (fun _ => False) w9).drew)) 256 s256.symm
        have cvb := run_str (P := Try.prog) (src := 31) (dst := 9) Try.underlying31 Try.underlying5 Try.underlying9 (r9.same ((Fr.refl (fun _ => False) w9).drew)) 256 s256.symm
        clear r8 r9 r89 d7 d8 A7 A8 f8 f9 s256 hsn
        skip
        rw [← hs10] at c9
        clear hs10
        go_wp2
        go_region
        all_goals
          go_wp2
          go_roundw
          case rel => exact ⟨j + 1, by omega, by go_num, d9.same ((Fr.refl (fun _ => False) _).drew), A9.same ((Fr.refl (fun _ => False) _).drew)⟩
          case measure => simp [intOf]; omega
      have hj4 : 4 = j := by omega
      subst hj4
      clear hlt
      go_wp2_with fail
      refine (dspeaks_any _).mono ?_
      rintro e w10 ⟨rfl, f10⟩
      go_wp2
      go_ret
      exact ⟨rfl, d7.fr.false_trans f10⟩
    · have hpos : 0 ≤ keep := by omega
      have hd0 : decide (keep < 0) = false := by simpa using hneg
      have hbig : ((qs 4 ss0).length : Int) < keep := by omega
      have hd2 : decide (((qs 4 ss0).length : Int) < keep) = true := by simpa using hbig
      clear hkeep hneg
      obtain ⟨M, hM⟩ : ∃ M, M = crashed (List.replicate 4 zeroSec) (qs 4 ss0) (qs 4 ss0).length 9 := ⟨_, rfl⟩
      have hMl : M.length = 4 := by rw [hM, crashed_length', List.length_replicate]
      have HM : Hid (∀ i, i < 4 → M.getD i zeroSec = seen (List.replicate 4 zeroSec) (qs 4 ss0) i) := fun i hi => by
        rw [hM, crashed_all]; exact doAll_seen _ _ i (by simp; omega)
      have hcr := crash_ok db lv wv _ _ _ hd.dk (qs 4 ss0).length 9 (Nat.le_refl _) (by omega)
      rw [← hM] at hcr
      clear hM
      go_wp2_with fail
      refine hcr.mono ?_
      rintro e w6 ⟨rfl, k6, f6⟩
      have d6 := hd.go k6 f6 (Ow.empty _ _ _ _)
      have A6 := hA.go f6 (Ow.empty _ _ _ _)
      clear k6 f6 hd hA hcr
      go_wp2_with fail
      refine (waits_any db lv _ _ _ _ d6.dk).mono ?_
      rintro e w6' ⟨rfl, rfl⟩
      go_wp2
      go_loopw [18] (fun t wr => ∃ j : Nat, j ≤ 4 ∧ t = .int .i64 j ∧ DkA w wr db lv (.slice none 0 0) M [] ∧ Arr wr db lv (.slice none 0 0) lb (shown (List.replicate 4 zeroSec) (qs 4 ss0)))
        (fun t _ => 4 - (intOf t).toNat)
      case atStart => exact ⟨0, by omega, rfl, d6, A6⟩
      case round =>
      clear d6 A6
      obtain ⟨j, hj, rfl, d7, A7⟩ := hrel
      by_cases hlt : j < 4
      · have hji : (j : Int) < 4 := by omega
        go_wp2_with fail
        refine (read_ok db lv _ _ _ _ d7.dk j (by omega)).mono ?_
        rintro e w8 ⟨a8, rfl, r8, f8, _⟩
        have d8 := d7.same f8
        have A8 := A7.same f8
        go_wp2_with fail
        refine (lasts_ok db lv _ _ _ _ d8.dk j (by omega)).mono ?_
        rintro e w9 ⟨a9, rfl, r9, f9, _⟩
        have d9 := d8.same f9
        have A9 := A8.same f9
        have hsn : seen M [] j = M.getD j zeroSec := rfl
        rw [hsn] at r8
        have r89 := r8.same f9
        have hs10 : M.getD j zeroSec = seen (List.replicate 4 zeroSec) (qs 4 ss0) j := HM.out j hlt
        obtain ⟨c9, _, _⟩ := A9.at_ hlt (shown_get _ _ j hlt)
        generalize M.getD j zeroSec = s at *
        have s256 := s.2.1
        have cva := run_str (P := Try.prog) (src := 31) (dst := 9) Try.underlying31 Try.underlying5 Try.underlying9 (r89.same ((Fr.refl (fun _ => False) w9).drew)) 256 s256.symm
        have cvb := run_str (P := Try.prog) (src := 31) (dst := 9) Try.underlying31 Try.underlying5 Try.underlying9 (r9.same ((Fr.refl (fun _ => False) w9).drew)) 256 s256.symm
        clear r8 r9 r89 d7 d8 A7 A8 f8 f9 s256 hsn
        skip
        rw [← hs10] at c9
        clear hs10
        go_wp2
        go_region
        all_goals
          go_wp2
          go_roundw
          case rel => exact ⟨j + 1, by omega, by go_num, d9.same ((Fr.refl (fun _ => False) _).drew), A9.same ((Fr.refl (fun _ => False) _).drew)⟩
          case measure => simp [intOf]; omega
      have hj4 : 4 = j := by omega
      subst hj4
      clear hlt
      go_wp2_with fail
      refine (dspeaks_any _).mono ?_
      rintro e w10 ⟨rfl, f10⟩
      go_wp2
      go_ret
      exact ⟨rfl, d7.fr.false_trans f10⟩
  · obtain ⟨kp, rfl⟩ : ∃ kp : Nat, keep = kp := ⟨keep.toNat, by omega⟩
    have hkp : kp ≤ (qs 4 ss0).length := by omega
    have hd2 : decide (((qs 4 ss0).length : Int) < (kp : Int)) = false := by simp; omega
    have hd0 : decide ((kp : Int) < 0) = false := by simp
    have hd2n : decide ((qs 4 ss0).length < kp) = false := by simp; omega
    clear hkeep
    obtain ⟨M, hM⟩ : ∃ M, M = crashed (List.replicate 4 zeroSec) (qs 4 ss0) kp 9 := ⟨_, rfl⟩
    have hMl : M.length = 4 := by rw [hM, crashed_length', List.length_replicate]
    have HM : Hid (kp = (qs 4 ss0).length → ∀ i, i < 4 → M.getD i zeroSec = seen (List.replicate 4 zeroSec) (qs 4 ss0) i) := fun e i hi => by
      rw [hM, e, crashed_all]; exact doAll_seen _ _ i (by simp; omega)
    have hcr := crash_ok db lv wv _ _ _ hd.dk kp 9 hkp (by omega)
    rw [← hM] at hcr
    clear hM
    go_wp2_with fail
    refine hcr.mono ?_
    rintro e w6 ⟨rfl, k6, f6⟩
    have d6 := hd.go k6 f6 (Ow.empty _ _ _ _)
    have A6 := hA.go f6 (Ow.empty _ _ _ _)
    clear k6 f6 hd hA hcr
    go_wp2_with fail
    refine (waits_any db lv _ _ _ _ d6.dk).mono ?_
    rintro e w6' ⟨rfl, rfl⟩
    go_wp2
    go_loopw [18] (fun t wr => ∃ j : Nat, j ≤ 4 ∧ t = .int .i64 j ∧ DkA w wr db lv (.slice none 0 0) M [] ∧ Arr wr db lv (.slice none 0 0) lb (shown (List.replicate 4 zeroSec) (qs 4 ss0)))
      (fun t _ => 4 - (intOf t).toNat)
    case atStart => exact ⟨0, by omega, rfl, d6, A6⟩
    case round =>
    clear d6 A6
    obtain ⟨j, hj, rfl, d7, A7⟩ := hrel
    by_cases hlt : j < 4
    · have hji : (j : Int) < 4 := by omega
      go_wp2_with fail
      refine (read_ok db lv _ _ _ _ d7.dk j (by omega)).mono ?_
      rintro e w8 ⟨a8, rfl, r8, f8, _⟩
      have d8 := d7.same f8
      have A8 := A7.same f8
      go_wp2_with fail
      refine (lasts_ok db lv _ _ _ _ d8.dk j (by omega)).mono ?_
      rintro e w9 ⟨a9, rfl, r9, f9, _⟩
      have d9 := d8.same f9
      have A9 := A8.same f9
      have hsn : seen M [] j = M.getD j zeroSec := rfl
      rw [hsn] at r8
      have r89 := r8.same f9
      have hs9 : kp = (qs 4 ss0).length → M.getD j zeroSec = seen (List.replicate 4 zeroSec) (qs 4 ss0) j := fun e => HM.out e j hlt
      obtain ⟨c9, _, _⟩ := A9.at_ hlt (shown_get _ _ j hlt)
      generalize M.getD j zeroSec = s at *
      have s256 := s.2.1
      have cva := run_str (P := Try.prog) (src := 31) (dst := 9) Try.underlying31 Try.underlying5 Try.underlying9 (r89.same ((Fr.refl (fun _ => False) w9).drew)) 256 s256.symm
      have cvb := run_str (P := Try.prog) (src := 31) (dst := 9) Try.underlying31 Try.underlying5 Try.underlying9 (r9.same ((Fr.refl (fun _ => False) w9).drew)) 256 s256.symm
      clear r8 r9 r89 d7 d8 A7 A8 f8 f9 s256 hsn
      by_cases hkq : kp = (qs 4 ss0).length
      · have hs10 := hs9 hkq
        rw [← hs10] at c9
        have hkq' : ((kp : Int) == ((qs 4 ss0).length : Int)) = true := by simp [hkq]
        have HKQ : Hid (kp = (qs 4 ss0).length) := hkq
        clear hs9 hs10 hkq
        go_wp2
        go_region
        all_goals
          go_wp2
          go_roundw
          case rel => exact ⟨j + 1, by omega, by go_num, d9.same ((Fr.refl (fun _ => False) _).drew), A9.same ((Fr.refl (fun _ => False) _).drew)⟩
          case measure => simp [intOf]; omega
      · have hkq' : ((kp : Int) == ((qs 4 ss0).length : Int)) = false := by simp; omega
        clear hs9 hkq
        go_wp2
        go_region
        all_goals
          go_wp2
          go_roundw
          case rel => exact ⟨j + 1, by omega, by go_num, d9.same ((Fr.refl (fun _ => False) _).drew), A9.same ((Fr.refl (fun _ => False) _).drew)⟩
          case measure => simp [intOf]; omega
    have hj4 : 4 = j := by omega
    subst hj4
    clear hlt
    go_wp2_with fail
    refine (dspeaks_any _).mono ?_
    rintro e w10 ⟨rfl, f10⟩
    go_wp2
    go_ret
    exact ⟨rfl, d7.fr.false_trans f10⟩

set_option maxRecDepth 100000 in
theorem lifted (os : Os) (started : os.Started) (H : Type) (enc : TypeId × Value → H) (F : Stop.Interp) :
    ReturnsInHanded {} Try.checked os 5 .any ((Rows.OpenSpec.upto Rows.diskSeenSpec).pre6 enc Try.prog Try.f5 Rows.diskSeenUptoRow.domain false) (((Rows.OpenSpec.upto Rows.diskSeenSpec).at F).post enc Try.prog Try.f5 false true false false) := by
  refine returnsInHanded_of_cond (C := Try.checked) (s := Rows.OpenSpec.upto Rows.diskSeenSpec) (k := Rows.uptoSmall) rfl own started (by kernel_rfl) Try.func5
    (OpenSpec.witness (enc := enc) (C := Try.checked) (s := Rows.OpenSpec.upto Rows.diskSeenSpec) (k := Rows.uptoSmall) rfl false ⟨#[], #[.slice none 0 0, .int .i64 0], []⟩ 8 (by kernel_rfl) (by kernel_rfl) (by kernel_rfl)
      (x := ([.nil, .lit (.int .i64 0)], [], [])) (by kernel_rfl) rfl (by kernel_rfl)) ?_
  intro W base args ds gs before hval0 hW hcnd hk0 _
  have hbulk : Rows.uptoBulkAll (ds ++ gs) ≤ 1048576 := of_decide_eq_true hk0
  clear hk0
  have hval : ∀ (j : Nat) t v, Try.f5.params[j]? = some t → args[j]? = some v → Value.okWide Try.prog W .any base t v := hval0
  have hW' := hW
  obtain ⟨p, q, hA0, hV, rfl, hfz, hnd⟩ := hW
  have hA : DataW.TrodAll enc Try.prog W 0 (fun _ => true) true Try.f5.params.toList args.toList ds p := hA0
  rw [Try.params5] at hA hval
  obtain ⟨v0, vs0, d0, ds0, p0, q0, hargs, rfl, rfl, h0, r0⟩ := trodAll_cons hA
  obtain ⟨v1, vs1, d1, ds1, p1, q1, rfl, rfl, rfl, h1, r1⟩ := trodAll_cons r0
  obtain ⟨rfl, rfl, rfl⟩ := trodAll_nil r1
  obtain rfl : args = #[v0, v1] := by cases args; simp_all
  obtain ⟨rfl, rfl⟩ := trodVars_none hV
  obtain ⟨a0, len0, cap0, rfl⟩ := okWide_slice Try.underlying22 (hval 0 22 v0 rfl rfl)
  have k0 := h0
  have lt0 : ∀ x ∈ p0, x.block < W.heap.size := by obtain ⟨m, hm⟩ := k0; exact DataW.trod_lt m _ _ _ hm
  obtain ⟨ss0, hl0, z0, hr0⟩ : ∃ ss : List St, len0 = ss.length ∧ ss.length ≤ 1048576 ∧ Steps W a0 cap0 ss := by
    obtain ⟨fuel, hf⟩ := h0
    obtain ⟨ss, e1, e2, e3⟩ := steps_open Try.underlying22 Try.underlying33 ⟨⟨rfl, rfl⟩, ⟨rfl, rfl⟩, ⟨rfl, rfl⟩, ⟨rfl, rfl⟩⟩ (by kernel_rfl) hf
    refine ⟨ss, e1, ?_, e2⟩
    have hb := Nat.le_trans (bulk_part (l := [d0, d1] ++ []) (j := 0) rfl) hbulk
    rcases e3 with ⟨_, rfl⟩ | ⟨elems, spare, rfl, hel⟩
    · simp
    · have := bulk_slice elems spare
      omega
  obtain ⟨a1, rfl, rfl, rfl, w1⟩ := open_int Try.underlying3 (hval 1 3 v1 rfl rfl) h1
  clear hA0 hval0
  refine (walk W a0 len0 cap0 ss0 hl0 z0 hr0 a1 w1).mono fun e W' ⟨he, fr⟩ => ?_
  have bel : Below W.heap.size W W' := fr.below (Nat.le_refl _) (fun _ f => f.elim)
  subst he
  exact ⟨_, rfl, _, _, _, [], _, [], hW', trodAll_mk1 (shut_bool Try.underlying4 _), (trodAll_cons_mk (Below.trod laidOut (by kernel_rfl) (of_decide_eq_true (by kernel_rfl)) k0 bel lt0) (trodAll_cons_mk (shut_int Try.underlying3 w1) trodAll_mk0)), rfl, bel.frame _, fun h => by cases h⟩

theorem proved : Rows.DiskSeenUptoSaid :=
  OpenClaim.holds_of_cond 5 Try.f5 rfl rfl rfl rfl rfl rfl rfl ⟨rfl, rfl, rfl, rfl, rfl⟩ rfl rfl rfl rfl rfl (by kernel_rfl) Try.func5 (by kernel_rfl)
    (of_decide_eq_true (by kernel_rfl)) (by unfold Func.isWrapper; first | (rw [if_pos (by decide +kernel)]; kernel_rfl) | (rw [if_neg (by decide +kernel)]; exact ⟨rfl, rfl⟩))
    (fun os started H enc _ F => lifted os started H enc F)
end Go.Proofs.Ytplkdjmajagpcaa.diskSeen
namespace Go.Proofs.Ytplkdjmajagpcaa
theorem diskSeen_holds : Rows.DiskSeenUptoSaid := diskSeen.proved
#print axioms diskSeen_holds
end Go.Proofs.Ytplkdjmajagpcaa
