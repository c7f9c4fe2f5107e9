
/- Of any number of nodes, any set and any other number, Majority, Has, Members, Meet and With tell what the document defines, with its errors, and the examples speak; with no condition but those of the statement's own form. -/
import Derived.Test.YtnjfihmghhjfcaaArgs
import Derived.Test.YtnjfihmghhjfcaaQuSpk
import Derived.Test.YtnjfihmghhjfcaaQuRef
import Derived.Test.YtnjfihmghhjfcaaQuPl2
namespace Go.Proofs.Ytnjfihmghhjfcaa.quorumSets
open Go.ChangeShapes Go.WideShapes Go.ChangeAt Go.RowKit
open Go.ChangeMaps (open_string shut_string)
set_option linter.unusedVariables false

theorem own : ownKnob Try.prog.godebug = none := by kernel_rfl
theorem laidOut : laidOutB Try.prog = true := by kernel_rfl
theorem bytes8 : Try.prog.bytesOf 5 = 1 := by kernel_rfl

open Go.RowKit
open Go.Proofs.Ytnjfihmghhjfcaa.Qu
theorem meet_succ (a b : Int) : ∀ k i : Nat, meetF a b (k + 1) i = match meetF a b k i with | some j => some j | none => if (inB a (i + k) && inB b (i + k)) = true then some (i + k) else none
  | 0, i => by
    show (if (inB a i && inB b i) = true then some i else none) = _
    rfl
  | k + 1, i => by
    have ih := meet_succ a b k (i + 1)
    rw [show i + 1 + k = i + (k + 1) by omega] at ih
    show (if (inB a i && inB b i) = true then some i else meetF a b (k + 1) (i + 1)) = match (if (inB a i && inB b i) = true then some i else meetF a b k (i + 1)) with | some j => some j | none => _
    split
    · rfl
    · exact ih
def leastN (fe a b : Int) (k : Nat) : Int := if fe = 0 then (match meetF a b k 0 with | some i => (i : Int) | none => -1) else -1
theorem least_ge (fe a b : Int) (k : Nat) : -1 ≤ leastN fe a b k := by
  unfold leastN
  split
  · split <;> omega
  · omega
theorem least_lt (fe a b : Int) (k : Nat) : leastN fe a b k ≤ k := by
  unfold leastN
  split
  · split
    · rename_i i h
      have := (meet_some h).2.2.2
      omega
    · omega
  · omega
theorem least_same {fe a b : Int} {k : Nat} (h : fe ≠ 0 ∨ 0 ≤ leastN fe a b k ∨ (inB a k && inB b k) = false) : leastN fe a b (k + 1) = leastN fe a b k := by
  unfold leastN at *
  by_cases hf : fe = 0
  · rw [if_pos hf, if_pos hf, meet_succ, Nat.zero_add]
    rw [if_pos hf] at h
    cases hm : meetF a b k 0 with
    | some i => rfl
    | none =>
      rw [hm] at h
      rcases h with h | h | h
      · exact absurd hf h
      · simp only at h; omega
      · rw [h]; rfl
  · rw [if_neg hf, if_neg hf]
theorem least_new {fe a b : Int} {k : Nat} (hf : fe = 0) (h : leastN fe a b k < 0) (hb : (inB a k && inB b k) = true) : leastN fe a b (k + 1) = k := by
  unfold leastN at *
  rw [if_pos hf] at *
  rw [meet_succ, Nat.zero_add, hb]
  cases hm : meetF a b k 0 with
  | some i => rw [hm] at h; simp only at h; omega
  | none => rfl
set_option maxRecDepth 100000 in
set_option maxHeartbeats 16000000 in
theorem walk (w0 : World) (n : Int) (_ : (Lit.int .i64 n).wf = true) (a : Int) (_ : (Lit.int .i64 a).wf = true) (b : Int) (_ : (Lit.int .i64 b).wf = true) :
    Calls Try.prog 3 #[.int .i64 n, .int .i64 a, .int .i64 b] w0 fun e w' => e = .returned (.bool true) ∧ Fr (fun _ => False) w0 w' := by
  have hq1 : Hid (∀ W, Calls Try.prog 8 #[.int .i64 n, .int .i64 a, .int .i64 0] W fun e w' => e = .returned (.int .i64 (lookE n [a])) ∧ w' = W) := fun W => by
    have := asked_any n a 0 W
    rw [look_one] at this; exact this
  have hq2 : Hid (∀ W, Calls Try.prog 8 #[.int .i64 n, .int .i64 a, .int .i64 b] W fun e w' => e = .returned (.int .i64 (lookE n [a, b])) ∧ w' = W) := asked_any n a b
  have hq3 : Hid (∀ W, Calls Try.prog 9 #[.int .i64 n] W fun e w' => e = .returned (.tuple #[.int .i64 (majN n), .int .i64 (nE n)]) ∧ w' = W) := majority_any n
  have hq4 : Hid (∀ W, Calls Try.prog 10 #[.int .i64 n, .int .i64 a] W fun e w' => e = .returned (.tuple #[.bool (hasM n a), .int .i64 (lookE n [a])]) ∧ Fr (fun _ => False) W w') := has_any n a
  have hq6 : Hid (∀ W, Calls Try.prog 12 #[.int .i64 n, .int .i64 a, .int .i64 b] W fun e w' => e = .returned (.tuple #[.int .i64 (meetI n a b), .bool (meetB n a b), .int .i64 (lookE n [a, b])]) ∧ Fr (fun _ => False) W w') := meet_any n a b
  have hq7 : Hid (∀ W, Calls Try.prog 13 #[.int .i64 n, .int .i64 a, .int .i64 b] W fun e w' => e = .returned (.tuple #[.int .i64 (withR n a b), .int .i64 (withE n a b)]) ∧ Fr (fun _ => False) W w') := with_any n a b
  have hq8 : Hid (∀ W, Calls Try.prog 14 #[.int .i64 n, .int .i64 a, .int .i64 b] W fun e w' => e = .returned (.tuple #[.int .i64 (withR n a b), .int .i64 (withE n a b)]) ∧ w' = W) := rwith_any n a b
  have HSP : Hid (∀ W, Calls Try.prog 15 #[] W fun e w' => e = .returned (.bool true) ∧ Fr (fun _ => False) W w') := quspk_any
  generalize withR n a b = wr0 at *
  generalize withE n a b = we0 at *
  by_cases hz : lookE n [a] = 0
  · obtain ⟨h1, h2, h3⟩ := look_ok hz
    obtain ⟨s1, s2⟩ := sB_lt h2 (h3 a (by simp))
    have hn := nOk_yes h1 h2
    have hE : nE n = 0 := by simp [nE, hn]
    have hM : majN n = n / 2 + 1 := by simp [majN, hn]
    have HH : Hid (hasM n a = decide (n < 2 * ((mems a n.toNat).length : Int))) := by
      show _ = _
      simp only [hasM, hz, hM, decide_true, Bool.true_and, decide_eq_decide]
      omega
    rw [hE, hM] at hq3
    rw [hz] at hq1 hq4
    have d1 : decide (n < 1) = false := by simp; omega
    have d2 : decide (7 < n) = false := by simp; omega
    have H2 : Hid (2 * ((mems a n.toNat).length : Int) ≤ 14) := by
      have := mems_len a n.toNat
      show _ ≤ _
      omega
    have HME : Hid (∀ W, Calls Try.prog 11 #[.int .i64 n, .int .i64 a] W fun e w' => ∃ p c, e = .returned (.tuple #[.slice p (mems a n.toNat).length c, .int .i64 0]) ∧ Ir w' W.heap.size p c (mems a n.toNat) ∧ Fr (fun _ => False) W w') := members_yes n a hz
    have HF : Hid (lookE n [a, b] = 0 ∨ (lookE n [a, b] ≠ 0 ∧ meetB n a b = false)) := by
      by_cases h : lookE n [a, b] = 0
      · exact .inl h
      · exact .inr ⟨h, by simp [meetB, h]⟩
    have HB : Hid (lookE n [a, b] = 0 → 0 ≤ b ∧ b < 128) := fun h => sB_lt h2 ((look_ok h).2.2 b (by simp))
    have HMI : Hid (lookE n [a, b] = 0 → meetI n a b = (match meetF a b n.toNat 0 with | some i => (i : Int) | none => 0) ∧ meetB n a b = (meetF a b n.toNat 0).isSome) := fun h => ⟨by unfold meetI; rw [if_pos h]; cases meetF a b n.toNat 0 <;> rfl, by simp [meetB, h]⟩
    clear h3 hn hE hM hz
    rw [HH.out] at hq4
    clear HH
    go_enter Try.func3, Try.ntmps3
    go_wp2_with fail
    refine (hq1.out _).mono ?_
    rintro e w1 ⟨rfl, rfl⟩
    go_wp2_with fail
    refine (hq2.out _).mono ?_
    rintro e w2 ⟨rfl, rfl⟩
    go_wp2_with fail
    refine (hq3.out _).mono ?_
    rintro e w3 ⟨rfl, rfl⟩
    go_wp2_with fail
    refine (hq4.out _).mono ?_
    rintro e w4 ⟨rfl, f4⟩
    go_wp2_with fail
    refine (HME.out _).mono ?_
    rintro e w5 ⟨mp, mc, rfl, hir, f5⟩
    go_wp2_with fail
    refine (hq6.out _).mono ?_
    rintro e w6 ⟨rfl, f6⟩
    go_wp2_with fail
    refine (hq7.out _).mono ?_
    rintro e w7 ⟨rfl, f7⟩
    go_wp2_with fail
    refine (hq8.out _).mono ?_
    rintro e w8 ⟨rfl, rfl⟩
    have HIR : Hid (∀ W, Fr (fun _ => False) w8 W → Is W mp mc (mems a n.toNat)) := fun W f => (hir.is.same ((f6.seq' f7).seq' f))
    have HL9 : Hid (mc ≤ 9223372036854775807 ∧ (mems a n.toNat).length ≤ mc) := ⟨hir.max, hir.le⟩
    have F : Hid (Fr (fun _ => False) w3 w8) := (((f4.seq' f5).seq' f6).seq' f7)
    clear f4 f5 f6 f7 hir HME
    obtain ⟨fe, hfe⟩ : ∃ fe, fe = lookE n [a, b] := ⟨_, rfl⟩
    rw [← hfe] at HF HB HMI ⊢
    clear hfe
    go_wp2
    go_loopw [22, 23, 24] (fun v x i wr => ∃ (k : Nat) (le : Int), k ≤ n.toNat ∧ -1 ≤ le ∧ le ≤ k ∧ i = .int .i64 k ∧ x = .int .i64 le ∧ Hid (le = leastN fe a b k) ∧ Hid (wr.ownsRow w8.heap.size 3 1 v (mems a k).length ((mems a k).map zI)) ∧ Hid (Fr (fun _ => False) w8 wr)) (fun _ _ i _ => n.toNat - (intOf i).toNat)
    case atStart => exact ⟨0, -1, by omega, by omega, by omega, rfl, rfl, by show _ = _; unfold leastN; split <;> rfl, own_nil _ _, Fr.refl _ _⟩
    case round =>
      obtain ⟨k, le, hk, hl1, hl2, rfl, rfl, HLE, HO, HR⟩ := hrel
      by_cases hlt : (k : Int) < n
      · have hin := rin_any a k s1 s2 (by omega) (by omega) wr
        rw [Int.toNat_natCast] at hin
        have hms := mems_succ a k
        have hml := mems_len a k
        obtain ⟨l, hl⟩ : ∃ l, l = mems a k := ⟨_, rfl⟩
        rw [← hl] at HO hms hml
        obtain ⟨p0, c0, rfl, _⟩ := Ir.of HO.out
        cases hb : inB a k with
        | false =>
          rw [hb] at hin
          have HLE2 : Hid (le = leastN fe a b (k + 1)) := by
            show _ = _
            rw [least_same (.inr (.inr (by rw [hb]; rfl)))]; exact HLE.out
          rw [hb, if_neg (by simp), List.append_nil] at hms
          have HO' : Hid (wr.ownsRow w8.heap.size 3 1 (.slice p0 l.length c0) (mems a (k + 1)).length ((mems a (k + 1)).map zI)) := by rw [hms]; exact HO
          clear hb hl hms HO HLE
          go_wp2_with (go_at_call 16; refine hin.mono ?_; rintro e w9 ⟨rfl, rfl⟩)
          refine ⟨⟨k + 1, le, by omega, hl1, by omega, by simp, by simp, HLE2, HO', HR⟩, by simp [intOf]; omega⟩
        | true =>
          rw [hb] at hin
          have HBA : Hid (inB a k = true) := hb
          rw [hb, if_pos rfl] at hms
          obtain ⟨a', c', w', hrun, hown, fa⟩ := app_one (k : Int) HO.out (by have := HR.out.size; omega) (by omega)
          have F2 : Hid (Fr (fun _ => False) w8 w') := HR.out.trans fa (fun i hi e => by omega)
          have HOW : Hid (w'.ownsRow w8.heap.size 3 1 (.slice a' (l.length + 1) c') (mems a (k + 1)).length ((mems a (k + 1)).map zI)) := by rw [hms]; exact hown
          clear hown fa hms hb hl HO HR
          by_cases hf : fe = 0
          · obtain ⟨b0, b1⟩ := HB.out hf
            by_cases hl0 : le < 0
            · have hib := rin_any b k b0 b1 (by omega) (by omega) w'
              rw [Int.toNat_natCast] at hib
              cases hbb : inB b k with
              | false =>
                rw [hbb] at hib
                have HLE2 : Hid (le = leastN fe a b (k + 1)) := by
                  show _ = _
                  rw [least_same (.inr (.inr (by rw [HBA.out, hbb]; rfl)))]; exact HLE.out
                clear hbb HLE HBA
                subst hf
                go_wp2_with fail
                refine hin.mono ?_
                rintro e w9 ⟨rfl, rfl⟩
                go_wp2_with (first | (at_builtin; refine append_step rfl _ _ 28 rfl rfl rfl hrun ?_) | (go_at_call 16; refine hib.mono ?_; rintro e w10 ⟨rfl, rfl⟩))
                refine ⟨⟨k + 1, le, by omega, hl1, by omega, by simp, by simp, HLE2, HOW, F2⟩, by simp [intOf]; omega⟩
              | true =>
                rw [hbb] at hib
                have HLE2 : Hid ((k : Int) = leastN fe a b (k + 1)) := by
                  show _ = _
                  rw [least_new hf (by rw [← HLE.out]; exact hl0) (by rw [HBA.out, hbb]; rfl)]
                clear hbb HLE HBA
                subst hf
                go_wp2_with fail
                refine hin.mono ?_
                rintro e w9 ⟨rfl, rfl⟩
                go_wp2_with (first | (at_builtin; refine append_step rfl _ _ 28 rfl rfl rfl hrun ?_) | (go_at_call 16; refine hib.mono ?_; rintro e w10 ⟨rfl, rfl⟩))
                refine ⟨⟨k + 1, k, by omega, by omega, by omega, by simp, by simp, HLE2, HOW, F2⟩, by simp [intOf]; omega⟩
            · have hl0' : decide (le < 0) = false := by simpa using hl0
              have HLE2 : Hid (le = leastN fe a b (k + 1)) := by
                show _ = _
                rw [least_same (.inr (.inl (by rw [← HLE.out]; omega)))]; exact HLE.out
              clear HLE HBA
              subst hf
              go_wp2_with fail
              refine hin.mono ?_
              rintro e w9 ⟨rfl, rfl⟩
              go_wp2_with (at_builtin; refine append_step rfl _ _ 28 rfl rfl rfl hrun ?_)
              refine ⟨⟨k + 1, le, by omega, hl1, by omega, by simp, by simp, HLE2, HOW, F2⟩, by simp [intOf]; omega⟩
          · have hf' : (fe == 0) = false := by simpa using hf
            have HLE2 : Hid (le = leastN fe a b (k + 1)) := by
              show _ = _
              rw [least_same (.inl hf)]; exact HLE.out
            clear HLE HBA
            go_wp2_with fail
            refine hin.mono ?_
            rintro e w9 ⟨rfl, rfl⟩
            go_wp2_with (at_builtin; refine append_step rfl _ _ 28 rfl rfl rfl hrun ?_)
            refine ⟨⟨k + 1, le, by omega, hl1, by omega, by simp, by simp, HLE2, HOW, F2⟩, by simp [intOf]; omega⟩
      · have hkn : k = n.toNat := by omega
        subst hkn
        obtain ⟨p, c, rfl, hir⟩ := Ir.of HO.out
        have hmi := HIR.out _ HR.out
        have HPL : Hid (Calls Try.prog 17 #[.slice mp (mems a n.toNat).length mc, .slice p (mems a n.toNat).length c] wr fun e w' => e = .returned (.bool true) ∧ Fr (fun _ => False) wr w') := plain_is mp p mc c _ wr hmi hir.is
        have H3 := H2.out
        have FR : Hid (Fr (fun _ => False) w3 wr) := F.out.seq' HR.out
        clear hir hmi HO HIR HL9 H2
        by_cases hf : fe = 0
        · obtain ⟨m1, m2⟩ := HMI.out hf
          have m3 : meetB n a b = decide (0 ≤ le) := by
            rw [m2, HLE.out]
            unfold leastN
            rw [if_pos hf]
            cases meetF a b n.toNat 0 <;> simp
          have m4 : meetB n a b = true → meetI n a b = le := by
            rw [m2, m1, HLE.out]
            unfold leastN
            rw [if_pos hf]
            cases meetF a b n.toNat 0 <;> simp
          clear m1 m2 HMI HLE HF HB
          subst hf
          cases hmb : meetB n a b with
          | true =>
            have m5 := m4 hmb
            rw [hmb] at m3
            have m6 : 0 ≤ le := by simpa using m3.symm
            clear m3 m4
            go_wp2_with fail
            refine HPL.out.mono ?_
            rintro e w9 ⟨rfl, f9⟩
            go_wp2_with fail
            refine (HSP.out _).mono ?_
            rintro e w10 ⟨rfl, f10⟩
            go_wp2
            go_ret
            exact ⟨by simp, (FR.out.seq' f9).seq' f10⟩
          | false =>
            rw [hmb] at m3
            have m6 : le < 0 := by simpa using m3.symm
            have m7 : decide (0 ≤ le) = false := m3.symm
            clear m3 m4
            go_wp2_with fail
            refine HPL.out.mono ?_
            rintro e w9 ⟨rfl, f9⟩
            go_wp2_with fail
            refine (HSP.out _).mono ?_
            rintro e w10 ⟨rfl, f10⟩
            go_wp2
            go_ret
            exact ⟨by simp, (FR.out.seq' f9).seq' f10⟩
        · have hf' : (fe == 0) = false := by simpa using hf
          have hmb : meetB n a b = false := by
            rcases HF.out with h | h
            · exact absurd h hf
            · exact h.2
          clear HMI HLE HF HB
          go_wp2_with fail
          refine HPL.out.mono ?_
          rintro e w9 ⟨rfl, f9⟩
          go_wp2_with fail
          refine (HSP.out _).mono ?_
          rintro e w10 ⟨rfl, f10⟩
          go_wp2
          go_ret
          exact ⟨by simp, (FR.out.seq' f9).seq' f10⟩
  · have HN : Hid (lookE n [a, b] ≠ 0) := by
      intro e
      obtain ⟨k1, k2, k3⟩ := look_ok e
      apply hz
      have := k3 a (by simp)
      simp [lookE, nOk_yes k1 k2, this]
    have x1 : hasM n a = false := by simp [hasM, hz]
    have x2 : meetI n a b = 0 := by unfold meetI; rw [if_neg HN.out]
    have x3 : meetB n a b = false := by simp [meetB, HN.out]
    rw [x1] at hq4
    rw [x2, x3] at hq6
    clear x1 x2 x3
    by_cases g1 : n < 1
    · have hE : nE n = 1 := by simp [nE, nOk]; omega
      rw [hE] at hq3
      clear hE HN
      go_enter Try.func3, Try.ntmps3
      go_wp2_with fail
      refine (hq1.out _).mono ?_
      rintro e w1 ⟨rfl, rfl⟩
      go_wp2_with fail
      refine (hq2.out _).mono ?_
      rintro e w2 ⟨rfl, rfl⟩
      go_wp2_with fail
      refine (hq3.out _).mono ?_
      rintro e w3 ⟨rfl, rfl⟩
      go_wp2_with fail
      refine (hq4.out _).mono ?_
      rintro e w4 ⟨rfl, f4⟩
      go_wp2_with fail
      refine (members_no n a hz _).mono ?_
      rintro e w5 ⟨rfl, f5⟩
      go_wp2_with fail
      refine (hq6.out _).mono ?_
      rintro e w6 ⟨rfl, f6⟩
      go_wp2_with fail
      refine (hq7.out _).mono ?_
      rintro e w7 ⟨rfl, f7⟩
      go_wp2_with fail
      refine (hq8.out _).mono ?_
      rintro e w8 ⟨rfl, rfl⟩
      have F : Hid (Fr (fun _ => False) w3 w8) := (((f4.seq' f5).seq' f6).seq' f7)
      clear f4 f5 f6 f7
      go_wp2_with fail
      refine (HSP.out _).mono ?_
      rintro e w9 ⟨rfl, f9⟩
      go_wp2
      go_ret
      exact ⟨by simp, F.out.seq' f9⟩
    · have g1' : decide (n < 1) = false := by simpa using g1
      by_cases g2 : 7 < n
      · have hE : nE n = 1 := by simp [nE, nOk]; omega
        rw [hE] at hq3
        clear hE HN
        go_enter Try.func3, Try.ntmps3
        go_wp2_with fail
        refine (hq1.out _).mono ?_
        rintro e w1 ⟨rfl, rfl⟩
        go_wp2_with fail
        refine (hq2.out _).mono ?_
        rintro e w2 ⟨rfl, rfl⟩
        go_wp2_with fail
        refine (hq3.out _).mono ?_
        rintro e w3 ⟨rfl, rfl⟩
        go_wp2_with fail
        refine (hq4.out _).mono ?_
        rintro e w4 ⟨rfl, f4⟩
        go_wp2_with fail
        refine (members_no n a hz _).mono ?_
        rintro e w5 ⟨rfl, f5⟩
        go_wp2_with fail
        refine (hq6.out _).mono ?_
        rintro e w6 ⟨rfl, f6⟩
        go_wp2_with fail
        refine (hq7.out _).mono ?_
        rintro e w7 ⟨rfl, f7⟩
        go_wp2_with fail
        refine (hq8.out _).mono ?_
        rintro e w8 ⟨rfl, rfl⟩
        have F : Hid (Fr (fun _ => False) w3 w8) := (((f4.seq' f5).seq' f6).seq' f7)
        clear f4 f5 f6 f7
        go_wp2_with fail
        refine (HSP.out _).mono ?_
        rintro e w9 ⟨rfl, f9⟩
        go_wp2
        go_ret
        exact ⟨by simp, F.out.seq' f9⟩
      · have g2' : decide (7 < n) = false := by simpa using g2
        have hn := nOk_yes (n := n) (by omega) (by omega)
        have hE : nE n = 0 := by simp [nE, hn]
        have hM : majN n = n / 2 + 1 := by simp [majN, hn]
        rw [hE, hM] at hq3
        clear hE hM hn HN
        go_enter Try.func3, Try.ntmps3
        go_wp2_with fail
        refine (hq1.out _).mono ?_
        rintro e w1 ⟨rfl, rfl⟩
        go_wp2_with fail
        refine (hq2.out _).mono ?_
        rintro e w2 ⟨rfl, rfl⟩
        go_wp2_with fail
        refine (hq3.out _).mono ?_
        rintro e w3 ⟨rfl, rfl⟩
        go_wp2_with fail
        refine (hq4.out _).mono ?_
        rintro e w4 ⟨rfl, f4⟩
        go_wp2_with fail
        refine (members_no n a hz _).mono ?_
        rintro e w5 ⟨rfl, f5⟩
        go_wp2_with fail
        refine (hq6.out _).mono ?_
        rintro e w6 ⟨rfl, f6⟩
        go_wp2_with fail
        refine (hq7.out _).mono ?_
        rintro e w7 ⟨rfl, f7⟩
        go_wp2_with fail
        refine (hq8.out _).mono ?_
        rintro e w8 ⟨rfl, rfl⟩
        have F : Hid (Fr (fun _ => False) w3 w8) := (((f4.seq' f5).seq' f6).seq' f7)
        clear f4 f5 f6 f7
        go_wp2_with fail
        refine (HSP.out _).mono ?_
        rintro e w9 ⟨rfl, f9⟩
        go_wp2
        go_ret
        exact ⟨by simp, F.out.seq' f9⟩

set_option maxRecDepth 100000 in
theorem lifted (os : Os) (started : os.Started) (H : Type) (enc : TypeId × Value → H) :
    ReturnsInHanded {} Try.checked os 3 .any (Rows.quorumSetsSpec.pre6 enc Try.prog Try.f3 Rows.quorumSetsRow.domain false) (Rows.quorumSetsSpec.post enc Try.prog Try.f3 false true false false) := by
  refine returnsInHanded_of_change_sized (C := Try.checked) own started (by kernel_rfl) Try.func3
    (ChangeSpec.witness6 (enc := enc) (C := Try.checked) false ⟨#[], #[.int .i64 0, .int .i64 0, .int .i64 0], []⟩ 8 (by kernel_rfl) (by kernel_rfl) (by kernel_rfl) (by kernel_rfl)) ?_
  intro W base args ds gs before hval0 hW hcnd hsz0 _
  have hsz : (DataW.weightsEach Try.prog (Try.f3.params.toList ++ Rows.quorumSetsSpec.plain.varTypes Try.prog) (ds ++ gs)).all (· ≤ reachBytes) = true := hsz0
  clear hsz0
  have hval : ∀ (j : Nat) t v, Try.f3.params[j]? = some t → args[j]? = some v → Value.okWide Try.prog W .any base t v := hval0
  have hW' := hW
  obtain ⟨p, q, hA0, hV, rfl, hfz, hnd⟩ := hW
  have hA : DataW.TrodAll enc Try.prog W 0 (fun _ => true) true Try.f3.params.toList args.toList ds p := hA0
  rw [Try.params3] at hA hval hsz
  obtain ⟨v0, vs0, d0, ds0, p0, q0, hargs, rfl, rfl, h0, r0⟩ := trodAll_cons hA
  obtain ⟨v1, vs1, d1, ds1, p1, q1, rfl, rfl, rfl, h1, r1⟩ := trodAll_cons r0
  obtain ⟨v2, vs2, d2, ds2, p2, q2, rfl, rfl, rfl, h2, r2⟩ := trodAll_cons r1
  obtain ⟨rfl, rfl, rfl⟩ := trodAll_nil r2
  obtain rfl : args = #[v0, v1, v2] := by cases args; simp_all
  obtain ⟨rfl, rfl⟩ := trodVars_none hV
  obtain ⟨a0, rfl, rfl, rfl, w0⟩ := open_int Try.underlying3 (hval 0 3 v0 rfl rfl) h0
  obtain ⟨a1, rfl, rfl, rfl, w1⟩ := open_int Try.underlying3 (hval 1 3 v1 rfl rfl) h1
  obtain ⟨a2, rfl, rfl, rfl, w2⟩ := open_int Try.underlying3 (hval 2 3 v2 rfl rfl) h2
  clear hA0 hval0
  refine (walk W a0 w0 a1 w1 a2 w2).mono fun e W' ⟨he, fr⟩ => ?_
  have bel : Below W.heap.size W W' := fr.below (Nat.le_refl _) (fun _ f => f.elim)
  subst he
  exact ⟨_, rfl, _, _, _, [], _, [], hW', trodAll_mk1 (shut_bool Try.underlying4 _), (trodAll_cons_mk (shut_int Try.underlying3 w0) (trodAll_cons_mk (shut_int Try.underlying3 w1) (trodAll_cons_mk (shut_int Try.underlying3 w2) trodAll_mk0))), rfl, bel.frame _, fun h => by cases h⟩

theorem proved : Rows.QuorumSetsSaid :=
  OpenClaim.holds_of_wide 3 Try.f3 rfl rfl rfl rfl rfl rfl rfl ⟨rfl, rfl, rfl, rfl, rfl⟩ rfl rfl rfl rfl rfl (by kernel_rfl) Try.func3 (by kernel_rfl)
    (of_decide_eq_true (by kernel_rfl)) (by unfold Func.isWrapper; first | (rw [if_pos (by decide +kernel)]; kernel_rfl) | (rw [if_neg (by decide +kernel)]; exact ⟨rfl, rfl⟩))
    (fun os started H enc _ => lifted os started H enc)
end Go.Proofs.Ytnjfihmghhjfcaa.quorumSets
namespace Go.Proofs.Ytnjfihmghhjfcaa
theorem quorumSets_holds : Rows.QuorumSetsSaid := quorumSets.proved
#print axioms quorumSets_holds
end Go.Proofs.Ytnjfihmghhjfcaa
