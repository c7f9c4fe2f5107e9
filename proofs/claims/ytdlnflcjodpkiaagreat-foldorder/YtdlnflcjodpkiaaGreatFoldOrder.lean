
/- For any three rows of records and any number, a history extends each of its beginnings, extending is transitive, and histories that extend one another are as long; and the example speaks; with no condition but those of the statement's own form. -/
import Derived.Test.YtdlnflcjodpkiaaGreatArgs
import Derived.Test.YtdlnflcjodpkiaaGreatFdSpk
import Derived.Test.YtdlnflcjodpkiaaGreatFdArg2
import Derived.Test.YtdlnflcjodpkiaaGreatFdLst
namespace Go.Proofs.YtdlnflcjodpkiaaGreat.foldOrder
open Go.ChangeShapes Go.WideShapes Go.ChangeAt Go.RowKit
open Go.ChangeMaps (open_string shut_string)
set_option linter.unusedVariables false

theorem own : ownKnob Tryz.prog.godebug = none := by kernel_rfl
theorem laidOut : laidOutB Tryz.prog = true := by kernel_rfl
theorem bytes8 : Tryz.prog.bytesOf 5 = 1 := by kernel_rfl

open Go.RowKit Go.Shelf
theorem recs_take {w : World} {a : Option Addr} {c : Nat} {ls : List Rec} (h : Recs w a c ls) (n : Nat) : Recs w a c (ls.take n) := by
  refine ⟨Nat.le_trans (List.length_take_le' _ _) h.le, h.max, ?_⟩
  rcases h.at_ with h0 | ⟨b, off, h1, h2, h3⟩
  · exact .inl (by rw [h0]; simp)
  · refine .inr ⟨b, off, h1, h2, fun i r hr => h3 i r ?_⟩
    rw [List.getElem?_take] at hr
    split at hr
    · exact hr
    · cases hr
set_option maxRecDepth 100000 in
set_option maxHeartbeats 4000000 in
theorem walk (w : World) (a0 a1 a2 : Option Addr) (c0 c1 c2 : Nat) (l0 l1 l2 : List Rec) (r0 : Recs w a0 c0 l0) (r1 : Recs w a1 c1 l1) (r2 : Recs w a2 c2 l2) (g0 : l0.length ≤ 140737488355328) (g1 : l1.length ≤ 140737488355328) (g2 : l2.length ≤ 140737488355328) (n : Int) (wn : (Lit.int .i64 n).wf = true) :
    Calls Tryz.prog 8 #[.agg #[.slice a0 l0.length c0, .slice a1 l1.length c1, .slice a2 l2.length c2], .int .i64 n] w fun e w' => e = .returned (.bool true) ∧ Fr (fun _ => False) w w' := by
  have HSP : Hid (∀ W, Calls Tryz.prog 13 #[] W fun e w' => e = .returned (.bool true) ∧ Fr (fun _ => False) W w') := speaks_any
  obtain ⟨n0, hn0⟩ : ∃ n0, n0 = l0.length := ⟨_, rfl⟩
  obtain ⟨n1, hn1⟩ : ∃ n1, n1 = l1.length := ⟨_, rfl⟩
  obtain ⟨n2, hn2⟩ : ∃ n2, n2 = l2.length := ⟨_, rfl⟩
  have q0 : n0 ≤ c0 := by rw [hn0]; exact r0.le
  have q1 : n1 ≤ c1 := by rw [hn1]; exact r1.le
  have q2 : n2 ≤ c2 := by rw [hn2]; exact r2.le
  have m0 := r0.max
  have m1 := r1.max
  have m2 := r2.max
  rw [← hn0] at g0 ⊢
  rw [← hn1] at g1 ⊢
  rw [← hn2] at g2 ⊢
  by_cases hbig : 3000 < n0 + n1 + n2
  · clear r0 r1 r2 hn0 hn1 hn2 wn
    go_enter Tryz.func8, Tryz.ntmps8
    go_wp2_with (go_at_call 13; refine (HSP.out _).mono ?_; rintro e w2 ⟨rfl, f2⟩)
    go_ret
    exact ⟨rfl, (Fr.box w _).seq' f2⟩
  have hsm : n0 + n1 + n2 ≤ 3000 := by omega
  obtain ⟨xab, HAB, hab⟩ : ∃ xab : Bool, Hid (∀ W, Fr (fun _ => False) w W → Calls Tryz.prog 25 #[.slice a0 n0 c0, .slice a1 n1 c1] W fun e w' => e = .returned (.bool xab) ∧ Fr (fun _ => False) W w') ∧ (xab = true → Ext (hist l0) (hist l1)) :=
    ⟨_, fun W f => extends_any a0 a1 n0 n1 c0 c1 l0 l1 hn0 hn1 (by omega) (by omega) W (r0.same f) (r1.same f), extB_of⟩
  obtain ⟨xba, HBA, hba⟩ : ∃ xba : Bool, Hid (∀ W, Fr (fun _ => False) w W → Calls Tryz.prog 25 #[.slice a1 n1 c1, .slice a0 n0 c0] W fun e w' => e = .returned (.bool xba) ∧ Fr (fun _ => False) W w') ∧ (xba = true → Ext (hist l1) (hist l0)) :=
    ⟨_, fun W f => extends_any a1 a0 n1 n0 c1 c0 l1 l0 hn1 hn0 (by omega) (by omega) W (r1.same f) (r0.same f), extB_of⟩
  obtain ⟨xbc, HBC, hbc⟩ : ∃ xbc : Bool, Hid (∀ W, Fr (fun _ => False) w W → Calls Tryz.prog 25 #[.slice a1 n1 c1, .slice a2 n2 c2] W fun e w' => e = .returned (.bool xbc) ∧ Fr (fun _ => False) W w') ∧ (xbc = true → Ext (hist l1) (hist l2)) :=
    ⟨_, fun W f => extends_any a1 a2 n1 n2 c1 c2 l1 l2 hn1 hn2 (by omega) (by omega) W (r1.same f) (r2.same f), extB_of⟩
  have HAC : Hid (xab = true → xbc = true → ∀ W, Fr (fun _ => False) w W → Calls Tryz.prog 25 #[.slice a0 n0 c0, .slice a2 n2 c2] W fun e w' => e = .returned (.bool true) ∧ Fr (fun _ => False) W w') := fun h1 h2 W f => by
    have h := extends_any a0 a2 n0 n2 c0 c2 l0 l2 hn0 hn2 (by omega) (by omega) W (r0.same f) (r2.same f)
    rwa [extB_yes ((hab h1).trans (hbc h2))] at h
  have HTK : Hid (∀ (m : Nat), m ≤ n0 → ∀ W, Fr (fun _ => False) w W → Calls Tryz.prog 25 #[.slice a0 n0 c0, .slice a0 m c0] W fun e w' => e = .returned (.bool true) ∧ Fr (fun _ => False) W w') := fun m hm W f => by
    have h := extends_any a0 a0 n0 m c0 c0 l0 (l0.take m) hn0 (by rw [List.length_take]; omega) (by omega) (by omega) W (r0.same f) (recs_take (r0.same f) m)
    rwa [extB_yes (ext_take l0 m)] at h
  obtain ⟨p0, hp0⟩ : ∃ p0, p0 = (hist l0).length := ⟨_, rfl⟩
  obtain ⟨p1, hp1⟩ : ∃ p1, p1 = (hist l1).length := ⟨_, rfl⟩
  have HPQ : Hid (xab = true → xba = true → p0 = p1) := fun h1 h2 => by
    have e1 := (hab h1).1
    have e2 := (hba h2).1
    omega
  have HH0 : Hid (∀ W, Fr (fun _ => False) w W → Calls Tryz.prog 17 #[.slice a0 n0 c0] W fun e w' => ∃ b c, e = .returned (.slice b p0 c) ∧ Fr (fun _ => False) W w') := fun W f =>
    (history_any a0 n0 c0 l0 hn0 (by omega) W (r0.same f)).mono fun e w' ⟨b, c, h1, _, _, h4⟩ => ⟨b, c, by rw [h1, hp0], h4⟩
  have HH1 : Hid (∀ W, Fr (fun _ => False) w W → Calls Tryz.prog 17 #[.slice a1 n1 c1] W fun e w' => ∃ b c, e = .returned (.slice b p1 c) ∧ Fr (fun _ => False) W w') := fun W f =>
    (history_any a1 n1 c1 l1 hn1 (by omega) W (r1.same f)).mono fun e w' ⟨b, c, h1, _, _, h4⟩ => ⟨b, c, by rw [h1, hp1], h4⟩
  have hp0' : p0 ≤ 9223372036854775807 := by have := hist_len l0; omega
  have hp1' : p1 ≤ 9223372036854775807 := by have := hist_len l1; omega
  have HF0 : Hid (Fr (fun _ => False) w (w.alloc (.cells #[.slice a0 n0 c0, .slice a1 n1 c1, .slice a2 n2 c2] 55))) := Fr.box w _
  clear hab hba hbc r0 r1 r2 hn0 hn1 hn2 wn hp0 hp1
  have hn : n < 0 ∨ (0 ≤ n ∧ (n0 : Int) < n) ∨ ∃ m : Nat, n = m ∧ m ≤ n0 := by
    by_cases h1 : n < 0
    · exact .inl h1
    · by_cases h2 : (n0 : Int) < n
      · exact .inr (.inl ⟨by omega, h2⟩)
      · exact .inr (.inr ⟨n.toNat, by omega, by omega⟩)
  rcases hn with hn | ⟨hn, hn'⟩ | ⟨m, rfl, hn⟩
  · go_enter Tryz.func8, Tryz.ntmps8
    go_wp2_with fail
    refine (HTK.out n0 (Nat.le_refl _) _ HF0.out).mono ?_
    rintro e w1 ⟨rfl, f1⟩
    have HF1 : Hid (Fr (fun _ => False) w w1) := HF0.out.seq' f1
    clear f1 HTK
    cases xab with
    | false =>
      have h1 := HAB.out w1 HF1.out
      go_wp2_with fail
      refine h1.mono ?_
      rintro e w2 ⟨rfl, f2⟩
      have HF2 : Hid (Fr (fun _ => False) w w2) := HF1.out.seq' f2
      clear f2 h1 HF1
      have h2 := HAB.out w2 HF2.out
      go_wp2_with fail
      refine h2.mono ?_
      rintro e w3 ⟨rfl, f3⟩
      have HF3 : Hid (Fr (fun _ => False) w w3) := HF2.out.seq' f3
      clear f3 h2 HF2
      have h3 := HSP.out w3
      go_wp2_with fail
      refine h3.mono ?_
      rintro e w4 ⟨rfl, f4⟩
      have HF4 : Hid (Fr (fun _ => False) w w4) := HF3.out.seq' f4
      clear f4 h3 HF3
      go_wp2_with fail
      go_ret
      exact ⟨rfl, HF4.out⟩
    | true =>
      have h1 := HAB.out w1 HF1.out
      go_wp2_with fail
      refine h1.mono ?_
      rintro e w2 ⟨rfl, f2⟩
      have HF2 : Hid (Fr (fun _ => False) w w2) := HF1.out.seq' f2
      clear f2 h1 HF1
      have h2 := HBC.out w2 HF2.out
      go_wp2_with fail
      refine h2.mono ?_
      rintro e w3 ⟨rfl, f3⟩
      have HF3 : Hid (Fr (fun _ => False) w w3) := HF2.out.seq' f3
      clear f3 h2 HF2
      cases xbc with
      | false =>
        have h3 := HAB.out w3 HF3.out
        go_wp2_with fail
        refine h3.mono ?_
        rintro e w4 ⟨rfl, f4⟩
        have HF4 : Hid (Fr (fun _ => False) w w4) := HF3.out.seq' f4
        clear f4 h3 HF3
        have h4 := HBA.out w4 HF4.out
        go_wp2_with fail
        refine h4.mono ?_
        rintro e w5 ⟨rfl, f5⟩
        have HF5 : Hid (Fr (fun _ => False) w w5) := HF4.out.seq' f5
        clear f5 h4 HF4
        cases xba with
        | false =>
          have h5 := HSP.out w5
          go_wp2_with fail
          refine h5.mono ?_
          rintro e w6 ⟨rfl, f6⟩
          have HF6 : Hid (Fr (fun _ => False) w w6) := HF5.out.seq' f6
          clear f6 h5 HF5
          go_wp2_with fail
          go_ret
          exact ⟨rfl, HF6.out⟩
        | true =>
          have hpq := HPQ.out (by simp) (by simp)
          subst hpq
          have h5 := HH0.out w5 HF5.out
          go_wp2_with fail
          refine h5.mono ?_
          rintro e w6 ⟨b6, d6, rfl, f6⟩
          have HF6 : Hid (Fr (fun _ => False) w w6) := HF5.out.seq' f6
          clear f6 h5 HF5
          have h6 := HH1.out w6 HF6.out
          go_wp2_with fail
          refine h6.mono ?_
          rintro e w7 ⟨b7, d7, rfl, f7⟩
          have HF7 : Hid (Fr (fun _ => False) w w7) := HF6.out.seq' f7
          clear f7 h6 HF6
          have h7 := HSP.out w7
          go_wp2_with fail
          refine h7.mono ?_
          rintro e w8 ⟨rfl, f8⟩
          have HF8 : Hid (Fr (fun _ => False) w w8) := HF7.out.seq' f8
          clear f8 h7 HF7
          go_wp2_with fail
          go_ret
          exact ⟨rfl, HF8.out⟩
      | true =>
        have h3 := HAC.out (by simp) (by simp) w3 HF3.out
        go_wp2_with fail
        refine h3.mono ?_
        rintro e w4 ⟨rfl, f4⟩
        have HF4 : Hid (Fr (fun _ => False) w w4) := HF3.out.seq' f4
        clear f4 h3 HF3
        have h4 := HAB.out w4 HF4.out
        go_wp2_with fail
        refine h4.mono ?_
        rintro e w5 ⟨rfl, f5⟩
        have HF5 : Hid (Fr (fun _ => False) w w5) := HF4.out.seq' f5
        clear f5 h4 HF4
        have h5 := HBA.out w5 HF5.out
        go_wp2_with fail
        refine h5.mono ?_
        rintro e w6 ⟨rfl, f6⟩
        have HF6 : Hid (Fr (fun _ => False) w w6) := HF5.out.seq' f6
        clear f6 h5 HF5
        cases xba with
        | false =>
          have h6 := HSP.out w6
          go_wp2_with fail
          refine h6.mono ?_
          rintro e w7 ⟨rfl, f7⟩
          have HF7 : Hid (Fr (fun _ => False) w w7) := HF6.out.seq' f7
          clear f7 h6 HF6
          go_wp2_with fail
          go_ret
          exact ⟨rfl, HF7.out⟩
        | true =>
          have hpq := HPQ.out (by simp) (by simp)
          subst hpq
          have h6 := HH0.out w6 HF6.out
          go_wp2_with fail
          refine h6.mono ?_
          rintro e w7 ⟨b7, d7, rfl, f7⟩
          have HF7 : Hid (Fr (fun _ => False) w w7) := HF6.out.seq' f7
          clear f7 h6 HF6
          have h7 := HH1.out w7 HF7.out
          go_wp2_with fail
          refine h7.mono ?_
          rintro e w8 ⟨b8, d8, rfl, f8⟩
          have HF8 : Hid (Fr (fun _ => False) w w8) := HF7.out.seq' f8
          clear f8 h7 HF7
          have h8 := HSP.out w8
          go_wp2_with fail
          refine h8.mono ?_
          rintro e w9 ⟨rfl, f9⟩
          have HF9 : Hid (Fr (fun _ => False) w w9) := HF8.out.seq' f9
          clear f9 h8 HF8
          go_wp2_with fail
          go_ret
          exact ⟨rfl, HF9.out⟩
  · go_enter Tryz.func8, Tryz.ntmps8
    go_wp2_with fail
    refine (HTK.out n0 (Nat.le_refl _) _ HF0.out).mono ?_
    rintro e w1 ⟨rfl, f1⟩
    have HF1 : Hid (Fr (fun _ => False) w w1) := HF0.out.seq' f1
    clear f1 HTK
    cases xab with
    | false =>
      have h1 := HAB.out w1 HF1.out
      go_wp2_with fail
      refine h1.mono ?_
      rintro e w2 ⟨rfl, f2⟩
      have HF2 : Hid (Fr (fun _ => False) w w2) := HF1.out.seq' f2
      clear f2 h1 HF1
      have h2 := HAB.out w2 HF2.out
      go_wp2_with fail
      refine h2.mono ?_
      rintro e w3 ⟨rfl, f3⟩
      have HF3 : Hid (Fr (fun _ => False) w w3) := HF2.out.seq' f3
      clear f3 h2 HF2
      have h3 := HSP.out w3
      go_wp2_with fail
      refine h3.mono ?_
      rintro e w4 ⟨rfl, f4⟩
      have HF4 : Hid (Fr (fun _ => False) w w4) := HF3.out.seq' f4
      clear f4 h3 HF3
      go_wp2_with fail
      go_ret
      exact ⟨rfl, HF4.out⟩
    | true =>
      have h1 := HAB.out w1 HF1.out
      go_wp2_with fail
      refine h1.mono ?_
      rintro e w2 ⟨rfl, f2⟩
      have HF2 : Hid (Fr (fun _ => False) w w2) := HF1.out.seq' f2
      clear f2 h1 HF1
      have h2 := HBC.out w2 HF2.out
      go_wp2_with fail
      refine h2.mono ?_
      rintro e w3 ⟨rfl, f3⟩
      have HF3 : Hid (Fr (fun _ => False) w w3) := HF2.out.seq' f3
      clear f3 h2 HF2
      cases xbc with
      | false =>
        have h3 := HAB.out w3 HF3.out
        go_wp2_with fail
        refine h3.mono ?_
        rintro e w4 ⟨rfl, f4⟩
        have HF4 : Hid (Fr (fun _ => False) w w4) := HF3.out.seq' f4
        clear f4 h3 HF3
        have h4 := HBA.out w4 HF4.out
        go_wp2_with fail
        refine h4.mono ?_
        rintro e w5 ⟨rfl, f5⟩
        have HF5 : Hid (Fr (fun _ => False) w w5) := HF4.out.seq' f5
        clear f5 h4 HF4
        cases xba with
        | false =>
          have h5 := HSP.out w5
          go_wp2_with fail
          refine h5.mono ?_
          rintro e w6 ⟨rfl, f6⟩
          have HF6 : Hid (Fr (fun _ => False) w w6) := HF5.out.seq' f6
          clear f6 h5 HF5
          go_wp2_with fail
          go_ret
          exact ⟨rfl, HF6.out⟩
        | true =>
          have hpq := HPQ.out (by simp) (by simp)
          subst hpq
          have h5 := HH0.out w5 HF5.out
          go_wp2_with fail
          refine h5.mono ?_
          rintro e w6 ⟨b6, d6, rfl, f6⟩
          have HF6 : Hid (Fr (fun _ => False) w w6) := HF5.out.seq' f6
          clear f6 h5 HF5
          have h6 := HH1.out w6 HF6.out
          go_wp2_with fail
          refine h6.mono ?_
          rintro e w7 ⟨b7, d7, rfl, f7⟩
          have HF7 : Hid (Fr (fun _ => False) w w7) := HF6.out.seq' f7
          clear f7 h6 HF6
          have h7 := HSP.out w7
          go_wp2_with fail
          refine h7.mono ?_
          rintro e w8 ⟨rfl, f8⟩
          have HF8 : Hid (Fr (fun _ => False) w w8) := HF7.out.seq' f8
          clear f8 h7 HF7
          go_wp2_with fail
          go_ret
          exact ⟨rfl, HF8.out⟩
      | true =>
        have h3 := HAC.out (by simp) (by simp) w3 HF3.out
        go_wp2_with fail
        refine h3.mono ?_
        rintro e w4 ⟨rfl, f4⟩
        have HF4 : Hid (Fr (fun _ => False) w w4) := HF3.out.seq' f4
        clear f4 h3 HF3
        have h4 := HAB.out w4 HF4.out
        go_wp2_with fail
        refine h4.mono ?_
        rintro e w5 ⟨rfl, f5⟩
        have HF5 : Hid (Fr (fun _ => False) w w5) := HF4.out.seq' f5
        clear f5 h4 HF4
        have h5 := HBA.out w5 HF5.out
        go_wp2_with fail
        refine h5.mono ?_
        rintro e w6 ⟨rfl, f6⟩
        have HF6 : Hid (Fr (fun _ => False) w w6) := HF5.out.seq' f6
        clear f6 h5 HF5
        cases xba with
        | false =>
          have h6 := HSP.out w6
          go_wp2_with fail
          refine h6.mono ?_
          rintro e w7 ⟨rfl, f7⟩
          have HF7 : Hid (Fr (fun _ => False) w w7) := HF6.out.seq' f7
          clear f7 h6 HF6
          go_wp2_with fail
          go_ret
          exact ⟨rfl, HF7.out⟩
        | true =>
          have hpq := HPQ.out (by simp) (by simp)
          subst hpq
          have h6 := HH0.out w6 HF6.out
          go_wp2_with fail
          refine h6.mono ?_
          rintro e w7 ⟨b7, d7, rfl, f7⟩
          have HF7 : Hid (Fr (fun _ => False) w w7) := HF6.out.seq' f7
          clear f7 h6 HF6
          have h7 := HH1.out w7 HF7.out
          go_wp2_with fail
          refine h7.mono ?_
          rintro e w8 ⟨b8, d8, rfl, f8⟩
          have HF8 : Hid (Fr (fun _ => False) w w8) := HF7.out.seq' f8
          clear f8 h7 HF7
          have h8 := HSP.out w8
          go_wp2_with fail
          refine h8.mono ?_
          rintro e w9 ⟨rfl, f9⟩
          have HF9 : Hid (Fr (fun _ => False) w w9) := HF8.out.seq' f9
          clear f9 h8 HF8
          go_wp2_with fail
          go_ret
          exact ⟨rfl, HF9.out⟩
  · go_enter Tryz.func8, Tryz.ntmps8
    go_wp2_with fail
    refine (HTK.out m hn _ HF0.out).mono ?_
    rintro e w1 ⟨rfl, f1⟩
    have HF1 : Hid (Fr (fun _ => False) w w1) := HF0.out.seq' f1
    clear f1 HTK
    cases xab with
    | false =>
      have h1 := HAB.out w1 HF1.out
      go_wp2_with fail
      refine h1.mono ?_
      rintro e w2 ⟨rfl, f2⟩
      have HF2 : Hid (Fr (fun _ => False) w w2) := HF1.out.seq' f2
      clear f2 h1 HF1
      have h2 := HAB.out w2 HF2.out
      go_wp2_with fail
      refine h2.mono ?_
      rintro e w3 ⟨rfl, f3⟩
      have HF3 : Hid (Fr (fun _ => False) w w3) := HF2.out.seq' f3
      clear f3 h2 HF2
      have h3 := HSP.out w3
      go_wp2_with fail
      refine h3.mono ?_
      rintro e w4 ⟨rfl, f4⟩
      have HF4 : Hid (Fr (fun _ => False) w w4) := HF3.out.seq' f4
      clear f4 h3 HF3
      go_wp2_with fail
      go_ret
      exact ⟨rfl, HF4.out⟩
    | true =>
      have h1 := HAB.out w1 HF1.out
      go_wp2_with fail
      refine h1.mono ?_
      rintro e w2 ⟨rfl, f2⟩
      have HF2 : Hid (Fr (fun _ => False) w w2) := HF1.out.seq' f2
      clear f2 h1 HF1
      have h2 := HBC.out w2 HF2.out
      go_wp2_with fail
      refine h2.mono ?_
      rintro e w3 ⟨rfl, f3⟩
      have HF3 : Hid (Fr (fun _ => False) w w3) := HF2.out.seq' f3
      clear f3 h2 HF2
      cases xbc with
      | false =>
        have h3 := HAB.out w3 HF3.out
        go_wp2_with fail
        refine h3.mono ?_
        rintro e w4 ⟨rfl, f4⟩
        have HF4 : Hid (Fr (fun _ => False) w w4) := HF3.out.seq' f4
        clear f4 h3 HF3
        have h4 := HBA.out w4 HF4.out
        go_wp2_with fail
        refine h4.mono ?_
        rintro e w5 ⟨rfl, f5⟩
        have HF5 : Hid (Fr (fun _ => False) w w5) := HF4.out.seq' f5
        clear f5 h4 HF4
        cases xba with
        | false =>
          have h5 := HSP.out w5
          go_wp2_with fail
          refine h5.mono ?_
          rintro e w6 ⟨rfl, f6⟩
          have HF6 : Hid (Fr (fun _ => False) w w6) := HF5.out.seq' f6
          clear f6 h5 HF5
          go_wp2_with fail
          go_ret
          exact ⟨rfl, HF6.out⟩
        | true =>
          have hpq := HPQ.out (by simp) (by simp)
          subst hpq
          have h5 := HH0.out w5 HF5.out
          go_wp2_with fail
          refine h5.mono ?_
          rintro e w6 ⟨b6, d6, rfl, f6⟩
          have HF6 : Hid (Fr (fun _ => False) w w6) := HF5.out.seq' f6
          clear f6 h5 HF5
          have h6 := HH1.out w6 HF6.out
          go_wp2_with fail
          refine h6.mono ?_
          rintro e w7 ⟨b7, d7, rfl, f7⟩
          have HF7 : Hid (Fr (fun _ => False) w w7) := HF6.out.seq' f7
          clear f7 h6 HF6
          have h7 := HSP.out w7
          go_wp2_with fail
          refine h7.mono ?_
          rintro e w8 ⟨rfl, f8⟩
          have HF8 : Hid (Fr (fun _ => False) w w8) := HF7.out.seq' f8
          clear f8 h7 HF7
          go_wp2_with fail
          go_ret
          exact ⟨rfl, HF8.out⟩
      | true =>
        have h3 := HAC.out (by simp) (by simp) w3 HF3.out
        go_wp2_with fail
        refine h3.mono ?_
        rintro e w4 ⟨rfl, f4⟩
        have HF4 : Hid (Fr (fun _ => False) w w4) := HF3.out.seq' f4
        clear f4 h3 HF3
        have h4 := HAB.out w4 HF4.out
        go_wp2_with fail
        refine h4.mono ?_
        rintro e w5 ⟨rfl, f5⟩
        have HF5 : Hid (Fr (fun _ => False) w w5) := HF4.out.seq' f5
        clear f5 h4 HF4
        have h5 := HBA.out w5 HF5.out
        go_wp2_with fail
        refine h5.mono ?_
        rintro e w6 ⟨rfl, f6⟩
        have HF6 : Hid (Fr (fun _ => False) w w6) := HF5.out.seq' f6
        clear f6 h5 HF5
        cases xba with
        | false =>
          have h6 := HSP.out w6
          go_wp2_with fail
          refine h6.mono ?_
          rintro e w7 ⟨rfl, f7⟩
          have HF7 : Hid (Fr (fun _ => False) w w7) := HF6.out.seq' f7
          clear f7 h6 HF6
          go_wp2_with fail
          go_ret
          exact ⟨rfl, HF7.out⟩
        | true =>
          have hpq := HPQ.out (by simp) (by simp)
          subst hpq
          have h6 := HH0.out w6 HF6.out
          go_wp2_with fail
          refine h6.mono ?_
          rintro e w7 ⟨b7, d7, rfl, f7⟩
          have HF7 : Hid (Fr (fun _ => False) w w7) := HF6.out.seq' f7
          clear f7 h6 HF6
          have h7 := HH1.out w7 HF7.out
          go_wp2_with fail
          refine h7.mono ?_
          rintro e w8 ⟨b8, d8, rfl, f8⟩
          have HF8 : Hid (Fr (fun _ => False) w w8) := HF7.out.seq' f8
          clear f8 h7 HF7
          have h8 := HSP.out w8
          go_wp2_with fail
          refine h8.mono ?_
          rintro e w9 ⟨rfl, f9⟩
          have HF9 : Hid (Fr (fun _ => False) w w9) := HF8.out.seq' f9
          clear f9 h8 HF8
          go_wp2_with fail
          go_ret
          exact ⟨rfl, HF9.out⟩

set_option maxRecDepth 100000 in
theorem lifted (os : Os) (started : os.Started) (H : Type) (enc : TypeId × Value → H) :
    ReturnsInHanded {} Tryz.checked os 8 .any (Rows.foldOrderSpec.pre6 enc Tryz.prog Tryz.f8 Rows.foldOrderRow.domain false) (Rows.foldOrderSpec.post enc Tryz.prog Tryz.f8 false true false false) := by
  refine returnsInHanded_of_change_sized (C := Tryz.checked) own started (by kernel_rfl) Tryz.func8
    (ChangeSpec.witness6 (enc := enc) (C := Tryz.checked) false ⟨#[], #[.agg #[.slice none 0 0, .slice none 0 0, .slice none 0 0], .int .i64 0], []⟩ 8 (by kernel_rfl) (by kernel_rfl) (by kernel_rfl) (by kernel_rfl)) ?_
  intro W base args ds gs before hval0 hW hcnd hsz0 _
  have hsz : (DataW.weightsEach Tryz.prog (Tryz.f8.params.toList ++ Rows.foldOrderSpec.plain.varTypes Tryz.prog) (ds ++ gs)).all (· ≤ reachBytes) = true := hsz0
  clear hsz0
  have hval : ∀ (j : Nat) t v, Tryz.f8.params[j]? = some t → args[j]? = some v → Value.okWide Tryz.prog W .any base t v := hval0
  have hW' := hW
  obtain ⟨p, q, hA0, hV, rfl, hfz, hnd⟩ := hW
  have hA : DataW.TrodAll enc Tryz.prog W 0 (fun _ => true) true Tryz.f8.params.toList args.toList ds p := hA0
  rw [Tryz.params8] at hA hval hsz
  obtain ⟨v0, vs0, d0, ds0, p0, q0, hargs, rfl, rfl, h0, r0⟩ := trodAll_cons hA
  obtain ⟨v1, vs1, d1, ds1, p1, q1, rfl, rfl, rfl, h1, r1⟩ := trodAll_cons r0
  obtain ⟨rfl, rfl, rfl⟩ := trodAll_nil r1
  obtain rfl : args = #[v0, v1] := by cases args; simp_all
  obtain ⟨rfl, rfl⟩ := trodVars_none hV
  have k0 := h0
  have lt0 : ∀ x ∈ p0, x.block < W.heap.size := by obtain ⟨m, hm⟩ := k0; exact DataW.trod_lt m _ _ _ hm
  obtain ⟨ha0, hb0, hc0, ca0, cb0, cc0, la0, lb0, lc0, rfl, ra0, rb0, rc0, ga0, gb0, gc0⟩ := three_open (hval 0 55 v0 rfl rfl) h0 (fun z hz => by simpa using List.all_eq_true.1 hsz z (DataW.weights_mem_each (j := 0) rfl rfl z hz))
  obtain ⟨a1, rfl, rfl, rfl, w1⟩ := open_int Tryz.underlying3 (hval 1 3 v1 rfl rfl) h1
  clear hA0 hval0
  refine (walk W ha0 hb0 hc0 ca0 cb0 cc0 la0 lb0 lc0 ra0 rb0 rc0 ga0 gb0 gc0 a1 w1).mono fun e W' ⟨he, fr⟩ => ?_
  have bel : Below W.heap.size W W' := fr.below (Nat.le_refl _) (fun _ f => f.elim)
  subst he
  exact ⟨_, rfl, _, _, _, [], _, [], hW', trodAll_mk1 (shut_bool Tryz.underlying4 _), (trodAll_cons_mk (Below.trod laidOut (by kernel_rfl) (of_decide_eq_true (by kernel_rfl)) k0 bel lt0) (trodAll_cons_mk (shut_int Tryz.underlying3 w1) trodAll_mk0)), rfl, bel.frame _, fun h => by cases h⟩

theorem proved : Rows.FoldOrderSaid :=
  OpenClaim.holds_of_wide 8 Tryz.f8 rfl rfl rfl rfl rfl rfl rfl ⟨rfl, rfl, rfl, rfl, rfl⟩ rfl rfl rfl rfl rfl (by kernel_rfl) Tryz.func8 (by kernel_rfl)
    (of_decide_eq_true (by kernel_rfl)) (by unfold Func.isWrapper; first | (rw [if_pos (by decide +kernel)]; kernel_rfl) | (rw [if_neg (by decide +kernel)]; exact ⟨rfl, rfl⟩))
    (fun os started H enc _ => lifted os started H enc)
end Go.Proofs.YtdlnflcjodpkiaaGreat.foldOrder
namespace Go.Proofs.YtdlnflcjodpkiaaGreat
theorem foldOrder_holds : Rows.FoldOrderSaid := foldOrder.proved
#print axioms foldOrder_holds
end Go.Proofs.YtdlnflcjodpkiaaGreat
