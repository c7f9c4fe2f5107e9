
/- What record.frameSize and record.Decode tell. -/
import Derived.Test.YtcmkpmilnplhmaaRcDec
namespace Go.Proofs.Ytcmkpmilnplhmaa
open Go.RowKit Crcm

set_option maxRecDepth 100000 in
set_option maxHeartbeats 1000000 in
theorem frameSize_short (a : Option Addr) (n cap : Nat) (l : List Nat) (hn : n = l.length) (h2 : l.length < 2) (w : World) (hr : Row w a cap l) :
    Calls Try.prog 30 #[.slice a n cap] w fun e w' => e = .returned (.tuple #[.int .i64 0, .int .i64 10]) ∧ Fr (fun _ => False) w w' := by
  subst hn
  have hle := hr.le
  have hmx := hr.max
  have i1 : (l.length : Int) < 2 := by omega
  have i2 : (l.length : Int) ≤ (cap : Int) := by omega
  go_enter Try.func30, Try.ntmps30
  go_wp2_with fail
  refine (of_far a _ cap l rfl _ hr).mono ?_
  rintro e w1 ⟨rb, a1, c1, rfl, rd1, f1, hrb, ha1⟩
  go_wp2_with fail
  refine (rnum_cut 2 (by omega) rb a1 c1 l h2 _ rd1).mono ?_
  rintro e w2 ⟨rfl, rd2, f2⟩
  have f02 : Fr (fun _ => False) w w2 := f1.trans f2 (fun i hi e => by omega)
  go_wp2
  go_ret2
  exact ⟨rfl, f02⟩

/-- What frameSize tells of bytes that have a size. -/
def fsz (n v : Nat) : Value := if n < v + 6 then .tuple #[.int .i64 0, .int .i64 10] else .tuple #[.int .i64 ((v + 6 : Nat) : Int), .int .i64 0]
set_option maxRecDepth 100000 in
set_option maxHeartbeats 1000000 in
theorem frameSize_any (a : Option Addr) (n cap : Nat) (l : List Nat) (hn : n = l.length) (h2 : 2 ≤ l.length) (w : World) (hr : Row w a cap l) :
    Calls Try.prog 30 #[.slice a n cap] w fun e w' => e = .returned (fsz l.length (val (l.take 2))) ∧ Fr (fun _ => False) w w' := by
  subst hn
  have hle := hr.le
  have hmx := hr.max
  have i1 : ¬ (l.length : Int) < 2 := by omega
  have i2 : (2 : Int) ≤ (cap : Int) := by omega
  have i3 : (2 : Int) ≤ (l.length : Int) := by omega
  have r2 := hr.take 2
  have HL : Hid ((l.take 2).length = 2) := by show _ = _; rw [List.length_take]; omega
  have HT : Hid ((l.take 2).take 2 = l.take 2) := by show _ = _; rw [List.take_take]; rfl
  have hv := val2_lt hr.byte
  obtain ⟨v, hv0⟩ : ∃ v, v = val (l.take 2) := ⟨_, rfl⟩
  rw [← hv0] at hv ⊢
  have HV : Hid (v = val (l.take 2)) := hv0
  clear hv0
  obtain ⟨m, hm⟩ : ∃ m, m = l.take 2 := ⟨_, rfl⟩
  rw [← hm] at r2 HL HT HV
  clear hm
  have e1 : IntKind.i64.wrap (2 + (v : Int)) = 2 + (v : Int) := by simp [IntKind.wrap, IntKind.bits, IntKind.signed]; omega
  have e2 : IntKind.i64.wrap (2 + (v : Int) + 4) = 2 + (v : Int) + 4 := by simp [IntKind.wrap, IntKind.bits, IntKind.signed]; omega
  by_cases h6 : l.length < v + 6
  · have h7 : (l.length : Int) < 2 + (v : Int) + 4 := by omega
    have HF : Hid (fsz l.length v = .tuple #[.int .i64 0, .int .i64 10]) := if_pos h6
    rw [HF.out]
    clear h6
    go_enter Try.func30, Try.ntmps30
    go_wp2_with fail
    refine (of_far a _ cap m HL.out.symm _ r2).mono ?_
    rintro e w1 ⟨rb, a1, c1, rfl, rd1, f1, hrb, ha1⟩
    go_wp2_with fail
    refine (rnum_ok 2 (by omega) rb a1 c1 m (by rw [HL.out]; omega) (by rw [HT.out, ← HV.out]; omega) _ rd1).mono ?_
    rw [HT.out, ← HV.out]
    rintro e w2 ⟨rfl, a2, c2, rd2, f2, n2⟩
    have f02 : Fr (fun _ => False) w w2 := f1.trans f2 (fun i hi e => by omega)
    go_wp2
    go_ret2
    exact ⟨rfl, f02⟩
  · have h7 : ¬ (l.length : Int) < 2 + (v : Int) + 4 := by omega
    have HF : Hid (fsz l.length v = .tuple #[.int .i64 ((v + 6 : Nat) : Int), .int .i64 0]) := if_neg h6
    rw [HF.out]
    clear h6
    go_enter Try.func30, Try.ntmps30
    go_wp2_with fail
    refine (of_far a _ cap m HL.out.symm _ r2).mono ?_
    rintro e w1 ⟨rb, a1, c1, rfl, rd1, f1, hrb, ha1⟩
    go_wp2_with fail
    refine (rnum_ok 2 (by omega) rb a1 c1 m (by rw [HL.out]; omega) (by rw [HT.out, ← HV.out]; omega) _ rd1).mono ?_
    rw [HT.out, ← HV.out]
    rintro e w2 ⟨rfl, a2, c2, rd2, f2, n2⟩
    have f02 : Fr (fun _ => False) w w2 := f1.trans f2 (fun i hi e => by omega)
    go_wp2
    go_ret2
    refine ⟨?_, f02⟩
    have : (2 + (v : Int) + 4) = ((v + 6 : Nat) : Int) := by omega
    rw [← this]; rfl

/-- What Decode tells. -/
def RdOut (w : World) (x : Rec × Nat × Nat) (e : Ending) (w' : World) : Prop :=
  e = .returned (.tuple #[(.agg #[.int .i64 x.1.lsn, .int .i64 x.1.ep, .int .i64 x.1.kind, .int .i64 x.1.page, .int .i64 x.1.other, .int .i64 x.1.req, .string x.1.key, .string x.1.val]), .int .i64 (x.2.1 : Nat), .int .i64 (x.2.2 : Nat)]) ∧ Fr (fun _ => False) w w'
theorem rd_no {w w' : World} {x : Rec × Nat × Nat} {k : Nat} (h : x = (zr, 0, k)) (f : Fr (fun _ => False) w w') : RdOut w x (.returned (.tuple #[.agg #[.int .i64 0, .int .i64 0, .int .i64 0, .int .i64 0, .int .i64 0, .int .i64 0, .string ⟨#[]⟩, .string ⟨#[]⟩], .int .i64 0, .int .i64 (k : Nat)])) w' := by
  unfold RdOut; rw [h]; exact ⟨rfl, f⟩
theorem rd_yes {w w' : World} {x : Rec × Nat × Nat} {r : Rec} {k : Nat} (h : x = (r, k, 0)) (f : Fr (fun _ => False) w w') : RdOut w x (.returned (.tuple #[(.agg #[.int .i64 r.lsn, .int .i64 r.ep, .int .i64 r.kind, .int .i64 r.page, .int .i64 r.other, .int .i64 r.req, .string r.key, .string r.val]), .int .i64 (k : Nat), .int .i64 ((0 : Nat) : Int)])) w' := by
  unfold RdOut; rw [h]; exact ⟨rfl, f⟩
theorem zr_agg : Value.agg #[.int .i64 zr.lsn, .int .i64 zr.ep, .int .i64 zr.kind, .int .i64 zr.page, .int .i64 zr.other, .int .i64 zr.req, .string zr.key, .string zr.val] = .agg #[.int .i64 0, .int .i64 0, .int .i64 0, .int .i64 0, .int .i64 0, .int .i64 0, .string ⟨#[]⟩, .string ⟨#[]⟩] := rfl
theorem opened_two (l : List Nat) (h : 4 ≤ l.length) : (opened l).2 = 0 ∧ (opened l).1 = l.take (l.length - 4) ∨ (opened l).2 = 20 ∧ (opened l).1 = [] := by
  unfold opened
  rw [if_neg (by omega)]
  split
  · exact .inl ⟨rfl, rfl⟩
  · exact .inr ⟨rfl, rfl⟩

set_option maxRecDepth 100000 in
set_option maxHeartbeats 2000000 in
theorem decode_rec (a : Option Addr) (n cap : Nat) (l : List Nat) (hn : n = l.length) (w : World) (hr : Row w a cap l) :
    Calls Try.prog 18 #[.slice a n cap] w fun e w' => RdOut w (rdec l) e w' := by
  subst hn
  have f0 := Fr.box w (.cells #[.int .i64 0, .int .i64 0, .int .i64 0, .int .i64 0, .int .i64 0, .int .i64 0, .string ⟨#[]⟩, .string ⟨#[]⟩] 28)
  have HR : Hid (∀ W, Fr (fun _ => False) (w.alloc (.cells #[.int .i64 0, .int .i64 0, .int .i64 0, .int .i64 0, .int .i64 0, .int .i64 0, .string ⟨#[]⟩, .string ⟨#[]⟩] 28)) W → W.heap[w.heap.size]? = some (.cells #[.int .i64 0, .int .i64 0, .int .i64 0, .int .i64 0, .int .i64 0, .int .i64 0, .string ⟨#[]⟩, .string ⟨#[]⟩] 28 (0, 0))) := fun W f => rec_at w _ _ f
  by_cases h2 : l.length < 2
  · have HX : Hid (rdec l = (zr, 0, 10)) := by show _ = _; unfold rdec; rw [if_pos h2]
    have H2 : Hid (l.length < 2) := h2
    clear h2
    go_enter Try.func18, Try.ntmps18
    go_wp2_with fail
    refine (frameSize_short a _ cap l rfl H2.out _ (hr.same f0)).mono ?_
    rintro e w1 ⟨rfl, f1⟩
    obtain ⟨⟨z0, z1, z2, z3, z4, z5, z6, z7⟩, zz⟩ := rec_cells (HR.out _ f1)
    have x0 := zz 0; have x1 := zz 1; have x2 := zz 2; have x3 := zz 3; have x4 := zz 4; have x5 := zz 5; have x6 := zz 6; have x7 := zz 7
    obtain ⟨hb, ff⟩ := fin8 (HR.out _ f1) (.int .i64 0) (.int .i64 0) (.int .i64 0) (.int .i64 0) (.int .i64 0) (.int .i64 0) (.string ⟨#[]⟩) (.string ⟨#[]⟩)
    obtain ⟨⟨q0, q1, q2, q3, q4, q5, q6, q7⟩, _⟩ := rec_cells hb
    have ff2 := (f0.seq' f1).trans ff (S := fun _ => False) (fun i hi e => by omega)
    clear zz
    go_wp2
    exact bodyPost_ret (v := .tuple #[.agg #[.int .i64 0, .int .i64 0, .int .i64 0, .int .i64 0, .int .i64 0, .int .i64 0, .string ⟨#[]⟩, .string ⟨#[]⟩], .int .i64 0, .int .i64 ((10 : Nat) : Int)]) (by simp [results, Try.results18, go_sem, q0, q1, q2, q3, q4, q5, q6, q7]) rfl (rd_no HX.out ff2)
  · have H2 : Hid (2 ≤ l.length) := by show _ ≤ _; omega
    have hfs := frameSize_any a _ cap l rfl H2.out _ (hr.same f0)
    have hv := val2_lt hr.byte
    obtain ⟨v, hv0⟩ : ∃ v, v = val (l.take 2) := ⟨_, rfl⟩
    rw [← hv0] at hfs hv
    have HV : Hid (v = val (l.take 2)) := hv0
    clear hv0
    by_cases h6 : l.length < v + 6
    · have HX : Hid (rdec l = (zr, 0, 10)) := by show _ = _; unfold rdec; rw [if_neg h2, ← HV.out, if_pos h6]
      have HF : Hid (fsz l.length v = .tuple #[.int .i64 0, .int .i64 10]) := if_pos h6
      rw [HF.out] at hfs
      clear h2 h6
      go_enter Try.func18, Try.ntmps18
      go_wp2_with fail
      refine hfs.mono ?_
      rintro e w1 ⟨rfl, f1⟩
      obtain ⟨⟨z0, z1, z2, z3, z4, z5, z6, z7⟩, zz⟩ := rec_cells (HR.out _ f1)
      have x0 := zz 0; have x1 := zz 1; have x2 := zz 2; have x3 := zz 3; have x4 := zz 4; have x5 := zz 5; have x6 := zz 6; have x7 := zz 7
      obtain ⟨hb, ff⟩ := fin8 (HR.out _ f1) (.int .i64 0) (.int .i64 0) (.int .i64 0) (.int .i64 0) (.int .i64 0) (.int .i64 0) (.string ⟨#[]⟩) (.string ⟨#[]⟩)
      obtain ⟨⟨q0, q1, q2, q3, q4, q5, q6, q7⟩, _⟩ := rec_cells hb
      have ff2 := (f0.seq' f1).trans ff (S := fun _ => False) (fun i hi e => by omega)
      clear zz
      go_wp2
      exact bodyPost_ret (v := .tuple #[.agg #[.int .i64 0, .int .i64 0, .int .i64 0, .int .i64 0, .int .i64 0, .int .i64 0, .string ⟨#[]⟩, .string ⟨#[]⟩], .int .i64 0, .int .i64 ((10 : Nat) : Int)]) (by simp [results, Try.results18, go_sem, q0, q1, q2, q3, q4, q5, q6, q7]) rfl (rd_no HX.out ff2)
    · have HF : Hid (fsz l.length v = .tuple #[.int .i64 ((v + 6 : Nat) : Int), .int .i64 0]) := if_neg h6
      rw [HF.out] at hfs
      have hle := hr.le
      have hmx := hr.max
      have i1 : ((v + 6 : Nat) : Int) ≤ (cap : Int) := by omega
      have i0 : (0 : Int) ≤ ((v + 6 : Nat) : Int) := by omega
      have rt := hr.take (v + 6)
      have HTL : Hid ((l.take (v + 6)).length = v + 6) := by show _ = _; rw [List.length_take]; omega
      have HO := opened_two (l.take (v + 6)) (by rw [HTL.out]; omega)
      rw [HTL.out] at HO
      have hop := fun W hW => open_all a (v + 6) cap (l.take (v + 6)) HTL.out.symm W hW
      have HRT : Hid (∀ W, Fr (fun _ => False) w W → Row W a cap (l.take (v + 6))) := fun W f => rt.same f
      have HRD : Hid (rdec l = if (opened (l.take (v + 6))).2 ≠ 0 then (zr, 0, 20) else match recD ((l.drop 2).take v) with
          | none => (zr, 0, 90)
          | some r => (r, v + 6, 0)) := by show _ = _; unfold rdec; rw [if_neg h2, ← HV.out, if_neg h6]; rfl
      clear h2 h6 rt hr HF
      rcases HO with ⟨o2, o1⟩ | ⟨o2, o1⟩
      · rw [o2, o1] at hop
        have HRX : Hid (rdec l = match recD ((l.drop 2).take v) with
          | none => (zr, 0, 90)
          | some r => (r, v + 6, 0)) := by show _ = _; rw [HRD.out, if_neg (by rw [o2]; decide)]
        have hml : ((l.take (v + 6)).take (v + 6 - 4)).length = v + 2 := by rw [List.length_take, HTL.out]; omega
        have hmd : ((l.take (v + 6)).take (v + 6 - 4)).drop 2 = (l.drop 2).take v := by
          rw [List.take_take, List.drop_take]
          congr 1
          omega
        obtain ⟨m, hm⟩ : ∃ m, m = (l.take (v + 6)).take (v + 6 - 4) := ⟨_, rfl⟩
        rw [← hm] at hop hml hmd
        have HML : Hid (m.length = v + 2) := hml
        obtain ⟨u, hu⟩ : ∃ u, u = (l.drop 2).take v := ⟨_, rfl⟩
        rw [← hu] at hmd HRX
        have HMD : Hid (m.drop 2 = u) := hmd
        have HUL : Hid (v = u.length) := by show _ = _; rw [← hmd, List.length_drop, hml]; omega
        clear o1 o2 HRD hm hml hmd hu
        go_enter Try.func18, Try.ntmps18
        go_wp2_with fail
        refine hfs.mono ?_
        rintro e w1 ⟨rfl, f1⟩
        go_wp2_with fail
        refine (hop _ (HRT.out _ (f0.seq' f1))).mono ?_
        rintro e w2 ⟨a2, c2, rfl, r2, f2⟩
        have f12 := f1.seq' f2
        obtain ⟨b2, off2, rfl, hb2, hc2⟩ : ∃ b off, a2 = some ⟨b, off, none⟩ ∧ b < w2.heap.size ∧ ∀ i, i < m.length → w2.cell? ⟨b, off + i, none⟩ = some (.int .u8 ((m.getD i 0 : Nat) : Int)) := by
          rcases r2.at_ with e | e
          · have := HML.out; rw [e] at this; simp at this
          · exact e
        have hle2 := r2.le
        have hmx2 := r2.max
        rw [HML.out] at hle2
        have j1 : (2 : Int) ≤ ((v + 2 : Nat) : Int) := by omega
        have j2 : ((v + 2 : Nat) : Int) ≤ (c2 : Int) := by omega
        rw [HML.out]
        obtain ⟨off3, hoff, ho3⟩ : ∃ off3, off3 = (if c2 = 2 then off2 else off2 + 2) ∧ (c2 = 2 ∨ off3 = off2 + 2) := by
          refine ⟨_, rfl, ?_⟩
          by_cases hc : c2 = 2
          · exact .inl hc
          · exact .inr (if_neg hc)
        have r3 := r2.drop 2 (by rw [HML.out]; omega) off3 ho3 (.inr ⟨hb2, hc2⟩)
        rw [HMD.out] at r3
        have hv2 : v + 2 - 2 = v := by omega
        clear hc2
        by_cases hc : c2 = 2
        · rw [if_pos hc] at hoff; subst hoff; subst hc
          go_wp2_with fail
          refine (recordOf_any _ _ _ u HUL.out _ r3).mono ?_
          unfold RecOut
          cases hrd : recD u with
          | none =>
            have HX : Hid (rdec l = (zr, 0, 90)) := by show _ = _; rw [HRX.out, hrd]
            rintro e w3 ⟨rfl, f3⟩
            clear hrd
            have f13 := f12.seq' f3
            have fb := Fr.box w3 (.cells #[.int .i64 0, .int .i64 0, .int .i64 0, .int .i64 0, .int .i64 0, .int .i64 0, .string ⟨#[]⟩, .string ⟨#[]⟩] 28)
            have f14 := f13.seq' fb
            obtain ⟨⟨z0, z1, z2, z3, z4, z5, z6, z7⟩, zz⟩ := rec_cells (HR.out _ f14)
            have x0 := zz 0; have x1 := zz 1; have x2 := zz 2; have x3 := zz 3; have x4 := zz 4; have x5 := zz 5; have x6 := zz 6; have x7 := zz 7
            obtain ⟨hb, ff⟩ := fin8 (HR.out _ f14) (.int .i64 0) (.int .i64 0) (.int .i64 0) (.int .i64 0) (.int .i64 0) (.int .i64 0) (.string ⟨#[]⟩) (.string ⟨#[]⟩)
            obtain ⟨⟨q0, q1, q2, q3, q4, q5, q6, q7⟩, _⟩ := rec_cells hb
            have ff2 := (f0.seq' f14).trans ff (S := fun _ => False) (fun i hi e => by omega)
            clear zz
            simp only [Option.getD_none, Option.isSome_none, Bool.false_eq_true, if_false]
            rw [zr_agg]
            go_wp2
            exact bodyPost_ret (v := .tuple #[.agg #[.int .i64 0, .int .i64 0, .int .i64 0, .int .i64 0, .int .i64 0, .int .i64 0, .string ⟨#[]⟩, .string ⟨#[]⟩], .int .i64 0, .int .i64 ((90 : Nat) : Int)]) (by simp [results, Try.results18, go_sem, q0, q1, q2, q3, q4, q5, q6, q7]) rfl (rd_no HX.out ff2)
          | some r =>
            have HX : Hid (rdec l = (r, v + 6, 0)) := by show _ = _; rw [HRX.out, hrd]
            rintro e w3 ⟨rfl, f3⟩
            clear hrd
            have f13 := f12.seq' f3
            have fb := Fr.box w3 (.cells #[.int .i64 r.lsn, .int .i64 r.ep, .int .i64 r.kind, .int .i64 r.page, .int .i64 r.other, .int .i64 r.req, .string r.key, .string r.val] 28)
            have f14 := f13.seq' fb
            obtain ⟨⟨z0, z1, z2, z3, z4, z5, z6, z7⟩, zz⟩ := rec_cells (HR.out _ f14)
            have x0 := zz 0; have x1 := zz 1; have x2 := zz 2; have x3 := zz 3; have x4 := zz 4; have x5 := zz 5; have x6 := zz 6; have x7 := zz 7
            obtain ⟨hb, ff⟩ := fin8 (HR.out _ f14) (.int .i64 r.lsn) (.int .i64 r.ep) (.int .i64 r.kind) (.int .i64 r.page) (.int .i64 r.other) (.int .i64 r.req) (.string r.key) (.string r.val)
            obtain ⟨⟨q0, q1, q2, q3, q4, q5, q6, q7⟩, _⟩ := rec_cells hb
            have ff2 := (f0.seq' f14).trans ff (S := fun _ => False) (fun i hi e => by omega)
            clear zz
            simp only [Option.getD_some, Option.isSome_some, if_true]
            go_wp2
            exact bodyPost_ret (v := .tuple #[(.agg #[.int .i64 r.lsn, .int .i64 r.ep, .int .i64 r.kind, .int .i64 r.page, .int .i64 r.other, .int .i64 r.req, .string r.key, .string r.val]), .int .i64 ((v + 6 : Nat) : Int), .int .i64 ((0 : Nat) : Int)]) (by simp [results, Try.results18, go_sem, q0, q1, q2, q3, q4, q5, q6, q7]) rfl (rd_yes HX.out ff2)
        · rw [if_neg hc] at hoff; subst hoff
          go_wp2_with fail
          refine (recordOf_any _ _ _ u HUL.out _ r3).mono ?_
          unfold RecOut
          cases hrd : recD u with
          | none =>
            have HX : Hid (rdec l = (zr, 0, 90)) := by show _ = _; rw [HRX.out, hrd]
            rintro e w3 ⟨rfl, f3⟩
            clear hrd
            have f13 := f12.seq' f3
            have fb := Fr.box w3 (.cells #[.int .i64 0, .int .i64 0, .int .i64 0, .int .i64 0, .int .i64 0, .int .i64 0, .string ⟨#[]⟩, .string ⟨#[]⟩] 28)
            have f14 := f13.seq' fb
            obtain ⟨⟨z0, z1, z2, z3, z4, z5, z6, z7⟩, zz⟩ := rec_cells (HR.out _ f14)
            have x0 := zz 0; have x1 := zz 1; have x2 := zz 2; have x3 := zz 3; have x4 := zz 4; have x5 := zz 5; have x6 := zz 6; have x7 := zz 7
            obtain ⟨hb, ff⟩ := fin8 (HR.out _ f14) (.int .i64 0) (.int .i64 0) (.int .i64 0) (.int .i64 0) (.int .i64 0) (.int .i64 0) (.string ⟨#[]⟩) (.string ⟨#[]⟩)
            obtain ⟨⟨q0, q1, q2, q3, q4, q5, q6, q7⟩, _⟩ := rec_cells hb
            have ff2 := (f0.seq' f14).trans ff (S := fun _ => False) (fun i hi e => by omega)
            clear zz
            simp only [Option.getD_none, Option.isSome_none, Bool.false_eq_true, if_false]
            rw [zr_agg]
            go_wp2
            exact bodyPost_ret (v := .tuple #[.agg #[.int .i64 0, .int .i64 0, .int .i64 0, .int .i64 0, .int .i64 0, .int .i64 0, .string ⟨#[]⟩, .string ⟨#[]⟩], .int .i64 0, .int .i64 ((90 : Nat) : Int)]) (by simp [results, Try.results18, go_sem, q0, q1, q2, q3, q4, q5, q6, q7]) rfl (rd_no HX.out ff2)
          | some r =>
            have HX : Hid (rdec l = (r, v + 6, 0)) := by show _ = _; rw [HRX.out, hrd]
            rintro e w3 ⟨rfl, f3⟩
            clear hrd
            have f13 := f12.seq' f3
            have fb := Fr.box w3 (.cells #[.int .i64 r.lsn, .int .i64 r.ep, .int .i64 r.kind, .int .i64 r.page, .int .i64 r.other, .int .i64 r.req, .string r.key, .string r.val] 28)
            have f14 := f13.seq' fb
            obtain ⟨⟨z0, z1, z2, z3, z4, z5, z6, z7⟩, zz⟩ := rec_cells (HR.out _ f14)
            have x0 := zz 0; have x1 := zz 1; have x2 := zz 2; have x3 := zz 3; have x4 := zz 4; have x5 := zz 5; have x6 := zz 6; have x7 := zz 7
            obtain ⟨hb, ff⟩ := fin8 (HR.out _ f14) (.int .i64 r.lsn) (.int .i64 r.ep) (.int .i64 r.kind) (.int .i64 r.page) (.int .i64 r.other) (.int .i64 r.req) (.string r.key) (.string r.val)
            obtain ⟨⟨q0, q1, q2, q3, q4, q5, q6, q7⟩, _⟩ := rec_cells hb
            have ff2 := (f0.seq' f14).trans ff (S := fun _ => False) (fun i hi e => by omega)
            clear zz
            simp only [Option.getD_some, Option.isSome_some, if_true]
            go_wp2
            exact bodyPost_ret (v := .tuple #[(.agg #[.int .i64 r.lsn, .int .i64 r.ep, .int .i64 r.kind, .int .i64 r.page, .int .i64 r.other, .int .i64 r.req, .string r.key, .string r.val]), .int .i64 ((v + 6 : Nat) : Int), .int .i64 ((0 : Nat) : Int)]) (by simp [results, Try.results18, go_sem, q0, q1, q2, q3, q4, q5, q6, q7]) rfl (rd_yes HX.out ff2)
      · rw [o2, o1] at hop
        have HX : Hid (rdec l = (zr, 0, 20)) := by show _ = _; rw [HRD.out, if_pos (by rw [o2]; decide)]
        clear o1 o2 HRD
        go_enter Try.func18, Try.ntmps18
        go_wp2_with fail
        refine hfs.mono ?_
        rintro e w1 ⟨rfl, f1⟩
        go_wp2_with fail
        refine (hop _ (HRT.out _ (f0.seq' f1))).mono ?_
        rintro e w2 ⟨a2, c2, rfl, r2, f2⟩
        have f12 := f1.seq' f2
        obtain ⟨⟨z0, z1, z2, z3, z4, z5, z6, z7⟩, zz⟩ := rec_cells (HR.out _ f12)
        have x0 := zz 0; have x1 := zz 1; have x2 := zz 2; have x3 := zz 3; have x4 := zz 4; have x5 := zz 5; have x6 := zz 6; have x7 := zz 7
        obtain ⟨hb, ff⟩ := fin8 (HR.out _ f12) (.int .i64 0) (.int .i64 0) (.int .i64 0) (.int .i64 0) (.int .i64 0) (.int .i64 0) (.string ⟨#[]⟩) (.string ⟨#[]⟩)
        obtain ⟨⟨q0, q1, q2, q3, q4, q5, q6, q7⟩, _⟩ := rec_cells hb
        have ff2 := (f0.seq' f12).trans ff (S := fun _ => False) (fun i hi e => by omega)
        clear zz
        go_wp2
        exact bodyPost_ret (v := .tuple #[.agg #[.int .i64 0, .int .i64 0, .int .i64 0, .int .i64 0, .int .i64 0, .int .i64 0, .string ⟨#[]⟩, .string ⟨#[]⟩], .int .i64 0, .int .i64 ((20 : Nat) : Int)]) (by simp [results, Try.results18, go_sem, q0, q1, q2, q3, q4, q5, q6, q7]) rfl (rd_no HX.out ff2)
end Go.Proofs.Ytcmkpmilnplhmaa
