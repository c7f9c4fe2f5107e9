
/- What a voter that is asked tells. -/
import Derived.Test.YtbfkacahaocpfaaVtBase
import Derived.Deep.QuietTactic
import Derived.BigQuiet
import Derived.Deep.RegionHeld3
namespace Go.Proofs.Ytbfkacahaocpfaa
open Go.RowKit

def newB (a b : Int × Int) : Bool := decide (b.1 < a.1) || (decide (a.1 = b.1) && decide (b.2 ≤ a.2))
set_option maxRecDepth 100000 in
set_option maxHeartbeats 4000000 in
theorem newer_any (x y u v : Int) (w : World) : Calls Try.prog 12 #[.agg #[.int .i64 x, .int .i64 y], .agg #[.int .i64 u, .int .i64 v]] w fun r w' => r = .returned (.bool (newB (x, y) (u, v))) ∧ Fr (fun _ => False) w w' := by
  have F0 := Fr.box w (.cells #[.int .i64 x, .int .i64 y] 26)
  have F1 := Fr.box (w.alloc (.cells #[.int .i64 x, .int .i64 y] 26)) (.cells #[.int .i64 u, .int .i64 v] 26)
  have T0 := (Two.new w 26 (.int .i64 x) (.int .i64 y)).fr F1 (fun f => f)
  have T1 := Two.new (w.alloc (.cells #[.int .i64 x, .int .i64 y] 26)) 26 (.int .i64 u) (.int .i64 v)
  rw [World.size_alloc] at T1
  obtain ⟨x0, x1, _⟩ := T0.cells
  obtain ⟨y0, y1, _⟩ := T1.cells
  have HF : Hid (Fr (fun _ => False) w ((w.alloc (.cells #[.int .i64 x, .int .i64 y] 26)).alloc (.cells #[.int .i64 u, .int .i64 v] 26))) := F0.seq' F1
  clear F0 F1 T0 T1
  by_cases h1 : u < x
  · rw [show newB (x, y) (u, v) = true by simp [newB, h1]]
    go_enter Try.func12, Try.ntmps12
    go_wp2
    go_ret
    exact ⟨rfl, HF.out⟩
  · have h1' : decide (u < x) = false := by simpa using h1
    by_cases h2 : x = u
    · rw [show newB (x, y) (u, v) = decide (v ≤ y) by simp [newB, h2]]
      subst h2
      go_enter Try.func12, Try.ntmps12
      go_wp2
      go_ret
      exact ⟨rfl, HF.out⟩
    · rw [show newB (x, y) (u, v) = false by simp [newB, h1, h2]]
      have h2' : (x == u) = false := by simpa using h2
      go_enter Try.func12, Try.ntmps12
      go_wp2
      go_ret
      exact ⟨rfl, HF.out⟩
theorem eql_prom (x y x' y' : Int) (w : World) : (binOp .eql 23 (.agg #[.int .i64 x, .int .i64 y]) (.agg #[.int .i64 x', .int .i64 y'])).run Try.prog w = .ok (.bool (decide (x = x' ∧ y = y'))) w := by
  have hf : Try.prog.stoodInHeld 23 = false := by kernel_rfl
  have hu : Try.prog.underlying 23 = some (.struct (Try.prog.fieldsOf 23)) := by kernel_rfl
  rw [run_eql_struct, run_equalIn_struct _ _ _ _ _ hu hf]
  by_cases h1 : x = x' <;> by_cases h2 : y = y' <;> simp [Op.eqFields, go_sem, h1, h2]
theorem neq_prom (x y x' y' : Int) (w : World) : (binOp .neq 23 (.agg #[.int .i64 x, .int .i64 y]) (.agg #[.int .i64 x', .int .i64 y'])).run Try.prog w = .ok (.bool (!decide (x = x' ∧ y = y'))) w := by
  have hf : Try.prog.stoodInHeld 23 = false := by kernel_rfl
  have hu : Try.prog.underlying 23 = some (.struct (Try.prog.fieldsOf 23)) := by kernel_rfl
  rw [run_neq_struct, run_equalIn_struct _ _ _ _ _ hu hf]
  by_cases h1 : x = x' <;> by_cases h2 : y = y' <;> simp [Op.eqFields, go_sem, h1, h2]
theorem ask_nil (frm ep x y u v : Int) (w : World) : Calls Try.prog 17 #[.pointer none, .int .i64 frm, .int .i64 ep, .agg #[.int .i64 x, .int .i64 y], .agg #[.int .i64 u, .int .i64 v]] w fun r w' => r = .returned (.bool false) ∧ Fr (fun _ => False) w w' := by
  have HF : Hid (Fr (fun _ => False) w ((w.alloc (.cells #[.int .i64 x, .int .i64 y] 26)).alloc (.cells #[.int .i64 u, .int .i64 v] 26))) := (Fr.box _ _).seq' (Fr.box _ _)
  go_enter Try.func17, Try.ntmps17
  go_wp2
  go_ret
  exact ⟨rfl, HF.out⟩
/-- What a voter that is asked becomes. -/
def e1 (e ep : Int) : Int := if seeB e ep then ep else e
def f1 (e f ep : Int) : Int := if seeB e ep then -1 else f
def askB (e f frm ep : Int) (a b : Int × Int) : Bool := nodB frm && (decide (e1 e ep = ep) && (decide (f1 e f ep = -1) || decide (f1 e f ep = frm))) && newB a b
def askE (e frm ep : Int) : Int := if nodB frm = true then e1 e ep else e
def askF (e f frm ep : Int) (a b : Int × Int) : Int := if nodB frm = true then (if askB e f frm ep a b = true then frm else f1 e f ep) else f
set_option maxRecDepth 100000 in
set_option maxHeartbeats 8000000 in
theorem ask_any (vb : Nat) (e f frm ep : Int) (x y u v : Int) (w : World) (h : Vt w vb e f) :
    Calls Try.prog 17 #[.pointer (some ⟨vb, 0, none⟩), .int .i64 frm, .int .i64 ep, .agg #[.int .i64 x, .int .i64 y], .agg #[.int .i64 u, .int .i64 v]] w fun r w' =>
      r = .returned (.bool (askB e f frm ep (x, y) (u, v))) ∧ VtTo w vb (askE e frm ep) (askF e f frm ep (x, y) (u, v)) w' := by
  obtain ⟨V, hV⟩ : ∃ V, V = (w.alloc (.cells #[.int .i64 x, .int .i64 y] 26)).alloc (.cells #[.int .i64 u, .int .i64 v] 26) := ⟨_, rfl⟩
  have F0 := Fr.box w (.cells #[.int .i64 x, .int .i64 y] 26)
  have F1 := Fr.box (w.alloc (.cells #[.int .i64 x, .int .i64 y] 26)) (.cells #[.int .i64 u, .int .i64 v] 26)
  have T0 := (Two.new w 26 (.int .i64 x) (.int .i64 y)).fr F1 (fun f => f)
  have T1 := Two.new (w.alloc (.cells #[.int .i64 x, .int .i64 y] 26)) 26 (.int .i64 u) (.int .i64 v)
  rw [World.size_alloc] at T1
  have F := F0.seq' F1
  rw [← hV] at T0 T1 F
  have hlt := h.lt
  have HV := h.fr F (fun f => f)
  have hzV : V.heap.size = w.heap.size + 2 := by rw [hV]; simp
  have hn := isNode_any frm V
  have HVV : Hid ((w.alloc (.cells #[.int .i64 x, .int .i64 y] 26)).alloc (.cells #[.int .i64 u, .int .i64 v] 26) = V) := hV.symm
  have FV : Hid (Fr (fun i => i = vb) w V) := F.mono (fun i hi e => e.elim)
  clear F0 F1 hV
  cases hnb : nodB frm with
  | false =>
    rw [show askB e f frm ep (x, y) (u, v) = false by simp [askB, hnb], show askE e frm ep = e by simp [askE, hnb], show askF e f frm ep (x, y) (u, v) = f by simp [askF, hnb]]
    rw [hnb] at hn
    have HVT : Hid (Vt V vb e f) := HV
    clear hnb HV T0 T1 h hlt
    go_enter Try.func17, Try.ntmps17
    go_wp2_with fail
    rw [HVV.out]
    refine hn.mono ?_
    rintro r w1 ⟨rfl, rfl⟩
    go_wp2
    go_ret
    exact ⟨rfl, HVT.out, FV.out⟩
  | true =>
    rw [hnb] at hn
    have hse := see_any vb e f ep V HV
    have hB : askB e f frm ep (x, y) (u, v) = ((decide (e1 e ep = ep) && (decide (f1 e f ep = -1) || decide (f1 e f ep = frm))) && newB (x, y) (u, v)) := by unfold askB; rw [hnb]; rfl
    have hE : askE e frm ep = e1 e ep := by unfold askE; rw [if_pos hnb]
    have hF : askF e f frm ep (x, y) (u, v) = if askB e f frm ep (x, y) (u, v) = true then frm else f1 e f ep := by unfold askF; rw [if_pos hnb]
    rw [hE, hF, hB]
    obtain ⟨e', he'⟩ : ∃ z, z = e1 e ep := ⟨_, rfl⟩
    obtain ⟨f', hf'⟩ : ∃ z, z = f1 e f ep := ⟨_, rfl⟩
    rw [show (if seeB e ep = true then ep else e) = e' from he'.symm, show (if seeB e ep = true then -1 else f) = f' from hf'.symm] at hse
    rw [← he', ← hf']
    obtain ⟨R, hR⟩ : ∃ R, R = ((decide (e' = ep) && (decide (f' = -1) || decide (f' = frm))) && newB (x, y) (u, v)) := ⟨_, rfl⟩
    rw [← hR]
    obtain ⟨fF, hfF⟩ : ∃ z, z = (if R = true then frm else f') := ⟨_, rfl⟩
    rw [← hfF]
    have HFF : Hid (fF = if R = true then frm else f') := hfF
    have HRR : Hid (R = ((decide (e' = ep) && (decide (f' = -1) || decide (f' = frm))) && newB (x, y) (u, v))) := hR
    clear hR hfF
    have HT0 : Hid (Two V w.heap.size 26 (.int .i64 x) (.int .i64 y)) := T0
    have HT1 : Hid (Two V (w.heap.size + 1) 26 (.int .i64 u) (.int .i64 v)) := T1
    have HNE : Hid (vb < w.heap.size) := hlt
    have HZV : Hid (V.heap.size = w.heap.size + 2) := hzV
    clear hE hF hB he' hf' hnb HV T0 T1 h hlt F hzV
    go_enter Try.func17, Try.ntmps17
    go_wp2_with fail
    rw [HVV.out]
    refine hn.mono ?_
    rintro r w1 ⟨rfl, rfl⟩
    go_wp2_with fail
    refine hse.mono ?_
    rintro r w2 ⟨rfl, hv2, fr2⟩
    obtain ⟨U, hU⟩ : ∃ U, U = (w2.alloc (.cells #[.int .i64 ep, .int .i64 (-1)] 23)).alloc (.cells #[.int .i64 ep, .int .i64 frm] 23) := ⟨_, rfl⟩
    have G0 := Fr.box w2 (.cells #[.int .i64 ep, .int .i64 (-1)] 23)
    have G1 := Fr.box (w2.alloc (.cells #[.int .i64 ep, .int .i64 (-1)] 23)) (.cells #[.int .i64 ep, .int .i64 frm] 23)
    have P0 := (Two.new w2 23 (.int .i64 ep) (.int .i64 (-1))).fr G1 (fun f => f)
    have P1 := Two.new (w2.alloc (.cells #[.int .i64 ep, .int .i64 (-1)] 23)) 23 (.int .i64 ep) (.int .i64 frm)
    rw [World.size_alloc] at P1
    have G := G0.seq' G1
    rw [← hU] at P0 P1 G
    have hv3 : Vt U vb e' f' := Two.fr hv2 G (fun f => f)
    have T0 : Two U w.heap.size 26 (.int .i64 x) (.int .i64 y) := (HT0.out.fr fr2 (fun e => by have := HNE.out; omega)).fr G (fun f => f)
    have T1 : Two U (w.heap.size + 1) 26 (.int .i64 u) (.int .i64 v) := (HT1.out.fr fr2 (fun e => by have := HNE.out; omega)).fr G (fun f => f)
    have FU : Fr (fun i => i = vb) w U := (FV.out.trans fr2 (fun i hi e => e)).trans G (fun i hi e => e.elim)
    have HUU : Hid ((w2.alloc (.cells #[.int .i64 ep, .int .i64 (-1)] 23)).alloc (.cells #[.int .i64 ep, .int .i64 frm] 23) = U) := hU.symm
    obtain ⟨a0, a1, b0, b1⟩ := Two.cells hv3
    obtain ⟨p0, p1, _⟩ := P0.cells
    obtain ⟨r0, r1, _⟩ := P1.cells
    have HP1 : Hid (Two U (w2.heap.size + 1) 23 (.int .i64 ep) (.int .i64 frm)) := P1
    have HT0' : Hid (Two U w.heap.size 26 (.int .i64 x) (.int .i64 y)) := T0
    have HT1' : Hid (Two U (w.heap.size + 1) 26 (.int .i64 u) (.int .i64 v)) := T1
    have HV3 : Hid (Vt U vb e' f') := hv3
    have HFU : Hid (Fr (fun i => i = vb) w U) := FU
    clear hU G0 G1 G P0 P1 T0 T1 fr2 hv2 hv3 FU hn hse HT0 HT1 HVV HZV FV
    by_cases c1 : e' = ep ∧ f' = -1
    · have hq1 := fun W => neq_prom e' f' ep (-1) W
      rw [show (!decide (e' = ep ∧ f' = -1)) = false by simp [c1]] at hq1
      have HC : Hid (R = newB (x, y) (u, v)) := by show _ = _; rw [HRR.out]; simp [c1]
      have HE : Hid (e' = ep) := c1.1
      clear c1
      go_wp2_with fail
      rw [HUU.out]
      go_quiet (fail)
      have D : Fr (fun _ => False) U (U.drewN nq) := (Fr.refl _ U).drewN _
      have V4 := Two.fr HV3.out D (fun f => f)
      have P4 := HP1.out.fr D (fun f => f)
      have F4 := HFU.out.trans D (fun i hi e => e.elim)
      obtain ⟨k0, k1, _⟩ := (HT0'.out.fr D (fun f => f)).cells
      obtain ⟨l0, l1, _⟩ := (HT1'.out.fr D (fun f => f)).cells
      clear a0 a1 b0 b1 p0 p1 r0 r1 HV3 HP1 HFU HT0' HT1' D HUU HRR hq1
      generalize U.drewN nq = U2 at *
      have HV4 : Hid (Two U2 vb 88 (.int .i64 e') (.int .i64 f')) := V4
      have HP4 : Hid (Two U2 (w2.heap.size + 1) 23 (.int .i64 ep) (.int .i64 frm)) := P4
      have HF4 : Hid (Fr (fun i => i = vb) w U2) := F4
      clear V4 P4 F4
      go_wp2_with fail
      refine (newer_any x y u v _).mono ?_
      rintro r w5 ⟨rfl, f5⟩
      have V5 := HV4.out.fr f5 (fun f => f)
      have F5 := HF4.out.trans f5 (fun i hi e => e.elim)
      obtain ⟨m0, m1, n0, n1⟩ := V5.cells
      obtain ⟨o0, o1, _⟩ := (HP4.out.fr f5 (fun f => f)).cells
      obtain ⟨j1, j2⟩ := V5.fin (.int .i64 ep) (.int .i64 frm)
      have HJ : Hid (VtTo w vb ep frm ((w5.setCell ⟨vb, 0, none⟩ (.int .i64 ep)).setCell ⟨vb, 1, none⟩ (.int .i64 frm))) := ⟨j1, F5.trans j2 (fun i hi e => e)⟩
      have HV5 : Hid (VtTo w vb e' f' w5) := ⟨V5, F5⟩
      clear V5 F5 j1 j2 k0 k1 l0 l1 HV4 HP4 HF4 f5
      have hR := HC.out
      have hF := HFF.out
      have hE := HE.out
      cases hnb : newB (x, y) (u, v) with
      | false =>
        rw [hnb] at hR
        rw [hR, if_neg (by simp)] at hF
        have HR : Hid (R = false) := hR
        have HF : Hid (fF = f') := hF
        clear hR hF hE HC HFF HE hnb
        go_wp2
        go_ret
        rw [HR.out, HF.out]
        exact ⟨rfl, HV5.out⟩
      | true =>
        rw [hnb] at hR
        rw [hR, if_pos rfl] at hF
        have HR : Hid (R = true) := hR
        have HF : Hid (fF = frm) := hF
        clear hR hF hE HC HFF hnb
        go_wp2
        go_ret
        rw [HR.out, HF.out, HE.out]
        exact ⟨rfl, HJ.out⟩
    · have hq1 := fun W => neq_prom e' f' ep (-1) W
      rw [show (!decide (e' = ep ∧ f' = -1)) = true by rw [decide_eq_false c1]; rfl] at hq1
      by_cases c2 : e' = ep ∧ f' = frm
      · have hq2 := fun W => neq_prom e' f' ep frm W
        rw [show (!decide (e' = ep ∧ f' = frm)) = false by simp [c2]] at hq2
        have HC : Hid (R = newB (x, y) (u, v)) := by show _ = _; rw [HRR.out]; simp [c2]
        have HE : Hid (e' = ep) := c2.1
        clear c1 c2
        go_wp2_with fail
        rw [HUU.out]
        go_quiet (fail)
        have D : Fr (fun _ => False) U (U.drewN nq) := (Fr.refl _ U).drewN _
        have V4 := Two.fr HV3.out D (fun f => f)
        have P4 := HP1.out.fr D (fun f => f)
        have F4 := HFU.out.trans D (fun i hi e => e.elim)
        obtain ⟨k0, k1, _⟩ := (HT0'.out.fr D (fun f => f)).cells
        obtain ⟨l0, l1, _⟩ := (HT1'.out.fr D (fun f => f)).cells
        clear a0 a1 b0 b1 p0 p1 r0 r1 HV3 HP1 HFU HT0' HT1' D HUU HRR hq1 hq2
        generalize U.drewN nq = U2 at *
        have HV4 : Hid (Two U2 vb 88 (.int .i64 e') (.int .i64 f')) := V4
        have HP4 : Hid (Two U2 (w2.heap.size + 1) 23 (.int .i64 ep) (.int .i64 frm)) := P4
        have HF4 : Hid (Fr (fun i => i = vb) w U2) := F4
        clear V4 P4 F4
        go_wp2_with fail
        refine (newer_any x y u v _).mono ?_
        rintro r w5 ⟨rfl, f5⟩
        have V5 := HV4.out.fr f5 (fun f => f)
        have F5 := HF4.out.trans f5 (fun i hi e => e.elim)
        obtain ⟨m0, m1, n0, n1⟩ := V5.cells
        obtain ⟨o0, o1, _⟩ := (HP4.out.fr f5 (fun f => f)).cells
        obtain ⟨j1, j2⟩ := V5.fin (.int .i64 ep) (.int .i64 frm)
        have HJ : Hid (VtTo w vb ep frm ((w5.setCell ⟨vb, 0, none⟩ (.int .i64 ep)).setCell ⟨vb, 1, none⟩ (.int .i64 frm))) := ⟨j1, F5.trans j2 (fun i hi e => e)⟩
        have HV5 : Hid (VtTo w vb e' f' w5) := ⟨V5, F5⟩
        clear V5 F5 j1 j2 k0 k1 l0 l1 HV4 HP4 HF4 f5
        have hR := HC.out
        have hF := HFF.out
        have hE := HE.out
        cases hnb : newB (x, y) (u, v) with
        | false =>
          rw [hnb] at hR
          rw [hR, if_neg (by simp)] at hF
          have HR : Hid (R = false) := hR
          have HF : Hid (fF = f') := hF
          clear hR hF hE HC HFF HE hnb
          go_wp2
          go_ret
          rw [HR.out, HF.out]
          exact ⟨rfl, HV5.out⟩
        | true =>
          rw [hnb] at hR
          rw [hR, if_pos rfl] at hF
          have HR : Hid (R = true) := hR
          have HF : Hid (fF = frm) := hF
          clear hR hF hE HC HFF hnb
          go_wp2
          go_ret
          rw [HR.out, HF.out, HE.out]
          exact ⟨rfl, HJ.out⟩
      · have hq2 := fun W => neq_prom e' f' ep frm W
        rw [show (!decide (e' = ep ∧ f' = frm)) = true by rw [decide_eq_false c2]; rfl] at hq2
        have HC : Hid (R = false) := by
          show _ = _
          rw [HRR.out]
          by_cases k : e' = ep
          · have k1 : ¬ f' = -1 := fun h => c1 ⟨k, h⟩
            have k2 : ¬ f' = frm := fun h => c2 ⟨k, h⟩
            simp [k1, k2]
          · simp [k]
        clear c1 c2
        go_wp2_with fail
        rw [HUU.out]
        go_quiet (fail)
        go_wp2
        go_ret
        rw [HFF.out, HC.out, if_neg (by simp)]
        exact ⟨rfl, Two.fr HV3.out (S := fun _ => False) ((Fr.refl _ U).drewN _) (fun f => f), HFU.out.trans (T := fun i => i = vb) (S := fun i => i = vb) ((Fr.refl _ U).drewN _) (fun i hi e => e)⟩
end Go.Proofs.Ytbfkacahaocpfaa
