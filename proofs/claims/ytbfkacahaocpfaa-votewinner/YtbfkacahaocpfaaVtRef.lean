
/- The document's voter. -/
import Derived.Test.YtbfkacahaocpfaaVtAsk
namespace Go.Proofs.Ytbfkacahaocpfaa
open Go.RowKit

/-- The document's voter in memory. -/
def Vr (w : World) (b : Nat) (e f : Int) : Prop := Two w b 47 (.int .i64 e) (.int .i64 f)
def VrTo (w : World) (b : Nat) (e f : Int) (w' : World) : Prop := Vr w' b e f ∧ Fr (fun i => i = b) w w'
set_option maxRecDepth 100000 in
set_option maxHeartbeats 4000000 in
theorem rnewer_any (x y u v : Int) (w : World) : Calls Try.prog 13 #[.agg #[.int .i64 x, .int .i64 y], .agg #[.int .i64 u, .int .i64 v]] w fun r w' => r = .returned (.bool (newB (x, y) (u, v))) ∧ Fr (fun _ => False) w w' := by
  have F0 := Fr.box w (.cells #[.int .i64 x, .int .i64 y] 26)
  have F1 := Fr.box (w.alloc (.cells #[.int .i64 x, .int .i64 y] 26)) (.cells #[.int .i64 u, .int .i64 v] 26)
  have T0 := (Two.new w 26 (.int .i64 x) (.int .i64 y)).fr F1 (fun f => f)
  have T1 := Two.new (w.alloc (.cells #[.int .i64 x, .int .i64 y] 26)) 26 (.int .i64 u) (.int .i64 v)
  rw [World.size_alloc] at T1
  obtain ⟨x0, x1, _⟩ := T0.cells
  obtain ⟨y0, y1, _⟩ := T1.cells
  have HF : Hid (Fr (fun _ => False) w ((w.alloc (.cells #[.int .i64 x, .int .i64 y] 26)).alloc (.cells #[.int .i64 u, .int .i64 v] 26))) := F0.seq' F1
  clear F0 F1 T0 T1
  by_cases h2 : x = u
  · rw [show newB (x, y) (u, v) = decide (v ≤ y) by simp [newB, h2]]
    subst h2
    go_enter Try.func13, Try.ntmps13
    go_wp2
    go_ret
    exact ⟨rfl, HF.out⟩
  · rw [show newB (x, y) (u, v) = decide (u < x) by simp [newB, h2]]
    have h2' : (x == u) = false := by simpa using h2
    go_enter Try.func13, Try.ntmps13
    go_wp2
    go_ret
    exact ⟨rfl, HF.out⟩
set_option maxRecDepth 100000 in
set_option maxHeartbeats 4000000 in
theorem right_any (e f : Int) (w : World) : Calls Try.prog 16 #[.agg #[.int .i64 e, .int .i64 f]] w fun r w' => r = .returned (.bool (rgtB e f)) ∧ Fr (fun _ => False) w w' := by
  have HF : Hid (Fr (fun _ => False) w (w.alloc (.cells #[.int .i64 e, .int .i64 f] 33))) := Fr.box _ _
  obtain ⟨x0, x1, _⟩ := (Two.new w 33 (.int .i64 e) (.int .i64 f)).cells
  by_cases h1 : 0 ≤ e
  · by_cases h2 : e ≤ 1099511627776
    · by_cases h3 : -1 ≤ f
      · rw [show rgtB e f = decide (f ≤ 6) by
          rw [Bool.eq_iff_iff]
          simp [rgtB, epB, nodB]
          omega]
        go_enter Try.func16, Try.ntmps16
        go_wp2
        go_ret
        exact ⟨rfl, HF.out⟩
      · rw [show rgtB e f = false by
          rw [← Bool.not_eq_true]
          simp [rgtB, epB, nodB]
          omega]
        have h3' : decide (-1 ≤ f) = false := by simpa using h3
        go_enter Try.func16, Try.ntmps16
        go_wp2
        go_ret
        exact ⟨rfl, HF.out⟩
    · rw [show rgtB e f = false by simp [rgtB, epB, h2]]
      have h2' : decide (e ≤ 1099511627776) = false := by simpa using h2
      go_enter Try.func16, Try.ntmps16
      go_wp2
      go_ret
      exact ⟨rfl, HF.out⟩
  · rw [show rgtB e f = false by simp [rgtB, epB, h1]]
    have h1' : decide (0 ≤ e) = false := by simpa using h1
    go_enter Try.func16, Try.ntmps16
    go_wp2
    go_ret
    exact ⟨rfl, HF.out⟩
set_option maxRecDepth 100000 in
set_option maxHeartbeats 4000000 in
theorem rsee_any (b : Nat) (e f ep : Int) (w : World) (h : Vr w b e f) : Calls Try.prog 20 #[.pointer (some ⟨b, 0, none⟩), .int .i64 ep] w fun r w' => r = .returned (.bool (seeB e ep)) ∧ VrTo w b (if seeB e ep then ep else e) (if seeB e ep then -1 else f) w' := by
  obtain ⟨x0, x1, y0, y1⟩ := h.cells
  have HV : Hid (Vr w b e f) := h
  clear h
  by_cases h1 : ep ≤ e
  · rw [show seeB e ep = false by simp [seeB]; omega]
    go_enter Try.func20, Try.ntmps20
    go_wp2
    go_ret
    exact ⟨rfl, HV.out, Fr.refl _ _⟩
  · have h1' : decide (ep ≤ e) = false := by simpa using h1
    by_cases h2 : 1099511627776 < ep
    · rw [show seeB e ep = false by simp [seeB]; omega]
      go_enter Try.func20, Try.ntmps20
      go_wp2
      go_ret
      exact ⟨rfl, HV.out, Fr.refl _ _⟩
    · have h2' : decide (1099511627776 < ep) = false := by simpa using h2
      rw [show seeB e ep = true by simp [seeB]; omega]
      obtain ⟨k1, k2⟩ := Two.fin HV.out (.int .i64 ep) (.int .i64 (-1))
      have HK : Hid (VrTo w b ep (-1) ((w.setCell ⟨b, 0, none⟩ (.int .i64 ep)).setCell ⟨b, 1, none⟩ (.int .i64 (-1)))) := ⟨k1, k2⟩
      clear k1 k2
      go_enter Try.func20, Try.ntmps20
      go_wp2
      go_ret
      exact ⟨rfl, HK.out⟩
set_option maxRecDepth 100000 in
set_option maxHeartbeats 4000000 in
theorem rstand_any (b : Nat) (e f me : Int) (w : World) (h : Vr w b e f) (hr : rgtB e f = true) : Calls Try.prog 22 #[.pointer (some ⟨b, 0, none⟩), .int .i64 me] w fun r w' => r = .returned (.tuple #[.int .i64 (stN e me), .int .i64 (stE e me)]) ∧ VrTo w b (if stE e me = 0 then e + 1 else e) (if stE e me = 0 then me else f) w' := by
  obtain ⟨x0, x1, y0, y1⟩ := h.cells
  have HV : Hid (Vr w b e f) := h
  have he : 0 ≤ e ∧ e ≤ 1099511627776 := by simp [rgtB, epB] at hr; exact hr.1
  obtain ⟨he0, he1⟩ := he
  clear h hr
  by_cases g1 : me < 0
  · have hE : stE e me = 1 := by unfold stE; rw [if_neg (by simp [nodB]; omega)]
    rw [show stN e me = 0 by unfold stN; rw [hE]; rfl, hE]
    clear hE
    go_enter Try.func22, Try.ntmps22
    go_wp2
    go_ret2
    exact ⟨rfl, HV.out, Fr.refl _ _⟩
  · have g1' : decide (me < 0) = false := by simpa using g1
    by_cases g2 : 6 < me
    · have hE : stE e me = 1 := by unfold stE; rw [if_neg (by simp [nodB]; omega)]
      rw [show stN e me = 0 by unfold stN; rw [hE]; rfl, hE]
      clear hE
      go_enter Try.func22, Try.ntmps22
      go_wp2
      go_ret2
      exact ⟨rfl, HV.out, Fr.refl _ _⟩
    · have g2' : decide (6 < me) = false := by simpa using g2
      have hnb : nodB me = true := by simp [nodB]; omega
      by_cases h2 : e = 1099511627776
      · have hE : stE e me = 5 := by unfold stE; rw [if_pos hnb, if_pos h2]
        rw [show stN e me = 0 by unfold stN; rw [hE]; rfl, hE]
        clear hE hnb
        subst h2
        go_enter Try.func22, Try.ntmps22
        go_wp2
        go_ret2
        exact ⟨rfl, HV.out, Fr.refl _ _⟩
      · have hE : stE e me = 0 := by unfold stE; rw [if_pos hnb, if_neg h2]
        rw [show stN e me = e + 1 by unfold stN; rw [hE]; rfl, hE]
        have h2' : (e == 1099511627776) = false := by simpa using h2
        obtain ⟨k1, k2⟩ := Two.fin HV.out (.int .i64 (e + 1)) (.int .i64 me)
        obtain ⟨z0, z1, _⟩ := k1.cells
        have HK : Hid (VrTo w b (e + 1) me ((w.setCell ⟨b, 0, none⟩ (.int .i64 (e + 1))).setCell ⟨b, 1, none⟩ (.int .i64 me))) := ⟨k1, k2⟩
        clear k1 k2 hE hnb
        go_enter Try.func22, Try.ntmps22
        go_wp2
        go_ret2
        exact ⟨rfl, HK.out⟩
theorem ask_low {e f frm ep : Int} {a b : Int × Int} (hr : rgtB e f = true) (h : nodB frm = false ∨ ep < e ∨ 1099511627776 < ep) : askB e f frm ep a b = false ∧ askE e frm ep = e ∧ askF e f frm ep a b = f := by
  have he : 0 ≤ e ∧ e ≤ 1099511627776 := by simp [rgtB, epB] at hr; exact hr.1
  by_cases hn : nodB frm = true
  · have hs : seeB e ep = false := by
      rcases h with h | h
      · rw [h] at hn; cases hn
      · simp [seeB]; omega
    have h1 : e1 e ep = e := by simp [e1, hs]
    have h2 : f1 e f ep = f := by simp [f1, hs]
    have hne : ¬ e = ep := by
      rcases h with h | h
      · rw [h] at hn; cases hn
      · omega
    have h3 : askB e f frm ep a b = false := by unfold askB; rw [h1]; simp [hne]
    exact ⟨h3, by simp [askE, hn, h1], by simp [askF, hn, h3, h2]⟩
  · rw [Bool.not_eq_true] at hn
    exact ⟨by simp [askB, hn], by simp [askE, hn], by simp [askF, hn]⟩
theorem ask_high {e f frm ep : Int} {a b : Int × Int} (hn : nodB frm = true) (h1 : e < ep) (h2 : ep ≤ 1099511627776) : askB e f frm ep a b = newB a b ∧ askE e frm ep = ep ∧ askF e f frm ep a b = if newB a b = true then frm else -1 := by
  have hs : seeB e ep = true := by simp [seeB, h1, h2]
  have k1 : e1 e ep = ep := by simp [e1, hs]
  have k2 : f1 e f ep = -1 := by simp [f1, hs]
  have k3 : askB e f frm ep a b = newB a b := by unfold askB; rw [k1, k2, hn]; simp
  exact ⟨k3, by simp [askE, hn, k1], by simp [askF, hn, k3, k2]⟩
theorem ask_same {e f frm : Int} {a b : Int × Int} (hn : nodB frm = true) : askB e f frm e a b = ((decide (f = -1) || decide (f = frm)) && newB a b) ∧ askE e frm e = e ∧ askF e f frm e a b = if ((decide (f = -1) || decide (f = frm)) && newB a b) = true then frm else f := by
  have hs : seeB e e = false := by simp [seeB]
  have k1 : e1 e e = e := by simp [e1, hs]
  have k2 : f1 e f e = f := by simp [f1, hs]
  have k3 : askB e f frm e a b = ((decide (f = -1) || decide (f = frm)) && newB a b) := by unfold askB; rw [k1, k2, hn]; simp
  exact ⟨k3, by simp [askE, hn, k1], by unfold askF; rw [if_pos hn, k3, k2]⟩
set_option maxRecDepth 100000 in
set_option maxHeartbeats 8000000 in
theorem rask_any (vb : Nat) (e f frm ep : Int) (x y u v : Int) (w : World) (h : Vr w vb e f) (hr : rgtB e f = true) :
    Calls Try.prog 18 #[.pointer (some ⟨vb, 0, none⟩), .int .i64 frm, .int .i64 ep, .agg #[.int .i64 x, .int .i64 y], .agg #[.int .i64 u, .int .i64 v]] w fun r w' =>
      r = .returned (.bool (askB e f frm ep (x, y) (u, v))) ∧ VrTo w vb (askE e frm ep) (askF e f frm ep (x, y) (u, v)) w' := by
  obtain ⟨V, hV⟩ : ∃ V, V = (w.alloc (.cells #[.int .i64 x, .int .i64 y] 26)).alloc (.cells #[.int .i64 u, .int .i64 v] 26) := ⟨_, rfl⟩
  have F0 := Fr.box w (.cells #[.int .i64 x, .int .i64 y] 26)
  have F1 := Fr.box (w.alloc (.cells #[.int .i64 x, .int .i64 y] 26)) (.cells #[.int .i64 u, .int .i64 v] 26)
  have T0 := (Two.new w 26 (.int .i64 x) (.int .i64 y)).fr F1 (fun f => f)
  have T1 := Two.new (w.alloc (.cells #[.int .i64 x, .int .i64 y] 26)) 26 (.int .i64 u) (.int .i64 v)
  rw [World.size_alloc] at T1
  have F := F0.seq' F1
  rw [← hV] at T0 T1 F
  have hlt := h.lt
  have HV := Two.fr h F (fun f => f)
  have FV : Hid (Fr (fun i => i = vb) w V) := F.mono (fun i hi e => e.elim)
  have HVT : Hid (Two V vb 47 (.int .i64 e) (.int .i64 f)) := HV
  have HT0 : Hid (Two V w.heap.size 26 (.int .i64 x) (.int .i64 y)) := T0
  have HT1 : Hid (Two V (w.heap.size + 1) 26 (.int .i64 u) (.int .i64 v)) := T1
  have HNE : Hid (vb < w.heap.size) := hlt
  have he : 0 ≤ e ∧ e ≤ 1099511627776 := by simp [rgtB, epB] at hr; exact hr.1
  obtain ⟨he0, he1⟩ := he
  obtain ⟨x0, x1, y0, y1⟩ := HV.cells
  rw [hV] at x0 x1 y0 y1
  have HVV : Hid ((w.alloc (.cells #[.int .i64 x, .int .i64 y] 26)).alloc (.cells #[.int .i64 u, .int .i64 v] 26) = V) := hV.symm
  clear F0 F1 hV F T0 T1 HV h hlt
  by_cases g1 : frm < 0
  · obtain ⟨k1, k2, k3⟩ := ask_low (a := (x, y)) (b := (u, v)) (frm := frm) (ep := ep) hr (.inl (by simp [nodB]; omega))
    rw [k1, k2, k3]
    clear k1 k2 k3 hr
    go_enter Try.func18, Try.ntmps18
    go_wp2
    go_ret
    rw [HVV.out]
    exact ⟨rfl, HVT.out, FV.out⟩
  · have g1' : decide (frm < 0) = false := by simpa using g1
    by_cases g2 : 6 < frm
    · obtain ⟨k1, k2, k3⟩ := ask_low (a := (x, y)) (b := (u, v)) (frm := frm) (ep := ep) hr (.inl (by simp [nodB]; omega))
      rw [k1, k2, k3]
      clear k1 k2 k3 hr
      go_enter Try.func18, Try.ntmps18
      go_wp2
      go_ret
      rw [HVV.out]
      exact ⟨rfl, HVT.out, FV.out⟩
    · have g2' : decide (6 < frm) = false := by simpa using g2
      have hnb : nodB frm = true := by simp [nodB]; omega
      by_cases g3 : ep < e
      · obtain ⟨k1, k2, k3⟩ := ask_low (a := (x, y)) (b := (u, v)) (frm := frm) (ep := ep) hr (.inr (.inl g3))
        rw [k1, k2, k3]
        clear k1 k2 k3 hr hnb
        go_enter Try.func18, Try.ntmps18
        go_wp2
        go_ret
        rw [HVV.out]
        exact ⟨rfl, HVT.out, FV.out⟩
      · have g3' : decide (ep < e) = false := by simpa using g3
        by_cases g4 : 1099511627776 < ep
        · obtain ⟨k1, k2, k3⟩ := ask_low (a := (x, y)) (b := (u, v)) (frm := frm) (ep := ep) hr (.inr (.inr g4))
          rw [k1, k2, k3]
          clear k1 k2 k3 hr hnb
          go_enter Try.func18, Try.ntmps18
          go_wp2
          go_ret
          rw [HVV.out]
          exact ⟨rfl, HVT.out, FV.out⟩
        · have g4' : decide (1099511627776 < ep) = false := by simpa using g4
          by_cases g5 : e < ep
          · obtain ⟨k1, k2, k3⟩ := ask_high (a := (x, y)) (b := (u, v)) (f := f) hnb g5 (by omega)
            rw [k1, k2, k3]
            obtain ⟨fF, hfF⟩ : ∃ z, z = (if newB (x, y) (u, v) = true then frm else -1) := ⟨_, rfl⟩
            rw [← hfF]
            have HFF : Hid (fF = if newB (x, y) (u, v) = true then frm else -1) := hfF
            obtain ⟨j1, j2⟩ := HVT.out.fin (.int .i64 ep) (.int .i64 (-1))
            have T0 := HT0.out.fr j2 (fun e => by have := HNE.out; omega)
            have T1 := HT1.out.fr j2 (fun e => by have := HNE.out; omega)
            have FW := FV.out.trans j2 (fun i hi e => e)
            obtain ⟨k0, k1', _⟩ := T0.cells
            obtain ⟨l0, l1, _⟩ := T1.cells
            obtain ⟨m0, m1, n0, n1⟩ := j1.cells
            have HJ1 : Hid (Two ((V.setCell ⟨vb, 0, none⟩ (.int .i64 ep)).setCell ⟨vb, 1, none⟩ (.int .i64 (-1))) vb 47 (.int .i64 ep) (.int .i64 (-1))) := j1
            have HFW : Hid (Fr (fun i => i = vb) w ((V.setCell ⟨vb, 0, none⟩ (.int .i64 ep)).setCell ⟨vb, 1, none⟩ (.int .i64 (-1)))) := FW
            have HNEW : Hid (∀ W : World, Calls Try.prog 13 #[.agg #[.int .i64 x, .int .i64 y], .agg #[.int .i64 u, .int .i64 v]] W fun r w' => r = .returned (.bool (newB (x, y) (u, v))) ∧ Fr (fun _ => False) W w') := rnewer_any x y u v
            rw [← HVV.out] at k0 k1' l0 l1 m0 m1 n0 n1 HJ1 HFW
            clear k1 k2 k3 hr hnb hfF j1 j2 T0 T1 FW HVT HT0 HT1 FV
            go_enter Try.func18, Try.ntmps18
            go_wp2_with fail
            generalize ((((w.alloc (.cells #[.int .i64 x, .int .i64 y] 26)).alloc (.cells #[.int .i64 u, .int .i64 v] 26)).setCell ⟨vb, 0, none⟩ (.int .i64 ep)).setCell ⟨vb, 1, none⟩ (.int .i64 (-1))) = U at *
            refine (HNEW.out _).mono ?_
            rintro r w5 ⟨rfl, f5⟩
            have V5 := HJ1.out.fr f5 (fun f => f)
            have F5 := HFW.out.trans f5 (fun i hi e => e.elim)
            obtain ⟨p0, p1, q0, q1⟩ := V5.cells
            have HJ : Hid (VrTo w vb ep frm (w5.setCell ⟨vb, 1, none⟩ (.int .i64 frm))) := ⟨V5.set1 _, F5.setCell (p := ⟨vb, 1, none⟩) (fun _ => rfl) _⟩
            have HV5 : Hid (VrTo w vb ep (-1) w5) := ⟨V5, F5⟩
            clear V5 F5 k0 k1' l0 l1 m0 m1 n0 n1 HJ1 HFW f5
            have hF := HFF.out
            cases hnb : newB (x, y) (u, v) with
            | false =>
              rw [hnb, if_neg (by simp)] at hF
              have HF : Hid (fF = (-1)) := hF
              have HB : Hid (newB (x, y) (u, v) = false) := hnb
              clear hF HFF hnb
              go_wp2
              go_ret
              rw [HF.out, HB.out]
              exact ⟨rfl, HV5.out⟩
            | true =>
              rw [hnb, if_pos rfl] at hF
              have HF : Hid (fF = frm) := hF
              have HB : Hid (newB (x, y) (u, v) = true) := hnb
              clear hF HFF hnb
              go_wp2
              go_ret
              rw [HF.out, HB.out]
              exact ⟨rfl, HJ.out⟩
          · have g5' : decide (e < ep) = false := by simpa using g5
            obtain rfl : ep = e := by omega
            obtain ⟨k1, k2, k3⟩ := ask_same (a := (x, y)) (b := (u, v)) (f := f) (e := ep) hnb
            rw [k1, k2, k3]
            obtain ⟨R, hR⟩ : ∃ z, z = ((decide (f = -1) || decide (f = frm)) && newB (x, y) (u, v)) := ⟨_, rfl⟩
            rw [← hR]
            obtain ⟨fF, hfF⟩ : ∃ z, z = (if R = true then frm else f) := ⟨_, rfl⟩
            rw [← hfF]
            have HNEW : Hid (∀ W : World, Calls Try.prog 13 #[.agg #[.int .i64 x, .int .i64 y], .agg #[.int .i64 u, .int .i64 v]] W fun r w' => r = .returned (.bool (newB (x, y) (u, v))) ∧ Fr (fun _ => False) W w') := rnewer_any x y u v
            obtain ⟨k0, k1', _⟩ := HT0.out.cells
            obtain ⟨l0, l1, _⟩ := HT1.out.cells
            rw [← HVV.out] at k0 k1' l0 l1 HVT FV
            clear k1 k2 k3 hr hnb HT0 HT1 HVV
            by_cases c1 : f = -1
            · subst c1
              have HFF : Hid (fF = if newB (x, y) (u, v) = true then frm else -1) := by show _ = _; rw [hfF, hR]; simp 
              have HRR : Hid (R = newB (x, y) (u, v)) := by show _ = _; rw [hR]; simp 
              clear hR hfF
              go_enter Try.func18, Try.ntmps18
              go_wp2_with fail
              generalize ((w.alloc (.cells #[.int .i64 x, .int .i64 y] 26)).alloc (.cells #[.int .i64 u, .int .i64 v] 26)) = U at *
              refine (HNEW.out _).mono ?_
              rintro r w5 ⟨rfl, f5⟩
              have V5 := HVT.out.fr f5 (fun f => f)
              have F5 := FV.out.trans f5 (fun i hi e => e.elim)
              obtain ⟨p0, p1, q0, q1⟩ := V5.cells
              have HJ : Hid (VrTo w vb ep frm (w5.setCell ⟨vb, 1, none⟩ (.int .i64 frm))) := ⟨V5.set1 _, F5.setCell (p := ⟨vb, 1, none⟩) (fun _ => rfl) _⟩
              have HV5 : Hid (VrTo w vb ep (-1) w5) := ⟨V5, F5⟩
              clear V5 F5 k0 k1' l0 l1 x0 x1 y0 y1 HVT FV f5
              have hF := HFF.out
              have hR := HRR.out
              cases hnb : newB (x, y) (u, v) with
              | false =>
                rw [hnb, if_neg (by simp)] at hF
                rw [hnb] at hR
                have HF : Hid (fF = (-1)) := hF
                have HR : Hid (R = false) := hR
                clear hF HFF hnb hR HRR
                go_wp2
                go_ret
                rw [HF.out, HR.out]
                exact ⟨rfl, HV5.out⟩
              | true =>
                rw [hnb, if_pos rfl] at hF
                rw [hnb] at hR
                have HF : Hid (fF = frm) := hF
                have HR : Hid (R = true) := hR
                clear hF HFF hnb hR HRR
                go_wp2
                go_ret
                rw [HF.out, HR.out]
                exact ⟨rfl, HJ.out⟩
            · have c1' : (f == -1) = false := by simpa using c1
              by_cases c2 : f = frm
              · subst c2
                have HFF : Hid (fF = if newB (x, y) (u, v) = true then f else f) := by show _ = _; rw [hfF, hR]; simp 
                have HRR : Hid (R = newB (x, y) (u, v)) := by show _ = _; rw [hR]; simp 
                clear hR hfF
                go_enter Try.func18, Try.ntmps18
                go_wp2_with fail
                generalize ((w.alloc (.cells #[.int .i64 x, .int .i64 y] 26)).alloc (.cells #[.int .i64 u, .int .i64 v] 26)) = U at *
                refine (HNEW.out _).mono ?_
                rintro r w5 ⟨rfl, f5⟩
                have V5 := HVT.out.fr f5 (fun f => f)
                have F5 := FV.out.trans f5 (fun i hi e => e.elim)
                obtain ⟨p0, p1, q0, q1⟩ := V5.cells
                have HJ : Hid (VrTo w vb ep f (w5.setCell ⟨vb, 1, none⟩ (.int .i64 f))) := ⟨V5.set1 _, F5.setCell (p := ⟨vb, 1, none⟩) (fun _ => rfl) _⟩
                have HV5 : Hid (VrTo w vb ep f w5) := ⟨V5, F5⟩
                clear V5 F5 k0 k1' l0 l1 x0 x1 y0 y1 HVT FV f5
                have hF := HFF.out
                have hR := HRR.out
                cases hnb : newB (x, y) (u, v) with
                | false =>
                  rw [hnb, if_neg (by simp)] at hF
                  rw [hnb] at hR
                  have HF : Hid (fF = f) := hF
                  have HR : Hid (R = false) := hR
                  clear hF HFF hnb hR HRR
                  go_wp2
                  go_ret
                  rw [HF.out, HR.out]
                  exact ⟨rfl, HV5.out⟩
                | true =>
                  rw [hnb, if_pos rfl] at hF
                  rw [hnb] at hR
                  have HF : Hid (fF = f) := hF
                  have HR : Hid (R = true) := hR
                  clear hF HFF hnb hR HRR
                  go_wp2
                  go_ret
                  rw [HF.out, HR.out]
                  exact ⟨rfl, HJ.out⟩
              · have c2' : (f == frm) = false := by simpa using c2
                have HF : Hid (fF = f) := by show _ = _; rw [hfF, hR]; simp [c1, c2]
                have HR : Hid (R = false) := by show _ = _; rw [hR]; simp [c1, c2]
                clear hR hfF HNEW
                go_enter Try.func18, Try.ntmps18
                go_wp2
                go_ret
                rw [HF.out, HR.out]
                exact ⟨rfl, HVT.out, FV.out⟩
end Go.Proofs.Ytbfkacahaocpfaa
