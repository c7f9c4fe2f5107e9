
/- Promises and voters in memory. -/
import Derived.Test.YtbfkacahaocpfaaQuMem
namespace Go.Proofs.Ytbfkacahaocpfaa
open Go.RowKit

/-- A struct of two cells. -/
def Two (w : World) (b : Nat) (t : TypeId) (x y : Value) : Prop := w.heap[b]? = some (.cells #[x, y] t (0, 0))
theorem Two.cells {w : World} {b : Nat} {t : TypeId} {x y : Value} (h : Two w b t x y) : w.cell? ⟨b, 0, none⟩ = some x ∧ w.cell? ⟨b, 1, none⟩ = some y ∧ w.frozen? ⟨b, 0, none⟩ = false ∧ w.frozen? ⟨b, 1, none⟩ = false := by
  unfold Two at h
  refine ⟨?_, ?_, ?_, ?_⟩ <;> simp [World.cell?, World.frozen?, h]
theorem Two.lt {w : World} {b : Nat} {t : TypeId} {x y : Value} (h : Two w b t x y) : b < w.heap.size := (Array.getElem?_eq_some_iff.1 h).1
theorem Two.fr {S : Nat → Prop} {w w' : World} {b : Nat} {t : TypeId} {x y : Value} (h : Two w b t x y) (f : Fr S w w') (hn : ¬ S b) : Two w' b t x y := by
  unfold Two; rw [f.block b h.lt hn]; exact h
theorem Two.new (w : World) (t : TypeId) (x y : Value) : Two (w.alloc (.cells #[x, y] t)) w.heap.size t x y := heap_alloc_new w _
theorem Two.set0 {w : World} {b : Nat} {t : TypeId} {x y : Value} (h : Two w b t x y) (u : Value) : Two (w.setCell ⟨b, 0, none⟩ u) b t u y := by
  have hlt := h.lt
  have h' : w.heap[b] = .cells #[x, y] t (0, 0) := by unfold Two at h; simpa [Array.getElem?_eq_getElem hlt] using h
  show (w.heap.modify b _)[b]? = _
  rw [Array.getElem?_eq_getElem (by rw [Array.size_modify]; exact hlt), Array.getElem_modify_self, h']
  rfl
theorem Two.set1 {w : World} {b : Nat} {t : TypeId} {x y : Value} (h : Two w b t x y) (u : Value) : Two (w.setCell ⟨b, 1, none⟩ u) b t x u := by
  have hlt := h.lt
  have h' : w.heap[b] = .cells #[x, y] t (0, 0) := by unfold Two at h; simpa [Array.getElem?_eq_getElem hlt] using h
  show (w.heap.modify b _)[b]? = _
  rw [Array.getElem?_eq_getElem (by rw [Array.size_modify]; exact hlt), Array.getElem_modify_self, h']
  rfl
theorem Two.fin {w : World} {b : Nat} {t : TypeId} {x y : Value} (h : Two w b t x y) (u v : Value) :
    Two ((w.setCell ⟨b, 0, none⟩ u).setCell ⟨b, 1, none⟩ v) b t u v ∧ Fr (fun i => i = b) w ((w.setCell ⟨b, 0, none⟩ u).setCell ⟨b, 1, none⟩ v) :=
  ⟨(h.set0 u).set1 v, ((Fr.refl (fun i => i = b) w).setCell (p := ⟨b, 0, none⟩) (fun _ => rfl) u).setCell (p := ⟨b, 1, none⟩) (fun _ => rfl) v⟩


def nodB (i : Int) : Bool := decide (0 ≤ i) && decide (i < 7)
def epB (n : Int) : Bool := decide (0 ≤ n) && decide (n ≤ 1099511627776)
def rgtB (e f : Int) : Bool := epB e && (decide (f = -1) || nodB f)
theorem isNode_any (i : Int) (w : World) : Calls Try.prog 39 #[.int .i64 i] w fun e w' => e = .returned (.bool (nodB i)) ∧ w' = w := by
  by_cases h1 : 0 ≤ i
  · rw [show nodB i = decide (i < 7) by simp [nodB, h1]]
    go_enter Try.func39, Try.ntmps39
    go_wp2
    go_ret
    exact ⟨rfl, rfl⟩
  · have h1' : decide (0 ≤ i) = false := by simpa using h1
    rw [show nodB i = false by simp [nodB, h1]]
    go_enter Try.func39, Try.ntmps39
    go_wp2
    go_ret
    exact ⟨rfl, rfl⟩
theorem isEpoch_any (n : Int) (w : World) : Calls Try.prog 41 #[.int .i64 n] w fun e w' => e = .returned (.bool (epB n)) ∧ w' = w := by
  by_cases h1 : 0 ≤ n
  · rw [show epB n = decide (n ≤ 1099511627776) by simp [epB, h1]]
    go_enter Try.func41, Try.ntmps41
    go_wp2
    go_ret
    exact ⟨rfl, rfl⟩
  · have h1' : decide (0 ≤ n) = false := by simpa using h1
    rw [show epB n = false by simp [epB, h1]]
    go_enter Try.func41, Try.ntmps41
    go_wp2
    go_ret
    exact ⟨rfl, rfl⟩
set_option maxRecDepth 100000 in
set_option maxHeartbeats 4000000 in
theorem isRight_any (e f : Int) (w : World) : Calls Try.prog 28 #[.agg #[.int .i64 e, .int .i64 f]] w fun r w' => r = .returned (.bool (rgtB e f)) ∧ Fr (fun _ => False) w w' := by
  have HF : Hid (Fr (fun _ => False) w (w.alloc (.cells #[.int .i64 e, .int .i64 f] 23))) := Fr.box _ _
  have T := Two.new w 23 (.int .i64 e) (.int .i64 f)
  obtain ⟨x0, x1, _⟩ := T.cells
  have he := isEpoch_any e (w.alloc (.cells #[.int .i64 e, .int .i64 f] 23))
  have hn := isNode_any f (w.alloc (.cells #[.int .i64 e, .int .i64 f] 23))
  clear T
  cases h1 : epB e with
  | false =>
    rw [show rgtB e f = false by simp [rgtB, h1]]
    rw [h1] at he
    clear h1 hn
    go_enter Try.func28, Try.ntmps28
    go_wp2_with (go_at_call 41; refine he.mono ?_; rintro r w1 ⟨rfl, rfl⟩)
    go_ret
    exact ⟨rfl, HF.out⟩
  | true =>
    rw [h1] at he
    by_cases h2 : f = -1
    · rw [show rgtB e f = true by simp [rgtB, h1, h2]]
      subst h2
      clear h1 hn
      go_enter Try.func28, Try.ntmps28
      go_wp2_with (go_at_call 41; refine he.mono ?_; rintro r w1 ⟨rfl, rfl⟩)
      go_ret
      exact ⟨rfl, HF.out⟩
    · rw [show rgtB e f = nodB f by simp [rgtB, h1, h2]]
      have h2' : (f == -1) = false := by simpa using h2
      clear h1
      go_enter Try.func28, Try.ntmps28
      go_wp2_with (first | (go_at_call 41; refine he.mono ?_; rintro r w1 ⟨rfl, rfl⟩) | (go_at_call 39; refine hn.mono ?_; rintro r w2 ⟨rfl, rfl⟩))
      go_ret
      exact ⟨rfl, HF.out⟩
/-- A voter. -/
def Vt (w : World) (b : Nat) (e f : Int) : Prop := Two w b 88 (.int .i64 e) (.int .i64 f)
set_option maxRecDepth 100000 in
set_option maxHeartbeats 4000000 in
theorem vnew_yes (e f : Int) (h : rgtB e f = true) (w : World) : Calls Try.prog 15 #[.agg #[.int .i64 e, .int .i64 f]] w fun r w' => ∃ b, r = .returned (.tuple #[.pointer (some ⟨b, 0, none⟩), .int .i64 0]) ∧ w.heap.size ≤ b ∧ Vt w' b e f ∧ Fr (fun _ => False) w w' := by
  have F0 := Fr.box w (.cells #[.int .i64 e, .int .i64 f] 23)
  have T := Two.new w 23 (.int .i64 e) (.int .i64 f)
  have hr := isRight_any e f (w.alloc (.cells #[.int .i64 e, .int .i64 f] 23))
  rw [h] at hr
  obtain ⟨x0, x1, _⟩ := T.cells
  have HT : Hid (Two (w.alloc (.cells #[.int .i64 e, .int .i64 f] 23)) w.heap.size 23 (.int .i64 e) (.int .i64 f)) := T
  have HF : Hid (Fr (fun _ => False) w (w.alloc (.cells #[.int .i64 e, .int .i64 f] 23))) := F0
  clear T h F0
  go_enter Try.func15, Try.ntmps15
  go_wp2_with fail
  generalize hV : w.alloc (.cells #[.int .i64 e, .int .i64 f] 23) = V at *
  refine hr.mono ?_
  rintro r w1 ⟨rfl, f1⟩
  clear x0 x1 hr
  obtain ⟨x0, x1, _⟩ := (HT.out.fr f1 (fun f => f)).cells
  have F1 := HF.out.seq' f1
  have hz := F1.size
  clear hV
  go_wp2
  go_ret2
  exact ⟨w1.heap.size, rfl, hz, Two.new _ _ _ _, F1.seq' (Fr.box _ _)⟩
theorem vnew_no (e f : Int) (h : rgtB e f = false) (w : World) : Calls Try.prog 15 #[.agg #[.int .i64 e, .int .i64 f]] w fun r w' => r = .returned (.tuple #[.pointer none, .int .i64 1]) ∧ Fr (fun _ => False) w w' := by
  have F0 := Fr.box w (.cells #[.int .i64 e, .int .i64 f] 23)
  have T := Two.new w 23 (.int .i64 e) (.int .i64 f)
  have hr := isRight_any e f (w.alloc (.cells #[.int .i64 e, .int .i64 f] 23))
  rw [h] at hr
  obtain ⟨x0, x1, _⟩ := T.cells
  have HF : Hid (Fr (fun _ => False) w (w.alloc (.cells #[.int .i64 e, .int .i64 f] 23))) := F0
  clear T h F0
  go_enter Try.func15, Try.ntmps15
  go_wp2_with (go_at_call 28; refine hr.mono ?_; rintro r w1 ⟨rfl, f1⟩)
  go_ret2
  exact ⟨rfl, HF.out.seq' f1⟩
/-- A greater epoch that is seen. -/
def seeB (e ep : Int) : Bool := decide (e < ep) && decide (ep ≤ 1099511627776)
def VtTo (w : World) (b : Nat) (e f : Int) (w' : World) : Prop := Vt w' b e f ∧ Fr (fun i => i = b) w w'
set_option maxRecDepth 100000 in
set_option maxHeartbeats 4000000 in
theorem see_any (b : Nat) (e f ep : Int) (w : World) (h : Vt w b e f) : Calls Try.prog 19 #[.pointer (some ⟨b, 0, none⟩), .int .i64 ep] w fun r w' => r = .returned (.bool (seeB e ep)) ∧ VtTo w b (if seeB e ep then ep else e) (if seeB e ep then -1 else f) w' := by
  obtain ⟨x0, x1, y0, y1⟩ := h.cells
  have HV : Hid (Vt w b e f) := h
  clear h
  by_cases h1 : ep ≤ e
  · rw [show seeB e ep = false by simp [seeB]; omega]
    go_enter Try.func19, Try.ntmps19
    go_wp2
    go_ret
    exact ⟨rfl, HV.out, Fr.refl _ _⟩
  · have h1' : decide (ep ≤ e) = false := by simpa using h1
    by_cases h2 : 1099511627776 < ep
    · rw [show seeB e ep = false by simp [seeB]; omega]
      go_enter Try.func19, Try.ntmps19
      go_wp2
      go_ret
      exact ⟨rfl, HV.out, Fr.refl _ _⟩
    · have h2' : decide (1099511627776 < ep) = false := by simpa using h2
      rw [show seeB e ep = true by simp [seeB]; omega]
      obtain ⟨k1, k2⟩ := Two.fin HV.out (.int .i64 ep) (.int .i64 (-1))
      have HK : Hid (VtTo w b ep (-1) ((w.setCell ⟨b, 0, none⟩ (.int .i64 ep)).setCell ⟨b, 1, none⟩ (.int .i64 (-1)))) := ⟨k1, k2⟩
      clear k1 k2
      go_enter Try.func19, Try.ntmps19
      go_wp2
      go_ret
      exact ⟨rfl, HK.out⟩
theorem see_nil (ep : Int) (w : World) : Calls Try.prog 19 #[.pointer none, .int .i64 ep] w fun r w' => r = .returned (.bool false) ∧ w' = w := by
  go_enter Try.func19, Try.ntmps19
  go_wp2
  go_ret
  exact ⟨rfl, rfl⟩
def stE (e me : Int) : Int := if nodB me = true then (if e = 1099511627776 then 5 else 0) else 1
def stN (e me : Int) : Int := if stE e me = 0 then e + 1 else 0
set_option maxRecDepth 100000 in
set_option maxHeartbeats 4000000 in
theorem stand_any (b : Nat) (e f me : Int) (w : World) (h : Vt w b e f) (hr : rgtB e f = true) : Calls Try.prog 21 #[.pointer (some ⟨b, 0, none⟩), .int .i64 me] w fun r w' => r = .returned (.tuple #[.int .i64 (stN e me), .int .i64 (stE e me)]) ∧ VtTo w b (if stE e me = 0 then e + 1 else e) (if stE e me = 0 then me else f) w' := by
  obtain ⟨x0, x1, y0, y1⟩ := h.cells
  have HV : Hid (Vt w b e f) := h
  have hn := isNode_any me w
  have he : 0 ≤ e ∧ e ≤ 1099511627776 := by simp [rgtB, epB] at hr; exact hr.1
  obtain ⟨he0, he1⟩ := he
  clear h hr
  cases h1 : nodB me with
  | false =>
    have hE : stE e me = 1 := by unfold stE; rw [if_neg (by rw [h1]; simp)]
    rw [show stN e me = 0 by unfold stN; rw [hE]; rfl, hE]
    rw [h1] at hn
    clear hE h1
    go_enter Try.func21, Try.ntmps21
    go_wp2_with (go_at_call 39; refine hn.mono ?_; rintro r w1 ⟨rfl, rfl⟩)
    go_ret2
    exact ⟨rfl, HV.out, Fr.refl _ _⟩
  | true =>
    rw [h1] at hn
    by_cases h2 : e = 1099511627776
    · have hE : stE e me = 5 := by unfold stE; rw [if_pos h1, if_pos h2]
      rw [show stN e me = 0 by unfold stN; rw [hE]; rfl, hE]
      clear hE h1
      subst h2
      go_enter Try.func21, Try.ntmps21
      go_wp2_with (go_at_call 39; refine hn.mono ?_; rintro r w1 ⟨rfl, rfl⟩)
      go_ret2
      exact ⟨rfl, HV.out, Fr.refl _ _⟩
    · have hE : stE e me = 0 := by unfold stE; rw [if_pos h1, if_neg h2]
      rw [show stN e me = e + 1 by unfold stN; rw [hE]; rfl, hE]
      have h2' : (e == 1099511627776) = false := by simpa using h2
      obtain ⟨k1, k2⟩ := Two.fin HV.out (.int .i64 (e + 1)) (.int .i64 me)
      obtain ⟨z0, z1, _⟩ := k1.cells
      have HK : Hid (VtTo w b (e + 1) me ((w.setCell ⟨b, 0, none⟩ (.int .i64 (e + 1))).setCell ⟨b, 1, none⟩ (.int .i64 me))) := ⟨k1, k2⟩
      clear k1 k2 hE h1
      go_enter Try.func21, Try.ntmps21
      go_wp2_with (go_at_call 39; refine hn.mono ?_; rintro r w1 ⟨rfl, rfl⟩)
      go_ret2
      exact ⟨rfl, HK.out⟩
theorem stand_nil (me : Int) (w : World) : Calls Try.prog 21 #[.pointer none, .int .i64 me] w fun r w' => r = .returned (.tuple #[.int .i64 0, .int .i64 (if nodB me = true then 7 else 1)]) ∧ w' = w := by
  have hn := isNode_any me w
  cases h1 : nodB me with
  | false =>
    rw [h1] at hn
    clear h1
    go_enter Try.func21, Try.ntmps21
    go_wp2_with (go_at_call 39; refine hn.mono ?_; rintro r w1 ⟨rfl, rfl⟩)
    go_ret2
    exact ⟨rfl, rfl⟩
  | true =>
    rw [h1] at hn
    clear h1
    go_enter Try.func21, Try.ntmps21
    go_wp2_with (go_at_call 39; refine hn.mono ?_; rintro r w1 ⟨rfl, rfl⟩)
    go_ret2
    exact ⟨rfl, rfl⟩
theorem prom_any (b : Nat) (e f : Int) (w : World) (h : Vt w b e f) : Calls Try.prog 23 #[.pointer (some ⟨b, 0, none⟩)] w fun r w' => r = .returned (.agg #[.int .i64 e, .int .i64 f]) ∧ Fr (fun _ => False) w w' := by
  have T0 := Two.new w 23 (.int .i64 0) (.int .i64 0)
  have F0 := Fr.box w (.cells #[.int .i64 0, .int .i64 0] 23)
  obtain ⟨x0, x1, y0, y1⟩ := (h.fr F0 (fun f => f)).cells
  obtain ⟨u0, u1, v0, v1⟩ := T0.cells
  have HK : Hid (Fr (fun _ => False) w (w.alloc (.cells #[.int .i64 e, .int .i64 f] 23))) := Fr.box _ _
  clear T0 F0 h
  go_enter Try.func23, Try.ntmps23
  go_wp2
  refine bodyPost_ret (v := .agg #[.int .i64 e, .int .i64 f]) (by simp [results, Try.results23, go_sem]) rfl ?_
  exact ⟨rfl, HK.out⟩
theorem prom_nil (w : World) : Calls Try.prog 23 #[.pointer none] w fun r w' => r = .returned (.agg #[.int .i64 0, .int .i64 (-1)]) ∧ Fr (fun _ => False) w w' := by
  have T0 := Two.new w 23 (.int .i64 0) (.int .i64 0)
  obtain ⟨u0, u1, v0, v1⟩ := T0.cells
  have HK : Hid (Fr (fun _ => False) w (w.alloc (.cells #[.int .i64 0, .int .i64 (-1)] 23))) := Fr.box _ _
  clear T0
  go_enter Try.func23, Try.ntmps23
  go_wp2
  refine bodyPost_ret (v := .agg #[.int .i64 0, .int .i64 (-1)]) (by simp [results, Try.results23, go_sem]) rfl ?_
  exact ⟨rfl, HK.out⟩
end Go.Proofs.Ytbfkacahaocpfaa
