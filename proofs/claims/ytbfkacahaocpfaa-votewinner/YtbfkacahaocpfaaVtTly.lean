
/- Tallies in memory. -/
import Derived.Test.YtbfkacahaocpfaaVtAsk
import Derived.Deep.RegionWith
namespace Go.Proofs.Ytbfkacahaocpfaa
open Go.RowKit
open Go.Proofs.Ytbfkacahaocpfaa.Qu

/-- A struct of three cells. -/
def Thr (w : World) (b : Nat) (t : TypeId) (x y z : Value) : Prop := w.heap[b]? = some (.cells #[x, y, z] t (0, 0))
theorem Thr.cells {w : World} {b : Nat} {t : TypeId} {x y z : Value} (h : Thr w b t x y z) : w.cell? ⟨b, 0, none⟩ = some x ∧ w.cell? ⟨b, 1, none⟩ = some y ∧ w.cell? ⟨b, 2, none⟩ = some z ∧ w.frozen? ⟨b, 0, none⟩ = false ∧ w.frozen? ⟨b, 1, none⟩ = false ∧ w.frozen? ⟨b, 2, none⟩ = false := by
  unfold Thr at h
  refine ⟨?_, ?_, ?_, ?_, ?_, ?_⟩ <;> simp [World.cell?, World.frozen?, h]
theorem Thr.lt {w : World} {b : Nat} {t : TypeId} {x y z : Value} (h : Thr w b t x y z) : b < w.heap.size := (Array.getElem?_eq_some_iff.1 h).1
theorem Thr.fr {S : Nat → Prop} {w w' : World} {b : Nat} {t : TypeId} {x y z : Value} (h : Thr w b t x y z) (f : Fr S w w') (hn : ¬ S b) : Thr w' b t x y z := by
  unfold Thr; rw [f.block b h.lt hn]; exact h
theorem Thr.new (w : World) (t : TypeId) (x y z : Value) : Thr (w.alloc (.cells #[x, y, z] t)) w.heap.size t x y z := heap_alloc_new w _
theorem Thr.set2 {w : World} {b : Nat} {t : TypeId} {x y z : Value} (h : Thr w b t x y z) (u : Value) : Thr (w.setCell ⟨b, 2, none⟩ u) b t x y u := by
  have hlt := h.lt
  have h' : w.heap[b] = .cells #[x, y, z] t (0, 0) := by unfold Thr at h; simpa [Array.getElem?_eq_getElem hlt] using h
  show (w.heap.modify b _)[b]? = _
  rw [Array.getElem?_eq_getElem (by rw [Array.size_modify]; exact hlt), Array.getElem_modify_self, h']
  rfl
/-- A tally. -/
def Ta (w : World) (b : Nat) (n ep s : Int) : Prop := Thr w b 91 (.int .i64 n) (.int .i64 ep) (.int .i64 s)
theorem Ta.two {w : World} {b : Nat} {n ep s : Int} (h : Ta w b n ep s) : w.cell? ⟨b, 0, none⟩ = some (.int .i64 n) ∧ w.cell? ⟨b, 2, none⟩ = some (.int .i64 s) := ⟨(Thr.cells h).1, (Thr.cells h).2.2.1⟩
set_option maxRecDepth 100000 in
set_option maxHeartbeats 4000000 in
theorem count_yes (n ep me : Int) (h1 : withE n 0 me = 0) (h2 : epB ep = true) (w : World) : Calls Try.prog 24 #[.int .i64 n, .int .i64 ep, .int .i64 me] w fun r w' => ∃ b, r = .returned (.tuple #[.pointer (some ⟨b, 0, none⟩), .int .i64 0]) ∧ w.heap.size ≤ b ∧ Ta w' b n ep (withR n 0 me) ∧ Fr (fun _ => False) w w' := by
  have hw := with_any n 0 me w
  rw [h1] at hw
  have he : Hid (∀ W, Calls Try.prog 41 #[.int .i64 ep] W fun e w' => e = .returned (.bool true) ∧ w' = W) := fun W => by
    have := isEpoch_any ep W
    rw [h2] at this; exact this
  clear h1 h2
  go_enter Try.func24, Try.ntmps24
  go_wp2_with (first | (go_at_call 40; refine hw.mono ?_; rintro r w1 ⟨rfl, f1⟩) | (go_at_call 41; refine (he.out _).mono ?_; rintro r w2 ⟨rfl, rfl⟩))
  go_ret2
  exact ⟨_, rfl, f1.size, Thr.new _ _ _ _ _, f1.seq' (Fr.box _ _)⟩
set_option maxRecDepth 100000 in
set_option maxHeartbeats 4000000 in
theorem epoch_any (b : Nat) (n ep s : Int) (w : World) (h : Ta w b n ep s) : Calls Try.prog 25 #[.pointer (some ⟨b, 0, none⟩)] w fun r w' => r = .returned (.int .i64 ep) ∧ w' = w := by
  obtain ⟨x0, x1, x2, _⟩ := Thr.cells h
  clear h
  go_enter Try.func25, Try.ntmps25
  go_wp2
  go_ret
  exact ⟨rfl, rfl⟩
theorem epoch_nil (w : World) : Calls Try.prog 25 #[.pointer none] w fun r w' => r = .returned (.int .i64 0) ∧ w' = w := by
  go_enter Try.func25, Try.ntmps25
  go_wp2
  go_ret
  exact ⟨rfl, rfl⟩
theorem won_nil (w : World) : Calls Try.prog 27 #[.pointer none] w fun r w' => r = .returned (.bool false) ∧ w' = w := by
  go_enter Try.func27, Try.ntmps27
  go_wp2
  go_ret
  exact ⟨rfl, rfl⟩
theorem tvote_nil (frm ep : Int) (w : World) : Calls Try.prog 26 #[.pointer none, .int .i64 frm, .int .i64 ep] w fun r w' => r = .returned (.bool false) ∧ w' = w := by
  go_enter Try.func26, Try.ntmps26
  go_wp2
  go_ret
  exact ⟨rfl, rfl⟩
set_option maxRecDepth 100000 in
set_option maxHeartbeats 4000000 in
theorem won_any (b : Nat) (n ep s : Int) (w : World) (h : Ta w b n ep s) : Calls Try.prog 27 #[.pointer (some ⟨b, 0, none⟩)] w fun r w' => r = .returned (.bool (hasM n s)) ∧ Fr (fun _ => False) w w' := by
  have HT : Hid (Ta w b n ep s) := h
  have HH : Hid (∀ W, Calls Try.prog 42 #[.int .i64 n, .int .i64 s] W fun e w' => e = .returned (.tuple #[.bool (hasM n s), .int .i64 (lookE n [s])]) ∧ Fr (fun _ => False) W w') := has_any n s
  clear h
  go_enter Try.func27, Try.ntmps27
  go_wp2_with fail
  have G1 : Fr (fun _ => False) w w.drew := (Fr.refl _ w).drew
  have q1 : w.drew.cell? ⟨b, 0, none⟩ = some (.int .i64 n) ∧ w.drew.cell? ⟨b, 2, none⟩ = some (.int .i64 s) := Ta.two (Thr.fr HT.out G1 (fun f => f))
  have r1 := HH.out w.drew
  go_region_held3 (fun W => W.cell? ⟨b, 0, none⟩ = some (.int .i64 n) ∧ W.cell? ⟨b, 2, none⟩ = some (.int .i64 s))
    (first | with_reducible exact q1 | with_reducible exact q2 | fail)
    (first | (go_at_call 42; refine r1.mono ?_; rintro e w2 ⟨rfl, f2⟩; clear r1; have G2 := G1.seq' f2; have q2 := Ta.two (Thr.fr HT.out G2 (fun f => f))))
  go_wp2
  go_ret
  exact ⟨rfl, G2⟩

def tvB (n ep s frm e : Int) : Bool := decide (e = ep) && decide (withE n s frm = 0)
def tvS (n ep s frm e : Int) : Int := if tvB n ep s frm e = true then withR n s frm else s
set_option maxRecDepth 100000 in
set_option maxHeartbeats 4000000 in
theorem tvote_any (b : Nat) (n ep s frm e : Int) (w : World) (h : Ta w b n ep s) : Calls Try.prog 26 #[.pointer (some ⟨b, 0, none⟩), .int .i64 frm, .int .i64 e] w fun r w' => r = .returned (.bool (tvB n ep s frm e)) ∧ Ta w' b n ep (tvS n ep s frm e) ∧ Fr (fun i => i = b) w w' := by
  have HT : Hid (Ta w b n ep s) := h
  have HH : Hid (∀ W, Calls Try.prog 40 #[.int .i64 n, .int .i64 s, .int .i64 frm] W fun e w' => e = .returned (.tuple #[.int .i64 (withR n s frm), .int .i64 (withE n s frm)]) ∧ Fr (fun _ => False) W w') := with_any n s frm
  obtain ⟨x0, x1, x2, y0, y1, y2⟩ := Thr.cells h
  clear h
  by_cases h1 : e = ep
  · subst h1
    have HV : Hid (tvB n e s frm e = decide (withE n s frm = 0)) := by show _ = _; simp [tvB]
    by_cases hz : withE n s frm = 0
    · have hV : tvB n e s frm e = true := by rw [HV.out]; simpa using hz
      rw [show tvS n e s frm e = withR n s frm by unfold tvS; rw [if_pos hV], hV]
      rw [hz] at HH
      clear hV HV
      generalize withR n s frm = s' at *
      go_enter Try.func26, Try.ntmps26
      go_wp2_with fail
      have G1 : Fr (fun _ => False) w w.drew := (Fr.refl _ w).drew
      have q1 : w.drew.cell? ⟨b, 0, none⟩ = some (.int .i64 n) ∧ w.drew.cell? ⟨b, 2, none⟩ = some (.int .i64 s) := Ta.two (Thr.fr HT.out G1 (fun f => f))
      have r1 := HH.out w.drew
      go_region_held3 (fun W => W.cell? ⟨b, 0, none⟩ = some (.int .i64 n) ∧ W.cell? ⟨b, 2, none⟩ = some (.int .i64 s))
        (first | with_reducible exact q1 | with_reducible exact q2 | fail)
        (first | (go_at_call 40; refine r1.mono ?_; rintro e w2 ⟨rfl, f2⟩; clear r1; have G2 := G1.seq' f2; have q2 := Ta.two (Thr.fr HT.out G2 (fun f => f))))
      have T2 := Thr.fr HT.out G2 (fun f => f)
      obtain ⟨u0, u1, u2, v0, v1, v2⟩ := Thr.cells T2
      have HO : Hid (Ta (w2.setCell ⟨b, 2, none⟩ (.int .i64 s')) b n e s' ∧ Fr (fun i => i = b) w (w2.setCell ⟨b, 2, none⟩ (.int .i64 s'))) := ⟨T2.set2 _, (G2.mono (T := fun i => i = b) (fun i hi e => e.elim)).setCell (p := ⟨b, 2, none⟩) (fun _ => rfl) _⟩
      clear T2 x0 x1 x2 y0 y1 y2 q1 q2 G1 G2 f2
      go_wp2
      go_ret
      exact ⟨rfl, HO.out⟩
    · have hV : tvB n e s frm e = false := by rw [HV.out]; simpa using hz
      rw [show tvS n e s frm e = s by unfold tvS; rw [if_neg (by rw [hV]; simp)], hV]
      clear hV HV
      go_enter Try.func26, Try.ntmps26
      go_wp2_with fail
      have G1 : Fr (fun _ => False) w w.drew := (Fr.refl _ w).drew
      have q1 : w.drew.cell? ⟨b, 0, none⟩ = some (.int .i64 n) ∧ w.drew.cell? ⟨b, 2, none⟩ = some (.int .i64 s) := Ta.two (Thr.fr HT.out G1 (fun f => f))
      have r1 := HH.out w.drew
      go_region_held3 (fun W => W.cell? ⟨b, 0, none⟩ = some (.int .i64 n) ∧ W.cell? ⟨b, 2, none⟩ = some (.int .i64 s))
        (first | with_reducible exact q1 | with_reducible exact q2 | fail)
        (first | (go_at_call 40; refine r1.mono ?_; rintro e w2 ⟨rfl, f2⟩; clear r1; have G2 := G1.seq' f2; have q2 := Ta.two (Thr.fr HT.out G2 (fun f => f))))
      go_wp2
      go_ret
      exact ⟨rfl, Thr.fr HT.out G2 (fun f => f), G2.mono (fun i hi e => e.elim)⟩
  · have hV : tvB n ep s frm e = false := by simp [tvB, h1]
    rw [show tvS n ep s frm e = s by unfold tvS; rw [if_neg (by rw [hV]; simp)], hV]
    have h1' : (e == ep) = false := by simpa using h1
    clear hV
    go_enter Try.func26, Try.ntmps26
    go_wp2
    go_ret
    exact ⟨rfl, HT.out, Fr.refl _ _⟩
end Go.Proofs.Ytbfkacahaocpfaa
