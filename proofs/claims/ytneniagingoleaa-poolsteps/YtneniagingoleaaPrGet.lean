
/- What the document's own Get does. -/
import Derived.Test.YtneniagingoleaaPrOld
namespace Go.Proofs.Ytneniagingoleaa
open Go.RowKit

/-- The first page without pins. -/
def idI : List Fm → Nat
  | [] => 0
  | f :: l => if 0 < f.pins then idI l + 1 else 0
theorem idI_le (L : List Fm) : idI L ≤ L.length := by
  induction L with
  | nil => exact Nat.le_refl _
  | cons f l ih => unfold idI; split <;> simp <;> omega
theorem idI_drop {L : List Fm} {j : Nat} {f : Fm} (h : L[j]? = some f) : idI (L.drop j) = if 0 < f.pins then idI (L.drop (j + 1)) + 1 else 0 := by
  have hj := (List.getElem?_eq_some_iff.1 h).1
  rw [List.drop_eq_getElem_cons hj, (List.getElem?_eq_some_iff.1 h).2]
  rfl
/-- What Get does. -/
def RgO (L : List Fm) (fr fl x : Int) (hit wr : Bool) (out need er : Int) (L' : List Fm) (fl' : Int) : Prop :=
  (¬ (1 ≤ x ∧ x ≤ 4096) ∧ hit = false ∧ wr = false ∧ out = 0 ∧ need = 0 ∧ er = 1 ∧ L' = L ∧ fl' = fl) ∨
  ((1 ≤ x ∧ x ≤ 4096) ∧ ∃ f, L[fI L x]? = some f ∧ hit = true ∧ wr = false ∧ out = 0 ∧ need = 0 ∧ er = 0 ∧ L' = L.eraseIdx (fI L x) ++ [{ f with pins := up f.pins }] ∧ fl' = fl) ∨
  ((1 ≤ x ∧ x ≤ 4096) ∧ L[fI L x]? = none ∧ (L.length : Int) < fr ∧ hit = false ∧ wr = false ∧ out = 0 ∧ need = 0 ∧ er = 0 ∧ L' = L ++ [⟨x, 1, 0, 0, false⟩] ∧ fl' = fl) ∨
  ((1 ≤ x ∧ x ≤ 4096) ∧ L[fI L x]? = none ∧ ¬ (L.length : Int) < fr ∧ L[idI L]? = none ∧ hit = false ∧ wr = false ∧ out = 0 ∧ need = 0 ∧ er = 5 ∧ L' = L ∧ fl' = fl) ∨
  ((1 ≤ x ∧ x ≤ 4096) ∧ L[fI L x]? = none ∧ ¬ (L.length : Int) < fr ∧ ∃ f, L[idI L]? = some f ∧ hit = false ∧ wr = f.dirty ∧ out = f.page ∧ need = (if f.dirty = true then needV fl f.lsn else 0) ∧ er = 0 ∧ L' = L.eraseIdx (idI L) ++ [⟨x, 1, 0, 0, false⟩] ∧ fl' = if f.dirty = true then flF fl f.lsn else fl)
/-- The row is put anew. -/
theorem Rp.newL {w : World} {pb : Nat} {fr fl : Int} {rv rv' : Value} {L' : List Fm} (h : w.heap[pb]? = some (.cells #[.int .i64 fr, .int .i64 fl, rv] 57 (0, 0))) (hh : Has w 5 rv' L'.length (L'.flatMap fmC)) (ho : ∀ g, rv'.ownBlock = some g → g ≠ pb) (hf : L'.length ≤ 1000) :
    Rp (w.setCell ⟨pb, 2, none⟩ rv') pb fr fl rv' L' ∧ Fr (fun k => k = pb) w (w.setCell ⟨pb, 2, none⟩ rv') := by
  have fs : Fr (fun k => k = pb) w (w.setCell ⟨pb, 2, none⟩ rv') := (Fr.refl (fun k => k = pb) w).setCell (p := ⟨pb, 2, none⟩) (fun _ => rfl) _
  exact ⟨⟨rp_setCell (j := 2) h _, hh.fr fs ho, ho, hf⟩, fs⟩
/-- One page is put behind the others. -/
theorem app_fm {w : World} {v : Value} {L : List Fm} (f : Fm) (h : Has w 5 v L.length (L.flatMap fmC)) (hl : L.length ≤ 1000) :
    ∃ a' c' w', (Builtin.append_ #[55, 55] 55 #[v, .slice (some ⟨w.heap.size, 0, none⟩) 1 1]).run Try.prog (w.alloc (.cells #[.int .i64 f.page, .int .i64 f.pins, .int .i64 f.lsn, .int .i64 f.first, .bool f.dirty] 68)) = .ok (.slice a' (L.length + 1) c') w' ∧
      Has w' 5 (.slice a' (L.length + 1) c') (L ++ [f]).length ((L ++ [f]).flatMap fmC) ∧ Fr (fun k => v.ownBlock = some k) w w' ∧ (∀ g, (Value.slice a' (L.length + 1) c').ownBlock = some g → v.ownBlock = some g ∨ w.heap.size < g) := by
  obtain ⟨iR, hiR, hR0, hR1, hR2⟩ := infoOf infoFm
  have fb := Fr.box w (.cells #[.int .i64 f.page, .int .i64 f.pins, .int .i64 f.lsn, .int .i64 f.first, .bool f.dirty] 68)
  have hb := heap_alloc_new w (.cells #[.int .i64 f.page, .int .i64 f.pins, .int .i64 f.lsn, .int .i64 f.first, .bool f.dirty] 68)
  obtain ⟨v', w7, hrun, hh, hf, ho⟩ := run_append_has (P := Try.prog) (w.alloc (.cells #[.int .i64 f.page, .int .i64 f.pins, .int .i64 f.lsn, .int .i64 f.first, .bool f.dirty] 68)) 55 55 55 68 68 iR _ 5 40 Try.underlying55 Try.underlying55 hiR hR0 hR1 hR2 rfl (by omega) v L.length (L.flatMap fmC) (h.fr fb (fun _ _ f => f))
    (some ⟨w.heap.size, 0, none⟩) 1 1 (fmC f) rfl (.inr ⟨w.heap.size, 0, rfl, range_block hb (fun j v hv => by rw [Nat.zero_add]; simpa [fmC] using hv)⟩) (fmC_one f) (by unfold maxLen; omega) (by omega)
  obtain ⟨a', c', rfl, _, _⟩ := hh.slice
  refine ⟨a', c', w7, hrun, ?_, (fb.mono (fun _ _ f => f.elim)).trans hf (fun _ _ e => e.1), fun g e => ?_⟩
  · rw [List.length_append, List.flatMap_append]; simpa using hh
  · rcases ho with ho | ho
    · left; rw [← ho]; exact e
    · right; rw [ho] at e; simp at e; omega
theorem append_step {P : Program} {w w' : World} {ops : Array Oper} {rest : List Oper} {o : Oper} {ac : Act} {Q : Exit → Act → World → Prop} {v x v' : Value} (hgd : o.guard = none) (sl xo : Operand) (t : TypeId)
    (ho : o.op = .call { callee := .builtin .append, args := #[sl, xo], argTypes := #[t, t] }) (hse : ac.eval sl = v) (hxe : ac.eval xo = x) (hrun : (Builtin.append_ #[t, t] o.type #[v, x]).run P w = .ok v' w')
    (h : wpList P ops Q rest (ac.put o.dst v') w') : wpList P ops Q (o :: rest) ac w :=
  wpList_plain hgd fun _ hK => by
    unfold Oper.wp execOp
    simp only [ho, resolve, invoke, builtin, Sem.run_bind, Sem.run_pure, Result.andThen_ok, List.map_toArray, List.map_cons, List.map_nil, hse, hxe, hrun]
    exact hK _ _ h
theorem five_cells {w : World} {b : Nat} {t : TypeId} {c0 c1 c2 c3 c4 : Value} (h : w.heap[b]? = some (.cells #[c0, c1, c2, c3, c4] t (0, 0))) :
    (w.cell? ⟨b, 0, none⟩ = some c0 ∧ w.cell? ⟨b, 1, none⟩ = some c1 ∧ w.cell? ⟨b, 2, none⟩ = some c2 ∧ w.cell? ⟨b, 3, none⟩ = some c3 ∧ w.cell? ⟨b, 4, none⟩ = some c4) ∧ ∀ j, w.frozen? ⟨b, j, none⟩ = false := by
  refine ⟨⟨?_, ?_, ?_, ?_, ?_⟩, fun j => ?_⟩
  all_goals simp [World.cell?, World.frozen?, h]
theorem five_setCell {w : World} {b : Nat} {t : TypeId} {c0 c1 c2 c3 c4 : Value} {j : Nat} (h : w.heap[b]? = some (.cells #[c0, c1, c2, c3, c4] t (0, 0))) (x : Value) :
    (w.setCell ⟨b, j, none⟩ x).heap[b]? = some (.cells (#[c0, c1, c2, c3, c4].setIfInBounds j x) t (0, 0)) := by
  have hlt := lt_of_block h
  have h' : w.heap[b] = .cells #[c0, c1, c2, c3, c4] t (0, 0) := by simpa [Array.getElem?_eq_getElem hlt] using h
  show (w.heap.modify b _)[b]? = _
  rw [Array.getElem?_eq_getElem (by simpa using hlt), Array.getElem_modify_self, h']
  rfl
def GOut (L : List Fm) (pb : Nat) (fr fl x : Int) (rv : Value) (w : World) (e : Ending) (w' : World) : Prop :=
  ∃ (hit wr : Bool) (out need er : Int) (L' : List Fm) (fl' : Int) (rv' : Value), e = .returned (.tuple #[.agg #[.bool hit, .bool wr, .int .i64 out, .int .i64 need], .int .i64 er]) ∧ RgO L fr fl x hit wr out need er L' fl' ∧ (L'.length ≤ 1000 → Rp w' pb fr fl' rv' L') ∧ Fr (rpS pb rv) w w' ∧ ∀ g, rv'.ownBlock = some g → rv.ownBlock = some g ∨ w.heap.size ≤ g
/-- The answer is stored and told. -/
theorem got_fin {W : World} {A : Nat} {z0 z1 z2 z3 : Value} (hA : W.heap[A]? = some (.cells #[z0, z1, z2, z3] 58 (0, 0))) (v0 v1 v2 v3 : Value) :
    ∃ Wf, (((W.setCell ⟨A, 0, none⟩ v0).setCell ⟨A, 1, none⟩ v1).setCell ⟨A, 2, none⟩ v2).setCell ⟨A, 3, none⟩ v3 = Wf ∧ Wf.heap[A]? = some (.cells #[v0, v1, v2, v3] 58 (0, 0)) ∧ Fr (fun k => k = A) W Wf :=
  ⟨_, rfl, (fin4 hA v0 v1 v2 v3).1, (fin4 hA v0 v1 v2 v3).2⟩
section
variable (pb : Nat) (fr fl : Int) (rv : Value) (L : List Fm) (w : World)
set_option maxRecDepth 100000 in
set_option maxHeartbeats 1000000 in
theorem rget_out (x : Int) (hx : ¬ (1 ≤ x ∧ x ≤ 4096)) (h : Rp w pb fr fl rv L) : Calls Try.prog 24 #[.pointer (some ⟨pb, 0, none⟩), .int .i64 x] w fun e w' => GOut L pb fr fl x rv w e w' := by
  have hA := heap_alloc_new w (.cells #[.bool false, .bool false, .int .i64 0, .int .i64 0] 58)
  have f0 := Fr.box w (.cells #[.bool false, .bool false, .int .i64 0, .int .i64 0] 58)
  obtain ⟨⟨a0, a1, a2, a3⟩, za⟩ := four_cells hA
  have z0 := za 0; have z1 := za 1; have z2 := za 2; have z3 := za 3
  have HX : Hid (¬ (1 ≤ x ∧ x ≤ 4096)) := hx
  clear hA za
  by_cases h1 : x < 1
  · have d1 : decide (x < 1) = true := decide_eq_true h1
    clear hx h1
    go_enter Try.func24, Try.ntmps24
    go_wp2
    exact bodyPost_ret (v := .tuple #[.agg #[.bool false, .bool false, .int .i64 0, .int .i64 0], .int .i64 1]) (by simp [results, Try.results24, go_sem, a0, a1, a2, a3]) rfl ⟨false, false, 0, 0, 1, L, fl, rv, rfl, .inl ⟨HX.out, rfl, rfl, rfl, rfl, rfl, rfl, rfl⟩, fun _ => h.same f0, f0.mono (fun _ _ f => f.elim), fun g e => .inl e⟩
  · have d1 : decide (x < 1) = false := decide_eq_false h1
    have d2 : decide (4096 < x) = true := decide_eq_true (by omega)
    clear hx h1
    go_enter Try.func24, Try.ntmps24
    go_wp2
    exact bodyPost_ret (v := .tuple #[.agg #[.bool false, .bool false, .int .i64 0, .int .i64 0], .int .i64 1]) (by simp [results, Try.results24, go_sem, a0, a1, a2, a3]) rfl ⟨false, false, 0, 0, 1, L, fl, rv, rfl, .inl ⟨HX.out, rfl, rfl, rfl, rfl, rfl, rfl, rfl⟩, fun _ => h.same f0, f0.mono (fun _ _ f => f.elim), fun g e => .inl e⟩
set_option maxRecDepth 100000 in
set_option maxHeartbeats 2000000 in
theorem rget_hit (x : Int) (hx : 1 ≤ x ∧ x ≤ 4096) (f : Fm) (hf : L[fI L x]? = some f) (h : Rp w pb fr fl rv L) : Calls Try.prog 24 #[.pointer (some ⟨pb, 0, none⟩), .int .i64 x] w fun e w' => GOut L pb fr fl x rv w e w' := by
  obtain ⟨A, hAd⟩ : ∃ A, A = w.heap.size := ⟨_, rfl⟩
  have HAW : Hid (w.heap.size = A) := hAd.symm
  have hpA : pb < A := by rw [hAd]; exact lt_of_block h.box
  have hrA : ∀ g, rv.ownBlock = some g → g < A := fun g e => by rw [hAd]; exact h.has.lt e
  have hA0 := heap_alloc_new w (.cells #[.bool false, .bool false, .int .i64 0, .int .i64 0] 58)
  rw [← hAd] at hA0
  have f0 := Fr.box w (.cells #[.bool false, .bool false, .int .i64 0, .int .i64 0] 58)
  have hfd := rfind_rp pb fr fl rv L _ x (h.same f0)
  have hlt := (List.getElem?_eq_some_iff.1 hf).1
  have hfew := h.few
  have en : fnI L x = (fI L x : Int) := if_pos hlt
  rw [en] at hfd
  have d1 : decide (x < 1) = false := decide_eq_false (by omega)
  have d2 : decide (4096 < x) = false := decide_eq_false (by omega)
  have d3 : decide ((0 : Int) ≤ (fI L x : Int)) = true := decide_eq_true (by omega)
  have HO : Hid (∀ L', L' = L.eraseIdx (fI L x) ++ [{ f with pins := up f.pins }] → RgO L fr fl x true false 0 0 0 L' fl) := fun L' e => .inr (.inl ⟨hx, f, hf, rfl, rfl, rfl, rfl, rfl, e, rfl⟩)
  have hRP : Hid (∀ W, Fr (fun _ => False) w W → Rp W pb fr fl rv L) := fun W f => h.same f
  generalize fI L x = i at *
  have hii : (i : Int) < (L.length : Int) := by omega
  have HF : Hid (L[i]? = some f) := hf
  have HEL : Hid ((L.eraseIdx i).length + 1 = L.length) := by show _ = _; rw [List.length_eraseIdx, if_pos hlt]; omega
  clear hf h hAd hx en
  obtain ⟨pg, pi, ls, fi, di⟩ := f
  obtain ⟨q, hq⟩ : ∃ q, q = up pi := ⟨_, rfl⟩
  have e1 : IntKind.i64.wrap (pi + 1) = q := hq.symm
  have HQ : Hid (up pi = q) := hq.symm
  clear hq
  go_enter Try.func24, Try.ntmps24
  go_wp2_with fail
  refine hfd.mono ?_
  rintro e w1 ⟨rfl, f1⟩
  have hP1 := hRP.out _ (f0.seq' f1)
  obtain ⟨g, cap, rfl, hg, hlc, hcm, _, _⟩ := hP1.has.form (by omega)
  obtain ⟨⟨h0, h1, h2⟩, _⟩ := rp_cells hP1.box
  obtain ⟨q0, q1, q2, q3, q4⟩ := fm_range (hP1.elem rfl HF.out)
  dsimp only at q0 q1 q2 q3 q4
  have hB2 := heap_alloc_new w1 (.cells #[.int .i64 pg, .int .i64 q, .int .i64 ls, .int .i64 fi, .bool di] 68)
  have fB := Fr.box w1 (.cells #[.int .i64 pg, .int .i64 q, .int .i64 ls, .int .i64 fi, .bool di] 68)
  have hAB : A < w1.heap.size := by have := f1.size; simp at this; have := HAW.out; omega
  have F2 : Fr (fun _ => False) w (w1.alloc (.cells #[.int .i64 pg, .int .i64 q, .int .i64 ls, .int .i64 fi, .bool di] 68)) := (f0.seq' f1).seq' fB
  have hA2 := fB.keep (f1.keep hA0 (fun f => f)) (fun f => f)
  obtain ⟨W2, hW2⟩ : ∃ W, W = w1.alloc (.cells #[.int .i64 pg, .int .i64 q, .int .i64 ls, .int .i64 fi, .bool di] 68) := ⟨_, rfl⟩
  have HW2 : Hid (w1.alloc (.cells #[.int .i64 pg, .int .i64 q, .int .i64 ls, .int .i64 fi, .bool di] 68) = W2) := hW2.symm
  rw [← hW2] at hB2 F2 hA2
  clear hW2 fB hfd hA0 hP1
  go_upto_region 7 with fail
  rw [HW2.out, HAW.out]
  clear q0 q1 q2 q3 q4 h0 h1 h2
  have hP2 := hRP.out _ F2
  obtain ⟨⟨h0, h1, h2⟩, _⟩ := rp_cells hP2.box
  have hwo := rwithout_rp _ L i W2 hfew hP2.has
  generalize w1.heap.size = B at *
  go_wp2_with fail
  refine hwo.mono ?_
  rintro e w3 ⟨v3, rfl, hh3, ho3, f3⟩
  clear h0 h1 h2 hwo
  have hA3 := f3.keep hA2 (fun f => f)
  have hB3 := f3.keep hB2 (fun f => f)
  have hX3 := f3.keep hP2.box (fun f => f)
  have F3 := F2.seq' f3
  have hs2 := F2.size
  obtain ⟨a4, c4, w4, hrun, hh4, f4, ho4⟩ := app_fm ⟨pg, q, ls, fi, di⟩ hh3 (by have := HEL.out; omega)
  dsimp only at hrun
  have hn3 : ∀ k, v3.ownBlock = some k → W2.heap.size ≤ k := ho3
  have hBl : B < W2.heap.size := lt_of_block hB2
  have hA4 := f4.keep hA3 (fun e => by have := hn3 _ e; omega)
  have hX4 := f4.keep hX3 (fun e => by have := hn3 _ e; omega)
  have F4 : Fr (fun _ => False) w w4 := F3.trans f4 (fun k hk e => by have := hn3 _ e; omega)
  have ho5 : ∀ k, (Value.slice a4 ((L.eraseIdx i).length + 1) c4).ownBlock = some k → A < k := fun k e => by
    rcases ho4 k e with h | h
    · have := hn3 k h; omega
    · have := f3.size; omega
  obtain ⟨hP5, f5⟩ := Rp.newL hX4 hh4 (fun k e => by have := ho5 k e; omega) (by rw [List.length_append]; have := HEL.out; simp only [List.length_cons, List.length_nil]; omega)
  have hA5 := f5.keep hA4 (by omega)
  obtain ⟨⟨h0, h1, h2⟩, zh⟩ := rp_cells hX4
  have y2 := zh 2
  obtain ⟨⟨k0, k1, k2, k3, k4⟩, _⟩ := five_cells hB3
  obtain ⟨⟨a0, a1, a2, a3⟩, za⟩ := four_cells hA5
  have z0 := za 0; have z1 := za 1; have z2 := za 2; have z3 := za 3
  obtain ⟨Wf, hWf, hAf, ff⟩ := got_fin hA5 (.bool true) (.bool false) (.int .i64 0) (.int .i64 0)
  have HWf : Hid _ := hWf
  have Ff : Fr (rpS pb (.slice (some ⟨g, 0, none⟩) L.length cap)) w Wf := ((F4.mono (fun _ _ f => f.elim)).trans f5 (fun _ _ e => .inl e)).trans ff (fun k hk e => by have := HAW.out; omega)
  have hPf := hP5.fr ff (by omega) (fun k e => by have := ho5 k e; omega)
  clear za zh hP2 hWf
  go_upto_region 9 with (first | (at_builtin; refine append_step rfl (.tmp 41) (.tmp 43) 55 rfl rfl rfl hrun ?_))
  clear k0 k1 k2 k3 k4 h0 h1 h2 y2 hrun
  go_wp2
  rw [HWf.out]
  obtain ⟨⟨b0, b1, b2, b3⟩, _⟩ := four_cells hAf
  exact bodyPost_ret (v := .tuple #[.agg #[.bool true, .bool false, .int .i64 0, .int .i64 0], .int .i64 0]) (by simp [results, Try.results24, go_sem, b0, b1, b2, b3]) rfl ⟨true, false, 0, 0, 0, L.eraseIdx i ++ [⟨pg, q, ls, fi, di⟩], fl, _, rfl, HO.out _ (by rw [HQ.out]), fun _ => hPf, Ff, fun k e => .inr (by have := ho5 k e; have := HAW.out; omega)⟩
-- ROOM
set_option maxRecDepth 100000 in
set_option maxHeartbeats 2000000 in
theorem rget_room (x : Int) (hx : 1 ≤ x ∧ x ≤ 4096) (hf : L[fI L x]? = none) (hroom : (L.length : Int) < fr) (hfr : fr ≤ 64) (h : Rp w pb fr fl rv L) : Calls Try.prog 24 #[.pointer (some ⟨pb, 0, none⟩), .int .i64 x] w fun e w' => GOut L pb fr fl x rv w e w' := by
  obtain ⟨A, hAd⟩ : ∃ A, A = w.heap.size := ⟨_, rfl⟩
  have HAW : Hid (w.heap.size = A) := hAd.symm
  have hpA : pb < A := by rw [hAd]; exact lt_of_block h.box
  have hrA : ∀ g, rv.ownBlock = some g → g < A := fun g e => by rw [hAd]; exact h.has.lt e
  have hA0 := heap_alloc_new w (.cells #[.bool false, .bool false, .int .i64 0, .int .i64 0] 58)
  rw [← hAd] at hA0
  have f0 := Fr.box w (.cells #[.bool false, .bool false, .int .i64 0, .int .i64 0] 58)
  have hfd := rfind_rp pb fr fl rv L _ x (h.same f0)
  have hge : ¬ fI L x < L.length := by rw [List.getElem?_eq_none_iff] at hf; omega
  have hfew := h.few
  have en : fnI L x = -1 := if_neg hge
  rw [en] at hfd
  have d1 : decide (x < 1) = false := decide_eq_false (by omega)
  have d2 : decide (4096 < x) = false := decide_eq_false (by omega)
  have HX : Hid (1 ≤ x ∧ x ≤ 4096) := hx
  have HNF : Hid (L[fI L x]? = none) := hf
  have hRP : Hid (∀ W, Fr (fun _ => False) w W → Rp W pb fr fl rv L) := fun W f => h.same f
  have d4 : decide (fr ≤ (L.length : Int)) = false := decide_eq_false (by omega)
  have HO : Hid (RgO L fr fl x false false 0 0 0 (L ++ [⟨x, 1, 0, 0, false⟩]) fl) := .inr (.inr (.inl ⟨hx, hf, hroom, rfl, rfl, rfl, rfl, rfl, rfl, rfl⟩))
  have hl64 : L.length ≤ 64 := by omega
  clear hf h hAd hx en hge hroom hfr
  go_enter Try.func24, Try.ntmps24
  go_wp2_with fail
  refine hfd.mono ?_
  rintro e w1 ⟨rfl, f1⟩
  have hB2 := heap_alloc_new w1 (.cells #[.bool false, .bool false, .int .i64 0, .int .i64 0] 58)
  have fB := Fr.box w1 (.cells #[.bool false, .bool false, .int .i64 0, .int .i64 0] 58)
  have hAB : A < w1.heap.size := by have := f1.size; simp at this; have := HAW.out; omega
  have F2 : Fr (fun _ => False) w (w1.alloc (.cells #[.bool false, .bool false, .int .i64 0, .int .i64 0] 58)) := (f0.seq' f1).seq' fB
  have hA2 := fB.keep (f1.keep hA0 (fun f => f)) (fun f => f)
  obtain ⟨W2, hW2⟩ : ∃ W, W = w1.alloc (.cells #[.bool false, .bool false, .int .i64 0, .int .i64 0] 58) := ⟨_, rfl⟩
  have HW2 : Hid (w1.alloc (.cells #[.bool false, .bool false, .int .i64 0, .int .i64 0] 58) = W2) := hW2.symm
  rw [← hW2] at hB2 F2 hA2
  clear hW2 fB hfd hA0
  go_upto_region 11 with fail
  rw [HW2.out, HAW.out]
  have hP2 := hRP.out _ F2
  generalize w1.heap.size = B at *
  obtain ⟨a, c, rfl, hlc, hcm⟩ := hP2.has.slice
  obtain ⟨⟨h0, h1, h2⟩, _⟩ := rp_cells hP2.box
  go_wp2_with fail
  go_quiet (fail)
  go_upto_region 22 with fail
  have F3 := F2.drewN nq
  have hP3 := hRP.out _ F3
  have hA3 : (W2.drewN nq).heap[A]? = some (.cells #[.bool false, .bool false, .int .i64 0, .int .i64 0] 58 (0, 0)) := hA2
  have hB3 : (W2.drewN nq).heap[B]? = some (.cells #[.bool false, .bool false, .int .i64 0, .int .i64 0] 58 (0, 0)) := hB2
  generalize W2.drewN nq = W3 at *
  clear h0 h1 h2 hP2 hA2 hB2 F2
  obtain ⟨a4, c4, w4, hrun, hh4, f4, ho4⟩ := app_fm ⟨x, 1, 0, 0, false⟩ hP3.has (by have := hP3.few; omega)
  dsimp only at hrun
  have nAB : ∀ k, (Value.slice a L.length c).ownBlock = some k → k ≠ A ∧ k ≠ B ∧ k ≠ pb := fun k e => by have := hrA k e; have := hP3.own k e; omega
  have hA4 := f4.keep hA3 (fun e => (nAB _ e).1 rfl)
  have hB4 := f4.keep hB3 (fun e => (nAB _ e).2.1 rfl)
  have hX4 := f4.keep hP3.box (fun e => (nAB _ e).2.2 rfl)
  have hsW := F3.size
  have hBW : B < W3.heap.size := lt_of_block hB3
  have ho5 : ∀ k, (Value.slice a4 (L.length + 1) c4).ownBlock = some k → (Value.slice a L.length c).ownBlock = some k ∨ B < k := fun k e => by
    rcases ho4 k e with h | h
    · exact .inl h
    · right; omega
  have nn5 : ∀ k, (Value.slice a4 (L.length + 1) c4).ownBlock = some k → k ≠ A ∧ k ≠ pb := fun k e => by
    rcases ho5 k e with h | h
    · exact ⟨(nAB k h).1, (nAB k h).2.2⟩
    · omega
  obtain ⟨hP5, f5⟩ := Rp.newL hX4 hh4 (fun k e => (nn5 k e).2) (by rw [List.length_append]; simp only [List.length_cons, List.length_nil]; omega)
  have hA5 := f5.keep hA4 (by omega)
  have hB5 := f5.keep hB4 (by omega)
  obtain ⟨⟨k0, k1, k2⟩, _⟩ := rp_cells hP3.box
  obtain ⟨⟨h0, h1, h2⟩, zh⟩ := rp_cells hX4
  have y2 := zh 2
  obtain ⟨⟨a0, a1, a2, a3⟩, za⟩ := four_cells hA5
  have z0 := za 0; have z1 := za 1; have z2 := za 2; have z3 := za 3
  obtain ⟨⟨b0, b1, b2, b3⟩, _⟩ := four_cells hB5
  obtain ⟨Wf, hWf, hAf, ff⟩ := got_fin hA5 (.bool false) (.bool false) (.int .i64 0) (.int .i64 0)
  have HWf : Hid _ := hWf
  have hPf := hP5.fr ff (by omega) (fun k e => (nn5 k e).1)
  have Ff : Fr (rpS pb (.slice a L.length c)) w Wf := (((F3.mono (T := rpS pb (.slice a L.length c)) (fun _ _ f => f.elim)).trans f4 (S := rpS pb (.slice a L.length c)) (fun _ _ e => .inr e)).trans f5 (fun _ _ e => .inl e)).trans ff (fun k hk e => by have := HAW.out; omega)
  clear za zh hWf
  go_upto_region 23 with (at_builtin; refine append_step rfl (.tmp 131) (.tmp 134) 55 rfl rfl rfl hrun ?_)
  clear k0 k1 k2 h0 h1 h2 y2 hrun
  go_wp2
  rw [HWf.out]
  obtain ⟨⟨t0, t1, t2, t3⟩, _⟩ := four_cells hAf
  exact bodyPost_ret (v := .tuple #[.agg #[(.bool false), (.bool false), (.int .i64 0), (.int .i64 0)], .int .i64 0]) (by simp [results, Try.results24, go_sem, t0, t1, t2, t3]) rfl ⟨_, _, _, _, _, _, _, _, rfl, HO.out, fun _ => hPf, Ff, fun k e => by
    rcases ho5 k e with h | h
    · exact .inl h
    · right; have := HAW.out; omega⟩
set_option maxRecDepth 100000 in
set_option maxHeartbeats 4000000 in
theorem rget_full (x : Int) (hx : 1 ≤ x ∧ x ≤ 4096) (hf : L[fI L x]? = none) (hroom : ¬ (L.length : Int) < fr) (hl64 : L.length ≤ 64) (h : Rp w pb fr fl rv L) : Calls Try.prog 24 #[.pointer (some ⟨pb, 0, none⟩), .int .i64 x] w fun e w' => GOut L pb fr fl x rv w e w' := by
  obtain ⟨A, hAd⟩ : ∃ A, A = w.heap.size := ⟨_, rfl⟩
  have HAW : Hid (w.heap.size = A) := hAd.symm
  have hpA : pb < A := by rw [hAd]; exact lt_of_block h.box
  have hrA : ∀ g, rv.ownBlock = some g → g < A := fun g e => by rw [hAd]; exact h.has.lt e
  have hA0 := heap_alloc_new w (.cells #[.bool false, .bool false, .int .i64 0, .int .i64 0] 58)
  rw [← hAd] at hA0
  have f0 := Fr.box w (.cells #[.bool false, .bool false, .int .i64 0, .int .i64 0] 58)
  have hfd := rfind_rp pb fr fl rv L _ x (h.same f0)
  have hge : ¬ fI L x < L.length := by rw [List.getElem?_eq_none_iff] at hf; omega
  have hfew := h.few
  have en : fnI L x = -1 := if_neg hge
  rw [en] at hfd
  have d1 : decide (x < 1) = false := decide_eq_false (by omega)
  have d2 : decide (4096 < x) = false := decide_eq_false (by omega)
  have HX : Hid (1 ≤ x ∧ x ≤ 4096) := hx
  have HNF : Hid (L[fI L x]? = none) := hf
  have hRP : Hid (∀ W, Fr (fun _ => False) w W → Rp W pb fr fl rv L) := fun W f => h.same f
  have d4 : decide (fr ≤ (L.length : Int)) = true := decide_eq_true (by omega)
  have HRM : Hid (¬ (L.length : Int) < fr) := hroom
  clear hf h hAd hx en hge hroom
  go_enter Try.func24, Try.ntmps24
  go_wp2_with fail
  refine hfd.mono ?_
  rintro e w1 ⟨rfl, f1⟩
  have hB2 := heap_alloc_new w1 (.cells #[.bool false, .bool false, .int .i64 0, .int .i64 0] 58)
  have fB := Fr.box w1 (.cells #[.bool false, .bool false, .int .i64 0, .int .i64 0] 58)
  have hAB : A < w1.heap.size := by have := f1.size; simp at this; have := HAW.out; omega
  have F2 : Fr (fun _ => False) w (w1.alloc (.cells #[.bool false, .bool false, .int .i64 0, .int .i64 0] 58)) := (f0.seq' f1).seq' fB
  have hA2 := fB.keep (f1.keep hA0 (fun f => f)) (fun f => f)
  obtain ⟨W2, hW2⟩ : ∃ W, W = w1.alloc (.cells #[.bool false, .bool false, .int .i64 0, .int .i64 0] 58) := ⟨_, rfl⟩
  have HW2 : Hid (w1.alloc (.cells #[.bool false, .bool false, .int .i64 0, .int .i64 0] 58) = W2) := hW2.symm
  rw [← hW2] at hB2 F2 hA2
  clear hW2 fB hfd hA0
  go_upto_region 11 with fail
  rw [HW2.out, HAW.out]
  have hP2 := hRP.out _ F2
  generalize w1.heap.size = B at *
  obtain ⟨a, c, rfl, hlc, hcm⟩ := hP2.has.slice
  obtain ⟨⟨h0, h1, h2⟩, _⟩ := rp_cells hP2.box
  go_wp2_with fail
  go_quiet (fail)
  go_wp2
  have F3 := F2.drewN nq
  have hP3 := hRP.out _ F3
  have hA3 : (W2.drewN nq).heap[A]? = some (.cells #[.bool false, .bool false, .int .i64 0, .int .i64 0] 58 (0, 0)) := hA2
  have hB3 : (W2.drewN nq).heap[B]? = some (.cells #[.bool false, .bool false, .int .i64 0, .int .i64 0] 58 (0, 0)) := hB2
  generalize W2.drewN nq = W3 at *
  clear h0 h1 h2 hP2 hA2 hB2 F2
  obtain ⟨⟨h0, h1, h2⟩, _⟩ := rp_cells hP3.box
  go_loopw [10] (fun i wr => ∃ j : Nat, j ≤ L.length ∧ i = .int .i64 j ∧ Hid (idI (L.drop j) + j = idI L) ∧ W3 = wr) (fun i _ => L.length - (intOf i).toNat)
  case atStart => exact ⟨0, by omega, rfl, rfl, rfl⟩
  case round =>
    obtain ⟨j, hj, rfl, HE, rfl⟩ := hrel
    by_cases hlt : j < L.length
    · obtain ⟨g, cap, e1, hg, _, _, _, _⟩ := hP3.has.form (by omega)
      simp only [Value.slice.injEq, true_and] at e1
      obtain ⟨rfl, rfl⟩ := e1
      obtain ⟨f, hfj⟩ : ∃ f, L[j]? = some f := ⟨_, List.getElem?_eq_getElem hlt⟩
      obtain ⟨q0, q1, q2, q3, q4⟩ := fm_range (hP3.elem rfl hfj)
      have HD : Hid (idI (L.drop j) = if 0 < f.pins then idI (L.drop (j + 1)) + 1 else 0) := idI_drop hfj
      have HF : Hid (L[j]? = some f) := hfj
      have hji : (j : Int) < (L.length : Int) := by omega
      clear hfj
      obtain ⟨pg, pi, ls, fi, di⟩ := f
      dsimp only at q0 q1 q2 q3 q4 HD
      by_cases hp : 0 < pi
      · have hd : decide (0 < pi) = true := decide_eq_true hp
        have HN : Hid (idI (L.drop (j + 1)) + (j + 1) = idI L) := by
          show _ = _
          have e := HE.out
          rw [HD.out, if_pos hp] at e
          omega
        clear hp
        go_wp2
        go_roundw
        case rel => exact ⟨j + 1, by omega, by go_num, HN, trivial⟩
        case measure => simp [intOf]; omega
      · have hd : decide (0 < pi) = false := decide_eq_false hp
        have HI : Hid (idI L = j) := by
          show _ = _
          have e := HE.out
          rw [HD.out, if_neg hp] at e
          omega
        have hne : ((j : Int) == (L.length : Int)) = false := by rw [beq_eq_false_iff_ne]; omega
        clear hp
        have hBB := four_setCell (j := 1) (four_setCell (j := 2) hB3 (.int .i64 pg)) (.bool di)
        have hB4 : ((W3.setCell ⟨B, 2, none⟩ (.int .i64 pg)).setCell ⟨B, 1, none⟩ (.bool di)).heap[B]? = some (.cells #[.bool false, .bool di, .int .i64 pg, .int .i64 0] 58 (0, 0)) := hBB
        have f34 : Fr (fun k => k = B) W3 ((W3.setCell ⟨B, 2, none⟩ (.int .i64 pg)).setCell ⟨B, 1, none⟩ (.bool di)) := ((Fr.refl (fun k => k = B) W3).setCell (p := ⟨B, 2, none⟩) (fun _ => rfl) _).setCell (p := ⟨B, 1, none⟩) (fun _ => rfl) _
        have hgA := hrA g rfl
        have hP4 := hP3.fr f34 (by omega) (fun k e => by have := hrA k e; omega)
        have hA4 := f34.keep hA3 (by omega)
        have F4 : Fr (fun _ => False) w ((W3.setCell ⟨B, 2, none⟩ (.int .i64 pg)).setCell ⟨B, 1, none⟩ (.bool di)) := F3.trans f34 (fun k hk e => by have := HAW.out; omega)
        obtain ⟨⟨m0, m1, m2, m3⟩, zm⟩ := four_cells hB3
        have y1 := zm 1; have y2 := zm 2
        have nBg : ¬ g = B := by omega
        have nBg2 : ¬ B = g := by omega
        have nBp : ¬ pb = B := by omega
        have nBp2 : ¬ B = pb := by omega
        obtain ⟨W4, hW4⟩ : ∃ W, W = (W3.setCell ⟨B, 2, none⟩ (.int .i64 pg)).setCell ⟨B, 1, none⟩ (.bool di) := ⟨_, rfl⟩
        have HW4 : Hid ((W3.setCell ⟨B, 2, none⟩ (.int .i64 pg)).setCell ⟨B, 1, none⟩ (.bool di) = W4) := hW4.symm
        rw [← hW4] at hB4 hP4 hA4 F4
        clear hW4 hBB f34 zm
        go_upto_region 19 with fail
        rw [HW4.out]
        clear q0 q1 q2 q3 q4 h0 h1 h2 m0 m1 m2 m3 y1 y2 hP3 hA3 hB3 F3
        obtain ⟨⟨h0, h1, h2⟩, _⟩ := rp_cells hP4.box
        obtain ⟨⟨m0, m1, m2, m3⟩, zm⟩ := four_cells hB4
        have y3 := zm 3
        obtain ⟨q0, q1, q2, q3, q4⟩ := fm_range (hP4.elem rfl HF.out)
        dsimp only at q0 q1 q2 q3 q4
        have HEL : Hid ((L.eraseIdx j).length + 1 = L.length) := by show _ = _; rw [List.length_eraseIdx, if_pos hlt]; omega
        clear zm
        cases di
        · have HO : Hid (RgO L fr fl x false false pg 0 0 (L.eraseIdx j ++ [⟨x, 1, 0, 0, false⟩]) fl) := .inr (.inr (.inr (.inr ⟨HX.out, HNF.out, by have := HRM.out; omega, _, by rw [HI.out]; exact HF.out, rfl, rfl, rfl, rfl, rfl, by rw [HI.out], rfl⟩)))
          have hwo := rwithout_rp _ L j W4 hfew hP4.has
          go_wp2_with fail
          refine hwo.mono ?_
          rintro e w5 ⟨v5, rfl, hh5, ho5w, f5w⟩
          obtain ⟨a5, c5, rfl, _, _⟩ := hh5.slice
          have hBl : B < W4.heap.size := lt_of_block hB4
          have hX5 := f5w.keep hP4.box (fun f => f)
          obtain ⟨hP6, f6⟩ := Rp.newL hX5 hh5 (fun k e => by have := ho5w k e; omega) (by have := HEL.out; omega)
          have hA6 := f6.keep (f5w.keep hA4 (fun f => f)) (by omega)
          have hB6 := f6.keep (f5w.keep hB4 (fun f => f)) (by omega)
          have F6 : Fr (rpS pb (.slice (some ⟨g, 0, none⟩) L.length c)) w (w5.setCell ⟨pb, 2, none⟩ (.slice a5 (L.eraseIdx j).length c5)) := ((F4.seq' f5w).mono (fun _ _ f => f.elim)).trans f6 (fun _ _ e => .inl e)
          have hw5 : ∀ k, (Value.slice a5 (L.eraseIdx j).length c5).ownBlock = some k → B < k := fun k e => by have := ho5w k e; omega
          clear h0 h1 h2 m0 m1 m2 m3 q0 q1 q2 q3 q4 y3 hwo
          obtain ⟨⟨h0, h1, h2⟩, zh⟩ := rp_cells hX5
          have y2 := zh 2
          obtain ⟨W6, hW6⟩ : ∃ W, W = w5.setCell ⟨pb, 2, none⟩ (.slice a5 (L.eraseIdx j).length c5) := ⟨_, rfl⟩
          have HW6 : Hid (w5.setCell ⟨pb, 2, none⟩ (.slice a5 (L.eraseIdx j).length c5) = W6) := hW6.symm
          rw [← hW6] at hP6 hA6 hB6 F6
          clear hW6 zh f6
          go_upto_region 22 with fail
          rw [HW6.out]
          clear h0 h1 h2 y2
          obtain ⟨a4, c4, w4, hrun, hh4, f4, ho4⟩ := app_fm ⟨x, 1, 0, 0, false⟩ hP6.has (by have := hP6.few; omega)
          dsimp only at hrun
          have nAB : ∀ k, (Value.slice a5 (L.eraseIdx j).length c5).ownBlock = some k → k ≠ A ∧ k ≠ B ∧ k ≠ pb := fun k e => by have := hw5 k e; omega
          have hA4 := f4.keep hA6 (fun e => (nAB _ e).1 rfl)
          have hB4 := f4.keep hB6 (fun e => (nAB _ e).2.1 rfl)
          have hX4 := f4.keep hP6.box (fun e => (nAB _ e).2.2 rfl)
          have hsW := F6.size
          have hBW : B < W6.heap.size := lt_of_block hB6
          have ho5 : ∀ k, (Value.slice a4 ((L.eraseIdx j).length + 1) c4).ownBlock = some k → (Value.slice a5 (L.eraseIdx j).length c5).ownBlock = some k ∨ B < k := fun k e => by
            rcases ho4 k e with h | h
            · exact .inl h
            · right; omega
          have nn5 : ∀ k, (Value.slice a4 ((L.eraseIdx j).length + 1) c4).ownBlock = some k → k ≠ A ∧ k ≠ pb := fun k e => by
            rcases ho5 k e with h | h
            · exact ⟨(nAB k h).1, (nAB k h).2.2⟩
            · omega
          obtain ⟨hP5, f5⟩ := Rp.newL hX4 hh4 (fun k e => (nn5 k e).2) (by rw [List.length_append]; have := HEL.out; simp only [List.length_cons, List.length_nil]; omega)
          have hA5 := f5.keep hA4 (by omega)
          have hB5 := f5.keep hB4 (by omega)
          obtain ⟨⟨k0, k1, k2⟩, _⟩ := rp_cells hP6.box
          obtain ⟨⟨h0, h1, h2⟩, zh⟩ := rp_cells hX4
          have y2 := zh 2
          obtain ⟨⟨a0, a1, a2, a3⟩, za⟩ := four_cells hA5
          have z0 := za 0; have z1 := za 1; have z2 := za 2; have z3 := za 3
          obtain ⟨⟨b0, b1, b2, b3⟩, _⟩ := four_cells hB5
          obtain ⟨Wf, hWf, hAf, ff⟩ := got_fin hA5 (.bool false) (.bool false) (.int .i64 pg) (.int .i64 0)
          have HWf : Hid _ := hWf
          have hPf := hP5.fr ff (by omega) (fun k e => (nn5 k e).1)
          have Ff : Fr (rpS pb (.slice (some ⟨g, 0, none⟩) L.length c)) w Wf := ((F6.trans f4 (S := rpS pb (.slice (some ⟨g, 0, none⟩) L.length c)) (fun k hk e => by have := hw5 k e; have := HAW.out; omega)).trans f5 (fun _ _ e => .inl e)).trans ff (fun k hk e => by have := HAW.out; omega)
          clear za zh hWf
          go_upto_region 23 with (at_builtin; refine append_step rfl (.tmp 131) (.tmp 134) 55 rfl rfl rfl hrun ?_)
          clear k0 k1 k2 h0 h1 h2 y2 hrun
          go_wp2
          rw [HWf.out]
          obtain ⟨⟨t0, t1, t2, t3⟩, _⟩ := four_cells hAf
          exact bodyPost_ret (v := .tuple #[.agg #[(.bool false), (.bool false), (.int .i64 pg), (.int .i64 0)], .int .i64 0]) (by simp [results, Try.results24, go_sem, t0, t1, t2, t3]) rfl ⟨_, _, _, _, _, _, _, _, rfl, HO.out, fun _ => hPf, Ff, fun k e => by
            have := HAW.out
            rcases ho5 k e with h | h
            · have := hw5 k h; right; omega
            · right; omega⟩
        · have HO : Hid (RgO L fr fl x false true pg (needV fl ls) 0 (L.eraseIdx j ++ [⟨x, 1, 0, 0, false⟩]) (flF fl ls)) := .inr (.inr (.inr (.inr ⟨HX.out, HNF.out, by have := HRM.out; omega, _, by rw [HI.out]; exact HF.out, rfl, rfl, rfl, rfl, rfl, by rw [HI.out], rfl⟩)))
          go_wp2_with fail
          refine (rneed_rp pb fr fl _ L W4 ls hP4).mono ?_
          rintro e w5 ⟨rfl, hP5, f5⟩
          have hB5 := f5.keep hB4 (by omega)
          have hA5 := f5.keep hA4 (by omega)
          have hB5' := four_setCell (j := 3) hB5 (.int .i64 (needV fl ls))
          have fN : Fr (fun k => k = B) w5 (w5.setCell ⟨B, 3, none⟩ (.int .i64 (needV fl ls))) := (Fr.refl (fun k => k = B) w5).setCell (p := ⟨B, 3, none⟩) (fun _ => rfl) _
          have hP6' := hP5.fr fN (by omega) (fun k e => by have := hrA k e; omega)
          have hA6' := fN.keep hA5 (by omega)
          have F6' : Fr (rpS pb (.slice (some ⟨g, 0, none⟩) L.length c)) w (w5.setCell ⟨B, 3, none⟩ (.int .i64 (needV fl ls))) := ((F4.mono (fun _ _ f => f.elim)).trans f5 (fun _ _ e => .inl e)).trans fN (fun k hk e => by have := HAW.out; omega)
          clear h0 h1 h2 m0 m1 m2 m3 q0 q1 q2 q3 q4 y3
          obtain ⟨⟨m0, m1, m2, m3⟩, zm⟩ := four_cells hB5
          have y3 := zm 3
          generalize needV fl ls = nv at *
          generalize flF fl ls = nf at *
          obtain ⟨W7, hW7⟩ : ∃ W, W = w5.setCell ⟨B, 3, none⟩ (.int .i64 nv) := ⟨_, rfl⟩
          have HW7 : Hid (w5.setCell ⟨B, 3, none⟩ (.int .i64 nv) = W7) := hW7.symm
          rw [← hW7] at hP6' hA6' F6' hB5'
          have hB7 : W7.heap[B]? = some (.cells #[.bool false, .bool true, .int .i64 pg, .int .i64 nv] 58 (0, 0)) := hB5'
          clear hW7 zm fN hB5'
          go_upto_region 21 with fail
          rw [HW7.out]
          clear m0 m1 m2 m3 y3
          obtain ⟨⟨h0, h1, h2⟩, _⟩ := rp_cells hP6'.box
          have hwo := rwithout_rp _ L j W7 hfew hP6'.has
          go_wp2_with fail
          refine hwo.mono ?_
          rintro e w8 ⟨v5, rfl, hh5, ho5w, f5w⟩
          obtain ⟨a5, c5, rfl, _, _⟩ := hh5.slice
          have hBl : B < W7.heap.size := lt_of_block hB7
          have hX5 := f5w.keep hP6'.box (fun f => f)
          obtain ⟨hP6, f6⟩ := Rp.newL hX5 hh5 (fun k e => by have := ho5w k e; omega) (by have := HEL.out; omega)
          have hA6 := f6.keep (f5w.keep hA6' (fun f => f)) (by omega)
          have hB6 := f6.keep (f5w.keep hB7 (fun f => f)) (by omega)
          have F6 : Fr (rpS pb (.slice (some ⟨g, 0, none⟩) L.length c)) w (w8.setCell ⟨pb, 2, none⟩ (.slice a5 (L.eraseIdx j).length c5)) := (F6'.trans f5w (fun _ _ f => f.elim)).trans f6 (fun _ _ e => .inl e)
          have hw5 : ∀ k, (Value.slice a5 (L.eraseIdx j).length c5).ownBlock = some k → B < k := fun k e => by have := ho5w k e; omega
          clear h0 h1 h2 hwo
          obtain ⟨⟨h0, h1, h2⟩, zh⟩ := rp_cells hX5
          have y2 := zh 2
          obtain ⟨W6, hW6⟩ : ∃ W, W = w8.setCell ⟨pb, 2, none⟩ (.slice a5 (L.eraseIdx j).length c5) := ⟨_, rfl⟩
          have HW6 : Hid (w8.setCell ⟨pb, 2, none⟩ (.slice a5 (L.eraseIdx j).length c5) = W6) := hW6.symm
          rw [← hW6] at hP6 hA6 hB6 F6
          clear hW6 zh f6
          go_upto_region 22 with fail
          rw [HW6.out]
          clear h0 h1 h2 y2
          obtain ⟨a4, c4, w4, hrun, hh4, f4, ho4⟩ := app_fm ⟨x, 1, 0, 0, false⟩ hP6.has (by have := hP6.few; omega)
          dsimp only at hrun
          have nAB : ∀ k, (Value.slice a5 (L.eraseIdx j).length c5).ownBlock = some k → k ≠ A ∧ k ≠ B ∧ k ≠ pb := fun k e => by have := hw5 k e; omega
          have hA4 := f4.keep hA6 (fun e => (nAB _ e).1 rfl)
          have hB4 := f4.keep hB6 (fun e => (nAB _ e).2.1 rfl)
          have hX4 := f4.keep hP6.box (fun e => (nAB _ e).2.2 rfl)
          have hsW := F6.size
          have hBW : B < W6.heap.size := lt_of_block hB6
          have ho5 : ∀ k, (Value.slice a4 ((L.eraseIdx j).length + 1) c4).ownBlock = some k → (Value.slice a5 (L.eraseIdx j).length c5).ownBlock = some k ∨ B < k := fun k e => by
            rcases ho4 k e with h | h
            · exact .inl h
            · right; omega
          have nn5 : ∀ k, (Value.slice a4 ((L.eraseIdx j).length + 1) c4).ownBlock = some k → k ≠ A ∧ k ≠ pb := fun k e => by
            rcases ho5 k e with h | h
            · exact ⟨(nAB k h).1, (nAB k h).2.2⟩
            · omega
          obtain ⟨hP5, f5⟩ := Rp.newL hX4 hh4 (fun k e => (nn5 k e).2) (by rw [List.length_append]; have := HEL.out; simp only [List.length_cons, List.length_nil]; omega)
          have hA5 := f5.keep hA4 (by omega)
          have hB5 := f5.keep hB4 (by omega)
          obtain ⟨⟨k0, k1, k2⟩, _⟩ := rp_cells hP6.box
          obtain ⟨⟨h0, h1, h2⟩, zh⟩ := rp_cells hX4
          have y2 := zh 2
          obtain ⟨⟨a0, a1, a2, a3⟩, za⟩ := four_cells hA5
          have z0 := za 0; have z1 := za 1; have z2 := za 2; have z3 := za 3
          obtain ⟨⟨b0, b1, b2, b3⟩, _⟩ := four_cells hB5
          obtain ⟨Wf, hWf, hAf, ff⟩ := got_fin hA5 (.bool false) (.bool true) (.int .i64 pg) (.int .i64 nv)
          have HWf : Hid _ := hWf
          have hPf := hP5.fr ff (by omega) (fun k e => (nn5 k e).1)
          have Ff : Fr (rpS pb (.slice (some ⟨g, 0, none⟩) L.length c)) w Wf := ((F6.trans f4 (S := rpS pb (.slice (some ⟨g, 0, none⟩) L.length c)) (fun k hk e => by have := hw5 k e; have := HAW.out; omega)).trans f5 (fun _ _ e => .inl e)).trans ff (fun k hk e => by have := HAW.out; omega)
          clear za zh hWf
          go_upto_region 23 with (at_builtin; refine append_step rfl (.tmp 131) (.tmp 134) 55 rfl rfl rfl hrun ?_)
          clear k0 k1 k2 h0 h1 h2 y2 hrun
          go_wp2
          rw [HWf.out]
          obtain ⟨⟨t0, t1, t2, t3⟩, _⟩ := four_cells hAf
          exact bodyPost_ret (v := .tuple #[.agg #[(.bool false), (.bool true), (.int .i64 pg), (.int .i64 nv)], .int .i64 0]) (by simp [results, Try.results24, go_sem, t0, t1, t2, t3]) rfl ⟨_, _, _, _, _, _, _, _, rfl, HO.out, fun _ => hPf, Ff, fun k e => by
            have := HAW.out
            rcases ho5 k e with h | h
            · have := hw5 k h; right; omega
            · right; omega⟩
    · obtain rfl : j = L.length := by omega
      have HI : Hid (idI L = L.length) := by
        show _ = _
        have e := HE.out
        rw [List.drop_length] at e
        rw [← e]; simp [idI]
      have hee : ((L.length : Int) == (L.length : Int)) = true := by simp
      have HO : Hid (RgO L fr fl x false false 0 0 5 L fl) := .inr (.inr (.inr (.inl ⟨HX.out, HNF.out, by have := HRM.out; omega, by rw [HI.out]; exact List.getElem?_eq_none (Nat.le_refl _), rfl, rfl, rfl, rfl, rfl, rfl, rfl⟩)))
      obtain ⟨⟨a0, a1, a2, a3⟩, za⟩ := four_cells hA3
      have z0 := za 0; have z1 := za 1; have z2 := za 2; have z3 := za 3
      obtain ⟨Wf, hWf, hAf, ff⟩ := got_fin hA3 (.bool false) (.bool false) (.int .i64 0) (.int .i64 0)
      have HWf : Hid _ := hWf
      have Ff : Fr (fun _ => False) w Wf := F3.trans ff (fun k hk e => by have := HAW.out; omega)
      clear za hWf
      go_wp2
      rw [HWf.out]
      obtain ⟨⟨t0, t1, t2, t3⟩, _⟩ := four_cells hAf
      exact bodyPost_ret (v := .tuple #[.agg #[.bool false, .bool false, .int .i64 0, .int .i64 0], .int .i64 5]) (by simp [results, Try.results24, go_sem, t0, t1, t2, t3]) rfl ⟨_, _, _, _, _, _, _, _, rfl, HO.out, fun _ => hRP.out _ Ff, Ff.mono (fun _ _ f => f.elim), fun k e => .inl e⟩
end
end Go.Proofs.Ytneniagingoleaa
