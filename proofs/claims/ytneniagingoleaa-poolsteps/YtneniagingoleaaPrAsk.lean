
/- Both pools side by side, and what a step does to them. -/
import Derived.Test.YtneniagingoleaaPrTie2
namespace Go.Proofs.Ytneniagingoleaa
open Go.RowKit
set_option linter.unusedVariables false

/-- Where both lie. -/
structure Sp (B pb mb rb : Nat) (rv : Value) : Prop where
  p : B ≤ pb
  m : B ≤ mb
  r : B ≤ rb
  n1 : rb ≠ pb
  n2 : rb ≠ mb
  v : ∀ g, rv.ownBlock = some g → B ≤ g ∧ g ≠ pb ∧ g ≠ mb
/-- Both pools, which say the same. -/
structure Bo (w : World) (B pb mb rb : Nat) (rv : Value) (fr us fl : Int) (M : Pmap) (n : Nat) (Z : List (Fm × Int)) (k : Nat) : Prop where
  pl : Pl w pb fr mb n us fl M
  rp : Rp w rb fr fl rv (fms Z)
  tie : Tie M n us Z k
  sp : Sp B pb mb rb rv
  fit : 1 ≤ fr ∧ fr ≤ 64 ∧ (n : Int) ≤ fr
section
variable {w w' : World} {B pb mb rb : Nat} {rv rv' : Value} {fr us fl : Int} {M : Pmap} {n : Nat} {Z : List (Fm × Int)} {k : Nat}
theorem Bo.same (h : Bo w B pb mb rb rv fr us fl M n Z k) (f : Fr (fun _ => False) w w') : Bo w' B pb mb rb rv fr us fl M n Z k := ⟨h.pl.same f, h.rp.same f, h.tie, h.sp, h.fit⟩
theorem Bo.goP (h : Bo w B pb mb rb rv fr us fl M n Z k) (f : Fr (plS pb mb) w w') : Rp w' rb fr fl rv (fms Z) :=
  h.rp.fr f (fun e => e.elim h.sp.n1 h.sp.n2) (fun g e e2 => e2.elim (h.sp.v g e).2.1 (h.sp.v g e).2.2)
theorem plR (h : Pl w pb fr mb n us fl M) (s : Sp B pb mb rb rv) (f : Fr (rpS rb rv) w w') : Pl w' pb fr mb n us fl M :=
  h.fr f (fun e => e.elim (fun e => s.n1 e.symm) (fun e => (s.v _ e).2.1 rfl)) (fun e => e.elim (fun e => s.n2 e.symm) (fun e => (s.v _ e).2.2 rfl))
theorem Sp.new (s : Sp B pb mb rb rv) (h1 : pb < w.heap.size) (h2 : mb < w.heap.size) (hB : B ≤ w.heap.size) (ho : ∀ g, rv'.ownBlock = some g → rv.ownBlock = some g ∨ w.heap.size ≤ g) : Sp B pb mb rb rv' :=
  ⟨s.p, s.m, s.r, s.n1, s.n2, fun g e => by
    rcases ho g e with h | h
    · exact s.v g h
    · omega⟩
theorem frP (_ : Sp B pb mb rb rv) (f : Fr (plS pb mb) w w') : Fr (fun j => plS pb mb j ∨ rpS rb rv j) w w' := f.mono (fun _ _ e => .inl e)
theorem frR (_ : Sp B pb mb rb rv) (f : Fr (rpS rb rv) w w') : Fr (fun j => plS pb mb j ∨ rpS rb rv j) w w' := f.mono (fun _ _ e => .inr e)
end
/-- What a step leaves. -/
def AskO (B pb mb rb : Nat) (rv0 : Value) (fr : Int) (k : Nat) (w : World) (e : Ending) (w' : World) : Prop :=
  e = .returned (.bool true) ∧ ∃ (rv : Value) (us fl : Int) (M : Pmap) (n : Nat) (Z : List (Fm × Int)), Bo w' B pb mb rb rv fr us fl M n Z (k + 1) ∧ Fr (fun j => plS pb mb j ∨ rpS rb rv0 j) w w'
theorem rget_rp (pb : Nat) (fr fl : Int) (rv : Value) (L : List Fm) (w : World) (x : Int) (hfr : fr ≤ 64) (hl : L.length ≤ 64) (h : Rp w pb fr fl rv L) : Calls Try.prog 24 #[.pointer (some ⟨pb, 0, none⟩), .int .i64 x] w fun e w' => GOut L pb fr fl x rv w e w' := by
  by_cases hx : 1 ≤ x ∧ x ≤ 4096
  · cases hf : L[fI L x]? with
    | some f => exact rget_hit pb fr fl rv L w x hx f hf h
    | none =>
      by_cases hr : (L.length : Int) < fr
      · exact rget_room pb fr fl rv L w x hx hf hr hfr h
      · exact rget_full pb fr fl rv L w x hx hf hr hl h
  · exact rget_out pb fr fl rv L w x hx h
theorem step_cells {w W : World} {a b c : Int} (f : Fr (fun _ => False) (w.alloc (.cells #[.int .i64 a, .int .i64 b, .int .i64 c] 32)) W) : W.heap[w.heap.size]? = some (.cells #[.int .i64 a, .int .i64 b, .int .i64 c] 32 (0, 0)) := f.keep (heap_alloc_new w _) (fun f => f)
section
variable (B pb mb rb : Nat) (rv : Value) (fr us fl : Int) (M : Pmap) (n : Nat) (Z : List (Fm × Int)) (k : Nat) (w : World)
set_option maxRecDepth 100000 in
set_option maxHeartbeats 4000000 in
theorem asks_get (kk pg ls : Int) (hkk : kk = 0 ∨ kk = 1) (hpg : wfK pg) (hk : k ≤ 9223372036854775806) (hB : B ≤ w.heap.size) (h : Bo w B pb mb rb rv fr us fl M n Z k) : Calls Try.prog 10 #[.pointer (some ⟨pb, 0, none⟩), .pointer (some ⟨rb, 0, none⟩), .agg #[.int .i64 kk, .int .i64 pg, .int .i64 ls]] w fun e w' => AskO B pb mb rb rv fr k w e w' := by
  have f0 := Fr.box w (.cells #[.int .i64 kk, .int .i64 pg, .int .i64 ls] 32)
  have h1 := h.same f0
  have hS := heap_alloc_new w (.cells #[.int .i64 kk, .int .i64 pg, .int .i64 ls] 32)
  have hlen : (fms Z).length = n := by rw [fms, List.length_map, h.tie.len]
  have hfit := h.fit
  have hgp := get_pl pb fr mb n us fl M _ pg hpg (by omega) h1.pl
  have hpw := lt_of_block h.pl.box
  have hmw := h.pl.map.lt
  have hrw := lt_of_block h.rp.box
  have HB1 : Hid (Bo (w.alloc (.cells #[.int .i64 kk, .int .i64 pg, .int .i64 ls] 32)) B pb mb rb rv fr us fl M n Z k) := h1
  obtain ⟨A, hA⟩ : ∃ A, A = w.heap.size := ⟨_, rfl⟩
  have HAW : Hid (w.heap.size = A) := hA.symm
  rw [← hA] at hS hpw hmw hrw
  have hkb : (kk == 0) = true ∨ ((kk == 0) = false ∧ (kk == 1) = true) := by
    rcases hkk with rfl | rfl
    · left; rfl
    · right; exact ⟨rfl, rfl⟩
  have hvw : ∀ g, rv.ownBlock = some g → g < A := fun g e => by rw [hA]; exact h.rp.has.lt e
  clear hkk h h1 hA
  rcases hkb with hkb | ⟨hkb, hkc⟩
  all_goals
    go_enter Try.func10, Try.ntmps10
    go_wp2_with fail
    refine hgp.mono ?_
    rintro e w1 ⟨hit, wr, out, need, er, M', n', us', fl', rfl, hG, hP1, f1⟩
    have hR1 := HB1.out.goP f1
    have hS1 := f1.keep hS (fun e => e.elim (by omega) (by omega))
    have fb := Fr.box w1 (.cells #[.bool hit, .bool wr, .int .i64 out, .int .i64 need] 43)
    have hS2 := fb.keep hS1 (fun f => f)
    have hg1 := heap_alloc_new w1 (.cells #[.bool hit, .bool wr, .int .i64 out, .int .i64 need] 43)
    have hR2 := hR1.same fb
    have hrg := rget_rp rb fr fl rv (fms Z) _ pg (by omega) (by omega) hR2
    have hAw1 : A < w1.heap.size := lt_of_block hS1
    obtain ⟨D, hD⟩ : ∃ D, D = w1.heap.size := ⟨_, rfl⟩
    rw [← hD] at hg1 hAw1
    have HDW : Hid (w1.heap.size = D) := hD.symm
    have hs1 := f1.size
    have hlw : B ≤ A := by have := HAW.out; omega
    obtain ⟨W1, hW1⟩ : ∃ W, W = w1.alloc (.cells #[.bool hit, .bool wr, .int .i64 out, .int .i64 need] 43) := ⟨_, rfl⟩
    have HW1 : Hid (w1.alloc (.cells #[.bool hit, .bool wr, .int .i64 out, .int .i64 need] 43) = W1) := hW1.symm
    rw [← hW1] at hS2 hg1 hrg fb
    obtain ⟨q0, q1, q2⟩ := (rp_cells hS2).1
    obtain ⟨⟨c0, c1, c2, c3⟩, _⟩ := four_cells hg1
    clear hW1 hD hgp hR1 hR2
    go_upto_region 5 with fail
    rw [HW1.out, HDW.out, HAW.out]
    go_wp2_with fail
    refine hrg.mono ?_
    rintro e w2 ⟨hit2, wr2, out2, need2, er2, L', fl2, rv', rfl, hO, hRP, f2, hown⟩
    obtain ⟨e1, e2, e3, e4, e5, e6, Z', hZ, hT⟩ := HB1.out.tie.get hk hG hO
    have hn' := (get_pins hG hfit.2.2 hfit.1 (fun x g hm => HB1.out.pl.map.key hm)).2
    have hlz : (fms Z').length = n' := by rw [fms, List.length_map, hT.len]
    have hR3 := hRP (by rw [← hZ, hlz]; omega)
    rw [← hZ] at hR3
    have hsp := HB1.out.sp
    have hP3 := plR (hP1.same fb) hsp f2
    have hsw : A ≤ W1.heap.size := by have := fb.size; have := HDW.out; omega
    have hsp' := hsp.new (w := W1) (by omega) (by omega) (by omega) hown
    have nD : ∀ j, rpS rb rv j → j ≠ D := fun j hj e => by
      rcases hj with hj | hj
      · omega
      · have := hvw j hj; omega
    have hg2 := f2.keep hg1 (fun e => nD _ e rfl)
    have F2 : Fr (fun j => plS pb mb j ∨ rpS rb rv j) w w2 := (((f0.mono (fun _ _ f => f.elim)).trans (frP hsp f1) (fun _ _ e => e)).trans fb (fun _ _ f => f.elim)).trans (frR hsp f2) (fun _ _ e => e)
    subst e1 e2 e3 e4 e5 e6
    have hbo : Bo w2 B pb mb rb rv' fr us' fl' M' n' Z' (k + 1) := ⟨hP3, hR3, hT, hsp', ⟨hfit.1, hfit.2.1, hn'⟩⟩
    have HBO : Hid (Bo w2 B pb mb rb rv' fr us' fl' M' n' Z' (k + 1)) := hbo
    clear hbo hP3 hR3 hT hsp' hsp hRP hO hG hP1 f1 f2 hZ hlz hn' c0 c1 c2 c3 q0 q1 q2 hown HB1 hfit
    obtain ⟨⟨c0, c1, c2, c3⟩, _⟩ := four_cells hg2
    have fb2 := Fr.box w2 (.cells #[.bool hit, .bool wr, .int .i64 out, .int .i64 need] 58)
    have hg3 := fb2.keep hg2 (fun f => f)
    obtain ⟨⟨k0, k1, k2, k3⟩, _⟩ := four_cells hg3
    obtain ⟨⟨m0, m1, m2, m3⟩, _⟩ := four_cells (heap_alloc_new w2 (.cells #[.bool hit, .bool wr, .int .i64 out, .int .i64 need] 58))
    go_wp2
    go_ret
    exact ⟨ret_bool (by simp), _, _, _, _, _, _, HBO.out.same fb2, F2.trans fb2 (fun _ _ f => f.elim)⟩
-- TWO
set_option maxRecDepth 100000 in
set_option maxHeartbeats 4000000 in
theorem asks_unp (kk pg ls : Int) (hkk : kk = 2 ∨ kk = 3) (hpg : wfK pg) (hls : wfK ls) (hk : k ≤ 9223372036854775806) (hB : B ≤ w.heap.size) (h : Bo w B pb mb rb rv fr us fl M n Z k) : Calls Try.prog 10 #[.pointer (some ⟨pb, 0, none⟩), .pointer (some ⟨rb, 0, none⟩), .agg #[.int .i64 kk, .int .i64 pg, .int .i64 ls]] w fun e w' => AskO B pb mb rb rv fr k w e w' := by
  have f0 := (Fr.box w (.cells #[.int .i64 kk, .int .i64 pg, .int .i64 ls] 32)).drew
  have h1 := h.same f0
  have hS : (w.alloc (.cells #[.int .i64 kk, .int .i64 pg, .int .i64 ls] 32)).drew.heap[w.heap.size]? = some (.cells #[.int .i64 kk, .int .i64 pg, .int .i64 ls] 32 (0, 0)) := heap_alloc_new w (.cells #[.int .i64 kk, .int .i64 pg, .int .i64 ls] 32)
  have hS0 := heap_alloc_new w (.cells #[.int .i64 kk, .int .i64 pg, .int .i64 ls] 32)
  have hfit := h.fit
  have hpw := lt_of_block h.pl.box
  have hmw := h.pl.map.lt
  have hrw := lt_of_block h.rp.box
  have HB1 : Hid (Bo (w.alloc (.cells #[.int .i64 kk, .int .i64 pg, .int .i64 ls] 32)).drew B pb mb rb rv fr us fl M n Z k) := h1
  obtain ⟨A, hA⟩ : ∃ A, A = w.heap.size := ⟨_, rfl⟩
  have HAW : Hid (w.heap.size = A) := hA.symm
  rw [← hA] at hS hS0 hpw hmw hrw
  have hvw : ∀ g, rv.ownBlock = some g → g < A := fun g e => by rw [hA]; exact h.rp.has.lt e
  have nP : ∀ j, plS pb mb j → j ≠ A := fun j hj e => by rcases hj with hj | hj <;> omega
  have nR : ∀ j, rpS rb rv j → j ≠ A := fun j hj e => by
    rcases hj with hj | hj
    · omega
    · have := hvw j hj; omega
  have hcp := unpin_pl pb fr mb n us fl M _ pg hpg (by omega) h1.pl
  have hcr := fun W hW => runpin_rp rb fr fl rv (fms Z) W pg hW
  have b0 : (kk == 0) = false := by rw [beq_eq_false_iff_ne]; omega
  have b1 : (kk == 1) = false := by rw [beq_eq_false_iff_ne]; omega
  have b2 : (kk == 2) = true ∨ ((kk == 2) = false ∧ (kk == 3) = true) := by
    rcases hkk with rfl | rfl
    · left; rfl
    · right; exact ⟨rfl, rfl⟩
  clear hkk
  rw [h.tie.pinE pg] at hcp
  generalize rpE (fms Z) pg = er at *
  clear h h1
  obtain ⟨⟨p0, p1, p2⟩, _⟩ := rp_cells hS0
  obtain ⟨⟨_, q1, q2⟩, _⟩ := rp_cells hS
  have q0 : (w.alloc (.cells #[.int .i64 kk, .int .i64 pg, .int .i64 ls] 32)).drew.cell? ⟨A, 1, none⟩ = some (.int .i64 pg) ∧ (w.alloc (.cells #[.int .i64 kk, .int .i64 pg, .int .i64 ls] 32)).drew.cell? ⟨A, 2, none⟩ = some (.int .i64 ls) := ⟨q1, q2⟩
  rw [hA] at p0 p1 p2 q0
  clear q1 q2 hA
  rcases b2 with b2 | ⟨b2, b3⟩
  all_goals
  go_enter Try.func10, Try.ntmps10
  go_wp2_with fail
  go_region_held (fun W => W.cell? ⟨w.heap.size, 1, none⟩ = some (.int .i64 pg) ∧ W.cell? ⟨w.heap.size, 2, none⟩ = some (.int .i64 ls))
    (first | exact q0 | exact qa | exact qb)
    (first
      | (go_at_call 19; refine hcp.mono ?_; rintro e w1 ⟨rfl, hP1, f1z⟩; have f1 := f1z.mono (T := plS pb mb) (fun _ _ e => .inr e); have hR1 := HB1.out.goP f1; have hS1 := f1.keep hS (fun e => nP _ e rfl); obtain ⟨⟨_, a1, a2⟩, _⟩ := rp_cells hS1; have qa := And.intro a1 a2; rw [← HAW.out] at qa)
      | (go_at_call 25; refine (hcr _ hR1).mono ?_; rintro e w2 ⟨rfl, hR2, f2z⟩; have f2 := f2z.mono (T := rpS rb rv) (fun _ _ e => e); have hS2 := f2.keep hS1 (fun e => nR _ e rfl); obtain ⟨⟨_, b1, b2⟩, _⟩ := rp_cells hS2; have qb := And.intro b1 b2; rw [← HAW.out] at qb))
  all_goals
    have hsp := HB1.out.sp
    have hP2 := plR hP1 hsp f2
    have F2 : Fr (fun j => plS pb mb j ∨ rpS rb rv j) w w2 := ((f0.mono (fun _ _ f => f.elim)).trans (frP hsp f1) (fun _ _ e => e)).trans (frR hsp f2) (fun _ _ e => e)
    obtain ⟨Z', hZ, hT⟩ := HB1.out.tie.unpin hk pg
    rw [← hZ] at hR2
    have HBO : Hid (Bo w2 B pb mb rb rv fr us _ _ n Z' (k + 1)) := ⟨hP2, hR2, hT.more, hsp, hfit⟩
    clear hP2 hR2 hT hsp hP1 hR1 f1 f2 qa qb q0
    go_wp2
    go_ret
    exact ⟨ret_bool (by simp), _, _, _, _, _, _, HBO.out, F2⟩
set_option maxRecDepth 100000 in
set_option maxHeartbeats 4000000 in
theorem asks_dir (kk pg ls : Int) (hkk : kk = 4) (hpg : wfK pg) (hls : wfK ls) (hk : k ≤ 9223372036854775806) (hB : B ≤ w.heap.size) (h : Bo w B pb mb rb rv fr us fl M n Z k) : Calls Try.prog 10 #[.pointer (some ⟨pb, 0, none⟩), .pointer (some ⟨rb, 0, none⟩), .agg #[.int .i64 kk, .int .i64 pg, .int .i64 ls]] w fun e w' => AskO B pb mb rb rv fr k w e w' := by
  have f0 := (Fr.box w (.cells #[.int .i64 kk, .int .i64 pg, .int .i64 ls] 32)).drew
  have h1 := h.same f0
  have hS : (w.alloc (.cells #[.int .i64 kk, .int .i64 pg, .int .i64 ls] 32)).drew.heap[w.heap.size]? = some (.cells #[.int .i64 kk, .int .i64 pg, .int .i64 ls] 32 (0, 0)) := heap_alloc_new w (.cells #[.int .i64 kk, .int .i64 pg, .int .i64 ls] 32)
  have hS0 := heap_alloc_new w (.cells #[.int .i64 kk, .int .i64 pg, .int .i64 ls] 32)
  have hfit := h.fit
  have hpw := lt_of_block h.pl.box
  have hmw := h.pl.map.lt
  have hrw := lt_of_block h.rp.box
  have HB1 : Hid (Bo (w.alloc (.cells #[.int .i64 kk, .int .i64 pg, .int .i64 ls] 32)).drew B pb mb rb rv fr us fl M n Z k) := h1
  obtain ⟨A, hA⟩ : ∃ A, A = w.heap.size := ⟨_, rfl⟩
  have HAW : Hid (w.heap.size = A) := hA.symm
  rw [← hA] at hS hS0 hpw hmw hrw
  have hvw : ∀ g, rv.ownBlock = some g → g < A := fun g e => by rw [hA]; exact h.rp.has.lt e
  have nP : ∀ j, plS pb mb j → j ≠ A := fun j hj e => by rcases hj with hj | hj <;> omega
  have nR : ∀ j, rpS rb rv j → j ≠ A := fun j hj e => by
    rcases hj with hj | hj
    · omega
    · have := hvw j hj; omega
  have hcp := dirty_pl pb fr mb n us fl M _ pg ls hpg (by omega) h1.pl
  have hcr := fun W hW => rsoil_rp rb fr fl rv (fms Z) W pg ls hW
  have b0 : (kk == 0) = false := by rw [beq_eq_false_iff_ne]; omega
  have b1 : (kk == 1) = false := by rw [beq_eq_false_iff_ne]; omega
  have b2 : (kk == 2) = false := by rw [beq_eq_false_iff_ne]; omega
  have b3 : (kk == 3) = false := by rw [beq_eq_false_iff_ne]; omega
  have b4 : (kk == 4) = true := by rw [beq_iff_eq]; omega
  clear hkk
  rw [(h.tie.soil pg ls).1] at hcp
  generalize soE (fms Z) pg ls = er at *
  clear h h1
  obtain ⟨⟨p0, p1, p2⟩, _⟩ := rp_cells hS0
  obtain ⟨⟨_, q1, q2⟩, _⟩ := rp_cells hS
  have q0 : (w.alloc (.cells #[.int .i64 kk, .int .i64 pg, .int .i64 ls] 32)).drew.cell? ⟨A, 1, none⟩ = some (.int .i64 pg) ∧ (w.alloc (.cells #[.int .i64 kk, .int .i64 pg, .int .i64 ls] 32)).drew.cell? ⟨A, 2, none⟩ = some (.int .i64 ls) := ⟨q1, q2⟩
  rw [hA] at p0 p1 p2 q0
  clear q1 q2 hA
  go_enter Try.func10, Try.ntmps10
  go_wp2_with fail
  go_region_held (fun W => W.cell? ⟨w.heap.size, 1, none⟩ = some (.int .i64 pg) ∧ W.cell? ⟨w.heap.size, 2, none⟩ = some (.int .i64 ls))
    (first | exact q0 | exact qa | exact qb)
    (first
      | (go_at_call 20; refine hcp.mono ?_; rintro e w1 ⟨rfl, hP1, f1z⟩; have f1 := f1z.mono (T := plS pb mb) (fun _ _ e => .inr e); have hR1 := HB1.out.goP f1; have hS1 := f1.keep hS (fun e => nP _ e rfl); obtain ⟨⟨_, a1, a2⟩, _⟩ := rp_cells hS1; have qa := And.intro a1 a2; rw [← HAW.out] at qa)
      | (go_at_call 26; refine (hcr _ hR1).mono ?_; rintro e w2 ⟨rfl, hR2, f2z⟩; have f2 := f2z.mono (T := rpS rb rv) (fun _ _ e => e); have hS2 := f2.keep hS1 (fun e => nR _ e rfl); obtain ⟨⟨_, b1, b2⟩, _⟩ := rp_cells hS2; have qb := And.intro b1 b2; rw [← HAW.out] at qb))
  all_goals
    have hsp := HB1.out.sp
    have hP2 := plR hP1 hsp f2
    have F2 : Fr (fun j => plS pb mb j ∨ rpS rb rv j) w w2 := ((f0.mono (fun _ _ f => f.elim)).trans (frP hsp f1) (fun _ _ e => e)).trans (frR hsp f2) (fun _ _ e => e)
    obtain ⟨Z', hZ, hT⟩ := (HB1.out.tie.soil pg ls).2
    rw [← hZ] at hR2
    have HBO : Hid (Bo w2 B pb mb rb rv fr us _ _ n Z' (k + 1)) := ⟨hP2, hR2, hT.more, hsp, hfit⟩
    clear hP2 hR2 hT hsp hP1 hR1 f1 f2 qa qb q0
    go_wp2
    go_ret
    exact ⟨ret_bool (by simp), _, _, _, _, _, _, HBO.out, F2⟩
set_option maxRecDepth 100000 in
set_option maxHeartbeats 4000000 in
theorem asks_flu (kk pg ls : Int) (hkk : kk ≠ 0 ∧ kk ≠ 1 ∧ kk ≠ 2 ∧ kk ≠ 3 ∧ kk ≠ 4 ∧ kk ≠ 5) (hpg : wfK pg) (hls : wfK ls) (hk : k ≤ 9223372036854775806) (hB : B ≤ w.heap.size) (h : Bo w B pb mb rb rv fr us fl M n Z k) : Calls Try.prog 10 #[.pointer (some ⟨pb, 0, none⟩), .pointer (some ⟨rb, 0, none⟩), .agg #[.int .i64 kk, .int .i64 pg, .int .i64 ls]] w fun e w' => AskO B pb mb rb rv fr k w e w' := by
  have f0 := (Fr.box w (.cells #[.int .i64 kk, .int .i64 pg, .int .i64 ls] 32)).drew
  have h1 := h.same f0
  have hS : (w.alloc (.cells #[.int .i64 kk, .int .i64 pg, .int .i64 ls] 32)).drew.heap[w.heap.size]? = some (.cells #[.int .i64 kk, .int .i64 pg, .int .i64 ls] 32 (0, 0)) := heap_alloc_new w (.cells #[.int .i64 kk, .int .i64 pg, .int .i64 ls] 32)
  have hS0 := heap_alloc_new w (.cells #[.int .i64 kk, .int .i64 pg, .int .i64 ls] 32)
  have hfit := h.fit
  have hpw := lt_of_block h.pl.box
  have hmw := h.pl.map.lt
  have hrw := lt_of_block h.rp.box
  have HB1 : Hid (Bo (w.alloc (.cells #[.int .i64 kk, .int .i64 pg, .int .i64 ls] 32)).drew B pb mb rb rv fr us fl M n Z k) := h1
  obtain ⟨A, hA⟩ : ∃ A, A = w.heap.size := ⟨_, rfl⟩
  have HAW : Hid (w.heap.size = A) := hA.symm
  rw [← hA] at hS hS0 hpw hmw hrw
  have hvw : ∀ g, rv.ownBlock = some g → g < A := fun g e => by rw [hA]; exact h.rp.has.lt e
  have nP : ∀ j, plS pb mb j → j ≠ A := fun j hj e => by rcases hj with hj | hj <;> omega
  have nR : ∀ j, rpS rb rv j → j ≠ A := fun j hj e => by
    rcases hj with hj | hj
    · omega
    · have := hvw j hj; omega
  have hcp := flushed_pl pb fr mb n us fl M _ ls h1.pl
  have hcr := fun W hW => rflush_rp rb fr fl rv (fms Z) W ls hW
  have b0 : (kk == 0) = false := by rw [beq_eq_false_iff_ne]; omega
  have b1 : (kk == 1) = false := by rw [beq_eq_false_iff_ne]; omega
  have b2 : (kk == 2) = false := by rw [beq_eq_false_iff_ne]; omega
  have b3 : (kk == 3) = false := by rw [beq_eq_false_iff_ne]; omega
  have b4 : (kk == 4) = false := by rw [beq_eq_false_iff_ne]; omega
  have b5 : (kk == 5) = false := by rw [beq_eq_false_iff_ne]; omega
  clear hkk
  generalize fdE ls = er at *
  clear h h1
  obtain ⟨⟨p0, p1, p2⟩, _⟩ := rp_cells hS0
  obtain ⟨⟨_, q1, q2⟩, _⟩ := rp_cells hS
  have q0 : (w.alloc (.cells #[.int .i64 kk, .int .i64 pg, .int .i64 ls] 32)).drew.cell? ⟨A, 1, none⟩ = some (.int .i64 pg) ∧ (w.alloc (.cells #[.int .i64 kk, .int .i64 pg, .int .i64 ls] 32)).drew.cell? ⟨A, 2, none⟩ = some (.int .i64 ls) := ⟨q1, q2⟩
  rw [hA] at p0 p1 p2 q0
  clear q1 q2 hA
  go_enter Try.func10, Try.ntmps10
  go_wp2_with fail
  go_region_held (fun W => W.cell? ⟨w.heap.size, 1, none⟩ = some (.int .i64 pg) ∧ W.cell? ⟨w.heap.size, 2, none⟩ = some (.int .i64 ls))
    (first | exact q0 | exact qa | exact qb)
    (first
      | (go_at_call 22; refine hcp.mono ?_; rintro e w1 ⟨rfl, hP1, f1z⟩; have f1 := f1z.mono (T := plS pb mb) (fun _ _ e => e); have hR1 := HB1.out.goP f1; have hS1 := f1.keep hS (fun e => nP _ e rfl); obtain ⟨⟨_, a1, a2⟩, _⟩ := rp_cells hS1; have qa := And.intro a1 a2; rw [← HAW.out] at qa)
      | (go_at_call 28; refine (hcr _ hR1).mono ?_; rintro e w2 ⟨rfl, hR2, f2z⟩; have f2 := f2z.mono (T := rpS rb rv) (fun _ _ e => .inl e); have hS2 := f2.keep hS1 (fun e => nR _ e rfl); obtain ⟨⟨_, b1, b2⟩, _⟩ := rp_cells hS2; have qb := And.intro b1 b2; rw [← HAW.out] at qb))
  all_goals
    have hsp := HB1.out.sp
    have hP2 := plR hP1 hsp f2
    have F2 : Fr (fun j => plS pb mb j ∨ rpS rb rv j) w w2 := ((f0.mono (fun _ _ f => f.elim)).trans (frP hsp f1) (fun _ _ e => e)).trans (frR hsp f2) (fun _ _ e => e)
    obtain ⟨Z', hZ, hT⟩ : ∃ Z', Z' = Z ∧ Tie M n us Z' k := ⟨Z, rfl, HB1.out.tie⟩
    rw [← hZ] at hR2
    have HBO : Hid (Bo w2 B pb mb rb rv fr us _ _ n Z' (k + 1)) := ⟨hP2, hR2, hT.more, hsp, hfit⟩
    clear hP2 hR2 hT hsp hP1 hR1 f1 f2 qa qb q0
    go_wp2
    go_ret
    exact ⟨ret_bool (by simp), _, _, _, _, _, _, HBO.out, F2⟩
set_option maxRecDepth 100000 in
set_option maxHeartbeats 4000000 in
theorem asks_cln (kk pg ls : Int) (hkk : kk = 5) (hpg : wfK pg) (hls : wfK ls) (hk : k ≤ 9223372036854775806) (hB : B ≤ w.heap.size) (h : Bo w B pb mb rb rv fr us fl M n Z k) : Calls Try.prog 10 #[.pointer (some ⟨pb, 0, none⟩), .pointer (some ⟨rb, 0, none⟩), .agg #[.int .i64 kk, .int .i64 pg, .int .i64 ls]] w fun e w' => AskO B pb mb rb rv fr k w e w' := by
  have f0 := Fr.box w (.cells #[.int .i64 kk, .int .i64 pg, .int .i64 ls] 32)
  have h1 := h.same f0
  have hS := heap_alloc_new w (.cells #[.int .i64 kk, .int .i64 pg, .int .i64 ls] 32)
  have hfit := h.fit
  have hpw := lt_of_block h.pl.box
  have hmw := h.pl.map.lt
  have HB1 : Hid (Bo (w.alloc (.cells #[.int .i64 kk, .int .i64 pg, .int .i64 ls] 32)) B pb mb rb rv fr us fl M n Z k) := h1
  have nP : ∀ j, plS pb mb j → j ≠ w.heap.size := fun j hj e => by rcases hj with hj | hj <;> omega
  have hcp := clean_pl pb fr mb n us fl M _ pg hpg (by omega) h1.pl
  have hcr := fun W hW => rclean_rp rb fr fl rv (fms Z) W pg hW
  obtain ⟨e1, e2, e3, Z', hZ, hT⟩ := h.tie.clean (fl := fl) pg
  rw [e1, e2, e3] at hcp
  rw [← hZ] at hcr
  generalize rcE (fms Z) pg = er at *
  generalize rcV (fms Z) pg fl = ev at *
  generalize rcF (fms Z) pg fl = ef at *
  have b0 : (kk == 0) = false := by rw [beq_eq_false_iff_ne]; omega
  have b1 : (kk == 1) = false := by rw [beq_eq_false_iff_ne]; omega
  have b2 : (kk == 2) = false := by rw [beq_eq_false_iff_ne]; omega
  have b3 : (kk == 3) = false := by rw [beq_eq_false_iff_ne]; omega
  have b4 : (kk == 4) = false := by rw [beq_eq_false_iff_ne]; omega
  have b5 : (kk == 5) = true := by rw [beq_iff_eq]; omega
  clear hkk h h1 e1 e2 e3 hZ
  go_enter Try.func10, Try.ntmps10
  go_wp2_with fail
  refine hcp.mono ?_
  rintro e w1 ⟨rfl, hP1, f1⟩
  have hR1 := HB1.out.goP f1
  obtain ⟨⟨a0, a1, a2⟩, _⟩ := rp_cells (f1.keep hS (fun e => nP _ e rfl))
  go_wp2_with fail
  refine (hcr _ hR1).mono ?_
  rintro e w2 ⟨rfl, hR2, f2⟩
  have hsp := HB1.out.sp
  have hP2 := plR hP1 hsp f2
  have F2 : Fr (fun j => plS pb mb j ∨ rpS rb rv j) w w2 := ((f0.mono (fun _ _ f => f.elim)).trans (frP hsp f1) (fun _ _ e => e)).trans (frR hsp f2) (fun _ _ e => e)
  have HBO : Hid (Bo w2 B pb mb rb rv fr us ef _ n Z' (k + 1)) := ⟨hP2, hR2, hT.more, hsp, hfit⟩
  clear hP2 hR2 hT hsp hP1 hR1 f1 f2 a0 a1 a2
  go_wp2
  go_ret
  exact ⟨ret_bool (by simp), _, _, _, _, _, _, HBO.out, F2⟩
theorem asks_any (kk pg ls : Int) (hpg : wfK pg) (hls : wfK ls) (hk : k ≤ 9223372036854775806) (hB : B ≤ w.heap.size) (h : Bo w B pb mb rb rv fr us fl M n Z k) : Calls Try.prog 10 #[.pointer (some ⟨pb, 0, none⟩), .pointer (some ⟨rb, 0, none⟩), .agg #[.int .i64 kk, .int .i64 pg, .int .i64 ls]] w fun e w' => AskO B pb mb rb rv fr k w e w' := by
  by_cases h01 : kk = 0 ∨ kk = 1
  · exact asks_get B pb mb rb rv fr us fl M n Z k w kk pg ls h01 hpg hk hB h
  · by_cases h23 : kk = 2 ∨ kk = 3
    · exact asks_unp B pb mb rb rv fr us fl M n Z k w kk pg ls h23 hpg hls hk hB h
    · by_cases h4 : kk = 4
      · exact asks_dir B pb mb rb rv fr us fl M n Z k w kk pg ls h4 hpg hls hk hB h
      · by_cases h5 : kk = 5
        · exact asks_cln B pb mb rb rv fr us fl M n Z k w kk pg ls h5 hpg hls hk hB h
        · exact asks_flu B pb mb rb rv fr us fl M n Z k w kk pg ls (by omega) hpg hls hk hB h
end
end Go.Proofs.Ytneniagingoleaa
