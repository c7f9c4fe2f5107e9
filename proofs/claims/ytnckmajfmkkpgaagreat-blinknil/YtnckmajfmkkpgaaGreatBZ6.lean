
/- BkSp2, BkSpeak. -/
import Derived.Test.YtnckmajfmkkpgaaGreatBZ7
/- The pages that speaks builds. -/
namespace Go.Proofs.YtnckmajfmkkpgaaGreat
open Go.RowKit

def sL (p1 p2 p3 : Pt) : List Sl := [⟨1, ⟨1, 0, 0, ⟨#[]⟩, [], [], [2]⟩, p1⟩, ⟨2, ⟨0, 0, 3, ⟨#[109]⟩, [], [], []⟩, p2⟩, ⟨3, ⟨0, 0, 0, ⟨#[]⟩, [⟨#[122]⟩], [⟨#[121]⟩], []⟩, p3⟩]
def sP1 (B : Nat) : Pt := ⟨none, 0, none, 0, some ⟨B, 0, none⟩, 1⟩
def sP3 (B : Nat) : Pt := ⟨some ⟨B + 1, 0, none⟩, 1, some ⟨B + 1 + 1, 0, none⟩, 1, none, 0⟩
def sC (B : Nat) : Array Value := #[.int .i64 1, .int .i64 1, .int .i64 0, .int .i64 0, .string ⟨#[]⟩, .slice none 0 0, .slice none 0 0, .slice (some ⟨B, 0, none⟩) 1 1, .int .i64 2, .int .i64 0, .int .i64 0, .int .i64 3, .string ⟨#[109]⟩, .slice none 0 0, .slice none 0 0, .slice none 0 0, .int .i64 3, .int .i64 0, .int .i64 0, .int .i64 0, .string ⟨#[]⟩, .slice (some ⟨B + 1, 0, none⟩) 1 1, .slice (some ⟨B + 1 + 1, 0, none⟩) 1 1, .slice none 0 0]
theorem s_int {W : World} {B : Nat} {x : Int} {t : TypeId} (h : W.heap[B]? = some (.cells #[.int .i64 x] t (0, 0))) : Ints W (some ⟨B, 0, none⟩) 1 [x] := by
  have c := (one_cells h).1
  refine ⟨Nat.le_refl _, by omega, .inr ⟨B, 0, rfl, lt_of_block h, fun i hi => ?_⟩⟩
  obtain rfl : i = 0 := by simp at hi; omega
  exact c
theorem s_str {W : World} {B : Nat} {x : ByteArray} {t : TypeId} (h : W.heap[B]? = some (.cells #[.string x] t (0, 0))) (hx : x.size ≤ maxLen) : Strs W (some ⟨B, 0, none⟩) 1 [x] := by
  have c := (one_cells h).1
  refine ⟨Nat.le_refl _, by omega, fun s hs => by obtain rfl := List.mem_singleton.1 hs; exact hx, .inr ⟨B, 0, rfl, lt_of_block h, fun i hi => ?_⟩⟩
  obtain rfl : i = 0 := by simp at hi; omega
  exact c
theorem s_slots {W : World} {B : Nat} {t1 t2 t3 t4 : TypeId} (h1 : W.heap[B]? = some (.cells #[.int .i64 2] t1 (0, 0))) (h2 : W.heap[B + 1]? = some (.cells #[.string ⟨#[122]⟩] t2 (0, 0))) (h3 : W.heap[B + 1 + 1]? = some (.cells #[.string ⟨#[121]⟩] t3 (0, 0))) (h4 : W.heap[B + 1 + 1 + 1]? = some (.cells (sC B) t4 (0, 0))) : Slots W (some ⟨B + 1 + 1 + 1, 0, none⟩) 3 (sL (sP1 B) zp (sP3 B)) := by
  have e0 : ∀ w : World, Strs w none 0 [] := fun w => ⟨Nat.le_refl _, by omega, (fun s hs => by cases hs), .inl rfl⟩
  have i0 : ∀ w : World, Ints w none 0 [] := fun w => ⟨Nat.le_refl _, by omega, .inl rfl⟩
  have c1 := (one_cells h1).1
  have c2 := (one_cells h2).1
  have c3 := (one_cells h3).1
  refine ⟨Nat.le_refl 3, by omega, .inr ⟨_, _, rfl, lt_of_block h4, fun i s hs => ?_⟩, fun s hs => ?_⟩
  · match i, hs with
    | 0, hs =>
      cases hs
      exact range_block h4 (fun j v hv => by
        match j, hv with
        | 0, hv | 1, hv | 2, hv | 3, hv | 4, hv | 5, hv | 6, hv | 7, hv => exact hv
        | j + 8, hv => simp [slC] at hv)
    | 1, hs =>
      cases hs
      exact range_block h4 (fun j v hv => by
        match j, hv with
        | 0, hv | 1, hv | 2, hv | 3, hv | 4, hv | 5, hv | 6, hv | 7, hv => exact hv
        | j + 8, hv => simp [slC] at hv)
    | 2, hs =>
      cases hs
      exact range_block h4 (fun j v hv => by
        match j, hv with
        | 0, hv | 1, hv | 2, hv | 3, hv | 4, hv | 5, hv | 6, hv | 7, hv => exact hv
        | j + 8, hv => simp [slC] at hv)
    | i + 3, hs => simp [sL] at hs
  · have hs' : s = ⟨1, ⟨1, 0, 0, ⟨#[]⟩, [], [], [2]⟩, sP1 B⟩ ∨ s = ⟨2, ⟨0, 0, 3, ⟨#[109]⟩, [], [], []⟩, zp⟩ ∨ s = ⟨3, ⟨0, 0, 0, ⟨#[]⟩, [⟨#[122]⟩], [⟨#[121]⟩], []⟩, sP3 B⟩ := by simpa [sL] using hs
    have k0 : (0 : Nat) ≤ 140737488351232 := by omega
    have k1 : (1 : Nat) ≤ 140737488351232 := by omega
    rcases hs' with rfl | rfl | rfl
    · exact ⟨e0 _, e0 _, s_int h1, k0, (fun s hs => by cases hs), (fun s hs => by cases hs), k0, k0, k1⟩
    · exact ⟨e0 _, e0 _, i0 _, k1, (fun s hs => by cases hs), (fun s hs => by cases hs), k0, k0, k0⟩
    · exact ⟨s_str h2 (by decide), s_str h3 (by decide), i0 _, k0, (fun s hs => by obtain rfl := List.mem_singleton.1 hs; exact k1), (fun s hs => by obtain rfl := List.mem_singleton.1 hs; exact k1), k1, k1, k0⟩
end Go.Proofs.YtnckmajfmkkpgaaGreat

/- A tree speaks. -/
namespace Go.Proofs.YtnckmajfmkkpgaaGreat
open Go.RowKit

def sR : Rec := ⟨0, 0, 2, 1, 0, 0, ⟨#[97]⟩, ⟨#[120]⟩⟩
theorem sp_e : apE zn true (rnx sR (0 + 1)) = 0 := by kernel_rfl
theorem sp_h : hasB [⟨1, zn, zp⟩] sR.page = true := by kernel_rfl
theorem sp_a : ahead [⟨1, zn, zp⟩] sR.page = 0 := by kernel_rfl
theorem sp_n : apN zn true (rnx sR (0 + 1)) = ⟨0, 1, 0, ⟨#[]⟩, [⟨#[97]⟩], [⟨#[120]⟩], []⟩ := by kernel_rfl
theorem sp_f (q : Pt) : fndE (treeE [⟨1, ⟨0, 1, 0, ⟨#[]⟩, [⟨#[97]⟩], [⟨#[120]⟩], []⟩, q⟩]) ⟨#[97]⟩ = some (⟨#[97]⟩, ⟨#[120]⟩) := by kernel_rfl
theorem sp_l (p1 p2 p3 : Pt) : (leavesF (sL p1 p2 p3)).isSome = true := by kernel_rfl
theorem sp_g (p1 p2 p3 : Pt) : fndE (treeE (sL p1 p2 p3)) ⟨#[122]⟩ = some (⟨#[122]⟩, ⟨#[121]⟩) := by kernel_rfl
theorem sp_c (p1 p2 p3 : Pt) : ckE (sL p1 p2 p3).tail = 130 := by kernel_rfl
theorem ps_tree {l m : List Sl} (h : psOf l = psOf m) : l.length = m.length := by rw [← ps_length, h, ps_length]
def sN : Nd := ⟨0, 1, 0, ⟨#[]⟩, [⟨#[97]⟩], [⟨#[120]⟩], []⟩
theorem s_say (tb mb : Nat) (a : Option Addr) (c : Nat) (w : World) (h : TrS w tb mb a 1 c [⟨1, zn, zp⟩] 0) : Calls Tryz.prog 7 #[.pointer (some ⟨tb, 0, none⟩), .agg #[.int .i64 0, .int .i64 0, .int .i64 2, .int .i64 1, .int .i64 0, .int .i64 0, .string ⟨#[97]⟩, .string ⟨#[120]⟩]] w fun e w' => ∃ q, e = .returned (.tuple #[.agg #[.int .i64 1, .int .i64 0, .int .i64 2, .int .i64 1, .int .i64 0, .int .i64 0, .string ⟨#[97]⟩, .string ⟨#[120]⟩], .int .i64 0]) ∧ TrS w' tb mb a 1 c [⟨1, sN, q⟩] 1 ∧ Fr (fun k => (Value.slice a 1 c).ownBlock = some k ∨ k = tb ∨ k = mb) w w' := by
  have hr : Rise [⟨1, zn, zp⟩] := by
    intro i j s t hij _ h2
    have := (List.getElem?_eq_some_iff.1 h2).1
    simp at this
    omega
  have h2 := say_yes sR (by decide) (by decide) tb mb a 1 c [⟨1, zn, zp⟩] 0 (by omega) (by simp) hr sp_h ⟨1, zn, zp⟩ (by rw [sp_a]; rfl) sp_e w h
  refine h2.mono ?_
  rintro e w' ⟨q, he, ht, f⟩
  refine ⟨q, he, ?_, f⟩
  have e1 : ahead [⟨1, zn, zp⟩] (rnx sR (0 + 1)).page = 0 := sp_a
  rw [sp_n, e1] at ht
  exact ht
theorem s_get (tb mb : Nat) (a : Option Addr) (n c : Nat) (lp : List Sl) (last : Int) (k : ByteArray) (w : World) (h : TrS w tb mb a n c lp last) : Calls Tryz.prog 4 #[.pointer (some ⟨tb, 0, none⟩), .string k] w fun e w' => e = .returned (.tuple #[.string (geV (fndE (treeE lp) k)), .bool (fndE (treeE lp) k).isSome]) ∧ Fr (fun _ => False) w w' :=
  Go.Proofs.YtnckmajfmkkpgaaGreat.get_any (some ⟨tb, 0, none⟩) k a n c lp h.len w (h.sv.slots h.len) (fun W f => all_some tb a n c mb last W (h.same f).tr)
theorem s_get1 (tb mb : Nat) (a : Option Addr) (c : Nat) (q : Pt) (w : World) (h : TrS w tb mb a 1 c [⟨1, sN, q⟩] 1) : Calls Tryz.prog 4 #[.pointer (some ⟨tb, 0, none⟩), .string ⟨#[97]⟩] w fun e w' => e = .returned (.tuple #[.string ⟨#[120]⟩, .bool true]) ∧ Fr (fun _ => False) w w' := by
  have h2 := s_get tb mb a 1 c _ 1 ⟨#[97]⟩ w h
  unfold sN at h2
  rw [sp_f q] at h2
  exact h2
theorem sL_ps {lp : List Sl} {p1 p2 p3 : Pt} (h : psOf lp = psOf (sL p1 p2 p3)) : ∃ q1 q2 q3, lp = sL q1 q2 q3 := by
  match lp, h with
  | [], h => simp [psOf, sL] at h
  | [x], h => simp [psOf, sL] at h
  | [x, y], h => simp [psOf, sL] at h
  | [x, y, z], h =>
    simp only [psOf, sL, List.map_cons, List.map_nil, List.cons.injEq, Prod.mk.injEq, and_true] at h
    obtain ⟨⟨h1, h2⟩, ⟨h3, h4⟩, h5, h6⟩ := h
    obtain ⟨x1, x2, x3⟩ := x
    obtain ⟨y1, y2, y3⟩ := y
    obtain ⟨z1, z2, z3⟩ := z
    simp only at h1 h2 h3 h4 h5 h6
    subst h1 h2 h3 h4 h5 h6
    exact ⟨x3, y3, z3, rfl⟩
  | x :: y :: z :: u :: l, h => simp [psOf, sL] at h
theorem s_get3 (tb mb : Nat) (a : Option Addr) (n c : Nat) (lp : List Sl) (last : Int) (p1 p2 p3 : Pt) (hp : psOf lp = psOf (sL p1 p2 p3)) (w : World) (h : TrS w tb mb a n c lp last) : Calls Tryz.prog 4 #[.pointer (some ⟨tb, 0, none⟩), .string ⟨#[122]⟩] w fun e w' => e = .returned (.tuple #[.string ⟨#[121]⟩, .bool true]) ∧ Fr (fun _ => False) w w' := by
  obtain ⟨q1, q2, q3, rfl⟩ := sL_ps hp
  have h2 := s_get tb mb a n c _ last ⟨#[122]⟩ w h
  rw [sp_g q1 q2 q3] at h2
  exact h2
theorem s_of (a : Option Addr) (c : Nat) (p1 p2 p3 : Pt) (w : World) (h : Slots w a c (sL p1 p2 p3)) : Calls Tryz.prog 21 #[.slice a 3 c] w fun e w' => ∃ tb mb a n c lp last, e = .returned (.tuple #[.pointer (some ⟨tb, 0, none⟩), .int .i64 0]) ∧ psOf lp = psOf (sL p1 p2 p3) ∧ TrS w' tb mb a n c lp last ∧ Fr (fun _ => False) w w' := by
  refine (bof_any a 3 c (sL p1 p2 p3) rfl w h).mono ?_
  rintro e w' ⟨f, ⟨h1, _⟩ | ⟨_, tb, mb, a', n, c', lp, rfl, hp, ht, _⟩⟩
  · have := sp_l p1 p2 p3
    rw [h1] at this
    cases this
  · exact ⟨tb, mb, a', n, c', lp, _, rfl, hp, ht, f⟩
theorem slots_tl {w : World} {b off c : Nat} {s : Sl} {l : List Sl} (h : Slots w (some ⟨b, off, none⟩) c (s :: l)) : Slots w (some ⟨b, off + 8, none⟩) (c - 1) l := by
  have h1 := h.le
  have h2 := h.max
  simp only [List.length_cons] at h1
  refine ⟨by omega, by omega, ?_, fun x hx => h.nod x (List.mem_cons_of_mem _ hx)⟩
  rcases h.at_ with h0 | ⟨b', off', e, hb, hc⟩
  · cases h0
  · cases e
    refine .inr ⟨b, off + 8, rfl, hb, fun i t ht => ?_⟩
    have := hc (i + 1) t (by simpa using ht)
    rwa [show off + (i + 1) * 8 = off + 8 + i * 8 by omega] at this
theorem s_ck (b : Nat) (p1 p2 p3 : Pt) (w : World) (h : Slots w (some ⟨b, 0, none⟩) 3 (sL p1 p2 p3)) : Calls Tryz.prog 22 #[.slice (some ⟨b, 8, none⟩) 2 2] w fun e w' => e = .returned (.int .i64 130) ∧ Fr (fun _ => False) w w' := by
  have h2 := check_call (some ⟨b, 8, none⟩) 2 2 (sL p1 p2 p3).tail rfl w (slots_tl h)
  rw [sp_c] at h2
  exact h2
set_option maxRecDepth 100000 in
set_option maxHeartbeats 8000000 in
theorem bspeaks_any (w : World) : Calls Tryz.prog 11 #[] w fun e w' => e = .returned (.bool true) ∧ Fr (fun _ => False) w w' := by
  have hnw := bnew_any w
  go_enter Tryz.func11, Tryz.ntmps11
  go_wp2_with fail
  refine hnw.mono ?_
  rintro e w1 ⟨tb, mb, a, c, rfl, ht1, htb, hmb, hown, f1⟩
  go_wp2_with fail
  refine (s_say tb mb a c w1 ht1).mono ?_
  rintro e w2 ⟨q, rfl, ht2, f2⟩
  have F2 : Fr (fun _ => False) w w2 := f1.trans f2 (fun i hi e => by
    rcases e with e | e | e
    · have := hown _ e
      omega
    · omega
    · omega)
  have f3 := Fr.box w2 (.cells #[.int .i64 1, .int .i64 0, .int .i64 2, .int .i64 1, .int .i64 0, .int .i64 0, .string ⟨#[97]⟩, .string ⟨#[120]⟩] 35)
  have ht3 := ht2.same f3
  go_wp2_with fail
  refine (s_get1 tb mb a c q _ ht3).mono ?_
  rintro e w4 ⟨rfl, f4⟩
  have ht4 := ht3.same f4
  have F4 := (F2.seq' f3).seq' f4
  have f5 : Fr (fun _ => False) w4 ((((w4.alloc (.cells #[.int .i64 2] 3)).alloc (.cells #[.string ⟨#[122]⟩] 9)).alloc (.cells #[.string ⟨#[121]⟩] 9)).alloc (.cells (sC w4.heap.size) 62)) := ((((Fr.refl _ w4).alloc _).alloc _).alloc _).alloc _
  have hSL : Slots ((((w4.alloc (.cells #[.int .i64 2] 3)).alloc (.cells #[.string ⟨#[122]⟩] 9)).alloc (.cells #[.string ⟨#[121]⟩] 9)).alloc (.cells (sC w4.heap.size) 62)) (some ⟨w4.heap.size + 1 + 1 + 1, 0, none⟩) 3 (sL (sP1 w4.heap.size) zp (sP3 w4.heap.size)) := by
    have n1 := heap_alloc_new w4 (.cells #[.int .i64 2] 3)
    have n2 := heap_alloc_new (w4.alloc (.cells #[.int .i64 2] 3)) (.cells #[.string ⟨#[122]⟩] 9)
    have n3 := heap_alloc_new ((w4.alloc (.cells #[.int .i64 2] 3)).alloc (.cells #[.string ⟨#[122]⟩] 9)) (.cells #[.string ⟨#[121]⟩] 9)
    have n4 := heap_alloc_new (((w4.alloc (.cells #[.int .i64 2] 3)).alloc (.cells #[.string ⟨#[122]⟩] 9)).alloc (.cells #[.string ⟨#[121]⟩] 9)) (.cells (sC w4.heap.size) 62)
    simp only [World.size_alloc] at n2 n3 n4
    exact s_slots ((((Fr.refl (fun _ => False) _).alloc _).alloc _).alloc _ |>.blk n1 (fun f => f)) (((Fr.refl (fun _ => False) _).alloc _).alloc _ |>.blk n2 (fun f => f)) ((Fr.refl (fun _ => False) _).alloc _ |>.blk n3 (fun f => f)) n4
  have ht5 := ht4.same f5
  have F5 := F4.seq' f5
  unfold sC at f5 hSL ht5 F5
  go_wp2_with fail
  refine (s_of _ _ _ _ _ _ hSL).mono ?_
  rintro e w6 ⟨ub, um, ua, un, uc, lp, ul, rfl, hps, hu6, f6⟩
  have ht6 := ht5.same f6
  have hS6 := hSL.same f6
  have F6 := F5.seq' f6
  clear hSL ht5 F5 f5 ht4 f4 ht3 f3 ht2 f2 ht1 F4 F2
  go_wp2_with fail
  refine (s_get3 ub um ua un uc lp ul _ _ _ hps _ hu6).mono ?_
  rintro e w7 ⟨rfl, f7⟩
  have ht7 := ht6.same f7
  have hS7 := hS6.same f7
  have F7 := F6.seq' f7
  go_wp2_with fail
  refine (last_some tb a 1 c mb 1 w7 ht7.tr).mono ?_
  rintro e w8 ⟨rfl, f8⟩
  have hS8 := hS7.same f8
  have F8 := F7.seq' f8
  go_wp2_with fail
  refine (s_ck _ _ _ _ w8 hS8).mono ?_
  rintro e w9 ⟨rfl, f9⟩
  go_wp2
  go_ret
  exact ⟨rfl, F8.seq' f9⟩
end Go.Proofs.YtnckmajfmkkpgaaGreat
