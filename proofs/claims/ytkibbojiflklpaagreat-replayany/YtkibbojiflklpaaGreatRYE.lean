
/- RySpk, RySpk2. -/
import Derived.Test.YtkibbojiflklpaaGreatRYD
/- Two workers come to a consistent point. -/
namespace Go.Proofs.YtkibbojiflklpaaGreat
open Go.RowKit Go.Shelf

def k1 : Rec := ⟨1, 0, 2, 1, 0, 0, ⟨#[97]⟩, ⟨#[]⟩⟩
def k2 : Rec := ⟨2, 0, 2, 2, 0, 0, ⟨#[98]⟩, ⟨#[]⟩⟩
def k3 : Rec := ⟨3, 0, 1, 0, 0, 0, ⟨#[]⟩, ⟨#[]⟩⟩
def kL : List Sl := [⟨1, zn, zp⟩, ⟨2, zn, zp⟩]
def s0 : RSt := mkR 2 0 (pgF (psOf kL))
def s1 : RSt := { s0 with fed := 1, L := qupd s0.L 1 [(k1, 0)] }
def s2 : RSt := { s1 with fed := 2, L := qupd s1.L 0 [(k2, 0)] }
def s3 : RSt := { s2 with fed := 3, point := 3 }
def s4 : RSt := workR s3 0 (k2, 0) [] (apN zn true k2)
def s5 : RSt := workR s4 1 (k1, 0) [] (apN zn true k1)
/-- A replay of a call's own. -/
def Cur (w V : World) (b : Nat) (R : RSt) (N : Nat) : Prop := ∃ S, Ry V S b R N ∧ (∀ k, S k → w.heap.size ≤ k) ∧ Fr (fun _ => False) w V
theorem Cur.same {w V V' : World} {b : Nat} {R : RSt} {N : Nat} (h : Cur w V b R N) (f : Fr (fun _ => False) V V') : Cur w V' b R N := by
  obtain ⟨S, h1, h2, h3⟩ := h
  exact ⟨S, h1.same f, h2, h3.seq' f⟩
theorem cur_to {w V V' : World} {S : Nat → Prop} {b : Nat} {R : RSt} {N : Nat} (h2 : ∀ k, S k → w.heap.size ≤ k) (h3 : Fr (fun _ => False) w V) (t : RyTo V S b R N V') : Cur w V' b R N := by
  obtain ⟨S', g1, g2, g3, g4⟩ := t
  refine ⟨S', g1, fun k hk => ?_, h3.trans g4 (fun k hk e => by have := h2 k e; omega)⟩
  rcases g2 k hk with e | e
  · exact h2 k e
  · exact Nat.le_trans h3.size e
section
variable {w : World} {b : Nat} {N : Nat}
theorem c_f1 (V : World) (h : Cur w V b s0 N) (hN : N ≤ 1000) : Calls Tryz.prog 13 #[.pointer (some ⟨b, 0, none⟩), (.agg #[.int .i64 k1.lsn, .int .i64 k1.ep, .int .i64 k1.kind, .int .i64 k1.page, .int .i64 k1.other, .int .i64 k1.req, .string k1.key, .string k1.val])] V fun e V' => e = .returned (.int .i64 0) ∧ Cur w V' b s1 (N + 1) := by
  obtain ⟨S, h1, h2, h3⟩ := h
  have := ry_feedq k1 V h1 (by omega) (by kernel_rfl) (by kernel_rfl) ⟨by decide, by decide⟩ (by decide) (by decide) ⟨by decide, by decide⟩ (by decide) (by decide)
  exact this.mono fun e V' ⟨he, ht⟩ => ⟨he, cur_to h2 h3 ht⟩
theorem c_f2 (V : World) (h : Cur w V b s1 N) (hN : N ≤ 1000) : Calls Tryz.prog 13 #[.pointer (some ⟨b, 0, none⟩), (.agg #[.int .i64 k2.lsn, .int .i64 k2.ep, .int .i64 k2.kind, .int .i64 k2.page, .int .i64 k2.other, .int .i64 k2.req, .string k2.key, .string k2.val])] V fun e V' => e = .returned (.int .i64 0) ∧ Cur w V' b s2 (N + 1) := by
  obtain ⟨S, h1, h2, h3⟩ := h
  have := ry_feedq k2 V h1 (by omega) (by kernel_rfl) (by kernel_rfl) ⟨by decide, by decide⟩ (by decide) (by decide) ⟨by decide, by decide⟩ (by decide) (by decide)
  exact this.mono fun e V' ⟨he, ht⟩ => ⟨he, cur_to h2 h3 ht⟩
theorem c_f3 (V : World) (h : Cur w V b s2 N) : Calls Tryz.prog 13 #[.pointer (some ⟨b, 0, none⟩), (.agg #[.int .i64 k3.lsn, .int .i64 k3.ep, .int .i64 k3.kind, .int .i64 k3.page, .int .i64 k3.other, .int .i64 k3.req, .string k3.key, .string k3.val])] V fun e V' => e = .returned (.int .i64 0) ∧ Cur w V' b s3 N := by
  obtain ⟨S, h1, h2, h3⟩ := h
  have := ry_feedn k3 V h1 (by kernel_rfl) (by kernel_rfl) ⟨by decide, by decide⟩ (by decide) (by decide)
  exact this.mono fun e V' ⟨he, ht, f⟩ => ⟨he, S, ht, h2, h3.trans f (fun k hk e => by have := h2 k e; omega)⟩
theorem c_w0 (V : World) (h : Cur w V b s3 N) (hN : N ≤ 1000) : Calls Tryz.prog 14 #[.pointer (some ⟨b, 0, none⟩), .int .i64 0] V fun e V' => e = .returned (.tuple #[.bool true, .int .i64 0]) ∧ Cur w V' b s4 (N + 2) := by
  obtain ⟨S, h1, h2, h3⟩ := h
  have := ry_workv 0 (k2, 0) [] V h1 (by omega) (by decide) rfl zn (by kernel_rfl) (wfK_of (by decide)) (by decide) (by decide) (by kernel_rfl)
  exact this.mono fun e V' ⟨he, ht⟩ => ⟨he, cur_to h2 h3 ht⟩
theorem c_w1 (V : World) (h : Cur w V b s4 N) (hN : N ≤ 1000) : Calls Tryz.prog 14 #[.pointer (some ⟨b, 0, none⟩), .int .i64 1] V fun e V' => e = .returned (.tuple #[.bool true, .int .i64 0]) ∧ Cur w V' b s5 (N + 2) := by
  obtain ⟨S, h1, h2, h3⟩ := h
  have := ry_workv 1 (k1, 0) [] V h1 (by omega) (by decide) rfl zn (by kernel_rfl) (wfK_of (by decide)) (by decide) (by decide) (by kernel_rfl)
  exact this.mono fun e V' ⟨he, ht⟩ => ⟨he, cur_to h2 h3 ht⟩
theorem c_p4 (V : World) (h : Cur w V b s4 N) (hN : N ≤ 1000) : Calls Tryz.prog 15 #[.pointer (some ⟨b, 0, none⟩)] V fun e V' => e = .returned (.tuple #[.int .i64 0, .bool false]) ∧ Cur w V' b s4 N := by
  obtain ⟨S, h1, h2, h3⟩ := h
  have := ry_pointv V h1 (by omega) (by decide)
  unfold PntO at this
  rw [show pointR s4 = 0 by kernel_rfl, show s4.top = 2 by kernel_rfl, if_pos (by decide)] at this
  exact this.mono fun e V' ⟨he, f⟩ => ⟨he, S, h1.same f, h2, h3.seq' f⟩
theorem c_p5 (V : World) (h : Cur w V b s5 N) (hN : N ≤ 1000) : Calls Tryz.prog 15 #[.pointer (some ⟨b, 0, none⟩)] V fun e V' => e = .returned (.tuple #[.int .i64 3, .bool true]) ∧ Cur w V' b s5 N := by
  obtain ⟨S, h1, h2, h3⟩ := h
  have := ry_pointv V h1 (by omega) (by decide)
  unfold PntO at this
  rw [show pointR s5 = 3 by kernel_rfl, show s5.top = 2 by kernel_rfl, if_neg (by decide)] at this
  exact this.mono fun e V' ⟨he, f⟩ => ⟨he, S, h1.same f, h2, h3.seq' f⟩
theorem c_d5 (V : World) (h : Cur w V b s5 N) (hN : N ≤ 1000) : Calls Tryz.prog 19 #[.pointer (some ⟨b, 0, none⟩)] V fun e V' => e = .returned (.int .i64 3) ∧ Fr (fun _ => False) w V' := by
  obtain ⟨S, h1, h2, h3⟩ := h
  have hn : nextR s5 = none := by kernel_rfl
  have := ry_donev V h1 (by omega) (fun x hx => by rw [hn] at hx; cases hx)
  rw [show doneR s5 = 3 by kernel_rfl] at this
  exact this.mono fun e V' ⟨he, f⟩ => ⟨he, h3.seq' f⟩
end
def kC : Array Value := #[.int .i64 1, .int .i64 0, .int .i64 0, .int .i64 0, .string ⟨#[]⟩, .slice none 0 0, .slice none 0 0, .slice none 0 0, .int .i64 2, .int .i64 0, .int .i64 0, .int .i64 0, .string ⟨#[]⟩, .slice none 0 0, .slice none 0 0, .slice none 0 0]
theorem k_slots {W : World} {B : Nat} {t : TypeId} (h : W.heap[B]? = some (.cells kC t (0, 0))) : Slots W (some ⟨B, 0, none⟩) 2 kL := by
  refine ⟨Nat.le_refl 2, by omega, .inr ⟨_, _, rfl, lt_of_block h, fun i s hs => ?_⟩, fun s hs => ?_⟩
  · match i, hs with
    | 0, hs =>
      cases hs
      exact range_block h (fun j v hv => by
        match j, hv with
        | 0, hv | 1, hv | 2, hv | 3, hv | 4, hv | 5, hv | 6, hv | 7, hv => exact hv
        | j + 8, hv => simp [slC] at hv)
    | 1, hs =>
      cases hs
      exact range_block h (fun j v hv => by
        match j, hv with
        | 0, hv | 1, hv | 2, hv | 3, hv | 4, hv | 5, hv | 6, hv | 7, hv => exact hv
        | j + 8, hv => simp [slC] at hv)
    | i + 2, hs => simp [kL] at hs
  · have : s.nd = zn ∧ s.pt = zp := by
      rcases (by simpa [kL] using hs : s = ⟨1, zn, zp⟩ ∨ s = ⟨2, zn, zp⟩) with rfl | rfl <;> exact ⟨rfl, rfl⟩
    rw [this.1, this.2]; exact zn_nod _
theorem c_new (V : World) (a : Option Addr) (h : Slots V a 2 kL) : Calls Tryz.prog 10 #[.slice a 2 2, .int .i64 0, .int .i64 2] V fun e V' => ∃ b, e = .returned (.tuple #[.pointer (some ⟨b, 0, none⟩), .int .i64 0]) ∧ Cur V V' b s0 2 := by
  have := ry_new a 2 2 kL rfl (by omega) V h (by kernel_rfl) 0 2 (by decide) (by omega) (by omega)
  exact this.mono fun e V' ⟨b, S, he, h1, h2, h3⟩ => ⟨b, he, S, h1, h2, h3⟩
end Go.Proofs.YtkibbojiflklpaaGreat

/- speaks. -/
namespace Go.Proofs.YtkibbojiflklpaaGreat
open Go.RowKit Go.Shelf

set_option maxRecDepth 100000 in
set_option maxHeartbeats 4000000 in
theorem ryspk_any (w : World) : Calls Tryz.prog 9 #[] w fun e w' => e = .returned (.bool true) ∧ Fr (fun _ => False) w w' := by
  have hnew := c_new (w.alloc (.cells kC 35)) (some ⟨w.heap.size, 0, none⟩) (k_slots (heap_alloc_new w _))
  have HF0 : Hid (Fr (fun _ => False) w (w.alloc (.cells kC 35))) := Fr.box _ _
  obtain ⟨V0, hV0⟩ : ∃ V0, V0 = w.alloc (.cells kC 35) := ⟨_, rfl⟩
  rw [← hV0] at hnew HF0
  have HV0 : Hid (V0 = w.alloc (.cells kC 35)) := hV0
  unfold kC at HV0
  clear hV0
  go_enter Tryz.func9, Tryz.ntmps9
  go_wp2_with (rw [← HV0.out]; refine hnew.mono ?_; rintro e w1 ⟨b, rfl, h1⟩; clear hnew)
  have H1 : Hid (Cur V0 w1 b s0 2) := h1
  clear h1
  go_wp2_with fail
  refine (c_f1 _ H1.out (by omega)).mono ?_
  rintro e w2 ⟨rfl, h2⟩
  have H2 : Hid (Cur V0 w2 b s1 3) := h2
  clear h2 H1
  go_wp2_with fail
  refine (c_f2 _ H2.out (by omega)).mono ?_
  rintro e w3 ⟨rfl, h3⟩
  have H3 : Hid (Cur V0 w3 b s2 4) := h3
  clear h3 H2
  go_wp2_with fail
  refine (c_f3 _ H3.out).mono ?_
  rintro e w4 ⟨rfl, h4⟩
  have H4 : Hid (Cur V0 w4 b s3 4) := h4
  clear h4 H3
  go_wp2_with fail
  refine (c_w0 _ H4.out (by omega)).mono ?_
  rintro e w5 ⟨rfl, h5⟩
  have H5 : Hid (Cur V0 w5 b s4 6) := h5
  clear h5 H4
  go_wp2_with fail
  refine (c_p4 _ H5.out (by omega)).mono ?_
  rintro e w6 ⟨rfl, h6⟩
  have H6 : Hid (Cur V0 w6 b s4 6) := h6
  clear h6 H5
  go_wp2_with fail
  refine (c_w1 _ H6.out (by omega)).mono ?_
  rintro e w7 ⟨rfl, h7⟩
  have H7 : Hid (Cur V0 w7 b s5 8) := h7
  clear h7 H6
  go_wp2_with fail
  refine (c_p5 _ H7.out (by omega)).mono ?_
  rintro e w8 ⟨rfl, h8⟩
  have H8 : Hid (Cur V0 w8 b s5 8) := h8
  clear h8 H7
  go_wp2_with fail
  refine (c_d5 _ H8.out (by omega)).mono ?_
  rintro e w9 ⟨rfl, f9⟩
  have HF9 : Hid (Fr (fun _ => False) w w9) := HF0.out.seq' f9
  clear f9 H8
  go_wp2
  go_ret
  exact ⟨rfl, HF9.out⟩
end Go.Proofs.YtkibbojiflklpaaGreat
