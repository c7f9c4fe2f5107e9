
/- speaks. -/
import Derived.Test.YtfnbjmifdemkpaaGreatRySpk
namespace Go.Proofs.YtfnbjmifdemkpaaGreat
open Go.RowKit Go.Shelf

set_option maxRecDepth 100000 in
set_option maxHeartbeats 4000000 in
theorem ryspk_any (w : World) : Calls Tryz.prog 10 #[] w fun e w' => e = .returned (.bool true) ∧ Fr (fun _ => False) w w' := by
  have hnew := c_new (w.alloc (.cells kC 35)) (some ⟨w.heap.size, 0, none⟩) (k_slots (heap_alloc_new w _))
  have HF0 : Hid (Fr (fun _ => False) w (w.alloc (.cells kC 35))) := Fr.box _ _
  obtain ⟨V0, hV0⟩ : ∃ V0, V0 = w.alloc (.cells kC 35) := ⟨_, rfl⟩
  rw [← hV0] at hnew HF0
  have HV0 : Hid (V0 = w.alloc (.cells kC 35)) := hV0
  unfold kC at HV0
  clear hV0
  go_enter Tryz.func10, Tryz.ntmps10
  go_wp2_with (rw [← HV0.out]; refine hnew.mono ?_; rintro e w1 ⟨b, rfl, h1⟩; clear hnew)
  have H1 : Hid (Cur V0 w1 b s0 2) := h1
  clear h1
  go_wp2_with fail
  refine (c_f1 _ H1.out (by omega)).mono ?_
  rintro e w2 ⟨rfl, h2⟩
  have H2 : Hid (Cur V0 w2 b s1 3) := h2
  clear h2 H1
  go_wp2_with fail
  refine (c_f2 _ H2.out (by omega)).mono ?_
  rintro e w3 ⟨rfl, h3⟩
  have H3 : Hid (Cur V0 w3 b s2 4) := h3
  clear h3 H2
  go_wp2_with fail
  refine (c_f3 _ H3.out).mono ?_
  rintro e w4 ⟨rfl, h4⟩
  have H4 : Hid (Cur V0 w4 b s3 4) := h4
  clear h4 H3
  go_wp2_with fail
  refine (c_w0 _ H4.out (by omega)).mono ?_
  rintro e w5 ⟨rfl, h5⟩
  have H5 : Hid (Cur V0 w5 b s4 6) := h5
  clear h5 H4
  go_wp2_with fail
  refine (c_p4 _ H5.out (by omega)).mono ?_
  rintro e w6 ⟨rfl, h6⟩
  have H6 : Hid (Cur V0 w6 b s4 6) := h6
  clear h6 H5
  go_wp2_with fail
  refine (c_w1 _ H6.out (by omega)).mono ?_
  rintro e w7 ⟨rfl, h7⟩
  have H7 : Hid (Cur V0 w7 b s5 8) := h7
  clear h7 H6
  go_wp2_with fail
  refine (c_p5 _ H7.out (by omega)).mono ?_
  rintro e w8 ⟨rfl, h8⟩
  have H8 : Hid (Cur V0 w8 b s5 8) := h8
  clear h8 H7
  go_wp2_with fail
  refine (c_d5 _ H8.out (by omega)).mono ?_
  rintro e w9 ⟨rfl, f9⟩
  have HF9 : Hid (Fr (fun _ => False) w w9) := HF0.out.seq' f9
  clear f9 H8
  go_wp2
  go_ret
  exact ⟨rfl, HF9.out⟩
end Go.Proofs.YtfnbjmifdemkpaaGreat
