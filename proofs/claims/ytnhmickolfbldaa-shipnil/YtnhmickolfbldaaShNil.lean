
/- A nil log takes nothing. -/
import Derived.Test.YtnhmickolfbldaaShSpk
namespace Go.Proofs.Ytnhmickolfbldaa
open Go.RowKit Crcm

set_option maxRecDepth 100000 in
set_option maxHeartbeats 4000000 in
theorem take_nil (w : World) : Calls Try.prog 10 #[.pointer none, .agg #[.int .i64 0, .int .i64 0], .slice none 0 0] w fun e w' => e = .returned (.tuple #[.int .i64 0, .bool false, .int .i64 6]) ∧ Fr (fun _ => False) w w' := by
  obtain ⟨B, F, hz⟩ := boxes_are w (.pointer none) (.int .i64 0) (.int .i64 0)
  have hlk := look_nil (boxes w (.pointer none) (.int .i64 0) (.int .i64 0))
  obtain ⟨x0, x1, _⟩ := B.b1.cells
  obtain ⟨y0, _⟩ := B.b0.cell
  have HB : Hid (Bxs w (boxes w (.pointer none) (.int .i64 0) (.int .i64 0)) (.pointer none) (.int .i64 0) (.int .i64 0)) := B
  have HF : Hid (Fr (fun _ => False) w (boxes w (.pointer none) (.int .i64 0) (.int .i64 0))) := F
  unfold boxes at x0 x1 y0 hlk HB HF
  clear B F hz
  go_enter Try.func10, Try.ntmps10
  go_wp2_with fail
  refine hlk.mono ?_
  rintro e w1 ⟨rfl, f1⟩
  have B1 := HB.out.fr f1 (fun _ _ _ f => f)
  obtain ⟨W', hW', o2, o3, o4, fE⟩ := B1.put (.int .i64 0) (.bool false) (.int .i64 6)
  obtain ⟨c2, d2⟩ := B1.b2.cell
  obtain ⟨c3, d3⟩ := B1.b3.cell
  obtain ⟨c4, d4⟩ := B1.b4.cell
  have FW := (HF.out.seq' f1).trans fE (S := fun _ => False) (fun i hi e => by omega)
  obtain ⟨s2, _⟩ := o2.cell
  obtain ⟨s3, _⟩ := o3.cell
  obtain ⟨s4, _⟩ := o4.cell
  have HOUT : Hid (Fr (fun _ => False) w W') := FW
  rw [hW'] at s2 s3 s4 HOUT
  clear hW' o2 o3 o4 fE FW B1 f1
  go_wp2
  refine bodyPost_ret (v := .tuple #[.int .i64 0, .bool false, .int .i64 6]) (by simp [results, Try.results10, go_sem, s2, s3, s4]) rfl ?_
  exact ⟨rfl, HOUT.out⟩
end Go.Proofs.Ytnhmickolfbldaa
