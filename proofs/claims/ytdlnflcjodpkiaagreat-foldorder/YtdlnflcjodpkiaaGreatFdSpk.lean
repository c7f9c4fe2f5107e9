
/- A little history, and what speaks says of it. -/
import Derived.Test.YtdlnflcjodpkiaaGreatFdAgr2
import Derived.Test.YtdlnflcjodpkiaaGreatFdOnce
import Derived.Test.YtdlnflcjodpkiaaGreatFdExt
import Derived.Test.YtdlnflcjodpkiaaGreatFdPlain
namespace Go.Proofs.YtdlnflcjodpkiaaGreat
open Go.RowKit Go.Shelf

def litL : List Rec := [⟨1, 0, 7, 0, 1, 1, ⟨#[97]⟩, ⟨#[120]⟩⟩, ⟨2, 0, 7, 0, 1, 2, ⟨#[98]⟩, ⟨#[121]⟩⟩, ⟨3, 0, 7, 0, 1, 3, ⟨#[97]⟩, ⟨#[122]⟩⟩, ⟨4, 0, 7, 0, 2, 4, ⟨#[98]⟩, ⟨#[]⟩⟩]
theorem lit_hist : hist litL = litL := by kernel_rfl
theorem lit_hist2 : hist (litL.take 2) = litL.take 2 := by kernel_rfl
theorem lit_beh : beh (litL.take 4) = [(⟨#[97]⟩, ⟨#[122]⟩)] := by kernel_rfl
theorem lit_once : oncB litL = true := by kernel_rfl
theorem lit_agr : agr litL ⟨1, ⟨#[97]⟩, ⟨#[]⟩⟩ ⟨true, ⟨#[122]⟩, []⟩ 0 = some 3 := by
  refine agr_at (by kernel_rfl) (by decide) (by decide) (by kernel_rfl) fun j hj _ => ?_
  match j, hj with
  | 0, _ => show atB litL ⟨1, ⟨#[97]⟩, ⟨#[]⟩⟩ ⟨true, ⟨#[122]⟩, []⟩ 0 = false; kernel_rfl
  | 1, _ => show atB litL ⟨1, ⟨#[97]⟩, ⟨#[]⟩⟩ ⟨true, ⟨#[122]⟩, []⟩ 1 = false; kernel_rfl
  | 2, _ => show atB litL ⟨1, ⟨#[97]⟩, ⟨#[]⟩⟩ ⟨true, ⟨#[122]⟩, []⟩ 2 = false; kernel_rfl
theorem lit_ext : extB litL (litL.take 2) = true := by
  refine extB_yes ⟨by decide, fun i a b ha hb => ?_⟩
  match i with
  | 0 => simp [litL] at ha hb; subst ha hb; show sayB _ _ = true; kernel_rfl
  | 1 => simp [litL] at ha hb; subst ha hb; show sayB _ _ = true; kernel_rfl
  | i + 2 => simp [litL] at hb
theorem little_any (w : World) : Calls Tryz.prog 37 #[] w fun e w' => ∃ a, e = .returned (.slice (some a) 4 4) ∧ Recs w' (some a) 4 litL ∧ Fr (fun _ => False) w w' := by
  go_enter Tryz.func37, Tryz.ntmps37
  go_wp2
  go_ret
  refine ⟨_, rfl, ⟨by decide, by omega, .inr ⟨_, _, rfl, by simp, fun i r hr => ?_⟩⟩, Fr.box w _⟩
  have hb := heap_alloc_new w (.cells #[.int .i64 1, .int .i64 0, .int .i64 7, .int .i64 0, .int .i64 1, .int .i64 1, .string ⟨#[97]⟩, .string ⟨#[120]⟩, .int .i64 2, .int .i64 0, .int .i64 7, .int .i64 0, .int .i64 1, .int .i64 2, .string ⟨#[98]⟩, .string ⟨#[121]⟩, .int .i64 3, .int .i64 0, .int .i64 7, .int .i64 0, .int .i64 1, .int .i64 3, .string ⟨#[97]⟩, .string ⟨#[122]⟩, .int .i64 4, .int .i64 0, .int .i64 7, .int .i64 0, .int .i64 2, .int .i64 4, .string ⟨#[98]⟩, .string ⟨#[]⟩] 53)
  refine range_block hb fun j v hv => ?_
  match i with
  | 0 => simp [litL] at hr; subst hr; (match j with
    | 0 | 1 | 2 | 3 | 4 | 5 | 6 | 7 => simpa [recC] using hv
    | j + 8 => simp [recC] at hv)
  | 1 => simp [litL] at hr; subst hr; (match j with
    | 0 | 1 | 2 | 3 | 4 | 5 | 6 | 7 => simpa [recC] using hv
    | j + 8 => simp [recC] at hv)
  | 2 => simp [litL] at hr; subst hr; (match j with
    | 0 | 1 | 2 | 3 | 4 | 5 | 6 | 7 => simpa [recC] using hv
    | j + 8 => simp [recC] at hv)
  | 3 => simp [litL] at hr; subst hr; (match j with
    | 0 | 1 | 2 | 3 | 4 | 5 | 6 | 7 => simpa [recC] using hv
    | j + 8 => simp [recC] at hv)
  | i + 4 => simp [litL] at hr
theorem lit_take2 {w : World} {a : Addr} (h : Recs w (some a) 4 litL) : Recs w (some a) 4 (litL.take 2) := by
  refine ⟨by decide, h.max, ?_⟩
  rcases h.at_ with h0 | ⟨b, off, h1, h2, h3⟩
  · cases h0
  · refine .inr ⟨b, off, h1, h2, fun i r hr => h3 i r ?_⟩
    rw [List.getElem?_take] at hr
    split at hr
    · exact hr
    · cases hr
set_option maxRecDepth 100000 in
set_option maxHeartbeats 4000000 in
theorem speaks_any (w : World) : Calls Tryz.prog 13 #[] w fun e w' => e = .returned (.bool true) ∧ Fr (fun _ => False) w w' := by
  have HLI : Hid (∀ W, Calls Tryz.prog 37 #[] W fun e w' => ∃ a, e = .returned (.slice (some a) 4 4) ∧ Recs w' (some a) 4 litL ∧ Fr (fun _ => False) W w') := little_any
  have HBE : Hid (∀ a W, Recs W (some a) 4 litL → Calls Tryz.prog 14 #[.slice (some a) 4 4, .int .i64 4] W fun e w' => ∃ b c, e = .returned (.tuple #[.slice b 1 c, .int .i64 0]) ∧ Ens w' b c [(⟨#[97]⟩, ⟨#[122]⟩)] ∧ Fr (fun _ => False) W w') := fun a W hr => by
    have h := behind_ok (some a) 4 4 litL rfl (by omega) 4 (by rw [lit_hist]; decide) W hr
    rw [lit_hist, lit_beh] at h
    exact h.mono fun e w' ⟨b, c, h1, h2, _, h4⟩ => ⟨b, c, h1, h2, h4⟩
  have HAG : Hid (∀ a W, Recs W (some a) 4 litL → Calls Tryz.prog 29 #[.slice (some a) 4 4, .agg #[.int .i64 1, .string ⟨#[97]⟩, .string ⟨#[]⟩], .agg #[.bool true, .string ⟨#[122]⟩, .slice none 0 0], .int .i64 0] W fun e w' => e = .returned (.tuple #[.int .i64 3, .bool true]) ∧ Fr (fun _ => False) W w') := fun a W hr => by
    have h := agrees_any (some a) 4 4 litL rfl (by omega) ⟨1, ⟨#[97]⟩, ⟨#[]⟩⟩ (by decide) (by decide) ⟨true, ⟨#[122]⟩, []⟩ none 0 0 rfl (fun e he => by cases he) 0 W hr (Ens.nil W)
    rw [lit_hist, lit_agr] at h
    exact h
  have HON : Hid (∀ a W, Recs W (some a) 4 litL → Calls Tryz.prog 27 #[.slice (some a) 4 4] W fun e w' => e = .returned (.bool true) ∧ Fr (fun _ => False) W w') := fun a W hr => by
    have h := once_any (some a) 4 4 litL rfl (by omega) W hr
    rw [lit_hist, lit_once] at h
    exact h
  have HEX : Hid (∀ a b W, Recs W (some a) 4 litL → Recs W (some b) 4 litL → Calls Tryz.prog 25 #[.slice (some a) 4 4, .slice (some b) 2 4] W fun e w' => e = .returned (.bool true) ∧ Fr (fun _ => False) W w') := fun a b W hr hr2 => by
    have h := extends_any (some a) (some b) 4 2 4 4 litL (litL.take 2) rfl rfl (by omega) (by omega) W hr (lit_take2 hr2)
    rw [lit_hist, lit_hist2, lit_ext] at h
    exact h
  have hli := HLI.out w
  go_enter Tryz.func13, Tryz.ntmps13
  go_wp2_with fail
  refine hli.mono ?_
  rintro e w1 ⟨a1, rfl, r1, f1⟩
  have hbe := HBE.out a1 w1 r1
  clear hli r1
  go_wp2_with fail
  refine hbe.mono ?_
  rintro e w2 ⟨b2, c2, rfl, e2, f2⟩
  have F2 := f1.seq' f2
  have hli := HLI.out w2
  clear hbe f1 f2
  go_wp2_with fail
  refine hli.mono ?_
  rintro e w3 ⟨a3, rfl, r3, f3⟩
  have F3 := F2.seq' f3
  have E3 := e2.same f3
  have hag := HAG.out a3 w3 r3
  clear hli r3 e2 F2 f3
  go_wp2_with fail
  refine hag.mono ?_
  rintro e w4 ⟨rfl, f4⟩
  have F4 := F3.seq' f4
  have E4 := (E3.same f4).same (Fr.box w4 (.cells #[.string ⟨#[97]⟩, .string ⟨#[122]⟩] 77))
  have F5 := F4.seq' (Fr.box w4 (.cells #[.string ⟨#[97]⟩, .string ⟨#[122]⟩] 77))
  have X4 : Ens (w4.alloc (.cells #[.string ⟨#[97]⟩, .string ⟨#[122]⟩] 77)) (some ⟨w4.heap.size, 0, none⟩) 1 [(⟨#[97]⟩, ⟨#[122]⟩)] := ⟨Nat.le_refl _, by omega, .inr ⟨_, _, rfl, by simp, fun i e he => by
    match i with
    | 0 => simp at he; subst he; exact range_block (heap_alloc_new w4 _) (xs := enC (⟨#[97]⟩, ⟨#[122]⟩)) (o := 0) (fun j u hu => by rw [Nat.zero_add]; simpa [enC] using hu)
    | i + 1 => simp at he⟩⟩
  have hes := ents_same b2 (some ⟨w4.heap.size, 0, none⟩) 1 1 c2 1 [(⟨#[97]⟩, ⟨#[122]⟩)] rfl rfl _ E4 X4
  clear hag E3 E4 X4 F3 f4 F4
  go_wp2_with fail
  refine hes.mono ?_
  rintro e w6 ⟨rfl, f6⟩
  have F6 := F5.seq' f6
  have hli := HLI.out w6
  clear hes f6 F5
  go_wp2_with fail
  refine hli.mono ?_
  rintro e w7 ⟨a7, rfl, r7, f7⟩
  have F7 := F6.seq' f7
  have hon := HON.out a7 w7 r7
  clear hli r7 f7 F6
  go_wp2_with fail
  refine hon.mono ?_
  rintro e w8 ⟨rfl, f8⟩
  have F8 := F7.seq' f8
  have hli := HLI.out w8
  clear hon f8 F7
  go_wp2_with fail
  refine hli.mono ?_
  rintro e w9 ⟨a9, rfl, r9, f9⟩
  have F9 := F8.seq' f9
  have hli2 := HLI.out w9
  clear hli f9 F8
  go_wp2_with fail
  refine hli2.mono ?_
  rintro e w10 ⟨a10, rfl, r10, f10⟩
  have F10 := F9.seq' f10
  have hex := HEX.out a9 a10 w10 (r9.same f10) r10
  clear hli2 f10 F9 r9 r10
  go_wp2_with fail
  refine hex.mono ?_
  rintro e w11 ⟨rfl, f11⟩
  have F11 := F10.seq' f11
  clear hex
  go_wp2
  go_ret
  exact ⟨rfl, F11⟩
end Go.Proofs.YtdlnflcjodpkiaaGreat
