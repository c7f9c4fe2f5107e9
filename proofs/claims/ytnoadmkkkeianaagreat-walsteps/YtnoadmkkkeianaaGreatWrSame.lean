
/- Both logs look the same. -/
import Derived.Test.YtnoadmkkkeianaaGreatWrLoop
import Derived.Test.YtnoadmkkkeianaaGreatWrMarks
namespace Go.Proofs.YtnoadmkkkeianaaGreat
open Go.RowKit Crcm

set_option maxRecDepth 100000 in
set_option maxHeartbeats 8000000 in
theorem lsame_any (n : Int) (hb : -9223372036854775808 ≤ n ∧ n ≤ 9223372036854775807) (lb rb : Nat) (rv rx : Value) (ls : List Rec) (fl : Int) (w : World) (h : Lg w lb rv ls fl) (k : Rlg w rb rx ls fl) (hw : Wl ls) :
    Calls Tryz.prog 12 #[.pointer (some ⟨lb, 0, none⟩), .pointer (some ⟨rb, 0, none⟩), .int .i64 n] w fun e w' => e = .returned (.bool true) ∧ Fr (fun _ => False) w w' := by
  have hbig := hw.big
  have C1 := fun W hW => last_lg lb rv ls fl W hW hw
  have C2 := fun W hW => rlast_lg rb rx ls fl W hW hbig
  have C3 := fun W hW => get_lg n lb rv ls fl W hW hbig
  have C4 := fun W hW => rget_lg n rb rx ls fl W hW hbig
  have C5 := fun W hW => flushed_lg lb rv ls fl W hW
  have C6 := fun W hW => from_lg n 3 hb lb rv ls fl W hW hbig
  have C7 := fun W hW => rfrom_lg n 3 rb rx ls fl W hW hw
  have C8 := fun W hW => marks_lg lb rv ls fl W hW hw
  have C9 := fun W hW => rmarks_lg rb rx ls fl W hW hw
  obtain ⟨M, hM⟩ : ∃ M, M = mks ls := ⟨_, rfl⟩
  obtain ⟨A, hA⟩ : ∃ A, A = frF ls n 3 := ⟨_, rfl⟩
  obtain ⟨r, hr⟩ : ∃ r, r = gtR ls n := ⟨_, rfl⟩
  obtain ⟨er, her⟩ : ∃ er, er = gtE ls n := ⟨_, rfl⟩
  obtain ⟨le, hle⟩ : ∃ le, le = lastE ls := ⟨_, rfl⟩
  rw [← hM] at C8 C9
  rw [← hA] at C6 C7
  rw [← hr, ← her] at C3 C4
  rw [← hle] at C1 C2
  clear hM hA hr her hle hbig hw hb
  go_enter Tryz.func12, Tryz.ntmps12
  go_wp2_with fail
  refine (C1 _ h).mono ?_
  rintro e w1 ⟨rfl, f1⟩
  have h1 := h.same f1
  have k1 := k.same f1
  clear C1 h k
  go_wp2_with fail
  refine (C2 _ k1).mono ?_
  rintro e w2 ⟨rfl, f2⟩
  have h2 := h1.same f2
  have k2 := k1.same f2
  have F2 := f1.seq' f2
  clear C2 h1 k1 f1 f2
  go_wp2_with fail
  refine (C3 _ h2).mono ?_
  rintro e w3 ⟨rfl, f3⟩
  have fb3 := Fr.box w3 (.cells #[.int .i64 r.lsn, .int .i64 r.ep, .int .i64 r.kind, .int .i64 r.page, .int .i64 r.other, .int .i64 r.req, .string r.key, .string r.val] 30)
  have h3 := h2.same (f3.seq' fb3)
  have k3 := k2.same (f3.seq' fb3)
  have F3 := F2.seq' (f3.seq' fb3)
  have x3 : (w3.alloc (.cells #[.int .i64 r.lsn, .int .i64 r.ep, .int .i64 r.kind, .int .i64 r.page, .int .i64 r.other, .int .i64 r.req, .string r.key, .string r.val] 30)).heap[w3.heap.size]? = some (.cells #[.int .i64 r.lsn, .int .i64 r.ep, .int .i64 r.kind, .int .i64 r.page, .int .i64 r.other, .int .i64 r.req, .string r.key, .string r.val] 30 (0, 0)) := heap_alloc_new w3 _
  obtain ⟨W3, hW3⟩ : ∃ W, W = w3.alloc (.cells #[.int .i64 r.lsn, .int .i64 r.ep, .int .i64 r.kind, .int .i64 r.page, .int .i64 r.other, .int .i64 r.req, .string r.key, .string r.val] 30) := ⟨_, rfl⟩
  have HW3 : Hid (w3.alloc (.cells #[.int .i64 r.lsn, .int .i64 r.ep, .int .i64 r.kind, .int .i64 r.page, .int .i64 r.other, .int .i64 r.req, .string r.key, .string r.val] 30) = W3) := hW3.symm
  rw [← hW3] at h3 k3 F3 x3
  obtain ⟨b1, hb1⟩ : ∃ b1, b1 = w3.heap.size := ⟨_, rfl⟩
  rw [← hb1] at x3
  clear C3 h2 k2 F2 f3 fb3 hW3
  go_upto_region 4 with fail
  rw [HW3.out, ← hb1]
  clear hb1 HW3
  go_wp2_with fail
  refine (C4 _ k3).mono ?_
  rintro e w4 ⟨rfl, f4⟩
  have fb4 := Fr.box w4 (.cells #[.int .i64 r.lsn, .int .i64 r.ep, .int .i64 r.kind, .int .i64 r.page, .int .i64 r.other, .int .i64 r.req, .string r.key, .string r.val] 30)
  have h4 := h3.same (f4.seq' fb4)
  have k4 := k3.same (f4.seq' fb4)
  have F4 := F3.seq' (f4.seq' fb4)
  have x4 : (w4.alloc (.cells #[.int .i64 r.lsn, .int .i64 r.ep, .int .i64 r.kind, .int .i64 r.page, .int .i64 r.other, .int .i64 r.req, .string r.key, .string r.val] 30)).heap[w4.heap.size]? = some (.cells #[.int .i64 r.lsn, .int .i64 r.ep, .int .i64 r.kind, .int .i64 r.page, .int .i64 r.other, .int .i64 r.req, .string r.key, .string r.val] 30 (0, 0)) := heap_alloc_new w4 _
  have x34 : (w4.alloc (.cells #[.int .i64 r.lsn, .int .i64 r.ep, .int .i64 r.kind, .int .i64 r.page, .int .i64 r.other, .int .i64 r.req, .string r.key, .string r.val] 30)).heap[b1]? = some (.cells #[.int .i64 r.lsn, .int .i64 r.ep, .int .i64 r.kind, .int .i64 r.page, .int .i64 r.other, .int .i64 r.req, .string r.key, .string r.val] 30 (0, 0)) := by rw [(f4.seq' fb4).block b1 (lt_of_block x3) (fun f => f)]; exact x3
  obtain ⟨W4, hW4⟩ : ∃ W, W = w4.alloc (.cells #[.int .i64 r.lsn, .int .i64 r.ep, .int .i64 r.kind, .int .i64 r.page, .int .i64 r.other, .int .i64 r.req, .string r.key, .string r.val] 30) := ⟨_, rfl⟩
  have HW4 : Hid (w4.alloc (.cells #[.int .i64 r.lsn, .int .i64 r.ep, .int .i64 r.kind, .int .i64 r.page, .int .i64 r.other, .int .i64 r.req, .string r.key, .string r.val] 30) = W4) := hW4.symm
  rw [← hW4] at h4 k4 F4 x4 x34
  obtain ⟨b2, hb2⟩ : ∃ b2, b2 = w4.heap.size := ⟨_, rfl⟩
  rw [← hb2] at x4
  clear C4 h3 k3 F3 f4 fb4 hW4 x3
  go_upto_region 5 with fail
  rw [HW4.out, ← hb2]
  clear hb2 HW4
  have HS : Hid (∀ W, Fr (fun _ => False) W4 W → (W.cell? ⟨b1, 0, none⟩ = some (.int .i64 r.lsn) ∧ W.cell? ⟨b1, 1, none⟩ = some (.int .i64 r.ep) ∧ W.cell? ⟨b1, 2, none⟩ = some (.int .i64 r.kind) ∧ W.cell? ⟨b1, 3, none⟩ = some (.int .i64 r.page) ∧ W.cell? ⟨b1, 4, none⟩ = some (.int .i64 r.other) ∧ W.cell? ⟨b1, 5, none⟩ = some (.int .i64 r.req) ∧ W.cell? ⟨b1, 6, none⟩ = some (.string r.key) ∧ W.cell? ⟨b1, 7, none⟩ = some (.string r.val)) ∧ (W.cell? ⟨b2, 0, none⟩ = some (.int .i64 r.lsn) ∧ W.cell? ⟨b2, 1, none⟩ = some (.int .i64 r.ep) ∧ W.cell? ⟨b2, 2, none⟩ = some (.int .i64 r.kind) ∧ W.cell? ⟨b2, 3, none⟩ = some (.int .i64 r.page) ∧ W.cell? ⟨b2, 4, none⟩ = some (.int .i64 r.other) ∧ W.cell? ⟨b2, 5, none⟩ = some (.int .i64 r.req) ∧ W.cell? ⟨b2, 6, none⟩ = some (.string r.key) ∧ W.cell? ⟨b2, 7, none⟩ = some (.string r.val)) ∧ W.cell? ⟨rb, 1, none⟩ = some (.int .i64 fl)) := fun W f => by
    refine ⟨(rec_cells (w' := W) (t := 30) ?_).1, (rec_cells (w' := W) (t := 30) ?_).1, (cell_of_two (k4.same f).box).2.1⟩
    · rw [f.block b1 (lt_of_block x34) (fun f => f)]; exact x34
    · rw [f.block b2 (lt_of_block x4) (fun f => f)]; exact x4
  have HL : Hid (∀ W, Fr (fun _ => False) W4 W → Lg W lb rv ls fl) := fun W f => h4.same f
  have HR : Hid (∀ W, Fr (fun _ => False) W4 W → Rlg W rb rx ls fl) := fun W f => k4.same f
  have g0 := (Fr.refl (fun _ => False) W4).drew
  clear x4 x34 h4 k4
  go_region_held3 (fun W => (W.cell? ⟨b1, 0, none⟩ = some (.int .i64 r.lsn) ∧ W.cell? ⟨b1, 1, none⟩ = some (.int .i64 r.ep) ∧ W.cell? ⟨b1, 2, none⟩ = some (.int .i64 r.kind) ∧ W.cell? ⟨b1, 3, none⟩ = some (.int .i64 r.page) ∧ W.cell? ⟨b1, 4, none⟩ = some (.int .i64 r.other) ∧ W.cell? ⟨b1, 5, none⟩ = some (.int .i64 r.req) ∧ W.cell? ⟨b1, 6, none⟩ = some (.string r.key) ∧ W.cell? ⟨b1, 7, none⟩ = some (.string r.val)) ∧ (W.cell? ⟨b2, 0, none⟩ = some (.int .i64 r.lsn) ∧ W.cell? ⟨b2, 1, none⟩ = some (.int .i64 r.ep) ∧ W.cell? ⟨b2, 2, none⟩ = some (.int .i64 r.kind) ∧ W.cell? ⟨b2, 3, none⟩ = some (.int .i64 r.page) ∧ W.cell? ⟨b2, 4, none⟩ = some (.int .i64 r.other) ∧ W.cell? ⟨b2, 5, none⟩ = some (.int .i64 r.req) ∧ W.cell? ⟨b2, 6, none⟩ = some (.string r.key) ∧ W.cell? ⟨b2, 7, none⟩ = some (.string r.val)) ∧ W.cell? ⟨rb, 1, none⟩ = some (.int .i64 fl))
    (first | with_reducible exact HS.out _ g0 | with_reducible exact HS.out _ g6 | with_reducible exact HS.out _ g7 | with_reducible exact HS.out _ g8 | with_reducible exact HS.out _ g9 | with_reducible exact HS.out _ g10 | with_reducible exact HS.out _ g11)
    ((first
      | (go_at_call 30; refine (C5 _ (HL.out _ g0)).mono ?_; rintro e w5 ⟨rfl, rfl⟩)
      | (go_at_call 19; refine (C6 _ (HL.out _ g0)).mono ?_; rintro e w6 ⟨a6, c6, rfl, r6, f6⟩; have g6 := g0.seq' f6)
      | (go_at_call 31; refine (C7 _ (HR.out _ g6)).mono ?_; rintro e w7 ⟨a7, c7, rfl, r7, f7⟩; have g7 := g6.seq' f7; have r67 := r6.same f7)
      | (go_at_call 18; refine (plain_recs _ _ _ _ _ _ A rfl rfl _ r67 r7).mono ?_; rintro e w8 ⟨rfl, f8⟩; have g8 := g7.seq' f8)
      | (go_at_call 33; refine (C8 _ (HL.out _ g8)).mono ?_; rintro e w9 ⟨a9, c9, rfl, r9, f9⟩; have g9 := g8.seq' f9)
      | (go_at_call 34; refine (C9 _ (HR.out _ g9)).mono ?_; rintro e w10 ⟨a10, c10, rfl, r10, f10⟩; have g10 := g9.seq' f10; have r910 := r9.same f10)
      | (go_at_call 32; refine (plain_marks _ _ _ _ _ _ M rfl rfl _ r910 r10).mono ?_; rintro e w11 ⟨rfl, f11⟩; have g11 := g10.seq' f11)))
  go_wp2
  go_ret
  exact ⟨rfl, F4.seq' g11⟩
end Go.Proofs.YtnoadmkkkeianaaGreat
