
/- WlSpeak. -/
import Derived.Test.YtnoadmkkkeianaaGreatYW2
import Derived.Test.YtnoadmkkkeianaaGreatYW3
/- That wal speaks. -/
namespace Go.Proofs.YtnoadmkkkeianaaGreat
open Go.RowKit Crcm

def s1 : Rec := ⟨0, 1, 1, 0, 0, 0, ⟨#[]⟩, ⟨#[]⟩⟩
def s2 : Rec := ⟨0, 3, 1, 0, 0, 0, ⟨#[]⟩, ⟨#[]⟩⟩
def t1 : Rec := ⟨1, 1, 1, 0, 0, 0, ⟨#[]⟩, ⟨#[]⟩⟩
def t2 : Rec := ⟨2, 3, 1, 0, 0, 0, ⟨#[]⟩, ⟨#[]⟩⟩
theorem t1_ok : rok t1 = true := by decide +kernel
theorem t2_ok : rok t2 = true := by decide +kernel
theorem ap1 : apE [] s1 = 0 := by decide +kernel
theorem ap1L : apL [] s1 = [t1] := by unfold apL; rw [if_pos ap1]; rfl
theorem ap1N : apN [] s1 = 1 := by unfold apN; rw [if_pos ap1]; rfl
theorem ap2 : apE [t1] s2 = 0 := by decide +kernel
theorem ap2L : apL [t1] s2 = [t1, t2] := by unfold apL; rw [if_pos ap2]; rfl
theorem ap2N : apN [t1] s2 = 2 := by unfold apN; rw [if_pos ap2]; rfl
theorem wlt1 : Wl [t1] := ap1L ▸ wl_ap wl_nil s1
theorem wlt2 : Wl [t1, t2] := ap2L ▸ wl_ap wlt1 s2
theorem lfr2 : (lfr [t1, t2]).length = 86 := by unfold lfr; rw [List.flatMap_cons, List.flatMap_cons, List.flatMap_nil, List.append_nil, List.length_append, frm_length, frm_length]; rfl
theorem lfr1 : (lfr [t1]).length = 43 := by unfold lfr; rw [List.flatMap_cons, List.flatMap_nil, List.append_nil, frm_length]; rfl
theorem read85 : wread ((lfr [t1, t2]).take 85) = ([t1], 43) := by
  have h1 : lfr [t1, t2] = lfr [t1] ++ frm t2 := by unfold lfr; simp
  have h2 : (lfr [t1, t2]).take 85 = lfr [t1] ++ (frm t2).take 42 := by
    rw [h1, List.take_append, lfr1, List.take_of_length_le (by rw [lfr1]; omega)]
  rw [h2, wread_torn [t1] wlt1 _ (by rw [rdec_cut t2 t2_ok 42 (by rw [frm_length]; decide)]; decide), lfr1]
theorem mks2 : mks [t1, t2] = [(1, 1), (3, 2)] := by decide
set_option maxRecDepth 100000 in
set_option maxHeartbeats 4000000 in
theorem wspeaks_any (w : World) : Calls Tryz.prog 15 #[] w fun e w' => e = .returned (.bool true) ∧ Fr (fun _ => False) w w' := by
  have HNL : Hid (∀ W, Lg W w.heap.size (.slice none 0 0) [] 0 → Calls Tryz.prog 6 #[.pointer (some ⟨w.heap.size, 0, none⟩), (.agg #[.int .i64 s1.lsn, .int .i64 s1.ep, .int .i64 s1.kind, .int .i64 s1.page, .int .i64 s1.other, .int .i64 s1.req, .string s1.key, .string s1.val])] W fun e w' => e = .returned (.tuple #[.int .i64 1, .int .i64 0]) ∧ ∃ rv', Lg w' w.heap.size rv' [t1] 0 ∧ Fr (lgS w.heap.size (.slice none 0 0)) W w') := fun W h => by
    refine (append_lg s1 _ _ [] 0 W h wl_nil).mono ?_
    rw [ap1, ap1N, ap1L]
    rintro e w' ⟨rfl, rv', h1, h2, _⟩
    exact ⟨rfl, rv', h1, h2⟩
  have HN2 : Hid (∀ W rv, Lg W w.heap.size rv [t1] 0 → Calls Tryz.prog 6 #[.pointer (some ⟨w.heap.size, 0, none⟩), (.agg #[.int .i64 s2.lsn, .int .i64 s2.ep, .int .i64 s2.kind, .int .i64 s2.page, .int .i64 s2.other, .int .i64 s2.req, .string s2.key, .string s2.val])] W fun e w' => e = .returned (.tuple #[.int .i64 2, .int .i64 0]) ∧ ∃ rv', Lg w' w.heap.size rv' [t1, t2] 0 ∧ Fr (lgS w.heap.size rv) W w') := fun W rv h => by
    refine (append_lg s2 _ _ [t1] 0 W h wlt1).mono ?_
    rw [ap2, ap2N, ap2L]
    rintro e w' ⟨rfl, rv', h1, h2, _⟩
    exact ⟨rfl, rv', h1, h2⟩
  have H86 : Hid ((lfr [t1, t2]).length = 86) := lfr2
  have HO : Hid (octs (lfr [t1, t2])) := lfr_octs _
  have HR85 : Hid (wread ((lfr [t1, t2]).take 85) = ([t1], 43)) := read85
  have HMK : Hid (mks [t1, t2] = [(1, 1), (3, 2)]) := mks2
  have HLE : Hid (lastE [t1] = 1) := rfl
  go_enter Tryz.func15, Tryz.ntmps15
  go_wp2_with fail
  refine (wnew_any w).mono ?_
  rintro e w1 ⟨rfl, l1, f1, hz1⟩
  go_wp2_with fail
  refine (HNL.out _ l1).mono ?_
  rintro e w2 ⟨rfl, rv2, l2, f2⟩
  have F2 := f1.trans f2 (S := fun _ => False) (fun i hi e => Or.elim e (fun e => by omega) (fun e => by cases e))
  clear l1
  go_wp2_with fail
  refine (HN2.out _ _ l2).mono ?_
  rintro e w3 ⟨rfl, rv3, l3, f3⟩
  have F3 := F2.trans f3 (S := fun _ => False) (fun i hi e => Or.elim e (fun e => by omega) (fun e => by have := l2.own i e; omega))
  clear l2
  go_wp2_with fail
  refine (bytes_lg _ _ _ _ _ l3 wlt2).mono ?_
  rintro e w4 ⟨v4, rfl, m4⟩
  obtain ⟨a4, c4, rfl, r4⟩ := m4.own.row HO.out (by rw [H86.out]; omega)
  have F4 := F3.seq' m4.fr
  have l4 := l3.same m4.fr
  rw [H86.out]
  have hle4 := r4.le
  rw [H86.out] at hle4
  have i1 : (85 : Int) ≤ (c4 : Int) := by omega
  have r85 := r4.take 85
  have H85 : Hid (((lfr [t1, t2]).take 85).length = 85) := by show _ = _; rw [List.length_take, H86.out]; rfl
  have hrd := read_any a4 85 c4 ((lfr [t1, t2]).take 85) H85.out.symm w4 r85
  rw [HR85.out] at hrd
  dsimp only at hrd
  clear m4 l3 r4 r85
  go_wp2_with fail
  refine hrd.mono ?_
  clear hrd
  rintro e w5 ⟨rfl, rv5, l5, wl5, f5, _⟩
  have F5 := F4.seq' f5
  have l45 := l4.same f5
  go_wp2_with fail
  refine (last_lg _ _ _ _ _ l5 wl5).mono ?_
  rw [HLE.out]
  rintro e w6 ⟨rfl, f6⟩
  have F6 := F5.seq' f6
  have l46 := l45.same f6
  have hmk := marks_lg _ _ _ _ _ l46 wlt2
  rw [HMK.out] at hmk
  go_wp2_with fail
  refine hmk.mono ?_
  clear hmk
  rintro e w7 ⟨a7, c7, rfl, mk7, f7⟩
  have F7 := F6.seq' f7
  have fb := Fr.box w7 (.cells #[.int .i64 1, .int .i64 1, .int .i64 3, .int .i64 2] 73)
  have mk8 : Mks (w7.alloc (.cells #[.int .i64 1, .int .i64 1, .int .i64 3, .int .i64 2] 73)) (some ⟨w7.heap.size, 0, none⟩) 2 [(1, 1), (3, 2)] := by
    refine ⟨Nat.le_refl _, by omega, .inr ⟨w7.heap.size, 0, rfl, by simp, fun i m hm => ?_⟩⟩
    refine range_block (heap_alloc_new w7 _) (fun j v hv => ?_)
    match i, hm with
    | 0, hm =>
      simp at hm; subst hm
      match j, hv with
      | 0, hv => simpa [mkC] using hv
      | 1, hv => simpa [mkC] using hv
    | 1, hm =>
      simp at hm; subst hm
      match j, hv with
      | 0, hv => simpa [mkC] using hv
      | 1, hv => simpa [mkC] using hv
  have hpl := plain_marks a7 (some ⟨w7.heap.size, 0, none⟩) 2 2 c7 2 [(1, 1), (3, 2)] rfl rfl _ (mk7.same fb) mk8
  go_wp2_with fail
  refine hpl.mono ?_
  rintro e w8 ⟨rfl, f8⟩
  go_wp2
  go_ret
  exact ⟨rfl, (F7.seq' fb).seq' f8⟩
end Go.Proofs.YtnoadmkkkeianaaGreat
