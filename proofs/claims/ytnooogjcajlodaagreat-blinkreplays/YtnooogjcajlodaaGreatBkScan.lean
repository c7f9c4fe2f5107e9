
/- Scan of a nil tree. -/
import Derived.Test.YtnooogjcajlodaaGreatBN7
namespace Go.Proofs.YtnooogjcajlodaaGreat
open Go.RowKit

theorem lv_nil : treeE [] = [] := by kernel_rfl
/-- What stands between rounds, of which none comes. -/
structure ScI (w : World) (B : Nat) (pre : List (ByteArray × ByteArray)) (W : World) : Prop where
  no : pre = []
  fr : Fr (fun _ => False) w W
  bx : W.heap[B]? = some (.cells #[.slice none 0 0] 29 (0, 0))
set_option maxRecDepth 100000 in
set_option maxHeartbeats 4000000 in
theorem scan_none (k1 k2 : ByteArray) (most : Int) (w : World) : Calls Tryz.prog 11 #[.pointer none, .string k1, .string k2, .int .i64 most] w fun e w' => e = .returned (.slice none 0 0) ∧ Fr (fun _ => False) w w' := by
  have f0 : Fr (fun _ => False) w ((((w.alloc (.cells #[.string k1] 9)).alloc (.cells #[.string k2] 9)).alloc (.cells #[.int .i64 most] 3)).alloc (.cells #[.slice none 0 0] 29)) := ((((Fr.refl _ _).alloc _).alloc _).alloc _).alloc _
  have hB := heap_alloc_new (((w.alloc (.cells #[.string k1] 9)).alloc (.cells #[.string k2] 9)).alloc (.cells #[.int .i64 most] 3)) (.cells #[.slice none 0 0] 29)
  rw [show (((w.alloc (.cells #[.string k1] 9)).alloc (.cells #[.string k2] 9)).alloc (.cells #[.int .i64 most] 3)).heap.size = w.heap.size + 3 by simp] at hB
  have hsz : ((((w.alloc (.cells #[.string k1] 9)).alloc (.cells #[.string k2] 9)).alloc (.cells #[.int .i64 most] 3)).alloc (.cells #[.slice none 0 0] 29)).heap.size = w.heap.size + 4 := by simp
  have HLV : Hid (∀ W, Calls Tryz.prog 25 #[.slice none 0 0] W fun e w' => LvOut [] W e w') := fun W => leaves_any none 0 0 [] rfl W ⟨Nat.le_refl _, by omega, .inl rfl, fun s hs => by cases hs⟩
  refine (callsIn_wide (n := 0)).1 ?_
  refine callsIn_of_wp_marks Tryz.func11 rfl trivial ?_ rfl
  simp only [Tryz.ntmps11, List.size_toArray, List.length_cons, List.length_nil, Nat.reduceAdd, Nat.reduceSub, Array.replicate_succ, Array.replicate_zero, List.push_toArray, List.append_toArray, List.nil_append, List.cons_append]
  gi_wp2
  generalize (((w.alloc (.cells #[.string k1] 9)).alloc (.cells #[.string k2] 9)).alloc (.cells #[.int .i64 most] 3)).alloc (.cells #[.slice none 0 0] 29) = V0 at *
  refine ⟨trivial, rfl, (callsIn_wide.2 (all_none _)).mono ?_⟩
  rintro e w1 ⟨rfl, f1⟩
  gi_wp2
  refine ⟨trivial, rfl, (callsIn_wide.2 (HLV.out _)).mono ?_⟩
  intro e w2 hlv
  obtain ⟨la, ln, lc, lb, rfl, _, hln, hsp, hkv, f2⟩ := lv_both hlv
  have hTE : lvE ((leavesF []).getD []) = [] := lv_nil
  generalize (leavesF []).getD [] = sp at *
  clear hlv
  have HLN : Hid (ln = sp.length) := hln
  clear hln
  gi_wp2
  refine ⟨trivial, rfl, (callsIn_wide.2 (entsOf_call la ln lc _)).mono ?_⟩
  rintro e w' ⟨rfl, rfl⟩
  gi_wp2
  have fa := Fr.box w2 (.cells #[.slice la ln lc] 71)
  have hbl := heap_alloc_new w2 (.cells #[.slice la ln lc] 71)
  have hs2 : (w2.alloc (.cells #[.slice la ln lc] 71)).heap.size = w2.heap.size + 1 := by simp
  have F2 := (f1.seq' f2).seq' fa
  have hz2 := (f1.seq' f2).size
  have fV := f0.seq' F2
  have hv3 := F2.blk hB (fun f => f)
  have hsV := hsp.same fa
  generalize w2.alloc (.cells #[.slice la ln lc] 71) = V at *
  have hit := ent_iter la ln lc sp HLN.out (fun s hs => (hkv s hs).1) w2.heap.size (fun q => q < V.heap.size) V ?S ?C
  case S =>
    intro W f
    refine hsV.on f (ls := []) (pa := none) ⟨Nat.le_refl _, by simp, .inl rfl, fun s hs => by cases hs⟩ (fun s hs => (hkv s hs).2) (fun b off hne ha => ?_)
    rcases hsV.at_ with h0 | ⟨b', off', e, hb, _⟩
    · exact absurd h0 hne
    · rw [ha] at e; cases e; exact hb
  case C => intro W f; exact (one_cells (f.blk hbl (fun e => e (by omega)))).1
  refine over (gf := 61) (lb := #[.pointer (some ⟨w2.heap.size, 0, none⟩)]) rfl (enters_of Tryz.func61 (by kernel_rfl) rfl) hit (Fr.refl _ _) (fun _ => rfl)
    (fun _ _ => False) (ScI w (w.heap.size + 3)) (fun _ _ _ => False) ?st ?stx ?ol ?bk ?ap ?h0 ?round ?done ?stop
  case st => intro pre A B hI f; exact ⟨hI.no, hI.fr.trans f (fun i hi e => by omega), f.blk hI.bx (by omega)⟩
  case stx => intro cd pre A B hX; exact hX.elim
  case ol => intro pre A q hI h; exact h.elim
  case bk => intro pre A B q _ _ h; exact h
  case ap => intro pre A q _ h; exact h.elim
  case h0 => exact ⟨rfl, fV, hv3⟩
  case round =>
    intro pre x W hI hpx
    rw [hTE] at hpx
    have := hpx.length_le
    simp at this
  case stop => intro cd pre W hX; exact hX.elim
  case done =>
    rintro xs W rfl hI hK
    obtain ⟨c1, c2⟩ := one_cells hI.bx
    have fp := Fr.put W V.heap.size (.deferred none)
    have fE := hI.fr.trans fp (S := fun _ => False) (fun i hi e => by omega)
    clear hs2
    gi_wp2
    refine ⟨by simp, .inl ⟨_, _, rfl, run_takeDeferred hK, ?_⟩⟩
    exact ⟨.slice none 0 0, by simp [results, Tryz.results11, go_sem], rfl, fE⟩
end Go.Proofs.YtnooogjcajlodaaGreat
