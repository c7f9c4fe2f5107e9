
/- Get. -/
import Derived.Test.YtlnkbjjohdmihaaGreatBkGet
namespace Go.Proofs.YtlnkbjjohdmihaaGreat
open Go.RowKit Go.Shelf
attribute [local go_sem] Oper.semAt_some

def fndE (es : List (ByteArray × ByteArray)) (k : ByteArray) : Option (ByteArray × ByteArray) := es.find? (fun e => e.1.toList == k.toList)
def geV (o : Option (ByteArray × ByteArray)) : ByteArray := match o with | none => ⟨#[]⟩ | some e => e.2
structure GtI (w : World) (k : ByteArray) (L pre : List (ByteArray × ByteArray)) (W : World) : Prop where
  pre_ : pre <+: L
  no : fndE pre k = none
  fr : Fr (fun _ => False) w W
  b3 : W.heap[w.heap.size]? = some (.cells #[.string k] 9 (0, 0))
  b4 : W.heap[w.heap.size + 1]? = some (.cells #[.string ⟨#[]⟩] 9 (0, 0))
  b5 : W.heap[w.heap.size + 2]? = some (.cells #[.bool false] 4 (0, 0))
structure GtX (w : World) (k : ByteArray) (L : List (ByteArray × ByteArray)) (c : Code) (pre : List (ByteArray × ByteArray)) (W : World) : Prop where
  ret : c = .ret
  fr : Fr (fun _ => False) w W
  hit : ∃ x, fndE L k = some x ∧ W.heap[w.heap.size + 1]? = some (.cells #[.string x.2] 9 (0, 0))
  b5 : W.heap[w.heap.size + 2]? = some (.cells #[.bool true] 4 (0, 0))
theorem two_cells {W : World} {b : Nat} {t : TypeId} {c0 c1 : Value} (h : W.heap[b]? = some (.cells #[c0, c1] t (0, 0))) : W.cell? ⟨b, 0, none⟩ = some c0 ∧ W.cell? ⟨b, 1, none⟩ = some c1 := by
  constructor <;> simp [World.cell?, h]
set_option maxRecDepth 100000 in
set_option maxHeartbeats 4000000 in
theorem get_any (tp : Option Addr) (k : ByteArray) (a : Option Addr) (n c : Nat) (ls : List Sl) (hn : n = ls.length) (w : World) (h : Slots w a c ls) (hall : ∀ W, Fr (fun _ => False) w W → Calls Tryz.prog 28 #[.pointer tp] W fun e w' => e = .returned (.slice a n c) ∧ Fr (fun _ => False) W w') :
    Calls Tryz.prog 12 #[.pointer tp, .string k] w fun e w' => e = .returned (.tuple #[.string (geV (fndE (treeE ls) k)), .bool (fndE (treeE ls) k).isSome]) ∧ Fr (fun _ => False) w w' := by
  have f0 : Fr (fun _ => False) w (((w.alloc (.cells #[.string k] 9)).alloc (.cells #[.string ⟨#[]⟩] 9)).alloc (.cells #[.bool false] 4)) := (((Fr.refl _ _).alloc _).alloc _).alloc _
  obtain ⟨hB3, hB4, hB5⟩ := three_at w (.cells #[.string k] 9) (.cells #[.string ⟨#[]⟩] 9) (.cells #[.bool false] 4) (Fr.refl _ _)
  have hsz : (((w.alloc (.cells #[.string k] 9)).alloc (.cells #[.string ⟨#[]⟩] 9)).alloc (.cells #[.bool false] 4)).heap.size = w.heap.size + 3 := by simp
  have HAL : Hid (∀ W, Fr (fun _ => False) w W → Calls Tryz.prog 28 #[.pointer tp] W fun e w' => e = .returned (.slice a n c) ∧ Fr (fun _ => False) W w') := hall
  have HLV : Hid (∀ W, Fr (fun _ => False) w W → Calls Tryz.prog 24 #[.slice a n c] W fun e w' => LvOut ls W e w') := fun W f => leaves_any a n c ls hn W (h.same f)
  have HSL : Hid (∀ W, Fr (fun _ => False) w W → Slots W a c ls) := fun W f => h.same f
  clear hall h hn
  refine (callsIn_wide (n := 0)).1 ?_
  refine callsIn_of_wp_marks Tryz.func12 rfl trivial ?_ rfl
  simp only [Tryz.ntmps12, List.size_toArray, List.length_cons, List.length_nil, Nat.reduceAdd, Nat.reduceSub, Array.replicate_succ, Array.replicate_zero, List.push_toArray, List.append_toArray, List.nil_append, List.cons_append]
  gi_wp2
  generalize ((w.alloc (.cells #[.string k] 9)).alloc (.cells #[.string ⟨#[]⟩] 9)).alloc (.cells #[.bool false] 4) = V0 at *
  refine ⟨trivial, rfl, (callsIn_wide.2 (HAL.out _ f0)).mono ?_⟩
  rintro e w1 ⟨rfl, f1⟩
  gi_wp2
  refine ⟨trivial, rfl, (callsIn_wide.2 (HLV.out _ (f0.seq' f1))).mono ?_⟩
  intro e w2 hlv
  obtain ⟨la, ln, lc, lb, rfl, _, hln, hsp, hkv, f2⟩ := lv_both hlv
  have hTE : treeE ls = lvE ((leavesF ls).getD []) := rfl
  generalize (leavesF ls).getD [] = sp at *
  clear hlv
  have HLN : Hid (ln = sp.length) := hln
  clear hln
  gi_wp2
  refine ⟨trivial, rfl, (callsIn_wide.2 (entsOf_call la ln lc _)).mono ?_⟩
  rintro e w' ⟨rfl, rfl⟩
  gi_wp2
  have fa := Fr.box w2 (.cells #[.slice la ln lc] 65)
  have hbl := heap_alloc_new w2 (.cells #[.slice la ln lc] 65)
  have hs2 : (w2.alloc (.cells #[.slice la ln lc] 65)).heap.size = w2.heap.size + 1 := by simp
  have F2 := (f1.seq' f2).seq' fa
  have hz2 := (f1.seq' f2).size
  have fV := f0.seq' F2
  have hv3 := F2.blk hB3 (fun f => f)
  have hv4 := F2.blk hB4 (fun f => f)
  have hv5 := F2.blk hB5 (fun f => f)
  have hsV := hsp.same fa
  generalize w2.alloc (.cells #[.slice la ln lc] 65) = V at *
  have hit := ent_iter la ln lc sp HLN.out (fun s hs => (hkv s hs).1) w2.heap.size (fun q => q < V.heap.size ∧ q ≠ w.heap.size + 1 ∧ q ≠ w.heap.size + 2) V ?S ?C
  case S =>
    intro W f
    refine hsV.on f (HSL.out _ (fV.trans f (fun i hi e => e ⟨by have := fV.size; omega, by omega, by omega⟩))) (fun s hs => (hkv s hs).2) (fun b off hne ha => ?_)
    have hlt : b < V.heap.size := by
      rcases hsV.at_ with h0 | ⟨b', off', e, hb, _⟩
      · exact absurd h0 hne
      · rw [ha] at e; cases e; exact hb
    exact ⟨hlt, hsV.wide hne ha hv4, hsV.wide hne ha hv5⟩
  case C => intro W f; exact (one_cells (f.blk hbl (fun e => e ⟨by omega, by omega, by omega⟩))).1
  refine over (gf := 46) (lb := #[.pointer (some ⟨w2.heap.size, 0, none⟩)]) rfl (enters_of Tryz.func46 (by kernel_rfl) rfl) hit (Fr.refl _ _) (fun _ => rfl)
    (fun _ q => q = w.heap.size + 1 ∨ q = w.heap.size + 2) (GtI w k (lvE sp)) (GtX w k (lvE sp)) ?st ?stx ?ol ?bk ?ap ?h0 ?round ?done ?stop
  case st => intro pre A B hI f; exact ⟨hI.pre_, hI.no, hI.fr.trans f (fun i hi e => by omega), f.blk hI.b3 (by omega), f.blk hI.b4 (by omega), f.blk hI.b5 (by omega)⟩
  case stx =>
    intro cd pre A B hX f
    obtain ⟨x, h1, h2⟩ := hX.hit
    exact ⟨hX.ret, hX.fr.trans f (fun i hi e => by omega), ⟨x, h1, f.blk h2 (by omega)⟩, f.blk hX.b5 (by omega)⟩
  case ol =>
    rintro pre A q hI (rfl | rfl)
    · exact lt_of_block hI.b4
    · exact lt_of_block hI.b5
  case bk => intro pre A B q _ _ h; exact h
  case ap => rintro pre A q _ (rfl | rfl) <;> exact ⟨by omega, by omega, by omega⟩
  case h0 => exact ⟨List.nil_prefix, rfl, fV, hv3, hv4, hv5⟩
  case round =>
    rintro pre ⟨x, y⟩ W hI hpx hz _
    dsimp only
    gi_wp2
    refine ⟨Fr.box W _, fun W2 f2 => ?_⟩
    have hbx := f2.blk (heap_alloc_new W (.cells #[.string x, .string y] 35)) (by omega)
    have FW : Fr (fun q => q = V.heap.size + 1) W W2 := ((Fr.box W (.cells #[.string x, .string y] 35)).widen (fun _ f => f.elim)).trans f2 (fun _ _ e => e)
    have hI2 : GtI w k (lvE sp) pre W2 := ⟨hI.pre_, hI.no, hI.fr.trans FW (fun i hi e => by omega), FW.blk hI.b3 (by omega), FW.blk hI.b4 (by omega), FW.blk hI.b5 (by omega)⟩
    obtain ⟨e0, e1⟩ := two_cells hbx
    obtain ⟨c0, _⟩ := one_cells hI2.b3
    obtain ⟨c1, c2⟩ := one_cells hI2.b4
    obtain ⟨d1, d2⟩ := one_cells hI2.b5
    have HPX : Hid (pre ++ [(x, y)] <+: lvE sp) := hpx
    have HFN : Hid (fndE (pre ++ [(x, y)]) k = if (x.toList == k.toList) = true then some (x, y) else none) := by
      show _ = _
      unfold fndE
      rw [List.find?_append, show List.find? (fun e => e.1.toList == k.toList) pre = none from hI.no, Option.none_or, List.find?_cons, List.find?_nil]
      cases (x.toList == k.toList) <;> rfl
    obtain ⟨b1, h1⟩ : ∃ b, b = (x.toList == k.toList) := ⟨_, rfl⟩
    rw [← h1] at HFN
    have e5 := h1.symm
    clear h1 hI hpx hbx
    cases b1
    · gi_wp2
      exact ⟨Fr.refl _ _, fun q h => .inl h, HPX.out, HFN.out, hI2.fr, hI2.b3, hI2.b4, hI2.b5⟩
    · have fs : Fr (fun q => q = w.heap.size + 1 ∨ q = w.heap.size + 2) W2 ((W2.setCell ⟨w.heap.size + 1, 0, none⟩ (.string y)).setCell ⟨w.heap.size + 2, 0, none⟩ (.bool true)) := ((Fr.refl (fun q => q = w.heap.size + 1 ∨ q = w.heap.size + 2) W2).setCell (p := ⟨w.heap.size + 1, 0, none⟩) (fun _ => .inl rfl) _).setCell (p := ⟨w.heap.size + 2, 0, none⟩) (fun _ => .inr rfl) _
      have hb4 := one_setCell hI2.b4 (.string y)
      have hb5 := one_setCell (((Fr.refl (fun q => q = w.heap.size + 1) W2).setCell (p := ⟨w.heap.size + 1, 0, none⟩) (fun _ => rfl) (.string y)).blk hI2.b5 (by omega)) (.bool true)
      have hb4' := ((Fr.refl (fun q => q = w.heap.size + 2) _).setCell (p := ⟨w.heap.size + 2, 0, none⟩) (fun _ => rfl) (.bool true)).blk hb4 (by omega)
      have HFL : Hid (fndE (lvE sp) k = some (x, y)) := by
        obtain ⟨r, hr⟩ := HPX.out
        have h9 := HFN.out
        rw [if_pos rfl] at h9
        show _ = _
        rw [← hr]
        unfold fndE at h9 ⊢
        rw [List.find?_append, h9]; rfl
      gi_wp2
      exact ⟨fs, rfl, hI2.fr.trans fs (fun i hi e => by omega), ⟨(x, y), HFL.out, hb4'⟩, hb5⟩
  case done =>
    rintro xs W rfl hI hK
    obtain ⟨c1, c2⟩ := one_cells hI.b4
    obtain ⟨d1, d2⟩ := one_cells hI.b5
    have fs : Fr (fun q => q = w.heap.size + 1 ∨ q = w.heap.size + 2) W ((W.setCell ⟨w.heap.size + 1, 0, none⟩ (.string ⟨#[]⟩)).setCell ⟨w.heap.size + 2, 0, none⟩ (.bool false)) := ((Fr.refl (fun q => q = w.heap.size + 1 ∨ q = w.heap.size + 2) W).setCell (p := ⟨w.heap.size + 1, 0, none⟩) (fun _ => .inl rfl) _).setCell (p := ⟨w.heap.size + 2, 0, none⟩) (fun _ => .inr rfl) _
    have hb4 := one_setCell hI.b4 (.string ⟨#[]⟩)
    have hb5 := one_setCell (((Fr.refl (fun q => q = w.heap.size + 1) W).setCell (p := ⟨w.heap.size + 1, 0, none⟩) (fun _ => rfl) (.string ⟨#[]⟩)).blk hI.b5 (by omega)) (.bool false)
    have hb4' := ((Fr.refl (fun q => q = w.heap.size + 2) _).setCell (p := ⟨w.heap.size + 2, 0, none⟩) (fun _ => rfl) (.bool false)).blk hb4 (by omega)
    have hK2 := fs.blk hK (by omega)
    have fp := Fr.put ((W.setCell ⟨w.heap.size + 1, 0, none⟩ (.string ⟨#[]⟩)).setCell ⟨w.heap.size + 2, 0, none⟩ (.bool false)) V.heap.size (.deferred none)
    have fE : Fr (fun _ => False) w (((W.setCell ⟨w.heap.size + 1, 0, none⟩ (.string ⟨#[]⟩)).setCell ⟨w.heap.size + 2, 0, none⟩ (.bool false)).putObj V.heap.size (.deferred none)) := (hI.fr.trans fs (fun i hi e => by omega)).trans fp (fun i hi e => by omega)
    obtain ⟨g0, _⟩ := one_cells (fp.blk hb4' (by omega))
    obtain ⟨g1, _⟩ := one_cells (fp.blk hb5 (by omega))
    have HNO : Hid (fndE (treeE ls) k = none) := by show _ = _; rw [hTE]; exact hI.no
    clear hs2
    gi_wp2
    refine ⟨by simp, .inl ⟨_, _, rfl, run_takeDeferred hK2, ?_⟩⟩
    generalize ((W.setCell ⟨w.heap.size + 1, 0, none⟩ (.string ⟨#[]⟩)).setCell ⟨w.heap.size + 2, 0, none⟩ (.bool false)).putObj V.heap.size (.deferred none) = Wf at *
    exact ⟨.tuple #[.string ⟨#[]⟩, .bool false], by simp [results, Tryz.results12, go_sem, g0, g1], by rw [HNO.out]; rfl, fE⟩
  case stop =>
    rintro cd pre W hX hK
    obtain rfl := hX.ret
    obtain ⟨x, hx, hb4⟩ := hX.hit
    have fp := Fr.put W V.heap.size (.deferred none)
    have fE := hX.fr.trans fp (S := fun _ => False) (fun i hi e => by omega)
    obtain ⟨g0, _⟩ := one_cells (fp.blk hb4 (by omega))
    obtain ⟨g1, _⟩ := one_cells (fp.blk hX.b5 (by omega))
    have HNO : Hid (fndE (treeE ls) k = some x) := by show _ = _; rw [hTE]; exact hx
    clear hs2
    gi_wp2
    refine ⟨by simp, .inl ⟨_, _, rfl, run_takeDeferred hK, ?_⟩⟩
    exact ⟨.tuple #[.string x.2, .bool true], by simp [results, Tryz.results12, go_sem, g0, g1], by rw [HNO.out]; rfl, fE⟩
end Go.Proofs.YtlnkbjjohdmihaaGreat
