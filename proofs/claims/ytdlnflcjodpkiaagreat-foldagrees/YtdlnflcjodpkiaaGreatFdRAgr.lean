
/- The document's own same and Agrees. -/
import Derived.Test.YtdlnflcjodpkiaaGreatFdAgr
import Derived.Test.YtdlnflcjodpkiaaGreatFdRBeh
namespace Go.Proofs.YtdlnflcjodpkiaaGreat
open Go.RowKit Go.Shelf

set_option maxRecDepth 100000 in
set_option maxHeartbeats 4000000 in
theorem rsame_any (r x : Rs) (a1 a2 : Option Addr) (n1 n2 c1 c2 : Nat) (h1 : n1 = r.ents.length) (h2 : n2 = x.ents.length) (w : World) (r1 : Ens w a1 c1 r.ents) (r2 : Ens w a2 c2 x.ents) :
    Calls Tryz.prog 62 #[.agg #[.bool r.found, .string r.val, .slice a1 n1 c1], .agg #[.bool x.found, .string x.val, .slice a2 n2 c2]] w fun e w' => e = .returned (.bool (sameB r x)) ∧ Fr (fun _ => False) w w' := by
  have l1 : n1 ≤ c1 := by rw [h1]; exact r1.le
  have m1 := r1.max
  have l2 : n2 ≤ c2 := by rw [h2]; exact r2.le
  have m2 := r2.max
  obtain ⟨B0, B1⟩ := two_new w (.cells #[.bool r.found, .string r.val, .slice a1 n1 c1] 37) (.cells #[.bool x.found, .string x.val, .slice a2 n2 c2] 37)
  have f0 : Fr (fun _ => False) w ((w.alloc (.cells #[.bool r.found, .string r.val, .slice a1 n1 c1] 37)).alloc (.cells #[.bool x.found, .string x.val, .slice a2 n2 c2] 37)) := ((Fr.refl _ _).alloc _).alloc _
  have HS1 : Hid (∀ W, Fr (fun _ => False) w W → Ens W a1 c1 r.ents) := fun W f => r1.same f
  have HS2 : Hid (∀ W, Fr (fun _ => False) w W → Ens W a2 c2 x.ents) := fun W f => r2.same f
  have HN1 : Hid (n1 = r.ents.length) := h1
  have HN2 : Hid (n2 = x.ents.length) := h2
  have HSB : Hid (sameB r x = ((r.found == x.found) && ((r.val.toList == x.val.toList) && decide (r.ents = x.ents)))) := rfl
  obtain ⟨bf, bv, L⟩ := r
  obtain ⟨xf, xv, M⟩ := x
  dsimp only at *
  clear r1 r2 h1 h2
  cases e1 : (bf == xf) with
  | false =>
    have HR : Hid (sameB ⟨bf, bv, L⟩ ⟨xf, xv, M⟩ = false) := by show _ = _; rw [HSB.out, e1]; rfl
    have e1' : decide (bf = xf) = false := by rw [← e1]; cases bf <;> cases xf <;> rfl
    have e1'' : (bf != xf) = true := by simp [bne, e1]
    go_enter Tryz.func62, Tryz.ntmps62
    go_wp2
    go_ret
    exact ⟨ret_bool HR.out.symm, f0⟩
  | true =>
    have e1' : decide (bf = xf) = true := by rw [← e1]; cases bf <;> cases xf <;> rfl
    have e1'' : (bf != xf) = false := by simp [bne, e1]
    cases e2 : (bv.toList == xv.toList) with
    | false =>
      have HR : Hid (sameB ⟨bf, bv, L⟩ ⟨xf, xv, M⟩ = false) := by show _ = _; rw [HSB.out, e1, e2]; rfl
      go_enter Tryz.func62, Tryz.ntmps62
      go_wp2
      go_ret
      exact ⟨ret_bool HR.out.symm, f0⟩
    | true =>
      by_cases hnn : n1 = n2
      · subst hnn
        go_enter Tryz.func62, Tryz.ntmps62
        go_wp2
        generalize (w.alloc (.cells #[.bool bf, .string bv, .slice a1 n1 c1] 37)).alloc (.cells #[.bool xf, .string xv, .slice a2 n1 c2] 37) = V at *
        have HB0 : Hid (∀ W, Fr (fun _ => False) V W → W.heap[w.heap.size + 1]? = some (.cells #[.bool xf, .string xv, .slice a2 n1 c2] 37 (0, 0))) := fun W f => f.blk B1 (fun f => f)
        have HF0 : Hid (Fr (fun _ => False) w V) := f0
        clear B0 B1 f0
        go_loopw [31] (fun i wr => ∃ k : Nat, k ≤ n1 ∧ i = .int .i64 k ∧ Hid (L.take k = M.take k) ∧ Fr (fun _ => False) V wr) (fun i _ => n1 - (intOf i).toNat)
        case atStart => exact ⟨0, by omega, rfl, rfl, Fr.refl _ _⟩
        case round =>
          obtain ⟨k, hk, rfl, HE, F⟩ := hrel
          by_cases hlt : k < n1
          · obtain ⟨g1, o1, e1, hb1, hc1⟩ := (HS1.out _ (HF0.out.seq' F)).some (by have := HN1.out; omega)
            obtain ⟨g2, o2, e2, hb2, hc2⟩ := (HS2.out _ (HF0.out.seq' F)).some (by have := HN2.out; omega)
            obtain ⟨⟨x, y⟩, hx⟩ : ∃ e, L[k]? = some e := ⟨_, List.getElem?_eq_getElem (by have := HN1.out; omega)⟩
            obtain ⟨⟨x', y'⟩, hx'⟩ : ∃ e, M[k]? = some e := ⟨_, List.getElem?_eq_getElem (by have := HN2.out; omega)⟩
            obtain ⟨k1, k2⟩ := hc1 k _ hx
            obtain ⟨k3, k4⟩ := hc2 k _ hx'
            dsimp only at k1 k2 k3 k4
            have HY : Hid (((x, y) : En) = (x', y') → L.take (k + 1) = M.take (k + 1)) := fun h => by show _ = _; rw [take_snocH hx, take_snocH hx', HE.out, h]
            have HNO : Hid (((x, y) : En) ≠ (x', y') → sameB ⟨bf, bv, L⟩ ⟨xf, xv, M⟩ = false) := fun h => by rw [HSB.out, decide_eq_false (en_inj hx hx' h)]; simp
            have hnq := fun W => neq_ent2 x y x' y' W
            obtain ⟨⟨_, _, t2⟩, _⟩ := three_cells (HB0.out _ F)
            have htz := lt_of_block (HB0.out _ F)
            have FB : Fr (fun _ => False) V (wr.alloc (.cells #[.string x, .string y] 77)) := F.alloc _
            clear hx hx' hc1 hc2
            subst e1 e2
            have i1 : (k : Int) < (n1 : Int) := by omega
            by_cases hxy : ((x, y) : En) = (x', y')
            · have hd : decide (((x, y) : En) ≠ (x', y')) = false := decide_eq_false (fun h => h hxy)
              rw [hd] at hnq
              have HY2 : Hid (L.take (k + 1) = M.take (k + 1)) := HY.out hxy
              clear HY HNO hxy hd
              go_wp2
              go_quiet (fail)
              go_wp2
              go_roundw
              case rel => exact ⟨k + 1, by omega, by go_num, HY2, FB.drewN _⟩
              case measure => simp [intOf]; omega
            · have hd : decide (((x, y) : En) ≠ (x', y')) = true := decide_eq_true hxy
              rw [hd] at hnq
              have HF : Hid (sameB ⟨bf, bv, L⟩ ⟨xf, xv, M⟩ = false) := HNO.out hxy
              clear HY HNO hxy hd
              go_wp2
              go_quiet (fail)
              go_wp2
              go_ret
              exact ⟨ret_bool HF.out.symm, HF0.out.seq' (FB.drewN _)⟩
          · obtain rfl : k = n1 := by omega
            have HT : Hid (sameB ⟨bf, bv, L⟩ ⟨xf, xv, M⟩ = true) := by
              show _ = _
              have := HE.out
              rw [List.take_of_length_le (by have := HN1.out; omega), List.take_of_length_le (by have := HN2.out; omega)] at this
              rw [HSB.out, decide_eq_true this, e1, e2]; rfl
            go_wp2
            go_ret
            exact ⟨ret_bool HT.out.symm, HF0.out.seq' F⟩
      · have HR : Hid (sameB ⟨bf, bv, L⟩ ⟨xf, xv, M⟩ = false) := by
          show _ = _
          rw [HSB.out, decide_eq_false (fun h => hnn (by rw [HN1.out, HN2.out, h]))]; simp
        have hnn' : ((n1 : Int) != (n2 : Int)) = true := by simp; omega
        clear hnn
        go_enter Tryz.func62, Tryz.ntmps62
        go_wp2
        go_ret
        exact ⟨ret_bool HR.out.symm, f0⟩
end Go.Proofs.YtdlnflcjodpkiaaGreat
