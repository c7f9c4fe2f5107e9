
/- slices.Values of entries; what an operation gives of the entries of an iterator. -/
import Derived.Test.YtdlnflcjodpkiaaGreatFdOp
namespace Go.Proofs.YtdlnflcjodpkiaaGreat
open Go.RowKit Go.Shelf
attribute [local go_sem] Oper.semAt_some

abbrev enE (s : En) : Array Value := #[.agg #[.string s.1, .string s.2]]
theorem values_call (a : Option Addr) (n c : Nat) (w : World) : Calls Tryz.prog 49 #[.slice a n c] w fun e w' => e = .returned (.func (.func 80) #[] #[.pointer (some ⟨w.heap.size, 0, none⟩)]) ∧ w' = w.alloc (.cells #[.slice a n c] 24) := by
  go_enter Tryz.func49, Tryz.ntmps49
  go_wp2
  go_ret
  exact ⟨rfl, rfl⟩
theorem rising_call (b : Nat) (w : World) : Calls Tryz.prog 40 #[.map (some b)] w fun e w' => e = .returned (.func (.func 71) #[] #[.pointer (some ⟨w.heap.size, 0, none⟩)]) ∧ w' = w.alloc (.cells #[.map (some b)] 79) := by
  go_enter Tryz.func40, Tryz.ntmps40
  go_wp2
  go_ret
  exact ⟨rfl, rfl⟩
set_option maxRecDepth 100000 in
set_option maxHeartbeats 4000000 in
theorem values_iter (a : Option Addr) (n c : Nat) (L : List En) (hn : n = L.length) (Bl : Nat) (R : Nat → Prop) (w : World)
    (hS : ∀ W, Fr (fun k => ¬ R k) w W → Ens W a c L) (hcl : ∀ W, Fr (fun k => ¬ R k) w W → W.cell? ⟨Bl, 0, none⟩ = some (.slice a n c)) :
    Iter Tryz.prog 80 #[.pointer (some ⟨Bl, 0, none⟩)] enE R (fun pre x _ => pre ++ [x] <+: L) (fun xs => xs = L) w := by
  intro l T J Jx W hW hT hJx hY h0
  have hle : n ≤ c := by rw [hn]; exact (hS W hW).le
  have hmx := (hS W hW).max
  have HN : Hid (n = L.length) := hn
  have HS : Hid (∀ W, Fr (fun k => ¬ R k) w W → Ens W a c L) := hS
  have HT : Hid (Tend R T J) := hT
  have HY : Hid (∀ pre x W1, J pre W1 → pre ++ [x] <+: L → YieldAt Fence.wide 0 Tryz.prog l #[.agg #[.string x.1, .string x.2]] W1 fun e W' => (e = .returned (.bool true) ∧ J (pre ++ [x]) W' ∧ Fr (T W1) W1 W' ∧ ∀ k, T W' k → T W1 k ∨ W1.heap.size ≤ k) ∨ (e = .returned (.bool false) ∧ Jx (pre ++ [x]) W')) := hY
  have HJ0 : Hid (J [] W) := h0
  have HW : Hid (Fr (fun k => ¬ R k) w W) := hW
  have c2 := hcl W hW
  clear hS hcl hT hJx hY h0 hn hW
  refine callsIn_of_wp Tryz.func80 rfl trivial ?_ rfl
  simp only [Tryz.ntmps80, List.size_toArray, List.length_cons, List.length_nil, Nat.reduceAdd, Nat.reduceSub, Array.replicate_succ, Array.replicate_zero, List.push_toArray, List.append_toArray, List.nil_append, List.cons_append]
  gi_wp2
  gi_loopw [7] (fun i wr => ∃ (k : Nat) (pre : List En), k ≤ n ∧ i = .int .i64 k ∧ Hid (pre = L.take k) ∧ Hid (J pre wr) ∧ Fr (fun k => ¬ R k) w wr) (fun i _ => n - (intOf i).toNat)
  case atStart => exact ⟨0, [], by omega, rfl, rfl, HJ0, HW.out⟩
  case round =>
    obtain ⟨k, pre, hk, rfl, HE, HJ, F⟩ := hrel
    by_cases hlt : k < n
    · obtain ⟨⟨x, y⟩, hs⟩ : ∃ s, L[k]? = some s := ⟨_, List.getElem?_eq_getElem (by have := HN.out; omega)⟩
      obtain ⟨b, off, rfl, hb, hc⟩ := (HS.out _ F).some (by have := HN.out; omega)
      obtain ⟨q0, q1⟩ := hc k _ hs
      dsimp only at q0 q1
      have hki : (k : Int) < (n : Int) := by omega
      have HE2 : Hid (pre ++ [(x, y)] = L.take (k + 1)) := by show _ = _; rw [take_snocH hs, HE.out]
      have HJ1 : Hid (J pre (wr.alloc (.cells #[.string x, .string y] 77))) := HT.out.steady _ _ _ HJ.out (Fr.box wr _)
      have F1 : Fr (fun k => ¬ R k) w (wr.alloc (.cells #[.string x, .string y] 77)) := F.trans (Fr.box wr _) (fun _ _ f => f.elim)
      obtain ⟨fn, tmps, assign, body, hyr, hR⟩ := HY.out pre (x, y) _ HJ1.out ⟨L.drop (k + 1), by rw [HE2.out]; exact List.take_append_drop _ _⟩
      dsimp only at hyr
      clear hs hc HE
      gi_wp2
      refine ⟨rfl, hR.mono ?_⟩
      rintro e W3 (⟨rfl, hJ4, hk4, hg4⟩ | ⟨rfl, hJx4⟩)
      · have HJ4 : Hid (J (pre ++ [(x, y)]) W3) := hJ4
        have G4 : Fr (fun k => ¬ R k) w W3 := F1.trans hk4 (fun i _ e => HT.out.apart _ _ _ HJ1.out e)
        clear hJ4 hk4 hg4 hR hyr
        gi_wp2
        go_roundw
        case rel => exact ⟨k + 1, pre ++ [(x, y)], by omega, by go_num, HE2, HJ4, G4⟩
        case measure => simp [intOf]; omega
      · gi_wp2
        refine bodyPost_ret (results_none rfl _ _ _) rfl ?_
        exact ⟨⟨_, rfl⟩, .inr ⟨_, hJx4⟩⟩
    · have HS0 : Hid (pre = L) := by
        show _ = _
        rw [HE.out, List.take_of_length_le (by have := HN.out; omega)]
      gi_wp2
      go_end0
      exact ⟨⟨_, rfl⟩, .inl ⟨pre, HS0.out, HJ.out⟩⟩
end Go.Proofs.YtdlnflcjodpkiaaGreat
