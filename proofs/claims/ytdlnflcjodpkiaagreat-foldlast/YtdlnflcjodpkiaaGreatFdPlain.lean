
/- The plain comparisons of rows and results that are the same. -/
import Derived.Test.YtdlnflcjodpkiaaGreatFdAns2
import Derived.Laws.StructEq
import Derived.Deep.QuietTactic
import Derived.BigQuiet
namespace Go.Proofs.YtdlnflcjodpkiaaGreat
open Go.RowKit Go.Shelf

set_option maxRecDepth 100000 in
set_option maxHeartbeats 2000000 in
theorem plain_recs (a1 a2 : Option Addr) (n1 n2 c1 c2 : Nat) (ms : List Rec) (h1 : n1 = ms.length) (h2 : n2 = ms.length) (w : World) (m1 : Recs w a1 c1 ms) (m2 : Recs w a2 c2 ms) :
    Calls Tryz.prog 16 #[.slice a1 n1 c1, .slice a2 n2 c2] w fun e w' => e = .returned (.bool true) ∧ Fr (fun _ => False) w w' := by
  subst h1
  subst h2
  have hl1 := m1.le
  have hm1 := m1.max
  have hl2 := m2.le
  have hm2 := m2.max
  by_cases h0 : ms.length = 0
  · rw [h0]
    clear h0
    go_enter Tryz.func16, Tryz.ntmps16
    go_wp2
    refine wp_loop_rounds 1 ?_
    rw [rounds_succ]
    go_wp2
    go_ret
    exact ⟨rfl, Fr.refl _ _⟩
  · obtain ⟨b1, o1, rfl, hb1, k1⟩ : ∃ b off, a1 = some ⟨b, off, none⟩ ∧ b < w.heap.size ∧ ∀ (i : Nat) m, ms[i]? = some m → w.rangeAt b (off + i * 8) (recC m) := by
      rcases m1.at_ with e | e
      · rw [e] at h0; simp at h0
      · exact e
    obtain ⟨b2, o2, rfl, hb2, k2⟩ : ∃ b off, a2 = some ⟨b, off, none⟩ ∧ b < w.heap.size ∧ ∀ (i : Nat) m, ms[i]? = some m → w.rangeAt b (off + i * 8) (recC m) := by
      rcases m2.at_ with e | e
      · rw [e] at h0; simp at h0
      · exact e
    have K1 : Hid (∀ (i : Nat) m, ms[i]? = some m → w.rangeAt b1 (o1 + i * 8) (recC m)) := k1
    have K2 : Hid (∀ (i : Nat) m, ms[i]? = some m → w.rangeAt b2 (o2 + i * 8) (recC m)) := k2
    clear k1 k2 m1 m2 h0
    go_enter Tryz.func16, Tryz.ntmps16
    go_wp2
    go_loopw [13] (fun i wr => ∃ k q : Nat, k ≤ ms.length ∧ i = .int .i64 k ∧ wr = w.drewN q) (fun i _ => ms.length - (intOf i).toNat)
    case atStart => exact ⟨0, 0, by omega, rfl, rfl⟩
    case round =>
      obtain ⟨k, q, hk, rfl, rfl⟩ := hrel
      by_cases hlt : k < ms.length
      · obtain ⟨m, hm⟩ : ∃ m, ms[k]? = some m := ⟨_, List.getElem?_eq_getElem hlt⟩
        obtain ⟨x0, x1, x2, x3, x4, x5, x6, x7⟩ := rec_range (K1.out k m hm)
        obtain ⟨y0, y1, y2, y3, y4, y5, y6, y7⟩ := rec_range (K2.out k m hm)
        clear hm
        go_wp2
        go_quiet (fail)
        go_wp2
        exact ⟨⟨k + 1, _, by omega, by go_num, rfl⟩, by simp [intOf]; omega⟩
      · go_wp2
        go_ret
        exact ⟨rfl, Fr.drewN (Fr.refl _ _) _⟩
theorem neq_ent (x y : ByteArray) (w : World) : (binOp .neq 77 (.agg #[.string x, .string y]) (.agg #[.string x, .string y])).run Tryz.prog w = .ok (.bool false) w := by
  have hf : Tryz.prog.stoodInHeld 77 = false := by kernel_rfl
  have hu : Tryz.prog.underlying 77 = some (.struct (Tryz.prog.fieldsOf 77)) := by kernel_rfl
  rw [run_neq_struct, run_equalIn_struct _ _ _ _ _ hu hf]
  simp [Op.eqFields, go_sem]
set_option maxRecDepth 100000 in
set_option maxHeartbeats 2000000 in
theorem ents_same (a1 a2 : Option Addr) (n1 n2 c1 c2 : Nat) (l : List (ByteArray × ByteArray)) (h1 : n1 = l.length) (h2 : n2 = l.length) (w : World) (r1 : Ens w a1 c1 l) (r2 : Ens w a2 c2 l) :
    Calls Tryz.prog 19 #[.slice a1 n1 c1, .slice a2 n2 c2] w fun e w' => e = .returned (.bool true) ∧ Fr (fun _ => False) w w' := by
  subst h1
  have e2 : l.length = n2 := h2.symm
  subst e2
  have l1 := r1.le
  have m1 := r1.max
  have l2 := r2.le
  have m2 := r2.max
  have q1 : Tryz.prog.stoodInHeld 77 = false := by kernel_rfl
  have q2 : Tryz.prog.underlying 77 = some (.struct (Tryz.prog.fieldsOf 77)) := by kernel_rfl
  go_enter Tryz.func19, Tryz.ntmps19
  go_wp2
  go_loopw [13] (fun i wr => ∃ k : Nat, k ≤ l.length ∧ i = .int .i64 k ∧ Fr (fun _ => False) w wr) (fun i _ => l.length - (intOf i).toNat)
  case atStart => exact ⟨0, by omega, rfl, Fr.refl _ _⟩
  case round =>
    obtain ⟨k, hk, rfl, hf⟩ := hrel
    by_cases hlt : k < l.length
    · obtain ⟨g1, o1, e1, hb1, hc1⟩ := (r1.same hf).some (by omega)
      obtain ⟨g2, o2, e2, hb2, hc2⟩ := (r2.same hf).some (by omega)
      obtain ⟨⟨x, y⟩, hx⟩ : ∃ e, l[k]? = some e := ⟨_, List.getElem?_eq_getElem hlt⟩
      obtain ⟨k1, k2⟩ := hc1 k _ hx
      obtain ⟨k3, k4⟩ := hc2 k _ hx
      clear hx hc1 hc2
      subst e1 e2
      have i1 : (k : Int) < (l.length : Int) := by omega
      have hbe : (x.toList == x.toList) = true := by simp
      have hby : (y.toList == y.toList) = true := by simp
      go_wp2
      have hnq := fun W => neq_ent x y W
      go_quiet (fail)
      go_wp2
      go_roundw
      case rel => exact ⟨k + 1, by omega, by go_num, hf.drewN _⟩
      case measure => simp [intOf]; omega
    · go_wp2
      go_ret
      exact ⟨rfl, hf⟩
set_option maxRecDepth 100000 in
set_option maxHeartbeats 2000000 in
theorem res_same (f : Bool) (v : ByteArray) (a1 a2 : Option Addr) (n1 n2 c1 c2 : Nat) (l : List En) (h1 : n1 = l.length) (h2 : n2 = l.length) (w : World) (r1 : Ens w a1 c1 l) (r2 : Ens w a2 c2 l) :
    Calls Tryz.prog 22 #[.agg #[.bool f, .string v, .slice a1 n1 c1], .agg #[.bool f, .string v, .slice a2 n2 c2]] w fun e w' => e = .returned (.bool true) ∧ Fr (fun _ => False) w w' := by
  have f0 : Fr (fun _ => False) w ((w.alloc (.cells #[.bool f, .string v, .slice a1 n1 c1] 37)).alloc (.cells #[.bool f, .string v, .slice a2 n2 c2] 37)) := ((Fr.refl _ _).alloc _).alloc _
  have he := ents_same a1 a2 n1 n2 c1 c2 l h1 h2 _ (r1.same f0) (r2.same f0)
  have hbe : (v.toList == v.toList) = true := by simp
  clear r1 r2 h1 h2
  go_enter Tryz.func22, Tryz.ntmps22
  go_wp2_with fail
  refine he.mono ?_
  rintro e w1 ⟨rfl, f1⟩
  clear he
  go_wp2
  go_ret
  exact ⟨rfl, f0.seq' f1⟩
end Go.Proofs.YtdlnflcjodpkiaaGreat
